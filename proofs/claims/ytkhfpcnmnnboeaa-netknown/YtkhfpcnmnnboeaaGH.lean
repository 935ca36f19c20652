/- Arguments as a row hands them: slices of numbers, edges, links, neighbours, records; graphs. -/
import Derived.Test.YtkhfpcnmnnboeaaGF
import Derived.OpenShut
import Derived.Deep.Slices
import Derived.Deep.Strs
import Derived.SizedLaws
import Derived.Lib.SmallJoins
namespace Go.Proofs.Ytkhfpcnmnnboeaa
open Go.ChangeShapes Go.WideShapes Go.ChangeAt Go.RowKit

section
variable {H : Type} {enc : TypeId × Value → H} {W : World}

/-- A slice opened: the things that lie there, each with what is known of it. -/
theorem open_sl {α : Type} (dflt : α) {cs : α → List Value} {sz : Nat} {T E : TypeId} {G : α → Prop} (hcs : ∀ x, (cs x).length = sz) (hsz : 0 < sz) (hu : Try.prog.underlying T = some (.slice E)) (hc : Try.prog.cellsOf E = sz)
    (hE : ∀ n cs' x, DataW.trod enc Try.prog W 0 (fun _ => true) true n E cs' = some x → ∃ y : α, cs' = cs y ∧ G y) {fuel : Nat} {v : Value} {x : DataW H × List MemPlace} (h : DataW.trod enc Try.prog W 0 (fun _ => true) true fuel T [v] = some x) :
    ∃ l : List α, SlAt cs sz W v l ∧ NilOk v ∧ (∀ y ∈ l, G y) ∧ (l = [] ∨ ∃ elems spare, x.1 = .slice elems spare ∧ elems.length = l.length) := by
  rcases Deep.open_slice hu h with ⟨h0, _⟩ | ⟨ad, len, cap, m, n, D, Pl, h0, _, hl, hm, hmm, hxx, hx⟩
  · simp at h0
    subst h0
    exact ⟨[], ⟨none, 0, rfl, by simp, by simp, fun h => by simp at h⟩, .inr rfl, by simp, .inl rfl⟩
  · simp at h0
    subst h0
    simp only [if_true] at hmm
    subst hmm
    rw [hc] at hx
    have hv : ∀ i, i < m → ∃ y : α, G y ∧ ∀ j, j < sz → ∃ u, (cs y)[j]? = some u ∧ W.cell? ((ad.add (i * sz)).add j) = some u := by
      intro i hi
      obtain ⟨cs', h1, h2⟩ := hx i hi
      obtain ⟨y, rfl, hG⟩ := hE n cs' _ h2
      obtain ⟨_, _, hcell⟩ := World.cells?_some h1
      refine ⟨y, hG, fun j hj => ⟨(cs y)[j]'(by rw [hcs]; exact hj), List.getElem?_eq_getElem _, ?_⟩⟩
      rw [hcell j hj, List.getElem?_eq_getElem (by rw [hcs]; exact hj)]
    obtain ⟨X, hX⟩ : ∃ X : Nat → α, ∀ i, i < m → G (X i) ∧ ∀ j, j < sz → ∃ u, (cs (X i))[j]? = some u ∧ W.cell? ((ad.add (i * sz)).add j) = some u := ⟨fun i => if hi : i < m then Classical.choose (hv i hi) else dflt, fun i hi => by simp only [hi, dif_pos]; exact Classical.choose_spec (hv i hi)⟩
    have hlen : ((List.range len).map X).length = len := by simp
    refine ⟨(List.range len).map X, ⟨some ad, m, by rw [hlen], by rw [hlen]; unfold maxLen at hm; omega, by rw [hlen]; exact hl, fun h0 => ?_⟩, .inl ⟨_, _, _, rfl⟩, fun y hy => ?_, .inr ⟨(List.range len).map D, _, by rw [hxx], by simp⟩⟩
    · rw [hlen] at h0
      obtain ⟨u, _, h3⟩ := (hX 0 (by omega)).2 0 hsz
      obtain ⟨b, off, spot⟩ := ad
      have hspot : spot = none := by simpa [Addr.add] using World.cell?_spot h3
      subst hspot
      refine ⟨b, off, rfl, block_lt_of_cell (a := ⟨b, off, none⟩) (by simpa [Addr.add] using h3), fun j y hj i u hu => ?_⟩
      have hjl := (List.getElem?_eq_some_iff.1 hj).1
      rw [hlen] at hjl
      rw [List.getElem?_map, List.getElem?_range hjl] at hj
      simp at hj
      subst hj
      have hi : i < sz := by have := (List.getElem?_eq_some_iff.1 hu).1; rwa [hcs] at this
      obtain ⟨u', h5, h6⟩ := (hX j (by omega)).2 i hi
      rw [hu] at h5
      cases h5
      rw [Addr.add_mid, Addr.add_mid] at h6
      exact h6
    · obtain ⟨i, hi, rfl⟩ := List.mem_map.1 hy
      exact (hX i (by simp at hi; omega)).1
theorem cInt : Try.prog.cellsOf 3 = 1 := by kernel_rfl
theorem cU32 : Try.prog.cellsOf 162 = 1 := by kernel_rfl
theorem cBool : Try.prog.cellsOf 4 = 1 := by kernel_rfl
theorem cEdge : Try.prog.cellsOf 64 = 3 := by kernel_rfl
theorem cAdj : Try.prog.cellsOf 68 = 2 := by kernel_rfl
theorem cAdjs : Try.prog.cellsOf 60 = 1 := by kernel_rfl
theorem cLink : Try.prog.cellsOf 52 = 3 := by kernel_rfl
theorem cGraph : Try.prog.cellsOf 57 = 2 := by kernel_rfl
set_option maxRecDepth 100000 in
theorem int_cells {n : Nat} {cs' : List Value} {x : DataW H × List MemPlace} (h : DataW.trod enc Try.prog W 0 (fun _ => true) true n 3 cs' = some x) : ∃ y : Int, cs' = ic y ∧ True := by
  obtain ⟨y, hy, _⟩ := DataW.trod_int Try.underlying3 h
  exact ⟨y, hy, trivial⟩
theorem edgeF : Try.prog.underlying 64 = some (.struct #[(Try.prog.fieldsOf 64)[0]!, (Try.prog.fieldsOf 64)[1]!, (Try.prog.fieldsOf 64)[2]!]) := by kernel_rfl
theorem edgeF' : (((Try.prog.fieldsOf 64)[0]!).type = 3 ∧ ((Try.prog.fieldsOf 64)[0]!).offset = 0) ∧ (((Try.prog.fieldsOf 64)[1]!).type = 3 ∧ ((Try.prog.fieldsOf 64)[1]!).offset = 1) ∧ ((Try.prog.fieldsOf 64)[2]!).type = 3 ∧ ((Try.prog.fieldsOf 64)[2]!).offset = 2 := ⟨⟨by kernel_rfl, by kernel_rfl⟩, ⟨by kernel_rfl, by kernel_rfl⟩, by kernel_rfl, by kernel_rfl⟩
set_option maxRecDepth 100000 in
theorem edge_cells {n : Nat} {cs' : List Value} {x : DataW H × List MemPlace} (h : DataW.trod enc Try.prog W 0 (fun _ => true) true n 64 cs' = some x) : ∃ y : Ed, cs' = ec y ∧ True := by
  obtain ⟨y0, y1, y2, k, _, hlen, h0, h1, h2⟩ := Deep.trod_struct3 edgeF h
  obtain ⟨⟨a0, b0⟩, ⟨a1, b1⟩, a2, b2⟩ := edgeF'
  rw [cEdge] at hlen
  match cs', hlen with
  | [v0, v1, v2], _ =>
    rw [a0, b0, cInt] at h0
    rw [a1, b1, cInt] at h1
    rw [a2, b2, cInt] at h2
    obtain ⟨p, hp, _⟩ := DataW.trod_int Try.underlying3 h0
    obtain ⟨q, hq, _⟩ := DataW.trod_int Try.underlying3 h1
    obtain ⟨r, hr, _⟩ := DataW.trod_int Try.underlying3 h2
    simp at hp hq hr
    exact ⟨(p, q, r), by rw [hp, hq, hr], trivial⟩
theorem linkF : Try.prog.underlying 52 = some (.struct #[(Try.prog.fieldsOf 52)[0]!, (Try.prog.fieldsOf 52)[1]!, (Try.prog.fieldsOf 52)[2]!]) := by kernel_rfl
theorem linkF' : (((Try.prog.fieldsOf 52)[0]!).type = 3 ∧ ((Try.prog.fieldsOf 52)[0]!).offset = 0) ∧ (((Try.prog.fieldsOf 52)[1]!).type = 3 ∧ ((Try.prog.fieldsOf 52)[1]!).offset = 1) ∧ ((Try.prog.fieldsOf 52)[2]!).type = 3 ∧ ((Try.prog.fieldsOf 52)[2]!).offset = 2 := ⟨⟨by kernel_rfl, by kernel_rfl⟩, ⟨by kernel_rfl, by kernel_rfl⟩, by kernel_rfl, by kernel_rfl⟩
set_option maxRecDepth 100000 in
theorem link_cells {n : Nat} {cs' : List Value} {x : DataW H × List MemPlace} (h : DataW.trod enc Try.prog W 0 (fun _ => true) true n 52 cs' = some x) : ∃ y : Ed, cs' = ec y ∧ True := by
  obtain ⟨y0, y1, y2, k, _, hlen, h0, h1, h2⟩ := Deep.trod_struct3 linkF h
  obtain ⟨⟨a0, b0⟩, ⟨a1, b1⟩, a2, b2⟩ := linkF'
  rw [cLink] at hlen
  match cs', hlen with
  | [v0, v1, v2], _ =>
    rw [a0, b0, cInt] at h0
    rw [a1, b1, cInt] at h1
    rw [a2, b2, cInt] at h2
    obtain ⟨p, hp, _⟩ := DataW.trod_int Try.underlying3 h0
    obtain ⟨q, hq, _⟩ := DataW.trod_int Try.underlying3 h1
    obtain ⟨r, hr, _⟩ := DataW.trod_int Try.underlying3 h2
    simp at hp hq hr
    exact ⟨(p, q, r), by rw [hp, hq, hr], trivial⟩
theorem adjF : Try.prog.underlying 68 = some (.struct #[(Try.prog.fieldsOf 68)[0]!, (Try.prog.fieldsOf 68)[1]!]) := by kernel_rfl
theorem adjF' : (((Try.prog.fieldsOf 68)[0]!).type = 3 ∧ ((Try.prog.fieldsOf 68)[0]!).offset = 0) ∧ ((Try.prog.fieldsOf 68)[1]!).type = 3 ∧ ((Try.prog.fieldsOf 68)[1]!).offset = 1 := ⟨⟨by kernel_rfl, by kernel_rfl⟩, by kernel_rfl, by kernel_rfl⟩
set_option maxRecDepth 100000 in
theorem adj_cells {n : Nat} {cs' : List Value} {x : DataW H × List MemPlace} (h : DataW.trod enc Try.prog W 0 (fun _ => true) true n 68 cs' = some x) : ∃ y : Int × Int, cs' = ac y ∧ True := by
  obtain ⟨y0, y1, k, _, hlen, h0, h1⟩ := trod_struct2 adjF h
  obtain ⟨⟨a0, b0⟩, a1, b1⟩ := adjF'
  rw [cAdj] at hlen
  match cs', hlen with
  | [v0, v1], _ =>
    rw [a0, b0, cInt] at h0
    rw [a1, b1, cInt] at h1
    obtain ⟨p, hp, _⟩ := DataW.trod_int Try.underlying3 h0
    obtain ⟨q, hq, _⟩ := DataW.trod_int Try.underlying3 h1
    simp at hp hq
    exact ⟨(p, q), by rw [hp, hq], trivial⟩
/-- What is known of a record: its neighbours lie there. -/
def RecG (W : World) (y : Rc × Value) : Prop := SlAt ac 2 W y.2 y.1.adjs ∧ NilOk y.2 ∧ 0 ≤ y.1.epoch ∧ 0 ≤ y.1.seq
theorem bInt : Try.prog.bytesOf 3 = 8 := by kernel_rfl
theorem bEdge : Try.prog.bytesOf 64 = 24 := by kernel_rfl
theorem bLink : Try.prog.bytesOf 52 = 24 := by kernel_rfl
theorem slice_weight {T E : TypeId} {b k : Nat} (hu : Try.prog.underlying T = some (.slice E)) (hb : Try.prog.bytesOf E = b) (hb0 : b ≤ 4096) {d : DataW H} (hw : ∀ n ∈ d.weights Try.prog T, n ≤ reachBytes) (h : k = 0 ∨ ∃ elems spare, d = .slice elems spare ∧ elems.length = k) : (k + 1) * b ≤ 140737488355328 := by
  rcases h with rfl | ⟨elems, spare, rfl, rfl⟩
  · omega
  · have h1 := hw ((elems.length + spare.length) * Try.prog.bytesOf E) (by simp [DataW.weights, hu])
    rw [hb] at h1
    unfold reachBytes at h1
    have h2 : elems.length * b ≤ (elems.length + spare.length) * b := Nat.mul_le_mul_right _ (by omega)
    rw [Nat.succ_mul]
    omega
theorem graphF : Try.prog.underlying 57 = some (.struct #[(Try.prog.fieldsOf 57)[0]!, (Try.prog.fieldsOf 57)[1]!]) := by kernel_rfl
theorem graphF' : ((Try.prog.fieldsOf 57)[0]!).type = 27 ∧ ((Try.prog.fieldsOf 57)[1]!).type = 55 := ⟨by kernel_rfl, by kernel_rfl⟩
set_option maxRecDepth 100000 in
/-- A graph as an argument. -/
theorem graph_arg {r : Reach} {b0 : Nat} {v : Value} {d : DataW H} {p : List MemPlace} (hv : Value.okWide Try.prog W r b0 57 v) (h : DataW.Trod enc Try.prog W 0 (fun _ => true) true 57 v d p) (hw : ∀ n ∈ d.weights Try.prog 57, n ≤ reachBytes) :
    ∃ vn ve ns es, v = grV vn ve ∧ GrAt W vn ve ns es ∧ NilOk vn ∧ NilOk ve ∧ (ns.length + 1) * 8 ≤ 140737488355328 ∧ (es.length + 1) * 24 ≤ 140737488355328 := by
  obtain ⟨vn, ve, y0, y1, m, rfl, rfl, rfl, h0, h1⟩ := Joins.open_agg2 graphF (by kernel_rfl) cGraph hv h
  rw [graphF'.1] at h0
  rw [graphF'.2] at h1
  have hw' : ∀ n, n ∈ y0.1.weights Try.prog 27 ∨ n ∈ y1.1.weights Try.prog 55 → n ≤ reachBytes := fun n hn => hw n (by
    simp only [DataW.weights, graphF, List.map_cons, List.map_nil, DataW.weightsEach, graphF'.1, graphF'.2, List.append_nil, List.mem_append]
    exact hn)
  obtain ⟨ns, hn1, hn2, _, hn3⟩ := open_sl 0 (cs := ic) (sz := 1) (fun _ => rfl) (by omega) Try.underlying27 cInt (fun n cs' x h => int_cells h) h0
  obtain ⟨es, he1, he2, _, he3⟩ := open_sl (0, 0, 0) (cs := ec) (sz := 3) (fun _ => rfl) (by omega) Try.underlying55 cEdge (fun n cs' x h => edge_cells h) h1
  exact ⟨vn, ve, ns, es, rfl, ⟨hn1, he1⟩, hn2, he2, slice_weight Try.underlying27 bInt (by omega) (fun n hn => hw' n (.inl hn)) (by rcases hn3 with rfl | h; exact .inl rfl; exact .inr h), slice_weight Try.underlying55 bEdge (by omega) (fun n hn => hw' n (.inr hn)) (by rcases he3 with rfl | h; exact .inl rfl; exact .inr h)⟩
set_option maxRecDepth 100000 in
/-- Numbers as an argument. -/
theorem ints_arg {a : Option Addr} {len cap : Nat} {d : DataW H} {p : List MemPlace} (h : DataW.Trod enc Try.prog W 0 (fun _ => true) true 27 (.slice a len cap) d p) (hw : ∀ n ∈ d.weights Try.prog 27, n ≤ reachBytes) :
    ∃ ns, SlAt ic 1 W (.slice a len cap) ns ∧ NilOk (.slice a len cap) ∧ (ns.length + 1) * 8 ≤ 140737488355328 := by
  obtain ⟨fuel, hf⟩ := h
  obtain ⟨ns, hn1, hn2, _, hn3⟩ := open_sl 0 (cs := ic) (sz := 1) (fun _ => rfl) (by omega) Try.underlying27 cInt (fun n cs' x h => int_cells h) (by simpa [Value.cells] using hf)
  exact ⟨ns, hn1, hn2, slice_weight Try.underlying27 bInt (by omega) hw (by rcases hn3 with rfl | h; exact .inl rfl; exact .inr h)⟩
set_option maxRecDepth 100000 in
/-- Links as an argument. -/
theorem links_arg {a : Option Addr} {len cap : Nat} {d : DataW H} {p : List MemPlace} (h : DataW.Trod enc Try.prog W 0 (fun _ => true) true 50 (.slice a len cap) d p) (hw : ∀ n ∈ d.weights Try.prog 50, n ≤ reachBytes) :
    ∃ ls, SlAt ec 3 W (.slice a len cap) ls ∧ NilOk (.slice a len cap) ∧ (ls.length + 1) * 24 ≤ 140737488355328 := by
  obtain ⟨fuel, hf⟩ := h
  obtain ⟨ns, hn1, hn2, _, hn3⟩ := open_sl (0, 0, 0) (cs := ec) (sz := 3) (fun _ => rfl) (by omega) Try.underlying50 cLink (fun n cs' x h => link_cells h) (by simpa [Value.cells] using hf)
  exact ⟨ns, hn1, hn2, slice_weight Try.underlying50 bLink (by omega) hw (by rcases hn3 with rfl | h; exact .inl rfl; exact .inr h)⟩
end
end Go.Proofs.Ytkhfpcnmnnboeaa
