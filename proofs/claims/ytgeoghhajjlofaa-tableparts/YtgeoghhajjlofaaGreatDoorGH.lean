/- Arguments as a row hands them: slices of numbers, edges, links, neighbours, records; graphs. -/
import Derived.Test.YtgeoghhajjlofaaGreatDoorGF
import Derived.OpenShut
import Derived.Deep.Slices
import Derived.Deep.Strs
import Derived.SizedLaws
import Derived.Lib.SmallJoins
namespace Go.Proofs.YtgeoghhajjlofaaGreatDoor
open Go.ChangeShapes Go.WideShapes Go.ChangeAt Go.RowKit

section
variable {H : Type} {enc : TypeId × Value → H} {W : World}

/-- A slice opened: the things that lie there, each with what is known of it. -/
theorem open_sl {α : Type} (dflt : α) {cs : α → List Value} {sz : Nat} {T E : TypeId} {G : α → Prop} (hcs : ∀ x, (cs x).length = sz) (hsz : 0 < sz) (hu : Tryz.prog.underlying T = some (.slice E)) (hc : Tryz.prog.cellsOf E = sz)
    (hE : ∀ n cs' x, DataW.trod enc Tryz.prog W 0 (fun _ => true) true n E cs' = some x → ∃ y : α, cs' = cs y ∧ G y) {fuel : Nat} {v : Value} {x : DataW H × List MemPlace} (h : DataW.trod enc Tryz.prog W 0 (fun _ => true) true fuel T [v] = some x) :
    ∃ l : List α, SlAt cs sz W v l ∧ NilOk v ∧ (∀ y ∈ l, G y) ∧ (l = [] ∨ ∃ elems spare, x.1 = .slice elems spare ∧ elems.length = l.length) := by
  rcases Deep.open_slice hu h with ⟨h0, _⟩ | ⟨ad, len, cap, m, n, D, Pl, h0, _, hl, hm, hmm, hxx, hx⟩
  · simp at h0
    subst h0
    exact ⟨[], ⟨none, 0, rfl, by simp, by simp, fun h => by simp at h⟩, .inr rfl, by simp, .inl rfl⟩
  · simp at h0
    subst h0
    simp only [if_true] at hmm
    subst hmm
    rw [hc] at hx
    have hv : ∀ i, i < m → ∃ y : α, G y ∧ ∀ j, j < sz → ∃ u, (cs y)[j]? = some u ∧ W.cell? ((ad.add (i * sz)).add j) = some u := by
      intro i hi
      obtain ⟨cs', h1, h2⟩ := hx i hi
      obtain ⟨y, rfl, hG⟩ := hE n cs' _ h2
      obtain ⟨_, _, hcell⟩ := World.cells?_some h1
      refine ⟨y, hG, fun j hj => ⟨(cs y)[j]'(by rw [hcs]; exact hj), List.getElem?_eq_getElem _, ?_⟩⟩
      rw [hcell j hj, List.getElem?_eq_getElem (by rw [hcs]; exact hj)]
    obtain ⟨X, hX⟩ : ∃ X : Nat → α, ∀ i, i < m → G (X i) ∧ ∀ j, j < sz → ∃ u, (cs (X i))[j]? = some u ∧ W.cell? ((ad.add (i * sz)).add j) = some u := ⟨fun i => if hi : i < m then Classical.choose (hv i hi) else dflt, fun i hi => by simp only [hi, dif_pos]; exact Classical.choose_spec (hv i hi)⟩
    have hlen : ((List.range len).map X).length = len := by simp
    refine ⟨(List.range len).map X, ⟨some ad, m, by rw [hlen], by rw [hlen]; unfold maxLen at hm; omega, by rw [hlen]; exact hl, fun h0 => ?_⟩, .inl ⟨_, _, _, rfl⟩, fun y hy => ?_, .inr ⟨(List.range len).map D, _, by rw [hxx], by simp⟩⟩
    · rw [hlen] at h0
      obtain ⟨u, _, h3⟩ := (hX 0 (by omega)).2 0 hsz
      obtain ⟨b, off, spot⟩ := ad
      have hspot : spot = none := by simpa [Addr.add] using World.cell?_spot h3
      subst hspot
      refine ⟨b, off, rfl, block_lt_of_cell (a := ⟨b, off, none⟩) (by simpa [Addr.add] using h3), fun j y hj i u hu => ?_⟩
      have hjl := (List.getElem?_eq_some_iff.1 hj).1
      rw [hlen] at hjl
      rw [List.getElem?_map, List.getElem?_range hjl] at hj
      simp at hj
      subst hj
      have hi : i < sz := by have := (List.getElem?_eq_some_iff.1 hu).1; rwa [hcs] at this
      obtain ⟨u', h5, h6⟩ := (hX j (by omega)).2 i hi
      rw [hu] at h5
      cases h5
      rw [Addr.add_mid, Addr.add_mid] at h6
      exact h6
    · obtain ⟨i, hi, rfl⟩ := List.mem_map.1 hy
      exact (hX i (by simp at hi; omega)).1
theorem cInt : Tryz.prog.cellsOf 3 = 1 := by kernel_rfl
theorem cU32 : Tryz.prog.cellsOf 24 = 1 := by kernel_rfl
theorem cBool : Tryz.prog.cellsOf 4 = 1 := by kernel_rfl
theorem cEdge : Tryz.prog.cellsOf 97 = 3 := by kernel_rfl
theorem cAdj : Tryz.prog.cellsOf 75 = 2 := by kernel_rfl
theorem cAdjs : Tryz.prog.cellsOf 71 = 1 := by kernel_rfl
theorem cRec : Tryz.prog.cellsOf 73 = 6 := by kernel_rfl
theorem cGraph : Tryz.prog.cellsOf 53 = 2 := by kernel_rfl
set_option maxRecDepth 100000 in
theorem int_cells {n : Nat} {cs' : List Value} {x : DataW H × List MemPlace} (h : DataW.trod enc Tryz.prog W 0 (fun _ => true) true n 3 cs' = some x) : ∃ y : Int, cs' = ic y ∧ True := by
  obtain ⟨y, hy, _⟩ := DataW.trod_int Tryz.underlying3 h
  exact ⟨y, hy, trivial⟩
theorem edgeF : Tryz.prog.underlying 97 = some (.struct #[(Tryz.prog.fieldsOf 97)[0]!, (Tryz.prog.fieldsOf 97)[1]!, (Tryz.prog.fieldsOf 97)[2]!]) := by kernel_rfl
theorem edgeF' : (((Tryz.prog.fieldsOf 97)[0]!).type = 3 ∧ ((Tryz.prog.fieldsOf 97)[0]!).offset = 0) ∧ (((Tryz.prog.fieldsOf 97)[1]!).type = 3 ∧ ((Tryz.prog.fieldsOf 97)[1]!).offset = 1) ∧ ((Tryz.prog.fieldsOf 97)[2]!).type = 3 ∧ ((Tryz.prog.fieldsOf 97)[2]!).offset = 2 := ⟨⟨by kernel_rfl, by kernel_rfl⟩, ⟨by kernel_rfl, by kernel_rfl⟩, by kernel_rfl, by kernel_rfl⟩
set_option maxRecDepth 100000 in
theorem edge_cells {n : Nat} {cs' : List Value} {x : DataW H × List MemPlace} (h : DataW.trod enc Tryz.prog W 0 (fun _ => true) true n 97 cs' = some x) : ∃ y : Ed, cs' = ec y ∧ True := by
  obtain ⟨y0, y1, y2, k, _, hlen, h0, h1, h2⟩ := Deep.trod_struct3 edgeF h
  obtain ⟨⟨a0, b0⟩, ⟨a1, b1⟩, a2, b2⟩ := edgeF'
  rw [cEdge] at hlen
  match cs', hlen with
  | [v0, v1, v2], _ =>
    rw [a0, b0, cInt] at h0
    rw [a1, b1, cInt] at h1
    rw [a2, b2, cInt] at h2
    obtain ⟨p, hp, _⟩ := DataW.trod_int Tryz.underlying3 h0
    obtain ⟨q, hq, _⟩ := DataW.trod_int Tryz.underlying3 h1
    obtain ⟨r, hr, _⟩ := DataW.trod_int Tryz.underlying3 h2
    simp at hp hq hr
    exact ⟨(p, q, r), by rw [hp, hq, hr], trivial⟩
theorem adjF : Tryz.prog.underlying 75 = some (.struct #[(Tryz.prog.fieldsOf 75)[0]!, (Tryz.prog.fieldsOf 75)[1]!]) := by kernel_rfl
theorem adjF' : (((Tryz.prog.fieldsOf 75)[0]!).type = 3 ∧ ((Tryz.prog.fieldsOf 75)[0]!).offset = 0) ∧ ((Tryz.prog.fieldsOf 75)[1]!).type = 3 ∧ ((Tryz.prog.fieldsOf 75)[1]!).offset = 1 := ⟨⟨by kernel_rfl, by kernel_rfl⟩, by kernel_rfl, by kernel_rfl⟩
set_option maxRecDepth 100000 in
theorem adj_cells {n : Nat} {cs' : List Value} {x : DataW H × List MemPlace} (h : DataW.trod enc Tryz.prog W 0 (fun _ => true) true n 75 cs' = some x) : ∃ y : Int × Int, cs' = ac y ∧ True := by
  obtain ⟨y0, y1, k, _, hlen, h0, h1⟩ := trod_struct2 adjF h
  obtain ⟨⟨a0, b0⟩, a1, b1⟩ := adjF'
  rw [cAdj] at hlen
  match cs', hlen with
  | [v0, v1], _ =>
    rw [a0, b0, cInt] at h0
    rw [a1, b1, cInt] at h1
    obtain ⟨p, hp, _⟩ := DataW.trod_int Tryz.underlying3 h0
    obtain ⟨q, hq, _⟩ := DataW.trod_int Tryz.underlying3 h1
    simp at hp hq
    exact ⟨(p, q), by rw [hp, hq], trivial⟩
theorem recF : Tryz.prog.underlying 73 = some (.struct #[(Tryz.prog.fieldsOf 73)[0]!, (Tryz.prog.fieldsOf 73)[1]!, (Tryz.prog.fieldsOf 73)[2]!, (Tryz.prog.fieldsOf 73)[3]!, (Tryz.prog.fieldsOf 73)[4]!, (Tryz.prog.fieldsOf 73)[5]!]) := by kernel_rfl
theorem recF' (i : Nat) (hi : i < 6) : ((Tryz.prog.fieldsOf 73)[i]!).type = [3, 24, 24, 3, 4, 71][i]! ∧ ((Tryz.prog.fieldsOf 73)[i]!).offset = i := by
  match i, hi with
  | 0, _ => exact ⟨by kernel_rfl, by kernel_rfl⟩
  | 1, _ => exact ⟨by kernel_rfl, by kernel_rfl⟩
  | 2, _ => exact ⟨by kernel_rfl, by kernel_rfl⟩
  | 3, _ => exact ⟨by kernel_rfl, by kernel_rfl⟩
  | 4, _ => exact ⟨by kernel_rfl, by kernel_rfl⟩
  | 5, _ => exact ⟨by kernel_rfl, by kernel_rfl⟩
/-- What is known of a record: its neighbours lie there. -/
def RecG (W : World) (y : Rc × Value) : Prop := SlAt ac 2 W y.2 y.1.adjs ∧ NilOk y.2 ∧ 0 ≤ y.1.epoch ∧ 0 ≤ y.1.seq
set_option maxRecDepth 100000 in
theorem rec_cells {n : Nat} {cs' : List Value} {x : DataW H × List MemPlace} (h : DataW.trod enc Tryz.prog W 0 (fun _ => true) true n 73 cs' = some x) : ∃ y : Rc × Value, cs' = rcc y ∧ RecG W y := by
  obtain ⟨xs, k, _, _, hlen, hxl, hf⟩ := DataW.trod_struct recF h
  rw [cRec] at hlen
  match cs', hlen with
  | [v0, v1, v2, v3, v4, v5], _ =>
    match xs, hxl with
    | [z0, z1, z2, z3, z4, z5], _ =>
      have g0 := hf 0 ((Tryz.prog.fieldsOf 73)[0]!) rfl
      have g1 := hf 1 ((Tryz.prog.fieldsOf 73)[1]!) rfl
      have g2 := hf 2 ((Tryz.prog.fieldsOf 73)[2]!) rfl
      have g3 := hf 3 ((Tryz.prog.fieldsOf 73)[3]!) rfl
      have g4 := hf 4 ((Tryz.prog.fieldsOf 73)[4]!) rfl
      have g5 := hf 5 ((Tryz.prog.fieldsOf 73)[5]!) rfl
      rw [(recF' 0 (by omega)).1, (recF' 0 (by omega)).2] at g0
      rw [(recF' 1 (by omega)).1, (recF' 1 (by omega)).2] at g1
      rw [(recF' 2 (by omega)).1, (recF' 2 (by omega)).2] at g2
      rw [(recF' 3 (by omega)).1, (recF' 3 (by omega)).2] at g3
      rw [(recF' 4 (by omega)).1, (recF' 4 (by omega)).2] at g4
      rw [(recF' 5 (by omega)).1, (recF' 5 (by omega)).2] at g5
      simp [cInt, cU32, cBool, cAdjs] at g0 g1 g2 g3 g4 g5
      obtain ⟨o, ho, _⟩ := DataW.trod_int Tryz.underlying3 g0
      obtain ⟨e, he, _, wfe⟩ := DataW.trod_int Tryz.underlying24 g1
      obtain ⟨s, hs, _, wfs⟩ := DataW.trod_int Tryz.underlying24 g2
      obtain ⟨c, hc, _⟩ := DataW.trod_int Tryz.underlying3 g3
      obtain ⟨b, hb, _⟩ := DataW.trod_bool Tryz.underlying4 g4
      obtain ⟨l, hl, hn, _⟩ := open_sl (0, 0) (cs := ac) (sz := 2) (fun _ => rfl) (by omega) Tryz.underlying71 cAdj (fun n cs' x h => adj_cells h) g5
      simp at ho he hs hc hb
      refine ⟨(⟨o, e, s, c, b, l⟩, v5), by simp [rcc, ho, he, hs, hc, hb], hl, hn, ?_, ?_⟩
      · exact (bounds_u32 wfe).1
      · exact (bounds_u32 wfs).1
theorem bInt : Tryz.prog.bytesOf 3 = 8 := by kernel_rfl
theorem bEdge : Tryz.prog.bytesOf 97 = 24 := by kernel_rfl
theorem bRec : Tryz.prog.bytesOf 73 = 56 := by kernel_rfl
theorem slice_weight {T E : TypeId} {b k : Nat} (hu : Tryz.prog.underlying T = some (.slice E)) (hb : Tryz.prog.bytesOf E = b) (hb0 : b ≤ 4096) {d : DataW H} (hw : ∀ n ∈ d.weights Tryz.prog T, n ≤ reachBytes) (h : k = 0 ∨ ∃ elems spare, d = .slice elems spare ∧ elems.length = k) : (k + 1) * b ≤ 140737488355328 := by
  rcases h with rfl | ⟨elems, spare, rfl, rfl⟩
  · omega
  · have h1 := hw ((elems.length + spare.length) * Tryz.prog.bytesOf E) (by simp [DataW.weights, hu])
    rw [hb] at h1
    unfold reachBytes at h1
    have h2 : elems.length * b ≤ (elems.length + spare.length) * b := Nat.mul_le_mul_right _ (by omega)
    rw [Nat.succ_mul]
    omega
theorem graphF : Tryz.prog.underlying 53 = some (.struct #[(Tryz.prog.fieldsOf 53)[0]!, (Tryz.prog.fieldsOf 53)[1]!]) := by kernel_rfl
theorem graphF' : ((Tryz.prog.fieldsOf 53)[0]!).type = 39 ∧ ((Tryz.prog.fieldsOf 53)[1]!).type = 51 := ⟨by kernel_rfl, by kernel_rfl⟩
set_option maxRecDepth 100000 in
/-- A graph as an argument. -/
theorem graph_arg {r : Reach} {b0 : Nat} {v : Value} {d : DataW H} {p : List MemPlace} (hv : Value.okWide Tryz.prog W r b0 53 v) (h : DataW.Trod enc Tryz.prog W 0 (fun _ => true) true 53 v d p) (hw : ∀ n ∈ d.weights Tryz.prog 53, n ≤ reachBytes) :
    ∃ vn ve ns es, v = grV vn ve ∧ GrAt W vn ve ns es ∧ NilOk vn ∧ NilOk ve ∧ (ns.length + 1) * 8 ≤ 140737488355328 ∧ (es.length + 1) * 24 ≤ 140737488355328 := by
  obtain ⟨vn, ve, y0, y1, m, rfl, rfl, rfl, h0, h1⟩ := Joins.open_agg2 graphF (by kernel_rfl) cGraph hv h
  rw [graphF'.1] at h0
  rw [graphF'.2] at h1
  have hw' : ∀ n, n ∈ y0.1.weights Tryz.prog 39 ∨ n ∈ y1.1.weights Tryz.prog 51 → n ≤ reachBytes := fun n hn => hw n (by
    simp only [DataW.weights, graphF, List.map_cons, List.map_nil, DataW.weightsEach, graphF'.1, graphF'.2, List.append_nil, List.mem_append]
    exact hn)
  obtain ⟨ns, hn1, hn2, _, hn3⟩ := open_sl 0 (cs := ic) (sz := 1) (fun _ => rfl) (by omega) Tryz.underlying39 cInt (fun n cs' x h => int_cells h) h0
  obtain ⟨es, he1, he2, _, he3⟩ := open_sl (0, 0, 0) (cs := ec) (sz := 3) (fun _ => rfl) (by omega) Tryz.underlying51 cEdge (fun n cs' x h => edge_cells h) h1
  exact ⟨vn, ve, ns, es, rfl, ⟨hn1, he1⟩, hn2, he2, slice_weight Tryz.underlying39 bInt (by omega) (fun n hn => hw' n (.inl hn)) (by rcases hn3 with rfl | h; exact .inl rfl; exact .inr h), slice_weight Tryz.underlying51 bEdge (by omega) (fun n hn => hw' n (.inr hn)) (by rcases he3 with rfl | h; exact .inl rfl; exact .inr h)⟩
set_option maxRecDepth 100000 in
/-- Numbers as an argument. -/
theorem ints_arg {a : Option Addr} {len cap : Nat} {d : DataW H} {p : List MemPlace} (h : DataW.Trod enc Tryz.prog W 0 (fun _ => true) true 39 (.slice a len cap) d p) (hw : ∀ n ∈ d.weights Tryz.prog 39, n ≤ reachBytes) :
    ∃ ns, SlAt ic 1 W (.slice a len cap) ns ∧ NilOk (.slice a len cap) ∧ (ns.length + 1) * 8 ≤ 140737488355328 := by
  obtain ⟨fuel, hf⟩ := h
  obtain ⟨ns, hn1, hn2, _, hn3⟩ := open_sl 0 (cs := ic) (sz := 1) (fun _ => rfl) (by omega) Tryz.underlying39 cInt (fun n cs' x h => int_cells h) (by simpa [Value.cells] using hf)
  exact ⟨ns, hn1, hn2, slice_weight Tryz.underlying39 bInt (by omega) hw (by rcases hn3 with rfl | h; exact .inl rfl; exact .inr h)⟩
set_option maxRecDepth 100000 in
/-- Records as an argument. -/
theorem recs_arg {a : Option Addr} {len cap : Nat} {d : DataW H} {p : List MemPlace} (h : DataW.Trod enc Tryz.prog W 0 (fun _ => true) true 33 (.slice a len cap) d p) (hw : ∀ n ∈ d.weights Tryz.prog 33, n ≤ reachBytes) :
    ∃ l, RecsAt W (.slice a len cap) l ∧ NilOk (.slice a len cap) ∧ (∀ y ∈ l, RecG W y) ∧ (l.length + 1) * 56 ≤ 140737488355328 := by
  obtain ⟨fuel, hf⟩ := h
  obtain ⟨l, hn1, hn2, hG, hn3⟩ := open_sl (⟨0, 0, 0, 0, false, []⟩, .slice none 0 0) (cs := rcc) (sz := 6) (fun _ => rfl) (by omega) Tryz.underlying33 cRec (fun n cs' x h => rec_cells h) (by simpa [Value.cells] using hf)
  exact ⟨l, ⟨hn1, fun y hy => (hG y hy).1⟩, hn2, hG, slice_weight Tryz.underlying33 bRec (by omega) hw (by rcases hn3 with rfl | h; exact .inl rfl; exact .inr h)⟩
end
end Go.Proofs.YtgeoghhajjlofaaGreatDoor
