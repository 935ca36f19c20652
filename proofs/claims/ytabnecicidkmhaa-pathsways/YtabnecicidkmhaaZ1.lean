/- The document's Near. The document's Part. kept; GraphTells. The document's Costs. The document's Tight. What Count has of each node at its end: as many ways as those ahead of it have, together. How many ways of so many hops and such a cost there are; the same, turned round. Count has at its end how many least-cost ways there are. Count never runs over: what it has is above 0 just where there is a way. The document's Count, as functions: by rising costs. Of: the first one of a list that has the node. -/
import Derived.Test.YtabnecicidkmhaaGS
import Derived.Test.YtabnecicidkmhaaGH
import Derived.Test.YtabnecicidkmhaaVB0
import Derived.Test.YtabnecicidkmhaaVB1
import Derived.Test.YtabnecicidkmhaaVQ3
import Derived.Test.YtabnecicidkmhaaVQ5
import Derived.Test.YtabnecicidkmhaaV13
namespace Go.Proofs.Ytabnecicidkmhaa
open Go.RowKit

end Go.Proofs.Ytabnecicidkmhaa
namespace Go.Proofs.Ytabnecicidkmhaa
open Go.RowKit

/-- What is marked after some rounds. -/
structure RInv (ns : List Int) (es : List Ed) (n : Int) (f : Nat → Bool) (r : Nat) : Prop where
  so : ∀ i, f i = true → Rch es n (i : Int)
  nn : f n.toNat = true
  mem : ∀ i, f i = true → (i : Int) ∈ ns
  go : (∀ e ∈ es, f e.1.toNat = true → f e.2.1.toNat = true) ∨ r + 1 ≤ cnt f
structure RMid (ns : List Int) (es : List Ed) (n : Int) (f g : Nat → Bool) (k : Nat) : Prop where
  so : ∀ i, g i = true → Rch es n (i : Int)
  nn : g n.toNat = true
  mem : ∀ i, g i = true → (i : Int) ∈ ns
  go : (g = f ∧ ∀ e ∈ es.take k, f e.1.toNat = true → f e.2.1.toNat = true) ∨ ((¬ ∀ e ∈ es, f e.1.toNat = true → f e.2.1.toNat = true) ∧ cnt f + 1 ≤ cnt g)
theorem cnt_mk1 (f : Nat → Bool) {i : Nat} (hi : i < 25) (h : f i = false) : cnt (mk1 f i) = cnt f + 1 := by
  have h1 := unm_mk1 h hi
  have h2 := cnt_unm f
  have h3 := cnt_unm (mk1 f i)
  omega
theorem mk1_again {f : Nat → Bool} {i : Nat} (h : f i = true) : mk1 f i = f := by
  funext j
  unfold mk1
  by_cases hj : j = i
  · rw [if_pos hj, hj, h]
  · rw [if_neg hj]
theorem RInv.start {ns : List Int} {es : List Ed} {n : Int} {f : Nat → Bool} {r : Nat} (h : RInv ns es n f r) : RMid ns es n f f 0 := ⟨h.so, h.nn, h.mem, .inl ⟨rfl, by simp⟩⟩
theorem RMid.no {ns : List Int} {es : List Ed} {n : Int} {f g : Nat → Bool} {k : Nat} {e : Ed} (h : RMid ns es n f g k) (he : es[k]? = some e) (hg : g e.1.toNat = false) : RMid ns es n f g (k + 1) := by
  refine ⟨h.so, h.nn, h.mem, ?_⟩
  rcases h.go with ⟨h1, h2⟩ | h1
  · refine .inl ⟨h1, fun x hx hf => ?_⟩
    rw [take_snoc he] at hx
    rcases List.mem_append.1 hx with hx | hx
    · exact h2 x hx hf
    · simp at hx
      rw [hx, ← h1, hg] at hf
      cases hf
  · exact .inr h1
theorem RMid.yes {ns : List Int} {es : List Ed} {n : Int} {f g : Nat → Bool} {k : Nat} {e : Ed} (hb : ∀ z ∈ ns, 1 ≤ z ∧ z ≤ 24) (hed : ∀ e ∈ es, e.1 ∈ ns ∧ e.2.1 ∈ ns) (h : RMid ns es n f g k) (he : es[k]? = some e) (hg : g e.1.toNat = true) : RMid ns es n f (mk1 g e.2.1.toNat) (k + 1) := by
  have hm := List.mem_of_getElem? he
  have h3 := hed e hm
  have b1 := hb _ h3.1
  have b2 := hb _ h3.2
  by_cases hy : g e.2.1.toNat = true
  · rw [mk1_again hy]
    refine ⟨h.so, h.nn, h.mem, ?_⟩
    rcases h.go with ⟨h1, h2⟩ | h1
    · refine .inl ⟨h1, fun x hx hf => ?_⟩
      rw [take_snoc he] at hx
      rcases List.mem_append.1 hx with hx | hx
      · exact h2 x hx hf
      · simp at hx
        rw [hx, ← h1]
        exact hy
    · exact .inr h1
  · have hy' : g e.2.1.toNat = false := by simpa using hy
    have hc := cnt_mk1 g (show e.2.1.toNat < 25 by omega) hy'
    refine ⟨fun i hi => ?_, mk1_iff.2 (.inr h.nn), fun i hi => ?_, .inr ?_⟩
    · rcases mk1_iff.1 hi with rfl | hi
      · have h5 := h.so _ hg
        rw [Int.toNat_of_nonneg (by omega)] at h5 ⊢
        exact h5.step hm
      · exact h.so i hi
    · rcases mk1_iff.1 hi with rfl | hi
      · rw [Int.toNat_of_nonneg (by omega)]
        exact h3.2
      · exact h.mem i hi
    · rcases h.go with ⟨h1, _⟩ | ⟨h1, h2⟩
      · refine ⟨fun hall => ?_, by rw [hc, h1]; exact Nat.le_refl _⟩
        have := hall e hm (by rw [← h1]; exact hg)
        rw [← h1, hy'] at this
        cases this
      · exact ⟨h1, by omega⟩
theorem RMid.stop {ns : List Int} {es : List Ed} {n : Int} {f g : Nat → Bool} {r k : Nat} (h : RInv ns es n f r) (hm : RMid ns es n f g k) (hk : es.length ≤ k) : RInv ns es n g (r + 1) := by
  refine ⟨hm.so, hm.nn, hm.mem, ?_⟩
  rcases hm.go with ⟨h1, h2⟩ | ⟨h1, h2⟩
  · left
    rw [h1]
    rw [List.take_of_length_le hk] at h2
    exact h2
  · right
    rcases h.go with h3 | h3
    · exact absurd h3 h1
    · omega
theorem RInv.part {ns : List Int} {es : List Ed} {n : Int} {f : Nat → Bool} (hn : n ∈ ns) (hed : ∀ e ∈ es, e.1 ∈ ns ∧ e.2.1 ∈ ns) (h : RInv ns es n f ns.length) : IsPart es n f := by
  refine isPart_of hn hed h.so h.nn ?_
  rcases h.go with h1 | h1
  · exact h1
  · exfalso
    have h2 := count_tos (ns.map fun x => (x, (0 : Int))) (List.range 25) List.nodup_range
    rw [List.length_map] at h2
    have h3 : cnt f ≤ ((List.range 25).filter fun b => (ns.map fun x => (x, (0 : Int))).any fun x => decide (x.1.toNat = b)).length := by
      refine filter_len _ fun b _ hb => ?_
      rw [List.any_eq_true]
      exact ⟨((b : Int), 0), List.mem_map.2 ⟨(b : Int), h.mem b hb, rfl⟩, by simp⟩
    omega
theorem rInv_one {ns : List Int} {es : List Ed} {n : Int} (hb : ∀ z ∈ ns, 1 ≤ z ∧ z ≤ 24) (hn : n ∈ ns) : RInv ns es n (mk1 no1 n.toNat) 0 := by
  have h1 := hb n hn
  refine ⟨fun i hi => ?_, mk1_same _ _, fun i hi => ?_, .inr ?_⟩
  · rcases mk1_iff.1 hi with rfl | h
    · rw [Int.toNat_of_nonneg (by omega)]; exact Rch.refl _ _
    · simp [no1] at h
  · rcases mk1_iff.1 hi with rfl | h
    · rw [Int.toNat_of_nonneg (by omega)]; exact hn
    · simp [no1] at h
  · rw [cnt_mk1 no1 (show n.toNat < 25 by omega) rfl]
    omega
theorem make_met (w : World) : (Instr.makeSlice 85 (.int .i64 25) (.int .i64 25)).run Try.prog w = .ok (.slice (some ⟨w.heap.size, 0, none⟩) 25 25) (w.alloc (.cells (mcl no1).toArray 4)) := by kernel_rfl

end Go.Proofs.Ytabnecicidkmhaa
namespace Go.Proofs.Ytabnecicidkmhaa
open Go.RowKit

theorem row_last {α : Type} {cs : α → List Value} {sz : Nat} (hc : ∀ x, (cs x).length = sz) {w : World} {base g cap : Nat} {e : TypeId} {l : List α} {x : α} (hr : w.ownsRow base e sz (.slice (some ⟨g, 0, none⟩) (l.length + 1) cap) (l.length + 1) (fl cs (l ++ [x]))) : l.length + 1 ≤ cap ∧ l.length + 1 ≤ 9223372036854775807 ∧ g < w.heap.size ∧ ∀ i u, (cs x)[i]? = some u → w.cell? ⟨g, l.length * sz + i, none⟩ = some u := by
  obtain ⟨a, c, he, h1, h2, h3⟩ := slAt_of_row hc hr (by simp)
  simp at he
  obtain ⟨rfl, rfl⟩ := he
  obtain ⟨bk, o, h4, h5, h6⟩ := h3 (by simp)
  simp only [Option.some.injEq, Addr.mk.injEq, and_true] at h4
  obtain ⟨rfl, rfl⟩ := h4
  simp at h1 h2
  refine ⟨h2, by omega, h5, fun i u hu => ?_⟩
  have := h6 l.length x (by simp) i u hu
  rwa [Nat.zero_add] at this
/-- Near's answer, in one form. -/
theorem near_uni {w w' : World} {ns : List Int} {es : List Ed} {n : Int} {e : Ending} (h : ((graphOk ns es && hasN ns n) = true ∧ ∃ u, e = .returned (.tuple #[u, .int .i64 0]) ∧ w'.ownsRow w.heap.size 80 2 u (nearL es n).length (fl ac (nearL es n))) ∨ ((graphOk ns es && hasN ns n) = false ∧ e = .returned (.tuple #[.slice none 0 0, .int .i64 2]))) :
    ∃ ua ucap, e = .returned (.tuple #[.slice ua (if (graphOk ns es && hasN ns n) = true then nearL es n else []).length ucap, .int .i64 (if (graphOk ns es && hasN ns n) = true then 0 else 2)]) ∧ w'.ownsRow w.heap.size 80 2 (.slice ua (if (graphOk ns es && hasN ns n) = true then nearL es n else []).length ucap) (if (graphOk ns es && hasN ns n) = true then nearL es n else []).length (fl ac (if (graphOk ns es && hasN ns n) = true then nearL es n else [])) := by
  rcases h with ⟨h, u, rfl, hu⟩ | ⟨h, rfl⟩
  · obtain ⟨ua, ucap, rfl⟩ := row_shape hu
    rw [h]
    exact ⟨ua, ucap, rfl, hu⟩
  · rw [h]
    exact ⟨none, 0, rfl, World.ownsRow_nil _ _ _ _⟩
/-- Part's answer, in one form. -/
theorem part_uni {w w' : World} {ns : List Int} {es : List Ed} {n : Int} {e : Ending} (h : PartAns w ns es n e w') :
    ∃ L ua ucap, ((graphOk ns es && hasN ns n) = true → ∃ f, IsPart es n f ∧ L = markedL f) ∧ ((graphOk ns es && hasN ns n) = false → L = []) ∧ e = .returned (.tuple #[.slice ua L.length ucap, .int .i64 (if (graphOk ns es && hasN ns n) = true then 0 else 2)]) ∧ w'.ownsRow w.heap.size 3 1 (.slice ua L.length ucap) L.length (fl ic L) := by
  rcases h with ⟨h, f, u, hf, rfl, hu⟩ | ⟨h, rfl⟩
  · obtain ⟨ua, ucap, rfl⟩ := row_shape hu
    rw [h]
    exact ⟨markedL f, ua, ucap, fun _ => ⟨f, hf, rfl⟩, (fun h => by cases h), rfl, hu⟩
  · rw [h]
    exact ⟨[], none, 0, (fun h => by cases h), fun _ => rfl, rfl, World.ownsRow_nil _ _ _ _⟩
theorem part_same {es : List Ed} {n : Int} {b : Bool} {L M : List Int} (h1 : b = true → ∃ f, IsPart es n f ∧ L = markedL f) (h2 : b = false → L = []) (k1 : b = true → ∃ f, IsPart es n f ∧ M = markedL f) (k2 : b = false → M = []) : L = M := by
  cases b
  · rw [h2 rfl, k2 rfl]
  · obtain ⟨f, hf, rfl⟩ := h1 rfl
    obtain ⟨g, hg, rfl⟩ := k1 rfl
    exact hf.same hg
/-- An own row that may be written. -/
theorem row_write {w : World} {base n cap sz : Nat} {a : Option Addr} {e : TypeId} {xs : List Value} (hr : w.ownsRow base e sz (.slice a n cap) n xs) (h0 : 0 < n) : ∃ g, a = some ⟨g, 0, none⟩ ∧ base ≤ g ∧ g < w.heap.size ∧ (∀ j, j < n * sz → ∃ v, w.cell? ⟨g, j, none⟩ = some v) ∧ ∀ j, w.frozen? ⟨g, j, none⟩ = false := by
  rcases hr.2 with ⟨_, h⟩ | ⟨g, cap', cur, h, hb, hh, h1, _, h3, _⟩
  · omega
  · simp at h
    obtain ⟨rfl, rfl⟩ := h
    refine ⟨g, rfl, hb, block_lt hh, fun j hj => ?_, fun j => frozen_new hh j⟩
    have : n * sz ≤ cap * sz := Nat.mul_le_mul_right _ h1
    rw [cell_of_row w g j cur e _ hh]
    exact ⟨cur[j]'(by omega), Array.getElem?_eq_getElem _⟩

end Go.Proofs.Ytabnecicidkmhaa
namespace Go.Proofs.Ytabnecicidkmhaa
open Go.RowKit

theorem map_upd {D : Int → Int} {y v : Int} : ∀ {ns : List Int} {k : Nat}, ns.Nodup → ns[k]? = some y → ns.map (fun z => if z = y then v else D z) = (ns.map D).set k v
  | [], _, _, h => by simp at h
  | x :: ns, 0, hn, h => by
    simp at h
    subst h
    rw [List.nodup_cons] at hn
    simp only [List.map_cons, List.set_cons_zero, if_pos]
    congr 1
    refine List.map_congr_left fun z hz => ?_
    rw [if_neg (fun e => hn.1 (by rw [← e]; exact hz))]
  | x :: ns, k + 1, hn, h => by
    rw [List.nodup_cons] at hn
    have hk : ns[k]? = some y := by simpa using h
    have hxy : x ≠ y := fun e => hn.1 (by rw [e]; exact List.mem_of_getElem? hk)
    simp only [List.map_cons, List.set_cons_succ, if_neg hxy]
    rw [map_upd hn.2 hk]
theorem flic_set {l : List Int} {k : Nat} (v : Int) : (fl ic l).set k (.int .i64 v) = fl ic (l.set k v) := by
  have h : ∀ l : List Int, fl ic l = l.map (Value.int .i64) := fun l => by
    induction l with
    | nil => rfl
    | cons x l ih => show Value.int .i64 x :: fl ic l = _; rw [ih]; rfl
  rw [h, h, List.map_set]
theorem row_drewN {w : World} {base k size : Nat} {e : TypeId} {u : Value} {xs : List Value} (h : w.ownsRow base e size u k xs) (n : Nat) : (w.drewN n).ownsRow base e size u k xs := row_below h (below_drewN (Below.refl _ w) n) (Nat.le_refl _)
theorem frozen_row {w : World} {base k size g n cap : Nat} {e : TypeId} {xs : List Value} (h : w.ownsRow base e size (.slice (some ⟨g, 0, none⟩) n cap) k xs) (j : Nat) : w.frozen? ⟨g, j, none⟩ = false := by
  rcases h.2 with ⟨h1, _⟩ | ⟨g', cap', cur, h1, _, hh, _⟩
  · cases h1
  · simp at h1
    rw [h1.1]
    exact frozen_new hh j
theorem block_lt_of_cell {w : World} {p : Addr} {v : Value} (h : w.cell? p = some v) : p.block < w.heap.size := by
  rcases Nat.lt_or_ge p.block w.heap.size with h1 | h1
  · exact h1
  · simp [World.cell?, Array.getElem?_eq_none h1] at h
/-- A row of numbers, opened: its cells, and that they may be written. -/
theorem rowI_open {w : World} {base n cap : Nat} {a : Option Addr} {xs : List Int} (hr : w.ownsRow base 3 1 (.slice a n cap) n (fl ic xs)) (hn : xs.length = n) (h0 : 0 < n) : ∃ g, a = some ⟨g, 0, none⟩ ∧ base ≤ g ∧ (∀ j x, xs[j]? = some x → w.cell? ⟨g, j, none⟩ = some (.int .i64 x)) ∧ ∀ j, w.frozen? ⟨g, j, none⟩ = false := by
  obtain ⟨g, rfl, hb, _, _, hf⟩ := row_write hr h0
  refine ⟨g, rfl, hb, fun j x hx => ?_, hf⟩
  obtain ⟨a', cap', he, _, _, hc⟩ := (slAt_of_row (cs := ic) (fun _ => rfl) hr hn).ints
  obtain ⟨bk, o, ha, _, hcell⟩ := hc (by omega)
  simp only [Value.slice.injEq] at he
  rw [← he.1] at ha
  simp only [Option.some.injEq, Addr.mk.injEq, and_true] at ha
  have := hcell j x hx
  rw [← ha.1, ← ha.2, Nat.zero_add] at this
  exact this
set_option maxRecDepth 100000 in
set_option maxHeartbeats 4000000 in
theorem costs_any {ns : List Int} {es : List Ed} {vn ve : Value} {w : World} (h : GrAt w vn ve ns es) (hok : graphOk ns es = true) (r : Int) :
    Calls Try.prog 34 #[grV vn ve, .int .i64 r] w fun e w' => (∃ a c, e = .returned (.slice a ns.length c) ∧ w'.ownsRow w.heap.size 3 1 (.slice a ns.length c) ns.length (fl ic (ns.map (bfN es r ns.length)))) ∧ Below w.heap.size w w' := by
  have HGr := hidIn h
  obtain ⟨na, nca, rfl, hnl, _, hna⟩ := h.n.ints
  obtain ⟨ea, eca, rfl, hel, _, hea⟩ := h.e.eds
  have Hna := hidIn hna
  have Hea := hidIn hea
  obtain ⟨W1, hW1⟩ : ∃ W1, w.alloc (.cells #[.slice na ns.length nca, .slice ea es.length eca] 25) = W1 := ⟨_, rfl⟩
  have bA : Below w.heap.size w W1 := by rw [← hW1]; exact (Below.refl _ w).alloc (Nat.le_refl _) _
  have hGB : W1.heap[w.heap.size]? = some (.cells #[.slice na ns.length nca, .slice ea es.length eca] 25) := by rw [← hW1]; exact heap_alloc_last w _
  obtain ⟨q, hqe⟩ : ∃ q, w.heap.size = q := ⟨_, rfl⟩
  rw [hqe] at hGB
  have hlt0 := block_lt hGB
  have HF : Hid (∀ wq, Below W1.heap.size W1 wq → (wq.cell? ⟨q, 0, none⟩ = some (.slice na ns.length nca) ∧ wq.cell? ⟨q, 1, none⟩ = some (.slice ea es.length eca)) ∧ Below w.heap.size w wq) := hidIn fun wq h => by
    have j0 := (h.block _ hlt0).trans hGB
    exact ⟨⟨cell_of_row _ _ 0 _ _ _ j0, cell_of_row _ _ 1 _ _ _ j0⟩, bA.trans (h.mono bA.size)⟩
  have HW := hidIn hW1
  have Hn24 := hidIn (graphOk_n24 hok)
  have Hnn := hidIn (graphOk_nn hok)
  have Hpos := hidIn (graphOk_pos hok)
  have Hbd := hidIn (graphOk_bd hok).2.1
  have Hsz := hidIn bA.size
  obtain ⟨ln, hln⟩ : ∃ ln, ns.length = ln := ⟨_, rfl⟩
  obtain ⟨le, hle⟩ : ∃ le, es.length = le := ⟨_, rfl⟩
  rw [hln] at hnl HF HW Hn24 ⊢
  rw [hle] at hel HF HW ⊢
  have Hln := hidIn hln
  have Hle := hidIn hle
  have hl24 := Hn24.out
  clear hW1 bA hGB hna hea h hln hle hlt0 hok
  go_enter Try.func34, Try.ntmps34
  go_upto_region 1 with fail
  rw [HW.out]
  clear HW hqe
  go_wp2_with fail
  go_loopw [5, 6] (fun u i wr => ∃ k : Nat, k ≤ ln ∧ i = .int .i64 k ∧ (∃ a c, u = .slice a k c) ∧ Hid (Below W1.heap.size W1 wr ∧ wr.ownsRow W1.heap.size 3 1 u k (fl ic ((ns.take k).map (d0C r))))) (fun _ i _ => ln - (intOf i).toNat)
  case atStart => exact ⟨0, Nat.zero_le _, rfl, ⟨none, 0, rfl⟩, hidIn ⟨Below.refl _ _, World.ownsRow_nil _ _ _ _⟩⟩
  case round =>
    obtain ⟨k, hk, rfl, ⟨ua, uc, rfl⟩, HR⟩ := hrel
    obtain ⟨hbw, hr⟩ := HR.out
    obtain ⟨⟨f0, f1⟩, hbw0⟩ := HF.out wr hbw
    by_cases hlt : k < ln
    · have hki : (k : Int) < (ln : Int) := by omega
      obtain ⟨bk, o, rfl, hbk, hcell⟩ := Hna.out (by have := Hln.out; omega)
      obtain ⟨z, hz⟩ : ∃ z, ns[k]? = some z := ⟨ns[k]'(by have := Hln.out; omega), List.getElem?_eq_getElem _⟩
      have c0 := (hbw0.cell (p := ⟨bk, o + k, none⟩) hbk).trans (hcell k z hz)
      by_cases hzr : z = r
      · have hq : (z == r) = true := by simpa using hzr
        obtain ⟨g, gc, w6, hrun, hown, _, _, hb6⟩ := append_int hr 0 (by omega) hbw.size
        have HO : Hid (Below W1.heap.size W1 w6 ∧ w6.ownsRow W1.heap.size 3 1 (.slice (some ⟨g, 0, none⟩) (k + 1) gc) (k + 1) (fl ic ((ns.take (k + 1)).map (d0C r)))) := hidIn ⟨hbw.trans hb6, by rw [take_snoc hz, List.map_append]; simp only [List.map_cons, List.map_nil, d0C, if_pos hzr]; exact hown⟩
        have HRun := hidIn hrun
        clear hcell hz hzr hbw hr hrun hown hb6 hbw0 HR
        go_wp2_with (refine l_append rfl _ _ 22 rfl HRun.out ?_)
        go_roundw
        case rel => exact ⟨k + 1, by omega, by go_num, ⟨_, _, rfl⟩, HO⟩
        case measure => simp [intOf]; omega
      · have hq : (z == r) = false := by simpa using hzr
        obtain ⟨g, gc, w6, hrun, hown, _, _, hb6⟩ := append_int hr 1073741824 (by omega) hbw.size
        have HO : Hid (Below W1.heap.size W1 w6 ∧ w6.ownsRow W1.heap.size 3 1 (.slice (some ⟨g, 0, none⟩) (k + 1) gc) (k + 1) (fl ic ((ns.take (k + 1)).map (d0C r)))) := hidIn ⟨hbw.trans hb6, by rw [take_snoc hz, List.map_append]; simp only [List.map_cons, List.map_nil, d0C, if_neg hzr]; exact hown⟩
        have HRun := hidIn hrun
        clear hcell hz hzr hbw hr hrun hown hb6 hbw0 HR
        go_wp2_with (refine l_append rfl _ _ 22 rfl HRun.out ?_)
        go_roundw
        case rel => exact ⟨k + 1, by omega, by go_num, ⟨_, _, rfl⟩, HO⟩
        case measure => simp [intOf]; omega
    · have hki : ¬ (k : Int) < (ln : Int) := by omega
      have hke : k = ln := by omega
      subst hke
      rw [List.take_of_length_le (by have := Hln.out; omega)] at hr
      have HR0 : Hid (Below W1.heap.size W1 wr ∧ wr.ownsRow W1.heap.size 3 1 (.slice ua k uc) k (fl ic (ns.map (bfN es r 0)))) := hidIn ⟨hbw, hr⟩
      clear hbw hr hbw0 HR
      go_wp2_with fail
      clear f0 f1 hki
      go_loopw [7] (fun i wx => ∃ j : Nat, j ≤ k ∧ i = .int .i64 j ∧ Hid (Below W1.heap.size W1 wx ∧ wx.ownsRow W1.heap.size 3 1 (.slice ua k uc) k (fl ic (ns.map (bfN es r j))))) (fun i _ => k - (intOf i).toNat)
      case atStart => exact ⟨0, Nat.zero_le _, rfl, HR0⟩
      case round =>
        clear HR0
        obtain ⟨j, hj, rfl, HRj⟩ := hrel
        obtain ⟨⟨f0, f1⟩, hbw0⟩ := HF.out wr HRj.out.1
        by_cases hltj : j < k
        · have hji : (j : Int) < (k : Int) := by omega
          go_wp2_with fail
          clear f0 f1 hbw0
          go_loopw [8] (fun i wx => ∃ m : Nat, m ≤ le ∧ i = .int .i64 m ∧ Hid (Below W1.heap.size W1 wx ∧ wx.ownsRow W1.heap.size 3 1 (.slice ua k uc) k (fl ic (ns.map ((es.take m).foldl rlx (bfN es r j)))) ∧ SndC es r ((es.take m).foldl rlx (bfN es r j)))) (fun i _ => le - (intOf i).toNat)
          case atStart => exact ⟨0, Nat.zero_le _, rfl, hidIn ⟨HRj.out.1, HRj.out.2, snd_bf es r j⟩⟩
          case round =>
            clear HRj
            obtain ⟨m, hm, rfl, HRm⟩ := hrel
            obtain ⟨hbm, hrm, hsm⟩ := HRm.out
            obtain ⟨⟨f0, f1⟩, hbw0⟩ := HF.out wr hbm
            by_cases hltm : m < le
            · have hmi : (m : Int) < (le : Int) := by omega
              obtain ⟨bk, o, rfl, hbk, hcell⟩ := Hea.out (by have := Hle.out; omega)
              obtain ⟨⟨x, y, c⟩, hz⟩ : ∃ z, es[m]? = some z := ⟨es[m]'(by have := Hle.out; omega), List.getElem?_eq_getElem _⟩
              obtain ⟨q0, q1, q2⟩ := hcell m _ hz
              have hmem := List.mem_of_getElem? hz
              obtain ⟨hxn, hyn⟩ := Hbd.out _ hmem
              have hc := Hpos.out _ hmem
              simp only at q0 q1 q2 hxn hyn hc
              have c0 := (hbw0.cell (p := ⟨bk, o + m * 3, none⟩) hbk).trans q0
              have c1 := (hbw0.cell (p := ⟨bk, o + m * 3 + 1, none⟩) hbk).trans q1
              have c2 := (hbw0.cell (p := ⟨bk, o + m * 3 + 2, none⟩) hbk).trans q2
              obtain ⟨px, hpx⟩ : ∃ px, ns[px]? = some x := List.getElem?_of_mem hxn
              obtain ⟨py, hpy⟩ : ∃ py, ns[py]? = some y := List.getElem?_of_mem hyn
              have hix := plI_some (plN_nodup Hnn.out hpx)
              have hiy := plI_some (plN_nodup Hnn.out hpy)
              have hpk : px < k := by have := (List.getElem?_eq_some_iff.1 hpx).1; have := Hln.out; omega
              have hpk2 : py < k := by have := (List.getElem?_eq_some_iff.1 hpy).1; have := Hln.out; omega
              have hgr := HGr.out
              rw [Hln.out, Hle.out] at hgr
              have HP : Hid (∀ z dd os, Calls Try.prog 26 #[grV (.slice na k nca) (.slice (some ⟨bk, o, none⟩) le eca), .int .i64 z] (Go.Sort.grow (redrawn wr dd) os) fun e w' => e = .returned (.int .i64 (plI ns z)) ∧ Below (Go.Sort.grow (redrawn wr dd) os).heap.size (Go.Sort.grow (redrawn wr dd) os) w') := hidIn fun z dd os => place_any (hgr.keep (hbw0.trans ((below_regrown wr dd os).mono hbw0.size)) (Nat.le_refl _)) z
              obtain ⟨D, hD⟩ : ∃ D, (es.take m).foldl rlx (bfN es r j) = D := ⟨_, rfl⟩
              rw [hD] at hrm hsm
              have hDb : ∀ z, 0 ≤ D z ∧ D z ≤ 1073741824 := fun z => by
                rcases hsm z with h1 | ⟨h1, hh, h2⟩
                · rw [h1]; unfold farC; omega
                · have := (h2.pos Hpos.out).1
                  unfold farC at h1
                  omega
              obtain ⟨g, hua, hgb, hgc, hgf⟩ := rowI_open hrm (by rw [List.length_map]; exact Hln.out) (by omega)
              subst hua
              have HRow := hidIn (And.intro hbm hrm)
              have rx := hgc px (D x) (by rw [List.getElem?_map, hpx]; rfl)
              have ry := hgc py (D y) (by rw [List.getElem?_map, hpy]; rfl)
              have fy := hgf py
              have HNo : Hid (¬ (D x < farC ∧ D x + c < D y) → (es.take (m + 1)).foldl rlx (bfN es r j) = D) := hidIn fun hn => by
                rw [take_snoc hz, List.foldl_append, hD]
                show rlx D (x, y, c) = D
                unfold rlx
                rw [if_neg hn]
              have HYe : Hid ((D x < farC ∧ D x + c < D y) → ns.map ((es.take (m + 1)).foldl rlx (bfN es r j)) = (ns.map D).set py (D x + c)) := hidIn fun hy => by
                rw [take_snoc hz, List.foldl_append, hD, ← map_upd Hnn.out hpy]
                show ns.map (rlx D (x, y, c)) = _
                unfold rlx
                rw [if_pos hy]
              have HSn : Hid (SndC es r ((es.take (m + 1)).foldl rlx (bfN es r j))) := hidIn (by
                rw [take_snoc hz, List.foldl_append, hD]
                exact snd_rlx hmem hsm)
              have Hix := hidIn hix
              have Hiy := hidIn hiy
              have hpki : (px : Int) < (k : Int) := by omega
              have hpki2 : (py : Int) < (k : Int) := by omega
              obtain ⟨hx0, hx1⟩ := hDb x
              obtain ⟨hy0, hy1⟩ := hDb y
              have Hgb := hidIn hgb
              have HD := hidIn hD
              have HB0 := hidIn hbw0
              have HC := hidIn (And.intro hbk (And.intro q0 (And.intro q1 q2)))
              have g0 := cell_regrown f0
              have g1 := cell_regrown f1
              have g2 := cell_regrown c0
              have g3 := cell_regrown c1
              clear hcell hz q0 q1 q2 hmem hxn hyn hpx hpy hix hiy hgr hD hDb hgb hgc hgf hbm hrm hsm hbw0 HRm hpk hpk2 hbk
              go_upto_region 14 with fail
              refine wp_region_quiet_below (by kernel_rfl) (by kernel_rfl) ?_
              repeat (go_big_quiet_step (first | (go_at_call 26; exact Calls.regrown_of (HP.out _ _ _))))
              refine wpQuiet_nil ?_
              intro _ hw'
              obtain ⟨⟨dq, osq⟩, hw''⟩ := hw'
              subst hw''
              rw [Hix.out, Hiy.out]
              have hb := below_regrown wr dq osq
              have HRow2 := hidIn (And.intro (HRow.out.1.trans (hb.mono HRow.out.1.size)) (row_below HRow.out.2 hb (Nat.le_refl _)))
              have k0 := (hb.cell (p := ⟨q, 0, none⟩) (block_lt_of_cell f0)).trans f0
              have k1 := (hb.cell (p := ⟨q, 1, none⟩) (block_lt_of_cell f1)).trans f1
              have k2 := (hb.cell (p := ⟨bk, o + m * 3 + 2, none⟩) (block_lt_of_cell c2)).trans c2
              have k3 := (hb.cell (p := ⟨g, px, none⟩) (block_lt_of_cell rx)).trans rx
              have k4 := (hb.cell (p := ⟨g, py, none⟩) (block_lt_of_cell ry)).trans ry
              generalize Go.Sort.grow (redrawn wr dq) osq = wv at HRow2 k0 k1 k2 k3 k4 ⊢
              clear hb g0 g1 g2 g3 f0 f1 c0 c1 c2 rx ry fy HP HRow HB0
              generalize D x = dx at *
              generalize D y = dy at *
              have hwr2 : wrap64 (dx + c) = dx + c := by unfold wrap64; omega
              have hwr : IntKind.i64.wrap (dx + c) = dx + c := (IntKind.wrap_i64 _).trans (by unfold wrap64 at hwr2; exact hwr2)
              by_cases h1 : dx < farC
              · have h1' : dx < 1073741824 := h1
                by_cases h2 : dx + c < dy
                · have hy : dx < farC ∧ dx + c < dy := ⟨h1, h2⟩
                  have HRn : Hid (∀ wz, Below W1.heap.size W1 wz → wz.ownsRow W1.heap.size 3 1 (.slice (some ⟨g, 0, none⟩) k uc) k (fl ic (ns.map D)) → Below W1.heap.size W1 (wz.setCell ⟨g, py, none⟩ (.int .i64 (dx + c))) ∧ (wz.setCell ⟨g, py, none⟩ (.int .i64 (dx + c))).ownsRow W1.heap.size 3 1 (.slice (some ⟨g, 0, none⟩) k uc) k (fl ic (ns.map ((es.take (m + 1)).foldl rlx (bfN es r j))))) := hidIn fun wz hb hr => ⟨hb.setCell (p := ⟨g, py, none⟩) Hgb.out _, by
                    rw [HYe.out hy, ← flic_set]
                    exact row_set hr py _⟩
                  clear hy
                  have fy := frozen_row HRow2.out.2 py
                  go_upto_region 15 with fail
                  go_quiet (fail)
                  go_upto_region 16 with fail
                  go_region
                  go_wp2_with fail
                  go_roundw
                  case rel =>
                    obtain ⟨h4, h5⟩ := HRn.out _ (below_drewN HRow2.out.1 nq).drew (row_below (row_drewN HRow2.out.2 nq) ((Below.refl _ _).drew) (Nat.le_refl _))
                    exact ⟨m + 1, by omega, by go_num, hidIn ⟨h4, h5, HSn.out⟩⟩
                  case measure => simp [intOf]; omega
                · clear h1
                  have hn : ¬ (dx < farC ∧ dx + c < dy) := fun e => h2 e.2
                  have HRn : Hid (Below W1.heap.size W1 wv ∧ wv.ownsRow W1.heap.size 3 1 (.slice (some ⟨g, 0, none⟩) k uc) k (fl ic (ns.map ((es.take (m + 1)).foldl rlx (bfN es r j)))) ∧ SndC es r ((es.take (m + 1)).foldl rlx (bfN es r j))) := hidIn ⟨HRow2.out.1, by rw [HNo.out hn]; exact HRow2.out.2, HSn.out⟩
                  clear hn
                  go_upto_region 15 with fail
                  go_quiet (fail)
                  go_wp2_with fail
                  go_roundw
                  case rel => exact ⟨m + 1, by omega, by go_num, hidIn ⟨below_drewN HRn.out.1 _, row_drewN HRn.out.2.1 _, HRn.out.2.2⟩⟩
                  case measure => simp [intOf]; omega
              · have h1' : ¬ dx < 1073741824 := h1
                have hn : ¬ (dx < farC ∧ dx + c < dy) := fun e => h1 e.1
                have HRn : Hid (Below W1.heap.size W1 wv ∧ wv.ownsRow W1.heap.size 3 1 (.slice (some ⟨g, 0, none⟩) k uc) k (fl ic (ns.map ((es.take (m + 1)).foldl rlx (bfN es r j)))) ∧ SndC es r ((es.take (m + 1)).foldl rlx (bfN es r j))) := hidIn ⟨HRow2.out.1, by rw [HNo.out hn]; exact HRow2.out.2, HSn.out⟩
                clear hn
                go_upto_region 15 with fail
                go_quiet (fail)
                go_wp2_with fail
                go_roundw
                case rel => exact ⟨m + 1, by omega, by go_num, hidIn ⟨below_drewN HRn.out.1 _, row_drewN HRn.out.2.1 _, HRn.out.2.2⟩⟩
                case measure => simp [intOf]; omega
            · have hmi : ¬ (m : Int) < (le : Int) := by omega
              have HRe : Hid (Below W1.heap.size W1 wr ∧ wr.ownsRow W1.heap.size 3 1 (.slice ua k uc) k (fl ic (ns.map (bfN es r (j + 1))))) := hidIn ⟨hbm, by rw [List.take_of_length_le (by have := Hle.out; omega)] at hrm; exact hrm⟩
              clear hbm hrm hsm hbw0 HRm
              go_wp2_with fail
              go_roundw
              case rel => exact ⟨j + 1, by omega, by go_num, HRe⟩
              case measure => simp [intOf]; omega
        · have hji : ¬ (j : Int) < (k : Int) := by omega
          have hje : j = k := by omega
          subst hje
          have HE : Hid (wr.ownsRow w.heap.size 3 1 (.slice ua j uc) j (fl ic (ns.map (bfN es r j)))) := hidIn (row_low HRj.out.2 Hsz.out)
          have HB := hidIn hbw0
          clear hbw0
          go_wp2_with fail
          go_ret
          exact ⟨⟨_, _, rfl, HE.out⟩, HB.out⟩
end Go.Proofs.Ytabnecicidkmhaa
namespace Go.Proofs.Ytabnecicidkmhaa
open Go.RowKit

/-- Does an edge lie on least-cost ways, by costs? -/
def tgI (D : Int → Int) (e : Ed) : Bool := decide (D e.1 < farC) && (D e.1 + e.2.2 == D e.2.1)
set_option maxRecDepth 100000 in
set_option maxHeartbeats 2000000 in
theorem tight_any {ns : List Int} {es : List Ed} {vn ve cv : Value} {D : Int → Int} {w : World} (h : GrAt w vn ve ns es) (hok : graphOk ns es = true) (hc : SlAt ic 1 w cv (ns.map D)) (hD : ∀ z, 0 ≤ D z ∧ D z ≤ 1073741824) {e : Ed} (he : e ∈ es) :
    Calls Try.prog 35 #[grV vn ve, cv, edV e] w fun x w' => x = .returned (.bool (tgI D e)) ∧ Below w.heap.size w w' := by
  obtain ⟨x, y, c⟩ := e
  obtain ⟨hxn, hyn⟩ := (graphOk_bd hok).2.1 _ he
  have hcp := graphOk_pos hok _ he
  simp only at hxn hyn hcp
  obtain ⟨px, hpx⟩ : ∃ px, ns[px]? = some x := List.getElem?_of_mem hxn
  obtain ⟨py, hpy⟩ : ∃ py, ns[py]? = some y := List.getElem?_of_mem hyn
  have Hix := hidIn (plI_some (plN_nodup (graphOk_nn hok) hpx))
  have Hiy := hidIn (plI_some (plN_nodup (graphOk_nn hok) hpy))
  have hg := h
  obtain ⟨na, nca, rfl, hnl, _, _⟩ := h.n.ints
  obtain ⟨ea, eca, rfl, hel, _, _⟩ := h.e.eds
  obtain ⟨ca, cca, rfl, _, _, hcc⟩ := hc.ints
  obtain ⟨cb, co, rfl, hcb, hccell⟩ := hcc (by rw [List.length_map]; have := (List.getElem?_eq_some_iff.1 hpx).1; omega)
  have hpk : px < ns.length := (List.getElem?_eq_some_iff.1 hpx).1
  have hpk2 : py < ns.length := (List.getElem?_eq_some_iff.1 hpy).1
  have rx := hccell px (D x) (by rw [List.getElem?_map, hpx]; rfl)
  have ry := hccell py (D y) (by rw [List.getElem?_map, hpy]; rfl)
  obtain ⟨W1, hW1⟩ : ∃ W1, (w.alloc (.cells #[.slice na ns.length nca, .slice ea es.length eca] 25)).alloc (.cells #[.int .i64 x, .int .i64 y, .int .i64 c] 54) = W1 := ⟨_, rfl⟩
  have bA : Below w.heap.size w W1 := by rw [← hW1]; exact ((Below.refl _ w).alloc (Nat.le_refl _) _).alloc (by simp) _
  have hGB : W1.heap[w.heap.size]? = some (.cells #[.slice na ns.length nca, .slice ea es.length eca] 25) := by rw [← hW1, Below.heap_alloc _ _ _ (by simp)]; exact heap_alloc_last w _
  have hEB : W1.heap[w.heap.size + 1]? = some (.cells #[.int .i64 x, .int .i64 y, .int .i64 c] 54) := by
    rw [← hW1]
    have := heap_alloc_last (w.alloc (.cells #[.slice na ns.length nca, .slice ea es.length eca] 25)) (.cells #[.int .i64 x, .int .i64 y, .int .i64 c] 54)
    rwa [World.size_alloc] at this
  obtain ⟨q, hqe⟩ : ∃ q, w.heap.size = q := ⟨_, rfl⟩
  have HP : Hid (∀ z dd os, Calls Try.prog 26 #[grV (.slice na ns.length nca) (.slice ea es.length eca), .int .i64 z] (Go.Sort.grow (redrawn W1 dd) os) fun e w' => e = .returned (.int .i64 (plI ns z)) ∧ Below (Go.Sort.grow (redrawn W1 dd) os).heap.size (Go.Sort.grow (redrawn W1 dd) os) w') := hidIn fun z dd os => place_any (hg.keep (bA.trans ((below_regrown W1 dd os).mono bA.size)) (Nat.le_refl _)) z
  replace rx := (bA.cell (p := ⟨cb, co + px, none⟩) hcb).trans rx
  replace ry := (bA.cell (p := ⟨cb, co + py, none⟩) hcb).trans ry
  have HB := hidIn bA
  rw [hqe] at hGB hEB
  have f0 := cell_of_row _ _ 0 _ _ _ hGB
  have f1 := cell_of_row _ _ 1 _ _ _ hGB
  have e0 := cell_of_row _ _ 0 _ _ _ hEB
  have e1 := cell_of_row _ _ 1 _ _ _ hEB
  have e2 := cell_of_row _ _ 2 _ _ _ hEB
  simp at f0 f1 e0 e1 e2
  obtain ⟨hx0, hx1⟩ := hD x
  obtain ⟨hy0, hy1⟩ := hD y
  have HT : Hid (tgI D (x, y, c) = (decide (D x < farC) && (D x + c == D y))) := hidIn rfl
  rw [HT.out]
  generalize D x = dx at *
  generalize D y = dy at *
  obtain ⟨bt, hbt⟩ : ∃ bt, (decide (dx < farC) && (dx + c == dy)) = bt := ⟨_, rfl⟩
  rw [hbt]
  have HBt := hidIn hbt
  clear hbt
  rw [List.length_map]
  obtain ⟨ln, hln⟩ : ∃ ln, ns.length = ln := ⟨_, rfl⟩
  obtain ⟨le, hle⟩ : ∃ le, es.length = le := ⟨_, rfl⟩
  rw [hln] at hnl hpk hpk2 f0 hW1 HP ⊢
  rw [hle] at hel f1 hW1 HP ⊢
  have hpki : (px : Int) < (ln : Int) := by omega
  have hpki2 : (py : Int) < (ln : Int) := by omega
  have hwr2 : wrap64 (dx + c) = dx + c := by unfold wrap64; omega
  have hwr : IntKind.i64.wrap (dx + c) = dx + c := (IntKind.wrap_i64 _).trans (by unfold wrap64 at hwr2; exact hwr2)
  have HW := hidIn hW1
  have g0 := cell_regrown f0
  have g1 := cell_regrown f1
  have g2 := cell_regrown e0
  have g3 := cell_regrown e1
  clear hW1 bA hGB hEB hg h hc hcc hccell hpx hpy hxn hyn he hok hD hcb hln hle HT hpk hpk2
  go_enter Try.func35, Try.ntmps35
  go_upto_region 1 with fail
  rw [HW.out]
  clear HW hqe
  refine wp_region_quiet_below (by kernel_rfl) (by kernel_rfl) ?_
  repeat (go_big_quiet_step (first | (go_at_call 26; exact Calls.regrown_of (HP.out _ _ _))))
  refine wpQuiet_nil ?_
  intro _ hw'
  obtain ⟨⟨dq, osq⟩, hw''⟩ := hw'
  subst hw''
  rw [Hix.out, Hiy.out]
  have hb := below_regrown W1 dq osq
  have HB2 := hidIn (HB.out.trans (hb.mono HB.out.size))
  have k2 := (hb.cell (p := ⟨q + 1, 2, none⟩) (block_lt_of_cell e2)).trans e2
  have k3 := (hb.cell (p := ⟨cb, co + px, none⟩) (block_lt_of_cell rx)).trans rx
  have k4 := (hb.cell (p := ⟨cb, co + py, none⟩) (block_lt_of_cell ry)).trans ry
  generalize Go.Sort.grow (redrawn W1 dq) osq = wv at HB2 k2 k3 k4 ⊢
  clear hb g0 g1 g2 g3 f0 f1 e0 e1 e2 rx ry HP HB
  by_cases h1 : dx < farC
  · have h1' : dx < 1073741824 := h1
    obtain ⟨bq, hbq⟩ : ∃ bq, (dx + c == dy) = bq := ⟨_, rfl⟩
    have HBe : Hid (bt = bq) := hidIn (by rw [← HBt.out, decide_eq_true h1, Bool.true_and]; exact hbq)
    clear h1
    go_upto_region 2 with fail
    go_quiet (fail)
    go_wp2_with fail
    go_ret
    exact ⟨by rw [HBe.out]; rfl, below_drewN HB2.out _⟩
  · have h1' : ¬ dx < 1073741824 := h1
    have HBe : Hid (bt = false) := hidIn (by rw [← HBt.out, decide_eq_false h1, Bool.false_and])
    clear h1
    go_upto_region 2 with fail
    go_quiet (fail)
    go_wp2_with fail
    go_ret
    exact ⟨by rw [HBe.out]; rfl, below_drewN HB2.out _⟩
/-- Tight edges of the document's costs lead into nodes. -/
theorem tg_into {ns : List Int} {es : List Ed} (hok : graphOk ns es = true) {r : Int} (hr : r ∈ ns) {e : Ed} (he : e ∈ es) {d : Int} (hd : Ds es r e.2.1 d) : tgI (bfN es r ns.length) e = true ↔ Into es r e.2.1 e := by
  unfold tgI
  simp only [Bool.and_eq_true, decide_eq_true_eq, beq_iff_eq]
  have hdy : bfN es r ns.length e.2.1 = d := by
    rcases bf_all hok hr e.2.1 with ⟨d', h1, h2, _⟩ | ⟨h1, _⟩
    · rw [h2]; exact h1.uniq hd
    · exact absurd hd (h1 d)
  rw [hdy]
  rcases bf_all hok hr e.1 with ⟨d', h1, h2, _⟩ | ⟨h1, h2⟩
  · rw [h2]
    constructor
    · rintro ⟨_, h3⟩
      exact ⟨he, rfl, d', h1, by rw [h3]; exact hd⟩
    · rintro ⟨_, _, c, h3, h4⟩
      have e1 := h3.uniq h1
      have e2 := h4.uniq hd
      obtain ⟨_, _, _, h7, h8, h9⟩ : ∃ d'', Ds es r e.1 d'' ∧ d' = d'' ∧ bfN es r ns.length e.1 = d'' ∧ 0 ≤ d'' ∧ d'' ≤ 1000 * ns.length := by
        rcases bf_all hok hr e.1 with ⟨d'', k1, k2, k3, k4⟩ | ⟨k1, _⟩
        · exact ⟨d'', k1, h1.uniq k1, k2, k3, k4⟩
        · exact absurd h1 (k1 d')
      have := graphOk_n24 hok
      refine ⟨?_, by omega⟩
      unfold farC
      omega
  · rw [h2]
    constructor
    · rintro ⟨h3, _⟩
      exact absurd h3 (Int.lt_irrefl _)
    · rintro ⟨_, _, c, h3, _⟩
      exact absurd h3 (h1 c)
end Go.Proofs.Ytabnecicidkmhaa
namespace Go.Proofs.Ytabnecicidkmhaa

theorem edgesOk_rise {ns : List Int} : ∀ (es : List Ed) (last : Ed), edgesOk ns last es = true → (∀ e ∈ es, risesE last e = true) ∧ es.Pairwise fun a b => risesE a b = true
  | [], _, _ => by simp
  | a :: es, last, h => by
    simp only [edgesOk, edgeOk, Bool.and_eq_true] at h
    obtain ⟨h1, h2⟩ := edgesOk_rise es a h.2
    have hl : risesE last a = true := h.1.2.2.2.2
    have tr : ∀ x y z : Ed, risesE x y = true → risesE y z = true → risesE x z = true := fun x y z g1 g2 => by
      simp only [risesE, Bool.or_eq_true, Bool.and_eq_true, decide_eq_true_eq] at g1 g2 ⊢
      omega
    refine ⟨fun e he => ?_, List.pairwise_cons.2 ⟨h1, h2⟩⟩
    rcases List.mem_cons.1 he with rfl | he
    · exact hl
    · exact tr _ _ _ hl (h1 e he)
theorem graphOk_nodup {ns : List Int} {es : List Ed} (h : graphOk ns es = true) : es.Nodup := by
  simp only [graphOk, Bool.and_eq_true] at h
  exact (edgesOk_rise es _ h.2.2).2.imp (fun {a b} hr e => by
    subst e
    simp [risesE] at hr)
theorem told_nodup {es : List Ed} (hd : es.Nodup) (P : List (Int × Int)) : ∀ Q : List (Int × Int), (Q.map (·.1)).Nodup → (told es P Q).Nodup
  | [], _ => by simp [told]
  | n :: Q, hq => by
    rw [List.map_cons, List.nodup_cons] at hq
    rw [told, List.nodup_append]
    refine ⟨hd.filter _, told_nodup hd P Q hq.2, fun a ha b hb e => ?_⟩
    subst e
    simp only [List.mem_filter, Bool.and_eq_true, decide_eq_true_eq] at ha
    obtain ⟨⟨m, hm, h1⟩, _⟩ := told_mem.1 hb
    exact hq.1 (List.mem_map.2 ⟨m, hm, by rw [← h1, ha.2.1]⟩)
def two64 : Nat := 18446744073709551616
def cntG (acc was : Nat) (_ : Ed) : Nat := (acc + was) % 18446744073709551616
theorem cntE_step : cntE = stepG cntG := by funext c e; rfl
theorem fold_sum (N : Nat → Nat) : ∀ (L : List Ed) (a : Nat), a < 18446744073709551616 → L.foldl (fun acc e => cntG acc (N e.1.toNat) e) a = (a + (L.map fun e => N e.1.toNat).sum) % 18446744073709551616
  | [], a, h => by simp; omega
  | e :: L, a, h => by
    rw [List.foldl_cons, fold_sum N L _ (by unfold cntG; omega), List.map_cons, List.sum_cons]
    unfold cntG
    omega
theorem perm_into {ns : List Int} {es : List Ed} {r : Int} {P : List (Int × Int)} (hok : graphOk ns es = true) (h : IsNear es r P) (hn : NdOk P) (x : Int) (hx : x ∈ ns) (I : Ed → Bool) (hI : ∀ e, e ∈ es → (I e = true ↔ Into es r x e)) : ((told es P P).filter fun e => decide (e.2.1.toNat = x.toNat)).Perm (es.filter I) := by
  have hbd := graphOk_bd hok
  have h0 : ∀ n ∈ P, 0 ≤ n.1 := fun n h1 => by have := (hn.2 n h1).1; omega
  have hd := graphOk_nodup hok
  rw [List.perm_ext_iff_of_nodup ((told_nodup hd P P h.nd).filter _) (hd.filter _)]
  intro e
  rw [List.mem_filter, List.mem_filter, h.told_iff h0, decide_eq_true_eq]
  have h2 := hbd.1 x hx
  constructor
  · rintro ⟨⟨h1, d, hd1, hd2⟩, h3⟩
    have h4 := hbd.1 _ (hbd.2.1 e h1).2
    have h5 : e.2.1 = x := by omega
    exact ⟨h1, (hI e h1).2 ⟨h1, h5, d, hd1, by rw [← h5]; exact hd2⟩⟩
  · rintro ⟨h1, h3⟩
    obtain ⟨_, h4, d, hd1, hd2⟩ := (hI e h1).1 h3
    exact ⟨⟨h1, d, hd1, by rw [h4]; exact hd2⟩, by rw [h4]⟩
/-- As many ways as those ahead have together. -/
theorem cnt_all {ns : List Int} {es : List Ed} {r : Int} {P : List (Int × Int)} (hok : graphOk ns es = true) (hr : r ∈ ns) (h : IsNear es r P) (hn : NdOk P) (x : Int) (hx : x ∈ ns) (I : Ed → Bool) (hI : ∀ e, e ∈ es → (I e = true ↔ Into es r x e)) :
    cntT r (told es P P) x.toNat = ((if x = r then 1 else 0) + ((es.filter I).map fun e => cntT r (told es P P) e.1.toNat).sum) % 18446744073709551616 := by
  have hp := graphOk_pos hok
  have hbd := graphOk_bd hok
  have h0 : ∀ n ∈ P, 0 ≤ n.1 := fun n h1 => by have := (hn.2 n h1).1; omega
  have hfold := topo_fold cntG (putV (fun _ => 0) r.toNat 1) _ _ rfl (h.topo h0 hp) x.toNat
  have h1 := hbd.1 x hx
  have h2 := hbd.1 r hr
  have hcnt : ∀ y, (told es P P).foldl (stepG cntG) (putV (fun _ => 0) r.toNat 1) y = cntT r (told es P P) y := fun y => by unfold cntT; rw [cntE_step]; rfl
  rw [hcnt] at hfold
  rw [hfold]
  have hi : putV (fun _ => 0) r.toNat 1 x.toNat = (if x = r then 1 else 0 : Nat) := by
    unfold putV
    by_cases e : x = r
    · rw [if_pos (by rw [e]), if_pos e]
    · rw [if_neg (by omega), if_neg e]
  rw [hi]
  have hf : ∀ (L : List Ed) (a : Nat), L.foldl (fun acc e => cntG acc ((told es P P).foldl (stepG cntG) (putV (fun _ => 0) r.toNat 1) e.1.toNat) e) a = L.foldl (fun acc e => cntG acc (cntT r (told es P P) e.1.toNat) e) a := fun L a => by
    congr
  rw [hf, fold_sum _ _ _ (by split <;> omega), ((perm_into hok h hn x hx I hI).map _).sum_nat]
end Go.Proofs.Ytabnecicidkmhaa
namespace Go.Proofs.Ytabnecicidkmhaa

def wh (es : List Ed) (a : Int) : Nat → Int → Int → Nat
  | 0, x, c => if x = a ∧ c = 0 then 1 else 0
  | h + 1, x, c => (es.map fun e => if e.2.1 = x then wh es a h e.1 (c - e.2.2) else 0).sum
theorem sum_add (es : List Ed) (F G : Ed → Nat) : (es.map fun e => F e + G e).sum = (es.map F).sum + (es.map G).sum := by
  induction es with
  | nil => rfl
  | cons e es ih => simp only [List.map_cons, List.sum_cons, ih]; omega
theorem sum_swap (fs : List Ed) (G : Ed → Ed → Nat) : ∀ es : List Ed, (es.map fun e => (fs.map fun f => G e f).sum).sum = (fs.map fun f => (es.map fun e => G e f).sum).sum
  | [] => by
    have : ∀ fs : List Ed, (fs.map fun _ => 0).sum = 0 := fun fs => by induction fs with | nil => rfl | cons f fs ih => rw [List.map_cons, List.sum_cons, ih]
    simp only [List.map_nil, List.sum_nil]
    exact (this fs).symm
  | e :: es => by
    simp only [List.map_cons, List.sum_cons]
    rw [sum_swap fs G es, sum_add]
theorem sum_if (es : List Ed) (p : Prop) [Decidable p] (F : Ed → Nat) : (if p then (es.map F).sum else 0) = (es.map fun e => if p then F e else 0).sum := by
  by_cases h : p
  · simp only [h, if_true]
  · simp only [h, if_false]
    induction es with
    | nil => rfl
    | cons e es ih => rw [List.map_cons, List.sum_cons, ← ih]
theorem sum_congr {es : List Ed} {F G : Ed → Nat} (h : ∀ e ∈ es, F e = G e) : (es.map F).sum = (es.map G).sum := by
  rw [List.map_congr_left h]
theorem wh_first (es : List Ed) : ∀ (h : Nat) (a x c : Int), wh es a (h + 1) x c = (es.map fun e => if e.1 = a then wh es e.2.1 h x (c - e.2.2) else 0).sum
  | 0, a, x, c => by
    refine sum_congr fun e _ => ?_
    simp only [wh]
    by_cases h1 : e.2.1 = x <;> by_cases h2 : e.1 = a <;> simp [h1, h2]
    intro h3
    exact absurd h3.symm h1
  | h + 1, a, x, c => by
    have h1 : wh es a (h + 2) x c = (es.map fun e => (es.map fun f => if e.2.1 = x then (if f.1 = a then wh es f.2.1 h e.1 (c - e.2.2 - f.2.2) else 0) else 0).sum).sum := by
      refine sum_congr fun e _ => ?_
      rw [wh_first es h a e.1 (c - e.2.2), sum_if]
    have h2 : (es.map fun f => if f.1 = a then wh es f.2.1 (h + 1) x (c - f.2.2) else 0).sum = (es.map fun f => (es.map fun e => if f.1 = a then (if e.2.1 = x then wh es f.2.1 h e.1 (c - f.2.2 - e.2.2) else 0) else 0).sum).sum := by
      refine sum_congr fun f _ => ?_
      rw [← sum_if]
      rfl
    rw [h1, h2, sum_swap]
    refine sum_congr fun f _ => sum_congr fun e _ => ?_
    by_cases g1 : e.2.1 = x <;> by_cases g2 : f.1 = a <;> simp [g1, g2]
    congr 1
    omega
def turnE (e : Ed) : Ed := (e.2.1, e.1, e.2.2)
theorem turn_perm {es : List Ed} (hd : es.Nodup) (hs : BothW es) : (es.map turnE).Perm es := by
  have hinj : (es.map turnE).Nodup := by
    refine List.Pairwise.map _ ?_ hd
    intro a b hab e
    apply hab
    obtain ⟨a1, a2, a3⟩ := a
    obtain ⟨b1, b2, b3⟩ := b
    simp only [turnE, Prod.mk.injEq] at e ⊢
    exact ⟨e.2.1, e.1, e.2.2⟩
  rw [List.perm_ext_iff_of_nodup hinj hd]
  intro e
  constructor
  · intro h
    obtain ⟨f, hf, rfl⟩ := List.mem_map.1 h
    exact hs f hf
  · intro h
    exact List.mem_map.2 ⟨_, hs e h, rfl⟩
theorem wh_turn {es : List Ed} (hd : es.Nodup) (hs : BothW es) : ∀ (h : Nat) (a x c : Int), wh es a h x c = wh es x h a c
  | 0, a, x, c => by
    simp only [wh]
    by_cases e : x = a
    · subst e; rfl
    · rw [if_neg (fun h => e h.1), if_neg (fun h => e h.1.symm)]
  | h + 1, a, x, c => by
    rw [wh_first es h x a c]
    show (es.map fun e => if e.2.1 = x then wh es a h e.1 (c - e.2.2) else 0).sum = _
    rw [← ((turn_perm hd hs).map fun e => if e.2.1 = x then wh es a h e.1 (c - e.2.2) else 0).sum_nat, List.map_map]
    refine sum_congr fun e _ => ?_
    show (if e.1 = x then wh es a h e.2.1 (c - e.2.2) else 0) = _
    rw [wh_turn hd hs h a e.2.1]
/-- Where there are such ways, there is one. -/
theorem wh_wy {es : List Ed} {a : Int} : ∀ {h : Nat} {x c : Int}, 0 < wh es a h x c → Wy es a x c h
  | 0, x, c, hw => by
    simp only [wh] at hw
    split at hw
    · rename_i h1
      rw [h1.1, h1.2]
      exact Wy.refl _ _
    · omega
  | h + 1, x, c, hw => by
    have : ∃ e ∈ es, e.2.1 = x ∧ 0 < wh es a h e.1 (c - e.2.2) := Classical.byContradiction fun hno => by
      have h0 : wh es a (h + 1) x c = (es.map fun _ => 0).sum := sum_congr fun e he => by
        by_cases h1 : e.2.1 = x
        · rw [if_pos h1]
          exact Nat.eq_zero_of_not_pos fun h2 => hno ⟨e, he, h1, h2⟩
        · rw [if_neg h1]
      have hz : (es.map fun _ => 0).sum = 0 := by
        clear h0 hw hno
        induction es with
        | nil => rfl
        | cons e es ih => rw [List.map_cons, List.sum_cons, ih]
      omega
    obtain ⟨e, he, h1, h2⟩ := this
    have h3 := (wh_wy h2).step he
    rw [h1, Int.sub_add_cancel] at h3
    exact h3
end Go.Proofs.Ytabnecicidkmhaa
namespace Go.Proofs.Ytabnecicidkmhaa

/-- How many ways cost d. -/
def waysN (es : List Ed) (r x d : Int) : Nat := ((List.range (d.toNat + 1)).map fun h => wh es r h x d).sum
theorem sumN_zero {F : Nat → Nat} : ∀ {l : List Nat}, (∀ h ∈ l, F h = 0) → (l.map F).sum = 0
  | [], _ => rfl
  | h :: l, hz => by rw [List.map_cons, List.sum_cons, hz h (by simp), sumN_zero (l := l) (fun k hk => hz k (by simp [hk]))]
theorem sumN_swap (es : List Ed) (G : Nat → Ed → Nat) : ∀ l : List Nat, (l.map fun h => (es.map fun e => G h e).sum).sum = (es.map fun e => (l.map fun h => G h e).sum).sum
  | [] => by
    simp only [List.map_nil, List.sum_nil]
    induction es with
    | nil => rfl
    | cons e es ih =>
      rw [List.map_cons, List.sum_cons, ← ih]
      rfl
  | h :: l => by
    simp only [List.map_cons, List.sum_cons]
    rw [sumN_swap es G l, sum_add]
/-- More hops than the cost: none. -/
theorem wh_far {es : List Ed} (hp : PosE es) {r x c : Int} {h : Nat} (hc : c < h) : wh es r h x c = 0 :=
  Nat.eq_zero_of_not_pos fun h0 => by have := ((wh_wy h0).pos hp).1; omega
theorem range_more (F : Nat → Nat) (n : Nat) : ∀ m, (∀ h, n ≤ h → F h = 0) → ((List.range (n + m)).map F).sum = ((List.range n).map F).sum
  | 0, _ => rfl
  | m + 1, hz => by
    rw [← Nat.add_assoc, List.range_succ, List.map_append, List.sum_append, range_more F n m hz]
    simp [hz (n + m) (by omega)]
theorem sum_filter (I : Ed → Bool) (F : Ed → Nat) : ∀ es : List Ed, ((es.filter I).map F).sum = (es.map fun e => if I e = true then F e else 0).sum
  | [] => rfl
  | e :: es => by
    by_cases h : I e = true
    · rw [List.filter_cons_of_pos h, List.map_cons, List.sum_cons, sum_filter I F es, List.map_cons, List.sum_cons, if_pos h]
    · rw [List.filter_cons_of_neg h, sum_filter I F es, List.map_cons, List.sum_cons, if_neg h, Nat.zero_add]
theorem sum_mod (F : Ed → Nat) (M a : Nat) : ∀ es : List Ed, (a + (es.map fun e => F e % M).sum) % M = (a + (es.map F).sum) % M := by
  intro es
  induction es generalizing a with
  | nil => rfl
  | cons e es ih =>
    simp only [List.map_cons, List.sum_cons]
    have h1 : (a + F e % M) % M = (a + F e) % M := Nat.add_mod_mod _ _ _
    rw [← Nat.add_assoc, ← Nat.add_assoc, ih (a + F e % M), Nat.add_mod (a + F e % M), h1, ← Nat.add_mod]
theorem waysN_step {ns : List Int} {es : List Ed} {r x d : Int} (hok : graphOk ns es = true) (hd : Ds es r x d) (I : Ed → Bool) (hI : ∀ e, e ∈ es → (I e = true ↔ Into es r x e)) :
    waysN es r x d = (if x = r then 1 else 0) + ((es.filter I).map fun e => waysN es r e.1 (d - e.2.2)).sum := by
  have hp := graphOk_pos hok
  have hd0 := hd.nonneg hp
  unfold waysN
  rw [List.range_succ_eq_map, List.map_cons, List.sum_cons, List.map_map]
  have h1 : wh es r 0 x d = if x = r then 1 else 0 := by
    simp only [wh]
    by_cases e : x = r
    · subst e
      rw [if_pos ⟨rfl, hd.uniq (ds_root hp)⟩, if_pos rfl]
    · rw [if_neg (fun h => e h.1), if_neg e]
  rw [h1]
  congr 1
  have h2 : ((List.range d.toNat).map ((fun h => wh es r h x d) ∘ Nat.succ)).sum = ((List.range d.toNat).map fun h => (es.map fun e => if e.2.1 = x then wh es r h e.1 (d - e.2.2) else 0).sum).sum := rfl
  rw [h2, sumN_swap, sum_filter]
  refine sum_congr fun e he => ?_
  by_cases hin : I e = true
  · rw [if_pos hin]
    obtain ⟨_, h3, d', h4, h5⟩ := (hI e he).1 hin
    have h6 := hd.uniq h5
    have h7 := hp e he
    have h8 := h4.nonneg hp
    simp only [h3, if_true]
    obtain ⟨m, hm⟩ : ∃ m, d.toNat = ((d - e.2.2).toNat + 1) + m := ⟨d.toNat - ((d - e.2.2).toNat + 1), by omega⟩
    rw [hm]
    exact range_more _ _ m (fun h hh => wh_far hp (by omega))
  · rw [if_neg hin]
    refine sumN_zero fun h _ => ?_
    by_cases h3 : e.2.1 = x
    · rw [if_pos h3]
      refine Nat.eq_zero_of_not_pos fun h0 => hin ((hI e he).2 ?_)
      exact (into_last hd he (wh_wy h0) h3.symm (by omega)).1
    · rw [if_neg h3]
open Classical in
theorem cnt_ways {ns : List Int} {es : List Ed} {r : Int} {P : List (Int × Int)} (hok : graphOk ns es = true) (hr : r ∈ ns) (h : IsNear es r P) (hn : NdOk P) :
    ∀ (n : Nat) (x d : Int), d.toNat = n → x ∈ ns → Ds es r x d → cntT r (told es P P) x.toNat = waysN es r x d % 18446744073709551616 := by
  have hp := graphOk_pos hok
  have hbd := graphOk_bd hok
  intro n
  induction n using Nat.strongRecOn with
  | _ n ih =>
  intro x d hdn hx hd
  have hI : ∀ e, e ∈ es → (decide (Into es r x e) = true ↔ Into es r x e) := fun e _ => decide_eq_true_iff
  rw [cnt_all hok hr h hn x hx (fun e => decide (Into es r x e)) hI, waysN_step hok hd (fun e => decide (Into es r x e)) hI]
  rw [← sum_mod (fun e => waysN es r e.1 (d - e.2.2))]
  congr 2
  refine sum_congr fun e he => ?_
  rw [List.mem_filter, decide_eq_true_iff] at he
  obtain ⟨h1, h2, d', h3, h4⟩ := he.2
  have h5 := hd.uniq h4
  have h6 := hp e h1
  have h7 := h3.nonneg hp
  rw [show d - e.2.2 = d' by omega]
  exact ih d'.toNat (by omega) e.1 d' rfl (hbd.2.1 e h1).1 h3
/-- As many ways back. -/
theorem waysN_turn {es : List Ed} (hd : es.Nodup) (hs : BothW es) (a x d : Int) : waysN es a x d = waysN es x a d := by
  unfold waysN
  congr 1
  exact List.map_congr_left fun h _ => wh_turn hd hs h a x d
end Go.Proofs.Ytabnecicidkmhaa
namespace Go.Proofs.Ytabnecicidkmhaa

theorem cnt_row (y : Int) : ∀ (F : List Ed) (c : Nat → Nat), (∀ e ∈ F, e.1 = y ∧ e.2.1.toNat ≠ y.toNat) → (F.Pairwise fun a b => a.2.1.toNat ≠ b.2.1.toNat) →
    (F.foldl cntE c) y.toNat = c y.toNat ∧ (∀ j, (F.foldl cntE c) j ≤ c j + c y.toNat) ∧ ∀ j, (∀ e ∈ F, e.2.1.toNat ≠ j) → (F.foldl cntE c) j = c j
  | [], c, _, _ => ⟨rfl, fun j => by simp, fun j _ => rfl⟩
  | e :: F, c, h, hp => by
    rw [List.pairwise_cons] at hp
    have he := h e (by simp)
    have hy : cntE c e y.toNat = c y.toNat := by unfold cntE putN; rw [if_neg (fun q => he.2 q.symm)]
    obtain ⟨h1, h2, h3⟩ := cnt_row y F (cntE c e) (fun f hf => h f (by simp [hf])) hp.2
    rw [List.foldl_cons]
    refine ⟨by rw [h1, hy], fun j => ?_, fun j hj => ?_⟩
    · by_cases hj : j = e.2.1.toNat
      · have h4 := h3 j (fun f hf q => hp.1 f hf (by rw [q, hj]))
        rw [h4]
        unfold cntE putN
        rw [if_pos hj, he.1, hj]
        exact Nat.mod_le _ _
      · have h4 := h2 j
        have h5 : cntE c e j = c j := by unfold cntE putN; rw [if_neg hj]
        rw [hy, h5] at h4
        exact h4
    · have h4 := h3 j (fun f hf => hj f (by simp [hf]))
      rw [h4]
      unfold cntE putN
      rw [if_neg (fun q => hj e (by simp) q.symm)]
theorem cnt_bound {ns : List Int} {es : List Ed} (hok : graphOk ns es = true) (hp : PosE es) (P : List (Int × Int)) (hne : ∀ e ∈ es, e.1 ≠ e.2.1) : ∀ (Q : List (Int × Int)) (c : Nat → Nat) (B : Nat), (∀ j, c j ≤ B) → ∀ j, ((told es P Q).foldl cntE c) j ≤ B * 2 ^ Q.length
  | [], c, B, h, j => by simpa [told] using h j
  | n :: Q, c, B, h, j => by
    have hbd := graphOk_bd hok
    have hr : es.Pairwise fun a b => risesE a b = true := by
      simp only [graphOk, Bool.and_eq_true] at hok
      exact (edgesOk_rise es _ hok.2.2).2
    rw [told, List.foldl_append]
    have hrow := cnt_row n.1 (es.filter fun e => decide (e.1 = n.1) && tgt es (cP P) P e) c (fun e he => by
      simp only [List.mem_filter, Bool.and_eq_true, decide_eq_true_eq] at he
      refine ⟨he.2.1, fun q => hne e he.1 ?_⟩
      have h1 := hbd.1 _ (hbd.2.1 e he.1).1
      have h2 := hbd.1 _ (hbd.2.1 e he.1).2
      rw [he.2.1] at h1 ⊢
      omega) (by
      have hf := hr.filter fun e => decide (e.1 = n.1) && tgt es (cP P) P e
      refine (List.pairwise_iff_forall_sublist.2 fun {a b} hab => ?_)
      have ha : a ∈ es.filter fun e => decide (e.1 = n.1) && tgt es (cP P) P e := hab.subset (by simp)
      have hb : b ∈ es.filter fun e => decide (e.1 = n.1) && tgt es (cP P) P e := hab.subset (by simp)
      have h3 := List.pairwise_iff_forall_sublist.1 hf hab
      simp only [List.mem_filter, Bool.and_eq_true, decide_eq_true_eq] at ha hb
      simp only [risesE, Bool.or_eq_true, Bool.and_eq_true, decide_eq_true_eq] at h3
      have h4 := hbd.1 _ (hbd.2.1 a ha.1).2
      have h5 := hbd.1 _ (hbd.2.1 b hb.1).2
      omega)
    have h6 := cnt_bound hok hp P hne Q ((es.filter fun e => decide (e.1 = n.1) && tgt es (cP P) P e).foldl cntE c) (B * 2) (fun i => by
      have := hrow.2.1 i
      have := h i
      have := h n.1.toNat
      omega) j
    rw [List.length_cons, Nat.pow_succ, Nat.mul_comm (2 ^ Q.length), ← Nat.mul_assoc]
    exact h6
theorem graphOk_ne {ns : List Int} {es : List Ed} (h : graphOk ns es = true) : ∀ e ∈ es, e.1 ≠ e.2.1 := by
  simp only [graphOk, Bool.and_eq_true] at h
  have key : ∀ (es : List Ed) (last : Ed), edgesOk ns last es = true → ∀ e ∈ es, e.1 ≠ e.2.1 := by
    intro es
    induction es with
    | nil => intro _ _ e he; simp at he
    | cons a es ih =>
      intro last h e he
      simp only [edgesOk, edgeOk, Bool.and_eq_true] at h
      rcases List.mem_cons.1 he with rfl | he
      · simpa using h.1.2.2.1
      · exact ih a h.2 e he
  exact key es _ h.2.2
theorem sum_le {F : Ed → Nat} {B : Nat} : ∀ {es : List Ed}, (∀ e ∈ es, F e ≤ B) → (es.map F).sum ≤ es.length * B
  | [], _ => by simp
  | e :: es, h => by
    rw [List.map_cons, List.sum_cons, List.length_cons, Nat.succ_mul]
    have h1 := h e (by simp)
    have h2 := sum_le (es := es) (F := F) (fun f hf => h f (by simp [hf]))
    omega
theorem sum_ge {F : Ed → Nat} : ∀ {es : List Ed} {e : Ed}, e ∈ es → F e ≤ (es.map F).sum
  | a :: es, e, h => by
    rw [List.map_cons, List.sum_cons]
    rcases List.mem_cons.1 h with rfl | h
    · omega
    · have := sum_ge (F := F) h; omega
open Classical in
theorem cnt_pos {ns : List Int} {es : List Ed} {r : Int} {P : List (Int × Int)} (hok : graphOk ns es = true) (hr : r ∈ ns) (h : IsNear es r P) (hn : NdOk P) :
    ∀ (n : Nat) (x d : Int), d.toNat = n → x ∈ ns → Ds es r x d → 0 < cntT r (told es P P) x.toNat := by
  have hp := graphOk_pos hok
  have hbd := graphOk_bd hok
  have hB : ∀ j, cntT r (told es P P) j ≤ 33554432 := fun j => by
    have h1 := cnt_bound hok hp P (graphOk_ne hok) P (putN (fun _ => 0) r.toNat 1) 1 (fun i => by unfold putN; split <;> simp) j
    have h2 : (2 : Nat) ^ P.length ≤ 2 ^ 25 := Nat.pow_le_pow_right (by omega) hn.1
    have h3 : (2 : Nat) ^ 25 = 33554432 := by decide
    have h4 : cntT r (told es P P) j ≤ 1 * 2 ^ P.length := h1
    omega
  intro n
  induction n using Nat.strongRecOn with
  | _ n ih =>
  intro x d hdn hx hd
  have hI : ∀ e, e ∈ es → (decide (Into es r x e) = true ↔ Into es r x e) := fun e _ => decide_eq_true_iff
  have hc := cnt_all hok hr h hn x hx (fun e => decide (Into es r x e)) hI
  have hs := sum_le (es := es.filter fun e => decide (Into es r x e)) (F := fun e => cntT r (told es P P) e.1.toNat) (fun e _ => hB _)
  have hl : (es.filter fun e => decide (Into es r x e)).length ≤ 384 := Nat.le_trans (List.length_filter_le _ _) hbd.2.2
  have hm : (es.filter fun e => decide (Into es r x e)).length * 33554432 ≤ 384 * 33554432 := Nat.mul_le_mul_right _ hl
  by_cases hxr : x = r
  · rw [if_pos hxr] at hc
    omega
  · rw [if_neg hxr] at hc
    obtain ⟨e, he⟩ := into_some hp hd hxr
    have hge := sum_ge (F := fun e => cntT r (told es P P) e.1.toNat) (es := es.filter fun e => decide (Into es r x e)) (e := e) (List.mem_filter.2 ⟨he.1, decide_eq_true_iff.2 he⟩)
    obtain ⟨h1, h2, d', h3, h4⟩ := he
    have h5 := hd.uniq h4
    have h6 := hp e h1
    have h7 := h3.nonneg hp
    have h8 := ih d'.toNat (by omega) e.1 d' rfl (hbd.2.1 e h1).1 h3
    omega
/-- Where there is no way, it has none. -/
theorem cnt_none {ns : List Int} {es : List Ed} {r : Int} {P : List (Int × Int)} (hok : graphOk ns es = true) (hr : r ∈ ns) (h : IsNear es r P) (hn : NdOk P) {x : Int} (hx : x ∈ ns) (hno : ∀ d, ¬ Ds es r x d) : cntT r (told es P P) x.toNat = 0 := by
  have hc := cnt_all hok hr h hn x hx (fun _ => false) (fun e _ => ⟨fun hf => by simp at hf, fun hI => absurd hI.2.2.choose_spec.2 (hno _)⟩)
  have hxr : x ≠ r := fun e => hno 0 (by rw [e]; exact ds_root (graphOk_pos hok))
  rw [if_neg hxr] at hc
  rw [hc, show (es.filter fun _ => false) = [] from by simp]
  rfl
end Go.Proofs.Ytabnecicidkmhaa
namespace Go.Proofs.Ytabnecicidkmhaa

def m64 : Nat := 18446744073709551616
/-- How many least-cost ways there are, by costs. -/
def wN (es : List Ed) (r : Int) (D : Int → Int) (x : Int) : Nat := if D x < farC then waysN es r x (D x) % m64 else 0
/-- What stands when all costs up to c are done. -/
def cntO (es : List Ed) (r : Int) (D : Int → Int) (c : Int) : Int → Nat := fun x => if D x ≤ c then wN es r D x else 0
/-- What stands amid the cost c: the first nodes are done. -/
def cntN (es : List Ed) (r : Int) (D : Int → Int) (c : Int) (done : List Int) : Int → Nat := fun x => if D x < c ∨ (D x = c ∧ x ∈ done) then wN es r D x else 0
/-- What is added up for a node, edge by edge. -/
def addE (D : Int → Int) (N : Int → Nat) (x : Int) (L : List Ed) : Nat := L.foldl (fun s e => if e.2.1 = x ∧ tgI D e = true then (s + N e.1) % m64 else s) 0
theorem addE_snoc (D : Int → Int) (N : Int → Nat) (x : Int) (L : List Ed) (e : Ed) : addE D N x (L ++ [e]) = if e.2.1 = x ∧ tgI D e = true then (addE D N x L + N e.1) % m64 else addE D N x L := by
  unfold addE
  rw [List.foldl_append]
  rfl
theorem addE_sum (D : Int → Int) (N : Int → Nat) (x : Int) : ∀ L : List Ed, addE D N x L = ((L.filter fun e => decide (e.2.1 = x) && tgI D e).map fun e => N e.1).sum % m64 := by
  have key : ∀ (L : List Ed) (s : Nat), s < m64 → L.foldl (fun s e => if e.2.1 = x ∧ tgI D e = true then (s + N e.1) % m64 else s) s = (s + ((L.filter fun e => decide (e.2.1 = x) && tgI D e).map fun e => N e.1).sum) % m64 := fun L => by
    induction L with
    | nil => intro s hs; simp [Nat.mod_eq_of_lt hs]
    | cons e L ih =>
      intro s hs
      rw [List.foldl_cons]
      by_cases h : e.2.1 = x ∧ tgI D e = true
      · rw [if_pos h, ih _ (Nat.mod_lt _ (by decide)), List.filter_cons_of_pos (by simp [h.1, h.2]), List.map_cons, List.sum_cons, Nat.mod_add_mod, Nat.add_assoc]
      · rw [if_neg h, ih s hs, List.filter_cons_of_neg (by
          intro h2
          simp only [Bool.and_eq_true, decide_eq_true_eq] at h2
          exact h h2)]
  intro L
  have := key L 0 (by decide)
  rw [Nat.zero_add] at this
  exact this
theorem bf_d {ns : List Int} {es : List Ed} (hok : graphOk ns es = true) {r : Int} (hr : r ∈ ns) {x : Int} (h : bfN es r ns.length x < farC) : Ds es r x (bfN es r ns.length x) ∧ 0 ≤ bfN es r ns.length x ∧ bfN es r ns.length x ≤ 24000 := by
  rcases bf_all hok hr x with ⟨d, h1, h2, h3, h4⟩ | ⟨_, h2⟩
  · rw [h2]
    have := graphOk_n24 hok
    exact ⟨h1, h3, by omega⟩
  · rw [h2] at h; exact absurd h (Int.lt_irrefl _)
theorem bf_zero {ns : List Int} {es : List Ed} (hok : graphOk ns es = true) {r : Int} (hr : r ∈ ns) (x : Int) : bfN es r ns.length x ≤ 0 ↔ x = r := by
  have hp := graphOk_pos hok
  constructor
  · intro h
    obtain ⟨h1, h2, _⟩ := bf_d hok hr (x := x) (by unfold farC; omega)
    obtain ⟨k, hk⟩ := h1.1
    have := (hk.pos hp).1
    exact (hk.zero (by omega)).1
  · rintro rfl
    have hd := ds_root (es := es) (r := x) hp
    rcases bf_all hok hr x with ⟨d, h1, h2, _⟩ | ⟨h1, _⟩
    · rw [h2, h1.uniq hd]; exact Int.le_refl _
    · exact absurd hd (h1 0)
/-- The start: one way to the root. -/
theorem cnt_start {ns : List Int} {es : List Ed} (hok : graphOk ns es = true) {r : Int} (hr : r ∈ ns) (x : Int) : cntO es r (bfN es r ns.length) 0 x = if x = r then 1 else 0 := by
  unfold cntO
  by_cases hx : x = r
  · have h0 := (bf_zero hok hr x).2 hx
    rw [if_pos h0, if_pos hx]
    obtain ⟨h1, h2, h3⟩ := bf_d hok hr (x := x) (by unfold farC; omega)
    have hz : bfN es r ns.length x = 0 := by omega
    unfold wN
    rw [if_pos (by rw [hz]; decide), hz]
    unfold waysN
    simp [wh, hx, m64]
  · rw [if_neg (fun h => hx ((bf_zero hok hr x).1 h)), if_neg hx]
/-- A node's edges, added up. -/
theorem cnt_node {ns : List Int} {es : List Ed} (hok : graphOk ns es = true) {r : Int} (hr : r ∈ ns) {x c : Int} {done : List Int} (hc : 1 ≤ c) (hc2 : c ≤ 24000) (hx : bfN es r ns.length x = c) : addE (bfN es r ns.length) (cntN es r (bfN es r ns.length) c done) x es = wN es r (bfN es r ns.length) x := by
  have hp := graphOk_pos hok
  obtain ⟨hd, _, _⟩ := bf_d hok hr (x := x) (by unfold farC; omega)
  have hxr : x ≠ r := fun e => by
    have := (bf_zero hok hr x).2 e
    omega
  rw [addE_sum]
  have hI : ∀ e, e ∈ es → ((fun e : Ed => decide (e.2.1 = x) && tgI (bfN es r ns.length) e) e = true ↔ Into es r x e) := fun e he => by
    simp only [Bool.and_eq_true, decide_eq_true_eq]
    constructor
    · rintro ⟨h1, h2⟩
      subst h1
      exact (tg_into hok hr he hd).1 h2
    · intro h1
      have h2 := h1.2.1
      subst h2
      exact ⟨rfl, (tg_into hok hr he hd).2 h1⟩
  unfold wN
  rw [if_pos (by unfold farC; omega), waysN_step hok hd _ hI, if_neg hxr]
  have hm := sum_mod (fun e => waysN es r e.1 (bfN es r ns.length x - e.2.2)) m64 0 (es.filter fun e => decide (e.2.1 = x) && tgI (bfN es r ns.length) e)
  simp only [Nat.zero_add] at hm ⊢
  rw [← hm]
  congr 1
  refine sum_congr fun e he => ?_
  obtain ⟨he1, he2⟩ := List.mem_filter.1 he
  obtain ⟨_, h2, d', h3, h4⟩ := (hI e he1).1 he2
  have h5 := h4.uniq hd
  have hpe := hp e he1
  have hde : bfN es r ns.length e.1 = d' := by
    rcases bf_all hok hr e.1 with ⟨d'', k1, k2, _⟩ | ⟨k1, _⟩
    · rw [k2]; exact k1.uniq h3
    · exact absurd h3 (k1 d')
  have hlt : bfN es r ns.length e.1 < c := by rw [hde]; omega
  unfold cntN
  rw [if_pos (.inl hlt)]
  unfold wN
  rw [if_pos (by unfold farC; omega), hde]
  congr 1
  rw [show bfN es r ns.length x - e.2.2 = d' by omega]
theorem cntN_nil (es : List Ed) (r : Int) (D : Int → Int) (c x : Int) : cntN es r D c [] x = cntO es r D (c - 1) x := by
  unfold cntN cntO
  by_cases h : D x < c
  · rw [if_pos (.inl h), if_pos (by omega)]
  · rw [if_neg (by simp; omega), if_neg (by omega)]
theorem cntN_all {es : List Ed} {r : Int} {D : Int → Int} {c : Int} {ns : List Int} {x : Int} (hx : x ∈ ns) : cntN es r D c ns x = cntO es r D c x := by
  unfold cntN cntO
  by_cases h : D x ≤ c
  · rw [if_pos (by by_cases h2 : D x = c; exact .inr ⟨h2, hx⟩; exact .inl (by omega)), if_pos h]
  · rw [if_neg (by intro e; rcases e with e | e <;> omega), if_neg h]
/-- A node more is done, of another cost: nothing turns. -/
theorem cntN_skip {es : List Ed} {r : Int} {D : Int → Int} {c : Int} {done : List Int} {z : Int} (hz : D z ≠ c) (x : Int) : cntN es r D c (done ++ [z]) x = cntN es r D c done x := by
  unfold cntN
  by_cases h : D x < c ∨ (D x = c ∧ x ∈ done)
  · rw [if_pos h, if_pos (by rcases h with h | h; exact .inl h; exact .inr ⟨h.1, List.mem_append.2 (.inl h.2)⟩)]
  · rw [if_neg h, if_neg (fun e => h (by
      rcases e with e | ⟨e1, e2⟩
      · exact .inl e
      · rcases List.mem_append.1 e2 with e2 | e2
        · exact .inr ⟨e1, e2⟩
        · rw [List.mem_singleton.1 e2] at e1; exact absurd e1 hz))]
theorem cntN_more {es : List Ed} {r : Int} {D : Int → Int} {c : Int} {done : List Int} {z : Int} (hz : D z = c) (x : Int) : cntN es r D c (done ++ [z]) x = if x = z then wN es r D z else cntN es r D c done x := by
  unfold cntN
  by_cases hx : x = z
  · rw [if_pos hx, hx, if_pos (.inr ⟨hz, by simp⟩)]
  · rw [if_neg hx]
    by_cases h : D x < c ∨ (D x = c ∧ x ∈ done)
    · rw [if_pos h, if_pos (by rcases h with h | h; exact .inl h; exact .inr ⟨h.1, List.mem_append.2 (.inl h.2)⟩)]
    · rw [if_neg h, if_neg (fun e => h (by
        rcases e with e | ⟨e1, e2⟩
        · exact .inl e
        · rcases List.mem_append.1 e2 with e2 | e2
          · exact .inr ⟨e1, e2⟩
          · exact absurd (List.mem_singleton.1 e2) hx))]
/-- What the program's Count tells is what stands at the end. -/
theorem cnt_end {ns : List Int} {es : List Ed} {r : Int} {P : List (Int × Int)} (hok : graphOk ns es = true) (hr : r ∈ ns) (h : IsNear es r P) (hn : NdOk P) {x : Int} (hx : x ∈ ns) {c : Int} (hc : c ≤ 24000) (hcx : bfN es r ns.length x ≤ c ∨ c = 24000) : cntO es r (bfN es r ns.length) c x = cntT r (told es P P) x.toNat := by
  unfold cntO
  rcases bf_all hok hr x with ⟨d, h1, h2, h3, h4⟩ | ⟨h1, h2⟩
  · have := graphOk_n24 hok
    rw [if_pos (by rw [h2] at hcx ⊢; omega), cnt_ways hok hr h hn d.toNat x d rfl hx h1]
    unfold wN
    rw [if_pos (by rw [h2]; unfold farC; omega), h2]
    rfl
  · rw [if_neg (by rw [h2]; unfold farC; omega), cnt_none hok hr h hn hx h1]
end Go.Proofs.Ytabnecicidkmhaa
namespace Go.Proofs.Ytabnecicidkmhaa
open Go.RowKit

theorem SlAt.rchs {w : World} {v : Value} {l : List (Rr × Value)} (h : SlAt rwc 5 w v l) : ∃ a cap, v = .slice a l.length cap ∧ l.length ≤ 9223372036854775807 ∧ l.length ≤ cap ∧ (0 < l.length → ∃ bk o, a = some ⟨bk, o, none⟩ ∧ bk < w.heap.size ∧ ∀ j x, l[j]? = some x → w.cell? ⟨bk, o + j * 5, none⟩ = some (.int .i64 x.1.node) ∧ w.cell? ⟨bk, o + j * 5 + 1, none⟩ = some (.int .i64 x.1.cost) ∧ w.cell? ⟨bk, o + j * 5 + 2, none⟩ = some (.int .i64 x.1.least) ∧ w.cell? ⟨bk, o + j * 5 + 3, none⟩ = some (.int .i64 x.1.most) ∧ w.cell? ⟨bk, o + j * 5 + 4, none⟩ = some x.2) := by
  obtain ⟨a, cap, rfl, hl, hc, h⟩ := h
  refine ⟨a, cap, rfl, hl, hc, fun h0 => ?_⟩
  obtain ⟨bk, o, rfl, hb, h⟩ := h h0
  exact ⟨bk, o, rfl, hb, fun j x hx => ⟨h j x hx 0 _ rfl, h j x hx 1 _ rfl, h j x hx 2 _ rfl, h j x hx 3 _ rfl, h j x hx 4 _ rfl⟩⟩
theorem SlAt.shape {w : World} {v : Value} {l : List Int} (h : SlAt ic 1 w v l) : ∃ a cap, v = .slice a l.length cap := by
  obtain ⟨a, cap, rfl, _⟩ := h
  exact ⟨a, cap, rfl⟩
/-- A copy. -/
theorem clone_any {w : World} {v : Value} {l : List Int} (h : SlAt ic 1 w v l) (hn : NilOk v) (hl : l.length * 8 ≤ 140737488355328) :
    Calls Try.prog 30 #[v] w fun e w' => (∃ v', e = .returned v' ∧ w'.ownsRow w.heap.size 3 1 v' l.length (fl ic l)) ∧ Below w.heap.size w w' := by
  obtain ⟨a, cap, rfl, _, _, hc⟩ := h.ints
  rcases hn with ⟨p, n, c, he⟩ | he
  · simp only [Value.slice.injEq] at he
    obtain ⟨rfl, rfl, rfl⟩ := he
    by_cases h0 : 0 < l.length
    · obtain ⟨bk, o, hp, hb, hc2⟩ := hc h0
      simp only [Option.some.injEq] at hp
      subst hp
      refine (Try.slices_Clone_int bk o l.length cap l w (Nat.le_refl _) hl (fun j hj => ?_)).mono ?_
      · rw [hc2 j l[j] (List.getElem?_eq_getElem hj)]
        simp [List.getD_eq_getElem?_getD, List.getElem?_eq_getElem hj]
      · rintro e w' ⟨v', rfl, hr, _, hb'⟩
        rw [List.take_length, ← ints_map] at hr
        exact ⟨⟨v', rfl, hr⟩, hb'⟩
    · have hl0 : l = [] := List.length_eq_zero_iff.1 (by omega)
      subst hl0
      refine (Try.slices_Clone_int_zero p cap w).mono ?_
      rintro e w' ⟨v', rfl, hr, _, hb'⟩
      exact ⟨⟨v', rfl, hr⟩, hb'⟩
  · simp only [Value.slice.injEq] at he
    obtain ⟨rfl, h0, rfl⟩ := he
    have hl0 : l = [] := List.length_eq_zero_iff.1 h0
    subst hl0
    refine (Try.slices_Clone_int_nil 0 0 w).mono ?_
    rintro e w' ⟨rfl, rfl⟩
    exact ⟨⟨_, rfl, World.ownsRow_nil _ _ _ _⟩, Below.refl _ _⟩
abbrev rchV (x : Rr) (v : Value) : Value := .agg #[.int .i64 x.node, .int .i64 x.cost, .int .i64 x.least, .int .i64 x.most, v]
theorem of1_any {x : Rr} {a : Option Addr} {n c tb : Nat} {t : Int} {w : World} (h : w.heap[tb]? = some (.cells #[.int .i64 t] 3)) :
    Calls Try.prog 29 #[rchV x (.slice a n c), .pointer (some ⟨tb, 0, none⟩)] w fun e w' => e = .returned (.bool (x.node == t)) ∧ Below w.heap.size w w' := by
  obtain ⟨W1, hW1⟩ : ∃ W1, w.alloc (.cells #[.int .i64 x.node, .int .i64 x.cost, .int .i64 x.least, .int .i64 x.most, .slice a n c] 34) = W1 := ⟨_, rfl⟩
  have bA : Below w.heap.size w W1 := by rw [← hW1]; exact (Below.refl _ w).alloc (Nat.le_refl _) _
  have hX : W1.heap[w.heap.size]? = some (.cells #[.int .i64 x.node, .int .i64 x.cost, .int .i64 x.least, .int .i64 x.most, .slice a n c] 34) := by rw [← hW1]; exact heap_alloc_last w _
  have t0 := cell_of_row _ _ 0 _ _ _ ((bA.block _ (block_lt h)).trans h)
  have x0 := cell_of_row _ _ 0 _ _ _ hX
  simp at t0 x0
  have HB := hidIn bA
  have HW := hidIn hW1
  clear hW1 bA hX h
  go_enter Try.func29, Try.ntmps29
  go_upto_region 1 with fail
  rw [HW.out]
  clear HW
  go_wp2_with fail
  go_returns
  exact ⟨rfl, HB.out⟩
theorem enter37 (args : Array Value) (w : World) : (callFunc 29 args).run Try.prog w = .ok (Next.enter 29 args) w := by kernel_rfl
theorem indexF_any {l : List (Rr × Value)} {v : Value} {tb : Nat} {t : Int} {w0 w : World} (h : SlAt rwc 5 w0 v l) (hs : ∀ p ∈ l, ∃ a cap, p.2 = .slice a p.1.next.length cap) (hb : Below w0.heap.size w0 w) (ht : w.heap[tb]? = some (.cells #[.int .i64 t] 3)) :
    Calls Try.prog 28 #[v, .func (.func 29) #[] #[.pointer (some ⟨tb, 0, none⟩)]] w fun e w' =>
      ((∃ k x, l[k]? = some x ∧ x.1.node = t ∧ (∀ y ∈ l.take k, y.1.node ≠ t) ∧ e = .returned (.int .i64 (k : Nat))) ∨ ((∀ y ∈ l, y.1.node ≠ t) ∧ e = .returned (.int .i64 (-1)))) ∧ Below w.heap.size w w' := by
  obtain ⟨aa, ca, rfl, hla, _, hca⟩ := h.rchs
  have Hc := hidIn hca
  have Hs := hidIn hs
  have Hb := hidIn hb
  have Ht := hidIn ht
  have hE := enter37
  clear hca hs h hb ht
  go_enter Try.func28, Try.ntmps28
  go_wp2_with fail
  go_loopw [8] (fun i wr => ∃ k : Nat, k ≤ l.length ∧ i = .int .i64 k ∧ Hid (Below w.heap.size w wr ∧ ∀ y ∈ l.take k, y.1.node ≠ t)) (fun i _ => l.length - (intOf i).toNat)
  case atStart => exact ⟨0, Nat.zero_le _, rfl, hidIn ⟨Below.refl _ _, fun y hy => by simp at hy⟩⟩
  case round =>
    obtain ⟨k, hk, rfl, HR⟩ := hrel
    by_cases hlt : k < l.length
    · obtain ⟨bk, o, rfl, hbk, hc⟩ := Hc.out (by omega)
      obtain ⟨⟨x, xv⟩, hx⟩ : ∃ z, l[k]? = some z := ⟨l[k], List.getElem?_eq_getElem hlt⟩
      obtain ⟨va, vcap, hxv⟩ := Hs.out _ (List.mem_of_getElem? hx)
      simp only at hxv
      subst hxv
      have hbw := Hb.out.trans (HR.out.1.mono Hb.out.size)
      obtain ⟨q0, q1, q2, q3, q4⟩ := hc k _ hx
      have c0 := (hbw.cell (p := ⟨bk, o + k * 5, none⟩) hbk).trans q0
      have c1 := (hbw.cell (p := ⟨bk, o + k * 5 + 1, none⟩) hbk).trans q1
      have c2 := (hbw.cell (p := ⟨bk, o + k * 5 + 2, none⟩) hbk).trans q2
      have c3 := (hbw.cell (p := ⟨bk, o + k * 5 + 3, none⟩) hbk).trans q3
      have c4 := (hbw.cell (p := ⟨bk, o + k * 5 + 4, none⟩) hbk).trans q4
      simp only at c0 c1 c2 c3 c4
      have hki : (k : Int) < (l.length : Int) := by omega
      have HX := hidIn hx
      have HC := hidIn (of1_any (x := x) (a := va) (n := x.next.length) (c := vcap) ((HR.out.1.block _ (block_lt Ht.out)).trans Ht.out))
      clear hx hbw q0 q1 q2 q3 q4 hc
      go_wp2_with fail
      refine HC.out.mono ?_
      rintro e w3 ⟨rfl, hb3⟩
      have HB3 := hidIn (HR.out.1.trans (hb3.mono HR.out.1.size))
      clear hb3 HC c0 c1 c2 c3 c4
      by_cases hxt : x.node = t
      · have hbt : (x.node == t) = true := by simpa using hxt
        have HXt := hidIn hxt
        rw [hbt]
        clear hbt hxt
        go_wp2_with fail
        go_returns
        exact ⟨.inl ⟨k, _, HX.out, HXt.out, HR.out.2, rfl⟩, HB3.out⟩
      · have hbt : (x.node == t) = false := by simpa using hxt
        have HXt := hidIn hxt
        rw [hbt]
        clear hbt hxt
        go_wp2_with fail
        go_roundw
        case rel =>
          refine ⟨k + 1, by omega, by go_num, hidIn ⟨HB3.out, fun y hy => ?_⟩⟩
          rw [take_snoc HX.out] at hy
          rcases List.mem_append.1 hy with h1 | h1
          · exact HR.out.2 y h1
          · rw [List.mem_singleton.1 h1]
            exact HXt.out
        case measure => simp [intOf]; omega
    · have hk2 : k = l.length := by omega
      subst hk2
      have hni : ¬ ((l.length : Int) < (l.length : Int)) := by omega
      have HN : Hid (∀ y ∈ l, y.1.node ≠ t) := hidIn (by have := HR.out.2; rw [List.take_length] at this; exact this)
      go_wp2_with fail
      go_ret
      exact ⟨.inr ⟨fun a b h => HN.out _ h, rfl⟩, HR.out.1⟩
/-- What lies in a list of what is told. -/
structure RlAt (w : World) (v : Value) (l : List (Rr × Value)) : Prop where
  s : SlAt rwc 5 w v l
  n : ∀ p ∈ l, SlAt ic 1 w p.2 p.1.next ∧ NilOk p.2 ∧ p.1.next.length ≤ 10000
theorem RlAt.keep {w w' : World} {v : Value} {l : List (Rr × Value)} {B : Nat} (h : RlAt w v l) (hb : Below B w w') (hB : w.heap.size ≤ B) : RlAt w' v l :=
  ⟨h.s.keep hb hB, fun p hp => ⟨(h.n p hp).1.keep hb hB, (h.n p hp).2⟩⟩
theorem zeroRch (w : World) : (zeroValue 34).run Try.prog w = .ok (.agg #[.int .i64 0, .int .i64 0, .int .i64 0, .int .i64 0, .slice none 0 0]) w := (zero_of_info (by kernel_rfl : (Try.prog.info? 34).map (fun i => (i.zero, i.size)) = some (some (.agg #[.int .i64 0, .int .i64 0, .int .i64 0, .int .i64 0, .slice none 0 0]), 5))).1 w
theorem set5 {w : World} {b : Nat} {T : TypeId} {c0 c1 c2 c3 c4 : Value} (v0 v1 v2 v3 v4 : Value) (h : w.heap[b]? = some (.cells #[c0, c1, c2, c3, c4] T)) :
    (((((w.setCell ⟨b, 0, none⟩ v0).setCell ⟨b, 1, none⟩ v1).setCell ⟨b, 2, none⟩ v2).setCell ⟨b, 3, none⟩ v3).setCell ⟨b, 4, none⟩ v4).heap[b]? = some (.cells #[v0, v1, v2, v3, v4] T) := by
  have h1 := heap_setCell_same _ b 4 _ T v4 (heap_setCell_same _ b 3 _ T v3 (heap_setCell_same _ b 2 _ T v2 (heap_setCell_same _ b 1 _ T v1 (heap_setCell_same w b 0 _ T v0 h))))
  simpa using h1
theorem below5 {w w' : World} {B b : Nat} (v0 v1 v2 v3 v4 : Value) (h : Below B w w') (hb : B ≤ b) :
    Below B w (((((w'.setCell ⟨b, 0, none⟩ v0).setCell ⟨b, 1, none⟩ v1).setCell ⟨b, 2, none⟩ v2).setCell ⟨b, 3, none⟩ v3).setCell ⟨b, 4, none⟩ v4) :=
  ((((h.setCell (p := ⟨b, 0, none⟩) hb _).setCell (p := ⟨b, 1, none⟩) hb _).setCell (p := ⟨b, 2, none⟩) hb _).setCell (p := ⟨b, 3, none⟩) hb _).setCell (p := ⟨b, 4, none⟩) hb _
/-- What Of answers. -/
def OfAns (w' : World) (l : List (Rr × Value)) (t : Int) (e : Ending) : Prop :=
  (∃ k x v, l[k]? = some x ∧ x.1.node = t ∧ (∀ y ∈ l.take k, y.1.node ≠ t) ∧ e = .returned (.tuple #[rchV x.1 v, .bool true]) ∧ SlAt ic 1 w' v x.1.next ∧ NilOk v) ∨
  ((∀ y ∈ l, y.1.node ≠ t) ∧ e = .returned (.tuple #[rchV noR (.slice none 0 0), .bool false]))
theorem pof_any {l : List (Rr × Value)} {v : Value} {t : Int} {w : World} (h : RlAt w v l) :
    Calls Try.prog 10 #[v, .int .i64 t] w fun e w' => OfAns w' l t e ∧ Below w.heap.size w w' := by
  have HR := hidIn h
  obtain ⟨aa, ca, rfl, hla, _, hca⟩ := h.s.rchs
  have Hc := hidIn hca
  obtain ⟨W1, hW1⟩ : ∃ W1, (w.alloc (.cells #[.int .i64 t] 3)).alloc (.cells #[.int .i64 0, .int .i64 0, .int .i64 0, .int .i64 0, .slice none 0 0] 34) = W1 := ⟨_, rfl⟩
  have bA : Below w.heap.size w W1 := by rw [← hW1]; exact ((Below.refl _ w).alloc (Nat.le_refl _) _).alloc (by simp) _
  have hT : W1.heap[w.heap.size]? = some (.cells #[.int .i64 t] 3) := by rw [← hW1, Below.heap_alloc _ _ _ (by simp)]; exact heap_alloc_last w _
  have hX : W1.heap[w.heap.size + 1]? = some (.cells #[.int .i64 0, .int .i64 0, .int .i64 0, .int .i64 0, .slice none 0 0] 34) := by
    rw [← hW1]
    have := heap_alloc_last (w.alloc (.cells #[.int .i64 t] 3)) (.cells #[.int .i64 0, .int .i64 0, .int .i64 0, .int .i64 0, .slice none 0 0] 34)
    rw [World.size_alloc] at this
    exact this
  have HI := hidIn (indexF_any h.s (fun p hp => (h.n p hp).1.shape) bA hT)
  have hz := zeroRch
  have HB := hidIn bA
  have HX := hidIn hX
  have HW := hidIn hW1
  clear h hca hW1 bA hT hX
  go_enter Try.func10, Try.ntmps10
  go_upto_region 1 with fail
  rw [HW.out]
  clear HW
  go_wp2_with fail
  refine HI.out.mono ?_
  rintro e w2 ⟨h2, hb2⟩
  have HX2 := hidIn ((hb2.block _ (block_lt HX.out)).trans HX.out)
  have HB2 := hidIn (HB.out.trans (hb2.mono HB.out.size))
  clear hb2 HI
  have x0 := cell_of_row _ _ 0 _ _ _ HX2.out
  have x1 := cell_of_row _ _ 1 _ _ _ HX2.out
  have x2 := cell_of_row _ _ 2 _ _ _ HX2.out
  have x3 := cell_of_row _ _ 3 _ _ _ HX2.out
  have x4 := cell_of_row _ _ 4 _ _ _ HX2.out
  simp at x0 x1 x2 x3 x4
  have f0 := frozen_new HX2.out 0
  have f1 := frozen_new HX2.out 1
  have f2 := frozen_new HX2.out 2
  have f3 := frozen_new HX2.out 3
  have f4 := frozen_new HX2.out 4
  rcases h2 with ⟨k, ⟨x, xv⟩, hx, hxt, hbe, rfl⟩ | ⟨hno, rfl⟩
  rotate_left
  · have HN := hidIn hno
    clear hno
    go_wp2_with fail
    have hV := set5 (.int .i64 0) (.int .i64 0) (.int .i64 0) (.int .i64 0) (.slice none 0 0) HX2.out
    have HBV := hidIn (below5 (b := w.heap.size + 1) (.int .i64 0) (.int .i64 0) (.int .i64 0) (.int .i64 0) (.slice none 0 0) HB2.out (by omega))
    generalize ((((w2.setCell _ _).setCell _ _).setCell _ _).setCell _ _).setCell _ _ = V at hV HBV ⊢
    clear x0 x1 x2 x3 x4 f0 f1 f2 f3 f4
    have e0 := cell_of_row _ _ 0 _ _ _ hV
    have e1 := cell_of_row _ _ 1 _ _ _ hV
    have e2 := cell_of_row _ _ 2 _ _ _ hV
    have e3 := cell_of_row _ _ 3 _ _ _ hV
    have e4 := cell_of_row _ _ 4 _ _ _ hV
    simp at e0 e1 e2 e3 e4
    exact bodyPost_ret (v := .tuple #[rchV noR (.slice none 0 0), .bool false]) (by simp [results, Try.results10, asAddr, Result.andThen, go_sem, e0, e1, e2, e3, e4, noR]) rfl ⟨.inr ⟨HN.out, rfl⟩, HBV.out⟩
  · obtain ⟨hs, hn, hl⟩ := HR.out.n _ (List.mem_of_getElem? hx)
    obtain ⟨va, vcap, hxv⟩ := hs.shape
    simp only at hs hn hl hxv
    subst hxv
    have hkl : k < l.length := (List.getElem?_eq_some_iff.1 hx).1
    have hki : (k : Int) < (l.length : Int) := by omega
    have hk0 : ¬ ((k : Int) < 0) := by omega
    obtain ⟨bk, o, rfl, hbk, hc⟩ := Hc.out (by omega)
    obtain ⟨q0, q1, q2, q3, q4⟩ := hc k _ hx
    have c0 := (HB2.out.cell (p := ⟨bk, o + k * 5, none⟩) hbk).trans q0
    have c1 := (HB2.out.cell (p := ⟨bk, o + k * 5 + 1, none⟩) hbk).trans q1
    have c2 := (HB2.out.cell (p := ⟨bk, o + k * 5 + 2, none⟩) hbk).trans q2
    have c3 := (HB2.out.cell (p := ⟨bk, o + k * 5 + 3, none⟩) hbk).trans q3
    have c4 := (HB2.out.cell (p := ⟨bk, o + k * 5 + 4, none⟩) hbk).trans q4
    simp only at c0 c1 c2 c3 c4
    obtain ⟨V3, hV3⟩ : ∃ V3, w2.alloc (.cells #[.int .i64 x.node, .int .i64 x.cost, .int .i64 x.least, .int .i64 x.most, .slice va x.next.length vcap] 34) = V3 := ⟨_, rfl⟩
    have b3 : Below w2.heap.size w2 V3 := by rw [← hV3]; exact (Below.refl _ w2).alloc (Nat.le_refl _) _
    have hY : V3.heap[w2.heap.size]? = some (.cells #[.int .i64 x.node, .int .i64 x.cost, .int .i64 x.least, .int .i64 x.most, .slice va x.next.length vcap] 34) := by rw [← hV3]; exact heap_alloc_last w2 _
    have hw2 : w.heap.size + 1 < w2.heap.size := block_lt HX2.out
    have HXB := hidIn (And.intro hx (And.intro hxt hbe))
    have HB3 := hidIn (HB2.out.trans (b3.mono HB2.out.size))
    have HX3 := hidIn ((b3.block _ hw2).trans HX2.out)
    have HCl := hidIn (clone_any (hs.keep HB3.out (Nat.le_refl _)) hn (by omega))
    have HY := hidIn hY
    have y4 := cell_of_row _ _ 4 _ _ _ hY
    simp at y4
    have HW := hidIn hV3
    clear hx hxt hbe hc q0 q1 q2 q3 q4 hV3 b3 hY hs hn x0 x1 x2 x3 x4 f0 f1 f2 f3 f4
    go_upto_region 5 with fail
    rw [HW.out]
    clear HW c0 c1 c2 c3 c4
    go_wp2_with fail
    refine HCl.out.mono ?_
    rintro e w4 ⟨⟨v', rfl, hrow⟩, hb4⟩
    obtain ⟨ra, rcap, rfl⟩ := row_shape hrow
    have hY4 := (hb4.block _ (block_lt HY.out)).trans HY.out
    have hX4 := (hb4.block _ (block_lt HX3.out)).trans HX3.out
    have f4 := frozen_new hY4 4
    have y4' := cell_of_row _ _ 4 _ _ _ hY4
    simp at y4'
    have HB4 := hidIn (HB3.out.trans (hb4.mono HB3.out.size))
    have hys : w2.heap.size < V3.heap.size := block_lt HY.out
    have HRow := hidIn hrow
    have HY4 := hidIn hY4
    have HX4 := hidIn hX4
    clear hrow hb4 HCl y4 hY4 hX4
    go_upto_region 6 with fail
    have hY5 := heap_setCell_same _ w2.heap.size 4 _ _ (.slice ra x.next.length rcap) HY4.out
    simp at hY5
    have hX5 := (Below.heap_setCell w4 ⟨w2.heap.size, 4, none⟩ (.slice ra x.next.length rcap) (w.heap.size + 1) (by show w.heap.size + 1 ≠ w2.heap.size; omega)).trans HX4.out
    have HB5 := hidIn (HB4.out.setCell (p := ⟨w2.heap.size, 4, none⟩) (by show w.heap.size ≤ w2.heap.size; omega) (.slice ra x.next.length rcap))
    have HF5 : Hid (Fr (fun k => k < V3.heap.size) w4 (w4.setCell ⟨w2.heap.size, 4, none⟩ (.slice ra x.next.length rcap))) := hidIn ((Fr.refl _ w4).set (p := ⟨w2.heap.size, 4, none⟩) hys _)
    generalize w4.setCell ⟨w2.heap.size, 4, none⟩ (.slice ra x.next.length rcap) = W5 at hY5 hX5 HB5 HF5 ⊢
    clear y4' f4 HY4 HX4
    have y0 := cell_of_row _ _ 0 _ _ _ hY5
    have y1 := cell_of_row _ _ 1 _ _ _ hY5
    have y2 := cell_of_row _ _ 2 _ _ _ hY5
    have y3 := cell_of_row _ _ 3 _ _ _ hY5
    have y4 := cell_of_row _ _ 4 _ _ _ hY5
    have x0 := cell_of_row _ _ 0 _ _ _ hX5
    have x1 := cell_of_row _ _ 1 _ _ _ hX5
    have x2 := cell_of_row _ _ 2 _ _ _ hX5
    have x3 := cell_of_row _ _ 3 _ _ _ hX5
    have x4 := cell_of_row _ _ 4 _ _ _ hX5
    simp at x0 x1 x2 x3 x4 y0 y1 y2 y3 y4
    have f0 := frozen_new hX5 0
    have f1 := frozen_new hX5 1
    have f2 := frozen_new hX5 2
    have f3 := frozen_new hX5 3
    have f4 := frozen_new hX5 4
    have HX5 := hidIn hX5
    clear hX5 hY5
    go_wp2_with fail
    have hV := set5 (.int .i64 x.node) (.int .i64 x.cost) (.int .i64 x.least) (.int .i64 x.most) (.slice ra x.next.length rcap) HX5.out
    have HBV := hidIn (below5 (b := w.heap.size + 1) (.int .i64 x.node) (.int .i64 x.cost) (.int .i64 x.least) (.int .i64 x.most) (.slice ra x.next.length rcap) HB5.out (by omega))
    have hc1 : w.heap.size + 1 < V3.heap.size := by omega
    have HFV := hidIn (((((HF5.out.set (p := ⟨w.heap.size + 1, 0, none⟩) hc1 (.int .i64 x.node)).set (p := ⟨w.heap.size + 1, 1, none⟩) hc1 (.int .i64 x.cost)).set (p := ⟨w.heap.size + 1, 2, none⟩) hc1 (.int .i64 x.least)).set (p := ⟨w.heap.size + 1, 3, none⟩) hc1 (.int .i64 x.most)).set (p := ⟨w.heap.size + 1, 4, none⟩) hc1 (.slice ra x.next.length rcap))
    generalize ((((W5.setCell _ _).setCell _ _).setCell _ _).setCell _ _).setCell _ _ = V at hV HBV HFV ⊢
    clear x0 x1 x2 x3 x4 f0 f1 f2 f3 f4
    have e0 := cell_of_row _ _ 0 _ _ _ hV
    have e1 := cell_of_row _ _ 1 _ _ _ hV
    have e2 := cell_of_row _ _ 2 _ _ _ hV
    have e3 := cell_of_row _ _ 3 _ _ _ hV
    have e4 := cell_of_row _ _ 4 _ _ _ hV
    simp at e0 e1 e2 e3 e4
    have hrow := row_fr HRow.out HFV.out (fun j hj e => by have := (HRow.out.lt j hj).1; have e' : j < V3.heap.size := e; omega)
    refine bodyPost_ret (v := .tuple #[rchV x (.slice ra x.next.length rcap), .bool true]) (by simp [results, Try.results10, asAddr, Result.andThen, go_sem, e0, e1, e2, e3, e4]) rfl ⟨.inl ⟨k, _, _, HXB.out.1, HXB.out.2.1, HXB.out.2.2, rfl, slAt_of_row (cs := ic) (fun _ => rfl) hrow rfl, ?_⟩, HBV.out⟩
    rcases hrow.2 with ⟨h1, _⟩ | ⟨g, cap, cur, h1, _⟩
    · exact .inr h1
    · exact .inl ⟨_, _, _, h1⟩
end Go.Proofs.Ytabnecicidkmhaa
