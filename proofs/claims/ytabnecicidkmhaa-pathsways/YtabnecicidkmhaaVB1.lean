/- The document's place, edge. -/
import Derived.Test.YtabnecicidkmhaaGS
namespace Go.Proofs.Ytabnecicidkmhaa
open Go.RowKit

/-- Where a node stands first. -/
def plN : List Int → Int → Option Nat
  | [], _ => none
  | x :: l, n => if x = n then some 0 else (plN l n).map (· + 1)
def plI (l : List Int) (n : Int) : Int := match plN l n with
  | some k => (k : Int)
  | none => -1
theorem plN_at : ∀ {l : List Int} {n : Int} {k : Nat}, plN l n = some k → l[k]? = some n
  | [], _, _, h => by cases h
  | x :: l, n, k, h => by
    unfold plN at h
    by_cases hx : x = n
    · rw [if_pos hx] at h
      simp only [Option.some.injEq] at h
      subst h
      rw [hx]
      rfl
    · rw [if_neg hx] at h
      obtain ⟨j, hj, rfl⟩ := Option.map_eq_some_iff.1 h
      rw [List.getElem?_cons_succ]
      exact plN_at hj
theorem plN_none : ∀ {l : List Int} {n : Int}, (∀ y ∈ l, y ≠ n) → plN l n = none
  | [], _, _ => rfl
  | x :: l, n, h => by
    unfold plN
    rw [if_neg (h x List.mem_cons_self), plN_none (fun y hy => h y (List.mem_cons_of_mem _ hy))]
    rfl
theorem plN_first : ∀ {l : List Int} {n : Int} {k : Nat}, (∀ y ∈ l.take k, y ≠ n) → l[k]? = some n → plN l n = some k
  | [], _, _, _, h => by simp at h
  | x :: l, n, 0, _, h => by
    unfold plN
    simp at h
    rw [if_pos h]
  | x :: l, n, k + 1, hn, h => by
    unfold plN
    rw [if_neg (hn x (by simp)), plN_first (k := k) (fun y hy => hn y (by rw [List.take_succ_cons]; exact List.mem_cons_of_mem _ hy)) (by simpa using h)]
    rfl
theorem plN_nodup {l : List Int} (hd : l.Nodup) {n : Int} {k : Nat} (h : l[k]? = some n) : plN l n = some k := by
  refine plN_first (fun y hy e => ?_) h
  obtain ⟨j, hj⟩ := List.getElem?_of_mem hy
  rw [List.getElem?_take] at hj
  by_cases hjk : j < k
  · rw [if_pos hjk, e] at hj
    obtain ⟨h1, h2⟩ := List.getElem?_eq_some_iff.1 hj
    obtain ⟨h3, h4⟩ := List.getElem?_eq_some_iff.1 h
    exact (List.pairwise_iff_getElem.1 (List.nodup_iff_pairwise_ne.1 hd)) j k h1 h3 hjk (by rw [h2, h4])
  · rw [if_neg hjk] at hj
    cases hj
theorem plI_some {l : List Int} {n : Int} {k : Nat} (h : plN l n = some k) : plI l n = (k : Int) := by unfold plI; rw [h]
theorem plI_none {l : List Int} {n : Int} (h : plN l n = none) : plI l n = -1 := by unfold plI; rw [h]
theorem plI_neg {l : List Int} {n : Int} : plI l n < 0 ↔ n ∉ l := by
  unfold plI
  cases h : plN l n with
  | some k => exact ⟨fun e => by simp only at e; omega, fun e => absurd (List.mem_of_getElem? (plN_at h)) e⟩
  | none =>
    refine ⟨fun _ hm => ?_, fun _ => by decide⟩
    obtain ⟨j, hj⟩ := List.getElem?_of_mem hm
    have key : ∀ (l : List Int), plN l n = none → n ∉ l := fun l => by
      induction l with
      | nil => intro _ h; cases h
      | cons x l ih =>
        intro h hm
        unfold plN at h
        by_cases hx : x = n
        · rw [if_pos hx] at h; cases h
        · rw [if_neg hx] at h
          rcases List.mem_cons.1 hm with e | e
          · exact hx e.symm
          · exact ih (by simpa using h) e
    exact key l h hm
set_option maxRecDepth 100000 in
set_option maxHeartbeats 1000000 in
theorem place_any {ns : List Int} {es : List Ed} {vn ve : Value} {w : World} (h : GrAt w vn ve ns es) (n : Int) :
    Calls Try.prog 26 #[grV vn ve, .int .i64 n] w fun e w' => e = .returned (.int .i64 (plI ns n)) ∧ Below w.heap.size w w' := by
  obtain ⟨na, nca, rfl, hnl, _, hna⟩ := h.n.ints
  obtain ⟨ea, eca, rfl, _⟩ := h.e.eds
  have Hna := hidIn hna
  obtain ⟨W1, hW1⟩ : ∃ W1, w.alloc (.cells #[.slice na ns.length nca, .slice ea es.length eca] 25) = W1 := ⟨_, rfl⟩
  have bA : Below w.heap.size w W1 := by rw [← hW1]; exact (Below.refl _ w).alloc (Nat.le_refl _) _
  have hGB : W1.heap[w.heap.size]? = some (.cells #[.slice na ns.length nca, .slice ea es.length eca] 25) := by rw [← hW1]; exact heap_alloc_last w _
  obtain ⟨q, hqe⟩ : ∃ q, w.heap.size = q := ⟨_, rfl⟩
  rw [hqe] at hGB
  have f0 := cell_of_row _ _ 0 _ _ _ hGB
  simp at f0
  have HW := hidIn hW1
  have HB := hidIn bA
  obtain ⟨ln, hln⟩ : ∃ ln, ns.length = ln := ⟨_, rfl⟩
  rw [hln] at hnl f0 HW ⊢
  have Hln := hidIn hln
  clear hW1 bA hGB hna h hln
  go_enter Try.func26, Try.ntmps26
  go_upto_region 1 with fail
  rw [HW.out]
  clear HW hqe
  go_wp2_with fail
  go_loop [5] (fun i => ∃ k : Nat, k ≤ ln ∧ i = .int .i64 k ∧ Hid (∀ y ∈ ns.take k, y ≠ n)) (fun i => ln - (intOf i).toNat)
  case atStart => exact ⟨0, Nat.zero_le _, rfl, hidIn (by simp)⟩
  case round =>
    obtain ⟨k, hk, rfl, HC⟩ := hrel
    by_cases hlt : k < ln
    · have hki : (k : Int) < (ln : Int) := by omega
      obtain ⟨bk, o, rfl, hbk, hcell⟩ := Hna.out (by have := Hln.out; omega)
      obtain ⟨z, hz⟩ : ∃ z, ns[k]? = some z := ⟨ns[k]'(by have := Hln.out; omega), List.getElem?_eq_getElem _⟩
      have c0 := (HB.out.cell (p := ⟨bk, o + k, none⟩) hbk).trans (hcell k z hz)
      by_cases hzn : z = n
      · have hq : (z == n) = true := by simpa using hzn
        have HP : Hid (plI ns n = (k : Int)) := hidIn (plI_some (plN_first HC.out (by rw [hz, hzn])))
        clear hcell hz hzn
        go_wp2_with fail
        go_ret
        exact ⟨by rw [HP.out]; rfl, HB.out⟩
      · have hq : (z == n) = false := by simpa using hzn
        have HC2 : Hid (∀ y ∈ ns.take (k + 1), y ≠ n) := hidIn fun y hy => by
          rw [take_snoc hz] at hy
          rcases List.mem_append.1 hy with h | h
          · exact HC.out y h
          · rw [List.mem_singleton.1 h]; exact hzn
        clear hcell hz hzn
        go_wp2_with fail
        go_round
        case rel => exact ⟨k + 1, by omega, by go_num, HC2⟩
        case measure => simp [intOf]; omega
    · have hki : ¬ (k : Int) < (ln : Int) := by omega
      have HP : Hid (plI ns n = -1) := hidIn (plI_none (plN_none (by have := HC.out; rwa [List.take_of_length_le (by have := Hln.out; omega)] at this)))
      go_wp2_with fail
      go_ret
      exact ⟨by rw [HP.out]; rfl, HB.out⟩
/-- What an edge costs. -/
def edI (es : List Ed) (a b : Int) : Int := match es.find? (fun e => e.1 == a && e.2.1 == b) with
  | some e => e.2.2
  | none => 0
theorem edI_some {es : List Ed} {a b : Int} {k : Nat} {e : Ed} (hn : ∀ y ∈ es.take k, ¬ (y.1 = a ∧ y.2.1 = b)) (he : es[k]? = some e) (h1 : e.1 = a) (h2 : e.2.1 = b) : edI es a b = e.2.2 := by
  have h : es = es.take k ++ e :: es.drop (k + 1) := by rw [← drop_next he, List.take_append_drop]
  unfold edI
  rw [h, List.find?_append, List.find?_eq_none.2 (fun y hy => by have := hn y hy; simp only [Bool.and_eq_true, beq_iff_eq]; exact this), List.find?_cons]
  simp [h1, h2]
theorem edI_none {es : List Ed} {a b : Int} (hn : ∀ y ∈ es, ¬ (y.1 = a ∧ y.2.1 = b)) : edI es a b = 0 := by
  unfold edI
  rw [List.find?_eq_none.2 (fun y hy => by have := hn y hy; simp only [Bool.and_eq_true, beq_iff_eq]; exact this)]
set_option maxRecDepth 100000 in
set_option maxHeartbeats 1000000 in
theorem edge_any {ns : List Int} {es : List Ed} {vn ve : Value} {w : World} (h : GrAt w vn ve ns es) (a b : Int) :
    Calls Try.prog 32 #[grV vn ve, .int .i64 a, .int .i64 b] w fun e w' => e = .returned (.int .i64 (edI es a b)) ∧ Below w.heap.size w w' := by
  obtain ⟨na, nca, rfl, _⟩ := h.n.ints
  obtain ⟨ea, eca, rfl, hel, _, hea⟩ := h.e.eds
  have Hea := hidIn hea
  obtain ⟨W1, hW1⟩ : ∃ W1, w.alloc (.cells #[.slice na ns.length nca, .slice ea es.length eca] 25) = W1 := ⟨_, rfl⟩
  have bA : Below w.heap.size w W1 := by rw [← hW1]; exact (Below.refl _ w).alloc (Nat.le_refl _) _
  have hGB : W1.heap[w.heap.size]? = some (.cells #[.slice na ns.length nca, .slice ea es.length eca] 25) := by rw [← hW1]; exact heap_alloc_last w _
  obtain ⟨q, hqe⟩ : ∃ q, w.heap.size = q := ⟨_, rfl⟩
  rw [hqe] at hGB
  have f1 := cell_of_row _ _ 1 _ _ _ hGB
  simp at f1
  have HW := hidIn hW1
  have HB := hidIn bA
  obtain ⟨ln, hln⟩ : ∃ ln, es.length = ln := ⟨_, rfl⟩
  rw [hln] at hel f1 HW ⊢
  have Hln := hidIn hln
  clear hW1 bA hGB hea h hln
  go_enter Try.func32, Try.ntmps32
  go_upto_region 1 with fail
  rw [HW.out]
  clear HW hqe
  go_wp2_with fail
  go_loop [7] (fun i => ∃ k : Nat, k ≤ ln ∧ i = .int .i64 k ∧ Hid (∀ y ∈ es.take k, ¬ (y.1 = a ∧ y.2.1 = b))) (fun i => ln - (intOf i).toNat)
  case atStart => exact ⟨0, Nat.zero_le _, rfl, hidIn (by simp)⟩
  case round =>
    obtain ⟨k, hk, rfl, HC⟩ := hrel
    by_cases hlt : k < ln
    · have hki : (k : Int) < (ln : Int) := by omega
      obtain ⟨bk, o, rfl, hbk, hcell⟩ := Hea.out (by have := Hln.out; omega)
      obtain ⟨⟨x, y, c⟩, hz⟩ : ∃ z, es[k]? = some z := ⟨es[k]'(by have := Hln.out; omega), List.getElem?_eq_getElem _⟩
      obtain ⟨q0, q1, q2⟩ := hcell k _ hz
      have c0 := (HB.out.cell (p := ⟨bk, o + k * 3, none⟩) hbk).trans q0
      have c1 := (HB.out.cell (p := ⟨bk, o + k * 3 + 1, none⟩) hbk).trans q1
      have c2 := (HB.out.cell (p := ⟨bk, o + k * 3 + 2, none⟩) hbk).trans q2
      simp only at c0 c1 c2
      have HC2 : Hid (¬ (x = a ∧ y = b) → ∀ y ∈ es.take (k + 1), ¬ (y.1 = a ∧ y.2.1 = b)) := hidIn fun hn z hy => by
        rw [take_snoc hz] at hy
        rcases List.mem_append.1 hy with h | h
        · exact HC.out z h
        · rw [List.mem_singleton.1 h]; exact hn
      have HP : Hid (x = a → y = b → edI es a b = c) := hidIn fun h1 h2 => edI_some HC.out hz h1 h2
      clear hcell hz q0 q1 q2
      by_cases hxa : x = a
      · have hq : (x == a) = true := by simpa using hxa
        by_cases hyb : y = b
        · have hq2 : (y == b) = true := by simpa using hyb
          have HP2 := hidIn (HP.out hxa hyb)
          clear hxa hyb
          go_wp2_with fail
          go_ret
          exact ⟨by rw [HP2.out]; rfl, HB.out⟩
        · have hq2 : (y == b) = false := by simpa using hyb
          have HC3 := hidIn (HC2.out (fun e => hyb e.2))
          clear hxa hyb
          go_wp2_with fail
          go_round
          case rel => exact ⟨k + 1, by omega, by go_num, HC3⟩
          case measure => simp [intOf]; omega
      · have hq : (x == a) = false := by simpa using hxa
        have HC3 := hidIn (HC2.out (fun e => hxa e.1))
        clear hxa
        go_wp2_with fail
        go_round
        case rel => exact ⟨k + 1, by omega, by go_num, HC3⟩
        case measure => simp [intOf]; omega
    · have hki : ¬ (k : Int) < (ln : Int) := by omega
      have HP : Hid (edI es a b = 0) := hidIn (edI_none (by have := HC.out; rwa [List.take_of_length_le (by have := Hln.out; omega)] at this))
      go_wp2_with fail
      go_ret
      exact ⟨by rw [HP.out]; rfl, HB.out⟩
end Go.Proofs.Ytabnecicidkmhaa
