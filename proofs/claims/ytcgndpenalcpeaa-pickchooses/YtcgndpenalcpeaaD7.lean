/- Lists held against each other; the law's of. -/
import Derived.Test.YtcgndpenalcpeaaD4
namespace Go.Proofs.Ytcgndpenalcpeaa
open Go.RowKit

theorem list_ne {a b : List Int} {k : Nat} {x y : Int} (ha : a[k]? = some x) (hb : b[k]? = some y) (h : x ≠ y) : (a == b) = false := by
  rw [beq_eq_false_iff_ne]
  intro e
  rw [e, hb] at ha
  exact h (Option.some.inj ha).symm
set_option maxRecDepth 100000 in
set_option maxHeartbeats 1000000 in
theorem lsame_any {l m : List Int} {u v : Value} {w : World} (hl : SlAt ic 1 w u l) (hm : SlAt ic 1 w v m) : Calls Try.prog 20 #[u, v] w fun e w' => e = .returned (.bool (l == m)) ∧ ∃ q, w' = w.drewN q := by
  obtain ⟨a, cap, rfl, hll, _, hat⟩ := hl.ints
  obtain ⟨b, cap2, rfl, hmm, _, hbt⟩ := hm.ints
  have Ha := hidIn hat
  have Hb := hidIn hbt
  obtain ⟨bq, hbq⟩ : ∃ bq, (l == m) = bq := ⟨_, rfl⟩
  have HQ := hidIn hbq
  rw [hbq]
  obtain ⟨ln, hln⟩ : ∃ ln, l.length = ln := ⟨_, rfl⟩
  have Hln := hidIn hln
  rw [hln] at hll ⊢
  obtain ⟨mn, hmn⟩ : ∃ mn, m.length = mn := ⟨_, rfl⟩
  have Hmn := hidIn hmn
  rw [hmn] at hmm ⊢
  clear hl hm hat hbt hbq hln hmn
  by_cases hlm : ln = mn
  · subst hlm
    have hq0 : ((ln : Int) != (ln : Int)) = false := by simp
    go_enter Try.func20, Try.ntmps20
    go_wp2_with fail
    go_loopw [5] (fun i wr => ∃ k q : Nat, k ≤ ln ∧ i = .int .i64 k ∧ wr = w.drewN q ∧ Hid (l.take k = m.take k)) (fun i _ => ln - (intOf i).toNat)
    case atStart => exact ⟨0, 0, Nat.zero_le _, rfl, rfl, hidIn rfl⟩
    case round =>
      obtain ⟨k, q, hk, rfl, rfl, HC⟩ := hrel
      by_cases hlt : k < ln
      · obtain ⟨bk, o, rfl, hbk, hcell⟩ := Ha.out (by have := Hln.out; omega)
        obtain ⟨b2, o2, rfl, hb2, hcell2⟩ := Hb.out (by have := Hmn.out; omega)
        obtain ⟨x, hx⟩ : ∃ x, l[k]? = some x := ⟨l[k]'(by have := Hln.out; omega), List.getElem?_eq_getElem _⟩
        obtain ⟨y, hy⟩ : ∃ y, m[k]? = some y := ⟨m[k]'(by have := Hmn.out; omega), List.getElem?_eq_getElem _⟩
        have c0 := hcell k x hx
        have c1 := hcell2 k y hy
        have hki : (k : Int) < (ln : Int) := by omega
        by_cases hxy : x = y
        · have hq : (x != y) = false := by simpa using hxy
          have HE : Hid (l.take (k + 1) = m.take (k + 1)) := hidIn (by rw [take_snoc hx, take_snoc hy, HC.out, hxy])
          clear hcell hcell2 hx hy hxy
          go_wp2_with fail
          go_quiet (fail)
          go_wp2_with fail
          go_roundw
          case rel => exact ⟨k + 1, q + nq, by omega, by go_num, by first | rfl | rw [World.drewN_drewN], HE⟩
          case measure => simp [intOf]; omega
        · have hq : (x != y) = true := by simpa using hxy
          have HE : Hid (bq = false) := hidIn (by rw [← HQ.out]; exact list_ne hx hy hxy)
          clear hcell hcell2 hx hy hxy
          go_wp2_with fail
          go_quiet (fail)
          go_wp2_with fail
          go_ret
          exact ⟨by rw [HE.out]; rfl, q + nq, by first | rfl | rw [World.drewN_drewN]⟩
      · have hki : ¬ ((k : Int) < (ln : Int)) := by omega
        have HE : Hid (bq = true) := hidIn (by
          rw [← HQ.out]
          have := HC.out
          rw [List.take_of_length_le (by have := Hln.out; omega), List.take_of_length_le (by have := Hmn.out; omega)] at this
          rw [this]
          simp)
        go_wp2_with fail
        go_ret
        exact ⟨by rw [HE.out]; rfl, q, rfl⟩
  · have hq0 : ((ln : Int) != (mn : Int)) = true := by rw [bne_iff_ne]; omega
    have HE : Hid (bq = false) := hidIn (by
      rw [← HQ.out, beq_eq_false_iff_ne]
      intro e
      have := Hln.out
      have := Hmn.out
      rw [e] at *
      omega)
    go_enter Try.func20, Try.ntmps20
    go_wp2_with fail
    go_ret
    exact ⟨by rw [HE.out]; rfl, 0, rfl⟩
set_option maxRecDepth 100000 in
set_option maxHeartbeats 1000000 in
theorem dsame_any {l m : List Int} {u v : Value} {w : World} (hl : SlAt ic 1 w u l) (hm : SlAt ic 1 w v m) : Calls Try.prog 13 #[u, v] w fun e w' => e = .returned (.bool (l == m)) ∧ ∃ q, w' = w.drewN q := by
  obtain ⟨a, cap, rfl, hll, _, hat⟩ := hl.ints
  obtain ⟨b, cap2, rfl, hmm, _, hbt⟩ := hm.ints
  have Ha := hidIn hat
  have Hb := hidIn hbt
  obtain ⟨bq, hbq⟩ : ∃ bq, (l == m) = bq := ⟨_, rfl⟩
  have HQ := hidIn hbq
  rw [hbq]
  obtain ⟨ln, hln⟩ : ∃ ln, l.length = ln := ⟨_, rfl⟩
  have Hln := hidIn hln
  rw [hln] at hll ⊢
  obtain ⟨mn, hmn⟩ : ∃ mn, m.length = mn := ⟨_, rfl⟩
  have Hmn := hidIn hmn
  rw [hmn] at hmm ⊢
  clear hl hm hat hbt hbq hln hmn
  by_cases hlm : ln = mn
  · subst hlm
    have hq0 : ((ln : Int) != (ln : Int)) = false := by simp
    go_enter Try.func13, Try.ntmps13
    go_wp2_with fail
    go_loopw [5] (fun i wr => ∃ k q : Nat, k ≤ ln ∧ i = .int .i64 k ∧ wr = w.drewN q ∧ Hid (l.take k = m.take k)) (fun i _ => ln - (intOf i).toNat)
    case atStart => exact ⟨0, 0, Nat.zero_le _, rfl, rfl, hidIn rfl⟩
    case round =>
      obtain ⟨k, q, hk, rfl, rfl, HC⟩ := hrel
      by_cases hlt : k < ln
      · obtain ⟨bk, o, rfl, hbk, hcell⟩ := Ha.out (by have := Hln.out; omega)
        obtain ⟨b2, o2, rfl, hb2, hcell2⟩ := Hb.out (by have := Hmn.out; omega)
        obtain ⟨x, hx⟩ : ∃ x, l[k]? = some x := ⟨l[k]'(by have := Hln.out; omega), List.getElem?_eq_getElem _⟩
        obtain ⟨y, hy⟩ : ∃ y, m[k]? = some y := ⟨m[k]'(by have := Hmn.out; omega), List.getElem?_eq_getElem _⟩
        have c0 := hcell k x hx
        have c1 := hcell2 k y hy
        have hki : (k : Int) < (ln : Int) := by omega
        by_cases hxy : x = y
        · have hq : (x != y) = false := by simpa using hxy
          have HE : Hid (l.take (k + 1) = m.take (k + 1)) := hidIn (by rw [take_snoc hx, take_snoc hy, HC.out, hxy])
          clear hcell hcell2 hx hy hxy
          go_wp2_with fail
          go_quiet (fail)
          go_wp2_with fail
          go_roundw
          case rel => exact ⟨k + 1, q + nq, by omega, by go_num, by first | rfl | rw [World.drewN_drewN], HE⟩
          case measure => simp [intOf]; omega
        · have hq : (x != y) = true := by simpa using hxy
          have HE : Hid (bq = false) := hidIn (by rw [← HQ.out]; exact list_ne hx hy hxy)
          clear hcell hcell2 hx hy hxy
          go_wp2_with fail
          go_quiet (fail)
          go_wp2_with fail
          go_ret
          exact ⟨by rw [HE.out]; rfl, q + nq, by first | rfl | rw [World.drewN_drewN]⟩
      · have hki : ¬ ((k : Int) < (ln : Int)) := by omega
        have HE : Hid (bq = true) := hidIn (by
          rw [← HQ.out]
          have := HC.out
          rw [List.take_of_length_le (by have := Hln.out; omega), List.take_of_length_le (by have := Hmn.out; omega)] at this
          rw [this]
          simp)
        go_wp2_with fail
        go_ret
        exact ⟨by rw [HE.out]; rfl, q, rfl⟩
  · have hq0 : ((ln : Int) != (mn : Int)) = true := by rw [bne_iff_ne]; omega
    have HE : Hid (bq = false) := hidIn (by
      rw [← HQ.out, beq_eq_false_iff_ne]
      intro e
      have := Hln.out
      have := Hmn.out
      rw [e] at *
      omega)
    go_enter Try.func13, Try.ntmps13
    go_wp2_with fail
    go_ret
    exact ⟨by rw [HE.out]; rfl, 0, rfl⟩
/-- The routers of a set. -/
def ofK (s : Nat) (k : Nat) : List Int := ((List.range k).filter fun i => decide (s / 2 ^ (i + 1) % 2 = 1)).map fun i : Nat => ((i : Int) + 1)
def ofL (s : Nat) : List Int := ofK s 24
theorem ofK_succ (s k : Nat) : ofK s (k + 1) = if s / 2 ^ (k + 1) % 2 = 1 then ofK s k ++ [(k : Int) + 1] else ofK s k := by
  unfold ofK
  rw [List.range_succ, List.filter_append, List.map_append]
  by_cases h : s / 2 ^ (k + 1) % 2 = 1
  · simp [h]
  · simp [h]
theorem ofK_len (s k : Nat) : (ofK s k).length ≤ k := by
  unfold ofK
  rw [List.length_map]
  exact Nat.le_trans (List.length_filter_le _ _) (by simp)
theorem of_nb (s : Nat) : nbOk (ofL s) = true := by
  refine upF_of (fun x hx => ?_) ?_
  · unfold ofL ofK at hx
    obtain ⟨i, hi, rfl⟩ := List.mem_map.1 hx
    have := List.mem_range.1 (List.mem_filter.1 hi).1
    omega
  · unfold ofL ofK
    rw [List.pairwise_map]
    exact ((List.pairwise_lt_range (n := 24)).sublist List.filter_sublist).imp (fun h => by omega)
theorem bit_of {s : Nat} (hs : s < 4294967296) (j : Nat) : bits BinOp.and IntKind.u32 ((s : Int) / 2 ^ j) 1 = ((s / 2 ^ j % 2 : Nat) : Int) := by
  have h1 : ((s : Int) / 2 ^ j) = ((s / 2 ^ j : Nat) : Int) := by simp
  have := u32_and_nat (s / 2 ^ j) 1 (Nat.lt_of_le_of_lt (Nat.div_le_self _ _) hs) (by decide)
  rw [h1]
  rw [Nat.and_one_is_mod] at this
  exact this
set_option maxRecDepth 100000 in
set_option maxHeartbeats 1000000 in
theorem of_any {s : Nat} (hs : s < 4294967296) (w : World) : Calls Try.prog 19 #[.int .u32 s] w fun e w' => (∃ a cap, e = .returned (.slice a (ofL s).length cap) ∧ w'.ownsRow w.heap.size 3 1 (.slice a (ofL s).length cap) (ofL s).length (fl ic (ofL s))) ∧ Below w.heap.size w w' := by
  go_enter Try.func19, Try.ntmps19
  go_wp2_with fail
  go_loopw [3, 4] (fun u i wr => ∃ k : Nat, k ≤ 24 ∧ i = .int .i64 ((k : Int) + 1) ∧ (∃ a c, u = .slice a (ofK s k).length c) ∧ Hid (Below w.heap.size w wr ∧ wr.ownsRow w.heap.size 3 1 u (ofK s k).length (fl ic (ofK s k)))) (fun _ i _ => 25 - (intOf i).toNat)
  case atStart => exact ⟨0, by omega, rfl, ⟨none, 0, rfl⟩, hidIn ⟨Below.refl _ _, World.ownsRow_nil _ _ _ _⟩⟩
  case round =>
    obtain ⟨k, hk, rfl, ⟨ua, uc, rfl⟩, HR⟩ := hrel
    by_cases hlt : k < 24
    · have hki : (k : Int) + 1 ≤ 24 := by omega
      have hbv := bit_of hs (k + 1)
      obtain ⟨hb, hr⟩ := HR.out
      have hkl := ofK_len s k
      clear HR
      by_cases hq : s / 2 ^ (k + 1) % 2 = 1
      · have hb1 : bits BinOp.and IntKind.u32 ((s : Int) / 2 ^ (k + 1)) 1 = 1 := by rw [hbv, hq]; rfl
        have hsn : ofK s (k + 1) = ofK s k ++ [(k : Int) + 1] := by rw [ofK_succ, if_pos hq]
        obtain ⟨g, gc, w6, hrun, hown, _, _, hb6⟩ := append_int hr ((k : Int) + 1) (by omega) hb.size
        have HO : Hid (Below w.heap.size w w6 ∧ w6.ownsRow w.heap.size 3 1 (.slice (some ⟨g, 0, none⟩) ((ofK s k).length + 1) gc) ((ofK s k).length + 1) (fl ic (ofK s (k + 1))) ∧ (ofK s (k + 1)).length = (ofK s k).length + 1) := hidIn ⟨hb.trans hb6, by rw [hsn]; exact hown, by rw [hsn]; simp⟩
        have HRun := hidIn hrun
        generalize (ofK s k).length = m1 at *
        clear hbv hb hr hkl hsn hrun hown hb6 hq
        go_wp2_with (refine l_append rfl _ _ 23 rfl HRun.out ?_)
        go_roundw
        case rel =>
          obtain ⟨h1, h2, h3⟩ := HO.out
          exact ⟨k + 1, by omega, by go_num, ⟨_, gc, by rw [h3]⟩, hidIn ⟨h1, by rw [h3]; exact h2⟩⟩
        case measure => simp [intOf]; omega
      · have hb1 : bits BinOp.and IntKind.u32 ((s : Int) / 2 ^ (k + 1)) 1 = 0 := by rw [hbv, show s / 2 ^ (k + 1) % 2 = 0 from by omega]; rfl
        have hsn : ofK s (k + 1) = ofK s k := by rw [ofK_succ, if_neg hq]
        have HO : Hid (Below w.heap.size w wr ∧ wr.ownsRow w.heap.size 3 1 (.slice ua (ofK s k).length uc) (ofK s k).length (fl ic (ofK s (k + 1))) ∧ (ofK s (k + 1)).length = (ofK s k).length) := hidIn ⟨hb, by rw [hsn]; exact hr, by rw [hsn]⟩
        generalize (ofK s k).length = m1 at *
        clear hbv hb hr hkl hsn hq
        go_wp2_with fail
        go_roundw
        case rel =>
          obtain ⟨h1, h2, h3⟩ := HO.out
          exact ⟨k + 1, by omega, by go_num, ⟨_, uc, by rw [h3]⟩, hidIn ⟨h1, by rw [h3]; exact h2⟩⟩
        case measure => simp [intOf]; omega
    · have hki : ¬ (k : Int) + 1 ≤ 24 := by omega
      have hke : k = 24 := by omega
      have HR' : Hid (Below w.heap.size w wr ∧ wr.ownsRow w.heap.size 3 1 (.slice ua (ofL s).length uc) (ofL s).length (fl ic (ofL s))) := hidIn (by have := HR.out; rw [hke] at this; exact this)
      have HL : Hid ((ofK s k).length = (ofL s).length) := hidIn (by rw [hke]; rfl)
      clear HR hke
      generalize (ofK s k).length = m1 at *
      go_wp2_with fail
      go_ret
      exact ⟨⟨ua, uc, by rw [HL.out]; rfl, HR'.out.2⟩, HR'.out.1⟩
end Go.Proofs.Ytcgndpenalcpeaa
