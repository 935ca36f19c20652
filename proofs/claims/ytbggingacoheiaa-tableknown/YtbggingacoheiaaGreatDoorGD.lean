/- Lists compared one by one: slices.Equal, SameInts, SameAdjs. -/
import Derived.Test.YtbggingacoheiaaGreatDoorGC
namespace Go.Proofs.YtbggingacoheiaaGreatDoor
open Go.RowKit

theorem dropEq {α : Type} [DecidableEq α] {a b : List α} {k : Nat} {x y : α} (hx : a[k]? = some x) (hy : b[k]? = some y) : decide (a.drop k = b.drop k) = (decide (x = y) && decide (a.drop (k + 1) = b.drop (k + 1))) := by
  rw [drop_next hx, drop_next hy]
  by_cases h : x = y <;> simp [h]
set_option maxRecDepth 100000 in
set_option maxHeartbeats 1000000 in
theorem equalI {a b : List (Int)} {va vb : Value} {w : World} (ha : SlAt ic 1 w va a) (hb : SlAt ic 1 w vb b) :
    Calls Tryz.prog 99 #[va, vb] w fun e w' => e = .returned (.bool (decide (a = b))) ∧ Below w.heap.size w w' := by
  obtain ⟨aa, ca, rfl, hla, _, hca⟩ := ha.ints
  obtain ⟨ab, cb, rfl, hlb, _, hcb⟩ := hb.ints
  have Ha := hidIn hca
  have Hb := hidIn hcb
  clear hca hcb ha hb
  by_cases hlen : a.length = b.length
  · obtain ⟨m, hm⟩ : ∃ m, b.length = m := ⟨_, rfl⟩
    have hlen2 : a.length = m := by rw [hlen, hm]
    rw [hm] at hlb Hb ⊢
    rw [hlen2] at hla Ha ⊢
    have Hm := hidIn hm
    have HL := hidIn hlen2
    clear hm hlen2 hlen
    go_enter Tryz.func99, Tryz.ntmps99
    go_wp2
    go_loopw [13] (fun i wr => ∃ k : Nat, k ≤ m ∧ i = .int .i64 k ∧ Hid (Below w.heap.size w wr ∧ decide (a = b) = decide (a.drop k = b.drop k))) (fun i _ => m - (intOf i).toNat)
    case atStart => exact ⟨0, Nat.zero_le _, rfl, hidIn ⟨Below.refl _ _, by rw [List.drop_zero, List.drop_zero]⟩⟩
    case round =>
      obtain ⟨k, hk, rfl, HR⟩ := hrel
      obtain ⟨hbel, hrest⟩ := HR.out
      have HB := hidIn hbel
      have HE := hidIn hrest
      clear HR hbel hrest
      by_cases hlt : k < m
      · obtain ⟨b1, o1, rfl, hb1, c1⟩ := Ha.out (by omega)
        obtain ⟨b2, o2, rfl, hb2, c2⟩ := Hb.out (by omega)
        obtain ⟨x, hx⟩ : ∃ x, a[k]? = some x := ⟨a[k]'(by have := HL.out; omega), List.getElem?_eq_getElem _⟩
        obtain ⟨y, hy⟩ : ∃ y, b[k]? = some y := ⟨b[k]'(by have := Hm.out; omega), List.getElem?_eq_getElem _⟩
        have HN : Hid (decide (a = b) = (decide (x = y) && decide (a.drop (k + 1) = b.drop (k + 1)))) := hidIn (by rw [HE.out, dropEq hx hy])
        have x0 := (HB.out.cell (p := ⟨b1, o1 + k, none⟩) hb1).trans (c1 k x hx)
        have y0 := (HB.out.cell (p := ⟨b2, o2 + k, none⟩) hb2).trans (c2 k y hy)
        have hki : (k : Int) < (m : Int) := by omega
        clear c1 c2 hx hy
        by_cases hxy : x = y
        · have hq : (x == y) = true := by simpa using hxy
          have Hxy := hidIn hxy
          clear hxy
          go_wp2_with fail
          go_quiet (fail)
          go_wp2_with fail
          go_roundw
          case rel => exact ⟨k + 1, by omega, by go_num, hidIn ⟨below_drewN HB.out _, by rw [HN.out]; simp [Hxy.out]⟩⟩
          case measure => simp [intOf]; omega
        · have hq : (x == y) = false := by simpa using hxy
          have Hxy := hidIn hxy
          clear hxy
          go_wp2_with fail
          go_quiet (fail)
          go_wp2_with fail
          go_returns
          exact ⟨by rw [HN.out]; simp [Hxy.out], below_drewN HB.out _⟩
      · have hki : ¬ ((k : Int) < (m : Int)) := by omega
        have HT : Hid (decide (a = b) = true) := hidIn (by rw [HE.out, List.drop_eq_nil_of_le (by have := HL.out; omega), List.drop_eq_nil_of_le (by have := Hm.out; omega)]; rfl)
        go_wp2_with fail
        go_returns
        exact ⟨by rw [HT.out]; rfl, HB.out⟩
  · have hne : ((a.length : Int) == (b.length : Int)) = false := by
      apply Bool.eq_false_iff.2
      intro h
      simp at h
      exact hlen (by omega)
    have HT : Hid (decide (a = b) = false) := hidIn (by simp; intro h; exact hlen (by rw [h]))
    clear hlen
    generalize a.length = m at *
    generalize b.length = m2 at *
    go_enter Tryz.func99, Tryz.ntmps99
    go_wp2
    go_ret
    exact ⟨by rw [HT.out]; rfl, Below.refl _ _⟩
set_option maxRecDepth 100000 in
set_option maxHeartbeats 1000000 in
theorem sameInts {a b : List (Int)} {va vb : Value} {w : World} (ha : SlAt ic 1 w va a) (hb : SlAt ic 1 w vb b) :
    Calls Tryz.prog 28 #[va, vb] w fun e w' => e = .returned (.bool (decide (a = b))) ∧ Below w.heap.size w w' := by
  obtain ⟨aa, ca, rfl, hla, _, hca⟩ := ha.ints
  obtain ⟨ab, cb, rfl, hlb, _, hcb⟩ := hb.ints
  have Ha := hidIn hca
  have Hb := hidIn hcb
  clear hca hcb ha hb
  by_cases hlen : a.length = b.length
  · obtain ⟨m, hm⟩ : ∃ m, b.length = m := ⟨_, rfl⟩
    have hlen2 : a.length = m := by rw [hlen, hm]
    rw [hm] at hlb Hb ⊢
    rw [hlen2] at hla Ha ⊢
    have Hm := hidIn hm
    have HL := hidIn hlen2
    clear hm hlen2 hlen
    go_enter Tryz.func28, Tryz.ntmps28
    go_wp2
    go_loopw [5] (fun i wr => ∃ k : Nat, k ≤ m ∧ i = .int .i64 k ∧ Hid (Below w.heap.size w wr ∧ decide (a = b) = decide (a.drop k = b.drop k))) (fun i _ => m - (intOf i).toNat)
    case atStart => exact ⟨0, Nat.zero_le _, rfl, hidIn ⟨Below.refl _ _, by rw [List.drop_zero, List.drop_zero]⟩⟩
    case round =>
      obtain ⟨k, hk, rfl, HR⟩ := hrel
      obtain ⟨hbel, hrest⟩ := HR.out
      have HB := hidIn hbel
      have HE := hidIn hrest
      clear HR hbel hrest
      by_cases hlt : k < m
      · obtain ⟨b1, o1, rfl, hb1, c1⟩ := Ha.out (by omega)
        obtain ⟨b2, o2, rfl, hb2, c2⟩ := Hb.out (by omega)
        obtain ⟨x, hx⟩ : ∃ x, a[k]? = some x := ⟨a[k]'(by have := HL.out; omega), List.getElem?_eq_getElem _⟩
        obtain ⟨y, hy⟩ : ∃ y, b[k]? = some y := ⟨b[k]'(by have := Hm.out; omega), List.getElem?_eq_getElem _⟩
        have HN : Hid (decide (a = b) = (decide (x = y) && decide (a.drop (k + 1) = b.drop (k + 1)))) := hidIn (by rw [HE.out, dropEq hx hy])
        have x0 := (HB.out.cell (p := ⟨b1, o1 + k, none⟩) hb1).trans (c1 k x hx)
        have y0 := (HB.out.cell (p := ⟨b2, o2 + k, none⟩) hb2).trans (c2 k y hy)
        have hki : (k : Int) < (m : Int) := by omega
        clear c1 c2 hx hy
        by_cases hxy : x = y
        · have hq : (x == y) = true := by simpa using hxy
          have Hxy := hidIn hxy
          clear hxy
          go_wp2_with fail
          go_quiet (fail)
          go_wp2_with fail
          go_roundw
          case rel => exact ⟨k + 1, by omega, by go_num, hidIn ⟨below_drewN HB.out _, by rw [HN.out]; simp [Hxy.out]⟩⟩
          case measure => simp [intOf]; omega
        · have hq : (x == y) = false := by simpa using hxy
          have Hxy := hidIn hxy
          clear hxy
          go_wp2_with fail
          go_quiet (fail)
          go_wp2_with fail
          go_returns
          exact ⟨by rw [HN.out]; simp [Hxy.out], below_drewN HB.out _⟩
      · have hki : ¬ ((k : Int) < (m : Int)) := by omega
        have HT : Hid (decide (a = b) = true) := hidIn (by rw [HE.out, List.drop_eq_nil_of_le (by have := HL.out; omega), List.drop_eq_nil_of_le (by have := Hm.out; omega)]; rfl)
        go_wp2_with fail
        go_returns
        exact ⟨by rw [HT.out]; rfl, HB.out⟩
  · have hne : ((a.length : Int) == (b.length : Int)) = false := by
      apply Bool.eq_false_iff.2
      intro h
      simp at h
      exact hlen (by omega)
    have HT : Hid (decide (a = b) = false) := hidIn (by simp; intro h; exact hlen (by rw [h]))
    clear hlen
    generalize a.length = m at *
    generalize b.length = m2 at *
    go_enter Tryz.func28, Tryz.ntmps28
    go_wp2
    go_ret
    exact ⟨by rw [HT.out]; rfl, Below.refl _ _⟩
end Go.Proofs.YtbggingacoheiaaGreatDoor
