/- The document's Same of two lists of texts. -/
import Derived.Test.YtaldehgggilmdaaCW
namespace Go.Proofs.Ytaldehgggilmdaa.Ca.S
open Go.RowKit Go.Maps

theorem txt_eq (x y : ByteArray) : (x.toList == y.toList) = decide (x = y) := by
  rw [Bool.eq_iff_iff]
  simp only [beq_iff_eq, decide_eq_true_eq]
  constructor
  · intro h
    rw [ByteArray.toList_eq, ByteArray.toList_eq] at h
    have h1 : x.data = y.data := Array.toList_inj.1 h
    cases x
    cases y
    exact congrArg ByteArray.mk h1
  · intro h
    rw [h]
set_option maxRecDepth 100000 in
set_option maxHeartbeats 2000000 in
theorem dsame_any {w : World} {a b : Value} {l m : List ByteArray} (ha : SlAt tc 1 w a l) (hb : SlAt tc 1 w b m) :
    Calls Try.prog 7 #[a, b] w fun e w' => e = .returned (.bool (decide (l = m))) ∧ Below w.heap.size w w' := by
  obtain ⟨pa, ca, rfl, hl, _, hca⟩ := sl_txt ha
  obtain ⟨pb, cb, rfl, hm, _, hcb⟩ := sl_txt hb
  have HA := hidIn hca
  have HB := hidIn hcb
  clear ha hb hca hcb
  by_cases hlen : ¬ l.length = m.length
  · have hne : ¬ ((l.length : Int) = (m.length : Int)) := by omega
    have hlm : decide (l = m) = false := by simpa using fun e => hlen (by rw [e])
    rw [hlm]
    go_enter Try.func7, Try.ntmps7
    go_wp2_with fail
    go_returns
    exact ⟨rfl, Below.refl _ _⟩
  have hlen := Decidable.not_not.1 hlen
  rw [← hlen]
  have Hlen := hidIn hlen
  clear hlen hm
  go_enter Try.func7, Try.ntmps7
  go_wp2_with fail
  go_loopw [5] (fun i wr => ∃ k : Nat, k ≤ l.length ∧ i = .int .i64 k ∧ Hid (Below w.heap.size w wr ∧ l.take k = m.take k)) (fun i _ => l.length - (intOf i).toNat)
  case atStart => exact ⟨0, Nat.zero_le _, rfl, hidIn ⟨Below.refl _ _, rfl⟩⟩
  case round =>
    obtain ⟨k, hk, rfl, HR⟩ := hrel
    by_cases hlt : k < l.length
    · obtain ⟨b1, o1, rfl, hb1, h1⟩ := HA.out (by omega)
      obtain ⟨b2, o2, rfl, hb2, h2⟩ := HB.out (by have := Hlen.out; omega)
      obtain ⟨x, hx⟩ : ∃ x, l[k]? = some x := ⟨l[k], List.getElem?_eq_getElem hlt⟩
      obtain ⟨y, hy⟩ : ∃ y, m[k]? = some y := ⟨m[k]'(by have := Hlen.out; omega), List.getElem?_eq_getElem _⟩
      have x1 := cell_regrown ((HR.out.1.cell (p := ⟨b1, o1 + k, none⟩) hb1).trans (h1 k x hx))
      have x2 := cell_regrown ((HR.out.1.cell (p := ⟨b2, o2 + k, none⟩) hb2).trans (h2 k y hy))
      have hki : (k : Int) < (l.length : Int) := by omega
      have Hx := hidIn hx
      have Hy := hidIn hy
      clear h1 h2 hx hy
      by_cases hxy : x = y
      · subst hxy
        go_wp2_with fail
        refine wp_region_quiet_below (by kernel_rfl) (by kernel_rfl) ?_
        repeat (go_big_quiet_step (fail))
        refine wpQuiet_nil ?_
        intro _ hw'
        obtain ⟨⟨dq, osq⟩, hw''⟩ := hw'
        subst hw''
        have hbr := hidIn (HR.out.1.trans ((below_regrown wr dq osq).mono HR.out.1.size))
        have HT := hidIn HR.out.2
        generalize Go.Sort.grow (redrawn wr dq) osq = U at hbr ⊢
        clear x1 x2 HR
        go_wp2
        go_roundw
        case rel => exact ⟨k + 1, by omega, by go_num, hidIn ⟨hbr.out, by rw [List.take_add_one, List.take_add_one, HT.out, Hx.out, Hy.out]⟩⟩
        case measure => simp [intOf]; omega
      · have hxf : (x.toList == y.toList) = false := by rw [txt_eq]; simpa using hxy
        have hxt : ¬ x.toList = y.toList := by simpa using hxf
        go_wp2_with fail
        refine wp_region_quiet_below (by kernel_rfl) (by kernel_rfl) ?_
        repeat (go_big_quiet_step (fail))
        refine wpQuiet_nil ?_
        intro _ hw'
        obtain ⟨⟨dq, osq⟩, hw''⟩ := hw'
        subst hw''
        have hbr := hidIn (HR.out.1.trans ((below_regrown wr dq osq).mono HR.out.1.size))
        have HT := hidIn HR.out.2
        generalize Go.Sort.grow (redrawn wr dq) osq = U at hbr ⊢
        clear x1 x2 HR
        have hlm : decide (l = m) = false := by
          have h1 : l ≠ m := fun e => hxy (by
            have h2 := Hx.out
            rw [e, Hy.out] at h2
            exact (Option.some.inj h2).symm)
          simpa using h1
        go_wp2
        go_returns
        exact ⟨by rw [hlm]; rfl, hbr.out⟩
    · have hki : ¬ ((k : Int) < (l.length : Int)) := by omega
      have hlm : decide (l = m) = true := by
        have h1 := HR.out.2
        rw [List.take_of_length_le (by omega), List.take_of_length_le (by have := Hlen.out; omega)] at h1
        simpa using h1
      go_wp2
      go_returns
      exact ⟨rfl, HR.out.1⟩
end Go.Proofs.Ytaldehgggilmdaa.Ca.S
