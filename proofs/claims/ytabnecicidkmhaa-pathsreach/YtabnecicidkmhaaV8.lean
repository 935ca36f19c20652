/- slices.Compare. -/
import Derived.Test.YtabnecicidkmhaaV7
namespace Go.Proofs.Ytabnecicidkmhaa
open Go.RowKit

/-- Which list is ahead: by the first place at which they are unlike; a beginning is ahead. -/
def cmpL : List Int → List Int → Int
  | [], [] => 0
  | [], _ :: _ => -1
  | _ :: _, [] => 1
  | a :: l, b :: m => if a < b then -1 else if b < a then 1 else cmpL l m
theorem isNaN_any (x : Int) (w : World) : Calls Try.prog 62 #[.int .i64 x] w fun e w' => e = .returned (.bool false) ∧ w' = w := by
  go_enter Try.func62, Try.ntmps62
  go_wp2
  go_ret
  exact ⟨by simp, rfl⟩
theorem cmpI_any (x y : Int) (w : World) : Calls Try.prog 49 #[.int .i64 x, .int .i64 y] w fun e w' => e = .returned (.int .i64 (if x < y then -1 else if y < x then 1 else 0)) ∧ w' = w := by
  by_cases h1 : x < y
  · go_enter Try.func49, Try.ntmps49
    go_wp2_with (go_at_call 62; refine (isNaN_any _ _).mono ?_; rintro e w1 ⟨rfl, hw1⟩; rw [hw1]; clear hw1 w1)
    go_ret
    exact ⟨rfl, rfl⟩
  · by_cases h2 : y < x
    · go_enter Try.func49, Try.ntmps49
      go_wp2_with (go_at_call 62; refine (isNaN_any _ _).mono ?_; rintro e w1 ⟨rfl, hw1⟩; rw [hw1]; clear hw1 w1)
      go_ret
      exact ⟨rfl, rfl⟩
    · go_enter Try.func49, Try.ntmps49
      go_wp2_with (go_at_call 62; refine (isNaN_any _ _).mono ?_; rintro e w1 ⟨rfl, hw1⟩; rw [hw1]; clear hw1 w1)
      go_ret
      exact ⟨rfl, rfl⟩
set_option maxRecDepth 100000 in
set_option maxHeartbeats 1000000 in
theorem compare_any {a b : List Int} {va vb : Value} {w : World} (ha : SlAt ic 1 w va a) (hb : SlAt ic 1 w vb b) :
    Calls Try.prog 37 #[va, vb] w fun e w' => e = .returned (.int .i64 (cmpL a b)) ∧ w' = w := by
  obtain ⟨aa, ca, rfl, hla, _, hca⟩ := ha.ints
  obtain ⟨ab, cb, rfl, hlb, _, hcb⟩ := hb.ints
  have Ha := hidIn hca
  have Hb := hidIn hcb
  clear hca hcb ha hb
  go_enter Try.func37, Try.ntmps37
  go_wp2
  go_loopw [11] (fun i wr => wr = w ∧ ∃ k : Nat, k ≤ a.length ∧ i = .int .i64 k ∧ k ≤ b.length ∧ Hid (cmpL a b = cmpL (a.drop k) (b.drop k))) (fun i _ => a.length - (intOf i).toNat)
  case atStart => exact ⟨rfl, 0, Nat.zero_le _, rfl, Nat.zero_le _, hidIn (by rw [List.drop_zero, List.drop_zero])⟩
  case round =>
    obtain ⟨hwr, k, hk, rfl, hkb, HE⟩ := hrel
    rw [hwr]
    clear hwr
    by_cases hlt : k < a.length
    · obtain ⟨b1, o1, rfl, hb1, c1⟩ := Ha.out (by omega)
      obtain ⟨x, hx⟩ : ∃ x, a[k]? = some x := ⟨a[k], List.getElem?_eq_getElem hlt⟩
      have x0 := c1 k _ hx
      have hki : (k : Int) < (a.length : Int) := by omega
      by_cases hlt2 : k < b.length
      · obtain ⟨b2, o2, rfl, hb2, c2⟩ := Hb.out (by omega)
        obtain ⟨y, hy⟩ : ∃ y, b[k]? = some y := ⟨b[k], List.getElem?_eq_getElem hlt2⟩
        have y0 := c2 k _ hy
        have hkj : ¬ ((b.length : Int) ≤ (k : Int)) := by omega
        have hkj2 : (k : Int) < (b.length : Int) := by omega
        have HN : Hid (cmpL a b = if x < y then -1 else if y < x then 1 else cmpL (a.drop (k + 1)) (b.drop (k + 1))) := hidIn (by rw [HE.out, drop_next hx, drop_next hy]; rfl)
        clear c1 c2 hx hy HE
        go_wp2_with fail
        refine (cmpI_any x y w).mono ?_
        rintro e w1 ⟨rfl, hw1⟩
        rw [hw1]
        clear hw1 w1
        by_cases h1 : x < y
        · rw [if_pos h1]
          have HR : Hid (cmpL a b = -1) := hidIn (by rw [HN.out, if_pos h1])
          clear h1
          go_wp2_with fail
          go_returns
          exact ⟨by rw [HR.out]; rfl, rfl⟩
        · by_cases h2 : y < x
          · rw [if_neg h1, if_pos h2]
            have HR : Hid (cmpL a b = 1) := hidIn (by rw [HN.out, if_neg h1, if_pos h2])
            clear h1 h2
            go_wp2_with fail
            go_returns
            exact ⟨by rw [HR.out]; rfl, rfl⟩
          · rw [if_neg h1, if_neg h2]
            have HR : Hid (cmpL a b = cmpL (a.drop (k + 1)) (b.drop (k + 1))) := hidIn (by rw [HN.out, if_neg h1, if_neg h2])
            clear h1 h2
            go_wp2_with fail
            go_roundw
            case rel => exact ⟨trivial, k + 1, by omega, by go_num, by omega, HR⟩
            case measure => simp [intOf]; omega
      · have hkj : (b.length : Int) ≤ (k : Int) := by omega
        have HR : Hid (cmpL a b = 1) := hidIn (by rw [HE.out, drop_next hx, show b.drop k = [] from List.drop_eq_nil_of_le (by omega)]; rfl)
        clear c1 hx HE
        go_wp2_with fail
        go_returns
        exact ⟨by rw [HR.out]; rfl, rfl⟩
    · have hki : ¬ ((k : Int) < (a.length : Int)) := by omega
      have hke : k = a.length := by omega
      by_cases hab : a.length < b.length
      · have hki2 : (a.length : Int) < (b.length : Int) := by omega
        have HR : Hid (cmpL a b = -1) := hidIn (by
          rw [HE.out, show a.drop k = [] from List.drop_eq_nil_of_le (by omega)]
          obtain ⟨y, hy⟩ : ∃ y, b[k]? = some y := ⟨b[k], List.getElem?_eq_getElem (by omega)⟩
          rw [drop_next hy]
          rfl)
        clear HE
        go_wp2_with fail
        go_returns
        exact ⟨by rw [HR.out]; rfl, rfl⟩
      · have hki2 : ¬ ((a.length : Int) < (b.length : Int)) := by omega
        have HR : Hid (cmpL a b = 0) := hidIn (by
          rw [HE.out, show a.drop k = [] from List.drop_eq_nil_of_le (by omega), show b.drop k = [] from List.drop_eq_nil_of_le (by omega)]
          rfl)
        clear HE
        go_wp2_with fail
        go_returns
        exact ⟨by rw [HR.out]; rfl, rfl⟩
end Go.Proofs.Ytabnecicidkmhaa
