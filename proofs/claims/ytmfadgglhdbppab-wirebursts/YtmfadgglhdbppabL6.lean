/- The law WireParts, walked. -/
import Derived.Test.YtmfadgglhdbppabK9
namespace Go.Proofs.Ytmfadgglhdbppab
open Go.RowKit

theorem app_toList (a b : ByteArray) : (a ++ b).data.toList = a.data.toList ++ b.data.toList := by simp
theorem app_size (a b : ByteArray) : (a ++ b).size = a.size + b.size := by simp
theorem crc_app (s : Nat) (a b : ByteArray) : crc s (a ++ b).data.toList = crc (crc s a.data.toList) b.data.toList := by rw [app_toList, crc_append]
/-- The strings of a row of cells. -/
def strs (cs : Array Value) (i : Nat) : ByteArray := match cs[i]? with
  | some (.string s) => s
  | _ => ⟨#[]⟩
def strOk : List Value → Prop
  | [] => True
  | .string s :: r => s.size ≤ maxLen ∧ strOk r
  | _ :: _ => False
theorem strOk_at : ∀ {l : List Value}, strOk l → ∀ i, i < l.length → ∃ s, l[i]? = some (.string s) ∧ s.size ≤ maxLen
  | .string s :: r, h, 0, _ => ⟨s, rfl, h.1⟩
  | .string _ :: r, h, i + 1, hi => by
    obtain ⟨t, h1, h2⟩ := strOk_at (l := r) h.2 i (by simpa using hi)
    exact ⟨t, by simpa using h1, h2⟩
/-- Sum of strings that lie in a new row. -/
theorem sum_new (cs : Array Value) (n T cap b : Nat) (w : World) (hb : w.heap.size = b) (hn : cs.size = n) (hm : n ≤ maxLen) (hs : strOk cs.toList) :
    Calls Try.prog 7 #[.slice (some ⟨b, 0, none⟩) n cap] (w.alloc (.cells cs T)) fun e w' => e = .returned (.int .u16 (sumF (strs cs) n : Nat)) ∧ w' = w.alloc (.cells cs T) := by
  subst hb
  have hat : ∀ i, i < n → cs[i]? = some (.string (strs cs i)) ∧ (strs cs i).size ≤ maxLen := by
    intro i hi
    obtain ⟨t, h1, h2⟩ := strOk_at hs i (by simpa [hn] using hi)
    have h1' : cs[i]? = some (.string t) := by simpa using h1
    have e : strs cs i = t := by unfold strs; rw [h1']
    rw [e]
    exact ⟨h1', h2⟩
  refine sum_any (strs cs) n w.heap.size 0 cap hm (fun i hi => (hat i hi).2) _ (fun i hi => ?_)
  rw [Nat.zero_add]
  simp [(hat i hi).1]

set_option maxHeartbeats 1000000 in
theorem parts_walk (a b c : ByteArray) (ha : a.size ≤ 1000000000000000) (hb : b.size ≤ 1000000000000000) (hc : c.size ≤ 1000000000000000) (w : World) :
    Calls Try.prog 3 #[.string a, .string b, .string c] w fun e w' => e = .returned (.bool true) ∧ Below w.heap.size w w' := by
  have q1 : ¬ 9223372036854775807 < a.size + b.size := by omega
  have q2 : ¬ 9223372036854775807 < b.size + c.size := by omega
  have q3 : ¬ 9223372036854775807 < (a ++ b).size + c.size := by rw [app_size]; omega
  have m1 : a.size ≤ maxLen := by unfold maxLen; omega
  have m2 : b.size ≤ maxLen := by unfold maxLen; omega
  have m3 : c.size ≤ maxLen := by unfold maxLen; omega
  have m4 : (a ++ b ++ c).size ≤ maxLen := by rw [app_size, app_size]; unfold maxLen; omega
  have m5 : (a ++ b).size ≤ maxLen := by rw [app_size]; unfold maxLen; omega
  have m6 : (b ++ c).size ≤ maxLen := by rw [app_size]; unfold maxLen; omega
  have m0 : (⟨#[]⟩ : ByteArray).size ≤ maxLen := by decide
  have e1 := crc_app 65535 (a ++ b) c
  have e2 := crc_app 65535 a b
  have e3 := crc_app (crc 65535 a.data.toList) b c
  have E := hidIn (And.intro e1 (And.intro e2 e3))
  clear e1 e2 e3
  clear ha hb hc
  go_enter Try.func3, Try.ntmps3
  go_wp2_with (go_at_call 6; refine (works_any _).mono ?_; rintro e w1 ⟨rfl, hb1⟩)
  refine (sum_new _ _ _ _ _ _ (by simp) (by rfl) (by decide) (by exact ⟨m1, m2, m3, trivial⟩)).mono ?_
  rintro e w3 ⟨rfl, rfl⟩
  go_wp2_with fail
  refine (sum_new _ _ _ _ _ _ (by simp) (by rfl) (by decide) (by exact ⟨m4, trivial⟩)).mono ?_
  rintro e w3 ⟨rfl, rfl⟩
  have s1 : ((sumF (strs #[.string a, .string b, .string c]) 3 : Nat) : Int) = ((sumF (strs #[.string (a ++ b ++ c)]) 1 : Nat) : Int) := by
    show ((crc (crc (crc 65535 a.data.toList) b.data.toList) c.data.toList : Nat) : Int) = (crc 65535 (a ++ b ++ c).data.toList : Nat)
    rw [E.out.1, E.out.2.1]
  go_wp2_with fail
  refine (sum_new _ _ _ _ _ _ (by simp) (by rfl) (by decide) (by exact ⟨m5, m0, m3, trivial⟩)).mono ?_
  rintro e w3 ⟨rfl, rfl⟩
  go_wp2_with fail
  refine (sum_new _ _ _ _ _ _ (by simp) (by rfl) (by decide) (by exact ⟨m1, m6, trivial⟩)).mono ?_
  rintro e w3 ⟨rfl, rfl⟩
  have s2 : ((sumF (strs #[.string (a ++ b), .string ⟨#[]⟩, .string c]) 3 : Nat) : Int) = ((sumF (strs #[.string a, .string (b ++ c)]) 2 : Nat) : Int) := by
    show ((crc (crc (crc 65535 (a ++ b).data.toList) (⟨#[]⟩ : ByteArray).data.toList) c.data.toList : Nat) : Int) = (crc (crc 65535 a.data.toList) (b ++ c).data.toList : Nat)
    rw [E.out.2.2, E.out.2.1]
    rfl
  go_wp2_with fail
  go_ret
  refine ⟨rfl, ?_⟩
  have h1 := hb1.size
  exact (((hb1.alloc h1 _).alloc (by simp; omega) _).alloc (by simp; omega) _).alloc (by simp; omega) _
end Go.Proofs.Ytmfadgglhdbppab
