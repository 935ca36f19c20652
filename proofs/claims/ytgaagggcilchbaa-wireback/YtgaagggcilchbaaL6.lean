/- The law WireParts, walked. -/
import Derived.Test.YtgaagggcilchbaaK9
namespace Go.Proofs.Ytgaagggcilchbaa
open Go.RowKit

theorem app_toList (a b : ByteArray) : (a ++ b).data.toList = a.data.toList ++ b.data.toList := by simp
theorem app_size (a b : ByteArray) : (a ++ b).size = a.size + b.size := by simp
theorem crc_app (s : Nat) (a b : ByteArray) : crc s (a ++ b).data.toList = crc (crc s a.data.toList) b.data.toList := by rw [app_toList, crc_append]
/-- The strings of a row of cells. -/
def strs (cs : Array Value) (i : Nat) : ByteArray := match cs[i]? with
  | some (.string s) => s
  | _ => ⟨#[]⟩
def strOk : List Value → Prop
  | [] => True
  | .string s :: r => s.size ≤ maxLen ∧ strOk r
  | _ :: _ => False
theorem strOk_at : ∀ {l : List Value}, strOk l → ∀ i, i < l.length → ∃ s, l[i]? = some (.string s) ∧ s.size ≤ maxLen
  | .string s :: r, h, 0, _ => ⟨s, rfl, h.1⟩
  | .string _ :: r, h, i + 1, hi => by
    obtain ⟨t, h1, h2⟩ := strOk_at (l := r) h.2 i (by simpa using hi)
    exact ⟨t, by simpa using h1, h2⟩
/-- Sum of strings that lie in a new row. -/
theorem sum_new (cs : Array Value) (n T cap b : Nat) (w : World) (hb : w.heap.size = b) (hn : cs.size = n) (hm : n ≤ maxLen) (hs : strOk cs.toList) :
    Calls Try.prog 18 #[.slice (some ⟨b, 0, none⟩) n cap] (w.alloc (.cells cs T)) fun e w' => e = .returned (.int .u16 (sumF (strs cs) n : Nat)) ∧ w' = w.alloc (.cells cs T) := by
  subst hb
  have hat : ∀ i, i < n → cs[i]? = some (.string (strs cs i)) ∧ (strs cs i).size ≤ maxLen := by
    intro i hi
    obtain ⟨t, h1, h2⟩ := strOk_at hs i (by simpa [hn] using hi)
    have h1' : cs[i]? = some (.string t) := by simpa using h1
    have e : strs cs i = t := by unfold strs; rw [h1']
    rw [e]
    exact ⟨h1', h2⟩
  refine sum_any (strs cs) n w.heap.size 0 cap hm (fun i hi => (hat i hi).2) _ (fun i hi => ?_)
  rw [Nat.zero_add]
  simp [(hat i hi).1]

end Go.Proofs.Ytgaagggcilchbaa
