/- A calendar of int: rise, sink. -/
import Derived.Test.YtaldehgggilmdaaC3I
namespace Go.Proofs.Ytaldehgggilmdaa.Ca.I
open Go.RowKit Go.Maps

theorem ownH_perm {v : Value} {es fs : List Th} (h : fs.Perm es) {k : Nat} (hk : ownH v fs k) : ownH v es k := hk.imp id fun ⟨e, he, hee⟩ => ⟨e, h.mem_iff.1 he, hee⟩
theorem Fr.perm {v : Value} {es fs : List Th} {w w' : World} (hF : Fr (ownH v fs) w w') (h : fs.Perm es) : Fr (ownH v es) w w' := hF.mono fun _ _ hk => ownH_perm h hk
theorem sinkF_end (f : Nat) (es : List Th) (i : Nat) (h : es.length ≤ 2 * i + 1) : sinkF less f es i = es := by
  cases f with
  | zero => rfl
  | succ f =>
    rw [sinkF, List.getElem?_eq_none (by have := belowF_or less es i; omega)]
theorem belowF_lt (es : List Th) (i : Nat) (h : 2 * i + 1 < es.length) : belowF less es i < es.length := by
  unfold belowF
  split
  · rename_i r l hr _
    have := (List.getElem?_eq_some_iff.1 hr).1
    split <;> omega
  · exact h
end Go.Proofs.Ytaldehgggilmdaa.Ca.I
