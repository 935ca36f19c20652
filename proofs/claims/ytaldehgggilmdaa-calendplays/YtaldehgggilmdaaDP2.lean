/- The document's things: appends; where a thing is put. -/
import Derived.Test.YtaldehgggilmdaaDP1
import Derived.Test.YtaldehgggilmdaaCP0
namespace Go.Proofs.Ytaldehgggilmdaa.Ca.S
open Go.RowKit Go.Maps

abbrev t3 (b : Tg ByteArray) : List Value := [.int .u64 b.1.2, .int .i64 b.2, .string b.1.1]
theorem infoTh : (Try.prog.info? 49).map (fun i => (i.zero, i.size, i.bytes)) = some (some (.agg #[.int .u64 0, .int .i64 0, .string ⟨#[]⟩]), 3, 32) := by kernel_rfl
theorem append_t3 {W : World} {base n : Nat} {u v : Value} {l m : List (Tg ByteArray)} (hr : W.ownsRow base 49 3 u n (fl t3 l)) (hln : l.length = n) (hv : SlAt t3 3 W v m) (hk : n + m.length ≤ 1000000) (hbase : base ≤ W.heap.size) (hnil : (∃ a n c, v = .slice (some a) n c) ∨ v = .slice none 0 0) :
    ∃ v' w6, (Builtin.append_ #[26, 26] 26 #[u, v]).run Try.prog W = .ok v' w6 ∧ w6.ownsRow base 49 3 v' (n + m.length) (fl t3 (l ++ m)) ∧ Fr (fun k => u.ownBlock = some k) W w6 := by
  rcases hnil with h | h
  · obtain ⟨v', w6, h1, h2, h3, hgr⟩ := append_all (P := Try.prog) (cs := t3) (T := 26) (fun _ => rfl) (fun x u hu => by simp at hu; rcases hu with rfl | rfl | rfl <;> rfl) Try.underlying26 infoTh rfl (by decide) hr hv (by omega) (by unfold maxLen; omega) hbase (.inl h)
    exact ⟨v', w6, h1, h2, ⟨hgr.os, hgr.tape, hgr.output, hgr.size, fun j hj hne => hgr.block j hj (fun e => hne e.symm)⟩⟩
  · subst h
    obtain ⟨a, cap, he, hl0, hcap, _⟩ := slAt_of_row (cs := t3) (fun _ => rfl) hr hln
    have hm : m = [] := by
      obtain ⟨a', c', h', _⟩ := hv
      cases m with
      | nil => rfl
      | cons x m => simp at h'
    subst hm
    refine ⟨u, W, append_nil9 (T := 26) Try.underlying26 infoTh u a l.length cap he hcap W, ?_, Fr.refl _ _⟩
    simpa using hr
theorem insL_at {L : List (Tg ByteArray)} {k : Nat} {e : Tg ByteArray} (hk : k ≤ L.length) (ha : ∀ a ∈ L.take k, tick a.1 ≤ tick e.1) (hb : ∀ a, L[k]? = some a → ¬ tick a.1 ≤ tick e.1) : insL L e = L.take k ++ e :: L.drop k := by
  induction L generalizing k with
  | nil => simp [insL]
  | cons x L ih =>
    rw [insL_cons]
    cases k with
    | zero => rw [if_neg (hb x rfl)]; rfl
    | succ k =>
      rw [if_pos (ha x (by simp)), ih (by simpa using hk) (fun a h => ha a (by simp [h])) (fun a h => hb a (by simpa using h))]
      rfl
end Go.Proofs.Ytaldehgggilmdaa.Ca.S
