/- FateOnce: the law's rules as lists (pure). -/
import Derived.Test.YtkkgbcoclfpicaaFA0
namespace Go.Proofs.Ytkkgbcoclfpicaa.Fa

abbrev Tu := Nat × Nat × Nat × Nat × Nat
def byT (t : Tu) : Int := if t.2.2.2.1 % 3 = 0 then 0 else 1 + ((t.2.2.2.2 % 64 : Nat) : Int)
def mkT (t : Tu) : Ru := (1 + ((t.1 % 4 : Nat) : Int), 1 + ((t.2.1 % 4 : Nat) : Int), 1 + ((t.2.2.1 % 6 : Nat) : Int), 1 + ((t.2.2.2.1 % 3 : Nat) : Int), byT t)
def agB (out : List Ru) (r : Ru) : Bool := (r.1 == r.2.1) || out.any (fun s => (s.1 == r.1) && ((s.2.1 == r.2.1) && (s.2.2.1 == r.2.2.1)))
def adT (out : List Ru) (t : Tu) : List Ru := if agB out (mkT t) = true then out else out ++ [mkT t]
def rlL (L : List Tu) : List Ru := L.foldl adT []
theorem rlL_snoc (L : List Tu) (t : Tu) : rlL (L ++ [t]) = adT (rlL L) t := by unfold rlL; rw [List.foldl_append]; rfl
theorem mkT_ok {t : Tu} (h : (mkT t).1 ≠ (mkT t).2.1) : ruOk (mkT t) = true := by
  have h0 : t.2.2.2.1 % 3 = 0 ∨ t.2.2.2.1 % 3 = 1 ∨ t.2.2.2.1 % 3 = 2 := by omega
  have hp : isP (mkT t).1 (mkT t).2.1 = true := by
    refine isP_iff.2 ⟨?_, ?_, h⟩
    · show 1 ≤ 1 + ((t.1 % 4 : Nat) : Int) ∧ 1 + ((t.1 % 4 : Nat) : Int) ≤ 24; omega
    · show 1 ≤ 1 + ((t.2.1 % 4 : Nat) : Int) ∧ 1 + ((t.2.1 % 4 : Nat) : Int) ≤ 24; omega
  unfold ruOk
  rw [hp]
  have h1 : decide (1 ≤ (mkT t).2.2.1) = true := decide_eq_true (show (1 : Int) ≤ 1 + ((t.2.2.1 % 6 : Nat) : Int) by omega)
  have h2 : decide ((mkT t).2.2.1 ≤ 1048576) = true := decide_eq_true (show 1 + ((t.2.2.1 % 6 : Nat) : Int) ≤ (1048576 : Int) by omega)
  rw [h1, h2]
  show byOk (1 + ((t.2.2.2.1 % 3 : Nat) : Int)) (byT t) = true
  unfold byOk byT
  rcases h0 with h0 | h0 | h0 <;> rw [h0] <;> simp <;> omega
theorem agB_no {out : List Ru} {r : Ru} (h : agB out r = false) : r.1 ≠ r.2.1 ∧ ∀ s ∈ out, kR s ≠ kR r := by
  unfold agB at h
  rw [Bool.or_eq_false_iff, List.any_eq_false] at h
  refine ⟨by simpa using h.1, fun s hs e => ?_⟩
  have h1 : s.1 = r.1 := congrArg (·.1) e
  have h2 : s.2.1 = r.2.1 := congrArg (·.2.1) e
  have h3 : s.2.2.1 = r.2.2.1 := congrArg (·.2.2) e
  exact h.2 s hs (by simp [h1, h2, h3])
theorem rlL_good : ∀ (L : List Tu) (out : List Ru), (∀ r ∈ out, ruOk r = true) → (out.map kR).Nodup → (∀ r ∈ L.foldl adT out, ruOk r = true) ∧ ((L.foldl adT out).map kR).Nodup ∧ (L.foldl adT out).length ≤ out.length + L.length
  | [], out, h1, h2 => ⟨h1, h2, by simp⟩
  | t :: L, out, h1, h2 => by
    rw [List.foldl_cons]
    by_cases hg : agB out (mkT t) = true
    · have e : adT out t = out := if_pos hg
      rw [e]
      obtain ⟨a, b, c⟩ := rlL_good L out h1 h2
      exact ⟨a, b, by rw [List.length_cons]; omega⟩
    · have e : adT out t = out ++ [mkT t] := if_neg hg
      obtain ⟨g1, g2⟩ := agB_no (by simpa using hg)
      rw [e]
      obtain ⟨a, b, c⟩ := rlL_good L (out ++ [mkT t]) (fun r hr => by
        rcases List.mem_append.1 hr with hr | hr
        · exact h1 r hr
        · rw [List.mem_singleton.1 hr]; exact mkT_ok g1) (by
        rw [List.map_append, List.nodup_append]
        refine ⟨h2, by simp, fun a ha b hb => ?_⟩
        obtain ⟨s, hs, rfl⟩ := List.mem_map.1 ha
        simp at hb
        rw [hb]
        exact g2 s hs)
      exact ⟨a, b, by rw [List.length_cons]; rw [List.length_append, List.length_singleton] at c; omega⟩
theorem rlL_ok {L : List Tu} (h : L.length ≤ 30) : RsOk (rlL L) ∧ (rlL L).length ≤ 30 := by
  obtain ⟨a, b, c⟩ := rlL_good L [] (by simp) (by simp)
  have hl : (rlL L).length ≤ 30 := by unfold rlL; simp at c; omega
  exact ⟨⟨by omega, a, b⟩, hl⟩
theorem rsOk_chk {l : List Ru} (h : RsOk l) : chkR l = (0, 0) := by
  refine chk_done h.len fun j hj => ?_
  have hr : l[j]? = some l[j] := List.getElem?_eq_getElem hj
  unfold badAt
  rw [hr]
  dsimp only
  rw [if_pos (h.ok _ (List.getElem_mem hj))]
  have hn : findR (l.take j) (kR l[j]) = none := by
    refine findR_none.2 fun s hs e => ?_
    have hu := h.uniq
    have hd : l.drop j = l[j] :: l.drop (j + 1) := List.drop_eq_getElem_cons hj
    rw [← List.take_append_drop j l, hd, List.map_append, List.nodup_append] at hu
    exact hu.2.2 _ (List.mem_map.2 ⟨s, hs, rfl⟩) (kR l[j]) (by rw [List.map_cons]; exact List.mem_cons_self) e
  rw [hn]
  rfl
theorem rsOk_rev {l : List Ru} (h : RsOk l) : RsOk l.reverse :=
  ⟨by simpa using h.len, fun r hr => h.ok r (by simpa using hr), by rw [List.map_reverse]; exact List.pairwise_reverse.2 (h.uniq.imp (fun h e => h e.symm))⟩
theorem rev_find {l : List Ru} (h : RsOk l) (k : Ky) : findR l.reverse k = findR l k := findR_perm h.uniq (List.reverse_perm l).symm k
theorem rest_len {l : List Ru} (h : RsOk l) (c : Nat → Nat → Int) {a b : Nat} : ((restR l (put2 c a b (c a b + 1))).length : Int) = (restR l c).length - (if (findR l ((a : Int), (b : Int), c a b + 1)).isSome = true then 1 else 0) := by
  rw [← rest_drop h, ← rest_find l c]
  cases hf : findR (restR l c) ((a : Int), (b : Int), c a b + 1) with
  | none => rw [drop_none hf]; simp
  | some r =>
    have := drop_len (rest_ok h c).uniq (k := ((a : Int), (b : Int), c a b + 1)) (by rw [hf]; rfl)
    simp
    omega
end Go.Proofs.Ytkkgbcoclfpicaa.Fa
