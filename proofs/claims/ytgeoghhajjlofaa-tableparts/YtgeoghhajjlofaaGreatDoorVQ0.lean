/- What joined makes, as a list: it rises, and has just the numbers of both. -/
import Derived.Test.YtgeoghhajjlofaaGreatDoorV11
namespace Go.Proofs.YtgeoghhajjlofaaGreatDoor

theorem arr_get {l : List Int} {m : Nat} (h : m < l.length) : l.toArray[m]! = l[m] := by simp [h]
theorem upTo_ok {l : List Int} (hs : l.Pairwise fun a b => a ≤ b) : ∀ m, m ≤ l.length → (Lib.compactUpTo l.toArray m).Pairwise (fun a b => a < b) ∧ ∀ x, x ∈ Lib.compactUpTo l.toArray m ↔ x ∈ l.take m
  | 0, _ => by simp [Lib.compactUpTo]
  | m + 1, h => by
    obtain ⟨h1, h2⟩ := upTo_ok hs m (by omega)
    have hm : m < l.length := by omega
    have hle : ∀ x ∈ l.take m, x ≤ l[m] := fun x hx => by
      obtain ⟨k, hk, rfl⟩ := List.getElem_of_mem hx
      rw [List.length_take] at hk
      rw [List.getElem_take]
      exact List.pairwise_iff_getElem.1 hs k m (by omega) hm (by omega)
    have htk : l.take (m + 1) = l.take m ++ [l[m]] := by rw [List.take_add_one, List.getElem?_eq_getElem hm]; rfl
    rw [Lib.compactUpTo_succ, arr_get hm, htk]
    by_cases hk : Lib.keeps l.toArray m = true
    · rw [if_pos hk]
      refine ⟨List.pairwise_append.2 ⟨h1, by simp, fun x hx y hy => ?_⟩, fun x => by rw [List.mem_append, List.mem_append, h2 x]⟩
      rw [List.mem_singleton.1 hy]
      have hx' := (h2 x).1 hx
      have h3 := hle x hx'
      have h4 : x ≠ l[m] := by
        intro e
        have hm0 : m ≠ 0 := by rintro rfl; simp at hx'
        have hk' : l.toArray[m]! ≠ l.toArray[m - 1]! := by
          unfold Lib.keeps at hk
          simp only [decide_eq_true_eq] at hk
          exact hk.resolve_left hm0
        rw [arr_get hm, arr_get (show m - 1 < l.length by omega)] at hk'
        obtain ⟨k, hkk, he⟩ := List.getElem_of_mem hx'
        rw [List.length_take] at hkk
        rw [List.getElem_take] at he
        have h5 : l[k] ≤ l[m - 1] := by
          by_cases hkm : k = m - 1
          · subst hkm; exact Int.le_refl _
          · exact List.pairwise_iff_getElem.1 hs k (m - 1) (by omega) (by omega) (by omega)
        have h6 : l[m - 1] ≤ l[m] := List.pairwise_iff_getElem.1 hs (m - 1) m (by omega) hm (by omega)
        apply hk'
        omega
      omega
    · rw [if_neg hk, List.append_nil]
      refine ⟨h1, fun x => ?_⟩
      rw [h2 x, List.mem_append, List.mem_singleton]
      refine ⟨.inl, fun h3 => h3.elim id (fun e => ?_)⟩
      have hk2 : ¬ (m = 0 ∨ l.toArray[m]! ≠ l.toArray[m - 1]!) := by
        unfold Lib.keeps at hk
        simpa only [decide_eq_true_eq] using hk
      have hm0 : m ≠ 0 := fun e => hk2 (.inl e)
      have he : l.toArray[m]! = l.toArray[m - 1]! := Classical.byContradiction fun h => hk2 (.inr h)
      rw [arr_get hm, arr_get (show m - 1 < l.length by omega)] at he
      rw [e, he]
      exact List.mem_take_iff_getElem.2 ⟨m - 1, by omega, rfl⟩
theorem joinL_ok (a b : List Int) : (joinL a b).Pairwise (fun x y => x < y) ∧ ∀ x, x ∈ joinL a b ↔ x ∈ a ∨ x ∈ b := by
  have hs : ((a ++ b).mergeSort fun x y => decide (x ≤ y)).Pairwise fun x y => x ≤ y := by
    have := List.pairwise_mergeSort (le := fun x y : Int => decide (x ≤ y)) (by intro x y z h1 h2; simp at *; omega) (by intro x y; simp; omega) (a ++ b)
    exact this.imp (fun h => by simpa using h)
  obtain ⟨h1, h2⟩ := upTo_ok hs _ (Nat.le_refl _)
  refine ⟨h1, fun x => ?_⟩
  have := h2 x
  rw [List.take_length] at this
  unfold joinL Lib.compact
  rw [this, List.mem_mergeSort, List.mem_append]
theorem rise_len {l : List Int} (h : l.Pairwise fun a b => a < b) (hb : ∀ x ∈ l, 1 ≤ x ∧ x ≤ 24) : l.length ≤ 24 := by
  have key : ∀ (l : List Int) (lo : Int), l.Pairwise (fun a b => a < b) → (∀ x ∈ l, lo < x ∧ x ≤ 24) → (l.length : Int) ≤ 24 - lo ∨ l = [] := by
    intro l
    induction l with
    | nil => intro _ _ _; exact .inr rfl
    | cons a l ih =>
      intro lo hp hb
      rw [List.pairwise_cons] at hp
      have ha := hb a (by simp)
      rcases ih a hp.2 (fun x hx => ⟨hp.1 x hx, (hb x (by simp [hx])).2⟩) with h1 | h1
      · left; rw [List.length_cons]; omega
      · left; rw [h1]; simp; omega
  rcases key l 0 h (fun x hx => by have := hb x hx; omega) with h1 | h1
  · omega
  · rw [h1]; simp
/-- What is known of a node. -/
structure Rr where
  node : Int
  cost : Int
  least : Int
  most : Int
  next : List Int
def noR : Rr := ⟨0, 0, 0, 0, []⟩
/-- One edge more; C: what the nodes cost. -/
def rchE (r : Int) (C : Nat → Int) (R : Nat → Rr) (e : Ed) : Nat → Rr :=
  let was := R e.1.toNat
  let nx := if e.1 = r then [e.2.1] else was.next
  let r0 := R e.2.1.toNat
  let r1 := if r0.node = 0 then ⟨e.2.1, C e.2.1.toNat, was.least + 1, 0, []⟩ else r0
  putV R e.2.1.toNat ⟨r1.node, r1.cost, min r1.least (was.least + 1), max r1.most (was.most + 1), joinL r1.next nx⟩
def rchT (r : Int) (C : Nat → Int) (T : List Ed) : Nat → Rr := T.foldl (rchE r C) (putV (fun _ => noR) r.toNat ⟨r, 0, 0, 0, []⟩)
theorem rchT_snoc (r : Int) (C : Nat → Int) (T : List Ed) (e : Ed) : rchT r C (T ++ [e]) = rchE r C (rchT r C T) e := by simp [rchT, List.foldl_append]
theorem rchE_congr {r : Int} {C D : Nat → Int} {R : Nat → Rr} {e : Ed} (h : C e.2.1.toNat = D e.2.1.toNat) : rchE r C R e = rchE r D R e := by unfold rchE; rw [h]
theorem rchT_congr {r : Int} {C D : Nat → Int} : ∀ {T : List Ed}, (∀ e ∈ T, C e.2.1.toNat = D e.2.1.toNat) → rchT r C T = rchT r D T := by
  intro T h
  unfold rchT
  have key : ∀ (T : List Ed) (R : Nat → Rr), (∀ e ∈ T, C e.2.1.toNat = D e.2.1.toNat) → T.foldl (rchE r C) R = T.foldl (rchE r D) R := by
    intro T
    induction T with
    | nil => intro R _; rfl
    | cons e T ih => intro R h; rw [List.foldl_cons, List.foldl_cons, rchE_congr (h e (by simp)), ih _ (fun x hx => h x (by simp [hx]))]
  exact key T _ h
/-- Bounds. -/
structure RrOk (N : Nat) (x : Rr) : Prop where
  l0 : 0 ≤ x.least
  l1 : x.least ≤ N
  m0 : 0 ≤ x.most
  m1 : x.most ≤ N
  np : x.next.Pairwise fun a b => a < b
  nb : ∀ y ∈ x.next, 1 ≤ y ∧ y ≤ 24
theorem noR_ok : RrOk 0 noR := ⟨by decide, by decide, by decide, by decide, by simp [noR], fun y hy => by simp [noR] at hy⟩
theorem RrOk.mono {N M : Nat} {x : Rr} (h : RrOk N x) (hn : N ≤ M) : RrOk M x := ⟨h.l0, by have := h.l1; omega, h.m0, by have := h.m1; omega, h.np, h.nb⟩
theorem rchE_ok {r : Int} {C : Nat → Int} {R : Nat → Rr} {e : Ed} {N : Nat} (h : ∀ i, RrOk N (R i)) (he : 1 ≤ e.2.1 ∧ e.2.1 ≤ 24) : ∀ i, RrOk (N + 1) (rchE r C R e i) := by
  intro i
  unfold rchE putV
  by_cases hij : i = e.2.1.toNat
  · simp only [hij, if_true]
    have hw := h e.1.toNat
    have h0 := h e.2.1.toNat
    have hnx : ∀ y ∈ (if e.1 = r then [e.2.1] else (R e.1.toNat).next), 1 ≤ y ∧ y ≤ 24 := fun y hy => by
      split at hy
      · rw [List.mem_singleton.1 hy]; exact he
      · exact hw.nb y hy
    have l0 := hw.l0
    have l1 := hw.l1
    have m0 := hw.m0
    have m1 := hw.m1
    have k0 := h0.l0
    have k1 := h0.l1
    have n0 := h0.m0
    have n1 := h0.m1
    by_cases hz : (R e.2.1.toNat).node = 0
    · simp only [hz, if_true]
      refine ⟨by show 0 ≤ min _ _; omega, by show min _ _ ≤ _; omega, by show 0 ≤ max _ _; omega, by show max _ _ ≤ _; omega, (joinL_ok _ _).1, fun y hy => ?_⟩
      rcases ((joinL_ok _ _).2 y).1 hy with h1 | h1
      · simp at h1
      · exact hnx y h1
    · simp only [hz, if_false]
      refine ⟨by show 0 ≤ min _ _; omega, by show min _ _ ≤ _; omega, by show 0 ≤ max _ _; omega, by show max _ _ ≤ _; omega, (joinL_ok _ _).1, fun y hy => ?_⟩
      rcases ((joinL_ok _ _).2 y).1 hy with h1 | h1
      · exact h0.nb y h1
      · exact hnx y h1
  · simp only [hij, if_false]
    exact (h i).mono (by omega)
theorem rchT_ok (r : Int) (C : Nat → Int) : ∀ T : List Ed, (∀ e ∈ T, 1 ≤ e.2.1 ∧ e.2.1 ≤ 24) → ∀ i, RrOk T.length (rchT r C T i) := by
  intro T hT
  have key : ∀ (T : List Ed) (N : Nat) (R : Nat → Rr), (∀ e ∈ T, 1 ≤ e.2.1 ∧ e.2.1 ≤ 24) → (∀ i, RrOk N (R i)) → ∀ i, RrOk (N + T.length) ((T.foldl (rchE r C) R) i) := by
    intro T
    induction T with
    | nil => intro N R _ h i; exact h i
    | cons e T ih =>
      intro N R hT h i
      have := ih (N + 1) _ (fun x hx => hT x (by simp [hx])) (rchE_ok (r := r) (C := C) h (hT e (by simp))) i
      rw [List.length_cons]
      exact this.mono (by omega)
  have := key T 0 (putV (fun _ => noR) r.toNat ⟨r, 0, 0, 0, []⟩) hT (fun i => by
    unfold putV
    split
    · exact ⟨Int.le_refl 0, Int.le_refl 0, Int.le_refl 0, Int.le_refl 0, by simp, fun y hy => by simp at hy⟩
    · exact noR_ok)
  intro i
  have h1 := this i
  rw [Nat.zero_add] at h1
  exact h1
end Go.Proofs.YtgeoghhajjlofaaGreatDoor
