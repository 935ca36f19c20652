/- Ids by sets: what parting and joining come to, as lists. -/
import Derived.Test.YtjcbbifjhoemaaaDoorSD
namespace Go.Proofs.YtjcbbifjhoemaaaDoor
open Go.RowKit

theorem srt_bit {W : Nat} (zs : List Int) : ∀ (f : Nat → Nat) (s m : Nat), (zs.foldl (addId W) f s).testBit m = true ↔ (f s).testBit m = true ∨ ∃ z ∈ zs, (z - 1).toNat / W = s ∧ (z - 1).toNat % W = m := by
  induction zs with
  | nil => intro f s m; simp
  | cons z zs ih =>
    intro f s m
    rw [List.foldl_cons, ih]
    have h1 : (addId W f z s).testBit m = true ↔ (f s).testBit m = true ∨ ((z - 1).toNat / W = s ∧ (z - 1).toNat % W = m) := by
      unfold addId upd
      by_cases h : s = (z - 1).toNat / W
      · rw [if_pos h, Nat.testBit_or, Nat.testBit_two_pow, ← h]
        simp
      · rw [if_neg h]
        have h' : ¬ (z - 1).toNat / W = s := fun e => h e.symm
        constructor
        · exact fun e => .inl e
        · rintro (e | e)
          · exact e
          · exact absurd e.1 h'
    rw [h1]
    simp only [List.mem_cons, exists_eq_or_imp]
    constructor
    · rintro ((h | h) | h)
      · exact .inl h
      · exact .inr (.inl h)
      · exact .inr (.inr h)
    · rintro (h | h | h)
      · exact .inl (.inl h)
      · exact .inl (.inr h)
      · exact .inr h
theorem srt_has {W : Nat} (zs : List Int) (s m : Nat) : (srt W zs s).testBit m = true ↔ ∃ z ∈ zs, (z - 1).toNat / W = s ∧ (z - 1).toNat % W = m := by
  unfold srt
  rw [srt_bit]
  simp [none0]
theorem srt_ne {W : Nat} (zs : List Int) (s : Nat) : srt W zs s ≠ 0 ↔ ∃ z ∈ zs, (z - 1).toNat / W = s := by
  constructor
  · intro h
    obtain ⟨m, hm⟩ := Nat.exists_testBit_of_ne_zero h
    obtain ⟨z, hz, h1, _⟩ := (srt_has zs s m).1 hm
    exact ⟨z, hz, h1⟩
  · rintro ⟨z, hz, h1⟩ h0
    have := (srt_has zs s ((z - 1).toNat % W)).2 ⟨z, hz, h1, rfl⟩
    rw [h0] at this
    simp at this
theorem srt_low {W : Nat} (hW : 0 < W) (zs : List Int) (s : Nat) : srt W zs s < 2 ^ W := by
  apply Nat.lt_pow_two_of_testBit
  intro m hm
  cases hb : (srt W zs s).testBit m with
  | false => rfl
  | true =>
    obtain ⟨z, _, _, h2⟩ := (srt_has zs s m).1 hb
    have := Nat.mod_lt (z - 1).toNat hW
    omega
theorem place_of {W s m x : Nat} (hm : m < W) : (x / W = s ∧ x % W = m) ↔ x = s * W + m := by
  constructor
  · rintro ⟨rfl, rfl⟩
    rw [Nat.mul_comm]
    exact (Nat.div_add_mod x W).symm
  · rintro rfl
    rw [Nat.mul_comm, Nat.mul_add_div (by omega), Nat.div_eq_of_lt hm, Nat.mul_add_mod, Nat.mod_eq_of_lt hm]
    exact ⟨rfl, rfl⟩
/-- Is it among the ids? -/
theorem srt_mem {W s m : Nat} {zs : List Int} (hall : allIds zs) (hm : m < W) : (srt W zs s).testBit m = true ↔ ((s * W + m + 1 : Nat) : Int) ∈ zs := by
  rw [srt_has]
  constructor
  · rintro ⟨z, hz, h⟩
    have h1 := hall z hz
    have h2 := (place_of hm).1 h
    have : z = ((s * W + m + 1 : Nat) : Int) := by omega
    rw [← this]; exact hz
  · intro h
    exact ⟨_, h, (place_of hm).2 (by omega)⟩
theorem srt_fits {W : Nat} (hW : IsW W) {zs : List Int} (hall : allIds zs) : Fits W (srt W zs) := by
  intro s _ m hm
  have hWb := isW_pos hW
  have hmW : m < W := lt_of_lst (bl_le.2 (srt_low (by omega) zs s)) hm
  refine ⟨hmW, ?_⟩
  have := (srt_mem hall hmW).1 (mem_lst.1 hm).2
  have := hall _ this
  omega
theorem srt_over {W : Nat} {zs : List Int} (hall : allIds zs) {s : Nat} (hs : 1024 ≤ s * W) : srt W zs s = 0 := by
  by_cases h : srt W zs s = 0
  · exact h
  · obtain ⟨z, hz, h1⟩ := (srt_ne zs s).1 h
    have := hall z hz
    have h2 : (z - 1).toNat < 1024 := by omega
    have h3 : (z - 1).toNat / W * W ≤ (z - 1).toNat := Nat.div_mul_le_self _ _
    rw [h1] at h3
    omega

theorem upto_half {f g : Nat → Nat} (h : ∀ t, g t ≠ 0 ↔ f (2 * t) ≠ 0 ∨ f (2 * t + 1) ≠ 0) : ∀ k, (upto g k).length ≤ (upto f (2 * k)).length ∧ (upto f (2 * k)).length ≤ 2 * (upto g k).length
  | 0 => by simp [upto]
  | k + 1 => by
    have ih := upto_half h k
    have hk := h k
    rw [show 2 * (k + 1) = 2 * k + 1 + 1 from by omega]
    by_cases h1 : f (2 * k) = 0
    · by_cases h2 : f (2 * k + 1) = 0
      · have hg : g k = 0 := Classical.byContradiction fun hn => by rcases hk.1 hn with h | h; exact h h1; exact h h2
        rw [upto_no h2, upto_no h1, upto_no hg]
        exact ih
      · have hg : g k ≠ 0 := hk.2 (.inr h2)
        rw [upto_yes h2, upto_no h1, upto_yes hg]
        simp only [List.length_append, List.length_singleton]
        omega
    · have hg : g k ≠ 0 := hk.2 (.inl h1)
      by_cases h2 : f (2 * k + 1) = 0
      · rw [upto_no h2, upto_yes h1, upto_yes hg]
        simp only [List.length_append, List.length_singleton]
        omega
      · rw [upto_yes h2, upto_yes h1, upto_yes hg]
        simp only [List.length_append, List.length_singleton]
        omega
theorem upto_rest {g : Nat → Nat} {j : Nat} (h : ∀ t, j ≤ t → g t = 0) : ∀ d, upto g (j + d) = upto g j
  | 0 => rfl
  | d + 1 => by rw [← Nat.add_assoc, upto_no (h _ (by omega)), upto_rest h d]
/-- A greater width makes no more sets, and no less than half as many. -/
theorem sets_half {W : Nat} (hW : 8 ≤ W) {zs : List Int} (hall : allIds zs) : (setsOf (srt (2 * W) zs)).length ≤ (setsOf (srt W zs)).length ∧ (setsOf (srt W zs)).length ≤ 2 * (setsOf (srt (2 * W) zs)).length := by
  have h := upto_half (f := srt W zs) (g := srt (2 * W) zs) (fun t => by
    rw [srt_ne, srt_ne, srt_ne]
    have key : ∀ x : Nat, x / (2 * W) = t ↔ (x / W = 2 * t ∨ x / W = 2 * t + 1) := fun x => by
      rw [Nat.mul_comm 2 W, ← Nat.div_div_eq_div_mul]
      omega
    constructor
    · rintro ⟨z, hz, h⟩
      rcases (key _).1 h with h | h
      · exact .inl ⟨z, hz, h⟩
      · exact .inr ⟨z, hz, h⟩
    · rintro (⟨z, hz, h⟩ | ⟨z, hz, h⟩)
      · exact ⟨z, hz, (key _).2 (.inl h)⟩
      · exact ⟨z, hz, (key _).2 (.inr h)⟩) 64
  have hr : upto (srt (2 * W) zs) (64 + 64) = upto (srt (2 * W) zs) 64 := upto_rest (fun t ht => srt_over hall (by
    have : 64 * 16 ≤ t * (2 * W) := Nat.mul_le_mul ht (by omega)
    omega)) 64
  unfold setsOf
  rw [show (128 : Nat) = 64 + 64 from rfl, hr]
  exact h

/-- What is there below k. -/
def stK (f : Nat → Nat) (k : Nat) : JSt := ((fun s => if s < k then f s else 0), (fun s => decide (s < k ∧ f s ≠ 0)))
/-- The parts of sets. -/
def prts (f : Nat → Nat) (l : List Nat) : List (Int × Nat) := l.map fun s : Nat => ((s : Int), f s)
theorem jrun_upto {W : Nat} {f : Nat → Nat} (hb : ∀ s, bl (f s) ≤ W) (hfit : Fits W f) : ∀ k, k ≤ 128 → jrun W (prts f (upto f k)) = .ok (stK f k)
  | 0, _ => by
    show (Except.ok (none0, fun _ => false) : Except Int JSt) = _
    exact congrArg Except.ok (Prod.ext (funext fun s => by simp [none0, stK]) (funext fun s => by simp [stK]))
  | k + 1, hk => by
    have ih := jrun_upto hb hfit k (by omega)
    by_cases h : f k = 0
    · rw [upto_no h, ih]
      refine congrArg Except.ok (Prod.ext (funext fun s => ?_) (funext fun s => ?_))
      · show (if s < k then f s else 0) = if s < k + 1 then f s else 0
        by_cases e : s = k
        · subst e; simp [h]
        · by_cases h1 : s < k
          · rw [if_pos h1, if_pos (by omega)]
          · rw [if_neg h1, if_neg (by omega)]
      · show decide (s < k ∧ f s ≠ 0) = decide (s < k + 1 ∧ f s ≠ 0)
        by_cases e : s = k
        · subst e; simp [h]
        · rw [Bool.eq_iff_iff]; simp only [decide_eq_true_eq]; omega
    · rw [upto_yes h, prts, List.map_append, List.map_cons, List.map_nil, jrun_snoc]
      have ih' : jrun W ((upto f k).map fun s : Nat => ((s : Int), f s)) = _ := ih
      rw [ih']
      have h2 := jstep_ok (W := W) (st := stK f k) (p := ((k : Int), f k)) ⟨by simp, by simp; omega, hb k⟩ (by simp [stK]) (by intro m hm; exact (hfit k (by omega) m hm).2)
      show jstep W _ ((k : Int), f k) = _
      rw [h2]
      refine congrArg Except.ok (Prod.ext (funext fun s => ?_) (funext fun s => ?_))
      · show upd (stK f k).1 k (f k) s = if s < k + 1 then f s else 0
        unfold upd stK
        simp only
        by_cases e : s = k
        · subst e; simp
        · rw [if_neg e]
          by_cases h1 : s < k
          · rw [if_pos h1, if_pos (by omega)]
          · rw [if_neg h1, if_neg (by omega)]
      · show updT (stK f k).2 k s = decide (s < k + 1 ∧ f s ≠ 0)
        unfold updT stK
        simp only
        by_cases e : s = k
        · subst e; simp [h]
        · rw [if_neg e, Bool.eq_iff_iff]; simp only [decide_eq_true_eq]; omega
/-- The function below a number. -/
def cutF (f : Nat → Nat) : Nat → Nat := fun s => if s < 128 then f s else 0
theorem upto_cut (f : Nat → Nat) : setsOf (cutF f) = setsOf f := by
  unfold setsOf upto
  apply List.filter_congr
  intro s hs
  simp at hs
  simp [cutF, hs]
theorem idsL_cut (W : Nat) (f : Nat → Nat) : idsL W (cutF f) (setsOf (cutF f)) = idsL W f (setsOf f) := by
  rw [upto_cut]
  unfold idsL
  rw [List.flatMap_def, List.flatMap_def]
  congr 1
  apply List.map_congr_left
  intro s hs
  have := (mem_upto.1 (show s ∈ upto f 128 from hs)).1
  simp [cutF, this]
end Go.Proofs.YtjcbbifjhoemaaaDoor
