/- The document's Of, ad lists. -/
import Derived.Test.YtpifkhcjogilfaaGVP
namespace Go.Proofs.Ytpifkhcjogilfaa

theorem rF_iff : ∀ (ns : List Int) (f : Nat → Bool) (i : Nat), rF f ns i = true ↔ f i = true ∨ ∃ n ∈ ns, n.toNat = i
  | [], f, i => by simp [rF]
  | r :: rs, f, i => by
    show rF (mk1 f r.toNat) rs i = true ↔ _
    rw [rF_iff rs, mk1_iff]
    constructor
    · rintro ((h | h) | ⟨x, hx, h⟩)
      · exact .inr ⟨r, by simp, h.symm⟩
      · exact .inl h
      · exact .inr ⟨x, by simp [hx], h⟩
    · rintro (h | ⟨x, hx, h⟩)
      · exact .inl (.inr h)
      · rcases List.mem_cons.1 hx with rfl | hx
        · exact .inl (.inl h.symm)
        · exact .inr ⟨x, hx, h⟩
def allR (ns : List Int) : Prop := ∀ n ∈ ns, isR n = true
theorem rF_has {ns : List Int} (h : allR ns) {z : Int} (hz : isR z = true) : rF no1 ns z.toNat = hasN ns z := by
  have h1 : rF no1 ns z.toNat = true ↔ hasN ns z = true := by
    rw [rF_iff, hasN_iff]
    constructor
    · rintro (h0 | ⟨n, hn, e⟩)
      · simp [no1] at h0
      · have h2 := isR_iff.1 (h n hn)
        have h3 := isR_iff.1 hz
        rw [show z = n from by omega]; exact hn
    · intro hm
      exact .inr ⟨z, hm, rfl⟩
  cases h2 : rF no1 ns z.toNat <;> cases h3 : hasN ns z <;> simp [h2, h3] at h1 <;> rfl
theorem rF_zero {ns : List Int} (h : allR ns) : rF no1 ns 0 = false := by
  cases h2 : rF no1 ns 0 with
  | false => rfl
  | true =>
    rcases (rF_iff ns no1 0).1 h2 with h0 | ⟨n, hn, e⟩
    · simp [no1] at h0
    · have := isR_iff.1 (h n hn); omega
theorem allR_snoc {ns : List Int} {z : Int} (h : allR ns) (hz : isR z = true) : allR (ns ++ [z]) := by
  intro n hn
  rcases List.mem_append.1 hn with hn | hn
  · exact h n hn
  · rw [List.mem_singleton.1 hn]; exact hz
theorem lkOk_has {ns : List Int} (h : allR ns) (x y c : Int) : lkOk (rF no1 ns) (x, y, c) = (!decide (x = y) && (hasN ns x && (hasN ns y && isC c))) := by
  unfold lkOk
  simp only
  cases hx : isR x with
  | false =>
    have : hasN ns x = false := by
      cases h2 : hasN ns x with
      | false => rfl
      | true => rw [h x (hasN_iff.1 h2)] at hx; cases hx
    simp [this]
  | true =>
    cases hy : isR y with
    | false =>
      have : hasN ns y = false := by
        cases h2 : hasN ns y with
        | false => rfl
        | true => rw [h y (hasN_iff.1 h2)] at hy; cases hy
      simp [this]
    | true =>
      rw [rF_has h hx, rF_has h hy]
      cases hasN ns x <;> cases hasN ns y <;> cases isC c <;> simp
/-- Is a link of that pair? -/
def prE (k : Ed) (a b : Int) : Bool := (decide (k.1 = a) && decide (k.2.1 = b)) || (decide (k.2.1 = a) && decide (k.1 = b))
def pick2 (ls : List Ed) (a b : Int) : List Ed := (ls.filter fun k => prE k a b).map fun k => (a, b, k.2.2)
theorem pick2_yes {ls : List Ed} {k : Ed} {a b : Int} (h : prE k a b = true) : pick2 (ls ++ [k]) a b = pick2 ls a b ++ [(a, b, k.2.2)] := by simp [pick2, List.filter_append, h]
theorem pick2_no {ls : List Ed} {k : Ed} {a b : Int} (h : prE k a b = false) : pick2 (ls ++ [k]) a b = pick2 ls a b := by simp [pick2, List.filter_append, h]
theorem pick2_nil {ls : List Ed} {a b : Int} : pick2 ls a b = [] ↔ ∀ k ∈ ls, prE k a b = false := by
  unfold pick2
  rw [List.map_eq_nil_iff, List.filter_eq_nil_iff]
  simp
/-- Costs are those of links, no pair twice. -/
structure IsLk (F : Nat → Bool) (ls : List Ed) (c : Nat → Nat → Int) : Prop where
  pk : ∀ a b : Nat, pick2 ls (a : Int) (b : Int) = if c a b = 0 then [] else [((a : Int), (b : Int), c a b)]
  pos : ∀ a b : Nat, c a b = 0 ∨ (1 ≤ c a b ∧ c a b ≤ 1000 ∧ F a = true ∧ F b = true)
  sym : ∀ a b : Nat, c a b = c b a
theorem isLk_nil (F : Nat → Bool) : IsLk F [] no2 := ⟨fun _ _ => rfl, fun _ _ => .inl rfl, fun _ _ => rfl⟩
theorem IsLk.snoc {F : Nat → Bool} {ls : List Ed} {c : Nat → Nat → Int} (h : IsLk F ls c) {p q : Nat} {v : Int} (hk : lkOk F ((p : Int), (q : Int), v) = true) (h0 : c p q = 0) : IsLk F (ls ++ [((p : Int), (q : Int), v)]) (put4 c ((p : Int), (q : Int), v)) := by
  obtain ⟨_, _, hf1, hf2, hne, hv1, hv2⟩ := lkOk_parts hk
  simp only [Int.toNat_natCast] at hf1 hf2 hne hv1 hv2
  have h0' : c q p = 0 := by rw [h.sym]; exact h0
  have hput : ∀ a b, put4 c ((p : Int), (q : Int), v) a b = if (a = p ∧ b = q) ∨ (a = q ∧ b = p) then v else c a b := by
    intro a b
    unfold put4 put2
    simp only [Int.toNat_natCast]
    by_cases h1 : a = q ∧ b = p
    · simp [h1]
    · by_cases h2 : a = p ∧ b = q
      · rw [if_neg h1, if_pos h2, if_pos (.inl h2)]
      · rw [if_neg h1, if_neg h2, if_neg (fun h3 => h3.elim h2 h1)]
  refine ⟨fun a b => ?_, fun a b => ?_, fun a b => ?_⟩
  · rw [hput]
    by_cases h1 : (a = p ∧ b = q) ∨ (a = q ∧ b = p)
    · have hpr : prE ((p : Int), (q : Int), v) (a : Int) (b : Int) = true := by
        unfold prE
        rcases h1 with ⟨rfl, rfl⟩ | ⟨rfl, rfl⟩ <;> simp
      have hc : c a b = 0 := by rcases h1 with ⟨rfl, rfl⟩ | ⟨rfl, rfl⟩ <;> assumption
      rw [pick2_yes hpr, h.pk, if_pos hc, if_pos h1, if_neg (by omega)]
      rfl
    · have hpr : prE ((p : Int), (q : Int), v) (a : Int) (b : Int) = false := by
        unfold prE
        simp only [Bool.or_eq_false_iff, Bool.and_eq_false_iff, decide_eq_false_iff_not]
        constructor
        · by_cases e : a = p
          · refine .inr fun e2 => h1 (.inl ⟨e, by omega⟩)
          · exact .inl (by omega)
        · by_cases e : a = q
          · refine .inr fun e2 => h1 (.inr ⟨e, by omega⟩)
          · exact .inl (by omega)
      rw [pick2_no hpr, h.pk, if_neg h1]
  · rw [hput]
    by_cases h1 : (a = p ∧ b = q) ∨ (a = q ∧ b = p)
    · rw [if_pos h1]
      refine .inr ⟨hv1, hv2, ?_⟩
      rcases h1 with ⟨rfl, rfl⟩ | ⟨rfl, rfl⟩
      · exact ⟨hf1, hf2⟩
      · exact ⟨hf2, hf1⟩
    · rw [if_neg h1]; exact h.pos a b
  · rw [hput, hput, h.sym a b]
    by_cases h1 : (a = p ∧ b = q) ∨ (a = q ∧ b = p)
    · rw [if_pos h1, if_pos (h1.elim (fun x => .inr ⟨x.2, x.1⟩) (fun x => .inl ⟨x.2, x.1⟩))]
    · rw [if_neg h1, if_neg (fun h2 => h1 (h2.elim (fun x => .inr ⟨x.2, x.1⟩) (fun x => .inl ⟨x.2, x.1⟩)))]
theorem IsLk.free {F : Nat → Bool} {ls : List Ed} {c : Nat → Nat → Int} (h : IsLk F ls c) (p q : Nat) : c p q = 0 ↔ ∀ k ∈ ls, prE k (p : Int) (q : Int) = false := by
  rw [← pick2_nil, h.pk]
  by_cases h0 : c p q = 0 <;> simp [h0]
/-- The edges of a node, up to a number. -/
def rowP (ls : List Ed) (a : Int) (n : Nat) : List Ed := (List.range n).flatMap fun (b : Nat) => pick2 ls a (b : Int)
theorem rowP_succ (ls : List Ed) (a : Int) (n : Nat) : rowP ls a (n + 1) = rowP ls a n ++ pick2 ls a (n : Int) := by simp [rowP, List.range_succ, List.flatMap_append]
def outP (F : Nat → Bool) (ls : List Ed) (n : Nat) : List Ed := (List.range n).flatMap fun (a : Nat) => if F a = true then rowP ls (a : Int) 25 else []
theorem outP_succ (F : Nat → Bool) (ls : List Ed) (n : Nat) : outP F ls (n + 1) = outP F ls n ++ (if F n = true then rowP ls (n : Int) 25 else []) := by simp [outP, List.range_succ, List.flatMap_append]
def markN (F : Nat → Bool) (n : Nat) : List Int := ((List.range n).filter F).map fun (i : Nat) => (i : Int)
theorem markN_succ (F : Nat → Bool) (n : Nat) : markN F (n + 1) = markN F n ++ (if F n = true then [(n : Int)] else []) := by
  by_cases h : F n = true <;> simp [markN, List.range_succ, List.filter_append, h]
theorem pick2_one {F : Nat → Bool} {ls : List Ed} {c : Nat → Nat → Int} (h : IsLk F ls c) (a b : Nat) : pick2 ls (a : Int) (b : Int) = if (decide (0 < c a b) && decide (0 < c b a)) = true then [((a : Int), (b : Int), c a b)] else [] := by
  rw [h.pk]
  rcases h.pos a b with h0 | h0
  · simp [h0]
  · rw [if_neg (by omega), if_pos]
    rw [← h.sym a b]
    simp
    omega
theorem flat_one {α : Type} (f : Nat → Bool) (g : Nat → α) : ∀ l : List Nat, (l.flatMap fun m => if f m = true then [g m] else []) = (l.filter f).map g
  | [] => rfl
  | x :: l => by
    rw [List.flatMap_cons, flat_one f g l, List.filter_cons]
    by_cases h : f x = true <;> simp [h]
theorem rowP_row {F : Nat → Bool} {ls : List Ed} {c : Nat → Nat → Int} (h : IsLk F ls c) (a : Nat) : rowP ls (a : Int) 25 = rowE c a (List.range 25) := by
  unfold rowP rowE
  rw [← flat_one]
  congr 1
  funext b
  exact pick2_one h a b
theorem outP_laid {F : Nat → Bool} {ls : List Ed} {c : Nat → Nat → Int} (h : IsLk F ls c) : outP F ls 25 = laidE c := by
  unfold outP laidE
  congr 1
  funext a
  by_cases ha : F a = true
  · rw [if_pos ha, rowP_row h]
  · rw [if_neg ha, rowE_none]
    intro b hb
    rcases h.pos a b with h0 | h0
    · omega
    · exact ha h0.2.2.1
theorem rowP_one {F : Nat → Bool} {ls : List Ed} {c : Nat → Nat → Int} (h : IsLk F ls c) (hF : F 0 = false) (a : Nat) : rowP ls (a : Int) 1 = [] := by
  rw [rowP_succ]
  show [] ++ pick2 ls _ ((0 : Nat) : Int) = []
  rw [List.nil_append, h.pk]
  rcases h.pos a 0 with h0 | h0
  · rw [if_pos h0]
  · rw [hF] at h0; cases h0.2.2.2
theorem outP_one {F : Nat → Bool} {ls : List Ed} (hF : F 0 = false) : outP F ls 1 = [] := by
  rw [outP_succ, hF]
  rfl
theorem markN_one {F : Nat → Bool} (hF : F 0 = false) : markN F 1 = [] := by
  rw [markN_succ, hF]
  rfl
theorem pick2_len (ls : List Ed) (a b : Int) : (pick2 ls a b).length ≤ ls.length := by unfold pick2; rw [List.length_map]; exact List.length_filter_le _ _
theorem rowP_len (ls : List Ed) (a : Int) : ∀ n, (rowP ls a n).length ≤ n * ls.length
  | 0 => by simp [rowP]
  | n + 1 => by
    rw [rowP_succ, List.length_append, Nat.succ_mul]
    have h1 := rowP_len ls a n
    have h2 := pick2_len ls a n
    omega
theorem outP_len (F : Nat → Bool) (ls : List Ed) : ∀ n, (outP F ls n).length ≤ n * (25 * ls.length)
  | 0 => by simp [outP]
  | n + 1 => by
    rw [outP_succ, List.length_append, Nat.succ_mul]
    have h1 := outP_len F ls n
    have h2 : (if F n = true then rowP ls (n : Int) 25 else []).length ≤ 25 * ls.length := by
      by_cases h : F n = true
      · rw [if_pos h]; exact rowP_len ls n 25
      · rw [if_neg h]; simp
    omega
theorem markN_len (F : Nat → Bool) (n : Nat) : (markN F n).length ≤ n := by
  unfold markN
  rw [List.length_map]
  exact Nat.le_trans (List.length_filter_le _ _) (by simp)
end Go.Proofs.Ytpifkhcjogilfaa
