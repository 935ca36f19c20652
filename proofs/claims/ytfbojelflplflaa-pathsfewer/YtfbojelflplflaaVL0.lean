/- The law's graphs, as lists: a table of costs, the same both ways; the graph that it makes. -/
import Derived.Test.YtfbojelflplflaaV15
import Derived.Test.YtfbojelflplflaaGQ
namespace Go.Proofs.Ytfbojelflplflaa
open Go.RowKit

/-- The cells of a link. -/
abbrev lc3 (x : Ed) : List Value := [.int .u8 x.1, .int .u8 x.2.1, .int .u8 x.2.2]
/-- One link more in the table. -/
def tabL (n : Nat) (c : Nat → Int) (x : Ed) : Nat → Int :=
  if (x.1.toNat % n) ≠ (x.2.1.toNat % n) ∧ c (16 * (x.1.toNat % n) + x.2.1.toNat % n) = 0 then
    putV (putV c (16 * (x.1.toNat % n) + x.2.1.toNat % n) (1 + x.2.2 % 5)) (16 * (x.2.1.toNat % n) + x.1.toNat % n) (1 + x.2.2 % 5)
  else c
def tabT (n : Nat) (L : List Ed) : Nat → Int := L.foldl (tabL n) (fun _ => 0)
theorem tabT_snoc (n : Nat) (L : List Ed) (x : Ed) : tabT n (L ++ [x]) = tabL n (tabT n L) x := by simp [tabT, List.foldl_append]
structure TabOk (c : Nat → Int) : Prop where
  bd : ∀ i, 0 ≤ c i ∧ c i ≤ 5
  sy : ∀ a b, a < 16 → b < 16 → c (16 * a + b) = c (16 * b + a)
  di : ∀ a, a < 16 → c (16 * a + a) = 0
theorem tabL_ok {n : Nat} {c : Nat → Int} {x : Ed} (h : TabOk c) (h0 : 0 < n) (hn : n ≤ 16) : TabOk (tabL n c x) := by
  have ha := Nat.mod_lt x.1.toNat h0
  have hb := Nat.mod_lt x.2.1.toNat h0
  unfold tabL
  generalize x.1.toNat % n = a at *
  generalize x.2.1.toNat % n = b at *
  by_cases hc : a ≠ b ∧ c (16 * a + b) = 0
  · rw [if_pos hc]
    have hv : 0 ≤ 1 + x.2.2 % 5 ∧ 1 + x.2.2 % 5 ≤ 5 := by omega
    generalize 1 + x.2.2 % 5 = v at *
    refine ⟨fun i => ?_, fun p q hp hq => ?_, fun p hp => ?_⟩
    · unfold putV
      have := h.bd i
      split
      · exact hv
      · split
        · exact hv
        · exact this
    · have h1 := h.sy p q hp hq
      unfold putV
      by_cases e1 : p = a ∧ q = b
      · obtain ⟨rfl, rfl⟩ := e1
        simp
      · by_cases e2 : p = b ∧ q = a
        · obtain ⟨rfl, rfl⟩ := e2
          simp
        · rw [if_neg (by omega), if_neg (by omega), if_neg (by omega), if_neg (by omega)]
          exact h1
    · unfold putV
      rw [if_neg (by omega), if_neg (by omega)]
      exact h.di p hp
  · rw [if_neg hc]
    exact h
theorem tabT_ok {n : Nat} (h0 : 0 < n) (hn : n ≤ 16) (L : List Ed) : TabOk (tabT n L) := by
  have key : ∀ (L : List Ed) (c : Nat → Int), TabOk c → TabOk (L.foldl (tabL n) c) := by
    intro L
    induction L with
    | nil => intro c h; exact h
    | cons x L ih => intro c h; exact ih _ (tabL_ok h h0 hn)
  exact key L _ ⟨fun _ => by omega, fun _ _ _ _ => rfl, fun _ _ => rfl⟩
/-- A row's edges; all edges of m rows; the nodes. -/
def rwE (c : Nat → Int) (a m : Nat) : List Ed := ((List.range m).filter fun b => decide (0 < c (16 * a + b))).map fun b : Nat => ((a : Int) + 1, (b : Int) + 1, c (16 * a + b))
def tabE (c : Nat → Int) (n m : Nat) : List Ed := (List.range m).flatMap fun a => rwE c a n
def tabN (n : Nat) : List Int := (List.range n).map fun a : Nat => (a : Int) + 1
theorem rwE_succ (c : Nat → Int) (a m : Nat) : rwE c a (m + 1) = rwE c a m ++ (if 0 < c (16 * a + m) then [((a : Int) + 1, (m : Int) + 1, c (16 * a + m))] else []) := by
  unfold rwE
  rw [List.range_succ, List.filter_append, List.map_append]
  by_cases h : 0 < c (16 * a + m) <;> simp [h]
theorem tabE_succ (c : Nat → Int) (n m : Nat) : tabE c n (m + 1) = tabE c n m ++ rwE c m n := by simp [tabE, List.range_succ, List.flatMap_append]
theorem tabN_succ (n : Nat) : tabN (n + 1) = tabN n ++ [(n : Int) + 1] := by simp [tabN, List.range_succ]
theorem rwE_mem {c : Nat → Int} {a m : Nat} {e : Ed} : e ∈ rwE c a m ↔ ∃ b, b < m ∧ 0 < c (16 * a + b) ∧ e = ((a : Int) + 1, (b : Int) + 1, c (16 * a + b)) := by
  unfold rwE
  simp only [List.mem_map, List.mem_filter, List.mem_range, decide_eq_true_eq]
  constructor
  · rintro ⟨b, ⟨h1, h2⟩, rfl⟩; exact ⟨b, h1, h2, rfl⟩
  · rintro ⟨b, h1, h2, rfl⟩; exact ⟨b, ⟨h1, h2⟩, rfl⟩
theorem tabE_mem {c : Nat → Int} {n m : Nat} {e : Ed} : e ∈ tabE c n m ↔ ∃ a b, a < m ∧ b < n ∧ 0 < c (16 * a + b) ∧ e = ((a : Int) + 1, (b : Int) + 1, c (16 * a + b)) := by
  unfold tabE
  simp only [List.mem_flatMap, List.mem_range, rwE_mem]
  constructor
  · rintro ⟨a, h1, b, h2, h3, h4⟩; exact ⟨a, b, h1, h2, h3, h4⟩
  · rintro ⟨a, b, h1, h2, h3, h4⟩; exact ⟨a, h1, b, h2, h3, h4⟩
theorem rwE_len (c : Nat → Int) (a m : Nat) : (rwE c a m).length ≤ m := by
  unfold rwE
  rw [List.length_map]
  exact Nat.le_trans (List.length_filter_le _ _) (by simp)
theorem tabE_len (c : Nat → Int) (n : Nat) : ∀ m, (tabE c n m).length ≤ m * n
  | 0 => by simp [tabE]
  | m + 1 => by
    rw [tabE_succ, List.length_append, Nat.succ_mul]
    have h1 := tabE_len c n m
    have h2 := rwE_len c m n
    omega
theorem rwE_rise (c : Nat → Int) (a : Nat) : ∀ m, (rwE c a m).Pairwise fun x y => risesE x y = true
  | 0 => by simp [rwE]
  | m + 1 => by
    rw [rwE_succ, List.pairwise_append]
    refine ⟨rwE_rise c a m, by split <;> simp, fun x hx y hy => ?_⟩
    obtain ⟨b, h1, _, rfl⟩ := rwE_mem.1 hx
    split at hy
    · rw [List.mem_singleton.1 hy]
      simp [risesE]
      omega
    · simp at hy
theorem tabE_rise (c : Nat → Int) (n : Nat) : ∀ m, (tabE c n m).Pairwise fun x y => risesE x y = true
  | 0 => by simp [tabE]
  | m + 1 => by
    rw [tabE_succ, List.pairwise_append]
    refine ⟨tabE_rise c n m, rwE_rise c m n, fun x hx y hy => ?_⟩
    obtain ⟨a, b, h1, _, _, rfl⟩ := tabE_mem.1 hx
    obtain ⟨b', _, _, rfl⟩ := rwE_mem.1 hy
    simp [risesE]
    omega
theorem tabN_mem {n : Nat} {x : Int} : x ∈ tabN n ↔ 1 ≤ x ∧ x ≤ n := by
  unfold tabN
  simp only [List.mem_map, List.mem_range]
  constructor
  · rintro ⟨a, h, rfl⟩; omega
  · intro h; exact ⟨(x - 1).toNat, by omega, by omega⟩
theorem tabN_ok (n : Nat) (hn : n ≤ 7) : nodesOk 0 (tabN n) = true := by
  have : n = 0 ∨ n = 1 ∨ n = 2 ∨ n = 3 ∨ n = 4 ∨ n = 5 ∨ n = 6 ∨ n = 7 := by omega
  rcases this with rfl | rfl | rfl | rfl | rfl | rfl | rfl | rfl <;> rfl
theorem tab_ok {c : Nat → Int} (h : TabOk c) {n : Nat} (hn : n ≤ 7) : graphOk (tabN n) (tabE c n n) = true := by
  unfold graphOk
  have hl := tabE_len c n n
  have hm : n * n ≤ 7 * 7 := Nat.mul_le_mul hn hn
  rw [tabN_ok n hn, Bool.true_and, Bool.and_eq_true, decide_eq_true_eq]
  refine ⟨by omega, edgesOk_of _ _ (tabE_rise c n n) fun e he => ?_⟩
  obtain ⟨a, b, h1, h2, h3, rfl⟩ := tabE_mem.1 he
  have h4 := h.bd (16 * a + b)
  refine ⟨hasN_iff.2 (tabN_mem.2 (by show 1 ≤ (a : Int) + 1 ∧ (a : Int) + 1 ≤ n; omega)), hasN_iff.2 (tabN_mem.2 (by show 1 ≤ (b : Int) + 1 ∧ (b : Int) + 1 ≤ n; omega)), ?_, isC_iff.2 (by show 1 ≤ c (16 * a + b) ∧ c (16 * a + b) ≤ 1000; omega), ?_⟩
  · show (a : Int) + 1 ≠ (b : Int) + 1
    intro e
    have hab : a = b := by omega
    subst hab
    have := h.di a (by omega)
    omega
  · simp [risesE]
/-- All edges go both ways at one cost. -/
theorem tab_turn {c : Nat → Int} (h : TabOk c) {n : Nat} (hn : n ≤ 7) {e : Ed} (he : e ∈ tabE c n n) : (e.2.1, e.1, e.2.2) ∈ tabE c n n := by
  obtain ⟨a, b, h1, h2, h3, rfl⟩ := tabE_mem.1 he
  have h4 := h.sy a b (by omega) (by omega)
  exact tabE_mem.2 ⟨b, a, h2, h1, by rw [← h4]; exact h3, by rw [h4]⟩
end Go.Proofs.Ytfbojelflplflaa
