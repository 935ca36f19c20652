/- The document's has, With. -/
import Derived.Test.YtgpinecfmhenkaaDoorUI0
namespace Go.Proofs.YtgpinecfmhenkaaDoor
open Go.RowKit

set_option maxRecDepth 100000 in
theorem dhas_any {l : List Int} {v : Value} (n : Int) {w : World} (h : SlAt ic 1 w v l) : Calls Tryd.prog 23 #[v, .int .i64 n] w fun e w' => e = .returned (.bool (l.contains n)) ∧ w' = w := by
  obtain ⟨a, cap, rfl, hl, _, hat⟩ := h.ints
  have Ha := hidIn hat
  obtain ⟨ln, hln⟩ : ∃ ln, l.length = ln := ⟨_, rfl⟩
  have Hln := hidIn hln
  rw [hln] at hl ⊢
  obtain ⟨bq, hbq⟩ : ∃ bq, l.contains n = bq := ⟨_, rfl⟩
  rw [hbq]
  have HQ := hidIn hbq
  clear h hat hln hbq
  go_enter Tryd.func23, Tryd.ntmps23
  go_wp2_with fail
  go_loop [5] (fun i => ∃ k : Nat, k ≤ ln ∧ i = .int .i64 k ∧ Hid ((l.take k).contains n = false)) (fun i => ln - (intOf i).toNat)
  case atStart => exact ⟨0, Nat.zero_le _, rfl, hidIn (by simp)⟩
  case round =>
    obtain ⟨k, hk, rfl, HC⟩ := hrel
    by_cases hlt : k < ln
    · obtain ⟨bk, o, rfl, hbk, hcell⟩ := Ha.out (by have := Hln.out; omega)
      obtain ⟨x, hx⟩ : ∃ x, l[k]? = some x := ⟨l[k]'(by have := Hln.out; omega), List.getElem?_eq_getElem _⟩
      have c0 := hcell k x hx
      have hki : (k : Int) < (ln : Int) := by omega
      by_cases hxn : x = n
      · have hq : (x == n) = true := by simpa using hxn
        have HE : Hid (bq = true) := hidIn (by rw [← HQ.out, ← hxn]; simpa using List.mem_of_getElem? hx)
        clear hcell hx hxn
        go_wp2_with fail
        go_ret
        exact ⟨by rw [HE.out]; rfl, rfl⟩
      · have hq : (x == n) = false := by simpa using hxn
        have HE : Hid ((l.take (k + 1)).contains n = false) := hidIn (by
          rw [take_snoc hx, List.contains_eq_mem, decide_eq_false_iff_not, List.mem_append, List.mem_singleton]
          have h1 := HC.out
          rw [List.contains_eq_mem, decide_eq_false_iff_not] at h1
          exact fun h => h.elim h1 (fun e => hxn e.symm))
        clear hcell hx hxn
        go_wp2_with fail
        go_round
        case rel => exact ⟨k + 1, by omega, by go_num, HE⟩
        case measure => simp [intOf]; omega
    · have hki : ¬ ((k : Int) < (ln : Int)) := by omega
      have HE : Hid (bq = false) := hidIn (by rw [← HQ.out]; have := HC.out; rw [List.take_of_length_le (by have := Hln.out; omega)] at this; exact this)
      go_wp2_with fail
      go_ret
      exact ⟨by rw [HE.out]; rfl, rfl⟩
/-- A number laid into a list, ahead of the first that is above it. -/
def insL : List Int → Int → List Int
  | [], n => [n]
  | x :: xs, n => if n < x then n :: x :: xs else x :: insL xs n
def abv (l : List Int) (n : Int) : Bool := l.any fun x => decide (n < x)
theorem insL_put : ∀ (p : List Int) (n x : Int), abv p n = true → insL (p ++ [x]) n = insL p n ++ [x]
  | [], _, _, h => by simp [abv] at h
  | y :: p, n, x, h => by
    rw [List.cons_append, insL, insL]
    by_cases hy : n < y
    · rw [if_pos hy, if_pos hy]; rfl
    · rw [if_neg hy, if_neg hy, insL_put p n x (by simpa [abv, hy] using h)]; rfl
theorem insL_not : ∀ (p : List Int) (n : Int), abv p n = false → insL p n = p ++ [n]
  | [], _, _ => rfl
  | y :: p, n, h => by
    have h1 : ¬ n < y ∧ abv p n = false := by simpa [abv] using h
    rw [insL, if_neg h1.1, insL_not p n h1.2]
    rfl
theorem insL_new (p : List Int) (n x : Int) (h : abv p n = false) (hx : n < x) : insL (p ++ [x]) n = p ++ [n, x] := by
  induction p with
  | nil => simp [insL, hx]
  | cons y p ih =>
    have h1 : ¬ n < y ∧ abv p n = false := by simpa [abv] using h
    rw [List.cons_append, insL, if_neg h1.1, ih h1.2]
    rfl
theorem abv_snoc (p : List Int) (n x : Int) : abv (p ++ [x]) n = (abv p n || decide (n < x)) := by simp [abv]
theorem mem_insL {y n : Int} : ∀ l : List Int, y ∈ insL l n ↔ y = n ∨ y ∈ l
  | [] => by simp [insL]
  | x :: l => by
    rw [insL]
    by_cases h : n < x
    · rw [if_pos h]; simp
    · rw [if_neg h, List.mem_cons, mem_insL l, List.mem_cons]
      constructor
      · rintro (h | h | h)
        · exact .inr (.inl h)
        · exact .inl h
        · exact .inr (.inr h)
      · rintro (h | h | h)
        · exact .inr (.inl h)
        · exact .inl h
        · exact .inr (.inr h)
theorem insL_rise {n : Int} : ∀ l : List Int, l.Pairwise (fun x y => x < y) → n ∉ l → (insL l n).Pairwise fun x y => x < y
  | [], _, _ => by simp [insL]
  | x :: l, h, hn => by
    rw [List.pairwise_cons] at h
    rw [insL]
    by_cases hx : n < x
    · rw [if_pos hx]
      refine List.pairwise_cons.2 ⟨fun y hy => ?_, List.pairwise_cons.2 h⟩
      rcases List.mem_cons.1 hy with rfl | hy
      · exact hx
      · have := h.1 y hy; omega
    · rw [if_neg hx]
      refine List.pairwise_cons.2 ⟨fun y hy => ?_, insL_rise l h.2 (fun e => hn (List.mem_cons_of_mem _ e))⟩
      rcases (mem_insL l).1 hy with rfl | hy
      · have : y ≠ x := fun e => hn (by rw [e]; exact List.mem_cons_self)
        omega
      · exact h.1 y hy
theorem with_rs {l : List Int} (n : Int) (h : l.Pairwise fun x y => x < y) : (if l.contains n then l else insL l n) = rsL (l ++ [n]) := by
  by_cases hc : l.contains n = true
  · rw [if_pos hc]
    exact crise_ext h (rsL_ok _).1 (fun x => by
      rw [(rsL_ok _).2, List.mem_append, List.mem_singleton]
      exact ⟨.inl, fun h => h.elim id (fun e => by rw [e]; simpa using hc)⟩)
  · rw [if_neg hc]
    have hn : n ∉ l := by simpa using hc
    exact crise_ext (insL_rise l h hn) (rsL_ok _).1 (fun x => by
      rw [(rsL_ok _).2, mem_insL, List.mem_append, List.mem_singleton]
      exact ⟨fun h => h.elim .inr .inl, fun h => h.elim .inr .inl⟩)
theorem rsL_rs (a : List Int) (x : Int) : rsL (rsL a ++ [x]) = rsL (a ++ [x]) := rsL_same fun y => by rw [List.mem_append, List.mem_append, (rsL_ok a).2]
/-- What is laid out behind the first ones. -/
def witK (l : List Int) (n : Int) (k : Nat) : List Int := if abv (l.take k) n then insL (l.take k) n else l.take k
theorem witK_len (l : List Int) (n : Int) (k : Nat) : (witK l n k).length ≤ l.length + 1 := by
  have hi : ∀ p : List Int, (insL p n).length = p.length + 1 := fun p => by
    induction p with
    | nil => rfl
    | cons x p ih => rw [insL]; split <;> simp [ih]
  have hk : (l.take k).length ≤ l.length := by rw [List.length_take]; omega
  unfold witK
  split
  · rw [hi]; omega
  · omega
end Go.Proofs.YtgpinecfmhenkaaDoor
