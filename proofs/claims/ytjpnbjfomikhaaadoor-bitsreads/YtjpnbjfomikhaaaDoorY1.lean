/- Texts of bits: which they are, what the document's scan makes of them. -/
import Derived.Test.YtjpnbjfomikhaaaDoorP3
namespace Go.Proofs.YtjpnbjfomikhaaaDoor
open Go.RowKit

/-- Bits, rising, none below b. -/
def Ri : Nat → List Nat → Prop
  | _, [] => True
  | b, m :: r => b ≤ m ∧ m < 256 ∧ Ri (m + 1) r
theorem Ri.lt : ∀ {b : Nat} {l : List Nat}, Ri b l → ∀ m ∈ l, b ≤ m ∧ m < 256
  | _, [], _, m, hm => by simp at hm
  | b, x :: r, h, m, hm => by
    rcases List.mem_cons.1 hm with rfl | hm
    · exact ⟨h.1, h.2.1⟩
    · have := Ri.lt h.2.2 m hm
      have := h.1
      omega
theorem Ri.pair : ∀ {b : Nat} {l : List Nat}, Ri b l → l.Pairwise (· < ·)
  | _, [], _ => List.Pairwise.nil
  | b, x :: r, h => List.Pairwise.cons (fun m hm => by have := (Ri.lt h.2.2 m hm).1; omega) (Ri.pair h.2.2)
theorem Ri.len {l : List Nat} (h : Ri 0 l) : l.length ≤ 256 := by
  have : ∀ {b : Nat} {l : List Nat}, Ri b l → l ≠ [] → b + l.length ≤ 256 := by
    intro b l
    induction l generalizing b with
    | nil => intro _ h; exact absurd rfl h
    | cons x r ih =>
      intro h _
      cases r with
      | nil => have := h.1; have := h.2.1; simp; omega
      | cons y r =>
        have := ih h.2.2 (by simp)
        have := h.1
        simp at this ⊢
        simp at *
        omega
  by_cases hl : l = []
  · rw [hl]; simp
  · have := this h hl
    omega
theorem eq_of_mem : ∀ (l k : List Nat), l.Pairwise (· < ·) → k.Pairwise (· < ·) → (∀ x, x ∈ l ↔ x ∈ k) → l = k
  | [], [], _, _, _ => rfl
  | [], y :: k, _, _, h => by have := (h y).2 (by simp); simp at this
  | x :: l, [], _, _, h => by have := (h x).1 (by simp); simp at this
  | x :: l, y :: k, h1, h2, h => by
    obtain ⟨a1, b1⟩ := List.pairwise_cons.1 h1
    obtain ⟨a2, b2⟩ := List.pairwise_cons.1 h2
    have e : x = y := by
      rcases List.mem_cons.1 ((h x).1 (by simp)) with e | e
      · exact e
      · rcases List.mem_cons.1 ((h y).2 (by simp)) with e' | e'
        · exact e'.symm
        · have := a2 x e
          have := a1 y e'
          omega
    subst e
    congr 1
    refine eq_of_mem l k b1 b2 (fun z => ⟨fun hz => ?_, fun hz => ?_⟩)
    · rcases List.mem_cons.1 ((h z).1 (List.mem_cons_of_mem _ hz)) with e | e
      · have := a1 z hz; omega
      · exact e
    · rcases List.mem_cons.1 ((h z).2 (List.mem_cons_of_mem _ hz)) with e | e
      · have := a2 z hz; omega
      · exact e
theorem lst_pair (N : Nat) : (lst N).Pairwise (· < ·) := by
  unfold lst
  exact List.Pairwise.filter _ List.pairwise_lt_range
theorem ri_of : ∀ {b : Nat} {l : List Nat}, l.Pairwise (· < ·) → (∀ m ∈ l, b ≤ m ∧ m < 256) → Ri b l
  | _, [], _, _ => trivial
  | b, x :: r, h, hm => by
    obtain ⟨a, p⟩ := List.pairwise_cons.1 h
    have hx := hm x (by simp)
    exact ⟨hx.1, hx.2, ri_of p (fun m hm' => ⟨a m hm', (hm m (by simp [hm'])).2⟩)⟩
theorem ri_lst (N : Nat) : Ri 0 (lst N) := ri_of (lst_pair N) (fun _ hm => ⟨Nat.zero_le _, (mem_lst.1 hm).1⟩)
theorem lst_orL {l : List Nat} (h : Ri 0 l) : lst (orL l) = l := by
  refine eq_of_mem _ _ (lst_pair _) h.pair (fun x => ?_)
  rw [mem_lst, orL_bit]
  simp only [decide_eq_true_eq]
  constructor
  · exact fun h => h.2
  · exact fun hx => ⟨(h.lt x hx).2, hx⟩
theorem orL_lt {l : List Nat} (h : Ri 0 l) : orL l < 2 ^ 256 := by
  apply Nat.lt_pow_two_of_testBit
  intro j hj
  rw [orL_bit]
  simp only [decide_eq_false_iff_not]
  intro hm
  have := (h.lt j hm).2
  omega
theorem Ri.next {l : List Nat} (h : Ri 0 l) : ∀ k p m, l[k]? = some p → l[k + 1]? = some m → p < m := by
  intro k p m h1 h2
  obtain ⟨l1, e1⟩ := List.getElem?_eq_some_iff.1 h1
  obtain ⟨l2, e2⟩ := List.getElem?_eq_some_iff.1 h2
  rw [← e1, ← e2]
  exact List.pairwise_iff_getElem.1 h.pair k (k + 1) l1 l2 (by omega)

/-- No text of bits that rise from b on. -/
def NoT (b : Nat) (T : List UInt8) : Prop := ∀ l, l ≠ [] → Ri b l → T ≠ txt l
theorem cut_parts {T W R : List UInt8} {more : Bool} (h : Lib.cut T [32] = (W, R, more)) : (more = true ∧ T = W ++ 32 :: R) ∨ (more = false ∧ W = T ∧ R = []) := by
  unfold Lib.cut at h
  rw [Lib.index_one] at h
  by_cases h0 : 0 ≤ Lib.indexByte T 32
  · rw [if_pos h0] at h
    obtain ⟨o, ho⟩ := Int.eq_ofNat_of_zero_le h0
    rw [ho, Int.toNat_natCast] at h
    simp only [Prod.mk.injEq] at h
    obtain ⟨rfl, rfl, rfl⟩ := h
    obtain ⟨h1, _⟩ := Lib.indexByte_some ho
    obtain ⟨hlt, he⟩ := List.getElem?_eq_some_iff.1 h1
    refine .inl ⟨rfl, ?_⟩
    rw [show ([32] : List UInt8).length = 1 from rfl]
    have := List.take_append_drop o T
    rw [List.drop_eq_getElem_cons hlt, he] at this
    exact this.symm
  · rw [if_neg h0] at h
    simp only [Prod.mk.injEq] at h
    exact .inr ⟨h.2.2.symm, h.1.symm, h.2.1.symm⟩
theorem noT_more {b m : Nat} {T R : List UInt8} (h : NoT b T) (hb : b ≤ m) (hm : m < 256) (e : T = num m ++ 32 :: R) : NoT (m + 1) R := by
  intro l hl hr hR
  cases l with
  | nil => exact hl rfl
  | cons p r => exact h (m :: p :: r) (by simp) ⟨hb, hm, hr⟩ (by rw [txt_more, ← hR, e])
theorem noT_last {b m : Nat} {T : List UInt8} (h : NoT b T) (hb : b ≤ m) (hm : m < 256) (e : T = num m) : False :=
  h [m] (by simp) ⟨hb, hm, trivial⟩ (by rw [txt_one, e])

/-- The document's scan, a letter more. -/
def sc (st : Nat × Nat) (c : UInt8) : Nat × Nat :=
  if 48 ≤ c.toNat ∧ c.toNat ≤ 57 ∧ st.1 ≤ 256 then (10 * st.1 + (c.toNat - 48), st.2) else (0, if 1 ≤ st.1 ∧ st.1 ≤ 256 then st.2 ||| 2 ^ (st.1 - 1) else st.2)
/-- What is made at a word's end. -/
def scEnd (st : Nat × Nat) : Nat := if 1 ≤ st.1 ∧ st.1 ≤ 256 then st.2 ||| 2 ^ (st.1 - 1) else st.2
def scan (l : List UInt8) : Nat := scEnd (l.foldl sc (0, 0))
theorem sc_dec (u : Nat) (h : u ≤ 256) (X : Nat) : (Lib.decDigits u).foldl sc (0, X) = (u, X) := by
  induction u using Nat.strongRecOn with
  | ind u ih =>
    rw [Lib.decDigits]
    split
    · rename_i h1
      rw [List.foldl_cons, List.foldl_nil]
      unfold sc
      rw [UInt8.toNat_ofNat', if_pos ⟨by omega, by omega, by simp⟩]
      congr 1
      simp
      omega
    · rw [List.foldl_append, ih (u / 10) (by omega) (by omega), List.foldl_cons, List.foldl_nil]
      unfold sc
      rw [UInt8.toNat_ofNat', if_pos ⟨by omega, by omega, by simp; omega⟩]
      congr 1
      simp
      omega
theorem sc_blank (n X : Nat) (h1 : 1 ≤ n) (h2 : n ≤ 256) : sc (n, X) 32 = (0, X ||| 2 ^ (n - 1)) := by
  unfold sc
  rw [if_neg (by simp), if_pos ⟨h1, h2⟩]
theorem scan_txt : ∀ (l : List Nat) (b X : Nat), l ≠ [] → Ri b l → scEnd ((txt l).foldl sc (0, X)) = l.foldl (fun a m => a ||| 2 ^ m) X
  | [], _, _, h, _ => absurd rfl h
  | [m], _, X, _, h => by
    rw [txt_one, num, sc_dec (m + 1) (by have := h.2.1; omega)]
    unfold scEnd
    rw [if_pos ⟨by simp, by have := h.2.1; simp; omega⟩]
    simp
  | m :: p :: r, _, X, _, h => by
    rw [txt_more, List.foldl_append, num, sc_dec (m + 1) (by have := h.2.1; omega), List.foldl_cons, sc_blank _ _ (by omega) (by have := h.2.1; omega), scan_txt (p :: r) (m + 1) _ (by simp) h.2.2]
    rfl
theorem scan_of {l : List Nat} (hl : l ≠ []) (h : Ri 0 l) : scan (txt l) = orL l := scan_txt l 0 0 hl h
/-- The scan's numbers stay small. -/
theorem sc_bound (st : Nat × Nat) (c : UInt8) (h1 : st.1 ≤ 2569) (h2 : st.2 < 2 ^ 256) : (sc st c).1 ≤ 2569 ∧ (sc st c).2 < 2 ^ 256 := by
  unfold sc
  split
  · rename_i h
    have := h.2.1
    have := h.2.2
    exact ⟨by simp; omega, h2⟩
  · refine ⟨by simp, ?_⟩
    simp only
    split
    · exact Nat.or_lt_two_pow h2 (Nat.pow_lt_pow_right (by decide) (by omega))
    · exact h2
theorem fold_bound (l : List UInt8) : ∀ st : Nat × Nat, st.1 ≤ 2569 → st.2 < 2 ^ 256 → (l.foldl sc st).1 ≤ 2569 ∧ (l.foldl sc st).2 < 2 ^ 256 := by
  induction l with
  | nil => intro st h1 h2; exact ⟨h1, h2⟩
  | cons c l ih =>
    intro st h1 h2
    have := sc_bound st c h1 h2
    exact ih _ this.1 this.2
theorem scan_lt (l : List UInt8) : scan l < 2 ^ 256 := by
  have h := fold_bound l (0, 0) (by simp) (Nat.two_pow_pos 256)
  unfold scan scEnd
  split
  · rename_i hc
    exact Nat.or_lt_two_pow h.2 (Nat.pow_lt_pow_right (by decide) (by omega))
  · exact h.2
end Go.Proofs.YtjpnbjfomikhaaaDoor
