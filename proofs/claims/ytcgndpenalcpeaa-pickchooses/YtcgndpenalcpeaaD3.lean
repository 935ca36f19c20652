/- Neighbours, the best of them, all by their ranks: as lists. -/
import Derived.Test.YtcgndpenalcpeaaD0
namespace Go.Proofs.Ytcgndpenalcpeaa

/-- Rising above p, none above 24. -/
def upF : Int → List Int → Bool
  | _, [] => true
  | p, x :: l => decide (p < x) && decide (x ≤ 24) && upF x l
def nbOk (l : List Int) : Bool := upF 0 l
def lastF : Int → List Int → Int
  | p, [] => p
  | _, x :: l => lastF x l
theorem upF_app : ∀ (p : Int) (a b : List Int), upF p (a ++ b) = (upF p a && upF (lastF p a) b)
  | _, [], _ => by simp [upF, lastF]
  | p, x :: a, b => by simp only [List.cons_append, upF, lastF, upF_app x a b, Bool.and_assoc]
theorem lastF_snoc : ∀ (p : Int) (a : List Int) (x : Int), lastF p (a ++ [x]) = x
  | _, [], _ => rfl
  | _, y :: a, x => by rw [List.cons_append, lastF]; exact lastF_snoc y a x
theorem upF_snoc (p : Int) (a : List Int) (x : Int) : upF p (a ++ [x]) = (upF p a && (decide (lastF p a < x) && decide (x ≤ 24))) := by
  rw [upF_app]
  simp [upF]
theorem upF_ok : ∀ {p : Int} {l : List Int}, upF p l = true → (∀ x ∈ l, p < x ∧ x ≤ 24) ∧ l.Pairwise fun x y => x < y
  | _, [], _ => ⟨fun _ h => (nomatch h), List.Pairwise.nil⟩
  | p, x :: l, h => by
    simp only [upF, Bool.and_eq_true, decide_eq_true_eq] at h
    obtain ⟨h1, h2⟩ := upF_ok h.2
    refine ⟨fun y hy => ?_, List.pairwise_cons.2 ⟨fun y hy => (h1 y hy).1, h2⟩⟩
    rcases List.mem_cons.1 hy with rfl | hy
    · exact h.1
    · have := h1 y hy
      exact ⟨by omega, this.2⟩
theorem upF_of : ∀ {p : Int} {l : List Int}, (∀ x ∈ l, p < x ∧ x ≤ 24) → l.Pairwise (fun x y => x < y) → upF p l = true
  | _, [], _, _ => rfl
  | p, x :: l, h1, h2 => by
    rw [List.pairwise_cons] at h2
    have h3 := h1 x List.mem_cons_self
    simp only [upF, Bool.and_eq_true, decide_eq_true_eq]
    exact ⟨h3, upF_of (fun y hy => ⟨h2.1 y hy, (h1 y (List.mem_cons_of_mem _ hy)).2⟩) h2.2⟩
theorem nb_in {l : List Int} (h : nbOk l = true) {x : Int} (hx : x ∈ l) : 1 ≤ x ∧ x ≤ 24 := by have := (upF_ok h).1 x hx; omega
theorem nb_rise {l : List Int} (h : nbOk l = true) : l.Pairwise fun x y => x < y := (upF_ok h).2
theorem up_len : ∀ {p : Int} {l : List Int}, upF p l = true → p ≤ 24 → (l.length : Int) ≤ 24 - p
  | _, [], _, h => by simp; omega
  | p, x :: l, h, _ => by
    simp only [upF, Bool.and_eq_true, decide_eq_true_eq] at h
    have := up_len h.2 h.1.2
    simp only [List.length_cons]
    omega
theorem nb_len {l : List Int} (h : nbOk l = true) : l.length ≤ 24 := by have := up_len h (by decide); omega
theorem nb_sub {l m : List Int} (h : nbOk l = true) (hs : m.Sublist l) : nbOk m = true :=
  upF_of (fun x hx => (upF_ok h).1 x (hs.subset hx)) ((upF_ok h).2.sublist hs)
/-- The best so far, and on. -/
def bestF (r : Int → Nat) : Int → List Int → Int
  | b, [] => b
  | b, x :: l => bestF r (if r b < r x then x else b) l
def best (r : Int → Nat) : List Int → Int
  | [] => 0
  | x :: l => bestF r x l
theorem bestF_snoc (r : Int → Nat) : ∀ (b : Int) (l : List Int) (x : Int), bestF r b (l ++ [x]) = if r (bestF r b l) < r x then x else bestF r b l
  | _, [], _ => rfl
  | b, y :: l, x => by rw [List.cons_append, bestF, bestF, bestF_snoc]
theorem best_snoc (r : Int → Nat) {l : List Int} (h : l ≠ []) (x : Int) : best r (l ++ [x]) = if r (best r l) < r x then x else best r l := by
  cases l with
  | nil => exact absurd rfl h
  | cons y l => exact bestF_snoc r y l x
theorem bestF_ok (r : Int → Nat) : ∀ (b : Int) (l : List Int), bestF r b l ∈ b :: l ∧ ∀ y ∈ b :: l, r y ≤ r (bestF r b l)
  | b, [] => ⟨List.mem_cons_self, fun y hy => by rw [List.mem_singleton.1 hy]; exact Nat.le_refl _⟩
  | b, x :: l => by
    obtain ⟨h1, h2⟩ := bestF_ok r (if r b < r x then x else b) l
    rw [bestF]
    refine ⟨?_, fun y hy => ?_⟩
    · rcases List.mem_cons.1 h1 with h | h
      · rw [h]; split
        · exact List.mem_cons_of_mem _ List.mem_cons_self
        · exact List.mem_cons_self
      · exact List.mem_cons_of_mem _ (List.mem_cons_of_mem _ h)
    · have h3 := h2 _ List.mem_cons_self
      rcases List.mem_cons.1 hy with rfl | hy
      · refine Nat.le_trans ?_ h3
        split <;> omega
      · rcases List.mem_cons.1 hy with rfl | hy
        · refine Nat.le_trans ?_ h3
          split <;> omega
        · exact h2 y (List.mem_cons_of_mem _ hy)
theorem best_ok (r : Int → Nat) {l : List Int} (h : l ≠ []) : best r l ∈ l ∧ ∀ y ∈ l, r y ≤ r (best r l) := by
  cases l with
  | nil => exact absurd rfl h
  | cons y l => exact bestF_ok r y l
/-- Falling by ranks. -/
def Fall (r : Int → Nat) (l : List Int) : Prop := l.Pairwise fun x y => r y < r x
theorem fall_ext {r : Int → Nat} : ∀ {a b : List Int}, Fall r a → Fall r b → (∀ x, x ∈ a ↔ x ∈ b) → a = b
  | [], [], _, _, _ => rfl
  | [], y :: b, _, _, h => by have := (h y).2 List.mem_cons_self; simp at this
  | x :: a, [], _, _, h => by have := (h x).1 List.mem_cons_self; simp at this
  | x :: a, y :: b, ha, hb, h => by
    unfold Fall at ha hb
    rw [List.pairwise_cons] at ha hb
    have hxy : x = y := by
      rcases List.mem_cons.1 ((h x).1 List.mem_cons_self) with e | h1
      · exact e
      · rcases List.mem_cons.1 ((h y).2 List.mem_cons_self) with e | h2
        · exact e.symm
        · have := hb.1 x h1
          have := ha.1 y h2
          omega
    subst hxy
    refine congrArg _ (fall_ext ha.2 hb.2 fun z => ⟨fun hz => ?_, fun hz => ?_⟩)
    · rcases List.mem_cons.1 ((h z).1 (List.mem_cons_of_mem _ hz)) with rfl | h1
      · have := ha.1 z hz; omega
      · exact h1
    · rcases List.mem_cons.1 ((h z).2 (List.mem_cons_of_mem _ hz)) with rfl | h1
      · have := hb.1 z hz; omega
      · exact h1
/-- All of them, the greatest rank first. -/
def rankL (r : Int → Nat) (l : List Int) : List Int := l.mergeSort fun x y => decide (r y ≤ r x)
/-- No two of them have one rank. -/
def UnlR (r : Int → Nat) (l : List Int) : Prop := ∀ x ∈ l, ∀ y ∈ l, r x = r y → x = y
theorem rank_mem (r : Int → Nat) (l : List Int) (x : Int) : x ∈ rankL r l ↔ x ∈ l := List.mem_mergeSort
theorem rank_len (r : Int → Nat) (l : List Int) : (rankL r l).length = l.length := List.length_mergeSort ..
theorem fall_of {r : Int → Nat} {l : List Int} (h : l.Pairwise fun x y => r y ≤ r x) (hn : l.Nodup) (hu : UnlR r l) : Fall r l := by
  induction l with
  | nil => exact List.Pairwise.nil
  | cons x l ih =>
    unfold Fall
    rw [List.pairwise_cons] at h ⊢
    rw [List.nodup_cons] at hn
    refine ⟨fun y hy => ?_, ih h.2 hn.2 (fun a ha b hb => hu a (List.mem_cons_of_mem _ ha) b (List.mem_cons_of_mem _ hb))⟩
    rcases Nat.lt_or_ge (r y) (r x) with h1 | h1
    · exact h1
    · have h2 := h.1 y hy
      have h3 := hu x List.mem_cons_self y (List.mem_cons_of_mem _ hy) (by omega)
      exact absurd (h3 ▸ hy) hn.1
theorem rank_fall {r : Int → Nat} {l : List Int} (hn : l.Nodup) (hu : UnlR r l) : Fall r (rankL r l) := by
  have hp : (rankL r l).Perm l := List.mergeSort_perm l _
  refine fall_of ?_ (hp.nodup_iff.2 hn) (fun x hx y hy => hu x ((rank_mem r l x).1 hx) y ((rank_mem r l y).1 hy))
  have := List.pairwise_mergeSort (le := fun x y : Int => decide (r y ≤ r x)) (fun a b c h1 h2 => by simp at *; omega) (fun a b => by simp; omega) l
  exact this.imp (fun h => by simpa using h)
theorem rank_of {r : Int → Nat} {l m : List Int} (hp : m.Perm l) (hs : m.Pairwise fun x y => r y ≤ r x) (hn : l.Nodup) (hu : UnlR r l) : m = rankL r l :=
  fall_ext (fall_of hs (hp.nodup_iff.2 hn) (fun x hx y hy => hu x (hp.mem_iff.1 hx) y (hp.mem_iff.1 hy))) (rank_fall hn hu) fun x => by rw [rank_mem, hp.mem_iff]
theorem nodup_rise {l : List Int} (h : l.Pairwise fun x y => x < y) : l.Nodup := h.imp (fun {a b} h e => by omega)
/-- Ranks of neighbours are unlike. -/
theorem nb_unl {e : Nat} (he : e < 4294967296) {l : List Int} (h : nbOk l = true) : UnlR (mix e) l := fun x hx y hy hr => by
  have h1 := nb_in h hx
  have h2 := nb_in h hy
  exact mix_inj he (by omega) (by omega) hr
theorem nb_fall {e : Nat} (he : e < 4294967296) {l : List Int} (h : nbOk l = true) : Fall (mix e) (rankL (mix e) l) := rank_fall (nodup_rise (nb_rise h)) (nb_unl he h)
theorem UnlR.sub {r : Int → Nat} {l m : List Int} (h : UnlR r l) (hs : ∀ x ∈ m, x ∈ l) : UnlR r m := fun x hx y hy => h x (hs x hx) y (hs y hy)
def outL (l : List Int) (g : Int) : List Int := l.filter fun x => x != g
theorem mem_out {l : List Int} {g x : Int} : x ∈ outL l g ↔ x ∈ l ∧ x ≠ g := by simp [outL]
theorem out_sub (l : List Int) (g : Int) : (outL l g).Sublist l := List.filter_sublist
theorem outL_snoc (l : List Int) (g x : Int) : outL (l ++ [x]) g = if (x == g) = true then outL l g else outL l g ++ [x] := by
  unfold outL
  rw [List.filter_append]
  by_cases h : x = g
  · simp [h]
  · simp [h]
/-- Without one: the order of the others. -/
theorem rank_out {r : Int → Nat} {l : List Int} (hn : l.Nodup) (hu : UnlR r l) (g : Int) : rankL r (outL l g) = outL (rankL r l) g := by
  have hs := out_sub l g
  refine fall_ext (rank_fall (hn.sublist hs) (hu.sub fun x hx => hs.subset hx)) ((rank_fall hn hu).sublist (out_sub _ _)) fun x => ?_
  rw [rank_mem, mem_out, mem_out, rank_mem]
/-- The best is the first; then the others. -/
theorem rank_cons {r : Int → Nat} {l : List Int} (hn : l.Nodup) (hu : UnlR r l) (h0 : l ≠ []) : rankL r l = best r l :: rankL r (outL l (best r l)) := by
  obtain ⟨h1, h2⟩ := best_ok r h0
  have hs := out_sub l (best r l)
  refine fall_ext (rank_fall hn hu) (List.pairwise_cons.2 ⟨fun y hy => ?_, rank_fall (hn.sublist hs) (hu.sub fun x hx => hs.subset hx)⟩) fun x => ?_
  · obtain ⟨h3, h4⟩ := mem_out.1 ((rank_mem r _ y).1 hy)
    rcases Nat.lt_or_ge (r y) (r (best r l)) with h5 | h5
    · exact h5
    · exact absurd (hu y h3 _ h1 (by have := h2 y h3; omega)) h4
  · rw [rank_mem, List.mem_cons, rank_mem, mem_out]
    constructor
    · intro h
      by_cases e : x = best r l
      · exact .inl e
      · exact .inr ⟨h, e⟩
    · rintro (rfl | h)
      · exact h1
      · exact h.1
theorem best_unl {r : Int → Nat} {l : List Int} (hu : UnlR r l) {x : Int} (hx : x ∈ l) (hm : ∀ y ∈ l, r y ≤ r x) : best r l = x := by
  have h0 : l ≠ [] := fun e => by rw [e] at hx; simp at hx
  obtain ⟨h1, h2⟩ := best_ok r h0
  exact hu _ h1 x hx (by have := h2 x hx; have := hm _ h1; omega)
/-- Without one that is not chosen the same one is chosen. -/
theorem best_out {r : Int → Nat} {l : List Int} (hu : UnlR r l) (h0 : l ≠ []) {g : Int} (hg : best r l ≠ g) : best r (outL l g) = best r l := by
  obtain ⟨h1, h2⟩ := best_ok r h0
  exact best_unl (hu.sub fun x hx => (mem_out.1 hx).1) (mem_out.2 ⟨h1, hg⟩) fun y hy => h2 y (mem_out.1 hy).1
theorem rank_nil (r : Int → Nat) : rankL r [] = [] := by simp [rankL]
end Go.Proofs.Ytcgndpenalcpeaa
