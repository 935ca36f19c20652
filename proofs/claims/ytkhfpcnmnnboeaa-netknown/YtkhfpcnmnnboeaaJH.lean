/- A heap of things as a list: nothing that stands below comes ahead; so the first is the least. -/
import Derived.Test.YtkhfpcnmnnboeaaJ6
namespace Go.Proofs.Ytkhfpcnmnnboeaa
open Go

section
variable {α : Type} (key : α → Int)
def ltK (a b : α) : Bool := decide (key a < key b)
def leE (a b : α × Int) : Prop := key a.1 < key b.1 ∨ (key a.1 = key b.1 ∧ a.2 ≤ b.2)
theorem leE_trans {a b c : α × Int} (h : leE key a b) (k : leE key b c) : leE key a c := by unfold leE at *; omega
theorem leE_ahead {a b : α × Int} (h : aheadE (ltK key) a b = true) : leE key a b := by
  unfold aheadE ltK at h
  unfold leE
  split at h <;> simp at h <;> omega
theorem leE_not {a b : α × Int} (h : ¬ aheadE (ltK key) a b = true) : leE key b a := by
  unfold aheadE ltK at h
  unfold leE
  split at h <;> simp at h <;> omega
def PH (es : List (α × Int)) (j : Nat) : Prop := ∀ a b, es[j]? = some a → es[(j - 1) / 2]? = some b → leE key b a
def IsHp (es : List (α × Int)) : Prop := ∀ j, 0 < j → PH key es j

theorem rise_heap : ∀ (f : Nat) (es : List (α × Int)) (i : Nat), i ≤ f → (∀ j, 0 < j → j ≠ i → PH key es j) →
    (∀ j, 0 < j → (j - 1) / 2 = i → 0 < i → ∀ a b, es[j]? = some a → es[(i - 1) / 2]? = some b → leE key b a) → IsHp key (riseF (ltK key) f es i)
  | 0, es, i, hf, h1, _ => fun j hj => h1 j hj (by omega)
  | f + 1, es, i, hf, h1, h2 => by
    rw [riseF]
    split
    · rename_i hi
      exact fun j hj => h1 j hj (by omega)
    · rename_i hi
      split
      · rename_i a b ha hb
        split
        · rename_i hah
          have hab := leE_ahead key hah
          generalize hm : (i - 1) / 2 = m at *
          have hmi : m < i := by omega
          have g := swp_get ha hb
          refine rise_heap f _ m (by omega) (fun j hj hjm => ?_) (fun j hj hjm hm0 => ?_)
          · intro c d hc hd
            rw [g] at hc hd
            by_cases e1 : j = i
            · subst e1
              rw [if_neg (by omega), if_pos rfl] at hc
              rw [hm, if_pos rfl] at hd
              cases hc; cases hd
              exact hab
            · rw [if_neg hjm, if_neg e1] at hc
              by_cases e2 : (j - 1) / 2 = m
              · rw [if_pos e2] at hd
                cases hd
                exact leE_trans key hab (h1 j hj e1 c b hc (by rw [e2]; exact hb))
              · rw [if_neg e2] at hd
                by_cases e3 : (j - 1) / 2 = i
                · rw [if_pos e3] at hd
                  cases hd
                  exact h2 j hj e3 (by omega) c b hc hb
                · rw [if_neg e3] at hd
                  exact h1 j hj e1 c d hc hd
          · intro c d hc hd
            rw [g] at hc hd
            rw [if_neg (by omega), if_neg (by omega)] at hd
            have hdb := h1 m hm0 (by omega) b d hb hd
            rw [if_neg (by omega)] at hc
            by_cases e1 : j = i
            · rw [if_pos e1] at hc
              cases hc
              exact hdb
            · rw [if_neg e1] at hc
              exact leE_trans key hdb (h1 j hj e1 c b hc (by rw [hjm]; exact hb))
        · rename_i hah
          have hba := leE_not key hah
          intro j hj
          by_cases e : j = i
          · subst e
            intro c d hc hd
            rw [ha] at hc
            rw [hb] at hd
            cases hc; cases hd
            exact hba
          · exact h1 j hj e
      · rename_i hno
        intro j hj
        by_cases e : j = i
        · subst e
          intro c d hc hd
          exact absurd hd (hno c d hc)
        · exact h1 j hj e
theorem below_min (es : List (α × Int)) (i j : Nat) (b c : α × Int) (hj : j = 2 * i + 1 ∨ j = 2 * i + 2) (hb : es[belowF (ltK key) es i]? = some b) (hc : es[j]? = some c) : leE key b c := by
  unfold belowF at hb
  split at hb
  · rename_i r l hr hl
    split at hb
    · rename_i h
      rw [hr] at hb; cases hb
      rcases hj with rfl | rfl
      · rw [hl] at hc; cases hc; exact leE_ahead key h
      · rw [hr] at hc; cases hc; unfold leE; omega
    · rename_i h
      rw [hl] at hb; cases hb
      rcases hj with rfl | rfl
      · rw [hl] at hc; cases hc; unfold leE; omega
      · rw [hr] at hc; cases hc; exact leE_not key h
  · rename_i hno
    rcases hj with rfl | rfl
    · rw [hb] at hc; cases hc; unfold leE; omega
    · exact absurd hb (hno c b hc)
theorem sink_heap : ∀ (f : Nat) (es : List (α × Int)) (i : Nat), es.length - i ≤ f → (∀ j, 0 < j → (j - 1) / 2 ≠ i → PH key es j) →
    (∀ j, 0 < j → (j - 1) / 2 = i → 0 < i → ∀ a b, es[j]? = some a → es[(i - 1) / 2]? = some b → leE key b a) → IsHp key (sinkF (ltK key) f es i)
  | 0, es, i, hf, h1, _ => fun j hj => by
    show PH key es j
    by_cases e : (j - 1) / 2 = i
    · intro a b ha hb
      have := (List.getElem?_eq_some_iff.1 hb).1
      omega
    · exact h1 j hj e
  | f + 1, es, i, hf, h1, h2 => by
    rw [sinkF]
    split
    · rename_i b a hb ha
      have hbo := belowF_or (ltK key) es i
      have hmin := fun j c hj hc => below_min key es i j b c hj hb hc
      generalize belowF (ltK key) es i = m at *
      have hpm : (m - 1) / 2 = i := by omega
      have hil := (List.getElem?_eq_some_iff.1 ha).1
      split
      · rename_i hah
        have hba := leE_ahead key hah
        have g := swp_get ha hb
        refine sink_heap f _ m (by rw [swp_length]; omega) (fun j hj hjm => ?_) (fun j hj hjm hm0 => ?_)
        · intro c d hc hd
          rw [g] at hc hd
          by_cases e1 : j = m
          · subst e1
            rw [if_pos rfl] at hc
            rw [hpm, if_neg (by omega), if_pos rfl] at hd
            cases hc; cases hd
            exact hba
          · rw [if_neg e1] at hc
            rw [if_neg hjm] at hd
            by_cases e2 : j = i
            · subst e2
              rw [if_pos rfl] at hc
              rw [if_neg (by omega)] at hd
              cases hc
              exact h2 m (by omega) hpm hj _ d hb hd
            · rw [if_neg e2] at hc
              by_cases e3 : (j - 1) / 2 = i
              · rw [if_pos e3] at hd
                cases hd
                exact hmin j c (by omega) hc
              · rw [if_neg e3] at hd
                exact h1 j hj e3 c d hc hd
        · intro c d hc hd
          rw [g] at hc hd
          rw [hpm, if_neg (by omega), if_pos rfl] at hd
          rw [if_neg (by omega), if_neg (by omega)] at hc
          cases hd
          exact h1 j hj (by omega) c _ hc (by rw [hjm]; exact hb)
      · rename_i hah
        have hab := leE_not key hah
        intro j hj
        by_cases e : (j - 1) / 2 = i
        · intro c d hc hd
          rw [e, ha] at hd
          cases hd
          exact leE_trans key hab (hmin j c (by omega) hc)
        · exact h1 j hj e
    · rename_i hno
      intro j hj
      by_cases e : (j - 1) / 2 = i
      · intro c d hc hd
        exfalso
        rw [e] at hd
        have hjl := (List.getElem?_eq_some_iff.1 hc).1
        have hbl : belowF (ltK key) es i < es.length := by
          unfold belowF
          split
          · rename_i r l hr _
            have := (List.getElem?_eq_some_iff.1 hr).1
            split <;> omega
          · omega
        exact hno _ d (List.getElem?_eq_getElem hbl) hd
      · exact h1 j hj e
theorem push_heap {es : List (α × Int)} (h : IsHp key es) (x : α) (p : Int) : IsHp key (pushL (ltK key) es x p) := by
  unfold pushL
  refine rise_heap key _ _ _ (Nat.le_refl _) (fun j hj hjn => ?_) (fun j hj hjn _ a b ha _ => ?_)
  · intro a b ha hb
    have hjl := (List.getElem?_eq_some_iff.1 ha).1
    simp at hjl
    rw [List.getElem?_append_left (by omega)] at ha hb
    exact h j hj a b ha hb
  · have hjl := (List.getElem?_eq_some_iff.1 ha).1
    simp at hjl
    omega
theorem pop_heap {es : List (α × Int)} (h : IsHp key es) : IsHp key (popL (ltK key) es) := by
  unfold popL
  split
  · rename_i z hz
    refine sink_heap key _ _ _ (by rw [List.length_take]; omega) (fun j hj hj0 => ?_) (fun j hj hj0 h0 => by omega)
    intro a b ha hb
    have hjl := (List.getElem?_eq_some_iff.1 ha).1
    rw [List.length_take, List.length_set] at hjl
    rw [List.getElem?_take_of_lt (by omega), List.getElem?_set_ne (by omega)] at ha hb
    exact h j hj a b ha hb
  · intro j _ a b ha
    simp at ha
theorem heap_min {es : List (α × Int)} (h : IsHp key es) {m : α × Int} (hm : es[0]? = some m) : ∀ (n j : Nat), j < n → ∀ c, es[j]? = some c → leE key m c
  | 0, j, hj, _, _ => by omega
  | n + 1, j, hj, c, hc => by
    cases j with
    | zero => rw [hm] at hc; cases hc; unfold leE; omega
    | succ j =>
      have hjl := (List.getElem?_eq_some_iff.1 hc).1
      obtain ⟨b, hb⟩ : ∃ b, es[(j + 1 - 1) / 2]? = some b := ⟨es[(j + 1 - 1) / 2]'(by omega), List.getElem?_eq_getElem _⟩
      exact leE_trans key (heap_min h hm n _ (by omega) b hb) (h (j + 1) (by omega) c b hc hb)
theorem heap_min_mem {es : List (α × Int)} (h : IsHp key es) {m c : α × Int} (hm : es[0]? = some m) (hc : c ∈ es) : leE key m c := by
  obtain ⟨j, hj, rfl⟩ := List.getElem_of_mem hc
  exact heap_min key h hm (j + 1) j (by omega) _ (List.getElem?_eq_getElem hj)
theorem fill_heap (l : List α) : IsHp key (fillL (ltK key) l) := by
  unfold fillL
  have : ∀ (l : List α) (es : List (α × Int)), IsHp key es → IsHp key (l.foldl (addL (ltK key)) es) := by
    intro l
    induction l with
    | nil => exact fun es h => h
    | cons x l ih => exact fun es h => ih _ (push_heap key h x _)
  exact this l [] (fun j _ a b ha => by simp at ha)
theorem popN_heap {es : List (α × Int)} (h : IsHp key es) : ∀ n, IsHp key (popN (ltK key) n es)
  | 0 => h
  | n + 1 => pop_heap key (popN_heap h n)
end
section
variable {α : Type}
/-- What is pushed, with the numbers of the pushes. -/
def ents : Nat → List α → List (α × Int)
  | _, [] => []
  | s, x :: l => (x, (s : Int)) :: ents (s + 1) l
theorem fill_perm_aux (lt : α → α → Bool) : ∀ (l : List α) (es : List (α × Int)), (l.foldl (addL lt) es).Perm (ents es.length l ++ es)
  | [], es => List.Perm.refl _
  | x :: l, es => by
    rw [List.foldl_cons]
    refine (fill_perm_aux lt l _).trans ?_
    rw [addL_length, ents]
    exact ((pushL_perm lt es x _).append_left _).trans List.perm_middle
theorem fill_perm (lt : α → α → Bool) (l : List α) : (fillL lt l).Perm (ents 0 l) := by
  have := fill_perm_aux lt l []
  rw [List.append_nil] at this
  exact this
theorem mem_ents : ∀ (l : List α) (s : Nat) (e : α × Int), e ∈ ents s l → ∃ j, l[j]? = some e.1 ∧ e.2 = ((s + j : Nat) : Int)
  | [], s, e, h => by simp [ents] at h
  | x :: l, s, e, h => by
    rw [ents] at h
    rcases List.mem_cons.1 h with rfl | h
    · exact ⟨0, rfl, rfl⟩
    · obtain ⟨j, h1, h2⟩ := mem_ents l (s + 1) e h
      exact ⟨j + 1, by simpa using h1, by rw [h2]; omega⟩
theorem nodup_ents : ∀ (l : List α) (s : Nat), ((ents s l).map Prod.snd).Nodup
  | [], s => by simp [ents]
  | x :: l, s => by
    rw [ents, List.map_cons, List.nodup_cons]
    refine ⟨fun h => ?_, nodup_ents l (s + 1)⟩
    obtain ⟨e, he, h2⟩ := List.mem_map.1 h
    obtain ⟨j, _, h3⟩ := mem_ents l (s + 1) e he
    simp at h2
    omega
theorem pop_cons (lt : α → α → Bool) {es : List (α × Int)} {a : α × Int} (h : es[0]? = some a) : es.Perm (a :: popL lt es) := by
  cases es with
  | nil => simp at h
  | cons e es =>
    simp at h
    subst h
    exact ((popL_perm lt e es).symm).cons e
theorem popN_sub (lt : α → α → Bool) (es : List (α × Int)) : ∀ n e, e ∈ popN lt n es → e ∈ es
  | 0, e, h => h
  | n + 1, e, h => by
    rw [popN] at h
    refine popN_sub lt es n e ?_
    cases hp : popN lt n es with
    | nil => rw [hp] at h; simp [popL] at h
    | cons a r =>
      rw [hp] at h
      exact List.mem_cons_of_mem _ ((popL_perm lt a r).mem_iff.1 h)
theorem popN_nodup (lt : α → α → Bool) {es : List (α × Int)} (h : (es.map Prod.snd).Nodup) : ∀ n, ((popN lt n es).map Prod.snd).Nodup
  | 0 => h
  | n + 1 => by
    rw [popN]
    have ih := popN_nodup lt h n
    cases hp : popN lt n es with
    | nil => simp [popL]
    | cons a r =>
      rw [hp, List.map_cons, List.nodup_cons] at ih
      exact ((popL_perm lt a r).map Prod.snd).nodup_iff.2 ih.2
end
end Go.Proofs.Ytkhfpcnmnnboeaa
