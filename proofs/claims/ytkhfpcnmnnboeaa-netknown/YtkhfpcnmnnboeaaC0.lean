/- A calendar as lists: what is taken out of the midst of a tree; things in the order of their ticks, then of their tickets. -/
import Derived.Test.YtkhfpcnmnnboeaaJH
namespace Go.Proofs.Ytkhfpcnmnnboeaa.Ca
open Go

section
variable {α : Type} (key : α → Int)
/-- The tree without what stands at i. -/
def remL (lt : α → α → Bool) (es : List (α × Int)) (i : Nat) : List (α × Int) :=
  match es[es.length - 1]? with
  | some z => if i < es.length - 1 then sinkF lt (es.length - 1) (riseF lt i ((es.set i z).take (es.length - 1)) i) i else (es.set i z).take (es.length - 1)
  | none => []
theorem set_take_perm {es : List (α × Int)} {i : Nat} {a z : α × Int} (ha : es[i]? = some a) (hz : es[es.length - 1]? = some z) : es.Perm (a :: (es.set i z).take (es.length - 1)) := by
  have hi := (List.getElem?_eq_some_iff.1 ha).1
  have h1 : (a :: es.set i z).Perm (z :: es) := perm_set z ha
  have h2 : (es.set i z)[es.length - 1]? = some z := by
    rw [List.getElem?_set]
    split
    · rfl
    · exact hz
  have h3 : es.set i z = (es.set i z).take (es.length - 1) ++ [z] := by
    have hl : (es.set i z).length = es.length := by simp
    have h4 := List.take_append_drop (es.length - 1) (es.set i z)
    rw [List.drop_eq_getElem_cons (by omega), List.drop_of_length_le (by omega)] at h4
    have h5 : (es.set i z)[es.length - 1]'(by omega) = z := (List.getElem?_eq_some_iff.1 h2).2
    rw [h5] at h4
    exact h4.symm
  rw [h3] at h1
  have h6 : (a :: ((es.set i z).take (es.length - 1) ++ [z])).Perm (z :: a :: (es.set i z).take (es.length - 1)) := by
    have := @List.perm_append_comm _ (a :: (es.set i z).take (es.length - 1)) [z]
    simpa using this
  exact (List.Perm.cons_inv (h6.symm.trans h1)).symm
theorem remL_perm (lt : α → α → Bool) {es : List (α × Int)} {i : Nat} {a : α × Int} (ha : es[i]? = some a) : es.Perm (a :: remL lt es i) := by
  have hi := (List.getElem?_eq_some_iff.1 ha).1
  obtain ⟨z, hz⟩ : ∃ z, es[es.length - 1]? = some z := ⟨es[es.length - 1], List.getElem?_eq_getElem (by omega)⟩
  unfold remL
  rw [hz]
  dsimp only
  split
  · exact (set_take_perm ha hz).trans (((sinkF_perm lt _ _ _).trans (riseF_perm lt _ _ _)).symm.cons a)
  · exact set_take_perm ha hz
theorem riseF_stay {lt : α → α → Bool} {f i : Nat} {d : List (α × Int)} (h : ∀ z p, 0 < i → d[i]? = some z → d[(i - 1) / 2]? = some p → ¬ aheadE lt z p = true) : riseF lt f d i = d := by
  cases f with
  | zero => rfl
  | succ f =>
    rw [riseF]
    split
    · rfl
    · rename_i hi
      split
      · rename_i a b ha hb
        rw [if_neg (h a b (by omega) ha hb)]
      · rfl
theorem rem_heap {es : List (α × Int)} (h : IsHp key es) {i : Nat} (hi : i < es.length) : IsHp key (remL (ltK key) es i) := by
  obtain ⟨a, ha⟩ : ∃ a, es[i]? = some a := ⟨es[i], List.getElem?_eq_getElem hi⟩
  obtain ⟨z, hz⟩ : ∃ z, es[es.length - 1]? = some z := ⟨es[es.length - 1], List.getElem?_eq_getElem (by omega)⟩
  unfold remL
  rw [hz]
  dsimp only
  generalize hd : (es.set i z).take (es.length - 1) = d
  have hdl : d.length = es.length - 1 := by rw [← hd, List.length_take, List.length_set]; omega
  have hdo : ∀ j c, j ≠ i → d[j]? = some c → es[j]? = some c := by
    intro j c hj hc
    have hjl := (List.getElem?_eq_some_iff.1 hc).1
    rw [← hd, List.getElem?_take_of_lt (by omega), List.getElem?_set_ne (by omega)] at hc
    exact hc
  split
  · rename_i hlt
    have hdi : d[i]? = some z := by rw [← hd, List.getElem?_take_of_lt hlt, List.getElem?_set_self hi]
    have hup : ∀ j, 0 < j → (j - 1) / 2 = i → 0 < i → ∀ c p, d[j]? = some c → d[(i - 1) / 2]? = some p → leE key p c := by
      intro j hj hji hi0 c p hc hp
      have hc' := hdo j c (by omega) hc
      have hp' := hdo _ p (by omega) hp
      exact leE_trans key (h i hi0 a p ha hp') (h j hj c a hc' (by rw [hji]; exact ha))
    by_cases hr : ∃ p, 0 < i ∧ d[(i - 1) / 2]? = some p ∧ aheadE (ltK key) z p = true
    · obtain ⟨p, hi0, hp, hzp⟩ := hr
      have hr1 : IsHp key (riseF (ltK key) i d i) := rise_heap key i d i (Nat.le_refl _) (fun j hj hjn c b hc hb => by
        by_cases hji : (j - 1) / 2 = i
        · rw [hji, hdi] at hb
          cases hb
          exact leE_trans key (leE_ahead key hzp) (hup j hj hji hi0 c p hc hp)
        · exact h j hj c b (hdo j c hjn hc) (hdo _ b hji hb)) hup
      exact sink_heap key _ _ _ (by rw [(riseF_perm (ltK key) i d i).length_eq, hdl]; omega) (fun j hj _ => hr1 j hj) (fun j hj hji hi0 c b hc hb => by
        obtain ⟨y, hy⟩ : ∃ y, (riseF (ltK key) i d i)[i]? = some y := ⟨(riseF (ltK key) i d i)[i]'(by rw [(riseF_perm (ltK key) i d i).length_eq]; omega), List.getElem?_eq_getElem _⟩
        exact leE_trans key (hr1 i hi0 y b hy hb) (hr1 j hj c y hc (by rw [hji]; exact hy)))
    · have hst : riseF (ltK key) i d i = d := riseF_stay (fun y p hi0 hy hp e => hr ⟨p, hi0, hp, by rw [hdi] at hy; cases hy; exact e⟩)
      rw [hst]
      refine sink_heap key _ _ _ (by omega) (fun j hj hji c b hc hb => ?_) hup
      by_cases hjn : j = i
      · subst hjn
        rw [hdi] at hc
        cases hc
        exact leE_not key (fun e => hr ⟨b, hj, hb, e⟩)
      · exact h j hj c b (hdo j c hjn hc) (hdo _ b hji hb)
  · rename_i hlt
    intro j hj c b hc hb
    have hjl := (List.getElem?_eq_some_iff.1 hc).1
    exact h j hj c b (hdo j c (by omega) hc) (hdo _ b (by omega) hb)
theorem push_at {es : List (α × Int)} (h : IsHp key es) (e : α × Int) : IsHp key (riseF (ltK key) es.length (es ++ [e]) es.length) := push_heap key h e.1 e.2
end

/-- A thing, its tick, its ticket. -/
abbrev Tg (τ : Type) : Type := (τ × Int) × Int
abbrev tick {τ : Type} (x : τ × Int) : Int := x.2
/-- A place in a tree: its block too. -/
abbrev Pl (τ : Type) : Type := (Nat × τ × Int) × Int
abbrev at' {τ : Type} (x : Nat × τ × Int) : Int := x.2.2
abbrev tg {τ : Type} (e : Pl τ) : Tg τ := (e.1.2, e.2)
section
variable {τ : Type}
/-- In order: by ticks, then by tickets, no ticket twice. -/
def Ord (L : List (Tg τ)) : Prop := L.Pairwise fun a b => leE tick a b ∧ a.2 ≠ b.2
theorem Ord.tail {a : Tg τ} {L : List (Tg τ)} (h : Ord (a :: L)) : Ord L := (List.pairwise_cons.1 h).2
theorem Ord.nd {L : List (Tg τ)} (h : Ord L) : (L.map Prod.snd).Nodup := by
  unfold Ord at h
  rw [List.Nodup, List.pairwise_map]
  exact h.imp (fun h => h.2)
theorem nd_inj {β : Type} {L : List (β × Int)} (h : (L.map Prod.snd).Nodup) {a b : β × Int} (ha : a ∈ L) (hb : b ∈ L) (he : a.2 = b.2) : a = b := by
  induction L with
  | nil => simp at ha
  | cons c L ih =>
    rw [List.map_cons, List.nodup_cons] at h
    rcases List.mem_cons.1 ha with h1 | h1
    · rcases List.mem_cons.1 hb with h2 | h2
      · rw [h1, h2]
      · exact absurd (List.mem_map.2 ⟨b, h2, by rw [← he, h1]⟩) h.1
    · rcases List.mem_cons.1 hb with h2 | h2
      · exact absurd (List.mem_map.2 ⟨a, h1, by rw [he, h2]⟩) h.1
      · exact ih h.2 h1 h2
theorem nd_tg {es : List (Pl τ)} {L : List (Tg τ)} (hp : (es.map tg).Perm L) (hL : Ord L) : (es.map Prod.snd).Nodup := by
  have h1 := (hp.map Prod.snd).nodup_iff.2 hL.nd
  rwa [List.map_map] at h1
/-- What stands first in the tree is the first of the order. -/
theorem first_is {es : List (Pl τ)} {L : List (Tg τ)} (hh : IsHp at' es) (hp : (es.map tg).Perm L) (hL : Ord L) {a : Pl τ} (ha : es[0]? = some a) : ∃ L', L = tg a :: L' := by
  cases L with
  | nil =>
    have hnil := hp.eq_nil
    have := (List.getElem?_eq_some_iff.1 ha).1
    rw [List.map_eq_nil_iff.1 hnil] at this
    simp at this
  | cons h L' =>
    refine ⟨L', ?_⟩
    have ham : a ∈ es := List.mem_of_getElem? ha
    have h1 : tg a ∈ h :: L' := hp.mem_iff.1 (List.mem_map.2 ⟨a, ham, rfl⟩)
    rcases List.mem_cons.1 h1 with h2 | h2
    · rw [h2]
    · have h3 := (List.pairwise_cons.1 hL).1 _ h2
      obtain ⟨f, hf, hfe⟩ := List.mem_map.1 (hp.mem_iff.2 (List.mem_cons_self (a := h) (l := L')))
      have h4 : leE at' a f := heap_min_mem at' hh ha hf
      have h5 : leE tick (tg a) (tg f) := h4
      rw [hfe] at h5
      exfalso
      have h6 := h3.1
      have h7 := h3.2
      unfold leE at h5 h6
      omega
theorem len_is {es : List (Pl τ)} {L : List (Tg τ)} (hp : (es.map tg).Perm L) : es.length = L.length := by
  have := hp.length_eq
  simpa using this
/-- Two lists in order that have the same are the same. -/
theorem ord_eq : ∀ {L M : List (Tg τ)}, Ord L → Ord M → L.Perm M → L = M
  | [], M, _, _, hp => hp.symm.eq_nil.symm
  | a :: L, [], _, _, hp => absurd hp.length_eq (by simp)
  | a :: L, b :: M, hL, hM, hp => by
    have hab : a = b := by
      have h1 : a ∈ b :: M := hp.mem_iff.1 List.mem_cons_self
      have h2 : b ∈ a :: L := hp.mem_iff.2 List.mem_cons_self
      rcases List.mem_cons.1 h1 with h1 | h1
      · exact h1
      · rcases List.mem_cons.1 h2 with h2 | h2
        · exact h2.symm
        · have h3 := (List.pairwise_cons.1 hM).1 a h1
          have h4 := (List.pairwise_cons.1 hL).1 b h2
          unfold leE at h3 h4
          omega
    subst hab
    rw [ord_eq hL.tail hM.tail (List.Perm.cons_inv hp)]
/-- Laid behind all that are not later. -/
def insL (L : List (Tg τ)) (e : Tg τ) : List (Tg τ) := L.takeWhile (fun a => decide (tick a.1 ≤ tick e.1)) ++ e :: L.dropWhile (fun a => decide (tick a.1 ≤ tick e.1))
theorem insL_perm (L : List (Tg τ)) (e : Tg τ) : (insL L e).Perm (e :: L) := by
  unfold insL
  have h := List.takeWhile_append_dropWhile (p := fun a : Tg τ => decide (tick a.1 ≤ tick e.1)) (l := L)
  refine List.perm_middle.trans ?_
  rw [h]
theorem insL_length (L : List (Tg τ)) (e : Tg τ) : (insL L e).length = L.length + 1 := by rw [(insL_perm L e).length_eq]; rfl
theorem insL_cons (a : Tg τ) (L : List (Tg τ)) (e : Tg τ) : insL (a :: L) e = if tick a.1 ≤ tick e.1 then a :: insL L e else e :: a :: L := by
  unfold insL
  by_cases h : tick a.1 ≤ tick e.1
  · rw [if_pos h, List.takeWhile_cons, List.dropWhile_cons, if_pos (by simpa using h), if_pos (by simpa using h)]; rfl
  · rw [if_neg h, List.takeWhile_cons, List.dropWhile_cons, if_neg (by simpa using h), if_neg (by simpa using h)]; rfl
theorem insL_ord : ∀ {L : List (Tg τ)} (e : Tg τ), Ord L → (∀ a ∈ L, a.2 < e.2) → Ord (insL L e)
  | [], e, _, _ => by simp [insL, Ord]
  | a :: L, e, h, hn => by
    rw [insL_cons]
    have ha := hn a List.mem_cons_self
    have hLa := List.pairwise_cons.1 h
    split
    · rename_i hle
      refine List.pairwise_cons.2 ⟨fun b hb => ?_, insL_ord e hLa.2 (fun b hb => hn b (List.mem_cons_of_mem _ hb))⟩
      rcases List.mem_cons.1 ((insL_perm L e).mem_iff.1 hb) with rfl | hb
      · refine ⟨?_, by omega⟩
        unfold leE
        omega
      · exact hLa.1 b hb
    · rename_i hle
      refine List.pairwise_cons.2 ⟨fun b hb => ?_, h⟩
      have h1 : leE tick e a := by unfold leE; omega
      rcases List.mem_cons.1 hb with rfl | hb
      · exact ⟨h1, by omega⟩
      · exact ⟨leE_trans tick h1 (hLa.1 b hb).1, by have := hn b (List.mem_cons_of_mem _ hb); omega⟩
/-- What is due, and what is not. -/
def dueT (L : List (Tg τ)) (now : Int) : List (Tg τ) := L.takeWhile fun a => decide (tick a.1 ≤ now)
def restT (L : List (Tg τ)) (now : Int) : List (Tg τ) := L.dropWhile fun a => decide (tick a.1 ≤ now)
theorem due_rest (L : List (Tg τ)) (now : Int) : dueT L now ++ restT L now = L := List.takeWhile_append_dropWhile
theorem due_yes {a : Tg τ} {L : List (Tg τ)} {now : Int} (h : tick a.1 ≤ now) : dueT (a :: L) now = a :: dueT L now ∧ restT (a :: L) now = restT L now := by
  unfold dueT restT
  rw [List.takeWhile_cons, List.dropWhile_cons, if_pos (by simpa using h), if_pos (by simpa using h)]
  exact ⟨rfl, rfl⟩
theorem due_no {a : Tg τ} {L : List (Tg τ)} {now : Int} (h : ¬ tick a.1 ≤ now) : dueT (a :: L) now = [] ∧ restT (a :: L) now = a :: L := by
  unfold dueT restT
  rw [List.takeWhile_cons, List.dropWhile_cons, if_neg (by simpa using h), if_neg (by simpa using h)]
  exact ⟨rfl, rfl⟩
theorem due_nil (now : Int) : dueT ([] : List (Tg τ)) now = [] ∧ restT ([] : List (Tg τ)) now = [] := ⟨rfl, rfl⟩
theorem due_all : ∀ {L : List (Tg τ)} {now : Int}, (∀ a ∈ L, tick a.1 ≤ now) → dueT L now = L ∧ restT L now = []
  | [], _, _ => ⟨rfl, rfl⟩
  | a :: L, now, h => by
    obtain ⟨h1, h2⟩ := due_yes (L := L) (h a List.mem_cons_self)
    obtain ⟨h3, h4⟩ := due_all (fun b hb => h b (List.mem_cons_of_mem a hb))
    rw [h1, h2, h3, h4]
    exact ⟨rfl, rfl⟩
theorem Ord.rest {L : List (Tg τ)} (h : Ord L) (now : Int) : Ord (restT L now) := by
  have h1 := due_rest L now
  unfold Ord at h
  rw [← h1, List.pairwise_append] at h
  exact h.2.1
/-- Without the ticket k. -/
def dropT (L : List (Tg τ)) (k : Int) : List (Tg τ) := L.filter fun a => !(a.2 == k)
theorem Ord.drop {L : List (Tg τ)} (h : Ord L) (k : Int) : Ord (dropT L k) := List.Pairwise.filter _ h
theorem dropT_perm {L : List (Tg τ)} {a : Tg τ} {M : List (Tg τ)} (hL : Ord L) (hp : L.Perm (a :: M)) : M.Perm (dropT L a.2) := by
  have h1 : (dropT L a.2).Perm ((a :: M).filter fun x => !(x.2 == a.2)) := hp.filter _
  have hnd := (hp.map Prod.snd).nodup_iff.1 hL.nd
  rw [List.map_cons, List.nodup_cons] at hnd
  rw [List.filter_cons, if_neg (by simp)] at h1
  have h2 : M.filter (fun x => !(x.2 == a.2)) = M := List.filter_eq_self.2 (fun x hx => by
    have : x.2 ≠ a.2 := fun e => hnd.1 (List.mem_map.2 ⟨x, hx, e⟩)
    simpa using this)
  rw [h2] at h1
  exact h1.symm
theorem dropT_none {L : List (Tg τ)} {k : Int} (h : ∀ a ∈ L, a.2 ≠ k) : dropT L k = L := List.filter_eq_self.2 fun x hx => by simpa using h x hx
end
end Go.Proofs.Ytkhfpcnmnnboeaa.Ca
