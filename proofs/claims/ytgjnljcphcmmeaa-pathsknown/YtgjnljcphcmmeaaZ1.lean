/- First, in ways: the way that it tells is one of least cost, and ahead of all others. The graph of records may be; its parts. The law's graphs, as lists: a table of costs, the same both ways; the graph that it makes. The law's table of costs in memory. The law's of: the table. The chapter's example, as lists. The chapter's example: how many ways. The law's example, cost, works. What From, First and Cost tell of one graph, held together. The chapter's examples: the first ways, ways that are none. PathsKnown. Links of three small numbers as an argument. -/
import Derived.Test.YtgjnljcphcmmeaaVQ8
import Derived.Test.YtgjnljcphcmmeaaV10
import Derived.Test.YtgjnljcphcmmeaaV15
import Derived.Test.YtgjnljcphcmmeaaGP
import Derived.Deep.RegionLaw
import Derived.Test.YtgjnljcphcmmeaaVQ4
import Derived.Test.YtgjnljcphcmmeaaGH
namespace Go.Proofs.Ytgjnljcphcmmeaa

/-- A way as the list of its nodes. -/
def Wl (es : List Ed) (r : Int) (l : List Int) (x c : Int) : Prop := ∀ S : List Int → Int → Int → Prop, S [r] r 0 → (∀ e ∈ es, ∀ l c, S l e.1 c → S (l ++ [e.2.1]) e.2.1 (c + e.2.2)) → S l x c
theorem Wl.refl (es : List Ed) (r : Int) : Wl es r [r] r 0 := fun _ h _ => h
theorem Wl.step {es : List Ed} {r c : Int} {l : List Int} {e : Ed} (k : Wl es r l e.1 c) (he : e ∈ es) : Wl es r (l ++ [e.2.1]) e.2.1 (c + e.2.2) := fun S h1 h2 => h2 e he l c (k S h1 h2)
theorem Wl.last {es : List Ed} {r x c : Int} {l : List Int} (k : Wl es r l x c) : (l = [r] ∧ x = r ∧ c = 0) ∨ ∃ e ∈ es, ∃ l' c', Wl es r l' e.1 c' ∧ l = l' ++ [e.2.1] ∧ x = e.2.1 ∧ c = c' + e.2.2 :=
  (k (fun l x c => Wl es r l x c ∧ ((l = [r] ∧ x = r ∧ c = 0) ∨ ∃ e ∈ es, ∃ l' c', Wl es r l' e.1 c' ∧ l = l' ++ [e.2.1] ∧ x = e.2.1 ∧ c = c' + e.2.2)) ⟨Wl.refl _ _, .inl ⟨rfl, rfl, rfl⟩⟩ (fun e he l c h => ⟨h.1.step he, .inr ⟨e, he, l, c, h.1, rfl, rfl, rfl⟩⟩)).2
theorem cE_mem {ns : List Int} : ∀ (es : List Ed) (last : Ed), edgesOk ns last es = true → (∀ e ∈ es, (1 ≤ e.1 ∧ e.1 ≤ 24) ∧ 1 ≤ e.2.1 ∧ e.2.1 ≤ 24) → ∀ e ∈ es, cE es e.1.toNat e.2.1.toNat = e.2.2 := by
  intro es last hE hb
  have hr := (edgesOk_rise es last hE).2
  have key : ∀ (k : Nat) (fs : List Ed), fs.length = k → (fs.Pairwise fun a b => risesE a b = true) → (∀ e ∈ fs, (1 ≤ e.1 ∧ e.1 ≤ 24) ∧ 1 ≤ e.2.1 ∧ e.2.1 ≤ 24) → ∀ e ∈ fs, cE fs e.1.toNat e.2.1.toNat = e.2.2 := by
    intro k
    induction k with
    | zero => intro fs h _ _ e he; rw [List.length_eq_zero_iff.1 h] at he; simp at he
    | succ k ih =>
      intro fs h hp hb e he
      obtain ⟨U, f, rfl⟩ : ∃ U f, fs = U ++ [f] := by
        rcases List.eq_nil_or_concat fs with h' | ⟨U, f, h'⟩
        · rw [h'] at h; simp at h
        · exact ⟨U, f, by simpa using h'⟩
      rw [List.pairwise_append] at hp
      rw [cE_snoc]
      unfold put2
      have hf := hb f (by simp)
      have hee := hb e he
      rcases List.mem_append.1 he with h1 | h1
      · have h2 := hp.2.2 e h1 f (by simp)
        have hne : ¬ (e.1.toNat = f.1.toNat ∧ e.2.1.toNat = f.2.1.toNat) := by
          rintro ⟨q1, q2⟩
          have : e.1 = f.1 := by omega
          have : e.2.1 = f.2.1 := by omega
          simp [risesE, *] at h2
        rw [if_neg hne]
        exact ih U (by simpa using h) hp.1 (fun x hx => hb x (by simp [hx])) e h1
      · rw [List.mem_singleton.1 h1, if_pos ⟨rfl, rfl⟩]
  exact key _ es rfl hr hb
theorem graphOk_cE {ns : List Int} {es : List Ed} (h : graphOk ns es = true) {e : Ed} (he : e ∈ es) : cE es e.1.toNat e.2.1.toNat = e.2.2 := by
  have hbd := graphOk_bd h
  have h' := h
  unfold graphOk at h'
  simp only [Bool.and_eq_true] at h'
  exact cE_mem es _ h'.2.2 (fun e he => ⟨hbd.1 _ (hbd.2.1 e he).1, hbd.1 _ (hbd.2.1 e he).2⟩) e he
theorem wayR_snoc (C : Nat → Nat → Int) {v : Int} {y b : Int} (hv : C y.toNat b.toNat = v) (h0 : v ≠ 0) : ∀ (t : List Int) (s a s' : Int), wayR C s a t = some s' → (a :: t).getLast? = some y → wayR C s a (t ++ [b]) = some (s' + v)
  | [], s, a, s', h, hy => by
    simp at hy
    subst hy
    simp [wayR] at h
    subst h
    show (if C a.toNat b.toNat = 0 then none else wayR C (s + C a.toNat b.toNat) b []) = _
    rw [hv, if_neg h0]
    rfl
  | c :: t, s, a, s', h, hy => by
    have hy' : (c :: t).getLast? = some y := by simpa [List.getLast?_cons_cons] using hy
    simp only [wayR] at h
    by_cases hc : C a.toNat c.toNat = 0
    · rw [if_pos hc] at h; cases h
    · rw [if_neg hc] at h
      show (if C a.toNat c.toNat = 0 then none else wayR C (s + C a.toNat c.toNat) c (t ++ [b])) = _
      rw [if_neg hc]
      exact wayR_snoc C hv h0 t _ _ _ h hy'
/-- What is known of a way. -/
structure WlOk (ns : List Int) (es : List Ed) (r : Int) (l : List Int) (x c : Int) : Prop where
  wy : Wy es r x c (l.length - 1)
  pos : 0 < l.length
  last : l.getLast? = some x
  nodes : ∀ y ∈ l, y ∈ ns
  head : ∃ t, l = r :: t ∧ wayR (cE es) 0 r t = some c ∧ ((t = [] ∧ x = r ∧ c = 0) ∨ ∃ n t', t = n :: t' ∧ Fs es r n x c)
theorem Wl.ok {ns : List Int} {es : List Ed} {r x c : Int} {l : List Int} (hok : graphOk ns es = true) (hr : r ∈ ns) (k : Wl es r l x c) : WlOk ns es r l x c := by
  have hbd := graphOk_bd hok
  have hp := graphOk_pos hok
  refine k (WlOk ns es r) ⟨Wy.refl _ _, by simp, rfl, by simpa using hr, [], rfl, rfl, .inl ⟨rfl, rfl, rfl⟩⟩ ?_
  intro e he l c h
  obtain ⟨t, rfl, ht, hh⟩ := h.head
  refine ⟨?_, by simp, by rw [List.getLast?_append]; rfl, ?_, t ++ [e.2.1], by simp, ?_, ?_⟩
  · have := h.wy.step he
    simpa using this
  · intro y hy
    rcases List.mem_append.1 hy with h1 | h1
    · exact h.nodes y h1
    · rw [List.mem_singleton.1 h1]; exact (hbd.2.1 e he).2
  · exact wayR_snoc _ (graphOk_cE hok he) (by have := (hp e he).1; omega) _ _ _ _ ht h.last
  · right
    rcases hh with ⟨rfl, h1, h2⟩ | ⟨n, t', rfl, f, hf, h1, h2, hq, hw⟩
    · exact ⟨e.2.1, [], rfl, e, he, h1, rfl, 0, by rw [h2, show (0 : Int) + e.2.2 - e.2.2 = 0 from by omega]; exact Wy.refl _ _⟩
    · exact ⟨n, t' ++ [e.2.1], rfl, f, hf, h1, h2, hq + 1, by rw [show c + e.2.2 - f.2.2 = c - f.2.2 + e.2.2 from by omega]; exact hw.step he⟩
theorem Wl.uniq {ns : List Int} {es : List Ed} {r x c y d : Int} {l : List Int} (hok : graphOk ns es = true) (hr : r ∈ ns) (k : Wl es r l x c) (k' : Wl es r l y d) : x = y ∧ c = d := by
  have h1 := k.ok hok hr
  have h2 := k'.ok hok hr
  obtain ⟨t, e1, e2, _⟩ := h1.head
  obtain ⟨t', e1', e2', _⟩ := h2.head
  rw [e1] at e1'
  simp at e1'
  subst e1'
  rw [e2] at e2'
  have h3 := h1.last
  rw [h2.last] at h3
  exact ⟨by simpa using h3.symm, by simpa using e2'⟩
theorem Wl.longer {ns : List Int} {es : List Ed} {r y c : Int} {m : List Int} (hok : graphOk ns es = true) (hr : r ∈ ns) (k : Wl es r m y c) : ∀ l t x d, m = l ++ t → Wl es r l x d → t ≠ [] → d < c := by
  have hp := graphOk_pos hok
  refine (k (fun m y c => Wl es r m y c ∧ ∀ l t x d, m = l ++ t → Wl es r l x d → t ≠ [] → d < c) ⟨Wl.refl _ _, ?_⟩ ?_).2
  · intro l t x d he hl ht
    have h1 := (hl.ok hok hr).pos
    have h2 := congrArg List.length he
    rw [List.length_append] at h2
    have h3 : 0 < t.length := List.length_pos_iff.2 ht
    simp at h2
    omega
  · rintro e he m c ⟨hm, h⟩
    refine ⟨hm.step he, fun l t x d hlt hl ht => ?_⟩
    rcases List.eq_nil_or_concat t with h' | ⟨t', b, h'⟩
    · exact absurd h' ht
    · have h'' : t = t' ++ [b] := by simpa using h'
      subst h''
      rw [← List.append_assoc] at hlt
      have h1 := List.append_inj' hlt rfl
      have h2 := (hp e he).1
      by_cases h3 : t' = []
      · subst h3
        rw [List.append_nil] at h1
        rw [← h1.1] at hl
        have h4 := (hm.uniq hok hr hl).2
        omega
      · have := h l t' x d h1.1 hl h3
        omega
theorem cmpL_self : ∀ l : List Int, cmpL l l = 0
  | [] => rfl
  | a :: l => by
    show (if a < a then (-1 : Int) else if a < a then 1 else cmpL l l) = 0
    rw [if_neg (by omega), if_neg (by omega)]
    exact cmpL_self l
theorem cmpL_neg : ∀ l m : List Int, cmpL m l = - cmpL l m
  | [], [] => rfl
  | [], _ :: _ => rfl
  | _ :: _, [] => rfl
  | a :: l, b :: m => by
    have ih := cmpL_neg l m
    simp only [cmpL]
    by_cases h1 : a < b
    · rw [if_neg (by omega), if_pos h1, if_pos h1]; rfl
    · by_cases h2 : b < a
      · rw [if_pos h2, if_neg h1, if_pos h2]
      · rw [if_neg h2, if_neg h1, if_neg h1, if_neg h2]; exact ih
theorem cmpL_trans : ∀ a b c : List Int, cmpL a b ≤ 0 → cmpL b c ≤ 0 → cmpL a c ≤ 0
  | [], _, [], _, _ => by simp [cmpL]
  | [], _, _ :: _, _, _ => by simp [cmpL]
  | _ :: _, [], _, h, _ => by simp [cmpL] at h
  | _ :: _, _ :: _, [], _, h => by simp [cmpL] at h
  | a :: l, b :: m, c :: n, h, k => by
    have ih := cmpL_trans l m n
    simp only [cmpL] at h k ⊢
    by_cases h1 : a < b
    · by_cases k1 : b < c
      · rw [if_pos (by omega)]; omega
      · by_cases k2 : c < b
        · rw [if_neg k1, if_pos k2] at k; omega
        · rw [if_pos (by omega)]; omega
    · by_cases h2 : b < a
      · rw [if_neg h1, if_pos h2] at h; omega
      · rw [if_neg h1, if_neg h2] at h
        have hab : a = b := by omega
        subst hab
        by_cases k1 : a < c
        · rw [if_pos k1]; omega
        · by_cases k2 : c < a
          · rw [if_neg k1, if_pos k2] at k; omega
          · rw [if_neg k1, if_neg k2] at k ⊢
            exact ih h k
theorem cmpL_snoc (z : List Int) : ∀ l m : List Int, cmpL l m ≤ 0 → (∀ t, m = l ++ t → t = []) → cmpL (l ++ z) (m ++ z) ≤ 0
  | [], m, _, hp => by
    have := hp m rfl
    subst this
    rw [cmpL_self]
    exact Int.le_refl _
  | _ :: _, [], h, _ => by simp [cmpL] at h
  | a :: l, b :: m, h, hp => by
    simp only [cmpL, List.cons_append] at h ⊢
    by_cases h1 : a < b
    · rw [if_pos h1]; omega
    · by_cases h2 : b < a
      · rw [if_neg h1, if_pos h2] at h; omega
      · rw [if_neg h1, if_neg h2] at h ⊢
        have hab : a = b := by omega
        subst hab
        exact cmpL_snoc z l m h (fun t ht => hp t (by rw [ht]; rfl))
/-- One edge more, at its end. -/
def fstG (acc was : Option (List Int)) (e : Ed) : Option (List Int) :=
  match acc with
  | none => some (was.getD [] ++ [e.2.1])
  | some l => if cmpL (was.getD [] ++ [e.2.1]) l < 0 then some (was.getD [] ++ [e.2.1]) else some l
theorem putV_id {β : Type} (f : Nat → β) (n : Nat) : putV f n (f n) = f := by
  funext i
  unfold putV
  split
  · rename_i h; rw [h]
  · rfl
theorem fstE_step : fstE = stepG fstG := by
  funext f e
  unfold fstE stepG fstG wayE
  cases h : f e.2.1.toNat with
  | none => rfl
  | some l =>
    simp only
    by_cases hc : cmpL ((f e.1.toNat).getD [] ++ [e.2.1]) l < 0
    · rw [if_pos hc, if_pos hc]
    · rw [if_neg hc, if_neg hc, ← h, putV_id]
theorem fold_min (F : Nat → Option (List Int)) : ∀ (L : List Ed) (acc : Option (List Int)), (L ≠ [] ∨ ∃ l, acc = some l) →
    ∃ m, L.foldl (fun acc e => fstG acc (F e.1.toNat) e) acc = some m ∧ (acc = some m ∨ ∃ e ∈ L, m = (F e.1.toNat).getD [] ++ [e.2.1]) ∧ (∀ e ∈ L, cmpL m ((F e.1.toNat).getD [] ++ [e.2.1]) ≤ 0) ∧ ∀ l, acc = some l → cmpL m l ≤ 0
  | [], acc, h => by
    rcases h with h | ⟨l, rfl⟩
    · exact absurd rfl h
    · exact ⟨l, rfl, .inl rfl, by simp, fun m hm => by cases hm; rw [cmpL_self]; exact Int.le_refl _⟩
  | e :: L, acc, _ => by
    obtain ⟨a, ha, hcase⟩ : ∃ a, fstG acc (F e.1.toNat) e = some a ∧ ((acc = some a ∧ cmpL a ((F e.1.toNat).getD [] ++ [e.2.1]) ≤ 0) ∨ (a = (F e.1.toNat).getD [] ++ [e.2.1] ∧ ∀ l, acc = some l → cmpL a l ≤ 0)) := by
      cases acc with
      | none => exact ⟨_, rfl, .inr ⟨rfl, fun l hl => by cases hl⟩⟩
      | some l =>
        by_cases hc : cmpL ((F e.1.toNat).getD [] ++ [e.2.1]) l < 0
        · exact ⟨_, by simp only [fstG]; rw [if_pos hc], .inr ⟨rfl, fun m hm => by cases hm; omega⟩⟩
        · exact ⟨l, by simp only [fstG]; rw [if_neg hc], .inl ⟨rfl, by rw [cmpL_neg]; omega⟩⟩
    obtain ⟨m, h1, h2, h3, h4⟩ := fold_min F L (some a) (.inr ⟨a, rfl⟩)
    have hma := h4 a rfl
    refine ⟨m, by rw [List.foldl_cons, ha]; exact h1, ?_, ?_, ?_⟩
    · rcases h2 with h2 | ⟨f, hf, h2⟩
      · cases h2
        rcases hcase with ⟨h5, _⟩ | ⟨h5, _⟩
        · exact .inl h5
        · exact .inr ⟨e, by simp, h5⟩
      · exact .inr ⟨f, by simp [hf], h2⟩
    · intro f hf
      rcases List.mem_cons.1 hf with rfl | hf
      · rcases hcase with ⟨_, h5⟩ | ⟨h5, _⟩
        · exact cmpL_trans _ _ _ hma h5
        · rw [← h5]; exact hma
      · exact h3 f hf
    · intro l hl
      rcases hcase with ⟨h5, _⟩ | ⟨_, h5⟩
      · rw [h5] at hl; cases hl; exact hma
      · exact cmpL_trans _ _ _ hma (h5 l hl)
/-- What First tells of a node. -/
theorem fst_right {ns : List Int} {es : List Ed} {r : Int} {P : List (Int × Int)} (hok : graphOk ns es = true) (hr : r ∈ ns) (h : IsNear es r P) (hn : NdOk P) :
    ∀ (n : Nat) (x d : Int), d.toNat = n → x ∈ ns → Ds es r x d → ∃ l, fstT r (told es P P) x.toNat = some l ∧ Wl es r l x d ∧ ∀ m, Wl es r m x d → cmpL l m ≤ 0 := by
  have hp := graphOk_pos hok
  have hbd := graphOk_bd hok
  have h0 : ∀ n ∈ P, 0 ≤ n.1 := fun n h1 => by have := (hn.2 n h1).1; omega
  have hr2 := hbd.1 r hr
  have hF : ∀ y, (told es P P).foldl (stepG fstG) (putV (fun _ => none) r.toNat (some [r])) y = fstT r (told es P P) y := fun y => by unfold fstT; rw [fstE_step]
  have hinto : ∀ x, x ∈ ns → ∀ e, e ∈ (told es P P).filter (fun e => decide (e.2.1.toNat = x.toNat)) ↔ Into es r x e := fun x hx e => by
    have h2 := hbd.1 x hx
    rw [List.mem_filter, h.told_iff h0, decide_eq_true_eq]
    constructor
    · rintro ⟨⟨h1, d, hd1, hd2⟩, h3⟩
      have h4 := hbd.1 _ (hbd.2.1 e h1).2
      have h5 : e.2.1 = x := by omega
      exact ⟨h1, h5, d, hd1, by rw [← h5]; exact hd2⟩
    · rintro ⟨h1, h4, d, hd1, hd2⟩
      exact ⟨⟨h1, d, hd1, by rw [h4]; exact hd2⟩, by rw [h4]⟩
  intro n
  induction n using Nat.strongRecOn with
  | ind n ih =>
    intro x d hdn hx hd
    have hx2 := hbd.1 x hx
    have hfold := topo_fold fstG (putV (fun _ => none) r.toNat (some [r])) _ _ rfl (h.topo h0 hp) x.toNat
    have hfc : ∀ (L : List Ed) (a : Option (List Int)), L.foldl (fun acc e => fstG acc ((told es P P).foldl (stepG fstG) (putV (fun _ => none) r.toNat (some [r])) e.1.toNat) e) a = L.foldl (fun acc e => fstG acc (fstT r (told es P P) e.1.toNat) e) a := fun L a => by
      congr
      funext acc e
      rw [hF]
    rw [hF, hfc] at hfold
    rw [hfold]
    by_cases hxr : x = r
    · subst hxr
      have hd0 : d = 0 := hd.uniq (ds_root hp)
      subst hd0
      have hnil : (told es P P).filter (fun e => decide (e.2.1.toNat = x.toNat)) = [] := by
        apply List.eq_nil_iff_forall_not_mem.2
        intro e he
        exact into_root hp ((hinto x hx e).1 he)
      rw [hnil]
      refine ⟨[x], by show putV _ _ _ _ = _; rw [putV_same], Wl.refl _ _, fun m hm => ?_⟩
      have h1 := (hm.ok hok hr)
      have h2 := (h1.wy.pos hp).1
      have h3 : m.length = 1 := by have := h1.pos; omega
      obtain ⟨t, rfl, _⟩ := h1.head
      simp at h3
      subst h3
      rw [cmpL_self]
      exact Int.le_refl _
    · have hinit : putV (fun _ => none) r.toNat (some [r]) x.toNat = none := putV_other _ _ (by omega)
      rw [hinit]
      have hstep : ∀ e, Into es r x e → ∃ le c, Ds es r e.1 c ∧ d = c + e.2.2 ∧ fstT r (told es P P) e.1.toNat = some le ∧ Wl es r le e.1 c ∧ ∀ m, Wl es r m e.1 c → cmpL le m ≤ 0 := fun e hi => by
        obtain ⟨h1, h2, c, hc, hc2⟩ := hi
        have h3 := hd.uniq hc2
        have h4 := (hp e h1).1
        have h5 := hc.nonneg hp
        obtain ⟨le, hle⟩ := ih c.toNat (by omega) e.1 c rfl (hbd.2.1 e h1).1 hc
        exact ⟨le, c, hc, h3, hle⟩
      obtain ⟨hh, hw⟩ := hd.1
      have hne : (told es P P).filter (fun e => decide (e.2.1.toNat = x.toNat)) ≠ [] := by
        rcases hw.last with ⟨h1, _⟩ | ⟨e, he, c', h', hw', h1, h2, _⟩
        · exact absurd h1 hxr
        · intro hnil
          have := (hinto x hx e).2 (into_last hd he hw' h1 h2).1
          rw [hnil] at this
          simp at this
      obtain ⟨l, h1, h2, h3, _⟩ := fold_min (fstT r (told es P P)) _ none (.inl hne)
      refine ⟨l, h1, ?_, fun m hm => ?_⟩
      · rcases h2 with h2 | ⟨e, he, h2⟩
        · cases h2
        · have hi := (hinto x hx e).1 he
          obtain ⟨le, c, hc, hdc, hfe, hwl, _⟩ := hstep e hi
          rw [h2, hfe, hdc]
          have := hwl.step hi.1
          rw [hi.2.1] at this
          rw [hi.2.1]
          exact this
      · rcases hm.last with ⟨_, h5, _⟩ | ⟨e, he, m', c', hm', hml, h5, h6⟩
        · exact absurd h5 hxr
        · obtain ⟨hi, hc'⟩ := into_last hd he (hm'.ok hok hr).wy h5 h6
          obtain ⟨le, c, hc, hdc, hfe, hwl, hmin⟩ := hstep e hi
          have hcc := hc.uniq hc'
          subst hcc
          have h7 := h3 e ((hinto x hx e).2 hi)
          rw [hfe] at h7
          rw [hml]
          refine cmpL_trans _ _ _ h7 (cmpL_snoc [e.2.1] le m' (hmin m' hm') (fun t ht => Classical.byContradiction fun hne => ?_))
          have := hm'.longer hok hr le t _ _ ht hwl hne
          omega
theorem fst_none {ns : List Int} {es : List Ed} {r : Int} {P : List (Int × Int)} (hok : graphOk ns es = true) (hr : r ∈ ns) (h : IsNear es r P) (hn : NdOk P) {x : Int} (hx : x ∈ ns) (hno : ∀ d, ¬ Ds es r x d) : fstT r (told es P P) x.toNat = none := by
  have hp := graphOk_pos hok
  have hbd := graphOk_bd hok
  have h0 : ∀ n ∈ P, 0 ≤ n.1 := fun n h1 => by have := (hn.2 n h1).1; omega
  have hr2 := hbd.1 r hr
  have hx2 := hbd.1 x hx
  have hfold := topo_fold fstG (putV (fun _ => none) r.toNat (some [r])) _ _ rfl (h.topo h0 hp) x.toNat
  have hF : ∀ y, (told es P P).foldl (stepG fstG) (putV (fun _ => none) r.toNat (some [r])) y = fstT r (told es P P) y := fun y => by unfold fstT; rw [fstE_step]
  rw [hF] at hfold
  rw [hfold]
  have hnil : (told es P P).filter (fun e => decide (e.2.1.toNat = x.toNat)) = [] := by
    apply List.eq_nil_iff_forall_not_mem.2
    intro e he
    rw [List.mem_filter, h.told_iff h0, decide_eq_true_eq] at he
    obtain ⟨⟨h1, d, hd1, hd2⟩, h3⟩ := he
    have h4 := hbd.1 _ (hbd.2.1 e h1).2
    have h5 : e.2.1 = x := by omega
    rw [h5] at hd2
    exact hno _ hd2
  rw [hnil]
  show putV _ _ _ _ = _
  refine putV_other _ _ (fun e => hno 0 ?_)
  have : x = r := by omega
  rw [this]
  exact ds_root hp
end Go.Proofs.Ytgjnljcphcmmeaa
namespace Go.Proofs.Ytgjnljcphcmmeaa

theorem nodesOk_of : ∀ (l : List Nat) (last : Int), l.Pairwise (· < ·) → (∀ x ∈ l, 1 ≤ x ∧ x ≤ 24 ∧ last < (x : Int)) → nodesOk last (l.map fun (i : Nat) => (i : Int)) = true
  | [], _, _, _ => rfl
  | x :: l, last, hp, hb => by
    have h1 := hb x (by simp)
    have h2 := List.pairwise_cons.1 hp
    simp only [List.map_cons, nodesOk, Bool.and_eq_true, decide_eq_true_eq, isR_iff]
    refine ⟨⟨by omega, by omega⟩, h1.2.2, nodesOk_of l x h2.2 fun y hy => ?_⟩
    have := hb y (by simp [hy])
    have := h2.1 y hy
    omega
theorem edgesOk_of {ns : List Int} : ∀ (es : List Ed) (last : Ed), es.Pairwise (fun a b => risesE a b = true) → (∀ e ∈ es, hasN ns e.1 = true ∧ hasN ns e.2.1 = true ∧ e.1 ≠ e.2.1 ∧ isC e.2.2 = true ∧ risesE last e = true) → edgesOk ns last es = true
  | [], _, _, _ => rfl
  | x :: es, last, hp, hb => by
    have h1 := hb x (by simp)
    have h2 := List.pairwise_cons.1 hp
    simp only [edgesOk, edgeOk, Bool.and_eq_true, Bool.not_eq_true', decide_eq_false_iff_not]
    refine ⟨⟨h1.1, h1.2.1, h1.2.2.1, h1.2.2.2.1, h1.2.2.2.2⟩, edgesOk_of es x h2.2 fun y hy => ?_⟩
    have h3 := hb y (by simp [hy])
    exact ⟨h3.1, h3.2.1, h3.2.2.1, h3.2.2.2.1, h2.1 y hy⟩
theorem risesE_iff {a b : Ed} : risesE a b = true ↔ a.1 < b.1 ∨ (a.1 = b.1 ∧ a.2.1 < b.2.1) := by simp [risesE]
theorem rowE_pairwise (c : Nat → Nat → Int) (a : Nat) : (rowE c a (List.range 25)).Pairwise fun x y => risesE x y = true := by
  unfold rowE
  rw [List.pairwise_map]
  refine (List.pairwise_lt_range.filter _).imp fun {x y} h => ?_
  rw [risesE_iff]
  right
  simp
  omega
theorem laidE_pairwise (c : Nat → Nat → Int) : (laidE c).Pairwise fun x y => risesE x y = true := by
  unfold laidE
  rw [List.pairwise_flatMap]
  refine ⟨fun a _ => rowE_pairwise c a, List.pairwise_lt_range.imp fun {a b} h x hx y hy => ?_⟩
  rw [risesE_iff]
  left
  unfold rowE at hx hy
  obtain ⟨p, _, rfl⟩ := List.mem_map.1 hx
  obtain ⟨q, _, rfl⟩ := List.mem_map.1 hy
  simp
  omega
theorem count_tos : ∀ (l : List (Int × Int)) (p : List Nat), p.Nodup → (p.filter fun b => l.any fun x => decide (x.1.toNat = b)).length ≤ l.length
  | [], p, _ => by simp
  | x :: l, p, hp => by
    have h1 := count_tos l p hp
    have h2 : (p.filter fun b => (x :: l).any fun x => decide (x.1.toNat = b)).length ≤ (p.filter fun b => decide (x.1.toNat = b)).length + (p.filter fun b => l.any fun x => decide (x.1.toNat = b)).length := by
      clear h1 hp
      induction p with
      | nil => simp
      | cons b p ih =>
        simp only [List.filter_cons, List.any_cons]
        cases h3 : decide (x.1.toNat = b) <;> cases h4 : (l.any fun x => decide (x.1.toNat = b)) <;> simp at ih ⊢ <;> omega
    have h3 : (p.filter fun b => decide (x.1.toNat = b)).length ≤ 1 := by
      clear h1 h2
      induction p with
      | nil => simp
      | cons b p ih =>
        have hn := List.nodup_cons.1 hp
        by_cases hb : x.1.toNat = b
        · have : (p.filter fun b => decide (x.1.toNat = b)) = [] := by
            rw [List.filter_eq_nil_iff]
            intro y hy h
            simp at h
            exact hn.1 (by rw [← hb, h]; exact hy)
          simp [hb]
          rw [hb] at this
          simpa using this
        · simp [hb]
          exact ih hn.2
    simp only [List.length_cons]
    omega
theorem filter_len {α : Type} {p q : α → Bool} : ∀ (l : List α), (∀ x ∈ l, p x = true → q x = true) → (l.filter p).length ≤ (l.filter q).length
  | [], _ => by simp
  | x :: l, h => by
    have h1 := filter_len l fun y hy => h y (by simp [hy])
    have h2 := h x (by simp)
    simp only [List.filter_cons]
    cases hp : p x
    · cases hq : q x <;> simp <;> omega
    · rw [h2 hp]
      simp
      omega
theorem Unl.one : ∀ {rs : List Rc}, Unl rs → ∀ {a b : Rc}, a ∈ rs → b ∈ rs → a.origin.toNat = b.origin.toNat → a = b
  | [], _, _, _, h, _, _ => by simp at h
  | r :: rs, hu, a, b, ha, hb, e => by
    have hp := List.pairwise_cons.1 hu.2
    rcases List.mem_cons.1 ha with h1 | h1
    · rcases List.mem_cons.1 hb with h2 | h2
      · rw [h1, h2]
      · rw [h1] at e; exact absurd e (hp.1 b h2)
    · rcases List.mem_cons.1 hb with h2 | h2
      · rw [h2] at e; exact absurd e.symm (hp.1 a h1)
      · exact Unl.one (rs := rs) ⟨fun x hx => hu.1 x (by simp [hx]), hp.2⟩ h1 h2 e
theorem rowE_len16 {rs : List Rc} {c : Nat → Nat → Int} (hu : Unl rs) (hc : IsCost rs c) (a : Nat) : (rowE c a (List.range 25)).length ≤ 16 ∧ (a = 0 → rowE c a (List.range 25) = []) := by
  refine ⟨?_, fun h0 => ?_⟩
  · by_cases h : ∃ r ∈ rs, r.origin.toNat = a
    · obtain ⟨r, hr, rfl⟩ := h
      have h1 := (recOk_parts (hu.1 r hr)).2.1
      have h2 := count_tos r.adjs (List.range 25) List.nodup_range
      have h3 : (rowE c r.origin.toNat (List.range 25)).length ≤ ((List.range 25).filter fun b => r.adjs.any fun x => decide (x.1.toNat = b)).length := by
        unfold rowE
        rw [List.length_map]
        refine filter_len _ fun b _ hb => ?_
        simp only [Bool.and_eq_true, decide_eq_true_eq] at hb
        obtain ⟨r', hr', x, hx, h4, h5⟩ := hc.from' r.origin.toNat b (by omega)
        have : r' = r := hu.one hr' hr h4
        rw [List.any_eq_true]
        exact ⟨x, by rw [← this]; exact hx, by simpa using h5⟩
      omega
    · have : rowE c a (List.range 25) = [] := by
        unfold rowE
        rw [List.map_eq_nil_iff, List.filter_eq_nil_iff]
        intro b _ hb
        simp only [Bool.and_eq_true, decide_eq_true_eq] at hb
        obtain ⟨r, hr, _, _, h1, _⟩ := hc.from' a b (by omega)
        exact h ⟨r, hr, h1⟩
      rw [this]; simp
  · subst h0
    unfold rowE
    rw [List.map_eq_nil_iff, List.filter_eq_nil_iff]
    intro b _ hb
    simp only [Bool.and_eq_true, decide_eq_true_eq] at hb
    rcases isCost_pos hc hu 0 b with h | h <;> omega
theorem sum16 (c : Nat → Nat → Int) (h0 : rowE c 0 (List.range 25) = []) (h : ∀ a, (rowE c a (List.range 25)).length ≤ 16) : ∀ a, ((List.range (a + 1)).flatMap fun a => rowE c a (List.range 25)).length ≤ 16 * a
  | 0 => by simp [h0]
  | a + 1 => by
    have h1 := sum16 c h0 h a
    have h2 := h (a + 1)
    rw [show List.range (a + 1 + 1) = List.range (a + 1) ++ [a + 1] from List.range_succ, List.flatMap_append, List.length_append]
    simp only [List.flatMap_cons, List.flatMap_nil, List.append_nil]
    omega
/-- What Both answers may be. -/
theorem both_may {rs : List Rc} (hu : Unl rs) : graphOk (bothN rs) (bothE rs) = true := by
  have hc := isCost_of hu
  simp only [graphOk, Bool.and_eq_true, decide_eq_true_eq]
  refine ⟨?_, ?_, ?_⟩
  · refine nodesOk_of _ 0 (List.pairwise_lt_range.filter _) fun x hx => ?_
    obtain ⟨_, h2⟩ := List.mem_filter.1 hx
    rcases (thereL_iff rs no1 x).1 h2 with h | ⟨r, hr, rfl⟩
    · simp [no1] at h
    · have := (recOk_parts (hu.1 r hr)).1
      omega
  · exact sum16 _ ((rowE_len16 hu hc 0).2 rfl) (fun a => (rowE_len16 hu hc a).1) 24
  · refine edgesOk_of _ _ (laidE_pairwise _) fun e he => ?_
    obtain ⟨a, b, ha, hb, h1, h2, rfl⟩ := mem_laidE.1 he
    have k1 := isCost_pos hc hu a b
    have k2 := isCost_pos hc hu b a
    have k3 : 1 ≤ costL no2 rs a b ∧ costL no2 rs a b ≤ 1000 ∧ 1 ≤ a ∧ a ≤ 24 ∧ 1 ≤ b ∧ b ≤ 24 ∧ a ≠ b ∧ thereL no1 rs a = true := by
      rcases k1 with h | h
      · omega
      · exact h
    have k4 : thereL no1 rs b = true := by
      rcases k2 with h | h
      · omega
      · exact h.2.2.2.2.2.2.2
    refine ⟨hasN_iff.2 (mem_markedL.2 ⟨a, ha, k3.2.2.2.2.2.2.2, rfl⟩), hasN_iff.2 (mem_markedL.2 ⟨b, hb, k4, rfl⟩), by simp; omega, isC_iff.2 ⟨k3.1, k3.2.1⟩, risesE_iff.2 (.inl ?_)⟩
    simp
    omega
def cnt (f : Nat → Bool) : Nat := ((List.range 25).filter f).length
theorem cnt_unm (f : Nat → Bool) : cnt f + unm f = 25 := by
  unfold cnt unm
  have : ∀ l : List Nat, (l.filter f).length + (l.filter fun i => !f i).length = l.length := by
    intro l
    induction l with
    | nil => rfl
    | cons x l ih =>
      simp only [List.filter_cons]
      cases f x <;> simp <;> omega
  simpa using this (List.range 25)
theorem cnt_there : ∀ (rs : List Rc) (f : Nat → Bool), Unl rs → (∀ r ∈ rs, f r.origin.toNat = false) → cnt (thereL f rs) = cnt f + rs.length
  | [], _, _, _ => rfl
  | r :: rs, f, hu, hf => by
    have hp := List.pairwise_cons.1 hu.2
    have h1 := hf r (by simp)
    have h2 := (recOk_parts (hu.1 r (by simp))).1
    have h3 := cnt_there rs (mk1 f r.origin.toNat) ⟨fun x hx => hu.1 x (by simp [hx]), hp.2⟩ fun x hx => by
      cases h4 : mk1 f r.origin.toNat x.origin.toNat with
      | false => rfl
      | true =>
        rcases mk1_iff.1 h4 with h | h
        · exact absurd h.symm (hp.1 x hx)
        · rw [hf x (by simp [hx])] at h; cases h
    have h5 := unm_mk1 h1 (show r.origin.toNat < 25 by omega)
    have h6 := cnt_unm f
    have h7 := cnt_unm (mk1 f r.origin.toNat)
    show cnt (thereL (mk1 f r.origin.toNat) rs) = _
    rw [h3, List.length_cons]
    omega
theorem bothN_len {rs : List Rc} (hu : Unl rs) : (bothN rs).length = rs.length := by
  have h := cnt_there rs no1 hu fun _ _ => rfl
  have h0 : cnt no1 = 0 := rfl
  unfold bothN markedL
  rw [List.length_map]
  unfold cnt at h h0
  omega
/-- Has a graph an edge? -/
def hasE (es : List Ed) (a b : Int) : Bool := es.any fun e => decide (e.1 = a) && decide (e.2.1 = b)
theorem hasE_iff {es : List Ed} {a b : Int} : hasE es a b = true ↔ ∃ e ∈ es, e.1 = a ∧ e.2.1 = b := by
  unfold hasE
  rw [List.any_eq_true]
  constructor
  · rintro ⟨e, he, h⟩
    simp at h
    exact ⟨e, he, h⟩
  · rintro ⟨e, he, h⟩
    exact ⟨e, he, by simp [h]⟩
theorem both_back {rs : List Rc} {e : Ed} (h : e ∈ bothE rs) : hasE (bothE rs) e.2.1 e.1 = true := hasE_iff.2 (laidE_sym h)
/-- A part is that of each of its nodes. -/
theorem part_one {es : List Ed} (hs : ∀ e ∈ es, ∃ e' ∈ es, e'.1 = e.2.1 ∧ e'.2.1 = e.1) {x y : Int} {f g : Nat → Bool} (hf : IsPart es x f) (hy : y ∈ markedL f) (hg : IsPart es y g) : markedL g = markedL f := by
  obtain ⟨i, hi, hfi, rfl⟩ := mem_markedL.1 hy
  have h1 := hf.sound i hfi
  have h2 := h1.symm hs
  refine markedL_congr fun j hj => ?_
  have h3 : g j = true ↔ f j = true := ⟨fun h => hf.full j hj (h1.trans (hg.sound j h)), fun h => hg.full j hj (h2.trans (hf.sound j h))⟩
  cases h4 : g j <;> cases h5 : f j <;> simp [h4, h5] at h3 <;> rfl
theorem part_self {es : List Ed} {x : Int} {f : Nat → Bool} (hb : 1 ≤ x ∧ x ≤ 24) (hf : IsPart es x f) : x ∈ markedL f := by
  refine mem_markedL.2 ⟨x.toNat, by omega, hf.full _ (by omega) ?_, by omega⟩
  rw [Int.toNat_of_nonneg (by omega)]
  exact Rch.refl _ _
theorem part_mem {es : List Ed} {ns : List Int} {x y : Int} {f : Nat → Bool} (hx : x ∈ ns) (he : ∀ e ∈ es, e.1 ∈ ns ∧ e.2.1 ∈ ns) (hf : IsPart es x f) (hy : y ∈ markedL f) : y ∈ ns := by
  obtain ⟨i, hi, hfi, rfl⟩ := mem_markedL.1 hy
  exact (hf.sound i hfi).mem hx he
theorem markedL_len (f : Nat → Bool) : (markedL f).length ≤ 25 := by
  unfold markedL
  rw [List.length_map]
  have := List.length_filter_le f (List.range 25)
  simpa using this
end Go.Proofs.Ytgjnljcphcmmeaa
namespace Go.Proofs.Ytgjnljcphcmmeaa
open Go.RowKit

/-- The cells of a link. -/
abbrev lc3 (x : Ed) : List Value := [.int .u8 x.1, .int .u8 x.2.1, .int .u8 x.2.2]
/-- One link more in the table. -/
def tabL (n : Nat) (c : Nat → Int) (x : Ed) : Nat → Int :=
  if (x.1.toNat % n) ≠ (x.2.1.toNat % n) ∧ c (16 * (x.1.toNat % n) + x.2.1.toNat % n) = 0 then
    putV (putV c (16 * (x.1.toNat % n) + x.2.1.toNat % n) (1 + x.2.2 % 5)) (16 * (x.2.1.toNat % n) + x.1.toNat % n) (1 + x.2.2 % 5)
  else c
def tabT (n : Nat) (L : List Ed) : Nat → Int := L.foldl (tabL n) (fun _ => 0)
theorem tabT_snoc (n : Nat) (L : List Ed) (x : Ed) : tabT n (L ++ [x]) = tabL n (tabT n L) x := by simp [tabT, List.foldl_append]
structure TabOk (c : Nat → Int) : Prop where
  bd : ∀ i, 0 ≤ c i ∧ c i ≤ 5
  sy : ∀ a b, a < 16 → b < 16 → c (16 * a + b) = c (16 * b + a)
  di : ∀ a, a < 16 → c (16 * a + a) = 0
theorem tabL_ok {n : Nat} {c : Nat → Int} {x : Ed} (h : TabOk c) (h0 : 0 < n) (hn : n ≤ 16) : TabOk (tabL n c x) := by
  have ha := Nat.mod_lt x.1.toNat h0
  have hb := Nat.mod_lt x.2.1.toNat h0
  unfold tabL
  generalize x.1.toNat % n = a at *
  generalize x.2.1.toNat % n = b at *
  by_cases hc : a ≠ b ∧ c (16 * a + b) = 0
  · rw [if_pos hc]
    have hv : 0 ≤ 1 + x.2.2 % 5 ∧ 1 + x.2.2 % 5 ≤ 5 := by omega
    generalize 1 + x.2.2 % 5 = v at *
    refine ⟨fun i => ?_, fun p q hp hq => ?_, fun p hp => ?_⟩
    · unfold putV
      have := h.bd i
      split
      · exact hv
      · split
        · exact hv
        · exact this
    · have h1 := h.sy p q hp hq
      unfold putV
      by_cases e1 : p = a ∧ q = b
      · obtain ⟨rfl, rfl⟩ := e1
        simp
      · by_cases e2 : p = b ∧ q = a
        · obtain ⟨rfl, rfl⟩ := e2
          simp
        · rw [if_neg (by omega), if_neg (by omega), if_neg (by omega), if_neg (by omega)]
          exact h1
    · unfold putV
      rw [if_neg (by omega), if_neg (by omega)]
      exact h.di p hp
  · rw [if_neg hc]
    exact h
theorem tabT_ok {n : Nat} (h0 : 0 < n) (hn : n ≤ 16) (L : List Ed) : TabOk (tabT n L) := by
  have key : ∀ (L : List Ed) (c : Nat → Int), TabOk c → TabOk (L.foldl (tabL n) c) := by
    intro L
    induction L with
    | nil => intro c h; exact h
    | cons x L ih => intro c h; exact ih _ (tabL_ok h h0 hn)
  exact key L _ ⟨fun _ => by omega, fun _ _ _ _ => rfl, fun _ _ => rfl⟩
/-- A row's edges; all edges of m rows; the nodes. -/
def rwE (c : Nat → Int) (a m : Nat) : List Ed := ((List.range m).filter fun b => decide (0 < c (16 * a + b))).map fun b : Nat => ((a : Int) + 1, (b : Int) + 1, c (16 * a + b))
def tabE (c : Nat → Int) (n m : Nat) : List Ed := (List.range m).flatMap fun a => rwE c a n
def tabN (n : Nat) : List Int := (List.range n).map fun a : Nat => (a : Int) + 1
theorem rwE_succ (c : Nat → Int) (a m : Nat) : rwE c a (m + 1) = rwE c a m ++ (if 0 < c (16 * a + m) then [((a : Int) + 1, (m : Int) + 1, c (16 * a + m))] else []) := by
  unfold rwE
  rw [List.range_succ, List.filter_append, List.map_append]
  by_cases h : 0 < c (16 * a + m) <;> simp [h]
theorem tabE_succ (c : Nat → Int) (n m : Nat) : tabE c n (m + 1) = tabE c n m ++ rwE c m n := by simp [tabE, List.range_succ, List.flatMap_append]
theorem tabN_succ (n : Nat) : tabN (n + 1) = tabN n ++ [(n : Int) + 1] := by simp [tabN, List.range_succ]
theorem rwE_mem {c : Nat → Int} {a m : Nat} {e : Ed} : e ∈ rwE c a m ↔ ∃ b, b < m ∧ 0 < c (16 * a + b) ∧ e = ((a : Int) + 1, (b : Int) + 1, c (16 * a + b)) := by
  unfold rwE
  simp only [List.mem_map, List.mem_filter, List.mem_range, decide_eq_true_eq]
  constructor
  · rintro ⟨b, ⟨h1, h2⟩, rfl⟩; exact ⟨b, h1, h2, rfl⟩
  · rintro ⟨b, h1, h2, rfl⟩; exact ⟨b, ⟨h1, h2⟩, rfl⟩
theorem tabE_mem {c : Nat → Int} {n m : Nat} {e : Ed} : e ∈ tabE c n m ↔ ∃ a b, a < m ∧ b < n ∧ 0 < c (16 * a + b) ∧ e = ((a : Int) + 1, (b : Int) + 1, c (16 * a + b)) := by
  unfold tabE
  simp only [List.mem_flatMap, List.mem_range, rwE_mem]
  constructor
  · rintro ⟨a, h1, b, h2, h3, h4⟩; exact ⟨a, b, h1, h2, h3, h4⟩
  · rintro ⟨a, b, h1, h2, h3, h4⟩; exact ⟨a, h1, b, h2, h3, h4⟩
theorem rwE_len (c : Nat → Int) (a m : Nat) : (rwE c a m).length ≤ m := by
  unfold rwE
  rw [List.length_map]
  exact Nat.le_trans (List.length_filter_le _ _) (by simp)
theorem tabE_len (c : Nat → Int) (n : Nat) : ∀ m, (tabE c n m).length ≤ m * n
  | 0 => by simp [tabE]
  | m + 1 => by
    rw [tabE_succ, List.length_append, Nat.succ_mul]
    have h1 := tabE_len c n m
    have h2 := rwE_len c m n
    omega
theorem rwE_rise (c : Nat → Int) (a : Nat) : ∀ m, (rwE c a m).Pairwise fun x y => risesE x y = true
  | 0 => by simp [rwE]
  | m + 1 => by
    rw [rwE_succ, List.pairwise_append]
    refine ⟨rwE_rise c a m, by split <;> simp, fun x hx y hy => ?_⟩
    obtain ⟨b, h1, _, rfl⟩ := rwE_mem.1 hx
    split at hy
    · rw [List.mem_singleton.1 hy]
      simp [risesE]
      omega
    · simp at hy
theorem tabE_rise (c : Nat → Int) (n : Nat) : ∀ m, (tabE c n m).Pairwise fun x y => risesE x y = true
  | 0 => by simp [tabE]
  | m + 1 => by
    rw [tabE_succ, List.pairwise_append]
    refine ⟨tabE_rise c n m, rwE_rise c m n, fun x hx y hy => ?_⟩
    obtain ⟨a, b, h1, _, _, rfl⟩ := tabE_mem.1 hx
    obtain ⟨b', _, _, rfl⟩ := rwE_mem.1 hy
    simp [risesE]
    omega
theorem tabN_mem {n : Nat} {x : Int} : x ∈ tabN n ↔ 1 ≤ x ∧ x ≤ n := by
  unfold tabN
  simp only [List.mem_map, List.mem_range]
  constructor
  · rintro ⟨a, h, rfl⟩; omega
  · intro h; exact ⟨(x - 1).toNat, by omega, by omega⟩
theorem tabN_ok (n : Nat) (hn : n ≤ 7) : nodesOk 0 (tabN n) = true := by
  have : n = 0 ∨ n = 1 ∨ n = 2 ∨ n = 3 ∨ n = 4 ∨ n = 5 ∨ n = 6 ∨ n = 7 := by omega
  rcases this with rfl | rfl | rfl | rfl | rfl | rfl | rfl | rfl <;> rfl
theorem tab_ok {c : Nat → Int} (h : TabOk c) {n : Nat} (hn : n ≤ 7) : graphOk (tabN n) (tabE c n n) = true := by
  unfold graphOk
  have hl := tabE_len c n n
  have hm : n * n ≤ 7 * 7 := Nat.mul_le_mul hn hn
  rw [tabN_ok n hn, Bool.true_and, Bool.and_eq_true, decide_eq_true_eq]
  refine ⟨by omega, edgesOk_of _ _ (tabE_rise c n n) fun e he => ?_⟩
  obtain ⟨a, b, h1, h2, h3, rfl⟩ := tabE_mem.1 he
  have h4 := h.bd (16 * a + b)
  refine ⟨hasN_iff.2 (tabN_mem.2 (by show 1 ≤ (a : Int) + 1 ∧ (a : Int) + 1 ≤ n; omega)), hasN_iff.2 (tabN_mem.2 (by show 1 ≤ (b : Int) + 1 ∧ (b : Int) + 1 ≤ n; omega)), ?_, isC_iff.2 (by show 1 ≤ c (16 * a + b) ∧ c (16 * a + b) ≤ 1000; omega), ?_⟩
  · show (a : Int) + 1 ≠ (b : Int) + 1
    intro e
    have hab : a = b := by omega
    subst hab
    have := h.di a (by omega)
    omega
  · simp [risesE]
/-- All edges go both ways at one cost. -/
theorem tab_turn {c : Nat → Int} (h : TabOk c) {n : Nat} (hn : n ≤ 7) {e : Ed} (he : e ∈ tabE c n n) : (e.2.1, e.1, e.2.2) ∈ tabE c n n := by
  obtain ⟨a, b, h1, h2, h3, rfl⟩ := tabE_mem.1 he
  have h4 := h.sy a b (by omega) (by omega)
  exact tabE_mem.2 ⟨b, a, h2, h1, by rw [← h4]; exact h3, by rw [h4]⟩
end Go.Proofs.Ytgjnljcphcmmeaa
namespace Go.Proofs.Ytgjnljcphcmmeaa
open Go.RowKit

def tcl (c : Nat → Int) : List Value := (List.range 256).map fun i => .int .i64 (c i)
theorem tcl_len (c : Nat → Int) : (tcl c).length = 256 := by simp [tcl]
theorem tcl_get (c : Nat → Int) {n : Nat} (h : n < 256) : (tcl c)[n]? = some (.int .i64 (c n)) := by simp [tcl, List.getElem?_range h]
theorem tcl_set (c : Nat → Int) {n : Nat} (_h : n < 256) (v : Int) : (tcl c).set n (.int .i64 v) = tcl (putV c n v) := by
  apply List.ext_getElem?
  intro j
  rw [List.getElem?_set]
  by_cases hj : j < 256
  · rw [tcl_get _ hj, tcl_get _ hj, tcl_len]
    unfold putV
    by_cases hn : n = j
    · rw [if_pos hn, if_pos (by omega), if_pos hn.symm]
    · rw [if_neg hn, if_neg (fun h => hn h.symm)]
  · rw [List.getElem?_eq_none (by rw [tcl_len]; omega), List.getElem?_eq_none (by rw [tcl_len]; omega), tcl_len]
    by_cases hn : n = j
    · omega
    · rw [if_neg hn]
end Go.Proofs.Ytgjnljcphcmmeaa
namespace Go.Proofs.Ytgjnljcphcmmeaa
open Go.RowKit

theorem SlAt.lks {w : World} {v : Value} {l : List Ed} (h : SlAt lc3 3 w v l) : ∃ a cap, v = .slice a l.length cap ∧ l.length ≤ 9223372036854775807 ∧ l.length ≤ cap ∧ (0 < l.length → ∃ bk o, a = some ⟨bk, o, none⟩ ∧ bk < w.heap.size ∧ ∀ j x, l[j]? = some x → w.cell? ⟨bk, o + j * 3, none⟩ = some (.int .u8 x.1) ∧ w.cell? ⟨bk, o + j * 3 + 1, none⟩ = some (.int .u8 x.2.1) ∧ w.cell? ⟨bk, o + j * 3 + 2, none⟩ = some (.int .u8 x.2.2)) := by
  obtain ⟨a, cap, rfl, hl, hc, h⟩ := h
  refine ⟨a, cap, rfl, hl, hc, fun h0 => ?_⟩
  obtain ⟨bk, o, rfl, hb, h⟩ := h h0
  exact ⟨bk, o, rfl, hb, fun j x hx => ⟨h j x hx 0 _ rfl, h j x hx 1 _ rfl, h j x hx 2 _ rfl⟩⟩
theorem make_tab (w : World) : (Instr.makeSlice 22 (.int .i64 256) (.int .i64 256)).run Try.prog w = .ok (.slice (some ⟨w.heap.size, 0, none⟩) 256 256) (w.alloc (.cells (tcl fun _ => 0).toArray 3)) := by kernel_rfl
/-- A graph in new memory. -/
structure GrOwn (base : Nat) (w : World) (a b : Value) (N : List Int) (E : List Ed) : Prop where
  n : w.ownsRow base 3 1 a N.length (fl ic N)
  e : w.ownsRow base 54 3 b E.length (fl ec E)
theorem GrOwn.at {base : Nat} {w : World} {a b : Value} {N : List Int} {E : List Ed} (h : GrOwn base w a b N E) : GrAt w a b N E := ⟨slAt_of_row (cs := ic) (fun _ => rfl) h.n rfl, slAt_of_row (cs := ec) (fun _ => rfl) h.e rfl⟩
theorem GrOwn.low {base base' : Nat} {w : World} {a b : Value} {N : List Int} {E : List Ed} (h : GrOwn base w a b N E) (hb : base' ≤ base) : GrOwn base' w a b N E := ⟨row_low h.n hb, row_low h.e hb⟩
theorem GrOwn.fr {base : Nat} {w w' : World} {S : Nat → Prop} {a b : Value} {N : List Int} {E : List Ed} (h : GrOwn base w a b N E) (hF : Fr S w w') (hS : ∀ k, S k → k < base) : GrOwn base w' a b N E :=
  ⟨row_fr h.n hF (fun j hj e => by have := (h.n.lt j hj).1; have := hS j e; omega), row_fr h.e hF (fun j hj e => by have := (h.e.lt j hj).1; have := hS j e; omega)⟩
/-- Links of small numbers. -/
def LkB (L : List Ed) : Prop := ∀ x ∈ L, (0 ≤ x.1 ∧ x.1 ≤ 255) ∧ (0 ≤ x.2.1 ∧ x.2.1 ≤ 255) ∧ 0 ≤ x.2.2 ∧ x.2.2 ≤ 255
/-- The law's blocks ahead of its graph: the answer's, the table. -/
structure TbM (w wr : World) (c : Nat → Int) : Prop where
  r : wr.heap[w.heap.size]? = some nilG
  t : Arr wr (w.heap.size + 1) 3 (tcl c)
  b : Below w.heap.size w wr
theorem TbM.drewN {w wr : World} {c : Nat → Int} (h : TbM w wr c) (n : Nat) : TbM w (wr.drewN n) c := ⟨h.r, h.t, ⟨h.b.os, h.b.tape, h.b.output, h.b.size, h.b.block⟩⟩
theorem TbM.put {w wr : World} {c : Nat → Int} (h : TbM w wr c) {i : Nat} (hi : i < 256) (v : Int) : TbM w (wr.setCell ⟨w.heap.size + 1, i, none⟩ (.int .i64 v)) (putV c i v) :=
  ⟨(Below.heap_setCell _ _ _ _ (by show w.heap.size ≠ w.heap.size + 1; omega)).trans h.r, by rw [← tcl_set c hi]; exact h.t.set i _, h.b.setCell (p := ⟨w.heap.size + 1, i, none⟩) (Nat.le_succ _) _⟩
/-- The law's graph in its block, so far. -/
structure LgM (w wr : World) (gb : Nat) (c : Nat → Int) (u v : Value) (N : List Int) (E : List Ed) : Prop where
  g : wr.heap[gb]? = some (.cells #[u, v] 25)
  n : wr.ownsRow (gb + 1) 3 1 u N.length (fl ic N)
  e : wr.ownsRow (gb + 1) 54 3 v E.length (fl ec E)
  d : ∀ j, u.ownBlock = some j → v.ownBlock ≠ some j
  r : wr.heap[w.heap.size]? = some nilG
  t : Arr wr (w.heap.size + 1) 3 (tcl c)
  b : Below w.heap.size w wr
  l : w.heap.size + 1 < gb
  s : gb < wr.heap.size
theorem tabN_len (n : Nat) : (tabN n).length = n := by simp [tabN]
theorem ownBlock_lt {W : World} {base k sz : Nat} {e : TypeId} {v : Value} {xs : List Value} (h : W.ownsRow base e sz v k xs) {j : Nat} (hj : v.ownBlock = some j) : j < W.heap.size := by
  rcases h.2 with ⟨rfl, _⟩ | ⟨g, cap, cur, rfl, _, hh, _⟩
  · simp [Value.ownBlock] at hj
  · simp [Value.ownBlock] at hj
    subst hj
    exact block_lt hh
theorem LgM.drew {w wr : World} {gb : Nat} {c : Nat → Int} {u v : Value} {N : List Int} {E : List Ed} (h : LgM w wr gb c u v N E) : LgM w wr.drew gb c u v N E :=
  ⟨h.g, row_fr h.n (Fr.refl (fun _ => False) wr).drew (fun _ _ h => h), row_fr h.e (Fr.refl (fun _ => False) wr).drew (fun _ _ h => h), h.d, h.r, h.t, h.b.drew, h.l, h.s⟩
theorem LgM.addN {w wr : World} {gb : Nat} {c : Nat → Int} {u v : Value} {N : List Int} {E : List Ed} (h : LgM w wr gb c u v N E) (x : Int) (hl : N.length ≤ 1000) :
    ∃ g cap w6, (Builtin.append_ #[22, 22] 22 #[u, .slice (some ⟨wr.heap.size, 0, none⟩) 1 1]).run Try.prog (wr.alloc (.cells (ic x).toArray 3)) = .ok (.slice (some ⟨g, 0, none⟩) (N.length + 1) cap) w6 ∧
      w6.cell? ⟨gb, 0, none⟩ = some u ∧ w6.frozen? ⟨gb, 0, none⟩ = false ∧ LgM w (w6.setCell ⟨gb, 0, none⟩ (.slice (some ⟨g, 0, none⟩) (N.length + 1) cap)) gb c (.slice (some ⟨g, 0, none⟩) (N.length + 1) cap) v (N ++ [x]) E := by
  obtain ⟨g, cap, w6, hrun, hown, hlie, hgrow, hb⟩ := append_int h.n x (by omega) (by have := h.s; omega)
  have hg6 : w6.heap[gb]? = some (.cells #[u, v] 25) := (hb.block _ (Nat.lt_succ_self _)).trans h.g
  have hv6 : w6.ownsRow (gb + 1) 54 3 v E.length (fl ec E) := h.e.kept hgrow (by
    cases hv : v.ownBlock with
    | none => exact .inl rfl
    | some j => exact .inr (fun e => h.d j e.symm hv))
  have hF := (Fr.refl (fun k => k = gb) w6).set (p := ⟨gb, 0, none⟩) rfl (.slice (some ⟨g, 0, none⟩) (N.length + 1) cap)
  have hl' := h.l
  refine ⟨g, cap, w6, hrun, cell_of_row _ _ 0 _ _ _ hg6, frozen_new hg6 0, ?_, ?_, ?_, ?_, ?_, ?_, ?_, h.l, ?_⟩
  · have := heap_setCell_same w6 gb 0 _ _ (.slice (some ⟨g, 0, none⟩) (N.length + 1) cap) hg6
    simpa using this
  · rw [List.length_append]
    exact row_fr hown hF (fun j hj e => by have := (hown.lt j hj).1; omega)
  · exact row_fr hv6 hF (fun j hj e => by have := (hv6.lt j hj).1; omega)
  · intro j hj
    simp [Value.ownBlock] at hj
    subst hj
    rcases hlie with h1 | h1
    · exact h.d g h1
    · intro h2
      have := ownBlock_lt h.e h2
      omega
  · exact (hF.block _ (by have := hb.size; have := h.s; omega) (by omega)).trans ((hb.block _ (by omega)).trans h.r)
  · exact (h.t.keep hb (by omega)).other (by show w.heap.size + 1 ≠ gb; omega) _
  · exact (h.b.trans (hb.mono (by omega))).setCell (p := ⟨gb, 0, none⟩) (by show w.heap.size ≤ gb; omega) _
  · have h1 := hb.size
    have h2 := hF.size
    have := h.s
    omega
theorem LgM.addE {w wr : World} {gb : Nat} {c : Nat → Int} {u v : Value} {N : List Int} {E : List Ed} (h : LgM w wr gb c u v N E) (x : Ed) (hl : E.length ≤ 1000) :
    ∃ g cap w6, (Builtin.append_ #[23, 23] 23 #[v, .slice (some ⟨wr.heap.size, 0, none⟩) 1 1]).run Try.prog (wr.alloc (.cells (ec x).toArray 54)) = .ok (.slice (some ⟨g, 0, none⟩) (E.length + 1) cap) w6 ∧
      w6.cell? ⟨gb, 1, none⟩ = some v ∧ w6.frozen? ⟨gb, 1, none⟩ = false ∧ Arr w6 (w.heap.size + 1) 3 (tcl c) ∧ LgM w (w6.setCell ⟨gb, 1, none⟩ (.slice (some ⟨g, 0, none⟩) (E.length + 1) cap)) gb c u (.slice (some ⟨g, 0, none⟩) (E.length + 1) cap) N (E ++ [x]) := by
  obtain ⟨g, cap, w6, hrun, hown, hlie, hgrow, hb⟩ := append_edge h.e x (by omega) (by have := h.s; omega)
  have hg6 : w6.heap[gb]? = some (.cells #[u, v] 25) := (hb.block _ (Nat.lt_succ_self _)).trans h.g
  have hv6 : w6.ownsRow (gb + 1) 3 1 u N.length (fl ic N) := h.n.kept hgrow (by
    cases hu : u.ownBlock with
    | none => exact .inl rfl
    | some j => exact .inr (fun e => h.d j hu e.symm))
  have hF := (Fr.refl (fun k => k = gb) w6).set (p := ⟨gb, 1, none⟩) rfl (.slice (some ⟨g, 0, none⟩) (E.length + 1) cap)
  have hl' := h.l
  refine ⟨g, cap, w6, hrun, cell_of_row _ _ 1 _ _ _ hg6, frozen_new hg6 1, h.t.keep hb (by omega), ?_, ?_, ?_, ?_, ?_, ?_, ?_, h.l, ?_⟩
  · have := heap_setCell_same w6 gb 1 _ _ (.slice (some ⟨g, 0, none⟩) (E.length + 1) cap) hg6
    simpa using this
  · exact row_fr hv6 hF (fun j hj e => by have := (hv6.lt j hj).1; omega)
  · rw [List.length_append]
    exact row_fr hown hF (fun j hj e => by have := (hown.lt j hj).1; omega)
  · intro j hj h2
    simp [Value.ownBlock] at h2
    subst h2
    rcases hlie with h1 | h1
    · exact h.d g hj h1
    · have := ownBlock_lt h.n hj
      omega
  · exact (hF.block _ (by have := hb.size; have := h.s; omega) (by omega)).trans ((hb.block _ (by omega)).trans h.r)
  · exact (h.t.keep hb (by omega)).other (by show w.heap.size + 1 ≠ gb; omega) _
  · exact (h.b.trans (hb.mono (by omega))).setCell (p := ⟨gb, 1, none⟩) (by show w.heap.size ≤ gb; omega) _
  · have h1 := hb.size
    have h2 := hF.size
    have := h.s
    omega
set_option maxRecDepth 100000 in
set_option maxHeartbeats 4000000 in
theorem lawOf_any {n : Nat} {L : List Ed} {v : Value} {w : World} (h : SlAt lc3 3 w v L) (hL : LkB L) (h0 : 0 < n) (hn : n ≤ 7) :
    Calls Try.prog 23 #[v, .int .i64 n] w fun e w' => (∃ a b, e = .returned (grV a b) ∧ GrOwn w.heap.size w' a b (tabN n) (tabE (tabT n (L.take 12)) n n)) ∧ Below w.heap.size w w' := by
  obtain ⟨la, lcap, rfl, hll, _, hlc⟩ := h.lks
  have Hlc := hidIn hlc
  have HL := hidIn hL
  clear hlc h hL
  have hmk := make_tab
  obtain ⟨W1, hW1⟩ : ∃ W1, (w.alloc nilG).alloc (.cells (tcl fun _ => 0).toArray 3) = W1 := ⟨_, rfl⟩
  have HM0 : Hid (TbM w W1 (tabT n [])) := hidIn (by
    rw [← hW1]
    refine ⟨?_, ?_, ((Below.refl _ w).alloc (Nat.le_refl _) _).alloc (by simp) _⟩
    · rw [Below.heap_alloc _ _ _ (by simp)]
      exact heap_alloc_last w _
    · have := heap_alloc_last (w.alloc nilG) (.cells (tcl fun _ => 0).toArray 3)
      rw [World.size_alloc] at this
      exact this)
  have HW := hidIn hW1
  have hn0 : (n : Int) ≠ 0 := by omega
  have hnb : ((n : Int) == 0) = false := by simpa using hn0
  have Hn := hidIn hn
  clear hW1
  go_enter Try.func23, Try.ntmps23
  go_upto_region 2 with fail
  rw [HW.out]
  clear HW hmk
  go_wp2_with fail
  go_loopw [6] (fun i wr => ∃ k : Nat, k ≤ 12 ∧ k ≤ L.length ∧ i = .int .i64 k ∧ Hid (TbM w wr (tabT n (L.take k)))) (fun i _ => 12 - (intOf i).toNat)
  case atStart => exact ⟨0, by omega, Nat.zero_le _, rfl, HM0⟩
  case round =>
    clear HM0
    obtain ⟨k, hk12, hk, rfl, HR⟩ := hrel
    by_cases hlt : k < L.length ∧ k < 12
    · obtain ⟨hlt, hlt12⟩ := hlt
      obtain ⟨bk, o, rfl, hbk, hcell⟩ := Hlc.out (by omega)
      obtain ⟨⟨x, y, z⟩, hx⟩ : ∃ z, L[k]? = some z := ⟨L[k], List.getElem?_eq_getElem hlt⟩
      obtain ⟨q0, q1, q2⟩ := hcell k _ hx
      have c0 := (HR.out.b.cell (p := ⟨bk, o + k * 3, none⟩) hbk).trans q0
      have c1 := (HR.out.b.cell (p := ⟨bk, o + k * 3 + 1, none⟩) hbk).trans q1
      have c2 := (HR.out.b.cell (p := ⟨bk, o + k * 3 + 2, none⟩) hbk).trans q2
      simp only at c0 c1 c2
      obtain ⟨⟨hx0, hx1⟩, ⟨hy0, hy1⟩, hz0, hz1⟩ := HL.out _ (List.mem_of_getElem? hx)
      simp only at hx0 hx1 hy0 hy1 hz0 hz1
      obtain ⟨X, rfl⟩ : ∃ X : Nat, x = (X : Int) := ⟨x.toNat, by omega⟩
      obtain ⟨Y, rfl⟩ : ∃ Y : Nat, y = (Y : Int) := ⟨y.toNat, by omega⟩
      obtain ⟨Z, rfl⟩ : ∃ Z : Nat, z = (Z : Int) := ⟨z.toNat, by omega⟩
      have HT : Hid (tabT n (L.take (k + 1)) = tabL n (tabT n (L.take k)) ((X : Int), (Y : Int), (Z : Int))) := hidIn (by rw [take_snoc hx, tabT_snoc])
      obtain ⟨C, hC⟩ : ∃ C, tabT n (L.take k) = C := ⟨_, rfl⟩
      rw [hC] at HR HT
      clear hC hx hcell q0 q1 q2
      obtain ⟨a, ha⟩ : ∃ a, X % n = a := ⟨_, rfl⟩
      obtain ⟨b, hb⟩ : ∃ b, Y % n = b := ⟨_, rfl⟩
      have han : a < n := by rw [← ha]; exact Nat.mod_lt _ h0
      have hbn : b < n := by rw [← hb]; exact Nat.mod_lt _ h0
      have mX : (X : Int).tmod (n : Int) = (a : Int) := by rw [← ha, Int.tmod_eq_emod_of_nonneg (by omega)]; rfl
      have mY : (Y : Int).tmod (n : Int) = (b : Int) := by rw [← hb, Int.tmod_eq_emod_of_nonneg (by omega)]; rfl
      have HT2 : Hid (tabT n (L.take (k + 1)) = if a ≠ b ∧ C (16 * a + b) = 0 then putV (putV C (16 * a + b) (1 + (Z : Int) % 5)) (16 * b + a) (1 + (Z : Int) % 5) else C) := hidIn (by rw [HT.out]; unfold tabL; simp only [Int.toNat_natCast]; rw [ha, hb])
      have hki : (k : Int) < (L.length : Int) := by omega
      have hki2 : (k : Int) < 12 := by omega
      have hxi1 : (X : Int) ≤ 255 := hx1
      have hyi1 : (Y : Int) ≤ 255 := hy1
      have Ha := hidIn ha
      have Hb := hidIn hb
      clear HT ha hb hx0 hy0 hz0 hx1 hy1
      go_upto_region 5 with fail
      go_quiet (fail)
      clear c0 c1 mX mY hxi1 hyi1
      generalize hV : World.drewN wr _ = V
      have hM : TbM w V C := by rw [← hV]; exact HR.out.drewN _
      have e2 : V.cell? ⟨bk, o + k * 3 + 2, none⟩ = some (.int .u8 (Z : Int)) := by rw [← hV]; exact c2
      have HM := hidIn hM
      have t0 := hM.t.cell (16 * a + b)
      rw [tcl_get _ (by have := Hn.out; omega)] at t0
      have tf0 := hM.t.frozen (16 * a + b)
      have tf1 := hM.t.frozen (16 * b + a)
      have hbw : bk ≠ w.heap.size + 1 := by omega
      have hai : (a : Int) < 7 := by have := Hn.out; omega
      have hbi : (b : Int) < 7 := by have := Hn.out; omega
      clear hV hM HR c2
      by_cases hab : a = b
      · have hd : ((a : Int) != (b : Int)) = false := by rw [hab]; simp
        have HE : Hid (tabT n (L.take (k + 1)) = C) := hidIn (by rw [HT2.out, if_neg (fun h => h.1 hab)])
        clear hab t0 tf0 tf1 e2
        go_wp2_with fail
        go_roundw
        case rel => exact ⟨k + 1, by omega, by omega, by go_num, hidIn (by rw [HE.out]; exact HM.out)⟩
        case measure => simp [intOf]; omega
      have hd : ((a : Int) != (b : Int)) = true := by simp; omega
      by_cases hc : C (16 * a + b) = 0
      · rw [hc] at t0
        have HE : Hid (tabT n (L.take (k + 1)) = putV (putV C (16 * a + b) (1 + (Z : Int) % 5)) (16 * b + a) (1 + (Z : Int) % 5)) := hidIn (by rw [HT2.out, if_pos ⟨hab, hc⟩])
        clear hc
        obtain ⟨z, hz⟩ : ∃ z, Z % 5 = z := ⟨_, rfl⟩
        have hz5 : z < 5 := by omega
        have mZ : (Z : Int).tmod 5 = (z : Int) := by rw [← hz, Int.tmod_eq_emod_of_nonneg (by omega)]; rfl
        have HZ : Hid (1 + (Z : Int) % 5 = 1 + (z : Int)) := hidIn (by rw [← hz]; rfl)
        rw [HZ.out] at HE
        clear hz hz1
        have h256 : 16 * a + b < 256 := by omega
        have h256' : 16 * b + a < 256 := by omega
        have hi256 : 16 * (a : Int) + (b : Int) < 256 := by omega
        have hi256' : 16 * (b : Int) + (a : Int) < 256 := by omega
        go_upto_region 7 with fail
        go_upto_region 8 with fail
        have hM2 := HM.out.put h256 (1 + (z : Int))
        generalize World.setCell _ _ _ = V2 at hM2 ⊢
        have HM2 := hidIn hM2
        have s0 := hM2.t.cell (16 * a + b)
        rw [tcl_get _ h256, putV_same] at s0
        have s1 := hM2.t.cell (16 * b + a)
        rw [tcl_get _ h256'] at s1
        have sf1 := hM2.t.frozen (16 * b + a)
        clear hM2 t0 tf0 tf1 e2 mZ HM
        go_wp2_with fail
        go_roundw
        case rel => exact ⟨k + 1, by omega, by omega, by go_num, hidIn (by rw [HE.out]; exact HM2.out.put h256' _)⟩
        case measure => simp [intOf]; omega
      · have hc0 : (C (16 * a + b) == 0) = false := by simpa using hc
        have HE : Hid (tabT n (L.take (k + 1)) = C) := hidIn (by rw [HT2.out, if_neg (fun h => hc h.2)])
        clear hc tf0 tf1 e2
        go_wp2_with fail
        go_roundw
        case rel => exact ⟨k + 1, by omega, by omega, by go_num, hidIn (by rw [HE.out]; exact HM.out)⟩
        case measure => simp [intOf]; omega
    · have hni : ¬ ((k : Int) < (L.length : Int) ∧ (k : Int) < 12) := by omega
      have HT : Hid (TbM w wr (tabT n (L.take 12))) := hidIn (by
        have := HR.out
        rw [show L.take k = L.take 12 from by
          by_cases h : k = 12
          · rw [h]
          · rw [List.take_of_length_le (by omega), List.take_of_length_le (by omega)]] at this
        exact this)
      clear HR
      obtain ⟨C, hC⟩ : ∃ C, tabT n (L.take 12) = C := ⟨_, rfl⟩
      rw [hC] at HT
      have HC12 := hidIn hC
      clear hC
      go_upto_region 3 with fail
      go_cut [20] (fun c wx => c = .bool false ∧ wx = wr)
      case first =>
        by_cases h1 : k < L.length
        · have h1i : (k : Int) < (L.length : Int) := by omega
          have h2i : ¬ (k : Int) < 12 := by omega
          clear hlt hni
          go_wp2_with fail
          go_meet
          exact ⟨rfl, rfl⟩
        · have h1i : ¬ (k : Int) < (L.length : Int) := by omega
          clear hlt hni
          go_wp2_with fail
          go_meet
          exact ⟨rfl, rfl⟩
      case rest =>
        obtain ⟨rfl, hwc⟩ := hcut
        rw [hwc]
        clear hwc wc hlt hni
        obtain ⟨W2, hW2⟩ : ∃ W2, wr.alloc nilG = W2 := ⟨_, rfl⟩
        obtain ⟨gb, hgb⟩ : ∃ gb, wr.heap.size = gb := ⟨_, rfl⟩
        have HM0 : Hid (LgM w W2 gb C (.slice none 0 0) (.slice none 0 0) (tabN 0) (tabE C n 0)) := hidIn (by
          have bA : Below wr.heap.size wr W2 := by rw [← hW2]; exact (Below.refl _ wr).alloc (Nat.le_refl _) _
          have hlt := HT.out.t.lt
          refine ⟨by rw [← hW2, ← hgb]; exact heap_alloc_last wr _, World.ownsRow_nil _ _ _ _, World.ownsRow_nil _ _ _ _, fun j hj => by simp [Value.ownBlock] at hj, (bA.block _ (by omega)).trans HT.out.r, HT.out.t.keep bA hlt, HT.out.b.trans (bA.mono HT.out.b.size), by omega, by rw [← hW2, ← hgb]; simp⟩)
        have HW2 := hidIn hW2
        have Hgb := hidIn hgb
        clear hW2 hgb HT
        go_upto_region 10 with fail
        rw [HW2.out, Hgb.out]
        clear HW2 Hgb
        go_wp2_with fail
        go_loopw [10] (fun i wz => ∃ a : Nat, a ≤ n ∧ i = .int .i64 a ∧ Hid (∃ u v, LgM w wz gb C u v (tabN a) (tabE C n a))) (fun i _ => n - (intOf i).toNat)
        case atStart => exact ⟨0, Nat.zero_le _, rfl, hidIn ⟨_, _, HM0.out⟩⟩
        case round =>
          clear HM0
          obtain ⟨a, ha, rfl, HR⟩ := hrel
          obtain ⟨u, v, hM⟩ := HR.out
          clear HR
          by_cases hlt : a < n
          · have hai : (a : Int) < (n : Int) := by omega
            obtain ⟨g, cap, w6, hrun, h1, h2, h3⟩ := hM.addN ((a : Int) + 1) (by rw [tabN_len]; omega)
            have d0 := cell_of_row _ _ 0 _ _ _ hM.g
            simp at d0
            have HRun := hidIn hrun
            have H3 : Hid (LgM w _ gb C _ v (tabN (a + 1)) (tabE C n a)) := hidIn (by rw [tabN_succ]; exact h3)
            clear hrun h3 hM
            go_wp2_with (refine l_append rfl _ _ 22 rfl HRun.out ?_)
            generalize World.setCell _ _ _ = W4 at H3 ⊢
            clear d0 h1 h2 HRun
            have htl : (tabE C n a).length ≤ 49 := Nat.le_trans (tabE_len C n a) (Nat.le_trans (Nat.mul_le_mul (show a ≤ 7 by omega) hn) (by omega))
            go_loopw [11] (fun i wz => ∃ b : Nat, b ≤ n ∧ i = .int .i64 b ∧ Hid (∃ v', LgM w wz gb C (.slice (some ⟨g, 0, none⟩) ((tabN a).length + 1) cap) v' (tabN (a + 1)) (tabE C n a ++ rwE C a b))) (fun i _ => n - (intOf i).toNat)
            case atStart => exact ⟨0, Nat.zero_le _, rfl, hidIn ⟨v, by simpa [rwE] using H3.out⟩⟩
            case round =>
              clear H3
              obtain ⟨b, hb, rfl, HR⟩ := hrel
              obtain ⟨v', hM⟩ := HR.out
              clear HR
              by_cases hlt2 : b < n
              · have hbi : (b : Int) < (n : Int) := by omega
                have hai7 : (a : Int) < 7 := by omega
                have hbi7 : (b : Int) < 7 := by omega
                have h256 : 16 * a + b < 256 := by omega
                have hi256 : 16 * (a : Int) + (b : Int) < 256 := by omega
                have t0 := hM.t.cell (16 * a + b)
                rw [tcl_get _ h256] at t0
                have hrl := rwE_len C a b
                have HRS := hidIn (rwE_succ C a b)
                have HM := hidIn hM
                have hgs := hM.s
                have hts := hM.t.lt
                have d1 := cell_of_row _ _ 1 _ _ _ hM.g
                simp at d1
                clear hM
                obtain ⟨cv, hcv⟩ : ∃ cv, C (16 * a + b) = cv := ⟨_, rfl⟩
                rw [hcv] at t0 HRS
                clear hcv
                by_cases hc : 0 < cv
                · rw [if_pos hc] at HRS
                  obtain ⟨EE, hEE⟩ : ∃ EE, tabE C n a ++ rwE C a b = EE := ⟨_, rfl⟩
                  have hEl : EE.length ≤ 1000 := by rw [← hEE, List.length_append]; omega
                  have HEE : Hid (tabE C n a ++ rwE C a (b + 1) = EE ++ [((a : Int) + 1, (b : Int) + 1, cv)]) := hidIn (by rw [HRS.out, ← List.append_assoc, hEE])
                  rw [hEE] at HM
                  clear hEE HRS hrl
                  obtain ⟨g2, cap2, w7, hrun, k1, k2, kt, h3⟩ := HM.out.drew.addE ((a : Int) + 1, (b : Int) + 1, cv) hEl
                  have HRun := hidIn hrun
                  have H3 := hidIn h3
                  have HK := hidIn kt
                  clear hrun h3 kt
                  go_upto_region 18 with fail
                  have hw1 : IntKind.i64.wrap (16 * (a : Int)) = 16 * (a : Int) := by rw [IntKind.wrap_i64]; omega
                  have hw2 : IntKind.i64.wrap (16 * (a : Int) + (b : Int)) = 16 * (a : Int) + (b : Int) := by rw [IntKind.wrap_i64]; omega
                  have hw3 : IntKind.i64.wrap ((a : Int) + 1) = (a : Int) + 1 := by rw [IntKind.wrap_i64]; omega
                  have hw4 : IntKind.i64.wrap ((b : Int) + 1) = (b : Int) + 1 := by rw [IntKind.wrap_i64]; omega
                  have hw5 : (16 * (a : Int) + (b : Int)).toNat = 16 * a + b := by omega
                  have hw6 : 0 ≤ 16 * (a : Int) + (b : Int) := by omega
                  go_region_law ((refine step_append rfl (.tmp 105) (.tmp 118) 23 rfl (by kernel_rfl) (by kernel_rfl) HRun.out ?_))
                  all_goals
                    go_wp2_with fail
                    go_roundw
                    case rel => exact ⟨b + 1, by omega, by go_num, hidIn ⟨_, by rw [HEE.out]; exact H3.out⟩⟩
                    case measure => simp [intOf]; omega
                · rw [if_neg hc, List.append_nil] at HRS
                  clear d1
                  go_wp2_with fail
                  go_roundw
                  case rel => exact ⟨b + 1, by omega, by go_num, hidIn ⟨v', by rw [HRS.out]; exact HM.out⟩⟩
                  case measure => simp [intOf]; omega
              · have hbi : ¬ (b : Int) < (n : Int) := by omega
                have hbn : b = n := by omega
                have HM : Hid (LgM w wr gb C (.slice (some ⟨g, 0, none⟩) ((tabN a).length + 1) cap) v' (tabN (a + 1)) (tabE C n (a + 1))) := hidIn (by rw [tabE_succ]; rw [hbn] at hM; exact hM)
                clear hM hbn
                go_wp2_with fail
                go_roundw
                case rel => exact ⟨a + 1, by omega, by go_num, hidIn ⟨_, v', HM.out⟩⟩
                case measure => simp [intOf]; omega
          · have hai : ¬ (a : Int) < (n : Int) := by omega
            have han : a = n := by omega
            rw [han] at hM
            clear han
            obtain ⟨ua, ucap, rfl⟩ := row_shape hM.n
            obtain ⟨va, vcap, rfl⟩ := row_shape hM.e
            have d0 := cell_of_row _ _ 0 _ _ _ hM.g
            have d1 := cell_of_row _ _ 1 _ _ _ hM.g
            have r0 := cell_of_row _ _ 0 _ _ _ hM.r
            have r1 := cell_of_row _ _ 1 _ _ _ hM.r
            simp at d0 d1 r0 r1
            have f0 := frozen_new hM.r 0
            have f1 := frozen_new hM.r 1
            have HM := hidIn hM
            have hlg := hM.l
            clear hM
            obtain ⟨NN, hNN⟩ : ∃ NN, tabN n = NN := ⟨_, rfl⟩
            obtain ⟨EE, hEE⟩ : ∃ EE, tabE C n n = EE := ⟨_, rfl⟩
            rw [hNN, hEE] at HM
            rw [hNN] at d0
            rw [hEE] at d1
            have HNN := hidIn hNN
            have HEE := hidIn hEE
            clear hNN hEE
            go_wp2_with fail
            have e0 : ((wr.setCell ⟨w.heap.size, 0, none⟩ (.slice ua NN.length ucap)).setCell ⟨w.heap.size, 1, none⟩ (.slice va EE.length vcap)).cell? ⟨w.heap.size, 0, none⟩ = some (.slice ua NN.length ucap) := by simp [go_sem, r0]
            have e1 : ((wr.setCell ⟨w.heap.size, 0, none⟩ (.slice ua NN.length ucap)).setCell ⟨w.heap.size, 1, none⟩ (.slice va EE.length vcap)).cell? ⟨w.heap.size, 1, none⟩ = some (.slice va EE.length vcap) := by simp [go_sem, r1]
            have HF : Hid (Fr (fun k => k = w.heap.size) wr ((wr.setCell ⟨w.heap.size, 0, none⟩ (.slice ua NN.length ucap)).setCell ⟨w.heap.size, 1, none⟩ (.slice va EE.length vcap))) := hidIn (((Fr.refl (fun k => k = w.heap.size) wr).set (p := ⟨w.heap.size, 0, none⟩) rfl _).set (p := ⟨w.heap.size, 1, none⟩) rfl _)
            generalize (wr.setCell ⟨w.heap.size, 0, none⟩ (.slice ua NN.length ucap)).setCell ⟨w.heap.size, 1, none⟩ (.slice va EE.length vcap) = V at *
            refine bodyPost_ret (v := grV (.slice ua NN.length ucap) (.slice va EE.length vcap)) (by simp [results, Try.results23, asAddr, Result.andThen, go_sem, e0, e1]) rfl ⟨⟨_, _, rfl, ?_, ?_⟩, ?_⟩
            · rw [HNN.out]
              exact row_low (row_fr HM.out.n HF.out (fun j hj e => by have := (HM.out.n.lt j hj).1; omega)) (by omega)
            · rw [HC12.out, HEE.out]
              exact row_low (row_fr HM.out.e HF.out (fun j hj e => by have := (HM.out.e.lt j hj).1; omega)) (by omega)
            · exact HM.out.b.trans (HF.out.below HM.out.b.size (fun k hk => by omega))
end Go.Proofs.Ytgjnljcphcmmeaa
namespace Go.Proofs.Ytgjnljcphcmmeaa
open Go.RowKit

/-- Lists that rise and have the same numbers are one. -/
theorem rise_ext : ∀ {l m : List Int}, l.Pairwise (fun a b => a < b) → m.Pairwise (fun a b => a < b) → (∀ x, x ∈ l ↔ x ∈ m) → l = m
  | [], [], _, _, _ => rfl
  | [], b :: m, _, _, h => absurd ((h b).2 (by simp)) (by simp)
  | a :: l, [], _, _, h => absurd ((h a).1 (by simp)) (by simp)
  | a :: l, b :: m, hl, hm, h => by
    rw [List.pairwise_cons] at hl hm
    have h1 : a = b := by
      rcases List.mem_cons.1 ((h a).1 (by simp)) with h2 | h2
      · exact h2
      · rcases List.mem_cons.1 ((h b).2 (by simp)) with h3 | h3
        · exact h3.symm
        · have := hl.1 b h3; have := hm.1 a h2; omega
    subst h1
    rw [rise_ext hl.2 hm.2 (fun x => ?_)]
    constructor
    · intro hx
      rcases List.mem_cons.1 ((h x).1 (by simp [hx])) with h2 | h2
      · have := hl.1 x hx; omega
      · exact h2
    · intro hx
      rcases List.mem_cons.1 ((h x).2 (by simp [hx])) with h2 | h2
      · have := hm.1 x hx; omega
      · exact h2
/-- The example's links and edges. -/
def exL : List Ed := [(0, 1, 0), (0, 2, 0), (1, 3, 0), (2, 3, 0), (0, 3, 1)]
def exE : List Ed := [(1, 2, 1), (1, 3, 1), (1, 4, 2), (2, 1, 1), (2, 4, 1), (3, 1, 1), (3, 4, 1), (4, 1, 2), (4, 2, 1), (4, 3, 1)]
theorem ex_tab : tabE (tabT 4 exL) 4 4 = exE := by decide
theorem ex_ok : graphOk (tabN 4) exE = true := by decide
def exF (x : Int) : Int := if x = 1 then 0 else if x = 4 then 2 else 1
theorem ex_low {x c : Int} {h : Nat} (k : Wy exE 1 x c h) : exF x ≤ c :=
  k (fun x c _ => exF x ≤ c) (by decide) (fun e he c h hs => by
    simp only [exE, List.mem_cons, List.not_mem_nil, or_false] at he
    rcases he with rfl | rfl | rfl | rfl | rfl | rfl | rfl | rfl | rfl | rfl <;> simp [exF] at hs ⊢ <;> omega)
theorem ex_w2 : Wy exE 1 2 1 1 := Wy.one (e := (1, 2, 1)) (by decide)
theorem ex_w3 : Wy exE 1 3 1 1 := Wy.one (e := (1, 3, 1)) (by decide)
theorem ex_w4 : Wy exE 1 4 2 1 := Wy.one (e := (1, 4, 2)) (by decide)
theorem ex_w4' : Wy exE 1 4 2 2 := ex_w2.step (e := (2, 4, 1)) (by decide)
theorem ex_ds : Ds exE 1 1 0 ∧ Ds exE 1 2 1 ∧ Ds exE 1 3 1 ∧ Ds exE 1 4 2 :=
  ⟨⟨⟨_, Wy.refl _ _⟩, fun _ _ h => ex_low h⟩, ⟨⟨_, ex_w2⟩, fun _ _ h => ex_low h⟩, ⟨⟨_, ex_w3⟩, fun _ _ h => ex_low h⟩, ⟨⟨_, ex_w4⟩, fun _ _ h => ex_low h⟩⟩
theorem ex_from {l : List Rr} (h : IsFrom (tabN 4) exE 1 l) : ∃ a b c d, l = [a, b, c, d] ∧ d.cost = 2 ∧ d.least = 1 ∧ d.most = 2 ∧ d.next = [2, 3, 4] := by
  have hm : l.map (·.node) = [1, 2, 3, 4] := by
    refine rise_ext (List.pairwise_map.2 h.rise) (by decide) (fun x => ?_)
    constructor
    · intro hx
      obtain ⟨p, hp, rfl⟩ := List.mem_map.1 hx
      have h1 := tabN_mem.1 (h.right p hp).1
      have h2 : p.node = 1 ∨ p.node = 2 ∨ p.node = 3 ∨ p.node = 4 := by omega
      rcases h2 with h2 | h2 | h2 | h2 <;> rw [h2] <;> decide
    · intro hx
      have key : ∀ d, x ∈ tabN 4 → Ds exE 1 x d → x ∈ l.map (·.node) := fun d h1 h2 => by
        obtain ⟨p, hp, rfl⟩ := h.all x d h1 h2
        exact List.mem_map.2 ⟨p, hp, rfl⟩
      simp only [List.mem_cons, List.not_mem_nil, or_false] at hx
      rcases hx with rfl | rfl | rfl | rfl
      · exact key _ (by decide) ex_ds.1
      · exact key _ (by decide) ex_ds.2.1
      · exact key _ (by decide) ex_ds.2.2.1
      · exact key _ (by decide) ex_ds.2.2.2
  have hlen : l.length = 4 := by have := congrArg List.length hm; simpa using this
  obtain ⟨a, b, c, d, rfl⟩ : ∃ a b c d, l = [a, b, c, d] := by
    match l, hlen with
    | [a, b, c, d], _ => exact ⟨a, b, c, d, rfl⟩
  · simp only [List.map_cons, List.map_nil, List.cons.injEq, and_true] at hm
    obtain ⟨_, _, _, h4⟩ := hm
    obtain ⟨_, e, he, hR⟩ := h.right d (by simp)
    rw [h4] at he hR
    have h5 := he.uniq ex_ds.2.2.2
    subst h5
    have l1 := (hR.hops _ ex_w4).1
    have m1 := (hR.hops _ ex_w4').2
    have l0 := hR.l0
    have m0 := hR.m0
    have l2 : d.least.toNat ≠ 0 := fun e => by have := (hR.lw.zero e).1; omega
    have m2 := (hR.mw.pos (graphOk_pos ex_ok)).1
    refine ⟨a, b, c, d, rfl, hR.cost, by omega, by omega, rise_ext hR.np (by decide) (fun y => ?_)⟩
    rw [hR.nx (by omega) y]
    constructor
    · rintro ⟨e, he, h6, h7, _⟩
      simp only [exE, List.mem_cons, List.not_mem_nil, or_false] at he
      rcases he with rfl | rfl | rfl | rfl | rfl | rfl | rfl | rfl | rfl | rfl <;> simp at h6 h7 <;> subst h7 <;> simp
    · intro hy
      simp only [List.mem_cons, List.not_mem_nil, or_false] at hy
      rcases hy with rfl | rfl | rfl
      · exact ⟨(1, 2, 1), by decide, rfl, rfl, 1, Wy.one (e := (2, 4, 1)) (by decide)⟩
      · exact ⟨(1, 3, 1), by decide, rfl, rfl, 1, Wy.one (e := (3, 4, 1)) (by decide)⟩
      · exact ⟨(1, 4, 2), by decide, rfl, rfl, 0, Wy.refl _ _⟩
end Go.Proofs.Ytgjnljcphcmmeaa
namespace Go.Proofs.Ytgjnljcphcmmeaa
open Go.RowKit

theorem ex_at {y : Int} (h : y = 1 ∨ y = 2 ∨ y = 3 ∨ y = 4) : Ds exE 1 y (exF y) := by
  rcases h with rfl | rfl | rfl | rfl
  · exact ex_ds.1
  · exact ex_ds.2.1
  · exact ex_ds.2.2.1
  · exact ex_ds.2.2.2
def exI (x : Int) (e : Ed) : Bool := decide (e.2.1 = x) && decide (exF e.1 + e.2.2 = exF x)
theorem ex_into {x : Int} (hx : x = 1 ∨ x = 2 ∨ x = 3 ∨ x = 4) (e : Ed) (he : e ∈ exE) : exI x e = true ↔ Into exE 1 x e := by
  have h1 : e.1 = 1 ∨ e.1 = 2 ∨ e.1 = 3 ∨ e.1 = 4 := by
    have := ((graphOk_bd ex_ok).2.1 e he).1
    have := tabN_mem.1 this
    omega
  simp only [exI, Bool.and_eq_true, decide_eq_true_eq]
  constructor
  · rintro ⟨h2, h3⟩
    exact ⟨he, h2, _, ex_at h1, by rw [h3]; exact ex_at hx⟩
  · rintro ⟨_, h2, d, h3, h4⟩
    have h5 := h3.uniq (ex_at h1)
    have h6 := h4.uniq (ex_at hx)
    exact ⟨h2, by omega⟩
theorem ex_count {P : List (Int × Int)} (h : IsNear exE 1 P) (hn : NdOk P) : cntT 1 (told exE P P) 4 = 3 := by
  have hc := fun x hx hx4 => cnt_all ex_ok (r := 1) (by decide) h hn x hx (exI x) (ex_into hx4)
  have c1 := hc 1 (by decide) (by decide)
  have c2 := hc 2 (by decide) (by decide)
  have c3 := hc 3 (by decide) (by decide)
  have c4 := hc 4 (by decide) (by decide)
  rw [show exE.filter (exI 1) = [] from by decide] at c1
  rw [show exE.filter (exI 2) = [(1, 2, 1)] from by decide] at c2
  rw [show exE.filter (exI 3) = [(1, 3, 1)] from by decide] at c3
  rw [show exE.filter (exI 4) = [(1, 4, 2), (2, 4, 1), (3, 4, 1)] from by decide] at c4
  simp at c1 c2 c3 c4
  generalize cntT 1 (told exE P P) = N at *
  omega
end Go.Proofs.Ytgjnljcphcmmeaa
namespace Go.Proofs.Ytgjnljcphcmmeaa
open Go.RowKit

theorem exL_b : LkB exL := by unfold LkB exL; decide
abbrev exO : Obj := .cells #[.int .u8 0, .int .u8 1, .int .u8 0, .int .u8 0, .int .u8 2, .int .u8 0, .int .u8 1, .int .u8 3, .int .u8 0, .int .u8 2, .int .u8 3, .int .u8 0, .int .u8 0, .int .u8 3, .int .u8 1] 79
set_option maxRecDepth 100000 in
set_option maxHeartbeats 1000000 in
theorem example_any (w : World) :
    Calls Try.prog 25 #[] w fun e w' => (∃ a b, e = .returned (grV a b) ∧ GrOwn w.heap.size w' a b (tabN 4) exE) ∧ Below w.heap.size w w' := by
  obtain ⟨W1, hW1⟩ : ∃ W1, w.alloc nilG = W1 := ⟨_, rfl⟩
  obtain ⟨W2, hW2⟩ : ∃ W2, W1.alloc exO = W2 := ⟨_, rfl⟩
  have b1 : Below w.heap.size w W1 := by rw [← hW1]; exact (Below.refl _ w).alloc (Nat.le_refl _) _
  have hX1 : W1.heap[w.heap.size]? = some nilG := by rw [← hW1]; exact heap_alloc_last w _
  have b2 : Below W1.heap.size W1 W2 := by rw [← hW2]; exact (Below.refl _ W1).alloc (Nat.le_refl _) _
  have hX2 := (b2.block _ (block_lt hX1)).trans hX1
  have hS : SlAt lc3 3 W2 (.slice (some ⟨W1.heap.size, 0, none⟩) 5 5) exL := by
    rw [← hW2]
    exact slAt_block (cs := lc3) (sz := 3) (l := exL) (fun _ => rfl) (T := 79) (heap_alloc_last W1 exO) (by decide)
  have HC := hidIn (lawOf_any (n := 4) hS exL_b (by omega) (by omega))
  have HB := hidIn (b1.trans (b2.mono b1.size))
  have HX := hidIn hX2
  have HW1 := hidIn hW1
  have HW2 := hidIn hW2
  clear hW1 hW2 b1 b2 hX1 hX2 hS
  go_enter Try.func25, Try.ntmps25
  go_upto_region 1 with fail
  rw [HW1.out]
  clear HW1
  go_wp2_with fail
  rw [HW2.out]
  clear HW2
  refine HC.out.mono ?_
  rintro e w3 ⟨⟨a, b, rfl, hG⟩, hb3⟩
  have hX3 := (hb3.block _ (block_lt HX.out)).trans HX.out
  have HB3 := hidIn (HB.out.trans (hb3.mono HB.out.size))
  have r0 := cell_of_row _ _ 0 _ _ _ hX3
  have r1 := cell_of_row _ _ 1 _ _ _ hX3
  simp at r0 r1
  have f0 := frozen_new hX3 0
  have f1 := frozen_new hX3 1
  have HX3 := hidIn hX3
  have HG := hidIn hG
  have hlt2 : w.heap.size < W2.heap.size := block_lt HX.out
  have Hb3 := hidIn hb3
  obtain ⟨ua, ucap, rfl⟩ := row_shape hG.n
  obtain ⟨va, vcap, rfl⟩ := row_shape hG.e
  clear HC hb3 hG hX3 HX HB Hb3
  obtain ⟨NN, hNN⟩ : ∃ NN, (tabN 4).length = NN := ⟨_, rfl⟩
  obtain ⟨EE, hEE⟩ : ∃ EE, (tabE (tabT 4 (exL.take 12)) 4 4).length = EE := ⟨_, rfl⟩
  rw [hNN, hEE] at HG ⊢
  clear hNN hEE
  go_wp2_with fail
  have e0 : ((w3.setCell ⟨w.heap.size, 0, none⟩ (.slice ua NN ucap)).setCell ⟨w.heap.size, 1, none⟩ (.slice va EE vcap)).cell? ⟨w.heap.size, 0, none⟩ = some (.slice ua NN ucap) := by simp [go_sem, r0]
  have e1 : ((w3.setCell ⟨w.heap.size, 0, none⟩ (.slice ua NN ucap)).setCell ⟨w.heap.size, 1, none⟩ (.slice va EE vcap)).cell? ⟨w.heap.size, 1, none⟩ = some (.slice va EE vcap) := by simp [go_sem, r1]
  have HF : Hid (Fr (fun k => k = w.heap.size) w3 ((w3.setCell ⟨w.heap.size, 0, none⟩ (.slice ua NN ucap)).setCell ⟨w.heap.size, 1, none⟩ (.slice va EE vcap))) := hidIn (((Fr.refl (fun k => k = w.heap.size) w3).set (p := ⟨w.heap.size, 0, none⟩) rfl _).set (p := ⟨w.heap.size, 1, none⟩) rfl _)
  generalize (w3.setCell ⟨w.heap.size, 0, none⟩ (.slice ua NN ucap)).setCell ⟨w.heap.size, 1, none⟩ (.slice va EE vcap) = V at *
  refine bodyPost_ret (v := grV (.slice ua NN ucap) (.slice va EE vcap)) (by simp [results, Try.results25, asAddr, Result.andThen, go_sem, e0, e1]) rfl ⟨⟨_, _, rfl, ?_⟩, ?_⟩
  · have h := (HG.out.fr HF.out (fun k hk => by omega)).low (Nat.le_of_lt hlt2)
    rw [show exL.take 12 = exL from rfl, ex_tab] at h
    exact h
  · exact HB3.out.trans (HF.out.below HB3.out.size (fun k hk => by omega))
/-- What a node costs by a list. -/
def csL (l : List Rr) (t : Int) : Int := match l.find? (fun r => decide (r.node = t)) with | some r => r.cost | none => -1
theorem find_at {l : List (Rr × Value)} {k : Nat} {x : Rr × Value} {t : Int} (hx : l[k]? = some x) (ht : x.1.node = t) (hb : ∀ y ∈ l.take k, y.1.node ≠ t) : (l.map (·.1)).find? (fun r => decide (r.node = t)) = some x.1 := by
  have hl : l = l.take k ++ x :: l.drop (k + 1) := by
    have h1 := List.take_append_drop k l
    rw [List.drop_eq_getElem_cons (List.getElem?_eq_some_iff.1 hx).1] at h1
    rw [(List.getElem?_eq_some_iff.1 hx).2] at h1
    exact h1.symm
  rw [hl, List.map_append, List.find?_append]
  have h1 : ((l.take k).map (·.1)).find? (fun r => decide (r.node = t)) = none := by
    rw [List.find?_eq_none]
    intro r hr
    obtain ⟨y, hy, rfl⟩ := List.mem_map.1 hr
    simpa using hb y hy
  rw [h1]
  simp [ht]
set_option maxRecDepth 100000 in
set_option maxHeartbeats 1000000 in
theorem lcost_any {l : List (Rr × Value)} {v : Value} {t : Int} {w : World} (h : RlAt w v l) :
    Calls Try.prog 24 #[v, .int .i64 t] w fun e w' => e = .returned (.int .i64 (csL (l.map (·.1)) t)) ∧ Below w.heap.size w w' := by
  have HC := hidIn (pof_any (t := t) h)
  obtain ⟨aa, cap, rfl, _⟩ := h.s
  obtain ⟨res, hres⟩ : ∃ res, csL (l.map (·.1)) t = res := ⟨_, rfl⟩
  rw [hres]
  have Hres := hidIn hres
  clear h hres
  go_enter Try.func24, Try.ntmps24
  go_wp2_with fail
  refine HC.out.mono ?_
  rintro e w2 ⟨h2, hb2⟩
  have HB := hidIn hb2
  clear HC hb2
  rcases h2 with ⟨k, ⟨x, xv⟩, v', hx, hxt, hbe, rfl, hs, hn⟩ | ⟨hno, rfl⟩
  · obtain ⟨va, vcap, rfl⟩ := hs.shape
    have HE : Hid (res = x.cost) := hidIn (by rw [← Hres.out]; unfold csL; rw [find_at hx hxt hbe])
    clear hs hn hx hxt hbe
    simp only
    generalize x.next.length = xn
    go_wp2_with fail
    go_ret
    exact ⟨by rw [HE.out]; rfl, HB.out.alloc HB.out.size _⟩
  · have HE : Hid (res = -1) := hidIn (by
      rw [← Hres.out]
      unfold csL
      rw [show (l.map (·.1)).find? (fun r => decide (r.node = t)) = none from List.find?_eq_none.2 (fun r hr => by obtain ⟨y, hy, rfl⟩ := List.mem_map.1 hr; simpa using hno y hy)])
    clear hno
    go_wp2_with fail
    go_ret
    exact ⟨by rw [HE.out]; rfl, HB.out.alloc HB.out.size _⟩
set_option maxRecDepth 100000 in
set_option maxHeartbeats 1000000 in
theorem works_any (w : World) : Calls Try.prog 15 #[] w fun e w' => e = .returned (.bool true) ∧ Below w.heap.size w w' := by
  go_enter Try.func15, Try.ntmps15
  go_wp2_with fail
  refine (example_any _).mono ?_
  rintro e w2 ⟨⟨a, b, rfl, hG⟩, hb2⟩
  have HF := hidIn (from_right hG.at 1)
  have HB2 := hidIn hb2
  obtain ⟨ua, ucap, rfl⟩ := row_shape hG.n
  obtain ⟨va, vcap, rfl⟩ := row_shape hG.e
  clear hG hb2
  go_wp2_with fail
  refine HF.out.mono ?_
  rintro e w3 ⟨h3, hb3⟩
  have HB3 := hidIn (HB2.out.trans (hb3.mono HB2.out.size))
  clear HF hb3 HB2
  rcases h3 with ⟨h3, _⟩ | ⟨_, l, u, mid, rfl, hmid, hrow, hat, his, hl25, hown⟩
  · exact absurd h3 (by decide)
  obtain ⟨p0, p1, p2, p3, hl, hc, hle, hmo, hnx⟩ := ex_from his
  obtain ⟨q0, q1, q2, q3, rfl⟩ : ∃ q0 q1 q2 q3, l = [q0, q1, q2, q3] := by
    match l, hl with
    | [q0, q1, q2, q3], _ => exact ⟨q0, q1, q2, q3, rfl⟩
  simp at hl
  obtain ⟨h0, h1, h2, h3⟩ := hl
  rw [← h3] at hc hle hmo hnx
  obtain ⟨hs, hnl, _⟩ := hat.n q3 (by simp)
  obtain ⟨na, ncap, hqv⟩ := hs.shape
  obtain ⟨aa, cap, rfl, _, _, hcell⟩ := hat.s.rchs
  obtain ⟨bk, o, rfl, hbk, hcell⟩ := hcell (by simp)
  obtain ⟨_, c1, c2, c3, c4⟩ := hcell 3 q3 rfl
  rw [hc] at c1
  rw [hle] at c2
  rw [hmo] at c3
  rw [hqv, hnx] at c4
  have HC : Hid (∀ wq, Below w3.heap.size w3 wq → wq.cell? ⟨bk, o + 3 * 5 + 1, none⟩ = some (.int .i64 2) ∧ wq.cell? ⟨bk, o + 3 * 5 + 2, none⟩ = some (.int .i64 1) ∧ wq.cell? ⟨bk, o + 3 * 5 + 3, none⟩ = some (.int .i64 2) ∧ wq.cell? ⟨bk, o + 3 * 5 + 4, none⟩ = some (.slice na 3 ncap)) := hidIn fun wq hq => ⟨(hq.cell (p := ⟨bk, o + 3 * 5 + 1, none⟩) hbk).trans c1, (hq.cell (p := ⟨bk, o + 3 * 5 + 2, none⟩) hbk).trans c2, (hq.cell (p := ⟨bk, o + 3 * 5 + 3, none⟩) hbk).trans c3, (hq.cell (p := ⟨bk, o + 3 * 5 + 4, none⟩) hbk).trans c4⟩
  clear hs hnl hqv hcell c1 c2 c3 c4 hc hle hmo hnx h0 h1 h2 h3 hat hrow his hown hmid hbk
  simp only [List.length_cons, List.length_nil, Nat.zero_add, Nat.reduceAdd]
  go_wp2_with fail
  refine (example_any _).mono ?_
  rintro e w4 ⟨⟨a, b, rfl, hG⟩, hb4⟩
  have HF := hidIn (count_any hG.at 1 4)
  have HB4 := hidIn (HB3.out.trans (hb4.mono HB3.out.size))
  have Hb4 := hidIn hb4
  obtain ⟨ua2, ucap2, rfl⟩ := row_shape hG.n
  obtain ⟨va2, vcap2, rfl⟩ := row_shape hG.e
  clear hG hb4
  go_wp2_with fail
  refine HF.out.mono ?_
  rintro e w5 ⟨h5, hb5⟩
  have HB5 := hidIn (HB4.out.trans (hb5.mono HB4.out.size))
  obtain ⟨c1, c2, c3, c4⟩ := HC.out w5 (Hb4.out.trans (hb5.mono Hb4.out.size))
  clear HF hb5 HB4 Hb4 HC
  rcases h5 with ⟨h5, _⟩ | ⟨_, P, hP, hN, rfl⟩
  · exact absurd h5 (by decide)
  rw [show ((4 : Int)).toNat = 4 from rfl, ex_count hP hN]
  clear hP hN
  simp at c1 c2 c3 c4
  go_wp2_with fail
  go_ret
  exact ⟨rfl, HB5.out⟩
end Go.Proofs.Ytgjnljcphcmmeaa
namespace Go.Proofs.Ytgjnljcphcmmeaa
open Go.RowKit

theorem cs_ds {ns : List Int} {es : List Ed} {r t d : Int} {l : List Rr} (h : IsFrom ns es r l) (ht : t ∈ ns) (hd : Ds es r t d) : csL l t = d := by
  obtain ⟨q, hq, hqn⟩ := h.all t d ht hd
  unfold csL
  cases hf : l.find? (fun r => decide (r.node = t)) with
  | none => exact absurd hqn (by simpa using List.find?_eq_none.1 hf q hq)
  | some s =>
    have h1 := List.mem_of_find?_eq_some hf
    have h2 : s.node = t := by simpa using List.find?_some hf
    obtain ⟨_, d2, hd2, hR2⟩ := h.right s h1
    rw [h2] at hd2
    show s.cost = d
    rw [hR2.cost]
    exact hd2.uniq hd
theorem cs_none {ns : List Int} {es : List Ed} {r t : Int} {l : List Rr} (h : IsFrom ns es r l) (hno : ∀ d, ¬ Ds es r t d) : csL l t = -1 := by
  unfold csL
  cases hf : l.find? (fun r => decide (r.node = t)) with
  | none => rfl
  | some s =>
    have h1 := List.mem_of_find?_eq_some hf
    have h2 : s.node = t := by simpa using List.find?_some hf
    obtain ⟨_, d2, hd2, _⟩ := h.right s h1
    rw [h2] at hd2
    exact absurd hd2 (hno d2)
/-- What a node costs is at most so much. -/
theorem ds_bd {es : List Ed} {r : Int} {P : List (Int × Int)} (h : IsNear es r P) (hn : NdOk P) {x d : Int} (hd : Ds es r x d) : d ≤ 100000 := by
  obtain ⟨hh, hw⟩ := hd.1
  obtain ⟨b, hb, h1, h2⟩ := h.mn x d hh hw
  obtain ⟨h', hw'⟩ := h.wp b hb
  rw [h1] at hw'
  have := hd.2 _ _ hw'
  have := (hn.2 b hb).2.2
  omega
theorem cs_bd {ns : List Int} {es : List Ed} {r : Int} {P : List (Int × Int)} {l : List Rr} (hok : graphOk ns es = true) (h : IsFrom ns es r l) (hP : IsNear es r P) (hn : NdOk P) (t : Int) : -1 ≤ csL l t ∧ csL l t ≤ 100000 := by
  unfold csL
  cases hf : l.find? (fun r => decide (r.node = t)) with
  | none => simp
  | some s =>
    have h1 := List.mem_of_find?_eq_some hf
    obtain ⟨_, d2, hd2, hR⟩ := h.right s h1
    have := ds_bd hP hn hd2
    have := hd2.nonneg (graphOk_pos hok)
    have := hR.cost
    show -1 ≤ s.cost ∧ s.cost ≤ 100000
    omega
theorem cs_edge {ns : List Int} {es : List Ed} {r : Int} {l : List Rr} (hok : graphOk ns es = true) (h : IsFrom ns es r l) {e : Ed} (he : e ∈ es) (h0 : 0 ≤ csL l e.1) : 0 ≤ csL l e.2.1 ∧ csL l e.2.1 ≤ csL l e.1 + e.2.2 := by
  have hp := graphOk_pos hok
  have hbd := graphOk_bd hok
  by_cases hex : ∃ d, Ds es r e.1 d
  · obtain ⟨d, hd⟩ := hex
    rw [cs_ds h (hbd.2.1 e he).1 hd]
    obtain ⟨hh, hw⟩ := hd.1
    obtain ⟨d2, hd2, hle⟩ := ds_of hp (hw.step he)
    rw [cs_ds h (hbd.2.1 e he).2 hd2]
    have := hd2.nonneg hp
    omega
  · rw [cs_none h (fun d hd => hex ⟨d, hd⟩)] at h0
    omega
theorem cs_nb {ns : List Int} {es : List Ed} {r : Int} {l : List Rr} (hok : graphOk ns es = true) (h : IsFrom ns es r l) {p : Rr} (hpl : p ∈ l) (hne : p.node ≠ r) : ∃ (k : Nat) (e : Ed), es[k]? = some e ∧ e.2.1 = p.node ∧ 0 ≤ csL l e.1 ∧ csL l e.1 + e.2.2 = p.cost := by
  have hp := graphOk_pos hok
  have hbd := graphOk_bd hok
  obtain ⟨hn, d, hd, hR⟩ := h.right p hpl
  obtain ⟨hh, hw⟩ := hd.1
  rcases hw.last with ⟨h1, _⟩ | ⟨e, he, c', h', hw', h1, h2, _⟩
  · exact absurd h1 hne
  · obtain ⟨k, hk⟩ := List.getElem?_of_mem he
    have hi := (into_last hd he hw' h1 h2).1
    obtain ⟨_, _, d1, hd1, hd2⟩ := hi
    have h3 := hd.uniq hd2
    refine ⟨k, e, hk, h1.symm, ?_, ?_⟩
    · rw [cs_ds h (hbd.2.1 e he).1 hd1]; exact hd1.nonneg hp
    · rw [cs_ds h (hbd.2.1 e he).1 hd1, hR.cost]; omega
theorem fr_root {ns : List Int} {es : List Ed} {r : Int} {l : List Rr} (h : IsFrom ns es r l) {p : Rr} (hpl : p ∈ l) (he : p.node = r) : p.least = 0 ∧ p.most = 0 ∧ p.next = [] := by
  obtain ⟨_, d, _, hR⟩ := h.right p hpl
  have := hR.root he
  rw [this]
  exact ⟨rfl, rfl, rfl⟩
theorem wayA_wl {ns : List Int} {es : List Ed} {r x d : Int} {l : List Int} (hok : graphOk ns es = true) (hr : r ∈ ns) (k : Wl es r l x d) : wayA ns es l = (d, 0) := by
  have h := k.ok hok hr
  obtain ⟨t, rfl, ht, _⟩ := h.head
  have hnd : ndAll ns es (r :: t) = true := by
    unfold ndAll
    rw [hok, Bool.true_and, List.all_eq_true]
    intro y hy
    exact hasN_iff.2 (h.nodes y hy)
  simp only [wayA]
  rw [if_pos hnd, ht]
/-- What First tells of a node that is in From's list. -/
theorem fr_way {ns : List Int} {es : List Ed} {r : Int} {P : List (Int × Int)} {l : List Rr} (hok : graphOk ns es = true) (hr : r ∈ ns) (h : IsFrom ns es r l) (hP : IsNear es r P) (hn : NdOk P) {p : Rr} (hpl : p ∈ l) (hne : p.node ≠ r) :
    ∃ (b : Int) (t : List Int), fstT r (told es P P) p.node.toNat = some (r :: b :: t) ∧ (r :: b :: t)[t.length + 1]? = some p.node ∧ p.least ≤ ((t.length + 1 : Nat) : Int) ∧ ((t.length + 1 : Nat) : Int) ≤ p.most ∧ wayA ns es (r :: b :: t) = (p.cost, 0) ∧ b ∈ p.next ∧ ((t.length + 1 : Nat) : Int) ≤ 100000 := by
  obtain ⟨hm, d, hd, hR⟩ := h.right p hpl
  obtain ⟨w, h1, h2, _⟩ := fst_right hok hr hP hn _ p.node d rfl hm hd
  have hk := h2.ok hok hr
  obtain ⟨t0, rfl, _, h3⟩ := hk.head
  rcases h3 with ⟨_, h4, _⟩ | ⟨b, t, rfl, hF⟩
  · exact absurd h4 hne
  · have hl := hk.last
    have hwy := hk.wy
    have hh := hR.hops _ hwy
    simp only [List.length_cons, Nat.add_sub_cancel] at hh
    have hwp := (hwy.pos (graphOk_pos hok)).1
    have hbd := ds_bd hP hn hd
    simp only [List.length_cons, Nat.add_sub_cancel] at hwp
    refine ⟨b, t, h1, ?_, hh.1, hh.2, ?_, (hR.nx hne b).2 hF, by omega⟩
    · rw [List.getLast?_eq_getElem?] at hl
      simpa using hl
    · rw [wayA_wl hok hr h2, hR.cost]
/-- From's answer, and who is near. -/
theorem from_both {ns : List Int} {es : List Ed} {vn ve : Value} {w : World} (h : GrAt w vn ve ns es) {r : Int} (hnd : ndAll ns es [r] = true) :
    Calls Try.prog 8 #[grV vn ve, .int .i64 r] w fun e w' => (∃ (l : List (Rr × Value)) (u : Value), e = .returned (.tuple #[u, .int .i64 0]) ∧ RlAt w' u l ∧ IsFrom ns es r (l.map (·.1)) ∧ l.length ≤ 25 ∧ ∃ P, IsNear es r P ∧ NdOk P) ∧ Below w.heap.size w w' := by
  refine (from_any h r).mono ?_
  rintro e w' ⟨⟨h1, _⟩ | ⟨h1, P, C, vs, hP, hN, hC, u, mid, B, he, hmid, hrow, hx⟩, hb⟩
  · rw [hnd] at h1; cases h1
  · simp only [ndAll, List.all_cons, List.all_nil, Bool.and_true, Bool.and_eq_true] at h1
    refine ⟨⟨outR (rchT r C (told es P P)) vs 25, u, he, ⟨slAt_of_row (cs := rwc) (fun _ => rfl) hrow rfl, fun p hp => ?_⟩, from_is vs h1.1 (hasN_iff.1 h1.2) hP hN hC, outR_len _ _ _, P, hP, hN⟩, hb⟩
    obtain ⟨i, hi, _, rfl⟩ := outR_mem.1 hp
    have hbd := graphOk_bd h1.1
    have h3 := rchT_ok r C (told es P P) (fun e he => hbd.1 _ (hbd.2.1 e (hC e he).1).2) i
    have h4 := rise_len h3.np h3.nb
    have h5 := (hx i hi).1.sl (by omega)
    exact ⟨h5.1, h5.2, by show (rchT r C (told es P P) i).next.length ≤ _; omega⟩
end Go.Proofs.Ytgjnljcphcmmeaa
namespace Go.Proofs.Ytgjnljcphcmmeaa
open Go.RowKit

theorem first_3 {r n x a b : Int} {t l : List Int} {es : List Ed} {ns : List Int} (hok : graphOk ns es = true) (hr : r ∈ ns) (k : Wl es r l x 2) (hl : l = r :: n :: t) (hab : cmpL l [r, a, b] ≤ 0) (hn : a ≤ n) (hax : a ≠ x) (hbx : b = x) : l = [r, a, b] := by
  subst hl
  have h := k.ok hok hr
  have hlen := (h.wy.pos (graphOk_pos hok)).1
  simp only [List.length_cons, Nat.add_sub_cancel] at hlen
  have hna : n = a := by
    simp only [cmpL] at hab
    rw [if_neg (by omega), if_neg (by omega)] at hab
    by_cases h1 : n < a
    · omega
    · by_cases h2 : a < n
      · rw [if_neg h1, if_pos h2] at hab; omega
      · omega
  subst hna
  have hlast := h.last
  match t, hlen, hlast with
  | [], _, hlast =>
    simp at hlast
    exact absurd hlast hax
  | [y], _, hlast =>
    simp at hlast
    rw [hlast, hbx]
  | _ :: _ :: _, hlen, _ =>
    simp at hlen
    omega
theorem ex_mem {x : Int} (h : 1 ≤ x ∧ x ≤ 4) : x ∈ tabN 4 := tabN_mem.2 h
theorem ex_first {P : List (Int × Int)} (hP : IsNear exE 1 P) (hn : NdOk P) : fstT 1 (told exE P P) 4 = some [1, 2, 4] := by
  obtain ⟨l, h1, h2, h3⟩ := fst_right ex_ok (ex_mem (by omega)) hP hn _ 4 2 rfl (ex_mem (by omega)) ex_ds.2.2.2
  have hw : Wl exE 1 [1, 2, 4] 4 2 := ((Wl.refl exE 1).step (e := (1, 2, 1)) (by decide)).step (e := (2, 4, 1)) (by decide)
  have hc := h3 _ hw
  obtain ⟨t, ht, _, h4⟩ := (h2.ok ex_ok (ex_mem (by omega))).head
  rcases h4 with ⟨_, h5, _⟩ | ⟨n, t', rfl, e, he, he1, he2, _⟩
  · omega
  · have hn2 : 2 ≤ n := by
      simp only [exE, List.mem_cons, List.not_mem_nil, or_false] at he
      rcases he with rfl | rfl | rfl | rfl | rfl | rfl | rfl | rfl | rfl | rfl <;> simp at he1 he2 <;> omega
    have := first_3 ex_ok (ex_mem (by omega)) h2 ht hc hn2 (by omega) rfl
    rw [← this]
    exact h1
def exG (x : Int) : Int := if x = 3 then 0 else if x = 2 then 2 else 1
theorem ex_low3 {x c : Int} {h : Nat} (k : Wy exE 3 x c h) : exG x ≤ c :=
  k (fun x c _ => exG x ≤ c) (by decide) (fun e he c h hs => by
    simp only [exE, List.mem_cons, List.not_mem_nil, or_false] at he
    rcases he with rfl | rfl | rfl | rfl | rfl | rfl | rfl | rfl | rfl | rfl <;> simp [exG] at hs ⊢ <;> omega)
theorem ex_ds3 : Ds exE 3 2 2 := ⟨⟨_, (Wy.one (es := exE) (e := (3, 1, 1)) (by decide)).step (e := (1, 2, 1)) (by decide)⟩, fun _ _ h => ex_low3 h⟩
theorem ex_second {P : List (Int × Int)} (hP : IsNear exE 3 P) (hn : NdOk P) : fstT 3 (told exE P P) 2 = some [3, 1, 2] := by
  obtain ⟨l, h1, h2, h3⟩ := fst_right ex_ok (ex_mem (by omega)) hP hn _ 2 2 rfl (ex_mem (by omega)) ex_ds3
  have hw : Wl exE 3 [3, 1, 2] 2 2 := ((Wl.refl exE 3).step (e := (3, 1, 1)) (by decide)).step (e := (1, 2, 1)) (by decide)
  have hc := h3 _ hw
  obtain ⟨t, ht, _, h4⟩ := (h2.ok ex_ok (ex_mem (by omega))).head
  rcases h4 with ⟨_, h5, _⟩ | ⟨n, t', rfl, e, he, he1, he2, _⟩
  · omega
  · have hn2 : 1 ≤ n := by
      simp only [exE, List.mem_cons, List.not_mem_nil, or_false] at he
      rcases he with rfl | rfl | rfl | rfl | rfl | rfl | rfl | rfl | rfl | rfl <;> simp at he1 he2 <;> omega
    have := first_3 ex_ok (ex_mem (by omega)) h2 ht hc hn2 (by omega) rfl
    rw [← this]
    exact h1
theorem told_none (P : List (Int × Int)) : ∀ Q, told [] P Q = []
  | [] => rfl
  | _ :: Q => by
    show [] ++ told [] P Q = []
    rw [told_none P Q]
    rfl
theorem two_cnt (P : List (Int × Int)) : cntT 1 (told [] P P) 2 = 0 ∧ cntT 2 (told [] P P) 2 = 1 ∧ fstT 1 (told [] P P) 2 = none ∧ fstT 2 (told [] P P) 2 = some [2] := by
  rw [told_none]
  decide
theorem ex_ways : wayA (tabN 4) exE [1, 2, 1, 2] = (3, 0) ∧ wayA (tabN 4) exE [2, 3] = (0, 6) ∧ wayA (tabN 4) exE [] = (0, 2) ∧ wayA (tabN 4) exE [5] = (0, 2) ∧ wayA (tabN 4) exE [3] = (0, 0) := by
  refine ⟨by decide, by decide, by decide, by decide, by decide⟩
theorem ex_nds : ndAll (tabN 4) exE [1, 4] = true ∧ ndAll (tabN 4) exE [3, 2] = true ∧ ndAll (tabN 4) exE [5] = false ∧ ndAll [2, 1] [] [1] = false ∧ ndAll [1, 2] [] [1, 2] = true ∧ ndAll [1, 2] [] [2, 2] = true := by
  refine ⟨by decide, by decide, by decide, by decide, by decide, by decide⟩
end Go.Proofs.Ytgjnljcphcmmeaa
namespace Go.Proofs.Ytgjnljcphcmmeaa
open Go.RowKit

theorem ints_block {w : World} {b : Nat} {T : TypeId} (l : List Int) (h : w.heap[b]? = some (.cells (fl ic l).toArray T)) (hl : l.length ≤ 1000) : SlAt ic 1 w (.slice (some ⟨b, 0, none⟩) l.length l.length) l := slAt_block (cs := ic) (sz := 1) (fun _ => rfl) h hl
set_option maxRecDepth 100000 in
set_option maxHeartbeats 4000000 in
theorem pathsKnown_walk (w : World) : Calls Try.prog 6 #[] w fun e w' => e = .returned (.bool true) ∧ Below w.heap.size w w' := by
  go_enter Try.func6, Try.ntmps6
  go_wp2_with fail
  refine (example_any _).mono ?_
  rintro e w2 ⟨⟨va, vb, rfl, hG⟩, hb2⟩
  obtain ⟨ua, ucap, rfl⟩ := row_shape hG.n
  obtain ⟨ub, vcap, rfl⟩ := row_shape hG.e
  obtain ⟨n4, hn4⟩ : ∃ n4, (tabN 4).length = n4 := ⟨_, rfl⟩
  obtain ⟨el, hel⟩ : ∃ el, exE.length = el := ⟨_, rfl⟩
  rw [hn4, hel] at hG ⊢
  obtain ⟨W3, hW3⟩ : ∃ W3, w2.alloc (.cells #[.slice ua n4 ucap, .slice ub el vcap] 25) = W3 := ⟨_, rfl⟩
  have b3 : Below w2.heap.size w2 W3 := by rw [← hW3]; exact (Below.refl _ w2).alloc (Nat.le_refl _) _
  have hX : W3.heap[w2.heap.size]? = some (.cells #[.slice ua n4 ucap, .slice ub el vcap] 25) := by rw [← hW3]; exact heap_alloc_last w2 _
  obtain ⟨gb, hgb⟩ : ∃ gb, w2.heap.size = gb := ⟨_, rfl⟩
  rw [hgb] at hX
  have HGA := hidIn (hG.at.keep b3 (Nat.le_refl _))
  have HB3 := hidIn (hb2.trans (b3.mono hb2.size))
  have HX := hidIn hX
  have HW := hidIn hW3
  have HK : Hid (∀ wq, Below W3.heap.size W3 wq → (wq.cell? ⟨gb, 0, none⟩ = some (.slice ua n4 ucap) ∧ wq.cell? ⟨gb, 1, none⟩ = some (.slice ub el vcap)) ∧ GrAt wq (.slice ua n4 ucap) (.slice ub el vcap) (tabN 4) exE ∧ Below w.heap.size w wq) := hidIn fun wq h => by
    have j0 := (h.block _ (block_lt HX.out)).trans HX.out
    exact ⟨⟨cell_of_row _ _ 0 _ _ _ j0, cell_of_row _ _ 1 _ _ _ j0⟩, HGA.out.keep h (Nat.le_refl _), HB3.out.trans (h.mono HB3.out.size)⟩
  clear hG hb2 b3 hX hW3 hn4 hel HGA HB3 HX
  go_upto_region 2 with fail
  rw [HW.out]
  clear HW hgb
  obtain ⟨⟨g0, g1⟩, hGA, _⟩ := HK.out W3 (Below.refl _ _)
  have HC := hidIn (first_any hGA 1 4)
  clear hGA
  go_wp2_with fail
  refine HC.out.mono ?_
  rintro e w4 ⟨h4, hb4⟩
  rcases h4 with ⟨h4, _⟩ | ⟨_, P, hP, hPn, hfa⟩
  · exact absurd h4 (by rw [ex_nds.1]; simp)
  rw [show ((4 : Int)).toNat = 4 from rfl, ex_first hP hPn] at hfa
  obtain ⟨wv, rfl, hws, _⟩ := hfa
  obtain ⟨wa, wcap, rfl, _, _, hwc⟩ := hws.ints
  obtain ⟨wb, wo, rfl, hwb, hwc⟩ := hwc (by simp)
  have c1 := hwc 1 2 rfl
  have HB4 := hidIn hb4
  have HA1 : Hid (∀ wq, Below w4.heap.size w4 wq → wq.cell? ⟨wb, wo + 1, none⟩ = some (.int .i64 2)) := hidIn fun wq hq => (hq.cell (p := ⟨wb, wo + 1, none⟩) hwb).trans c1
  clear hws hwc hwb c1 hb4 HC g0 g1 hP hPn P
  obtain ⟨⟨g0, g1⟩, hGA, _⟩ := HK.out w4 HB4.out
  have HC := hidIn (first_any hGA 3 2)
  clear hGA
  simp only [List.length_cons, List.length_nil, Nat.zero_add, Nat.reduceAdd]
  go_wp2_with fail
  refine HC.out.mono ?_
  rintro e w5 ⟨h5, hb5⟩
  rcases h5 with ⟨h5, _⟩ | ⟨_, P, hP, hPn, hfa⟩
  · exact absurd h5 (by rw [ex_nds.2.1]; simp)
  rw [show ((2 : Int)).toNat = 2 from rfl, ex_second hP hPn] at hfa
  obtain ⟨wv, rfl, hws, _⟩ := hfa
  obtain ⟨wa, wcap2, rfl, _, _, hwc⟩ := hws.ints
  obtain ⟨wb2, wo2, rfl, hwb, hwc⟩ := hwc (by simp)
  have c2 := hwc 1 1 rfl
  have c1 := HA1.out w5 hb5
  have HB5 := hidIn (HB4.out.trans (hb5.mono HB4.out.size))
  clear hws hwc hwb hb5 HC HA1 g0 g1 hP hPn P HB4
  obtain ⟨⟨g0, g1⟩, hGA, _⟩ := HK.out w5 HB5.out
  obtain ⟨W6, hW⟩ : ∃ W6, w5.alloc (.cells #[.int .i64 1, .int .i64 2, .int .i64 1, .int .i64 2] 3) = W6 := ⟨_, rfl⟩
  have b6 : Below w5.heap.size w5 W6 := by rw [← hW]; exact (Below.refl _ w5).alloc (Nat.le_refl _) _
  have hS6 := ints_block (w := W6) (b := w5.heap.size) (T := 3) [1, 2, 1, 2] (by rw [← hW]; exact heap_alloc_last w5 _) (by decide)
  have HC := hidIn (pcost_any (hGA.keep b6 (Nat.le_refl _)) hS6 (by decide))
  rw [ex_ways.1] at HC
  have HBW := hidIn (HB5.out.trans (b6.mono HB5.out.size))
  have HW := hidIn hW
  clear hGA b6 hS6 hW
  simp only [List.length_cons, List.length_nil, Nat.zero_add, Nat.reduceAdd] at HC ⊢
  go_wp2_with (rw [HW.out])
  refine HC.out.mono ?_
  rintro e w7 ⟨rfl, hbn⟩
  have HB7 := hidIn (HBW.out.trans (hbn.mono HBW.out.size))
  clear c1 c2 HC HBW hbn g0 g1 HB5 HW
  obtain ⟨⟨g0, g1⟩, hGA, _⟩ := HK.out w7 HB7.out
  obtain ⟨W8, hW⟩ : ∃ W8, w7.alloc (.cells #[.int .i64 2, .int .i64 3] 3) = W8 := ⟨_, rfl⟩
  have b6 : Below w7.heap.size w7 W8 := by rw [← hW]; exact (Below.refl _ w7).alloc (Nat.le_refl _) _
  have hS6 := ints_block (w := W8) (b := w7.heap.size) (T := 3) [2, 3] (by rw [← hW]; exact heap_alloc_last w7 _) (by decide)
  have HC := hidIn (pcost_any (hGA.keep b6 (Nat.le_refl _)) hS6 (by decide))
  rw [ex_ways.2.1] at HC
  have HBW := hidIn (HB7.out.trans (b6.mono HB7.out.size))
  have HW := hidIn hW
  clear hGA b6 hS6 hW
  simp only [List.length_cons, List.length_nil, Nat.zero_add, Nat.reduceAdd] at HC ⊢
  go_wp2_with (rw [HW.out])
  refine HC.out.mono ?_
  rintro e w9 ⟨rfl, hbn⟩
  have HB9 := hidIn (HBW.out.trans (hbn.mono HBW.out.size))
  clear HC HBW hbn g0 g1 HB7 HW
  obtain ⟨⟨g0, g1⟩, hGA, _⟩ := HK.out w9 HB9.out
  have HC := hidIn (pcost_any hGA (slAt_nil ic 1 w9) (by decide))
  rw [ex_ways.2.2.1] at HC
  have HBW := hidIn HB9.out
  clear hGA
  go_wp2_with fail
  refine HC.out.mono ?_
  rintro e w11 ⟨rfl, hbn⟩
  have HB11 := hidIn (HBW.out.trans (hbn.mono HBW.out.size))
  clear HC HBW hbn g0 g1 HB9 
  obtain ⟨⟨g0, g1⟩, hGA, _⟩ := HK.out w11 HB11.out
  obtain ⟨W12, hW⟩ : ∃ W12, w11.alloc (.cells #[.int .i64 5] 3) = W12 := ⟨_, rfl⟩
  have b6 : Below w11.heap.size w11 W12 := by rw [← hW]; exact (Below.refl _ w11).alloc (Nat.le_refl _) _
  have hS6 := ints_block (w := W12) (b := w11.heap.size) (T := 3) [5] (by rw [← hW]; exact heap_alloc_last w11 _) (by decide)
  have HC := hidIn (pcost_any (hGA.keep b6 (Nat.le_refl _)) hS6 (by decide))
  rw [ex_ways.2.2.2.1] at HC
  have HBW := hidIn (HB11.out.trans (b6.mono HB11.out.size))
  have HW := hidIn hW
  clear hGA b6 hS6 hW
  simp only [List.length_cons, List.length_nil, Nat.zero_add] at HC ⊢
  go_wp2_with (rw [HW.out])
  refine HC.out.mono ?_
  rintro e w13 ⟨rfl, hbn⟩
  have HB13 := hidIn (HBW.out.trans (hbn.mono HBW.out.size))
  clear HC HBW hbn g0 g1 HB11 HW
  obtain ⟨⟨g0, g1⟩, hGA, _⟩ := HK.out w13 HB13.out
  obtain ⟨W14, hW⟩ : ∃ W14, w13.alloc (.cells #[.int .i64 3] 3) = W14 := ⟨_, rfl⟩
  have b6 : Below w13.heap.size w13 W14 := by rw [← hW]; exact (Below.refl _ w13).alloc (Nat.le_refl _) _
  have hS6 := ints_block (w := W14) (b := w13.heap.size) (T := 3) [3] (by rw [← hW]; exact heap_alloc_last w13 _) (by decide)
  have HC := hidIn (pcost_any (hGA.keep b6 (Nat.le_refl _)) hS6 (by decide))
  rw [ex_ways.2.2.2.2] at HC
  have HBW := hidIn (HB13.out.trans (b6.mono HB13.out.size))
  have HW := hidIn hW
  clear hGA b6 hS6 hW
  simp only [List.length_cons, List.length_nil, Nat.zero_add] at HC ⊢
  go_wp2_with (rw [HW.out])
  refine HC.out.mono ?_
  rintro e w15 ⟨rfl, hbn⟩
  have HB15 := hidIn (HBW.out.trans (hbn.mono HBW.out.size))
  clear HC HBW hbn g0 g1 HB13 HW
  obtain ⟨V1, hV1⟩ : ∃ V1, (w15.alloc (.cells #[.int .i64 1, .int .i64 2] 3)).alloc (.cells #[.slice (some ⟨w15.heap.size, 0, none⟩) 2 2, .slice none 0 0] 25) = V1 := ⟨_, rfl⟩
  have bV : Below w15.heap.size w15 V1 := by rw [← hV1]; exact ((Below.refl _ w15).alloc (Nat.le_refl _) _).alloc (by simp) _
  have hY : V1.heap[w15.heap.size + 1]? = some (.cells #[.slice (some ⟨w15.heap.size, 0, none⟩) 2 2, .slice none 0 0] 25) := by
    have := heap_alloc_last (w15.alloc (.cells #[.int .i64 1, .int .i64 2] 3)) (.cells #[.slice (some ⟨w15.heap.size, 0, none⟩) 2 2, .slice none 0 0] 25)
    rw [World.size_alloc, hV1] at this
    exact this
  have hS := ints_block (w := V1) (b := w15.heap.size) (T := 3) [1, 2] (by rw [← hV1, Below.heap_alloc _ _ _ (by simp)]; exact heap_alloc_last w15 _) (by decide)
  obtain ⟨tb, htb⟩ : ∃ tb, w15.heap.size = tb := ⟨_, rfl⟩
  rw [htb] at hY hS
  have HK2 : Hid (∀ wq, Below V1.heap.size V1 wq → (wq.cell? ⟨tb + 1, 0, none⟩ = some (.slice (some ⟨tb, 0, none⟩) 2 2) ∧ wq.cell? ⟨tb + 1, 1, none⟩ = some (.slice none 0 0)) ∧ GrAt wq (.slice (some ⟨tb, 0, none⟩) 2 2) (.slice none 0 0) [1, 2] []) := hidIn fun wq h => by
    have j0 := (h.block _ (block_lt hY)).trans hY
    exact ⟨⟨cell_of_row _ _ 0 _ _ _ j0, cell_of_row _ _ 1 _ _ _ j0⟩, hS.keep h (Nat.le_refl _), slAt_nil ec 3 wq⟩
  have HBV := hidIn (HB15.out.trans (bV.mono HB15.out.size))
  have HW := hidIn hV1
  rw [htb] at HW
  clear bV hY hS hV1 HB15
  go_upto_region 14 with fail
  rw [HW.out]
  clear HW htb
  obtain ⟨⟨t0, t1⟩, hGA⟩ := HK2.out V1 (Below.refl _ _)
  have HC := hidIn (count_any hGA 1 2)
  clear hGA
  go_wp2_with fail
  refine HC.out.mono ?_
  rintro e w20 ⟨hx, hbn⟩
  rcases hx with ⟨hx, _⟩ | ⟨_, P, hP, hPn, hfa⟩
  · exact absurd hx (by rw [ex_nds.2.2.2.2.1]; simp)
  rw [show ((2 : Int)).toNat = 2 from rfl, (two_cnt P).1] at hfa
  subst hfa
  have HBn21 := hidIn (HBV.out.trans (hbn.mono HBV.out.size))
  have HBt21 := hidIn hbn
  clear HC hbn t0 t1 hP hPn P
  obtain ⟨⟨t0, t1⟩, hGA⟩ := HK2.out w20 HBt21.out
  have HC := hidIn (count_any hGA 2 2)
  clear hGA
  go_wp2_with fail
  refine HC.out.mono ?_
  rintro e w21 ⟨hx, hbn⟩
  rcases hx with ⟨hx, _⟩ | ⟨_, P, hP, hPn, hfa⟩
  · exact absurd hx (by rw [ex_nds.2.2.2.2.2]; simp)
  rw [show ((2 : Int)).toNat = 2 from rfl, (two_cnt P).2.1] at hfa
  subst hfa
  have HBn22 := hidIn (HBn21.out.trans (hbn.mono HBn21.out.size))
  have HBt22 := hidIn (HBt21.out.trans (hbn.mono HBt21.out.size))
  clear HC hbn t0 t1 hP hPn P
  obtain ⟨⟨t0, t1⟩, hGA⟩ := HK2.out w21 HBt22.out
  have HC := hidIn (first_any hGA 1 2)
  clear hGA
  go_wp2_with fail
  refine HC.out.mono ?_
  rintro e w22 ⟨hx, hbn⟩
  rcases hx with ⟨hx, _⟩ | ⟨_, P, hP, hPn, hfa⟩
  · exact absurd hx (by rw [ex_nds.2.2.2.2.1]; simp)
  rw [show ((2 : Int)).toNat = 2 from rfl, (two_cnt P).2.2.1] at hfa
  have hfa' : e = .returned (.tuple #[.slice none 0 0, .int .i64 6]) := hfa
  subst hfa'
  clear hfa
  have HBn23 := hidIn (HBn22.out.trans (hbn.mono HBn22.out.size))
  have HBt23 := hidIn (HBt22.out.trans (hbn.mono HBt22.out.size))
  clear HC hbn t0 t1 hP hPn P
  obtain ⟨⟨g0, g1⟩, hGA, _⟩ := HK.out w22 HBn23.out
  have HC := hidIn (from_any hGA 5)
  clear hGA
  go_wp2_with fail
  refine HC.out.mono ?_
  rintro e w23 ⟨hx, hbn⟩
  rcases hx with ⟨_, rfl⟩ | ⟨hx, _⟩
  case inr => exact absurd hx (by rw [ex_nds.2.2.1]; simp)
  have HBn24 := hidIn (HBn23.out.trans (hbn.mono HBn23.out.size))
  have HBt24 := hidIn (HBt23.out.trans (hbn.mono HBt23.out.size))
  clear HC hbn g0 g1
  obtain ⟨⟨t0, t1⟩, hGA⟩ := HK2.out w23 HBt24.out
  have HC := hidIn (first_any hGA 2 2)
  clear hGA
  go_wp2_with fail
  refine HC.out.mono ?_
  rintro e w24 ⟨hx, hbn⟩
  rcases hx with ⟨hx, _⟩ | ⟨_, P, hP, hPn, hfa⟩
  · exact absurd hx (by rw [ex_nds.2.2.2.2.2]; simp)
  rw [show ((2 : Int)).toNat = 2 from rfl, (two_cnt P).2.2.2] at hfa
  obtain ⟨wv, rfl, hws, _⟩ := hfa
  obtain ⟨wa9, wcap9, rfl⟩ := hws.shape
  clear hws
  have HBn25 := hidIn (HBn24.out.trans (hbn.mono HBn24.out.size))
  have HBt25 := hidIn (HBt24.out.trans (hbn.mono HBt24.out.size))
  clear HC hbn t0 t1 hP hPn P
  obtain ⟨V2, hV2⟩ : ∃ V2, w24.alloc (.cells #[.int .i64 2, .int .i64 1] 3) = V2 := ⟨_, rfl⟩
  have bV : Below w24.heap.size w24 V2 := by rw [← hV2]; exact (Below.refl _ w24).alloc (Nat.le_refl _) _
  have hS := ints_block (w := V2) (b := w24.heap.size) (T := 3) [2, 1] (by rw [← hV2]; exact heap_alloc_last w24 _) (by decide)
  have HC := hidIn (from_any (w := V2) (ns := [2, 1]) (es := []) ⟨hS, slAt_nil ec 3 V2⟩ 1)
  have HBW := hidIn (HBn25.out.trans (bV.mono HBn25.out.size))
  have HW := hidIn hV2
  clear bV hS hV2
  simp only [List.length_cons, List.length_nil, Nat.zero_add, Nat.reduceAdd] at HC ⊢
  go_wp2_with (rw [HW.out])
  refine HC.out.mono ?_
  rintro e w25 ⟨hx, hbn⟩
  rcases hx with ⟨_, rfl⟩ | ⟨hx, _⟩
  case inr => exact absurd hx (by rw [ex_nds.2.2.2.1]; simp)
  have HBz := hidIn (HBW.out.trans (hbn.mono HBW.out.size))
  clear HC hbn HBW HW
  go_wp2_with fail
  refine (pof_any (l := []) (v := .slice none 0 0) (t := 1) ⟨slAt_nil rwc 5 _, fun p hp => by simp at hp⟩).mono ?_
  rintro e wy ⟨hx, hbn⟩
  rcases hx with ⟨k, x, v, hx, _⟩ | ⟨_, rfl⟩
  · simp at hx
  have HBy := hidIn (HBz.out.trans (hbn.mono HBz.out.size))
  clear hbn HBz
  simp only [noR]
  go_wp2_with fail
  refine (works_any _).mono ?_
  rintro e wz ⟨rfl, hbn⟩
  have HB1 := HBy.out.alloc HBy.out.size (.cells #[.int .i64 0, .int .i64 0, .int .i64 0, .int .i64 0, .slice none 0 0] 34)
  have HBf := hidIn (HK.out wz (HB1.trans (hbn.mono HB1.size))).2.2
  clear hbn HB1
  go_wp2_with fail
  go_ret
  exact ⟨rfl, HBf.out⟩
end Go.Proofs.Ytgjnljcphcmmeaa
namespace Go.Proofs.Ytgjnljcphcmmeaa
open Go.ChangeShapes Go.WideShapes Go.ChangeAt Go.RowKit

section
variable {H : Type} {enc : TypeId × Value → H} {W : World}
theorem cU8 : Try.prog.cellsOf 5 = 1 := by kernel_rfl
theorem cLk8 : Try.prog.cellsOf 79 = 3 := by kernel_rfl
theorem bLk8 : Try.prog.bytesOf 79 = 3 := by kernel_rfl
theorem lk8F : Try.prog.underlying 79 = some (.struct #[(Try.prog.fieldsOf 79)[0]!, (Try.prog.fieldsOf 79)[1]!, (Try.prog.fieldsOf 79)[2]!]) := by kernel_rfl
theorem lk8F' : (((Try.prog.fieldsOf 79)[0]!).type = 5 ∧ ((Try.prog.fieldsOf 79)[0]!).offset = 0) ∧ (((Try.prog.fieldsOf 79)[1]!).type = 5 ∧ ((Try.prog.fieldsOf 79)[1]!).offset = 1) ∧ ((Try.prog.fieldsOf 79)[2]!).type = 5 ∧ ((Try.prog.fieldsOf 79)[2]!).offset = 2 := ⟨⟨by kernel_rfl, by kernel_rfl⟩, ⟨by kernel_rfl, by kernel_rfl⟩, by kernel_rfl, by kernel_rfl⟩
set_option maxRecDepth 100000 in
theorem lk8_cells {n : Nat} {cs' : List Value} {x : DataW H × List MemPlace} (h : DataW.trod enc Try.prog W 0 (fun _ => true) true n 79 cs' = some x) : ∃ y : Ed, cs' = lc3 y ∧ (0 ≤ y.1 ∧ y.1 ≤ 255) ∧ (0 ≤ y.2.1 ∧ y.2.1 ≤ 255) ∧ 0 ≤ y.2.2 ∧ y.2.2 ≤ 255 := by
  obtain ⟨y0, y1, y2, k, _, hlen, h0, h1, h2⟩ := Deep.trod_struct3 lk8F h
  obtain ⟨⟨a0, b0⟩, ⟨a1, b1⟩, a2, b2⟩ := lk8F'
  rw [cLk8] at hlen
  match cs', hlen with
  | [v0, v1, v2], _ =>
    rw [a0, b0, cU8] at h0
    rw [a1, b1, cU8] at h1
    rw [a2, b2, cU8] at h2
    obtain ⟨p, hp, _, wp⟩ := DataW.trod_int Try.underlying5 h0
    obtain ⟨q, hq, _, wq⟩ := DataW.trod_int Try.underlying5 h1
    obtain ⟨r, hr, _, wr⟩ := DataW.trod_int Try.underlying5 h2
    simp at hp hq hr
    exact ⟨(p, q, r), by rw [hp, hq, hr], bounds_u8 wp, bounds_u8 wq, bounds_u8 wr⟩
set_option maxRecDepth 100000 in
theorem lk8_arg {a : Option Addr} {len cap : Nat} {d : DataW H} {p : List MemPlace} (h : DataW.Trod enc Try.prog W 0 (fun _ => true) true 50 (.slice a len cap) d p) (hw : ∀ n ∈ d.weights Try.prog 50, n ≤ reachBytes) :
    ∃ ls, SlAt lc3 3 W (.slice a len cap) ls ∧ LkB ls ∧ NilOk (.slice a len cap) ∧ (ls.length + 1) * 3 ≤ 140737488355328 := by
  obtain ⟨fuel, hf⟩ := h
  obtain ⟨ns, hn1, hn2, hG, hn3⟩ := open_sl (0, 0, 0) (cs := lc3) (sz := 3) (fun _ => rfl) (by omega) Try.underlying50 cLk8 (fun n cs' x h => lk8_cells h) (by simpa [Value.cells] using hf)
  exact ⟨ns, hn1, hG, hn2, slice_weight Try.underlying50 bLk8 (by omega) hw (by rcases hn3 with rfl | h; exact .inl rfl; exact .inr h)⟩
end
end Go.Proofs.Ytgjnljcphcmmeaa
