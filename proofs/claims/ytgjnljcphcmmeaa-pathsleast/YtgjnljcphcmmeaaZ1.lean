/- From's answer, in ways. First, in ways: the way that it tells is one of least cost, and ahead of all others. -/
import Derived.Test.YtgjnljcphcmmeaaVQ3
import Derived.Test.YtgjnljcphcmmeaaV14
import Derived.Test.YtgjnljcphcmmeaaVQ8
import Derived.Test.YtgjnljcphcmmeaaV10
namespace Go.Proofs.Ytgjnljcphcmmeaa
open Go.RowKit

/-- What From shall answer. -/
structure IsFrom (ns : List Int) (es : List Ed) (r : Int) (l : List Rr) : Prop where
  rise : l.Pairwise fun a b => a.node < b.node
  right : ∀ p ∈ l, p.node ∈ ns ∧ ∃ d, Ds es r p.node d ∧ Right es r p.node d p
  all : ∀ x d, x ∈ ns → Ds es r x d → ∃ p ∈ l, p.node = x
theorem Ds.node {ns : List Int} {es : List Ed} (hok : graphOk ns es = true) {r x d : Int} (hr : r ∈ ns) (h : Ds es r x d) : x ∈ ns := by
  obtain ⟨hh, hw⟩ := h.1
  exact hw (fun x _ _ => x ∈ ns) hr (fun e he _ _ _ => ((graphOk_bd hok).2.1 e he).2)
theorem outR_mem {R : Nat → Rr} {vs : Nat → Value} {n : Nat} {p : Rr × Value} : p ∈ outR R vs n ↔ ∃ i, i < n ∧ (R i).node ≠ 0 ∧ p = (R i, vs i) := by
  unfold outR
  simp only [List.mem_map, List.mem_filter, List.mem_range, Bool.not_eq_true', decide_eq_false_iff_not]
  constructor
  · rintro ⟨i, ⟨h1, h2⟩, rfl⟩; exact ⟨i, h1, h2, rfl⟩
  · rintro ⟨i, h1, h2, rfl⟩; exact ⟨i, ⟨h1, h2⟩, rfl⟩
theorem outR_rise {R : Nat → Rr} {vs : Nat → Value} (h : ∀ i, i < 25 → (R i).node ≠ 0 → (R i).node = (i : Int)) : ∀ n, n ≤ 25 → (outR R vs n).Pairwise fun a b => a.1.node < b.1.node
  | 0, _ => by simp [outR]
  | n + 1, hn => by
    rw [outR_succ, List.pairwise_append]
    refine ⟨outR_rise h n (by omega), by split <;> simp, fun a ha b hb => ?_⟩
    obtain ⟨i, h1, h2, rfl⟩ := outR_mem.1 ha
    split at hb
    · simp at hb
    · rename_i h3
      rw [List.mem_singleton.1 hb]
      show (R i).node < (R n).node
      rw [h i (by omega) h2, h n (by omega) h3]
      omega
theorem from_is {ns : List Int} {es : List Ed} {r : Int} {P : List (Int × Int)} {C : Nat → Int} (vs : Nat → Value) (hok : graphOk ns es = true) (hr : r ∈ ns) (h : IsNear es r P) (hn : NdOk P) (hC : ∀ e ∈ told es P P, e ∈ es ∧ Ds es r e.2.1 (C e.2.1.toNat)) : IsFrom ns es r ((outR (rchT r C (told es P P)) vs 25).map (·.1)) := by
  have hbd := graphOk_bd hok
  obtain ⟨_, _, hno⟩ := fin_all (C := C) hok hr h hn
  have key : ∀ i, i < 25 → (rchT r C (told es P P) i).node ≠ 0 → (i : Int) ∈ ns ∧ ∃ d, Ds es r (i : Int) d ∧ Right es r (i : Int) d (rchT r C (told es P P) i) := fun i hi h0 => by
    have : ∃ d, Ds es r (i : Int) d := Classical.byContradiction fun hc => h0 (by rw [hno i hi (fun d hd => hc ⟨d, hd⟩)]; rfl)
    obtain ⟨d, hd⟩ := this
    have hm := hd.node hok hr
    have := fin_right hok hr h hn hC _ (i : Int) d rfl hm hd
    rw [show ((i : Int)).toNat = i from rfl] at this
    exact ⟨hm, d, hd, this⟩
  refine ⟨?_, fun p hp => ?_, fun x d hx hd => ?_⟩
  · rw [List.pairwise_map]
    exact outR_rise (fun i hi h0 => (key i hi h0).2.choose_spec.2.node) 25 (Nat.le_refl _)
  · obtain ⟨q, hq, rfl⟩ := List.mem_map.1 hp
    obtain ⟨i, h1, h2, rfl⟩ := outR_mem.1 hq
    obtain ⟨hm, d, hd, hR⟩ := key i h1 h2
    show (rchT r C (told es P P) i).node ∈ ns ∧ _
    rw [hR.node]
    exact ⟨hm, d, hd, hR⟩
  · have hx1 := hbd.1 x hx
    have hR := fin_right hok hr h hn hC _ x d rfl hx hd
    have hn0 : (rchT r C (told es P P) x.toNat).node ≠ 0 := by rw [hR.node]; omega
    exact ⟨_, List.mem_map.2 ⟨_, outR_mem.2 ⟨x.toNat, by omega, hn0, rfl⟩, rfl⟩, hR.node⟩
/-- From's answer. -/
def FromIs (w w' : World) (ns : List Int) (es : List Ed) (r : Int) (e : Ending) : Prop :=
  ∃ (l : List (Rr × Value)) (u : Value) (mid : Nat), e = .returned (.tuple #[u, .int .i64 0]) ∧ w.heap.size ≤ mid ∧ w'.ownsRow mid 34 5 u l.length (fl rwc l) ∧ RlAt w' u l ∧ IsFrom ns es r (l.map (·.1)) ∧ l.length ≤ 25 ∧ ∀ p ∈ l, ∀ k, p.2.ownBlock = some k → w.heap.size ≤ k ∧ k < mid
theorem from_right {ns : List Int} {es : List Ed} {vn ve : Value} {w : World} (h : GrAt w vn ve ns es) (r : Int) :
    Calls Try.prog 8 #[grV vn ve, .int .i64 r] w fun e w' => ((ndAll ns es [r] = false ∧ e = .returned (.tuple #[.slice none 0 0, .int .i64 2])) ∨ (ndAll ns es [r] = true ∧ FromIs w w' ns es r e)) ∧ Below w.heap.size w w' := by
  refine (from_any h r).mono ?_
  rintro e w' ⟨h1 | ⟨h1, P, C, vs, hP, hN, hC, u, mid, B, he, hmid, hrow, hx⟩, hb⟩
  · exact ⟨.inl h1, hb⟩
  · refine ⟨.inr ⟨h1, outR (rchT r C (told es P P)) vs 25, u, mid, he, hmid, hrow, ?_, ?_, outR_len _ _ _, ?_⟩, hb⟩
    · refine ⟨slAt_of_row (cs := rwc) (fun _ => rfl) hrow rfl, fun p hp => ?_⟩
      obtain ⟨i, hi, _, rfl⟩ := outR_mem.1 hp
      simp only [ndAll, List.all_cons, List.all_nil, Bool.and_true, Bool.and_eq_true] at h1
      have hbd := graphOk_bd h1.1
      have h3 := rchT_ok r C (told es P P) (fun e he => hbd.1 _ (hbd.2.1 e (hC e he).1).2) i
      have h4 := rise_len h3.np h3.nb
      have h5 := (hx i hi).1.sl (by omega)
      exact ⟨h5.1, h5.2, by show (rchT r C (told es P P) i).next.length ≤ _; omega⟩
    · simp only [ndAll, List.all_cons, List.all_nil, Bool.and_true, Bool.and_eq_true] at h1
      exact from_is vs h1.1 (hasN_iff.1 h1.2) hP hN hC
    · intro p hp k hk
      obtain ⟨i, hi, _, rfl⟩ := outR_mem.1 hp
      refine ⟨?_, (hx i hi).2 k hk⟩
      rcases (hx i hi).1 with ⟨_, e⟩ | ⟨g, o, cap, e, _, _, h6, _, _⟩
      · have hk' : (vs i).ownBlock = some k := hk
        rw [e] at hk'
        simp [Value.ownBlock] at hk'
      · have hk' : (vs i).ownBlock = some k := hk
        rw [e] at hk'
        simp [Value.ownBlock] at hk'
        omega
end Go.Proofs.Ytgjnljcphcmmeaa
namespace Go.Proofs.Ytgjnljcphcmmeaa

/-- A way as the list of its nodes. -/
def Wl (es : List Ed) (r : Int) (l : List Int) (x c : Int) : Prop := ∀ S : List Int → Int → Int → Prop, S [r] r 0 → (∀ e ∈ es, ∀ l c, S l e.1 c → S (l ++ [e.2.1]) e.2.1 (c + e.2.2)) → S l x c
theorem Wl.refl (es : List Ed) (r : Int) : Wl es r [r] r 0 := fun _ h _ => h
theorem Wl.step {es : List Ed} {r c : Int} {l : List Int} {e : Ed} (k : Wl es r l e.1 c) (he : e ∈ es) : Wl es r (l ++ [e.2.1]) e.2.1 (c + e.2.2) := fun S h1 h2 => h2 e he l c (k S h1 h2)
theorem Wl.last {es : List Ed} {r x c : Int} {l : List Int} (k : Wl es r l x c) : (l = [r] ∧ x = r ∧ c = 0) ∨ ∃ e ∈ es, ∃ l' c', Wl es r l' e.1 c' ∧ l = l' ++ [e.2.1] ∧ x = e.2.1 ∧ c = c' + e.2.2 :=
  (k (fun l x c => Wl es r l x c ∧ ((l = [r] ∧ x = r ∧ c = 0) ∨ ∃ e ∈ es, ∃ l' c', Wl es r l' e.1 c' ∧ l = l' ++ [e.2.1] ∧ x = e.2.1 ∧ c = c' + e.2.2)) ⟨Wl.refl _ _, .inl ⟨rfl, rfl, rfl⟩⟩ (fun e he l c h => ⟨h.1.step he, .inr ⟨e, he, l, c, h.1, rfl, rfl, rfl⟩⟩)).2
theorem cE_mem {ns : List Int} : ∀ (es : List Ed) (last : Ed), edgesOk ns last es = true → (∀ e ∈ es, (1 ≤ e.1 ∧ e.1 ≤ 24) ∧ 1 ≤ e.2.1 ∧ e.2.1 ≤ 24) → ∀ e ∈ es, cE es e.1.toNat e.2.1.toNat = e.2.2 := by
  intro es last hE hb
  have hr := (edgesOk_rise es last hE).2
  have key : ∀ (k : Nat) (fs : List Ed), fs.length = k → (fs.Pairwise fun a b => risesE a b = true) → (∀ e ∈ fs, (1 ≤ e.1 ∧ e.1 ≤ 24) ∧ 1 ≤ e.2.1 ∧ e.2.1 ≤ 24) → ∀ e ∈ fs, cE fs e.1.toNat e.2.1.toNat = e.2.2 := by
    intro k
    induction k with
    | zero => intro fs h _ _ e he; rw [List.length_eq_zero_iff.1 h] at he; simp at he
    | succ k ih =>
      intro fs h hp hb e he
      obtain ⟨U, f, rfl⟩ : ∃ U f, fs = U ++ [f] := by
        rcases List.eq_nil_or_concat fs with h' | ⟨U, f, h'⟩
        · rw [h'] at h; simp at h
        · exact ⟨U, f, by simpa using h'⟩
      rw [List.pairwise_append] at hp
      rw [cE_snoc]
      unfold put2
      have hf := hb f (by simp)
      have hee := hb e he
      rcases List.mem_append.1 he with h1 | h1
      · have h2 := hp.2.2 e h1 f (by simp)
        have hne : ¬ (e.1.toNat = f.1.toNat ∧ e.2.1.toNat = f.2.1.toNat) := by
          rintro ⟨q1, q2⟩
          have : e.1 = f.1 := by omega
          have : e.2.1 = f.2.1 := by omega
          simp [risesE, *] at h2
        rw [if_neg hne]
        exact ih U (by simpa using h) hp.1 (fun x hx => hb x (by simp [hx])) e h1
      · rw [List.mem_singleton.1 h1, if_pos ⟨rfl, rfl⟩]
  exact key _ es rfl hr hb
theorem graphOk_cE {ns : List Int} {es : List Ed} (h : graphOk ns es = true) {e : Ed} (he : e ∈ es) : cE es e.1.toNat e.2.1.toNat = e.2.2 := by
  have hbd := graphOk_bd h
  have h' := h
  unfold graphOk at h'
  simp only [Bool.and_eq_true] at h'
  exact cE_mem es _ h'.2.2 (fun e he => ⟨hbd.1 _ (hbd.2.1 e he).1, hbd.1 _ (hbd.2.1 e he).2⟩) e he
theorem wayR_snoc (C : Nat → Nat → Int) {v : Int} {y b : Int} (hv : C y.toNat b.toNat = v) (h0 : v ≠ 0) : ∀ (t : List Int) (s a s' : Int), wayR C s a t = some s' → (a :: t).getLast? = some y → wayR C s a (t ++ [b]) = some (s' + v)
  | [], s, a, s', h, hy => by
    simp at hy
    subst hy
    simp [wayR] at h
    subst h
    show (if C a.toNat b.toNat = 0 then none else wayR C (s + C a.toNat b.toNat) b []) = _
    rw [hv, if_neg h0]
    rfl
  | c :: t, s, a, s', h, hy => by
    have hy' : (c :: t).getLast? = some y := by simpa [List.getLast?_cons_cons] using hy
    simp only [wayR] at h
    by_cases hc : C a.toNat c.toNat = 0
    · rw [if_pos hc] at h; cases h
    · rw [if_neg hc] at h
      show (if C a.toNat c.toNat = 0 then none else wayR C (s + C a.toNat c.toNat) c (t ++ [b])) = _
      rw [if_neg hc]
      exact wayR_snoc C hv h0 t _ _ _ h hy'
/-- What is known of a way. -/
structure WlOk (ns : List Int) (es : List Ed) (r : Int) (l : List Int) (x c : Int) : Prop where
  wy : Wy es r x c (l.length - 1)
  pos : 0 < l.length
  last : l.getLast? = some x
  nodes : ∀ y ∈ l, y ∈ ns
  head : ∃ t, l = r :: t ∧ wayR (cE es) 0 r t = some c ∧ ((t = [] ∧ x = r ∧ c = 0) ∨ ∃ n t', t = n :: t' ∧ Fs es r n x c)
theorem Wl.ok {ns : List Int} {es : List Ed} {r x c : Int} {l : List Int} (hok : graphOk ns es = true) (hr : r ∈ ns) (k : Wl es r l x c) : WlOk ns es r l x c := by
  have hbd := graphOk_bd hok
  have hp := graphOk_pos hok
  refine k (WlOk ns es r) ⟨Wy.refl _ _, by simp, rfl, by simpa using hr, [], rfl, rfl, .inl ⟨rfl, rfl, rfl⟩⟩ ?_
  intro e he l c h
  obtain ⟨t, rfl, ht, hh⟩ := h.head
  refine ⟨?_, by simp, by rw [List.getLast?_append]; rfl, ?_, t ++ [e.2.1], by simp, ?_, ?_⟩
  · have := h.wy.step he
    simpa using this
  · intro y hy
    rcases List.mem_append.1 hy with h1 | h1
    · exact h.nodes y h1
    · rw [List.mem_singleton.1 h1]; exact (hbd.2.1 e he).2
  · exact wayR_snoc _ (graphOk_cE hok he) (by have := (hp e he).1; omega) _ _ _ _ ht h.last
  · right
    rcases hh with ⟨rfl, h1, h2⟩ | ⟨n, t', rfl, f, hf, h1, h2, hq, hw⟩
    · exact ⟨e.2.1, [], rfl, e, he, h1, rfl, 0, by rw [h2, show (0 : Int) + e.2.2 - e.2.2 = 0 from by omega]; exact Wy.refl _ _⟩
    · exact ⟨n, t' ++ [e.2.1], rfl, f, hf, h1, h2, hq + 1, by rw [show c + e.2.2 - f.2.2 = c - f.2.2 + e.2.2 from by omega]; exact hw.step he⟩
theorem Wl.uniq {ns : List Int} {es : List Ed} {r x c y d : Int} {l : List Int} (hok : graphOk ns es = true) (hr : r ∈ ns) (k : Wl es r l x c) (k' : Wl es r l y d) : x = y ∧ c = d := by
  have h1 := k.ok hok hr
  have h2 := k'.ok hok hr
  obtain ⟨t, e1, e2, _⟩ := h1.head
  obtain ⟨t', e1', e2', _⟩ := h2.head
  rw [e1] at e1'
  simp at e1'
  subst e1'
  rw [e2] at e2'
  have h3 := h1.last
  rw [h2.last] at h3
  exact ⟨by simpa using h3.symm, by simpa using e2'⟩
theorem Wl.longer {ns : List Int} {es : List Ed} {r y c : Int} {m : List Int} (hok : graphOk ns es = true) (hr : r ∈ ns) (k : Wl es r m y c) : ∀ l t x d, m = l ++ t → Wl es r l x d → t ≠ [] → d < c := by
  have hp := graphOk_pos hok
  refine (k (fun m y c => Wl es r m y c ∧ ∀ l t x d, m = l ++ t → Wl es r l x d → t ≠ [] → d < c) ⟨Wl.refl _ _, ?_⟩ ?_).2
  · intro l t x d he hl ht
    have h1 := (hl.ok hok hr).pos
    have h2 := congrArg List.length he
    rw [List.length_append] at h2
    have h3 : 0 < t.length := List.length_pos_iff.2 ht
    simp at h2
    omega
  · rintro e he m c ⟨hm, h⟩
    refine ⟨hm.step he, fun l t x d hlt hl ht => ?_⟩
    rcases List.eq_nil_or_concat t with h' | ⟨t', b, h'⟩
    · exact absurd h' ht
    · have h'' : t = t' ++ [b] := by simpa using h'
      subst h''
      rw [← List.append_assoc] at hlt
      have h1 := List.append_inj' hlt rfl
      have h2 := (hp e he).1
      by_cases h3 : t' = []
      · subst h3
        rw [List.append_nil] at h1
        rw [← h1.1] at hl
        have h4 := (hm.uniq hok hr hl).2
        omega
      · have := h l t' x d h1.1 hl h3
        omega
theorem cmpL_self : ∀ l : List Int, cmpL l l = 0
  | [] => rfl
  | a :: l => by
    show (if a < a then (-1 : Int) else if a < a then 1 else cmpL l l) = 0
    rw [if_neg (by omega), if_neg (by omega)]
    exact cmpL_self l
theorem cmpL_neg : ∀ l m : List Int, cmpL m l = - cmpL l m
  | [], [] => rfl
  | [], _ :: _ => rfl
  | _ :: _, [] => rfl
  | a :: l, b :: m => by
    have ih := cmpL_neg l m
    simp only [cmpL]
    by_cases h1 : a < b
    · rw [if_neg (by omega), if_pos h1, if_pos h1]; rfl
    · by_cases h2 : b < a
      · rw [if_pos h2, if_neg h1, if_pos h2]
      · rw [if_neg h2, if_neg h1, if_neg h1, if_neg h2]; exact ih
theorem cmpL_trans : ∀ a b c : List Int, cmpL a b ≤ 0 → cmpL b c ≤ 0 → cmpL a c ≤ 0
  | [], _, [], _, _ => by simp [cmpL]
  | [], _, _ :: _, _, _ => by simp [cmpL]
  | _ :: _, [], _, h, _ => by simp [cmpL] at h
  | _ :: _, _ :: _, [], _, h => by simp [cmpL] at h
  | a :: l, b :: m, c :: n, h, k => by
    have ih := cmpL_trans l m n
    simp only [cmpL] at h k ⊢
    by_cases h1 : a < b
    · by_cases k1 : b < c
      · rw [if_pos (by omega)]; omega
      · by_cases k2 : c < b
        · rw [if_neg k1, if_pos k2] at k; omega
        · rw [if_pos (by omega)]; omega
    · by_cases h2 : b < a
      · rw [if_neg h1, if_pos h2] at h; omega
      · rw [if_neg h1, if_neg h2] at h
        have hab : a = b := by omega
        subst hab
        by_cases k1 : a < c
        · rw [if_pos k1]; omega
        · by_cases k2 : c < a
          · rw [if_neg k1, if_pos k2] at k; omega
          · rw [if_neg k1, if_neg k2] at k ⊢
            exact ih h k
theorem cmpL_snoc (z : List Int) : ∀ l m : List Int, cmpL l m ≤ 0 → (∀ t, m = l ++ t → t = []) → cmpL (l ++ z) (m ++ z) ≤ 0
  | [], m, _, hp => by
    have := hp m rfl
    subst this
    rw [cmpL_self]
    exact Int.le_refl _
  | _ :: _, [], h, _ => by simp [cmpL] at h
  | a :: l, b :: m, h, hp => by
    simp only [cmpL, List.cons_append] at h ⊢
    by_cases h1 : a < b
    · rw [if_pos h1]; omega
    · by_cases h2 : b < a
      · rw [if_neg h1, if_pos h2] at h; omega
      · rw [if_neg h1, if_neg h2] at h ⊢
        have hab : a = b := by omega
        subst hab
        exact cmpL_snoc z l m h (fun t ht => hp t (by rw [ht]; rfl))
/-- One edge more, at its end. -/
def fstG (acc was : Option (List Int)) (e : Ed) : Option (List Int) :=
  match acc with
  | none => some (was.getD [] ++ [e.2.1])
  | some l => if cmpL (was.getD [] ++ [e.2.1]) l < 0 then some (was.getD [] ++ [e.2.1]) else some l
theorem putV_id {β : Type} (f : Nat → β) (n : Nat) : putV f n (f n) = f := by
  funext i
  unfold putV
  split
  · rename_i h; rw [h]
  · rfl
theorem fstE_step : fstE = stepG fstG := by
  funext f e
  unfold fstE stepG fstG wayE
  cases h : f e.2.1.toNat with
  | none => rfl
  | some l =>
    simp only
    by_cases hc : cmpL ((f e.1.toNat).getD [] ++ [e.2.1]) l < 0
    · rw [if_pos hc, if_pos hc]
    · rw [if_neg hc, if_neg hc, ← h, putV_id]
theorem fold_min (F : Nat → Option (List Int)) : ∀ (L : List Ed) (acc : Option (List Int)), (L ≠ [] ∨ ∃ l, acc = some l) →
    ∃ m, L.foldl (fun acc e => fstG acc (F e.1.toNat) e) acc = some m ∧ (acc = some m ∨ ∃ e ∈ L, m = (F e.1.toNat).getD [] ++ [e.2.1]) ∧ (∀ e ∈ L, cmpL m ((F e.1.toNat).getD [] ++ [e.2.1]) ≤ 0) ∧ ∀ l, acc = some l → cmpL m l ≤ 0
  | [], acc, h => by
    rcases h with h | ⟨l, rfl⟩
    · exact absurd rfl h
    · exact ⟨l, rfl, .inl rfl, by simp, fun m hm => by cases hm; rw [cmpL_self]; exact Int.le_refl _⟩
  | e :: L, acc, _ => by
    obtain ⟨a, ha, hcase⟩ : ∃ a, fstG acc (F e.1.toNat) e = some a ∧ ((acc = some a ∧ cmpL a ((F e.1.toNat).getD [] ++ [e.2.1]) ≤ 0) ∨ (a = (F e.1.toNat).getD [] ++ [e.2.1] ∧ ∀ l, acc = some l → cmpL a l ≤ 0)) := by
      cases acc with
      | none => exact ⟨_, rfl, .inr ⟨rfl, fun l hl => by cases hl⟩⟩
      | some l =>
        by_cases hc : cmpL ((F e.1.toNat).getD [] ++ [e.2.1]) l < 0
        · exact ⟨_, by simp only [fstG]; rw [if_pos hc], .inr ⟨rfl, fun m hm => by cases hm; omega⟩⟩
        · exact ⟨l, by simp only [fstG]; rw [if_neg hc], .inl ⟨rfl, by rw [cmpL_neg]; omega⟩⟩
    obtain ⟨m, h1, h2, h3, h4⟩ := fold_min F L (some a) (.inr ⟨a, rfl⟩)
    have hma := h4 a rfl
    refine ⟨m, by rw [List.foldl_cons, ha]; exact h1, ?_, ?_, ?_⟩
    · rcases h2 with h2 | ⟨f, hf, h2⟩
      · cases h2
        rcases hcase with ⟨h5, _⟩ | ⟨h5, _⟩
        · exact .inl h5
        · exact .inr ⟨e, by simp, h5⟩
      · exact .inr ⟨f, by simp [hf], h2⟩
    · intro f hf
      rcases List.mem_cons.1 hf with rfl | hf
      · rcases hcase with ⟨_, h5⟩ | ⟨h5, _⟩
        · exact cmpL_trans _ _ _ hma h5
        · rw [← h5]; exact hma
      · exact h3 f hf
    · intro l hl
      rcases hcase with ⟨h5, _⟩ | ⟨_, h5⟩
      · rw [h5] at hl; cases hl; exact hma
      · exact cmpL_trans _ _ _ hma (h5 l hl)
/-- What First tells of a node. -/
theorem fst_right {ns : List Int} {es : List Ed} {r : Int} {P : List (Int × Int)} (hok : graphOk ns es = true) (hr : r ∈ ns) (h : IsNear es r P) (hn : NdOk P) :
    ∀ (n : Nat) (x d : Int), d.toNat = n → x ∈ ns → Ds es r x d → ∃ l, fstT r (told es P P) x.toNat = some l ∧ Wl es r l x d ∧ ∀ m, Wl es r m x d → cmpL l m ≤ 0 := by
  have hp := graphOk_pos hok
  have hbd := graphOk_bd hok
  have h0 : ∀ n ∈ P, 0 ≤ n.1 := fun n h1 => by have := (hn.2 n h1).1; omega
  have hr2 := hbd.1 r hr
  have hF : ∀ y, (told es P P).foldl (stepG fstG) (putV (fun _ => none) r.toNat (some [r])) y = fstT r (told es P P) y := fun y => by unfold fstT; rw [fstE_step]
  have hinto : ∀ x, x ∈ ns → ∀ e, e ∈ (told es P P).filter (fun e => decide (e.2.1.toNat = x.toNat)) ↔ Into es r x e := fun x hx e => by
    have h2 := hbd.1 x hx
    rw [List.mem_filter, h.told_iff h0, decide_eq_true_eq]
    constructor
    · rintro ⟨⟨h1, d, hd1, hd2⟩, h3⟩
      have h4 := hbd.1 _ (hbd.2.1 e h1).2
      have h5 : e.2.1 = x := by omega
      exact ⟨h1, h5, d, hd1, by rw [← h5]; exact hd2⟩
    · rintro ⟨h1, h4, d, hd1, hd2⟩
      exact ⟨⟨h1, d, hd1, by rw [h4]; exact hd2⟩, by rw [h4]⟩
  intro n
  induction n using Nat.strongRecOn with
  | ind n ih =>
    intro x d hdn hx hd
    have hx2 := hbd.1 x hx
    have hfold := topo_fold fstG (putV (fun _ => none) r.toNat (some [r])) _ _ rfl (h.topo h0 hp) x.toNat
    have hfc : ∀ (L : List Ed) (a : Option (List Int)), L.foldl (fun acc e => fstG acc ((told es P P).foldl (stepG fstG) (putV (fun _ => none) r.toNat (some [r])) e.1.toNat) e) a = L.foldl (fun acc e => fstG acc (fstT r (told es P P) e.1.toNat) e) a := fun L a => by
      congr
      funext acc e
      rw [hF]
    rw [hF, hfc] at hfold
    rw [hfold]
    by_cases hxr : x = r
    · subst hxr
      have hd0 : d = 0 := hd.uniq (ds_root hp)
      subst hd0
      have hnil : (told es P P).filter (fun e => decide (e.2.1.toNat = x.toNat)) = [] := by
        apply List.eq_nil_iff_forall_not_mem.2
        intro e he
        exact into_root hp ((hinto x hx e).1 he)
      rw [hnil]
      refine ⟨[x], by show putV _ _ _ _ = _; rw [putV_same], Wl.refl _ _, fun m hm => ?_⟩
      have h1 := (hm.ok hok hr)
      have h2 := (h1.wy.pos hp).1
      have h3 : m.length = 1 := by have := h1.pos; omega
      obtain ⟨t, rfl, _⟩ := h1.head
      simp at h3
      subst h3
      rw [cmpL_self]
      exact Int.le_refl _
    · have hinit : putV (fun _ => none) r.toNat (some [r]) x.toNat = none := putV_other _ _ (by omega)
      rw [hinit]
      have hstep : ∀ e, Into es r x e → ∃ le c, Ds es r e.1 c ∧ d = c + e.2.2 ∧ fstT r (told es P P) e.1.toNat = some le ∧ Wl es r le e.1 c ∧ ∀ m, Wl es r m e.1 c → cmpL le m ≤ 0 := fun e hi => by
        obtain ⟨h1, h2, c, hc, hc2⟩ := hi
        have h3 := hd.uniq hc2
        have h4 := (hp e h1).1
        have h5 := hc.nonneg hp
        obtain ⟨le, hle⟩ := ih c.toNat (by omega) e.1 c rfl (hbd.2.1 e h1).1 hc
        exact ⟨le, c, hc, h3, hle⟩
      obtain ⟨hh, hw⟩ := hd.1
      have hne : (told es P P).filter (fun e => decide (e.2.1.toNat = x.toNat)) ≠ [] := by
        rcases hw.last with ⟨h1, _⟩ | ⟨e, he, c', h', hw', h1, h2, _⟩
        · exact absurd h1 hxr
        · intro hnil
          have := (hinto x hx e).2 (into_last hd he hw' h1 h2).1
          rw [hnil] at this
          simp at this
      obtain ⟨l, h1, h2, h3, _⟩ := fold_min (fstT r (told es P P)) _ none (.inl hne)
      refine ⟨l, h1, ?_, fun m hm => ?_⟩
      · rcases h2 with h2 | ⟨e, he, h2⟩
        · cases h2
        · have hi := (hinto x hx e).1 he
          obtain ⟨le, c, hc, hdc, hfe, hwl, _⟩ := hstep e hi
          rw [h2, hfe, hdc]
          have := hwl.step hi.1
          rw [hi.2.1] at this
          rw [hi.2.1]
          exact this
      · rcases hm.last with ⟨_, h5, _⟩ | ⟨e, he, m', c', hm', hml, h5, h6⟩
        · exact absurd h5 hxr
        · obtain ⟨hi, hc'⟩ := into_last hd he (hm'.ok hok hr).wy h5 h6
          obtain ⟨le, c, hc, hdc, hfe, hwl, hmin⟩ := hstep e hi
          have hcc := hc.uniq hc'
          subst hcc
          have h7 := h3 e ((hinto x hx e).2 hi)
          rw [hfe] at h7
          rw [hml]
          refine cmpL_trans _ _ _ h7 (cmpL_snoc [e.2.1] le m' (hmin m' hm') (fun t ht => Classical.byContradiction fun hne => ?_))
          have := hm'.longer hok hr le t _ _ ht hwl hne
          omega
theorem fst_none {ns : List Int} {es : List Ed} {r : Int} {P : List (Int × Int)} (hok : graphOk ns es = true) (hr : r ∈ ns) (h : IsNear es r P) (hn : NdOk P) {x : Int} (hx : x ∈ ns) (hno : ∀ d, ¬ Ds es r x d) : fstT r (told es P P) x.toNat = none := by
  have hp := graphOk_pos hok
  have hbd := graphOk_bd hok
  have h0 : ∀ n ∈ P, 0 ≤ n.1 := fun n h1 => by have := (hn.2 n h1).1; omega
  have hr2 := hbd.1 r hr
  have hx2 := hbd.1 x hx
  have hfold := topo_fold fstG (putV (fun _ => none) r.toNat (some [r])) _ _ rfl (h.topo h0 hp) x.toNat
  have hF : ∀ y, (told es P P).foldl (stepG fstG) (putV (fun _ => none) r.toNat (some [r])) y = fstT r (told es P P) y := fun y => by unfold fstT; rw [fstE_step]
  rw [hF] at hfold
  rw [hfold]
  have hnil : (told es P P).filter (fun e => decide (e.2.1.toNat = x.toNat)) = [] := by
    apply List.eq_nil_iff_forall_not_mem.2
    intro e he
    rw [List.mem_filter, h.told_iff h0, decide_eq_true_eq] at he
    obtain ⟨⟨h1, d, hd1, hd2⟩, h3⟩ := he
    have h4 := hbd.1 _ (hbd.2.1 e h1).2
    have h5 : e.2.1 = x := by omega
    rw [h5] at hd2
    exact hno _ hd2
  rw [hnil]
  show putV _ _ _ _ = _
  refine putV_other _ _ (fun e => hno 0 ?_)
  have : x = r := by omega
  rw [this]
  exact ds_root hp
end Go.Proofs.Ytgjnljcphcmmeaa
