/- From's answer, in ways. First, in ways: the way that it tells is one of least cost, and ahead of all others. The first of the least-cost ways, step by step. The document's Count. The document's Cost. The document's First. -/
import Derived.Test.YtabnecicidkmhaaVQ3
import Derived.Test.YtabnecicidkmhaaZ1
import Derived.Test.YtabnecicidkmhaaV10
import Derived.Deep.RegionHeld3
namespace Go.Proofs.Ytabnecicidkmhaa
open Go.RowKit

/-- What From shall answer. -/
structure IsFrom (ns : List Int) (es : List Ed) (r : Int) (l : List Rr) : Prop where
  rise : l.Pairwise fun a b => a.node < b.node
  right : ∀ p ∈ l, p.node ∈ ns ∧ ∃ d, Ds es r p.node d ∧ Right es r p.node d p
  all : ∀ x d, x ∈ ns → Ds es r x d → ∃ p ∈ l, p.node = x
theorem Ds.node {ns : List Int} {es : List Ed} (hok : graphOk ns es = true) {r x d : Int} (hr : r ∈ ns) (h : Ds es r x d) : x ∈ ns := by
  obtain ⟨hh, hw⟩ := h.1
  exact hw (fun x _ _ => x ∈ ns) hr (fun e he _ _ _ => ((graphOk_bd hok).2.1 e he).2)
theorem outR_mem {R : Nat → Rr} {vs : Nat → Value} {n : Nat} {p : Rr × Value} : p ∈ outR R vs n ↔ ∃ i, i < n ∧ (R i).node ≠ 0 ∧ p = (R i, vs i) := by
  unfold outR
  simp only [List.mem_map, List.mem_filter, List.mem_range, Bool.not_eq_true', decide_eq_false_iff_not]
  constructor
  · rintro ⟨i, ⟨h1, h2⟩, rfl⟩; exact ⟨i, h1, h2, rfl⟩
  · rintro ⟨i, h1, h2, rfl⟩; exact ⟨i, ⟨h1, h2⟩, rfl⟩
theorem outR_rise {R : Nat → Rr} {vs : Nat → Value} (h : ∀ i, i < 25 → (R i).node ≠ 0 → (R i).node = (i : Int)) : ∀ n, n ≤ 25 → (outR R vs n).Pairwise fun a b => a.1.node < b.1.node
  | 0, _ => by simp [outR]
  | n + 1, hn => by
    rw [outR_succ, List.pairwise_append]
    refine ⟨outR_rise h n (by omega), by split <;> simp, fun a ha b hb => ?_⟩
    obtain ⟨i, h1, h2, rfl⟩ := outR_mem.1 ha
    split at hb
    · simp at hb
    · rename_i h3
      rw [List.mem_singleton.1 hb]
      show (R i).node < (R n).node
      rw [h i (by omega) h2, h n (by omega) h3]
      omega
theorem from_is {ns : List Int} {es : List Ed} {r : Int} {P : List (Int × Int)} {C : Nat → Int} (vs : Nat → Value) (hok : graphOk ns es = true) (hr : r ∈ ns) (h : IsNear es r P) (hn : NdOk P) (hC : ∀ e ∈ told es P P, e ∈ es ∧ Ds es r e.2.1 (C e.2.1.toNat)) : IsFrom ns es r ((outR (rchT r C (told es P P)) vs 25).map (·.1)) := by
  have hbd := graphOk_bd hok
  obtain ⟨_, _, hno⟩ := fin_all (C := C) hok hr h hn
  have key : ∀ i, i < 25 → (rchT r C (told es P P) i).node ≠ 0 → (i : Int) ∈ ns ∧ ∃ d, Ds es r (i : Int) d ∧ Right es r (i : Int) d (rchT r C (told es P P) i) := fun i hi h0 => by
    have : ∃ d, Ds es r (i : Int) d := Classical.byContradiction fun hc => h0 (by rw [hno i hi (fun d hd => hc ⟨d, hd⟩)]; rfl)
    obtain ⟨d, hd⟩ := this
    have hm := hd.node hok hr
    have := fin_right hok hr h hn hC _ (i : Int) d rfl hm hd
    rw [show ((i : Int)).toNat = i from rfl] at this
    exact ⟨hm, d, hd, this⟩
  refine ⟨?_, fun p hp => ?_, fun x d hx hd => ?_⟩
  · rw [List.pairwise_map]
    exact outR_rise (fun i hi h0 => (key i hi h0).2.choose_spec.2.node) 25 (Nat.le_refl _)
  · obtain ⟨q, hq, rfl⟩ := List.mem_map.1 hp
    obtain ⟨i, h1, h2, rfl⟩ := outR_mem.1 hq
    obtain ⟨hm, d, hd, hR⟩ := key i h1 h2
    show (rchT r C (told es P P) i).node ∈ ns ∧ _
    rw [hR.node]
    exact ⟨hm, d, hd, hR⟩
  · have hx1 := hbd.1 x hx
    have hR := fin_right hok hr h hn hC _ x d rfl hx hd
    have hn0 : (rchT r C (told es P P) x.toNat).node ≠ 0 := by rw [hR.node]; omega
    exact ⟨_, List.mem_map.2 ⟨_, outR_mem.2 ⟨x.toNat, by omega, hn0, rfl⟩, rfl⟩, hR.node⟩
/-- From's answer. -/
def FromIs (w w' : World) (ns : List Int) (es : List Ed) (r : Int) (e : Ending) : Prop :=
  ∃ (l : List (Rr × Value)) (u : Value) (mid : Nat), e = .returned (.tuple #[u, .int .i64 0]) ∧ w.heap.size ≤ mid ∧ w'.ownsRow mid 34 5 u l.length (fl rwc l) ∧ RlAt w' u l ∧ IsFrom ns es r (l.map (·.1)) ∧ l.length ≤ 25 ∧ ∀ p ∈ l, ∀ k, p.2.ownBlock = some k → w.heap.size ≤ k ∧ k < mid
theorem from_right {ns : List Int} {es : List Ed} {vn ve : Value} {w : World} (h : GrAt w vn ve ns es) (r : Int) :
    Calls Try.prog 6 #[grV vn ve, .int .i64 r] w fun e w' => ((ndAll ns es [r] = false ∧ e = .returned (.tuple #[.slice none 0 0, .int .i64 2])) ∨ (ndAll ns es [r] = true ∧ FromIs w w' ns es r e)) ∧ Below w.heap.size w w' := by
  refine (from_any h r).mono ?_
  rintro e w' ⟨h1 | ⟨h1, P, C, vs, hP, hN, hC, u, mid, B, he, hmid, hrow, hx⟩, hb⟩
  · exact ⟨.inl h1, hb⟩
  · refine ⟨.inr ⟨h1, outR (rchT r C (told es P P)) vs 25, u, mid, he, hmid, hrow, ?_, ?_, outR_len _ _ _, ?_⟩, hb⟩
    · refine ⟨slAt_of_row (cs := rwc) (fun _ => rfl) hrow rfl, fun p hp => ?_⟩
      obtain ⟨i, hi, _, rfl⟩ := outR_mem.1 hp
      simp only [ndAll, List.all_cons, List.all_nil, Bool.and_true, Bool.and_eq_true] at h1
      have hbd := graphOk_bd h1.1
      have h3 := rchT_ok r C (told es P P) (fun e he => hbd.1 _ (hbd.2.1 e (hC e he).1).2) i
      have h4 := rise_len h3.np h3.nb
      have h5 := (hx i hi).1.sl (by omega)
      exact ⟨h5.1, h5.2, by show (rchT r C (told es P P) i).next.length ≤ _; omega⟩
    · simp only [ndAll, List.all_cons, List.all_nil, Bool.and_true, Bool.and_eq_true] at h1
      exact from_is vs h1.1 (hasN_iff.1 h1.2) hP hN hC
    · intro p hp k hk
      obtain ⟨i, hi, _, rfl⟩ := outR_mem.1 hp
      refine ⟨?_, (hx i hi).2 k hk⟩
      rcases (hx i hi).1 with ⟨_, e⟩ | ⟨g, o, cap, e, _, _, h6, _, _⟩
      · have hk' : (vs i).ownBlock = some k := hk
        rw [e] at hk'
        simp [Value.ownBlock] at hk'
      · have hk' : (vs i).ownBlock = some k := hk
        rw [e] at hk'
        simp [Value.ownBlock] at hk'
        omega
end Go.Proofs.Ytabnecicidkmhaa
namespace Go.Proofs.Ytabnecicidkmhaa

/-- A way as the list of its nodes. -/
def Wl (es : List Ed) (r : Int) (l : List Int) (x c : Int) : Prop := ∀ S : List Int → Int → Int → Prop, S [r] r 0 → (∀ e ∈ es, ∀ l c, S l e.1 c → S (l ++ [e.2.1]) e.2.1 (c + e.2.2)) → S l x c
theorem Wl.refl (es : List Ed) (r : Int) : Wl es r [r] r 0 := fun _ h _ => h
theorem Wl.step {es : List Ed} {r c : Int} {l : List Int} {e : Ed} (k : Wl es r l e.1 c) (he : e ∈ es) : Wl es r (l ++ [e.2.1]) e.2.1 (c + e.2.2) := fun S h1 h2 => h2 e he l c (k S h1 h2)
theorem Wl.last {es : List Ed} {r x c : Int} {l : List Int} (k : Wl es r l x c) : (l = [r] ∧ x = r ∧ c = 0) ∨ ∃ e ∈ es, ∃ l' c', Wl es r l' e.1 c' ∧ l = l' ++ [e.2.1] ∧ x = e.2.1 ∧ c = c' + e.2.2 :=
  (k (fun l x c => Wl es r l x c ∧ ((l = [r] ∧ x = r ∧ c = 0) ∨ ∃ e ∈ es, ∃ l' c', Wl es r l' e.1 c' ∧ l = l' ++ [e.2.1] ∧ x = e.2.1 ∧ c = c' + e.2.2)) ⟨Wl.refl _ _, .inl ⟨rfl, rfl, rfl⟩⟩ (fun e he l c h => ⟨h.1.step he, .inr ⟨e, he, l, c, h.1, rfl, rfl, rfl⟩⟩)).2
theorem cE_mem {ns : List Int} : ∀ (es : List Ed) (last : Ed), edgesOk ns last es = true → (∀ e ∈ es, (1 ≤ e.1 ∧ e.1 ≤ 24) ∧ 1 ≤ e.2.1 ∧ e.2.1 ≤ 24) → ∀ e ∈ es, cE es e.1.toNat e.2.1.toNat = e.2.2 := by
  intro es last hE hb
  have hr := (edgesOk_rise es last hE).2
  have key : ∀ (k : Nat) (fs : List Ed), fs.length = k → (fs.Pairwise fun a b => risesE a b = true) → (∀ e ∈ fs, (1 ≤ e.1 ∧ e.1 ≤ 24) ∧ 1 ≤ e.2.1 ∧ e.2.1 ≤ 24) → ∀ e ∈ fs, cE fs e.1.toNat e.2.1.toNat = e.2.2 := by
    intro k
    induction k with
    | zero => intro fs h _ _ e he; rw [List.length_eq_zero_iff.1 h] at he; simp at he
    | succ k ih =>
      intro fs h hp hb e he
      obtain ⟨U, f, rfl⟩ : ∃ U f, fs = U ++ [f] := by
        rcases List.eq_nil_or_concat fs with h' | ⟨U, f, h'⟩
        · rw [h'] at h; simp at h
        · exact ⟨U, f, by simpa using h'⟩
      rw [List.pairwise_append] at hp
      rw [cE_snoc]
      unfold put2
      have hf := hb f (by simp)
      have hee := hb e he
      rcases List.mem_append.1 he with h1 | h1
      · have h2 := hp.2.2 e h1 f (by simp)
        have hne : ¬ (e.1.toNat = f.1.toNat ∧ e.2.1.toNat = f.2.1.toNat) := by
          rintro ⟨q1, q2⟩
          have : e.1 = f.1 := by omega
          have : e.2.1 = f.2.1 := by omega
          simp [risesE, *] at h2
        rw [if_neg hne]
        exact ih U (by simpa using h) hp.1 (fun x hx => hb x (by simp [hx])) e h1
      · rw [List.mem_singleton.1 h1, if_pos ⟨rfl, rfl⟩]
  exact key _ es rfl hr hb
theorem graphOk_cE {ns : List Int} {es : List Ed} (h : graphOk ns es = true) {e : Ed} (he : e ∈ es) : cE es e.1.toNat e.2.1.toNat = e.2.2 := by
  have hbd := graphOk_bd h
  have h' := h
  unfold graphOk at h'
  simp only [Bool.and_eq_true] at h'
  exact cE_mem es _ h'.2.2 (fun e he => ⟨hbd.1 _ (hbd.2.1 e he).1, hbd.1 _ (hbd.2.1 e he).2⟩) e he
theorem wayR_snoc (C : Nat → Nat → Int) {v : Int} {y b : Int} (hv : C y.toNat b.toNat = v) (h0 : v ≠ 0) : ∀ (t : List Int) (s a s' : Int), wayR C s a t = some s' → (a :: t).getLast? = some y → wayR C s a (t ++ [b]) = some (s' + v)
  | [], s, a, s', h, hy => by
    simp at hy
    subst hy
    simp [wayR] at h
    subst h
    show (if C a.toNat b.toNat = 0 then none else wayR C (s + C a.toNat b.toNat) b []) = _
    rw [hv, if_neg h0]
    rfl
  | c :: t, s, a, s', h, hy => by
    have hy' : (c :: t).getLast? = some y := by simpa [List.getLast?_cons_cons] using hy
    simp only [wayR] at h
    by_cases hc : C a.toNat c.toNat = 0
    · rw [if_pos hc] at h; cases h
    · rw [if_neg hc] at h
      show (if C a.toNat c.toNat = 0 then none else wayR C (s + C a.toNat c.toNat) c (t ++ [b])) = _
      rw [if_neg hc]
      exact wayR_snoc C hv h0 t _ _ _ h hy'
/-- What is known of a way. -/
structure WlOk (ns : List Int) (es : List Ed) (r : Int) (l : List Int) (x c : Int) : Prop where
  wy : Wy es r x c (l.length - 1)
  pos : 0 < l.length
  last : l.getLast? = some x
  nodes : ∀ y ∈ l, y ∈ ns
  head : ∃ t, l = r :: t ∧ wayR (cE es) 0 r t = some c ∧ ((t = [] ∧ x = r ∧ c = 0) ∨ ∃ n t', t = n :: t' ∧ Fs es r n x c)
theorem Wl.ok {ns : List Int} {es : List Ed} {r x c : Int} {l : List Int} (hok : graphOk ns es = true) (hr : r ∈ ns) (k : Wl es r l x c) : WlOk ns es r l x c := by
  have hbd := graphOk_bd hok
  have hp := graphOk_pos hok
  refine k (WlOk ns es r) ⟨Wy.refl _ _, by simp, rfl, by simpa using hr, [], rfl, rfl, .inl ⟨rfl, rfl, rfl⟩⟩ ?_
  intro e he l c h
  obtain ⟨t, rfl, ht, hh⟩ := h.head
  refine ⟨?_, by simp, by rw [List.getLast?_append]; rfl, ?_, t ++ [e.2.1], by simp, ?_, ?_⟩
  · have := h.wy.step he
    simpa using this
  · intro y hy
    rcases List.mem_append.1 hy with h1 | h1
    · exact h.nodes y h1
    · rw [List.mem_singleton.1 h1]; exact (hbd.2.1 e he).2
  · exact wayR_snoc _ (graphOk_cE hok he) (by have := (hp e he).1; omega) _ _ _ _ ht h.last
  · right
    rcases hh with ⟨rfl, h1, h2⟩ | ⟨n, t', rfl, f, hf, h1, h2, hq, hw⟩
    · exact ⟨e.2.1, [], rfl, e, he, h1, rfl, 0, by rw [h2, show (0 : Int) + e.2.2 - e.2.2 = 0 from by omega]; exact Wy.refl _ _⟩
    · exact ⟨n, t' ++ [e.2.1], rfl, f, hf, h1, h2, hq + 1, by rw [show c + e.2.2 - f.2.2 = c - f.2.2 + e.2.2 from by omega]; exact hw.step he⟩
theorem Wl.uniq {ns : List Int} {es : List Ed} {r x c y d : Int} {l : List Int} (hok : graphOk ns es = true) (hr : r ∈ ns) (k : Wl es r l x c) (k' : Wl es r l y d) : x = y ∧ c = d := by
  have h1 := k.ok hok hr
  have h2 := k'.ok hok hr
  obtain ⟨t, e1, e2, _⟩ := h1.head
  obtain ⟨t', e1', e2', _⟩ := h2.head
  rw [e1] at e1'
  simp at e1'
  subst e1'
  rw [e2] at e2'
  have h3 := h1.last
  rw [h2.last] at h3
  exact ⟨by simpa using h3.symm, by simpa using e2'⟩
theorem Wl.longer {ns : List Int} {es : List Ed} {r y c : Int} {m : List Int} (hok : graphOk ns es = true) (hr : r ∈ ns) (k : Wl es r m y c) : ∀ l t x d, m = l ++ t → Wl es r l x d → t ≠ [] → d < c := by
  have hp := graphOk_pos hok
  refine (k (fun m y c => Wl es r m y c ∧ ∀ l t x d, m = l ++ t → Wl es r l x d → t ≠ [] → d < c) ⟨Wl.refl _ _, ?_⟩ ?_).2
  · intro l t x d he hl ht
    have h1 := (hl.ok hok hr).pos
    have h2 := congrArg List.length he
    rw [List.length_append] at h2
    have h3 : 0 < t.length := List.length_pos_iff.2 ht
    simp at h2
    omega
  · rintro e he m c ⟨hm, h⟩
    refine ⟨hm.step he, fun l t x d hlt hl ht => ?_⟩
    rcases List.eq_nil_or_concat t with h' | ⟨t', b, h'⟩
    · exact absurd h' ht
    · have h'' : t = t' ++ [b] := by simpa using h'
      subst h''
      rw [← List.append_assoc] at hlt
      have h1 := List.append_inj' hlt rfl
      have h2 := (hp e he).1
      by_cases h3 : t' = []
      · subst h3
        rw [List.append_nil] at h1
        rw [← h1.1] at hl
        have h4 := (hm.uniq hok hr hl).2
        omega
      · have := h l t' x d h1.1 hl h3
        omega
theorem cmpL_self : ∀ l : List Int, cmpL l l = 0
  | [] => rfl
  | a :: l => by
    show (if a < a then (-1 : Int) else if a < a then 1 else cmpL l l) = 0
    rw [if_neg (by omega), if_neg (by omega)]
    exact cmpL_self l
theorem cmpL_neg : ∀ l m : List Int, cmpL m l = - cmpL l m
  | [], [] => rfl
  | [], _ :: _ => rfl
  | _ :: _, [] => rfl
  | a :: l, b :: m => by
    have ih := cmpL_neg l m
    simp only [cmpL]
    by_cases h1 : a < b
    · rw [if_neg (by omega), if_pos h1, if_pos h1]; rfl
    · by_cases h2 : b < a
      · rw [if_pos h2, if_neg h1, if_pos h2]
      · rw [if_neg h2, if_neg h1, if_neg h1, if_neg h2]; exact ih
theorem cmpL_trans : ∀ a b c : List Int, cmpL a b ≤ 0 → cmpL b c ≤ 0 → cmpL a c ≤ 0
  | [], _, [], _, _ => by simp [cmpL]
  | [], _, _ :: _, _, _ => by simp [cmpL]
  | _ :: _, [], _, h, _ => by simp [cmpL] at h
  | _ :: _, _ :: _, [], _, h => by simp [cmpL] at h
  | a :: l, b :: m, c :: n, h, k => by
    have ih := cmpL_trans l m n
    simp only [cmpL] at h k ⊢
    by_cases h1 : a < b
    · by_cases k1 : b < c
      · rw [if_pos (by omega)]; omega
      · by_cases k2 : c < b
        · rw [if_neg k1, if_pos k2] at k; omega
        · rw [if_pos (by omega)]; omega
    · by_cases h2 : b < a
      · rw [if_neg h1, if_pos h2] at h; omega
      · rw [if_neg h1, if_neg h2] at h
        have hab : a = b := by omega
        subst hab
        by_cases k1 : a < c
        · rw [if_pos k1]; omega
        · by_cases k2 : c < a
          · rw [if_neg k1, if_pos k2] at k; omega
          · rw [if_neg k1, if_neg k2] at k ⊢
            exact ih h k
theorem cmpL_snoc (z : List Int) : ∀ l m : List Int, cmpL l m ≤ 0 → (∀ t, m = l ++ t → t = []) → cmpL (l ++ z) (m ++ z) ≤ 0
  | [], m, _, hp => by
    have := hp m rfl
    subst this
    rw [cmpL_self]
    exact Int.le_refl _
  | _ :: _, [], h, _ => by simp [cmpL] at h
  | a :: l, b :: m, h, hp => by
    simp only [cmpL, List.cons_append] at h ⊢
    by_cases h1 : a < b
    · rw [if_pos h1]; omega
    · by_cases h2 : b < a
      · rw [if_neg h1, if_pos h2] at h; omega
      · rw [if_neg h1, if_neg h2] at h ⊢
        have hab : a = b := by omega
        subst hab
        exact cmpL_snoc z l m h (fun t ht => hp t (by rw [ht]; rfl))
/-- One edge more, at its end. -/
def fstG (acc was : Option (List Int)) (e : Ed) : Option (List Int) :=
  match acc with
  | none => some (was.getD [] ++ [e.2.1])
  | some l => if cmpL (was.getD [] ++ [e.2.1]) l < 0 then some (was.getD [] ++ [e.2.1]) else some l
theorem putV_id {β : Type} (f : Nat → β) (n : Nat) : putV f n (f n) = f := by
  funext i
  unfold putV
  split
  · rename_i h; rw [h]
  · rfl
theorem fstE_step : fstE = stepG fstG := by
  funext f e
  unfold fstE stepG fstG wayE
  cases h : f e.2.1.toNat with
  | none => rfl
  | some l =>
    simp only
    by_cases hc : cmpL ((f e.1.toNat).getD [] ++ [e.2.1]) l < 0
    · rw [if_pos hc, if_pos hc]
    · rw [if_neg hc, if_neg hc, ← h, putV_id]
theorem fold_min (F : Nat → Option (List Int)) : ∀ (L : List Ed) (acc : Option (List Int)), (L ≠ [] ∨ ∃ l, acc = some l) →
    ∃ m, L.foldl (fun acc e => fstG acc (F e.1.toNat) e) acc = some m ∧ (acc = some m ∨ ∃ e ∈ L, m = (F e.1.toNat).getD [] ++ [e.2.1]) ∧ (∀ e ∈ L, cmpL m ((F e.1.toNat).getD [] ++ [e.2.1]) ≤ 0) ∧ ∀ l, acc = some l → cmpL m l ≤ 0
  | [], acc, h => by
    rcases h with h | ⟨l, rfl⟩
    · exact absurd rfl h
    · exact ⟨l, rfl, .inl rfl, by simp, fun m hm => by cases hm; rw [cmpL_self]; exact Int.le_refl _⟩
  | e :: L, acc, _ => by
    obtain ⟨a, ha, hcase⟩ : ∃ a, fstG acc (F e.1.toNat) e = some a ∧ ((acc = some a ∧ cmpL a ((F e.1.toNat).getD [] ++ [e.2.1]) ≤ 0) ∨ (a = (F e.1.toNat).getD [] ++ [e.2.1] ∧ ∀ l, acc = some l → cmpL a l ≤ 0)) := by
      cases acc with
      | none => exact ⟨_, rfl, .inr ⟨rfl, fun l hl => by cases hl⟩⟩
      | some l =>
        by_cases hc : cmpL ((F e.1.toNat).getD [] ++ [e.2.1]) l < 0
        · exact ⟨_, by simp only [fstG]; rw [if_pos hc], .inr ⟨rfl, fun m hm => by cases hm; omega⟩⟩
        · exact ⟨l, by simp only [fstG]; rw [if_neg hc], .inl ⟨rfl, by rw [cmpL_neg]; omega⟩⟩
    obtain ⟨m, h1, h2, h3, h4⟩ := fold_min F L (some a) (.inr ⟨a, rfl⟩)
    have hma := h4 a rfl
    refine ⟨m, by rw [List.foldl_cons, ha]; exact h1, ?_, ?_, ?_⟩
    · rcases h2 with h2 | ⟨f, hf, h2⟩
      · cases h2
        rcases hcase with ⟨h5, _⟩ | ⟨h5, _⟩
        · exact .inl h5
        · exact .inr ⟨e, by simp, h5⟩
      · exact .inr ⟨f, by simp [hf], h2⟩
    · intro f hf
      rcases List.mem_cons.1 hf with rfl | hf
      · rcases hcase with ⟨_, h5⟩ | ⟨h5, _⟩
        · exact cmpL_trans _ _ _ hma h5
        · rw [← h5]; exact hma
      · exact h3 f hf
    · intro l hl
      rcases hcase with ⟨h5, _⟩ | ⟨_, h5⟩
      · rw [h5] at hl; cases hl; exact hma
      · exact cmpL_trans _ _ _ hma (h5 l hl)
/-- What First tells of a node. -/
theorem fst_right {ns : List Int} {es : List Ed} {r : Int} {P : List (Int × Int)} (hok : graphOk ns es = true) (hr : r ∈ ns) (h : IsNear es r P) (hn : NdOk P) :
    ∀ (n : Nat) (x d : Int), d.toNat = n → x ∈ ns → Ds es r x d → ∃ l, fstT r (told es P P) x.toNat = some l ∧ Wl es r l x d ∧ ∀ m, Wl es r m x d → cmpL l m ≤ 0 := by
  have hp := graphOk_pos hok
  have hbd := graphOk_bd hok
  have h0 : ∀ n ∈ P, 0 ≤ n.1 := fun n h1 => by have := (hn.2 n h1).1; omega
  have hr2 := hbd.1 r hr
  have hF : ∀ y, (told es P P).foldl (stepG fstG) (putV (fun _ => none) r.toNat (some [r])) y = fstT r (told es P P) y := fun y => by unfold fstT; rw [fstE_step]
  have hinto : ∀ x, x ∈ ns → ∀ e, e ∈ (told es P P).filter (fun e => decide (e.2.1.toNat = x.toNat)) ↔ Into es r x e := fun x hx e => by
    have h2 := hbd.1 x hx
    rw [List.mem_filter, h.told_iff h0, decide_eq_true_eq]
    constructor
    · rintro ⟨⟨h1, d, hd1, hd2⟩, h3⟩
      have h4 := hbd.1 _ (hbd.2.1 e h1).2
      have h5 : e.2.1 = x := by omega
      exact ⟨h1, h5, d, hd1, by rw [← h5]; exact hd2⟩
    · rintro ⟨h1, h4, d, hd1, hd2⟩
      exact ⟨⟨h1, d, hd1, by rw [h4]; exact hd2⟩, by rw [h4]⟩
  intro n
  induction n using Nat.strongRecOn with
  | ind n ih =>
    intro x d hdn hx hd
    have hx2 := hbd.1 x hx
    have hfold := topo_fold fstG (putV (fun _ => none) r.toNat (some [r])) _ _ rfl (h.topo h0 hp) x.toNat
    have hfc : ∀ (L : List Ed) (a : Option (List Int)), L.foldl (fun acc e => fstG acc ((told es P P).foldl (stepG fstG) (putV (fun _ => none) r.toNat (some [r])) e.1.toNat) e) a = L.foldl (fun acc e => fstG acc (fstT r (told es P P) e.1.toNat) e) a := fun L a => by
      congr
      funext acc e
      rw [hF]
    rw [hF, hfc] at hfold
    rw [hfold]
    by_cases hxr : x = r
    · subst hxr
      have hd0 : d = 0 := hd.uniq (ds_root hp)
      subst hd0
      have hnil : (told es P P).filter (fun e => decide (e.2.1.toNat = x.toNat)) = [] := by
        apply List.eq_nil_iff_forall_not_mem.2
        intro e he
        exact into_root hp ((hinto x hx e).1 he)
      rw [hnil]
      refine ⟨[x], by show putV _ _ _ _ = _; rw [putV_same], Wl.refl _ _, fun m hm => ?_⟩
      have h1 := (hm.ok hok hr)
      have h2 := (h1.wy.pos hp).1
      have h3 : m.length = 1 := by have := h1.pos; omega
      obtain ⟨t, rfl, _⟩ := h1.head
      simp at h3
      subst h3
      rw [cmpL_self]
      exact Int.le_refl _
    · have hinit : putV (fun _ => none) r.toNat (some [r]) x.toNat = none := putV_other _ _ (by omega)
      rw [hinit]
      have hstep : ∀ e, Into es r x e → ∃ le c, Ds es r e.1 c ∧ d = c + e.2.2 ∧ fstT r (told es P P) e.1.toNat = some le ∧ Wl es r le e.1 c ∧ ∀ m, Wl es r m e.1 c → cmpL le m ≤ 0 := fun e hi => by
        obtain ⟨h1, h2, c, hc, hc2⟩ := hi
        have h3 := hd.uniq hc2
        have h4 := (hp e h1).1
        have h5 := hc.nonneg hp
        obtain ⟨le, hle⟩ := ih c.toNat (by omega) e.1 c rfl (hbd.2.1 e h1).1 hc
        exact ⟨le, c, hc, h3, hle⟩
      obtain ⟨hh, hw⟩ := hd.1
      have hne : (told es P P).filter (fun e => decide (e.2.1.toNat = x.toNat)) ≠ [] := by
        rcases hw.last with ⟨h1, _⟩ | ⟨e, he, c', h', hw', h1, h2, _⟩
        · exact absurd h1 hxr
        · intro hnil
          have := (hinto x hx e).2 (into_last hd he hw' h1 h2).1
          rw [hnil] at this
          simp at this
      obtain ⟨l, h1, h2, h3, _⟩ := fold_min (fstT r (told es P P)) _ none (.inl hne)
      refine ⟨l, h1, ?_, fun m hm => ?_⟩
      · rcases h2 with h2 | ⟨e, he, h2⟩
        · cases h2
        · have hi := (hinto x hx e).1 he
          obtain ⟨le, c, hc, hdc, hfe, hwl, _⟩ := hstep e hi
          rw [h2, hfe, hdc]
          have := hwl.step hi.1
          rw [hi.2.1] at this
          rw [hi.2.1]
          exact this
      · rcases hm.last with ⟨_, h5, _⟩ | ⟨e, he, m', c', hm', hml, h5, h6⟩
        · exact absurd h5 hxr
        · obtain ⟨hi, hc'⟩ := into_last hd he (hm'.ok hok hr).wy h5 h6
          obtain ⟨le, c, hc, hdc, hfe, hwl, hmin⟩ := hstep e hi
          have hcc := hc.uniq hc'
          subst hcc
          have h7 := h3 e ((hinto x hx e).2 hi)
          rw [hfe] at h7
          rw [hml]
          refine cmpL_trans _ _ _ h7 (cmpL_snoc [e.2.1] le m' (hmin m' hm') (fun t ht => Classical.byContradiction fun hne => ?_))
          have := hm'.longer hok hr le t _ _ ht hwl hne
          omega
theorem fst_none {ns : List Int} {es : List Ed} {r : Int} {P : List (Int × Int)} (hok : graphOk ns es = true) (hr : r ∈ ns) (h : IsNear es r P) (hn : NdOk P) {x : Int} (hx : x ∈ ns) (hno : ∀ d, ¬ Ds es r x d) : fstT r (told es P P) x.toNat = none := by
  have hp := graphOk_pos hok
  have hbd := graphOk_bd hok
  have h0 : ∀ n ∈ P, 0 ≤ n.1 := fun n h1 => by have := (hn.2 n h1).1; omega
  have hr2 := hbd.1 r hr
  have hx2 := hbd.1 x hx
  have hfold := topo_fold fstG (putV (fun _ => none) r.toNat (some [r])) _ _ rfl (h.topo h0 hp) x.toNat
  have hF : ∀ y, (told es P P).foldl (stepG fstG) (putV (fun _ => none) r.toNat (some [r])) y = fstT r (told es P P) y := fun y => by unfold fstT; rw [fstE_step]
  rw [hF] at hfold
  rw [hfold]
  have hnil : (told es P P).filter (fun e => decide (e.2.1.toNat = x.toNat)) = [] := by
    apply List.eq_nil_iff_forall_not_mem.2
    intro e he
    rw [List.mem_filter, h.told_iff h0, decide_eq_true_eq] at he
    obtain ⟨⟨h1, d, hd1, hd2⟩, h3⟩ := he
    have h4 := hbd.1 _ (hbd.2.1 e h1).2
    have h5 : e.2.1 = x := by omega
    rw [h5] at hd2
    exact hno _ hd2
  rw [hnil]
  show putV _ _ _ _ = _
  refine putV_other _ _ (fun e => hno 0 ?_)
  have : x = r := by omega
  rw [this]
  exact ds_root hp
end Go.Proofs.Ytabnecicidkmhaa
namespace Go.Proofs.Ytabnecicidkmhaa

theorem wy_wl {es : List Ed} {r x c : Int} {h : Nat} (k : Wy es r x c h) : ∃ l, Wl es r l x c :=
  k (fun x c _ => ∃ l, Wl es r l x c) ⟨_, Wl.refl es r⟩ (fun _ he _ _ ⟨_, hl⟩ => ⟨_, hl.step he⟩)
theorem wl_wy {es : List Ed} {r x c : Int} {l : List Int} (k : Wl es r l x c) : ∃ h, Wy es r x c h :=
  k (fun _ x c => ∃ h, Wy es r x c h) ⟨0, Wy.refl es r⟩ (fun _ he _ _ ⟨_, hl⟩ => ⟨_, hl.step he⟩)
theorem Wl.cons {es : List Ed} {e : Ed} (he : e ∈ es) {l : List Int} {x c : Int} (k : Wl es e.2.1 l x c) : Wl es e.1 (e.1 :: l) x (e.2.2 + c) := by
  have := k (fun l x c => Wl es e.1 (e.1 :: l) x (e.2.2 + c)) (by
    have h := (Wl.refl es e.1).step he
    rw [Int.zero_add] at h
    simpa using h) (fun f hf l c h => by
    have h2 := h.step hf
    rw [Int.add_assoc] at h2
    exact h2)
  exact this
/-- The first step of a way. -/
theorem Wl.head {es : List Ed} {r x c : Int} {l : List Int} (k : Wl es r l x c) : (l = [r] ∧ x = r ∧ c = 0) ∨ ∃ e ∈ es, e.1 = r ∧ ∃ l', l = r :: l' ∧ Wl es e.2.1 l' x (c - e.2.2) := by
  have := k (fun l x c => (l = [r] ∧ x = r ∧ c = 0) ∨ ∃ e ∈ es, e.1 = r ∧ ∃ l', l = r :: l' ∧ Wl es e.2.1 l' x (c - e.2.2)) (.inl ⟨rfl, rfl, rfl⟩) (fun f hf l c h => by
    rcases h with ⟨h1, h2, h3⟩ | ⟨e, he, h1, l', h2, h3⟩
    · refine .inr ⟨f, hf, h2, [f.2.1], by rw [h1]; rfl, ?_⟩
      rw [h3, show (0 : Int) + f.2.2 - f.2.2 = 0 by omega]
      exact Wl.refl es f.2.1
    · refine .inr ⟨e, he, h1, l' ++ [f.2.1], by rw [h2]; rfl, ?_⟩
      have h4 := h3.step hf
      rw [show c - e.2.2 + f.2.2 = c + f.2.2 - e.2.2 by omega] at h4
      exact h4)
  exact this
theorem wl_starts {es : List Ed} {r x c : Int} {l : List Int} (k : Wl es r l x c) : ∃ l', l = r :: l' := by
  rcases k.head with ⟨h, _⟩ | ⟨_, _, _, l', h, _⟩
  · exact ⟨[], h⟩
  · exact ⟨l', h⟩
/-- The first of the ways of a cost, by order. -/
def IsFst (es : List Ed) (a x d : Int) (l : List Int) : Prop := Wl es a l x d ∧ ∀ m, Wl es a m x d → cmpL l m ≤ 0
theorem cmpL_head {a : Int} {l m : List Int} : cmpL (a :: l) (a :: m) = cmpL l m := by
  show (if a < a then -1 else if a < a then 1 else cmpL l m) = _
  rw [if_neg (Int.lt_irrefl _), if_neg (Int.lt_irrefl _)]
/-- The least node from which the rest is as cheap as it must be is the way's next. -/
theorem fst_next {es : List Ed} {a x d : Int} {l : List Int} (hf : IsFst es a x d l) (hd : Ds es a x d) (hne : a ≠ x) :
    ∃ n l' c, l = a :: l' ∧ (a, n, c) ∈ es ∧ Ds es n x (d - c) ∧ IsFst es n x (d - c) l' ∧ ∀ m c', (a, m, c') ∈ es → Ds es m x (d - c') → n ≤ m := by
  rcases hf.1.head with ⟨_, h2, _⟩ | ⟨⟨e1, n, c⟩, he, h1, l', h2, h3⟩
  · exact absurd h2.symm hne
  · simp only at h1 h3
    subst h1
    have hdn : Ds es n x (d - c) := by
      obtain ⟨hh, hw⟩ := wl_wy h3
      refine ⟨⟨hh, hw⟩, fun c' h' hw' => ?_⟩
      have h4 := (Wy.one he).trans hw'
      simp only at h4
      have := hd.2 _ _ h4
      omega
    refine ⟨n, l', c, h2, he, hdn, ⟨h3, fun m hm => ?_⟩, fun m c' hm hdm => ?_⟩
    · have h4 := Wl.cons he hm
      simp only at h4
      rw [show c + (d - c) = d by omega] at h4
      have h5 := hf.2 _ h4
      rwa [h2, cmpL_head] at h5
    · obtain ⟨hh, hw⟩ := hdm.1
      obtain ⟨lm, hlm⟩ := wy_wl hw
      have h4 := Wl.cons hm hlm
      simp only at h4
      rw [show c' + (d - c') = d by omega] at h4
      have h5 := hf.2 _ h4
      rw [h2, cmpL_head] at h5
      obtain ⟨l1, hl1⟩ := wl_starts h3
      obtain ⟨l2, hl2⟩ := wl_starts hlm
      rw [hl1, hl2] at h5
      rcases Int.lt_or_le m n with h6 | h6
      · exfalso
        have : cmpL (n :: l1) (m :: l2) = 1 := by
          show (if n < m then -1 else if m < n then 1 else cmpL l1 l2) = 1
          rw [if_neg (by omega), if_pos h6]
        omega
      · exact h6
/-- At its end a way is done. -/
theorem fst_end {ns : List Int} {es : List Ed} (hok : graphOk ns es = true) {x d : Int} {l : List Int} (hf : IsFst es x x d l) (hd : Ds es x x d) : l = [x] := by
  have hp := graphOk_pos hok
  have h0 := hd.uniq (ds_root hp)
  rcases hf.1.head with ⟨h1, _⟩ | ⟨e, he, h1, l', h2, h3⟩
  · exact h1
  · obtain ⟨hh, hw⟩ := wl_wy h3
    have h4 := (hw.pos hp).1
    have h5 := hp e he
    omega
/-- What the program's First tells. -/
theorem fst_is {ns : List Int} {es : List Ed} {r : Int} {P : List (Int × Int)} (hok : graphOk ns es = true) (hr : r ∈ ns) (h : IsNear es r P) (hn : NdOk P) {x d : Int} (hx : x ∈ ns) (hd : Ds es r x d) : ∃ l, fstT r (told es P P) x.toNat = some l ∧ IsFst es r x d l := by
  obtain ⟨l, h1, h2, h3⟩ := fst_right hok hr h hn d.toNat x d rfl hx hd
  exact ⟨l, h1, h2, h3⟩
end Go.Proofs.Ytabnecicidkmhaa
namespace Go.Proofs.Ytabnecicidkmhaa
open Go.RowKit

abbrev u64c (N : Int → Nat) (x : Int) : Value := .int .u64 (N x : Nat)
theorem infoU64 : (Try.prog.info? 43).map (fun i => (i.zero, i.size, i.bytes)) = some (some (.int .u64 0), 1, 8) := by kernel_rfl
theorem make_rowU (n : Nat) (hn : n ≤ 1000) (w : World) : ∃ W, (Instr.makeSlice 70 (.int .i64 (n : Int)) (.int .i64 (n : Int))).run Try.prog w = .ok (.slice (some ⟨w.heap.size, 0, none⟩) n n) W ∧ W.ownsRow w.heap.size 43 1 (.slice (some ⟨w.heap.size, 0, none⟩) n n) n (List.replicate n (.int .u64 0)) ∧ Below w.heap.size w W := by
  obtain ⟨i0, hi, hz0, hz1, hz2⟩ := info_parts infoU64
  have := run_make (P := Try.prog) w 70 43 i0 (.int .u64 0) Try.underlying70 hi hz0 .i64 .i64 n n (by omega) (Int.le_refl _) (by rw [hz2]; omega) (by omega)
  rw [hz1, Nat.mul_one] at this
  refine ⟨w.alloc (.cells (madeCells #[.int .u64 0] n) 43), by simpa [Value.cells] using this, ⟨by simp, .inr ⟨w.heap.size, n, _, rfl, Nat.le_refl _, heap_alloc_last w _, Nat.le_refl _, by unfold maxLen; omega, by rw [size_madeCells, Nat.mul_one], ?_⟩⟩, (Below.refl _ w).alloc (Nat.le_refl _) _⟩
  rw [Nat.mul_one, List.take_of_length_le (by simp [madeCells])]
  apply List.ext_getElem?
  intro j
  rw [List.getElem?_replicate]
  by_cases h : j < n
  · simp [madeCells, h, Nat.mod_one]
  · simp [madeCells, h]
/-- A row of counts, by nodes. -/
def RowN (w : World) (B g ln : Nat) (ns : List Int) (N : Int → Nat) : Prop := w.ownsRow B 43 1 (.slice (some ⟨g, 0, none⟩) ln ln) ln (ns.map (u64c N))
theorem RowN.cell {w : World} {B g ln : Nat} {ns : List Int} {N : Int → Nat} (h : RowN w B g ln ns N) {k : Nat} {x : Int} (hx : ns[k]? = some x) : w.cell? ⟨g, k, none⟩ = some (.int .u64 (N x : Nat)) := by
  have := World.ownsRow.cells h (g := g) rfl k (.int .u64 (N x : Nat)) (by rw [List.getElem?_map, hx]; rfl)
  rwa [Addr.add_mid, Nat.zero_add] at this
theorem RowN.below {w w' : World} {B g ln : Nat} {ns : List Int} {N : Int → Nat} (h : RowN w B g ln ns N) (hb : Below w.heap.size w w') : RowN w' B g ln ns N := row_below h hb (Nat.le_refl _)
theorem mapU_upd {N : Int → Nat} {y : Int} {v : Nat} : ∀ {ns : List Int} {k : Nat}, ns.Nodup → ns[k]? = some y → ns.map (u64c fun z => if z = y then v else N z) = (ns.map (u64c N)).set k (.int .u64 (v : Nat))
  | [], _, _, h => by simp at h
  | x :: ns, 0, hn, h => by
    simp at h
    subst h
    rw [List.nodup_cons] at hn
    simp only [List.map_cons, List.set_cons_zero]
    congr 1
    · show Value.int .u64 ((if x = x then v else N x : Nat) : Int) = _
      rw [if_pos rfl]
    · refine List.map_congr_left fun z hz => ?_
      show Value.int .u64 ((if z = x then v else N z : Nat) : Int) = _
      rw [if_neg (fun e => hn.1 (by rw [← e]; exact hz))]
  | x :: ns, k + 1, hn, h => by
    rw [List.nodup_cons] at hn
    have hk : ns[k]? = some y := by simpa using h
    have hxy : x ≠ y := fun e => hn.1 (by rw [e]; exact List.mem_of_getElem? hk)
    simp only [List.map_cons, List.set_cons_succ]
    rw [mapU_upd hn.2 hk]
    congr 1
    show Value.int .u64 ((if x = y then v else N x : Nat) : Int) = _
    rw [if_neg hxy]
theorem RowN.set {w : World} {B g ln : Nat} {ns : List Int} {N : Int → Nat} (h : RowN w B g ln ns N) (hn : ns.Nodup) {k : Nat} {x : Int} (hx : ns[k]? = some x) (v : Nat) : RowN (w.setCell ⟨g, k, none⟩ (.int .u64 (v : Nat))) B g ln ns (fun z => if z = x then v else N z) := by
  unfold RowN
  rw [mapU_upd hn hx]
  exact row_set h k _
theorem RowN.congr {w : World} {B g ln : Nat} {ns : List Int} {N N' : Int → Nat} (h : RowN w B g ln ns N) (he : ∀ x ∈ ns, N x = N' x) : RowN w B g ln ns N' := by
  unfold RowN at h ⊢
  rw [show ns.map (u64c N') = ns.map (u64c N) from List.map_congr_left fun x hx => by show Value.int .u64 _ = Value.int .u64 _; rw [he x hx]]
  exact h
theorem RowN.frozen {w : World} {B g ln : Nat} {ns : List Int} {N : Int → Nat} (h : RowN w B g ln ns N) (j : Nat) : w.frozen? ⟨g, j, none⟩ = false := frozen_row h j
theorem slAt_set {w : World} {ca : Option Addr} {ln cc g j : Nat} {xs : List Int} (h : SlAt ic 1 w (.slice ca ln cc) xs) (hb : ∀ p : Addr, ca = some p → p.block < g) (v : Value) : SlAt ic 1 (w.setCell ⟨g, j, none⟩ v) (.slice ca ln cc) xs := by
  obtain ⟨a, cap, he, h0, h1, h2⟩ := h
  refine ⟨a, cap, he, h0, h1, fun hp => ?_⟩
  obtain ⟨bk, o, rfl, h3, h4⟩ := h2 hp
  simp only [Value.slice.injEq] at he
  have := hb _ he.1
  simp only at this
  refine ⟨bk, o, rfl, by simpa [World.setCell] using h3, fun i x hx s v' hv => ?_⟩
  rw [World.cell?_setCell_far _ _ _ _ (by simp only; omega)]
  exact h4 i x hx s v' hv
/-- What Count has amid its work. -/
structure CnM (w0 w : World) (g ln : Nat) (ns : List Int) (ca : Option Addr) (cc : Nat) (D : Int → Int) (N : Int → Nat) : Prop where
  b : Below w0.heap.size w0 w
  n : RowN w w0.heap.size g ln ns N
  c : SlAt ic 1 w (.slice ca ln cc) (ns.map D)
theorem CnM.keep {w0 w w' : World} {g ln : Nat} {ns : List Int} {ca : Option Addr} {cc : Nat} {D : Int → Int} {N : Int → Nat} (h : CnM w0 w g ln ns ca cc D N) (hb : Below w.heap.size w w') : CnM w0 w' g ln ns ca cc D N := ⟨h.b.trans (hb.mono h.b.size), h.n.below hb, h.c.keep hb (Nat.le_refl _)⟩
theorem CnM.congr {w0 w : World} {g ln : Nat} {ns : List Int} {ca : Option Addr} {cc : Nat} {D : Int → Int} {N N' : Int → Nat} (h : CnM w0 w g ln ns ca cc D N) (he : ∀ x ∈ ns, N x = N' x) : CnM w0 w g ln ns ca cc D N' := ⟨h.b, h.n.congr he, h.c⟩
/-- What Count's last statement reads, but for the count that it turns. -/
def S17 (q bk g : Nat) (gn ge : Value) (eo px : Nat) (ex : Int) (nx : Nat) (wx : World) : Prop := wx.cell? ⟨q, 0, none⟩ = some gn ∧ wx.cell? ⟨q, 1, none⟩ = some ge ∧ wx.cell? ⟨bk, eo, none⟩ = some (.int .i64 ex) ∧ wx.cell? ⟨g, px, none⟩ = some (.int .u64 (nx : Nat))
theorem S17.keep {q bk g : Nat} {gn ge : Value} {eo px : Nat} {ex : Int} {nx : Nat} {wx wy : World} (h : S17 q bk g gn ge eo px ex nx wx) (hb : Below wx.heap.size wx wy) : S17 q bk g gn ge eo px ex nx wy :=
  ⟨(hb.cell (p := ⟨q, 0, none⟩) (block_lt_of_cell h.1)).trans h.1, (hb.cell (p := ⟨q, 1, none⟩) (block_lt_of_cell h.2.1)).trans h.2.1, (hb.cell (p := ⟨bk, eo, none⟩) (block_lt_of_cell h.2.2.1)).trans h.2.2.1, (hb.cell (p := ⟨g, px, none⟩) (block_lt_of_cell h.2.2.2)).trans h.2.2.2⟩
theorem S17.set {q bk g : Nat} {gn ge : Value} {eo px : Nat} {ex : Int} {nx : Nat} {wx : World} {j : Nat} (h : S17 q bk g gn ge eo px ex nx wx) (h1 : q ≠ g) (h2 : bk ≠ g) (h3 : px ≠ j) (v : Value) : S17 q bk g gn ge eo px ex nx (wx.setCell ⟨g, j, none⟩ v) :=
  ⟨(World.cell?_setCell_far _ _ _ _ (fun e => h1 e.symm)).trans h.1, (World.cell?_setCell_far _ _ _ _ (fun e => h1 e.symm)).trans h.2.1, (World.cell?_setCell_far _ _ _ _ (fun e => h2 e.symm)).trans h.2.2.1, (World.cell?_setCell_other _ ⟨g, j, none⟩ ⟨g, px, none⟩ _ (by simp)).trans h.2.2.2⟩
/-- What stands while a node's edges are added up. -/
def edN (D : Int → Int) (N : Int → Nat) (x : Int) (L : List Ed) : Int → Nat := fun z => if z = x then addE D N x L else N z
theorem edN_no (D : Int → Int) (N : Int → Nat) (x : Int) (L : List Ed) {e : Ed} (h : ¬ (e.2.1 = x ∧ tgI D e = true)) : edN D N x (L ++ [e]) = edN D N x L := by
  unfold edN
  rw [addE_snoc, if_neg h]
theorem CnM.cost {w0 w : World} {g ln : Nat} {ns : List Int} {cb co cc : Nat} {D : Int → Int} {N : Int → Nat} (h : CnM w0 w g ln ns (some ⟨cb, co, none⟩) cc D N) {k : Nat} {x : Int} (hx : ns[k]? = some x) : w.cell? ⟨cb, co + k, none⟩ = some (.int .i64 (D x)) := by
  obtain ⟨a', c', he, _, _, hc⟩ := h.c.ints
  obtain ⟨bk, o, h1, _, h3⟩ := hc (by rw [List.length_map]; have := (List.getElem?_eq_some_iff.1 hx).1; omega)
  simp only [Value.slice.injEq] at he
  rw [← he.1] at h1
  simp only [Option.some.injEq, Addr.mk.injEq, and_true] at h1
  rw [h1.1, h1.2]
  exact h3 k (D x) (by rw [List.getElem?_map, hx]; rfl)
set_option maxRecDepth 100000 in
set_option maxHeartbeats 4000000 in
theorem dcount_any {ns : List Int} {es : List Ed} {vn ve : Value} {w : World} (h : GrAt w vn ve ns es) (a b : Int) :
    Calls Try.prog 17 #[grV vn ve, .int .i64 a, .int .i64 b] w fun e w' => ((ndAll ns es [a, b] = false ∧ e = .returned (.tuple #[.int .u64 0, .int .i64 2])) ∨ (ndAll ns es [a, b] = true ∧ ∃ c : Int, c ≤ 24000 ∧ (bfN es a ns.length b ≤ c ∨ c = 24000) ∧ e = .returned (.tuple #[.int .u64 (cntO es a (bfN es a ns.length) c b : Nat), .int .i64 0]))) ∧ Below w.heap.size w w' := by
  have HGr := hidIn h
  obtain ⟨na, nca, rfl, hnl, _, hna⟩ := h.n.ints
  obtain ⟨ea, eca, rfl, hel, _, hea⟩ := h.e.eds
  have Hna := hidIn hna
  have Hea := hidIn hea
  obtain ⟨W1, hW1⟩ : ∃ W1, w.alloc (.cells #[.slice na ns.length nca, .slice ea es.length eca] 25) = W1 := ⟨_, rfl⟩
  have bA : Below w.heap.size w W1 := by rw [← hW1]; exact (Below.refl _ w).alloc (Nat.le_refl _) _
  have hGB : W1.heap[w.heap.size]? = some (.cells #[.slice na ns.length nca, .slice ea es.length eca] 25) := by rw [← hW1]; exact heap_alloc_last w _
  obtain ⟨q, hqe⟩ : ∃ q, w.heap.size = q := ⟨_, rfl⟩
  rw [hqe] at hGB
  have hlt0 := block_lt hGB
  have HF : Hid (∀ wq, Below W1.heap.size W1 wq → (wq.cell? ⟨q, 0, none⟩ = some (.slice na ns.length nca) ∧ wq.cell? ⟨q, 1, none⟩ = some (.slice ea es.length eca)) ∧ Below w.heap.size w wq) := hidIn fun wq h => by
    have j0 := (h.block _ hlt0).trans hGB
    exact ⟨⟨cell_of_row _ _ 0 _ _ _ j0, cell_of_row _ _ 1 _ _ _ j0⟩, bA.trans (h.mono bA.size)⟩
  have HW := hidIn hW1
  have HCk := hidIn (gcheck_any (h.keep bA (Nat.le_refl _)))
  obtain ⟨ln, hln⟩ : ∃ ln, ns.length = ln := ⟨_, rfl⟩
  obtain ⟨le, hle⟩ : ∃ le, es.length = le := ⟨_, rfl⟩
  have hgr := HGr.out
  rw [hln, hle] at hgr
  have HG := hidIn hgr
  have HP : Hid (∀ z wq, Below w.heap.size w wq → Calls Try.prog 26 #[grV (.slice na ln nca) (.slice ea le eca), .int .i64 z] wq fun e w' => e = .returned (.int .i64 (plI ns z)) ∧ Below wq.heap.size wq w') := hidIn fun z wq hq => place_any (hgr.keep hq (Nat.le_refl _)) z
  have HCo : Hid (graphOk ns es = true → ∀ wq, Below w.heap.size w wq → Calls Try.prog 34 #[grV (.slice na ln nca) (.slice ea le eca), .int .i64 a] wq fun e w' => (∃ a' c, e = .returned (.slice a' ln c) ∧ w'.ownsRow wq.heap.size 3 1 (.slice a' ln c) ln (fl ic (ns.map (bfN es a ln)))) ∧ Below wq.heap.size wq w') := hidIn fun hok wq hq => by
    have := costs_any (hgr.keep hq (Nat.le_refl _)) hok a
    rwa [hln] at this
  rw [hln] at hnl HF HW HCk ⊢
  rw [hle] at hel HF HW HCk ⊢
  have Hln := hidIn hln
  have Hle := hidIn hle
  have HB1 := hidIn bA
  have Hq0 := hidIn hlt0
  clear hW1 bA hGB hna hea h hln hle hlt0 hgr HGr
  obtain ⟨⟨f0, f1⟩, _⟩ := HF.out W1 (Below.refl _ _)
  go_enter Try.func17, Try.ntmps17
  go_upto_region 1 with fail
  rw [HW.out]
  clear HW hqe
  go_wp2_with fail
  refine HCk.out.mono ?_
  rintro e w2 ⟨rfl, hb2⟩
  have HB2 := hidIn hb2
  obtain ⟨⟨k0, k1⟩, hB2⟩ := HF.out w2 hb2
  have HB2w := hidIn hB2
  clear hb2 HCk f0 f1 hB2
  cases hok : graphOk ns es with
  | false =>
    have HE : Hid (ndAll ns es [a, b] = false) := hidIn (by unfold ndAll; rw [hok]; rfl)
    rw [ckC_no hok]
    clear hok
    go_wp2_with fail
    go_ret2
    exact ⟨.inl ⟨HE.out, rfl⟩, HB2w.out⟩
  | true =>
    rw [ckC_yes hok]
    have Hok := hidIn hok
    clear hok
    go_wp2_with fail
    refine (HP.out a w2 HB2w.out).mono ?_
    rintro e w3 ⟨rfl, hb3⟩
    have HB3 := hidIn (HB2.out.trans (hb3.mono HB2.out.size))
    obtain ⟨⟨f0, f1⟩, hB3⟩ := HF.out w3 HB3.out
    have HB3w := hidIn hB3
    clear hb3 hB3 k0 k1
    rcases Classical.em (a ∈ ns) with han | han
    rotate_left
    · have hng : plI ns a < 0 := plI_neg.2 han
      have HE : Hid (ndAll ns es [a, b] = false) := hidIn (by
        unfold ndAll
        rw [Hok.out, Bool.true_and, List.all_eq_false]
        exact ⟨a, by simp, fun e => han (hasN_iff.1 e)⟩)
      generalize plI ns a = pz at hng ⊢
      clear han
      go_wp2_with fail
      go_ret2
      exact ⟨.inl ⟨HE.out, rfl⟩, HB3w.out⟩
    obtain ⟨pa, hpa⟩ : ∃ pa, ns[pa]? = some a := List.getElem?_of_mem han
    have hia := plI_some (plN_nodup (graphOk_nn Hok.out) hpa)
    have Hia := hidIn hia
    rw [hia]
    have hpn : ¬ (pa : Int) < 0 := by omega
    have Han := hidIn han
    have Hpa := hidIn hpa
    clear hia han hpa
    go_wp2_with fail
    refine (HP.out b w3 HB3w.out).mono ?_
    rintro e w4 ⟨rfl, hb4⟩
    have HB4 := hidIn (HB3.out.trans (hb4.mono HB3.out.size))
    obtain ⟨⟨k0, k1⟩, hB4⟩ := HF.out w4 HB4.out
    have HB4w := hidIn hB4
    clear hb4 hB4 f0 f1
    rcases Classical.em (b ∈ ns) with hbn | hbn
    rotate_left
    · have hng : plI ns b < 0 := plI_neg.2 hbn
      have HE : Hid (ndAll ns es [a, b] = false) := hidIn (by
        unfold ndAll
        rw [Hok.out, Bool.true_and, List.all_eq_false]
        exact ⟨b, by simp, fun e => hbn (hasN_iff.1 e)⟩)
      generalize plI ns b = pz at hng ⊢
      clear hbn
      go_wp2_with fail
      go_ret2
      exact ⟨.inl ⟨HE.out, rfl⟩, HB4w.out⟩
    obtain ⟨pb, hpb⟩ : ∃ pb, ns[pb]? = some b := List.getElem?_of_mem hbn
    have hib := plI_some (plN_nodup (graphOk_nn Hok.out) hpb)
    have Hib := hidIn hib
    rw [hib]
    have hpn2 : ¬ (pb : Int) < 0 := by omega
    have HY : Hid (ndAll ns es [a, b] = true) := hidIn (by
      unfold ndAll
      rw [Hok.out, Bool.true_and, List.all_eq_true]
      intro x hx
      simp only [List.mem_cons, List.not_mem_nil, or_false] at hx
      rcases hx with rfl | rfl
      · exact hasN_iff.2 Han.out
      · exact hasN_iff.2 hbn)
    have Hpb := hidIn hpb
    have hpal : pa < ln := by have := (List.getElem?_eq_some_iff.1 Hpa.out).1; have := Hln.out; omega
    have hpbl : pb < ln := by have := (List.getElem?_eq_some_iff.1 hpb).1; have := Hln.out; omega
    have hl24 : ln ≤ 24 := by have := graphOk_n24 Hok.out; have := Hln.out; omega
    have hpai : (pa : Int) < (ln : Int) := by omega
    have hpbi : (pb : Int) < (ln : Int) := by omega
    clear hib hbn hpb
    go_wp2_with fail
    refine (HCo.out Hok.out w4 HB4w.out).mono ?_
    rintro e w5 ⟨⟨ca, cc, rfl, hr5⟩, hb5⟩
    have HB5 := hidIn (HB4.out.trans (hb5.mono HB4.out.size))
    have HC5 := hidIn (slAt_of_row (cs := ic) (fun _ => rfl) hr5 (by rw [List.length_map]; exact Hln.out))
    have HCb : Hid (∀ p : Addr, ca = some p → p.block < w5.heap.size) := hidIn (fun p hp => by
      obtain ⟨a', c', he, _, _, hc⟩ := HC5.out.ints
      obtain ⟨bk, o, h1, h2, _⟩ := hc (by rw [List.length_map]; have := Hln.out; omega)
      simp only [Value.slice.injEq] at he
      rw [← he.1, hp] at h1
      simp only [Option.some.injEq] at h1
      rw [h1]
      exact h2)
    obtain ⟨⟨f0, f1⟩, _⟩ := HF.out w5 HB5.out
    obtain ⟨W6, hmk, hr6, hb6⟩ := make_rowU ln (by omega) w5
    obtain ⟨D, hD⟩ : ∃ D, bfN es a ln = D := ⟨_, rfl⟩
    have HD := hidIn hD
    rw [hD] at HC5
    obtain ⟨g, hge⟩ : ∃ g, w5.heap.size = g := ⟨_, rfl⟩
    have Hge := hidIn hge
    rw [hge] at hmk hr6
    have hN0 : RowN W6 W1.heap.size g ln ns (fun _ => 0) := by
      have h1 := row_low hr6 (show W1.heap.size ≤ g by rw [← hge]; exact HB5.out.size)
      unfold RowN
      rw [show ns.map (u64c fun _ => 0) = List.replicate ln (.int .u64 0) from by
        apply List.ext_getElem?
        intro j
        rw [List.getElem?_map, List.getElem?_replicate]
        by_cases hj : j < ln
        · rw [List.getElem?_eq_getElem (by have := Hln.out; omega), if_pos hj]; rfl
        · rw [List.getElem?_eq_none (by have := Hln.out; omega), if_neg hj]; rfl]
      exact h1
    have HN0 := hidIn hN0
    have HB6 := hidIn (HB5.out.trans (hb6.mono HB5.out.size))
    have HC6 := hidIn (HC5.out.keep hb6 (Nat.le_refl _))
    have HMk := hidIn hmk
    obtain ⟨⟨j0, j1⟩, hB6w⟩ := HF.out W6 HB6.out
    have HB6w := hidIn hB6w
    clear hr5 hb5 hmk hr6 hb6 hD hN0 hB6w k0 k1 HCo hge
    have hmk2 := HMk.out
    go_upto_region 5 with fail
    clear hmk2 f0 f1
    have HM0 : Hid (∀ wq, Below W6.heap.size W6 wq → CnM W1 (wq.setCell ⟨g, pa, none⟩ (.int .u64 1)) g ln ns ca cc D (cntO es a D 0)) := hidIn fun wq hq => by
      have hgl : W1.heap.size ≤ g := by rw [← Hge.out]; exact HB5.out.size
      refine ⟨(HB6.out.trans (hq.mono HB6.out.size)).setCell (p := ⟨g, pa, none⟩) hgl _, ?_, ?_⟩
      · refine ((HN0.out.below hq).set (graphOk_nn Hok.out) Hpa.out 1).congr fun x hx => ?_
        have := cnt_start Hok.out Han.out x
        rw [Hln.out, HD.out] at this
        exact this.symm
      · refine slAt_set (HC6.out.keep hq (Nat.le_refl _)) (fun p hp => by rw [← Hge.out]; exact HCb.out p hp) _
    go_wp2_with fail
    refine (HP.out a W6 HB6w.out).mono ?_
    rintro e w7 ⟨rfl, hb7⟩
    rw [Hia.out]
    have k7 := (HN0.out.below hb7).cell Hpa.out
    have fz := (HN0.out.below hb7).frozen pa
    have HM7 := HM0.out w7 hb7
    obtain ⟨W8, hW8⟩ : ∃ W8, w7.setCell ⟨g, pa, none⟩ (.int .u64 1) = W8 := ⟨_, rfl⟩
    rw [hW8] at HM7
    have HW8 := hidIn hW8
    have HM8 := hidIn HM7
    obtain ⟨cb, co, hca⟩ : ∃ cb co, ca = some ⟨cb, co, none⟩ := by
      obtain ⟨a', c', he, _, _, hc⟩ := HC5.out.ints
      obtain ⟨bk, o, h1, h2, _⟩ := hc (by rw [List.length_map]; have := Hln.out; omega)
      simp only [Value.slice.injEq] at he
      exact ⟨bk, o, he.1.trans h1⟩
    have Hcg : Hid (cb < g) := hidIn (by rw [← Hge.out]; exact HCb.out _ hca)
    subst hca
    clear hb7 HM0 HN0 HB6 HC6 HMk HB6w hW8 HM7 HCb HC5 HB5 Hge j0 j1
    go_upto_region 6 with fail
    rw [HW8.out]
    clear HW8 k7 fz
    go_wp2_with fail
    go_loopw [10] (fun i wr => ∃ c : Nat, 1 ≤ c ∧ c ≤ 24001 ∧ i = .int .i64 c ∧ Hid (CnM W1 wr g ln ns (some ⟨cb, co, none⟩) cc D (cntO es a D ((c : Int) - 1)))) (fun i _ => 24002 - (intOf i).toNat)
    case atStart => exact ⟨1, by omega, by omega, rfl, HM8⟩
    case round =>
      clear HM8
      obtain ⟨c, hc1, hc2, rfl, HM⟩ := hrel
      obtain ⟨⟨f0, f1⟩, hBw⟩ := HF.out wr HM.out.b
      have HBw := hidIn hBw
      clear hBw
      go_wp2_with fail
      refine (HP.out b wr HBw.out).mono ?_
      rintro e w9 ⟨rfl, hb9⟩
      rw [Hib.out]
      have HM9 := hidIn (HM.out.keep hb9)
      have r9 := HM9.out.cost Hpb.out
      obtain ⟨db, hdb⟩ : ∃ db, D b = db := ⟨_, rfl⟩
      rw [hdb] at r9
      have Hdb := hidIn hdb
      clear hb9 HBw HM hdb f0 f1
      rcases Classical.em ((c : Int) ≤ db ∧ (c : Int) ≤ 24000) with hgo | hgo
      rotate_left
      · have HEx : Hid (∃ c' : Int, c' ≤ 24000 ∧ (bfN es a ln b ≤ c' ∨ c' = 24000) ∧ (cntO es a D ((c : Int) - 1) b) = cntO es a (bfN es a ln) c' b) := hidIn ⟨(c : Int) - 1, by omega, by rw [HD.out, Hdb.out]; omega, by rw [HD.out]⟩
        obtain ⟨⟨f0, f1⟩, hBw⟩ := HF.out w9 HM9.out.b
        have HBw := hidIn hBw
        clear hBw
        have hcs : ¬ (c : Int) ≤ db ∨ ((c : Int) ≤ db ∧ ¬ (c : Int) ≤ 24000) := by omega
        clear hgo
        rcases hcs with h1 | ⟨h1, h2⟩
        all_goals
          go_wp2_with fail
          refine (HP.out b w9 HBw.out).mono ?_
          rintro e w10 ⟨rfl, hb10⟩
          rw [Hib.out]
          have HM10 := hidIn (HM9.out.keep hb10)
          have k10 := HM10.out.n.cell Hpb.out
          have HBe := hidIn (HF.out w10 HM10.out.b).2
          clear hb10 HBw
          generalize cntO es a D ((c : Int) - 1) b = res at HEx k10
          go_wp2_with fail
          go_ret2
          obtain ⟨c', g1, g2, g3⟩ := HEx.out
          exact ⟨.inr ⟨HY.out, c', g1, g2, by rw [← g3]; rfl⟩, HBe.out⟩
      obtain ⟨h1, h2⟩ := hgo
      obtain ⟨⟨f0, f1⟩, _⟩ := HF.out w9 HM9.out.b
      go_wp2_with fail
      clear f0 f1 r9
      go_loopw [11] (fun i wr => ∃ j : Nat, j ≤ ln ∧ i = .int .i64 j ∧ Hid (CnM W1 wr g ln ns (some ⟨cb, co, none⟩) cc D (cntN es a D c (ns.take j)))) (fun i _ => ln - (intOf i).toNat)
      case atStart => exact ⟨0, Nat.zero_le _, rfl, hidIn (HM9.out.congr fun x _ => (cntN_nil es a D c x).symm)⟩
      case round =>
        clear HM9
        obtain ⟨j, hj, rfl, HM⟩ := hrel
        obtain ⟨⟨f0, f1⟩, hBw⟩ := HF.out wr HM.out.b
        by_cases hltj : j < ln
        · have hji : (j : Int) < (ln : Int) := by omega
          obtain ⟨x, hx⟩ : ∃ x, ns[j]? = some x := ⟨ns[j]'(by have := Hln.out; omega), List.getElem?_eq_getElem _⟩
          have rj := HM.out.cost hx
          by_cases hDx : D x = (c : Int)
          · have hq : (D x != (c : Int)) = false := by simpa using hDx
            obtain ⟨Nc, hNc⟩ : ∃ Nc, cntN es a D c (ns.take j) = Nc := ⟨_, rfl⟩
            have hNx : Nc x = 0 := by
              rw [← hNc]
              unfold cntN
              rw [if_neg]
              rintro (h3 | ⟨_, h3⟩)
              · omega
              · obtain ⟨i, hi⟩ := List.getElem?_of_mem h3
                rw [List.getElem?_take] at hi
                by_cases hij : i < j
                · rw [if_pos hij] at hi
                  obtain ⟨g1, g2⟩ := List.getElem?_eq_some_iff.1 hi
                  obtain ⟨g3, g4⟩ := List.getElem?_eq_some_iff.1 hx
                  exact (List.pairwise_iff_getElem.1 (List.nodup_iff_pairwise_ne.1 (graphOk_nn Hok.out))) i j g1 g3 hij (by rw [g2, g4])
                · rw [if_neg hij] at hi; cases hi
            have HM0 : Hid (CnM W1 wr g ln ns (some ⟨cb, co, none⟩) cc D (edN D Nc x (es.take 0))) := hidIn (by
              refine HM.out.congr fun z _ => ?_
              rw [hNc]
              unfold edN
              by_cases hz : z = x
              · rw [if_pos hz, hz, hNx]; rfl
              · rw [if_neg hz])
            have HEnd : Hid (∀ z, edN D Nc x es z = cntN es a D c (ns.take (j + 1)) z) := hidIn fun z => by
              rw [take_snoc hx, cntN_more hDx, hNc]
              unfold edN
              have h3 := cnt_node (c := (c : Int)) (done := ns.take j) Hok.out Han.out (x := x) (by omega) h2 (by rw [Hln.out, HD.out]; exact hDx)
              rw [Hln.out, HD.out, hNc] at h3
              rw [h3]
            have HDb : Hid (∀ z, 0 ≤ D z ∧ D z ≤ 1073741824) := hidIn fun z => by
              have h3 := bf_all Hok.out Han.out z
              rw [Hln.out, HD.out] at h3
              rcases h3 with ⟨d, _, h4, h5, h6⟩ | ⟨_, h4⟩
              · rw [h4]; omega
              · rw [h4]; unfold farC; omega
            have Hx := hidIn hx
            obtain ⟨nb, no', hna2, hnb, hncell⟩ := Hna.out (by have := Hln.out; omega)
            subst hna2
            have HX := hidIn (And.intro hnb (hncell j x hx))
            rw [hDx] at rj hq
            have HDx := hidIn hDx
            clear hNc hNx hx hBw HM hncell hnb hDx
            go_wp2_with fail
            clear f0 f1 rj hq
            go_loopw [12] (fun i wz => ∃ m : Nat, m ≤ le ∧ i = .int .i64 m ∧ Hid (CnM W1 wz g ln ns (some ⟨cb, co, none⟩) cc D (edN D Nc x (es.take m)))) (fun i _ => le - (intOf i).toNat)
            case atStart => exact ⟨0, Nat.zero_le _, rfl, HM0⟩
            case round =>
              clear HM0
              obtain ⟨m, hm, rfl, HM⟩ := hrel
              obtain ⟨⟨f0, f1⟩, hBw⟩ := HF.out wr HM.out.b
              by_cases hltm : m < le
              · have hmi : (m : Int) < (le : Int) := by omega
                obtain ⟨bk, o, rfl, hbk, hcell⟩ := Hea.out (by have := Hle.out; omega)
                obtain ⟨⟨ex, ey, ec⟩, hz⟩ : ∃ z, es[m]? = some z := ⟨es[m]'(by have := Hle.out; omega), List.getElem?_eq_getElem _⟩
                obtain ⟨q0, q1, q2⟩ := hcell m _ hz
                have hmem := List.mem_of_getElem? hz
                simp only at q0 q1 q2
                have c0 := (hBw.cell (p := ⟨bk, o + m * 3, none⟩) hbk).trans q0
                have c1 := (hBw.cell (p := ⟨bk, o + m * 3 + 1, none⟩) hbk).trans q1
                have c2 := (hBw.cell (p := ⟨bk, o + m * 3 + 2, none⟩) hbk).trans q2
                have cx := (hBw.cell (p := ⟨nb, no' + j, none⟩) HX.out.1).trans HX.out.2
                obtain ⟨bt, hbt⟩ : ∃ bt, tgI D (ex, ey, ec) = bt := ⟨_, rfl⟩
                have HTg : Hid (∀ dd os, Calls Try.prog 35 #[grV (.slice (some ⟨nb, no', none⟩) ln nca) (.slice (some ⟨bk, o, none⟩) le eca), .slice (some ⟨cb, co, none⟩) ln cc, edV (ex, ey, ec)] (Go.Sort.grow (redrawn wr dd) os) fun e w' => e = .returned (.bool bt) ∧ Below (Go.Sort.grow (redrawn wr dd) os).heap.size (Go.Sort.grow (redrawn wr dd) os) w') := hidIn fun dd os => by
                  have hb := below_regrown wr dd os
                  have := tight_any (HG.out.keep (hBw.trans (hb.mono hBw.size)) (Nat.le_refl _)) Hok.out (HM.out.c.keep hb (Nat.le_refl _)) HDb.out hmem
                  rwa [hbt] at this
                have Hbt := hidIn hbt
                have Hes : Hid (es.take (m + 1) = es.take m ++ [(ex, ey, ec)]) := hidIn (take_snoc hz)
                have Hmem := hidIn hmem
                have g0 := cell_regrown f0
                have g1 := cell_regrown f1
                have g2 := cell_regrown c0
                have g3 := cell_regrown c1
                have g4 := cell_regrown c2
                have g5 := cell_regrown cx
                have HC := hidIn (And.intro f0 (And.intro f1 c0))
                have Hbk := hidIn hbk
                clear hcell hz q0 q1 q2 hmem hbt hBw hbk
                by_cases hey : ey = x
                · have hq : (ey == x) = true := by simpa using hey
                  have Hey := hidIn hey
                  clear hey
                  go_upto_region 16 with fail
                  clear f0 f1 c0 c1 c2 cx
                  refine wp_region_quiet_below (by kernel_rfl) (by kernel_rfl) ?_
                  repeat (go_big_quiet_step (first | (go_at_call 35; exact Calls.regrown_of (HTg.out _ _))))
                  refine wpQuiet_nil ?_
                  intro _ hw'
                  obtain ⟨⟨dq, osq⟩, hw''⟩ := hw'
                  subst hw''
                  have hb := below_regrown wr dq osq
                  have HMv := hidIn (HM.out.keep hb)
                  have HBv := hidIn hb
                  generalize Go.Sort.grow (redrawn wr dq) osq = wv at HMv HBv ⊢
                  clear hb g0 g1 g2 g3 g4 g5 HTg
                  cases bt
                  · have HMn : Hid (CnM W1 wv g ln ns (some ⟨cb, co, none⟩) cc D (edN D Nc x (es.take (m + 1)))) := hidIn (by rw [Hes.out, edN_no _ _ _ _ (fun e => by rw [Hbt.out] at e; exact absurd e.2 (by decide))]; exact HMv.out)
                    go_wp2_with fail
                    go_roundw
                    case rel => exact ⟨m + 1, by omega, by go_num, HMn⟩
                    case measure => simp [intOf]; omega
                  · obtain ⟨px, hpx⟩ : ∃ px, ns[px]? = some ex := List.getElem?_of_mem ((graphOk_bd Hok.out).2.1 _ Hmem.out).1
                    have hne : ex ≠ x := fun e => graphOk_ne Hok.out _ Hmem.out (by simp only; rw [e, Hey.out])
                    have hjp : px ≠ j := fun e => by
                      rw [e, Hx.out] at hpx
                      exact hne (Option.some.inj hpx).symm
                    have hix := plI_some (plN_nodup (graphOk_nn Hok.out) hpx)
                    have ki := HMv.out.n.cell Hx.out
                    have kp := HMv.out.n.cell hpx
                    have hgb : W1.heap.size ≤ g := by
                      rcases HMv.out.n.2 with ⟨h4, _⟩ | ⟨g', _, _, h4, h5, _⟩
                      · cases h4
                      · simp at h4; omega
                    obtain ⟨sx, hsx⟩ : ∃ sx, edN D Nc x (es.take m) x = sx := ⟨_, rfl⟩
                    obtain ⟨nx, hnx⟩ : ∃ nx, edN D Nc x (es.take m) ex = nx := ⟨_, rfl⟩
                    rw [hsx] at ki
                    rw [hnx] at kp
                    have hyes : edN D Nc x (es.take (m + 1)) = fun z => if z = x then (sx + nx) % m64 else edN D Nc x (es.take m) z := by
                      rw [Hes.out]
                      funext z
                      have h5 : addE D Nc x (es.take m) = sx := by rw [← hsx]; unfold edN; rw [if_pos rfl]
                      have h6 : Nc ex = nx := by rw [← hnx]; unfold edN; rw [if_neg hne]
                      unfold edN
                      by_cases hz : z = x
                      · rw [if_pos hz, if_pos hz, addE_snoc, if_pos ⟨Hey.out, Hbt.out⟩, h5]
                        simp only
                        rw [h6]
                      · rw [if_neg hz, if_neg hz, if_neg hz]
                    have HFin : Hid (∀ wz, Below W1.heap.size W1 wz → RowN wz W1.heap.size g ln ns (edN D Nc x (es.take m)) → SlAt ic 1 wz (.slice (some ⟨cb, co, none⟩) ln cc) (ns.map D) → CnM W1 (wz.setCell ⟨g, j, none⟩ (.int .u64 (IntKind.u64.wrap ((sx : Int) + (nx : Int))))) g ln ns (some ⟨cb, co, none⟩) cc D (edN D Nc x (es.take (m + 1)))) := hidIn fun wz h4 h5 h6 => by
                      rw [show IntKind.u64.wrap ((sx : Int) + (nx : Int)) = (((sx + nx) % m64 : Nat) : Int) by rw [IntKind.wrap_u64]; unfold m64; omega]
                      exact ⟨h4.setCell (p := ⟨g, j, none⟩) hgb _, by rw [hyes]; exact h5.set (graphOk_nn Hok.out) Hx.out _, slAt_set h6 (fun p hp => by
                      simp only [Option.some.injEq] at hp
                      rw [← hp]
                      exact Hcg.out) _⟩
                    obtain ⟨f0, f1, c0⟩ := HC.out
                    have l0 := (HBv.out.cell (p := ⟨q, 0, none⟩) (block_lt_of_cell f0)).trans f0
                    have l1 := (HBv.out.cell (p := ⟨q, 1, none⟩) (block_lt_of_cell f1)).trans f1
                    have l2 := (HBv.out.cell (p := ⟨bk, o + m * 3, none⟩) (block_lt_of_cell c0)).trans c0
                    have hpx2 : px < ln := by have := (List.getElem?_eq_some_iff.1 hpx).1; have := Hln.out; omega
                    have hpxi : (px : Int) < (ln : Int) := by omega
                    have HS0 : Hid (S17 q bk g (.slice (some ⟨nb, no', none⟩) ln nca) (.slice (some ⟨bk, o, none⟩) le eca) (o + m * 3) px ex nx wv.drew) := hidIn ⟨l0, l1, l2, kp⟩
                    have HPl : Hid (∀ wq, Below w.heap.size w wq → Calls Try.prog 26 #[grV (.slice (some ⟨nb, no', none⟩) ln nca) (.slice (some ⟨bk, o, none⟩) le eca), .int .i64 ex] wq fun e w' => e = .returned (.int .i64 (px : Int)) ∧ Below wq.heap.size wq w') := hidIn fun wq hq => by
                      have := HP.out ex wq hq
                      rwa [hix] at this
                    have hqg : q ≠ g := by have := Hq0.out; omega
                    have hbg : bk ≠ g := by have := HB1.out.size; have := Hbk.out; omega
                    have HBd : Hid (Below w.heap.size w wv.drew) := hidIn (HF.out wv HMv.out.b).2.drew
                    have HMd : Hid (CnM W1 wv.drew g ln ns (some ⟨cb, co, none⟩) cc D (edN D Nc x (es.take m))) := hidIn (HMv.out.keep (Below.refl _ wv).drew)
                    have kd : wv.drew.cell? ⟨g, j, none⟩ = some (.int .u64 (sx : Nat)) := ki
                    clear hpx hne hix kp hsx hnx hyes f0 f1 c0 l0 l1 l2 hpx2 HC ki hgb
                    go_upto_region 17 with fail
                    refine wp_region_held_drew (S := S17 q bk g (.slice (some ⟨nb, no', none⟩) ln nca) (.slice (some ⟨bk, o, none⟩) le eca) (o + m * 3) px ex nx) (by kernel_rfl) HS0.out (fun hHeld => ?_)
                    refine wpAnyH_take (i := 0) (v := .slice (some ⟨g, 0, none⟩) ln ln) rfl (by kernel_rfl) (by kernel_rfl) (by kernel_rfl) (fun _ _ _ h => h) (Or.inl ⟨by kernel_rfl, fun _ _ => by kernel_rfl⟩) (by assumption) ?_
                    refine wpAnyH_take (i := 1) (v := .int .i64 (j : Int)) rfl (by kernel_rfl) (by kernel_rfl) (by kernel_rfl) (fun _ _ _ h => h) (Or.inl ⟨by kernel_rfl, fun _ _ => by kernel_rfl⟩) (by assumption) ?_
                    refine wpAnyH_take (i := 2) (v := .slice (some ⟨g, 0, none⟩) ln ln) rfl (by kernel_rfl) (by kernel_rfl) (by kernel_rfl) (fun _ _ _ h => h) (Or.inl ⟨by kernel_rfl, fun _ _ => by kernel_rfl⟩) (by assumption) ?_
                    refine wpAnyH_take (i := 3) (v := .int .i64 (j : Int)) rfl (by kernel_rfl) (by kernel_rfl) (by kernel_rfl) (fun _ _ _ h => h) (Or.inl ⟨by kernel_rfl, fun _ _ => by kernel_rfl⟩) (by assumption) ?_
                    refine wpAnyH_take (i := 4) (v := .pointer (some ⟨g, j, none⟩)) rfl (by kernel_rfl) (by kernel_rfl) (by kernel_rfl) (fun _ _ _ h => h) (Or.inl ⟨by kernel_rfl, fun wq hSw => by
                                            obtain ⟨s0, s1, s2, s3⟩ := hSw
                                            go_simp⟩) (by assumption) ?_
                    refine wpAnyH_take (i := 6) (v := .slice (some ⟨g, 0, none⟩) ln ln) rfl (by kernel_rfl) (by kernel_rfl) (by kernel_rfl) (fun _ _ _ h => h) (Or.inl ⟨by kernel_rfl, fun _ _ => by kernel_rfl⟩) (by assumption) ?_
                    refine wpAnyH_take (i := 7) (v := .agg #[.slice (some ⟨nb, no', none⟩) ln nca, .slice (some ⟨bk, o, none⟩) le eca]) rfl (by kernel_rfl) (by kernel_rfl) (by kernel_rfl) (fun _ _ _ h => h) (Or.inl ⟨by kernel_rfl, fun wq hSw => by
                                            obtain ⟨s0, s1, s2, s3⟩ := hSw
                                            go_simp⟩) (by assumption) ?_
                    refine wpAnyH_take (i := 8) (v := .pointer (some ⟨q, 1, none⟩)) rfl (by kernel_rfl) (by kernel_rfl) (by kernel_rfl) (fun _ _ _ h => h) (Or.inl ⟨by kernel_rfl, fun _ _ => by kernel_rfl⟩) (by assumption) ?_
                    refine wpAnyH_take (i := 9) (v := .slice (some ⟨bk, o, none⟩) le eca) rfl (by kernel_rfl) (by kernel_rfl) (by kernel_rfl) (fun _ _ _ h => h) (Or.inl ⟨by kernel_rfl, fun wq hSw => by
                                            obtain ⟨s0, s1, s2, s3⟩ := hSw
                                            go_simp⟩) (by assumption) ?_
                    refine wpAnyH_take (i := 10) (v := .int .i64 (m : Int)) rfl (by kernel_rfl) (by kernel_rfl) (by kernel_rfl) (fun _ _ _ h => h) (Or.inl ⟨by kernel_rfl, fun _ _ => by kernel_rfl⟩) (by assumption) ?_
                    refine wpAnyH_take (i := 11) (v := .pointer (some ⟨bk, o + m * 3, none⟩)) rfl (by kernel_rfl) (by kernel_rfl) (by kernel_rfl) (fun _ _ _ h => h) (Or.inl ⟨by kernel_rfl, fun wq hSw => by
                                            obtain ⟨s0, s1, s2, s3⟩ := hSw
                                            go_simp⟩) (by assumption) ?_
                    refine wpAnyH_take (i := 12) (v := .pointer (some ⟨bk, o + m * 3, none⟩)) rfl (by kernel_rfl) (by kernel_rfl) (by kernel_rfl) (fun _ _ _ h => h) (Or.inl ⟨by kernel_rfl, fun _ _ => by kernel_rfl⟩) (by assumption) ?_
                    refine wpAnyH_take (i := 13) (v := .int .i64 ex) rfl (by kernel_rfl) (by kernel_rfl) (by kernel_rfl) (fun _ _ _ h => h) (Or.inl ⟨by kernel_rfl, fun wq hSw => by
                                            obtain ⟨s0, s1, s2, s3⟩ := hSw
                                            go_simp⟩) (by assumption) ?_
                    refine wpAnyH_ready (rs := [5, 14]) (by kernel_rfl) (by simp) ?_
                    refine AllReadyH.cons (i := 5) rfl ?_ (AllReadyH.cons (i := 14) rfl ?_ AllReadyH.nil)
                    · go_simp
                      intro K hK
                      refine hK.out _ _ hHeld (fun _ => ?_)
                      clear hK K
                      refine wpAnyH_ready (rs := [14]) (by kernel_rfl) (by simp) ?_
                      refine AllReadyH.cons (i := 14) rfl ?_ AllReadyH.nil
                      go_simp
                      intro K hK
                      refine (HPl.out _ HBd.out).mono ?_
                      rintro e wC ⟨rfl, hbC⟩
                      have hSC : S17 q bk g (.slice (some ⟨nb, no', none⟩) ln nca) (.slice (some ⟨bk, o, none⟩) le eca) (o + m * 3) px ex nx wC := hHeld.keep hbC
                      have HRC := hidIn hbC
                      have kC := (hbC.cell (p := ⟨g, j, none⟩) (block_lt_of_cell kd)).trans kd
                      refine hK.out _ _ hSC (fun _ => ?_)
                      clear hK K hbC hHeld
                      refine wpAnyH_take (i := 15) (v := .pointer (some ⟨g, px, none⟩)) rfl (by kernel_rfl) (by kernel_rfl) (by kernel_rfl) (fun _ _ _ h => h) (Or.inl ⟨by kernel_rfl, fun wq hSw => by
                                              obtain ⟨s0, s1, s2, s3⟩ := hSw
                                              go_simp⟩) (by assumption) ?_
                      refine wpAnyH_take (i := 16) (v := .int .u64 (nx : Nat)) rfl (by kernel_rfl) (by kernel_rfl) (by kernel_rfl) (fun _ _ _ h => h) (Or.inl ⟨by kernel_rfl, fun wq hSw => by
                                              obtain ⟨s0, s1, s2, s3⟩ := hSw
                                              go_simp⟩) (by assumption) ?_
                      refine wpAnyH_take (i := 17) (v := .int .u64 (IntKind.u64.wrap ((sx : Int) + (nx : Int)))) rfl (by kernel_rfl) (by kernel_rfl) (by kernel_rfl) (fun _ _ _ h => h) (Or.inl ⟨by kernel_rfl, fun _ _ => by kernel_rfl⟩) (by assumption) ?_
                      refine wpAnyH_take (i := 18) (v := .pointer (some ⟨g, j, none⟩)) rfl (by kernel_rfl) (by kernel_rfl) (by kernel_rfl) (fun _ _ _ h => h) (Or.inl ⟨by kernel_rfl, fun wq hSw => by
                                              obtain ⟨s0, s1, s2, s3⟩ := hSw
                                              go_simp⟩) (by assumption) ?_
                      refine wpAnyH_ready (rs := [19]) (by kernel_rfl) (by simp) ?_
                      refine AllReadyH.cons (i := 19) rfl ?_ AllReadyH.nil
                      have hMC := HMd.out.keep HRC.out
                      have fC := hMC.n.frozen j
                      have HFC := hidIn (HFin.out wC hMC.b hMC.n hMC.c)
                      have hSS := hSC.set hqg hbg hjp (.int .u64 (IntKind.u64.wrap ((sx : Int) + (nx : Int))))
                      clear hMC hSC
                      go_simp
                      intro K hK
                      refine hK.out _ _ hSS (fun _ => ?_)
                      clear hK K
                      refine wpAnyH_done (by kernel_rfl) ?_ _
                      go_wp2_with fail
                      go_roundw
                      case rel => exact ⟨m + 1, by omega, by go_num, HFC⟩
                      case measure => simp [intOf]; omega
                    · go_simp
                      intro K hK
                      refine (HPl.out _ HBd.out).mono ?_
                      rintro e wC ⟨rfl, hbC⟩
                      have hSC : S17 q bk g (.slice (some ⟨nb, no', none⟩) ln nca) (.slice (some ⟨bk, o, none⟩) le eca) (o + m * 3) px ex nx wC := hHeld.keep hbC
                      have HRC := hidIn hbC
                      have kC := (hbC.cell (p := ⟨g, j, none⟩) (block_lt_of_cell kd)).trans kd
                      refine hK.out _ _ hSC (fun _ => ?_)
                      clear hK K hbC hHeld
                      refine wpAnyH_take (i := 15) (v := .pointer (some ⟨g, px, none⟩)) rfl (by kernel_rfl) (by kernel_rfl) (by kernel_rfl) (fun _ _ _ h => h) (Or.inl ⟨by kernel_rfl, fun wq hSw => by
                                              obtain ⟨s0, s1, s2, s3⟩ := hSw
                                              go_simp⟩) (by assumption) ?_
                      refine wpAnyH_take (i := 16) (v := .int .u64 (nx : Nat)) rfl (by kernel_rfl) (by kernel_rfl) (by kernel_rfl) (fun _ _ _ h => h) (Or.inl ⟨by kernel_rfl, fun wq hSw => by
                                              obtain ⟨s0, s1, s2, s3⟩ := hSw
                                              go_simp⟩) (by assumption) ?_
                      refine wpAnyH_ready (rs := [5]) (by kernel_rfl) (by simp) ?_
                      refine AllReadyH.cons (i := 5) rfl ?_ AllReadyH.nil
                      go_simp
                      intro K hK
                      refine hK.out _ _ hSC (fun _ => ?_)
                      clear hK K
                      refine wpAnyH_take (i := 17) (v := .int .u64 (IntKind.u64.wrap ((sx : Int) + (nx : Int)))) rfl (by kernel_rfl) (by kernel_rfl) (by kernel_rfl) (fun _ _ _ h => h) (Or.inl ⟨by kernel_rfl, fun _ _ => by kernel_rfl⟩) (by assumption) ?_
                      refine wpAnyH_take (i := 18) (v := .pointer (some ⟨g, j, none⟩)) rfl (by kernel_rfl) (by kernel_rfl) (by kernel_rfl) (fun _ _ _ h => h) (Or.inl ⟨by kernel_rfl, fun wq hSw => by
                                              obtain ⟨s0, s1, s2, s3⟩ := hSw
                                              go_simp⟩) (by assumption) ?_
                      refine wpAnyH_ready (rs := [19]) (by kernel_rfl) (by simp) ?_
                      refine AllReadyH.cons (i := 19) rfl ?_ AllReadyH.nil
                      have hMC := HMd.out.keep HRC.out
                      have fC := hMC.n.frozen j
                      have HFC := hidIn (HFin.out wC hMC.b hMC.n hMC.c)
                      have hSS := hSC.set hqg hbg hjp (.int .u64 (IntKind.u64.wrap ((sx : Int) + (nx : Int))))
                      clear hMC hSC
                      go_simp
                      intro K hK
                      refine hK.out _ _ hSS (fun _ => ?_)
                      clear hK K
                      refine wpAnyH_done (by kernel_rfl) ?_ _
                      go_wp2_with fail
                      go_roundw
                      case rel => exact ⟨m + 1, by omega, by go_num, HFC⟩
                      case measure => simp [intOf]; omega
                · have hq : (ey == x) = false := by simpa using hey
                  have Hey := hidIn hey
                  clear hey
                  go_upto_region 16 with fail
                  clear f0 f1 c0 c1 c2 cx
                  refine wp_region_quiet_below (by kernel_rfl) (by kernel_rfl) ?_
                  repeat (go_big_quiet_step (first | (go_at_call 35; exact Calls.regrown_of (HTg.out _ _))))
                  refine wpQuiet_nil ?_
                  intro _ hw'
                  obtain ⟨⟨dq, osq⟩, hw''⟩ := hw'
                  subst hw''
                  have hb := below_regrown wr dq osq
                  have HMv := hidIn (HM.out.keep hb)
                  have HBv := hidIn hb
                  generalize Go.Sort.grow (redrawn wr dq) osq = wv at HMv HBv ⊢
                  clear hb g0 g1 g2 g3 g4 g5 HTg
                  have HMn : Hid (CnM W1 wv g ln ns (some ⟨cb, co, none⟩) cc D (edN D Nc x (es.take (m + 1)))) := hidIn (by rw [Hes.out, edN_no _ _ _ _ (fun e => Hey.out e.1)]; exact HMv.out)
                  go_wp2_with fail
                  go_roundw
                  case rel => exact ⟨m + 1, by omega, by go_num, HMn⟩
                  case measure => simp [intOf]; omega
              · have hmi : ¬ (m : Int) < (le : Int) := by omega
                have HMn : Hid (CnM W1 wr g ln ns (some ⟨cb, co, none⟩) cc D (cntN es a D c (ns.take (j + 1)))) := hidIn (HM.out.congr fun z _ => by rw [List.take_of_length_le (by have := Hle.out; omega)]; exact HEnd.out z)
                clear hBw HM
                go_wp2_with fail
                go_roundw
                case rel => exact ⟨j + 1, by omega, by go_num, HMn⟩
                case measure => simp [intOf]; omega
          · have HMn : Hid (CnM W1 wr g ln ns (some ⟨cb, co, none⟩) cc D (cntN es a D c (ns.take (j + 1)))) := hidIn (HM.out.congr fun z _ => by rw [take_snoc hx]; exact (cntN_skip hDx z).symm)
            have hq : (D x != (c : Int)) = true := by simpa using hDx
            generalize D x = dx at *
            clear hDx hx hBw HM
            go_wp2_with fail
            go_roundw
            case rel => exact ⟨j + 1, by omega, by go_num, HMn⟩
            case measure => simp [intOf]; omega
        · have hji : ¬ (j : Int) < (ln : Int) := by omega
          have HMn : Hid (CnM W1 wr g ln ns (some ⟨cb, co, none⟩) cc D (cntO es a D (((c + 1 : Nat) : Int) - 1))) := hidIn (HM.out.congr fun z hz => by
            rw [List.take_of_length_le (by have := Hln.out; omega), cntN_all hz]
            congr 1
            omega)
          clear hBw HM
          go_wp2_with fail
          go_roundw
          case rel => exact ⟨c + 1, by omega, by omega, by go_num, HMn⟩
          case measure => simp [intOf]; omega
end Go.Proofs.Ytabnecicidkmhaa
namespace Go.Proofs.Ytabnecicidkmhaa
open Go.RowKit

theorem cE_out : ∀ (l : List Ed) (c : Nat → Nat → Int) (i j : Nat), (∀ e ∈ l, ¬ (e.1.toNat = i ∧ e.2.1.toNat = j)) → (l.foldl (fun c e => put2 c e.1.toNat e.2.1.toNat e.2.2) c) i j = c i j
  | [], _, _, _, _ => rfl
  | e :: l, c, i, j, h => by
    rw [List.foldl_cons, cE_out l _ i j (fun x hx => h x (List.mem_cons_of_mem _ hx))]
    have := h e List.mem_cons_self
    unfold put2
    rw [if_neg (fun e' => this ⟨e'.1.symm, e'.2.symm⟩)]
theorem edI_cE {ns : List Int} {es : List Ed} (hok : graphOk ns es = true) {a b : Int} (ha : a ∈ ns) (hb : b ∈ ns) : edI es a b = cE es a.toNat b.toNat := by
  have hbd := (graphOk_bd hok).1
  have ha' := hbd a ha
  have hb' := hbd b hb
  unfold edI
  cases hf : es.find? (fun e => e.1 == a && e.2.1 == b) with
  | some e =>
    have h1 := List.mem_of_find?_eq_some hf
    have h2 := List.find?_some hf
    simp only [Bool.and_eq_true, beq_iff_eq] at h2
    have := graphOk_cE hok h1
    rw [h2.1, h2.2] at this
    exact this.symm
  | none =>
    have h1 := List.find?_eq_none.1 hf
    unfold cE
    rw [cE_out es no2 _ _ (fun e he h2 => ?_)]
    · rfl
    · have h3 := h1 e he
      simp only [Bool.and_eq_true, beq_iff_eq] at h3
      have h4 := ((graphOk_bd hok).2.1 e he)
      have h5 := hbd _ h4.1
      have h6 := hbd _ h4.2
      exact h3 ⟨by omega, by omega⟩
theorem wayA_no {ns : List Int} {es : List Ed} {way : List Int} (h : ndAll ns es way = false) : wayA ns es way = (0, 2) := by
  cases way with
  | nil => rfl
  | cons a l => exact if_neg (by rw [h]; decide)
theorem wayA_yes {ns : List Int} {es : List Ed} {a : Int} {l : List Int} (h : ndAll ns es (a :: l) = true) : wayA ns es (a :: l) = match wayR (cE es) 0 a l with | none => (0, 6) | some s => (s, 0) := if_pos h
/-- As far as a way has been gone. -/
theorem wayR_drop (C : Nat → Nat → Int) {way : List Int} {s a b : Int} {k : Nat} (hb : way[k]? = some b) : wayR C s a (way.drop k) = if C a.toNat b.toNat = 0 then none else wayR C (s + C a.toNat b.toNat) b (way.drop (k + 1)) := by
  rw [drop_next hb]
  rfl
set_option maxRecDepth 100000 in
set_option maxHeartbeats 4000000 in
theorem dcost_any {ns : List Int} {es : List Ed} {vn ve v : Value} {way : List Int} {w : World} (h : GrAt w vn ve ns es) (hv : SlAt ic 1 w v way) (hlen : way.length ≤ 1000000000000) :
    Calls Try.prog 15 #[grV vn ve, v] w fun e w' => e = .returned (.tuple #[.int .i64 (wayA ns es way).1, .int .i64 (wayA ns es way).2]) ∧ Below w.heap.size w w' := by
  have HGr := hidIn h
  obtain ⟨na, nca, rfl, hnl, _, _⟩ := h.n.ints
  obtain ⟨ea, eca, rfl, hel, _, _⟩ := h.e.eds
  obtain ⟨va, vca, rfl, hvl, _, hva⟩ := hv.ints
  have Hva := hidIn hva
  obtain ⟨W1, hW1⟩ : ∃ W1, w.alloc (.cells #[.slice na ns.length nca, .slice ea es.length eca] 25) = W1 := ⟨_, rfl⟩
  have bA : Below w.heap.size w W1 := by rw [← hW1]; exact (Below.refl _ w).alloc (Nat.le_refl _) _
  have hGB : W1.heap[w.heap.size]? = some (.cells #[.slice na ns.length nca, .slice ea es.length eca] 25) := by rw [← hW1]; exact heap_alloc_last w _
  obtain ⟨q, hqe⟩ : ∃ q, w.heap.size = q := ⟨_, rfl⟩
  rw [hqe] at hGB
  have hlt0 := block_lt hGB
  have HF : Hid (∀ wq, Below W1.heap.size W1 wq → (wq.cell? ⟨q, 0, none⟩ = some (.slice na ns.length nca) ∧ wq.cell? ⟨q, 1, none⟩ = some (.slice ea es.length eca)) ∧ Below w.heap.size w wq) := hidIn fun wq h => by
    have j0 := (h.block _ hlt0).trans hGB
    exact ⟨⟨cell_of_row _ _ 0 _ _ _ j0, cell_of_row _ _ 1 _ _ _ j0⟩, bA.trans (h.mono bA.size)⟩
  have HW := hidIn hW1
  have HCk := hidIn (gcheck_any (h.keep bA (Nat.le_refl _)))
  have Hv := hidIn hv
  obtain ⟨ln, hln⟩ : ∃ ln, ns.length = ln := ⟨_, rfl⟩
  obtain ⟨le, hle⟩ : ∃ le, es.length = le := ⟨_, rfl⟩
  obtain ⟨lw, hlw⟩ : ∃ lw, way.length = lw := ⟨_, rfl⟩
  have hgr := HGr.out
  rw [hln, hle] at hgr
  have HG := hidIn hgr
  rw [hln] at hnl HF HW HCk ⊢
  rw [hle] at hel HF HW HCk ⊢
  rw [hlw] at hvl hlen ⊢
  have Hlw := hidIn hlw
  have HB1 := hidIn bA
  clear hW1 bA hGB hva h hln hle hlt0 hlw hgr HGr hv
  obtain ⟨⟨f0, f1⟩, _⟩ := HF.out W1 (Below.refl _ _)
  go_enter Try.func15, Try.ntmps15
  go_upto_region 1 with fail
  rw [HW.out]
  clear HW hqe
  go_wp2_with fail
  refine HCk.out.mono ?_
  rintro e w2 ⟨rfl, hb2⟩
  have HB2 := hidIn hb2
  clear hb2 HCk f0 f1
  cases hok : graphOk ns es with
  | false =>
    have HE : Hid (wayA ns es way = (0, 2)) := hidIn (wayA_no (by unfold ndAll; rw [hok]; rfl))
    have HBe := hidIn (HF.out w2 HB2.out).2
    rw [ckC_no hok]
    clear hok
    go_wp2_with fail
    go_ret2
    exact ⟨by rw [HE.out]; rfl, HBe.out⟩
  | true =>
    rw [ckC_yes hok]
    by_cases hw0 : lw = 0
    · subst hw0
      have HE : Hid (wayA ns es way = (0, 2)) := hidIn (by rw [List.length_eq_zero_iff.1 Hlw.out]; rfl)
      have HBe := hidIn (HF.out w2 HB2.out).2
      clear hok
      go_wp2_with fail
      go_ret2
      exact ⟨by rw [HE.out]; rfl, HBe.out⟩
    · have hwp : ((lw : Int) == 0) = false := by rw [beq_eq_false_iff_ne]; omega
      have Hok := hidIn hok
      clear hok
      go_wp2_with fail
      go_loopw [6] (fun i wr => ∃ k : Nat, k ≤ lw ∧ i = .int .i64 k ∧ Hid (Below W1.heap.size W1 wr ∧ ∀ y ∈ way.take k, y ∈ ns)) (fun i _ => lw - (intOf i).toNat)
      case atStart => exact ⟨0, Nat.zero_le _, rfl, hidIn ⟨HB2.out, by simp⟩⟩
      case round =>
        obtain ⟨k, hk, rfl, HR⟩ := hrel
        obtain ⟨hbw, hin⟩ := HR.out
        obtain ⟨⟨f0, f1⟩, hbw0⟩ := HF.out wr hbw
        by_cases hlt : k < lw
        · have hki : (k : Int) < (lw : Int) := by omega
          obtain ⟨bk, o, rfl, hbk, hcell⟩ := Hva.out (by have := Hlw.out; omega)
          obtain ⟨z, hz⟩ : ∃ z, way[k]? = some z := ⟨way[k]'(by have := Hlw.out; omega), List.getElem?_eq_getElem _⟩
          have c0 := (hbw0.cell (p := ⟨bk, o + k, none⟩) hbk).trans (hcell k z hz)
          have HP : Hid (∀ z dd os, Calls Try.prog 26 #[grV (.slice na ln nca) (.slice ea le eca), .int .i64 z] (Go.Sort.grow (redrawn wr dd) os) fun e w' => e = .returned (.int .i64 (plI ns z)) ∧ Below (Go.Sort.grow (redrawn wr dd) os).heap.size (Go.Sort.grow (redrawn wr dd) os) w') := hidIn fun z dd os => place_any (HG.out.keep (hbw0.trans ((below_regrown wr dd os).mono hbw0.size)) (Nat.le_refl _)) z
          have g0 := cell_regrown f0
          have g1 := cell_regrown f1
          have g2 := cell_regrown c0
          have HRw := hidIn hbw
          have hng := plI_neg (l := ns) (n := z)
          obtain ⟨bz, hbz⟩ : ∃ bz, decide (plI ns z < 0) = bz := ⟨_, rfl⟩
          have HNx : Hid (bz = false → ∀ y ∈ way.take (k + 1), y ∈ ns) := hidIn fun e y hy => by
            rw [take_snoc hz] at hy
            rcases List.mem_append.1 hy with h | h
            · exact hin y h
            · rw [List.mem_singleton.1 h]
              rw [e, decide_eq_false_iff_not, hng] at hbz
              exact Classical.byContradiction hbz
          have HNo : Hid (bz = true → wayA ns es way = (0, 2)) := hidIn fun e => by
            rw [e, decide_eq_true_iff, hng] at hbz
            have hf : ndAll ns es way = false := by
              unfold ndAll
              rw [Hok.out, Bool.true_and, List.all_eq_false]
              exact ⟨z, List.mem_of_getElem? hz, fun e => hbz (hasN_iff.1 e)⟩
            exact wayA_no hf
          clear hcell hz hbw hin hbw0 HR hng c0
          go_upto_region 6 with fail
          refine wp_region_quiet_below (by kernel_rfl) (by kernel_rfl) ?_
          repeat (go_big_quiet_step (first | (go_at_call 26; exact Calls.regrown_of (HP.out _ _ _))))
          refine wpQuiet_nil ?_
          intro _ hw'
          obtain ⟨⟨dq, osq⟩, hw''⟩ := hw'
          subst hw''
          have HRy := hidIn (HRw.out.trans ((below_regrown wr dq osq).mono HRw.out.size))
          generalize Go.Sort.grow (redrawn wr dq) osq = wy at HRy ⊢
          clear g0 g1 g2 HP HRw f0 f1
          cases bz
          · go_wp2_with fail
            go_roundw
            case rel => exact ⟨k + 1, by omega, by go_num, hidIn ⟨HRy.out, HNx.out rfl⟩⟩
            case measure => simp [intOf]; omega
          · have HBe := hidIn (HF.out wy HRy.out).2
            have HN2 := hidIn (HNo.out rfl)
            go_wp2_with fail
            go_ret2
            exact ⟨by rw [HN2.out]; rfl, HBe.out⟩
        · have hki : ¬ (k : Int) < (lw : Int) := by omega
          rw [List.take_of_length_le (by have := Hlw.out; omega)] at hin
          have Hin := hidIn hin
          have Hbw := hidIn hbw
          obtain ⟨a0, l0, hwc⟩ : ∃ a l, way = a :: l := by
            cases hw : way with
            | nil => have := Hlw.out; rw [hw] at this; simp at this; omega
            | cons a l => exact ⟨a, l, rfl⟩
          have HWA : Hid (wayA ns es way = match wayR (cE es) 0 a0 (way.drop 1) with | none => (0, 6) | some s => (s, 0)) := hidIn (by
            have hn : ndAll ns es way = true := by
              unfold ndAll
              rw [Hok.out, Bool.true_and, List.all_eq_true]
              intro x hx
              exact hasN_iff.2 (hin x hx)
            rw [hwc] at hn ⊢
            exact wayA_yes hn)
          have Ha0 : Hid (way[0]? = some a0) := hidIn (by rw [hwc]; rfl)
          clear hin hbw hbw0 HR hwc
          go_wp2_with fail
          clear f0 f1
          go_loopw [7, 8] (fun sm i wr => ∃ (j : Nat) (s a : Int), j + 1 ≤ lw ∧ i = .int .i64 ((j : Int) + 1) ∧ sm = .int .i64 s ∧ Hid (Below W1.heap.size W1 wr ∧ way[j]? = some a ∧ 0 ≤ s ∧ s ≤ 1000 * j ∧ wayR (cE es) 0 a0 (way.drop 1) = wayR (cE es) s a (way.drop (j + 1)))) (fun _ i _ => lw - (intOf i).toNat)
          case atStart => exact ⟨0, 0, a0, by omega, rfl, rfl, hidIn ⟨Hbw.out, Ha0.out, by omega, by omega, rfl⟩⟩
          case round =>
            obtain ⟨j, s, a, hj, rfl, rfl, HR⟩ := hrel
            obtain ⟨hbw, haj, hs0, hs1, hwr⟩ := HR.out
            obtain ⟨⟨f0, f1⟩, hbw0⟩ := HF.out wr hbw
            by_cases hlt : j + 1 < lw
            · have hji : (j : Int) + 1 < (lw : Int) := by omega
              have hji0 : (j : Int) < (lw : Int) := by omega
              have hsub : (j : Int) + 1 - 1 = (j : Int) := by omega
              obtain ⟨bk, o, rfl, hbk, hcell⟩ := Hva.out (by have := Hlw.out; omega)
              obtain ⟨b, hbz⟩ : ∃ z, way[j + 1]? = some z := ⟨way[j + 1]'(by have := Hlw.out; omega), List.getElem?_eq_getElem _⟩
              have c0 := (hbw0.cell (p := ⟨bk, o + j, none⟩) hbk).trans (hcell j a haj)
              have c1 := (hbw0.cell (p := ⟨bk, o + (j + 1), none⟩) hbk).trans (hcell (j + 1) b hbz)
              have hE := edI_cE Hok.out (Hin.out a (List.mem_of_getElem? haj)) (Hin.out b (List.mem_of_getElem? hbz))
              have hcb := cE_bd (graphOk_pos Hok.out) a.toNat b.toNat
              rw [wayR_drop _ hbz] at hwr
              rw [← hE] at hwr hcb
              obtain ⟨c, hc⟩ : ∃ c, edI es a b = c := ⟨_, rfl⟩
              have HP : Hid (∀ dd os, Calls Try.prog 32 #[grV (.slice na ln nca) (.slice ea le eca), .int .i64 a, .int .i64 b] (Go.Sort.grow (redrawn wr dd) os) fun e w' => e = .returned (.int .i64 c) ∧ Below (Go.Sort.grow (redrawn wr dd) os).heap.size (Go.Sort.grow (redrawn wr dd) os) w') := hidIn fun dd os => by
                have := edge_any (HG.out.keep (hbw0.trans ((below_regrown wr dd os).mono hbw0.size)) (Nat.le_refl _)) a b
                rwa [hc] at this
              rw [hc] at hwr hcb
              have g0 := cell_regrown f0
              have g1 := cell_regrown f1
              have g2 := cell_regrown c0
              have g3 := cell_regrown c1
              have HRw := hidIn hbw
              have Hwr := hidIn hwr
              have Hbz := hidIn hbz
              have hjn : ((j : Int) + 1) = ((j + 1 : Nat) : Int) := by omega
              rw [hjn] at hji ⊢
              have hwq : IntKind.i64.wrap (((j + 1 : Nat) : Int) - 1) = (j : Int) := by rw [IntKind.wrap_i64]; omega
              clear hcell hbw haj hwr hbw0 HR hbz hE hc c0 c1 hsub hjn
              go_upto_region 12 with fail
              refine wp_region_quiet_below (by kernel_rfl) (by kernel_rfl) ?_
              repeat (go_big_quiet_step (first | (go_at_call 32; exact Calls.regrown_of (HP.out _ _))))
              refine wpQuiet_nil ?_
              intro _ hw'
              obtain ⟨⟨dq, osq⟩, hw''⟩ := hw'
              subst hw''
              have HRy := hidIn (HRw.out.trans ((below_regrown wr dq osq).mono HRw.out.size))
              generalize Go.Sort.grow (redrawn wr dq) osq = wy at HRy ⊢
              clear g0 g1 g2 g3 HP HRw f0 f1 hwq
              by_cases hc0 : c = 0
              · have HE : Hid (wayA ns es way = (0, 6)) := hidIn (by rw [HWA.out, Hwr.out, if_pos hc0])
                have HBe := hidIn (HF.out wy HRy.out).2
                have hq : (c == 0) = true := by simpa using hc0
                clear hc0
                go_wp2_with fail
                go_ret2
                exact ⟨by rw [HE.out]; rfl, HBe.out⟩
              · have HE := hidIn (Hwr.out.trans (if_neg hc0))
                have hq : (c == 0) = false := by simpa using hc0
                clear hc0
                go_wp2_with fail
                go_roundw
                case rel => exact ⟨j + 1, s + c, b, by omega, by go_num, by go_num, hidIn ⟨HRy.out, Hbz.out, by omega, by omega, HE.out⟩⟩
                case measure => simp [intOf]; omega
            · have hji : ¬ (j : Int) + 1 < (lw : Int) := by omega
              have HE : Hid (wayA ns es way = (s, 0)) := hidIn (by
                rw [HWA.out, hwr, List.drop_eq_nil_of_le (by have := Hlw.out; omega)]
                rfl)
              have HBe := hidIn hbw0
              clear hbw haj hs0 hs1 hwr hbw0 HR
              go_wp2_with fail
              go_ret2
              exact ⟨by rw [HE.out]; rfl, HBe.out⟩
end Go.Proofs.Ytabnecicidkmhaa
namespace Go.Proofs.Ytabnecicidkmhaa
open Go.RowKit

theorem graphOk_lt {ns : List Int} {es : List Ed} (hok : graphOk ns es = true) : ns.Pairwise fun a b => a < b := by
  simp only [graphOk, Bool.and_eq_true] at hok
  have key : ∀ (ns : List Int) (last : Int), nodesOk last ns = true → ns.Pairwise fun a b => a < b := fun ns => by
    induction ns with
    | nil => intro _ _; exact List.Pairwise.nil
    | cons m ns ih =>
      intro last hm
      have hm' : nodesOk m ns = true := by
        simp only [nodesOk, Bool.and_eq_true] at hm
        exact hm.2.2
      exact List.pairwise_cons.2 ⟨fun y hy => (nodesOk_bd ns m hm' y hy).2.2, ih m hm'⟩
  exact key ns 0 hok.1
theorem nodes_lt {ns : List Int} {es : List Ed} (hok : graphOk ns es = true) {i j : Nat} {x y : Int} (hx : ns[i]? = some x) (hy : ns[j]? = some y) (h : i < j) : x < y := by
  obtain ⟨hi, rfl⟩ := List.getElem?_eq_some_iff.1 hx
  obtain ⟨hj, rfl⟩ := List.getElem?_eq_some_iff.1 hy
  exact List.pairwise_iff_getElem.1 (graphOk_lt hok) i j hi hj h
theorem edI_mem {es : List Ed} {a b : Int} (h : edI es a b ≠ 0) : (a, b, edI es a b) ∈ es := by
  unfold edI at h ⊢
  cases hf : es.find? (fun e => e.1 == a && e.2.1 == b) with
  | none => rw [hf] at h; exact absurd rfl h
  | some e =>
    have h1 := List.mem_of_find?_eq_some hf
    have h2 := List.find?_some hf
    simp only [Bool.and_eq_true, beq_iff_eq] at h2
    rw [← h2.1, ← h2.2]
    exact h1
theorem edI_of {ns : List Int} {es : List Ed} (hok : graphOk ns es = true) {a b c : Int} (h : (a, b, c) ∈ es) : edI es a b = c := by
  obtain ⟨h1, h2⟩ := (graphOk_bd hok).2.1 _ h
  rw [edI_cE hok h1 h2]
  exact graphOk_cE hok h
theorem wl_len {es : List Ed} (hp : PosE es) {r x c : Int} {l : List Int} (k : Wl es r l x c) : (l.length : Int) ≤ c + 1 :=
  k (fun l _ c => (l.length : Int) ≤ c + 1) (by simp) (fun e he l c h => by
    have := (hp e he).1
    simp only [List.length_append, List.length_cons, List.length_nil]
    omega)
/-- What a way that is or is not must be. -/
def FstOk (es : List Ed) (a b : Int) : Option (List Int) → Prop
  | none => ∀ d, ¬ Ds es a b d
  | some l => ∃ d, Ds es a b d ∧ IsFst es a b d l
/-- The graph's own cells, and a node's, while a region is gone through. -/
def S13 (q : Nat) (na : Option Addr) (nca ln : Nat) (ea : Option Addr) (eca le nb no : Nat) (y : Option Int) (wx : World) : Prop := wx.cell? ⟨q, 0, none⟩ = some (.slice na ln nca) ∧ wx.cell? ⟨q, 1, none⟩ = some (.slice ea le eca) ∧ ∀ z, y = some z → wx.cell? ⟨nb, no, none⟩ = some (.int .i64 z)
theorem S13.keep {q : Nat} {na : Option Addr} {nca ln : Nat} {ea : Option Addr} {eca le nb no : Nat} {y : Option Int} {wx wy : World} (h : S13 q na nca ln ea eca le nb no y wx) (hb : Below wx.heap.size wx wy) : S13 q na nca ln ea eca le nb no y wy :=
  ⟨(hb.cell (p := ⟨q, 0, none⟩) (block_lt_of_cell h.1)).trans h.1, (hb.cell (p := ⟨q, 1, none⟩) (block_lt_of_cell h.2.1)).trans h.2.1, fun z e => (hb.cell (p := ⟨nb, no, none⟩) (block_lt_of_cell (h.2.2 z e))).trans (h.2.2 z e)⟩
/-- As far as a way has been found. -/
structure FdM (w0 w : World) (es : List Ed) (b : Int) (L : List Int) (d x : Int) (k : Nat) (v : Value) : Prop where
  bl : Below w0.heap.size w0 w
  r : ∃ done rest, k = done.length + 1 ∧ w.ownsRow w0.heap.size 3 1 v k (fl ic (done ++ [x])) ∧ L = done ++ rest ∧ IsFst es x b d rest ∧ k ≤ 24001
  d : Ds es x b d
theorem FdM.keep {w0 w w' : World} {es : List Ed} {b : Int} {L : List Int} {d x : Int} {k : Nat} {v : Value} (h : FdM w0 w es b L d x k v) (hb : Below w.heap.size w w') : FdM w0 w' es b L d x k v := by
  obtain ⟨done, rest, h1, h2, h3⟩ := h.r
  exact ⟨h.bl.trans (hb.mono h.bl.size), ⟨done, rest, h1, row_below h2 hb (Nat.le_refl _), h3⟩, h.d⟩
structure FsR (w0 w : World) (k : Nat) (v : Value) (l : List Int) : Prop where
  b : Below w0.heap.size w0 w
  r : w.ownsRow w0.heap.size 3 1 v k (fl ic l)
theorem FsR.keep {w0 w w' : World} {k : Nat} {v : Value} {l : List Int} (h : FsR w0 w k v l) (hb : Below w.heap.size w w') : FsR w0 w' k v l := ⟨h.b.trans (hb.mono h.b.size), row_below h.r hb (Nat.le_refl _)⟩
theorem row_one1 {w : World} {B : Nat} (a : Int) (hB : B ≤ w.heap.size) : (w.alloc (.cells #[.int .i64 a] 3)).ownsRow B 3 1 (.slice (some ⟨w.heap.size, 0, none⟩) 1 1) 1 (fl ic [a]) :=
  ⟨rfl, .inr ⟨w.heap.size, 1, #[.int .i64 a], rfl, hB, heap_alloc_last w _, Nat.le_refl _, by unfold maxLen; omega, rfl, rfl⟩⟩
set_option maxRecDepth 100000 in
set_option maxHeartbeats 4000000 in
theorem dfirst_any {ns : List Int} {es : List Ed} {vn ve : Value} {w : World} (h : GrAt w vn ve ns es) (a b : Int) {L : Option (List Int)} (hL : ndAll ns es [a, b] = true → FstOk es a b L) :
    Calls Try.prog 19 #[grV vn ve, .int .i64 a, .int .i64 b] w fun e w' => ((ndAll ns es [a, b] = false ∧ e = .returned (.tuple #[.slice none 0 0, .int .i64 2])) ∨ (ndAll ns es [a, b] = true ∧ FstAns w' e L)) ∧ Below w.heap.size w w' := by
  have HLo := hidIn hL
  clear hL
  have HGr := hidIn h
  obtain ⟨na, nca, rfl, hnl, _, hna⟩ := h.n.ints
  obtain ⟨ea, eca, rfl, hel, _, hea⟩ := h.e.eds
  have Hna := hidIn hna
  have Hea := hidIn hea
  obtain ⟨W1, hW1⟩ : ∃ W1, w.alloc (.cells #[.slice na ns.length nca, .slice ea es.length eca] 25) = W1 := ⟨_, rfl⟩
  have bA : Below w.heap.size w W1 := by rw [← hW1]; exact (Below.refl _ w).alloc (Nat.le_refl _) _
  have hGB : W1.heap[w.heap.size]? = some (.cells #[.slice na ns.length nca, .slice ea es.length eca] 25) := by rw [← hW1]; exact heap_alloc_last w _
  obtain ⟨q, hqe⟩ : ∃ q, w.heap.size = q := ⟨_, rfl⟩
  rw [hqe] at hGB
  have hlt0 := block_lt hGB
  have HF : Hid (∀ wq, Below W1.heap.size W1 wq → (wq.cell? ⟨q, 0, none⟩ = some (.slice na ns.length nca) ∧ wq.cell? ⟨q, 1, none⟩ = some (.slice ea es.length eca)) ∧ Below w.heap.size w wq) := hidIn fun wq h => by
    have j0 := (h.block _ hlt0).trans hGB
    exact ⟨⟨cell_of_row _ _ 0 _ _ _ j0, cell_of_row _ _ 1 _ _ _ j0⟩, bA.trans (h.mono bA.size)⟩
  have HW := hidIn hW1
  have HCk := hidIn (gcheck_any (h.keep bA (Nat.le_refl _)))
  obtain ⟨ln, hln⟩ : ∃ ln, ns.length = ln := ⟨_, rfl⟩
  obtain ⟨le, hle⟩ : ∃ le, es.length = le := ⟨_, rfl⟩
  have hgr := HGr.out
  rw [hln, hle] at hgr
  have HG := hidIn hgr
  have HP : Hid (∀ z wq, Below w.heap.size w wq → Calls Try.prog 26 #[grV (.slice na ln nca) (.slice ea le eca), .int .i64 z] wq fun e w' => e = .returned (.int .i64 (plI ns z)) ∧ Below wq.heap.size wq w') := hidIn fun z wq hq => place_any (hgr.keep hq (Nat.le_refl _)) z
  have HCo : Hid (graphOk ns es = true → ∀ z wq, Below w.heap.size w wq → Calls Try.prog 34 #[grV (.slice na ln nca) (.slice ea le eca), .int .i64 z] wq fun e w' => (∃ a' c, e = .returned (.slice a' ln c) ∧ w'.ownsRow wq.heap.size 3 1 (.slice a' ln c) ln (fl ic (ns.map (bfN es z ln)))) ∧ Below wq.heap.size wq w') := hidIn fun hok z wq hq => by
    have := costs_any (hgr.keep hq (Nat.le_refl _)) hok z
    rwa [hln] at this
  rw [hln] at hnl HF HW HCk ⊢
  rw [hle] at hel HF HW HCk ⊢
  have Hln := hidIn hln
  have Hle := hidIn hle
  have HB1 := hidIn bA
  have Hq0 := hidIn hlt0
  clear hW1 bA hGB hna hea h hln hle hlt0 hgr HGr
  obtain ⟨⟨f0, f1⟩, _⟩ := HF.out W1 (Below.refl _ _)
  go_enter Try.func19, Try.ntmps19
  go_upto_region 1 with fail
  rw [HW.out]
  clear HW hqe
  go_wp2_with fail
  refine HCk.out.mono ?_
  rintro e w2 ⟨rfl, hb2⟩
  have HB2 := hidIn hb2
  obtain ⟨⟨k0, k1⟩, hB2⟩ := HF.out w2 hb2
  have HB2w := hidIn hB2
  clear hb2 HCk f0 f1 hB2
  cases hok : graphOk ns es with
  | false =>
    have HE : Hid (ndAll ns es [a, b] = false) := hidIn (by unfold ndAll; rw [hok]; rfl)
    rw [ckC_no hok]
    clear hok
    go_wp2_with fail
    go_ret2
    exact ⟨.inl ⟨HE.out, rfl⟩, HB2w.out⟩
  | true =>
    rw [ckC_yes hok]
    have Hok := hidIn hok
    clear hok
    go_wp2_with fail
    refine (HP.out a w2 HB2w.out).mono ?_
    rintro e w3 ⟨rfl, hb3⟩
    have HB3 := hidIn (HB2.out.trans (hb3.mono HB2.out.size))
    obtain ⟨⟨f0, f1⟩, hB3⟩ := HF.out w3 HB3.out
    have HB3w := hidIn hB3
    clear hb3 hB3 k0 k1
    rcases Classical.em (a ∈ ns) with han | han
    rotate_left
    · have hng : plI ns a < 0 := plI_neg.2 han
      have HE : Hid (ndAll ns es [a, b] = false) := hidIn (by
        unfold ndAll
        rw [Hok.out, Bool.true_and, List.all_eq_false]
        exact ⟨a, by simp, fun e => han (hasN_iff.1 e)⟩)
      generalize plI ns a = pz at hng ⊢
      clear han
      go_wp2_with fail
      go_ret2
      exact ⟨.inl ⟨HE.out, rfl⟩, HB3w.out⟩
    obtain ⟨pa, hpa⟩ : ∃ pa, ns[pa]? = some a := List.getElem?_of_mem han
    have hia := plI_some (plN_nodup (graphOk_nn Hok.out) hpa)
    have Hia := hidIn hia
    rw [hia]
    have hpn : ¬ (pa : Int) < 0 := by omega
    have Han := hidIn han
    have Hpa := hidIn hpa
    clear hia han hpa
    go_wp2_with fail
    refine (HP.out b w3 HB3w.out).mono ?_
    rintro e w4 ⟨rfl, hb4⟩
    have HB4 := hidIn (HB3.out.trans (hb4.mono HB3.out.size))
    obtain ⟨⟨k0, k1⟩, hB4⟩ := HF.out w4 HB4.out
    have HB4w := hidIn hB4
    clear hb4 hB4 f0 f1
    rcases Classical.em (b ∈ ns) with hbn | hbn
    rotate_left
    · have hng : plI ns b < 0 := plI_neg.2 hbn
      have HE : Hid (ndAll ns es [a, b] = false) := hidIn (by
        unfold ndAll
        rw [Hok.out, Bool.true_and, List.all_eq_false]
        exact ⟨b, by simp, fun e => hbn (hasN_iff.1 e)⟩)
      generalize plI ns b = pz at hng ⊢
      clear hbn
      go_wp2_with fail
      go_ret2
      exact ⟨.inl ⟨HE.out, rfl⟩, HB4w.out⟩
    obtain ⟨pb, hpb⟩ : ∃ pb, ns[pb]? = some b := List.getElem?_of_mem hbn
    have hib := plI_some (plN_nodup (graphOk_nn Hok.out) hpb)
    have Hib := hidIn hib
    rw [hib]
    have hpn2 : ¬ (pb : Int) < 0 := by omega
    have HY : Hid (ndAll ns es [a, b] = true) := hidIn (by
      unfold ndAll
      rw [Hok.out, Bool.true_and, List.all_eq_true]
      intro x hx
      simp only [List.mem_cons, List.not_mem_nil, or_false] at hx
      rcases hx with rfl | rfl
      · exact hasN_iff.2 Han.out
      · exact hasN_iff.2 hbn)
    have Hpb := hidIn hpb
    have hpal : pa < ln := by have := (List.getElem?_eq_some_iff.1 Hpa.out).1; have := Hln.out; omega
    have hpbl : pb < ln := by have := (List.getElem?_eq_some_iff.1 hpb).1; have := Hln.out; omega
    have hl24 : ln ≤ 24 := by have := graphOk_n24 Hok.out; have := Hln.out; omega
    have hpai : (pa : Int) < (ln : Int) := by omega
    have hpbi : (pb : Int) < (ln : Int) := by omega
    clear hib hbn hpb
    have hLo := HLo.out HY.out
    obtain ⟨hDb0, hDb1⟩ : 0 ≤ bfN es a ln b ∧ bfN es a ln b ≤ 1073741824 := by
      have := bf_all Hok.out Han.out b
      rw [Hln.out] at this
      rcases this with ⟨d, _, h1, h2, h3⟩ | ⟨_, h1⟩
      · omega
      · rw [h1]; unfold farC; omega
    have HS0 : Hid (S13 q na nca ln ea eca le 0 0 none w4.drew) := hidIn ⟨k0, k1, fun z e => by cases e⟩
    have HBd : Hid (Below w.heap.size w w4.drew) := hidIn HB4w.out.drew
    have HB4d : Hid (Below W1.heap.size W1 w4.drew) := hidIn HB4.out.drew
    have HLo2 := hidIn hLo
    clear hLo
    go_upto_region 3 with fail
    refine wp_region_held_drew (S := S13 q na nca ln ea eca le 0 0 none) (by kernel_rfl) HS0.out (fun hHeld => ?_)
    refine wpAnyH_take (i := 0) (v := .agg #[.slice na ln nca, .slice ea le eca]) rfl (by kernel_rfl) (by kernel_rfl) (by kernel_rfl) (fun _ _ _ h => h) (Or.inl ⟨by kernel_rfl, fun wq hSw => by
        obtain ⟨s0, s1, s2⟩ := hSw
        go_simp⟩) (by assumption) ?_
    refine wpAnyH_take (i := 1) (v := .int .i64 a) rfl (by kernel_rfl) (by kernel_rfl) (by kernel_rfl) (fun _ _ _ h => h) (Or.inl ⟨by kernel_rfl, fun _ _ => by kernel_rfl⟩) (by assumption) ?_
    refine wpAnyH_take (i := 3) (v := .agg #[.slice na ln nca, .slice ea le eca]) rfl (by kernel_rfl) (by kernel_rfl) (by kernel_rfl) (fun _ _ _ h => h) (Or.inl ⟨by kernel_rfl, fun wq hSw => by
        obtain ⟨s0, s1, s2⟩ := hSw
        go_simp⟩) (by assumption) ?_
    refine wpAnyH_take (i := 4) (v := .int .i64 b) rfl (by kernel_rfl) (by kernel_rfl) (by kernel_rfl) (fun _ _ _ h => h) (Or.inl ⟨by kernel_rfl, fun _ _ => by kernel_rfl⟩) (by assumption) ?_
    refine wpAnyH_ready (rs := [2]) (by kernel_rfl) (by simp) ?_
    refine AllReadyH.cons (i := 2) rfl ?_ AllReadyH.nil
    go_simp
    intro K hK
    refine (HCo.out Hok.out a _ HBd.out).mono ?_
    rintro e wC ⟨⟨ca, cc, rfl, hrC⟩, hbC⟩
    obtain ⟨g, rfl, hgb, hgc, _⟩ := rowI_open hrC (by rw [List.length_map]; exact Hln.out) (by omega)
    have cd := hgc pb (bfN es a ln b) (by rw [List.getElem?_map, Hpb.out]; rfl)
    have hSC := hHeld.keep hbC
    have HBC := hidIn (HBd.out.trans (hbC.mono HBd.out.size))
    have HB1C := hidIn (HB4d.out.trans (hbC.mono HB4d.out.size))
    refine hK.out _ _ hSC (fun _ => ?_)
    clear hK K hHeld hgc hgb hrC hbC
    refine wpAnyH_ready (rs := [5]) (by kernel_rfl) (by simp) ?_
    refine AllReadyH.cons (i := 5) rfl ?_ AllReadyH.nil
    go_simp
    intro K hK
    refine (HP.out b _ HBC.out).mono ?_
    rintro e wD ⟨rfl, hbD⟩
    rw [Hib.out]
    have hSD := hSC.keep hbD
    have HB1D := hidIn (HB1C.out.trans (hbD.mono HB1C.out.size))
    have cd2 := (hbD.cell (p := ⟨g, pb, none⟩) (block_lt_of_cell cd)).trans cd
    refine hK.out _ _ hSD (fun _ => ?_)
    clear hK K hSC hbD cd HBC HB1C
    refine wpAnyH_take (i := 6) (v := .pointer (some ⟨g, pb, none⟩)) rfl (by kernel_rfl) (by kernel_rfl) (by kernel_rfl) (fun _ _ _ h => h) (Or.inl ⟨by kernel_rfl, fun wq hSw => by
        obtain ⟨s0, s1, s2⟩ := hSw
        go_simp⟩) (by assumption) ?_
    refine wpAnyH_ready (rs := [7]) (by kernel_rfl) (by simp) ?_
    refine AllReadyH.cons (i := 7) rfl ?_ AllReadyH.nil
    go_simp
    intro K hK
    refine hK.out _ _ hSD (fun _ => ?_)
    clear hK K
    refine wpAnyH_take (i := 8) (v := .int .i64 (bfN es a ln b)) rfl (by kernel_rfl) (by kernel_rfl) (by kernel_rfl) (fun _ _ _ h => h) (Or.inl ⟨by kernel_rfl, fun _ _ => by kernel_rfl⟩) (by assumption) ?_
    refine wpAnyH_done (by kernel_rfl) ?_ _
    clear hSD cd2 k0 k1 HS0 HBd HB4d HB4 HB4w HB3 HB3w HB2 HB2w
    rcases bf_all Hok.out Han.out b with ⟨d0, hd0, hbe, hd1, hd2⟩ | ⟨hno, hbe⟩
    rotate_left
    · rw [Hln.out] at hbe
      have HA : Hid (L = none) := hidIn (by
        have := HLo2.out
        cases hL : L with
        | none => rfl
        | some l => rw [hL] at this; obtain ⟨d, h1, _⟩ := this; exact absurd h1 (hno d))
      rw [hbe]
      have hfar : farC = 1073741824 := rfl
      rw [hfar]
      have HBe := hidIn (HF.out wD HB1D.out).2
      clear hbe hno hfar
      go_wp2_with fail
      go_ret2
      exact ⟨.inr ⟨HY.out, by rw [HA.out]; rfl⟩, HBe.out⟩
    rw [Hln.out] at hbe hd2
    rw [hbe]
    obtain ⟨l0, hl0⟩ : ∃ l, L = some l := by
      have := HLo2.out
      cases hL : L with
      | none => rw [hL] at this; exact absurd hd0 (this d0)
      | some l => exact ⟨l, rfl⟩
    have hf0 : IsFst es a b d0 l0 := by
      have := HLo2.out
      rw [hl0] at this
      obtain ⟨d, h1, h2⟩ := this
      rwa [h1.uniq hd0] at h2
    subst hl0
    have hM0 : FdM W1 (wD.alloc (.cells #[.int .i64 a] 3)) es b l0 d0 a 1 (.slice (some ⟨wD.heap.size, 0, none⟩) 1 1) := ⟨HB1D.out.alloc HB1D.out.size _, ⟨[], l0, rfl, row_one1 a HB1D.out.size, rfl, hf0, by omega⟩, hd0⟩
    have HM0 := hidIn hM0
    have hf0L := hidIn hf0
    have hd0L := hidIn hd2
    have hng : ¬ (1073741824 ≤ d0) := by omega
    have hng2 : decide (d0 ≥ 1073741824) = false := by simpa using hng
    clear hbe hd0 hf0 hM0 hDb0 hDb1 HB1D HLo2 HLo
    go_wp2_with fail
    go_loopw [8, 9, 10] (fun lf ov at' wr => ∃ (d x : Int) (k : Nat) (oa : Option Addr) (oc : Nat), lf = .int .i64 d ∧ ov = .slice oa k oc ∧ at' = .int .i64 x ∧ 0 ≤ d ∧ d ≤ 24000 ∧ Hid (FdM W1 wr es b l0 d x k (.slice oa k oc) ∧ x ∈ ns)) (fun lf _ _ _ => (intOf lf).toNat)
    case atStart => exact ⟨d0, a, 1, _, _, rfl, rfl, rfl, hd1, by omega, hidIn ⟨HM0.out, Han.out⟩⟩
    case round =>
      obtain ⟨d, x, ok, oa, oc, rfl, rfl, rfl, hdp, hdq, HM⟩ := hrel
      clear HM0 hd1 hd2 hng hng2
      rcases Classical.em (x = b) with hxb | hxb
      · have hq : (x != b) = false := by simpa using hxb
        have HE : Hid (SlAt ic 1 wr (.slice oa ok oc) l0 ∧ 0 < l0.length) := hidIn (by
          obtain ⟨done, rest, h1, h2, h3, h4, h5⟩ := HM.out.1.r
          have h6 := HM.out.1.d
          rw [hxb] at h4 h6 h2
          have h7 := fst_end Hok.out h4 h6
          rw [h3, h7]
          exact ⟨slAt_of_row (cs := ic) (fun _ => rfl) h2 (by rw [List.length_append, h1]; rfl), by simp⟩)
        have HBe := hidIn (HF.out wr HM.out.1.bl).2
        clear hxb
        go_wp2_with fail
        go_ret2
        exact ⟨.inr ⟨HY.out, _, rfl, HE.out.1, HE.out.2⟩, HBe.out⟩
      · have hq : (x != b) = true := by simpa using hxb
        obtain ⟨done, rest, hk1, hrow, hl0, hfr, hk2⟩ := HM.out.1.r
        obtain ⟨n, l', c, hre, hem, hdn, hfn, hmin⟩ := fst_next hfr HM.out.1.d hxb
        have hnn := ((graphOk_bd Hok.out).2.1 _ hem).2
        simp only at hnn
        obtain ⟨pn, hpn'⟩ : ∃ pn, ns[pn]? = some n := List.getElem?_of_mem hnn
        have hpl : pn < ln := by have := (List.getElem?_eq_some_iff.1 hpn').1; have := Hln.out; omega
        have HN := hidIn (And.intro hem (And.intro hdn (And.intro hfn (And.intro hmin (And.intro hpn' (And.intro hl0 (And.intro hre hk1)))))))
        have HR : Hid (FsR W1 wr ok (.slice oa ok oc) (done ++ [x])) := hidIn ⟨HM.out.1.bl, hrow⟩
        have HXn := hidIn HM.out.2
        have hc1 := (graphOk_pos Hok.out _ hem)
        simp only at hc1
        have HCb : Hid (0 ≤ d - c) := hidIn (by
          obtain ⟨hh, hw⟩ := hdn.1
          have := (hw.pos (graphOk_pos Hok.out)).1
          omega)
        clear hxb hrow hl0 hfr hre hem hdn hfn hmin hnn hpn' hk1 HM
        go_wp2_with fail
        go_loopw [8, 9, 10, 11] (fun lf ov at' i wi => ∃ k : Nat, k ≤ pn ∧ lf = .int .i64 d ∧ ov = .slice oa ok oc ∧ at' = .int .i64 x ∧ i = .int .i64 k ∧ Hid (FsR W1 wi ok (.slice oa ok oc) (done ++ [x]))) (fun _ _ _ i _ => pn + 1 - (intOf i).toNat)
        case atStart => exact ⟨0, Nat.zero_le _, rfl, rfl, rfl, rfl, HR⟩
        case round =>
          clear HR
          obtain ⟨k, hk, rfl, rfl, rfl, rfl, HR⟩ := hrel
          obtain ⟨⟨f0, f1⟩, hbw0⟩ := HF.out wr HR.out.b
          obtain ⟨nb, no', rfl, hnb, hncell⟩ := Hna.out (by have := Hln.out; omega)
          have hki : (k : Int) < (ln : Int) := by omega
          obtain ⟨y, hy⟩ : ∃ z, ns[k]? = some z := ⟨ns[k]'(by have := Hln.out; omega), List.getElem?_eq_getElem _⟩
          have c0 := (hbw0.cell (p := ⟨nb, no' + k, none⟩) hnb).trans (hncell k y hy)
          obtain ⟨c', hc'⟩ : ∃ c', edI es x y = c' := ⟨_, rfl⟩
          have hyn : y ∈ ns := List.mem_of_getElem? hy
          obtain ⟨dy, hdy⟩ : ∃ dy, bfN es y ln b = dy := ⟨_, rfl⟩
          have hDy : 0 ≤ dy ∧ dy ≤ 1073741824 := by
            have := bf_all Hok.out hyn b
            rw [Hln.out, hdy] at this
            rcases this with ⟨d, _, h1, h2, h3⟩ | ⟨_, h1⟩
            · omega
            · rw [h1]; unfold farC; omega
          have hcb : 0 ≤ c' ∧ c' ≤ 1000 := by
            have hE := edI_cE Hok.out HXn.out hyn
            have := cE_bd (graphOk_pos Hok.out) x.toNat y.toNat
            omega
          have HYes : Hid (k = pn → y = n ∧ c' = c ∧ c' + dy = d) := hidIn fun e => by
            subst e
            obtain ⟨hem, hdn, _, _, hpn', _⟩ := HN.out
            have hyn2 : y = n := by rw [hy] at hpn'; exact Option.some.inj hpn'
            subst hyn2
            have h1 := edI_of Hok.out hem
            refine ⟨rfl, by omega, ?_⟩
            rcases bf_all Hok.out hyn b with ⟨d1, h2, h3, _⟩ | ⟨h2, _⟩
            · have := h2.uniq hdn
              rw [Hln.out] at h3
              omega
            · exact absurd hdn (h2 _)
          have HNo : Hid (k < pn → 0 < c' → c' + dy ≠ d) := hidIn fun e hp he => by
            obtain ⟨hem, hdn, _, hmin, hpn', _⟩ := HN.out
            have hm := edI_mem (es := es) (a := x) (b := y) (by omega)
            rw [hc'] at hm
            have h3 : Ds es y b (d - c') := by
              have := (bf_d Hok.out hyn (x := b) (by rw [Hln.out, hdy]; unfold farC; omega)).1
              rw [Hln.out, hdy] at this
              rwa [show d - c' = dy by omega]
            have h4 := hmin y c' hm h3
            have h5 := nodes_lt Hok.out hy hpn' e
            omega
          have HP2 : Hid (∀ dd os, Calls Try.prog 32 #[grV (.slice (some ⟨nb, no', none⟩) ln nca) (.slice ea le eca), .int .i64 x, .int .i64 y] (Go.Sort.grow (redrawn wr dd) os) fun e w' => e = .returned (.int .i64 c') ∧ Below (Go.Sort.grow (redrawn wr dd) os).heap.size (Go.Sort.grow (redrawn wr dd) os) w') := hidIn fun dd os => by
            have := edge_any (HG.out.keep (hbw0.trans ((below_regrown wr dd os).mono hbw0.size)) (Nat.le_refl _)) x y
            rwa [hc'] at this
          have g0 := cell_regrown f0
          have g1 := cell_regrown f1
          have g2 := cell_regrown c0
          have HC0 := hidIn c0
          have Hdy := hidIn hdy
          clear hncell hbw0 hc' hy hyn hdy c0 hnb
          go_upto_region 12 with fail
          refine wp_region_quiet_below (by kernel_rfl) (by kernel_rfl) ?_
          repeat (go_big_quiet_step (first | (go_at_call 32; exact Calls.regrown_of (HP2.out _ _))))
          refine wpQuiet_nil ?_
          intro _ hw'
          obtain ⟨⟨dq, osq⟩, hw''⟩ := hw'
          subst hw''
          have hb := below_regrown wr dq osq
          have HRv := hidIn (HR.out.keep hb)
          have c1 := (hb.cell (p := ⟨nb, no' + k, none⟩) (block_lt_of_cell HC0.out)).trans HC0.out
          generalize Go.Sort.grow (redrawn wr dq) osq = wv at HRv c1 ⊢
          clear hb g0 g1 g2 f0 f1 HP2 HC0 HR
          obtain ⟨⟨f0, f1⟩, hbv⟩ := HF.out wv HRv.out.b
          by_cases hc0 : c' = 0
          · subst hc0
            have hkn : k < pn := by
              rcases Nat.lt_or_ge k pn with h1 | h1
              · exact h1
              · have := (HYes.out (by omega)).2.1; omega
            clear hbv HYes HNo hcb hDy f0 f1 c1
            go_upto_region 13 with fail
            go_quiet (fail)
            go_wp2_with fail
            go_roundw
            case rel => exact ⟨k + 1, by omega, rfl, rfl, rfl, by go_num, hidIn (HRv.out.keep (below_drewN (Below.refl _ _) _))⟩
            case measure => simp [intOf]; omega
          · have hcp : 0 < c' := by omega
            have hcp2 : decide (c' > 0) = true := by simpa using hcp
            have HS0 : Hid (S13 q (some ⟨nb, no', none⟩) nca ln ea eca le nb (no' + k) (some y) wv.drew) := hidIn ⟨f0, f1, fun z e => by cases e; exact c1⟩
            have HBd : Hid (Below w.heap.size w wv.drew) := hidIn hbv.drew
            have HMd : Hid (FsR W1 wv.drew ok (.slice oa ok oc) (done ++ [x])) := hidIn (HRv.out.keep (Below.refl _ wv).drew)
            clear hbv hc0 f0 f1 c1
            go_upto_region 13 with fail
            refine wp_region_held_drew (S := S13 q (some ⟨nb, no', none⟩) nca ln ea eca le nb (no' + k) (some y)) (by kernel_rfl) HS0.out (fun hHeld => ?_)
            refine wpAnyH_take (i := 0) (v := .int .i64 c') rfl (by kernel_rfl) (by kernel_rfl) (by kernel_rfl) (fun _ _ _ h => h) (Or.inl ⟨by kernel_rfl, fun _ _ => by kernel_rfl⟩) (by assumption) ?_
            refine wpAnyH_take (i := 1) (v := .bool true) rfl (by kernel_rfl) (by kernel_rfl) (by kernel_rfl) (fun _ _ _ h => h) (Or.inl ⟨by kernel_rfl, fun wq hSw => by
                obtain ⟨s0, s1, s2⟩ := hSw
                go_simp⟩) (by assumption) ?_
            refine wpAnyH_take (i := 2) (v := .bool true) rfl (by kernel_rfl) (by kernel_rfl) (by kernel_rfl) (fun _ _ _ h => h) (Or.inl ⟨by kernel_rfl, fun _ _ => by kernel_rfl⟩) (by assumption) ?_
            refine wpAnyH_take (i := 3) (v := .int .i64 c') rfl (by kernel_rfl) (by kernel_rfl) (by kernel_rfl) (fun _ _ _ h => h) (Or.inl ⟨by kernel_rfl, fun _ _ => by kernel_rfl⟩) (by assumption) ?_
            refine wpAnyH_take (i := 4) (v := .agg #[.slice (some ⟨nb, no', none⟩) ln nca, .slice ea le eca]) rfl (by kernel_rfl) (by kernel_rfl) (by kernel_rfl) (fun _ _ _ h => h) (Or.inl ⟨by kernel_rfl, fun wq hSw => by
                obtain ⟨s0, s1, s2⟩ := hSw
                go_simp⟩) (by assumption) ?_
            refine wpAnyH_take (i := 5) (v := .pointer (some ⟨q, 0, none⟩)) rfl (by kernel_rfl) (by kernel_rfl) (by kernel_rfl) (fun _ _ _ h => h) (Or.inl ⟨by kernel_rfl, fun _ _ => by kernel_rfl⟩) (by assumption) ?_
            refine wpAnyH_take (i := 6) (v := .slice (some ⟨nb, no', none⟩) ln nca) rfl (by kernel_rfl) (by kernel_rfl) (by kernel_rfl) (fun _ _ _ h => h) (Or.inl ⟨by kernel_rfl, fun wq hSw => by
                obtain ⟨s0, s1, s2⟩ := hSw
                go_simp⟩) (by assumption) ?_
            refine wpAnyH_take (i := 7) (v := .int .i64 (k : Int)) rfl (by kernel_rfl) (by kernel_rfl) (by kernel_rfl) (fun _ _ _ h => h) (Or.inl ⟨by kernel_rfl, fun _ _ => by kernel_rfl⟩) (by assumption) ?_
            refine wpAnyH_take (i := 8) (v := .pointer (some ⟨nb, no' + k, none⟩)) rfl (by kernel_rfl) (by kernel_rfl) (by kernel_rfl) (fun _ _ _ h => h) (Or.inl ⟨by kernel_rfl, fun wq hSw => by
                obtain ⟨s0, s1, s2⟩ := hSw
                go_simp⟩) (by assumption) ?_
            refine wpAnyH_take (i := 9) (v := .int .i64 y) rfl (by kernel_rfl) (by kernel_rfl) (by kernel_rfl) (fun _ _ _ h => h) (Or.inl ⟨by kernel_rfl, fun wq hSw => by
                obtain ⟨s0, s1, s2⟩ := hSw
                go_simp⟩) (by assumption) ?_
            refine wpAnyH_take (i := 11) (v := .agg #[.slice (some ⟨nb, no', none⟩) ln nca, .slice ea le eca]) rfl (by kernel_rfl) (by kernel_rfl) (by kernel_rfl) (fun _ _ _ h => h) (Or.inl ⟨by kernel_rfl, fun wq hSw => by
                obtain ⟨s0, s1, s2⟩ := hSw
                go_simp⟩) (by assumption) ?_
            refine wpAnyH_take (i := 12) (v := .int .i64 b) rfl (by kernel_rfl) (by kernel_rfl) (by kernel_rfl) (fun _ _ _ h => h) (Or.inl ⟨by kernel_rfl, fun _ _ => by kernel_rfl⟩) (by assumption) ?_
            refine wpAnyH_take (i := 17) (v := .int .i64 d) rfl (by kernel_rfl) (by kernel_rfl) (by kernel_rfl) (fun _ _ _ h => h) (Or.inl ⟨by kernel_rfl, fun _ _ => by kernel_rfl⟩) (by assumption) ?_
            refine wpAnyH_ready (rs := [10]) (by kernel_rfl) (by simp) ?_
            refine AllReadyH.cons (i := 10) rfl ?_ AllReadyH.nil
            go_simp
            intro K hK
            refine (HCo.out Hok.out y _ HBd.out).mono ?_
            rintro e wC ⟨⟨ca, cc, rfl, hrC⟩, hbC⟩
            obtain ⟨g, rfl, hgb, hgc, _⟩ := rowI_open hrC (by rw [List.length_map]; exact Hln.out) (by omega)
            have cd := hgc pb (bfN es y ln b) (by rw [List.getElem?_map, Hpb.out]; rfl)
            have hSC := hHeld.keep hbC
            have HBC := hidIn (HBd.out.trans (hbC.mono HBd.out.size))
            have HMC := hidIn (HMd.out.keep hbC)
            refine hK.out _ _ hSC (fun _ => ?_)
            clear hK K hHeld hgc hgb hrC hbC
            refine wpAnyH_ready (rs := [13]) (by kernel_rfl) (by simp) ?_
            refine AllReadyH.cons (i := 13) rfl ?_ AllReadyH.nil
            go_simp
            intro K hK
            refine (HP.out b _ HBC.out).mono ?_
            rintro e wD ⟨rfl, hbD⟩
            rw [Hib.out]
            have hSD := hSC.keep hbD
            have HMD := hidIn (HMC.out.keep hbD)
            have hSDc := hSD.2.2 y rfl
            have cd2 := (hbD.cell (p := ⟨g, pb, none⟩) (block_lt_of_cell cd)).trans cd
            refine hK.out _ _ hSD (fun _ => ?_)
            clear hK K hSC hbD cd HBC HMC
            refine wpAnyH_take (i := 14) (v := .pointer (some ⟨g, pb, none⟩)) rfl (by kernel_rfl) (by kernel_rfl) (by kernel_rfl) (fun _ _ _ h => h) (Or.inl ⟨by kernel_rfl, fun wq hSw => by
                obtain ⟨s0, s1, s2⟩ := hSw
                go_simp⟩) (by assumption) ?_
            refine wpAnyH_ready (rs := [15]) (by kernel_rfl) (by simp) ?_
            refine AllReadyH.cons (i := 15) rfl ?_ AllReadyH.nil
            go_simp
            intro K hK
            refine hK.out _ _ hSD (fun _ => ?_)
            clear hK K
            refine wpAnyH_take (i := 16) (v := .int .i64 (IntKind.i64.wrap (c' + bfN es y ln b))) rfl (by kernel_rfl) (by kernel_rfl) (by kernel_rfl) (fun _ _ _ h => h) (Or.inl ⟨by kernel_rfl, fun _ _ => by kernel_rfl⟩) (by assumption) ?_
            refine wpAnyH_take (i := 18) (v := .bool (IntKind.i64.wrap (c' + bfN es y ln b) == d)) rfl (by kernel_rfl) (by kernel_rfl) (by kernel_rfl) (fun _ _ _ h => h) (Or.inl ⟨by kernel_rfl, fun wq hSw => by
                obtain ⟨s0, s1, s2⟩ := hSw
                go_simp⟩) (by assumption) ?_
            refine wpAnyH_take (i := 19) (v := .bool (IntKind.i64.wrap (c' + bfN es y ln b) == d)) rfl (by kernel_rfl) (by kernel_rfl) (by kernel_rfl) (fun _ _ _ h => h) (Or.inl ⟨by kernel_rfl, fun _ _ => by kernel_rfl⟩) (by assumption) ?_
            refine wpAnyH_done (by kernel_rfl) ?_ _
            clear hSD cd2 HS0 HBd HMd HRv hcp2
            rw [Hdy.out]
            have hwr : IntKind.i64.wrap (c' + dy) = c' + dy := by rw [IntKind.wrap_i64]; omega
            rw [hwr]
            clear hwr
            rcases Nat.lt_or_ge k pn with hkn | hkn
            · have hq2 : (c' + dy == d) = false := by simpa using HNo.out hkn hcp
              rw [hq2]
              clear HYes HNo hcb hDy hq2
              go_wp2_with fail
              go_roundw
              case rel => exact ⟨k + 1, by omega, rfl, rfl, rfl, by go_num, HMD⟩
              case measure => simp [intOf]; omega
            · have hkp : k = pn := by omega
              obtain ⟨hyn2, hcc, hs⟩ := HYes.out hkp
              have hq2 : (c' + dy == d) = true := by simpa using hs
              rw [hq2]
              obtain ⟨⟨f0, f1⟩, hbv⟩ := HF.out wD HMD.out.b
              have c1 := hSDc
              subst hyn2 hcc
              have Hkp := hidIn hkp
              obtain ⟨g9, gc9, w9, hrun9, hown9, _, _, hb9⟩ := append_int HMD.out.r y (by omega) HMD.out.b.size
              have HRun := hidIn hrun9
              have HFin : Hid (FdM W1 w9 es b l0 (d - c') y (ok + 1) (.slice (some ⟨g9, 0, none⟩) (ok + 1) gc9)) := hidIn (by
                obtain ⟨hem, hdn, hfn, _, _, hl0, hre, hk1⟩ := HN.out
                refine ⟨HMD.out.b.trans hb9, ⟨done ++ [x], l', by rw [List.length_append, hk1]; rfl, hown9, by rw [hl0, hre]; simp, hfn, ?_⟩, hdn⟩
                have h5 := wl_len (graphOk_pos Hok.out) hf0L.out.1
                rw [hl0, hre, List.length_append] at h5
                simp only [List.length_cons] at h5
                have h7 := hd0L.out
                have h6 := wl_starts hfn.1
                obtain ⟨l2, hl2⟩ := h6
                rw [hl2] at h5
                simp only [List.length_cons] at h5
                omega)
              clear hrun9 hown9 hb9 HYes HNo hbv hs hkp hq2 hcb hDy
              go_wp2_with (refine l_append rfl _ _ 22 rfl HRun.out ?_)
              go_roundw
              case rel => exact ⟨d - c', y, ok + 1, _, _, by go_num, rfl, rfl, HCb.out, by omega, hidIn ⟨HFin.out, List.mem_of_getElem? HN.out.2.2.2.2.1⟩⟩
              case measure =>
                have h1 := HCb.out
                simp [intOf]
                omega
end Go.Proofs.Ytabnecicidkmhaa
