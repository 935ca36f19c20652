/- From's answer, in ways. -/
import Derived.Test.YtgjnljcphcmmeaaVQ3
import Derived.Test.YtgjnljcphcmmeaaV14
namespace Go.Proofs.Ytgjnljcphcmmeaa
open Go.RowKit

/-- What From shall answer. -/
structure IsFrom (ns : List Int) (es : List Ed) (r : Int) (l : List Rr) : Prop where
  rise : l.Pairwise fun a b => a.node < b.node
  right : ∀ p ∈ l, p.node ∈ ns ∧ ∃ d, Ds es r p.node d ∧ Right es r p.node d p
  all : ∀ x d, x ∈ ns → Ds es r x d → ∃ p ∈ l, p.node = x
theorem Ds.node {ns : List Int} {es : List Ed} (hok : graphOk ns es = true) {r x d : Int} (hr : r ∈ ns) (h : Ds es r x d) : x ∈ ns := by
  obtain ⟨hh, hw⟩ := h.1
  exact hw (fun x _ _ => x ∈ ns) hr (fun e he _ _ _ => ((graphOk_bd hok).2.1 e he).2)
theorem outR_mem {R : Nat → Rr} {vs : Nat → Value} {n : Nat} {p : Rr × Value} : p ∈ outR R vs n ↔ ∃ i, i < n ∧ (R i).node ≠ 0 ∧ p = (R i, vs i) := by
  unfold outR
  simp only [List.mem_map, List.mem_filter, List.mem_range, Bool.not_eq_true', decide_eq_false_iff_not]
  constructor
  · rintro ⟨i, ⟨h1, h2⟩, rfl⟩; exact ⟨i, h1, h2, rfl⟩
  · rintro ⟨i, h1, h2, rfl⟩; exact ⟨i, ⟨h1, h2⟩, rfl⟩
theorem outR_rise {R : Nat → Rr} {vs : Nat → Value} (h : ∀ i, i < 25 → (R i).node ≠ 0 → (R i).node = (i : Int)) : ∀ n, n ≤ 25 → (outR R vs n).Pairwise fun a b => a.1.node < b.1.node
  | 0, _ => by simp [outR]
  | n + 1, hn => by
    rw [outR_succ, List.pairwise_append]
    refine ⟨outR_rise h n (by omega), by split <;> simp, fun a ha b hb => ?_⟩
    obtain ⟨i, h1, h2, rfl⟩ := outR_mem.1 ha
    split at hb
    · simp at hb
    · rename_i h3
      rw [List.mem_singleton.1 hb]
      show (R i).node < (R n).node
      rw [h i (by omega) h2, h n (by omega) h3]
      omega
theorem from_is {ns : List Int} {es : List Ed} {r : Int} {P : List (Int × Int)} {C : Nat → Int} (vs : Nat → Value) (hok : graphOk ns es = true) (hr : r ∈ ns) (h : IsNear es r P) (hn : NdOk P) (hC : ∀ e ∈ told es P P, e ∈ es ∧ Ds es r e.2.1 (C e.2.1.toNat)) : IsFrom ns es r ((outR (rchT r C (told es P P)) vs 25).map (·.1)) := by
  have hbd := graphOk_bd hok
  obtain ⟨_, _, hno⟩ := fin_all (C := C) hok hr h hn
  have key : ∀ i, i < 25 → (rchT r C (told es P P) i).node ≠ 0 → (i : Int) ∈ ns ∧ ∃ d, Ds es r (i : Int) d ∧ Right es r (i : Int) d (rchT r C (told es P P) i) := fun i hi h0 => by
    have : ∃ d, Ds es r (i : Int) d := Classical.byContradiction fun hc => h0 (by rw [hno i hi (fun d hd => hc ⟨d, hd⟩)]; rfl)
    obtain ⟨d, hd⟩ := this
    have hm := hd.node hok hr
    have := fin_right hok hr h hn hC _ (i : Int) d rfl hm hd
    rw [show ((i : Int)).toNat = i from rfl] at this
    exact ⟨hm, d, hd, this⟩
  refine ⟨?_, fun p hp => ?_, fun x d hx hd => ?_⟩
  · rw [List.pairwise_map]
    exact outR_rise (fun i hi h0 => (key i hi h0).2.choose_spec.2.node) 25 (Nat.le_refl _)
  · obtain ⟨q, hq, rfl⟩ := List.mem_map.1 hp
    obtain ⟨i, h1, h2, rfl⟩ := outR_mem.1 hq
    obtain ⟨hm, d, hd, hR⟩ := key i h1 h2
    show (rchT r C (told es P P) i).node ∈ ns ∧ _
    rw [hR.node]
    exact ⟨hm, d, hd, hR⟩
  · have hx1 := hbd.1 x hx
    have hR := fin_right hok hr h hn hC _ x d rfl hx hd
    have hn0 : (rchT r C (told es P P) x.toNat).node ≠ 0 := by rw [hR.node]; omega
    exact ⟨_, List.mem_map.2 ⟨_, outR_mem.2 ⟨x.toNat, by omega, hn0, rfl⟩, rfl⟩, hR.node⟩
/-- From's answer. -/
def FromIs (w w' : World) (ns : List Int) (es : List Ed) (r : Int) (e : Ending) : Prop :=
  ∃ (l : List (Rr × Value)) (u : Value) (mid : Nat), e = .returned (.tuple #[u, .int .i64 0]) ∧ w.heap.size ≤ mid ∧ w'.ownsRow mid 34 5 u l.length (fl rwc l) ∧ RlAt w' u l ∧ IsFrom ns es r (l.map (·.1)) ∧ l.length ≤ 25 ∧ ∀ p ∈ l, ∀ k, p.2.ownBlock = some k → w.heap.size ≤ k ∧ k < mid
theorem from_right {ns : List Int} {es : List Ed} {vn ve : Value} {w : World} (h : GrAt w vn ve ns es) (r : Int) :
    Calls Try.prog 8 #[grV vn ve, .int .i64 r] w fun e w' => ((ndAll ns es [r] = false ∧ e = .returned (.tuple #[.slice none 0 0, .int .i64 2])) ∨ (ndAll ns es [r] = true ∧ FromIs w w' ns es r e)) ∧ Below w.heap.size w w' := by
  refine (from_any h r).mono ?_
  rintro e w' ⟨h1 | ⟨h1, P, C, vs, hP, hN, hC, u, mid, B, he, hmid, hrow, hx⟩, hb⟩
  · exact ⟨.inl h1, hb⟩
  · refine ⟨.inr ⟨h1, outR (rchT r C (told es P P)) vs 25, u, mid, he, hmid, hrow, ?_, ?_, outR_len _ _ _, ?_⟩, hb⟩
    · refine ⟨slAt_of_row (cs := rwc) (fun _ => rfl) hrow rfl, fun p hp => ?_⟩
      obtain ⟨i, hi, _, rfl⟩ := outR_mem.1 hp
      simp only [ndAll, List.all_cons, List.all_nil, Bool.and_true, Bool.and_eq_true] at h1
      have hbd := graphOk_bd h1.1
      have h3 := rchT_ok r C (told es P P) (fun e he => hbd.1 _ (hbd.2.1 e (hC e he).1).2) i
      have h4 := rise_len h3.np h3.nb
      have h5 := (hx i hi).1.sl (by omega)
      exact ⟨h5.1, h5.2, by show (rchT r C (told es P P) i).next.length ≤ _; omega⟩
    · simp only [ndAll, List.all_cons, List.all_nil, Bool.and_true, Bool.and_eq_true] at h1
      exact from_is vs h1.1 (hasN_iff.1 h1.2) hP hN hC
    · intro p hp k hk
      obtain ⟨i, hi, _, rfl⟩ := outR_mem.1 hp
      refine ⟨?_, (hx i hi).2 k hk⟩
      rcases (hx i hi).1 with ⟨_, e⟩ | ⟨g, o, cap, e, _, _, h6, _, _⟩
      · have hk' : (vs i).ownBlock = some k := hk
        rw [e] at hk'
        simp [Value.ownBlock] at hk'
      · have hk' : (vs i).ownBlock = some k := hk
        rw [e] at hk'
        simp [Value.ownBlock] at hk'
        omega
end Go.Proofs.Ytgjnljcphcmmeaa
