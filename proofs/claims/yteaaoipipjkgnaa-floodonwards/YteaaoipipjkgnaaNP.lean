/- Stores as functions, without memory: what is there after records were put, one behind the other. -/
import Derived.Test.YteaaoipipjkgnaaN6
namespace Go.Proofs.Yteaaoipipjkgnaa
open Go.RowKit Go.Maps

abbrev Rf : Type := Int → Option Rc
def fR (f : Sf) : Rf := fun k => (f k).map (·.1)
def gD (o : Option Rc) : Rc := o.getD rc0
theorem rOf_fR (f : Sf) (k : Int) : rOf (f k) = gD (fR f k) := rfl
def nwR (F : Rf) (r : Rc) : Int := newI r.epoch r.seq (gD (F r.origin)).epoch (gD (F r.origin)).seq
theorem stdN_fR (f : Sf) (r : Rc) : stdN f r = nwR (fR f) r := rfl
/-- One record put. -/
def putR (F : Rf) (r : Rc) : Rf := if recOk r = true ∧ nwR F r = 1 then putO F r.origin r else F
def pnR (F : Rf) (r : Rc) : Int := if recOk r = true then nwR F r else 0
theorem putN_fR (f : Sf) (r : Rc) : putN f r = pnR (fR f) r := rfl
def allR (F : Rf) (i : Nat) : List Rc := (List.range i).filterMap fun (j : Nat) => F ((j : Int) + 1)
theorem allL_fR (f : Sf) (i : Nat) : allL f i = allR (fR f) i := rfl
theorem fR_put (f : Sf) (k : Int) (p : Rc × Value) : fR (putO f k p) = putO (fR f) k p.1 := by
  funext j
  unfold fR putO
  by_cases h : j = k
  · rw [if_pos h, if_pos h]; rfl
  · rw [if_neg h, if_neg h]
/-- What Put leaves, without memory. -/
theorem PutAns.pure {w w' : World} {S M n : Nat} {f : Sf} {r : Rc} {e : Ending} (h : PutAns w w' S M n f r e) : ∃ f', StAt w' S M (n + 1) f' ∧ fR f' = putR (fR f) r ∧ e = .returned (.tuple #[.int .i64 (pnR (fR f) r), .int .i64 (ckN r)]) ∧ Fr (fun k => k = M) w w' := by
  obtain ⟨h1, h2, h3⟩ := h
  rcases h3 with ⟨h4, h5, a, c, h6, _⟩ | ⟨h4, h5⟩
  · refine ⟨_, h6, ?_, h1, h2⟩
    rw [fR_put]
    unfold putR
    rw [stdN_fR] at h5
    rw [if_pos ⟨h4, h5⟩]
  · refine ⟨f, h5, ?_, h1, h2⟩
    unfold putR
    rw [stdN_fR] at h4
    rw [if_neg h4]
def noR9 : Rf := fun _ => none
def runR (rs : List Rc) : Rf := rs.foldl putR noR9
theorem runR_snoc (rs : List Rc) (r : Rc) : runR (rs ++ [r]) = putR (runR rs) r := by simp [runR, List.foldl_append]
/-- The newest of an origin, the first of its stamp. -/
structure Nwst (rs : List Rc) (k : Int) (g : Rc) : Prop where
  mem : g ∈ rs
  org : g.origin = k
  ok : recOk g = true
  top : ∀ r ∈ rs, r.origin = k → recOk r = true → newI r.epoch r.seq g.epoch g.seq ≤ 0
  fst : ∀ (i : Nat) (r : Rc), rs[i]? = some r → recOk r = true → stOf r = stOf g → (∀ (j : Nat) (q : Rc), rs[j]? = some q → j < i → stOf q ≠ stOf r) → r = g
theorem newI_zz {e q : Int} (he : 0 < e) : newI e q 0 0 = 1 := by rw [newI_pos]; omega
theorem recOk_pos {r : Rc} (h : recOk r = true) : 0 < r.epoch ∧ 0 < r.seq ∧ 1 ≤ r.origin ∧ r.origin ≤ 24 := by
  unfold recOk at h
  simp only [Bool.and_eq_true, decide_eq_true_eq, isR_iff] at h
  omega
theorem newI_le {e q f r : Int} : newI e q f r ≤ 0 ↔ e < f ∨ (e = f ∧ q ≤ r) := by
  have h1 := newI_vals e q f r
  have h2 := newI_pos e q f r
  constructor
  · intro h
    have : ¬ (f < e ∨ (e = f ∧ r < q)) := fun h3 => by rw [h2.2 h3] at h; omega
    omega
  · intro h
    have : newI e q f r ≠ 1 := fun h3 => by have := h2.1 h3; omega
    omega
theorem runR_is (rs : List Rc) : ∀ k, (∀ g, runR rs k = some g → Nwst rs k g) ∧ (runR rs k = none → ∀ r ∈ rs, recOk r = true → r.origin ≠ k) := by
  have key : ∀ (n : Nat) (rs : List Rc), rs.length = n → ∀ k, (∀ g, runR rs k = some g → Nwst rs k g) ∧ (runR rs k = none → ∀ r ∈ rs, recOk r = true → r.origin ≠ k) := by
    intro n
    induction n with
    | zero =>
      intro rs h k
      rw [List.length_eq_zero_iff.1 h]
      exact ⟨fun g hg => by simp [runR, noR9] at hg, fun _ r hr => by simp at hr⟩
    | succ n ih =>
      intro rs h k
      obtain ⟨U, x, rfl⟩ : ∃ U x, rs = U ++ [x] := by
        rcases List.eq_nil_or_concat rs with h' | ⟨U, x, h'⟩
        · rw [h'] at h; simp at h
        · exact ⟨U, x, by simpa using h'⟩
      have hU := ih U (by simpa using h)
      rw [runR_snoc]
      have hget : ∀ i r, (U ++ [x])[i]? = some r → (U[i]? = some r ∧ i < U.length) ∨ (i = U.length ∧ r = x) := fun (i : Nat) r hi => by
        by_cases hlt : i < U.length
        · rw [List.getElem?_append_left hlt] at hi; exact .inl ⟨hi, hlt⟩
        · rw [List.getElem?_append_right (by omega)] at hi
          have := (List.getElem?_eq_some_iff.1 hi).1
          simp at this
          have h0 : i - U.length = 0 := by omega
          rw [h0] at hi
          simp at hi
          exact .inr ⟨by omega, hi.symm⟩
      have hleft : ∀ j q, U[j]? = some q → (U ++ [x])[j]? = some q := fun j q hj => by rw [List.getElem?_append_left (List.getElem?_eq_some_iff.1 hj).1]; exact hj
      unfold putR
      by_cases hp : recOk x = true ∧ nwR (runR U) x = 1
      · rw [if_pos hp]
        by_cases hk : k = x.origin
        · rw [hk, putO_same]
          refine ⟨fun g hg => ?_, fun hg => by cases hg⟩
          cases hg
          have hnew : ∀ r ∈ U, r.origin = x.origin → recOk r = true → x.epoch > r.epoch ∨ (x.epoch = r.epoch ∧ x.seq > r.seq) := fun r hr ho hok => by
            have h1 := hp.2
            unfold nwR gD at h1
            cases hg : runR U x.origin with
            | none => exact absurd ho ((hU x.origin).2 hg r hr hok)
            | some g0 =>
              rw [hg] at h1
              simp only [Option.getD_some] at h1
              have h2 := (newI_pos _ _ _ _).1 h1
              have h3 := newI_le.1 (((hU x.origin).1 g0 hg).top r hr ho hok)
              omega
          refine ⟨by simp, rfl, hp.1, fun r hr ho hok => ?_, fun i r hi hok hst hfirst => ?_⟩
          · rcases List.mem_append.1 hr with hr | hr
            · have := hnew r hr ho hok
              exact newI_le.2 (by omega)
            · rw [List.mem_singleton.1 hr, newI_self]; exact Int.le_refl _
          · rcases hget i r hi with ⟨h1, _⟩ | ⟨_, h1⟩
            · simp only [stOf, Prod.mk.injEq] at hst
              have := hnew r (List.mem_of_getElem? h1) hst.1 hok
              omega
            · exact h1
        · rw [putO_other _ _ hk]
          refine ⟨fun g hg => ?_, fun hg r hr hok => ?_⟩
          · have hg' := (hU k).1 g hg
            refine ⟨by simp [hg'.mem], hg'.org, hg'.ok, fun r hr ho hok => ?_, fun i r hi hok hst hfirst => ?_⟩
            · rcases List.mem_append.1 hr with hr | hr
              · exact hg'.top r hr ho hok
              · rw [List.mem_singleton.1 hr] at ho; exact absurd ho.symm hk
            · rcases hget i r hi with ⟨h1, _⟩ | ⟨_, rfl⟩
              · exact hg'.fst i r h1 hok hst (fun j q hj hji => hfirst j q (hleft j q hj) hji)
              · simp only [stOf, Prod.mk.injEq] at hst
                rw [hg'.org] at hst
                exact absurd hst.1.symm hk
          · rcases List.mem_append.1 hr with hr | hr
            · exact (hU k).2 hg r hr hok
            · rw [List.mem_singleton.1 hr]; exact fun e => hk e.symm
      · rw [if_neg hp]
        refine ⟨fun g hg => ?_, fun hg r hr hok => ?_⟩
        · have hg' := (hU k).1 g hg
          have hx : recOk x = true → x.origin = k → newI x.epoch x.seq g.epoch g.seq ≤ 0 := fun hok ho => by
            have h1 : nwR (runR U) x ≠ 1 := fun h => hp ⟨hok, h⟩
            unfold nwR gD at h1
            rw [ho, hg] at h1
            simp only [Option.getD_some] at h1
            have := newI_vals x.epoch x.seq g.epoch g.seq
            omega
          refine ⟨by simp [hg'.mem], hg'.org, hg'.ok, fun r hr ho hok => ?_, fun i r hi hok hst hfirst => ?_⟩
          · rcases List.mem_append.1 hr with hr | hr
            · exact hg'.top r hr ho hok
            · rw [List.mem_singleton.1 hr] at ho hok ⊢; exact hx hok ho
          · rcases hget i r hi with ⟨h1, _⟩ | ⟨hi2, rfl⟩
            · exact hg'.fst i r h1 hok hst (fun j q hj hji => hfirst j q (hleft j q hj) hji)
            · obtain ⟨j, hj⟩ := List.getElem?_of_mem hg'.mem
              exact absurd hst.symm (hfirst j g (hleft j g hj) (by rw [hi2]; exact (List.getElem?_eq_some_iff.1 hj).1))
        · rcases List.mem_append.1 hr with hr | hr
          · exact (hU k).2 hg r hr hok
          · rw [List.mem_singleton.1 hr] at hok ⊢
            intro ho
            apply hp
            refine ⟨hok, ?_⟩
            unfold nwR gD
            rw [ho, hg]
            exact newI_zz (recOk_pos hok).1
  exact key _ rs rfl
/-- The same records in any order: the same stamps. -/
theorem runR_stamps {rs qs : List Rc} (h : ∀ r, r ∈ rs ↔ r ∈ qs) (k : Int) : (runR rs k).map stOf = (runR qs k).map stOf := by
  cases h1 : runR rs k with
  | none =>
    cases h2 : runR qs k with
    | none => rfl
    | some g =>
      have := (runR_is qs k).1 g h2
      exact absurd this.org ((runR_is rs k).2 h1 g ((h g).2 this.mem) this.ok)
  | some g =>
    have hg := (runR_is rs k).1 g h1
    cases h2 : runR qs k with
    | none => exact absurd hg.org ((runR_is qs k).2 h2 g ((h g).1 hg.mem) hg.ok)
    | some p =>
      have hp := (runR_is qs k).1 p h2
      have a1 := newI_le.1 (hg.top p ((h p).2 hp.mem) hp.org hp.ok)
      have a2 := newI_le.1 (hp.top g ((h g).1 hg.mem) hg.org hg.ok)
      have a3 := hg.org
      have a4 := hp.org
      simp only [Option.map_some, stOf, Option.some.injEq, Prod.mk.injEq]
      omega
theorem allR_stamps {F G : Rf} (h : ∀ k, (F k).map stOf = (G k).map stOf) (i : Nat) : (allR F i).map stOf = (allR G i).map stOf := by
  unfold allR
  rw [List.map_filterMap, List.map_filterMap]
  congr
  funext j
  exact h _
theorem allR_rise {F : Rf} (h : ∀ k g, F k = some g → g.origin = k) : ∀ i, (allR F i).Pairwise (fun a b => a.origin < b.origin) ∧ ∀ g ∈ allR F i, g.origin ≤ (i : Int)
  | 0 => by simp [allR]
  | i + 1 => by
    obtain ⟨h1, h2⟩ := allR_rise h i
    have he : allR F (i + 1) = allR F i ++ (F ((i : Int) + 1)).toList := by
      unfold allR
      rw [List.range_succ, List.filterMap_append]
      cases hF : F ((i : Int) + 1) <;> simp [hF]
    rw [he]
    constructor
    · rw [List.pairwise_append]
      refine ⟨h1, by cases F ((i : Int) + 1) <;> simp, fun a ha b hb => ?_⟩
      have h3 := h2 a ha
      have h4 := h _ b (by simpa using hb)
      omega
    · intro g hg
      rcases List.mem_append.1 hg with hg | hg
      · have := h2 g hg; omega
      · have := h _ g (by simpa using hg); omega
end Go.Proofs.Yteaaoipipjkgnaa
