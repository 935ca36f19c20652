/- Who is asked for, as lists. -/
import Derived.Test.YtnhlonapbohaeaaUI
import Derived.Test.YtnhlonapbohaeaaUM
import Derived.Test.YtnhlonapbohaeaaUC
namespace Go.Proofs.Ytnhlonapbohaeaa
open Go.RowKit

theorem rise_nodup {l : List Int} (h : l.Pairwise fun x y => x < y) : l.Nodup := h.imp fun h => by omega
theorem rsL_count {l : List Int} (h : l.Nodup) : (rsL l).length = l.length :=
  ((List.perm_ext_iff_of_nodup (rise_nodup (rsL_ok l).1) h).2 (rsL_ok l).2).length_eq
theorem rsL_in {l : List Int} {x : Int} (h : x ∈ l) : rsL (l ++ [x]) = rsL l := rsL_same fun y => by
  rw [List.mem_append, List.mem_singleton]
  exact ⟨fun e => e.elim id (fun e => by rw [e]; exact h), .inl⟩
theorem rsL_out {l : List Int} {x : Int} (h : x ∉ l) : (rsL (l ++ [x])).length = (rsL l).length + 1 := by
  have hn : (x :: rsL l).Nodup := List.nodup_cons.2 ⟨fun e => h (((rsL_ok l).2 x).1 e), rise_nodup (rsL_ok l).1⟩
  have := ((List.perm_ext_iff_of_nodup (rise_nodup (rsL_ok (l ++ [x])).1) hn).2 (fun y => by
    rw [(rsL_ok _).2, List.mem_append, List.mem_singleton, List.mem_cons, (rsL_ok l).2]
    exact ⟨fun e => e.elim .inr .inl, fun e => e.elim .inr .inl⟩)).length_eq
  rw [this]
  rfl
/-- A router is of one claim alone. -/
theorem one_claim {rs : List Rc} (h : bothOk no1 rs = true) {p p' : Int × List Int} {q : Int} (hp : p ∈ allC rs) (hp' : p' ∈ allC rs) (h1 : q ∈ p.2) (h2 : q ∈ p'.2) : p = p' := by
  obtain ⟨_, _, e1, _⟩ := allC_rows hp
  obtain ⟨_, _, e2, _⟩ := allC_rows hp'
  rw [e1, (rsL_ok _).2, mem_gat] at h1
  rw [e2, (rsL_ok _).2, mem_gat] at h2
  obtain ⟨r, hr, c1, _, o1⟩ := h1
  obtain ⟨r', hr', c2, _, o2⟩ := h2
  have hnd := (bothOk_all _ _ h).2
  have hrr : r = r' := by
    have key : ∀ l : List Rc, (l.map Rc.origin).Nodup → r ∈ l → r' ∈ l → r = r' := fun l => by
      induction l with
      | nil => intro _ h; cases h
      | cons s l ih =>
        intro hn hm hm'
        rw [List.map_cons, List.nodup_cons] at hn
        rcases List.mem_cons.1 hm with e | e
        · rcases List.mem_cons.1 hm' with e' | e'
          · rw [e, e']
          · exact absurd (List.mem_map.2 ⟨r', e', by rw [o2, ← o1, e]⟩) hn.1
        · rcases List.mem_cons.1 hm' with e' | e'
          · exact absurd (List.mem_map.2 ⟨r, e, by rw [o1, ← o2, e']⟩) hn.1
          · exact ih hn.2 e e'
    exact key rs hnd hr hr'
  have hi : p.1 = p'.1 := by rw [← c1, ← c2, hrr]
  obtain ⟨i, l⟩ := p
  obtain ⟨i', l'⟩ := p'
  simp only at hi e1 e2
  subst hi
  rw [e1, e2]
theorem allC_nodup (rs : List Rc) : (allC rs).Nodup := by
  have h := rise_nodup (idsL_rise rs)
  unfold allC
  rw [List.nodup_iff_pairwise_ne, List.pairwise_map]
  exact (List.nodup_iff_pairwise_ne.1 h).imp fun hne e => hne (by simpa using congrArg Prod.fst e)
theorem le_one {α : Type} {l : List α} (h : l.Nodup) (h1 : ∀ a ∈ l, ∀ b ∈ l, a = b) : l.length ≤ 1 := by
  match l, h, h1 with
  | [], _, _ => simp
  | [_], _, _ => simp
  | a :: b :: l, h, h1 =>
    exfalso
    rw [List.nodup_cons] at h
    exact h.1 (by rw [h1 a (by simp) b (by simp)]; simp)
theorem frI_le {rs : List Rc} (h : bothOk no1 rs = true) (n : Int) : (frI (allC rs) n).length ≤ 1 := by
  unfold frI
  rw [List.length_map]
  refine le_one ((allC_nodup rs).sublist List.filter_sublist) (fun a ha b hb => ?_)
  obtain ⟨ha, ha2⟩ := List.mem_filter.1 ha
  obtain ⟨hb, hb2⟩ := List.mem_filter.1 hb
  simp only [decide_eq_true_eq] at ha2 hb2
  exact one_claim h (q := n) ha hb (by rw [ha2]; simp) (by rw [hb2]; simp)
theorem flat_count {f : Int → List Int} (h : ∀ n, (f n).length ≤ 1) : ∀ S : List Int, (S.flatMap f).length + (S.filter fun n => (f n).isEmpty).length = S.length
  | [] => by simp
  | x :: S => by
    have ih := flat_count h S
    have hx := h x
    rw [List.flatMap_cons, List.length_append, List.filter_cons, List.length_cons]
    cases hf : f x with
    | nil =>
      simp only [List.isEmpty_nil, if_true, List.length_nil, List.length_cons]
      omega
    | cons y l =>
      rw [hf] at hx
      have : l = [] := by
        cases l with
        | nil => rfl
        | cons a b => simp at hx
      subst this
      simp only [List.isEmpty_cons, Bool.false_eq_true, if_false, List.length_cons, List.length_nil]
      omega
theorem flat_nodup {rs : List Rc} (h : bothOk no1 rs = true) : ∀ S : List Int, S.Nodup → (S.flatMap (frI (allC rs))).Nodup
  | [], _ => by simp
  | x :: S, hS => by
    rw [List.nodup_cons] at hS
    rw [List.flatMap_cons]
    refine List.nodup_append.2 ⟨?_, flat_nodup h S hS.2, fun a ha b hb e => ?_⟩
    · have := frI_le h x
      match frI (allC rs) x, this with
      | [], _ => simp
      | [_], _ => simp
    · subst e
      obtain ⟨y, hy, hay⟩ := List.mem_flatMap.1 hb
      rw [mem_frI] at ha hay
      have hxy : x = y := by
        have e1 := (allC_rows ha).2.2.1
        have e2 := (allC_rows hay).2.2.1
        simp only at e1 e2
        rw [← e2] at e1
        simpa using e1
      exact hS.1 (by rw [hxy]; exact hy)
/-- As many as were asked for. -/
theorem asked_count {rs : List Rc} (h : bothOk no1 rs = true) (R : List Int) : (idsT (allC rs) (rsL R)).length + (wioT (allC rs) (rsL R)).length = (rsL R).length := by
  unfold idsT wioT
  rw [rsL_count (flat_nodup h _ (rise_nodup (rsL_ok R).1))]
  exact flat_count (frI_le h) _
/-- What lstT tells, of the claims of records. -/
theorem lstT_mem {T : List (Int × List Int)} {q : Int} {p : Int × List Int} (h : lstT T q = some p) : p ∈ T ∧ q ∈ p.2 := by
  have key : ∀ (L : List (Int × List Int)) (acc : Option (Int × List Int)), (L.foldl (fun acc c => if (c.2.contains q && tstQ acc c.1) = true then some c else acc) acc) = some p → acc = some p ∨ (p ∈ L ∧ q ∈ p.2) := fun L => by
    induction L with
    | nil => intro acc h; exact .inl h
    | cons c L ih =>
      intro acc h
      rw [List.foldl_cons] at h
      rcases ih _ h with h1 | ⟨h1, h2⟩
      · by_cases hc : (c.2.contains q && tstQ acc c.1) = true
        · rw [if_pos hc] at h1
          simp only [Option.some.injEq] at h1
          subst h1
          simp only [Bool.and_eq_true] at hc
          exact .inr ⟨List.mem_cons_self, by simpa using hc.1⟩
        · rw [if_neg hc] at h1
          exact .inl h1
      · exact .inr ⟨List.mem_cons_of_mem _ h1, h2⟩
  rcases key T none h with h | h
  · cases h
  · exact h
theorem lstT_none {T : List (Int × List Int)} {q : Int} (h : lstT T q = none) : ∀ p ∈ T, q ∉ p.2 := by
  have key : ∀ (L : List (Int × List Int)) (acc : Option (Int × List Int)), (L.foldl (fun acc c => if (c.2.contains q && tstQ acc c.1) = true then some c else acc) acc) = none → acc = none ∧ ∀ p ∈ L, q ∉ p.2 := fun L => by
    induction L with
    | nil => intro acc h; exact ⟨h, fun _ h => absurd h List.not_mem_nil⟩
    | cons c L ih =>
      intro acc h
      rw [List.foldl_cons] at h
      obtain ⟨h1, h2⟩ := ih _ h
      by_cases hc : (c.2.contains q && tstQ acc c.1) = true
      · rw [if_pos hc] at h1
        cases h1
      · rw [if_neg hc] at h1
        subst h1
        refine ⟨rfl, fun p hp => ?_⟩
        rcases List.mem_cons.1 hp with rfl | hp
        · intro hq
          refine hc ?_
          simp only [tstQ, Bool.and_true]
          simpa using hq
        · exact h2 p hp
  exact (key T none h).2
/-- Is an id of those that have one? -/
theorem asked_one {rs : List Rc} (h : bothOk no1 rs = true) {q : Int} {p : Int × List Int} (hp : lstT (allC rs) q = some p) {x : Int} (hx : p.2 = [x]) : frI (allC rs) q = [p.1] := by
  obtain ⟨h1, h2⟩ := lstT_mem hp
  have hxq : p = (p.1, [q]) := by
    rw [hx] at h2
    have : q = x := by simpa using h2
    rw [this, ← hx]
  have hm : p.1 ∈ frI (allC rs) q := mem_frI.2 (by rw [← hxq]; exact h1)
  have hl := frI_le h q
  match hf : frI (allC rs) q, hl with
  | [], _ => rw [hf] at hm; cases hm
  | [y], _ => rw [hf] at hm; simp at hm; rw [hm]
theorem asked_no {rs : List Rc} (h : bothOk no1 rs = true) {q : Int} (hq : lstT (allC rs) q = none ∨ ∃ p, lstT (allC rs) q = some p ∧ 2 ≤ p.2.length) : frI (allC rs) q = [] := by
  rw [List.eq_nil_iff_forall_not_mem]
  intro i hi
  rw [mem_frI] at hi
  rcases hq with hq | ⟨p, hp, hl⟩
  · exact lstT_none hq _ hi (by simp)
  · obtain ⟨h1, h2⟩ := lstT_mem hp
    have := one_claim h (q := q) h1 hi h2 (by simp)
    rw [this] at hl
    simp at hl
theorem rise_bd : ∀ (l : List Int) (lo hi : Int), l.Pairwise (fun a b => a < b) → (∀ x ∈ l, lo < x ∧ x ≤ hi) → lo ≤ hi → (l.length : Int) ≤ hi - lo
  | [], lo, hi, _, _, h => by simp; omega
  | x :: l, lo, hi, hp, hb, _ => by
    rw [List.pairwise_cons] at hp
    have h1 := hb x List.mem_cons_self
    have := rise_bd l x hi hp.2 (fun y hy => ⟨hp.1 y hy, (hb y (List.mem_cons_of_mem _ hy)).2⟩) h1.2
    rw [List.length_cons]
    omega
theorem allC_few {rs : List Rc} (h : ∀ r ∈ rs, r.claim ≤ 11) : (allC rs).length ≤ 11 := by
  unfold allC
  rw [List.length_map]
  have := rise_bd (idsL rs) 0 11 (idsL_rise rs) (fun x hx => by
    obtain ⟨h1, h2⟩ := mem_idsL.1 hx
    obtain ⟨y, hy⟩ := List.exists_mem_of_ne_nil _ h2
    obtain ⟨r, hr, h3, _, _⟩ := mem_gat.1 hy
    have := h r hr
    omega) (by omega)
  omega
theorem allC_wf {rs : List Rc} (h : bothOk no1 rs = true) : ∀ p ∈ allC rs, ∀ z ∈ p.2, (Lit.int .i64 z).wf = true := fun p hp z hz => by
  obtain ⟨_, _, e, _⟩ := allC_rows hp
  rw [e, (rsL_ok _).2, mem_gat] at hz
  obtain ⟨r, hr, _, _, ho⟩ := hz
  have := (recOk_parts ((bothOk_all _ _ h).1 r hr).1).1
  exact wf9 (by omega)
theorem recsL_claim {ids : List Int} : ∀ r ∈ recsL ids false, r.claim ≤ 11 := fun r hr => by
  obtain ⟨k, _, rfl⟩ := mem_recsL.1 hr
  have h1 : ids.getD k 0 % 12 < 12 := Int.emod_lt_of_pos _ (by omega)
  show ids.getD k 0 % 12 ≤ 11
  omega
theorem idsT_mem {T : List (Int × List Int)} {R : List Int} {i : Int} : i ∈ idsT T R ↔ ∃ n ∈ R, (i, [n]) ∈ T := by
  unfold idsT
  rw [(rsL_ok _).2, List.mem_flatMap]
  simp only [mem_frI]
/-- What is told of a router that is asked for. -/
def AskA (T : List (Int × List Int)) (R : List Int) (q : Int) (e : Ending) : Prop :=
  ∃ (id : Int) (ev : Value) (bi be : Bool), e = .returned (.tuple #[.int .i64 id, ev]) ∧ ((ev = .nilIface ∧ be = true) ∨ ∃ c, ev = rfs (pcf c) ∧ be = false) ∧ decide (0 < id) = bi ∧ (idsT T R).contains id = (bi && be) ∧ (wioT T R).contains q = !(bi && be)
theorem eqlR (v : Value) (w : World) : (binOp BinOp.eql 47 (rfs v) .nilIface).run Try.prog w = .ok (.bool false) w := by kernel_rfl
theorem eqlN (w : World) : (binOp BinOp.eql 47 .nilIface .nilIface).run Try.prog w = .ok (.bool true) w := by kernel_rfl
theorem MineT.ask {w w' : World} {rs : List Rc} (h : bothOk no1 rs = true) {R : List Int} {q : Int} (hq : q ∈ R) {e : Ending} (hm : MineT w w' (allC rs) q e) : AskA (allC rs) R q e := by
  have hno : frI (allC rs) q = [] → (wioT (allC rs) R).contains q = true := fun hf => by
    rw [List.contains_eq_mem, decide_eq_true_eq]
    unfold wioT
    exact List.mem_filter.2 ⟨hq, by rw [hf]; rfl⟩
  have h0 : (idsT (allC rs) R).contains 0 = false := by
    rw [List.contains_eq_mem, decide_eq_false_iff_not, idsT_mem]
    rintro ⟨n, _, hn⟩
    have := (allC_rows hn).2.1
    simp only at this
    omega
  rcases hm with ⟨h1, rfl⟩ | ⟨p, x, h1, hx, rfl⟩ | ⟨p, h1, hl, c, u, rfl, _⟩
  · exact ⟨0, .nilIface, false, true, rfl, .inl ⟨rfl, rfl⟩, rfl, h0, hno (asked_no h (.inl h1))⟩
  · have hf := asked_one h h1 hx
    have hp := (allC_rows (lstT_mem h1).1).2.1
    refine ⟨p.1, .nilIface, true, true, rfl, .inl ⟨rfl, rfl⟩, by simp; omega, ?_, ?_⟩
    · rw [List.contains_eq_mem, Bool.and_self, decide_eq_true_eq, idsT_mem]
      exact ⟨q, hq, mem_frI.1 (by rw [hf]; simp)⟩
    · rw [List.contains_eq_mem, Bool.and_self, Bool.not_true, decide_eq_false_iff_not]
      unfold wioT
      intro hc
      have := (List.mem_filter.1 hc).2
      rw [hf] at this
      cases this
  · exact ⟨0, _, false, false, rfl, .inr ⟨c, rfl, rfl⟩, rfl, h0, hno (asked_no h (.inr ⟨p, h1, hl⟩))⟩
end Go.Proofs.Ytnhlonapbohaeaa
