/- Who is asked for, as lists. Free. What ClaimTold asks, as lists. ClaimAsked. errors.As, of a refusal: a conflict. errors.As, of a refusal: it is found. errors.As, of a refusal: a fault. errors.As, of a refusal: it is found. The laws' fault: is an error just a fault of that number, at 0? The laws' conflict: is an error just that of a claim? The laws' conflict, walked. ClaimTold. -/
import Derived.Test.YtgpinecfmhenkaaDoorUI
import Derived.Test.YtgpinecfmhenkaaDoorUM
import Derived.Test.YtgpinecfmhenkaaDoorUC
import Derived.Test.YtgpinecfmhenkaaDoorU8
import Derived.Deep.RegionHeld3
import Derived.Test.YtgpinecfmhenkaaDoorU5F
import Derived.LaidEql
import Derived.Stop.Asserts
import Derived.RowKitTokens
namespace Go.Proofs.YtgpinecfmhenkaaDoor
open Go.RowKit

theorem rise_nodup {l : List Int} (h : l.Pairwise fun x y => x < y) : l.Nodup := h.imp fun h => by omega
theorem rsL_count {l : List Int} (h : l.Nodup) : (rsL l).length = l.length :=
  ((List.perm_ext_iff_of_nodup (rise_nodup (rsL_ok l).1) h).2 (rsL_ok l).2).length_eq
theorem rsL_in {l : List Int} {x : Int} (h : x ∈ l) : rsL (l ++ [x]) = rsL l := rsL_same fun y => by
  rw [List.mem_append, List.mem_singleton]
  exact ⟨fun e => e.elim id (fun e => by rw [e]; exact h), .inl⟩
theorem rsL_out {l : List Int} {x : Int} (h : x ∉ l) : (rsL (l ++ [x])).length = (rsL l).length + 1 := by
  have hn : (x :: rsL l).Nodup := List.nodup_cons.2 ⟨fun e => h (((rsL_ok l).2 x).1 e), rise_nodup (rsL_ok l).1⟩
  have := ((List.perm_ext_iff_of_nodup (rise_nodup (rsL_ok (l ++ [x])).1) hn).2 (fun y => by
    rw [(rsL_ok _).2, List.mem_append, List.mem_singleton, List.mem_cons, (rsL_ok l).2]
    exact ⟨fun e => e.elim .inr .inl, fun e => e.elim .inr .inl⟩)).length_eq
  rw [this]
  rfl
/-- A router is of one claim alone. -/
theorem one_claim {rs : List Rc} (h : bothOk no1 rs = true) {p p' : Int × List Int} {q : Int} (hp : p ∈ allC rs) (hp' : p' ∈ allC rs) (h1 : q ∈ p.2) (h2 : q ∈ p'.2) : p = p' := by
  obtain ⟨_, _, e1, _⟩ := allC_rows hp
  obtain ⟨_, _, e2, _⟩ := allC_rows hp'
  rw [e1, (rsL_ok _).2, mem_gat] at h1
  rw [e2, (rsL_ok _).2, mem_gat] at h2
  obtain ⟨r, hr, c1, _, o1⟩ := h1
  obtain ⟨r', hr', c2, _, o2⟩ := h2
  have hnd := (bothOk_all _ _ h).2
  have hrr : r = r' := by
    have key : ∀ l : List Rc, (l.map Rc.origin).Nodup → r ∈ l → r' ∈ l → r = r' := fun l => by
      induction l with
      | nil => intro _ h; cases h
      | cons s l ih =>
        intro hn hm hm'
        rw [List.map_cons, List.nodup_cons] at hn
        rcases List.mem_cons.1 hm with e | e
        · rcases List.mem_cons.1 hm' with e' | e'
          · rw [e, e']
          · exact absurd (List.mem_map.2 ⟨r', e', by rw [o2, ← o1, e]⟩) hn.1
        · rcases List.mem_cons.1 hm' with e' | e'
          · exact absurd (List.mem_map.2 ⟨r, e, by rw [o1, ← o2, e']⟩) hn.1
          · exact ih hn.2 e e'
    exact key rs hnd hr hr'
  have hi : p.1 = p'.1 := by rw [← c1, ← c2, hrr]
  obtain ⟨i, l⟩ := p
  obtain ⟨i', l'⟩ := p'
  simp only at hi e1 e2
  subst hi
  rw [e1, e2]
theorem allC_nodup (rs : List Rc) : (allC rs).Nodup := by
  have h := rise_nodup (idsL_rise rs)
  unfold allC
  rw [List.nodup_iff_pairwise_ne, List.pairwise_map]
  exact (List.nodup_iff_pairwise_ne.1 h).imp fun hne e => hne (by simpa using congrArg Prod.fst e)
theorem le_one {α : Type} {l : List α} (h : l.Nodup) (h1 : ∀ a ∈ l, ∀ b ∈ l, a = b) : l.length ≤ 1 := by
  match l, h, h1 with
  | [], _, _ => simp
  | [_], _, _ => simp
  | a :: b :: l, h, h1 =>
    exfalso
    rw [List.nodup_cons] at h
    exact h.1 (by rw [h1 a (by simp) b (by simp)]; simp)
theorem frI_le {rs : List Rc} (h : bothOk no1 rs = true) (n : Int) : (frI (allC rs) n).length ≤ 1 := by
  unfold frI
  rw [List.length_map]
  refine le_one ((allC_nodup rs).sublist List.filter_sublist) (fun a ha b hb => ?_)
  obtain ⟨ha, ha2⟩ := List.mem_filter.1 ha
  obtain ⟨hb, hb2⟩ := List.mem_filter.1 hb
  simp only [decide_eq_true_eq] at ha2 hb2
  exact one_claim h (q := n) ha hb (by rw [ha2]; simp) (by rw [hb2]; simp)
theorem flat_count {f : Int → List Int} (h : ∀ n, (f n).length ≤ 1) : ∀ S : List Int, (S.flatMap f).length + (S.filter fun n => (f n).isEmpty).length = S.length
  | [] => by simp
  | x :: S => by
    have ih := flat_count h S
    have hx := h x
    rw [List.flatMap_cons, List.length_append, List.filter_cons, List.length_cons]
    cases hf : f x with
    | nil =>
      simp only [List.isEmpty_nil, if_true, List.length_nil, List.length_cons]
      omega
    | cons y l =>
      rw [hf] at hx
      have : l = [] := by
        cases l with
        | nil => rfl
        | cons a b => simp at hx
      subst this
      simp only [List.isEmpty_cons, Bool.false_eq_true, if_false, List.length_cons, List.length_nil]
      omega
theorem flat_nodup {rs : List Rc} (h : bothOk no1 rs = true) : ∀ S : List Int, S.Nodup → (S.flatMap (frI (allC rs))).Nodup
  | [], _ => by simp
  | x :: S, hS => by
    rw [List.nodup_cons] at hS
    rw [List.flatMap_cons]
    refine List.nodup_append.2 ⟨?_, flat_nodup h S hS.2, fun a ha b hb e => ?_⟩
    · have := frI_le h x
      match frI (allC rs) x, this with
      | [], _ => simp
      | [_], _ => simp
    · subst e
      obtain ⟨y, hy, hay⟩ := List.mem_flatMap.1 hb
      rw [mem_frI] at ha hay
      have hxy : x = y := by
        have e1 := (allC_rows ha).2.2.1
        have e2 := (allC_rows hay).2.2.1
        simp only at e1 e2
        rw [← e2] at e1
        simpa using e1
      exact hS.1 (by rw [hxy]; exact hy)
/-- As many as were asked for. -/
theorem asked_count {rs : List Rc} (h : bothOk no1 rs = true) (R : List Int) : (idsT (allC rs) (rsL R)).length + (wioT (allC rs) (rsL R)).length = (rsL R).length := by
  unfold idsT wioT
  rw [rsL_count (flat_nodup h _ (rise_nodup (rsL_ok R).1))]
  exact flat_count (frI_le h) _
/-- What lstT tells, of the claims of records. -/
theorem lstT_mem {T : List (Int × List Int)} {q : Int} {p : Int × List Int} (h : lstT T q = some p) : p ∈ T ∧ q ∈ p.2 := by
  have key : ∀ (L : List (Int × List Int)) (acc : Option (Int × List Int)), (L.foldl (fun acc c => if (c.2.contains q && tstQ acc c.1) = true then some c else acc) acc) = some p → acc = some p ∨ (p ∈ L ∧ q ∈ p.2) := fun L => by
    induction L with
    | nil => intro acc h; exact .inl h
    | cons c L ih =>
      intro acc h
      rw [List.foldl_cons] at h
      rcases ih _ h with h1 | ⟨h1, h2⟩
      · by_cases hc : (c.2.contains q && tstQ acc c.1) = true
        · rw [if_pos hc] at h1
          simp only [Option.some.injEq] at h1
          subst h1
          simp only [Bool.and_eq_true] at hc
          exact .inr ⟨List.mem_cons_self, by simpa using hc.1⟩
        · rw [if_neg hc] at h1
          exact .inl h1
      · exact .inr ⟨List.mem_cons_of_mem _ h1, h2⟩
  rcases key T none h with h | h
  · cases h
  · exact h
theorem lstT_none {T : List (Int × List Int)} {q : Int} (h : lstT T q = none) : ∀ p ∈ T, q ∉ p.2 := by
  have key : ∀ (L : List (Int × List Int)) (acc : Option (Int × List Int)), (L.foldl (fun acc c => if (c.2.contains q && tstQ acc c.1) = true then some c else acc) acc) = none → acc = none ∧ ∀ p ∈ L, q ∉ p.2 := fun L => by
    induction L with
    | nil => intro acc h; exact ⟨h, fun _ h => absurd h List.not_mem_nil⟩
    | cons c L ih =>
      intro acc h
      rw [List.foldl_cons] at h
      obtain ⟨h1, h2⟩ := ih _ h
      by_cases hc : (c.2.contains q && tstQ acc c.1) = true
      · rw [if_pos hc] at h1
        cases h1
      · rw [if_neg hc] at h1
        subst h1
        refine ⟨rfl, fun p hp => ?_⟩
        rcases List.mem_cons.1 hp with rfl | hp
        · intro hq
          refine hc ?_
          simp only [tstQ, Bool.and_true]
          simpa using hq
        · exact h2 p hp
  exact (key T none h).2
/-- Is an id of those that have one? -/
theorem asked_one {rs : List Rc} (h : bothOk no1 rs = true) {q : Int} {p : Int × List Int} (hp : lstT (allC rs) q = some p) {x : Int} (hx : p.2 = [x]) : frI (allC rs) q = [p.1] := by
  obtain ⟨h1, h2⟩ := lstT_mem hp
  have hxq : p = (p.1, [q]) := by
    rw [hx] at h2
    have : q = x := by simpa using h2
    rw [this, ← hx]
  have hm : p.1 ∈ frI (allC rs) q := mem_frI.2 (by rw [← hxq]; exact h1)
  have hl := frI_le h q
  match hf : frI (allC rs) q, hl with
  | [], _ => rw [hf] at hm; cases hm
  | [y], _ => rw [hf] at hm; simp at hm; rw [hm]
theorem asked_no {rs : List Rc} (h : bothOk no1 rs = true) {q : Int} (hq : lstT (allC rs) q = none ∨ ∃ p, lstT (allC rs) q = some p ∧ 2 ≤ p.2.length) : frI (allC rs) q = [] := by
  rw [List.eq_nil_iff_forall_not_mem]
  intro i hi
  rw [mem_frI] at hi
  rcases hq with hq | ⟨p, hp, hl⟩
  · exact lstT_none hq _ hi (by simp)
  · obtain ⟨h1, h2⟩ := lstT_mem hp
    have := one_claim h (q := q) h1 hi h2 (by simp)
    rw [this] at hl
    simp at hl
theorem rise_bd : ∀ (l : List Int) (lo hi : Int), l.Pairwise (fun a b => a < b) → (∀ x ∈ l, lo < x ∧ x ≤ hi) → lo ≤ hi → (l.length : Int) ≤ hi - lo
  | [], lo, hi, _, _, h => by simp; omega
  | x :: l, lo, hi, hp, hb, _ => by
    rw [List.pairwise_cons] at hp
    have h1 := hb x List.mem_cons_self
    have := rise_bd l x hi hp.2 (fun y hy => ⟨hp.1 y hy, (hb y (List.mem_cons_of_mem _ hy)).2⟩) h1.2
    rw [List.length_cons]
    omega
theorem allC_few {rs : List Rc} (h : ∀ r ∈ rs, r.claim ≤ 11) : (allC rs).length ≤ 11 := by
  unfold allC
  rw [List.length_map]
  have := rise_bd (idsL rs) 0 11 (idsL_rise rs) (fun x hx => by
    obtain ⟨h1, h2⟩ := mem_idsL.1 hx
    obtain ⟨y, hy⟩ := List.exists_mem_of_ne_nil _ h2
    obtain ⟨r, hr, h3, _, _⟩ := mem_gat.1 hy
    have := h r hr
    omega) (by omega)
  omega
theorem allC_wf {rs : List Rc} (h : bothOk no1 rs = true) : ∀ p ∈ allC rs, ∀ z ∈ p.2, (Lit.int .i64 z).wf = true := fun p hp z hz => by
  obtain ⟨_, _, e, _⟩ := allC_rows hp
  rw [e, (rsL_ok _).2, mem_gat] at hz
  obtain ⟨r, hr, _, _, ho⟩ := hz
  have := (recOk_parts ((bothOk_all _ _ h).1 r hr).1).1
  exact wf9 (by omega)
theorem recsL_claim {ids : List Int} : ∀ r ∈ recsL ids false, r.claim ≤ 11 := fun r hr => by
  obtain ⟨k, _, rfl⟩ := mem_recsL.1 hr
  have h1 : ids.getD k 0 % 12 < 12 := Int.emod_lt_of_pos _ (by omega)
  show ids.getD k 0 % 12 ≤ 11
  omega
theorem idsT_mem {T : List (Int × List Int)} {R : List Int} {i : Int} : i ∈ idsT T R ↔ ∃ n ∈ R, (i, [n]) ∈ T := by
  unfold idsT
  rw [(rsL_ok _).2, List.mem_flatMap]
  simp only [mem_frI]
/-- What is told of a router that is asked for. -/
def AskA (T : List (Int × List Int)) (R : List Int) (q : Int) (e : Ending) : Prop :=
  ∃ (id : Int) (ev : Value) (bi be : Bool), e = .returned (.tuple #[.int .i64 id, ev]) ∧ ((ev = .nilIface ∧ be = true) ∨ ∃ c, ev = rfs (pcf c) ∧ be = false) ∧ decide (0 < id) = bi ∧ (idsT T R).contains id = (bi && be) ∧ (wioT T R).contains q = !(bi && be)
theorem eqlR (v : Value) (w : World) : (binOp BinOp.eql 25 (rfs v) .nilIface).run Tryd.prog w = .ok (.bool false) w := by kernel_rfl
theorem eqlN (w : World) : (binOp BinOp.eql 25 .nilIface .nilIface).run Tryd.prog w = .ok (.bool true) w := by kernel_rfl
theorem MineT.ask {w w' : World} {rs : List Rc} (h : bothOk no1 rs = true) {R : List Int} {q : Int} (hq : q ∈ R) {e : Ending} (hm : MineT w w' (allC rs) q e) : AskA (allC rs) R q e := by
  have hno : frI (allC rs) q = [] → (wioT (allC rs) R).contains q = true := fun hf => by
    rw [List.contains_eq_mem, decide_eq_true_eq]
    unfold wioT
    exact List.mem_filter.2 ⟨hq, by rw [hf]; rfl⟩
  have h0 : (idsT (allC rs) R).contains 0 = false := by
    rw [List.contains_eq_mem, decide_eq_false_iff_not, idsT_mem]
    rintro ⟨n, _, hn⟩
    have := (allC_rows hn).2.1
    simp only at this
    omega
  rcases hm with ⟨h1, rfl⟩ | ⟨p, x, h1, hx, rfl⟩ | ⟨p, h1, hl, c, u, rfl, _⟩
  · exact ⟨0, .nilIface, false, true, rfl, .inl ⟨rfl, rfl⟩, rfl, h0, hno (asked_no h (.inl h1))⟩
  · have hf := asked_one h h1 hx
    have hp := (allC_rows (lstT_mem h1).1).2.1
    refine ⟨p.1, .nilIface, true, true, rfl, .inl ⟨rfl, rfl⟩, by simp; omega, ?_, ?_⟩
    · rw [List.contains_eq_mem, Bool.and_self, decide_eq_true_eq, idsT_mem]
      exact ⟨q, hq, mem_frI.1 (by rw [hf]; simp)⟩
    · rw [List.contains_eq_mem, Bool.and_self, Bool.not_true, decide_eq_false_iff_not]
      unfold wioT
      intro hc
      have := (List.mem_filter.1 hc).2
      rw [hf] at this
      cases this
  · exact ⟨0, _, false, false, rfl, .inr ⟨c, rfl, rfl⟩, rfl, h0, hno (asked_no h (.inr ⟨p, h1, hl⟩))⟩
end Go.Proofs.YtgpinecfmhenkaaDoor
namespace Go.Proofs.YtgpinecfmhenkaaDoor
open Go.RowKit

/-- The claims that have just one router. -/
def freeT (T : List (Int × List Int)) : List (Int × List Int) := T.filter fun p => decide (p.2.length = 1)
theorem freeT_yes (T : List (Int × List Int)) {p : Int × List Int} (h : p.2.length = 1) : freeT (T ++ [p]) = freeT T ++ [p] := by unfold freeT; rw [List.filter_append]; simp [h]
theorem freeT_no (T : List (Int × List Int)) {p : Int × List Int} (h : p.2.length ≠ 1) : freeT (T ++ [p]) = freeT T := by unfold freeT; rw [List.filter_append]; simp [h]
/-- A claim's block is read. -/
def frC (br : Nat) (id : Int) (xa : Option Addr) (xc : Nat) (wx : World) : Prop := wx.cell? ⟨br, 0, none⟩ = some (.int .i64 id) ∧ wx.cell? ⟨br, 1, none⟩ = some (.slice xa 1 xc)
theorem frC_of {br : Nat} {id : Int} {xa : Option Addr} {xc : Nat} {wx : World} (h : wx.heap[br]? = some (.cells #[.int .i64 id, .slice xa 1 xc] 31)) : frC br id xa xc wx := by
  have d0 := cell_of_row _ _ 0 _ _ _ h
  have d1 := cell_of_row _ _ 1 _ _ _ h
  simp at d0 d1
  exact ⟨d0, d1⟩
set_option maxRecDepth 100000 in
set_option maxHeartbeats 4000000 in
theorem free_T {T : List (Int × List Int)} {v : Value} {w : World} (h : TAt w v T) (hl : T.length ≤ 100000) :
    Calls Tryd.prog 16 #[v] w fun e w' => (∃ a c, e = .returned (.slice a (freeT T).length c) ∧ ClsAns w w' (freeT T) (.slice a (freeT T).length c)) ∧ Below w.heap.size w w' := by
  obtain ⟨L, h1, h2⟩ := h
  have hlen : L.length = T.length := by rw [← h2, List.length_map]
  obtain ⟨a, cap, rfl, hn, _, hat⟩ := h1.r.clms
  have Ha := hidIn hat
  have HA := hidIn h1.a
  have H2 := hidIn h2
  obtain ⟨n, hnn⟩ : ∃ n, L.length = n := ⟨_, rfl⟩
  rw [hnn] at hn ⊢
  have Hn := hidIn hnn
  have hn2 : n ≤ 100000 := by omega
  have HTl : Hid (T.length = n) := hidIn (by omega)
  clear hat h1 h2 hnn hlen hl
  go_enter Tryd.func16, Tryd.ntmps16
  go_wp2_with fail
  go_loopw [3, 8] (fun u i wr => ∃ (k : Nat) (F : List Cl) (fn : Nat), k ≤ n ∧ i = .int .i64 k ∧ (∃ a c, u = .slice a fn c) ∧ Hid (Below w.heap.size w wr ∧ wr.ownsRow w.heap.size 31 2 u fn (fl clc F) ∧ F.length = fn ∧ fn ≤ k ∧ cls F = freeT (T.take k) ∧ ∀ x ∈ F, wr.ownsRow w.heap.size 3 1 x.2.2 x.2.1.length (fl ic x.2.1))) (fun _ i _ => n - (intOf i).toNat)
  case atStart => exact ⟨0, [], 0, Nat.zero_le _, rfl, ⟨none, 0, rfl⟩, hidIn ⟨Below.refl _ _, World.ownsRow_nil _ _ _ _, rfl, Nat.le_refl _, rfl, fun _ h => absurd h List.not_mem_nil⟩⟩
  case round =>
    obtain ⟨k, F, fn, hk, rfl, ⟨ua, uc, rfl⟩, HR⟩ := hrel
    obtain ⟨hb, hu, hFl, hfk, hFc, hFr⟩ := HR.out
    clear HR
    by_cases hlt : k < n
    · obtain ⟨bk, o, rfl, hbk, hcell⟩ := Ha.out (by have := Hn.out; omega)
      obtain ⟨⟨id, xs, xv⟩, hz⟩ : ∃ z, L[k]? = some z := ⟨L[k]'(by have := Hn.out; omega), List.getElem?_eq_getElem _⟩
      obtain ⟨q0, q1⟩ := hcell k _ hz
      obtain ⟨hxs, hxn⟩ := HA.out _ (List.mem_of_getElem? hz)
      simp only at q0 q1 hxs hxn
      have hTk : T[k]? = some (id, xs) := by rw [← H2.out, List.getElem?_map, hz]; rfl
      have c0 := (hb.cell (p := ⟨bk, o + k * 2, none⟩) hbk).trans q0
      have c1 := (hb.cell (p := ⟨bk, o + k * 2 + 1, none⟩) hbk).trans q1
      have HXs := hidIn hxs
      have HXn := hidIn hxn
      obtain ⟨xa, xc, hxv, _⟩ := hxs
      subst hxv
      have hki : (k : Int) < (n : Int) := by omega
      obtain ⟨W1, hW1⟩ : ∃ W1, wr.alloc (.cells #[.int .i64 id, .slice xa xs.length xc] 31) = W1 := ⟨_, rfl⟩
      have b1 : Below wr.heap.size wr W1 := by rw [← hW1]; exact (Below.refl _ wr).alloc (Nat.le_refl _) _
      have hX := heap_alloc_last wr (.cells #[.int .i64 id, .slice xa xs.length xc] 31)
      rw [hW1] at hX
      obtain ⟨br, hbr⟩ : ∃ br, wr.heap.size = br := ⟨_, rfl⟩
      rw [hbr] at hX
      have Hne : Hid (∀ j, (Value.slice ua fn uc).ownBlock = some j → ¬ j = br) := hidIn fun j hj e => by have := (hu.lt j hj).2; omega
      have x0 := cell_of_row _ _ 0 _ _ _ hX
      have x1 := cell_of_row _ _ 1 _ _ _ hX
      simp at x0 x1
      have HX1 := hidIn hX
      have HW := hidIn hW1
      have HF := hidIn (isFree_any id xa xs.length xc W1)
      have HT1 := hidIn (take_snoc hTk)
      have HBB := hidIn b1
      have HB := hidIn hb
      have HU := hidIn hu
      have HFl := hidIn hFl
      have HFc := hidIn hFc
      have HFr' := hidIn hFr
      obtain ⟨xn, hxn'⟩ : ∃ xn, xs.length = xn := ⟨_, rfl⟩
      have Hxn := hidIn hxn'
      rw [hxn'] at c1 x1 HW HF HX1 HXs HXn
      clear hcell q0 q1 hxn hX b1 hW1 hz hTk hxn' hb hu hFl hFc hFr
      go_upto_region 5 with fail
      rw [HW.out]
      clear HW c0 c1 hbr
      go_wp2_with fail
      refine HF.out.mono ?_
      rintro e w2 ⟨rfl, hb2⟩
      have hbw2 : Below wr.heap.size wr w2 := HBB.out.trans (hb2.mono HBB.out.size)
      have HB2 := hidIn (HB.out.trans (hbw2.mono HB.out.size))
      have HX2 := hidIn ((hb2.block _ (block_lt HX1.out)).trans HX1.out)
      have HU2 := hidIn (row_below HU.out hbw2 (Nat.le_refl _))
      have HFr : Hid (∀ x ∈ F, w2.ownsRow w.heap.size 3 1 x.2.2 x.2.1.length (fl ic x.2.1)) := hidIn fun x hx => row_below (HFr'.out x hx) hbw2 (Nat.le_refl _)
      clear hb2 hbw2 HF HX1 HBB HB HU HFr' x0 x1
      by_cases hone : xn = 1
      · subst hone
        have HFs : Hid (∀ wq, Below w2.heap.size w2 wq → frC br id xa xc wq) := hidIn fun wq hq => frC_of ((hq.block _ (block_lt HX2.out)).trans HX2.out)
        have HCl : Hid (∀ wq, Below w2.heap.size w2 wq → Calls Tryd.prog 31 #[.slice xa 1 xc] wq fun e w' => (∃ v', e = .returned v' ∧ w'.ownsRow wq.heap.size 3 1 v' 1 (fl ic xs)) ∧ Below wq.heap.size wq w') := hidIn fun wq hq => by
          have := cclone_any (HXs.out.keep (HB2.out.trans (hq.mono HB2.out.size)) (Nat.le_refl _)) HXn.out (by rw [Hxn.out]; omega)
          rw [Hxn.out] at this
          exact this
        go_upto_region 6 with fail
        refine wp_region_held_drew (S := fun wx => frC br id xa xc wx) (by kernel_rfl) (HFs.out _ ((Below.refl _ w2).drew)) (fun hHeld => ?_)
        have hh : Below w2.heap.size w2 w2.drew := (Below.refl _ w2).drew
        refine wpAnyH_take (i := 0) (v := ?_) rfl (by kernel_rfl) (by kernel_rfl) (by kernel_rfl) (fun _ _ _ h => h) (Or.inl ⟨by rfl, ?_⟩) (by assumption) ?_
        rotate_left
        · intro wq hSw
          clear hSw
          go_simp
          try (with_reducible rfl)
        refine wpAnyH_take (i := 1) (v := ?_) rfl (by kernel_rfl) (by kernel_rfl) (by kernel_rfl) (fun _ _ _ h => h) (Or.inl ⟨by rfl, ?_⟩) (by assumption) ?_
        rotate_left
        · intro wq hSw
          clear hSw
          go_simp
          try (with_reducible rfl)
        refine wpAnyH_take (i := 2) (v := ?_) rfl (by kernel_rfl) (by kernel_rfl) (by kernel_rfl) (fun _ _ _ h => h) (Or.inl ⟨by rfl, ?_⟩) (by assumption) ?_
        rotate_left
        · intro wq hSw
          obtain ⟨zz0, zz1⟩ := hSw
          have hSw := zz0
          clear hSw
          go_simp
          try (with_reducible rfl)
        refine wpAnyH_take (i := 3) (v := ?_) rfl (by kernel_rfl) (by kernel_rfl) (by kernel_rfl) (fun _ _ _ h => h) (Or.inl ⟨by rfl, ?_⟩) (by assumption) ?_
        rotate_left
        · intro wq hSw
          clear hSw
          go_simp
          try (with_reducible rfl)
        refine wpAnyH_take (i := 4) (v := ?_) rfl (by kernel_rfl) (by kernel_rfl) (by kernel_rfl) (fun _ _ _ h => h) (Or.inl ⟨by rfl, ?_⟩) (by assumption) ?_
        rotate_left
        · intro wq hSw
          obtain ⟨zz0, zz1⟩ := hSw
          have hSw := zz0
          clear hSw
          go_simp
          try (with_reducible rfl)
        refine wpAnyH_ready (rs := [5]) (by kernel_rfl) (by simp) ?_
        refine AllReadyH.cons (i := 5) rfl (fun K hK => ?_) AllReadyH.nil
        go_simp
        refine (HCl.out _ hh).mono ?_
        rintro e w5 ⟨⟨v', rfl, hr5⟩, hbx⟩
        have h5 : Below w2.heap.size w2 w5 := hh.trans (hbx.mono hh.size)
        obtain ⟨ra, rc, rfl⟩ := row_shape hr5
        refine hK.out _ _ (HFs.out w5 h5) (fun _ => ?_)
        clear hK K
        refine wpAnyH_take (i := 6) (v := ?_) rfl (by kernel_rfl) (by kernel_rfl) (by kernel_rfl) (fun _ _ _ h => h) (Or.inl ⟨by rfl, ?_⟩) (by assumption) ?_
        rotate_left
        · intro wq hSw
          clear hSw
          go_simp
          try (with_reducible rfl)
        refine wpAnyH_ready (rs := [7]) (by kernel_rfl) (by simp) ?_
        refine AllReadyH.cons (i := 7) rfl ?_ AllReadyH.nil
        go_simp
        intro K hK
        have hB5 : Below w.heap.size w w5 := HB2.out.trans (h5.mono HB2.out.size)
        have hu5 := row_below HU2.out h5 (Nat.le_refl _)
        have hr5' := row_low hr5 (Nat.le_trans HB2.out.size hh.size)
        obtain ⟨g, gc, w6, hrun, hown, hb6, hF6⟩ := append_clm hu5 (id, xs, .slice ra 1 rc) rfl (by omega) hB5.size
        have hnI : ∀ {base i : Nat} {x : Value} {zs : List Value}, w5.ownsRow base 3 1 x i zs → w6.ownsRow base 3 1 x i zs := fun {base i x zs} hx => row_fr hx hF6 (fun i hi e => by
          obtain ⟨cur, h1⟩ := crowTy hx hi
          obtain ⟨cur', h2⟩ := crowTy hu5 e
          rw [h1] at h2
          simp only [Option.some.injEq, Obj.cells.injEq] at h2
          exact absurd h2.2.1 (by decide))
        have HO : Hid (Below w.heap.size w w6 ∧ w6.ownsRow w.heap.size 31 2 (.slice (some ⟨g, 0, none⟩) (fn + 1) gc) (fn + 1) (fl clc (F ++ [(id, xs, .slice ra 1 rc)])) ∧ (F ++ [(id, xs, Value.slice ra 1 rc)]).length = fn + 1 ∧ fn + 1 ≤ k + 1 ∧ cls (F ++ [(id, xs, Value.slice ra 1 rc)]) = freeT (T.take (k + 1)) ∧ ∀ x ∈ F ++ [(id, xs, Value.slice ra 1 rc)], w6.ownsRow w.heap.size 3 1 x.2.2 x.2.1.length (fl ic x.2.1)) := hidIn (by
          refine ⟨hB5.trans hb6, hown, by rw [List.length_append, HFl.out]; rfl, by omega, by rw [HT1.out, freeT_yes _ (by simp only; exact Hxn.out), ← HFc.out, cls, List.map_append]; rfl, fun x hx => ?_⟩
          rcases List.mem_append.1 hx with hx | hx
          · exact hnI (row_below (HFr.out x hx) h5 (Nat.le_refl _))
          · rw [List.mem_singleton.1 hx]
            refine hnI ?_
            show w5.ownsRow _ _ 1 (.slice ra 1 rc) xs.length _
            rw [Hxn.out]
            exact hr5')
        have HRun := hidIn hrun
        have h7 : Below w2.heap.size w2 (w5.alloc (.cells #[.int .i64 id, .slice ra 1 rc] 31)) := h5.trans (((Below.refl _ w5).alloc (Nat.le_refl _) _).mono h5.size)
        refine hK.out _ _ (HFs.out _ h7) (fun _ => ?_)
        have hX5 := (h5.block _ (block_lt HX2.out)).trans HX2.out
        have hS6 : frC br id xa xc w6 := frC_of ((hF6.block _ (block_lt hX5) (fun e => Hne.out br e rfl)).trans hX5)
        clear hK K hu5 hr5' hrun hown hb6 hF6 hnI hB5 hr5 hbx h7 hX5
        refine wpAnyH_ready (rs := [8]) (by kernel_rfl) (by simp) ?_
        refine AllReadyH.cons (i := 8) rfl (fun K hK => ?_) AllReadyH.nil
        refine step_append rfl (.tmp 14) (.tmp 21) 22 rfl (by kernel_rfl) (by kernel_rfl) HRun.out ?_
        refine hK.out _ _ hS6 (fun _ => ?_)
        clear hK K
        refine wpAnyH_take (i := 9) (v := ?_) rfl (by kernel_rfl) (by kernel_rfl) (by kernel_rfl) (fun _ _ _ h => h) (Or.inl ⟨by rfl, ?_⟩) (by assumption) ?_
        rotate_left
        · intro wq hSw
          clear hSw
          go_simp
          try (with_reducible rfl)
        refine wpAnyH_done (by kernel_rfl) ?_ _
        go_wp2_with fail
        go_roundw
        case rel => exact ⟨k + 1, _, fn + 1, by omega, by go_num, ⟨_, _, rfl⟩, HO⟩
        case measure => simp [intOf]; omega
      · have hb1 : (xn == 1) = false := by simpa using hone
        rw [hb1]
        have HO : Hid (Below w.heap.size w w2 ∧ w2.ownsRow w.heap.size 31 2 (.slice ua fn uc) fn (fl clc F) ∧ F.length = fn ∧ fn ≤ k + 1 ∧ cls F = freeT (T.take (k + 1)) ∧ ∀ x ∈ F, w2.ownsRow w.heap.size 3 1 x.2.2 x.2.1.length (fl ic x.2.1)) := hidIn ⟨HB2.out, HU2.out, HFl.out, by omega, by rw [HT1.out, freeT_no _ (by simp only; rw [Hxn.out]; exact hone), HFc.out], HFr.out⟩
        clear hb1
        go_wp2_with fail
        go_roundw
        case rel => exact ⟨k + 1, F, fn, by omega, by go_num, ⟨_, _, rfl⟩, HO⟩
        case measure => simp [intOf]; omega
    · have hke : T.take k = T := List.take_of_length_le (by have := HTl.out; omega)
      rw [hke] at hFc
      have hki : ¬ ((k : Int) < (n : Int)) := by omega
      have hfl : (freeT T).length = fn := by rw [← hFc, List.length_map, hFl]
      have HE : Hid ((freeT T).length = fn ∧ ClsAns w wr (freeT T) (.slice ua fn uc) ∧ Below w.heap.size w wr) := hidIn ⟨hfl, ⟨F, by rw [hFl]; exact hu, hFc, hFr⟩, hb⟩
      clear hb hu hFl hfk hFc hFr hke hfl
      go_wp2_with fail
      go_ret
      obtain ⟨e1, e2, e3⟩ := HE.out
      exact ⟨⟨ua, uc, by rw [e1]; rfl, by rw [e1]; exact e2⟩, e3⟩
end Go.Proofs.YtgpinecfmhenkaaDoor
namespace Go.Proofs.YtgpinecfmhenkaaDoor
open Go.RowKit

theorem recsL_rise (ids : List Int) : (recsL ids false).Pairwise fun a b => a.origin < b.origin := by
  unfold recsL
  rw [List.pairwise_map]
  refine List.pairwise_lt_range.imp (fun {a b} h => ?_)
  show ((a : Nat) : Int) + 1 < ((b : Nat) : Int) + 1
  omega
theorem gat_rise (ids : List Int) (id : Int) : (gat (recsL ids false) id).Pairwise fun x y => x < y := by
  unfold gat
  rw [List.pairwise_map]
  exact (recsL_rise ids).sublist List.filter_sublist
/-- The claim of an id is of those who claim it. -/
theorem tOf_all {rs : List Rc} {id : Int} (h1 : 1 ≤ id ∧ id ≤ 1024) (hr : (gat rs id).Pairwise fun x y => x < y) : (gat rs id = [] ∧ tOf (allC rs) id = none) ∨ (gat rs id ≠ [] ∧ tOf (allC rs) id = some (id, gat rs id) ∧ (id, gat rs id) ∈ allC rs) := by
  by_cases hg : gat rs id = []
  · refine .inl ⟨hg, List.find?_eq_none.2 fun p hp => ?_⟩
    obtain ⟨_, _, h2, h3⟩ := allC_rows hp
    intro he
    have he' : p.1 = id := by simpa using he
    rw [he', hg, rsL_nil] at h2
    exact h3 h2
  · have hm : (id, gat rs id) ∈ allC rs := by
      unfold allC
      refine List.mem_map.2 ⟨id, mem_idsL.2 ⟨h1, hg⟩, ?_⟩
      rw [rsL_of hr]
    refine .inr ⟨hg, ?_, hm⟩
    cases hf : tOf (allC rs) id with
    | none =>
      have := List.find?_eq_none.1 hf _ hm
      simp at this
    | some p =>
      have hp := List.mem_of_find?_eq_some hf
      have he : p.1 = id := by simpa using List.find?_some hf
      obtain ⟨_, _, h2, _⟩ := allC_rows hp
      obtain ⟨i, l⟩ := p
      simp only at he h2
      subst he
      rw [h2, rsL_of hr]
/-- Is an id among free ones? -/
def inF (F : List (Int × List Int)) (id : Int) : Bool := F.any fun p => p.1 == id
theorem inF_snoc (F : List (Int × List Int)) (p : Int × List Int) (id : Int) : inF (F ++ [p]) id = (inF F id || (p.1 == id)) := by simp [inF]
theorem inF_all {rs : List Rc} {id : Int} (h1 : 1 ≤ id ∧ id ≤ 1024) (hr : (gat rs id).Pairwise fun x y => x < y) : inF (freeT (allC rs)) id = decide ((gat rs id).length = 1) := by
  rw [Bool.eq_iff_iff, decide_eq_true_iff]
  unfold inF freeT
  rw [List.any_eq_true]
  constructor
  · rintro ⟨p, hp, he⟩
    obtain ⟨hp, hl⟩ := List.mem_filter.1 hp
    have he' : p.1 = id := by simpa using he
    have hl' : p.2.length = 1 := by simpa using hl
    rw [(allC_rows hp).2.2.1, he', rsL_of hr] at hl'
    exact hl'
  · intro hl
    rcases tOf_all h1 hr with ⟨h, _⟩ | ⟨_, _, hm⟩
    · rw [h] at hl; simp at hl
    · exact ⟨_, List.mem_filter.2 ⟨hm, by simpa using hl⟩, by simp⟩
theorem lstT_all {rs : List Rc} (h : bothOk no1 rs = true) {id q : Int} (h1 : 1 ≤ id ∧ id ≤ 1024) (hr : (gat rs id).Pairwise fun x y => x < y) (hq : q ∈ gat rs id) : lstT (allC rs) q = some (id, gat rs id) := by
  have hm : (id, gat rs id) ∈ allC rs := by
    rcases tOf_all h1 hr with ⟨h, _⟩ | ⟨_, _, hm⟩
    · rw [h] at hq; cases hq
    · exact hm
  cases hf : lstT (allC rs) q with
  | none => exact absurd hq (lstT_none hf _ hm)
  | some p =>
    obtain ⟨h2, h3⟩ := lstT_mem hf
    rw [one_claim h (q := q) h2 hm h3 hq]
/-- What is told of an id by who claims it. -/
theorem OwnrT.all {w w' : World} {rs : List Rc} {id : Int} (h1 : 1 ≤ id ∧ id ≤ 1024) (hr : (gat rs id).Pairwise fun x y => x < y) {e : Ending} (h : OwnrT w w' (allC rs) id e) : (gat rs id = [] ∧ FltA w w' 6 e) ∨ (gat rs id ≠ [] ∧ SoleA w w' id (gat rs id) e) := by
  rcases h with ⟨h, _⟩ | ⟨_, h2, h3⟩ | ⟨_, p, h2, h3⟩
  · exact absurd h1 h
  · rcases tOf_all h1 hr with ⟨a, _⟩ | ⟨_, b, _⟩
    · exact .inl ⟨a, h3⟩
    · rw [b] at h2; cases h2
  · rcases tOf_all h1 hr with ⟨_, b⟩ | ⟨a, b, _⟩
    · rw [b] at h2; cases h2
    · rw [b] at h2
      simp only [Option.some.injEq] at h2
      subst h2
      exact .inr ⟨a, h3⟩
end Go.Proofs.YtgpinecfmhenkaaDoor
namespace Go.Proofs.YtgpinecfmhenkaaDoor
open Go.RowKit

/-- Is a number in a list? -/
def hasB (l : List Int) (q : Int) : Bool := l.contains q
theorem hasB_snoc (l : List Int) (x q : Int) : hasB (l ++ [x]) q = (hasB l q || (x == q)) := by
  unfold hasB
  simp only [List.contains_eq_mem, List.mem_append, List.mem_singleton]
  by_cases h : q ∈ l
  · simp [h]
  · by_cases hx : x = q
    · simp [hx]
    · have : ¬ q = x := fun e => hx e.symm
      simp [h, hx, this]
def askL (l : List Int) : List Int := (l.take 30).map fun x => x % 30
theorem append_one1 {W : World} {base k : Nat} {u : Value} {l : List Int} (hr : W.ownsRow base 3 1 u k (fl ic l)) (x : Int) (hk : (k + 1) * 8 ≤ 140737488355328) (hbase : base ≤ W.heap.size) :
    ∃ g cap w6, (Builtin.append_ #[29, 29] 29 #[u, .slice (some ⟨W.heap.size, 0, none⟩) 1 1]).run Tryd.prog (W.alloc (.cells #[.int .i64 x] 3)) = .ok (.slice (some ⟨g, 0, none⟩) (k + 1) cap) w6 ∧ w6.ownsRow base 3 1 (.slice (some ⟨g, 0, none⟩) (k + 1) cap) (k + 1) (fl ic (l ++ [x])) ∧ Below base W w6 := by
  obtain ⟨g, cap, w6, h1, h2, _, _, h3⟩ := append_int hr x hk hbase
  exact ⟨g, cap, w6, h1, h2, h3⟩
end Go.Proofs.YtgpinecfmhenkaaDoor
namespace Go.Proofs.YtgpinecfmhenkaaDoor
open Go.RowKit Go.Extern.Stop Go.Stop Go.Extern

/-- Where the handle of 'error' lies. -/
def ErrT (w : World) : Prop := w.cell? ⟨0, 0, none⟩ = some (.iface 100 (.agg #[.pointer (some ⟨1, 25, none⟩)]))
theorem as_mKind (h : Value) (w : World) : (Go.method 77 100 (.agg #[h]) "Kind").run Tryd.prog w = .ok (86, h) w := by kernel_rfl
theorem as_mElem (h : Value) (w : World) : (Go.method 77 100 (.agg #[h]) "Elem").run Tryd.prog w = .ok (102, .agg #[h]) w := by kernel_rfl
theorem as_mImpl (h : Value) (w : World) : (Go.method 77 100 (.agg #[h]) "Implements").run Tryd.prog w = .ok (103, .agg #[h]) w := by kernel_rfl
theorem as_mAss (h : Value) (w : World) : (Go.method 77 100 (.agg #[h]) "AssignableTo").run Tryd.prog w = .ok (100, .agg #[h]) w := by kernel_rfl
theorem as_tR (v : Value) (w : World) : (ReflectliteType.typeOf #[.iface 91 v]).run Tryd.prog w = .ok (.iface 100 (.agg #[.pointer (some ⟨1, 91, none⟩)])) w := by kernel_rfl
theorem as_noR (v : Value) (xT : TypeId) (w : World) : (Instr.typeAssert (.iface 91 v) xT 112 true).run Tryd.prog w = .ok (.tuple #[.nilIface, .bool false]) w := run_typeAssert_lacksB Tryd.underlying112 (by kernel_rfl) (by kernel_rfl) v xT w
theorem asc_val (t : Addr) (w : World) : (ReflectliteValue.unpack (.iface 53 (.pointer (some t)))).run Tryd.prog w
    = .ok (.agg #[.pointer (some ⟨1, 53, none⟩), .pointer (some ⟨w.heap.size, 0, none⟩), .int .u64 150]) (w.alloc (.cells #[.pointer (some t)] 53)) := by kernel_rfl
theorem asc_type (a : Addr) (w : World) : (ReflectliteValue.methodAny (ReflectliteValue.valueError "reflectlite.Value.Type" 0) (fun t _ _ _ => ReflectliteType.toType t) #[.agg #[.pointer (some ⟨1, 53, none⟩), .pointer (some a), .int .u64 150]]).run Tryd.prog w
    = .ok (.iface 100 (.agg #[.pointer (some ⟨1, 53, none⟩)])) w := by kernel_rfl
theorem asc_k2 (w : World) : ((ReflectliteType.abiMethod fun t => (fun a : Nat => Value.int IntKind.u8 (a : Int)) <$> Rtype.kind t) #[.pointer (some ⟨1, 53, none⟩)]).run Tryd.prog w = .ok (.int .u8 22) w := by kernel_rfl
theorem asc_k1 (w : World) : ((ReflectliteType.abiMethod fun t => (fun a : Nat => Value.int IntKind.u8 (a : Int)) <$> Rtype.kind t) #[.pointer (some ⟨1, 50, none⟩)]).run Tryd.prog w = .ok (.int .u8 22) w := by kernel_rfl
theorem asc_parts (a : Addr) (w : World) : (ReflectliteValue.parts (.agg #[.pointer (some ⟨1, 53, none⟩), .pointer (some a), .int .u64 150])).run Tryd.prog w = .ok (some (53, a, 150)) w := by kernel_rfl
theorem asc_nil (a q : Addr) (W : World) (ha : W.cell? a = some (.pointer (some q))) :
    (ReflectliteValue.method (ReflectliteValue.valueError "reflectlite.Value.IsNil" 0) ReflectliteValue.isNil #[.agg #[.pointer (some ⟨1, 53, none⟩), .pointer (some a), .int .u64 150]]).run Tryd.prog W = .ok (.bool false) W := by
  show Sem.run _ (ReflectliteValue.parts (.agg #[.pointer (some ⟨1, 53, none⟩), .pointer (some a), .int .u64 150]) >>= _) _ = _
  rw [Sem.run_bind, asc_parts]
  simp only [Result.andThen]
  simp [ReflectliteValue.isNil, loadVar, isAgg, underlying, Tryd.underlying53, ha, Result.andThen]
theorem asc_elem (w : World) : (ReflectliteType.method ReflectliteType.elem #[.agg #[.pointer (some ⟨1, 53, none⟩)]]).run Tryd.prog w = .ok (.iface 100 (.agg #[.pointer (some ⟨1, 50, none⟩)])) w := by kernel_rfl
theorem asc_impl (w : World) : (ReflectliteType.relation "Implements" ReflectliteType.implements_ #[.agg #[.pointer (some ⟨1, 50, none⟩)], .iface 100 (.agg #[.pointer (some ⟨1, 25, none⟩)])]).run Tryd.prog w = .ok (.bool true) w := by kernel_rfl
theorem asc_tO (v : Value) (w : World) : (ReflectliteType.typeOf #[.iface 50 v]).run Tryd.prog w = .ok (.iface 100 (.agg #[.pointer (some ⟨1, 50, none⟩)])) w := by kernel_rfl
theorem asc_assR (w : World) : (ReflectliteType.relation "AssignableTo" ReflectliteType.assignableTo #[.agg #[.pointer (some ⟨1, 91, none⟩)], .iface 100 (.agg #[.pointer (some ⟨1, 50, none⟩)])]).run Tryd.prog w = .ok (.bool false) w := by kernel_rfl
theorem asc_ass (w : World) : (ReflectliteType.relation "AssignableTo" ReflectliteType.assignableTo #[.agg #[.pointer (some ⟨1, 50, none⟩)], .iface 100 (.agg #[.pointer (some ⟨1, 50, none⟩)])]).run Tryd.prog w = .ok (.bool true) w := by kernel_rfl
theorem asc_val1 (e : Addr) (w : World) : (ReflectliteValue.unpack (.iface 50 (.pointer (some e)))).run Tryd.prog w
    = .ok (.agg #[.pointer (some ⟨1, 50, none⟩), .pointer (some ⟨w.heap.size, 0, none⟩), .int .u64 150]) (w.alloc (.cells #[.pointer (some e)] 50)) := by kernel_rfl
theorem asc_elemOf (w : World) : (Rtype.elem? 53).run Tryd.prog w = .ok (some 50) w := by kernel_rfl
theorem asc_mk (q : Addr) (w : World) : (ReflectliteValue.mk 50 q ReflectliteValue.flagAddr).run Tryd.prog w = .ok (.agg #[.pointer (some ⟨1, 50, none⟩), .pointer (some q), .int .u64 406]) w := by kernel_rfl
theorem asc_elemV (a q : Addr) (W : World) (ha : W.cell? a = some (.pointer (some q))) :
    (ReflectliteValue.method (ReflectliteValue.valueError "reflectlite.Value.Elem" 0) ReflectliteValue.elem #[.agg #[.pointer (some ⟨1, 53, none⟩), .pointer (some a), .int .u64 150]]).run Tryd.prog W
      = .ok (.agg #[.pointer (some ⟨1, 50, none⟩), .pointer (some q), .int .u64 406]) W := by
  show Sem.run _ (ReflectliteValue.parts (.agg #[.pointer (some ⟨1, 53, none⟩), .pointer (some a), .int .u64 150]) >>= _) _ = _
  rw [Sem.run_bind, asc_parts]
  simp only [Result.andThen]
  simp [ReflectliteValue.elem, loadVar, isAgg, underlying, Tryd.underlying53, ha, Result.andThen, asc_elemOf, asc_mk]
end Go.Proofs.YtgpinecfmhenkaaDoor
namespace Go.Proofs.YtgpinecfmhenkaaDoor
open Go.RowKit Go.Extern.Stop Go.Stop Go.Extern

theorem asc_parts2 (a : Addr) (w : World) : (ReflectliteValue.parts (.agg #[.pointer (some ⟨1, 50, none⟩), .pointer (some a), .int .u64 406])).run Tryd.prog w = .ok (some (50, a, 406)) w := by kernel_rfl
theorem asc_parts1 (a : Addr) (w : World) : (ReflectliteValue.parts (.agg #[.pointer (some ⟨1, 50, none⟩), .pointer (some a), .int .u64 150])).run Tryd.prog w = .ok (some (50, a, 150)) w := by kernel_rfl
theorem asc_direct (w : World) : (Rtype.directlyAssignable 50 50).run Tryd.prog w = .ok true w := by kernel_rfl
theorem asc_set (ta b e : Addr) (old : Value) (W : World) (hb : W.cell? b = some (.pointer (some e))) (ht : W.cell? ta = some old) (hf : W.frozen? ta = false) :
    (ReflectliteValue.set #[.agg #[.pointer (some ⟨1, 50, none⟩), .pointer (some ta), .int .u64 406], .agg #[.pointer (some ⟨1, 50, none⟩), .pointer (some b), .int .u64 150]]).run Tryd.prog W
      = .ok (.tuple #[]) (W.setCell ta (.pointer (some e))) := by
  show Sem.run _ (ReflectliteValue.parts (.agg #[.pointer (some ⟨1, 50, none⟩), .pointer (some ta), .int .u64 406]) >>= _) _ = _
  rw [Sem.run_bind, asc_parts2]
  simp only [Result.andThen]
  show Sem.run _ (ReflectliteValue.parts (.agg #[.pointer (some ⟨1, 50, none⟩), .pointer (some b), .int .u64 150]) >>= _) _ = _
  rw [Sem.run_bind, asc_parts1]
  simp only [Result.andThen]
  simp [ReflectliteValue.flagAddr, loadVar, isAgg, underlying, Tryd.underlying50, hb, Result.andThen, asc_direct, storeVar, Value.cells, storeCells, Addr.add]
  rw [run_store Tryd.prog W ta _ _ (by rfl)]
  simp [ht, hf]
set_option maxRecDepth 100000 in
set_option maxHeartbeats 8000000 in
theorem asc_hit (c : Nat) (t : Addr) (old : Value) (w : World) (hg : ErrT w) (ht0 : w.cell? t = some old) (hf0 : w.frozen? t = false) :
    Calls Tryd.prog 18 #[rfs (pcf c), .iface 53 (.pointer (some t))] w fun ev w' => ev = .returned (.bool true) ∧ w' = (((((w.alloc (.cells #[.pointer (some t)] 53)).alloc (.cells #[.pointer (some ⟨1, 53, none⟩), .pointer (some ⟨w.heap.size, 0, none⟩), .int .u64 150] 83)).alloc (.cells #[.pointer (some ⟨1, 53, none⟩), .pointer (some ⟨w.heap.size, 0, none⟩), .int .u64 150] 83)).alloc (.cells #[pcf c] 91)).alloc (.cells #[.pointer (some ⟨c, 0, none⟩)] 50)).setCell t (.pointer (some ⟨c, 0, none⟩)) := by
  have h6 := @run_callFunc_extern Tryd.prog 34 _ (fun args => ReflectliteValue.unpack (args.getD 0 (.tuple #[]))) Tryd.func34 (by kernel_rfl) (by kernel_rfl) (by kernel_rfl) (by kernel_rfl)
  have h7 := @run_callFunc_extern Tryd.prog 35 _ (ReflectliteValue.methodAny (ReflectliteValue.valueError "reflectlite.Value.Type" 0) (fun t _ _ _ => ReflectliteType.toType t)) Tryd.func35 (by kernel_rfl) (by kernel_rfl) (by kernel_rfl) (by kernel_rfl)
  have h8 := @run_callFunc_extern Tryd.prog 36 _ (ReflectliteValue.method (ReflectliteValue.valueError "reflectlite.Value.IsNil" 0) ReflectliteValue.isNil) Tryd.func36 (by kernel_rfl) (by kernel_rfl) (by kernel_rfl) (by kernel_rfl)
  have h27 := @run_callFunc_extern Tryd.prog 86 _ (ReflectliteType.abiMethod fun t => do pure (.int .u8 (← Rtype.kind t))) Tryd.func86 (by kernel_rfl) (by kernel_rfl) (by kernel_rfl) (by kernel_rfl)
  have h37 := @run_callFunc_extern Tryd.prog 102 _ (ReflectliteType.method ReflectliteType.elem) Tryd.func102 (by kernel_rfl) (by kernel_rfl) (by kernel_rfl) (by kernel_rfl)
  have h38 := @run_callFunc_extern Tryd.prog 103 _ (ReflectliteType.relation "Implements" ReflectliteType.implements_) Tryd.func103 (by kernel_rfl) (by kernel_rfl) (by kernel_rfl) (by kernel_rfl)
  have h10 := @run_callFunc_extern Tryd.prog 32 _ ReflectliteType.typeOf Tryd.func32 (by kernel_rfl) (by kernel_rfl) (by kernel_rfl) (by kernel_rfl)
  have h35 := @run_callFunc_extern Tryd.prog 100 _ (ReflectliteType.relation "AssignableTo" ReflectliteType.assignableTo) Tryd.func100 (by kernel_rfl) (by kernel_rfl) (by kernel_rfl) (by kernel_rfl)
  have h11 := @run_callFunc_extern Tryd.prog 46 _ (ReflectliteValue.method (ReflectliteValue.valueError "reflectlite.Value.Elem" 0) ReflectliteValue.elem) Tryd.func46 (by kernel_rfl) (by kernel_rfl) (by kernel_rfl) (by kernel_rfl)
  have h12 := @run_callFunc_extern Tryd.prog 47 _ ReflectliteValue.set Tryd.func47 (by kernel_rfl) (by kernel_rfl) (by kernel_rfl) (by kernel_rfl)
  have tR := as_tR
  have tO := asc_tO
  have mA := as_mAss
  have aR := asc_assR
  have a25 := asc_ass
  have v25 := asc_val1
  have f6 := asc_val
  have f7 := asc_type
  have mK := as_mKind
  have mE := as_mElem
  have mI := as_mImpl
  have k27 := asc_k2
  have k25 := asc_k1
  have e27 := asc_elem
  have i25 := asc_impl
  have nA := as_noR
  have uR := is_unR
  have mU := is_muR
  have n8 := asc_nil ⟨w.heap.size, 0, none⟩ t ((w.alloc (.cells #[.pointer (some t)] 53)).alloc (.cells #[.pointer (some ⟨1, 53, none⟩), .pointer (some ⟨w.heap.size, 0, none⟩), .int .u64 150] 83)) (by simp)
  have hlt : 0 < w.heap.size := by
    unfold ErrT at hg
    rcases Nat.eq_zero_or_pos w.heap.size with h0 | h
    · simp [World.cell?, h0] at hg
    · exact h
  have hg2 : ((w.alloc (.cells #[.pointer (some t)] 53)).alloc (.cells #[.pointer (some ⟨1, 53, none⟩), .pointer (some ⟨w.heap.size, 0, none⟩), .int .u64 150] 83)).cell? ⟨0, 0, none⟩ = some (.iface 100 (.agg #[.pointer (some ⟨1, 25, none⟩)])) := by
    rw [World.cell?_alloc_lt _ _ ⟨0, 0, none⟩ (by simp), World.cell?_alloc_lt _ _ ⟨0, 0, none⟩ hlt]; exact hg
  have htl : t.block < w.heap.size := by
    rcases Nat.lt_or_ge t.block w.heap.size with h | h
    · exact h
    · simp [World.cell?, Array.getElem?_eq_none h] at ht0
  have el := asc_elemV ⟨w.heap.size, 0, none⟩ t ((((w.alloc (.cells #[.pointer (some t)] 53)).alloc (.cells #[.pointer (some ⟨1, 53, none⟩), .pointer (some ⟨w.heap.size, 0, none⟩), .int .u64 150] 83)).alloc (.cells #[.pointer (some ⟨1, 53, none⟩), .pointer (some ⟨w.heap.size, 0, none⟩), .int .u64 150] 83)).alloc (.cells #[pcf c] 91)) (by rw [World.cell?_alloc_lt _ _ ⟨w.heap.size, 0, none⟩ (by simp; omega), World.cell?_alloc_lt _ _ ⟨w.heap.size, 0, none⟩ (by simp; omega)]; simp)
  have st := asc_set t ⟨w.heap.size + 1 + 1 + 1 + 1, 0, none⟩ ⟨c, 0, none⟩ old (((((w.alloc (.cells #[.pointer (some t)] 53)).alloc (.cells #[.pointer (some ⟨1, 53, none⟩), .pointer (some ⟨w.heap.size, 0, none⟩), .int .u64 150] 83)).alloc (.cells #[.pointer (some ⟨1, 53, none⟩), .pointer (some ⟨w.heap.size, 0, none⟩), .int .u64 150] 83)).alloc (.cells #[pcf c] 91)).alloc (.cells #[.pointer (some ⟨c, 0, none⟩)] 50))
    (by rw [World.cell?_alloc_at _ _ _ _ (by simp)]; rfl)
    (by rw [World.cell?_alloc_lt _ _ t (by simp; omega), World.cell?_alloc_lt _ _ t (by simp; omega), World.cell?_alloc_lt _ _ t (by simp; omega), World.cell?_alloc_lt _ _ t (by simp; omega), World.cell?_alloc_lt _ _ t htl]; exact ht0)
    (by rw [World.frozen?_alloc_old _ _ t (by simp; omega), World.frozen?_alloc_old _ _ t (by simp; omega), World.frozen?_alloc_old _ _ t (by simp; omega), World.frozen?_alloc_old _ _ t (by simp; omega), World.frozen?_alloc_old _ _ t (Nat.ne_of_lt htl)]; exact hf0)
  clear hg
  go_enter Tryd.func18, Tryd.ntmps18
  go_wp2
  refine wp_loop_rounds 2 ?_
  rw [rounds_succ]
  go_wp2
  rw [rounds_succ]
  go_wp2
  go_ret
  exact ⟨rfl, rfl⟩
end Go.Proofs.YtgpinecfmhenkaaDoor
namespace Go.Proofs.YtgpinecfmhenkaaDoor
open Go.RowKit Go.Extern.Stop Go.Stop Go.Extern

theorem asf_val (t : Addr) (w : World) : (ReflectliteValue.unpack (.iface 60 (.pointer (some t)))).run Tryd.prog w
    = .ok (.agg #[.pointer (some ⟨1, 60, none⟩), .pointer (some ⟨w.heap.size, 0, none⟩), .int .u64 150]) (w.alloc (.cells #[.pointer (some t)] 60)) := by kernel_rfl
theorem asf_type (a : Addr) (w : World) : (ReflectliteValue.methodAny (ReflectliteValue.valueError "reflectlite.Value.Type" 0) (fun t _ _ _ => ReflectliteType.toType t) #[.agg #[.pointer (some ⟨1, 60, none⟩), .pointer (some a), .int .u64 150]]).run Tryd.prog w
    = .ok (.iface 100 (.agg #[.pointer (some ⟨1, 60, none⟩)])) w := by kernel_rfl
theorem asf_k2 (w : World) : ((ReflectliteType.abiMethod fun t => (fun a : Nat => Value.int IntKind.u8 (a : Int)) <$> Rtype.kind t) #[.pointer (some ⟨1, 60, none⟩)]).run Tryd.prog w = .ok (.int .u8 22) w := by kernel_rfl
theorem asf_k1 (w : World) : ((ReflectliteType.abiMethod fun t => (fun a : Nat => Value.int IntKind.u8 (a : Int)) <$> Rtype.kind t) #[.pointer (some ⟨1, 59, none⟩)]).run Tryd.prog w = .ok (.int .u8 22) w := by kernel_rfl
theorem asf_parts (a : Addr) (w : World) : (ReflectliteValue.parts (.agg #[.pointer (some ⟨1, 60, none⟩), .pointer (some a), .int .u64 150])).run Tryd.prog w = .ok (some (60, a, 150)) w := by kernel_rfl
theorem asf_nil (a q : Addr) (W : World) (ha : W.cell? a = some (.pointer (some q))) :
    (ReflectliteValue.method (ReflectliteValue.valueError "reflectlite.Value.IsNil" 0) ReflectliteValue.isNil #[.agg #[.pointer (some ⟨1, 60, none⟩), .pointer (some a), .int .u64 150]]).run Tryd.prog W = .ok (.bool false) W := by
  show Sem.run _ (ReflectliteValue.parts (.agg #[.pointer (some ⟨1, 60, none⟩), .pointer (some a), .int .u64 150]) >>= _) _ = _
  rw [Sem.run_bind, asf_parts]
  simp only [Result.andThen]
  simp [ReflectliteValue.isNil, loadVar, isAgg, underlying, Tryd.underlying60, ha, Result.andThen]
theorem asf_elem (w : World) : (ReflectliteType.method ReflectliteType.elem #[.agg #[.pointer (some ⟨1, 60, none⟩)]]).run Tryd.prog w = .ok (.iface 100 (.agg #[.pointer (some ⟨1, 59, none⟩)])) w := by kernel_rfl
theorem asf_impl (w : World) : (ReflectliteType.relation "Implements" ReflectliteType.implements_ #[.agg #[.pointer (some ⟨1, 59, none⟩)], .iface 100 (.agg #[.pointer (some ⟨1, 25, none⟩)])]).run Tryd.prog w = .ok (.bool true) w := by kernel_rfl
theorem asf_tO (v : Value) (w : World) : (ReflectliteType.typeOf #[.iface 59 v]).run Tryd.prog w = .ok (.iface 100 (.agg #[.pointer (some ⟨1, 59, none⟩)])) w := by kernel_rfl
theorem asf_assR (w : World) : (ReflectliteType.relation "AssignableTo" ReflectliteType.assignableTo #[.agg #[.pointer (some ⟨1, 91, none⟩)], .iface 100 (.agg #[.pointer (some ⟨1, 59, none⟩)])]).run Tryd.prog w = .ok (.bool false) w := by kernel_rfl
theorem asf_ass (w : World) : (ReflectliteType.relation "AssignableTo" ReflectliteType.assignableTo #[.agg #[.pointer (some ⟨1, 59, none⟩)], .iface 100 (.agg #[.pointer (some ⟨1, 59, none⟩)])]).run Tryd.prog w = .ok (.bool true) w := by kernel_rfl
theorem asf_val1 (e : Addr) (w : World) : (ReflectliteValue.unpack (.iface 59 (.pointer (some e)))).run Tryd.prog w
    = .ok (.agg #[.pointer (some ⟨1, 59, none⟩), .pointer (some ⟨w.heap.size, 0, none⟩), .int .u64 150]) (w.alloc (.cells #[.pointer (some e)] 59)) := by kernel_rfl
theorem asf_elemOf (w : World) : (Rtype.elem? 60).run Tryd.prog w = .ok (some 59) w := by kernel_rfl
theorem asf_mk (q : Addr) (w : World) : (ReflectliteValue.mk 59 q ReflectliteValue.flagAddr).run Tryd.prog w = .ok (.agg #[.pointer (some ⟨1, 59, none⟩), .pointer (some q), .int .u64 406]) w := by kernel_rfl
theorem asf_elemV (a q : Addr) (W : World) (ha : W.cell? a = some (.pointer (some q))) :
    (ReflectliteValue.method (ReflectliteValue.valueError "reflectlite.Value.Elem" 0) ReflectliteValue.elem #[.agg #[.pointer (some ⟨1, 60, none⟩), .pointer (some a), .int .u64 150]]).run Tryd.prog W
      = .ok (.agg #[.pointer (some ⟨1, 59, none⟩), .pointer (some q), .int .u64 406]) W := by
  show Sem.run _ (ReflectliteValue.parts (.agg #[.pointer (some ⟨1, 60, none⟩), .pointer (some a), .int .u64 150]) >>= _) _ = _
  rw [Sem.run_bind, asf_parts]
  simp only [Result.andThen]
  simp [ReflectliteValue.elem, loadVar, isAgg, underlying, Tryd.underlying60, ha, Result.andThen, asf_elemOf, asf_mk]
end Go.Proofs.YtgpinecfmhenkaaDoor
namespace Go.Proofs.YtgpinecfmhenkaaDoor
open Go.RowKit Go.Extern.Stop Go.Stop Go.Extern

theorem asf_parts2 (a : Addr) (w : World) : (ReflectliteValue.parts (.agg #[.pointer (some ⟨1, 59, none⟩), .pointer (some a), .int .u64 406])).run Tryd.prog w = .ok (some (59, a, 406)) w := by kernel_rfl
theorem asf_parts1 (a : Addr) (w : World) : (ReflectliteValue.parts (.agg #[.pointer (some ⟨1, 59, none⟩), .pointer (some a), .int .u64 150])).run Tryd.prog w = .ok (some (59, a, 150)) w := by kernel_rfl
theorem asf_direct (w : World) : (Rtype.directlyAssignable 59 59).run Tryd.prog w = .ok true w := by kernel_rfl
theorem asf_set (ta b e : Addr) (old : Value) (W : World) (hb : W.cell? b = some (.pointer (some e))) (ht : W.cell? ta = some old) (hf : W.frozen? ta = false) :
    (ReflectliteValue.set #[.agg #[.pointer (some ⟨1, 59, none⟩), .pointer (some ta), .int .u64 406], .agg #[.pointer (some ⟨1, 59, none⟩), .pointer (some b), .int .u64 150]]).run Tryd.prog W
      = .ok (.tuple #[]) (W.setCell ta (.pointer (some e))) := by
  show Sem.run _ (ReflectliteValue.parts (.agg #[.pointer (some ⟨1, 59, none⟩), .pointer (some ta), .int .u64 406]) >>= _) _ = _
  rw [Sem.run_bind, asf_parts2]
  simp only [Result.andThen]
  show Sem.run _ (ReflectliteValue.parts (.agg #[.pointer (some ⟨1, 59, none⟩), .pointer (some b), .int .u64 150]) >>= _) _ = _
  rw [Sem.run_bind, asf_parts1]
  simp only [Result.andThen]
  simp [ReflectliteValue.flagAddr, loadVar, isAgg, underlying, Tryd.underlying59, hb, Result.andThen, asf_direct, storeVar, Value.cells, storeCells, Addr.add]
  rw [run_store Tryd.prog W ta _ _ (by rfl)]
  simp [ht, hf]
set_option maxRecDepth 100000 in
set_option maxHeartbeats 8000000 in
theorem asf_hit (c : Nat) (t : Addr) (old : Value) (w : World) (hg : ErrT w) (ht0 : w.cell? t = some old) (hf0 : w.frozen? t = false) :
    Calls Tryd.prog 18 #[rfs (pfa c), .iface 60 (.pointer (some t))] w fun ev w' => ev = .returned (.bool true) ∧ w' = (((((w.alloc (.cells #[.pointer (some t)] 60)).alloc (.cells #[.pointer (some ⟨1, 60, none⟩), .pointer (some ⟨w.heap.size, 0, none⟩), .int .u64 150] 83)).alloc (.cells #[.pointer (some ⟨1, 60, none⟩), .pointer (some ⟨w.heap.size, 0, none⟩), .int .u64 150] 83)).alloc (.cells #[pfa c] 91)).alloc (.cells #[.pointer (some ⟨c, 0, none⟩)] 59)).setCell t (.pointer (some ⟨c, 0, none⟩)) := by
  have h6 := @run_callFunc_extern Tryd.prog 34 _ (fun args => ReflectliteValue.unpack (args.getD 0 (.tuple #[]))) Tryd.func34 (by kernel_rfl) (by kernel_rfl) (by kernel_rfl) (by kernel_rfl)
  have h7 := @run_callFunc_extern Tryd.prog 35 _ (ReflectliteValue.methodAny (ReflectliteValue.valueError "reflectlite.Value.Type" 0) (fun t _ _ _ => ReflectliteType.toType t)) Tryd.func35 (by kernel_rfl) (by kernel_rfl) (by kernel_rfl) (by kernel_rfl)
  have h8 := @run_callFunc_extern Tryd.prog 36 _ (ReflectliteValue.method (ReflectliteValue.valueError "reflectlite.Value.IsNil" 0) ReflectliteValue.isNil) Tryd.func36 (by kernel_rfl) (by kernel_rfl) (by kernel_rfl) (by kernel_rfl)
  have h27 := @run_callFunc_extern Tryd.prog 86 _ (ReflectliteType.abiMethod fun t => do pure (.int .u8 (← Rtype.kind t))) Tryd.func86 (by kernel_rfl) (by kernel_rfl) (by kernel_rfl) (by kernel_rfl)
  have h37 := @run_callFunc_extern Tryd.prog 102 _ (ReflectliteType.method ReflectliteType.elem) Tryd.func102 (by kernel_rfl) (by kernel_rfl) (by kernel_rfl) (by kernel_rfl)
  have h38 := @run_callFunc_extern Tryd.prog 103 _ (ReflectliteType.relation "Implements" ReflectliteType.implements_) Tryd.func103 (by kernel_rfl) (by kernel_rfl) (by kernel_rfl) (by kernel_rfl)
  have h10 := @run_callFunc_extern Tryd.prog 32 _ ReflectliteType.typeOf Tryd.func32 (by kernel_rfl) (by kernel_rfl) (by kernel_rfl) (by kernel_rfl)
  have h35 := @run_callFunc_extern Tryd.prog 100 _ (ReflectliteType.relation "AssignableTo" ReflectliteType.assignableTo) Tryd.func100 (by kernel_rfl) (by kernel_rfl) (by kernel_rfl) (by kernel_rfl)
  have h11 := @run_callFunc_extern Tryd.prog 46 _ (ReflectliteValue.method (ReflectliteValue.valueError "reflectlite.Value.Elem" 0) ReflectliteValue.elem) Tryd.func46 (by kernel_rfl) (by kernel_rfl) (by kernel_rfl) (by kernel_rfl)
  have h12 := @run_callFunc_extern Tryd.prog 47 _ ReflectliteValue.set Tryd.func47 (by kernel_rfl) (by kernel_rfl) (by kernel_rfl) (by kernel_rfl)
  have tR := as_tR
  have tO := asf_tO
  have mA := as_mAss
  have aR := asf_assR
  have a25 := asf_ass
  have v25 := asf_val1
  have f6 := asf_val
  have f7 := asf_type
  have mK := as_mKind
  have mE := as_mElem
  have mI := as_mImpl
  have k27 := asf_k2
  have k25 := asf_k1
  have e27 := asf_elem
  have i25 := asf_impl
  have nA := as_noR
  have uR := is_unR
  have mU := is_muR
  have n8 := asf_nil ⟨w.heap.size, 0, none⟩ t ((w.alloc (.cells #[.pointer (some t)] 60)).alloc (.cells #[.pointer (some ⟨1, 60, none⟩), .pointer (some ⟨w.heap.size, 0, none⟩), .int .u64 150] 83)) (by simp)
  have hlt : 0 < w.heap.size := by
    unfold ErrT at hg
    rcases Nat.eq_zero_or_pos w.heap.size with h0 | h
    · simp [World.cell?, h0] at hg
    · exact h
  have hg2 : ((w.alloc (.cells #[.pointer (some t)] 60)).alloc (.cells #[.pointer (some ⟨1, 60, none⟩), .pointer (some ⟨w.heap.size, 0, none⟩), .int .u64 150] 83)).cell? ⟨0, 0, none⟩ = some (.iface 100 (.agg #[.pointer (some ⟨1, 25, none⟩)])) := by
    rw [World.cell?_alloc_lt _ _ ⟨0, 0, none⟩ (by simp), World.cell?_alloc_lt _ _ ⟨0, 0, none⟩ hlt]; exact hg
  have htl : t.block < w.heap.size := by
    rcases Nat.lt_or_ge t.block w.heap.size with h | h
    · exact h
    · simp [World.cell?, Array.getElem?_eq_none h] at ht0
  have el := asf_elemV ⟨w.heap.size, 0, none⟩ t ((((w.alloc (.cells #[.pointer (some t)] 60)).alloc (.cells #[.pointer (some ⟨1, 60, none⟩), .pointer (some ⟨w.heap.size, 0, none⟩), .int .u64 150] 83)).alloc (.cells #[.pointer (some ⟨1, 60, none⟩), .pointer (some ⟨w.heap.size, 0, none⟩), .int .u64 150] 83)).alloc (.cells #[pfa c] 91)) (by rw [World.cell?_alloc_lt _ _ ⟨w.heap.size, 0, none⟩ (by simp; omega), World.cell?_alloc_lt _ _ ⟨w.heap.size, 0, none⟩ (by simp; omega)]; simp)
  have st := asf_set t ⟨w.heap.size + 1 + 1 + 1 + 1, 0, none⟩ ⟨c, 0, none⟩ old (((((w.alloc (.cells #[.pointer (some t)] 60)).alloc (.cells #[.pointer (some ⟨1, 60, none⟩), .pointer (some ⟨w.heap.size, 0, none⟩), .int .u64 150] 83)).alloc (.cells #[.pointer (some ⟨1, 60, none⟩), .pointer (some ⟨w.heap.size, 0, none⟩), .int .u64 150] 83)).alloc (.cells #[pfa c] 91)).alloc (.cells #[.pointer (some ⟨c, 0, none⟩)] 59))
    (by rw [World.cell?_alloc_at _ _ _ _ (by simp)]; rfl)
    (by rw [World.cell?_alloc_lt _ _ t (by simp; omega), World.cell?_alloc_lt _ _ t (by simp; omega), World.cell?_alloc_lt _ _ t (by simp; omega), World.cell?_alloc_lt _ _ t (by simp; omega), World.cell?_alloc_lt _ _ t htl]; exact ht0)
    (by rw [World.frozen?_alloc_old _ _ t (by simp; omega), World.frozen?_alloc_old _ _ t (by simp; omega), World.frozen?_alloc_old _ _ t (by simp; omega), World.frozen?_alloc_old _ _ t (by simp; omega), World.frozen?_alloc_old _ _ t (Nat.ne_of_lt htl)]; exact hf0)
  clear hg
  go_enter Tryd.func18, Tryd.ntmps18
  go_wp2
  refine wp_loop_rounds 2 ?_
  rw [rounds_succ]
  go_wp2
  rw [rounds_succ]
  go_wp2
  go_ret
  exact ⟨rfl, rfl⟩
end Go.Proofs.YtgpinecfmhenkaaDoor
namespace Go.Proofs.YtgpinecfmhenkaaDoor
open Go.RowKit Go.Extern.Stop Go.Stop Go.Extern

theorem ErrT.pos {w : World} (h : ErrT w) : 0 < w.heap.size := by
  unfold ErrT at h
  rcases Nat.eq_zero_or_pos w.heap.size with h0 | h1
  · simp [World.cell?, h0] at h
  · exact h1
theorem ErrT.keep {w w' : World} {B : Nat} (h : ErrT w) (hb : Below B w w') (hB : 0 < B) : ErrT w' := (hb.cell (p := ⟨0, 0, none⟩) hB).trans h
/-- errors.As finds a fault, for a variable laid last. -/
theorem asf_new (c : Nat) (o : Obj) (old : Value) (w : World) (hg : ErrT w) (ht0 : (w.alloc o).cell? ⟨w.heap.size, 0, none⟩ = some old) (hf0 : (w.alloc o).frozen? ⟨w.heap.size, 0, none⟩ = false) :
    Calls Tryd.prog 18 #[rfs (pfa c), .iface 60 (.pointer (some ⟨w.heap.size, 0, none⟩))] (w.alloc o) fun ev w' => ev = .returned (.bool true) ∧ Below w.heap.size w w' ∧ w'.cell? ⟨w.heap.size, 0, none⟩ = some (.pointer (some ⟨c, 0, none⟩)) := by
  have hB : Below w.heap.size w (w.alloc o) := (Below.refl _ w).alloc (Nat.le_refl _) _
  have hl : ((⟨w.heap.size, 0, none⟩ : Addr).block) < (w.alloc o).heap.size := by simp
  refine (asf_hit c ⟨w.heap.size, 0, none⟩ old (w.alloc o) (hg.keep hB hg.pos) ht0 hf0).mono ?_
  rintro ev w' ⟨rfl, rfl⟩
  refine ⟨rfl, ?_, ?_⟩
  · refine Below.setCell (p := ⟨w.heap.size, 0, none⟩) ?_ (Nat.le_refl w.heap.size) _
    refine Below.alloc (Below.alloc (Below.alloc (Below.alloc (Below.alloc hB ?_ _) ?_ _) ?_ _) ?_ _) ?_ _ <;> (simp; try omega)
  · refine World.cell?_setCell_same _ _ _ (u := old) ?_
    rw [World.cell?_alloc_lt _ _ ⟨w.heap.size, 0, none⟩ (by simp; omega), World.cell?_alloc_lt _ _ ⟨w.heap.size, 0, none⟩ (by simp; omega), World.cell?_alloc_lt _ _ ⟨w.heap.size, 0, none⟩ (by simp; omega), World.cell?_alloc_lt _ _ ⟨w.heap.size, 0, none⟩ (by simp; omega), World.cell?_alloc_lt _ _ ⟨w.heap.size, 0, none⟩ hl]
    exact ht0
set_option maxRecDepth 100000 in
set_option maxHeartbeats 4000000 in
theorem fault_ok {b : Nat} {k : Int} {w : World} (hg : ErrT w) (hb : w.heap[b]? = some (.cells #[.int .i64 k, .int .i64 0] 62)) (hk : k ≠ 11) :
    Calls Tryd.prog 9 #[rfs (pfa b), .int .i64 k] w fun e w' => e = .returned (.bool true) ∧ Below w.heap.size w w' := by
  have HA := hidIn (asf_new b (.cells #[.pointer none] 59) (.pointer none) w hg (by rw [World.cell?_alloc_at _ _ _ _ (by simp)]; rfl) (by rw [frozen?_alloc_cells]; simp [World.frozen?]))
  have HX := hidIn hb
  have HK := hidIn hk
  clear hg hb hk
  go_enter Tryd.func9, Tryd.ntmps9
  go_wp2_with fail
  refine HA.out.mono ?_
  rintro e w1 ⟨rfl, hb1, hx⟩
  have hX1 := (hb1.block _ (block_lt HX.out)).trans HX.out
  have x0 := cell_of_row _ _ 0 _ _ _ hX1
  have x1 := cell_of_row _ _ 1 _ _ _ hX1
  simp at x0 x1
  have HX1 := hidIn hX1
  have HB1 := hidIn hb1
  clear hX1 hb1 HA HX
  go_wp2_with fail
  refine (isF_any HX1.out k).mono ?_
  rintro e w2 ⟨rfl, hb2⟩
  have HX2 := hidIn ((hb2.block _ (block_lt HX1.out)).trans HX1.out)
  have HB2 := hidIn (HB1.out.trans (hb2.mono HB1.out.size))
  clear hb2 HX1 HB1 x0 x1 hx
  have hkk : (k == k) = true := by simp
  rw [hkk]
  go_wp2_with fail
  refine (isF_any HX2.out 11).mono ?_
  rintro e w3 ⟨rfl, hb3⟩
  have HB3 := hidIn (HB2.out.trans (hb3.mono HB2.out.size))
  have hk11 : (k == 11) = false := by simpa using HK.out
  rw [hk11]
  clear hb3 HB2 HX2 hkk hk11
  go_wp2_with fail
  go_ret
  exact ⟨rfl, HB3.out⟩
end Go.Proofs.YtgpinecfmhenkaaDoor
namespace Go.Proofs.YtgpinecfmhenkaaDoor
open Go.RowKit Go.Extern.Stop Go.Stop Go.Extern

/-- errors.As finds a conflict, for a variable laid last. -/
theorem asc_new (c : Nat) (o : Obj) (old : Value) (w : World) (hg : ErrT w) (ht0 : (w.alloc o).cell? ⟨w.heap.size, 0, none⟩ = some old) (hf0 : (w.alloc o).frozen? ⟨w.heap.size, 0, none⟩ = false) :
    Calls Tryd.prog 18 #[rfs (pcf c), .iface 53 (.pointer (some ⟨w.heap.size, 0, none⟩))] (w.alloc o) fun ev w' => ev = .returned (.bool true) ∧ Below w.heap.size w w' ∧ w'.cell? ⟨w.heap.size, 0, none⟩ = some (.pointer (some ⟨c, 0, none⟩)) := by
  have hB : Below w.heap.size w (w.alloc o) := (Below.refl _ w).alloc (Nat.le_refl _) _
  have hl : ((⟨w.heap.size, 0, none⟩ : Addr).block) < (w.alloc o).heap.size := by simp
  refine (asc_hit c ⟨w.heap.size, 0, none⟩ old (w.alloc o) (hg.keep hB hg.pos) ht0 hf0).mono ?_
  rintro ev w' ⟨rfl, rfl⟩
  refine ⟨rfl, ?_, ?_⟩
  · refine Below.setCell (p := ⟨w.heap.size, 0, none⟩) ?_ (Nat.le_refl w.heap.size) _
    refine Below.alloc (Below.alloc (Below.alloc (Below.alloc (Below.alloc hB ?_ _) ?_ _) ?_ _) ?_ _) ?_ _ <;> (simp; try omega)
  · refine World.cell?_setCell_same _ _ _ (u := old) ?_
    rw [World.cell?_alloc_lt _ _ ⟨w.heap.size, 0, none⟩ (by simp; omega), World.cell?_alloc_lt _ _ ⟨w.heap.size, 0, none⟩ (by simp; omega), World.cell?_alloc_lt _ _ ⟨w.heap.size, 0, none⟩ (by simp; omega), World.cell?_alloc_lt _ _ ⟨w.heap.size, 0, none⟩ (by simp; omega), World.cell?_alloc_lt _ _ ⟨w.heap.size, 0, none⟩ hl]
    exact ht0
/-- Where a conflict, a claim and the variable lie. -/
structure CfAt (w : World) (c q X : Nat) (id : Int) (u v : Value) : Prop where
  cf : w.heap[c]? = some (.cells #[.int .i64 id, u] 54)
  cl : w.heap[q]? = some (.cells #[.int .i64 id, v] 31)
  x : w.cell? ⟨X, 0, none⟩ = some (.pointer (some ⟨c, 0, none⟩))
  l : X < w.heap.size
theorem CfAt.keep {w w' : World} {c q X : Nat} {id : Int} {u v : Value} (h : CfAt w c q X id u v) (hb : Below w.heap.size w w') : CfAt w' c q X id u v :=
  ⟨(hb.block _ (block_lt h.cf)).trans h.cf, (hb.block _ (block_lt h.cl)).trans h.cl, (hb.cell (p := ⟨X, 0, none⟩) h.l).trans h.x, Nat.lt_of_lt_of_le h.l hb.size⟩
theorem CfAt.set {w : World} {c q X g j : Nat} {id : Int} {u v : Value} (h : CfAt w c q X id u v) (y : Value) (h1 : c ≠ g) (h2 : q ≠ g) (h3 : X ≠ g) : CfAt (w.setCell ⟨g, j, none⟩ y) c q X id u v :=
  ⟨(Below.heap_setCell _ _ _ _ h1).trans h.cf, (Below.heap_setCell _ _ _ _ h2).trans h.cl, (World.cell?_setCell_far _ _ _ _ (fun e => h3 e.symm)).trans h.x, by simpa [World.setCell] using h.l⟩
theorem CfAt.cells {w : World} {c q X : Nat} {id : Int} {u v : Value} (h : CfAt w c q X id u v) : w.cell? ⟨c, 0, none⟩ = some (.int .i64 id) ∧ w.cell? ⟨c, 1, none⟩ = some u ∧ w.cell? ⟨q, 0, none⟩ = some (.int .i64 id) ∧ w.cell? ⟨q, 1, none⟩ = some v := by
  have a0 := cell_of_row _ _ 0 _ _ _ h.cf
  have a1 := cell_of_row _ _ 1 _ _ _ h.cf
  have b0 := cell_of_row _ _ 0 _ _ _ h.cl
  have b1 := cell_of_row _ _ 1 _ _ _ h.cl
  simp at a0 a1 b0 b1
  exact ⟨a0, a1, b0, b1⟩
end Go.Proofs.YtgpinecfmhenkaaDoor
namespace Go.Proofs.YtgpinecfmhenkaaDoor
open Go.RowKit Go.Extern.Stop Go.Stop Go.Extern

theorem row_writeC {w : World} {base n cap sz : Nat} {a : Option Addr} {e : TypeId} {xs : List Value} (hr : w.ownsRow base e sz (.slice a n cap) n xs) (h0 : 0 < n) : ∃ g, a = some ⟨g, 0, none⟩ ∧ base ≤ g ∧ g < w.heap.size ∧ (∀ j, j < n * sz → ∃ v, w.cell? ⟨g, j, none⟩ = some v) ∧ (∀ j, w.frozen? ⟨g, j, none⟩ = false) := by
  rcases hr.2 with ⟨_, h⟩ | ⟨g, cap', cur, h, hb, hh, h1, _, h3, _⟩
  · omega
  · simp at h
    obtain ⟨rfl, rfl⟩ := h
    refine ⟨g, rfl, hb, block_lt hh, fun j hj => ?_, fun j => frozen_new hh j⟩
    have : n * sz ≤ cap * sz := Nat.mul_le_mul_right _ h1
    rw [cell_of_row w g j cur e _ hh]
    exact ⟨cur[j]'(by omega), Array.getElem?_eq_getElem _⟩
set_option maxRecDepth 100000 in
set_option maxHeartbeats 4000000 in
theorem conf_ok {B c : Nat} {id : Int} {u v : Value} {xs : List Int} {w : World} (S : Nat → Prop) (hS : ∀ j, u.ownBlock = some j → S j) (hg : ErrT w) (hc : w.heap[c]? = some (.cells #[.int .i64 id, u] 54)) (hr : w.ownsRow B 3 1 u xs.length (fl ic xs)) (hv : SlAt ic 1 w v xs) (hxl : xs.length ≤ 10000) :
    Calls Tryd.prog 8 #[rfs (pcf c), .agg #[.int .i64 id, v]] w fun e w' => e = .returned (.bool true) ∧ Fr S w w' := by
  obtain ⟨W, hW⟩ : ∃ W, w.alloc (.cells #[.int .i64 id, v] 31) = W := ⟨_, rfl⟩
  have hB0 : Below w.heap.size w W := by rw [← hW]; exact (Below.refl _ w).alloc (Nat.le_refl _) _
  have hq : W.heap[w.heap.size]? = some (.cells #[.int .i64 id, v] 31) := by rw [← hW]; exact heap_alloc_last w _
  have HA := asc_new c (.cells #[.pointer none] 50) (.pointer none) W (hg.keep hB0 hg.pos) (by rw [World.cell?_alloc_at _ _ _ _ (by simp)]; rfl) (by rw [frozen?_alloc_cells]; simp [World.frozen?])
  have HF : Hid (∀ w1, Below W.heap.size W w1 → w1.cell? ⟨W.heap.size, 0, none⟩ = some (.pointer (some ⟨c, 0, none⟩)) → CfAt w1 c w.heap.size W.heap.size id u v ∧ w1.ownsRow B 3 1 u xs.length (fl ic xs) ∧ SlAt ic 1 w1 v xs ∧ Fr S w w1) := hidIn fun w1 hb hx => by
    have h0 : Below w.heap.size w w1 := hB0.trans (hb.mono hB0.size)
    refine ⟨⟨(h0.block _ (block_lt hc)).trans hc, (hb.block _ (block_lt hq)).trans hq, hx, ?_⟩, row_below hr h0 (Nat.le_refl _), hv.keep h0 (Nat.le_refl _), Fr.of_below h0⟩
    rcases Nat.lt_or_ge W.heap.size w1.heap.size with h | h
    · exact h
    · simp [World.cell?, Array.getElem?_eq_none h] at hx
  have HN : Hid (∀ g, u.ownBlock = some g → c ≠ g ∧ w.heap.size ≠ g ∧ W.heap.size ≠ g) := hidIn fun g hgu => by
    rcases hr.2 with ⟨e, _⟩ | ⟨g', cap, cur, e, _, hh, _⟩
    · rw [e] at hgu; simp [Value.ownBlock] at hgu
    · rw [e] at hgu
      simp [Value.ownBlock] at hgu
      subst hgu
      have := block_lt hh
      have := hB0.size
      refine ⟨fun e => ?_, by omega, by omega⟩
      rw [← e, hc] at hh
      simp at hh
  have hWs : W.heap.size = w.heap.size + 1 := by rw [← hW]; simp
  rw [hWs] at HA HF HN
  obtain ⟨va, vc, rfl, _⟩ := hv.ints
  have HA := hidIn HA
  have HSs := hidIn hS
  have hii : (id == id) = true := by simp
  have HW := hidIn hW
  clear hv hr hc hg hS hB0 hq hW hWs
  go_enter Tryd.func8, Tryd.ntmps8
  go_wp2_with fail
  rw [HW.out]
  refine HA.out.mono ?_
  rintro e w1 ⟨rfl, hb1, hx⟩
  obtain ⟨hf, hr1, hs1, hB1⟩ := HF.out w1 hb1 hx
  have HF1 := hidIn hf
  have HS1 := hidIn (And.intro hr1 (And.intro hs1 hB1))
  clear hb1 hf hr1 hs1 hB1 HF HA HW
  go_wp2_with fail
  refine (isC_any c _ w1).mono ?_
  rintro e w2 ⟨rfl, hb⟩
  have HF2 := hidIn (HF1.out.keep hb)
  have HS2 := hidIn (And.intro (row_below HS1.out.1 hb (Nat.le_refl _)) (And.intro (HS1.out.2.1.keep hb (Nat.le_refl _)) (HS1.out.2.2.trans (Fr.of_below hb))))
  clear hb HF1 HS1
  go_wp2_with fail
  refine (isC_any c _ w2).mono ?_
  rintro e w3 ⟨rfl, hb⟩
  have HF3 := hidIn (HF2.out.keep hb)
  have HS3 := hidIn (And.intro (row_below HS2.out.1 hb (Nat.le_refl _)) (And.intro (HS2.out.2.1.keep hb (Nat.le_refl _)) (HS2.out.2.2.trans (Fr.of_below hb))))
  clear hb HF2 HS2
  go_wp2_with fail
  refine (isC_any c _ w3).mono ?_
  rintro e w4 ⟨rfl, hb⟩
  have HF4 := hidIn (HF3.out.keep hb)
  have HS4 := hidIn (And.intro (row_below HS3.out.1 hb (Nat.le_refl _)) (And.intro (HS3.out.2.1.keep hb (Nat.le_refl _)) (HS3.out.2.2.trans (Fr.of_below hb))))
  clear hb HF3 HS3
  obtain ⟨e0, e1, e2, e3⟩ := HF4.out.cells
  have ex := HF4.out.x
  obtain ⟨ua, uc, rfl, _⟩ := (slAt_of_row (cs := ic) (fun _ => rfl) HS4.out.1 rfl).ints
  have HSI : Hid (∀ dd os, Calls Tryd.prog 21 #[.slice ua xs.length uc, .slice va xs.length vc] (Go.Sort.grow (redrawn w4 dd) os) fun e w' => e = .returned (.bool true) ∧ Below (Go.Sort.grow (redrawn w4 dd) os).heap.size (Go.Sort.grow (redrawn w4 dd) os) w') := hidIn fun dd os => by
    have hbb := below_regrown w4 dd os
    have := sameInts ((slAt_of_row (cs := ic) (fun _ => rfl) HS4.out.1 rfl).keep hbb (Nat.le_refl _)) (HS4.out.2.1.keep hbb (Nat.le_refl _))
    rwa [decide_eq_true rfl] at this
  have g0 := cell_regrown e0
  have g1 := cell_regrown e1
  have g2 := cell_regrown e2
  have g3 := cell_regrown e3
  have gx := cell_regrown ex
  have hin : (id != id) = false := by simp
  clear e0 e1 e2 e3 ex
  go_upto_region 4 with fail
  refine wp_region_quiet_below (by kernel_rfl) (by kernel_rfl) ?_
  repeat (go_big_quiet_step (first | (go_at_call 21; exact Calls.regrown_of (HSI.out _ _))))
  refine wpQuiet_nil ?_
  intro _ hw'
  obtain ⟨⟨dq, osq⟩, hw''⟩ := hw'
  subst hw''
  have hb := below_regrown w4 dq osq
  have HF5 := hidIn (HF4.out.keep hb)
  have HS5 := hidIn (And.intro (row_below HS4.out.1 hb (Nat.le_refl _)) (HS4.out.2.2.trans (Fr.of_below hb)))
  generalize Go.Sort.grow (redrawn w4 dq) osq = w5 at HF5 HS5 ⊢
  clear hb HF4 HS4 HSI g0 g1 g2 g3 gx
  obtain ⟨ln, hln⟩ : ∃ ln, xs.length = ln := ⟨_, rfl⟩
  rw [hln] at HF5 HS5 HN HSs hxl ⊢
  clear hln
  go_wp2_with fail
  go_loopw [6] (fun i wz => ∃ k : Nat, k ≤ ln ∧ i = .int .i64 k ∧ Hid (CfAt wz c w.heap.size (w.heap.size + 1) id (.slice ua ln uc) (.slice va ln vc) ∧ (∃ ys, wz.ownsRow B 3 1 (.slice ua ln uc) ln ys) ∧ Fr S w wz)) (fun i _ => ln - (intOf i).toNat)
  case atStart => exact ⟨0, Nat.zero_le _, rfl, hidIn ⟨HF5.out, ⟨_, HS5.out.1⟩, HS5.out.2⟩⟩
  case round =>
    clear HF5 HS5
    obtain ⟨k, hk, rfl, HZ⟩ := hrel
    obtain ⟨e0, e1, _, _⟩ := HZ.out.1.cells
    have ex := HZ.out.1.x
    by_cases hlt : k < ln
    · obtain ⟨hcf, ⟨ys, hrz⟩, hbz⟩ := HZ.out
      obtain ⟨g, rfl, _, hgl, hcl, hfr⟩ := row_writeC hrz (by omega)
      obtain ⟨v0, c0⟩ := hcl k (by omega)
      have f0 := hfr k
      have hki : (k : Int) < (ln : Int) := by omega
      obtain ⟨n1, n2, n3⟩ := HN.out g rfl
      have HZ2 : Hid (CfAt (wr.setCell ⟨g, k, none⟩ (.int .i64 (-5))) c w.heap.size (w.heap.size + 1) id (.slice (some ⟨g, 0, none⟩) ln uc) (.slice va ln vc) ∧ (∃ ys, (wr.setCell ⟨g, k, none⟩ (.int .i64 (-5))).ownsRow B 3 1 (.slice (some ⟨g, 0, none⟩) ln uc) ln ys) ∧ Fr S w (wr.setCell ⟨g, k, none⟩ (.int .i64 (-5)))) := hidIn ⟨hcf.set _ n1 n2 n3, ⟨_, row_set hrz k _⟩, hbz.set (p := ⟨g, k, none⟩) (HSs.out g rfl) _⟩
      clear hcf hrz hbz hgl hcl hfr n1 n2 n3 HZ
      go_wp2_with fail
      go_roundw
      case rel => exact ⟨k + 1, by omega, by go_num, HZ2⟩
      case measure => simp [intOf]; omega
    · have hki : ¬ (k : Int) < (ln : Int) := by omega
      go_wp2_with fail
      go_ret
      exact ⟨rfl, HZ.out.2.2⟩
end Go.Proofs.YtgpinecfmhenkaaDoor
namespace Go.Proofs.YtgpinecfmhenkaaDoor
open Go.RowKit

theorem MineT.all {w w' : World} {rs : List Rc} (h : bothOk no1 rs = true) {id q : Int} (h1 : 1 ≤ id ∧ id ≤ 1024) (hr : (gat rs id).Pairwise fun x y => x < y) (hq : q ∈ gat rs id) {e : Ending} (hm : MineT w w' (allC rs) q e) : ((gat rs id).length = 1 ∧ e = .returned (.tuple #[.int .i64 id, .nilIface])) ∨ (2 ≤ (gat rs id).length ∧ ∃ c, e = .returned (.tuple #[.int .i64 0, rfs (pcf c)])) := by
  have hl := lstT_all h h1 hr hq
  rcases hm with ⟨h2, _⟩ | ⟨p, x, h2, h3, h4⟩ | ⟨p, h2, h3, c, u, h4, _⟩
  · rw [hl] at h2; cases h2
  · rw [hl] at h2
    simp only [Option.some.injEq] at h2
    subst h2
    exact .inl ⟨by simp only at h3; rw [h3]; rfl, h4⟩
  · rw [hl] at h2
    simp only [Option.some.injEq] at h2
    subst h2
    exact .inr ⟨h3, c, h4⟩
theorem pneN (w : World) : (binOp BinOp.neq 50 (.pointer none) (.pointer none)).run Tryd.prog w = .ok (.bool false) w := by kernel_rfl
theorem pneS (a : Addr) (w : World) : (binOp BinOp.neq 50 (.pointer (some a)) (.pointer none)).run Tryd.prog w = .ok (.bool true) w := by kernel_rfl
set_option maxRecDepth 100000 in
set_option maxHeartbeats 8000000 in
theorem claimTold_walk {ids : List Int} {v : Value} {w : World} (hg : ErrT w) (h : SlAt uc8 1 w v ids) (hb : ∀ y ∈ ids, 0 ≤ y ∧ y ≤ 255) :
    Calls Tryd.prog 4 #[v] w fun e w' => e = .returned (.bool true) ∧ Below w.heap.size w w' := by
  have HRe := hidIn (records_any h hb false)
  have HOk := hidIn (recsL_ok ids false)
  have Hrl : Hid ((recsL ids false).length ≤ 24) := hidIn (by rw [recsL_len]; omega)
  have Hadj : Hid (∀ r ∈ recsL ids false, r.adjs = []) := hidIn fun r hr => recsL_adj hr
  have HCl := hidIn (recsL_claim (ids := ids))
  have HGr := hidIn (fun id => gat_rise ids id)
  have HG := hidIn hg
  generalize recsL ids false = rs at HRe HOk Hrl Hadj HGr HCl
  obtain ⟨va, vc, rfl, _⟩ := h
  obtain ⟨rn, hrn⟩ : ∃ rn, rs.length = rn := ⟨_, rfl⟩
  rw [hrn] at HRe Hrl
  have Hrn := hidIn hrn
  have nR := neqR
  have nN := neqN
  clear hb hrn hg
  go_enter Tryd.func4, Tryd.ntmps4
  go_wp2_with fail
  refine HRe.out.mono ?_
  rintro e w1 ⟨⟨ra, rc, rfl, hr1⟩, hb1⟩
  have HRA := hidIn (recs_row hr1 Hrn.out Hadj.out)
  have HAl := hidIn (all_any HRA.out (by rw [List.length_map]; have := Hrl.out; have := Hrn.out; omega))
  have HB1 := hidIn hb1
  clear hr1 hb1 HRe
  go_wp2_with fail
  refine HAl.out.mono ?_
  rintro e w2 ⟨hA, hb2⟩
  rw [rcs_withN] at hA
  rcases hA with ⟨_, u1, rfl, hu1⟩ | ⟨hA, _⟩
  rotate_left
  · rw [HOk.out] at hA; cases hA
  have HT2 := hidIn (tAt_ans hu1)
  have HR2 := hidIn (HRA.out.keep hb2 (Nat.le_refl _))
  have HB2 := hidIn (HB1.out.trans (hb2.mono HB1.out.size))
  have hml : ∀ p ∈ allC rs, p.2.length ≤ 10000 := fun p hp => by have := (allC_rows hp).1; have := Hrl.out; have := Hrn.out; omega
  have Hml := hidIn hml
  have HFr := hidIn (free_T HT2.out (by have := allC_few HCl.out; omega))
  have Hfl : Hid ((freeT (allC rs)).length ≤ 100) := hidIn (Nat.le_trans (List.length_filter_le _ _) (by have := allC_few HCl.out; omega))
  obtain ⟨u1a, u1c, hu1s⟩ := HT2.out.shape
  subst hu1s
  clear hu1 hb2 HAl HB1 hml HRA
  go_wp2_with fail
  refine HFr.out.mono ?_
  rintro e w3 ⟨⟨a3, c3, rfl, hu3⟩, hb3⟩
  obtain ⟨Lf, hLf, hLc⟩ := tAt_ans hu3
  have HLf := hidIn hLf.r.clms
  have HLc := hidIn hLc
  have HT3 := hidIn (HT2.out.keep hb3)
  have HR3 := hidIn (HR2.out.keep hb3 (Nat.le_refl _)).r.recs
  have HB3 := hidIn (HB2.out.trans (hb3.mono HB2.out.size))
  have HG3 := hidIn (HG.out.keep HB3.out HG.out.pos)
  have HIn := hidIn (fun id h1 => inF_all (rs := rs) (id := id) h1 (HGr.out id))
  obtain ⟨fn, hfn⟩ : ∃ fn, (freeT (allC rs)).length = fn := ⟨_, rfl⟩
  rw [hfn] at Hfl ⊢
  have Hfn : Hid (Lf.length = fn) := hidIn (by rw [← hfn, ← hLc, List.length_map])
  generalize freeT (allC rs) = F at HLc HIn
  obtain ⟨tn, htn⟩ : ∃ tn, (allC rs).length = tn := ⟨_, rfl⟩
  rw [htn] at HT3 ⊢
  clear hu3 hb3 HFr hLf hLc HT2 HR2 HB2 HG hfn htn
  go_wp2_with fail
  go_loopw [7] (fun i wr => ∃ k : Nat, 1 ≤ k ∧ k ≤ 12 ∧ i = .int .i64 k ∧ Hid (Below w3.heap.size w3 wr)) (fun i _ => 12 - (intOf i).toNat)
  case atStart => exact ⟨1, by omega, by omega, rfl, hidIn (Below.refl _ _)⟩
  case round =>
    obtain ⟨k, hk1, hk, rfl, HW⟩ := hrel
    obtain ⟨w0, hw0⟩ : ∃ w0, w0 = wr := ⟨wr, rfl⟩
    subst hw0
    by_cases hlt : k < 12
    · have hki : (k : Int) < 12 := by omega
      have Hk1 : Hid (1 ≤ (k : Int) ∧ (k : Int) ≤ 1024) := hidIn (by omega)
      clear hk1
      go_wp2_with fail
      go_loopw [8, 9] (fun u i wz => ∃ (j n : Nat), j ≤ rn ∧ n ≤ j ∧ i = .int .i64 j ∧ (∃ a c, u = .slice a n c) ∧ Hid (Below w0.heap.size w0 wz ∧ (gat (rs.take j) k).length = n ∧ wz.ownsRow w0.heap.size 3 1 u n (fl ic (gat (rs.take j) k)))) (fun _ i _ => rn - (intOf i).toNat)
      case atStart => exact ⟨0, 0, Nat.zero_le _, Nat.le_refl _, rfl, ⟨none, 0, rfl⟩, hidIn ⟨Below.refl _ _, rfl, World.ownsRow_nil _ _ _ _⟩⟩
      case round =>
        obtain ⟨j, n, hj, hnj, rfl, ⟨ua, uc, rfl⟩, HZ⟩ := hrel
        obtain ⟨hbz, hnl, hrw⟩ := HZ.out
        by_cases hltj : j < rn
        · have hji : (j : Int) < (rn : Int) := by omega
          have hn24 : n ≤ 24 := by have := Hrl.out; omega
          have hj24 : j ≤ 24 := by have := Hrl.out; omega
          obtain ⟨r, hz⟩ : ∃ r, rs[j]? = some r := ⟨rs[j]'(by have := Hrn.out; omega), List.getElem?_eq_getElem _⟩
          have hzn : (withN rs)[j]? = some (r, nilS) := by unfold withN; rw [List.getElem?_map, hz]; rfl
          obtain ⟨sa, sc, hse, _, _, hsc⟩ := HR3.out
          simp only [Value.slice.injEq] at hse
          obtain ⟨rfl, hz8, rfl⟩ := hse
          clear hz8
          obtain ⟨bk, o, rfl, hbk, hcell⟩ := hsc (by unfold withN; rw [List.length_map]; have := Hrn.out; omega)
          obtain ⟨q0, _, _, q3, _, _⟩ := hcell j _ hzn
          have hb3z := HW.out.trans (hbz.mono HW.out.size)
          have c0 := (hb3z.cell (p := ⟨bk, o + j * 6, none⟩) hbk).trans q0
          have c3' := (hb3z.cell (p := ⟨bk, o + j * 6 + 3, none⟩) hbk).trans q3
          simp only at c0 c3'
          obtain ⟨ro, re, rsq, rcl, rin, rad⟩ := r
          simp only at c0 c3'
          by_cases hc : rcl = (k : Int)
          · have hg2 : gat (rs.take (j + 1)) (k : Int) = gat (rs.take j) k ++ [ro] := by
              rw [take_snoc hz, gat_snoc]
              simp only
              rw [if_pos ⟨hc, by have := Hk1.out; omega⟩]
            obtain ⟨g, gc, w6, hrun, hown, hb6⟩ := append_one1 hrw ro (by omega) hbz.size
            have HO : Hid (Below w0.heap.size w0 w6 ∧ (gat (rs.take (j + 1)) k).length = n + 1 ∧ w6.ownsRow w0.heap.size 3 1 (.slice (some ⟨g, 0, none⟩) (n + 1) gc) (n + 1) (fl ic (gat (rs.take (j + 1)) k))) := hidIn ⟨hbz.trans hb6, by rw [hg2, List.length_append, hnl]; rfl, by rw [hg2]; exact hown⟩
            have HRun := hidIn hrun
            have hcq : (rcl == (k : Int)) = true := by simpa using hc
            clear hz hzn hsc hcell q0 q3 hb3z hg2 hrun hown hb6 hbz hnl hrw HZ hc
            go_wp2_with (refine l_append rfl _ _ 29 rfl HRun.out ?_)
            go_roundw
            case rel => exact ⟨j + 1, n + 1, by omega, by omega, by go_num, ⟨_, _, rfl⟩, HO⟩
            case measure => simp [intOf]; omega
          · have hg2 : gat (rs.take (j + 1)) (k : Int) = gat (rs.take j) k := by
              rw [take_snoc hz, gat_snoc]
              simp only
              rw [if_neg (fun e => hc e.1), List.append_nil]
            have HO : Hid (Below w0.heap.size w0 wr ∧ (gat (rs.take (j + 1)) k).length = n ∧ wr.ownsRow w0.heap.size 3 1 (.slice ua n uc) n (fl ic (gat (rs.take (j + 1)) k))) := hidIn (by rw [hg2]; exact HZ.out)
            have hcq : (rcl == (k : Int)) = false := by simpa using hc
            clear hz hzn hsc hcell q0 q3 hb3z hg2 hbz hnl hrw HZ hc
            go_wp2_with fail
            go_roundw
            case rel => exact ⟨j + 1, n, by omega, by omega, by go_num, ⟨_, _, rfl⟩, HO⟩
            case measure => simp [intOf]; omega
        · have hji : ¬ ((j : Int) < (rn : Int)) := by omega
          have hte : rs.take j = rs := List.take_of_length_le (by have := Hrn.out; omega)
          rw [hte] at hnl hrw
          have hn24 : n ≤ 24 := by have := Hrl.out; omega
          have hb3z := HW.out.trans (hbz.mono HW.out.size)
          obtain ⟨wz, hwz⟩ : ∃ wz, wz = wr := ⟨wr, rfl⟩
          subst hwz
          have HOw := hidIn (owner_T (k : Int) (HT3.out.keep hb3z) Hml.out)
          have HAll := hidIn (fun (w' : World) (e : Ending) (h : OwnrT wz w' (allC rs) (k : Int) e) => h.all Hk1.out (HGr.out k))
          have HMA := hidIn (fun (q : Int) (hq : q ∈ gat rs (k : Int)) (wa wb : World) (e : Ending) (hm : MineT wa wb (allC rs) q e) => hm.all HOk.out Hk1.out (HGr.out k) hq)
          have HIk := hidIn (HIn.out (k : Int) Hk1.out)
          generalize gat rs (k : Int) = G at hnl hrw HAll HMA HIk
          have HWho := hidIn (slAt_of_row (cs := ic) (fun _ => rfl) hrw hnl).ints
          have Hnl := hidIn hnl
          have HBz := hidIn hbz
          have HB3z := hidIn hb3z
          clear hte hnl hrw hbz hb3z HZ hj hnj hlt
          go_wp2_with fail
          refine HOw.out.mono ?_
          rintro e w4 ⟨ho, hb4⟩
          have HB4 := hidIn hb4
          have ho' := HAll.out w4 e ho
          clear ho hb4 HOw HAll
          rcases ho' with ⟨hGn, b, rfl, _, hbx⟩ | ⟨hGn, ⟨hGe, _⟩ | ⟨y, hGy, rfl⟩ | ⟨hG2, c, u, rfl, hcs, hcx, hcr⟩⟩
          · have HnV : Hid (n = 0) := hidIn (by have := Hnl.out; rw [hGn] at this; exact this.symm)
            have q0 : ((n : Int) == 0) = true := by rw [HnV.out]; rfl
            have q1 : ((n : Int) == 1) = false := by rw [HnV.out]; rfl
            have q2 : decide ((1 : Int) < (n : Int)) = false := by rw [HnV.out]; rfl
            have q3 : ¬ (1 : Int) < (n : Int) := by rw [HnV.out]; decide
            obtain ⟨V4, hV4⟩ : ∃ V4, w4.alloc (.cells #[.pointer none] 50) = V4 := ⟨_, rfl⟩
            have h44 : Below w4.heap.size w4 V4 := by rw [← hV4]; exact (Below.refl _ w4).alloc (Nat.le_refl _) _
            have HIs := hidIn (isF_any ((h44.block _ (block_lt hbx)).trans hbx) 6)
            have HV4 := hidIn hV4
            have HB44 := hidIn (HB4.out.trans (h44.mono HB4.out.size))
            clear hV4 h44 hbx hGn
            go_upto_region 17 with fail
            rw [HV4.out]
            simp only [List.append]
            clear HV4
            go_wp2_with fail
            refine HIs.out.mono ?_
            rintro e V ⟨rfl, hb5⟩
            have HBV := hidIn (HB44.out.trans (hb5.mono HB44.out.size))
            clear hb5 HIs HB44
            have hkk6 : ((6 : Int) == 6) = true := rfl
            have hT := HT3.out.keep (HB3z.out.trans (HBV.out.mono HB3z.out.size))
            have HTV := hidIn hT
            obtain ⟨fa, fc, hfe, _, _, hfcell⟩ := HLf.out
            simp only [Value.slice.injEq] at hfe
            obtain ⟨rfl, hz8, rfl⟩ := hfe
            clear hz8
            have HFc := hidIn hfcell
            clear hT hfcell
            go_wp2_with fail
            go_loop [13, 14] (fun bn i => ∃ s : Nat, s ≤ fn ∧ i = .int .i64 s ∧ bn = .bool (inF (F.take s) (k : Int))) (fun _ i => fn - (intOf i).toNat)
            case atStart => exact ⟨0, Nat.zero_le _, rfl, rfl⟩
            case round =>
              obtain ⟨s, hs, rfl, rfl⟩ := hrel
              by_cases hlts : s < fn
              · have hsi : (s : Int) < (fn : Int) := by omega
                have hf100 := Hfl.out
                obtain ⟨fb, fo, rfl, hfb, hfcell⟩ := HFc.out (by have := Hfn.out; omega)
                obtain ⟨x, hx⟩ : ∃ x, Lf[s]? = some x := ⟨Lf[s]'(by have := Hfn.out; omega), List.getElem?_eq_getElem _⟩
                have d1 := ((HB3z.out.trans (HBV.out.mono HB3z.out.size)).cell (p := ⟨fb, fo + s * 2, none⟩) hfb).trans (hfcell s x hx).1
                have hxF : F[s]? = some (x.1, x.2.1) := by rw [← HLc.out, List.getElem?_map, hx]; rfl
                obtain ⟨bb, hbb⟩ : ∃ bb, inF (F.take s) (k : Int) = bb := ⟨_, rfl⟩
                rw [hbb]
                obtain ⟨x1, x2⟩ := x
                simp only at d1 hxF
                obtain ⟨bx, hbx'⟩ : ∃ bx, (x1 == (k : Int)) = bx := ⟨_, rfl⟩
                have HN : Hid (inF (F.take (s + 1)) (k : Int) = (bb || bx)) := hidIn (by rw [take_snoc hxF, inF_snoc, hbb, hbx'])
                clear hx hbb hfcell hxF
                cases bb
                · go_wp2_with fail
                  go_round
                  case rel => exact ⟨s + 1, by omega, by go_num, by rw [HN.out]; simp⟩
                  case measure => simp [intOf]; omega
                · go_wp2_with fail
                  go_round
                  case rel => exact ⟨s + 1, by omega, by go_num, by rw [HN.out]; rfl⟩
                  case measure => simp [intOf]; omega
              · have hsi : ¬ ((s : Int) < (fn : Int)) := by omega
                have hse : inF (F.take s) (k : Int) = false := by
                  rw [List.take_of_length_le (by have h1 := Hfn.out; have h2 : F.length = Lf.length := by rw [← HLc.out, List.length_map]
                                                 omega), HIk.out]
                  have := Hnl.out
                  have := HnV.out
                  simp
                  omega
                rw [hse]
                clear hse
                go_wp2_with fail
                go_loopw [15] (fun i wy => ∃ p : Nat, p ≤ n ∧ i = .int .i64 p ∧ Hid (Below V.heap.size V wy)) (fun i _ => n - (intOf i).toNat)
                case atStart => exact ⟨0, Nat.zero_le _, rfl, hidIn (Below.refl _ _)⟩
                case round =>
                  obtain ⟨p, hp, rfl, HY⟩ := hrel
                  by_cases hltp : p < n
                  · have := HnV.out
                    omega
                  · have hpi : ¬ ((p : Int) < (n : Int)) := by omega
                    have HBe := hidIn (HB3z.out.trans ((HBV.out.trans (HY.out.mono HBV.out.size)).mono HB3z.out.size))
                    go_wp2_with fail
                    go_roundw
                    case rel => exact ⟨k + 1, by omega, by omega, by go_num, HBe⟩
                    case measure => simp [intOf]; omega
          · exact absurd hGe hGn
          · have HnV : Hid (n = 1) := hidIn (by have := Hnl.out; rw [hGy] at this; exact this.symm)
            have q0 : ((n : Int) == 0) = false := by rw [HnV.out]; rfl
            have q1 : ((n : Int) == 1) = true := by rw [HnV.out]; rfl
            have q2 : decide ((1 : Int) < (n : Int)) = false := by rw [HnV.out]; rfl
            have q3 : ¬ (1 : Int) < (n : Int) := by rw [HnV.out]; decide
            have q4 : (0 : Int) < (n : Int) := by rw [HnV.out]; decide
            obtain ⟨V, hV4⟩ : ∃ V4, w4.alloc (.cells #[.pointer none] 50) = V4 := ⟨_, rfl⟩
            have h44 : Below w4.heap.size w4 V := by rw [← hV4]; exact (Below.refl _ w4).alloc (Nat.le_refl _) _
            have hX : w4.heap.size < V.heap.size ∧ V.cell? ⟨w4.heap.size, 0, none⟩ = some (.pointer none) := by
              rw [← hV4]
              exact ⟨by simp, by rw [World.cell?_alloc_at _ _ _ _ (by simp)]; rfl⟩
            obtain ⟨X, hXe⟩ : ∃ X, w4.heap.size = X := ⟨_, rfl⟩
            rw [hXe] at hX
            have HX := hidIn hX
            have HV4 := hidIn hV4
            have HBV := hidIn (HB4.out.trans (h44.mono HB4.out.size))
            obtain ⟨ga, gc, hge, _, _, hgc⟩ := HWho.out
            simp only [Value.slice.injEq] at hge
            obtain ⟨rfl, hz8, rfl⟩ := hge
            clear hz8
            obtain ⟨gb, go', rfl, hgb, hgcell⟩ := hgc (by have := Hnl.out; have := HnV.out; omega)
            have d0 := (HBV.out.cell (p := ⟨gb, go', none⟩) hgb).trans (hgcell 0 y (by rw [hGy]; rfl))
            have hyy : (y != y) = false := by simp
            clear hV4 h44 hX hgc hgcell hGn hGy
            go_upto_region 17 with fail
            rw [HV4.out]
            simp only [List.append]
            clear HV4 hXe
            have hT := HT3.out.keep (HB3z.out.trans (HBV.out.mono HB3z.out.size))
            have HTV := hidIn hT
            obtain ⟨fa, fc, hfe, _, _, hfcell⟩ := HLf.out
            simp only [Value.slice.injEq] at hfe
            obtain ⟨rfl, hz8, rfl⟩ := hfe
            clear hz8
            have HFc := hidIn hfcell
            clear hT hfcell
            go_wp2_with fail
            go_loop [13, 14] (fun bn i => ∃ s : Nat, s ≤ fn ∧ i = .int .i64 s ∧ bn = .bool (inF (F.take s) (k : Int))) (fun _ i => fn - (intOf i).toNat)
            case atStart => exact ⟨0, Nat.zero_le _, rfl, rfl⟩
            case round =>
              obtain ⟨s, hs, rfl, rfl⟩ := hrel
              by_cases hlts : s < fn
              · have hsi : (s : Int) < (fn : Int) := by omega
                have hf100 := Hfl.out
                obtain ⟨fb, fo, rfl, hfb, hfcell⟩ := HFc.out (by have := Hfn.out; omega)
                obtain ⟨x, hx⟩ : ∃ x, Lf[s]? = some x := ⟨Lf[s]'(by have := Hfn.out; omega), List.getElem?_eq_getElem _⟩
                have d1 := ((HB3z.out.trans (HBV.out.mono HB3z.out.size)).cell (p := ⟨fb, fo + s * 2, none⟩) hfb).trans (hfcell s x hx).1
                have hxF : F[s]? = some (x.1, x.2.1) := by rw [← HLc.out, List.getElem?_map, hx]; rfl
                obtain ⟨bb, hbb⟩ : ∃ bb, inF (F.take s) (k : Int) = bb := ⟨_, rfl⟩
                rw [hbb]
                obtain ⟨x1, x2⟩ := x
                simp only at d1 hxF
                obtain ⟨bx, hbx'⟩ : ∃ bx, (x1 == (k : Int)) = bx := ⟨_, rfl⟩
                have HN : Hid (inF (F.take (s + 1)) (k : Int) = (bb || bx)) := hidIn (by rw [take_snoc hxF, inF_snoc, hbb, hbx'])
                clear hx hbb hfcell hxF
                cases bb
                · go_wp2_with fail
                  go_round
                  case rel => exact ⟨s + 1, by omega, by go_num, by rw [HN.out]; simp⟩
                  case measure => simp [intOf]; omega
                · go_wp2_with fail
                  go_round
                  case rel => exact ⟨s + 1, by omega, by go_num, by rw [HN.out]; rfl⟩
                  case measure => simp [intOf]; omega
              · have hsi : ¬ ((s : Int) < (fn : Int)) := by omega
                have hse : inF (F.take s) (k : Int) = true := by
                  rw [List.take_of_length_le (by have h1 := Hfn.out; have h2 : F.length = Lf.length := by rw [← HLc.out, List.length_map]
                                                 omega), HIk.out]
                  have := Hnl.out
                  have := HnV.out
                  simp
                  omega
                rw [hse]
                clear hse
                go_wp2_with fail
                go_loopw [15] (fun i wy => ∃ p : Nat, p ≤ n ∧ i = .int .i64 p ∧ Hid (Below V.heap.size V wy)) (fun i _ => n - (intOf i).toNat)
                case atStart => exact ⟨0, Nat.zero_le _, rfl, hidIn (Below.refl _ _)⟩
                case round =>
                  obtain ⟨p, hp, rfl, HY⟩ := hrel
                  by_cases hltp : p < n
                  · have hpi : (p : Int) < (n : Int) := by omega
                    obtain ⟨ga, gc, hge, _, _, hgc⟩ := HWho.out
                    simp only [Value.slice.injEq] at hge
                    obtain ⟨rfl, hz8, rfl⟩ := hge
                    clear hz8
                    obtain ⟨gb, go', hga, hgb, hgcell⟩ := hgc (by have := Hnl.out; omega)
                    simp only [Option.some.injEq, Addr.mk.injEq, and_true] at hga
                    obtain ⟨rfl, rfl⟩ := hga
                    obtain ⟨z, hz⟩ : ∃ z, G[p]? = some z := ⟨G[p]'(by have := Hnl.out; omega), List.getElem?_eq_getElem _⟩
                    have hBy := HBV.out.trans (HY.out.mono HBV.out.size)
                    have d0 := (hBy.cell (p := ⟨gb, go' + p, none⟩) hgb).trans (hgcell p z hz)
                    have Hg0 := hidIn (And.intro hgb (hgcell p z hz))
                    have HMi := hidIn (mine_T z (HTV.out.keep HY.out) Hml.out)
                    have Hz := hidIn (List.mem_of_getElem? hz)
                    have Hzz := hidIn hz
                    clear hgc hgcell hz hBy
                    go_wp2_with fail
                    refine HMi.out.mono ?_
                    rintro e w6 ⟨hm6, hb6⟩
                    have hma := HMA.out z Hz.out _ _ _ hm6
                    have HB6 := hidIn (HY.out.trans (hb6.mono HY.out.size))
                    have d1 := ((HBV.out.trans (HB6.out.mono HBV.out.size)).cell (p := ⟨gb, go' + p, none⟩) Hg0.out.1).trans Hg0.out.2
                    clear hm6 hb6 HMi d0 HY
                    rcases hma with ⟨_, rfl⟩ | ⟨hbad, _⟩
                    rotate_left
                    · have := Hnl.out
                      have := HnV.out
                      omega
                    have x6 := (HB6.out.cell (p := ⟨X, 0, none⟩) HX.out.1).trans HX.out.2
                    have hkk : ((k : Int) != (k : Int)) = false := by simp
                    have hpn := pneN
                    go_wp2_with fail
                    go_quiet (fail)
                    go_wp2_with fail
                    go_roundw
                    case rel => exact ⟨p + 1, by omega, by go_num, hidIn (below_drewN HB6.out _)⟩
                    case measure => simp [intOf]; omega
                  · have hpi : ¬ ((p : Int) < (n : Int)) := by omega
                    have HBe := hidIn (HB3z.out.trans ((HBV.out.trans (HY.out.mono HBV.out.size)).mono HB3z.out.size))
                    go_wp2_with fail
                    go_roundw
                    case rel => exact ⟨k + 1, by omega, by omega, by go_num, HBe⟩
                    case measure => simp [intOf]; omega
          · have HnV : Hid (2 ≤ n) := hidIn (by have := Hnl.out; omega)
            have q0 : ((n : Int) == 0) = false := by have := HnV.out; rw [beq_eq_false_iff_ne]; omega
            have q1 : ((n : Int) == 1) = false := by have := HnV.out; rw [beq_eq_false_iff_ne]; omega
            have q2 : decide ((1 : Int) < (n : Int)) = true := by have := HnV.out; rw [decide_eq_true_iff]; omega
            have q3 : (1 : Int) < (n : Int) := by have := HnV.out; omega
            have q5 : decide (1 < n) = true := by have := HnV.out; rw [decide_eq_true_iff]; omega
            have HA := asc_new c (.cells #[.pointer none] 50) (.pointer none) w4 ((HG3.out.keep HB3z.out HG3.out.pos).keep HB4.out (HG3.out.keep HB3z.out HG3.out.pos).pos) (by rw [World.cell?_alloc_at _ _ _ _ (by simp)]; rfl) (by rw [frozen?_alloc_cells]; simp [World.frozen?])
            obtain ⟨X, hXe⟩ : ∃ X, w4.heap.size = X := ⟨_, rfl⟩
            rw [hXe] at HA
            have HA := hidIn HA
            have HXe := hidIn hXe
            have HC4 := hidIn (And.intro hcx (slAt_of_row (cs := ic) (fun _ => rfl) hcr rfl))
            obtain ⟨ua', uc', hue, _⟩ := HC4.out.2.ints
            rw [Hnl.out] at hue
            subst hue
            have hkk : ((k : Int) != (k : Int)) = false := by simp
            have hnn : ((n : Int) != (n : Int)) = false := by simp
            clear hcs hcx hcr hGn hG2
            go_upto_region 17 with fail
            simp only [List.append]
            go_wp2_with fail
            refine HA.out.mono ?_
            rintro e V ⟨rfl, hb5, hx5⟩
            rw [← HXe.out] at hb5
            have hcl5 := (hb5.block _ (block_lt HC4.out.1)).trans HC4.out.1
            have HBV := hidIn (HB4.out.trans (hb5.mono HB4.out.size))
            have hXl : X < V.heap.size := by
              rcases Nat.lt_or_ge X V.heap.size with h | h
              · exact h
              · simp [World.cell?, Array.getElem?_eq_none h] at hx5
            have HX : Hid (X < V.heap.size ∧ V.cell? ⟨X, 0, none⟩ = some (.pointer (some ⟨c, 0, none⟩)) ∧ V.heap[c]? = some (.cells #[.int .i64 (k : Int), .slice ua' n uc'] 54) ∧ SlAt ic 1 V (.slice ua' n uc') G) := hidIn ⟨hXl, hx5, hcl5, HC4.out.2.keep hb5 (Nat.le_refl _)⟩
            have y0 := cell_of_row _ _ 0 _ _ _ hcl5
            have y1 := cell_of_row _ _ 1 _ _ _ hcl5
            simp at y0 y1
            clear hb5 HA HC4 hcl5 hXl hXe
            have hT := HT3.out.keep (HB3z.out.trans (HBV.out.mono HB3z.out.size))
            have HTV := hidIn hT
            obtain ⟨fa, fc, hfe, _, _, hfcell⟩ := HLf.out
            simp only [Value.slice.injEq] at hfe
            obtain ⟨rfl, hz8, rfl⟩ := hfe
            clear hz8
            have HFc := hidIn hfcell
            clear hT hfcell
            go_wp2_with fail
            go_loop [13, 14] (fun bn i => ∃ s : Nat, s ≤ fn ∧ i = .int .i64 s ∧ bn = .bool (inF (F.take s) (k : Int))) (fun _ i => fn - (intOf i).toNat)
            case atStart => exact ⟨0, Nat.zero_le _, rfl, rfl⟩
            case round =>
              obtain ⟨s, hs, rfl, rfl⟩ := hrel
              by_cases hlts : s < fn
              · have hsi : (s : Int) < (fn : Int) := by omega
                have hf100 := Hfl.out
                obtain ⟨fb, fo, rfl, hfb, hfcell⟩ := HFc.out (by have := Hfn.out; omega)
                obtain ⟨x, hx⟩ : ∃ x, Lf[s]? = some x := ⟨Lf[s]'(by have := Hfn.out; omega), List.getElem?_eq_getElem _⟩
                have d1 := ((HB3z.out.trans (HBV.out.mono HB3z.out.size)).cell (p := ⟨fb, fo + s * 2, none⟩) hfb).trans (hfcell s x hx).1
                have hxF : F[s]? = some (x.1, x.2.1) := by rw [← HLc.out, List.getElem?_map, hx]; rfl
                obtain ⟨bb, hbb⟩ : ∃ bb, inF (F.take s) (k : Int) = bb := ⟨_, rfl⟩
                rw [hbb]
                obtain ⟨x1, x2⟩ := x
                simp only at d1 hxF
                obtain ⟨bx, hbx'⟩ : ∃ bx, (x1 == (k : Int)) = bx := ⟨_, rfl⟩
                have HN : Hid (inF (F.take (s + 1)) (k : Int) = (bb || bx)) := hidIn (by rw [take_snoc hxF, inF_snoc, hbb, hbx'])
                clear hx hbb hfcell hxF
                cases bb
                · go_wp2_with fail
                  go_round
                  case rel => exact ⟨s + 1, by omega, by go_num, by rw [HN.out]; simp⟩
                  case measure => simp [intOf]; omega
                · go_wp2_with fail
                  go_round
                  case rel => exact ⟨s + 1, by omega, by go_num, by rw [HN.out]; rfl⟩
                  case measure => simp [intOf]; omega
              · have hsi : ¬ ((s : Int) < (fn : Int)) := by omega
                have hse : inF (F.take s) (k : Int) = false := by
                  rw [List.take_of_length_le (by have h1 := Hfn.out; have h2 : F.length = Lf.length := by rw [← HLc.out, List.length_map]
                                                 omega), HIk.out]
                  have := Hnl.out
                  have := HnV.out
                  simp
                  omega
                rw [hse]
                clear hse
                go_wp2_with fail
                go_loopw [15] (fun i wy => ∃ p : Nat, p ≤ n ∧ i = .int .i64 p ∧ Hid (Below V.heap.size V wy)) (fun i _ => n - (intOf i).toNat)
                case atStart => exact ⟨0, Nat.zero_le _, rfl, hidIn (Below.refl _ _)⟩
                case round =>
                  obtain ⟨p, hp, rfl, HY⟩ := hrel
                  by_cases hltp : p < n
                  · have hpi : (p : Int) < (n : Int) := by omega
                    obtain ⟨ga, gc, hge, _, _, hgc⟩ := HWho.out
                    simp only [Value.slice.injEq] at hge
                    obtain ⟨rfl, hz8, rfl⟩ := hge
                    clear hz8
                    obtain ⟨gb, go', hga, hgb, hgcell⟩ := hgc (by have := Hnl.out; omega)
                    subst hga
                    obtain ⟨z, hz⟩ : ∃ z, G[p]? = some z := ⟨G[p]'(by have := Hnl.out; omega), List.getElem?_eq_getElem _⟩
                    have hBy := HBV.out.trans (HY.out.mono HBV.out.size)
                    have d0 := (hBy.cell (p := ⟨gb, go' + p, none⟩) hgb).trans (hgcell p z hz)
                    have Hg0 := hidIn (And.intro hgb (hgcell p z hz))
                    have HMi := hidIn (mine_T z (HTV.out.keep HY.out) Hml.out)
                    have Hz := hidIn (List.mem_of_getElem? hz)
                    have Hzz := hidIn hz
                    clear hgc hgcell hz hBy
                    go_wp2_with fail
                    refine HMi.out.mono ?_
                    rintro e w6 ⟨hm6, hb6⟩
                    have hma := HMA.out z Hz.out _ _ _ hm6
                    have HB6 := hidIn (HY.out.trans (hb6.mono HY.out.size))
                    have d1 := ((HBV.out.trans (HB6.out.mono HBV.out.size)).cell (p := ⟨gb, go' + p, none⟩) Hg0.out.1).trans Hg0.out.2
                    clear hm6 hb6 HMi d0 HY
                    rcases hma with ⟨hbad, _⟩ | ⟨_, c6, rfl⟩
                    · have := Hnl.out
                      have := HnV.out
                      omega
                    obtain ⟨hX1, hXc, hXcl, hXu⟩ := HX.out
                    have x6 := (HB6.out.cell (p := ⟨X, 0, none⟩) hX1).trans hXc
                    have hcl6 := (HB6.out.block _ (block_lt hXcl)).trans hXcl
                    have y6 := cell_of_row _ _ 1 _ _ _ hcl6
                    simp at y6
                    obtain ⟨xa, xc, hxe, _, _, hxc⟩ := (hXu.keep HB6.out (Nat.le_refl _)).ints
                    obtain ⟨xb, xo, rfl, hxb, hxcell⟩ := hxc (by have := Hnl.out; omega)
                    have z6 := hxcell p z Hzz.out
                    rw [hxe, Hnl.out] at y6
                    have r1 := cell_regrown d1
                    have r2 := cell_regrown x6
                    have r3 := cell_regrown y6
                    have r4 := cell_regrown z6
                    have hzz : (z != z) = false := by simp
                    have hpn := pneS
                    have HIs : Hid (∀ dd os, Calls Tryd.prog 17 #[rfs (pcf c6), eno 11] (Go.Sort.grow (redrawn w6 dd) os) fun e w' => e = .returned (.bool true) ∧ Below (Go.Sort.grow (redrawn w6 dd) os).heap.size (Go.Sort.grow (redrawn w6 dd) os) w') := hidIn fun dd os => isC_any c6 11 _
                    clear hX1 hXc hXcl hXu hcl6 hxc hxb hxcell hxe d1 x6 y6 z6
                    go_upto_region 30 with fail
                    refine wp_region_quiet_below (by kernel_rfl) (by kernel_rfl) ?_
                    repeat (go_big_quiet_step (first | (go_at_call 17; exact Calls.regrown_of (HIs.out _ _))))
                    refine wpQuiet_nil ?_
                    intro _ hw'
                    obtain ⟨⟨dq, osq⟩, hw''⟩ := hw'
                    subst hw''
                    have HB7 := hidIn (HB6.out.trans ((below_regrown w6 dq osq).mono HB6.out.size))
                    generalize Go.Sort.grow (redrawn w6 dq) osq = w7 at HB7 ⊢
                    clear r1 r2 r3 r4 HIs HB6
                    go_wp2_with fail
                    go_roundw
                    case rel => exact ⟨p + 1, by omega, by go_num, HB7⟩
                    case measure => simp [intOf]; omega
                  · have hpi : ¬ ((p : Int) < (n : Int)) := by omega
                    have HBe := hidIn (HB3z.out.trans ((HBV.out.trans (HY.out.mono HBV.out.size)).mono HB3z.out.size))
                    go_wp2_with fail
                    go_roundw
                    case rel => exact ⟨k + 1, by omega, by omega, by go_num, HBe⟩
                    case measure => simp [intOf]; omega
    · have hki : ¬ ((k : Int) < 12) := by omega
      have HBe := hidIn (HB3.out.trans (HW.out.mono HB3.out.size))
      go_wp2_with fail
      refine (cworks_any _).mono ?_
      rintro e w9 ⟨rfl, hb9⟩
      have HB9 := hidIn (HBe.out.trans (hb9.mono HBe.out.size))
      clear hb9
      go_wp2_with fail
      go_ret
      exact ⟨rfl, HB9.out⟩
end Go.Proofs.YtgpinecfmhenkaaDoor
