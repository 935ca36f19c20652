/- Edges as keys of a map; costs in an array. -/
import Derived.Test.YtgeoghhajjlofaaGreatDoorV2
import Derived.Test.YtgeoghhajjlofaaGreatDoorGH
import Derived.Maps.Own
import Derived.Maps.OwnSet
import Derived.DeepKeys4
namespace Go.Proofs.YtgeoghhajjlofaaGreatDoor
open Go.RowKit Go.Maps

set_option maxRecDepth 100000 in
theorem laidO7 : laidOutB Tryz.prog = true := by kernel_rfl
set_option maxRecDepth 100000 in
theorem rowE7 : (97 : TypeId) < Tryz.prog.types.size := of_decide_eq_true (by kernel_rfl)
set_option maxRecDepth 100000 in
theorem wideE7 : (match Tryz.prog.underlying 97 with | some (.array _ _) | some (.struct _) => true | _ => false) = true := by kernel_rfl
set_option maxRecDepth 100000 in
theorem lawE : Keyed Tryz.prog 97 := Keyed.of_law (deep_law_laid laidO7 (m := 2) (by omega) rowE7 (by kernel_rfl) wideE7)
theorem keyTypeE : Tryz.prog.keyType 97 = true := by kernel_rfl
theorem pred_of_lt {a n : Nat} (h : a < n) : ∃ m, n = m + 1 := ⟨n - 1, by omega⟩
theorem typesE : ∃ m, Tryz.prog.types.size = m + 1 := pred_of_lt rowE7
theorem namesE : (#[(Tryz.prog.fieldsOf 97)[0]!, (Tryz.prog.fieldsOf 97)[1]!, (Tryz.prog.fieldsOf 97)[2]!].all fun x => x.name != "_") = true := by kernel_rfl
/-- An edge as a key. -/
def edK (e : Ed) : Lit := .string (keyBytes [.int .i64 e.1, .int .i64 e.2.1, .int .i64 e.2.2])
def wfE (e : Ed) : Prop := (Lit.int .i64 e.1).wf = true ∧ (Lit.int .i64 e.2.1).wf = true ∧ (Lit.int .i64 e.2.2).wf = true
theorem edge_key {e : Ed} (h : wfE e) : keyOf Tryz.prog 97 (.agg #[.int .i64 e.1, .int .i64 e.2.1, .int .i64 e.2.2]) = some (edK e) := by
  obtain ⟨w1, w2, w3⟩ := h
  obtain ⟨m, hm⟩ := typesE
  obtain ⟨⟨t0, o0⟩, ⟨t1, o1⟩, t2, o2⟩ := edgeF'
  unfold keyOf
  simp only [edgeF]
  rw [if_pos (by simp [keyTypeE, Value.formed, cEdge]), hm]
  unfold Program.keyLits
  simp only [edgeF, Value.cells]
  rw [if_pos ⟨by rw [cEdge]; rfl, namesE⟩, List.mapM_cons, List.mapM_cons, List.mapM_cons, List.mapM_nil]
  simp [t0, o0, t1, o1, t2, o2, cInt, Program.keyLits, Tryz.underlying3, w1, w2, w3, edK]
theorem edK_inj {a b : Ed} (ha : wfE a) (hb : wfE b) (h : edK a = edK b) : a = b := by
  have h1 := edge_key ha
  rw [h] at h1
  have := lawE.inj h1 (edge_key hb)
  simp at this
  obtain ⟨a0, a1, a2⟩ := a
  obtain ⟨b0, b1, b2⟩ := b
  simp at this
  obtain ⟨rfl, rfl, rfl⟩ := this
  rfl
theorem edK_key {a : Ed} (ha : wfE a) : WideAt.IsKeyLit (edK a) := lawE.key (edge_key ha)
/-- A map by edges: who is in it, and what is told of it. -/
def HasE (w : World) (B n : Nat) (S : Ed → Bool) (c : Ed → Int) : Prop :=
  ∃ D : DataW Unit, w.ownsMap Tryz.prog 97 (plainElem Tryz.prog 3) B n D ∧ ∀ e, wfE e → Maps.has D (edK e) = S e ∧ (S e = true → D.atKey (edK e) (.lit (.int .i64 0)) = .lit (.int .i64 (c e)))
theorem hasE_new (w : World) (c : Ed → Int) : HasE (w.alloc (.map #[] 0)) w.heap.size 0 (fun _ => false) c :=
  ⟨.map [], World.ownsMap_made _ _ _ _, fun e _ => ⟨rfl, fun h => by cases h⟩⟩
theorem HasE.keep {w w' : World} {B n : Nat} {S : Ed → Bool} {c : Ed → Int} {T : Nat → Prop} (h : HasE w B n S c) (hF : Fr T w w') (hT : ¬ T B) : HasE w' B n S c := by
  obtain ⟨D, ⟨es, clock, hb, r⟩, h2⟩ := h
  exact ⟨D, ⟨es, clock, (hF.block B (Array.getElem?_eq_some_iff.1 hb).1 hT).trans hb, r⟩, h2⟩
theorem HasE.lt {w : World} {B n : Nat} {S : Ed → Bool} {c : Ed → Int} (h : HasE w B n S c) : B < w.heap.size := by
  obtain ⟨D, h1, _⟩ := h
  exact h1.lt
theorem HasE.mono {w : World} {B n m : Nat} {S : Ed → Bool} {c : Ed → Int} (h : HasE w B n S c) (hn : n ≤ m) : HasE w B m S c := by
  obtain ⟨D, h1, h2⟩ := h
  exact ⟨D, h1.mono hn, h2⟩
theorem HasE.congr {w : World} {B n : Nat} {S S' : Ed → Bool} {c : Ed → Int} (h : HasE w B n S c) (hs : ∀ e, S e = S' e) : HasE w B n S' c := by
  have : S = S' := funext hs
  rw [← this]
  exact h
theorem HasE.put {w : World} {B n : Nat} {S : Ed → Bool} {c : Ed → Int} (h : HasE w B n S c) (hn : n < maxLen) {x : Ed} (hx : wfE x) (hc : (Lit.int .i64 (c x)).wf = true) :
    ∃ w', (Instr.mapUpdate 124 (.map (some B)) (.agg #[.int .i64 x.1, .int .i64 x.2.1, .int .i64 x.2.2]) (.int .i64 (c x))).run Tryz.prog w = .ok () w' ∧ HasE w' B (n + 1) (fun e => decide (e = x) || S e) c ∧ Fr (fun k => k = B) w w' := by
  obtain ⟨D, h1, h2⟩ := h
  obtain ⟨w', hrun, ho, hg⟩ := h1.update (t := 124) lawE Tryz.underlying124 hn (edge_key hx) (plainElem_int Tryz.underlying3 hc)
  refine ⟨w', hrun, ⟨_, ho, fun e he => ?_⟩, ⟨hg.os, hg.tape, hg.output, hg.size, fun k hk hs => hg.block k hk (fun e => hs (Option.some.inj e))⟩⟩
  by_cases hex : e = x
  · subst hex
    exact ⟨by rw [has_put_same h1.isMap (edK_key he)]; simp, fun _ => by rw [atKey_put_same h1.isMap (edK_key he)]⟩
  · have hne : edK e ≠ edK x := fun h => hex (edK_inj he hx h)
    refine ⟨by rw [has_put_other hne]; simp [hex, (h2 e he).1], fun hs => ?_⟩
    rw [atKey_put_other hne]
    exact (h2 e he).2 (by simpa [hex] using hs)
/-- 'cost, ok := least[e]'. -/
theorem zeroI7 (w : World) : (zeroValue 3).run Tryz.prog w = .ok (.int .i64 0) w := by kernel_rfl
theorem HasE.look {w : World} {B n : Nat} {S : Ed → Bool} {c : Ed → Int} (h : HasE w B n S c) {x : Ed} (hx : wfE x) :
    ∃ v, (Instr.lookup 124 (.map (some B)) (.agg #[.int .i64 x.1, .int .i64 x.2.1, .int .i64 x.2.2]) true).run Tryz.prog w = .ok (.tuple #[.int .i64 v, .bool (S x)]) w ∧ (S x = true → v = c x) := by
  obtain ⟨D, h1, h2⟩ := h
  obtain ⟨v, ps, hrun, hv⟩ := h1.look_ok (t := 124) lawE Tryz.underlying124 (zeroI7 w) (plainElem_int Tryz.underlying3 (by decide)) (edge_key hx)
  obtain ⟨a, rfl, hd, _⟩ := plainElem_int_inv Tryz.underlying3 hv
  rw [(h2 x hx).1] at hrun
  refine ⟨a, hrun, fun hs => ?_⟩
  have h3 := (h2 x hx).2 hs
  simp at hd
  rw [h3] at hd
  simp at hd
  exact hd.1.symm
/-- A store into a map in a statement that leaves its order open: by its run. -/
theorem step_put {P : Program} {ops : Array Oper} {o : Oper} {a : Act} {w w' : World} {K : Act → World → Prop} {Q : Exit → Act → World → Prop} {E : Prop}
    (hg : o.guard = none) (m x v : Operand) (t : TypeId) (hop : o.op = Op.mapUpdate t m x v) {vm vx vv : Value} (hm : a.eval m = vm) (hx : a.eval x = vx) (hv : a.eval v = vv)
    (hrun : (Instr.mapUpdate t vm vx vv).run P w = .ok () w') (hK : K (a.put o.dst undef) w') :
    if Region.wanted o (yielded ops a.tmps) = true then Oper.wp P o a w K Q else E := by
  have hw : Region.wanted o (yielded ops a.tmps) = true := by simp [Region.wanted, hg]
  rw [if_pos hw]
  unfold Oper.wp
  simp [execOp, hop, hm, hx, hv, hrun, Result.andThen]
  exact hK
/-- Costs by nodes. -/
def put1 (c : Nat → Int) (i : Nat) (v : Int) : Nat → Int := fun j => if j = i then v else c j
def cP (P : List (Int × Int)) : Nat → Int := P.foldl (fun c n => put1 c n.1.toNat n.2) (fun _ => 0)
theorem cP_snoc (P : List (Int × Int)) (n : Int × Int) : cP (P ++ [n]) = put1 (cP P) n.1.toNat n.2 := by simp [cP, List.foldl_append]
theorem rcl_set (c : Nat → Int) {n : Nat} (_h : n < 25) (v : Int) : (rcl c).set n (.int .i64 v) = rcl (put1 c n v) := by
  apply List.ext_getElem?
  intro j
  rw [List.getElem?_set]
  by_cases hj : j < 25
  · rw [rcl_get _ hj, rcl_get _ hj]
    by_cases hn : n = j
    · subst hn; rw [if_pos rfl, if_pos (by rw [rcl_len]; exact hj)]; simp [put1]
    · rw [if_neg hn]
      have : put1 c n v j = c j := by unfold put1; rw [if_neg (fun e => hn e.symm)]
      rw [this]
  · rw [List.getElem?_eq_none (by rw [rcl_len]; omega), List.getElem?_eq_none (by rw [rcl_len]; omega), if_neg (by omega)]
theorem infoI25 : (Tryz.prog.info? 86).map (fun i => (i.zero, i.size)) = some (some (.agg (rcl fun _ => 0).toArray), 25) := by kernel_rfl
theorem zeroI25 (w : World) : (zeroValue 86).run Tryz.prog w = .ok (.agg (rcl fun _ => 0).toArray) w := (zero_of_info infoI25).1 w
/-- The edges on least-cost ways, as far as gone through. -/
def tgt (es : List Ed) (c : Nat → Int) (P : List (Int × Int)) (e : Ed) : Bool := decide (e ∈ es) && P.any fun n => decide (e.1 = n.1) && decide (n.2 + e.2.2 = c e.2.1.toNat)
theorem tgt_step {es : List Ed} {c : Nat → Int} {P : List (Int × Int)} {n : Int × Int} (e : Ed) : tgt es c (P ++ [n]) e = (tgt es c P e || (decide (e ∈ es) && (decide (e.1 = n.1) && decide (n.2 + e.2.2 = c e.2.1.toNat)))) := by
  unfold tgt
  rw [List.any_append]
  cases decide (e ∈ es) <;> simp
end Go.Proofs.YtgeoghhajjlofaaGreatDoor
