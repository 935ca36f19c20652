/- net: the map of links that are cut, as a function of pairs; min and max. -/
import Derived.Test.YtkhfpcnmnnboeaaFA1
namespace Go.Proofs.Ytkhfpcnmnnboeaa.Nt
open Go.RowKit Go.Maps Go.Proofs.Ytkhfpcnmnnboeaa.Fa

abbrev Pr := Int × Int
abbrev prV (k : Pr) : Value := .agg #[.int .i64 k.1, .int .i64 k.2]
abbrev unV : Value := .agg #[]
set_option maxRecDepth 100000 in
theorem rowP : (82 : TypeId) < Try.prog.types.size := of_decide_eq_true (by kernel_rfl)
set_option maxRecDepth 100000 in
theorem wideP : (match Try.prog.underlying 82 with | some (.array _ _) | some (.struct _) => true | _ => false) = true := by kernel_rfl
set_option maxRecDepth 100000 in
theorem lawP : Keyed Try.prog 82 := Keyed.of_law (deep_law_laid laidO (m := 2) (by omega) rowP (by kernel_rfl) wideP)
theorem keyTypeP : Try.prog.keyType 82 = true := by kernel_rfl
theorem typesP : ∃ m, Try.prog.types.size = m + 1 := pred_of_lt9 rowP
theorem prF : Try.prog.underlying 82 = some (.struct #[(Try.prog.fieldsOf 82)[0]!, (Try.prog.fieldsOf 82)[1]!]) := by kernel_rfl
theorem prF' : (((Try.prog.fieldsOf 82)[0]!).type = 3 ∧ ((Try.prog.fieldsOf 82)[0]!).offset = 0) ∧ (((Try.prog.fieldsOf 82)[1]!).type = 3 ∧ ((Try.prog.fieldsOf 82)[1]!).offset = 1) := ⟨⟨by kernel_rfl, by kernel_rfl⟩, ⟨by kernel_rfl, by kernel_rfl⟩⟩
theorem cPr : Try.prog.cellsOf 82 = 2 := by kernel_rfl
theorem namesP : (#[(Try.prog.fieldsOf 82)[0]!, (Try.prog.fieldsOf 82)[1]!].all fun x => x.name != "_") = true := by kernel_rfl
/-- A link as a key. -/
def prK (e : Pr) : Lit := .string (keyBytes [.int .i64 e.1, .int .i64 e.2])
def wfP (e : Pr) : Prop := (Lit.int .i64 e.1).wf = true ∧ (Lit.int .i64 e.2).wf = true
theorem wfP_of {e : Pr} (h1 : 0 ≤ e.1 ∧ e.1 ≤ 1000000) (h2 : 0 ≤ e.2 ∧ e.2 ≤ 1000000) : wfP e := ⟨WalkArith.wf_i64 (by omega), WalkArith.wf_i64 (by omega)⟩
theorem pr_key {e : Pr} (h : wfP e) : keyOf Try.prog 82 (prV e) = some (prK e) := by
  obtain ⟨w1, w2⟩ := h
  obtain ⟨m, hm⟩ := typesP
  obtain ⟨⟨t0, o0⟩, ⟨t1, o1⟩⟩ := prF'
  unfold keyOf
  simp only [prF]
  rw [if_pos (by simp [keyTypeP, Value.formed, cPr]), hm]
  unfold Program.keyLits
  simp only [prF, Value.cells]
  rw [if_pos ⟨by rw [cPr]; rfl, namesP⟩, List.mapM_cons, List.mapM_cons, List.mapM_nil]
  simp [t0, o0, t1, o1, cI, Program.keyLits, Try.underlying3, w1, w2, prK]
theorem prK_inj {a b : Pr} (ha : wfP a) (hb : wfP b) (h : prK a = prK b) : a = b := by
  have h1 := pr_key ha
  rw [h] at h1
  have := lawP.inj h1 (pr_key hb)
  simp at this
  obtain ⟨a0, a1⟩ := a
  obtain ⟨b0, b1⟩ := b
  simp at this
  obtain ⟨rfl, rfl⟩ := this
  rfl
theorem prK_key {a : Pr} (ha : wfP a) : WideAt.IsKeyLit (prK a) := lawP.key (pr_key ha)
/-- The pair is in, or out. -/
def setC (C : Pr → Bool) (k : Pr) (v : Bool) : Pr → Bool := fun j => if j = k then v else C j
theorem setC_same (C : Pr → Bool) (k : Pr) (v : Bool) : setC C k v k = v := by simp [setC]
theorem setC_other (C : Pr → Bool) {j k : Pr} (v : Bool) (h : j ≠ k) : setC C k v j = C j := by simp [setC, h]
/-- What a map of pairs has. -/
def MpC (w : World) (B n : Nat) (C : Pr → Bool) : Prop :=
  ∃ D : DataW Value, w.ownsMap Try.prog 82 selfR B n D ∧ ∀ k, wfP k → Maps.has D (prK k) = C k ∧ D.atKey (prK k) (.held unV) = .held unV
theorem mpC_new (w : World) : MpC (w.alloc (.map #[] 0)) w.heap.size 0 (fun _ => false) :=
  ⟨.map [], World.ownsMap_made _ _ _ _, fun _ _ => ⟨rfl, rfl⟩⟩
theorem MpC.lt {w : World} {B n : Nat} {C : Pr → Bool} (h : MpC w B n C) : B < w.heap.size := by
  obtain ⟨D, h1, _⟩ := h
  exact h1.lt
theorem MpC.isMap {w : World} {B n : Nat} {C : Pr → Bool} (h : MpC w B n C) : ∃ es cl, w.heap[B]? = some (.map es cl) := by
  obtain ⟨D, ⟨es, clock, hb, _⟩, _⟩ := h
  exact ⟨es, clock, hb⟩
theorem MpC.keep {w w' : World} {B n : Nat} {C : Pr → Bool} {T : Nat → Prop} (h : MpC w B n C) (hF : Fr T w w') (hT : ¬ T B) : MpC w' B n C := by
  obtain ⟨D, ⟨es, clock, hb, r⟩, h2⟩ := h
  exact ⟨D, ⟨es, clock, (hF.block B (Array.getElem?_eq_some_iff.1 hb).1 hT).trans hb, r⟩, h2⟩
theorem MpC.below {w w' : World} {B b n : Nat} {C : Pr → Bool} (h : MpC w B n C) (hF : Below b w w') (hT : B < b) : MpC w' B n C := by
  obtain ⟨D, ⟨es, clock, hb, r⟩, h2⟩ := h
  exact ⟨D, ⟨es, clock, (hF.block B hT).trans hb, r⟩, h2⟩
theorem underMC : Try.prog.underlying 73 = some (.map 82 80) := by kernel_rfl
theorem zeroUn (w : World) : (zeroValue 80).run Try.prog w = .ok unV w := by kernel_rfl
theorem MpC.put {w : World} {B n : Nat} {C : Pr → Bool} (h : MpC w B n C) (hn : n < 1000000) {k : Pr} (hk : wfP k) :
    ∃ w', (Instr.mapUpdate 73 (.map (some B)) (prV k) unV).run Try.prog w = .ok () w' ∧ MpC w' B (n + 1) (setC C k true) ∧ Fr (fun k => k = B) w w' := by
  obtain ⟨D, h1, h2⟩ := h
  obtain ⟨w', hrun, ho, hg⟩ := h1.update (t := 73) lawP underMC (by unfold maxLen; omega) (pr_key hk) (d := .held unV) (ps := []) rfl
  refine ⟨w', hrun, ⟨_, ho, fun j hj => ?_⟩, ⟨hg.os, hg.tape, hg.output, hg.size, fun k hk hs => hg.block k hk (fun e => hs (Option.some.inj e))⟩⟩
  by_cases hkx : j = k
  · subst hkx
    rw [has_put_same h1.isMap (prK_key hj), atKey_put_same h1.isMap (prK_key hj), setC_same]
    exact ⟨rfl, rfl⟩
  · have hne : prK j ≠ prK k := fun h => hkx (prK_inj hj hk h)
    rw [has_put_other hne, atKey_put_other hne, setC_other C true hkx]
    exact h2 j hj
theorem MpC.drop {w : World} {B n : Nat} {C : Pr → Bool} (h : MpC w B n C) {k : Pr} (hk : wfP k) (ty : TypeId) :
    ∃ w', (Builtin.delete_ #[73, 82] ty #[.map (some B), prV k]).run Try.prog w = .ok (.tuple #[]) w' ∧ MpC w' B n (setC C k false) ∧ Fr (fun k => k = B) w w' := by
  obtain ⟨D, g1, g2⟩ := h
  obtain ⟨w', hrun, ho, hg⟩ := g1.drop (t := 73) lawP underMC (pr_key hk) ty
  have hgr := hg.grown
  refine ⟨w', hrun, ⟨_, ho, fun j hj => ?_⟩, ⟨hgr.os, hgr.tape, hgr.output, hgr.size, fun k hk hs => hgr.block k hk (fun e => hs (Option.some.inj e))⟩⟩
  by_cases hkx : j = k
  · subst hkx
    rw [has_del_same, atKey_del_same, setC_same]
    exact ⟨rfl, rfl⟩
  · have hne : prK j ≠ prK k := fun h => hkx (prK_inj hj hk h)
    rw [has_del_other hne, atKey_del_other hne, setC_other C false hkx]
    exact g2 j hj
theorem MpC.look {w : World} {B n : Nat} {C : Pr → Bool} (h : MpC w B n C) {k : Pr} (hk : wfP k) :
    (Instr.lookup 73 (.map (some B)) (prV k) true).run Try.prog w = .ok (.tuple #[unV, .bool (C k)]) w := by
  obtain ⟨D, h1, h2⟩ := h
  obtain ⟨v, ps, hrun, hv⟩ := h1.look_ok (t := 73) lawP underMC (zeroUn w) (zd := .held unV) (zp := []) rfl (pr_key hk)
  rw [(h2 k hk).2] at hv
  rw [held_inj hv, (h2 k hk).1] at hrun
  exact hrun
/-- A link's name. -/
def nm (a b : Int) : Pr := (if b < a then b else a, if a < b then b else a)
theorem nm_swap (a b : Int) : nm a b = nm b a := by
  unfold nm
  congr 1
  · split <;> split <;> omega
  · split <;> split <;> omega
theorem wf_nm {a b : Int} (ha : 0 ≤ a ∧ a ≤ 1000000) (hb : 0 ≤ b ∧ b ≤ 1000000) : wfP (nm a b) := by
  refine wfP_of (e := nm a b) ?_ ?_
  · unfold nm; dsimp only; split <;> omega
  · unfold nm; dsimp only; split <;> omega
theorem underPr : Try.prog.underlying 82 = some (.struct (Try.prog.fieldsOf 82)) := by kernel_rfl
theorem infoPr : (Try.prog.info? 82).map (·.size) = some 2 := by kernel_rfl
theorem load_pr {w : World} {b : Nat} {x y : Value} (h : w.heap[b]? = some (.cells #[x, y] 82)) : (loadVar 82 ⟨b, 0, none⟩).run Try.prog w = .ok (.agg #[x, y]) w :=
  run_loadVar_mid w b 0 82 [x, y] (.struct (Try.prog.fieldsOf 82)) (fun j v hv => by
    rw [Nat.zero_add, cell_of_row w b j _ _ _ h, List.getElem?_toArray]
    exact hv) underPr rfl infoPr
set_option maxRecDepth 100000 in
theorem named_any (a b : Int) (w : World) : Calls Try.prog 29 #[.int .i64 a, .int .i64 b] w fun e w' => e = .returned (prV (nm a b)) ∧ Below w.heap.size w w' := by
  unfold nm
  go_enter Try.func29, Try.ntmps29
  go_wp2
  · exact bodyPost_ret (v := prV (b, a)) (by simp [results, Try.results29, asAddr, load_pr (heap_alloc_last w _)]) rfl ⟨rfl, by go_grown⟩
  · exact bodyPost_ret (v := prV (a, b)) (by simp [results, Try.results29, asAddr, load_pr (heap_alloc_last w _)]) rfl ⟨rfl, by go_grown⟩
  · exact bodyPost_ret (v := prV (a, a)) (by simp [results, Try.results29, asAddr, load_pr (heap_alloc_last w _)]) rfl ⟨rfl, by go_grown⟩
end Go.Proofs.Ytkhfpcnmnnboeaa.Nt
