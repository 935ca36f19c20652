/- A map of rules by messages: what it has, as a list. -/
import Derived.Test.YtkhfpcnmnnboeaaFA0
import Derived.Test.YtkhfpcnmnnboeaaG5
import Derived.Maps.Own
import Derived.Maps.OwnSet
import Derived.DeepKeys4
import Derived.Deep.RegionHeld3
namespace Go.Proofs.Ytkhfpcnmnnboeaa.Fa
open Go.RowKit Go.Maps

abbrev ruC (r : Ru) : List Value := [.int .i64 r.1, .int .i64 r.2.1, .int .i64 r.2.2.1, .int .i64 r.2.2.2.1, .int .i64 r.2.2.2.2]
abbrev ruV (r : Ru) : Value := .agg #[.int .i64 r.1, .int .i64 r.2.1, .int .i64 r.2.2.1, .int .i64 r.2.2.2.1, .int .i64 r.2.2.2.2]
abbrev kyV (k : Ky) : Value := .agg #[.int .i64 k.1, .int .i64 k.2.1, .int .i64 k.2.2]
abbrev zRu : Value := .agg #[.int .i64 0, .int .i64 0, .int .i64 0, .int .i64 0, .int .i64 0]
def selfR (v : Value) : Option (DataW Value × List MemPlace) := some (.held v, [])
theorem held_inj {v u : Value} {ps : List MemPlace} (h : selfR v = some (.held u, ps)) : v = u := by
  simp [selfR] at h
  exact h.1
set_option maxRecDepth 100000 in
theorem laidO : laidOutB Try.prog = true := by kernel_rfl
set_option maxRecDepth 100000 in
theorem rowM : (100 : TypeId) < Try.prog.types.size := of_decide_eq_true (by kernel_rfl)
set_option maxRecDepth 100000 in
theorem wideM : (match Try.prog.underlying 100 with | some (.array _ _) | some (.struct _) => true | _ => false) = true := by kernel_rfl
set_option maxRecDepth 100000 in
theorem lawM : Keyed Try.prog 100 := Keyed.of_law (deep_law_laid laidO (m := 2) (by omega) rowM (by kernel_rfl) wideM)
theorem keyTypeM : Try.prog.keyType 100 = true := by kernel_rfl
theorem pred_of_lt9 {a n : Nat} (h : a < n) : ∃ m, n = m + 1 := ⟨n - 1, by omega⟩
theorem typesM : ∃ m, Try.prog.types.size = m + 1 := pred_of_lt9 rowM
theorem msgF : Try.prog.underlying 100 = some (.struct #[(Try.prog.fieldsOf 100)[0]!, (Try.prog.fieldsOf 100)[1]!, (Try.prog.fieldsOf 100)[2]!]) := by kernel_rfl
theorem msgF' : (((Try.prog.fieldsOf 100)[0]!).type = 3 ∧ ((Try.prog.fieldsOf 100)[0]!).offset = 0) ∧ (((Try.prog.fieldsOf 100)[1]!).type = 3 ∧ ((Try.prog.fieldsOf 100)[1]!).offset = 1) ∧ ((Try.prog.fieldsOf 100)[2]!).type = 3 ∧ ((Try.prog.fieldsOf 100)[2]!).offset = 2 := ⟨⟨by kernel_rfl, by kernel_rfl⟩, ⟨by kernel_rfl, by kernel_rfl⟩, by kernel_rfl, by kernel_rfl⟩
theorem cMsg : Try.prog.cellsOf 100 = 3 := by kernel_rfl
theorem cI : Try.prog.cellsOf 3 = 1 := by kernel_rfl
theorem namesM : (#[(Try.prog.fieldsOf 100)[0]!, (Try.prog.fieldsOf 100)[1]!, (Try.prog.fieldsOf 100)[2]!].all fun x => x.name != "_") = true := by kernel_rfl
/-- A message as a key. -/
def kyK (e : Ky) : Lit := .string (keyBytes [.int .i64 e.1, .int .i64 e.2.1, .int .i64 e.2.2])
def wfM (e : Ky) : Prop := (Lit.int .i64 e.1).wf = true ∧ (Lit.int .i64 e.2.1).wf = true ∧ (Lit.int .i64 e.2.2).wf = true
theorem wfM_of {e : Ky} (h1 : 1 ≤ e.1 ∧ e.1 ≤ 24) (h2 : 1 ≤ e.2.1 ∧ e.2.1 ≤ 24) (h3 : 0 ≤ e.2.2 ∧ e.2.2 ≤ 9223372036854775807) : wfM e := ⟨WalkArith.wf_i64 (by omega), WalkArith.wf_i64 (by omega), WalkArith.wf_i64 (by omega)⟩
theorem wfM_ru {r : Ru} (h : ruOk r = true) : wfM (kR r) := by
  have := ruOk_bd h
  exact wfM_of (e := kR r) this.1.1 this.1.2.1 ⟨by have := this.2.1; unfold kR; dsimp only; omega, by have := this.2.2; unfold kR; dsimp only; omega⟩
theorem msg_key {e : Ky} (h : wfM e) : keyOf Try.prog 100 (kyV e) = some (kyK e) := by
  obtain ⟨w1, w2, w3⟩ := h
  obtain ⟨m, hm⟩ := typesM
  obtain ⟨⟨t0, o0⟩, ⟨t1, o1⟩, t2, o2⟩ := msgF'
  unfold keyOf
  simp only [msgF]
  rw [if_pos (by simp [keyTypeM, Value.formed, cMsg]), hm]
  unfold Program.keyLits
  simp only [msgF, Value.cells]
  rw [if_pos ⟨by rw [cMsg]; rfl, namesM⟩, List.mapM_cons, List.mapM_cons, List.mapM_cons, List.mapM_nil]
  simp [t0, o0, t1, o1, t2, o2, cI, Program.keyLits, Try.underlying3, w1, w2, w3, kyK]
theorem kyK_inj {a b : Ky} (ha : wfM a) (hb : wfM b) (h : kyK a = kyK b) : a = b := by
  have h1 := msg_key ha
  rw [h] at h1
  have := lawM.inj h1 (msg_key hb)
  simp at this
  obtain ⟨a0, a1, a2⟩ := a
  obtain ⟨b0, b1, b2⟩ := b
  simp at this
  obtain ⟨rfl, rfl, rfl⟩ := this
  rfl
theorem kyK_key {a : Ky} (ha : wfM a) : WideAt.IsKeyLit (kyK a) := lawM.key (msg_key ha)
/-- What a map of rules has. -/
def MpR (w : World) (B : Nat) (l : List Ru) : Prop :=
  ∃ D : DataW Value, w.ownsMap Try.prog 100 selfR B 64 D ∧ (∀ k, wfM k → Maps.has D (kyK k) = (findR l k).isSome ∧ D.atKey (kyK k) (.held zRu) = .held (((findR l k).map ruV).getD zRu)) ∧ Maps.size D = l.length ∧ RsOk l
theorem mpR_new (w : World) : MpR (w.alloc (.map #[] 0)) w.heap.size [] :=
  ⟨.map [], (World.ownsMap_made _ _ _ _).mono (Nat.zero_le _), fun _ _ => ⟨rfl, rfl⟩, rfl, ⟨by simp, by simp, by simp⟩⟩
theorem MpR.lt {w : World} {B : Nat} {l : List Ru} (h : MpR w B l) : B < w.heap.size := by
  obtain ⟨D, h1, _⟩ := h
  exact h1.lt
theorem MpR.ok {w : World} {B : Nat} {l : List Ru} (h : MpR w B l) : RsOk l := by
  obtain ⟨D, _, _, _, h4⟩ := h
  exact h4
theorem MpR.isMap {w : World} {B : Nat} {l : List Ru} (h : MpR w B l) : ∃ es cl, w.heap[B]? = some (.map es cl) := by
  obtain ⟨D, ⟨es, clock, hb, _⟩, _⟩ := h
  exact ⟨es, clock, hb⟩
theorem MpR.keep {w w' : World} {B : Nat} {l : List Ru} {T : Nat → Prop} (h : MpR w B l) (hF : Fr T w w') (hT : ¬ T B) : MpR w' B l := by
  obtain ⟨D, ⟨es, clock, hb, r⟩, h2⟩ := h
  exact ⟨D, ⟨es, clock, (hF.block B (Array.getElem?_eq_some_iff.1 hb).1 hT).trans hb, r⟩, h2⟩
theorem MpR.below {w w' : World} {B b : Nat} {l : List Ru} (h : MpR w B l) (hF : Below b w w') (hT : B < b) : MpR w' B l := by
  obtain ⟨D, ⟨es, clock, hb, r⟩, h2⟩ := h
  exact ⟨D, ⟨es, clock, (hF.block B hT).trans hb, r⟩, h2⟩
theorem MpR.copied {w : World} {B : Nat} {l : List Ru} (h : MpR w B l) {es : Array MapEntry} {cl : Nat} (hb : w.heap[B]? = some (.map es cl)) : MpR (w.alloc (.map es cl)) w.heap.size l := by
  obtain ⟨D, ⟨es', clock, hb', r⟩, h2⟩ := h
  rw [hb] at hb'
  cases hb'
  exact ⟨D, ⟨_, _, heap_alloc_last w _, r⟩, h2⟩
theorem own_tight {w : World} {B n : Nat} {D : DataW Value} (h : w.ownsMap Try.prog 100 selfR B n D) {m : Nat} (hm : Maps.size D ≤ m) : w.ownsMap Try.prog 100 selfR B m D := by
  obtain ⟨es, clock, hb, F, _, rfl⟩ := h
  refine ⟨es, clock, hb, F, ?_, rfl⟩
  simpa [Maps.size, length_sorted] using hm
theorem underMp : Try.prog.underlying 93 = some (.map 100 70) := by kernel_rfl
theorem zeroRu (w : World) : (zeroValue 70).run Try.prog w = .ok zRu w := by kernel_rfl
theorem MpR.put {w : World} {B : Nat} {l : List Ru} (h : MpR w B l) {r : Ru} (hr : RsOk (l ++ [r])) :
    ∃ w', (Instr.mapUpdate 93 (.map (some B)) (kyV (kR r)) (ruV r)).run Try.prog w = .ok () w' ∧ MpR w' B (l ++ [r]) ∧ Fr (fun k => k = B) w w' := by
  obtain ⟨D, g1, g2, g3, g4⟩ := h
  have hx : wfM (kR r) := wfM_ru (hr.ok r (by simp))
  obtain ⟨w', hrun, ho, hg⟩ := g1.store (t := 93) lawM underMp (by unfold maxLen; omega) (msg_key hx) (d := .held (ruV r)) (ps := []) rfl
  have hnone : findR l (kR r) = none := by
    refine findR_none.2 fun s hs e => ?_
    have hu := hr.uniq
    rw [List.map_append, List.nodup_append] at hu
    exact hu.2.2 _ (List.mem_map.2 ⟨s, hs, rfl⟩) (kR r) (by simp) e
  have hsz : Maps.size (D.put (kyK (kR r)) (.held (ruV r))) = (l ++ [r]).length := by
    rw [size_put (g1.tidy lawM), (g2 _ hx).1, hnone, g3]
    simp
  have hgr := hg.grown
  refine ⟨w', hrun, ⟨_, own_tight ho (by rw [hsz]; exact hr.len), fun k hk => ?_, hsz, hr⟩, ⟨hgr.os, hgr.tape, hgr.output, hgr.size, fun k hk hs => hgr.block k hk (fun e => hs (Option.some.inj e))⟩⟩
  rw [findR_snoc]
  by_cases hkx : kR r = k
  · subst hkx
    rw [has_put_same g1.isMap (kyK_key hk), atKey_put_same g1.isMap (kyK_key hk), hnone]
    simp
  · have hne : kyK k ≠ kyK (kR r) := fun h => hkx (kyK_inj hk hx h).symm
    rw [has_put_other hne, atKey_put_other hne, if_neg hkx, Option.or_none]
    exact g2 k hk
theorem MpR.drop {w : World} {B : Nat} {l : List Ru} (h : MpR w B l) {x : Ky} (hx : wfM x) (ty : TypeId) :
    ∃ w', (Builtin.delete_ #[93, 100] ty #[.map (some B), kyV x]).run Try.prog w = .ok (.tuple #[]) w' ∧ MpR w' B (dropR l x) ∧ Fr (fun k => k = B) w w' := by
  obtain ⟨D, g1, g2, g3, g4⟩ := h
  obtain ⟨w', hrun, ho, hg⟩ := g1.drop (t := 93) lawM underMp (msg_key hx) ty
  have hok : RsOk (dropR l x) := ⟨Nat.le_trans (List.length_filter_le _ _) g4.len, fun r hr => g4.ok r (List.mem_filter.1 hr).1, drop_nodup g4.uniq x⟩
  have hsz : Maps.size (D.del (kyK x)) = (dropR l x).length := by
    have e1 := size_del (k := kyK x) (g1.tidy lawM)
    rw [(g2 x hx).1] at e1
    cases hf : findR l x with
    | none =>
      rw [drop_none hf]
      simp [hf] at e1
      omega
    | some r =>
      have e2 := drop_len g4.uniq (k := x) (by rw [hf]; rfl)
      simp [hf] at e1
      omega
  have hgr := hg.grown
  refine ⟨w', hrun, ⟨_, own_tight ho (by rw [hsz]; exact hok.len), fun k hk => ?_, hsz, hok⟩, ⟨hgr.os, hgr.tape, hgr.output, hgr.size, fun k hk hs => hgr.block k hk (fun e => hs (Option.some.inj e))⟩⟩
  by_cases hkx : k = x
  · subst hkx
    rw [has_del_same, atKey_del_same, findR_drop_same]
    exact ⟨rfl, rfl⟩
  · have hne : kyK k ≠ kyK x := fun h => hkx (kyK_inj hk hx h)
    rw [has_del_other hne, atKey_del_other hne, findR_drop_other l hkx]
    exact g2 k hk
theorem MpR.look {w : World} {B : Nat} {l : List Ru} (h : MpR w B l) {x : Ky} (hx : wfM x) :
    (Instr.lookup 93 (.map (some B)) (kyV x) true).run Try.prog w = .ok (.tuple #[((findR l x).map ruV).getD zRu, .bool (findR l x).isSome]) w := by
  obtain ⟨D, h1, h2, _⟩ := h
  obtain ⟨v, ps, hrun, hv⟩ := h1.look_ok (t := 93) lawM underMp (zeroRu w) (zd := .held zRu) (zp := []) rfl (msg_key hx)
  rw [(h2 x hx).2] at hv
  rw [held_inj hv, (h2 x hx).1] at hrun
  exact hrun
theorem MpR.size {w : World} {B : Nat} {l : List Ru} (h : MpR w B l) (ty : TypeId) : (Builtin.len_ #[93] ty #[.map (some B)]).run Try.prog w = .ok (.int .i64 l.length) w := by
  obtain ⟨D, h1, _, h3, _⟩ := h
  rw [← h3]
  exact h1.len underMp ty
/-- Laws of the walk. -/
theorem l_look9 {P : Program} {ops : Array Oper} {rest : List Oper} {o : Oper} {a : Act} {w : World} {v : Value} {Q : Exit → Act → World → Prop}
    (hg : o.guard = none) (m x : Operand) (t : TypeId) (c : Bool) (hop : o.op = Op.lookup t m x c)
    (hrun : (Instr.lookup t (a.eval m) (a.eval x) c).run P w = .ok v w) (h : wpList P ops Q rest (a.put o.dst v) w) : wpList P ops Q (o :: rest) a w := by
  refine wpList_plain hg fun K hK => ?_
  unfold Oper.wp
  simp [execOp, hop, hrun, Result.andThen]
  exact hK _ _ h
theorem l_put9 {P : Program} {ops : Array Oper} {rest : List Oper} {o : Oper} {a : Act} {w w' : World} {Q : Exit → Act → World → Prop}
    (hg : o.guard = none) (m x v : Operand) (t : TypeId) (hop : o.op = Op.mapUpdate t m x v)
    (hrun : (Instr.mapUpdate t (a.eval m) (a.eval x) (a.eval v)).run P w = .ok () w') (h : wpList P ops Q rest (a.put o.dst undef) w') : wpList P ops Q (o :: rest) a w := by
  refine wpList_plain hg fun K hK => ?_
  unfold Oper.wp
  simp [execOp, hop, hrun, Result.andThen]
  exact hK _ _ h
theorem l_len9 {P : Program} {ops : Array Oper} {rest : List Oper} {o : Oper} {a : Act} {w : World} {v : Value} {Q : Exit → Act → World → Prop}
    (hg : o.guard = none) (m : Operand) (t : TypeId) (hop : o.op = Op.call { callee := Callee.builtin Builtin.len, args := #[m], argTypes := #[t] })
    (hrun : (Builtin.len_ #[t] o.type #[a.eval m]).run P w = .ok v w) (h : wpList P ops Q rest (a.put o.dst v) w) : wpList P ops Q (o :: rest) a w := by
  refine wpList_plain hg fun K hK => ?_
  unfold Oper.wp
  simp [execOp, hop, resolve, invoke, builtin, hrun, Result.andThen]
  exact hK _ _ h
theorem step_del9 {P : Program} {ops : Array Oper} {o : Oper} {a : Act} {w w' : World} {K : Act → World → Prop} {Q : Exit → Act → World → Prop} {E : Prop}
    (hg : o.guard = none) (m x : Operand) (t k : TypeId) (hop : o.op = Op.call { callee := Callee.builtin Builtin.delete, args := #[m, x], argTypes := #[t, k] }) {vm vx : Value} (hm : a.eval m = vm) (hx : a.eval x = vx)
    (hrun : (Builtin.delete_ #[t, k] o.type #[vm, vx]).run P w = .ok (.tuple #[]) w') (hK : K (a.put o.dst (.tuple #[])) w') :
    if Region.wanted o (yielded ops a.tmps) = true then Oper.wp P o a w K Q else E := by
  have hw : Region.wanted o (yielded ops a.tmps) = true := by simp [Region.wanted, hg]
  rw [if_pos hw]
  unfold Oper.wp
  simp [execOp, hop, resolve, invoke, builtin, hm, hx, hrun, Result.andThen]
  exact hK
end Go.Proofs.Ytkhfpcnmnnboeaa.Fa
