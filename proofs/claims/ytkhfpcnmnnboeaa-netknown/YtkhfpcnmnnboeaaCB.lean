/- What calendars of any kind stand on: maps by tickets as functions; cmp.Compare, cmp.Or. -/
import Derived.Test.YtkhfpcnmnnboeaaC0
import Derived.Test.YtkhfpcnmnnboeaaG5
import Derived.Maps.Own
import Derived.Maps.OwnSet
import Derived.Deep.RegionHeld3
namespace Go.Proofs.Ytkhfpcnmnnboeaa.Ca
open Go.RowKit Go.Maps

def selfR (v : Value) : Option (DataW Value × List MemPlace) := some (.held v, [])
theorem keyI9 : Keyed Try.prog 3 := int_keyed Try.underlying3
theorem key_int {k : Int} (hk : (Lit.int .i64 k).wf = true) : keyOf Try.prog 3 (.int .i64 k) = some (.int .i64 k) := keyOf_int_mk Try.underlying3 hk
theorem wf9 {k : Int} (h : 0 ≤ k ∧ k ≤ 1000000) : (Lit.int .i64 k).wf = true := WalkArith.wf_i64 (by omega)
theorem key_lit (k : Int) : WideAt.IsKeyLit (Lit.int .i64 k) := by first | trivial | simp [WideAt.IsKeyLit]
theorem held_inj {v u : Value} {ps : List MemPlace} (h : selfR v = some (.held u, ps)) : v = u := by
  simp [selfR] at h
  exact h.1
def putO {β : Type} (f : Int → Option β) (k : Int) (v : β) : Int → Option β := fun j => if j = k then some v else f j
theorem putO_same {β : Type} (f : Int → Option β) (k : Int) (v : β) : putO f k v k = some v := by simp [putO]
theorem putO_other {β : Type} (f : Int → Option β) {j k : Int} (v : β) (h : j ≠ k) : putO f k v j = f j := by simp [putO, h]
def delO {β : Type} (f : Int → Option β) (k : Int) : Int → Option β := fun j => if j = k then none else f j
theorem delO_same {β : Type} (f : Int → Option β) (k : Int) : delO f k k = none := by simp [delO]
theorem delO_other {β : Type} (f : Int → Option β) {j k : Int} (h : j ≠ k) : delO f k j = f j := by simp [delO, h]
abbrev nilP : Value := .pointer none
abbrev ptr (b : Nat) : Value := .pointer (some ⟨b, 0, none⟩)
/-- What a map of pointers has, by tickets. -/
def MpE (w : World) (B n : Nat) (f : Int → Option Value) : Prop :=
  ∃ D : DataW Value, w.ownsMap Try.prog 3 selfR B n D ∧ ∀ k, (Lit.int .i64 k).wf = true → Maps.has D (.int .i64 k) = (f k).isSome ∧ D.atKey (.int .i64 k) (.held nilP) = .held ((f k).getD nilP)
theorem mpE_new (w : World) : MpE (w.alloc (.map #[] 0)) w.heap.size 0 (fun _ => none) :=
  ⟨.map [], World.ownsMap_made _ _ _ _, fun _ _ => ⟨rfl, rfl⟩⟩
theorem MpE.lt {w : World} {B n : Nat} {f : Int → Option Value} (h : MpE w B n f) : B < w.heap.size := by
  obtain ⟨D, h1, _⟩ := h
  exact h1.lt
theorem MpE.isMap {w : World} {B n : Nat} {f : Int → Option Value} (h : MpE w B n f) : ∃ es cl, w.heap[B]? = some (.map es cl) := by
  obtain ⟨D, ⟨es, clock, hb, _⟩, _⟩ := h
  exact ⟨es, clock, hb⟩
theorem MpE.keep {w w' : World} {B n : Nat} {f : Int → Option Value} {T : Nat → Prop} (h : MpE w B n f) (hF : Fr T w w') (hT : ¬ T B) : MpE w' B n f := by
  obtain ⟨D, ⟨es, clock, hb, r⟩, h2⟩ := h
  exact ⟨D, ⟨es, clock, (hF.block B (Array.getElem?_eq_some_iff.1 hb).1 hT).trans hb, r⟩, h2⟩
theorem MpE.mono {w : World} {B n m : Nat} {f : Int → Option Value} (h : MpE w B n f) (hn : n ≤ m) : MpE w B m f := by
  obtain ⟨D, h1, h2⟩ := h
  exact ⟨D, h1.mono hn, h2⟩
theorem MpE.put {w : World} {B n : Nat} {f : Int → Option Value} {T E : TypeId} (hT : Try.prog.underlying T = some (.map 3 E)) (h : MpE w B n f) (hn : n < 1000000) {x : Int} (hx : (Lit.int .i64 x).wf = true) (v : Value) :
    ∃ w', (Instr.mapUpdate T (.map (some B)) (.int .i64 x) v).run Try.prog w = .ok () w' ∧ MpE w' B (n + 1) (putO f x v) ∧ Fr (fun k => k = B) w w' := by
  obtain ⟨D, h1, h2⟩ := h
  obtain ⟨w', hrun, ho, hg⟩ := h1.update (t := T) keyI9 hT (by unfold maxLen; omega) (key_int hx) (d := .held v) (ps := []) rfl
  refine ⟨w', hrun, ⟨_, ho, fun k hk => ?_⟩, ⟨hg.os, hg.tape, hg.output, hg.size, fun k hk hs => hg.block k hk (fun e => hs (Option.some.inj e))⟩⟩
  by_cases hkx : k = x
  · subst hkx
    rw [has_put_same h1.isMap (key_lit k), atKey_put_same h1.isMap (key_lit k), putO_same]
    exact ⟨rfl, rfl⟩
  · have hne : (Lit.int .i64 k) ≠ .int .i64 x := fun h => hkx (by injection h)
    rw [has_put_other hne, atKey_put_other hne, putO_other f v hkx]
    exact h2 k hk
theorem MpE.drop {w : World} {B n : Nat} {f : Int → Option Value} {T E : TypeId} (hT : Try.prog.underlying T = some (.map 3 E)) (h : MpE w B n f) {x : Int} (hx : (Lit.int .i64 x).wf = true) (ty : TypeId) :
    ∃ w', (Builtin.delete_ #[T, 3] ty #[.map (some B), .int .i64 x]).run Try.prog w = .ok (.tuple #[]) w' ∧ MpE w' B n (delO f x) ∧ Fr (fun k => k = B) w w' := by
  obtain ⟨D, g1, g2⟩ := h
  obtain ⟨w', hrun, ho, hg⟩ := g1.drop (t := T) keyI9 hT (key_int hx) ty
  have hgr := hg.grown
  refine ⟨w', hrun, ⟨_, ho, fun k hk => ?_⟩, ⟨hgr.os, hgr.tape, hgr.output, hgr.size, fun k hk hs => hgr.block k hk (fun e => hs (Option.some.inj e))⟩⟩
  by_cases hkx : k = x
  · subst hkx
    rw [has_del_same, atKey_del_same, delO_same]
    exact ⟨rfl, rfl⟩
  · have hne : (Lit.int .i64 k) ≠ .int .i64 x := fun h => hkx (by injection h)
    rw [has_del_other hne, atKey_del_other hne, delO_other f hkx]
    exact g2 k hk
theorem MpE.look {w : World} {B n : Nat} {f : Int → Option Value} {T E : TypeId} (hT : Try.prog.underlying T = some (.map 3 E)) (hz : ∀ w, (zeroValue E).run Try.prog w = .ok nilP w) (h : MpE w B n f) {x : Int} (hx : (Lit.int .i64 x).wf = true) :
    (Instr.lookup T (.map (some B)) (.int .i64 x) true).run Try.prog w = .ok (.tuple #[(f x).getD nilP, .bool (f x).isSome]) w := by
  obtain ⟨D, h1, h2⟩ := h
  obtain ⟨v, ps, hrun, hv⟩ := h1.look_ok (t := T) keyI9 hT (hz w) (zd := .held nilP) (zp := []) rfl (key_int hx)
  rw [(h2 x hx).2] at hv
  rw [held_inj hv, (h2 x hx).1] at hrun
  exact hrun
theorem step_put9 {P : Program} {ops : Array Oper} {o : Oper} {a : Act} {w w' : World} {K : Act → World → Prop} {Q : Exit → Act → World → Prop} {E : Prop}
    (hg : o.guard = none) (m x v : Operand) (t : TypeId) (hop : o.op = Op.mapUpdate t m x v) {vm vx vv : Value} (hm : a.eval m = vm) (hx : a.eval x = vx) (hv : a.eval v = vv)
    (hrun : (Instr.mapUpdate t vm vx vv).run P w = .ok () w') (hK : K (a.put o.dst undef) w') :
    if Region.wanted o (yielded ops a.tmps) = true then Oper.wp P o a w K Q else E := by
  have hw : Region.wanted o (yielded ops a.tmps) = true := by simp [Region.wanted, hg]
  rw [if_pos hw]
  unfold Oper.wp
  simp [execOp, hop, hm, hx, hv, hrun, Result.andThen]
  exact hK
theorem step_del9 {P : Program} {ops : Array Oper} {o : Oper} {a : Act} {w w' : World} {K : Act → World → Prop} {Q : Exit → Act → World → Prop} {E : Prop}
    (hg : o.guard = none) (m x : Operand) (t k : TypeId) (hop : o.op = Op.call { callee := Callee.builtin Builtin.delete, args := #[m, x], argTypes := #[t, k] }) {vm vx : Value} (hm : a.eval m = vm) (hx : a.eval x = vx)
    (hrun : (Builtin.delete_ #[t, k] o.type #[vm, vx]).run P w = .ok (.tuple #[]) w') (hK : K (a.put o.dst (.tuple #[])) w') :
    if Region.wanted o (yielded ops a.tmps) = true then Oper.wp P o a w K Q else E := by
  have hw : Region.wanted o (yielded ops a.tmps) = true := by simp [Region.wanted, hg]
  rw [if_pos hw]
  unfold Oper.wp
  simp [execOp, hop, resolve, invoke, builtin, hm, hx, hrun, Result.andThen]
  exact hK
theorem l_look9 {P : Program} {ops : Array Oper} {rest : List Oper} {o : Oper} {a : Act} {w : World} {v : Value} {Q : Exit → Act → World → Prop}
    (hg : o.guard = none) (m x : Operand) (t : TypeId) (c : Bool) (hop : o.op = Op.lookup t m x c)
    (hrun : (Instr.lookup t (a.eval m) (a.eval x) c).run P w = .ok v w) (h : wpList P ops Q rest (a.put o.dst v) w) : wpList P ops Q (o :: rest) a w := by
  refine wpList_plain hg fun K hK => ?_
  unfold Oper.wp
  simp [execOp, hop, hrun, Result.andThen]
  exact hK _ _ h
def orI (a b : Int) : Int := if a = 0 then b else a
def cmI (x y : Int) : Int := if x < y then -1 else if y < x then 1 else 0
/-- How two things stand to each other: by ticks, then by tickets. -/
def cmE (x s y t : Int) : Int := orI (cmI x y) (cmI s t)
theorem cmE_neg {β : Type} (key : β → Int) (a b : β × Int) : decide (cmE (key a.1) a.2 (key b.1) b.2 < 0) = aheadE (ltK key) a b := by
  have h : (cmE (key a.1) a.2 (key b.1) b.2 < 0) ↔ aheadE (ltK key) a b = true := by
    unfold aheadE ltK cmE orI cmI
    split <;> split <;> split <;> (try split) <;> (try split) <;> simp <;> omega
  by_cases hc : cmE (key a.1) a.2 (key b.1) b.2 < 0
  · rw [decide_eq_true hc, h.1 hc]
  · rw [decide_eq_false hc]
    cases hq : aheadE (ltK key) a b
    · rfl
    · exact absurd (h.2 hq) hc
theorem isNaNI_any (x : Int) (w : World) : Calls Try.prog 88 #[.int .i64 x] w fun e w' => e = .returned (.bool false) ∧ w' = w := by
  go_enter Try.func88, Try.ntmps88
  go_wp2
  go_ret
  exact ⟨by simp, rfl⟩
theorem cmpI_any (x y : Int) (w : World) : Calls Try.prog 83 #[.int .i64 x, .int .i64 y] w fun e w' => e = .returned (.int .i64 (cmI x y)) ∧ w' = w := by
  unfold cmI
  by_cases h1 : x < y
  · rw [if_pos h1]
    go_enter Try.func83, Try.ntmps83
    go_wp2_with (go_at_call 88; refine (isNaNI_any _ _).mono ?_; rintro e w1 ⟨rfl, hw1⟩; rw [hw1]; clear hw1 w1)
    go_ret
    exact ⟨rfl, rfl⟩
  · by_cases h2 : y < x
    · rw [if_neg h1, if_pos h2]
      go_enter Try.func83, Try.ntmps83
      go_wp2_with (go_at_call 88; refine (isNaNI_any _ _).mono ?_; rintro e w1 ⟨rfl, hw1⟩; rw [hw1]; clear hw1 w1)
      go_ret
      exact ⟨rfl, rfl⟩
    · rw [if_neg h1, if_neg h2]
      go_enter Try.func83, Try.ntmps83
      go_wp2_with (go_at_call 88; refine (isNaNI_any _ _).mono ?_; rintro e w1 ⟨rfl, hw1⟩; rw [hw1]; clear hw1 w1)
      go_ret
      exact ⟨rfl, rfl⟩
theorem isNaNU_any (x : Int) (w : World) : Calls Try.prog 87 #[.int .u64 x] w fun e w' => e = .returned (.bool false) ∧ w' = w := by
  go_enter Try.func87, Try.ntmps87
  go_wp2
  go_ret
  exact ⟨by simp, rfl⟩
theorem cmpU_any (x y : Int) (w : World) : Calls Try.prog 82 #[.int .u64 x, .int .u64 y] w fun e w' => e = .returned (.int .i64 (cmI x y)) ∧ w' = w := by
  unfold cmI
  by_cases h1 : x < y
  · rw [if_pos h1]
    go_enter Try.func82, Try.ntmps82
    go_wp2_with (go_at_call 87; refine (isNaNU_any _ _).mono ?_; rintro e w1 ⟨rfl, hw1⟩; rw [hw1]; clear hw1 w1)
    go_ret
    exact ⟨rfl, rfl⟩
  · by_cases h2 : y < x
    · rw [if_neg h1, if_pos h2]
      go_enter Try.func82, Try.ntmps82
      go_wp2_with (go_at_call 87; refine (isNaNU_any _ _).mono ?_; rintro e w1 ⟨rfl, hw1⟩; rw [hw1]; clear hw1 w1)
      go_ret
      exact ⟨rfl, rfl⟩
    · rw [if_neg h1, if_neg h2]
      go_enter Try.func82, Try.ntmps82
      go_wp2_with (go_at_call 87; refine (isNaNU_any _ _).mono ?_; rintro e w1 ⟨rfl, hw1⟩; rw [hw1]; clear hw1 w1)
      go_ret
      exact ⟨rfl, rfl⟩
set_option maxRecDepth 100000 in
set_option maxHeartbeats 2000000 in
theorem cmpOr_any {a b : Int} {g : Nat} {w : World} {T : TypeId} (h : w.heap[g]? = some (.cells #[.int .i64 a, .int .i64 b] T)) : Calls Try.prog 81 #[.slice (some ⟨g, 0, none⟩) 2 2] w fun e w' => e = .returned (.int .i64 (orI a b)) ∧ w' = w := by
  have c0 := cell_of_row _ _ 0 _ _ _ h
  have c1 := cell_of_row _ _ 1 _ _ _ h
  simp at c0 c1
  clear h
  by_cases ha : a = 0
  · by_cases hb : b = 0
    · have HE : Hid (orI a b = 0) := hidIn (by unfold orI; rw [if_pos ha, hb])
      have q0 : (a != 0) = false := by simpa using ha
      have q1 : (b != 0) = false := by simpa using hb
      rw [HE.out]
      clear ha hb
      go_enter Try.func81, Try.ntmps81
      go_wp2
      go_rounds 3
      go_ret
      exact ⟨rfl, rfl⟩
    · have HE : Hid (orI a b = b) := hidIn (by unfold orI; rw [if_pos ha])
      have q0 : (a != 0) = false := by simpa using ha
      have q1 : (b != 0) = true := by simpa using hb
      rw [HE.out]
      clear ha hb
      go_enter Try.func81, Try.ntmps81
      go_wp2
      go_rounds 3
      go_ret
      exact ⟨rfl, rfl⟩
  · have HE : Hid (orI a b = a) := hidIn (by unfold orI; rw [if_neg ha])
    have q0 : (a != 0) = true := by simpa using ha
    rw [HE.out]
    clear ha
    go_enter Try.func81, Try.ntmps81
    go_wp2
    go_rounds 3
    go_ret
    exact ⟨rfl, rfl⟩
end Go.Proofs.Ytkhfpcnmnnboeaa.Ca
