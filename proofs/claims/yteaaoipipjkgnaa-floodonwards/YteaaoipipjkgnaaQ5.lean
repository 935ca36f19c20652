/- All, Down, Ack. -/
import Derived.Test.YteaaoipipjkgnaaQ4
namespace Go.Proofs.Yteaaoipipjkgnaa
open Go.RowKit Go.Maps

theorem l_del {P : Program} {ops : Array Oper} {rest : List Oper} {o : Oper} {a : Act} {w w' : World} {Q : Exit → Act → World → Prop}
    (hg : o.guard = none) (m x : Operand) (t k : TypeId) (hop : o.op = Op.call { callee := Callee.builtin Builtin.delete, args := #[m, x], argTypes := #[t, k] })
    (hrun : (Builtin.delete_ #[t, k] o.type #[a.eval m, a.eval x]).run P w = .ok (.tuple #[]) w') (h : wpList P ops Q rest (a.put o.dst (.tuple #[])) w') : wpList P ops Q (o :: rest) a w := by
  refine wpList_plain hg fun K hK => ?_
  unfold Oper.wp
  simp [execOp, hop, resolve, invoke, builtin, hrun, Result.andThen]
  exact hK _ _ h
set_option maxRecDepth 100000 in
theorem fall_any {P O S M n : Nat} {s : Fp} {f : Sf} {ob : Int → Option Nat} {w : World} (h : FlAt w P O S M n s f ob) :
    Calls Try.prog 11 #[ptr P] w fun e w' => AllAns w w' (allL f 24) e ∧ Below w.heap.size w w' := by
  have x4 := cell_of_row _ _ 4 _ _ _ h.p
  simp at x4
  have HT := hidIn (fthere_any h)
  have HA := hidIn (sall_any h.st)
  clear h
  go_enter Try.func11, Try.ntmps11
  go_wp2_with fail
  refine HT.out.mono ?_
  rintro e w1 ⟨rfl, h1⟩
  rw [h1]
  clear HT h1 w1
  go_wp2_with fail
  refine HA.out.mono ?_
  rintro e w2 ⟨⟨u, L, rfl, hr, hl, hf⟩, hb⟩
  have HO : Hid (AllAns w w2 (allL f 24) (.returned u) ∧ Below w.heap.size w w2) := hidIn ⟨⟨u, L, rfl, hr, hl, hf⟩, hb⟩
  obtain ⟨ua, uc, rfl⟩ := row_shape hr
  clear hr hl hf hb HA
  generalize L.length = nl at HO ⊢
  go_wp2_with fail
  go_ret
  exact HO.out
/-- A port less. -/
def Fp.down (s : Fp) (p : Int) : Fp := { s with ow := delO s.ow p }
theorem FlAt.downP {w w' : World} {P O S M n : Nat} {s : Fp} {f : Sf} {ob : Int → Option Nat} (h : FlAt w P O S M n s f ob) {p : Int} (hF : Fr (fun k => k = O) w w') (hm : MpG zM w' O (delO (fun k => (ob k).map mB) p)) : FlAt w' P O S M n (s.down p) f (delO ob p) := by
  have hne := h.neP
  have hA : ∀ j (cur : Array Value), w.heap[j]? = some (Obj.cells cur 98) → ¬ j = O := fun j cur hj e => by
    obtain ⟨es, cl, hm⟩ := h.o.isMap
    rw [← e, hj] at hm
    cases hm
  have hd : ∀ k b, delO ob p k = some b → k ≠ p ∧ ob k = some b := fun k b hk => by
    unfold delO at hk
    by_cases hq : k = p
    · rw [if_pos hq] at hk; cases hk
    · rw [if_neg hq] at hk; exact ⟨hq, hk⟩
  refine ⟨(hF.block P (block_lt h.p) (fun e => hne.2.2.1 e.symm)).trans h.p, h.st.fr hF h.neS.1 h.m.1 (fun k r u b hk hu => by obtain ⟨cur, hc⟩ := h.v k r u b hk hu; exact hA b cur hc), ?_, fun k b hk => ?_, fun k hk => ?_, fun k k' b hk hk' => h.d k k' b (hd k b hk).2 (hd k' b hk').2, ⟨h.m.1, fun k b hk => h.m.2 k b (hd k b hk).2⟩, ⟨h.ok.se, h.ok.ep, h.ok.ag, h.ok.la, fun k d j t hk hj => ?_⟩, fun k r u b hk hu => ?_⟩
  · have he : (fun k => (delO ob p k).map mB) = delO (fun k => (ob k).map mB) p := by
      funext k
      unfold delO
      by_cases hq : k = p
      · rw [if_pos hq, if_pos hq]; rfl
      · rw [if_neg hq, if_neg hq]
    rw [he]
    exact hm
  · obtain ⟨h1, h2⟩ := hd k b hk
    obtain ⟨d, e1, e2⟩ := h.i k b h2
    exact ⟨d, by show delO s.ow p k = some d; rw [delO_other _ h1]; exact e1, e2.keep hF (fun e => (h.m.2 k b h2).2 e)⟩
  · show delO s.ow p k = none
    by_cases hq : k = p
    · rw [hq, delO_same]
    · rw [delO_other _ hq]
      rw [delO_other _ hq] at hk
      exact h.j k hk
  · have hk' : delO s.ow p k = some d := hk
    by_cases hq : k = p
    · rw [hq, delO_same] at hk'; cases hk'
    · rw [delO_other _ hq] at hk'
      exact h.ok.ti k d j t hk' hj
  · obtain ⟨cur, hc⟩ := h.v k r u b hk hu
    exact ⟨cur, (hF.block b (block_lt hc) (hA b cur hc)).trans hc⟩
/-- What Down answers. -/
def DownAns (w w' : World) (P O S M n : Nat) (s : Fp) (f : Sf) (ob : Int → Option Nat) (p : Int) (e : Ending) : Prop :=
  (isOth s p = false ∧ e = .returned (.int .i64 2) ∧ w' = w) ∨ (isOth s p = true ∧ (s.ow p).isSome = false ∧ e = .returned (.int .i64 6) ∧ w' = w) ∨
    (isOth s p = true ∧ (s.ow p).isSome = true ∧ e = .returned (.int .i64 0) ∧ FlAt w' P O S M n (s.down p) f (delO ob p) ∧ Fr (fun k => k = O) w w')
set_option maxRecDepth 100000 in
set_option maxHeartbeats 1000000 in
theorem fdown_any {P O S M n : Nat} {s : Fp} {f : Sf} {ob : Int → Option Nat} {w : World} (h : FlAt w P O S M n s f ob) (p : Int) :
    Calls Try.prog 29 #[ptr P, .int .i64 p] w fun e w' => DownAns w w' P O S M n s f ob p e := by
  have x5 := cell_of_row _ _ 5 _ _ _ h.p
  simp at x5
  have HT := hidIn (fthere_any h)
  have HOt := hidIn (fother_any h p)
  have Hh := hidIn h
  clear h
  go_enter Try.func29, Try.ntmps29
  go_wp2_with fail
  refine HT.out.mono ?_
  rintro e w1 ⟨rfl, h1⟩
  rw [h1]
  clear HT h1 w1
  go_wp2_with fail
  refine HOt.out.mono ?_
  rintro e w1 ⟨rfl, h1⟩
  rw [h1]
  clear HOt h1 w1
  cases hot : isOth s p with
  | false =>
    go_wp2_with fail
    go_ret
    exact .inl ⟨hot, rfl, rfl⟩
  | true =>
    have h24 := (isOth_iff.1 hot).1
    have Hot := hidIn hot
    have HU := hidIn (fup_any (k := p) Hh.out (wf9 (by omega)))
    clear hot
    go_wp2_with fail
    refine HU.out.mono ?_
    rintro e w1 ⟨rfl, h1⟩
    rw [h1]
    clear HU h1 w1
    cases hup : (s.ow p).isSome with
    | false =>
      have Hup := hidIn hup
      clear hup
      go_wp2_with fail
      go_ret
      exact .inr (.inl ⟨Hot.out, Hup.out, rfl, rfl⟩)
    | true =>
      obtain ⟨w2, hrun, hm, hF⟩ := Hh.out.o.drop Try.underlying89 h24.1 h24.2 0
      have HO : Hid (DownAns w w2 P O S M n s f ob p (.returned (.int .i64 0))) := hidIn (.inr (.inr ⟨Hot.out, hup, rfl, Hh.out.downP hF hm, hF⟩))
      have HR := hidIn hrun
      clear hup hrun hm hF
      go_wp2_with (refine l_del rfl _ _ 89 3 rfl HR.out ?_)
      go_ret
      exact HO.out
end Go.Proofs.Yteaaoipipjkgnaa
