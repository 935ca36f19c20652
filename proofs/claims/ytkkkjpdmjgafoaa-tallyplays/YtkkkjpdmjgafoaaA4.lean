/- tally: New, Bad, Clear, At, Copy. -/
import Derived.Test.YtkkkjpdmjgafoaaA3
namespace Go.Proofs.Ytkkkjpdmjgafoaa
open Go.RowKit

theorem load_c0 {w : World} {b : Nat} (h : w.heap[b]? = some cO0) : (loadVar 37 ⟨b, 0, none⟩).run Try.prog w = .ok cV0 w := load_c (c := noC) h
abbrev tO (T : Nat → Cn) : Obj := .cells (tlV T).toArray 62
theorem builtT0 : Try.prog.built 62 [(0, .bool true)] = some (tlV noT).toArray := by kernel_rfl
theorem l_buildT0 {ops : Array Oper} {rest : List Oper} {o : Oper} {a : Act} {w : World} {Q : Exit → Act → World → Prop} (hg : o.guard = none) (ho : o.op = .build 62 #[(0, .const (.bool true))])
    (h : wpList Try.prog ops Q rest (a.put o.dst (.agg (tlV noT).toArray)) w) : wpList Try.prog ops Q (o :: rest) a w := by
  have e : ∀ P : Act, ((#[(0, .const (.bool true))] : Array (Nat × Operand)).map fun (i, x) => (i, P.eval x)).toList = [(0, .bool true)] := fun P => by simp [Act.eval]
  refine wpList_build hg 62 _ ho (by rw [e, builtT0]; rfl) ?_
  rw [e, builtT0]
  exact h
theorem tnew_any (w : World) : Calls Try.prog 7 #[] w fun e w' => e = .returned (tp w.heap.size) ∧ w' = w.alloc (tO noT) := by
  go_enter Try.func7, Try.ntmps7
  obtain ⟨ZA, hZA⟩ : ∃ ZA, (tlV noT).toArray = ZA := ⟨_, rfl⟩
  have HZ := hidIn hZA
  clear hZA
  go_wp2_with (refine l_buildT0 rfl rfl ?_; rw [HZ.out])
  go_ret
  exact ⟨rfl, by rw [← HZ.out]⟩
theorem taAt_new (w : World) (T : Nat → Cn) : TaAt (w.alloc (tO T)) w.heap.size T := heap_alloc_last w _
def badC : Cn := fun k => if k = 0 ∨ k = 5 then 1 else 0
theorem badC_ok : OkC badC := fun k => by unfold badC; split <;> omega
theorem tbad_no {b : Nat} {T : Nat → Cn} {w : World} (h : TaAt w b T) (n : Int) (hn : ¬ (1 ≤ n ∧ n ≤ 24)) : Calls Try.prog 13 #[tp b, .int .i64 n] w fun e w' => e = .returned (.int .i64 2) ∧ Below w.heap.size w w' := by
  have HC := hidIn (add_no h n hn badC)
  go_enter Try.func13, Try.ntmps13
  go_wp2_with fail
  refine HC.out.mono ?_
  rintro e w1 ⟨rfl, hb⟩
  go_wp2_with fail
  go_ret
  exact ⟨rfl, hb⟩
theorem tbad_yes {b : Nat} {T : Nat → Cn} {w : World} (h : TaAt w b T) (hT : OkT T) {r : Nat} (h1 : 1 ≤ r) (h2 : r ≤ 24) : Calls Try.prog 13 #[tp b, .int .i64 r] w fun e w' => e = .returned (.int .i64 0) ∧ TaAt w' b (putC T r (addC (T r) badC)) ∧ Fr (fun j => j = b) w w' := by
  have HC := hidIn (add_yes h hT h1 h2 badC_ok)
  clear h hT
  go_enter Try.func13, Try.ntmps13
  go_wp2_with fail
  refine HC.out.mono ?_
  rintro e w1 ⟨rfl, hb⟩
  have HB := hidIn hb
  clear hb
  go_wp2_with fail
  go_ret
  exact ⟨rfl, HB.out⟩
theorem tclear_no {b : Nat} {T : Nat → Cn} {w : World} (h : TaAt w b T) (n : Int) (hn : ¬ (1 ≤ n ∧ n ≤ 24)) : Calls Try.prog 14 #[tp b, .int .i64 n] w fun e w' => e = .returned (.int .i64 2) ∧ w' = w := by
  have HC := hidIn (tcheckT_any h.made n)
  rw [ckR_no hn] at HC
  clear h
  go_enter Try.func14, Try.ntmps14
  go_wp2_with (go_at_call 28; refine HC.out.mono ?_; rintro e w1 ⟨rfl, hw1⟩; rw [hw1]; clear hw1 w1)
  go_ret
  exact ⟨rfl, rfl⟩
set_option maxRecDepth 100000 in
theorem tclear_yes {b : Nat} {T : Nat → Cn} {w : World} (h : TaAt w b T) {r : Nat} (h1 : 1 ≤ r) (h2 : r ≤ 24) : Calls Try.prog 14 #[tp b, .int .i64 r] w fun e w' => e = .returned (.int .i64 0) ∧ TaAt w' b (putC T r noC) ∧ Fr (fun j => j = b) w w' := by
  have HC := hidIn (tcheckT_any h.made (r : Int))
  rw [ckR_yes (by omega) (by omega)] at HC
  have hr25 : r < 25 := by omega
  have t0 := h.cell hr25 (k := 0) (by omega)
  have t1 := h.cell hr25 (k := 1) (by omega)
  have t2 := h.cell hr25 (k := 2) (by omega)
  have t3 := h.cell hr25 (k := 3) (by omega)
  have t4 := h.cell hr25 (k := 4) (by omega)
  have t5 := h.cell hr25 (k := 5) (by omega)
  simp only [Nat.add_zero] at t0
  have f0 := h.frozen (1 + r * 6)
  have f1 := h.frozen (1 + r * 6 + 1)
  have f2 := h.frozen (1 + r * 6 + 2)
  have f3 := h.frozen (1 + r * 6 + 3)
  have f4 := h.frozen (1 + r * 6 + 4)
  have f5 := h.frozen (1 + r * 6 + 5)
  have hri : (r : Int) < 25 := by omega
  have hr0 : (0 : Int) ≤ (r : Int) := by omega
  have HO : Hid (TaAt (setC w b r noC) b (putC T r noC)) := hidIn (h.set hr25 noC)
  have HFr := hidIn (fr_setC w b r noC)
  clear h
  go_enter Try.func14, Try.ntmps14
  go_wp2_with (go_at_call 28; refine HC.out.mono ?_; rintro e w1 ⟨rfl, hw1⟩; rw [hw1]; clear hw1 w1)
  go_ret
  exact ⟨rfl, HO.out, HFr.out⟩
theorem tat_no {b : Nat} {T : Nat → Cn} {w : World} (h : TaAt w b T) (n : Int) (hn : ¬ (1 ≤ n ∧ n ≤ 24)) : Calls Try.prog 16 #[tp b, .int .i64 n] w fun e w' => e = .returned (.tuple #[cV noC, .int .i64 2]) ∧ Below w.heap.size w w' := by
  have HC := hidIn (tcheckT_any (h.keep ((Below.refl w.heap.size w).alloc (Nat.le_refl _) cO0) h.lt).made n)
  rw [ckR_no hn] at HC
  have hx := heap_alloc_last w cO0
  have HX := hidIn hx
  clear h hx
  go_enter Try.func16, Try.ntmps16
  go_wp2_with (go_at_call 28; refine HC.out.mono ?_; rintro e w1 ⟨rfl, hw1⟩; rw [hw1]; clear hw1 w1)
  have hl := load_c0 HX.out
  refine bodyPost_ret (v := .tuple #[cV0, .int .i64 2]) (by simp [results, Try.results16, asAddr, Result.andThen, hl]) rfl ⟨rfl, by go_grown⟩
set_option maxRecDepth 100000 in
theorem tat_yes {b : Nat} {T : Nat → Cn} {w : World} (h : TaAt w b T) {r : Nat} (h1 : 1 ≤ r) (h2 : r ≤ 24) : Calls Try.prog 16 #[tp b, .int .i64 r] w fun e w' => e = .returned (.tuple #[cV (T r), .int .i64 0]) ∧ Below w.heap.size w w' := by
  have hk := h.keep ((Below.refl w.heap.size w).alloc (Nat.le_refl _) cO0) h.lt
  have HC := hidIn (tcheckT_any hk.made (r : Int))
  rw [ckR_yes (by omega) (by omega)] at HC
  have hr25 : r < 25 := by omega
  have t0 := hk.cell hr25 (k := 0) (by omega)
  have t1 := hk.cell hr25 (k := 1) (by omega)
  have t2 := hk.cell hr25 (k := 2) (by omega)
  have t3 := hk.cell hr25 (k := 3) (by omega)
  have t4 := hk.cell hr25 (k := 4) (by omega)
  have t5 := hk.cell hr25 (k := 5) (by omega)
  simp only [Nat.add_zero] at t0
  have hri : (r : Int) < 25 := by omega
  have hr0 : (0 : Int) ≤ (r : Int) := by omega
  have hx := heap_alloc_last w cO0
  have HX := hidIn hx
  clear h hk hx
  go_enter Try.func16, Try.ntmps16
  go_wp2_with (go_at_call 28; refine HC.out.mono ?_; rintro e w1 ⟨rfl, hw1⟩; rw [hw1]; clear hw1 w1)
  have hl := load_c (heap_alloc_last w (cO (T r)))
  refine bodyPost_ret (v := .tuple #[cV (T r), .int .i64 0]) (by simp [results, Try.results16, asAddr, Result.andThen, hl]) rfl ⟨rfl, by go_grown⟩
end Go.Proofs.Ytkkkjpdmjgafoaa
