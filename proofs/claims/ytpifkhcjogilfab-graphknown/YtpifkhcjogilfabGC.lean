/- Structs compared; rec, three, works. -/
import Derived.Test.YtpifkhcjogilfabGB
import Derived.Laws.StructEq
namespace Go.Proofs.Ytpifkhcjogilfab
open Go.RowKit

theorem eqI (d : Nat) (x y : Int) (w : World) : (Op.equalIn (d + 1) 3 (.int .i64 x) (.int .i64 y)).run Try.prog w = .ok (x == y) w := run_equalIn_int w d _ _ _ x y Try.underlying3
theorem eqFields_cons (d : Nat) (xs ys : Array Value) (f : Field) (fs : List Field) (a b : Value) (r : Bool) (w : World) (hn : (f.name == "_") = false) (hx : (part f.type xs f.offset).run Try.prog w = .ok a w) (hy : (part f.type ys f.offset).run Try.prog w = .ok b w)
    (he : (Op.equalIn d f.type a b).run Try.prog w = .ok r w) : (Op.eqFields d xs ys (f :: fs)).run Try.prog w = if r = true then (Op.eqFields d xs ys fs).run Try.prog w else .ok false w := by
  have hn' : f.name ≠ "_" := by intro e; rw [e] at hn; simp at hn
  simp only [Op.eqFields, hn', ne_eq, not_false_eq_true, if_true, Sem.run_bind, hx, hy, he, Result.andThen_ok, Sem.run_ite, Sem.run_pure]
  cases r <;> simp
theorem part2 {x0 x1 : Value} (w : World) : (part 3 #[x0, x1] 0).run Try.prog w = .ok x0 w ∧ (part 3 #[x0, x1] 1).run Try.prog w = .ok x1 w :=
  ⟨by kernel_rfl, by kernel_rfl⟩
theorem part3 {x0 x1 x2 : Value} (w : World) : (part 3 #[x0, x1, x2] 0).run Try.prog w = .ok x0 w ∧ (part 3 #[x0, x1, x2] 1).run Try.prog w = .ok x1 w ∧ (part 3 #[x0, x1, x2] 2).run Try.prog w = .ok x2 w :=
  ⟨by kernel_rfl, by kernel_rfl, by kernel_rfl⟩
theorem edgeFields : (Try.prog.fieldsOf 47).toList.map (fun f => (f.name == "_", f.type, f.offset)) = [(false, 3, 0), (false, 3, 1), (false, 3, 2)] := by kernel_rfl
theorem edgeUnder : Try.prog.underlying 47 = some (.struct (Try.prog.fieldsOf 47)) := by kernel_rfl
theorem edgeStood : Try.prog.stoodInHeld 47 = false := by kernel_rfl
theorem eq_edge (a0 a1 a2 b0 b1 b2 : Int) (w : World) : (Op.equalIn 10000 47 (.agg #[.int .i64 a0, .int .i64 a1, .int .i64 a2]) (.agg #[.int .i64 b0, .int .i64 b1, .int .i64 b2])).run Try.prog w = Result.ok (a0 == b0 && a1 == b1 && a2 == b2) w := by
  rw [run_equalIn_struct w 9999 _ _ _ edgeUnder edgeStood]
  have hf := edgeFields
  generalize (Try.prog.fieldsOf 47).toList = fs at hf
  obtain ⟨p0, p1, p2⟩ := @part3 (.int .i64 a0) (.int .i64 a1) (.int .i64 a2) w
  obtain ⟨q0, q1, q2⟩ := @part3 (.int .i64 b0) (.int .i64 b1) (.int .i64 b2) w
  obtain ⟨f0, r0, rfl, h0, hf⟩ := List.map_eq_cons_iff.1 hf
  obtain ⟨f1, r1, rfl, h1, hf⟩ := List.map_eq_cons_iff.1 hf
  obtain ⟨f2, r2, rfl, h2, hf⟩ := List.map_eq_cons_iff.1 hf
  obtain rfl := List.map_eq_nil_iff.1 hf
  simp only [Prod.mk.injEq] at h0
  obtain ⟨n0, t0, o0⟩ := h0
  simp only [Prod.mk.injEq] at h1
  obtain ⟨n1, t1, o1⟩ := h1
  simp only [Prod.mk.injEq] at h2
  obtain ⟨n2, t2, o2⟩ := h2
  rw [eqFields_cons 9999 _ _ f0 [f1, f2] (.int .i64 a0) (.int .i64 b0) (a0 == b0) w n0 (by rw [t0, o0]; exact p0) (by rw [t0, o0]; exact q0) (by rw [t0]; exact eqI 9998 a0 b0 w)]
  rw [eqFields_cons 9999 _ _ f1 [f2] (.int .i64 a1) (.int .i64 b1) (a1 == b1) w n1 (by rw [t1, o1]; exact p1) (by rw [t1, o1]; exact q1) (by rw [t1]; exact eqI 9998 a1 b1 w)]
  rw [eqFields_cons 9999 _ _ f2 [] (.int .i64 a2) (.int .i64 b2) (a2 == b2) w n2 (by rw [t2, o2]; exact p2) (by rw [t2, o2]; exact q2) (by rw [t2]; exact eqI 9998 a2 b2 w)]
  cases a0 == b0 <;> cases a1 == b1 <;> cases a2 == b2 <;> simp [Op.eqFields]
theorem adjFields : (Try.prog.fieldsOf 41).toList.map (fun f => (f.name == "_", f.type, f.offset)) = [(false, 3, 0), (false, 3, 1)] := by kernel_rfl
theorem adjUnder : Try.prog.underlying 41 = some (.struct (Try.prog.fieldsOf 41)) := by kernel_rfl
theorem adjStood : Try.prog.stoodInHeld 41 = false := by kernel_rfl
theorem eq_adj (a0 a1 b0 b1 : Int) (w : World) : (Op.equalIn 10000 41 (.agg #[.int .i64 a0, .int .i64 a1]) (.agg #[.int .i64 b0, .int .i64 b1])).run Try.prog w = Result.ok (a0 == b0 && a1 == b1) w := by
  rw [run_equalIn_struct w 9999 _ _ _ adjUnder adjStood]
  have hf := adjFields
  generalize (Try.prog.fieldsOf 41).toList = fs at hf
  obtain ⟨p0, p1⟩ := @part2 (.int .i64 a0) (.int .i64 a1) w
  obtain ⟨q0, q1⟩ := @part2 (.int .i64 b0) (.int .i64 b1) w
  obtain ⟨f0, r0, rfl, h0, hf⟩ := List.map_eq_cons_iff.1 hf
  obtain ⟨f1, r1, rfl, h1, hf⟩ := List.map_eq_cons_iff.1 hf
  obtain rfl := List.map_eq_nil_iff.1 hf
  simp only [Prod.mk.injEq] at h0
  obtain ⟨n0, t0, o0⟩ := h0
  simp only [Prod.mk.injEq] at h1
  obtain ⟨n1, t1, o1⟩ := h1
  rw [eqFields_cons 9999 _ _ f0 [f1] (.int .i64 a0) (.int .i64 b0) (a0 == b0) w n0 (by rw [t0, o0]; exact p0) (by rw [t0, o0]; exact q0) (by rw [t0]; exact eqI 9998 a0 b0 w)]
  rw [eqFields_cons 9999 _ _ f1 [] (.int .i64 a1) (.int .i64 b1) (a1 == b1) w n1 (by rw [t1, o1]; exact p1) (by rw [t1, o1]; exact q1) (by rw [t1]; exact eqI 9998 a1 b1 w)]
  cases a0 == b0 <;> cases a1 == b1 <;> simp [Op.eqFields]
theorem linkFields : (Try.prog.fieldsOf 44).toList.map (fun f => (f.name == "_", f.type, f.offset)) = [(false, 3, 0), (false, 3, 1), (false, 3, 2)] := by kernel_rfl
theorem linkUnder : Try.prog.underlying 44 = some (.struct (Try.prog.fieldsOf 44)) := by kernel_rfl
theorem linkStood : Try.prog.stoodInHeld 44 = false := by kernel_rfl
theorem eq_link (a0 a1 a2 b0 b1 b2 : Int) (w : World) : (Op.equalIn 10000 44 (.agg #[.int .i64 a0, .int .i64 a1, .int .i64 a2]) (.agg #[.int .i64 b0, .int .i64 b1, .int .i64 b2])).run Try.prog w = Result.ok (a0 == b0 && a1 == b1 && a2 == b2) w := by
  rw [run_equalIn_struct w 9999 _ _ _ linkUnder linkStood]
  have hf := linkFields
  generalize (Try.prog.fieldsOf 44).toList = fs at hf
  obtain ⟨p0, p1, p2⟩ := @part3 (.int .i64 a0) (.int .i64 a1) (.int .i64 a2) w
  obtain ⟨q0, q1, q2⟩ := @part3 (.int .i64 b0) (.int .i64 b1) (.int .i64 b2) w
  obtain ⟨f0, r0, rfl, h0, hf⟩ := List.map_eq_cons_iff.1 hf
  obtain ⟨f1, r1, rfl, h1, hf⟩ := List.map_eq_cons_iff.1 hf
  obtain ⟨f2, r2, rfl, h2, hf⟩ := List.map_eq_cons_iff.1 hf
  obtain rfl := List.map_eq_nil_iff.1 hf
  simp only [Prod.mk.injEq] at h0
  obtain ⟨n0, t0, o0⟩ := h0
  simp only [Prod.mk.injEq] at h1
  obtain ⟨n1, t1, o1⟩ := h1
  simp only [Prod.mk.injEq] at h2
  obtain ⟨n2, t2, o2⟩ := h2
  rw [eqFields_cons 9999 _ _ f0 [f1, f2] (.int .i64 a0) (.int .i64 b0) (a0 == b0) w n0 (by rw [t0, o0]; exact p0) (by rw [t0, o0]; exact q0) (by rw [t0]; exact eqI 9998 a0 b0 w)]
  rw [eqFields_cons 9999 _ _ f1 [f2] (.int .i64 a1) (.int .i64 b1) (a1 == b1) w n1 (by rw [t1, o1]; exact p1) (by rw [t1, o1]; exact q1) (by rw [t1]; exact eqI 9998 a1 b1 w)]
  rw [eqFields_cons 9999 _ _ f2 [] (.int .i64 a2) (.int .i64 b2) (a2 == b2) w n2 (by rw [t2, o2]; exact p2) (by rw [t2, o2]; exact q2) (by rw [t2]; exact eqI 9998 a2 b2 w)]
  cases a0 == b0 <;> cases a1 == b1 <;> cases a2 == b2 <;> simp [Op.eqFields]

theorem rec_any (o : Int) (va : Option Addr) (n cap : Nat) (w : World) : Calls Try.prog 8 #[.int .i64 o, .slice va n cap] w fun e w' => e = .returned (.agg #[.int .i64 o, .int .u32 1, .int .u32 1, .int .i64 0, .bool false, .slice va n cap]) ∧ w' = w.alloc (.cells #[.int .i64 o, .int .u32 1, .int .u32 1, .int .i64 0, .bool false, .slice va n cap] 38) := by
  go_enter Try.func8, Try.ntmps8
  go_wp2
  refine bodyPost_ret (v := .agg #[.int .i64 o, .int .u32 1, .int .u32 1, .int .i64 0, .bool false, .slice va n cap]) (by simp [results, Try.results8, asAddr, Result.andThen, go_sem]) rfl ⟨rfl, rfl⟩
theorem slAt_block {α : Type} {cs : α → List Value} {sz : Nat} (hc : ∀ x, (cs x).length = sz) {w : World} {b : Nat} {T : TypeId} {l : List α} (h : w.heap[b]? = some (.cells (fl cs l).toArray T)) (hn : l.length ≤ 1000) : SlAt cs sz w (.slice (some ⟨b, 0, none⟩) l.length l.length) l := by
  refine ⟨_, _, rfl, by omega, Nat.le_refl _, fun _ => ⟨b, 0, rfl, block_lt h, fun j x hx i v hv => ?_⟩⟩
  have hi : i < sz := by have := (List.getElem?_eq_some_iff.1 hv).1; rwa [hc] at this
  rw [Nat.zero_add, cell_of_row w b _ _ T _ h, List.getElem?_toArray, fl_get hc l j i x hx hi, hv]
theorem slAt_nil {α : Type} (cs : α → List Value) (sz : Nat) (w : World) : SlAt cs sz w (.slice none 0 0) [] := ⟨none, 0, rfl, by simp, by simp, fun h => by simp at h⟩
/-- The three records. -/
def threeR : List Rc := [⟨1, 1, 1, 0, false, [(2, 5)]⟩, ⟨2, 1, 1, 0, false, [(1, 7), (3, 1)]⟩, ⟨3, 1, 1, 0, false, []⟩]
theorem three_any (w : World) : Calls Try.prog 5 #[] w fun e w' => (∃ v l, e = .returned v ∧ RecsAt w' v l ∧ rcs l = threeR) ∧ Below w.heap.size w w' := by
  go_enter Try.func5, Try.ntmps5
  go_wp2_with (go_at_call 8; refine (rec_any _ _ _ _ _).mono ?_; rintro e w1 ⟨rfl, hw1⟩; rw [hw1]; clear hw1 w1)
  go_ret
  refine ⟨⟨_, [(⟨1, 1, 1, 0, false, [(2, 5)]⟩, .slice (some ⟨w.heap.size, 0, none⟩) 1 1), (⟨2, 1, 1, 0, false, [(1, 7), (3, 1)]⟩, .slice (some ⟨w.heap.size + 1 + 1, 0, none⟩) 2 2), (⟨3, 1, 1, 0, false, []⟩, .slice none 0 0)], rfl, ⟨?_, ?_⟩, rfl⟩, by go_grown⟩
  · refine slAt_block (cs := rcc) (sz := 6) (fun _ => rfl) (T := 38) (l := [(⟨1, 1, 1, 0, false, [(2, 5)]⟩, .slice (some ⟨w.heap.size, 0, none⟩) 1 1), (⟨2, 1, 1, 0, false, [(1, 7), (3, 1)]⟩, .slice (some ⟨w.heap.size + 1 + 1, 0, none⟩) 2 2), (⟨3, 1, 1, 0, false, []⟩, .slice none 0 0)]) ?_ (by simp)
    have h := heap_alloc_last (((((w.alloc (.cells #[.int .i64 2, .int .i64 5] 41)).alloc (.cells #[.int .i64 1, .int .u32 1, .int .u32 1, .int .i64 0, .bool false, .slice (some ⟨w.heap.size, 0, none⟩) 1 1] 38)).alloc (.cells #[.int .i64 1, .int .i64 7, .int .i64 3, .int .i64 1] 41)).alloc (.cells #[.int .i64 2, .int .u32 1, .int .u32 1, .int .i64 0, .bool false, .slice (some ⟨w.heap.size + 1 + 1, 0, none⟩) 2 2] 38)).alloc (.cells #[.int .i64 3, .int .u32 1, .int .u32 1, .int .i64 0, .bool false, .slice none 0 0] 38))
      (.cells #[.int .i64 1, .int .u32 1, .int .u32 1, .int .i64 0, .bool false, .slice (some ⟨w.heap.size, 0, none⟩) 1 1, .int .i64 2, .int .u32 1, .int .u32 1, .int .i64 0, .bool false, .slice (some ⟨w.heap.size + 1 + 1, 0, none⟩) 2 2, .int .i64 3, .int .u32 1, .int .u32 1, .int .i64 0, .bool false, .slice none 0 0] 38)
    simp only [World.size_alloc] at h
    exact h
  · intro x hx
    simp only [List.mem_cons, List.not_mem_nil, or_false] at hx
    rcases hx with rfl | rfl | rfl
    · refine slAt_block (cs := ac) (fun _ => rfl) (T := 41) (l := [(2, 5)]) ?_ (by simp)
      rw [Below.heap_alloc _ _ _ (by simp; omega), Below.heap_alloc _ _ _ (by simp; omega), Below.heap_alloc _ _ _ (by simp; omega), Below.heap_alloc _ _ _ (by simp; omega), Below.heap_alloc _ _ _ (by simp)]
      exact heap_alloc_last w _
    · refine slAt_block (cs := ac) (fun _ => rfl) (T := 41) (l := [(1, 7), (3, 1)]) ?_ (by simp)
      rw [Below.heap_alloc _ _ _ (by simp), Below.heap_alloc _ _ _ (by simp), Below.heap_alloc _ _ _ (by simp)]
      have h := heap_alloc_last ((w.alloc (.cells #[.int .i64 2, .int .i64 5] 41)).alloc (.cells #[.int .i64 1, .int .u32 1, .int .u32 1, .int .i64 0, .bool false, .slice (some ⟨w.heap.size, 0, none⟩) 1 1] 38)) (.cells #[.int .i64 1, .int .i64 7, .int .i64 3, .int .i64 1] 41)
      simp only [World.size_alloc] at h
      exact h
    · exact slAt_nil _ _ _
theorem three_ok : bothOk no1 threeR = true := by decide
theorem three_n : bothN threeR = [1, 2, 3] := by decide
theorem three_e : bothE threeR = [(1, 2, 5), (2, 1, 7)] := by decide
theorem three_g : (graphOk [1, 2, 3] [(1, 2, 5), (2, 1, 7)] && hasN [1, 2, 3] 1) = true := by decide
theorem three_p {f : Nat → Bool} (h : IsPart [(1, 2, 5), (2, 1, 7)] 1 f) : markedL f = [1, 2] := by
  have k : IsPart [(1, 2, 5), (2, 1, 7)] 1 (mk1 (mk1 no1 1) 2) := by
    refine isPart_of (ns := [1, 2]) (by simp) (by simp) (fun i hi => ?_) (by decide) (by decide)
    rcases mk1_iff.1 hi with rfl | hi
    · exact (Rch.refl _ _).step (e := (1, 2, 5)) (by simp)
    · rcases mk1_iff.1 hi with rfl | hi
      · exact Rch.refl _ _
      · simp [no1] at hi
  rw [h.same k]
  decide
theorem grAt_of_rows {w : World} {base : Nat} {u v : Value} {ns : List Int} {es : List Ed} (hu : w.ownsRow base 3 1 u ns.length (fl ic ns)) (hv : w.ownsRow base 47 3 v es.length (fl ec es)) : GrAt w u v ns es :=
  ⟨slAt_of_row (cs := ic) (fun _ => rfl) hu rfl, slAt_of_row (cs := ec) (fun _ => rfl) hv rfl⟩
set_option maxRecDepth 100000 in
set_option maxHeartbeats 1000000 in
theorem works_ok (w : World) : Calls Try.prog 11 #[] w fun e w' => e = .returned (.bool true) ∧ Below w.heap.size w w' := by
  go_enter Try.func11, Try.ntmps11
  go_wp2_with fail
  refine (three_any w).mono ?_
  rintro e w1 ⟨⟨v, l, rfl, hR, hl⟩, hb1⟩
  have HC := hidIn (both_any hR)
  have HL := hidIn hl
  clear hR hl
  go_wp2_with fail
  refine HC.out.mono ?_
  rintro e w2 ⟨hans, hb2⟩
  unfold BothAns at hans
  rw [HL.out, three_ok, three_n, three_e] at hans
  obtain ⟨_, u, v2, rfl, hu, hv⟩ : true = true ∧ _ := by rcases hans with h | h; exact h; cases h.1
  obtain ⟨ua, ucap, rfl⟩ := row_shape hu
  obtain ⟨va, vcap, rfl⟩ := row_shape hv
  simp only [List.length_cons, List.length_nil, Nat.zero_add, Nat.reduceAdd] at hu hv ⊢
  have HB2 := hidIn (hb1.trans (hb2.mono hb1.size))
  have HGr := hidIn (grAt_of_rows (ns := [1, 2, 3]) (es := [(1, 2, 5), (2, 1, 7)]) hu hv)
  have bA : Below w2.heap.size w2 (w2.alloc (.cells #[.slice ua 3 ucap, .slice va 2 vcap] 25)) := (Below.refl _ w2).alloc (Nat.le_refl _) _
  have HP := hidIn (part_any (HGr.out.keep bA (Nat.le_refl _)) 1)
  have hGB := heap_alloc_last w2 (.cells #[.slice ua 3 ucap, .slice va 2 vcap] 25)
  have HB3 := hidIn (HB2.out.trans (bA.mono HB2.out.size))
  have g0 : (w2.alloc (.cells #[.slice ua 3 ucap, .slice va 2 vcap] 25)).cell? ⟨w2.heap.size, 0, none⟩ = some (.slice ua 3 ucap) := cell_of_row _ _ 0 _ _ _ hGB
  have g1 : (w2.alloc (.cells #[.slice ua 3 ucap, .slice va 2 vcap] 25)).cell? ⟨w2.heap.size, 1, none⟩ = some (.slice va 2 vcap) := cell_of_row _ _ 1 _ _ _ hGB
  have hlt : w2.heap.size < (w2.alloc (.cells #[.slice ua 3 ucap, .slice va 2 vcap] 25)).heap.size := by simp
  clear hu hv hb1 hb2 HC hans hGB
  go_upto_region 2 with fail
  have HG3 := hidIn (HGr.out.keep bA (Nat.le_refl _))
  clear bA HGr
  generalize w2.alloc (.cells #[.slice ua 3 ucap, .slice va 2 vcap] 25) = W3 at *
  generalize w2.heap.size = bg at *
  go_wp2_with fail
  refine HP.out.mono ?_
  rintro e w4 ⟨hans, hb4⟩
  unfold PartAns at hans
  rw [three_g] at hans
  obtain ⟨_, f, u, hf, rfl, hu⟩ : true = true ∧ _ := by rcases hans with h | h; exact h; cases h.1
  rw [three_p hf] at hu
  obtain ⟨pa, pcap, rfl⟩ := row_shape hu
  simp only [List.length_cons, List.length_nil, Nat.zero_add, Nat.reduceAdd] at hu ⊢
  obtain ⟨pa', pcap', he, _, _, hpc⟩ := (slAt_of_row (cs := ic) (l := [1, 2]) (fun _ => rfl) hu rfl).ints
  simp only [List.length_cons, List.length_nil, Nat.zero_add, Nat.reduceAdd, Value.slice.injEq, true_and] at he
  obtain ⟨rfl, rfl⟩ := he
  obtain ⟨pb, po, rfl, _, hpc⟩ := hpc (by simp)
  have p1 := hpc 1 2 rfl
  obtain ⟨va', vcap', he, _, _, hvc⟩ := (HG3.out.keep hb4 (Nat.le_refl _)).e.eds
  simp only [List.length_cons, List.length_nil, Nat.zero_add, Nat.reduceAdd, Value.slice.injEq, true_and] at he
  obtain ⟨rfl, rfl⟩ := he
  obtain ⟨vb, vo, rfl, _, hvc⟩ := hvc (by simp)
  obtain ⟨v0, v1, v2⟩ := hvc 0 (1, 2, 5) rfl
  simp only [Nat.zero_mul, Nat.add_zero] at v0 v1 v2
  have k0 := (hb4.cell (p := ⟨bg, 0, none⟩) hlt).trans g0
  have k1 := (hb4.cell (p := ⟨bg, 1, none⟩) hlt).trans g1
  have heq := eq_edge 1 2 5 1 2 5
  simp at heq
  have HB4 := hidIn (HB3.out.trans (hb4.mono HB3.out.size))
  clear hans hf hu hpc hvc hb4 g0 g1 HG3 HB3 HP HB2
  go_wp2_with fail
  go_ret
  exact ⟨rfl, HB4.out⟩
end Go.Proofs.Ytpifkhcjogilfab
