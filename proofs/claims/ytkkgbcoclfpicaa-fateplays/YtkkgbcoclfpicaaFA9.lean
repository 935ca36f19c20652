/- fate: fates and rules compared; the laws' example, works. -/
import Derived.Test.YtkkgbcoclfpicaaFA8
import Derived.Test.YtkkgbcoclfpicaaGC
namespace Go.Proofs.Ytkkgbcoclfpicaa.Fa
open Go.RowKit

theorem eqI (d : Nat) (x y : Int) (w : World) : (Op.equalIn (d + 1) 3 (.int .i64 x) (.int .i64 y)).run Try.prog w = .ok (x == y) w := run_equalIn_int w d _ _ _ x y Try.underlying3
theorem partFt {x0 x1 x2 : Value} (w : World) : (part 3 #[x0, x1, x2] 0).run Try.prog w = .ok x0 w ∧ (part 3 #[x0, x1, x2] 1).run Try.prog w = .ok x1 w ∧ (part 3 #[x0, x1, x2] 2).run Try.prog w = .ok x2 w := ⟨by kernel_rfl, by kernel_rfl, by kernel_rfl⟩
theorem FtFields : (Try.prog.fieldsOf 38).toList.map (fun f => (f.name == "_", f.type, f.offset)) = [(false, 3, 0), (false, 3, 1), (false, 3, 2)] := by kernel_rfl
theorem FtUnder : Try.prog.underlying 38 = some (.struct (Try.prog.fieldsOf 38)) := by kernel_rfl
theorem FtStood : Try.prog.stoodInHeld 38 = false := by kernel_rfl
theorem eq_Ft (a0 a1 a2 b0 b1 b2 : Int) (w : World) : (Op.equalIn 10000 38 (.agg #[.int .i64 a0, .int .i64 a1, .int .i64 a2]) (.agg #[.int .i64 b0, .int .i64 b1, .int .i64 b2])).run Try.prog w = .ok (a0 == b0 && a1 == b1 && a2 == b2) w := by
  rw [run_equalIn_struct w 9999 _ _ _ FtUnder FtStood]
  have hf := FtFields
  generalize (Try.prog.fieldsOf 38).toList = fs at hf
  obtain ⟨p0, p1, p2⟩ := @partFt (.int .i64 a0) (.int .i64 a1) (.int .i64 a2) w
  obtain ⟨q0, q1, q2⟩ := @partFt (.int .i64 b0) (.int .i64 b1) (.int .i64 b2) w
  obtain ⟨f0, r0, rfl, h0, hf⟩ := List.map_eq_cons_iff.1 hf
  obtain ⟨f1, r1, rfl, h1, hf⟩ := List.map_eq_cons_iff.1 hf
  obtain ⟨f2, r2, rfl, h2, hf⟩ := List.map_eq_cons_iff.1 hf
  obtain rfl := List.map_eq_nil_iff.1 hf
  simp only [Prod.mk.injEq] at h0
  obtain ⟨n0, t0, o0⟩ := h0
  simp only [Prod.mk.injEq] at h1
  obtain ⟨n1, t1, o1⟩ := h1
  simp only [Prod.mk.injEq] at h2
  obtain ⟨n2, t2, o2⟩ := h2
  rw [eqFields_cons 9999 _ _ f0 [f1, f2] (.int .i64 a0) (.int .i64 b0) (a0 == b0) w n0 (by rw [t0, o0]; exact p0) (by rw [t0, o0]; exact q0) (by rw [t0]; exact eqI 9998 a0 b0 w)]
  rw [eqFields_cons 9999 _ _ f1 [f2] (.int .i64 a1) (.int .i64 b1) (a1 == b1) w n1 (by rw [t1, o1]; exact p1) (by rw [t1, o1]; exact q1) (by rw [t1]; exact eqI 9998 a1 b1 w)]
  rw [eqFields_cons 9999 _ _ f2 [] (.int .i64 a2) (.int .i64 b2) (a2 == b2) w n2 (by rw [t2, o2]; exact p2) (by rw [t2, o2]; exact q2) (by rw [t2]; exact eqI 9998 a2 b2 w)]
  cases a0 == b0 <;> cases a1 == b1 <;> cases a2 == b2 <;> simp [Op.eqFields]
theorem partRu {x0 x1 x2 x3 x4 : Value} (w : World) : (part 3 #[x0, x1, x2, x3, x4] 0).run Try.prog w = .ok x0 w ∧ (part 3 #[x0, x1, x2, x3, x4] 1).run Try.prog w = .ok x1 w ∧ (part 3 #[x0, x1, x2, x3, x4] 2).run Try.prog w = .ok x2 w ∧ (part 3 #[x0, x1, x2, x3, x4] 3).run Try.prog w = .ok x3 w ∧ (part 3 #[x0, x1, x2, x3, x4] 4).run Try.prog w = .ok x4 w := ⟨by kernel_rfl, by kernel_rfl, by kernel_rfl, by kernel_rfl, by kernel_rfl⟩
theorem RuFields : (Try.prog.fieldsOf 32).toList.map (fun f => (f.name == "_", f.type, f.offset)) = [(false, 3, 0), (false, 3, 1), (false, 3, 2), (false, 3, 3), (false, 3, 4)] := by kernel_rfl
theorem RuUnder : Try.prog.underlying 32 = some (.struct (Try.prog.fieldsOf 32)) := by kernel_rfl
theorem RuStood : Try.prog.stoodInHeld 32 = false := by kernel_rfl
theorem eq_Ru (a0 a1 a2 a3 a4 b0 b1 b2 b3 b4 : Int) (w : World) : (Op.equalIn 10000 32 (.agg #[.int .i64 a0, .int .i64 a1, .int .i64 a2, .int .i64 a3, .int .i64 a4]) (.agg #[.int .i64 b0, .int .i64 b1, .int .i64 b2, .int .i64 b3, .int .i64 b4])).run Try.prog w = .ok (a0 == b0 && a1 == b1 && a2 == b2 && a3 == b3 && a4 == b4) w := by
  rw [run_equalIn_struct w 9999 _ _ _ RuUnder RuStood]
  have hf := RuFields
  generalize (Try.prog.fieldsOf 32).toList = fs at hf
  obtain ⟨p0, p1, p2, p3, p4⟩ := @partRu (.int .i64 a0) (.int .i64 a1) (.int .i64 a2) (.int .i64 a3) (.int .i64 a4) w
  obtain ⟨q0, q1, q2, q3, q4⟩ := @partRu (.int .i64 b0) (.int .i64 b1) (.int .i64 b2) (.int .i64 b3) (.int .i64 b4) w
  obtain ⟨f0, r0, rfl, h0, hf⟩ := List.map_eq_cons_iff.1 hf
  obtain ⟨f1, r1, rfl, h1, hf⟩ := List.map_eq_cons_iff.1 hf
  obtain ⟨f2, r2, rfl, h2, hf⟩ := List.map_eq_cons_iff.1 hf
  obtain ⟨f3, r3, rfl, h3, hf⟩ := List.map_eq_cons_iff.1 hf
  obtain ⟨f4, r4, rfl, h4, hf⟩ := List.map_eq_cons_iff.1 hf
  obtain rfl := List.map_eq_nil_iff.1 hf
  simp only [Prod.mk.injEq] at h0
  obtain ⟨n0, t0, o0⟩ := h0
  simp only [Prod.mk.injEq] at h1
  obtain ⟨n1, t1, o1⟩ := h1
  simp only [Prod.mk.injEq] at h2
  obtain ⟨n2, t2, o2⟩ := h2
  simp only [Prod.mk.injEq] at h3
  obtain ⟨n3, t3, o3⟩ := h3
  simp only [Prod.mk.injEq] at h4
  obtain ⟨n4, t4, o4⟩ := h4
  rw [eqFields_cons 9999 _ _ f0 [f1, f2, f3, f4] (.int .i64 a0) (.int .i64 b0) (a0 == b0) w n0 (by rw [t0, o0]; exact p0) (by rw [t0, o0]; exact q0) (by rw [t0]; exact eqI 9998 a0 b0 w)]
  rw [eqFields_cons 9999 _ _ f1 [f2, f3, f4] (.int .i64 a1) (.int .i64 b1) (a1 == b1) w n1 (by rw [t1, o1]; exact p1) (by rw [t1, o1]; exact q1) (by rw [t1]; exact eqI 9998 a1 b1 w)]
  rw [eqFields_cons 9999 _ _ f2 [f3, f4] (.int .i64 a2) (.int .i64 b2) (a2 == b2) w n2 (by rw [t2, o2]; exact p2) (by rw [t2, o2]; exact q2) (by rw [t2]; exact eqI 9998 a2 b2 w)]
  rw [eqFields_cons 9999 _ _ f3 [f4] (.int .i64 a3) (.int .i64 b3) (a3 == b3) w n3 (by rw [t3, o3]; exact p3) (by rw [t3, o3]; exact q3) (by rw [t3]; exact eqI 9998 a3 b3 w)]
  rw [eqFields_cons 9999 _ _ f4 [] (.int .i64 a4) (.int .i64 b4) (a4 == b4) w n4 (by rw [t4, o4]; exact p4) (by rw [t4, o4]; exact q4) (by rw [t4]; exact eqI 9998 a4 b4 w)]
  cases a0 == b0 <;> cases a1 == b1 <;> cases a2 == b2 <;> cases a3 == b3 <;> cases a4 == b4 <;> simp [Op.eqFields]

theorem slAt_block {α : Type} {cs : α → List Value} {sz : Nat} (hc : ∀ x, (cs x).length = sz) {w : World} {b cap : Nat} {T : TypeId} {l : List α} (h : w.heap[b]? = some (.cells (fl cs l).toArray T)) (hl : l.length ≤ cap) (hm : cap ≤ 9223372036854775807) : SlAt cs sz w (.slice (some ⟨b, 0, none⟩) l.length cap) l := by
  refine ⟨_, cap, rfl, by omega, hl, fun _ => ⟨b, 0, rfl, block_lt h, fun j x hx i u hu => ?_⟩⟩
  have hi : i < sz := by have := (List.getElem?_eq_some_iff.1 hu).1; rwa [hc] at this
  rw [Nat.zero_add, cell_of_row w b _ _ T _ h, List.getElem?_toArray, fl_get hc l j i x hx hi]
  exact hu
/-- The chapter's rules. -/
def exR : List Ru := [(1, 2, 2, 1, 0), (1, 2, 3, 2, 4), (2, 1, 1, 3, 9)]
theorem exR_chk : chkR exR = (0, 0) := by decide
theorem exR_ok : RsOk exR := (chk_ok exR_chk).1
theorem fask_rest {P m : Nat} {l : List Ru} (hl : RsOk l) {c : Nat → Nat → Int} {w : World} (h : PlAt w P m (restR l c) c) {a b : Nat} (hp : isP a b = true) (hc : 0 ≤ c a b ∧ c a b < 1000000000) :
    Calls Try.prog 10 #[pp P, .int .i64 a, .int .i64 b] w fun e w' => e = .returned (.tuple #[ftV (ftO (findR l ((a : Int), (b : Int), c a b + 1))), .int .i64 0]) ∧ PlAt w' P m (restR l (put2 c a b (c a b + 1))) (put2 c a b (c a b + 1)) ∧ Fr (fun j => j = P ∨ j = m) w w' := by
  have := fask_yes h hp hc
  rw [rest_find, rest_drop hl] at this
  exact this
set_option maxRecDepth 100000 in
set_option maxHeartbeats 1000000 in
theorem fexample_any (w : World) : Calls Try.prog 22 #[] w fun e w' => (∃ v, e = .returned v ∧ SlAt ruC 5 w' v exR) ∧ Below w.heap.size w w' := by
  go_enter Try.func22, Try.ntmps22
  go_wp2
  go_ret
  refine ⟨⟨_, rfl, slAt_block (cs := ruC) (l := exR) (sz := 5) (fun _ => rfl) (T := 32) (cap := 3) ?_ (by decide) (by omega)⟩, by go_grown⟩
  exact heap_alloc_last w _
/-- What the chapter's example asks. -/
theorem fw_ask (a b : Nat) (c c' : Nat → Nat → Int) (f : Ft) (hp : isP a b = true) (hc : 0 ≤ c a b ∧ c a b < 1000000000) (hc' : put2 c a b (c a b + 1) = c') (hf : ftO (findR exR ((a : Int), (b : Int), c a b + 1)) = f) {P m : Nat} {w : World} (h : PlAt w P m (restR exR c) c) :
    Calls Try.prog 10 #[pp P, .int .i64 a, .int .i64 b] w fun e w' => e = .returned (.tuple #[ftV f, .int .i64 0]) ∧ PlAt w' P m (restR exR c') c' ∧ Fr (fun j => j = P ∨ j = m) w w' := by
  have := fask_rest exR_ok h hp hc
  rw [hc', hf] at this
  exact this
set_option maxRecDepth 100000 in
set_option maxHeartbeats 2000000 in
theorem fworks_any (w : World) : Calls Try.prog 9 #[] w fun e w' => e = .returned (.bool true) ∧ Below w.heap.size w w' := by
  obtain ⟨c1, hc1⟩ : ∃ c1, put2 no2 1 2 (no2 1 2 + 1) = c1 := ⟨_, rfl⟩
  obtain ⟨c2, hc2⟩ : ∃ c2, put2 c1 1 2 (c1 1 2 + 1) = c2 := ⟨_, rfl⟩
  obtain ⟨c3, hc3⟩ : ∃ c3, put2 c2 1 2 (c2 1 2 + 1) = c3 := ⟨_, rfl⟩
  obtain ⟨c4, hc4⟩ : ∃ c4, put2 c3 2 1 (c3 2 1 + 1) = c4 := ⟨_, rfl⟩
  have e1 : c1 1 2 = 1 ∧ c1 2 1 = 0 := by rw [← hc1]; decide
  have e2 : c2 1 2 = 2 ∧ c2 2 1 = 0 := by rw [← hc2]; simp [put2, e1]
  have e3 : c3 1 2 = 3 ∧ c3 2 1 = 0 := by rw [← hc3]; simp [put2, e2]
  have e4 : c4 1 2 = 3 ∧ c4 2 1 = 1 := by rw [← hc4]; simp [put2, e3]
  have HL : Hid (restR exR c4 = []) := hidIn (by simp [restR, exR, e4])
  have HA1 := fun P m w (h : PlAt w P m (restR exR no2) no2) => hidIn (fw_ask 1 2 no2 c1 (1, 0, 0) (by decide) (by decide) hc1 (by decide) h)
  have HA2 := fun P m w (h : PlAt w P m (restR exR c1) c1) => hidIn (fw_ask 1 2 c1 c2 (0, 0, 0) (by decide) (by rw [e1.1]; omega) hc2 (by rw [e1.1]; decide) h)
  have HA3 := fun P m w (h : PlAt w P m (restR exR c2) c2) => hidIn (fw_ask 1 2 c2 c3 (2, 0, 4) (by decide) (by rw [e2.1]; omega) hc3 (by rw [e2.1]; decide) h)
  have HA4 := fun P m w (h : PlAt w P m (restR exR c3) c3) => hidIn (fw_ask 2 1 c3 c4 (1, 9, 0) (by decide) (by rw [e3.2]; omega) hc4 (by rw [e3.2]; decide) h)
  clear hc1 hc2 hc3 hc4 e1 e2 e3 e4
  go_enter Try.func9, Try.ntmps9
  go_wp2_with fail
  refine (fexample_any w).mono ?_
  rintro e w1 ⟨⟨v, rfl, hv⟩, hb1⟩
  have HB1 := hidIn hb1
  have HNw := hidIn (fnew_ok hv exR_chk)
  clear hv hb1
  go_wp2_with fail
  refine HNw.out.mono ?_
  rintro e w2 ⟨P, m, rfl, hP, hPl, hml, hb2⟩
  have HP2 : Hid (PlAt w2 P m (restR exR no2) no2) := hidIn (by rw [rest_new exR_ok]; exact hP)
  have HB2 := hidIn (HB1.out.trans (hb2.mono HB1.out.size))
  have HPl : Hid (w.heap.size ≤ P) := hidIn (by have := HB1.out.size; omega)
  have Hml : Hid (w.heap.size ≤ m) := hidIn (by have := HB1.out.size; omega)
  clear hP hPl hml hb2 HB1 HNw
  go_wp2_with fail
  refine (HA1 P m _ HP2.out).out.mono ?_
  rintro e v1 ⟨rfl, hP, hF⟩
  have hVb := HB2.out.trans (hF.below HB2.out.size (fun j hj => by have := HPl.out; have := Hml.out; omega))
  obtain ⟨w3, hw⟩ : ∃ W, v1.alloc (.cells #[.int .i64 1, .int .i64 0, .int .i64 0] 38) = W := ⟨_, rfl⟩
  have hvw : Below v1.heap.size v1 w3 := by rw [← hw]; exact (Below.refl _ v1).alloc (Nat.le_refl _) _
  have HP3 := hidIn (hP.below hvw hP.b.lt hP.m.lt)
  have HB3 := hidIn (hVb.trans (hvw.mono hVb.size))
  obtain ⟨x1, hx⟩ : ∃ x, v1.heap.size = x := ⟨_, rfl⟩
  have HX1 : Hid (w3.heap[x1]? = some (.cells #[.int .i64 1, .int .i64 0, .int .i64 0] 38) ∧ x1 ≠ P ∧ x1 ≠ m) := hidIn ⟨by rw [← hw, ← hx]; exact heap_alloc_last v1 _, by have := hP.b.lt; omega, by have := hP.m.lt; omega⟩
  have HW := hidIn hw
  have Hx := hidIn hx
  clear hP hF hVb hvw hw hx HP2 HB2 HA1
  go_upto_region 5 with fail
  rw [HW.out, Hx.out]
  clear HW Hx
  go_wp2_with fail
  refine (HA2 P m _ HP3.out).out.mono ?_
  rintro e v2 ⟨rfl, hP, hF⟩
  have hVb := HB3.out.trans (hF.below HB3.out.size (fun j hj => by have := HPl.out; have := Hml.out; omega))
  obtain ⟨w4, hw⟩ : ∃ W, v2.alloc (.cells #[.int .i64 0, .int .i64 0, .int .i64 0] 38) = W := ⟨_, rfl⟩
  have hvw : Below v2.heap.size v2 w4 := by rw [← hw]; exact (Below.refl _ v2).alloc (Nat.le_refl _) _
  have HP4 := hidIn (hP.below hvw hP.b.lt hP.m.lt)
  have HB4 := hidIn (hVb.trans (hvw.mono hVb.size))
  have HX1n := hidIn ((hvw.block _ (block_lt ((hF.block _ (block_lt HX1.out.1) (fun hj => by have := HX1.out.2; omega)).trans HX1.out.1))).trans ((hF.block _ (block_lt HX1.out.1) (fun hj => by have := HX1.out.2; omega)).trans HX1.out.1))
  obtain ⟨x2, hx⟩ : ∃ x, v2.heap.size = x := ⟨_, rfl⟩
  have HX2 : Hid (w4.heap[x2]? = some (.cells #[.int .i64 0, .int .i64 0, .int .i64 0] 38) ∧ x2 ≠ P ∧ x2 ≠ m) := hidIn ⟨by rw [← hw, ← hx]; exact heap_alloc_last v2 _, by have := hP.b.lt; omega, by have := hP.m.lt; omega⟩
  have HX1m : Hid (w4.heap[x1]? = some (.cells #[.int .i64 1, .int .i64 0, .int .i64 0] 38) ∧ x1 ≠ P ∧ x1 ≠ m) := hidIn ⟨HX1n.out, HX1.out.2⟩
  clear HX1 HX1n
  have HX1 := HX1m
  clear HX1m
  have HW := hidIn hw
  have Hx := hidIn hx
  clear hP hF hVb hvw hw hx HP3 HB3 HA2
  go_upto_region 6 with fail
  rw [HW.out, Hx.out]
  clear HW Hx
  go_wp2_with fail
  refine (HA3 P m _ HP4.out).out.mono ?_
  rintro e v3 ⟨rfl, hP, hF⟩
  have hVb := HB4.out.trans (hF.below HB4.out.size (fun j hj => by have := HPl.out; have := Hml.out; omega))
  obtain ⟨w5, hw⟩ : ∃ W, v3.alloc (.cells #[.int .i64 2, .int .i64 0, .int .i64 4] 38) = W := ⟨_, rfl⟩
  have hvw : Below v3.heap.size v3 w5 := by rw [← hw]; exact (Below.refl _ v3).alloc (Nat.le_refl _) _
  have HP5 := hidIn (hP.below hvw hP.b.lt hP.m.lt)
  have HB5 := hidIn (hVb.trans (hvw.mono hVb.size))
  have HX1n := hidIn ((hvw.block _ (block_lt ((hF.block _ (block_lt HX1.out.1) (fun hj => by have := HX1.out.2; omega)).trans HX1.out.1))).trans ((hF.block _ (block_lt HX1.out.1) (fun hj => by have := HX1.out.2; omega)).trans HX1.out.1))
  have HX2n := hidIn ((hvw.block _ (block_lt ((hF.block _ (block_lt HX2.out.1) (fun hj => by have := HX2.out.2; omega)).trans HX2.out.1))).trans ((hF.block _ (block_lt HX2.out.1) (fun hj => by have := HX2.out.2; omega)).trans HX2.out.1))
  obtain ⟨x3, hx⟩ : ∃ x, v3.heap.size = x := ⟨_, rfl⟩
  have HX3 : Hid (w5.heap[x3]? = some (.cells #[.int .i64 2, .int .i64 0, .int .i64 4] 38) ∧ x3 ≠ P ∧ x3 ≠ m) := hidIn ⟨by rw [← hw, ← hx]; exact heap_alloc_last v3 _, by have := hP.b.lt; omega, by have := hP.m.lt; omega⟩
  have HX1m : Hid (w5.heap[x1]? = some (.cells #[.int .i64 1, .int .i64 0, .int .i64 0] 38) ∧ x1 ≠ P ∧ x1 ≠ m) := hidIn ⟨HX1n.out, HX1.out.2⟩
  clear HX1 HX1n
  have HX1 := HX1m
  clear HX1m
  have HX2m : Hid (w5.heap[x2]? = some (.cells #[.int .i64 0, .int .i64 0, .int .i64 0] 38) ∧ x2 ≠ P ∧ x2 ≠ m) := hidIn ⟨HX2n.out, HX2.out.2⟩
  clear HX2 HX2n
  have HX2 := HX2m
  clear HX2m
  have HW := hidIn hw
  have Hx := hidIn hx
  clear hP hF hVb hvw hw hx HP4 HB4 HA3
  go_upto_region 7 with fail
  rw [HW.out, Hx.out]
  clear HW Hx
  go_wp2_with fail
  refine (HA4 P m _ HP5.out).out.mono ?_
  rintro e v4 ⟨rfl, hP, hF⟩
  have hVb := HB5.out.trans (hF.below HB5.out.size (fun j hj => by have := HPl.out; have := Hml.out; omega))
  obtain ⟨w6, hw⟩ : ∃ W, v4.alloc (.cells #[.int .i64 1, .int .i64 9, .int .i64 0] 38) = W := ⟨_, rfl⟩
  have hvw : Below v4.heap.size v4 w6 := by rw [← hw]; exact (Below.refl _ v4).alloc (Nat.le_refl _) _
  have HP6 := hidIn (hP.below hvw hP.b.lt hP.m.lt)
  have HB6 := hidIn (hVb.trans (hvw.mono hVb.size))
  have HX1n := hidIn ((hvw.block _ (block_lt ((hF.block _ (block_lt HX1.out.1) (fun hj => by have := HX1.out.2; omega)).trans HX1.out.1))).trans ((hF.block _ (block_lt HX1.out.1) (fun hj => by have := HX1.out.2; omega)).trans HX1.out.1))
  have HX2n := hidIn ((hvw.block _ (block_lt ((hF.block _ (block_lt HX2.out.1) (fun hj => by have := HX2.out.2; omega)).trans HX2.out.1))).trans ((hF.block _ (block_lt HX2.out.1) (fun hj => by have := HX2.out.2; omega)).trans HX2.out.1))
  have HX3n := hidIn ((hvw.block _ (block_lt ((hF.block _ (block_lt HX3.out.1) (fun hj => by have := HX3.out.2; omega)).trans HX3.out.1))).trans ((hF.block _ (block_lt HX3.out.1) (fun hj => by have := HX3.out.2; omega)).trans HX3.out.1))
  obtain ⟨x4, hx⟩ : ∃ x, v4.heap.size = x := ⟨_, rfl⟩
  have HX4 : Hid (w6.heap[x4]? = some (.cells #[.int .i64 1, .int .i64 9, .int .i64 0] 38) ∧ x4 ≠ P ∧ x4 ≠ m) := hidIn ⟨by rw [← hw, ← hx]; exact heap_alloc_last v4 _, by have := hP.b.lt; omega, by have := hP.m.lt; omega⟩
  have HX1m : Hid (w6.heap[x1]? = some (.cells #[.int .i64 1, .int .i64 0, .int .i64 0] 38) ∧ x1 ≠ P ∧ x1 ≠ m) := hidIn ⟨HX1n.out, HX1.out.2⟩
  clear HX1 HX1n
  have HX1 := HX1m
  clear HX1m
  have HX2m : Hid (w6.heap[x2]? = some (.cells #[.int .i64 0, .int .i64 0, .int .i64 0] 38) ∧ x2 ≠ P ∧ x2 ≠ m) := hidIn ⟨HX2n.out, HX2.out.2⟩
  clear HX2 HX2n
  have HX2 := HX2m
  clear HX2m
  have HX3m : Hid (w6.heap[x3]? = some (.cells #[.int .i64 2, .int .i64 0, .int .i64 4] 38) ∧ x3 ≠ P ∧ x3 ≠ m) := hidIn ⟨HX3n.out, HX3.out.2⟩
  clear HX3 HX3n
  have HX3 := HX3m
  clear HX3m
  have HW := hidIn hw
  have Hx := hidIn hx
  clear hP hF hVb hvw hw hx HP5 HB5 HA4
  go_upto_region 8 with fail
  rw [HW.out, Hx.out]
  clear HW Hx
  have c10 := cell_of_row _ _ 0 _ _ _ HX1.out.1
  have c11 := cell_of_row _ _ 1 _ _ _ HX1.out.1
  have c12 := cell_of_row _ _ 2 _ _ _ HX1.out.1
  have c20 := cell_of_row _ _ 0 _ _ _ HX2.out.1
  have c21 := cell_of_row _ _ 1 _ _ _ HX2.out.1
  have c22 := cell_of_row _ _ 2 _ _ _ HX2.out.1
  have c30 := cell_of_row _ _ 0 _ _ _ HX3.out.1
  have c31 := cell_of_row _ _ 1 _ _ _ HX3.out.1
  have c32 := cell_of_row _ _ 2 _ _ _ HX3.out.1
  have c40 := cell_of_row _ _ 0 _ _ _ HX4.out.1
  have c41 := cell_of_row _ _ 1 _ _ _ HX4.out.1
  have c42 := cell_of_row _ _ 2 _ _ _ HX4.out.1
  simp at c10 c11 c12 c20 c21 c22 c30 c31 c32 c40 c41 c42
  have HLf := hidIn (fleft_any HP6.out)
  rw [HL.out] at HLf
  have hq := fun a0 a1 a2 b0 b1 b2 w => eq_Ft a0 a1 a2 b0 b1 b2 w
  go_wp2_with (go_at_call 14; refine HLf.out.mono ?_; rintro e w7 ⟨rfl, hw7⟩; rw [hw7]; clear hw7 w7)
  go_ret
  exact ⟨rfl, HB6.out⟩
end Go.Proofs.Ytkkgbcoclfpicaa.Fa
