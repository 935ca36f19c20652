/- PickKnown. -/
import Derived.Test.YtcgndpenalcpeaaD9
import Derived.Test.YtcgndpenalcpeaaDT
namespace Go.Proofs.Ytcgndpenalcpeaa
open Go.RowKit

theorem nil_sl (w : World) : SlAt ic 1 w (.slice none 0 0) [] := ⟨none, 0, rfl, by simp, by simp, fun h => by simp at h⟩
theorem below_new (w : World) (o : Obj) : Below w.heap.size w (w.alloc o) := (Below.refl _ w).alloc (Nat.le_refl _) _
theorem kn0 : rkL 0 [1, 2, 3] = [3, 2, 1] ∧ rkE [1, 2, 3] = 0 := rank_lit (by decide) (by decide) (by decide) (by decide)
theorem kn1 : rkL 1 [1, 2, 3] = [1, 3, 2] ∧ rkE [1, 2, 3] = 0 := rank_lit (by decide) (by decide) (by decide) (by decide)
theorem kn2 : spL [1, 2, 3] 10 = [6, 0, 4] ∧ spE [1, 2, 3] 10 = 0 := by decide
theorem kn3 : chN 5 [7] = 7 ∧ chE [7] = 0 := by decide
theorem kn4 : chN 5 ([] : List Int) = 0 ∧ chE ([] : List Int) = 6 := by decide
theorem kn5 : chN 5 [2, 1] = 0 ∧ chE [2, 1] = 2 := by decide
theorem kn6 : chN 5 [0, 1] = 0 ∧ chE [0, 1] = 2 := by decide
theorem kn7 : rkL 5 [25] = [] ∧ rkE [25] = 2 := rk_no 5 (by decide)
theorem kn8 : spL [3] 10 = [10] ∧ spE [3] 10 = 0 := by decide
theorem kn9 : spL ([] : List Int) 5 = [] ∧ spE ([] : List Int) 5 = 0 := by decide
theorem kn10 : spL [1, 2] 4097 = [] ∧ spE [1, 2] 4097 = 3 := by decide
theorem kn11 : spL [1] (-1) = [] ∧ spE [1] (-1) = 2 := by decide
theorem kx0 : mix 0 0 = 0 := by decide
theorem kx1 : mix 0 1 = 301794027 := by decide
theorem kx2 : mix 1 0 = 1364076727 := by decide
set_option maxRecDepth 100000 in
set_option maxHeartbeats 4000000 in
theorem pickKnown_walk (w : World) : Calls Try.prog 8 #[] w fun x w' => x = .returned (.bool true) ∧ Below w.heap.size w w' := by
  have HT0 := hidIn (lit_sl w [1, 2, 3] (by decide))
  have HB0 := hidIn (below_new w (.cells #[.int .i64 1, .int .i64 2, .int .i64 3] 3))
  obtain ⟨w0, hw0⟩ : ∃ w0, w.alloc (.cells #[.int .i64 1, .int .i64 2, .int .i64 3] 3) = w0 := ⟨_, rfl⟩
  have HW0 := hidIn hw0
  have HTT : Hid (SlAt ic 1 w0 (.slice (some ⟨w.heap.size, 0, none⟩) 3 3) [1, 2, 3]) := hidIn (by rw [← hw0]; exact HT0.out)
  have HBB : Hid (Below w.heap.size w w0) := hidIn (by rw [← hw0]; exact HB0.out)
  clear HT0 HB0 hw0
  go_enter Try.func8, Try.ntmps8
  go_upto_region 2 with fail
  rw [HW0.out]
  clear HW0
  have HC0 := hidIn (rank2_any (e := 0) (by decide) HTT.out (nilOk_some _ _ _))
  rw [kn0.1, kn0.2] at HC0
  go_wp2_with fail
  refine HC0.out.mono ?_
  rintro x w1 ⟨⟨a0, c0, rfl, hr0⟩, hb0⟩
  have hk0 : Below w0.heap.size w0 w1 := hb0
  have HB20 := hidIn (HBB.out.trans (hk0.mono HBB.out.size))
  clear HBB
  have HBB := HB20
  clear HB20
  have HXTT := hidIn (HTT.out.keep hk0 (Nat.le_refl _))
  clear HTT
  have HTT := HXTT
  clear HXTT
  have Ha := hidIn (row_sl hr0)
  clear hb0 hk0 HC0 hr0
  simp only [List.length_cons, List.length_nil]
  have HC1 := hidIn (rank2_any (e := 1) (by decide) HTT.out (nilOk_some _ _ _))
  rw [kn1.1, kn1.2] at HC1
  go_wp2_with fail
  refine HC1.out.mono ?_
  rintro x w2 ⟨⟨a1, c1, rfl, hr1⟩, hb1⟩
  have hk1 : Below w1.heap.size w1 w2 := hb1
  have HB21 := hidIn (HBB.out.trans (hk1.mono HBB.out.size))
  clear HBB
  have HBB := HB21
  clear HB21
  have HXTT := hidIn (HTT.out.keep hk1 (Nat.le_refl _))
  clear HTT
  have HTT := HXTT
  clear HXTT
  have HXa := hidIn (Ha.out.keep hk1 (Nat.le_refl _))
  clear Ha
  have Ha := HXa
  clear HXa
  have Hb := hidIn (row_sl hr1)
  clear hb1 hk1 HC1 hr1
  simp only [List.length_cons, List.length_nil]
  have HC2 := hidIn (spread_any HTT.out 10 (by decide))
  rw [kn2.1, kn2.2] at HC2
  go_wp2_with fail
  refine HC2.out.mono ?_
  rintro x w3 ⟨a2, c2, rfl, hr2, hb2⟩
  have hk2 : Below w2.heap.size w2 w3 := hb2
  have HB22 := hidIn (HBB.out.trans (hk2.mono HBB.out.size))
  clear HBB
  have HBB := HB22
  clear HB22
  have HXa := hidIn (Ha.out.keep hk2 (Nat.le_refl _))
  clear Ha
  have Ha := HXa
  clear HXa
  have HXb := hidIn (Hb.out.keep hk2 (Nat.le_refl _))
  clear Hb
  have Hb := HXb
  clear HXb
  have Hc := hidIn (row_sl hr2)
  clear hb2 hk2 HC2 hr2
  simp only [List.length_cons, List.length_nil]
  have HC3 := hidIn (choose_any (e := 5) (by decide) (lit_sl w3 [7] (by decide)))
  rw [kn3.1, kn3.2] at HC3
  have HN3 := hidIn (below_new w3 (.cells #[.int .i64 7] 3))
  go_wp2_with fail
  refine HC3.out.mono ?_
  rintro x w4 ⟨rfl, hb3⟩
  have hk3 : Below w3.heap.size w3 w4 := HN3.out.trans (hb3.mono HN3.out.size)
  have HB23 := hidIn (HBB.out.trans (hk3.mono HBB.out.size))
  clear HBB
  have HBB := HB23
  clear HB23
  have HXa := hidIn (Ha.out.keep hk3 (Nat.le_refl _))
  clear Ha
  have Ha := HXa
  clear HXa
  have HXb := hidIn (Hb.out.keep hk3 (Nat.le_refl _))
  clear Hb
  have Hb := HXb
  clear HXb
  have HXc := hidIn (Hc.out.keep hk3 (Nat.le_refl _))
  clear Hc
  have Hc := HXc
  clear HXc
  clear hb3 hk3 HC3 HN3
  have HC4 := hidIn (choose_any (e := 5) (by decide) (nil_sl w4))
  rw [kn4.1, kn4.2] at HC4
  go_wp2_with fail
  refine HC4.out.mono ?_
  rintro x w5 ⟨rfl, hb4⟩
  have hk4 : Below w4.heap.size w4 w5 := hb4
  have HB24 := hidIn (HBB.out.trans (hk4.mono HBB.out.size))
  clear HBB
  have HBB := HB24
  clear HB24
  have HXa := hidIn (Ha.out.keep hk4 (Nat.le_refl _))
  clear Ha
  have Ha := HXa
  clear HXa
  have HXb := hidIn (Hb.out.keep hk4 (Nat.le_refl _))
  clear Hb
  have Hb := HXb
  clear HXb
  have HXc := hidIn (Hc.out.keep hk4 (Nat.le_refl _))
  clear Hc
  have Hc := HXc
  clear HXc
  clear hb4 hk4 HC4
  have HC5 := hidIn (choose_any (e := 5) (by decide) (lit_sl w5 [2, 1] (by decide)))
  rw [kn5.1, kn5.2] at HC5
  have HN5 := hidIn (below_new w5 (.cells #[.int .i64 2, .int .i64 1] 3))
  go_wp2_with fail
  refine HC5.out.mono ?_
  rintro x w6 ⟨rfl, hb5⟩
  have hk5 : Below w5.heap.size w5 w6 := HN5.out.trans (hb5.mono HN5.out.size)
  have HB25 := hidIn (HBB.out.trans (hk5.mono HBB.out.size))
  clear HBB
  have HBB := HB25
  clear HB25
  have HXa := hidIn (Ha.out.keep hk5 (Nat.le_refl _))
  clear Ha
  have Ha := HXa
  clear HXa
  have HXb := hidIn (Hb.out.keep hk5 (Nat.le_refl _))
  clear Hb
  have Hb := HXb
  clear HXb
  have HXc := hidIn (Hc.out.keep hk5 (Nat.le_refl _))
  clear Hc
  have Hc := HXc
  clear HXc
  clear hb5 hk5 HC5 HN5
  have HC6 := hidIn (choose_any (e := 5) (by decide) (lit_sl w6 [0, 1] (by decide)))
  rw [kn6.1, kn6.2] at HC6
  have HN6 := hidIn (below_new w6 (.cells #[.int .i64 0, .int .i64 1] 3))
  go_wp2_with fail
  refine HC6.out.mono ?_
  rintro x w7 ⟨rfl, hb6⟩
  have hk6 : Below w6.heap.size w6 w7 := HN6.out.trans (hb6.mono HN6.out.size)
  have HB26 := hidIn (HBB.out.trans (hk6.mono HBB.out.size))
  clear HBB
  have HBB := HB26
  clear HB26
  have HXa := hidIn (Ha.out.keep hk6 (Nat.le_refl _))
  clear Ha
  have Ha := HXa
  clear HXa
  have HXb := hidIn (Hb.out.keep hk6 (Nat.le_refl _))
  clear Hb
  have Hb := HXb
  clear HXb
  have HXc := hidIn (Hc.out.keep hk6 (Nat.le_refl _))
  clear Hc
  have Hc := HXc
  clear HXc
  clear hb6 hk6 HC6 HN6
  have HC7 := hidIn (rank2_any (e := 5) (by decide) (lit_sl w7 [25] (by decide)) (nilOk_some _ _ _))
  rw [kn7.1, kn7.2] at HC7
  have HN7 := hidIn (below_new w7 (.cells #[.int .i64 25] 3))
  go_wp2_with fail
  refine HC7.out.mono ?_
  rintro x w8 ⟨⟨a7, c7, rfl, hr7⟩, hb7⟩
  have hk7 : Below w7.heap.size w7 w8 := HN7.out.trans (hb7.mono HN7.out.size)
  have HB27 := hidIn (HBB.out.trans (hk7.mono HBB.out.size))
  clear HBB
  have HBB := HB27
  clear HB27
  have HXa := hidIn (Ha.out.keep hk7 (Nat.le_refl _))
  clear Ha
  have Ha := HXa
  clear HXa
  have HXb := hidIn (Hb.out.keep hk7 (Nat.le_refl _))
  clear Hb
  have Hb := HXb
  clear HXb
  have HXc := hidIn (Hc.out.keep hk7 (Nat.le_refl _))
  clear Hc
  have Hc := HXc
  clear HXc
  clear hb7 hk7 HC7 HN7 hr7
  simp only [List.length_nil]
  have HC8 := hidIn (spread_any (lit_sl w8 [3] (by decide)) 10 (by decide))
  rw [kn8.1, kn8.2] at HC8
  have HN8 := hidIn (below_new w8 (.cells #[.int .i64 3] 3))
  go_wp2_with fail
  refine HC8.out.mono ?_
  rintro x w9 ⟨a8, c8, rfl, hr8, hb8⟩
  have hk8 : Below w8.heap.size w8 w9 := HN8.out.trans (hb8.mono HN8.out.size)
  have HB28 := hidIn (HBB.out.trans (hk8.mono HBB.out.size))
  clear HBB
  have HBB := HB28
  clear HB28
  have HXa := hidIn (Ha.out.keep hk8 (Nat.le_refl _))
  clear Ha
  have Ha := HXa
  clear HXa
  have HXb := hidIn (Hb.out.keep hk8 (Nat.le_refl _))
  clear Hb
  have Hb := HXb
  clear HXb
  have HXc := hidIn (Hc.out.keep hk8 (Nat.le_refl _))
  clear Hc
  have Hc := HXc
  clear HXc
  have Hd := hidIn (row_sl hr8)
  clear hb8 hk8 HC8 HN8 hr8
  simp only [List.length_cons, List.length_nil]
  have HC9 := hidIn (spread_any (nil_sl w9) 5 (by decide))
  rw [kn9.1, kn9.2] at HC9
  go_wp2_with fail
  refine HC9.out.mono ?_
  rintro x w10 ⟨a9, c9, rfl, hr9, hb9⟩
  have hk9 : Below w9.heap.size w9 w10 := hb9
  have HB29 := hidIn (HBB.out.trans (hk9.mono HBB.out.size))
  clear HBB
  have HBB := HB29
  clear HB29
  have HXa := hidIn (Ha.out.keep hk9 (Nat.le_refl _))
  clear Ha
  have Ha := HXa
  clear HXa
  have HXb := hidIn (Hb.out.keep hk9 (Nat.le_refl _))
  clear Hb
  have Hb := HXb
  clear HXb
  have HXc := hidIn (Hc.out.keep hk9 (Nat.le_refl _))
  clear Hc
  have Hc := HXc
  clear HXc
  have HXd := hidIn (Hd.out.keep hk9 (Nat.le_refl _))
  clear Hd
  have Hd := HXd
  clear HXd
  clear hb9 hk9 HC9 hr9
  simp only [List.length_nil]
  have HC10 := hidIn (spread_any (lit_sl w10 [1, 2] (by decide)) 4097 (by decide))
  rw [kn10.1, kn10.2] at HC10
  have HN10 := hidIn (below_new w10 (.cells #[.int .i64 1, .int .i64 2] 3))
  go_wp2_with fail
  refine HC10.out.mono ?_
  rintro x w11 ⟨a10, c10, rfl, hr10, hb10⟩
  have hk10 : Below w10.heap.size w10 w11 := HN10.out.trans (hb10.mono HN10.out.size)
  have HB30 := hidIn (HBB.out.trans (hk10.mono HBB.out.size))
  clear HBB
  have HBB := HB30
  clear HB30
  have HXa := hidIn (Ha.out.keep hk10 (Nat.le_refl _))
  clear Ha
  have Ha := HXa
  clear HXa
  have HXb := hidIn (Hb.out.keep hk10 (Nat.le_refl _))
  clear Hb
  have Hb := HXb
  clear HXb
  have HXc := hidIn (Hc.out.keep hk10 (Nat.le_refl _))
  clear Hc
  have Hc := HXc
  clear HXc
  have HXd := hidIn (Hd.out.keep hk10 (Nat.le_refl _))
  clear Hd
  have Hd := HXd
  clear HXd
  clear hb10 hk10 HC10 HN10 hr10
  simp only [List.length_nil]
  have HC11 := hidIn (spread_any (lit_sl w11 [1] (by decide)) (-1) (by decide))
  rw [kn11.1, kn11.2] at HC11
  have HN11 := hidIn (below_new w11 (.cells #[.int .i64 1] 3))
  go_wp2_with fail
  refine HC11.out.mono ?_
  rintro x w12 ⟨a11, c11, rfl, hr11, hb11⟩
  have hk11 : Below w11.heap.size w11 w12 := HN11.out.trans (hb11.mono HN11.out.size)
  have HB31 := hidIn (HBB.out.trans (hk11.mono HBB.out.size))
  clear HBB
  have HBB := HB31
  clear HB31
  have HXa := hidIn (Ha.out.keep hk11 (Nat.le_refl _))
  clear Ha
  have Ha := HXa
  clear HXa
  have HXb := hidIn (Hb.out.keep hk11 (Nat.le_refl _))
  clear Hb
  have Hb := HXb
  clear HXb
  have HXc := hidIn (Hc.out.keep hk11 (Nat.le_refl _))
  clear Hc
  have Hc := HXc
  clear HXc
  have HXd := hidIn (Hd.out.keep hk11 (Nat.le_refl _))
  clear Hd
  have Hd := HXd
  clear HXd
  clear hb11 hk11 HC11 HN11 hr11
  simp only [List.length_nil]
  go_wp2_with fail
  refine (pworks_any _).mono ?_
  rintro x v0 ⟨rfl, hk0⟩
  have HV := hidIn (HBB.out.trans (hk0.mono HBB.out.size))
  have HXa := hidIn (Ha.out.keep hk0 (Nat.le_refl _))
  clear Ha
  have Ha := HXa
  clear HXa
  have HXb := hidIn (Hb.out.keep hk0 (Nat.le_refl _))
  clear Hb
  have Hb := HXb
  clear HXb
  have HXc := hidIn (Hc.out.keep hk0 (Nat.le_refl _))
  clear Hc
  have Hc := HXc
  clear HXc
  have HXd := hidIn (Hd.out.keep hk0 (Nat.le_refl _))
  clear Hd
  have Hd := HXd
  clear HXd
  clear hk0 HBB
  have hn0 := below_new v0 (.cells #[.int .i64 3, .int .i64 2, .int .i64 1] 3)
  have HS0 := hidIn (lsame_any (Ha.out.keep hn0 (Nat.le_refl _)) (lit_sl v0 [3, 2, 1] (by decide)))
  have hs0 : (([3, 2, 1] : List Int) == [3, 2, 1]) = true := by decide
  rw [hs0] at HS0
  have HN0 := hidIn hn0
  clear hs0 hn0 Ha
  go_wp2_with fail
  refine HS0.out.mono ?_
  rintro x v1 ⟨rfl, q0, hw0⟩
  have hk0 : Below v0.heap.size v0 v1 := by rw [hw0]; exact below_drewN HN0.out _
  have HV0 := hidIn (HV.out.trans (hk0.mono HV.out.size))
  clear HV
  have HV := HV0
  clear HV0
  have HXb := hidIn (Hb.out.keep hk0 (Nat.le_refl _))
  clear Hb
  have Hb := HXb
  clear HXb
  have HXc := hidIn (Hc.out.keep hk0 (Nat.le_refl _))
  clear Hc
  have Hc := HXc
  clear HXc
  have HXd := hidIn (Hd.out.keep hk0 (Nat.le_refl _))
  clear Hd
  have Hd := HXd
  clear HXd
  clear hk0 hw0 HS0 HN0
  have hn1 := below_new v1 (.cells #[.int .i64 1, .int .i64 3, .int .i64 2] 3)
  have HS1 := hidIn (lsame_any (Hb.out.keep hn1 (Nat.le_refl _)) (lit_sl v1 [1, 3, 2] (by decide)))
  have hs1 : (([1, 3, 2] : List Int) == [1, 3, 2]) = true := by decide
  rw [hs1] at HS1
  have HN1 := hidIn hn1
  clear hs1 hn1 Hb
  go_wp2_with fail
  refine HS1.out.mono ?_
  rintro x v2 ⟨rfl, q1, hw1⟩
  have hk1 : Below v1.heap.size v1 v2 := by rw [hw1]; exact below_drewN HN1.out _
  have HV1 := hidIn (HV.out.trans (hk1.mono HV.out.size))
  clear HV
  have HV := HV1
  clear HV1
  have HXc := hidIn (Hc.out.keep hk1 (Nat.le_refl _))
  clear Hc
  have Hc := HXc
  clear HXc
  have HXd := hidIn (Hd.out.keep hk1 (Nat.le_refl _))
  clear Hd
  have Hd := HXd
  clear HXd
  clear hk1 hw1 HS1 HN1
  have hn2 := below_new v2 (.cells #[.int .i64 6, .int .i64 0, .int .i64 4] 3)
  have HS2 := hidIn (lsame_any (Hc.out.keep hn2 (Nat.le_refl _)) (lit_sl v2 [6, 0, 4] (by decide)))
  have hs2 : (([6, 0, 4] : List Int) == [6, 0, 4]) = true := by decide
  rw [hs2] at HS2
  have HN2 := hidIn hn2
  clear hs2 hn2 Hc
  go_wp2_with fail
  refine HS2.out.mono ?_
  rintro x v3 ⟨rfl, q2, hw2⟩
  have hk2 : Below v2.heap.size v2 v3 := by rw [hw2]; exact below_drewN HN2.out _
  have HV2 := hidIn (HV.out.trans (hk2.mono HV.out.size))
  clear HV
  have HV := HV2
  clear HV2
  have HXd := hidIn (Hd.out.keep hk2 (Nat.le_refl _))
  clear Hd
  have Hd := HXd
  clear HXd
  clear hk2 hw2 HS2 HN2
  have hn3 := below_new v3 (.cells #[.int .i64 10] 3)
  have HS3 := hidIn (lsame_any (Hd.out.keep hn3 (Nat.le_refl _)) (lit_sl v3 [10] (by decide)))
  have hs3 : (([10] : List Int) == [10]) = true := by decide
  rw [hs3] at HS3
  have HN3 := hidIn hn3
  clear hs3 hn3 Hd
  go_wp2_with fail
  refine HS3.out.mono ?_
  rintro x v4 ⟨rfl, q3, hw3⟩
  have hk3 : Below v3.heap.size v3 v4 := by rw [hw3]; exact below_drewN HN3.out _
  have HV3 := hidIn (HV.out.trans (hk3.mono HV.out.size))
  clear HV
  have HV := HV3
  clear HV3
  clear hk3 hw3 HS3 HN3
  have HM0 := hidIn (mix_any (e := 0) (by decide) 0 v4)
  rw [kx0] at HM0
  go_wp2_with fail
  refine HM0.out.mono ?_
  rintro x u0 ⟨rfl, hu0⟩
  rw [hu0]
  clear hu0 u0 HM0
  have HM1 := hidIn (mix_any (e := 0) (by decide) 1 v4)
  rw [kx1] at HM1
  go_wp2_with fail
  refine HM1.out.mono ?_
  rintro x u1 ⟨rfl, hu1⟩
  rw [hu1]
  clear hu1 u1 HM1
  have HM2 := hidIn (mix_any (e := 1) (by decide) 0 v4)
  rw [kx2] at HM2
  go_wp2_with fail
  refine HM2.out.mono ?_
  rintro x u2 ⟨rfl, hu2⟩
  rw [hu2]
  clear hu2 u2 HM2
  go_wp2_with fail
  go_ret
  exact ⟨rfl, HV.out⟩
end Go.Proofs.Ytcgndpenalcpeaa
