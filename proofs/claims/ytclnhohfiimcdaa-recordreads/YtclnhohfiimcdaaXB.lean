/- RecordBack. -/
import Derived.Test.YtclnhohfiimcdaaX7
import Derived.Test.YtclnhohfiimcdaaXE
namespace Go.Proofs.Ytclnhohfiimcdaa
open Go.RowKit

theorem enA_yes {r : Rc} (h : recOk r = true) : enA r = (encS r, 0) := by unfold enA; rw [h]; rfl
theorem enA_no {r : Rc} (h : recOk r = false) : enA r = (⟨#[]⟩, 2) := by unfold enA; rw [h]; rfl
theorem ckN_yes {r : Rc} (h : recOk r = true) : ckN r = 0 := by unfold ckN; rw [h]; rfl
theorem ckN_no {r : Rc} (h : recOk r = false) : ckN r = 2 := by unfold ckN; rw [h]; rfl
theorem deA_enc {r : Rc} (h : recOk r = true) (hb : RcB r) : deA (encS r) = (r, 0) := by rw [deA_yes (enc_ok h hb), (rd_enc h hb).1]
theorem sameB_self (r : Rc) : sameB r r = true := by simp [sameB]
theorem recOk_mayS {r : Rc} (h : recOk r = true) : mayS r.origin r.epoch r.seq = true := by rw [recOk_may] at h; simp only [Bool.and_eq_true] at h; exact h.1
theorem esA_rec {r : Rc} (h : recOk r = true) : esA r.origin r.epoch r.seq = (stS r.origin.toNat r.epoch.toNat r.seq.toNat, 0) := by unfold esA; rw [recOk_mayS h]; rfl
theorem dsA_st {o e q : Int} (h : mayS o e q = true) (he : 0 ≤ e ∧ e < 4294967296) (hq : 0 ≤ q ∧ q < 4294967296) : dsA (stS o.toNat e.toNat q.toNat) = ((o, e, q), 0) := by
  have h1 := (mayS_iff.1 h).1
  obtain ⟨t0, t1, t2⟩ := rd_st (o := o.toNat) (e := e.toNat) (s := q.toNat) (by omega) (by omega) (by omega)
  have e0 : ((o.toNat : Nat) : Int) = o := by omega
  have e1 : ((e.toNat : Nat) : Int) = e := by omega
  have e2 : ((q.toNat : Nat) : Int) = q := by omega
  have hok : stOk (stS o.toNat e.toNat q.toNat) = true := by
    unfold stOk
    rw [t0, t1, t2, e0, e1, e2, h, stS_size]
    rfl
  rw [dsA_yes hok, t0, t1, t2, e0, e1, e2]
/-- A record's own block, what lies behind it, in all worlds behind. -/
structure RkM (w V : World) (r : Rc) (va : Value) : Prop where
  x : V.heap[w.heap.size]? = some (recO r va)
  b : Below w.heap.size w V
theorem RkM.keep {w V V' : World} {r : Rc} {va : Value} (h : RkM w V r va) (hb : Below V.heap.size V V') : RkM w V' r va := ⟨(hb.block _ (block_lt h.x)).trans h.x, h.b.trans (hb.mono h.b.size)⟩
set_option maxRecDepth 100000 in
set_option maxHeartbeats 4000000 in
theorem recordBack_walk {r : Rc} {va : Value} {w : World} (hv : SlAt ac 2 w va r.adjs) (hrb : RcB r) (m : ByteArray) (hm : m.size ≤ 140737488351232) :
    Calls Try.prog 7 #[recV r va, .string m] w fun e w' => e = .returned (.bool true) ∧ Below w.heap.size w w' := by
  have HV := hidIn (fun V (h : Below w.heap.size w V) => hv.keep h (Nat.le_refl _))
  obtain ⟨aa, acap, rfl, _⟩ := hv.ads
  have HRb := hidIn hrb
  have Hm := hidIn hm
  obtain ⟨V1, hV1⟩ : ∃ V1, w.alloc (recO r (.slice aa r.adjs.length acap)) = V1 := ⟨_, rfl⟩
  have HM1 : Hid (RkM w V1 r (.slice aa r.adjs.length acap)) := hidIn ⟨by rw [← hV1]; exact heap_alloc_last w _, by rw [← hV1]; exact (Below.refl _ w).alloc (Nat.le_refl _) _⟩
  have HW := hidIn hV1
  clear hv hrb hm hV1
  have HEn := hidIn (fun V (h : RkM w V r (.slice aa r.adjs.length acap)) => encode_any (HV.out V h.b) HRb.out)
  have HCk := hidIn (fun V (h : RkM w V r (.slice aa r.adjs.length acap)) => rcheck_any (HV.out V h.b))
  have HSt := hidIn (fun V => stamp_any r aa r.adjs.length acap V)
  have HSm := hidIn (fun V (h : RkM w V r (.slice aa r.adjs.length acap)) (vb : Value) (hb : SlAt ac 2 V vb r.adjs) => recSame_any (r := r) (s := r) (va := vb) (vb := .slice aa r.adjs.length acap) hb (HV.out V h.b))
  rw [sameB_self] at HSm
  obtain ⟨ok, hok⟩ : ∃ ok, recOk r = ok := ⟨_, rfl⟩
  obtain ⟨O, E, Q, C, I, L⟩ := r
  simp only at HEn HCk HSt HSm HV HM1 HW ⊢
  obtain ⟨ln, hln⟩ : ∃ ln, L.length = ln := ⟨_, rfl⟩
  rw [hln] at HEn HCk HSt HSm HV HM1 HW ⊢
  have Hln := hidIn hln
  clear hln
  go_enter Try.func7, Try.ntmps7
  go_upto_region 1 with fail
  rw [HW.out]
  clear HW
  go_wp2_with fail
  refine (rworks_any _).mono ?_
  rintro e w2 ⟨rfl, hb2⟩
  have HM2 := hidIn (HM1.out.keep hb2)
  clear hb2 HM1
  have x0 := cell_of_row _ _ 0 _ _ _ HM2.out.x
  have x1 := cell_of_row _ _ 1 _ _ _ HM2.out.x
  have x2 := cell_of_row _ _ 2 _ _ _ HM2.out.x
  have x3 := cell_of_row _ _ 3 _ _ _ HM2.out.x
  have x4 := cell_of_row _ _ 4 _ _ _ HM2.out.x
  have x5 := cell_of_row _ _ 5 _ _ _ HM2.out.x
  simp at x0 x1 x2 x3 x4 x5
  go_wp2_with fail
  refine (HEn.out _ HM2.out).mono ?_
  rintro e w3 ⟨rfl, hb3⟩
  have HM3 := hidIn (HM2.out.keep hb3)
  clear hb3 HM2 x0 x1 x2 x3 x4 x5
  cases ok
  · rw [enA_no hok]
    rw [ckN_no hok] at HCk
    clear hok
    have x0 := cell_of_row _ _ 0 _ _ _ HM3.out.x
    have x1 := cell_of_row _ _ 1 _ _ _ HM3.out.x
    have x2 := cell_of_row _ _ 2 _ _ _ HM3.out.x
    have x3 := cell_of_row _ _ 3 _ _ _ HM3.out.x
    have x4 := cell_of_row _ _ 4 _ _ _ HM3.out.x
    have x5 := cell_of_row _ _ 5 _ _ _ HM3.out.x
    simp at x0 x1 x2 x3 x4 x5
    go_wp2_with fail
    refine (HCk.out _ HM3.out).mono ?_
    rintro e w4 ⟨rfl, hb4⟩
    have HM4 := hidIn (HM3.out.keep hb4)
    clear hb4 HM3 x0 x1 x2 x3 x4 x5
    go_wp2_with fail
    go_ret
    exact ⟨rfl, HM4.out.b⟩
  rw [enA_yes hok]
  rw [ckN_yes hok] at HCk
  have HSz := hidIn (encS_size (⟨O, E, Q, C, I, L⟩ : Rc))
  have HDe := hidIn (deA_enc hok HRb.out)
  have HOk := hidIn (enc_ok hok HRb.out)
  have HEs := hidIn (esA_rec hok)
  have HDs := hidIn (dsA_st (recOk_mayS hok) ⟨HRb.out.e0, HRb.out.e1⟩ ⟨HRb.out.s0, HRb.out.s1⟩)
  have HEx := hidIn (enc_st (⟨O, E, Q, C, I, L⟩ : Rc))
  have hl16 := (recOk_parts hok).2.1
  simp only at HEs HDs HEx HSz hl16
  rw [Hln.out] at hl16 HSz
  clear hok
  obtain ⟨s, hs⟩ : ∃ s, encS (⟨O, E, Q, C, I, L⟩ : Rc) = s := ⟨_, rfl⟩
  obtain ⟨t, ht⟩ : ∃ t, stS O.toNat E.toNat Q.toNat = t := ⟨_, rfl⟩
  rw [hs] at HSz HDe HOk HEx ⊢
  rw [ht] at HEs HDs HEx
  have htz : t.size = 9 := by rw [← ht]; exact stS_size _ _ _
  have hsz := HSz.out
  have hsm : s.size ≤ maxLen := by unfold maxLen; omega
  have HD := hidIn (fun w1 => decode_any s hsm w1)
  rw [HDe.out] at HD
  clear hs ht HDe
  go_wp2_with fail
  refine (HD.out _).mono ?_
  rintro e w4 ⟨⟨vb, rfl, hrow⟩, hb4⟩
  have HM4 := hidIn (HM3.out.keep hb4)
  obtain ⟨ba, bcap, rfl⟩ := row_shape hrow
  rw [Hln.out] at hrow ⊢
  have HRow := hidIn hrow
  clear hb4 hrow HM3 HD
  obtain ⟨V5, hV5⟩ : ∃ V5, w4.alloc (recO ⟨O, E, Q, C, I, L⟩ (.slice ba ln bcap)) = V5 := ⟨_, rfl⟩
  have b5 : Below w4.heap.size w4 V5 := by rw [← hV5]; exact (Below.refl _ w4).alloc (Nat.le_refl _) _
  have hY5 : V5.heap[w4.heap.size]? = some (recO ⟨O, E, Q, C, I, L⟩ (.slice ba ln bcap)) := by rw [← hV5]; exact heap_alloc_last w4 _
  have HM5 := hidIn (HM4.out.keep b5)
  obtain ⟨yb, hyb⟩ : ∃ yb, w4.heap.size = yb := ⟨_, rfl⟩
  rw [hyb] at hY5
  have HKY : Hid (∀ V, Below V5.heap.size V5 V → V.heap[yb]? = some (recO ⟨O, E, Q, C, I, L⟩ (.slice ba ln bcap)) ∧ SlAt ac 2 V (.slice ba ln bcap) L) := hidIn fun V h => ⟨(h.block _ (block_lt hY5)).trans hY5, (slAt_of_row (cs := ac) (fun _ => rfl) (by rw [Hln.out]; exact HRow.out) rfl : SlAt ac 2 w4 (.slice ba ln bcap) L).keep (b5.trans (h.mono b5.size)) (Nat.le_refl _)⟩
  have HW5 := hidIn hV5
  have Hyb := hidIn hyb
  clear hV5 b5 hyb HRow HM4 hY5
  have x0 := cell_of_row _ _ 0 _ _ _ HM5.out.x
  have x1 := cell_of_row _ _ 1 _ _ _ HM5.out.x
  have x2 := cell_of_row _ _ 2 _ _ _ HM5.out.x
  have x3 := cell_of_row _ _ 3 _ _ _ HM5.out.x
  have x4 := cell_of_row _ _ 4 _ _ _ HM5.out.x
  have x5 := cell_of_row _ _ 5 _ _ _ HM5.out.x
  simp at x0 x1 x2 x3 x4 x5
  go_upto_region 7 with fail
  rw [show w4.alloc _ = V5 from HW5.out, Hyb.out]
  clear HW5 Hyb
  go_wp2_with fail
  refine (HCk.out _ HM5.out).mono ?_
  rintro e w6 ⟨rfl, hb6⟩
  have HM6 := hidIn (HM5.out.keep hb6)
  have HB6 := hidIn hb6
  clear hb6 HM5 x0 x1 x2 x3 x4 x5
  obtain ⟨hY6, hS6⟩ := HKY.out w6 HB6.out
  have x0 := cell_of_row _ _ 0 _ _ _ HM6.out.x
  have x1 := cell_of_row _ _ 1 _ _ _ HM6.out.x
  have x2 := cell_of_row _ _ 2 _ _ _ HM6.out.x
  have x3 := cell_of_row _ _ 3 _ _ _ HM6.out.x
  have x4 := cell_of_row _ _ 4 _ _ _ HM6.out.x
  have x5 := cell_of_row _ _ 5 _ _ _ HM6.out.x
  simp at x0 x1 x2 x3 x4 x5
  have y0 := cell_of_row _ _ 0 _ _ _ hY6
  have y1 := cell_of_row _ _ 1 _ _ _ hY6
  have y2 := cell_of_row _ _ 2 _ _ _ hY6
  have y3 := cell_of_row _ _ 3 _ _ _ hY6
  have y4 := cell_of_row _ _ 4 _ _ _ hY6
  have y5 := cell_of_row _ _ 5 _ _ _ hY6
  simp at y0 y1 y2 y3 y4 y5
  have HSm6 := hidIn (HSm.out w6 HM6.out _ hS6)
  clear hY6 hS6 HKY HB6
  go_wp2_with fail
  refine HSm6.out.mono ?_
  rintro e w7 ⟨rfl, hb7⟩
  have HM7 := hidIn (HM6.out.keep hb7)
  clear hb7 HM6 HSm6 HSm x0 x1 x2 x3 x4 x5 y0 y1 y2 y3 y4 y5
  have HBad1 : Hid (0 < m.size → rdOk (s ++ m) = false) := hidIn fun h => rd_more HOk.out m h
  have HBad2 : Hid (∀ j, j < s.size → rdOk (s.extract 0 j) = false) := hidIn fun j h => rd_less HOk.out j h
  go_upto_if 52 with fail
  go_cut [5] (fun x wx => x = .string s ∧ Hid (RkM w wx ⟨O, E, Q, C, I, L⟩ (.slice aa ln acap)))
  case first =>
    have hml : m.data.toList.length = m.size := by simp
    by_cases hm0 : m.size = 0
    · have hme : m.toList = [] := by rw [ByteArray.toList_eq]; exact List.eq_nil_of_length_eq_zero (by omega)
      have hmb2 : (!m.toList.isEmpty) = false := by rw [hme]; rfl
      clear hm0 HBad1 HBad2 hml hme
      go_wp2_with fail
      all_goals first
        | exact absurd ‹(!m.toList.isEmpty) = true› (by rw [hmb2]; simp)
        | (go_meet; exact ⟨rfl, HM7⟩)
    have hmp : 0 < m.size := by omega
    have hmn : ¬ m.toList = [] := fun h => by
      rw [ByteArray.toList_eq] at h
      rw [h] at hml
      simp at hml
      omega
    have hmb2 : (!m.toList.isEmpty) = true := by simpa using hmn
    have h1 := HBad1.out hmp
    have hadd : ¬ 9223372036854775807 < s.size + m.size := by have := Hm.out; omega
    have HD1 := hidIn (fun w1 => decode_any (s ++ m) (by rw [app_size]; unfold maxLen; have := Hm.out; omega) w1)
    rw [deA_no h1] at HD1
    clear h1 hmn hml HBad1 hm0
    go_wp2_with fail
    rotate_left
    · exact absurd ‹(!m.toList.isEmpty) = false› (by rw [hmb2]; simp)
    refine (HD1.out _).mono ?_
    rintro e w8 ⟨⟨vc, rfl, hrow⟩, hb8⟩
    obtain ⟨ca, ccap, rfl⟩ := row_shape hrow
    have HM8 := hidIn (HM7.out.keep hb8)
    clear hb8 hrow HD1
    simp only [zeroR]
    generalize ([] : List (Int × Int)).length = z0
    go_upto_region 11 with fail
    have HM9 := hidIn (HM8.out.keep ((Below.refl _ w8).alloc (o := .cells #[.int .i64 0, .int .u32 0, .int .u32 0, .int .i64 0, .bool false, .slice ca z0 ccap] 25) (Nat.le_refl _)))
    generalize World.alloc w8 _ = V9 at HM9 ⊢
    have hs1 : s.size ≤ 100 := by omega
    have hs2 : 13 ≤ s.size := by omega
    clear hsz hadd
    by_cases hmm : m.size < s.size
    · have hmi : (m.size : Int) < (s.size : Int) := by omega
      have hj := HBad2.out (s.size - m.size) (by omega)
      have HD2 := hidIn (fun w1 => decode_any (s.extract 0 (s.size - m.size)) (by unfold maxLen; have : (s.extract 0 (s.size - m.size)).size ≤ s.size := by simp
                                                                                  omega) w1)
      rw [deA_no hj] at HD2
      clear hj HBad2
      go_wp2_with fail
      refine (HD2.out _).mono ?_
      rintro e w10 ⟨⟨vd, rfl, hrow⟩, hb10⟩
      obtain ⟨da, dcap, rfl⟩ := row_shape hrow
      have HM10 := hidIn (HM9.out.keep hb10)
      clear hb10 hrow HD2
      simp only [zeroR]
      generalize ([] : List (Int × Int)).length = z1
      have HM11 := hidIn (HM10.out.keep ((Below.refl _ w10).alloc (o := .cells #[.int .i64 0, .int .u32 0, .int .u32 0, .int .i64 0, .bool false, .slice da z1 dcap] 25) (Nat.le_refl _)))
      go_wp2_with fail
      go_meet
      exact ⟨rfl, hidIn HM11.out⟩
    · have hmi : ¬ (m.size : Int) < (s.size : Int) := by omega
      have HD2 := hidIn (fun w1 => decode_any ByteArray.empty (by decide) w1)
      rw [deA_no (by decide)] at HD2
      clear HBad2
      go_wp2_with fail
      refine (HD2.out _).mono ?_
      rintro e w10 ⟨⟨vd, rfl, hrow⟩, hb10⟩
      obtain ⟨da, dcap, rfl⟩ := row_shape hrow
      have HM10 := hidIn (HM9.out.keep hb10)
      clear hb10 hrow HD2
      simp only [zeroR]
      generalize ([] : List (Int × Int)).length = z1
      have HM11 := hidIn (HM10.out.keep ((Below.refl _ w10).alloc (o := .cells #[.int .i64 0, .int .u32 0, .int .u32 0, .int .i64 0, .bool false, .slice da z1 dcap] 25) (Nat.le_refl _)))
      go_wp2_with fail
      go_meet
      exact ⟨rfl, hidIn HM11.out⟩
  case rest =>
    obtain ⟨rfl, HM8⟩ := hcut
    clear HM7
    have hx := HM8.out.x
    have x0 := cell_of_row _ _ 0 _ _ _ hx
    have x1 := cell_of_row _ _ 1 _ _ _ hx
    have x2 := cell_of_row _ _ 2 _ _ _ hx
    have x3 := cell_of_row _ _ 3 _ _ _ hx
    have x4 := cell_of_row _ _ 4 _ _ _ hx
    have x5 := cell_of_row _ _ 5 _ _ _ hx
    simp at x0 x1 x2 x3 x4 x5
    clear hx
    go_wp2_with fail
    refine (HSt.out _).mono ?_
    rintro e w9 ⟨rfl, hb9⟩
    have HM9 := hidIn (HM8.out.keep hb9)
    clear hb9 HM8 x0 x1 x2 x3 x4 x5
    have HE := hidIn (fun w1 => encSt_any O E Q ⟨HRb.out.e0, HRb.out.e1⟩ ⟨HRb.out.s0, HRb.out.s1⟩ w1)
    rw [HEs.out] at HE
    go_wp2_with fail
    refine (HE.out _).mono ?_
    rintro e w10 ⟨rfl, hb10⟩
    have HM10 := hidIn (HM9.out.keep hb10)
    clear hb10 HM9 HE
    have HDd := hidIn (fun w1 => decSt_any t (by unfold maxLen; omega) w1)
    rw [HDs.out] at HDd
    go_wp2_with fail
    refine (HDd.out _).mono ?_
    rintro e w11 ⟨rfl, hb11⟩
    have HM11 := hidIn (HM10.out.keep hb11)
    clear hb11 HM10 HDd
    obtain ⟨V12, hV12⟩ : ∃ V12, w11.alloc (stO O E Q) = V12 := ⟨_, rfl⟩
    have b12 : Below w11.heap.size w11 V12 := by rw [← hV12]; exact (Below.refl _ w11).alloc (Nat.le_refl _) _
    have hS12 : V12.heap[w11.heap.size]? = some (stO O E Q) := by rw [← hV12]; exact heap_alloc_last w11 _
    have HM12 := hidIn (HM11.out.keep b12)
    obtain ⟨sb, hsb⟩ : ∃ sb, w11.heap.size = sb := ⟨_, rfl⟩
    rw [hsb] at hS12
    have HW12 := hidIn hV12
    have Hsb := hidIn hsb
    have q0 := cell_regrown (cell_of_row _ _ 0 _ _ _ hS12)
    have q1 := cell_regrown (cell_of_row _ _ 1 _ _ _ hS12)
    have q2 := cell_regrown (cell_of_row _ _ 2 _ _ _ hS12)
    have x0 := cell_regrown (cell_of_row _ _ 0 _ _ _ HM12.out.x)
    have x1 := cell_regrown (cell_of_row _ _ 1 _ _ _ HM12.out.x)
    have x2 := cell_regrown (cell_of_row _ _ 2 _ _ _ HM12.out.x)
    have x3 := cell_regrown (cell_of_row _ _ 3 _ _ _ HM12.out.x)
    have x4 := cell_regrown (cell_of_row _ _ 4 _ _ _ HM12.out.x)
    have x5 := cell_regrown (cell_of_row _ _ 5 _ _ _ HM12.out.x)
    simp at x0 x1 x2 x3 x4 x5
    simp at q0 q1 q2
    clear hV12 b12 hS12 hsb HM11
    simp only
    go_upto_region 16 with fail
    rw [show w11.alloc _ = V12 from HW12.out, Hsb.out]
    clear HW12 Hsb
    have hqs : ∀ w, (Op.equalIn 10000 32 (.agg #[.int .i64 O, .int .u32 E, .int .u32 Q]) (.agg #[.int .i64 O, .int .u32 E, .int .u32 Q])).run Try.prog w = Result.ok true w := fun w => by rw [eq_stamp]; simp
    have hs9 : (9 : Int) ≤ (s.size : Int) := by omega
    have heq : (t.toList == (s.extract 0 9).toList) = true := by rw [HEx.out]; simp
    refine wp_region_quiet_below (by kernel_rfl) (by kernel_rfl) ?_
    repeat (go_big_quiet_step (first | (go_at_call 14; exact Calls.regrown_of (stamp_lit _ _ _ _ _ _ _ _ _))))
    refine wpQuiet_nil ?_
    intro _ hw'
    obtain ⟨⟨dq, osq⟩, hw''⟩ := hw'
    subst hw''
    have HB4 := hidIn (HM12.out.b.trans ((below_regrown V12 dq osq).mono HM12.out.b.size))
    generalize Go.Sort.grow (redrawn V12 dq) osq = W4 at HB4 ⊢
    clear x0 x1 x2 x3 x4 x5 q0 q1 q2 hqs heq
    go_wp2_with fail
    go_ret
    exact ⟨rfl, HB4.out⟩
end Go.Proofs.Ytclnhohfiimcdaa
