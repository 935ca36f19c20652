/- The document's router, MayStamp, put, take, Newer, EncodeStamp. -/
import Derived.Test.YtclnhohfiimcdaaXB
import Derived.Test.YtclnhohfiimcdaaXO
import Derived.Test.YtclnhohfiimcdaaR3
import Derived.Test.YtclnhohfiimcdaaR5
namespace Go.Proofs.Ytclnhohfiimcdaa
open Go.RowKit

theorem drt_any (n : Int) (w : World) : Calls Try.prog 33 #[.int .i64 n] w fun e w' => e = .returned (.bool (isR n)) ∧ w' = w := by
  by_cases h1 : 1 ≤ n
  · by_cases h2 : n ≤ 24
    · go_enter Try.func33, Try.ntmps33
      go_wp2
      go_ret
      exact ⟨by simp [isR, h1, h2], rfl⟩
    · go_enter Try.func33, Try.ntmps33
      go_wp2
      go_ret
      exact ⟨by simp [isR, h1]; omega, rfl⟩
  · go_enter Try.func33, Try.ntmps33
    go_wp2
    go_ret
    exact ⟨by simp [isR]; omega, rfl⟩
set_option maxHeartbeats 1000000 in
theorem dmayS_any (o e s : Int) (w : World) : Calls Try.prog 37 #[stV o e s] w fun r w' => r = .returned (.bool (mayS o e s)) ∧ Below w.heap.size w w' := by
  have hb0 : Below w.heap.size w (w.alloc (stO o e s)) := (Below.refl _ w).alloc (Nat.le_refl _) _
  go_enter Try.func37, Try.ntmps37
  go_wp2_with fail
  refine (drt_any o _).mono ?_
  rintro e' w2 ⟨rfl, hw2⟩
  rw [hw2]
  clear hw2 w2
  obtain ⟨b1, hb1⟩ : ∃ b1, isR o = b1 := ⟨_, rfl⟩
  have Hb1 := hidIn hb1
  rw [hb1]
  clear hb1
  cases b1
  · go_wp2_with fail
    go_ret
    exact ⟨by simp [mayS, Hb1.out], hb0⟩
  by_cases h1 : 0 < e
  · by_cases h2 : 0 < s
    · go_wp2_with fail
      go_ret
      exact ⟨by simp [mayS, Hb1.out, h1, h2], hb0⟩
    · go_wp2_with fail
      go_ret
      exact ⟨by simp [mayS, Hb1.out]; omega, hb0⟩
  · go_wp2_with fail
    go_ret
    exact ⟨by simp [mayS, Hb1.out]; omega, hb0⟩
theorem dtake_any (b : ByteArray) (a n : Nat) (hb : b.size ≤ maxLen) (ha : a ≤ 1000000) (hn : n = 1 ∨ n = 2 ∨ n = 4) (w : World) :
    Calls Try.prog 36 #[.string b, .int .i64 a, .int .i64 n] w fun e w' => e = .returned (.int .u64 (tkz b a n : Nat)) ∧ w' = w := by
  obtain ⟨c, hc⟩ : ∃ c : Int, Calls Try.prog 50 #[.string b, .int .i64 a, .int .i64 n] w fun e w' => e = .returned (.tuple #[.int .u64 (tkz b a n : Nat), .int .i64 c]) ∧ w' = w := by
    unfold tkz
    by_cases h : a + n ≤ b.size
    · rw [if_pos h]
      exact ⟨0, Wi.rtake_ok b a n hb (by omega) h w⟩
    · rw [if_neg h]
      exact ⟨4, Wi.rtake_form b a n hb (by omega) (by omega) (by omega) w⟩
  have HC := hidIn hc
  clear hc
  generalize tkz b a n = T at *
  go_enter Try.func36, Try.ntmps36
  go_wp2_with fail
  refine HC.out.mono ?_
  rintro e w2 ⟨rfl, hw2⟩
  rw [hw2]
  clear hw2 w2 HC
  go_wp2_with fail
  go_ret
  exact ⟨rfl, rfl⟩
theorem dput2_any (b : ByteArray) (v n : Nat) (hb : b.size ≤ 1000000) (hn : NumB v n) (w : World) :
    Calls Try.prog 44 #[.string b, .int .u64 v, .int .i64 n] w fun e w' => e = .returned (.tuple #[.string (b ++ ly v n), .int .i64 0]) ∧ Below w.heap.size w w' := by
  unfold ly
  rcases hn with ⟨rfl, h⟩ | ⟨rfl, h⟩ | ⟨rfl, h⟩
  · exact Wi.rput_ok b v 1 (by omega) (by omega) (by simp) (Nat.lt_of_lt_of_le h (by decide)) w
  · exact Wi.rput_ok b v 2 (by omega) (by omega) (by simp) (Nat.lt_of_lt_of_le h (by decide)) w
  · exact Wi.rput_ok b v 4 (by omega) (by omega) (by simp) (Nat.lt_of_lt_of_le h (by decide)) w
/-- Numbers laid behind one another. -/
abbrev uc (z : Nat) : List Value := [.int .u64 (z : Nat)]
def putS (ps : List (Nat × Nat)) : ByteArray := ps.foldl (fun s p => s ++ ly p.1 p.2) ⟨#[]⟩
def flP (ps : List (Nat × Nat)) : List Nat := ps.flatMap fun p => [p.1, p.2]
theorem putS_snoc (ps : List (Nat × Nat)) (p : Nat × Nat) : putS (ps ++ [p]) = putS ps ++ ly p.1 p.2 := by simp [putS, List.foldl_append]
theorem flP_get : ∀ (ps : List (Nat × Nat)) (k : Nat) (p : Nat × Nat), ps[k]? = some p → (flP ps)[2 * k]? = some p.1 ∧ (flP ps)[2 * k + 1]? = some p.2
  | [], k, p, h => by simp at h
  | q :: ps, 0, p, h => by simp at h; subst h; exact ⟨rfl, rfl⟩
  | q :: ps, k + 1, p, h => by
    have := flP_get ps k p (by simpa using h)
    have e : flP (q :: ps) = q.1 :: q.2 :: flP ps := by simp [flP]
    rw [e, show 2 * (k + 1) = 2 * k + 1 + 1 from by omega]
    simpa using this
theorem flP_len (ps : List (Nat × Nat)) : (flP ps).length = 2 * ps.length := by
  induction ps with
  | nil => rfl
  | cons q ps ih =>
    have e : flP (q :: ps) = q.1 :: q.2 :: flP ps := by simp [flP]
    rw [e]
    simp [ih]
    omega
theorem putS_size : ∀ (ps : List (Nat × Nat)), (∀ p ∈ ps, NumB p.1 p.2) → ∀ k, (putS (ps.take k)).size ≤ 4 * k := by
  intro ps h k
  induction k with
  | zero => exact Nat.le_refl 0
  | succ k ih =>
    by_cases hk : k < ps.length
    · rw [List.take_succ_eq_append_getElem hk, putS_snoc, app_size, ly_size]
      have := h ps[k] (List.getElem_mem hk)
      unfold NumB at this
      omega
    · rw [List.take_of_length_le (by omega)] at ih ⊢
      omega
set_option maxRecDepth 100000 in
set_option maxHeartbeats 2000000 in
theorem dput_any {ps : List (Nat × Nat)} {v : Value} {w : World} (h : SlAt uc 1 w v (flP ps)) (hp : ∀ p ∈ ps, NumB p.1 p.2) (hl : ps.length ≤ 100) :
    Calls Try.prog 30 #[v] w fun e w' => e = .returned (.string (putS ps)) ∧ Below w.heap.size w w' := by
  obtain ⟨a, cap, rfl, _, _, hc⟩ := h
  rw [flP_len] at hc ⊢
  have HP := hidIn hp
  have Hc := hidIn hc
  obtain ⟨n, hn⟩ : ∃ n, ps.length = n := ⟨_, rfl⟩
  have Hn := hidIn hn
  rw [hn] at Hc hl ⊢
  clear hc hp hn
  go_enter Try.func30, Try.ntmps30
  go_wp2_with fail
  go_loopw [3, 4] (fun s i wr => ∃ k : Nat, k ≤ n ∧ i = .int .i64 ((2 * k : Nat) : Int) ∧ s = .string (putS (ps.take k)) ∧ Hid (Below w.heap.size w wr)) (fun _ i _ => 2 * n - (intOf i).toNat)
  case atStart => exact ⟨0, Nat.zero_le _, rfl, rfl, hidIn (Below.refl _ _)⟩
  case round =>
    obtain ⟨k, hk, rfl, rfl, HR⟩ := hrel
    by_cases hlt : k < n
    · obtain ⟨bk, o, rfl, hbk, hcell⟩ := Hc.out (by omega)
      obtain ⟨⟨x, z⟩, hx⟩ : ∃ p, ps[k]? = some p := ⟨ps[k]'(by rw [Hn.out]; exact hlt), List.getElem?_eq_getElem _⟩
      obtain ⟨g0, g1⟩ := flP_get ps k _ hx
      have t0 := (HR.out.cell (p := ⟨bk, o + (2 * k) * 1 + 0, none⟩) hbk).trans (hcell _ _ g0 0 _ rfl)
      have t1 := (HR.out.cell (p := ⟨bk, o + (2 * k + 1) * 1 + 0, none⟩) hbk).trans (hcell _ _ g1 0 _ rfl)
      rw [Nat.mul_one, Nat.add_zero] at t0 t1
      simp only at t0 t1
      have hnb := HP.out _ (List.mem_of_getElem? hx)
      simp only at hnb
      have HPut := hidIn (fun dd os => dput2_any (putS (ps.take k)) x z (by have := putS_size ps HP.out k; omega) hnb (Go.Sort.grow (redrawn wr dd) os))
      have HT : Hid (putS (ps.take (k + 1)) = putS (ps.take k) ++ ly x z) := hidIn (by rw [take_snoc hx, putS_snoc])
      have hz8 : z ≤ 4 := by unfold NumB at hnb; omega
      have q0 := cell_regrown t0
      have q1 := cell_regrown t1
      have hi1 : ((2 * k : Nat) : Int) + 1 < ((2 * n : Nat) : Int) := by omega
      have hi2 : ((2 * k : Nat) : Int) < ((2 * n : Nat) : Int) := by omega
      have hi3 : 2 * (k : Int) + 1 < 2 * (n : Int) := by omega
      have hw1 : IntKind.i64.wrap (((2 * k : Nat) : Int) + 1) = ((2 * k + 1 : Nat) : Int) := by rw [IntKind.wrap_i64]; omega
      generalize putS (ps.take k) = S at *
      clear t0 t1 g0 g1 hx hcell hnb
      go_upto_region 5 with fail
      refine wp_region_quiet_below (by kernel_rfl) (by kernel_rfl) ?_
      repeat (go_big_quiet_step (first | (go_at_call 44; exact Calls.regrown_of (HPut.out _ _))))
      refine wpQuiet_nil ?_
      intro _ hw'
      obtain ⟨⟨dq, osq⟩, hw''⟩ := hw'
      subst hw''
      have HB4 := hidIn (HR.out.trans ((below_regrown wr dq osq).mono HR.out.size))
      generalize Go.Sort.grow (redrawn wr dq) osq = W4 at HB4 ⊢
      clear q0 q1 HPut hw1 hi1 hi2 hi3
      go_wp2_with fail
      go_roundw
      case rel => exact ⟨k + 1, by omega, by go_num, by rw [HT.out], HB4⟩
      case measure => simp [intOf]; omega
    · have hkn : k = n := by omega
      have hi3 : ¬ 2 * (k : Int) + 1 < 2 * (n : Int) := by omega
      have HT : Hid (ps.take n = ps) := hidIn (List.take_of_length_le (by rw [Hn.out]; omega))
      go_wp2_with fail
      go_ret
      exact ⟨by rw [HT.out]; rfl, HR.out⟩
set_option maxRecDepth 100000 in
set_option maxHeartbeats 1000000 in
theorem dencSt_any (o e q : Int) (he : 0 ≤ e ∧ e < 4294967296) (hq : 0 ≤ q ∧ q < 4294967296) (w : World) :
    Calls Try.prog 21 #[stV o e q] w fun r w' => r = .returned (.tuple #[.string (esA o e q).1, .int .i64 (esA o e q).2]) ∧ Below w.heap.size w w' := by
  obtain ⟨V1, hV1⟩ : ∃ V1, w.alloc (stO o e q) = V1 := ⟨_, rfl⟩
  have b1 : Below w.heap.size w V1 := by rw [← hV1]; exact (Below.refl _ w).alloc (Nat.le_refl _) _
  have hX : V1.heap[w.heap.size]? = some (stO o e q) := by rw [← hV1]; exact heap_alloc_last w _
  have HW := hidIn hV1
  have x0 := cell_of_row _ _ 0 _ _ _ hX
  have x1 := cell_of_row _ _ 1 _ _ _ hX
  have x2 := cell_of_row _ _ 2 _ _ _ hX
  simp at x0 x1 x2
  have HX := hidIn hX
  have HB := hidIn b1
  clear hV1 b1 hX
  obtain ⟨m, hm⟩ : ∃ m, mayS o e q = m := ⟨_, rfl⟩
  have Hm := hidIn hm
  go_enter Try.func21, Try.ntmps21
  go_upto_region 1 with fail
  rw [HW.out]
  clear HW
  go_wp2_with fail
  refine (dmayS_any o e q _).mono ?_
  rintro r w2 ⟨rfl, hb2⟩
  rw [hm]
  have hX2 := (hb2.block _ (block_lt HX.out)).trans HX.out
  have HB2 := hidIn (HB.out.trans (hb2.mono HB.out.size))
  clear hm x0 x1 x2 hb2
  cases m
  · go_wp2_with fail
    go_ret2
    exact ⟨by unfold esA; rw [Hm.out]; rfl, HB2.out⟩
  obtain ⟨⟨ho1, ho2⟩, he1, hq1⟩ := mayS_iff.1 Hm.out
  obtain ⟨O, rfl⟩ : ∃ O : Nat, o = (O : Int) := ⟨o.toNat, by omega⟩
  obtain ⟨E, rfl⟩ : ∃ E : Nat, e = (E : Int) := ⟨e.toNat, by omega⟩
  obtain ⟨Q, rfl⟩ : ∃ Q : Nat, q = (Q : Int) := ⟨q.toNat, by omega⟩
  have x0 := cell_of_row _ _ 0 _ _ _ hX2
  have x1 := cell_of_row _ _ 1 _ _ _ hX2
  have x2 := cell_of_row _ _ 2 _ _ _ hX2
  simp at x0 x1 x2
  obtain ⟨V3, hV3⟩ : ∃ V3, w2.alloc (.cells #[.int .u64 (O : Int), .int .u64 1, .int .u64 (E : Int), .int .u64 4, .int .u64 (Q : Int), .int .u64 4] 53) = V3 := ⟨_, rfl⟩
  have hS3 : SlAt uc 1 V3 (.slice (some ⟨w2.heap.size, 0, none⟩) 6 6) (flP [(O, 1), (E, 4), (Q, 4)]) := by
    rw [← hV3]
    exact slAt_block (cs := uc) (sz := 1) (l := flP [(O, 1), (E, 4), (Q, 4)]) (fun _ => rfl) (T := 53) (heap_alloc_last w2 _) (by rw [flP_len]; simp)
  have b3 : Below w2.heap.size w2 V3 := by rw [← hV3]; exact (Below.refl _ w2).alloc (Nat.le_refl _) _
  have HB3 := hidIn (HB2.out.trans (b3.mono HB2.out.size))
  have HPt := hidIn (dput_any hS3 (by intro p hp; simp at hp; rcases hp with rfl | rfl | rfl; exact .inl ⟨rfl, by omega⟩; exact .inr (.inr ⟨rfl, by omega⟩); exact .inr (.inr ⟨rfl, by omega⟩)) (by simp))
  have HW := hidIn hV3
  clear hX2 hV3 hS3 b3
  go_wp2_with fail
  rw [HW.out]
  clear HW
  refine HPt.out.mono ?_
  rintro r w4 ⟨rfl, hb4⟩
  have HB4 := hidIn (HB3.out.trans (hb4.mono HB3.out.size))
  clear hb4 HPt
  go_wp2_with fail
  go_ret2
  exact ⟨by unfold esA; rw [Hm.out]; rfl, HB4.out⟩
set_option maxHeartbeats 1000000 in
theorem dnewer_any (e q f r : Nat) (he : e < 4294967296) (hq : q < 4294967296) (hf : f < 4294967296) (hr : r < 4294967296) (o' p' : Int) (w : World) : Calls Try.prog 25 #[stV o' e q, stV p' f r] w fun x w' => x = .returned (.int .i64 (newI e q f r)) ∧ Below w.heap.size w w' := by
  obtain ⟨res, hres⟩ : ∃ res, newI (e : Int) (q : Int) (f : Int) (r : Int) = res := ⟨_, rfl⟩
  rw [hres]
  have Hres := hidIn hres
  clear hres
  by_cases h1 : (e : Int) * 4294967296 + q < (f : Int) * 4294967296 + r
  · have HV : Hid (res = -1) := hidIn (by rw [← Hres.out]; exact (newI_low _ _ _ _).2 (by omega))
    go_enter Try.func25, Try.ntmps25
    go_wp2_with fail
    go_ret
    exact ⟨by rw [HV.out]; rfl, by go_grown⟩
  by_cases h2 : (f : Int) * 4294967296 + r < (e : Int) * 4294967296 + q
  · have HV : Hid (res = 1) := hidIn (by rw [← Hres.out]; exact (newI_pos _ _ _ _).2 (by omega))
    go_enter Try.func25, Try.ntmps25
    go_wp2_with fail
    go_ret
    exact ⟨by rw [HV.out]; rfl, by go_grown⟩
  · have HV : Hid (res = 0) := hidIn (by rw [← Hres.out]; exact (newI_zero _ _ _ _).2 (by omega))
    go_enter Try.func25, Try.ntmps25
    go_wp2_with fail
    go_ret
    exact ⟨by rw [HV.out]; rfl, by go_grown⟩
set_option maxRecDepth 100000 in
set_option maxHeartbeats 2000000 in
theorem ddecSt_any (b : ByteArray) (hb : b.size ≤ maxLen) (w : World) :
    Calls Try.prog 23 #[.string b] w fun e w' => e = .returned (.tuple #[stV (dsA b).1.1 (dsA b).1.2.1 (dsA b).1.2.2, .int .i64 (dsA b).2]) ∧ Below w.heap.size w w' := by
  obtain ⟨V1, hV1⟩ : ∃ V1, w.alloc (stO 0 0 0) = V1 := ⟨_, rfl⟩
  have b1 : Below w.heap.size w V1 := by rw [← hV1]; exact (Below.refl _ w).alloc (Nat.le_refl _) _
  have hX : V1.heap[w.heap.size]? = some (stO 0 0 0) := by rw [← hV1]; exact heap_alloc_last w _
  have t0 := tkz_lt b 0 1
  have t1 := tkz_lt b 1 4
  have t2 := tkz_lt b 5 4
  have HT0 := hidIn (fun w1 => dtake_any b 0 1 hb (by omega) (.inl rfl) w1)
  have HT1 := hidIn (fun w1 => dtake_any b 1 4 hb (by omega) (.inr (.inr rfl)) w1)
  have HT2 := hidIn (fun w1 => dtake_any b 5 4 hb (by omega) (.inr (.inr rfl)) w1)
  have hsz : ∀ o e s : Nat, (stS o e s).size = 9 := stS_size
  have hst := fun h => st_rd (b := b) h
  have hok : stOk b = (decide (9 = b.size) && mayS (tkz b 0 1 : Nat) (tkz b 1 4 : Nat) (tkz b 5 4 : Nat)) := rfl
  obtain ⟨res, hres⟩ : ∃ res, dsA b = res := ⟨_, rfl⟩
  rw [hres]
  have hA : res = if stOk b then ((((tkz b 0 1 : Nat) : Int), ((tkz b 1 4 : Nat) : Int), ((tkz b 5 4 : Nat) : Int)), 0) else ((0, 0, 0), 4) := by rw [← hres]; rfl
  generalize tkz b 0 1 = T0 at *
  generalize tkz b 1 4 = T1 at *
  generalize tkz b 5 4 = T2 at *
  simp at t0 t1 t2
  have HE := hidIn (fun w1 => dencSt_any (T0 : Int) (T1 : Int) (T2 : Int) (by omega) (by omega) w1)
  obtain ⟨m, hm⟩ : ∃ m, mayS (T0 : Int) (T1 : Int) (T2 : Int) = m := ⟨_, rfl⟩
  have hes : esA (T0 : Int) (T1 : Int) (T2 : Int) = if m then (stS T0 T1 T2, 0) else (⟨#[]⟩, 2) := by unfold esA; rw [hm]; rfl
  rw [hes] at HE
  rw [hm] at hok
  have HX := hidIn hX
  have HB := hidIn b1
  have HW := hidIn hV1
  have HA := hidIn hA
  have Hok := hidIn hok
  have Hst := hidIn hst
  have Hsz := hidIn hsz
  clear hV1 b1 hX hres hm hes hA hok hst hsz
  go_enter Try.func23, Try.ntmps23
  go_upto_region 1 with fail
  rw [HW.out]
  clear HW
  go_wp2_with fail
  refine (HT0.out _).mono ?_
  rintro e w2 ⟨rfl, hw2⟩
  rw [hw2]
  clear hw2 w2
  go_wp2_with fail
  refine (HT1.out _).mono ?_
  rintro e w2 ⟨rfl, hw2⟩
  rw [hw2]
  clear hw2 w2
  go_wp2_with fail
  refine (HT2.out _).mono ?_
  rintro e w2 ⟨rfl, hw2⟩
  rw [hw2]
  clear hw2 w2 HT0 HT1 HT2
  obtain ⟨W, hW⟩ : ∃ W, V1.alloc (stO (T0 : Int) (T1 : Int) (T2 : Int)) = W := ⟨_, rfl⟩
  have bW : Below V1.heap.size V1 W := by rw [← hW]; exact (Below.refl _ V1).alloc (Nat.le_refl _) _
  have hS : W.heap[V1.heap.size]? = some (stO (T0 : Int) (T1 : Int) (T2 : Int)) := by rw [← hW]; exact heap_alloc_last V1 _
  obtain ⟨sb, hsb⟩ : ∃ sb, V1.heap.size = sb := ⟨_, rfl⟩
  rw [hsb] at hS
  have HXW := hidIn ((bW.block _ (block_lt HX.out)).trans HX.out)
  have HSW := hidIn hS
  have HBW := hidIn (HB.out.trans (bW.mono HB.out.size))
  have hlt3 : w.heap.size < sb := by rw [← hsb]; exact block_lt HX.out
  have HWd := hidIn hW
  have Hsb := hidIn hsb
  have s0 := cell_of_row _ _ 0 _ _ _ hS
  have s1 := cell_of_row _ _ 1 _ _ _ hS
  have s2 := cell_of_row _ _ 2 _ _ _ hS
  simp at s0 s1 s2
  clear hW bW hS hsb HX HB
  go_upto_region 2 with fail
  rw [HWd.out, Hsb.out]
  clear HWd Hsb
  go_wp2_with fail
  refine (HE.out _).mono ?_
  rintro e w3 ⟨rfl, hb3⟩
  have hX6 := (hb3.block _ (block_lt HXW.out)).trans HXW.out
  have hS6 := (hb3.block _ (block_lt HSW.out)).trans HSW.out
  have HB6 := hidIn (HBW.out.trans (hb3.mono HBW.out.size))
  clear hb3 s0 s1 s2 HXW HSW HBW HE
  have HXW := hidIn hX6
  have HBW := HB6
  have s0 := cell_of_row _ _ 0 _ _ _ hS6
  have s1 := cell_of_row _ _ 1 _ _ _ hS6
  have s2 := cell_of_row _ _ 2 _ _ _ hS6
  have y0 := cell_of_row _ _ 0 _ _ _ hX6
  have y1 := cell_of_row _ _ 1 _ _ _ hX6
  have y2 := cell_of_row _ _ 2 _ _ _ hX6
  have g0 := frozen_new hX6 0
  have g1 := frozen_new hX6 1
  have g2 := frozen_new hX6 2
  simp at s0 s1 s2 y0 y1 y2
  clear hX6 hS6
  cases m
  · simp only [Bool.false_eq_true, if_false]
    go_wp2_with fail
    have hV := set3 (.int .i64 0) (.int .u32 0) (.int .u32 0) HXW.out
    have HBV := hidIn (((HBW.out.setCell (p := ⟨w.heap.size, 0, none⟩) (Nat.le_refl _) (.int .i64 0)).setCell (p := ⟨w.heap.size, 1, none⟩) (Nat.le_refl _) (.int .u32 0)).setCell (p := ⟨w.heap.size, 2, none⟩) (Nat.le_refl _) (.int .u32 0))
    generalize ((World.setCell _ _ _).setCell _ _).setCell _ _ = Z at hV HBV ⊢
    clear y0 y1 y2 g0 g1 g2
    have e0 := cell_of_row _ _ 0 _ _ _ hV
    have e1 := cell_of_row _ _ 1 _ _ _ hV
    have e2 := cell_of_row _ _ 2 _ _ _ hV
    simp at e0 e1 e2
    have hr := HA.out
    rw [Hok.out] at hr
    simp at hr
    exact bodyPost_ret (v := .tuple #[stV 0 0 0, .int .i64 4]) (by simp [results, Try.results23, asAddr, Result.andThen, go_sem, e0, e1, e2]) rfl ⟨by rw [hr], HBV.out⟩
  simp only [if_true]
  by_cases h9 : 9 = b.size
  · have e9 := Hst.out h9
    rw [e9]
    have hne : (b.toList != b.toList) = false := by simp
    clear e9
    go_wp2_with fail
    have hV := set3 (.int .i64 (T0 : Int)) (.int .u32 (T1 : Int)) (.int .u32 (T2 : Int)) HXW.out
    have HBV := hidIn (((HBW.out.setCell (p := ⟨w.heap.size, 0, none⟩) (Nat.le_refl _) (.int .i64 (T0 : Int))).setCell (p := ⟨w.heap.size, 1, none⟩) (Nat.le_refl _) (.int .u32 (T1 : Int))).setCell (p := ⟨w.heap.size, 2, none⟩) (Nat.le_refl _) (.int .u32 (T2 : Int)))
    generalize ((World.setCell _ _ _).setCell _ _).setCell _ _ = Z at hV HBV ⊢
    clear y0 y1 y2 g0 g1 g2
    have e0 := cell_of_row _ _ 0 _ _ _ hV
    have e1 := cell_of_row _ _ 1 _ _ _ hV
    have e2 := cell_of_row _ _ 2 _ _ _ hV
    simp at e0 e1 e2
    have hr := HA.out
    rw [Hok.out] at hr
    simp [h9] at hr
    exact bodyPost_ret (v := .tuple #[stV (T0 : Int) (T1 : Int) (T2 : Int), .int .i64 0]) (by simp [results, Try.results23, asAddr, Result.andThen, go_sem, e0, e1, e2]) rfl ⟨by rw [hr], HBV.out⟩
  · have hnl : ¬ (stS T0 T1 T2).toList = b.toList := fun h => by
      rw [ByteArray.toList_eq, ByteArray.toList_eq] at h
      have h2 : (stS T0 T1 T2).size = b.size := by rw [ext_data h]
      rw [Hsz.out] at h2
      exact h9 h2
    have hnb : ((stS T0 T1 T2).toList == b.toList) = false := by simpa using hnl
    generalize stS T0 T1 T2 = S at *
    go_wp2_with fail
    have hV := set3 (.int .i64 0) (.int .u32 0) (.int .u32 0) HXW.out
    have HBV := hidIn (((HBW.out.setCell (p := ⟨w.heap.size, 0, none⟩) (Nat.le_refl _) (.int .i64 0)).setCell (p := ⟨w.heap.size, 1, none⟩) (Nat.le_refl _) (.int .u32 0)).setCell (p := ⟨w.heap.size, 2, none⟩) (Nat.le_refl _) (.int .u32 0))
    generalize ((World.setCell _ _ _).setCell _ _).setCell _ _ = Z at hV HBV ⊢
    clear y0 y1 y2 g0 g1 g2
    have e0 := cell_of_row _ _ 0 _ _ _ hV
    have e1 := cell_of_row _ _ 1 _ _ _ hV
    have e2 := cell_of_row _ _ 2 _ _ _ hV
    simp at e0 e1 e2
    have hr := HA.out
    rw [Hok.out] at hr
    simp [h9] at hr
    exact bodyPost_ret (v := .tuple #[stV 0 0 0, .int .i64 4]) (by simp [results, Try.results23, asAddr, Result.andThen, go_sem, e0, e1, e2]) rfl ⟨by rw [hr], HBV.out⟩
end Go.Proofs.Ytclnhohfiimcdaa
