/- CalendPlays: the walk. -/
import Derived.Test.YtaldehgggilmdaaDPC
import Derived.Test.YtaldehgggilmdaaCW
import Derived.Test.YtaldehgggilmdaaCAD
namespace Go.Proofs.Ytaldehgggilmdaa.Ca.S
open Go.RowKit Go.Maps

structure AnyW (w : World) : Prop where
  t : w = w ∨ True
abbrev Dw := (Int × Int) × Int × ByteArray
abbrev doC (d : Dw) : List Value := [.int .i64 d.1.1, .int .u64 d.1.2, .int .i64 d.2.1, .string d.2.2]
theorem lstep_any {w : World} {q cp mp p : Nat} {L : List (Tg ByteArray)} {k at0 tk : Int} {x : ByteArray} (h : Twin w q cp mp L p) (hq : q ≤ w.heap.size) (hp : p < 80000) (hl : L.length < 80000) (htk : (Lit.int .i64 tk).wf = true) :
    Calls Try.prog 5 #[ptr cp, ptr mp, .agg #[.int .i64 k, .int .u64 at0, .int .i64 tk, .string x]] w fun e w' => (∃ (c2 : Nat) (L2 : List (Tg ByteArray)) (p2 : Nat), e = .returned (.tuple #[ptr c2, .bool true]) ∧ Twin w' q c2 mp L2 p2 ∧ p2 ≤ p + 1 ∧ L2.length ≤ L.length + 1) ∧ Below q w w' := by
  obtain ⟨m, h1⟩ : ∃ m, k.tmod 7 = m := ⟨_, rfl⟩
  have hm := seven_in h1
  obtain ⟨r, h2⟩ : ∃ r, (m + 7).tmod 7 = r := ⟨_, rfl⟩
  have hr : r = 0 ∨ r = 1 ∨ r = 2 ∨ r = 3 ∨ r = 4 ∨ r = 5 ∨ r = 6 := by
    rw [Int.tmod_eq_emod_of_nonneg (by omega)] at h2
    omega
  rcases hr with rfl | rfl | rfl | rfl | rfl | rfl | rfl
  · refine (lstep_0 (at0 := at0) (tk := tk) (x := x) h hq hp hl h1 h2).mono ?_
    rintro e w' ⟨rfl, hT, hb⟩
    exact ⟨⟨cp, _, p + 1, rfl, hT, by omega, by rw [insL_length]; omega⟩, hb⟩
  · refine (lstep_1 (at0 := at0) (tk := tk) (x := x) h hq hp hl h1 h2 htk).mono ?_
    rintro e w' ⟨rfl, hT, hb⟩
    exact ⟨⟨cp, _, p, rfl, hT, by omega, Nat.le_succ_of_le (List.length_filter_le _ _)⟩, hb⟩
  · refine (lstep_2 (at0 := at0) (tk := tk) (x := x) h hq hp hl h1 h2).mono ?_
    rintro e w' ⟨rfl, hT, hb⟩
    exact ⟨⟨cp, _, p, rfl, hT, by omega, Nat.le_succ_of_le (restT_le _ _)⟩, hb⟩
  · refine (lstep_3 (at0 := at0) (tk := tk) (x := x) h hq hp hl h1 h2).mono ?_
    rintro e w' ⟨rfl, hT, hb⟩
    exact ⟨⟨cp, _, p, rfl, hT, by omega, by omega⟩, hb⟩
  · refine (lstep_4 (at0 := at0) (tk := tk) (x := x) h hq hp hl h1 h2).mono ?_
    rintro e w' ⟨rfl, hT, hb⟩
    exact ⟨⟨cp, _, p, rfl, hT, by omega, by omega⟩, hb⟩
  · refine (lstep_5 (at0 := at0) (tk := tk) (x := x) h hq hp hl h1 h2).mono ?_
    rintro e w' ⟨rfl, hT, hb⟩
    exact ⟨⟨cp, _, p, rfl, hT, by omega, Nat.le_succ_of_le (List.length_filter_le _ _)⟩, hb⟩
  · refine (lstep_6 (at0 := at0) (tk := tk) (x := x) h hq hp hl h1 h2).mono ?_
    rintro e w' ⟨c2, rfl, hT, hb⟩
    exact ⟨⟨c2, _, p, rfl, hT, by omega, by omega⟩, hb⟩
/-- What the last line does with both: they are as long, and what is taken is the same. -/
theorem ends_any {w : World} {q cp mp p : Nat} {L : List (Tg ByteArray)} (h : Twin w q cp mp L p) (hq : q ≤ w.heap.size) (hp : p < 80000) (hl : L.length < 80000) :
    Calls Try.prog 8 #[ptr cp, .int .u64 18446744073709551615] w fun e w' => ∃ a n c, e = .returned (.slice a n c) ∧ Below q w w' ∧ Calls Try.prog 9 #[ptr mp, .int .u64 18446744073709551615] w' fun e2 w2 => ∃ a2 n2 c2, e2 = .returned (.slice a2 n2 c2) ∧ Below q w w2 ∧ Calls Try.prog 7 #[.slice a n c, .slice a2 n2 c2] w2 fun e3 w3 => e3 = .returned (.bool true) ∧ Below q w w3 := by
  obtain ⟨S, D, k1, k2, k3, k4, k5⟩ := h
  refine (take_ok k1 (by omega) (by omega)).mono ?_
  rintro e w3 ⟨⟨u, rfl, hrow⟩, hC3, hF3⟩
  obtain ⟨ua, uc, rfl⟩ := row_shape hrow
  have hb3 : Below q w w3 := hF3.below hq (fun k hk => (k4 k hk).1)
  refine ⟨_, _, _, rfl, hb3, ?_⟩
  refine (dtake_any (k2.keep hF3 (fun k hk hs => k3 k hs hk)) (by omega)).mono ?_
  rintro e w4 ⟨⟨u4, rfl, hrow4⟩, hR4, hF4⟩
  obtain ⟨va, vc, rfl⟩ := row_shape hrow4
  have s3 := hF3.size
  have s4 := hF4.size
  have hb4 : Below q w w4 := hb3.trans (hF4.below (by omega) (fun k hk => (k5 k hk).1))
  refine ⟨_, _, _, rfl, hb4, ?_⟩
  have hr4 := row_fr hrow hF4 (fun j hj hd => by have h1 := (hrow.lt j hj).1; have h2 := (k5 j hd).2; omega)
  have hS := dsame_any (slAt_of_row (cs := tc) (fun _ => rfl) hr4 (by simp)) (slAt_of_row (cs := tc) (fun _ => rfl) hrow4 (by simp))
  rw [decide_eq_true rfl] at hS
  refine hS.mono ?_
  rintro e w5 ⟨rfl, hb5⟩
  exact ⟨rfl, hb4.trans (hb5.mono (by omega))⟩
set_option maxRecDepth 100000 in
set_option maxHeartbeats 4000000 in
theorem calendPlays_walk {Ls : List Dw} {v : Value} {w : World} (h : SlAt doC 4 w v Ls) (hL : ∀ y ∈ Ls, (Lit.int .i64 y.2.1).wf = true) :
    Calls Try.prog 3 #[v] w fun e w' => e = .returned (.bool true) ∧ Below w.heap.size w w' := by
  obtain ⟨va, vc, rfl, hvl, hlc, hcell⟩ := h
  obtain ⟨n, hn⟩ : ∃ n, Ls.length = n := ⟨_, rfl⟩
  rw [hn] at hvl hlc hcell ⊢
  have Hn := hidIn hn
  have HCell := hidIn hcell
  have HL := hidIn hL
  have HNew := hidIn (new_ok w)
  obtain ⟨q, hq⟩ : ∃ q, w.heap.size = q := ⟨_, rfl⟩
  have Hq := hidIn hq
  rw [hq]
  clear hL hcell hn hq
  go_enter Try.func3, Try.ntmps3
  go_wp2_with (refine HNew.out.mono ?_)
  rintro e w1 ⟨cp, rfl, hC1, hb1⟩
  obtain ⟨W2, hW2⟩ : ∃ W2, w1.alloc (.cells #[.slice none 0 0, .int .i64 0] 28) = W2 := ⟨_, rfl⟩
  have b2 : Below w1.heap.size w1 W2 := by rw [← hW2]; exact (Below.refl _ w1).alloc (Nat.le_refl _) _
  have hm := heap_alloc_last w1 (.cells #[.slice none 0 0, .int .i64 0] 28)
  rw [hW2] at hm
  have HT2 : Hid (Twin W2 q cp w1.heap.size [] 0 ∧ Below q w W2) := hidIn (by
    have e1 := Hq.out
    have e2 := block_lt hm
    have e3 := hb1.size
    refine ⟨⟨_, fun k => k = w1.heap.size, hC1.below b2, ⟨none, 0, hm, rfl, Nat.le_refl _, fun _ => rfl, fun h => by simp at h⟩, fun k hk e => by omega, fun k hk => ⟨by omega, by omega⟩, fun k hk => ⟨by omega, by omega⟩⟩, ?_⟩
    exact (hb1.mono (by omega)).trans (b2.mono (by omega)))
  obtain ⟨mp, hmp⟩ : ∃ mp, w1.heap.size = mp := ⟨_, rfl⟩
  have HW2 := hidIn hW2
  rw [hmp] at HT2
  clear hC1 hb1 b2 hm hW2 HNew
  go_upto_region 3 with fail
  rw [HW2.out]
  try simp only [hmp]
  clear HW2 hmp w1
  go_wp2_with fail
  go_loopw [3, 5] (fun cv iv wr => ∃ (k c p : Nat) (L : List (Tg ByteArray)), k ≤ 200 ∧ k ≤ n ∧ iv = .int .i64 k ∧ cv = ptr c ∧ p ≤ k ∧ L.length ≤ k ∧ Hid (Twin wr q c mp L p ∧ Below q w wr)) (fun _ iv _ => n - (intOf iv).toNat)
  case atStart => exact ⟨0, cp, 0, [], by omega, by omega, rfl, rfl, Nat.le_refl _, Nat.le_refl _, HT2⟩
  case round =>
    obtain ⟨k, c, p, L, hk2, hkn, rfl, rfl, hpk, hlk, HR⟩ := hrel
    have hsz : q ≤ wr.heap.size := by have := HR.out.2.size; have := Hq.out; omega
    by_cases hlt : k < n ∧ k < 200
    · obtain ⟨hlt, hlt2⟩ := hlt
      have hki : (k : Int) < (n : Int) := by omega
      have hki2 : (k : Int) < 200 := by omega
      obtain ⟨bk, o, rfl, hbk, hc⟩ := HCell.out (by omega)
      obtain ⟨d, hd⟩ : ∃ d, Ls[k]? = some d := ⟨Ls[k]'(by rw [Hn.out]; omega), List.getElem?_eq_getElem _⟩
      have htk := HL.out d (List.mem_of_getElem? hd)
      have cc := fun i => HR.out.2.cell (p := ⟨bk, i, none⟩) (by rw [← Hq.out]; exact hbk)
      have x0 := (cc _).trans (hc k d hd 0 _ rfl)
      have x1 := (cc _).trans (hc k d hd 1 _ rfl)
      have x2 := (cc _).trans (hc k d hd 2 _ rfl)
      have x3 := (cc _).trans (hc k d hd 3 _ rfl)
      simp only [Nat.add_zero] at x0
      obtain ⟨⟨dk, da⟩, dt, dx⟩ := d
      simp only at x0 x1 x2 x3 htk
      have hkc : (k : Int) ≤ (vc : Int) := by omega
      have hkc1 : (k : Int) + 1 ≤ (vc : Int) := by omega
      have hvl' : (n : Int) ≤ 9223372036854775807 := by omega
      have HS := hidIn (lstep_any (k := dk) (at0 := da) (x := dx) HR.out.1 hsz (by omega) (by omega) htk)
      have HB := hidIn HR.out.2
      clear hc hd cc HR
      go_wp2_with (refine HS.out.mono ?_)
      rintro e w3 ⟨⟨c2, L2, p2, rfl, hT, hp2, hl2⟩, hb⟩
      have HNew := hidIn (And.intro hT (HB.out.trans hb))
      clear hT hb HS x0 x1 x2 x3
      go_wp2_with fail
      go_roundw
      case rel => exact ⟨k + 1, c2, p2, L2, by omega, by omega, by go_num, rfl, by omega, by omega, HNew⟩
      case measure => simp [intOf]; omega
    · obtain ⟨Wd, hWd⟩ : ∃ Wd, wr.drew = Wd := ⟨_, rfl⟩
      have bd : Below wr.heap.size wr Wd := by rw [← hWd]; exact below_drew wr
      have hTd := HR.out.1.below bd
      have hqd : q ≤ Wd.heap.size := Nat.le_trans hsz bd.size
      have HBd : Hid (Below q w Wd) := hidIn (HR.out.2.trans (bd.mono hsz))
      have HEnd := hidIn (ends_any hTd hqd (by omega) (by omega))
      obtain ⟨S, D, k1, ⟨a, cap, m1, _⟩, _⟩ := hTd
      have HLen := hidIn (len_ok k1)
      have y0 := cell_of_row _ _ 0 _ _ _ m1
      simp at y0
      have HY0 := hidIn y0
      have HWd := hidIn hWd
      clear k1 m1 y0 hWd HR bd
      by_cases hlt1 : k < n
      · have hki : (k : Int) < (n : Int) := by omega
        have hki2 : ¬ (k : Int) < 200 := by omega
        go_upto_region 12 with fail
        refine wp_region_noPanic ?_
        refine wp_region_held_drew (S := fun wx => AnyW wx) (by kernel_rfl) (AnyW.mk (.inr trivial)) (fun hHeld => ?_)
        rw [HWd.out]
        refine wpAnyH_take (i := 0) (v := ptr c) rfl (by kernel_rfl) (by kernel_rfl) (by kernel_rfl) (fun _ _ _ h => h) (Or.inl ⟨by kernel_rfl, fun wq hSw => by kernel_rfl⟩) (AnyW.mk (.inr trivial)) ?_
        refine wpAnyH_take (i := 2) (v := ptr mp) rfl (by kernel_rfl) (by kernel_rfl) (by kernel_rfl) (fun _ _ _ h => h) (Or.inl ⟨by kernel_rfl, fun wq hSw => by kernel_rfl⟩) (AnyW.mk (.inr trivial)) ?_
        refine wpAnyH_take (i := 3) (v := ptr mp) rfl (by kernel_rfl) (by kernel_rfl) (by kernel_rfl) (fun _ _ _ h => h) (Or.inl ⟨by kernel_rfl, fun wq hSw => by go_simp⟩) (AnyW.mk (.inr trivial)) ?_
        refine wpAnyH_take (i := 4) (v := .pointer (some ⟨mp, 0, none⟩)) rfl (by kernel_rfl) (by kernel_rfl) (by kernel_rfl) (fun _ _ _ h => h) (Or.inl ⟨by kernel_rfl, fun wq hSw => by kernel_rfl⟩) (AnyW.mk (.inr trivial)) ?_
        refine wpAnyH_ready (rs := [1, 5]) (by kernel_rfl) (by simp) ?_
        refine AllReadyH.cons (i := 1) rfl ?_ (AllReadyH.cons (i := 5) rfl ?_ AllReadyH.nil)
        · go_simp
          intro K hK
          refine HLen.out.mono ?_
          rintro e w9 ⟨rfl, hw9⟩
          rw [hw9]
          clear hw9 w9
          refine hK.out _ _ (AnyW.mk (.inr trivial)) (fun _ => ?_)
          clear hK K
          refine wpAnyH_ready (rs := [5]) (by kernel_rfl) (by simp) ?_
          refine AllReadyH.cons (i := 5) rfl ?_ AllReadyH.nil
          have b0 := HY0.out
          go_simp
          intro K hK
          clear b0
          refine hK.out _ _ (AnyW.mk (.inr trivial)) (fun _ => ?_)
          clear hK K
          refine wpAnyH_take (i := 6) (v := .int .i64 L.length) rfl (by kernel_rfl) (by kernel_rfl) (by kernel_rfl) (fun _ _ _ h => h) (Or.inl ⟨by kernel_rfl, fun wq hSw => by go_simp⟩) (AnyW.mk (.inr trivial)) ?_
          refine wpAnyH_take (i := 7) (v := .bool true) rfl (by kernel_rfl) (by kernel_rfl) (by kernel_rfl) (fun _ _ _ h => h) (Or.inl ⟨by kernel_rfl, fun wq hSw => by go_simp⟩) (AnyW.mk (.inr trivial)) ?_
          refine wpAnyH_take (i := 8) (v := .bool true) rfl (by kernel_rfl) (by kernel_rfl) (by kernel_rfl) (fun _ _ _ h => h) (Or.inl ⟨by kernel_rfl, fun wq hSw => by kernel_rfl⟩) (AnyW.mk (.inr trivial)) ?_
          refine wpAnyH_take (i := 9) (v := ptr c) rfl (by kernel_rfl) (by kernel_rfl) (by kernel_rfl) (fun _ _ _ h => h) (Or.inl ⟨by kernel_rfl, fun wq hSw => by kernel_rfl⟩) (AnyW.mk (.inr trivial)) ?_
          refine wpAnyH_take (i := 11) (v := ptr mp) rfl (by kernel_rfl) (by kernel_rfl) (by kernel_rfl) (fun _ _ _ h => h) (Or.inl ⟨by kernel_rfl, fun wq hSw => by kernel_rfl⟩) (AnyW.mk (.inr trivial)) ?_
          refine wpAnyH_ready (rs := [10]) (by kernel_rfl) (by simp) ?_
          refine AllReadyH.cons (i := 10) rfl ?_ AllReadyH.nil
          go_simp
          intro K hK
          refine HEnd.out.mono ?_
          rintro e w4 ⟨a4, n4, c4, rfl, hb4, hD4⟩
          refine hK.out _ _ (AnyW.mk (.inr trivial)) (fun _ => ?_)
          clear hK K
          refine wpAnyH_ready (rs := [12]) (by kernel_rfl) (by simp) ?_
          refine AllReadyH.cons (i := 12) rfl ?_ AllReadyH.nil
          go_simp
          intro K hK
          refine hD4.mono ?_
          rintro e w5 ⟨a5, n5, c5, rfl, hb5, hS5⟩
          refine hK.out _ _ (AnyW.mk (.inr trivial)) (fun _ => ?_)
          clear hK K
          refine wpAnyH_ready (rs := [13]) (by kernel_rfl) (by simp) ?_
          refine AllReadyH.cons (i := 13) rfl ?_ AllReadyH.nil
          go_simp
          intro K hK
          refine hS5.mono ?_
          rintro e w6 ⟨rfl, hb6⟩
          refine hK.out _ _ (AnyW.mk (.inr trivial)) (fun _ => ?_)
          clear hK K
          refine wpAnyH_take (i := 14) (v := .bool true) rfl (by kernel_rfl) (by kernel_rfl) (by kernel_rfl) (fun _ _ _ h => h) (Or.inl ⟨by kernel_rfl, fun wq hSw => by go_simp⟩) (AnyW.mk (.inr trivial)) ?_
          refine wpAnyH_take (i := 15) (v := .bool true) rfl (by kernel_rfl) (by kernel_rfl) (by kernel_rfl) (fun _ _ _ h => h) (Or.inl ⟨by kernel_rfl, fun wq hSw => by kernel_rfl⟩) (AnyW.mk (.inr trivial)) ?_
          refine wpAnyH_ready (rs := [16]) (by kernel_rfl) (by simp) ?_
          refine AllReadyH.cons (i := 16) rfl ?_ AllReadyH.nil
          go_simp
          intro K hK
          refine (works_ok _).mono ?_
          rintro e w7 ⟨rfl, hb7⟩
          refine hK.out _ _ (AnyW.mk (.inr trivial)) (fun _ => ?_)
          clear hK K
          refine wpAnyH_take (i := 17) (v := .bool true) rfl (by kernel_rfl) (by kernel_rfl) (by kernel_rfl) (fun _ _ _ h => h) (Or.inl ⟨by kernel_rfl, fun wq hSw => by go_simp⟩) (AnyW.mk (.inr trivial)) ?_
          refine wpAnyH_ready (rs := [18]) (by kernel_rfl) (by simp) ?_
          refine AllReadyH.cons (i := 18) rfl ?_ AllReadyH.nil
          go_simp
          intro K hK
          refine hK.out _ _ (AnyW.mk (.inr trivial)) (fun _ => ?_)
          clear hK K
          refine wpAnyH_done (by kernel_rfl) ?_ _
          refine NoPanic.normal ?_
          go_wp2_with fail
          go_returns
          exact ⟨rfl, (HBd.out.trans hb6).trans (hb7.mono (by have := hb6.size; omega))⟩
        · have b0 := HY0.out
          go_simp
          intro K hK
          clear b0
          refine hK.out _ _ (AnyW.mk (.inr trivial)) (fun _ => ?_)
          clear hK K
          refine wpAnyH_take (i := 6) (v := .int .i64 L.length) rfl (by kernel_rfl) (by kernel_rfl) (by kernel_rfl) (fun _ _ _ h => h) (Or.inl ⟨by kernel_rfl, fun wq hSw => by go_simp⟩) (AnyW.mk (.inr trivial)) ?_
          refine wpAnyH_ready (rs := [1]) (by kernel_rfl) (by simp) ?_
          refine AllReadyH.cons (i := 1) rfl ?_ AllReadyH.nil
          go_simp
          intro K hK
          refine HLen.out.mono ?_
          rintro e w9 ⟨rfl, hw9⟩
          rw [hw9]
          clear hw9 w9
          refine hK.out _ _ (AnyW.mk (.inr trivial)) (fun _ => ?_)
          clear hK K
          refine wpAnyH_take (i := 7) (v := .bool true) rfl (by kernel_rfl) (by kernel_rfl) (by kernel_rfl) (fun _ _ _ h => h) (Or.inl ⟨by kernel_rfl, fun wq hSw => by go_simp⟩) (AnyW.mk (.inr trivial)) ?_
          refine wpAnyH_take (i := 8) (v := .bool true) rfl (by kernel_rfl) (by kernel_rfl) (by kernel_rfl) (fun _ _ _ h => h) (Or.inl ⟨by kernel_rfl, fun wq hSw => by kernel_rfl⟩) (AnyW.mk (.inr trivial)) ?_
          refine wpAnyH_take (i := 9) (v := ptr c) rfl (by kernel_rfl) (by kernel_rfl) (by kernel_rfl) (fun _ _ _ h => h) (Or.inl ⟨by kernel_rfl, fun wq hSw => by kernel_rfl⟩) (AnyW.mk (.inr trivial)) ?_
          refine wpAnyH_take (i := 11) (v := ptr mp) rfl (by kernel_rfl) (by kernel_rfl) (by kernel_rfl) (fun _ _ _ h => h) (Or.inl ⟨by kernel_rfl, fun wq hSw => by kernel_rfl⟩) (AnyW.mk (.inr trivial)) ?_
          refine wpAnyH_ready (rs := [10]) (by kernel_rfl) (by simp) ?_
          refine AllReadyH.cons (i := 10) rfl ?_ AllReadyH.nil
          go_simp
          intro K hK
          refine HEnd.out.mono ?_
          rintro e w4 ⟨a4, n4, c4, rfl, hb4, hD4⟩
          refine hK.out _ _ (AnyW.mk (.inr trivial)) (fun _ => ?_)
          clear hK K
          refine wpAnyH_ready (rs := [12]) (by kernel_rfl) (by simp) ?_
          refine AllReadyH.cons (i := 12) rfl ?_ AllReadyH.nil
          go_simp
          intro K hK
          refine hD4.mono ?_
          rintro e w5 ⟨a5, n5, c5, rfl, hb5, hS5⟩
          refine hK.out _ _ (AnyW.mk (.inr trivial)) (fun _ => ?_)
          clear hK K
          refine wpAnyH_ready (rs := [13]) (by kernel_rfl) (by simp) ?_
          refine AllReadyH.cons (i := 13) rfl ?_ AllReadyH.nil
          go_simp
          intro K hK
          refine hS5.mono ?_
          rintro e w6 ⟨rfl, hb6⟩
          refine hK.out _ _ (AnyW.mk (.inr trivial)) (fun _ => ?_)
          clear hK K
          refine wpAnyH_take (i := 14) (v := .bool true) rfl (by kernel_rfl) (by kernel_rfl) (by kernel_rfl) (fun _ _ _ h => h) (Or.inl ⟨by kernel_rfl, fun wq hSw => by go_simp⟩) (AnyW.mk (.inr trivial)) ?_
          refine wpAnyH_take (i := 15) (v := .bool true) rfl (by kernel_rfl) (by kernel_rfl) (by kernel_rfl) (fun _ _ _ h => h) (Or.inl ⟨by kernel_rfl, fun wq hSw => by kernel_rfl⟩) (AnyW.mk (.inr trivial)) ?_
          refine wpAnyH_ready (rs := [16]) (by kernel_rfl) (by simp) ?_
          refine AllReadyH.cons (i := 16) rfl ?_ AllReadyH.nil
          go_simp
          intro K hK
          refine (works_ok _).mono ?_
          rintro e w7 ⟨rfl, hb7⟩
          refine hK.out _ _ (AnyW.mk (.inr trivial)) (fun _ => ?_)
          clear hK K
          refine wpAnyH_take (i := 17) (v := .bool true) rfl (by kernel_rfl) (by kernel_rfl) (by kernel_rfl) (fun _ _ _ h => h) (Or.inl ⟨by kernel_rfl, fun wq hSw => by go_simp⟩) (AnyW.mk (.inr trivial)) ?_
          refine wpAnyH_ready (rs := [18]) (by kernel_rfl) (by simp) ?_
          refine AllReadyH.cons (i := 18) rfl ?_ AllReadyH.nil
          go_simp
          intro K hK
          refine hK.out _ _ (AnyW.mk (.inr trivial)) (fun _ => ?_)
          clear hK K
          refine wpAnyH_done (by kernel_rfl) ?_ _
          refine NoPanic.normal ?_
          go_wp2_with fail
          go_returns
          exact ⟨rfl, (HBd.out.trans hb6).trans (hb7.mono (by have := hb6.size; omega))⟩
      · have hki : ¬ (k : Int) < (n : Int) := by omega
        go_upto_region 12 with fail
        refine wp_region_noPanic ?_
        refine wp_region_held_drew (S := fun wx => AnyW wx) (by kernel_rfl) (AnyW.mk (.inr trivial)) (fun hHeld => ?_)
        rw [HWd.out]
        refine wpAnyH_take (i := 0) (v := ptr c) rfl (by kernel_rfl) (by kernel_rfl) (by kernel_rfl) (fun _ _ _ h => h) (Or.inl ⟨by kernel_rfl, fun wq hSw => by kernel_rfl⟩) (AnyW.mk (.inr trivial)) ?_
        refine wpAnyH_take (i := 2) (v := ptr mp) rfl (by kernel_rfl) (by kernel_rfl) (by kernel_rfl) (fun _ _ _ h => h) (Or.inl ⟨by kernel_rfl, fun wq hSw => by kernel_rfl⟩) (AnyW.mk (.inr trivial)) ?_
        refine wpAnyH_take (i := 3) (v := ptr mp) rfl (by kernel_rfl) (by kernel_rfl) (by kernel_rfl) (fun _ _ _ h => h) (Or.inl ⟨by kernel_rfl, fun wq hSw => by go_simp⟩) (AnyW.mk (.inr trivial)) ?_
        refine wpAnyH_take (i := 4) (v := .pointer (some ⟨mp, 0, none⟩)) rfl (by kernel_rfl) (by kernel_rfl) (by kernel_rfl) (fun _ _ _ h => h) (Or.inl ⟨by kernel_rfl, fun wq hSw => by kernel_rfl⟩) (AnyW.mk (.inr trivial)) ?_
        refine wpAnyH_ready (rs := [1, 5]) (by kernel_rfl) (by simp) ?_
        refine AllReadyH.cons (i := 1) rfl ?_ (AllReadyH.cons (i := 5) rfl ?_ AllReadyH.nil)
        · go_simp
          intro K hK
          refine HLen.out.mono ?_
          rintro e w9 ⟨rfl, hw9⟩
          rw [hw9]
          clear hw9 w9
          refine hK.out _ _ (AnyW.mk (.inr trivial)) (fun _ => ?_)
          clear hK K
          refine wpAnyH_ready (rs := [5]) (by kernel_rfl) (by simp) ?_
          refine AllReadyH.cons (i := 5) rfl ?_ AllReadyH.nil
          have b0 := HY0.out
          go_simp
          intro K hK
          clear b0
          refine hK.out _ _ (AnyW.mk (.inr trivial)) (fun _ => ?_)
          clear hK K
          refine wpAnyH_take (i := 6) (v := .int .i64 L.length) rfl (by kernel_rfl) (by kernel_rfl) (by kernel_rfl) (fun _ _ _ h => h) (Or.inl ⟨by kernel_rfl, fun wq hSw => by go_simp⟩) (AnyW.mk (.inr trivial)) ?_
          refine wpAnyH_take (i := 7) (v := .bool true) rfl (by kernel_rfl) (by kernel_rfl) (by kernel_rfl) (fun _ _ _ h => h) (Or.inl ⟨by kernel_rfl, fun wq hSw => by go_simp⟩) (AnyW.mk (.inr trivial)) ?_
          refine wpAnyH_take (i := 8) (v := .bool true) rfl (by kernel_rfl) (by kernel_rfl) (by kernel_rfl) (fun _ _ _ h => h) (Or.inl ⟨by kernel_rfl, fun wq hSw => by kernel_rfl⟩) (AnyW.mk (.inr trivial)) ?_
          refine wpAnyH_take (i := 9) (v := ptr c) rfl (by kernel_rfl) (by kernel_rfl) (by kernel_rfl) (fun _ _ _ h => h) (Or.inl ⟨by kernel_rfl, fun wq hSw => by kernel_rfl⟩) (AnyW.mk (.inr trivial)) ?_
          refine wpAnyH_take (i := 11) (v := ptr mp) rfl (by kernel_rfl) (by kernel_rfl) (by kernel_rfl) (fun _ _ _ h => h) (Or.inl ⟨by kernel_rfl, fun wq hSw => by kernel_rfl⟩) (AnyW.mk (.inr trivial)) ?_
          refine wpAnyH_ready (rs := [10]) (by kernel_rfl) (by simp) ?_
          refine AllReadyH.cons (i := 10) rfl ?_ AllReadyH.nil
          go_simp
          intro K hK
          refine HEnd.out.mono ?_
          rintro e w4 ⟨a4, n4, c4, rfl, hb4, hD4⟩
          refine hK.out _ _ (AnyW.mk (.inr trivial)) (fun _ => ?_)
          clear hK K
          refine wpAnyH_ready (rs := [12]) (by kernel_rfl) (by simp) ?_
          refine AllReadyH.cons (i := 12) rfl ?_ AllReadyH.nil
          go_simp
          intro K hK
          refine hD4.mono ?_
          rintro e w5 ⟨a5, n5, c5, rfl, hb5, hS5⟩
          refine hK.out _ _ (AnyW.mk (.inr trivial)) (fun _ => ?_)
          clear hK K
          refine wpAnyH_ready (rs := [13]) (by kernel_rfl) (by simp) ?_
          refine AllReadyH.cons (i := 13) rfl ?_ AllReadyH.nil
          go_simp
          intro K hK
          refine hS5.mono ?_
          rintro e w6 ⟨rfl, hb6⟩
          refine hK.out _ _ (AnyW.mk (.inr trivial)) (fun _ => ?_)
          clear hK K
          refine wpAnyH_take (i := 14) (v := .bool true) rfl (by kernel_rfl) (by kernel_rfl) (by kernel_rfl) (fun _ _ _ h => h) (Or.inl ⟨by kernel_rfl, fun wq hSw => by go_simp⟩) (AnyW.mk (.inr trivial)) ?_
          refine wpAnyH_take (i := 15) (v := .bool true) rfl (by kernel_rfl) (by kernel_rfl) (by kernel_rfl) (fun _ _ _ h => h) (Or.inl ⟨by kernel_rfl, fun wq hSw => by kernel_rfl⟩) (AnyW.mk (.inr trivial)) ?_
          refine wpAnyH_ready (rs := [16]) (by kernel_rfl) (by simp) ?_
          refine AllReadyH.cons (i := 16) rfl ?_ AllReadyH.nil
          go_simp
          intro K hK
          refine (works_ok _).mono ?_
          rintro e w7 ⟨rfl, hb7⟩
          refine hK.out _ _ (AnyW.mk (.inr trivial)) (fun _ => ?_)
          clear hK K
          refine wpAnyH_take (i := 17) (v := .bool true) rfl (by kernel_rfl) (by kernel_rfl) (by kernel_rfl) (fun _ _ _ h => h) (Or.inl ⟨by kernel_rfl, fun wq hSw => by go_simp⟩) (AnyW.mk (.inr trivial)) ?_
          refine wpAnyH_ready (rs := [18]) (by kernel_rfl) (by simp) ?_
          refine AllReadyH.cons (i := 18) rfl ?_ AllReadyH.nil
          go_simp
          intro K hK
          refine hK.out _ _ (AnyW.mk (.inr trivial)) (fun _ => ?_)
          clear hK K
          refine wpAnyH_done (by kernel_rfl) ?_ _
          refine NoPanic.normal ?_
          go_wp2_with fail
          go_returns
          exact ⟨rfl, (HBd.out.trans hb6).trans (hb7.mono (by have := hb6.size; omega))⟩
        · have b0 := HY0.out
          go_simp
          intro K hK
          clear b0
          refine hK.out _ _ (AnyW.mk (.inr trivial)) (fun _ => ?_)
          clear hK K
          refine wpAnyH_take (i := 6) (v := .int .i64 L.length) rfl (by kernel_rfl) (by kernel_rfl) (by kernel_rfl) (fun _ _ _ h => h) (Or.inl ⟨by kernel_rfl, fun wq hSw => by go_simp⟩) (AnyW.mk (.inr trivial)) ?_
          refine wpAnyH_ready (rs := [1]) (by kernel_rfl) (by simp) ?_
          refine AllReadyH.cons (i := 1) rfl ?_ AllReadyH.nil
          go_simp
          intro K hK
          refine HLen.out.mono ?_
          rintro e w9 ⟨rfl, hw9⟩
          rw [hw9]
          clear hw9 w9
          refine hK.out _ _ (AnyW.mk (.inr trivial)) (fun _ => ?_)
          clear hK K
          refine wpAnyH_take (i := 7) (v := .bool true) rfl (by kernel_rfl) (by kernel_rfl) (by kernel_rfl) (fun _ _ _ h => h) (Or.inl ⟨by kernel_rfl, fun wq hSw => by go_simp⟩) (AnyW.mk (.inr trivial)) ?_
          refine wpAnyH_take (i := 8) (v := .bool true) rfl (by kernel_rfl) (by kernel_rfl) (by kernel_rfl) (fun _ _ _ h => h) (Or.inl ⟨by kernel_rfl, fun wq hSw => by kernel_rfl⟩) (AnyW.mk (.inr trivial)) ?_
          refine wpAnyH_take (i := 9) (v := ptr c) rfl (by kernel_rfl) (by kernel_rfl) (by kernel_rfl) (fun _ _ _ h => h) (Or.inl ⟨by kernel_rfl, fun wq hSw => by kernel_rfl⟩) (AnyW.mk (.inr trivial)) ?_
          refine wpAnyH_take (i := 11) (v := ptr mp) rfl (by kernel_rfl) (by kernel_rfl) (by kernel_rfl) (fun _ _ _ h => h) (Or.inl ⟨by kernel_rfl, fun wq hSw => by kernel_rfl⟩) (AnyW.mk (.inr trivial)) ?_
          refine wpAnyH_ready (rs := [10]) (by kernel_rfl) (by simp) ?_
          refine AllReadyH.cons (i := 10) rfl ?_ AllReadyH.nil
          go_simp
          intro K hK
          refine HEnd.out.mono ?_
          rintro e w4 ⟨a4, n4, c4, rfl, hb4, hD4⟩
          refine hK.out _ _ (AnyW.mk (.inr trivial)) (fun _ => ?_)
          clear hK K
          refine wpAnyH_ready (rs := [12]) (by kernel_rfl) (by simp) ?_
          refine AllReadyH.cons (i := 12) rfl ?_ AllReadyH.nil
          go_simp
          intro K hK
          refine hD4.mono ?_
          rintro e w5 ⟨a5, n5, c5, rfl, hb5, hS5⟩
          refine hK.out _ _ (AnyW.mk (.inr trivial)) (fun _ => ?_)
          clear hK K
          refine wpAnyH_ready (rs := [13]) (by kernel_rfl) (by simp) ?_
          refine AllReadyH.cons (i := 13) rfl ?_ AllReadyH.nil
          go_simp
          intro K hK
          refine hS5.mono ?_
          rintro e w6 ⟨rfl, hb6⟩
          refine hK.out _ _ (AnyW.mk (.inr trivial)) (fun _ => ?_)
          clear hK K
          refine wpAnyH_take (i := 14) (v := .bool true) rfl (by kernel_rfl) (by kernel_rfl) (by kernel_rfl) (fun _ _ _ h => h) (Or.inl ⟨by kernel_rfl, fun wq hSw => by go_simp⟩) (AnyW.mk (.inr trivial)) ?_
          refine wpAnyH_take (i := 15) (v := .bool true) rfl (by kernel_rfl) (by kernel_rfl) (by kernel_rfl) (fun _ _ _ h => h) (Or.inl ⟨by kernel_rfl, fun wq hSw => by kernel_rfl⟩) (AnyW.mk (.inr trivial)) ?_
          refine wpAnyH_ready (rs := [16]) (by kernel_rfl) (by simp) ?_
          refine AllReadyH.cons (i := 16) rfl ?_ AllReadyH.nil
          go_simp
          intro K hK
          refine (works_ok _).mono ?_
          rintro e w7 ⟨rfl, hb7⟩
          refine hK.out _ _ (AnyW.mk (.inr trivial)) (fun _ => ?_)
          clear hK K
          refine wpAnyH_take (i := 17) (v := .bool true) rfl (by kernel_rfl) (by kernel_rfl) (by kernel_rfl) (fun _ _ _ h => h) (Or.inl ⟨by kernel_rfl, fun wq hSw => by go_simp⟩) (AnyW.mk (.inr trivial)) ?_
          refine wpAnyH_ready (rs := [18]) (by kernel_rfl) (by simp) ?_
          refine AllReadyH.cons (i := 18) rfl ?_ AllReadyH.nil
          go_simp
          intro K hK
          refine hK.out _ _ (AnyW.mk (.inr trivial)) (fun _ => ?_)
          clear hK K
          refine wpAnyH_done (by kernel_rfl) ?_ _
          refine NoPanic.normal ?_
          go_wp2_with fail
          go_returns
          exact ⟨rfl, (HBd.out.trans hb6).trans (hb7.mono (by have := hb6.size; omega))⟩
end Go.Proofs.Ytaldehgggilmdaa.Ca.S
