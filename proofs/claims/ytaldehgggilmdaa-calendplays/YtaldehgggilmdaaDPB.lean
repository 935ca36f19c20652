/- The law's step: Next, Len, Copy. -/
import Derived.Test.YtaldehgggilmdaaDPA
namespace Go.Proofs.Ytaldehgggilmdaa.Ca.S
open Go.RowKit Go.Maps

theorem restT_le (L : List (Tg ByteArray)) (now : Int) : (restT L now).length ≤ L.length := by
  induction L with
  | nil => simp [(due_nil now).2]
  | cons b L ih =>
    by_cases h : tick b.1 ≤ now
    · rw [(due_yes h).2, List.length_cons]; omega
    · rw [(due_no h).2]; exact Nat.le_refl _
set_option maxRecDepth 100000 in
set_option maxHeartbeats 4000000 in
theorem lstep_4 {w : World} {q cp mp p : Nat} {L : List (Tg ByteArray)} {k m at0 tk : Int} {x : ByteArray} (h : Twin w q cp mp L p) (hq : q ≤ w.heap.size) (_hp : p < 80000) (_hl : L.length < 80000) (h1 : k.tmod 7 = m) (h2 : (m + 7).tmod 7 = 4) :
    Calls Try.prog 5 #[ptr cp, ptr mp, .agg #[.int .i64 k, .int .u64 at0, .int .i64 tk, .string x]] w fun e w' => e = .returned (.tuple #[ptr cp, .bool true]) ∧ Twin w' q cp mp L p ∧ Below q w w' := by
  obtain ⟨W1, hW1⟩ : ∃ W1, w.alloc (.cells #[.int .i64 k, .int .u64 at0, .int .i64 tk, .string x] 33) = W1 := ⟨_, rfl⟩
  have b1 : Below w.heap.size w W1 := by rw [← hW1]; exact (Below.refl _ w).alloc (Nat.le_refl _) _
  have hx := heap_alloc_last w (.cells #[.int .i64 k, .int .u64 at0, .int .i64 tk, .string x] 33)
  rw [hW1] at hx
  have hT2 := h.two b1
  have hqw : q ≤ W1.heap.size := Nat.le_trans hq b1.size
  obtain ⟨xb, hxb⟩ : ∃ b, w.heap.size = b := ⟨_, rfl⟩
  rw [hxb] at hx hT2
  have hzx := block_lt hx
  have x0 := cell_of_row _ _ 0 _ _ _ hx
  have x1 := cell_of_row _ _ 1 _ _ _ hx
  have x2 := cell_of_row _ _ 2 _ _ _ hx
  have x3 := cell_of_row _ _ 3 _ _ _ hx
  simp at x0 x1 x2 x3
  have hm := seven_in h1
  have hw1 : IntKind.i64.wrap (k.tmod 7) = m := by rw [h1]; exact wfI (by omega)
  have hw2 : IntKind.i64.wrap (m + 7) = m + 7 := wfI (by omega)
  have hw3 : IntKind.i64.wrap ((m + 7).tmod 7) = 4 := by rw [h2]; exact wfI (by omega)
  have HB := hidIn (b1.mono hq)
  have HW1 := hidIn hW1
  have HX := hidIn (XDo.mk (x := x) hx)
  have HTw := hidIn hT2.one
  obtain ⟨S, D, k1, ⟨a, cap, m1, _⟩, _⟩ := hT2
  have y0 := cell_regrown (cell_of_row _ _ 0 _ _ _ m1)
  simp at y0
  have HL : Hid (∀ dq osq, Calls Try.prog 6 #[ptr cp] (Go.Sort.grow (redrawn W1 dq) osq) fun e w' => e = .returned (.int .i64 L.length) ∧ Below (Go.Sort.grow (redrawn W1 dq) osq).heap.size (Go.Sort.grow (redrawn W1 dq) osq) w') := hidIn fun dq osq => (len_ok (k1.below (below_regrown W1 dq osq))).mono (by rintro e w' ⟨rfl, rfl⟩; exact ⟨rfl, Below.refl _ _⟩)
  clear h b1 hx hW1 k1 m1
  go_enter Try.func5, Try.ntmps5
  go_upto_region 1 with fail
  rw [HW1.out]
  try simp only [hxb]
  go_upto_region 20 with fail
  refine wp_region_quiet_below (by kernel_rfl) (by kernel_rfl) ?_
  repeat (go_big_quiet_step (first | (go_at_call 6; exact Calls.regrown_of (HL.out _ _))))
  refine wpQuiet_nil ?_
  intro _ hw'
  obtain ⟨⟨dq, osq⟩, hw''⟩ := hw'
  subst hw''
  have hq5 := below_regrown W1 dq osq
  generalize Go.Sort.grow (redrawn W1 dq) osq = U at hq5 ⊢
  have HFin : Hid (Twin U q cp mp L p ∧ Below q w U) := hidIn ⟨HTw.out.below hq5, HB.out.trans (hq5.mono hqw)⟩
  clear hq5 HL y0
  go_wp2
  go_returns
  exact ⟨rfl, HFin.out⟩
set_option maxRecDepth 100000 in
set_option maxHeartbeats 4000000 in
theorem lstep_3 {w : World} {q cp mp p : Nat} {L : List (Tg ByteArray)} {k m at0 tk : Int} {x : ByteArray} (h : Twin w q cp mp L p) (hq : q ≤ w.heap.size) (_hp : p < 80000) (hl : L.length < 80000) (h1 : k.tmod 7 = m) (h2 : (m + 7).tmod 7 = 3) :
    Calls Try.prog 5 #[ptr cp, ptr mp, .agg #[.int .i64 k, .int .u64 at0, .int .i64 tk, .string x]] w fun e w' => e = .returned (.tuple #[ptr cp, .bool true]) ∧ Twin w' q cp mp L p ∧ Below q w w' := by
  obtain ⟨W1, hW1⟩ : ∃ W1, w.alloc (.cells #[.int .i64 k, .int .u64 at0, .int .i64 tk, .string x] 33) = W1 := ⟨_, rfl⟩
  have b1 : Below w.heap.size w W1 := by rw [← hW1]; exact (Below.refl _ w).alloc (Nat.le_refl _) _
  have hx := heap_alloc_last w (.cells #[.int .i64 k, .int .u64 at0, .int .i64 tk, .string x] 33)
  rw [hW1] at hx
  have hT2 := h.two b1
  have hqw : q ≤ W1.heap.size := Nat.le_trans hq b1.size
  obtain ⟨xb, hxb⟩ : ∃ b, w.heap.size = b := ⟨_, rfl⟩
  rw [hxb] at hx hT2
  have hzx := block_lt hx
  have x0 := cell_of_row _ _ 0 _ _ _ hx
  have x1 := cell_of_row _ _ 1 _ _ _ hx
  have x2 := cell_of_row _ _ 2 _ _ _ hx
  have x3 := cell_of_row _ _ 3 _ _ _ hx
  simp at x0 x1 x2 x3
  have hm := seven_in h1
  have hw1 : IntKind.i64.wrap (k.tmod 7) = m := by rw [h1]; exact wfI (by omega)
  have hw2 : IntKind.i64.wrap (m + 7) = m + 7 := wfI (by omega)
  have hw3 : IntKind.i64.wrap ((m + 7).tmod 7) = 3 := by rw [h2]; exact wfI (by omega)
  have HB := hidIn (b1.mono hq)
  have HW1 := hidIn hW1
  have HX := hidIn (XDo.mk (x := x) hx)
  have HTw := hidIn hT2.one
  obtain ⟨S, D, k1, ⟨a, cap, m1, _, m3, _, m4⟩, _⟩ := hT2
  cases L with
  | nil =>
    have y0 := cell_of_row _ _ 0 _ _ _ m1
    simp at y0
    have HN := hidIn (next_none k1)
    clear h b1 hx hW1 k1 m1 m4
    go_enter Try.func5, Try.ntmps5
    go_upto_region 1 with fail
    rw [HW1.out]
    try simp only [hxb]
    go_wp2_with (refine HN.out.mono ?_)
    rintro e w2 ⟨rfl, hw2⟩
    rw [hw2]
    clear hw2 w2 x0 x1 x2 x3
    go_wp2_with fail
    go_returns
    exact ⟨rfl, HTw.out, HB.out⟩
  | cons b L =>
    obtain ⟨bk, o, rfl, n5, n6, n7, n8⟩ := m4 (by simp)
    have y0 := cell_of_row _ _ 0 _ _ _ m1
    simp at y0
    have z0 := (n8 0 b rfl).1
    simp only [Nat.zero_mul, Nat.add_zero] at z0
    obtain ⟨bt, hbt⟩ : ∃ t, b.1.2 = t := ⟨_, rfl⟩
    rw [hbt] at z0
    have HN := hidIn (next_some k1)
    rw [hbt] at HN
    have hcp : (1 : Int) ≤ (cap : Int) := by simp at m3; omega
    have hl0 : (0 : Int) < ((L.length : Int) + 1) := by omega
    have hl1 : ¬ ((L.length : Int) + 1 = 0) := by omega
    clear h b1 hx hW1 k1 m1 m4 n8
    go_enter Try.func5, Try.ntmps5
    go_upto_region 1 with fail
    rw [HW1.out]
    try simp only [hxb]
    go_wp2_with (refine HN.out.mono ?_)
    rintro e w2 ⟨rfl, hw2⟩
    rw [hw2]
    clear hw2 w2 x0 x1 x2 x3
    go_upto_region 18 with fail
    have y0r := cell_regrown y0
    have z0r := cell_regrown z0
    clear y0 z0
    refine wp_region_quiet_below (by kernel_rfl) (by kernel_rfl) ?_
    repeat (go_big_quiet_step (fail))
    refine wpQuiet_nil ?_
    intro _ hw'
    obtain ⟨⟨dq, osq⟩, hw''⟩ := hw'
    subst hw''
    have hq5 := below_regrown W1 dq osq
    generalize Go.Sort.grow (redrawn W1 dq) osq = U at hq5 ⊢
    have HFin : Hid (Twin U q cp mp (b :: L) p ∧ Below q w U) := hidIn ⟨HTw.out.below hq5, HB.out.trans (hq5.mono hqw)⟩
    clear hq5 HN y0r z0r
    go_wp2
    go_returns
    exact ⟨rfl, HFin.out⟩
set_option maxRecDepth 100000 in
set_option maxHeartbeats 4000000 in
theorem lstep_6 {w : World} {q cp mp p : Nat} {L : List (Tg ByteArray)} {k m at0 tk : Int} {x : ByteArray} (h : Twin w q cp mp L p) (hq : q ≤ w.heap.size) (hp : p < 80000) (hl : L.length < 80000) (h1 : k.tmod 7 = m) (h2 : (m + 7).tmod 7 = 6) :
    Calls Try.prog 5 #[ptr cp, ptr mp, .agg #[.int .i64 k, .int .u64 at0, .int .i64 tk, .string x]] w fun e w' => ∃ c2, e = .returned (.tuple #[ptr c2, .bool true]) ∧ Twin w' q c2 mp L p ∧ Below q w w' := by
  obtain ⟨W1, hW1⟩ : ∃ W1, w.alloc (.cells #[.int .i64 k, .int .u64 at0, .int .i64 tk, .string x] 33) = W1 := ⟨_, rfl⟩
  have b1 : Below w.heap.size w W1 := by rw [← hW1]; exact (Below.refl _ w).alloc (Nat.le_refl _) _
  have hx := heap_alloc_last w (.cells #[.int .i64 k, .int .u64 at0, .int .i64 tk, .string x] 33)
  rw [hW1] at hx
  have hT2 := h.two b1
  have hqw : q ≤ W1.heap.size := Nat.le_trans hq b1.size
  obtain ⟨xb, hxb⟩ : ∃ b, w.heap.size = b := ⟨_, rfl⟩
  rw [hxb] at hx hT2
  have hzx := block_lt hx
  have x0 := cell_of_row _ _ 0 _ _ _ hx
  have x1 := cell_of_row _ _ 1 _ _ _ hx
  have x2 := cell_of_row _ _ 2 _ _ _ hx
  have x3 := cell_of_row _ _ 3 _ _ _ hx
  simp at x0 x1 x2 x3
  have hm := seven_in h1
  have hw1 : IntKind.i64.wrap (k.tmod 7) = m := by rw [h1]; exact wfI (by omega)
  have hw2 : IntKind.i64.wrap (m + 7) = m + 7 := wfI (by omega)
  have hw3 : IntKind.i64.wrap ((m + 7).tmod 7) = 6 := by rw [h2]; exact wfI (by omega)
  have HB := hidIn (b1.mono hq)
  have HW1 := hidIn hW1
  have HX := hidIn (XDo.mk (x := x) hx)
  obtain ⟨S, D, k1, k2, k3, k4, k5⟩ := hT2
  have HC := hidIn (copy_ok k1 (by omega) (by omega))
  have K1 := hidIn k1
  have K2 := hidIn k2
  have KA := hidIn (And.intro k3 (And.intro k4 k5))
  clear h b1 hx hW1 k1 k2 k3 k4 k5
  go_enter Try.func5, Try.ntmps5
  go_upto_region 1 with fail
  rw [HW1.out]
  try simp only [hxb]
  clear x1 x2 x3
  go_wp2_with (refine HC.out.mono ?_)
  rintro e w3 ⟨c2, rfl, hC3, hF3⟩
  have C3 := hidIn hC3
  have F3 := hidIn hF3
  have HTk := hidIn (take_ok (now := 18446744073709551615) (K1.out.keep hF3 (fun _ _ h => h)) (by omega) (by omega))
  clear hC3 hF3 HC x0
  go_wp2_with (refine HTk.out.mono ?_)
  rintro e w4 ⟨⟨u, rfl, hrow⟩, hC4, hF4⟩
  have F4 := hidIn hF4
  have hP := fun x : ByteArray => put_ok x 0 hC4 (by omega) (by have := restT_le L 18446744073709551615; omega)
  have HP := hidIn hP
  obtain ⟨ua, uc, rfl⟩ := row_shape hrow
  clear hC4 hF4 hrow hP HTk
  go_wp2_with (refine (HP.out _).mono ?_)
  rintro e w5 ⟨rfl, hC5, hF5⟩
  have HFin : Hid (Twin w5 q c2 mp L p ∧ Below q w w5) := hidIn (by
    have s3 := F3.out.size
    have s4 := F4.out.size
    have s5 := hF5.size
    obtain ⟨k3, k4, k5⟩ := KA.out
    refine ⟨⟨_, D, (C3.out.keep F4.out (fun k hk hs => by have := (k4 k hs).2.1; omega)).keep hF5 (fun k hk hs => by have := (k4 k hs).2.1; omega), ((K2.out.keep F3.out (fun _ _ h => h)).keep F4.out (fun k hk hs => k3 k hs hk)).keep hF5 (fun k hk hs => k3 k hs hk), fun k hk hd => by have := (k5 k hd).2.1; omega, fun k hk => ⟨by omega, by omega⟩, fun k hk => ⟨(k5 k hk).1, by have := (k5 k hk).2.1; omega⟩⟩, ?_⟩
    exact ((HB.out.trans (F3.out.below hqw (fun _ h => h.elim))).trans (F4.out.below (by omega) (fun k hk => (k4 k hk).1))).trans (hF5.below (by omega) (fun k hk => (k4 k hk).1)))
  clear hC5 hF5 HP
  go_wp2_with fail
  go_returns
  exact ⟨c2, rfl, HFin.out⟩
end Go.Proofs.Ytaldehgggilmdaa.Ca.S
