/- dandelionlaw03.example, works. -/
import Derived.Test.YtgfmlonhjmdfjaaDoorH12
namespace Go.Proofs.YtgfmlonhjmdfjaaDoor
open Go.RowKit

/-- The chapter's example. -/
abbrev exV : Value := .agg #[.int .i64 8, .int .i64 2, .int .u32 16909060, .int .i64 15, .int .i64 7, .int .i64 3, .int .u32 9, .int .u64 129, .int .u64 0, .int .u64 0, .int .u64 0]
theorem wd129 : wd 129 0 = 129 ∧ wd 129 1 = 0 ∧ wd 129 2 = 0 ∧ wd 129 3 = 0 := by decide
theorem exV_eq : hd 8 2 16909060 15 7 3 9 129 = exV := by
  obtain ⟨a, b, c, d⟩ := wd129
  simp only [hd, a, b, c, d]
  rfl
/-- The example's bytes. -/
def exB : ByteArray := ⟨#[16, 2, 1, 2, 3, 4, 15, 7, 3, 0, 0, 0, 9, 129]⟩
def exS : ByteArray := ⟨#[16, 2, 1, 2, 3, 4, 15, 7, 3, 0, 0, 0, 9, 129, 94, 234]⟩
theorem exB_eq : bodyS 0 2 16909060 15 7 3 9 129 1 = exB := by decide +kernel
theorem exS_eq : Wi.sealS exB = exS := by decide +kernel
theorem bl129 : bl 129 = 8 := by decide +kernel
theorem exOk : OkH (8 * ((1 : Nat) : Int)) ((2 : Nat) : Int) ((15 : Nat) : Int) ((7 : Nat) : Int) ((3 : Nat) : Int) 129 := by
  refine ⟨by unfold IsW; decide, ?_, by decide, by decide, by decide, by decide⟩
  rw [bl129]
  decide
theorem encode_ex (w : World) (ht : Wid w) : Calls Tryd.prog 11 #[exV] w fun e w' => e = .returned (.tuple #[.string exS, .int .i64 0]) ∧ Below w.heap.size w w' := by
  have h := encode_ok 0 2 16909060 15 7 3 9 129 1 (by decide) exOk (by decide) (by decide) (by decide) w ht
  rw [exB_eq, exS_eq, show hd (8 * ((1 : Nat) : Int)) ((2 : Nat) : Int) ((16909060 : Nat) : Int) ((15 : Nat) : Int) ((7 : Nat) : Int) ((3 : Nat) : Int) ((9 : Nat) : Int) 129 = exV from exV_eq] at h
  exact h
theorem exTk : Wi.tk exB 1 1 = 2 ∧ Wi.tk exB 2 4 = 16909060 ∧ Wi.tk exB 6 1 = 15 ∧ Wi.tk exB 7 1 = 7 ∧ Wi.tk exB 8 1 = 3 ∧ Wi.tk exB 9 4 = 9 ∧ dN exB 1 = 129 := by decide +kernel
theorem decode_ex (w : World) (ht : Wid w) : Calls Tryd.prog 18 #[.string exS] w fun e w' => e = .returned (.tuple #[exV, .int .i64 0]) ∧ Below w.heap.size w w' := by
  obtain ⟨t1, t2, t3, t4, t5, t6, t7⟩ := exTk
  have hok : OkB exB (2 ^ 0) := by
    unfold OkB
    rw [t1, t3, t4, t5, show (2 : Nat) ^ 0 = 1 from rfl, t7]
    exact exOk
  have h := decode_ok' exS exB 0 (by decide) (by decide) (by decide) (by decide) exS_eq hok w ht
  rw [t1, t2, t3, t4, t5, t6, show (2 : Nat) ^ 0 = 1 from rfl, t7, show hd (8 * ((1 : Nat) : Int)) ((2 : Nat) : Int) ((16909060 : Nat) : Int) ((15 : Nat) : Int) ((7 : Nat) : Int) ((3 : Nat) : Int) ((9 : Nat) : Int) 129 = exV from exV_eq] at h
  exact h
set_option maxHeartbeats 400000 in
theorem example_any (w : World) : Calls Tryd.prog 30 #[] w fun e w' => e = .returned exV ∧ Below w.heap.size w w' := by
  go_enter Tryd.func30, Tryd.ntmps30
  go_wp2
  go_returns
  exact ⟨rfl, by go_grown⟩
theorem ex_cmp : (((⟨#[16, 2, 1, 2, 3, 4, 15, 7, 3, 0, 0, 0, 9, 129, 94, 234]⟩ : ByteArray).extract 0 14).toList == [16, 2, 1, 2, 3, 4, 15, 7, 3, 0, 0, 0, 9, 129]) = true := by
  rw [ByteArray.toList_eq]
  decide +kernel
theorem eq_ex (w : World) : (Op.equalIn 10000 27 exV exV).run Tryd.prog w = Result.ok true w := by
  rw [← exV_eq, eq_hd _ _ _ _ _ _ _ _ _ _ _ _ _ _ _ _ (by decide) (by decide)]
  simp
theorem hasHd_ex (w : World) : HasHd (w.alloc (.cells #[.int .i64 8, .int .i64 2, .int .u32 16909060, .int .i64 15, .int .i64 7, .int .i64 3, .int .u32 9, .int .u64 129, .int .u64 0, .int .u64 0, .int .u64 0] 27)) w.heap.size 8 2 16909060 15 7 3 9 129 := by
  have h := hasHd_new w 8 2 16909060 15 7 3 9 129
  obtain ⟨a, b, c, d⟩ := wd129
  simp only [hob, a, b, c, d] at h
  exact h

set_option maxRecDepth 100000 in
set_option maxHeartbeats 1000000 in
theorem works_any (w : World) (ht : Wid w) : Calls Tryd.prog 17 #[] w fun e w' => e = .returned (.bool true) ∧ Below w.heap.size w w' := by
  go_enter Tryd.func17, Tryd.ntmps17
  go_wp2_with fail
  refine (example_any _).mono ?_
  rintro e w1 ⟨rfl, hb1⟩
  go_wp2_with fail
  refine (encode_ex _ (ht.keep hb1)).mono ?_
  rintro e w2 ⟨rfl, hb2⟩
  have hB2 : Below w.heap.size w w2 := hb1.trans (hb2.mono hb1.size)
  clear hb1 hb2
  go_wp2_with fail
  refine (decode_ex _ (ht.keep hB2)).mono ?_
  rintro e w3 ⟨rfl, hb3⟩
  have hB3 : Below w.heap.size w w3 := hB2.trans (hb3.mono hB2.size)
  clear hB2 hb3
  have hn := hasHd_ex w3
  have hB4 := hB3.alloc hB3.size (.cells #[.int .i64 8, .int .i64 2, .int .u32 16909060, .int .i64 15, .int .i64 7, .int .i64 3, .int .u32 9, .int .u64 129, .int .u64 0, .int .u64 0, .int .u64 0] 27)
  have H4 := hidIn (And.intro hn hB4)
  clear hn hB4 hB3
  go_upto_region 3 with fail
  generalize w3.alloc _ = w4 at *
  generalize w3.heap.size = hb at *
  obtain ⟨a, b, c, d⟩ := wd129
  obtain ⟨hn, hB4⟩ := H4.out
  have k0 := cell_regrown hn.c0
  have k1 := cell_regrown hn.c1
  have k2 := cell_regrown hn.c2
  have k3 := cell_regrown hn.c3
  have k4 := cell_regrown hn.c4
  have k5 := cell_regrown hn.c5
  have k6 := cell_regrown hn.c6
  have k7 := cell_regrown hn.c7
  have k8 := cell_regrown hn.c8
  have k9 := cell_regrown hn.c9
  have ka := cell_regrown hn.ca
  rw [a] at k7
  rw [b] at k8
  rw [c] at k9
  rw [d] at ka
  have hq := eq_ex
  have hcmp := ex_cmp
  have hx : exS = ⟨#[16, 2, 1, 2, 3, 4, 15, 7, 3, 0, 0, 0, 9, 129, 94, 234]⟩ := rfl
  rw [hx]
  clear hx hn H4 a b c d
  refine wp_region_quiet_below (by kernel_rfl) (by kernel_rfl) ?_
  repeat (go_big_quiet_step (first
    | (go_at_call 30; exact Calls.regrown_of (example_any _))))
  refine wpQuiet_nil ?_
  intro _ hw'
  obtain ⟨⟨dq, osq⟩, hw''⟩ := hw'
  subst hw''
  have hbr := below_regrown w4 dq osq
  generalize Go.Sort.grow (redrawn w4 dq) osq = W5 at hbr ⊢
  clear k0 k1 k2 k3 k4 k5 k6 k7 k8 k9 ka
  go_wp2
  go_ret
  exact ⟨rfl, hB4.trans (hbr.mono hB4.size)⟩
end Go.Proofs.YtgfmlonhjmdfjaaDoor
