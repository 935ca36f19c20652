/- RecordTells. -/
import Derived.Test.YtclnhohfiimcdaaXD
import Derived.Test.YtclnhohfiimcdaaXS
namespace Go.Proofs.Ytclnhohfiimcdaa
open Go.RowKit

set_option maxRecDepth 100000 in
set_option maxHeartbeats 1000000 in
theorem dstamp_any (r : Rc) (a : Option Addr) (n cap : Nat) (w : World) : Calls Try.prog 15 #[recV r (.slice a n cap)] w fun e w' => e = .returned (stV r.origin r.epoch r.seq) ∧ Below w.heap.size w w' := by
  obtain ⟨orig, epo, sq, cl, ig, as'⟩ := r
  simp only
  go_enter Try.func15, Try.ntmps15
  go_wp2_with fail
  exact bodyPost_ret (v := stV orig epo sq) (by simp [results, Try.results15, asAddr, Result.andThen, go_sem]) rfl ⟨rfl, by go_grown⟩
theorem dstamp_lit (o e q c : Int) (i : Bool) (a : Option Addr) (n cap : Nat) (w : World) : Calls Try.prog 15 #[.agg #[.int .i64 o, .int .u32 e, .int .u32 q, .int .i64 c, .bool i, .slice a n cap]] w fun r w' => r = .returned (.agg #[.int .i64 o, .int .u32 e, .int .u32 q]) ∧ Below w.heap.size w w' := dstamp_any ⟨o, e, q, c, i, []⟩ a n cap w
theorem own_last {w : World} {base g c n : Nat} {l : List (Int × Int)} (hn : l.length = n) (hrow : w.ownsRow base 36 2 (.slice (some ⟨g, 0, none⟩) (n + 1) c) (n + 1) (fl ac (l ++ [(0, 77)]))) : n + 1 ≤ c ∧ w.cell? ⟨g, n * 2 + 1, none⟩ = some (.int .i64 77) := by
  subst hn
  obtain ⟨a, cap, he, _, h2, h3⟩ := (slAt_of_row (cs := ac) (fun _ => rfl) hrow (by simp)).ads
  simp at he
  obtain ⟨rfl, rfl⟩ := he
  obtain ⟨bk, o, h4, _, h6⟩ := h3 (by simp)
  simp at h4
  obtain ⟨rfl, rfl⟩ := h4
  have h := (h6 l.length (0, 77) (by simp)).2
  simp at h2 h
  exact ⟨h2, h⟩
set_option maxRecDepth 100000 in
set_option maxHeartbeats 4000000 in
theorem recordTells_walk {r : Rc} {va : Value} {w : World} (hv : SlAt ac 2 w va r.adjs) (hn : NilOk va) (hrb : RcB r) (hl : (r.adjs.length + 1) * 16 ≤ 140737488355328) :
    Calls Try.prog 3 #[recV r va] w fun e w' => e = .returned (.bool true) ∧ Below w.heap.size w w' := by
  obtain ⟨W1, hW1⟩ : ∃ W1, w.alloc (recO r va) = W1 := ⟨_, rfl⟩
  have b1 : Below w.heap.size w W1 := by rw [← hW1]; exact (Below.refl _ w).alloc (Nat.le_refl _) _
  have hX : W1.heap[w.heap.size]? = some (recO r va) := by rw [← hW1]; exact heap_alloc_last w _
  have HKa := hidIn (fun wq (h : Below W1.heap.size W1 wq) => hv.keep (b1.trans (h.mono b1.size)) (Nat.le_refl _))
  have H3 := hidIn (own_any (HKa.out W1 (Below.refl _ _)) hn hl)
  have HRb := hidIn hrb
  have HW := hidIn hW1
  obtain ⟨aa, acap, rfl, _⟩ := hv.ads
  have HKx := hidIn (fun wq (h : Below W1.heap.size W1 wq) => And.intro ((h.block _ (block_lt hX)).trans hX) (b1.trans (h.mono b1.size)))
  have HEn := hidIn (fun wq vc (h : SlAt ac 2 wq vc r.adjs) => encode_any h hrb)
  have HDn := hidIn (fun wq (h : Below W1.heap.size W1 wq) => dencode_any (HKa.out wq h) hrb)
  obtain ⟨⟨t, c1⟩, ht⟩ : ∃ p, enA r = p := ⟨_, rfl⟩
  rw [ht] at HEn HDn
  have HCk := hidIn (fun wq vc (h : SlAt ac 2 wq vc r.adjs) => rcheck_any h)
  have HDk := hidIn (fun wq (h : Below W1.heap.size W1 wq) => dcheck_any (HKa.out wq h) hrb.e0 hrb.s0)
  obtain ⟨c2, hc2⟩ : ∃ c, ckN r = c := ⟨_, rfl⟩
  rw [hc2] at HCk HDk
  have HSm := hidIn (fun wq (h : Below W1.heap.size W1 wq) vc (hc : SlAt ac 2 wq vc r.adjs) => dsame_any (r := r) (s := r) hc (HKa.out wq h))
  rw [sameB_self] at HSm
  clear hW1 b1 hv hn hrb ht hc2 HKa
  obtain ⟨O, E, Q, C, I, L⟩ := r
  simp only at HKx HEn HDn HCk HDk HSm H3 HW hX hl ⊢
  obtain ⟨n, hln⟩ : ∃ n, L.length = n := ⟨_, rfl⟩
  rw [hln] at HKx HDn HDk HSm H3 HW hX hl ⊢
  have Hln := hidIn hln
  clear hln
  have x0 := cell_of_row _ _ 0 _ _ _ hX
  have x1 := cell_of_row _ _ 1 _ _ _ hX
  have x2 := cell_of_row _ _ 2 _ _ _ hX
  have x3 := cell_of_row _ _ 3 _ _ _ hX
  have x4 := cell_of_row _ _ 4 _ _ _ hX
  have x5 := cell_of_row _ _ 5 _ _ _ hX
  simp at x0 x1 x2 x3 x4 x5
  clear hX
  go_enter Try.func3, Try.ntmps3
  go_upto_region 1 with fail
  rw [HW.out]
  clear HW
  go_wp2_with fail
  refine H3.out.mono ?_
  rintro e w2 ⟨⟨g, c, rfl, hrow⟩, hb2⟩
  simp only at hrow ⊢
  rw [Hln.out] at hrow ⊢
  have Hrow := hidIn hrow
  have HB2 := hidIn hb2
  clear hrow hb2 H3 x0 x1 x2 x3 x4 x5
  obtain ⟨V2, hV2⟩ : ∃ V2, w2.alloc (recO ⟨O, E, Q, C, I, L⟩ (.slice (some ⟨g, 0, none⟩) n c)) = V2 := ⟨_, rfl⟩
  have bV : Below w2.heap.size w2 V2 := by rw [← hV2]; exact (Below.refl _ w2).alloc (Nat.le_refl _) _
  have hY : V2.heap[w2.heap.size]? = some (recO ⟨O, E, Q, C, I, L⟩ (.slice (some ⟨g, 0, none⟩) n c)) := by rw [← hV2]; exact heap_alloc_last w2 _
  have hBV := HB2.out.trans (bV.mono HB2.out.size)
  have HI := hidIn (fun wq (h : Below V2.heap.size V2 wq) => And.intro ((h.block _ (block_lt hY)).trans hY) (And.intro (row_below (row_below Hrow.out bV (Nat.le_refl _)) h (Nat.le_refl _)) (hBV.trans (h.mono hBV.size))))
  have HS : Hid (∀ wq, Below V2.heap.size V2 wq → SlAt ac 2 wq (.slice (some ⟨g, 0, none⟩) n c) L) := hidIn fun wq h => by
    have h1 := (HI.out wq h).2.1
    rw [← Hln.out] at h1 ⊢
    exact slAt_front (cs := ac) (sz := 2) (fun _ => rfl) h1
  have HW2 := hidIn hV2
  clear hV2 bV hY hBV Hrow HB2
  obtain ⟨ib, hib⟩ : ∃ ib, w2.heap.size = ib := ⟨_, rfl⟩
  rw [hib] at HI
  have Hib := hidIn hib
  clear hib
  have hy := (HI.out V2 (Below.refl _ _)).1
  have y0 := cell_of_row _ _ 0 _ _ _ hy
  have y1 := cell_of_row _ _ 1 _ _ _ hy
  have y2 := cell_of_row _ _ 2 _ _ _ hy
  have y3 := cell_of_row _ _ 3 _ _ _ hy
  have y4 := cell_of_row _ _ 4 _ _ _ hy
  have y5 := cell_of_row _ _ 5 _ _ _ hy
  simp at y0 y1 y2 y3 y4 y5
  clear hy
  go_upto_region 2 with fail
  rw [show w2.alloc _ = V2 from HW2.out, Hib.out]
  clear HW2 Hib
  have HE2 := hidIn (HEn.out V2 _ (HS.out V2 (Below.refl _ _)))
  go_wp2_with fail
  refine HE2.out.mono ?_
  rintro e w3 ⟨rfl, hb3⟩
  have HB3 := hidIn hb3
  clear hb3 HE2 HEn y0 y1 y2 y3 y4 y5
  have hx := (HKx.out w3 (HI.out w3 HB3.out).2.2).1
  have HD3 := hidIn (HDn.out w3 (HI.out w3 HB3.out).2.2)
  have x0 := cell_of_row _ _ 0 _ _ _ hx
  have x1 := cell_of_row _ _ 1 _ _ _ hx
  have x2 := cell_of_row _ _ 2 _ _ _ hx
  have x3 := cell_of_row _ _ 3 _ _ _ hx
  have x4 := cell_of_row _ _ 4 _ _ _ hx
  have x5 := cell_of_row _ _ 5 _ _ _ hx
  simp at x0 x1 x2 x3 x4 x5
  clear hx
  simp only
  go_wp2_with fail
  refine HD3.out.mono ?_
  rintro e w4 ⟨rfl, hb4⟩
  have HB4 := hidIn (HB3.out.trans (hb4.mono HB3.out.size))
  clear hb4 HB3 HD3 HDn x0 x1 x2 x3 x4 x5
  obtain ⟨hy, hrow, hb1⟩ := HI.out w4 HB4.out
  obtain ⟨hx, _⟩ := HKx.out w4 hb1
  obtain ⟨hcap, hz⟩ := own_last Hln.out hrow
  have hs := HS.out w4 HB4.out
  have HQ : Hid (∀ dd os, Below W1.heap.size W1 (Go.Sort.grow (redrawn w4 dd) os)) := hidIn fun dd os => hb1.trans ((below_regrown w4 dd os).mono hb1.size)
  have K1 := hidIn (fun dd os => HCk.out _ _ (hs.keep (below_regrown w4 dd os) (Nat.le_refl _)))
  have K2 := hidIn (fun dd os => HDk.out _ (HQ.out dd os))
  have K3 := hidIn (fun dd os => HSm.out _ (HQ.out dd os) _ (hs.keep (below_regrown w4 dd os) (Nat.le_refl _)))
  have x0 := cell_regrown (cell_of_row _ _ 0 _ _ _ hx)
  have x1 := cell_regrown (cell_of_row _ _ 1 _ _ _ hx)
  have x2 := cell_regrown (cell_of_row _ _ 2 _ _ _ hx)
  have x3 := cell_regrown (cell_of_row _ _ 3 _ _ _ hx)
  have x4 := cell_regrown (cell_of_row _ _ 4 _ _ _ hx)
  have x5 := cell_regrown (cell_of_row _ _ 5 _ _ _ hx)
  have y0 := cell_regrown (cell_of_row _ _ 0 _ _ _ hy)
  have y1 := cell_regrown (cell_of_row _ _ 1 _ _ _ hy)
  have y2 := cell_regrown (cell_of_row _ _ 2 _ _ _ hy)
  have y3 := cell_regrown (cell_of_row _ _ 3 _ _ _ hy)
  have y4 := cell_regrown (cell_of_row _ _ 4 _ _ _ hy)
  have y5 := cell_regrown (cell_of_row _ _ 5 _ _ _ hy)
  have z7 := cell_regrown hz
  simp at x0 x1 x2 x3 x4 x5 y0 y1 y2 y3 y4 y5
  clear hx hy hrow hz hs hb1 HCk HDk HSm HS
  have heq : (t.toList == t.toList) = true := by simp
  have hcc : (c1 == c1) = true := by simp
  have hdd : (c2 == c2) = true := by simp
  have hqs : ∀ w, (Op.equalIn 10000 32 (.agg #[.int .i64 O, .int .u32 E, .int .u32 Q]) (.agg #[.int .i64 O, .int .u32 E, .int .u32 Q])).run Try.prog w = Result.ok true w := fun w => by rw [eq_stamp]; simp
  have hn1 : (n : Int) + 1 ≤ (c : Int) := by omega
  have hn2 : (n : Int) < (n : Int) + 1 := by omega
  have hn3 : n < n + 1 := by omega
  have hw1 : IntKind.i64.wrap ((n : Int) + 1) = (n : Int) + 1 := by rw [IntKind.wrap_i64]; omega
  simp only
  go_upto_region 4 with fail
  refine wp_region_quiet_below (by kernel_rfl) (by kernel_rfl) ?_
  repeat (go_big_quiet_step (first | (go_at_call 12; exact Calls.regrown_of (K1.out _ _)) | (go_at_call 13; exact Calls.regrown_of (K2.out _ _)) | (go_at_call 14; exact Calls.regrown_of (stamp_lit _ _ _ _ _ _ _ _ _)) | (go_at_call 15; exact Calls.regrown_of (dstamp_lit _ _ _ _ _ _ _ _ _)) | (go_at_call 16; exact Calls.regrown_of (K3.out _ _)) | (go_at_call 17; exact Calls.regrown_of (rworks_any _))))
  refine wpQuiet_nil ?_
  intro _ hw'
  obtain ⟨⟨dq, osq⟩, hw''⟩ := hw'
  subst hw''
  have HB6 := hidIn (HKx.out _ (HQ.out dq osq)).2
  generalize Go.Sort.grow (redrawn w4 dq) osq = W4 at HB6 ⊢
  clear x0 x1 x2 x3 x4 x5 y0 y1 y2 y3 y4 y5 z7 K1 K2 K3 hqs heq HQ
  go_wp2_with fail
  go_ret
  exact ⟨rfl, HB6.out⟩
end Go.Proofs.Ytclnhohfiimcdaa
