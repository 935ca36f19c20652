/- GraphLinks. -/
import Derived.Test.YtpifkhcjogilfaaGV2
import Derived.Test.YtpifkhcjogilfaaGC
namespace Go.Proofs.Ytpifkhcjogilfaa
open Go.RowKit

theorem infoLink : (Try.prog.info? 51).map (fun i => (i.zero, i.size, i.bytes)) = some (some (.agg #[.int .i64 0, .int .i64 0, .int .i64 0]), 3, 24) := by kernel_rfl
theorem append_allL {W : World} {base n : Nat} {u v : Value} {l m : List Ed} (hr : W.ownsRow base 51 3 u n (fl ec l)) (hv : SlAt ec 3 W v m) (hk : (n + m.length) * 24 ≤ 140737488355328) (hbase : base ≤ W.heap.size) (hnil : (∃ a n c, v = .slice (some a) n c) ∨ (v = .slice none 0 0 ∧ u = .slice none 0 0)) :
    ∃ v' w6, (Builtin.append_ #[48, 48] 48 #[u, v]).run Try.prog W = .ok v' w6 ∧ w6.ownsRow base 51 3 v' (n + m.length) (fl ec (l ++ m)) ∧ Below base W w6 ∧ W.grownBy w6 u.ownBlock :=
  append_all (P := Try.prog) (cs := ec) (T := 48) (fun _ => rfl) (fun _ => by simp [Value.oneCell']) Try.underlying48 infoLink rfl (by decide) hr hv hk (by unfold maxLen; omega) hbase hnil

set_option maxRecDepth 100000 in
set_option maxHeartbeats 4000000 in
theorem graphLinks_walk {ns : List Int} {ls : List Ed} {v u : Value} {w : World} (hv : SlAt ic 1 w v ns) (hu : SlAt ec 3 w u ls) (nnv : NilOk v) (nnu : NilOk u) (bn : (ns.length + 1) * 8 ≤ 140737488355328) (be : (ls.length + 1) * 24 ≤ 140737488355328) :
    Calls Try.prog 5 #[v, u] w fun e w' => e = .returned (.bool true) ∧ Below w.heap.size w w' := by
  have HV := hidIn hv
  have HU := hidIn hu
  obtain ⟨x', w1, hrun1, hrow1, hb1, _⟩ := append_allI (base := w.heap.size) (n := 0) (u := .slice none 0 0) (l := []) (World.ownsRow_nil _ _ _ _) hv (by omega) (Nat.le_refl _) (by rcases nnv with h | h; exact .inl h; exact .inr ⟨h, rfl⟩)
  rw [Nat.zero_add, List.nil_append] at hrow1
  obtain ⟨xa, xcap, rfl⟩ := row_shape hrow1
  obtain ⟨y', w2, hrun2, hrow2, hb2, _⟩ := append_allL (base := w1.heap.size) (n := 0) (u := .slice none 0 0) (l := []) (World.ownsRow_nil _ _ _ _) (hu.keep hb1 (Nat.le_refl _)) (by omega) (Nat.le_refl _) (by rcases nnu with h | h; exact .inl h; exact .inr ⟨h, rfl⟩)
  rw [Nat.zero_add, List.nil_append] at hrow2
  obtain ⟨ya, ycap, rfl⟩ := row_shape hrow2
  have HI : Hid (SlAt ic 1 w2 (.slice xa ns.length xcap) ns) := hidIn ((slAt_of_row (cs := ic) (fun _ => rfl) hrow1 rfl).keep hb2 (Nat.le_refl _))
  have HJ : Hid (SlAt ec 3 w2 (.slice ya ls.length ycap) ls) := hidIn (slAt_of_row (cs := ec) (fun _ => rfl) hrow2 rfl)
  have HB2 := hidIn (hb1.trans (hb2.mono hb1.size))
  have HRun1 := hidIn hrun1
  have HRun2 := hidIn hrun2
  obtain ⟨a, cap, rfl, hl, hcap, _⟩ := hv.ints
  obtain ⟨a2, cap2, rfl, hl2, hcap2, _⟩ := hu.eds
  clear hrun1 hrun2 hrow1 hrow2 hb1 hb2 hv hu nnv nnu
  go_enter Try.func5, Try.ntmps5
  go_wp2_with (first | (refine l_append rfl _ _ 22 rfl HRun1.out ?_) | (refine l_append rfl _ _ 48 rfl HRun2.out ?_))
  clear HRun1 HRun2
  refine (of_any HI.out HJ.out).mono ?_
  rintro e w3 ⟨⟨ua, ucap, va, vcap, rfl, hu3, hv3⟩, hb3⟩
  obtain ⟨N, hN⟩ : ∃ N, ofN ns ls = N := ⟨_, rfl⟩
  obtain ⟨E, hE⟩ : ∃ E, ofE ns ls = E := ⟨_, rfl⟩
  obtain ⟨C, hC⟩ : ∃ C, ofC ns ls = C := ⟨_, rfl⟩
  rw [hN] at hu3 ⊢
  rw [hE] at hv3 ⊢
  rw [hC]
  have HN := hidIn hN
  have HE := hidIn hE
  have HC := hidIn hC
  have HGr := hidIn (grAt_of_rows hu3 hv3)
  have HB3 := hidIn (HB2.out.trans (hb3.mono HB2.out.size))
  have HB23 := hidIn hb3
  clear hN hE hC hu3 hv3 hb3
  obtain ⟨W4, hW4⟩ : ∃ W4, w3.alloc (.cells #[.slice ua N.length ucap, .slice va E.length vcap] 25) = W4 := ⟨_, rfl⟩
  have bA : Below w3.heap.size w3 W4 := by rw [← hW4]; exact (Below.refl _ w3).alloc (Nat.le_refl _) _
  have hGB : W4.heap[w3.heap.size]? = some (.cells #[.slice ua N.length ucap, .slice va E.length vcap] 25) := by rw [← hW4]; exact heap_alloc_last w3 _
  have HB4 := hidIn (HB3.out.trans (bA.mono HB3.out.size))
  have HB24 := hidIn (HB23.out.trans (bA.mono HB23.out.size))
  have HGr4 := hidIn (HGr.out.keep bA (Nat.le_refl _))
  have HGB := hidIn hGB
  have hbg := block_lt hGB
  have HW := hidIn hW4
  have HRef := hidIn (rof_any (HV.out.keep HB4.out (Nat.le_refl _)) (HU.out.keep HB4.out (Nat.le_refl _)))
  clear hW4 bA hGB HGr
  go_upto_region 6 with fail
  rw [HW.out]
  clear HW
  obtain ⟨bg, hbgd⟩ : ∃ bg, w3.heap.size = bg := ⟨_, rfl⟩
  rw [hbgd] at HGB hbg ⊢
  clear hbgd HB23 HB3
  go_wp2_with fail
  refine HRef.out.mono ?_
  rintro e w5 ⟨⟨pa, pcap, qa, qcap, rfl, hu5, hv5⟩, hb5⟩
  rw [HN.out] at hu5 ⊢
  rw [HE.out] at hv5 ⊢
  rw [HC.out]
  have HGq := hidIn (grAt_of_rows hu5 hv5)
  have HB5 := hidIn hb5
  clear hu5 hv5 hb5 HRef
  obtain ⟨W6, hW6⟩ : ∃ W6, w5.alloc (.cells #[.slice pa N.length pcap, .slice qa E.length qcap] 25) = W6 := ⟨_, rfl⟩
  have bA : Below w5.heap.size w5 W6 := by rw [← hW6]; exact (Below.refl _ w5).alloc (Nat.le_refl _) _
  have hGB : W6.heap[w5.heap.size]? = some (.cells #[.slice pa N.length pcap, .slice qa E.length qcap] 25) := by rw [← hW6]; exact heap_alloc_last w5 _
  have HB46 := hidIn (HB5.out.trans (bA.mono HB5.out.size))
  have hG6 := (HB46.out.block bg hbg).trans HGB.out
  have hS := rsame_any (HGr4.out.keep HB46.out (Nat.le_refl _)) (HGq.out.keep bA (Nat.le_refl _))
  rw [show sameG N N E E = true from by simp [sameG]] at hS
  have HS := hidIn hS
  have f0 := cell_of_row _ _ 0 _ _ _ hG6
  have f1 := cell_of_row _ _ 1 _ _ _ hG6
  have k0 := cell_of_row _ _ 0 _ _ _ hGB
  have k1 := cell_of_row _ _ 1 _ _ _ hGB
  simp at f0 f1 k0 k1
  have HB26 := hidIn (HB24.out.trans (HB46.out.mono HB24.out.size))
  have HB6 := hidIn (HB4.out.trans (HB46.out.mono HB4.out.size))
  have HW := hidIn hW6
  clear hW6 bA hGB hG6 hS HGr4 HGq HB46 HB5 HB24 HB4 hbg HGB
  go_upto_region 7 with fail
  rw [HW.out]
  clear HW
  generalize w5.heap.size = bh at *
  go_wp2_with fail
  refine HS.out.mono ?_
  rintro e w7 ⟨rfl, hb7⟩
  have HB27 := hidIn (HB26.out.trans (hb7.mono HB26.out.size))
  have HB7 := hidIn (HB6.out.trans (hb7.mono HB6.out.size))
  clear hb7 f0 f1 k0 k1 HS HB26 HB6
  have hSI := sameInts (HI.out.keep HB27.out (Nat.le_refl _)) (HV.out.keep HB7.out (Nat.le_refl _))
  rw [show decide (ns = ns) = true from by simp] at hSI
  have HSI := hidIn hSI
  clear hSI
  go_wp2_with fail
  refine HSI.out.mono ?_
  rintro e w8 ⟨rfl, hb8⟩
  have HB28 := hidIn (HB27.out.trans (hb8.mono HB27.out.size))
  have HB8 := hidIn (HB7.out.trans (hb8.mono HB7.out.size))
  clear hb8 HSI HB27 HB7
  go_wp2_with fail
  go_loopw [11] (fun i wr => ∃ k : Nat, k ≤ ls.length ∧ i = .int .i64 k ∧ Hid (Below w.heap.size w wr ∧ Below w2.heap.size w2 wr)) (fun i _ => ls.length - (intOf i).toNat)
  case atStart => exact ⟨0, Nat.zero_le _, rfl, hidIn ⟨HB8.out, HB28.out⟩⟩
  case round =>
    clear HB8 HB28
    obtain ⟨k, hk, rfl, HR⟩ := hrel
    obtain ⟨hB, hB2⟩ := HR.out
    have HB := hidIn hB
    have HB2' := hidIn hB2
    clear HR
    by_cases hlt : k < ls.length
    · have hki : (k : Int) < (ls.length : Int) := by omega
      obtain ⟨z, hz⟩ : ∃ z, ls[k]? = some z := ⟨ls[k], List.getElem?_eq_getElem hlt⟩
      obtain ⟨a', cap', he, _, _, hc1⟩ := HJ.out.eds
      simp only [Value.slice.injEq, true_and] at he
      obtain ⟨rfl, rfl⟩ := he
      obtain ⟨b1, o1, rfl, hb1, c1⟩ := hc1 (by omega)
      obtain ⟨a', cap', he, _, _, hc2⟩ := HU.out.eds
      simp only [Value.slice.injEq, true_and] at he
      obtain ⟨rfl, rfl⟩ := he
      obtain ⟨b2, o2, rfl, hb2, c2⟩ := hc2 (by omega)
      obtain ⟨p0, p1, p2⟩ := c1 k _ hz
      obtain ⟨q0, q1, q2⟩ := c2 k _ hz
      have x0 := (hB2.cell (p := ⟨b1, o1 + k * 3, none⟩) hb1).trans p0
      have y0 := (hB.cell (p := ⟨b2, o2 + k * 3, none⟩) hb2).trans q0
      have x1 := (hB2.cell (p := ⟨b1, o1 + k * 3 + 1, none⟩) hb1).trans p1
      have y1 := (hB.cell (p := ⟨b2, o2 + k * 3 + 1, none⟩) hb2).trans q1
      have x2 := (hB2.cell (p := ⟨b1, o1 + k * 3 + 2, none⟩) hb1).trans p2
      have y2 := (hB.cell (p := ⟨b2, o2 + k * 3 + 2, none⟩) hb2).trans q2
      have hq : ∀ w, (Op.equalIn 10000 51 (.agg #[.int .i64 z.1, .int .i64 z.2.1, .int .i64 z.2.2]) (.agg #[.int .i64 z.1, .int .i64 z.2.1, .int .i64 z.2.2])).run Try.prog w = Result.ok true w := fun w => by rw [eq_link]; simp
      clear hc1 hc2 c1 c2 p0 p1 p2 q0 q1 q2 hz hB hB2
      go_upto_region 12 with fail
      go_quiet (fail)
      clear x0 y0 x1 y1 x2 y2 hq
      go_wp2_with fail
      go_roundw
      case rel => exact ⟨k + 1, by omega, by go_num, hidIn ⟨below_drewN HB.out _, below_drewN HB2'.out _⟩⟩
      case measure => simp [intOf]; omega
    · have hki : ¬ ((k : Int) < (ls.length : Int)) := by omega
      clear hB hB2
      go_wp2_with fail
      refine (works_ok _).mono ?_
      rintro e w12 ⟨rfl, hb12⟩
      have HBw := hidIn (HB.out.trans (hb12.mono HB.out.size))
      clear hb12
      go_wp2_with fail
      go_ret
      exact ⟨rfl, HBw.out⟩
end Go.Proofs.Ytpifkhcjogilfaa
