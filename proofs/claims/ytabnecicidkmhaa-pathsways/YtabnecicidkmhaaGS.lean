/- The document's Router, has, Check. -/
import Derived.Test.YtabnecicidkmhaaGF
import Derived.Test.YtabnecicidkmhaaGQ
namespace Go.Proofs.Ytabnecicidkmhaa
open Go.RowKit

theorem rrouter_any (n : Int) (w : World) : Calls Try.prog 45 #[.int .i64 n] w fun e w' => e = .returned (.bool (isR n)) ∧ Below w.heap.size w w' := by
  by_cases h1 : 1 ≤ n
  · by_cases h2 : n ≤ 24
    · go_enter Try.func45, Try.ntmps45
      go_wp2
      go_ret
      exact ⟨by simp [isR, h1, h2], Below.refl _ _⟩
    · go_enter Try.func45, Try.ntmps45
      go_wp2
      go_ret
      exact ⟨by simp [isR, h1]; omega, Below.refl _ _⟩
  · go_enter Try.func45, Try.ntmps45
    go_wp2
    go_ret
    exact ⟨by simp [isR]; omega, Below.refl _ _⟩
set_option maxRecDepth 100000 in
theorem rhas_any {zs : List Int} {v : Value} {w : World} (hv : SlAt ic 1 w v zs) (n : Int) :
    Calls Try.prog 46 #[v, .int .i64 n] w fun e w' => e = .returned (.bool (hasN zs n)) ∧ w' = w := by
  obtain ⟨a, cap, rfl, hl, _, hat⟩ := hv.ints
  have Ha := hidIn hat
  clear hat hv
  go_enter Try.func46, Try.ntmps46
  go_wp2
  go_loopw [5] (fun i wr => wr = w ∧ ∃ k : Nat, k ≤ zs.length ∧ i = .int .i64 k ∧ Hid (hasN zs n = hasN (zs.drop k) n)) (fun i _ => zs.length - (intOf i).toNat)
  case atStart => exact ⟨rfl, 0, Nat.zero_le _, rfl, hidIn (by rw [List.drop_zero])⟩
  case round =>
    obtain ⟨hwr, k, hk, rfl, HH⟩ := hrel
    rw [hwr]
    clear hwr
    by_cases hlt : k < zs.length
    · obtain ⟨bk, o, rfl, hbk, hcell⟩ := Ha.out (by omega)
      obtain ⟨z, hz⟩ : ∃ z, zs[k]? = some z := ⟨zs[k], List.getElem?_eq_getElem hlt⟩
      have hc := hcell k z hz
      have HN := hidIn (hasN_drop (n := n) hz)
      clear hcell hz
      have hki : (k : Int) < (zs.length : Int) := by omega
      by_cases hzn : z = n
      · have hq : (z == n) = true := by simpa using hzn
        have Hz := hidIn hzn
        clear hzn
        go_wp2
        go_returns
        exact ⟨by rw [HH.out, HN.out]; simp [Hz.out], rfl⟩
      · have hne : (z == n) = false := by simpa using hzn
        have Hz := hidIn hzn
        clear hzn
        go_wp2
        go_roundw
        case rel => exact ⟨trivial, k + 1, by omega, by go_num, hidIn (by rw [HH.out, HN.out]; simp [Hz.out])⟩
        case measure => simp [intOf]; omega
    · have hki : ¬ ((k : Int) < (zs.length : Int)) := by omega
      have hke : k = zs.length := by omega
      go_wp2
      go_returns
      refine ⟨?_, rfl⟩
      rw [HH.out, hke, List.drop_length]
      rfl
def lastN (ns : List Int) : Nat → Int
  | 0 => 0
  | k + 1 => ns[k]?.getD 0
def lastE (es : List Ed) : Nat → Ed
  | 0 => (0, 0, 0)
  | k + 1 => es[k]?.getD (0, 0, 0)
def ckC (ns : List Int) (es : List Ed) : Int := if graphOk ns es = true then 0 else 2
theorem ckC_no {ns : List Int} {es : List Ed} (h : graphOk ns es = false) : ckC ns es = 2 := by unfold ckC; rw [h]; rfl
theorem ckC_yes {ns : List Int} {es : List Ed} (h : graphOk ns es = true) : ckC ns es = 0 := by unfold ckC; rw [h]; rfl
set_option maxRecDepth 100000 in
set_option maxHeartbeats 2000000 in
theorem gcheck_any {ns : List Int} {es : List Ed} {vn ve : Value} {w : World} (h : GrAt w vn ve ns es) :
    Calls Try.prog 25 #[grV vn ve] w fun e w' => e = .returned (.int .i64 (ckC ns es)) ∧ Below w.heap.size w w' := by
  obtain ⟨na, nca, rfl, hnl, _, hna⟩ := h.n.ints
  obtain ⟨ea, eca, rfl, hel, _, hea⟩ := h.e.eds
  have Hna := hidIn hna
  have Hea := hidIn hea
  have Hn := hidIn h.n
  clear hna hea h
  obtain ⟨W1, hW1⟩ : ∃ W1, w.alloc (.cells #[.slice na ns.length nca, .slice ea es.length eca] 25) = W1 := ⟨_, rfl⟩
  have bA : Below w.heap.size w W1 := by rw [← hW1]; exact (Below.refl _ w).alloc (Nat.le_refl _) _
  have hGB : W1.heap[w.heap.size]? = some (.cells #[.slice na ns.length nca, .slice ea es.length eca] 25) := by rw [← hW1]; exact heap_alloc_last w _
  have hlt0 := block_lt hGB
  have HF : Hid (∀ wq, Below W1.heap.size W1 wq → (wq.cell? ⟨w.heap.size, 0, none⟩ = some (.slice na ns.length nca) ∧ wq.cell? ⟨w.heap.size, 1, none⟩ = some (.slice ea es.length eca)) ∧ Below w.heap.size w wq) := hidIn fun wq h => by
    have j0 := (h.block _ hlt0).trans hGB
    exact ⟨⟨cell_of_row _ _ 0 _ _ _ j0, cell_of_row _ _ 1 _ _ _ j0⟩, bA.trans (h.mono bA.size)⟩
  have HW := hidIn hW1
  clear hW1 bA hGB
  go_enter Try.func25, Try.ntmps25
  go_upto_region 1 with fail
  rw [HW.out]
  clear HW
  go_wp2_with fail
  go_loopw [3] (fun i wr => ∃ k : Nat, k ≤ ns.length ∧ i = .int .i64 k ∧ Hid (Below W1.heap.size W1 wr ∧ nodesOk 0 ns = nodesOk (lastN ns k) (ns.drop k))) (fun i _ => ns.length - (intOf i).toNat)
  case atStart => exact ⟨0, Nat.zero_le _, rfl, hidIn ⟨Below.refl _ _, by rw [List.drop_zero]; rfl⟩⟩
  case round =>
    obtain ⟨k, hk, rfl, HR⟩ := hrel
    obtain ⟨hbel, hrest⟩ := HR.out
    have HB := hidIn hbel
    have HE := hidIn hrest
    clear HR hbel hrest
    obtain ⟨⟨f0, f1⟩, hbw⟩ := HF.out wr HB.out
    by_cases hlt : k < ns.length
    · obtain ⟨bk, o, rfl, hbk, hcell⟩ := Hna.out (by omega)
      obtain ⟨z, hz⟩ : ∃ z, ns[k]? = some z := ⟨ns[k], List.getElem?_eq_getElem hlt⟩
      have HN : Hid (nodesOk 0 ns = (isR z && (decide (lastN ns k < z) && nodesOk (lastN ns (k + 1)) (ns.drop (k + 1))))) := hidIn (by rw [HE.out, drop_next hz, nodesOk, lastN, hz]; rfl)
      have c0 := (hbw.cell (p := ⟨bk, o + k, none⟩) hbk).trans (hcell k z hz)
      have hki : (k : Int) < (ns.length : Int) := by omega
      obtain ⟨b1, hb1⟩ : ∃ b1, isR z = b1 := ⟨_, rfl⟩
      have HRt : Hid (∀ d os, Calls Try.prog 45 #[.int .i64 z] (Go.Sort.grow (redrawn wr d) os) fun e w' => e = .returned (.bool b1) ∧ Below (Go.Sort.grow (redrawn wr d) os).heap.size (Go.Sort.grow (redrawn wr d) os) w') := hidIn fun d os => by rw [← hb1]; exact rrouter_any z _
      have Hb1 := hidIn hb1
      have r0 := cell_regrown c0
      have r1 := cell_regrown f0
      clear hb1 hz
      cases b1
      · go_upto_region 4 with fail
        clear c0 f0 f1 hcell
        refine wp_region_quiet_below (by kernel_rfl) (by kernel_rfl) ?_
        repeat (go_big_quiet_step (first | (go_at_call 45; exact Calls.regrown_of (HRt.out _ _))))
        refine wpQuiet_nil ?_
        intro _ hw'
        obtain ⟨⟨dq, osq⟩, hw''⟩ := hw'
        subst hw''
        have HB4 := hidIn (hbw.trans ((below_regrown wr dq osq).mono hbw.size))
        generalize Go.Sort.grow (redrawn wr dq) osq = W4 at HB4 ⊢
        clear r0 r1 HRt
        go_wp2_with fail
        go_returns
        exact ⟨by rw [ckC_no (by unfold graphOk; rw [HN.out, Hb1.out]; rfl)]; rfl, HB4.out⟩
      · cases k with
        | zero =>
          simp only [Nat.add_zero] at r0
          go_upto_region 4 with fail
          clear c0 f0 f1 hcell
          refine wp_region_quiet_below (by kernel_rfl) (by kernel_rfl) ?_
          repeat (go_big_quiet_step (first | (go_at_call 45; exact Calls.regrown_of (HRt.out _ _))))
          refine wpQuiet_nil ?_
          intro _ hw'
          obtain ⟨⟨dq, osq⟩, hw''⟩ := hw'
          subst hw''
          have HB4 := hidIn (HB.out.trans ((below_regrown wr dq osq).mono HB.out.size))
          generalize Go.Sort.grow (redrawn wr dq) osq = W4 at HB4 ⊢
          clear r0 r1 HRt
          go_wp2_with fail
          go_roundw
          case rel =>
            refine ⟨1, by omega, rfl, hidIn ⟨HB4.out, ?_⟩⟩
            have := isR_iff.1 Hb1.out
            have h0 : decide (lastN ns 0 < z) = true := decide_eq_true (show (0 : Int) < z by omega)
            rw [HN.out, Hb1.out, h0]
            rfl
          case measure => simp [intOf]; omega
        | succ j =>
          obtain ⟨y, hy⟩ : ∃ y, ns[j]? = some y := ⟨ns[j], List.getElem?_eq_getElem (by omega)⟩
          have c1 := (hbw.cell (p := ⟨bk, o + j, none⟩) hbk).trans (hcell j y hy)
          have r2 := cell_regrown c1
          have Hl : Hid (lastN ns (j + 1) = y) := hidIn (by rw [lastN, hy]; rfl)
          have wr1 : IntKind.i64.wrap ((j : Int) + 1 - 1) = (j : Int) := by rw [IntKind.wrap_i64]; omega
          have wr2 : IntKind.i64.wrap (j : Int) = (j : Int) := by rw [IntKind.wrap_i64]; omega
          have hj0 : (0 : Int) < (j : Int) + 1 := by omega
          have hj1 : (j : Int) < (ns.length : Int) := by omega
          by_cases hzy : z ≤ y
          · go_upto_region 4 with fail
            clear c0 c1 f0 f1 hcell hy
            refine wp_region_quiet_below (by kernel_rfl) (by kernel_rfl) ?_
            repeat (go_big_quiet_step (first | (go_at_call 45; exact Calls.regrown_of (HRt.out _ _))))
            refine wpQuiet_nil ?_
            intro _ hw'
            obtain ⟨⟨dq, osq⟩, hw''⟩ := hw'
            subst hw''
            have HB4 := hidIn (hbw.trans ((below_regrown wr dq osq).mono hbw.size))
            generalize Go.Sort.grow (redrawn wr dq) osq = W4 at HB4 ⊢
            clear r0 r1 r2 HRt
            go_wp2_with fail
            go_returns
            refine ⟨?_, HB4.out⟩
            have : decide (y < z) = false := by simp; omega
            rw [ckC_no (by unfold graphOk; rw [HN.out, Hb1.out, Hl.out, this]; rfl)]
            rfl
          · have hd : decide (z ≤ y) = false := by simpa using hzy
            go_upto_region 4 with fail
            clear c0 c1 f0 f1 hcell hy
            refine wp_region_quiet_below (by kernel_rfl) (by kernel_rfl) ?_
            repeat (go_big_quiet_step (first | (go_at_call 45; exact Calls.regrown_of (HRt.out _ _))))
            refine wpQuiet_nil ?_
            intro _ hw'
            obtain ⟨⟨dq, osq⟩, hw''⟩ := hw'
            subst hw''
            have HB4 := hidIn (HB.out.trans ((below_regrown wr dq osq).mono HB.out.size))
            generalize Go.Sort.grow (redrawn wr dq) osq = W4 at HB4 ⊢
            clear r0 r1 r2 HRt hd
            go_wp2_with fail
            go_roundw
            case rel =>
              refine ⟨j + 1 + 1, by omega, by go_num, hidIn ⟨HB4.out, ?_⟩⟩
              rw [HN.out, Hb1.out, Hl.out]
              have : decide (y < z) = true := by simp; omega
              rw [this]
              rfl
            case measure => simp [intOf]; omega
    · have hki : ¬ ((k : Int) < (ns.length : Int)) := by omega
      have HT : Hid (nodesOk 0 ns = true) := hidIn (by rw [HE.out, List.drop_eq_nil_of_le (by omega)]; rfl)
      have Hbd : Hid (∀ n ∈ ns, 1 ≤ n) := hidIn fun n hn => (nodesOk_bd ns 0 HT.out n hn).1
      by_cases h384 : es.length ≤ 384
      · have h384' : ¬ (384 : Int) < (es.length : Int) := by omega
        have HG : Hid (graphOk ns es = edgesOk ns (0, 0, 0) es) := hidIn (by unfold graphOk; rw [HT.out]; simp [h384])
        clear HE
        generalize hwo : wr = wo at *
        clear hwo
        go_wp2_with fail
        clear f0 f1 hbw
        go_loopw [4] (fun i wr => ∃ k : Nat, k ≤ es.length ∧ i = .int .i64 k ∧ Hid (Below W1.heap.size W1 wr ∧ edgesOk ns (0, 0, 0) es = edgesOk ns (lastE es k) (es.drop k))) (fun i _ => es.length - (intOf i).toNat)
        case atStart => exact ⟨0, Nat.zero_le _, rfl, hidIn ⟨HB.out, by rw [List.drop_zero]; rfl⟩⟩
        case round =>
          obtain ⟨j, hj, rfl, HR⟩ := hrel
          obtain ⟨hbel, hrest⟩ := HR.out
          have HB2 := hidIn hbel
          have HE := hidIn hrest
          clear HR hbel hrest
          obtain ⟨⟨f0, f1⟩, hbw⟩ := HF.out wr HB2.out
          by_cases hlt : j < es.length
          · obtain ⟨bk, o, rfl, hbk, hcell⟩ := Hea.out (by omega)
            obtain ⟨⟨x, y, c⟩, hz⟩ : ∃ z, es[j]? = some z := ⟨es[j], List.getElem?_eq_getElem hlt⟩
            have HN : Hid (edgesOk ns (0, 0, 0) es = (edgeOk ns (lastE es j) (x, y, c) && edgesOk ns (lastE es (j + 1)) (es.drop (j + 1)))) := hidIn (by rw [HE.out, drop_next hz, edgesOk, lastE, hz]; rfl)
            obtain ⟨q0, q1, q2⟩ := hcell j _ hz
            have c0 := (hbw.cell (p := ⟨bk, o + j * 3, none⟩) hbk).trans q0
            have c1 := (hbw.cell (p := ⟨bk, o + j * 3 + 1, none⟩) hbk).trans q1
            have c2 := (hbw.cell (p := ⟨bk, o + j * 3 + 2, none⟩) hbk).trans q2
            simp only at c0 c1 c2
            have hji : (j : Int) < (es.length : Int) := by omega
            obtain ⟨W5, hW5⟩ : ∃ W5, wr.alloc (.cells #[.int .i64 x, .int .i64 y, .int .i64 c] 54) = W5 := ⟨_, rfl⟩
            have bA : Below wr.heap.size wr W5 := by rw [← hW5]; exact (Below.refl _ wr).alloc (Nat.le_refl _) _
            have hXB : W5.heap[wr.heap.size]? = some (.cells #[.int .i64 x, .int .i64 y, .int .i64 c] 54) := by rw [← hW5]; exact heap_alloc_last wr _
            have x0 : W5.cell? ⟨wr.heap.size, 0, none⟩ = some (.int .i64 x) := cell_of_row _ _ 0 _ _ _ hXB
            have x1 : W5.cell? ⟨wr.heap.size, 1, none⟩ = some (.int .i64 y) := cell_of_row _ _ 1 _ _ _ hXB
            have x2 : W5.cell? ⟨wr.heap.size, 2, none⟩ = some (.int .i64 c) := cell_of_row _ _ 2 _ _ _ hXB
            have HB5 := hidIn (HB2.out.trans (bA.mono HB2.out.size))
            obtain ⟨⟨g0, g1⟩, hbw5⟩ := HF.out W5 HB5.out
            have HH := hidIn (fun n => rhas_any (Hn.out.keep hbw5 (Nat.le_refl _)) n)
            have HW := hidIn hW5
            have HXB := hidIn hXB
            have HY : Hid (0 < j → ∃ p q r, es[j - 1]? = some (p, q, r) ∧ lastE es j = (p, q, r) ∧ W5.cell? ⟨bk, o + (j - 1) * 3, none⟩ = some (.int .i64 p) ∧ W5.cell? ⟨bk, o + (j - 1) * 3 + 1, none⟩ = some (.int .i64 q) ∧ W5.cell? ⟨bk, o + (j - 1) * 3 + 2, none⟩ = some (.int .i64 r)) := hidIn fun h0 => by
              obtain ⟨⟨p, q, r⟩, hp⟩ : ∃ z, es[j - 1]? = some z := ⟨es[j - 1], List.getElem?_eq_getElem (by omega)⟩
              obtain ⟨e0, e1, e2⟩ := hcell (j - 1) _ hp
              refine ⟨p, q, r, hp, ?_, (hbw5.cell (p := ⟨bk, o + (j - 1) * 3, none⟩) hbk).trans e0, (hbw5.cell (p := ⟨bk, o + (j - 1) * 3 + 1, none⟩) hbk).trans e1, (hbw5.cell (p := ⟨bk, o + (j - 1) * 3 + 2, none⟩) hbk).trans e2⟩
              cases j with
              | zero => omega
              | succ j => simp only [Nat.add_sub_cancel] at hp; rw [lastE, hp]; rfl
            clear hcell q0 q1 q2 hz hW5 bA hXB
            go_upto_region 12 with fail
            rw [HW.out]
            clear HW c0 c1 c2 f0 f1 hbw
            by_cases hxy : x = y
            · have hq : (x == y) = true := by simpa using hxy
              have Hxy := hidIn hxy
              clear hxy
              go_wp2_with fail
              go_returns
              exact ⟨by rw [ckC_no (by rw [HG.out, HN.out]; simp [edgeOk, Hxy.out])]; rfl, hbw5⟩
            have hq : (x == y) = false := by simpa using hxy
            go_wp2_with fail
            refine (HH.out x).mono ?_
            rintro e w6 ⟨rfl, hw6⟩
            rw [hw6]
            clear hw6 w6
            obtain ⟨b1, hb1⟩ : ∃ b1, hasN ns x = b1 := ⟨_, rfl⟩
            have Hb1 := hidIn hb1
            rw [hb1]
            clear hb1
            cases b1
            · go_wp2_with fail
              go_returns
              exact ⟨by rw [ckC_no (by rw [HG.out, HN.out]; simp [edgeOk, Hb1.out])]; rfl, hbw5⟩
            go_wp2_with fail
            refine (HH.out y).mono ?_
            rintro e w6 ⟨rfl, hw6⟩
            rw [hw6]
            clear hw6 w6
            obtain ⟨b2, hb2⟩ : ∃ b2, hasN ns y = b2 := ⟨_, rfl⟩
            have Hb2 := hidIn hb2
            rw [hb2]
            clear hb2
            cases b2
            · go_wp2_with fail
              go_returns
              exact ⟨by rw [ckC_no (by rw [HG.out, HN.out]; simp [edgeOk, Hb2.out])]; rfl, hbw5⟩
            by_cases hc1 : c < 1
            · go_wp2_with fail
              go_returns
              have hcc : isC c = false := by simp [isC]; omega
              exact ⟨by rw [ckC_no (by rw [HG.out, HN.out]; simp [edgeOk, hcc])]; rfl, hbw5⟩
            by_cases hc2 : 1000 < c
            · go_wp2_with fail
              go_returns
              have hcc : isC c = false := by simp [isC]; omega
              exact ⟨by rw [ckC_no (by rw [HG.out, HN.out]; simp [edgeOk, hcc])]; rfl, hbw5⟩
            have Hcc : Hid (isC c = true) := hidIn (isC_iff.2 ⟨by omega, by omega⟩)
            cases j with
            | zero =>
              go_wp2_with fail
              go_roundw
              case rel =>
                refine ⟨1, by omega, rfl, hidIn ⟨HB5.out, ?_⟩⟩
                have h1 := Hbd.out x (hasN_iff.1 Hb1.out)
                have h2 : risesE (lastE es 0) (x, y, c) = true := risesE_iff.2 (.inl (show (0 : Int) < x by omega))
                rw [HN.out]
                simp [edgeOk, Hb1.out, Hb2.out, Hcc.out, hxy, h2]
              case measure => simp [intOf]; omega
            | succ i =>
              obtain ⟨p, q, r, _, hl, y0, y1, y2⟩ := HY.out (by omega)
              have Hl := hidIn hl
              simp only [Nat.add_sub_cancel] at y0 y1 y2
              have hi0 : (0 : Int) < (i : Int) + 1 := by omega
              have hi1 : (i : Int) < (es.length : Int) := by omega
              obtain ⟨W7, hW7⟩ : ∃ W7, W5.alloc (.cells #[.int .i64 p, .int .i64 q, .int .i64 r] 54) = W7 := ⟨_, rfl⟩
              have bA7 : Below W5.heap.size W5 W7 := by rw [← hW7]; exact (Below.refl _ W5).alloc (Nat.le_refl _) _
              have hYB : W7.heap[W5.heap.size]? = some (.cells #[.int .i64 p, .int .i64 q, .int .i64 r] 54) := by rw [← hW7]; exact heap_alloc_last W5 _
              have hXB7 := (bA7.block _ (block_lt HXB.out)).trans HXB.out
              have p0 : W7.cell? ⟨W5.heap.size, 0, none⟩ = some (.int .i64 p) := cell_of_row _ _ 0 _ _ _ hYB
              have p1 : W7.cell? ⟨W5.heap.size, 1, none⟩ = some (.int .i64 q) := cell_of_row _ _ 1 _ _ _ hYB
              have s0 : W7.cell? ⟨wr.heap.size, 0, none⟩ = some (.int .i64 x) := cell_of_row _ _ 0 _ _ _ hXB7
              have s1 : W7.cell? ⟨wr.heap.size, 1, none⟩ = some (.int .i64 y) := cell_of_row _ _ 1 _ _ _ hXB7
              have HB7 := hidIn (HB5.out.trans (bA7.mono HB5.out.size))
              have HBW7 := hidIn (HF.out W7 HB7.out).2
              have HW := hidIn hW7
              clear hl HY hW7 bA7 hYB hXB7
              go_upto_region 16 with fail
              rw [HW.out]
              clear HW
              by_cases hpx : x < p
              · go_wp2_with fail
                go_returns
                have hri : risesE (lastE es (i + 1)) (x, y, c) = false := by
                  rw [Hl.out]
                  apply Bool.eq_false_iff.2
                  intro h
                  have := risesE_iff.1 h
                  simp only at this
                  omega
                exact ⟨by rw [ckC_no (by rw [HG.out, HN.out]; simp [edgeOk, hri])]; rfl, HBW7.out⟩
              by_cases hpe : p = x
              · have hpq : (p == x) = true := by simpa using hpe
                have Hpe := hidIn hpe
                clear hpe
                by_cases hqy : y ≤ q
                · go_wp2_with fail
                  go_returns
                  have hri : risesE (lastE es (i + 1)) (x, y, c) = false := by
                    rw [Hl.out]
                    apply Bool.eq_false_iff.2
                    intro h
                    have := risesE_iff.1 h
                    simp only at this
                    have := Hpe.out
                    omega
                  exact ⟨by rw [ckC_no (by rw [HG.out, HN.out]; simp [edgeOk, hri])]; rfl, HBW7.out⟩
                · go_wp2_with fail
                  go_roundw
                  case rel =>
                    refine ⟨i + 1 + 1, by omega, by go_num, hidIn ⟨HB7.out, ?_⟩⟩
                    have h2 : risesE (lastE es (i + 1)) (x, y, c) = true := by rw [Hl.out]; exact risesE_iff.2 (.inr ⟨Hpe.out, by simp only; omega⟩)
                    rw [HN.out]
                    simp [edgeOk, Hb1.out, Hb2.out, Hcc.out, hxy, h2]
                  case measure => simp [intOf]; omega
              · have hpq : (p == x) = false := by simpa using hpe
                go_wp2_with fail
                go_roundw
                case rel =>
                  refine ⟨i + 1 + 1, by omega, by go_num, hidIn ⟨HB7.out, ?_⟩⟩
                  have h2 : risesE (lastE es (i + 1)) (x, y, c) = true := by rw [Hl.out]; exact risesE_iff.2 (.inl (by simp only; omega))
                  rw [HN.out]
                  simp [edgeOk, Hb1.out, Hb2.out, Hcc.out, hxy, h2]
                case measure => simp [intOf]; omega
          · have hji : ¬ ((j : Int) < (es.length : Int)) := by omega
            have HT2 : Hid (graphOk ns es = true) := hidIn (by rw [HG.out, HE.out, List.drop_eq_nil_of_le (by omega)]; rfl)
            go_wp2_with fail
            go_returns
            exact ⟨by rw [ckC_yes HT2.out]; rfl, hbw⟩
      · have h384' : (384 : Int) < (es.length : Int) := by omega
        go_wp2_with fail
        go_returns
        exact ⟨by rw [ckC_no (by unfold graphOk; simp [h384])]; rfl, hbw⟩
end Go.Proofs.Ytabnecicidkmhaa
