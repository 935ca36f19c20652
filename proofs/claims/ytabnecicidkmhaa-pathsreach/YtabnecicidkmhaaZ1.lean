/- The document's Router, has, Check. The document's place, edge. The document's Near. The document's Part. kept; GraphTells. The document's Costs. The document's Tight. What Count has of each node at its end: as many ways as those ahead of it have, together. -/
import Derived.Test.YtabnecicidkmhaaGF
import Derived.Test.YtabnecicidkmhaaGQ
import Derived.Test.YtabnecicidkmhaaGH
import Derived.Test.YtabnecicidkmhaaVB0
import Derived.Test.YtabnecicidkmhaaVQ3
namespace Go.Proofs.Ytabnecicidkmhaa
open Go.RowKit

theorem rrouter_any (n : Int) (w : World) : Calls Try.prog 45 #[.int .i64 n] w fun e w' => e = .returned (.bool (isR n)) ∧ Below w.heap.size w w' := by
  by_cases h1 : 1 ≤ n
  · by_cases h2 : n ≤ 24
    · go_enter Try.func45, Try.ntmps45
      go_wp2
      go_ret
      exact ⟨by simp [isR, h1, h2], Below.refl _ _⟩
    · go_enter Try.func45, Try.ntmps45
      go_wp2
      go_ret
      exact ⟨by simp [isR, h1]; omega, Below.refl _ _⟩
  · go_enter Try.func45, Try.ntmps45
    go_wp2
    go_ret
    exact ⟨by simp [isR]; omega, Below.refl _ _⟩
set_option maxRecDepth 100000 in
theorem rhas_any {zs : List Int} {v : Value} {w : World} (hv : SlAt ic 1 w v zs) (n : Int) :
    Calls Try.prog 46 #[v, .int .i64 n] w fun e w' => e = .returned (.bool (hasN zs n)) ∧ w' = w := by
  obtain ⟨a, cap, rfl, hl, _, hat⟩ := hv.ints
  have Ha := hidIn hat
  clear hat hv
  go_enter Try.func46, Try.ntmps46
  go_wp2
  go_loopw [5] (fun i wr => wr = w ∧ ∃ k : Nat, k ≤ zs.length ∧ i = .int .i64 k ∧ Hid (hasN zs n = hasN (zs.drop k) n)) (fun i _ => zs.length - (intOf i).toNat)
  case atStart => exact ⟨rfl, 0, Nat.zero_le _, rfl, hidIn (by rw [List.drop_zero])⟩
  case round =>
    obtain ⟨hwr, k, hk, rfl, HH⟩ := hrel
    rw [hwr]
    clear hwr
    by_cases hlt : k < zs.length
    · obtain ⟨bk, o, rfl, hbk, hcell⟩ := Ha.out (by omega)
      obtain ⟨z, hz⟩ : ∃ z, zs[k]? = some z := ⟨zs[k], List.getElem?_eq_getElem hlt⟩
      have hc := hcell k z hz
      have HN := hidIn (hasN_drop (n := n) hz)
      clear hcell hz
      have hki : (k : Int) < (zs.length : Int) := by omega
      by_cases hzn : z = n
      · have hq : (z == n) = true := by simpa using hzn
        have Hz := hidIn hzn
        clear hzn
        go_wp2
        go_returns
        exact ⟨by rw [HH.out, HN.out]; simp [Hz.out], rfl⟩
      · have hne : (z == n) = false := by simpa using hzn
        have Hz := hidIn hzn
        clear hzn
        go_wp2
        go_roundw
        case rel => exact ⟨trivial, k + 1, by omega, by go_num, hidIn (by rw [HH.out, HN.out]; simp [Hz.out])⟩
        case measure => simp [intOf]; omega
    · have hki : ¬ ((k : Int) < (zs.length : Int)) := by omega
      have hke : k = zs.length := by omega
      go_wp2
      go_returns
      refine ⟨?_, rfl⟩
      rw [HH.out, hke, List.drop_length]
      rfl
def lastN (ns : List Int) : Nat → Int
  | 0 => 0
  | k + 1 => ns[k]?.getD 0
def lastE (es : List Ed) : Nat → Ed
  | 0 => (0, 0, 0)
  | k + 1 => es[k]?.getD (0, 0, 0)
def ckC (ns : List Int) (es : List Ed) : Int := if graphOk ns es = true then 0 else 2
theorem ckC_no {ns : List Int} {es : List Ed} (h : graphOk ns es = false) : ckC ns es = 2 := by unfold ckC; rw [h]; rfl
theorem ckC_yes {ns : List Int} {es : List Ed} (h : graphOk ns es = true) : ckC ns es = 0 := by unfold ckC; rw [h]; rfl
set_option maxRecDepth 100000 in
set_option maxHeartbeats 2000000 in
theorem gcheck_any {ns : List Int} {es : List Ed} {vn ve : Value} {w : World} (h : GrAt w vn ve ns es) :
    Calls Try.prog 25 #[grV vn ve] w fun e w' => e = .returned (.int .i64 (ckC ns es)) ∧ Below w.heap.size w w' := by
  obtain ⟨na, nca, rfl, hnl, _, hna⟩ := h.n.ints
  obtain ⟨ea, eca, rfl, hel, _, hea⟩ := h.e.eds
  have Hna := hidIn hna
  have Hea := hidIn hea
  have Hn := hidIn h.n
  clear hna hea h
  obtain ⟨W1, hW1⟩ : ∃ W1, w.alloc (.cells #[.slice na ns.length nca, .slice ea es.length eca] 25) = W1 := ⟨_, rfl⟩
  have bA : Below w.heap.size w W1 := by rw [← hW1]; exact (Below.refl _ w).alloc (Nat.le_refl _) _
  have hGB : W1.heap[w.heap.size]? = some (.cells #[.slice na ns.length nca, .slice ea es.length eca] 25) := by rw [← hW1]; exact heap_alloc_last w _
  have hlt0 := block_lt hGB
  have HF : Hid (∀ wq, Below W1.heap.size W1 wq → (wq.cell? ⟨w.heap.size, 0, none⟩ = some (.slice na ns.length nca) ∧ wq.cell? ⟨w.heap.size, 1, none⟩ = some (.slice ea es.length eca)) ∧ Below w.heap.size w wq) := hidIn fun wq h => by
    have j0 := (h.block _ hlt0).trans hGB
    exact ⟨⟨cell_of_row _ _ 0 _ _ _ j0, cell_of_row _ _ 1 _ _ _ j0⟩, bA.trans (h.mono bA.size)⟩
  have HW := hidIn hW1
  clear hW1 bA hGB
  go_enter Try.func25, Try.ntmps25
  go_upto_region 1 with fail
  rw [HW.out]
  clear HW
  go_wp2_with fail
  go_loopw [3] (fun i wr => ∃ k : Nat, k ≤ ns.length ∧ i = .int .i64 k ∧ Hid (Below W1.heap.size W1 wr ∧ nodesOk 0 ns = nodesOk (lastN ns k) (ns.drop k))) (fun i _ => ns.length - (intOf i).toNat)
  case atStart => exact ⟨0, Nat.zero_le _, rfl, hidIn ⟨Below.refl _ _, by rw [List.drop_zero]; rfl⟩⟩
  case round =>
    obtain ⟨k, hk, rfl, HR⟩ := hrel
    obtain ⟨hbel, hrest⟩ := HR.out
    have HB := hidIn hbel
    have HE := hidIn hrest
    clear HR hbel hrest
    obtain ⟨⟨f0, f1⟩, hbw⟩ := HF.out wr HB.out
    by_cases hlt : k < ns.length
    · obtain ⟨bk, o, rfl, hbk, hcell⟩ := Hna.out (by omega)
      obtain ⟨z, hz⟩ : ∃ z, ns[k]? = some z := ⟨ns[k], List.getElem?_eq_getElem hlt⟩
      have HN : Hid (nodesOk 0 ns = (isR z && (decide (lastN ns k < z) && nodesOk (lastN ns (k + 1)) (ns.drop (k + 1))))) := hidIn (by rw [HE.out, drop_next hz, nodesOk, lastN, hz]; rfl)
      have c0 := (hbw.cell (p := ⟨bk, o + k, none⟩) hbk).trans (hcell k z hz)
      have hki : (k : Int) < (ns.length : Int) := by omega
      obtain ⟨b1, hb1⟩ : ∃ b1, isR z = b1 := ⟨_, rfl⟩
      have HRt : Hid (∀ d os, Calls Try.prog 45 #[.int .i64 z] (Go.Sort.grow (redrawn wr d) os) fun e w' => e = .returned (.bool b1) ∧ Below (Go.Sort.grow (redrawn wr d) os).heap.size (Go.Sort.grow (redrawn wr d) os) w') := hidIn fun d os => by rw [← hb1]; exact rrouter_any z _
      have Hb1 := hidIn hb1
      have r0 := cell_regrown c0
      have r1 := cell_regrown f0
      clear hb1 hz
      cases b1
      · go_upto_region 4 with fail
        clear c0 f0 f1 hcell
        refine wp_region_quiet_below (by kernel_rfl) (by kernel_rfl) ?_
        repeat (go_big_quiet_step (first | (go_at_call 45; exact Calls.regrown_of (HRt.out _ _))))
        refine wpQuiet_nil ?_
        intro _ hw'
        obtain ⟨⟨dq, osq⟩, hw''⟩ := hw'
        subst hw''
        have HB4 := hidIn (hbw.trans ((below_regrown wr dq osq).mono hbw.size))
        generalize Go.Sort.grow (redrawn wr dq) osq = W4 at HB4 ⊢
        clear r0 r1 HRt
        go_wp2_with fail
        go_returns
        exact ⟨by rw [ckC_no (by unfold graphOk; rw [HN.out, Hb1.out]; rfl)]; rfl, HB4.out⟩
      · cases k with
        | zero =>
          simp only [Nat.add_zero] at r0
          go_upto_region 4 with fail
          clear c0 f0 f1 hcell
          refine wp_region_quiet_below (by kernel_rfl) (by kernel_rfl) ?_
          repeat (go_big_quiet_step (first | (go_at_call 45; exact Calls.regrown_of (HRt.out _ _))))
          refine wpQuiet_nil ?_
          intro _ hw'
          obtain ⟨⟨dq, osq⟩, hw''⟩ := hw'
          subst hw''
          have HB4 := hidIn (HB.out.trans ((below_regrown wr dq osq).mono HB.out.size))
          generalize Go.Sort.grow (redrawn wr dq) osq = W4 at HB4 ⊢
          clear r0 r1 HRt
          go_wp2_with fail
          go_roundw
          case rel =>
            refine ⟨1, by omega, rfl, hidIn ⟨HB4.out, ?_⟩⟩
            have := isR_iff.1 Hb1.out
            have h0 : decide (lastN ns 0 < z) = true := decide_eq_true (show (0 : Int) < z by omega)
            rw [HN.out, Hb1.out, h0]
            rfl
          case measure => simp [intOf]; omega
        | succ j =>
          obtain ⟨y, hy⟩ : ∃ y, ns[j]? = some y := ⟨ns[j], List.getElem?_eq_getElem (by omega)⟩
          have c1 := (hbw.cell (p := ⟨bk, o + j, none⟩) hbk).trans (hcell j y hy)
          have r2 := cell_regrown c1
          have Hl : Hid (lastN ns (j + 1) = y) := hidIn (by rw [lastN, hy]; rfl)
          have wr1 : IntKind.i64.wrap ((j : Int) + 1 - 1) = (j : Int) := by rw [IntKind.wrap_i64]; omega
          have wr2 : IntKind.i64.wrap (j : Int) = (j : Int) := by rw [IntKind.wrap_i64]; omega
          have hj0 : (0 : Int) < (j : Int) + 1 := by omega
          have hj1 : (j : Int) < (ns.length : Int) := by omega
          by_cases hzy : z ≤ y
          · go_upto_region 4 with fail
            clear c0 c1 f0 f1 hcell hy
            refine wp_region_quiet_below (by kernel_rfl) (by kernel_rfl) ?_
            repeat (go_big_quiet_step (first | (go_at_call 45; exact Calls.regrown_of (HRt.out _ _))))
            refine wpQuiet_nil ?_
            intro _ hw'
            obtain ⟨⟨dq, osq⟩, hw''⟩ := hw'
            subst hw''
            have HB4 := hidIn (hbw.trans ((below_regrown wr dq osq).mono hbw.size))
            generalize Go.Sort.grow (redrawn wr dq) osq = W4 at HB4 ⊢
            clear r0 r1 r2 HRt
            go_wp2_with fail
            go_returns
            refine ⟨?_, HB4.out⟩
            have : decide (y < z) = false := by simp; omega
            rw [ckC_no (by unfold graphOk; rw [HN.out, Hb1.out, Hl.out, this]; rfl)]
            rfl
          · have hd : decide (z ≤ y) = false := by simpa using hzy
            go_upto_region 4 with fail
            clear c0 c1 f0 f1 hcell hy
            refine wp_region_quiet_below (by kernel_rfl) (by kernel_rfl) ?_
            repeat (go_big_quiet_step (first | (go_at_call 45; exact Calls.regrown_of (HRt.out _ _))))
            refine wpQuiet_nil ?_
            intro _ hw'
            obtain ⟨⟨dq, osq⟩, hw''⟩ := hw'
            subst hw''
            have HB4 := hidIn (HB.out.trans ((below_regrown wr dq osq).mono HB.out.size))
            generalize Go.Sort.grow (redrawn wr dq) osq = W4 at HB4 ⊢
            clear r0 r1 r2 HRt hd
            go_wp2_with fail
            go_roundw
            case rel =>
              refine ⟨j + 1 + 1, by omega, by go_num, hidIn ⟨HB4.out, ?_⟩⟩
              rw [HN.out, Hb1.out, Hl.out]
              have : decide (y < z) = true := by simp; omega
              rw [this]
              rfl
            case measure => simp [intOf]; omega
    · have hki : ¬ ((k : Int) < (ns.length : Int)) := by omega
      have HT : Hid (nodesOk 0 ns = true) := hidIn (by rw [HE.out, List.drop_eq_nil_of_le (by omega)]; rfl)
      have Hbd : Hid (∀ n ∈ ns, 1 ≤ n) := hidIn fun n hn => (nodesOk_bd ns 0 HT.out n hn).1
      by_cases h384 : es.length ≤ 384
      · have h384' : ¬ (384 : Int) < (es.length : Int) := by omega
        have HG : Hid (graphOk ns es = edgesOk ns (0, 0, 0) es) := hidIn (by unfold graphOk; rw [HT.out]; simp [h384])
        clear HE
        generalize hwo : wr = wo at *
        clear hwo
        go_wp2_with fail
        clear f0 f1 hbw
        go_loopw [4] (fun i wr => ∃ k : Nat, k ≤ es.length ∧ i = .int .i64 k ∧ Hid (Below W1.heap.size W1 wr ∧ edgesOk ns (0, 0, 0) es = edgesOk ns (lastE es k) (es.drop k))) (fun i _ => es.length - (intOf i).toNat)
        case atStart => exact ⟨0, Nat.zero_le _, rfl, hidIn ⟨HB.out, by rw [List.drop_zero]; rfl⟩⟩
        case round =>
          obtain ⟨j, hj, rfl, HR⟩ := hrel
          obtain ⟨hbel, hrest⟩ := HR.out
          have HB2 := hidIn hbel
          have HE := hidIn hrest
          clear HR hbel hrest
          obtain ⟨⟨f0, f1⟩, hbw⟩ := HF.out wr HB2.out
          by_cases hlt : j < es.length
          · obtain ⟨bk, o, rfl, hbk, hcell⟩ := Hea.out (by omega)
            obtain ⟨⟨x, y, c⟩, hz⟩ : ∃ z, es[j]? = some z := ⟨es[j], List.getElem?_eq_getElem hlt⟩
            have HN : Hid (edgesOk ns (0, 0, 0) es = (edgeOk ns (lastE es j) (x, y, c) && edgesOk ns (lastE es (j + 1)) (es.drop (j + 1)))) := hidIn (by rw [HE.out, drop_next hz, edgesOk, lastE, hz]; rfl)
            obtain ⟨q0, q1, q2⟩ := hcell j _ hz
            have c0 := (hbw.cell (p := ⟨bk, o + j * 3, none⟩) hbk).trans q0
            have c1 := (hbw.cell (p := ⟨bk, o + j * 3 + 1, none⟩) hbk).trans q1
            have c2 := (hbw.cell (p := ⟨bk, o + j * 3 + 2, none⟩) hbk).trans q2
            simp only at c0 c1 c2
            have hji : (j : Int) < (es.length : Int) := by omega
            obtain ⟨W5, hW5⟩ : ∃ W5, wr.alloc (.cells #[.int .i64 x, .int .i64 y, .int .i64 c] 54) = W5 := ⟨_, rfl⟩
            have bA : Below wr.heap.size wr W5 := by rw [← hW5]; exact (Below.refl _ wr).alloc (Nat.le_refl _) _
            have hXB : W5.heap[wr.heap.size]? = some (.cells #[.int .i64 x, .int .i64 y, .int .i64 c] 54) := by rw [← hW5]; exact heap_alloc_last wr _
            have x0 : W5.cell? ⟨wr.heap.size, 0, none⟩ = some (.int .i64 x) := cell_of_row _ _ 0 _ _ _ hXB
            have x1 : W5.cell? ⟨wr.heap.size, 1, none⟩ = some (.int .i64 y) := cell_of_row _ _ 1 _ _ _ hXB
            have x2 : W5.cell? ⟨wr.heap.size, 2, none⟩ = some (.int .i64 c) := cell_of_row _ _ 2 _ _ _ hXB
            have HB5 := hidIn (HB2.out.trans (bA.mono HB2.out.size))
            obtain ⟨⟨g0, g1⟩, hbw5⟩ := HF.out W5 HB5.out
            have HH := hidIn (fun n => rhas_any (Hn.out.keep hbw5 (Nat.le_refl _)) n)
            have HW := hidIn hW5
            have HXB := hidIn hXB
            have HY : Hid (0 < j → ∃ p q r, es[j - 1]? = some (p, q, r) ∧ lastE es j = (p, q, r) ∧ W5.cell? ⟨bk, o + (j - 1) * 3, none⟩ = some (.int .i64 p) ∧ W5.cell? ⟨bk, o + (j - 1) * 3 + 1, none⟩ = some (.int .i64 q) ∧ W5.cell? ⟨bk, o + (j - 1) * 3 + 2, none⟩ = some (.int .i64 r)) := hidIn fun h0 => by
              obtain ⟨⟨p, q, r⟩, hp⟩ : ∃ z, es[j - 1]? = some z := ⟨es[j - 1], List.getElem?_eq_getElem (by omega)⟩
              obtain ⟨e0, e1, e2⟩ := hcell (j - 1) _ hp
              refine ⟨p, q, r, hp, ?_, (hbw5.cell (p := ⟨bk, o + (j - 1) * 3, none⟩) hbk).trans e0, (hbw5.cell (p := ⟨bk, o + (j - 1) * 3 + 1, none⟩) hbk).trans e1, (hbw5.cell (p := ⟨bk, o + (j - 1) * 3 + 2, none⟩) hbk).trans e2⟩
              cases j with
              | zero => omega
              | succ j => simp only [Nat.add_sub_cancel] at hp; rw [lastE, hp]; rfl
            clear hcell q0 q1 q2 hz hW5 bA hXB
            go_upto_region 12 with fail
            rw [HW.out]
            clear HW c0 c1 c2 f0 f1 hbw
            by_cases hxy : x = y
            · have hq : (x == y) = true := by simpa using hxy
              have Hxy := hidIn hxy
              clear hxy
              go_wp2_with fail
              go_returns
              exact ⟨by rw [ckC_no (by rw [HG.out, HN.out]; simp [edgeOk, Hxy.out])]; rfl, hbw5⟩
            have hq : (x == y) = false := by simpa using hxy
            go_wp2_with fail
            refine (HH.out x).mono ?_
            rintro e w6 ⟨rfl, hw6⟩
            rw [hw6]
            clear hw6 w6
            obtain ⟨b1, hb1⟩ : ∃ b1, hasN ns x = b1 := ⟨_, rfl⟩
            have Hb1 := hidIn hb1
            rw [hb1]
            clear hb1
            cases b1
            · go_wp2_with fail
              go_returns
              exact ⟨by rw [ckC_no (by rw [HG.out, HN.out]; simp [edgeOk, Hb1.out])]; rfl, hbw5⟩
            go_wp2_with fail
            refine (HH.out y).mono ?_
            rintro e w6 ⟨rfl, hw6⟩
            rw [hw6]
            clear hw6 w6
            obtain ⟨b2, hb2⟩ : ∃ b2, hasN ns y = b2 := ⟨_, rfl⟩
            have Hb2 := hidIn hb2
            rw [hb2]
            clear hb2
            cases b2
            · go_wp2_with fail
              go_returns
              exact ⟨by rw [ckC_no (by rw [HG.out, HN.out]; simp [edgeOk, Hb2.out])]; rfl, hbw5⟩
            by_cases hc1 : c < 1
            · go_wp2_with fail
              go_returns
              have hcc : isC c = false := by simp [isC]; omega
              exact ⟨by rw [ckC_no (by rw [HG.out, HN.out]; simp [edgeOk, hcc])]; rfl, hbw5⟩
            by_cases hc2 : 1000 < c
            · go_wp2_with fail
              go_returns
              have hcc : isC c = false := by simp [isC]; omega
              exact ⟨by rw [ckC_no (by rw [HG.out, HN.out]; simp [edgeOk, hcc])]; rfl, hbw5⟩
            have Hcc : Hid (isC c = true) := hidIn (isC_iff.2 ⟨by omega, by omega⟩)
            cases j with
            | zero =>
              go_wp2_with fail
              go_roundw
              case rel =>
                refine ⟨1, by omega, rfl, hidIn ⟨HB5.out, ?_⟩⟩
                have h1 := Hbd.out x (hasN_iff.1 Hb1.out)
                have h2 : risesE (lastE es 0) (x, y, c) = true := risesE_iff.2 (.inl (show (0 : Int) < x by omega))
                rw [HN.out]
                simp [edgeOk, Hb1.out, Hb2.out, Hcc.out, hxy, h2]
              case measure => simp [intOf]; omega
            | succ i =>
              obtain ⟨p, q, r, _, hl, y0, y1, y2⟩ := HY.out (by omega)
              have Hl := hidIn hl
              simp only [Nat.add_sub_cancel] at y0 y1 y2
              have hi0 : (0 : Int) < (i : Int) + 1 := by omega
              have hi1 : (i : Int) < (es.length : Int) := by omega
              obtain ⟨W7, hW7⟩ : ∃ W7, W5.alloc (.cells #[.int .i64 p, .int .i64 q, .int .i64 r] 54) = W7 := ⟨_, rfl⟩
              have bA7 : Below W5.heap.size W5 W7 := by rw [← hW7]; exact (Below.refl _ W5).alloc (Nat.le_refl _) _
              have hYB : W7.heap[W5.heap.size]? = some (.cells #[.int .i64 p, .int .i64 q, .int .i64 r] 54) := by rw [← hW7]; exact heap_alloc_last W5 _
              have hXB7 := (bA7.block _ (block_lt HXB.out)).trans HXB.out
              have p0 : W7.cell? ⟨W5.heap.size, 0, none⟩ = some (.int .i64 p) := cell_of_row _ _ 0 _ _ _ hYB
              have p1 : W7.cell? ⟨W5.heap.size, 1, none⟩ = some (.int .i64 q) := cell_of_row _ _ 1 _ _ _ hYB
              have s0 : W7.cell? ⟨wr.heap.size, 0, none⟩ = some (.int .i64 x) := cell_of_row _ _ 0 _ _ _ hXB7
              have s1 : W7.cell? ⟨wr.heap.size, 1, none⟩ = some (.int .i64 y) := cell_of_row _ _ 1 _ _ _ hXB7
              have HB7 := hidIn (HB5.out.trans (bA7.mono HB5.out.size))
              have HBW7 := hidIn (HF.out W7 HB7.out).2
              have HW := hidIn hW7
              clear hl HY hW7 bA7 hYB hXB7
              go_upto_region 16 with fail
              rw [HW.out]
              clear HW
              by_cases hpx : x < p
              · go_wp2_with fail
                go_returns
                have hri : risesE (lastE es (i + 1)) (x, y, c) = false := by
                  rw [Hl.out]
                  apply Bool.eq_false_iff.2
                  intro h
                  have := risesE_iff.1 h
                  simp only at this
                  omega
                exact ⟨by rw [ckC_no (by rw [HG.out, HN.out]; simp [edgeOk, hri])]; rfl, HBW7.out⟩
              by_cases hpe : p = x
              · have hpq : (p == x) = true := by simpa using hpe
                have Hpe := hidIn hpe
                clear hpe
                by_cases hqy : y ≤ q
                · go_wp2_with fail
                  go_returns
                  have hri : risesE (lastE es (i + 1)) (x, y, c) = false := by
                    rw [Hl.out]
                    apply Bool.eq_false_iff.2
                    intro h
                    have := risesE_iff.1 h
                    simp only at this
                    have := Hpe.out
                    omega
                  exact ⟨by rw [ckC_no (by rw [HG.out, HN.out]; simp [edgeOk, hri])]; rfl, HBW7.out⟩
                · go_wp2_with fail
                  go_roundw
                  case rel =>
                    refine ⟨i + 1 + 1, by omega, by go_num, hidIn ⟨HB7.out, ?_⟩⟩
                    have h2 : risesE (lastE es (i + 1)) (x, y, c) = true := by rw [Hl.out]; exact risesE_iff.2 (.inr ⟨Hpe.out, by simp only; omega⟩)
                    rw [HN.out]
                    simp [edgeOk, Hb1.out, Hb2.out, Hcc.out, hxy, h2]
                  case measure => simp [intOf]; omega
              · have hpq : (p == x) = false := by simpa using hpe
                go_wp2_with fail
                go_roundw
                case rel =>
                  refine ⟨i + 1 + 1, by omega, by go_num, hidIn ⟨HB7.out, ?_⟩⟩
                  have h2 : risesE (lastE es (i + 1)) (x, y, c) = true := by rw [Hl.out]; exact risesE_iff.2 (.inl (by simp only; omega))
                  rw [HN.out]
                  simp [edgeOk, Hb1.out, Hb2.out, Hcc.out, hxy, h2]
                case measure => simp [intOf]; omega
          · have hji : ¬ ((j : Int) < (es.length : Int)) := by omega
            have HT2 : Hid (graphOk ns es = true) := hidIn (by rw [HG.out, HE.out, List.drop_eq_nil_of_le (by omega)]; rfl)
            go_wp2_with fail
            go_returns
            exact ⟨by rw [ckC_yes HT2.out]; rfl, hbw⟩
      · have h384' : (384 : Int) < (es.length : Int) := by omega
        go_wp2_with fail
        go_returns
        exact ⟨by rw [ckC_no (by unfold graphOk; simp [h384])]; rfl, hbw⟩
end Go.Proofs.Ytabnecicidkmhaa
namespace Go.Proofs.Ytabnecicidkmhaa
open Go.RowKit

/-- Where a node stands first. -/
def plN : List Int → Int → Option Nat
  | [], _ => none
  | x :: l, n => if x = n then some 0 else (plN l n).map (· + 1)
def plI (l : List Int) (n : Int) : Int := match plN l n with
  | some k => (k : Int)
  | none => -1
theorem plN_at : ∀ {l : List Int} {n : Int} {k : Nat}, plN l n = some k → l[k]? = some n
  | [], _, _, h => by cases h
  | x :: l, n, k, h => by
    unfold plN at h
    by_cases hx : x = n
    · rw [if_pos hx] at h
      simp only [Option.some.injEq] at h
      subst h
      rw [hx]
      rfl
    · rw [if_neg hx] at h
      obtain ⟨j, hj, rfl⟩ := Option.map_eq_some_iff.1 h
      rw [List.getElem?_cons_succ]
      exact plN_at hj
theorem plN_none : ∀ {l : List Int} {n : Int}, (∀ y ∈ l, y ≠ n) → plN l n = none
  | [], _, _ => rfl
  | x :: l, n, h => by
    unfold plN
    rw [if_neg (h x List.mem_cons_self), plN_none (fun y hy => h y (List.mem_cons_of_mem _ hy))]
    rfl
theorem plN_first : ∀ {l : List Int} {n : Int} {k : Nat}, (∀ y ∈ l.take k, y ≠ n) → l[k]? = some n → plN l n = some k
  | [], _, _, _, h => by simp at h
  | x :: l, n, 0, _, h => by
    unfold plN
    simp at h
    rw [if_pos h]
  | x :: l, n, k + 1, hn, h => by
    unfold plN
    rw [if_neg (hn x (by simp)), plN_first (k := k) (fun y hy => hn y (by rw [List.take_succ_cons]; exact List.mem_cons_of_mem _ hy)) (by simpa using h)]
    rfl
theorem plN_nodup {l : List Int} (hd : l.Nodup) {n : Int} {k : Nat} (h : l[k]? = some n) : plN l n = some k := by
  refine plN_first (fun y hy e => ?_) h
  obtain ⟨j, hj⟩ := List.getElem?_of_mem hy
  rw [List.getElem?_take] at hj
  by_cases hjk : j < k
  · rw [if_pos hjk, e] at hj
    obtain ⟨h1, h2⟩ := List.getElem?_eq_some_iff.1 hj
    obtain ⟨h3, h4⟩ := List.getElem?_eq_some_iff.1 h
    exact (List.pairwise_iff_getElem.1 (List.nodup_iff_pairwise_ne.1 hd)) j k h1 h3 hjk (by rw [h2, h4])
  · rw [if_neg hjk] at hj
    cases hj
theorem plI_some {l : List Int} {n : Int} {k : Nat} (h : plN l n = some k) : plI l n = (k : Int) := by unfold plI; rw [h]
theorem plI_none {l : List Int} {n : Int} (h : plN l n = none) : plI l n = -1 := by unfold plI; rw [h]
theorem plI_neg {l : List Int} {n : Int} : plI l n < 0 ↔ n ∉ l := by
  unfold plI
  cases h : plN l n with
  | some k => exact ⟨fun e => by simp only at e; omega, fun e => absurd (List.mem_of_getElem? (plN_at h)) e⟩
  | none =>
    refine ⟨fun _ hm => ?_, fun _ => by decide⟩
    obtain ⟨j, hj⟩ := List.getElem?_of_mem hm
    have key : ∀ (l : List Int), plN l n = none → n ∉ l := fun l => by
      induction l with
      | nil => intro _ h; cases h
      | cons x l ih =>
        intro h hm
        unfold plN at h
        by_cases hx : x = n
        · rw [if_pos hx] at h; cases h
        · rw [if_neg hx] at h
          rcases List.mem_cons.1 hm with e | e
          · exact hx e.symm
          · exact ih (by simpa using h) e
    exact key l h hm
set_option maxRecDepth 100000 in
set_option maxHeartbeats 1000000 in
theorem place_any {ns : List Int} {es : List Ed} {vn ve : Value} {w : World} (h : GrAt w vn ve ns es) (n : Int) :
    Calls Try.prog 26 #[grV vn ve, .int .i64 n] w fun e w' => e = .returned (.int .i64 (plI ns n)) ∧ Below w.heap.size w w' := by
  obtain ⟨na, nca, rfl, hnl, _, hna⟩ := h.n.ints
  obtain ⟨ea, eca, rfl, _⟩ := h.e.eds
  have Hna := hidIn hna
  obtain ⟨W1, hW1⟩ : ∃ W1, w.alloc (.cells #[.slice na ns.length nca, .slice ea es.length eca] 25) = W1 := ⟨_, rfl⟩
  have bA : Below w.heap.size w W1 := by rw [← hW1]; exact (Below.refl _ w).alloc (Nat.le_refl _) _
  have hGB : W1.heap[w.heap.size]? = some (.cells #[.slice na ns.length nca, .slice ea es.length eca] 25) := by rw [← hW1]; exact heap_alloc_last w _
  obtain ⟨q, hqe⟩ : ∃ q, w.heap.size = q := ⟨_, rfl⟩
  rw [hqe] at hGB
  have f0 := cell_of_row _ _ 0 _ _ _ hGB
  simp at f0
  have HW := hidIn hW1
  have HB := hidIn bA
  obtain ⟨ln, hln⟩ : ∃ ln, ns.length = ln := ⟨_, rfl⟩
  rw [hln] at hnl f0 HW ⊢
  have Hln := hidIn hln
  clear hW1 bA hGB hna h hln
  go_enter Try.func26, Try.ntmps26
  go_upto_region 1 with fail
  rw [HW.out]
  clear HW hqe
  go_wp2_with fail
  go_loop [5] (fun i => ∃ k : Nat, k ≤ ln ∧ i = .int .i64 k ∧ Hid (∀ y ∈ ns.take k, y ≠ n)) (fun i => ln - (intOf i).toNat)
  case atStart => exact ⟨0, Nat.zero_le _, rfl, hidIn (by simp)⟩
  case round =>
    obtain ⟨k, hk, rfl, HC⟩ := hrel
    by_cases hlt : k < ln
    · have hki : (k : Int) < (ln : Int) := by omega
      obtain ⟨bk, o, rfl, hbk, hcell⟩ := Hna.out (by have := Hln.out; omega)
      obtain ⟨z, hz⟩ : ∃ z, ns[k]? = some z := ⟨ns[k]'(by have := Hln.out; omega), List.getElem?_eq_getElem _⟩
      have c0 := (HB.out.cell (p := ⟨bk, o + k, none⟩) hbk).trans (hcell k z hz)
      by_cases hzn : z = n
      · have hq : (z == n) = true := by simpa using hzn
        have HP : Hid (plI ns n = (k : Int)) := hidIn (plI_some (plN_first HC.out (by rw [hz, hzn])))
        clear hcell hz hzn
        go_wp2_with fail
        go_ret
        exact ⟨by rw [HP.out]; rfl, HB.out⟩
      · have hq : (z == n) = false := by simpa using hzn
        have HC2 : Hid (∀ y ∈ ns.take (k + 1), y ≠ n) := hidIn fun y hy => by
          rw [take_snoc hz] at hy
          rcases List.mem_append.1 hy with h | h
          · exact HC.out y h
          · rw [List.mem_singleton.1 h]; exact hzn
        clear hcell hz hzn
        go_wp2_with fail
        go_round
        case rel => exact ⟨k + 1, by omega, by go_num, HC2⟩
        case measure => simp [intOf]; omega
    · have hki : ¬ (k : Int) < (ln : Int) := by omega
      have HP : Hid (plI ns n = -1) := hidIn (plI_none (plN_none (by have := HC.out; rwa [List.take_of_length_le (by have := Hln.out; omega)] at this)))
      go_wp2_with fail
      go_ret
      exact ⟨by rw [HP.out]; rfl, HB.out⟩
/-- What an edge costs. -/
def edI (es : List Ed) (a b : Int) : Int := match es.find? (fun e => e.1 == a && e.2.1 == b) with
  | some e => e.2.2
  | none => 0
theorem edI_some {es : List Ed} {a b : Int} {k : Nat} {e : Ed} (hn : ∀ y ∈ es.take k, ¬ (y.1 = a ∧ y.2.1 = b)) (he : es[k]? = some e) (h1 : e.1 = a) (h2 : e.2.1 = b) : edI es a b = e.2.2 := by
  have h : es = es.take k ++ e :: es.drop (k + 1) := by rw [← drop_next he, List.take_append_drop]
  unfold edI
  rw [h, List.find?_append, List.find?_eq_none.2 (fun y hy => by have := hn y hy; simp only [Bool.and_eq_true, beq_iff_eq]; exact this), List.find?_cons]
  simp [h1, h2]
theorem edI_none {es : List Ed} {a b : Int} (hn : ∀ y ∈ es, ¬ (y.1 = a ∧ y.2.1 = b)) : edI es a b = 0 := by
  unfold edI
  rw [List.find?_eq_none.2 (fun y hy => by have := hn y hy; simp only [Bool.and_eq_true, beq_iff_eq]; exact this)]
set_option maxRecDepth 100000 in
set_option maxHeartbeats 1000000 in
theorem edge_any {ns : List Int} {es : List Ed} {vn ve : Value} {w : World} (h : GrAt w vn ve ns es) (a b : Int) :
    Calls Try.prog 32 #[grV vn ve, .int .i64 a, .int .i64 b] w fun e w' => e = .returned (.int .i64 (edI es a b)) ∧ Below w.heap.size w w' := by
  obtain ⟨na, nca, rfl, _⟩ := h.n.ints
  obtain ⟨ea, eca, rfl, hel, _, hea⟩ := h.e.eds
  have Hea := hidIn hea
  obtain ⟨W1, hW1⟩ : ∃ W1, w.alloc (.cells #[.slice na ns.length nca, .slice ea es.length eca] 25) = W1 := ⟨_, rfl⟩
  have bA : Below w.heap.size w W1 := by rw [← hW1]; exact (Below.refl _ w).alloc (Nat.le_refl _) _
  have hGB : W1.heap[w.heap.size]? = some (.cells #[.slice na ns.length nca, .slice ea es.length eca] 25) := by rw [← hW1]; exact heap_alloc_last w _
  obtain ⟨q, hqe⟩ : ∃ q, w.heap.size = q := ⟨_, rfl⟩
  rw [hqe] at hGB
  have f1 := cell_of_row _ _ 1 _ _ _ hGB
  simp at f1
  have HW := hidIn hW1
  have HB := hidIn bA
  obtain ⟨ln, hln⟩ : ∃ ln, es.length = ln := ⟨_, rfl⟩
  rw [hln] at hel f1 HW ⊢
  have Hln := hidIn hln
  clear hW1 bA hGB hea h hln
  go_enter Try.func32, Try.ntmps32
  go_upto_region 1 with fail
  rw [HW.out]
  clear HW hqe
  go_wp2_with fail
  go_loop [7] (fun i => ∃ k : Nat, k ≤ ln ∧ i = .int .i64 k ∧ Hid (∀ y ∈ es.take k, ¬ (y.1 = a ∧ y.2.1 = b))) (fun i => ln - (intOf i).toNat)
  case atStart => exact ⟨0, Nat.zero_le _, rfl, hidIn (by simp)⟩
  case round =>
    obtain ⟨k, hk, rfl, HC⟩ := hrel
    by_cases hlt : k < ln
    · have hki : (k : Int) < (ln : Int) := by omega
      obtain ⟨bk, o, rfl, hbk, hcell⟩ := Hea.out (by have := Hln.out; omega)
      obtain ⟨⟨x, y, c⟩, hz⟩ : ∃ z, es[k]? = some z := ⟨es[k]'(by have := Hln.out; omega), List.getElem?_eq_getElem _⟩
      obtain ⟨q0, q1, q2⟩ := hcell k _ hz
      have c0 := (HB.out.cell (p := ⟨bk, o + k * 3, none⟩) hbk).trans q0
      have c1 := (HB.out.cell (p := ⟨bk, o + k * 3 + 1, none⟩) hbk).trans q1
      have c2 := (HB.out.cell (p := ⟨bk, o + k * 3 + 2, none⟩) hbk).trans q2
      simp only at c0 c1 c2
      have HC2 : Hid (¬ (x = a ∧ y = b) → ∀ y ∈ es.take (k + 1), ¬ (y.1 = a ∧ y.2.1 = b)) := hidIn fun hn z hy => by
        rw [take_snoc hz] at hy
        rcases List.mem_append.1 hy with h | h
        · exact HC.out z h
        · rw [List.mem_singleton.1 h]; exact hn
      have HP : Hid (x = a → y = b → edI es a b = c) := hidIn fun h1 h2 => edI_some HC.out hz h1 h2
      clear hcell hz q0 q1 q2
      by_cases hxa : x = a
      · have hq : (x == a) = true := by simpa using hxa
        by_cases hyb : y = b
        · have hq2 : (y == b) = true := by simpa using hyb
          have HP2 := hidIn (HP.out hxa hyb)
          clear hxa hyb
          go_wp2_with fail
          go_ret
          exact ⟨by rw [HP2.out]; rfl, HB.out⟩
        · have hq2 : (y == b) = false := by simpa using hyb
          have HC3 := hidIn (HC2.out (fun e => hyb e.2))
          clear hxa hyb
          go_wp2_with fail
          go_round
          case rel => exact ⟨k + 1, by omega, by go_num, HC3⟩
          case measure => simp [intOf]; omega
      · have hq : (x == a) = false := by simpa using hxa
        have HC3 := hidIn (HC2.out (fun e => hxa e.1))
        clear hxa
        go_wp2_with fail
        go_round
        case rel => exact ⟨k + 1, by omega, by go_num, HC3⟩
        case measure => simp [intOf]; omega
    · have hki : ¬ (k : Int) < (ln : Int) := by omega
      have HP : Hid (edI es a b = 0) := hidIn (edI_none (by have := HC.out; rwa [List.take_of_length_le (by have := Hln.out; omega)] at this))
      go_wp2_with fail
      go_ret
      exact ⟨by rw [HP.out]; rfl, HB.out⟩
end Go.Proofs.Ytabnecicidkmhaa
namespace Go.Proofs.Ytabnecicidkmhaa
open Go.RowKit

end Go.Proofs.Ytabnecicidkmhaa
namespace Go.Proofs.Ytabnecicidkmhaa
open Go.RowKit

/-- What is marked after some rounds. -/
structure RInv (ns : List Int) (es : List Ed) (n : Int) (f : Nat → Bool) (r : Nat) : Prop where
  so : ∀ i, f i = true → Rch es n (i : Int)
  nn : f n.toNat = true
  mem : ∀ i, f i = true → (i : Int) ∈ ns
  go : (∀ e ∈ es, f e.1.toNat = true → f e.2.1.toNat = true) ∨ r + 1 ≤ cnt f
structure RMid (ns : List Int) (es : List Ed) (n : Int) (f g : Nat → Bool) (k : Nat) : Prop where
  so : ∀ i, g i = true → Rch es n (i : Int)
  nn : g n.toNat = true
  mem : ∀ i, g i = true → (i : Int) ∈ ns
  go : (g = f ∧ ∀ e ∈ es.take k, f e.1.toNat = true → f e.2.1.toNat = true) ∨ ((¬ ∀ e ∈ es, f e.1.toNat = true → f e.2.1.toNat = true) ∧ cnt f + 1 ≤ cnt g)
theorem cnt_mk1 (f : Nat → Bool) {i : Nat} (hi : i < 25) (h : f i = false) : cnt (mk1 f i) = cnt f + 1 := by
  have h1 := unm_mk1 h hi
  have h2 := cnt_unm f
  have h3 := cnt_unm (mk1 f i)
  omega
theorem mk1_again {f : Nat → Bool} {i : Nat} (h : f i = true) : mk1 f i = f := by
  funext j
  unfold mk1
  by_cases hj : j = i
  · rw [if_pos hj, hj, h]
  · rw [if_neg hj]
theorem RInv.start {ns : List Int} {es : List Ed} {n : Int} {f : Nat → Bool} {r : Nat} (h : RInv ns es n f r) : RMid ns es n f f 0 := ⟨h.so, h.nn, h.mem, .inl ⟨rfl, by simp⟩⟩
theorem RMid.no {ns : List Int} {es : List Ed} {n : Int} {f g : Nat → Bool} {k : Nat} {e : Ed} (h : RMid ns es n f g k) (he : es[k]? = some e) (hg : g e.1.toNat = false) : RMid ns es n f g (k + 1) := by
  refine ⟨h.so, h.nn, h.mem, ?_⟩
  rcases h.go with ⟨h1, h2⟩ | h1
  · refine .inl ⟨h1, fun x hx hf => ?_⟩
    rw [take_snoc he] at hx
    rcases List.mem_append.1 hx with hx | hx
    · exact h2 x hx hf
    · simp at hx
      rw [hx, ← h1, hg] at hf
      cases hf
  · exact .inr h1
theorem RMid.yes {ns : List Int} {es : List Ed} {n : Int} {f g : Nat → Bool} {k : Nat} {e : Ed} (hb : ∀ z ∈ ns, 1 ≤ z ∧ z ≤ 24) (hed : ∀ e ∈ es, e.1 ∈ ns ∧ e.2.1 ∈ ns) (h : RMid ns es n f g k) (he : es[k]? = some e) (hg : g e.1.toNat = true) : RMid ns es n f (mk1 g e.2.1.toNat) (k + 1) := by
  have hm := List.mem_of_getElem? he
  have h3 := hed e hm
  have b1 := hb _ h3.1
  have b2 := hb _ h3.2
  by_cases hy : g e.2.1.toNat = true
  · rw [mk1_again hy]
    refine ⟨h.so, h.nn, h.mem, ?_⟩
    rcases h.go with ⟨h1, h2⟩ | h1
    · refine .inl ⟨h1, fun x hx hf => ?_⟩
      rw [take_snoc he] at hx
      rcases List.mem_append.1 hx with hx | hx
      · exact h2 x hx hf
      · simp at hx
        rw [hx, ← h1]
        exact hy
    · exact .inr h1
  · have hy' : g e.2.1.toNat = false := by simpa using hy
    have hc := cnt_mk1 g (show e.2.1.toNat < 25 by omega) hy'
    refine ⟨fun i hi => ?_, mk1_iff.2 (.inr h.nn), fun i hi => ?_, .inr ?_⟩
    · rcases mk1_iff.1 hi with rfl | hi
      · have h5 := h.so _ hg
        rw [Int.toNat_of_nonneg (by omega)] at h5 ⊢
        exact h5.step hm
      · exact h.so i hi
    · rcases mk1_iff.1 hi with rfl | hi
      · rw [Int.toNat_of_nonneg (by omega)]
        exact h3.2
      · exact h.mem i hi
    · rcases h.go with ⟨h1, _⟩ | ⟨h1, h2⟩
      · refine ⟨fun hall => ?_, by rw [hc, h1]; exact Nat.le_refl _⟩
        have := hall e hm (by rw [← h1]; exact hg)
        rw [← h1, hy'] at this
        cases this
      · exact ⟨h1, by omega⟩
theorem RMid.stop {ns : List Int} {es : List Ed} {n : Int} {f g : Nat → Bool} {r k : Nat} (h : RInv ns es n f r) (hm : RMid ns es n f g k) (hk : es.length ≤ k) : RInv ns es n g (r + 1) := by
  refine ⟨hm.so, hm.nn, hm.mem, ?_⟩
  rcases hm.go with ⟨h1, h2⟩ | ⟨h1, h2⟩
  · left
    rw [h1]
    rw [List.take_of_length_le hk] at h2
    exact h2
  · right
    rcases h.go with h3 | h3
    · exact absurd h3 h1
    · omega
theorem RInv.part {ns : List Int} {es : List Ed} {n : Int} {f : Nat → Bool} (hn : n ∈ ns) (hed : ∀ e ∈ es, e.1 ∈ ns ∧ e.2.1 ∈ ns) (h : RInv ns es n f ns.length) : IsPart es n f := by
  refine isPart_of hn hed h.so h.nn ?_
  rcases h.go with h1 | h1
  · exact h1
  · exfalso
    have h2 := count_tos (ns.map fun x => (x, (0 : Int))) (List.range 25) List.nodup_range
    rw [List.length_map] at h2
    have h3 : cnt f ≤ ((List.range 25).filter fun b => (ns.map fun x => (x, (0 : Int))).any fun x => decide (x.1.toNat = b)).length := by
      refine filter_len _ fun b _ hb => ?_
      rw [List.any_eq_true]
      exact ⟨((b : Int), 0), List.mem_map.2 ⟨(b : Int), h.mem b hb, rfl⟩, by simp⟩
    omega
theorem rInv_one {ns : List Int} {es : List Ed} {n : Int} (hb : ∀ z ∈ ns, 1 ≤ z ∧ z ≤ 24) (hn : n ∈ ns) : RInv ns es n (mk1 no1 n.toNat) 0 := by
  have h1 := hb n hn
  refine ⟨fun i hi => ?_, mk1_same _ _, fun i hi => ?_, .inr ?_⟩
  · rcases mk1_iff.1 hi with rfl | h
    · rw [Int.toNat_of_nonneg (by omega)]; exact Rch.refl _ _
    · simp [no1] at h
  · rcases mk1_iff.1 hi with rfl | h
    · rw [Int.toNat_of_nonneg (by omega)]; exact hn
    · simp [no1] at h
  · rw [cnt_mk1 no1 (show n.toNat < 25 by omega) rfl]
    omega
theorem make_met (w : World) : (Instr.makeSlice 85 (.int .i64 25) (.int .i64 25)).run Try.prog w = .ok (.slice (some ⟨w.heap.size, 0, none⟩) 25 25) (w.alloc (.cells (mcl no1).toArray 4)) := by kernel_rfl

end Go.Proofs.Ytabnecicidkmhaa
namespace Go.Proofs.Ytabnecicidkmhaa
open Go.RowKit

theorem row_last {α : Type} {cs : α → List Value} {sz : Nat} (hc : ∀ x, (cs x).length = sz) {w : World} {base g cap : Nat} {e : TypeId} {l : List α} {x : α} (hr : w.ownsRow base e sz (.slice (some ⟨g, 0, none⟩) (l.length + 1) cap) (l.length + 1) (fl cs (l ++ [x]))) : l.length + 1 ≤ cap ∧ l.length + 1 ≤ 9223372036854775807 ∧ g < w.heap.size ∧ ∀ i u, (cs x)[i]? = some u → w.cell? ⟨g, l.length * sz + i, none⟩ = some u := by
  obtain ⟨a, c, he, h1, h2, h3⟩ := slAt_of_row hc hr (by simp)
  simp at he
  obtain ⟨rfl, rfl⟩ := he
  obtain ⟨bk, o, h4, h5, h6⟩ := h3 (by simp)
  simp only [Option.some.injEq, Addr.mk.injEq, and_true] at h4
  obtain ⟨rfl, rfl⟩ := h4
  simp at h1 h2
  refine ⟨h2, by omega, h5, fun i u hu => ?_⟩
  have := h6 l.length x (by simp) i u hu
  rwa [Nat.zero_add] at this
/-- Near's answer, in one form. -/
theorem near_uni {w w' : World} {ns : List Int} {es : List Ed} {n : Int} {e : Ending} (h : ((graphOk ns es && hasN ns n) = true ∧ ∃ u, e = .returned (.tuple #[u, .int .i64 0]) ∧ w'.ownsRow w.heap.size 80 2 u (nearL es n).length (fl ac (nearL es n))) ∨ ((graphOk ns es && hasN ns n) = false ∧ e = .returned (.tuple #[.slice none 0 0, .int .i64 2]))) :
    ∃ ua ucap, e = .returned (.tuple #[.slice ua (if (graphOk ns es && hasN ns n) = true then nearL es n else []).length ucap, .int .i64 (if (graphOk ns es && hasN ns n) = true then 0 else 2)]) ∧ w'.ownsRow w.heap.size 80 2 (.slice ua (if (graphOk ns es && hasN ns n) = true then nearL es n else []).length ucap) (if (graphOk ns es && hasN ns n) = true then nearL es n else []).length (fl ac (if (graphOk ns es && hasN ns n) = true then nearL es n else [])) := by
  rcases h with ⟨h, u, rfl, hu⟩ | ⟨h, rfl⟩
  · obtain ⟨ua, ucap, rfl⟩ := row_shape hu
    rw [h]
    exact ⟨ua, ucap, rfl, hu⟩
  · rw [h]
    exact ⟨none, 0, rfl, World.ownsRow_nil _ _ _ _⟩
/-- Part's answer, in one form. -/
theorem part_uni {w w' : World} {ns : List Int} {es : List Ed} {n : Int} {e : Ending} (h : PartAns w ns es n e w') :
    ∃ L ua ucap, ((graphOk ns es && hasN ns n) = true → ∃ f, IsPart es n f ∧ L = markedL f) ∧ ((graphOk ns es && hasN ns n) = false → L = []) ∧ e = .returned (.tuple #[.slice ua L.length ucap, .int .i64 (if (graphOk ns es && hasN ns n) = true then 0 else 2)]) ∧ w'.ownsRow w.heap.size 3 1 (.slice ua L.length ucap) L.length (fl ic L) := by
  rcases h with ⟨h, f, u, hf, rfl, hu⟩ | ⟨h, rfl⟩
  · obtain ⟨ua, ucap, rfl⟩ := row_shape hu
    rw [h]
    exact ⟨markedL f, ua, ucap, fun _ => ⟨f, hf, rfl⟩, (fun h => by cases h), rfl, hu⟩
  · rw [h]
    exact ⟨[], none, 0, (fun h => by cases h), fun _ => rfl, rfl, World.ownsRow_nil _ _ _ _⟩
theorem part_same {es : List Ed} {n : Int} {b : Bool} {L M : List Int} (h1 : b = true → ∃ f, IsPart es n f ∧ L = markedL f) (h2 : b = false → L = []) (k1 : b = true → ∃ f, IsPart es n f ∧ M = markedL f) (k2 : b = false → M = []) : L = M := by
  cases b
  · rw [h2 rfl, k2 rfl]
  · obtain ⟨f, hf, rfl⟩ := h1 rfl
    obtain ⟨g, hg, rfl⟩ := k1 rfl
    exact hf.same hg
/-- An own row that may be written. -/
theorem row_write {w : World} {base n cap sz : Nat} {a : Option Addr} {e : TypeId} {xs : List Value} (hr : w.ownsRow base e sz (.slice a n cap) n xs) (h0 : 0 < n) : ∃ g, a = some ⟨g, 0, none⟩ ∧ base ≤ g ∧ g < w.heap.size ∧ (∀ j, j < n * sz → ∃ v, w.cell? ⟨g, j, none⟩ = some v) ∧ ∀ j, w.frozen? ⟨g, j, none⟩ = false := by
  rcases hr.2 with ⟨_, h⟩ | ⟨g, cap', cur, h, hb, hh, h1, _, h3, _⟩
  · omega
  · simp at h
    obtain ⟨rfl, rfl⟩ := h
    refine ⟨g, rfl, hb, block_lt hh, fun j hj => ?_, fun j => frozen_new hh j⟩
    have : n * sz ≤ cap * sz := Nat.mul_le_mul_right _ h1
    rw [cell_of_row w g j cur e _ hh]
    exact ⟨cur[j]'(by omega), Array.getElem?_eq_getElem _⟩

end Go.Proofs.Ytabnecicidkmhaa
namespace Go.Proofs.Ytabnecicidkmhaa
open Go.RowKit

theorem map_upd {D : Int → Int} {y v : Int} : ∀ {ns : List Int} {k : Nat}, ns.Nodup → ns[k]? = some y → ns.map (fun z => if z = y then v else D z) = (ns.map D).set k v
  | [], _, _, h => by simp at h
  | x :: ns, 0, hn, h => by
    simp at h
    subst h
    rw [List.nodup_cons] at hn
    simp only [List.map_cons, List.set_cons_zero, if_pos]
    congr 1
    refine List.map_congr_left fun z hz => ?_
    rw [if_neg (fun e => hn.1 (by rw [← e]; exact hz))]
  | x :: ns, k + 1, hn, h => by
    rw [List.nodup_cons] at hn
    have hk : ns[k]? = some y := by simpa using h
    have hxy : x ≠ y := fun e => hn.1 (by rw [e]; exact List.mem_of_getElem? hk)
    simp only [List.map_cons, List.set_cons_succ, if_neg hxy]
    rw [map_upd hn.2 hk]
theorem flic_set {l : List Int} {k : Nat} (v : Int) : (fl ic l).set k (.int .i64 v) = fl ic (l.set k v) := by
  have h : ∀ l : List Int, fl ic l = l.map (Value.int .i64) := fun l => by
    induction l with
    | nil => rfl
    | cons x l ih => show Value.int .i64 x :: fl ic l = _; rw [ih]; rfl
  rw [h, h, List.map_set]
theorem row_drewN {w : World} {base k size : Nat} {e : TypeId} {u : Value} {xs : List Value} (h : w.ownsRow base e size u k xs) (n : Nat) : (w.drewN n).ownsRow base e size u k xs := row_below h (below_drewN (Below.refl _ w) n) (Nat.le_refl _)
theorem frozen_row {w : World} {base k size g n cap : Nat} {e : TypeId} {xs : List Value} (h : w.ownsRow base e size (.slice (some ⟨g, 0, none⟩) n cap) k xs) (j : Nat) : w.frozen? ⟨g, j, none⟩ = false := by
  rcases h.2 with ⟨h1, _⟩ | ⟨g', cap', cur, h1, _, hh, _⟩
  · cases h1
  · simp at h1
    rw [h1.1]
    exact frozen_new hh j
theorem block_lt_of_cell {w : World} {p : Addr} {v : Value} (h : w.cell? p = some v) : p.block < w.heap.size := by
  rcases Nat.lt_or_ge p.block w.heap.size with h1 | h1
  · exact h1
  · simp [World.cell?, Array.getElem?_eq_none h1] at h
/-- A row of numbers, opened: its cells, and that they may be written. -/
theorem rowI_open {w : World} {base n cap : Nat} {a : Option Addr} {xs : List Int} (hr : w.ownsRow base 3 1 (.slice a n cap) n (fl ic xs)) (hn : xs.length = n) (h0 : 0 < n) : ∃ g, a = some ⟨g, 0, none⟩ ∧ base ≤ g ∧ (∀ j x, xs[j]? = some x → w.cell? ⟨g, j, none⟩ = some (.int .i64 x)) ∧ ∀ j, w.frozen? ⟨g, j, none⟩ = false := by
  obtain ⟨g, rfl, hb, _, _, hf⟩ := row_write hr h0
  refine ⟨g, rfl, hb, fun j x hx => ?_, hf⟩
  obtain ⟨a', cap', he, _, _, hc⟩ := (slAt_of_row (cs := ic) (fun _ => rfl) hr hn).ints
  obtain ⟨bk, o, ha, _, hcell⟩ := hc (by omega)
  simp only [Value.slice.injEq] at he
  rw [← he.1] at ha
  simp only [Option.some.injEq, Addr.mk.injEq, and_true] at ha
  have := hcell j x hx
  rw [← ha.1, ← ha.2, Nat.zero_add] at this
  exact this
set_option maxRecDepth 100000 in
set_option maxHeartbeats 4000000 in
theorem costs_any {ns : List Int} {es : List Ed} {vn ve : Value} {w : World} (h : GrAt w vn ve ns es) (hok : graphOk ns es = true) (r : Int) :
    Calls Try.prog 34 #[grV vn ve, .int .i64 r] w fun e w' => (∃ a c, e = .returned (.slice a ns.length c) ∧ w'.ownsRow w.heap.size 3 1 (.slice a ns.length c) ns.length (fl ic (ns.map (bfN es r ns.length)))) ∧ Below w.heap.size w w' := by
  have HGr := hidIn h
  obtain ⟨na, nca, rfl, hnl, _, hna⟩ := h.n.ints
  obtain ⟨ea, eca, rfl, hel, _, hea⟩ := h.e.eds
  have Hna := hidIn hna
  have Hea := hidIn hea
  obtain ⟨W1, hW1⟩ : ∃ W1, w.alloc (.cells #[.slice na ns.length nca, .slice ea es.length eca] 25) = W1 := ⟨_, rfl⟩
  have bA : Below w.heap.size w W1 := by rw [← hW1]; exact (Below.refl _ w).alloc (Nat.le_refl _) _
  have hGB : W1.heap[w.heap.size]? = some (.cells #[.slice na ns.length nca, .slice ea es.length eca] 25) := by rw [← hW1]; exact heap_alloc_last w _
  obtain ⟨q, hqe⟩ : ∃ q, w.heap.size = q := ⟨_, rfl⟩
  rw [hqe] at hGB
  have hlt0 := block_lt hGB
  have HF : Hid (∀ wq, Below W1.heap.size W1 wq → (wq.cell? ⟨q, 0, none⟩ = some (.slice na ns.length nca) ∧ wq.cell? ⟨q, 1, none⟩ = some (.slice ea es.length eca)) ∧ Below w.heap.size w wq) := hidIn fun wq h => by
    have j0 := (h.block _ hlt0).trans hGB
    exact ⟨⟨cell_of_row _ _ 0 _ _ _ j0, cell_of_row _ _ 1 _ _ _ j0⟩, bA.trans (h.mono bA.size)⟩
  have HW := hidIn hW1
  have Hn24 := hidIn (graphOk_n24 hok)
  have Hnn := hidIn (graphOk_nn hok)
  have Hpos := hidIn (graphOk_pos hok)
  have Hbd := hidIn (graphOk_bd hok).2.1
  have Hsz := hidIn bA.size
  obtain ⟨ln, hln⟩ : ∃ ln, ns.length = ln := ⟨_, rfl⟩
  obtain ⟨le, hle⟩ : ∃ le, es.length = le := ⟨_, rfl⟩
  rw [hln] at hnl HF HW Hn24 ⊢
  rw [hle] at hel HF HW ⊢
  have Hln := hidIn hln
  have Hle := hidIn hle
  have hl24 := Hn24.out
  clear hW1 bA hGB hna hea h hln hle hlt0 hok
  go_enter Try.func34, Try.ntmps34
  go_upto_region 1 with fail
  rw [HW.out]
  clear HW hqe
  go_wp2_with fail
  go_loopw [5, 6] (fun u i wr => ∃ k : Nat, k ≤ ln ∧ i = .int .i64 k ∧ (∃ a c, u = .slice a k c) ∧ Hid (Below W1.heap.size W1 wr ∧ wr.ownsRow W1.heap.size 3 1 u k (fl ic ((ns.take k).map (d0C r))))) (fun _ i _ => ln - (intOf i).toNat)
  case atStart => exact ⟨0, Nat.zero_le _, rfl, ⟨none, 0, rfl⟩, hidIn ⟨Below.refl _ _, World.ownsRow_nil _ _ _ _⟩⟩
  case round =>
    obtain ⟨k, hk, rfl, ⟨ua, uc, rfl⟩, HR⟩ := hrel
    obtain ⟨hbw, hr⟩ := HR.out
    obtain ⟨⟨f0, f1⟩, hbw0⟩ := HF.out wr hbw
    by_cases hlt : k < ln
    · have hki : (k : Int) < (ln : Int) := by omega
      obtain ⟨bk, o, rfl, hbk, hcell⟩ := Hna.out (by have := Hln.out; omega)
      obtain ⟨z, hz⟩ : ∃ z, ns[k]? = some z := ⟨ns[k]'(by have := Hln.out; omega), List.getElem?_eq_getElem _⟩
      have c0 := (hbw0.cell (p := ⟨bk, o + k, none⟩) hbk).trans (hcell k z hz)
      by_cases hzr : z = r
      · have hq : (z == r) = true := by simpa using hzr
        obtain ⟨g, gc, w6, hrun, hown, _, _, hb6⟩ := append_int hr 0 (by omega) hbw.size
        have HO : Hid (Below W1.heap.size W1 w6 ∧ w6.ownsRow W1.heap.size 3 1 (.slice (some ⟨g, 0, none⟩) (k + 1) gc) (k + 1) (fl ic ((ns.take (k + 1)).map (d0C r)))) := hidIn ⟨hbw.trans hb6, by rw [take_snoc hz, List.map_append]; simp only [List.map_cons, List.map_nil, d0C, if_pos hzr]; exact hown⟩
        have HRun := hidIn hrun
        clear hcell hz hzr hbw hr hrun hown hb6 hbw0 HR
        go_wp2_with (refine l_append rfl _ _ 22 rfl HRun.out ?_)
        go_roundw
        case rel => exact ⟨k + 1, by omega, by go_num, ⟨_, _, rfl⟩, HO⟩
        case measure => simp [intOf]; omega
      · have hq : (z == r) = false := by simpa using hzr
        obtain ⟨g, gc, w6, hrun, hown, _, _, hb6⟩ := append_int hr 1073741824 (by omega) hbw.size
        have HO : Hid (Below W1.heap.size W1 w6 ∧ w6.ownsRow W1.heap.size 3 1 (.slice (some ⟨g, 0, none⟩) (k + 1) gc) (k + 1) (fl ic ((ns.take (k + 1)).map (d0C r)))) := hidIn ⟨hbw.trans hb6, by rw [take_snoc hz, List.map_append]; simp only [List.map_cons, List.map_nil, d0C, if_neg hzr]; exact hown⟩
        have HRun := hidIn hrun
        clear hcell hz hzr hbw hr hrun hown hb6 hbw0 HR
        go_wp2_with (refine l_append rfl _ _ 22 rfl HRun.out ?_)
        go_roundw
        case rel => exact ⟨k + 1, by omega, by go_num, ⟨_, _, rfl⟩, HO⟩
        case measure => simp [intOf]; omega
    · have hki : ¬ (k : Int) < (ln : Int) := by omega
      have hke : k = ln := by omega
      subst hke
      rw [List.take_of_length_le (by have := Hln.out; omega)] at hr
      have HR0 : Hid (Below W1.heap.size W1 wr ∧ wr.ownsRow W1.heap.size 3 1 (.slice ua k uc) k (fl ic (ns.map (bfN es r 0)))) := hidIn ⟨hbw, hr⟩
      clear hbw hr hbw0 HR
      go_wp2_with fail
      clear f0 f1 hki
      go_loopw [7] (fun i wx => ∃ j : Nat, j ≤ k ∧ i = .int .i64 j ∧ Hid (Below W1.heap.size W1 wx ∧ wx.ownsRow W1.heap.size 3 1 (.slice ua k uc) k (fl ic (ns.map (bfN es r j))))) (fun i _ => k - (intOf i).toNat)
      case atStart => exact ⟨0, Nat.zero_le _, rfl, HR0⟩
      case round =>
        clear HR0
        obtain ⟨j, hj, rfl, HRj⟩ := hrel
        obtain ⟨⟨f0, f1⟩, hbw0⟩ := HF.out wr HRj.out.1
        by_cases hltj : j < k
        · have hji : (j : Int) < (k : Int) := by omega
          go_wp2_with fail
          clear f0 f1 hbw0
          go_loopw [8] (fun i wx => ∃ m : Nat, m ≤ le ∧ i = .int .i64 m ∧ Hid (Below W1.heap.size W1 wx ∧ wx.ownsRow W1.heap.size 3 1 (.slice ua k uc) k (fl ic (ns.map ((es.take m).foldl rlx (bfN es r j)))) ∧ SndC es r ((es.take m).foldl rlx (bfN es r j)))) (fun i _ => le - (intOf i).toNat)
          case atStart => exact ⟨0, Nat.zero_le _, rfl, hidIn ⟨HRj.out.1, HRj.out.2, snd_bf es r j⟩⟩
          case round =>
            clear HRj
            obtain ⟨m, hm, rfl, HRm⟩ := hrel
            obtain ⟨hbm, hrm, hsm⟩ := HRm.out
            obtain ⟨⟨f0, f1⟩, hbw0⟩ := HF.out wr hbm
            by_cases hltm : m < le
            · have hmi : (m : Int) < (le : Int) := by omega
              obtain ⟨bk, o, rfl, hbk, hcell⟩ := Hea.out (by have := Hle.out; omega)
              obtain ⟨⟨x, y, c⟩, hz⟩ : ∃ z, es[m]? = some z := ⟨es[m]'(by have := Hle.out; omega), List.getElem?_eq_getElem _⟩
              obtain ⟨q0, q1, q2⟩ := hcell m _ hz
              have hmem := List.mem_of_getElem? hz
              obtain ⟨hxn, hyn⟩ := Hbd.out _ hmem
              have hc := Hpos.out _ hmem
              simp only at q0 q1 q2 hxn hyn hc
              have c0 := (hbw0.cell (p := ⟨bk, o + m * 3, none⟩) hbk).trans q0
              have c1 := (hbw0.cell (p := ⟨bk, o + m * 3 + 1, none⟩) hbk).trans q1
              have c2 := (hbw0.cell (p := ⟨bk, o + m * 3 + 2, none⟩) hbk).trans q2
              obtain ⟨px, hpx⟩ : ∃ px, ns[px]? = some x := List.getElem?_of_mem hxn
              obtain ⟨py, hpy⟩ : ∃ py, ns[py]? = some y := List.getElem?_of_mem hyn
              have hix := plI_some (plN_nodup Hnn.out hpx)
              have hiy := plI_some (plN_nodup Hnn.out hpy)
              have hpk : px < k := by have := (List.getElem?_eq_some_iff.1 hpx).1; have := Hln.out; omega
              have hpk2 : py < k := by have := (List.getElem?_eq_some_iff.1 hpy).1; have := Hln.out; omega
              have hgr := HGr.out
              rw [Hln.out, Hle.out] at hgr
              have HP : Hid (∀ z dd os, Calls Try.prog 26 #[grV (.slice na k nca) (.slice (some ⟨bk, o, none⟩) le eca), .int .i64 z] (Go.Sort.grow (redrawn wr dd) os) fun e w' => e = .returned (.int .i64 (plI ns z)) ∧ Below (Go.Sort.grow (redrawn wr dd) os).heap.size (Go.Sort.grow (redrawn wr dd) os) w') := hidIn fun z dd os => place_any (hgr.keep (hbw0.trans ((below_regrown wr dd os).mono hbw0.size)) (Nat.le_refl _)) z
              obtain ⟨D, hD⟩ : ∃ D, (es.take m).foldl rlx (bfN es r j) = D := ⟨_, rfl⟩
              rw [hD] at hrm hsm
              have hDb : ∀ z, 0 ≤ D z ∧ D z ≤ 1073741824 := fun z => by
                rcases hsm z with h1 | ⟨h1, hh, h2⟩
                · rw [h1]; unfold farC; omega
                · have := (h2.pos Hpos.out).1
                  unfold farC at h1
                  omega
              obtain ⟨g, hua, hgb, hgc, hgf⟩ := rowI_open hrm (by rw [List.length_map]; exact Hln.out) (by omega)
              subst hua
              have HRow := hidIn (And.intro hbm hrm)
              have rx := hgc px (D x) (by rw [List.getElem?_map, hpx]; rfl)
              have ry := hgc py (D y) (by rw [List.getElem?_map, hpy]; rfl)
              have fy := hgf py
              have HNo : Hid (¬ (D x < farC ∧ D x + c < D y) → (es.take (m + 1)).foldl rlx (bfN es r j) = D) := hidIn fun hn => by
                rw [take_snoc hz, List.foldl_append, hD]
                show rlx D (x, y, c) = D
                unfold rlx
                rw [if_neg hn]
              have HYe : Hid ((D x < farC ∧ D x + c < D y) → ns.map ((es.take (m + 1)).foldl rlx (bfN es r j)) = (ns.map D).set py (D x + c)) := hidIn fun hy => by
                rw [take_snoc hz, List.foldl_append, hD, ← map_upd Hnn.out hpy]
                show ns.map (rlx D (x, y, c)) = _
                unfold rlx
                rw [if_pos hy]
              have HSn : Hid (SndC es r ((es.take (m + 1)).foldl rlx (bfN es r j))) := hidIn (by
                rw [take_snoc hz, List.foldl_append, hD]
                exact snd_rlx hmem hsm)
              have Hix := hidIn hix
              have Hiy := hidIn hiy
              have hpki : (px : Int) < (k : Int) := by omega
              have hpki2 : (py : Int) < (k : Int) := by omega
              obtain ⟨hx0, hx1⟩ := hDb x
              obtain ⟨hy0, hy1⟩ := hDb y
              have Hgb := hidIn hgb
              have HD := hidIn hD
              have HB0 := hidIn hbw0
              have HC := hidIn (And.intro hbk (And.intro q0 (And.intro q1 q2)))
              have g0 := cell_regrown f0
              have g1 := cell_regrown f1
              have g2 := cell_regrown c0
              have g3 := cell_regrown c1
              clear hcell hz q0 q1 q2 hmem hxn hyn hpx hpy hix hiy hgr hD hDb hgb hgc hgf hbm hrm hsm hbw0 HRm hpk hpk2 hbk
              go_upto_region 14 with fail
              refine wp_region_quiet_below (by kernel_rfl) (by kernel_rfl) ?_
              repeat (go_big_quiet_step (first | (go_at_call 26; exact Calls.regrown_of (HP.out _ _ _))))
              refine wpQuiet_nil ?_
              intro _ hw'
              obtain ⟨⟨dq, osq⟩, hw''⟩ := hw'
              subst hw''
              rw [Hix.out, Hiy.out]
              have hb := below_regrown wr dq osq
              have HRow2 := hidIn (And.intro (HRow.out.1.trans (hb.mono HRow.out.1.size)) (row_below HRow.out.2 hb (Nat.le_refl _)))
              have k0 := (hb.cell (p := ⟨q, 0, none⟩) (block_lt_of_cell f0)).trans f0
              have k1 := (hb.cell (p := ⟨q, 1, none⟩) (block_lt_of_cell f1)).trans f1
              have k2 := (hb.cell (p := ⟨bk, o + m * 3 + 2, none⟩) (block_lt_of_cell c2)).trans c2
              have k3 := (hb.cell (p := ⟨g, px, none⟩) (block_lt_of_cell rx)).trans rx
              have k4 := (hb.cell (p := ⟨g, py, none⟩) (block_lt_of_cell ry)).trans ry
              generalize Go.Sort.grow (redrawn wr dq) osq = wv at HRow2 k0 k1 k2 k3 k4 ⊢
              clear hb g0 g1 g2 g3 f0 f1 c0 c1 c2 rx ry fy HP HRow HB0
              generalize D x = dx at *
              generalize D y = dy at *
              have hwr2 : wrap64 (dx + c) = dx + c := by unfold wrap64; omega
              have hwr : IntKind.i64.wrap (dx + c) = dx + c := (IntKind.wrap_i64 _).trans (by unfold wrap64 at hwr2; exact hwr2)
              by_cases h1 : dx < farC
              · have h1' : dx < 1073741824 := h1
                by_cases h2 : dx + c < dy
                · have hy : dx < farC ∧ dx + c < dy := ⟨h1, h2⟩
                  have HRn : Hid (∀ wz, Below W1.heap.size W1 wz → wz.ownsRow W1.heap.size 3 1 (.slice (some ⟨g, 0, none⟩) k uc) k (fl ic (ns.map D)) → Below W1.heap.size W1 (wz.setCell ⟨g, py, none⟩ (.int .i64 (dx + c))) ∧ (wz.setCell ⟨g, py, none⟩ (.int .i64 (dx + c))).ownsRow W1.heap.size 3 1 (.slice (some ⟨g, 0, none⟩) k uc) k (fl ic (ns.map ((es.take (m + 1)).foldl rlx (bfN es r j))))) := hidIn fun wz hb hr => ⟨hb.setCell (p := ⟨g, py, none⟩) Hgb.out _, by
                    rw [HYe.out hy, ← flic_set]
                    exact row_set hr py _⟩
                  clear hy
                  have fy := frozen_row HRow2.out.2 py
                  go_upto_region 15 with fail
                  go_quiet (fail)
                  go_upto_region 16 with fail
                  go_region
                  go_wp2_with fail
                  go_roundw
                  case rel =>
                    obtain ⟨h4, h5⟩ := HRn.out _ (below_drewN HRow2.out.1 nq).drew (row_below (row_drewN HRow2.out.2 nq) ((Below.refl _ _).drew) (Nat.le_refl _))
                    exact ⟨m + 1, by omega, by go_num, hidIn ⟨h4, h5, HSn.out⟩⟩
                  case measure => simp [intOf]; omega
                · clear h1
                  have hn : ¬ (dx < farC ∧ dx + c < dy) := fun e => h2 e.2
                  have HRn : Hid (Below W1.heap.size W1 wv ∧ wv.ownsRow W1.heap.size 3 1 (.slice (some ⟨g, 0, none⟩) k uc) k (fl ic (ns.map ((es.take (m + 1)).foldl rlx (bfN es r j)))) ∧ SndC es r ((es.take (m + 1)).foldl rlx (bfN es r j))) := hidIn ⟨HRow2.out.1, by rw [HNo.out hn]; exact HRow2.out.2, HSn.out⟩
                  clear hn
                  go_upto_region 15 with fail
                  go_quiet (fail)
                  go_wp2_with fail
                  go_roundw
                  case rel => exact ⟨m + 1, by omega, by go_num, hidIn ⟨below_drewN HRn.out.1 _, row_drewN HRn.out.2.1 _, HRn.out.2.2⟩⟩
                  case measure => simp [intOf]; omega
              · have h1' : ¬ dx < 1073741824 := h1
                have hn : ¬ (dx < farC ∧ dx + c < dy) := fun e => h1 e.1
                have HRn : Hid (Below W1.heap.size W1 wv ∧ wv.ownsRow W1.heap.size 3 1 (.slice (some ⟨g, 0, none⟩) k uc) k (fl ic (ns.map ((es.take (m + 1)).foldl rlx (bfN es r j)))) ∧ SndC es r ((es.take (m + 1)).foldl rlx (bfN es r j))) := hidIn ⟨HRow2.out.1, by rw [HNo.out hn]; exact HRow2.out.2, HSn.out⟩
                clear hn
                go_upto_region 15 with fail
                go_quiet (fail)
                go_wp2_with fail
                go_roundw
                case rel => exact ⟨m + 1, by omega, by go_num, hidIn ⟨below_drewN HRn.out.1 _, row_drewN HRn.out.2.1 _, HRn.out.2.2⟩⟩
                case measure => simp [intOf]; omega
            · have hmi : ¬ (m : Int) < (le : Int) := by omega
              have HRe : Hid (Below W1.heap.size W1 wr ∧ wr.ownsRow W1.heap.size 3 1 (.slice ua k uc) k (fl ic (ns.map (bfN es r (j + 1))))) := hidIn ⟨hbm, by rw [List.take_of_length_le (by have := Hle.out; omega)] at hrm; exact hrm⟩
              clear hbm hrm hsm hbw0 HRm
              go_wp2_with fail
              go_roundw
              case rel => exact ⟨j + 1, by omega, by go_num, HRe⟩
              case measure => simp [intOf]; omega
        · have hji : ¬ (j : Int) < (k : Int) := by omega
          have hje : j = k := by omega
          subst hje
          have HE : Hid (wr.ownsRow w.heap.size 3 1 (.slice ua j uc) j (fl ic (ns.map (bfN es r j)))) := hidIn (row_low HRj.out.2 Hsz.out)
          have HB := hidIn hbw0
          clear hbw0
          go_wp2_with fail
          go_ret
          exact ⟨⟨_, _, rfl, HE.out⟩, HB.out⟩
end Go.Proofs.Ytabnecicidkmhaa
namespace Go.Proofs.Ytabnecicidkmhaa
open Go.RowKit

/-- Does an edge lie on least-cost ways, by costs? -/
def tgI (D : Int → Int) (e : Ed) : Bool := decide (D e.1 < farC) && (D e.1 + e.2.2 == D e.2.1)
set_option maxRecDepth 100000 in
set_option maxHeartbeats 2000000 in
theorem tight_any {ns : List Int} {es : List Ed} {vn ve cv : Value} {D : Int → Int} {w : World} (h : GrAt w vn ve ns es) (hok : graphOk ns es = true) (hc : SlAt ic 1 w cv (ns.map D)) (hD : ∀ z, 0 ≤ D z ∧ D z ≤ 1073741824) {e : Ed} (he : e ∈ es) :
    Calls Try.prog 35 #[grV vn ve, cv, edV e] w fun x w' => x = .returned (.bool (tgI D e)) ∧ Below w.heap.size w w' := by
  obtain ⟨x, y, c⟩ := e
  obtain ⟨hxn, hyn⟩ := (graphOk_bd hok).2.1 _ he
  have hcp := graphOk_pos hok _ he
  simp only at hxn hyn hcp
  obtain ⟨px, hpx⟩ : ∃ px, ns[px]? = some x := List.getElem?_of_mem hxn
  obtain ⟨py, hpy⟩ : ∃ py, ns[py]? = some y := List.getElem?_of_mem hyn
  have Hix := hidIn (plI_some (plN_nodup (graphOk_nn hok) hpx))
  have Hiy := hidIn (plI_some (plN_nodup (graphOk_nn hok) hpy))
  have hg := h
  obtain ⟨na, nca, rfl, hnl, _, _⟩ := h.n.ints
  obtain ⟨ea, eca, rfl, hel, _, _⟩ := h.e.eds
  obtain ⟨ca, cca, rfl, _, _, hcc⟩ := hc.ints
  obtain ⟨cb, co, rfl, hcb, hccell⟩ := hcc (by rw [List.length_map]; have := (List.getElem?_eq_some_iff.1 hpx).1; omega)
  have hpk : px < ns.length := (List.getElem?_eq_some_iff.1 hpx).1
  have hpk2 : py < ns.length := (List.getElem?_eq_some_iff.1 hpy).1
  have rx := hccell px (D x) (by rw [List.getElem?_map, hpx]; rfl)
  have ry := hccell py (D y) (by rw [List.getElem?_map, hpy]; rfl)
  obtain ⟨W1, hW1⟩ : ∃ W1, (w.alloc (.cells #[.slice na ns.length nca, .slice ea es.length eca] 25)).alloc (.cells #[.int .i64 x, .int .i64 y, .int .i64 c] 54) = W1 := ⟨_, rfl⟩
  have bA : Below w.heap.size w W1 := by rw [← hW1]; exact ((Below.refl _ w).alloc (Nat.le_refl _) _).alloc (by simp) _
  have hGB : W1.heap[w.heap.size]? = some (.cells #[.slice na ns.length nca, .slice ea es.length eca] 25) := by rw [← hW1, Below.heap_alloc _ _ _ (by simp)]; exact heap_alloc_last w _
  have hEB : W1.heap[w.heap.size + 1]? = some (.cells #[.int .i64 x, .int .i64 y, .int .i64 c] 54) := by
    rw [← hW1]
    have := heap_alloc_last (w.alloc (.cells #[.slice na ns.length nca, .slice ea es.length eca] 25)) (.cells #[.int .i64 x, .int .i64 y, .int .i64 c] 54)
    rwa [World.size_alloc] at this
  obtain ⟨q, hqe⟩ : ∃ q, w.heap.size = q := ⟨_, rfl⟩
  have HP : Hid (∀ z dd os, Calls Try.prog 26 #[grV (.slice na ns.length nca) (.slice ea es.length eca), .int .i64 z] (Go.Sort.grow (redrawn W1 dd) os) fun e w' => e = .returned (.int .i64 (plI ns z)) ∧ Below (Go.Sort.grow (redrawn W1 dd) os).heap.size (Go.Sort.grow (redrawn W1 dd) os) w') := hidIn fun z dd os => place_any (hg.keep (bA.trans ((below_regrown W1 dd os).mono bA.size)) (Nat.le_refl _)) z
  replace rx := (bA.cell (p := ⟨cb, co + px, none⟩) hcb).trans rx
  replace ry := (bA.cell (p := ⟨cb, co + py, none⟩) hcb).trans ry
  have HB := hidIn bA
  rw [hqe] at hGB hEB
  have f0 := cell_of_row _ _ 0 _ _ _ hGB
  have f1 := cell_of_row _ _ 1 _ _ _ hGB
  have e0 := cell_of_row _ _ 0 _ _ _ hEB
  have e1 := cell_of_row _ _ 1 _ _ _ hEB
  have e2 := cell_of_row _ _ 2 _ _ _ hEB
  simp at f0 f1 e0 e1 e2
  obtain ⟨hx0, hx1⟩ := hD x
  obtain ⟨hy0, hy1⟩ := hD y
  have HT : Hid (tgI D (x, y, c) = (decide (D x < farC) && (D x + c == D y))) := hidIn rfl
  rw [HT.out]
  generalize D x = dx at *
  generalize D y = dy at *
  obtain ⟨bt, hbt⟩ : ∃ bt, (decide (dx < farC) && (dx + c == dy)) = bt := ⟨_, rfl⟩
  rw [hbt]
  have HBt := hidIn hbt
  clear hbt
  rw [List.length_map]
  obtain ⟨ln, hln⟩ : ∃ ln, ns.length = ln := ⟨_, rfl⟩
  obtain ⟨le, hle⟩ : ∃ le, es.length = le := ⟨_, rfl⟩
  rw [hln] at hnl hpk hpk2 f0 hW1 HP ⊢
  rw [hle] at hel f1 hW1 HP ⊢
  have hpki : (px : Int) < (ln : Int) := by omega
  have hpki2 : (py : Int) < (ln : Int) := by omega
  have hwr2 : wrap64 (dx + c) = dx + c := by unfold wrap64; omega
  have hwr : IntKind.i64.wrap (dx + c) = dx + c := (IntKind.wrap_i64 _).trans (by unfold wrap64 at hwr2; exact hwr2)
  have HW := hidIn hW1
  have g0 := cell_regrown f0
  have g1 := cell_regrown f1
  have g2 := cell_regrown e0
  have g3 := cell_regrown e1
  clear hW1 bA hGB hEB hg h hc hcc hccell hpx hpy hxn hyn he hok hD hcb hln hle HT hpk hpk2
  go_enter Try.func35, Try.ntmps35
  go_upto_region 1 with fail
  rw [HW.out]
  clear HW hqe
  refine wp_region_quiet_below (by kernel_rfl) (by kernel_rfl) ?_
  repeat (go_big_quiet_step (first | (go_at_call 26; exact Calls.regrown_of (HP.out _ _ _))))
  refine wpQuiet_nil ?_
  intro _ hw'
  obtain ⟨⟨dq, osq⟩, hw''⟩ := hw'
  subst hw''
  rw [Hix.out, Hiy.out]
  have hb := below_regrown W1 dq osq
  have HB2 := hidIn (HB.out.trans (hb.mono HB.out.size))
  have k2 := (hb.cell (p := ⟨q + 1, 2, none⟩) (block_lt_of_cell e2)).trans e2
  have k3 := (hb.cell (p := ⟨cb, co + px, none⟩) (block_lt_of_cell rx)).trans rx
  have k4 := (hb.cell (p := ⟨cb, co + py, none⟩) (block_lt_of_cell ry)).trans ry
  generalize Go.Sort.grow (redrawn W1 dq) osq = wv at HB2 k2 k3 k4 ⊢
  clear hb g0 g1 g2 g3 f0 f1 e0 e1 e2 rx ry HP HB
  by_cases h1 : dx < farC
  · have h1' : dx < 1073741824 := h1
    obtain ⟨bq, hbq⟩ : ∃ bq, (dx + c == dy) = bq := ⟨_, rfl⟩
    have HBe : Hid (bt = bq) := hidIn (by rw [← HBt.out, decide_eq_true h1, Bool.true_and]; exact hbq)
    clear h1
    go_upto_region 2 with fail
    go_quiet (fail)
    go_wp2_with fail
    go_ret
    exact ⟨by rw [HBe.out]; rfl, below_drewN HB2.out _⟩
  · have h1' : ¬ dx < 1073741824 := h1
    have HBe : Hid (bt = false) := hidIn (by rw [← HBt.out, decide_eq_false h1, Bool.false_and])
    clear h1
    go_upto_region 2 with fail
    go_quiet (fail)
    go_wp2_with fail
    go_ret
    exact ⟨by rw [HBe.out]; rfl, below_drewN HB2.out _⟩
/-- Tight edges of the document's costs lead into nodes. -/
theorem tg_into {ns : List Int} {es : List Ed} (hok : graphOk ns es = true) {r : Int} (hr : r ∈ ns) {e : Ed} (he : e ∈ es) {d : Int} (hd : Ds es r e.2.1 d) : tgI (bfN es r ns.length) e = true ↔ Into es r e.2.1 e := by
  unfold tgI
  simp only [Bool.and_eq_true, decide_eq_true_eq, beq_iff_eq]
  have hdy : bfN es r ns.length e.2.1 = d := by
    rcases bf_all hok hr e.2.1 with ⟨d', h1, h2, _⟩ | ⟨h1, _⟩
    · rw [h2]; exact h1.uniq hd
    · exact absurd hd (h1 d)
  rw [hdy]
  rcases bf_all hok hr e.1 with ⟨d', h1, h2, _⟩ | ⟨h1, h2⟩
  · rw [h2]
    constructor
    · rintro ⟨_, h3⟩
      exact ⟨he, rfl, d', h1, by rw [h3]; exact hd⟩
    · rintro ⟨_, _, c, h3, h4⟩
      have e1 := h3.uniq h1
      have e2 := h4.uniq hd
      obtain ⟨_, _, _, h7, h8, h9⟩ : ∃ d'', Ds es r e.1 d'' ∧ d' = d'' ∧ bfN es r ns.length e.1 = d'' ∧ 0 ≤ d'' ∧ d'' ≤ 1000 * ns.length := by
        rcases bf_all hok hr e.1 with ⟨d'', k1, k2, k3, k4⟩ | ⟨k1, _⟩
        · exact ⟨d'', k1, h1.uniq k1, k2, k3, k4⟩
        · exact absurd h1 (k1 d')
      have := graphOk_n24 hok
      refine ⟨?_, by omega⟩
      unfold farC
      omega
  · rw [h2]
    constructor
    · rintro ⟨h3, _⟩
      exact absurd h3 (Int.lt_irrefl _)
    · rintro ⟨_, _, c, h3, _⟩
      exact absurd h3 (h1 c)
end Go.Proofs.Ytabnecicidkmhaa
namespace Go.Proofs.Ytabnecicidkmhaa

theorem edgesOk_rise {ns : List Int} : ∀ (es : List Ed) (last : Ed), edgesOk ns last es = true → (∀ e ∈ es, risesE last e = true) ∧ es.Pairwise fun a b => risesE a b = true
  | [], _, _ => by simp
  | a :: es, last, h => by
    simp only [edgesOk, edgeOk, Bool.and_eq_true] at h
    obtain ⟨h1, h2⟩ := edgesOk_rise es a h.2
    have hl : risesE last a = true := h.1.2.2.2.2
    have tr : ∀ x y z : Ed, risesE x y = true → risesE y z = true → risesE x z = true := fun x y z g1 g2 => by
      simp only [risesE, Bool.or_eq_true, Bool.and_eq_true, decide_eq_true_eq] at g1 g2 ⊢
      omega
    refine ⟨fun e he => ?_, List.pairwise_cons.2 ⟨h1, h2⟩⟩
    rcases List.mem_cons.1 he with rfl | he
    · exact hl
    · exact tr _ _ _ hl (h1 e he)
theorem graphOk_nodup {ns : List Int} {es : List Ed} (h : graphOk ns es = true) : es.Nodup := by
  simp only [graphOk, Bool.and_eq_true] at h
  exact (edgesOk_rise es _ h.2.2).2.imp (fun {a b} hr e => by
    subst e
    simp [risesE] at hr)
theorem told_nodup {es : List Ed} (hd : es.Nodup) (P : List (Int × Int)) : ∀ Q : List (Int × Int), (Q.map (·.1)).Nodup → (told es P Q).Nodup
  | [], _ => by simp [told]
  | n :: Q, hq => by
    rw [List.map_cons, List.nodup_cons] at hq
    rw [told, List.nodup_append]
    refine ⟨hd.filter _, told_nodup hd P Q hq.2, fun a ha b hb e => ?_⟩
    subst e
    simp only [List.mem_filter, Bool.and_eq_true, decide_eq_true_eq] at ha
    obtain ⟨⟨m, hm, h1⟩, _⟩ := told_mem.1 hb
    exact hq.1 (List.mem_map.2 ⟨m, hm, by rw [← h1, ha.2.1]⟩)
def two64 : Nat := 18446744073709551616
def cntG (acc was : Nat) (_ : Ed) : Nat := (acc + was) % 18446744073709551616
theorem cntE_step : cntE = stepG cntG := by funext c e; rfl
theorem fold_sum (N : Nat → Nat) : ∀ (L : List Ed) (a : Nat), a < 18446744073709551616 → L.foldl (fun acc e => cntG acc (N e.1.toNat) e) a = (a + (L.map fun e => N e.1.toNat).sum) % 18446744073709551616
  | [], a, h => by simp; omega
  | e :: L, a, h => by
    rw [List.foldl_cons, fold_sum N L _ (by unfold cntG; omega), List.map_cons, List.sum_cons]
    unfold cntG
    omega
theorem perm_into {ns : List Int} {es : List Ed} {r : Int} {P : List (Int × Int)} (hok : graphOk ns es = true) (h : IsNear es r P) (hn : NdOk P) (x : Int) (hx : x ∈ ns) (I : Ed → Bool) (hI : ∀ e, e ∈ es → (I e = true ↔ Into es r x e)) : ((told es P P).filter fun e => decide (e.2.1.toNat = x.toNat)).Perm (es.filter I) := by
  have hbd := graphOk_bd hok
  have h0 : ∀ n ∈ P, 0 ≤ n.1 := fun n h1 => by have := (hn.2 n h1).1; omega
  have hd := graphOk_nodup hok
  rw [List.perm_ext_iff_of_nodup ((told_nodup hd P P h.nd).filter _) (hd.filter _)]
  intro e
  rw [List.mem_filter, List.mem_filter, h.told_iff h0, decide_eq_true_eq]
  have h2 := hbd.1 x hx
  constructor
  · rintro ⟨⟨h1, d, hd1, hd2⟩, h3⟩
    have h4 := hbd.1 _ (hbd.2.1 e h1).2
    have h5 : e.2.1 = x := by omega
    exact ⟨h1, (hI e h1).2 ⟨h1, h5, d, hd1, by rw [← h5]; exact hd2⟩⟩
  · rintro ⟨h1, h3⟩
    obtain ⟨_, h4, d, hd1, hd2⟩ := (hI e h1).1 h3
    exact ⟨⟨h1, d, hd1, by rw [h4]; exact hd2⟩, by rw [h4]⟩
/-- As many ways as those ahead have together. -/
theorem cnt_all {ns : List Int} {es : List Ed} {r : Int} {P : List (Int × Int)} (hok : graphOk ns es = true) (hr : r ∈ ns) (h : IsNear es r P) (hn : NdOk P) (x : Int) (hx : x ∈ ns) (I : Ed → Bool) (hI : ∀ e, e ∈ es → (I e = true ↔ Into es r x e)) :
    cntT r (told es P P) x.toNat = ((if x = r then 1 else 0) + ((es.filter I).map fun e => cntT r (told es P P) e.1.toNat).sum) % 18446744073709551616 := by
  have hp := graphOk_pos hok
  have hbd := graphOk_bd hok
  have h0 : ∀ n ∈ P, 0 ≤ n.1 := fun n h1 => by have := (hn.2 n h1).1; omega
  have hfold := topo_fold cntG (putV (fun _ => 0) r.toNat 1) _ _ rfl (h.topo h0 hp) x.toNat
  have h1 := hbd.1 x hx
  have h2 := hbd.1 r hr
  have hcnt : ∀ y, (told es P P).foldl (stepG cntG) (putV (fun _ => 0) r.toNat 1) y = cntT r (told es P P) y := fun y => by unfold cntT; rw [cntE_step]; rfl
  rw [hcnt] at hfold
  rw [hfold]
  have hi : putV (fun _ => 0) r.toNat 1 x.toNat = (if x = r then 1 else 0 : Nat) := by
    unfold putV
    by_cases e : x = r
    · rw [if_pos (by rw [e]), if_pos e]
    · rw [if_neg (by omega), if_neg e]
  rw [hi]
  have hf : ∀ (L : List Ed) (a : Nat), L.foldl (fun acc e => cntG acc ((told es P P).foldl (stepG cntG) (putV (fun _ => 0) r.toNat 1) e.1.toNat) e) a = L.foldl (fun acc e => cntG acc (cntT r (told es P P) e.1.toNat) e) a := fun L a => by
    congr
  rw [hf, fold_sum _ _ _ (by split <;> omega), ((perm_into hok h hn x hx I hI).map _).sum_nat]
end Go.Proofs.Ytabnecicidkmhaa
