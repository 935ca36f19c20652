/- leastEdges. -/
import Derived.Test.YtgeoghhajjlofaaGreatDoorV3
import Derived.Test.YtgeoghhajjlofaaGreatDoorGF
namespace Go.Proofs.YtgeoghhajjlofaaGreatDoor
open Go.RowKit

/-- The graph and the costs. -/
structure LeM (w wr : World) (vn ve : Value) (c : Nat → Int) : Prop where
  g : wr.heap[w.heap.size]? = some (.cells #[vn, ve] 53)
  k : Arr wr (w.heap.size + 1) 86 (rcl c)
  b : Below w.heap.size w wr
theorem LeM.keep {w wr w' : World} {vn ve : Value} {c : Nat → Int} (h : LeM w wr vn ve c) (hb : Below wr.heap.size wr w') : LeM w w' vn ve c :=
  ⟨(hb.block _ (block_lt h.g)).trans h.g, h.k.keep hb h.k.lt, h.b.trans (hb.mono h.b.size)⟩
theorem LeM.put {w wr : World} {vn ve : Value} {c : Nat → Int} (h : LeM w wr vn ve c) {n : Nat} (hn : n < 25) (v : Int) : LeM w (wr.setCell ⟨w.heap.size + 1, n, none⟩ (.int .i64 v)) vn ve (put1 c n v) :=
  ⟨(Below.heap_setCell _ _ _ _ (by show w.heap.size ≠ w.heap.size + 1; omega)).trans h.g, by rw [← rcl_set c hn]; exact h.k.set n _, h.b.setCell (p := ⟨w.heap.size + 1, n, none⟩) (Nat.le_succ _) _⟩
theorem LeM.fr {w wr w' : World} {vn ve : Value} {c : Nat → Int} {B : Nat} (h : LeM w wr vn ve c) (hB : w.heap.size + 1 < B) (hF : Fr (fun k => k = B) wr w') : LeM w w' vn ve c :=
  ⟨(hF.block _ (block_lt h.g) (by omega)).trans h.g, (hF.block _ h.k.lt (by omega)).trans h.k, h.b.trans (hF.below h.b.size (fun k hk => by omega))⟩
theorem LeM.drewN {w wr : World} {vn ve : Value} {c : Nat → Int} (h : LeM w wr vn ve c) (n : Nat) : LeM w (wr.drewN n) vn ve c := ⟨h.g, h.k, ⟨h.b.os, h.b.tape, h.b.output, h.b.size, h.b.block⟩⟩
theorem wf_small {a : Int} (h : 0 ≤ a) (h2 : a ≤ 1000000) : (Lit.int .i64 a).wf = true := WalkArith.wf_i64 (by omega)
theorem cP_bd {P : List (Int × Int)} (h : ∀ n ∈ P, (1 ≤ n.1 ∧ n.1 ≤ 24) ∧ 0 ≤ n.2 ∧ n.2 ≤ 100000) (i : Nat) : 0 ≤ cP P i ∧ cP P i ≤ 100000 := by
  unfold cP
  have key : ∀ (l : List (Int × Int)) (c : Nat → Int), (∀ n ∈ l, n ∈ P) → (∀ i, 0 ≤ c i ∧ c i ≤ 100000) → ∀ i, 0 ≤ (l.foldl (fun c n => put1 c n.1.toNat n.2) c) i ∧ (l.foldl (fun c n => put1 c n.1.toNat n.2) c) i ≤ 100000 := by
    intro l
    induction l with
    | nil => intro c _ hc i; exact hc i
    | cons a l ih =>
      intro c hl hc i
      refine ih _ (fun n hn => hl n (by simp [hn])) (fun j => ?_) i
      show 0 ≤ (if j = a.1.toNat then a.2 else c j) ∧ (if j = a.1.toNat then a.2 else c j) ≤ 100000
      split
      · exact (h a (hl a (by simp))).2
      · exact hc j
  exact key P _ (fun _ h => h) (fun _ => by simp) i

set_option maxRecDepth 100000 in
set_option maxHeartbeats 4000000 in
theorem least_any {ns : List Int} {es : List Ed} {vn ve pv : Value} {P : List (Int × Int)} {w : World} (h : GrAt w vn ve ns es) (hok : graphOk ns es = true) (hpv : SlAt ac 2 w pv P) (hP : NdOk P) :
    Calls Tryz.prog 58 #[grV vn ve, pv] w fun e w' => (∃ B, e = .returned (.map (some B)) ∧ w.heap.size ≤ B ∧ HasE w' B 20000 (tgt es (cP P) P) (fun e => cP P e.2.1.toNat)) ∧ Below w.heap.size w w' := by
  obtain ⟨ea, eca, rfl, hel, _, hea⟩ := h.e.eds
  obtain ⟨na, nca, rfl, _⟩ := h.n
  obtain ⟨pa, pca, rfl, hpl, _, hpa⟩ := hpv.ads
  have Hea := hidIn hea
  have Hpa := hidIn hpa
  have HBd := hidIn (graphOk_bd hok)
  have HPos := hidIn (graphOk_pos hok)
  have HND := hidIn hP
  have h384 := HBd.out.2.2
  have h25 := hP.1
  clear h hea hpa hpv hok hP
  have hz := zeroI25
  have hmm := @run_makeMap Tryz.prog
  obtain ⟨W0, hW0⟩ : ∃ W0, (w.alloc (.cells #[.slice na ns.length nca, .slice ea es.length eca] 53)).alloc (.cells (rcl fun _ => 0).toArray 86) = W0 := ⟨_, rfl⟩
  have HM0 : Hid (LeM w W0 (.slice na ns.length nca) (.slice ea es.length eca) (cP [])) := hidIn (by
    rw [← hW0]
    refine ⟨?_, ?_, by go_grown⟩
    · rw [Below.heap_alloc _ _ _ (by simp)]
      exact heap_alloc_last w _
    · have := arr_new (w.alloc (.cells #[.slice na ns.length nca, .slice ea es.length eca] 53)) 86 (rcl fun _ => 0)
      rw [World.size_alloc] at this
      exact this)
  have HW := hidIn hW0
  clear hW0
  go_enter Tryz.func58, Tryz.ntmps58
  go_upto_region 2 with fail
  rw [HW.out]
  clear HW hz
  go_wp2_with fail
  go_loopw [15] (fun i wr => ∃ k : Nat, k ≤ P.length ∧ i = .int .i64 k ∧ Hid (LeM w wr (.slice na ns.length nca) (.slice ea es.length eca) (cP (P.take k)))) (fun i _ => P.length - (intOf i).toNat)
  case atStart => exact ⟨0, Nat.zero_le _, rfl, HM0⟩
  case round =>
    clear HM0
    obtain ⟨k, hk, rfl, HR⟩ := hrel
    by_cases hlt : k < P.length
    · obtain ⟨bk, o, rfl, hbk, hcell⟩ := Hpa.out (by omega)
      obtain ⟨⟨x, y⟩, hx⟩ : ∃ z, P[k]? = some z := ⟨P[k], List.getElem?_eq_getElem hlt⟩
      obtain ⟨q0, q1⟩ := hcell k _ hx
      have c0 := (HR.out.b.cell (p := ⟨bk, o + k * 2, none⟩) hbk).trans q0
      have c1 := (HR.out.b.cell (p := ⟨bk, o + k * 2 + 1, none⟩) hbk).trans q1
      simp only at c0 c1
      have hki : (k : Int) < (P.length : Int) := by omega
      have hnd := (HND.out.2 _ (List.mem_of_getElem? hx)).1
      simp only at hnd
      have HT : Hid (cP (P.take (k + 1)) = put1 (cP (P.take k)) x.toNat y) := hidIn (by rw [take_snoc hx, cP_snoc])
      obtain ⟨W1, hW1⟩ : ∃ W1, wr.alloc (.cells #[.int .i64 x, .int .i64 y] 75) = W1 := ⟨_, rfl⟩
      have bA : Below wr.heap.size wr W1 := by rw [← hW1]; exact (Below.refl _ wr).alloc (Nat.le_refl _) _
      have hX : W1.heap[wr.heap.size]? = some (.cells #[.int .i64 x, .int .i64 y] 75) := by rw [← hW1]; exact heap_alloc_last wr _
      have hM1 := HR.out.keep bA
      have x0 := cell_of_row _ _ 0 _ _ _ hX
      have x1 := cell_of_row _ _ 1 _ _ _ hX
      simp at x0 x1
      obtain ⟨i, rfl⟩ : ∃ i : Nat, x = (i : Int) := ⟨x.toNat, by omega⟩
      have hi : i < 25 := by omega
      have hii : (i : Int) < 25 := by omega
      have mc := hM1.k.cell i
      rw [rcl_get _ hi] at mc
      have mf := hM1.k.frozen i
      rw [Int.toNat_natCast] at HT
      have HM2 := hidIn (hM1.put hi y)
      have HW := hidIn hW1
      clear hcell q0 q1 hx hM1 bA hX hW1 HR
      go_upto_region 5 with fail
      rw [HW.out]
      clear HW c0 c1
      generalize wr.heap.size = bx at *
      go_wp2_with fail
      go_roundw
      case rel => exact ⟨k + 1, by omega, by go_num, hidIn (by rw [HT.out]; exact HM2.out)⟩
      case measure => simp [intOf]; omega
    · have hki : ¬ ((k : Int) < (P.length : Int)) := by omega
      have hM := HR.out
      rw [List.take_of_length_le (by omega)] at hM
      obtain ⟨B, hB⟩ : ∃ B, wr.heap.size = B := ⟨_, rfl⟩
      have hBl : w.heap.size + 1 < B := by rw [← hB]; exact hM.k.lt
      obtain ⟨W2, hW2⟩ : ∃ W2, wr.alloc (.map #[] 0) = W2 := ⟨_, rfl⟩
      have HM2 : Hid (LeM w W2 (.slice na ns.length nca) (.slice ea es.length eca) (cP P)) := hidIn (by rw [← hW2]; exact hM.keep ((Below.refl _ wr).alloc (Nat.le_refl _) _))
      have HH2 : Hid (HasE W2 B 0 (tgt es (cP P) []) (fun e => cP P e.2.1.toNat)) := hidIn (by
        rw [← hW2, ← hB]
        exact (hasE_new wr _).congr (fun e => by simp [tgt]))
      have HW := hidIn hW2
      have Hcb := hidIn (fun i => cP_bd HND.out.2 i)
      obtain ⟨c, hc⟩ : ∃ c, cP P = c := ⟨_, rfl⟩
      rw [hc] at HM2 HH2 Hcb
      have Hc := hidIn hc
      clear hM HR hW2 hc hlt
      go_upto_region 8 with fail
      rw [HW.out]
      clear HW hmm hki
      clear hB
      go_wp2_with fail
      go_loopw [28] (fun i wr => ∃ k : Nat, k ≤ P.length ∧ i = .int .i64 k ∧ Hid (LeM w wr (.slice na ns.length nca) (.slice ea es.length eca) c ∧ HasE wr B (k * 400) (tgt es c (P.take k)) (fun e => c e.2.1.toNat))) (fun i _ => P.length - (intOf i).toNat)
      case atStart => exact ⟨0, Nat.zero_le _, rfl, hidIn ⟨HM2.out, by simpa using HH2.out⟩⟩
      case round =>
        clear HM2 HH2
        obtain ⟨k, hk, rfl, HR⟩ := hrel
        obtain ⟨hM, hH⟩ := HR.out
        clear HR
        by_cases hlt : k < P.length
        · obtain ⟨bk, o, rfl, hbk, hcell⟩ := Hpa.out (by omega)
          obtain ⟨⟨x, y⟩, hx⟩ : ∃ z, P[k]? = some z := ⟨P[k], List.getElem?_eq_getElem hlt⟩
          obtain ⟨q0, q1⟩ := hcell k _ hx
          have c0 := (hM.b.cell (p := ⟨bk, o + k * 2, none⟩) hbk).trans q0
          have c1 := (hM.b.cell (p := ⟨bk, o + k * 2 + 1, none⟩) hbk).trans q1
          simp only at c0 c1
          have hki : (k : Int) < (P.length : Int) := by omega
          have hnd := HND.out.2 _ (List.mem_of_getElem? hx)
          simp only at hnd
          have HT : Hid (P.take (k + 1) = P.take k ++ [(x, y)]) := hidIn (take_snoc hx)
          obtain ⟨W3, hW3⟩ : ∃ W3, wr.alloc (.cells #[.int .i64 x, .int .i64 y] 75) = W3 := ⟨_, rfl⟩
          have bA : Below wr.heap.size wr W3 := by rw [← hW3]; exact (Below.refl _ wr).alloc (Nat.le_refl _) _
          have hX : W3.heap[wr.heap.size]? = some (.cells #[.int .i64 x, .int .i64 y] 75) := by rw [← hW3]; exact heap_alloc_last wr _
          have hM3 := hM.keep bA
          have hH3 := hH.keep (T := fun _ => False) (Fr.of_below bA) (fun h => h)
          have hBx : B < wr.heap.size := hH.lt
          have g1 : W3.cell? ⟨w.heap.size, 1, none⟩ = some (.slice ea es.length eca) := cell_of_row _ _ 1 _ _ _ hM3.g
          have HM3 := hidIn hM3
          have HH3 := hidIn hH3
          have HX := hidIn hX
          have HW := hidIn hW3
          clear hcell q0 q1 hx hM3 hH3 hM hH bA hX hW3
          go_upto_region 11 with fail
          rw [HW.out]
          clear HW c0 c1
          generalize wr.heap.size = bx at *
          go_wp2_with fail
          clear g1
          go_loopw [35] (fun i wr => ∃ j : Nat, j ≤ es.length ∧ i = .int .i64 j ∧ Hid (LeM w wr (.slice na ns.length nca) (.slice ea es.length eca) c ∧ HasE wr B (k * 400 + j) (fun e => tgt es c (P.take k) e || (decide (e ∈ es.take j) && (decide (e.1 = x) && decide (y + e.2.2 = c e.2.1.toNat)))) (fun e => c e.2.1.toNat) ∧ wr.heap[bx]? = some (.cells #[.int .i64 x, .int .i64 y] 75))) (fun i _ => es.length - (intOf i).toNat)
          case atStart => exact ⟨0, Nat.zero_le _, rfl, hidIn ⟨HM3.out, HH3.out.congr (fun e => by simp), HX.out⟩⟩
          case round =>
            clear HM3 HH3 HX
            obtain ⟨j, hj, rfl, HR⟩ := hrel
            obtain ⟨hM, hH, hX⟩ := HR.out
            clear HR
            by_cases hlt2 : j < es.length
            · obtain ⟨eb, eo, rfl, heb, hecell⟩ := Hea.out (by omega)
              obtain ⟨⟨a, b, d⟩, hz⟩ : ∃ z, es[j]? = some z := ⟨es[j], List.getElem?_eq_getElem hlt2⟩
              obtain ⟨q0, q1, q2⟩ := hecell j _ hz
              have c0 := (hM.b.cell (p := ⟨eb, eo + j * 3, none⟩) heb).trans q0
              have c1 := (hM.b.cell (p := ⟨eb, eo + j * 3 + 1, none⟩) heb).trans q1
              have c2 := (hM.b.cell (p := ⟨eb, eo + j * 3 + 2, none⟩) heb).trans q2
              simp only at c0 c1 c2
              have hji : (j : Int) < (es.length : Int) := by omega
              have hmem := List.mem_of_getElem? hz
              have hends := HBd.out.2.1 _ hmem
              have har := HBd.out.1 _ hends.1
              have hbr := HBd.out.1 _ hends.2
              have hdr := HPos.out _ hmem
              simp only at hends har hbr hdr
              have HTj : Hid (∀ e, (decide (e ∈ es.take (j + 1)) = (decide (e ∈ es.take j) || decide (e = (a, b, d))))) := hidIn fun e => by rw [take_snoc hz]; simp
              obtain ⟨W4, hW4⟩ : ∃ W4, wr.alloc (.cells #[.int .i64 a, .int .i64 b, .int .i64 d] 97) = W4 := ⟨_, rfl⟩
              have bA : Below wr.heap.size wr W4 := by rw [← hW4]; exact (Below.refl _ wr).alloc (Nat.le_refl _) _
              have hE : W4.heap[wr.heap.size]? = some (.cells #[.int .i64 a, .int .i64 b, .int .i64 d] 97) := by rw [← hW4]; exact heap_alloc_last wr _
              have hM4 := hM.keep bA
              have hH4 := hH.keep (T := fun _ => False) (Fr.of_below bA) (fun h => h)
              have hX4 := (bA.block _ (block_lt hX)).trans hX
              have hBe : B < wr.heap.size := hH.lt
              have l0 := cell_of_row _ _ 0 _ _ _ hE
              have l1 := cell_of_row _ _ 1 _ _ _ hE
              have l2 := cell_of_row _ _ 2 _ _ _ hE
              have x0 := cell_of_row _ _ 0 _ _ _ hX4
              have x1 := cell_of_row _ _ 1 _ _ _ hX4
              simp at l0 l1 l2 x0 x1
              obtain ⟨i, rfl⟩ : ∃ i : Nat, b = (i : Int) := ⟨b.toNat, by omega⟩
              have hi : i < 25 := by omega
              have hii : (i : Int) < 25 := by omega
              have mc := hM4.k.cell i
              rw [rcl_get _ hi] at mc
              have hwr : IntKind.i64.wrap (y + d) = y + d := by rw [IntKind.wrap_i64]; omega
              have hwfE : wfE (a, (i : Int), d) := ⟨wf_small (by omega) (by show a ≤ _; omega), wf_small (by show 0 ≤ (i : Int); omega) (by show (i : Int) ≤ _; omega), wf_small (by show 0 ≤ d; omega) (by show d ≤ _; omega)⟩
              have HWf := hidIn hwfE
              have HM4 := hidIn hM4
              have HH4 := hidIn hH4
              have HX4 := hidIn hX4
              have HE4 := hidIn hE
              have Hmem := hidIn hmem
              have HW := hidIn hW4
              clear hecell q0 q1 q2 hz hmem hM hH hX bA hE hW4 hM4 hH4 hX4 hends hwfE
              go_upto_region 14 with fail
              rw [HW.out]
              clear HW c0 c1 c2
              generalize wr.heap.size = be at *
              by_cases e1 : a = x
              · have t1 : (a == x) = true := by simpa using e1
                by_cases e2 : y + d = c i
                · have t2 : (y + d == c i) = true := by simpa using e2
                  have HS : Hid (∀ e, (decide (e = (a, (i : Int), d)) || (tgt es c (P.take k) e || (decide (e ∈ es.take j) && (decide (e.1 = x) && decide (y + e.2.2 = c e.2.1.toNat))))) = (tgt es c (P.take k) e || (decide (e ∈ es.take (j + 1)) && (decide (e.1 = x) && decide (y + e.2.2 = c e.2.1.toNat))))) := hidIn fun e => by
                    rw [HTj.out e]
                    by_cases he : e = (a, (i : Int), d)
                    · subst he
                      simp [e1, e2]
                    · simp [he]
                  clear e1 e2
                  go_quiet (fail)
                  clear l0 l1 l2 x0 x1 mc t1 t2 hwr
                  generalize hV : World.drewN W4 _ = V
                  have HM5 : Hid (LeM w V (.slice na ns.length nca) (.slice (some ⟨eb, eo, none⟩) es.length eca) c) := hidIn (by rw [← hV]; exact HM4.out.drewN _)
                  have HH5 : Hid (HasE V.drew B (k * 400 + j) (fun e => tgt es c (P.take k) e || (decide (e ∈ es.take j) && (decide (e.1 = x) && decide (y + e.2.2 = c e.2.1.toNat)))) (fun e => c e.2.1.toNat)) := hidIn (by rw [← hV]; exact HH4.out.keep (T := fun _ => False) (((Fr.refl _ _).drewN _).drew) (fun h => h))
                  have HX5 : Hid (V.heap[bx]? = some (.cells #[.int .i64 x, .int .i64 y] 75)) := hidIn (by rw [← hV]; exact HX4.out)
                  have HE5 : Hid (V.heap[be]? = some (.cells #[.int .i64 a, .int .i64 (i : Int), .int .i64 d] 97)) := hidIn (by rw [← hV]; exact HE4.out)
                  clear hV HM4 HH4 HX4 HE4
                  go_upto_region 15 with fail
                  have hS0 : V.drew.heap[be]? = some (.cells #[.int .i64 a, .int .i64 (i : Int), .int .i64 d] 97) ∧ Arr V.drew (w.heap.size + 1) 86 (rcl c) := ⟨HE5.out, HM5.out.k⟩
                  refine wp_region_held_drew (S := fun wx => wx.heap[be]? = some (.cells #[.int .i64 a, .int .i64 (i : Int), .int .i64 d] 97) ∧ Arr wx (w.heap.size + 1) 86 (rcl c)) (by kernel_rfl) hS0 (fun hHeld => ?_)
                  refine wpAnyH_take (i := 0) (v := ?_) rfl (by kernel_rfl) (by kernel_rfl) (by kernel_rfl) (fun _ _ _ h => h) (Or.inl ⟨by rfl, ?_⟩) (by assumption) ?_
                  rotate_left
                  · intro wq hSw
                    clear hSw
                    go_simp
                    try (with_reducible rfl)
                  refine wpAnyH_take (i := 1) (v := ?_) rfl (by kernel_rfl) (by kernel_rfl) (by kernel_rfl) (fun _ _ _ h => h) (Or.inl ⟨by rfl, ?_⟩) (by assumption) ?_
                  rotate_left
                  · intro wq hSw
                    have z0 := cell_of_row _ _ 0 _ _ _ hSw.1
                    have z1 := cell_of_row _ _ 1 _ _ _ hSw.1
                    have z2 := cell_of_row _ _ 2 _ _ _ hSw.1
                    simp at z0 z1 z2
                    clear hSw
                    go_simp
                    try (with_reducible rfl)
                  refine wpAnyH_take (i := 2) (v := ?_) rfl (by kernel_rfl) (by kernel_rfl) (by kernel_rfl) (fun _ _ _ h => h) (Or.inl ⟨by rfl, ?_⟩) (by assumption) ?_
                  rotate_left
                  · intro wq hSw
                    clear hSw
                    go_simp
                    try (with_reducible rfl)
                  refine wpAnyH_take (i := 3) (v := ?_) rfl (by kernel_rfl) (by kernel_rfl) (by kernel_rfl) (fun _ _ _ h => h) (Or.inl ⟨by rfl, ?_⟩) (by assumption) ?_
                  rotate_left
                  · intro wq hSw
                    have z0 := cell_of_row _ _ 0 _ _ _ hSw.1
                    have z1 := cell_of_row _ _ 1 _ _ _ hSw.1
                    have z2 := cell_of_row _ _ 2 _ _ _ hSw.1
                    simp at z0 z1 z2
                    clear hSw
                    go_simp
                    try (with_reducible rfl)
                  refine wpAnyH_take (i := 4) (v := ?_) rfl (by kernel_rfl) (by kernel_rfl) (by kernel_rfl) (fun _ _ _ h => h) (Or.inl ⟨by rfl, ?_⟩) (by assumption) ?_
                  rotate_left
                  · intro wq hSw
                    clear hSw
                    go_simp
                    try (with_reducible rfl)
                  refine wpAnyH_take (i := 5) (v := ?_) rfl (by kernel_rfl) (by kernel_rfl) (by kernel_rfl) (fun _ _ _ h => h) (Or.inl ⟨by rfl, ?_⟩) (by assumption) ?_
                  rotate_left
                  · intro wq hSw
                    have z3 := hSw.2.cell i
                    rw [rcl_get _ hi] at z3
                    clear hSw
                    go_simp
                    try (with_reducible rfl)
                  obtain ⟨w6, hrun, hH6, hF6⟩ := HH5.out.put (x := (a, (i : Int), d)) (by unfold maxLen; omega) HWf.out (wf_small (Hcb.out _).1 (by have := (Hcb.out ((a, (i : Int), d) : Ed).2.1.toNat).2; omega))
                  have hrun' : (Instr.mapUpdate 124 (.map (some B)) (.agg #[.int .i64 a, .int .i64 (i : Int), .int .i64 d]) (.int .i64 (c i))).run Tryz.prog V.drew = .ok () w6 := by simpa using hrun
                  have hS6 : w6.heap[be]? = some (.cells #[.int .i64 a, .int .i64 (i : Int), .int .i64 d] 97) ∧ Arr w6 (w.heap.size + 1) 86 (rcl c) := ⟨(hF6.block _ (block_lt hS0.1) (by omega)).trans hS0.1, (hF6.block _ hS0.2.lt (by omega)).trans hS0.2⟩
                  have HM6 : Hid (LeM w w6 (.slice na ns.length nca) (.slice (some ⟨eb, eo, none⟩) es.length eca) c) := hidIn (LeM.fr (wr := V.drew) ⟨HM5.out.g, HM5.out.k, HM5.out.b.drew⟩ hBl hF6)
                  have HX6 : Hid (w6.heap[bx]? = some (.cells #[.int .i64 x, .int .i64 y] 75)) := hidIn ((hF6.block bx (block_lt HX5.out) (by omega)).trans HX5.out)
                  have HH6 := hidIn (hH6.congr HS.out)
                  refine wpAnyH_ready (rs := [6]) (by kernel_rfl) (by simp) ?_
                  refine AllReadyH.cons rfl (fun K hK => ?_) AllReadyH.nil
                  refine step_put rfl (.tmp 56) (.tmp 57) (.tmp 61) 124 rfl (by kernel_rfl) (by kernel_rfl) (by kernel_rfl) hrun' ?_
                  refine hK.out _ _ hS6 (fun _ => ?_)
                  clear hK K hrun hrun' hH6 hF6 hS6 hS0 hHeld HH5 HM5 HX5 HE5
                  refine wpAnyH_done (by kernel_rfl) ?_ _
                  go_wp2_with fail
                  go_roundw
                  case rel => exact ⟨j + 1, by omega, by go_num, hidIn ⟨HM6.out, HH6.out, HX6.out⟩⟩
                  case measure => simp [intOf]; omega
                · have t2 : (y + d == c i) = false := by simpa using e2
                  have HS : Hid (∀ e, (tgt es c (P.take k) e || (decide (e ∈ es.take j) && (decide (e.1 = x) && decide (y + e.2.2 = c e.2.1.toNat)))) = (tgt es c (P.take k) e || (decide (e ∈ es.take (j + 1)) && (decide (e.1 = x) && decide (y + e.2.2 = c e.2.1.toNat))))) := hidIn fun e => by
                    rw [HTj.out e]
                    by_cases he : e = (a, (i : Int), d)
                    · subst he
                      simp [e2]
                    · simp [he]
                  clear e1 e2
                  go_quiet (fail)
                  clear l0 l1 l2 x0 x1 mc hwr
                  generalize hV : World.drewN W4 _ = V
                  have HM5 : Hid (LeM w V (.slice na ns.length nca) (.slice (some ⟨eb, eo, none⟩) es.length eca) c) := hidIn (by rw [← hV]; exact HM4.out.drewN _)
                  have HH5 : Hid (HasE V B (k * 400 + (j + 1)) (fun e => tgt es c (P.take k) e || (decide (e ∈ es.take (j + 1)) && (decide (e.1 = x) && decide (y + e.2.2 = c e.2.1.toNat)))) (fun e => c e.2.1.toNat)) := hidIn (by rw [← hV]; exact ((HH4.out.keep (T := fun _ => False) ((Fr.refl _ _).drewN _) (fun h => h)).congr HS.out).mono (by omega))
                  have HX5 : Hid (V.heap[bx]? = some (.cells #[.int .i64 x, .int .i64 y] 75)) := hidIn (by rw [← hV]; exact HX4.out)
                  clear hV HM4 HH4 HX4 HE4
                  go_wp2_with fail
                  go_roundw
                  case rel => exact ⟨j + 1, by omega, by go_num, hidIn ⟨HM5.out, HH5.out, HX5.out⟩⟩
                  case measure => simp [intOf]; omega
              · have t1 : (a == x) = false := by simpa using e1
                have HS : Hid (∀ e, (tgt es c (P.take k) e || (decide (e ∈ es.take j) && (decide (e.1 = x) && decide (y + e.2.2 = c e.2.1.toNat)))) = (tgt es c (P.take k) e || (decide (e ∈ es.take (j + 1)) && (decide (e.1 = x) && decide (y + e.2.2 = c e.2.1.toNat))))) := hidIn fun e => by
                  rw [HTj.out e]
                  by_cases he : e = (a, (i : Int), d)
                  · subst he
                    simp [e1]
                  · simp [he]
                clear e1
                go_quiet (fail)
                clear l0 l1 l2 x0 x1 mc hwr
                generalize hV : World.drewN W4 _ = V
                have HM5 : Hid (LeM w V (.slice na ns.length nca) (.slice (some ⟨eb, eo, none⟩) es.length eca) c) := hidIn (by rw [← hV]; exact HM4.out.drewN _)
                have HH5 : Hid (HasE V B (k * 400 + (j + 1)) (fun e => tgt es c (P.take k) e || (decide (e ∈ es.take (j + 1)) && (decide (e.1 = x) && decide (y + e.2.2 = c e.2.1.toNat)))) (fun e => c e.2.1.toNat)) := hidIn (by rw [← hV]; exact ((HH4.out.keep (T := fun _ => False) ((Fr.refl _ _).drewN _) (fun h => h)).congr HS.out).mono (by omega))
                have HX5 : Hid (V.heap[bx]? = some (.cells #[.int .i64 x, .int .i64 y] 75)) := hidIn (by rw [← hV]; exact HX4.out)
                clear hV HM4 HH4 HX4 HE4
                go_wp2_with fail
                go_roundw
                case rel => exact ⟨j + 1, by omega, by go_num, hidIn ⟨HM5.out, HH5.out, HX5.out⟩⟩
                case measure => simp [intOf]; omega
            · have hji : ¬ ((j : Int) < (es.length : Int)) := by omega
              have HMf := hidIn hM
              have HHf : Hid (HasE wr B ((k + 1) * 400) (tgt es c (P.take (k + 1))) (fun e => c e.2.1.toNat)) := hidIn (by
                rw [HT.out]
                have hje : es.take j = es := List.take_of_length_le (by omega)
                rw [hje] at hH
                exact (hH.congr (fun e => by rw [tgt_step])).mono (by omega))
              clear hM hH hX
              go_wp2_with fail
              go_roundw
              case rel => exact ⟨k + 1, by omega, by go_num, hidIn ⟨HMf.out, HHf.out⟩⟩
              case measure => simp [intOf]; omega
        · have hki : ¬ ((k : Int) < (P.length : Int)) := by omega
          rw [List.take_of_length_le (by omega)] at hH
          have HHf := hidIn (hH.mono (show k * 400 ≤ 20000 by omega))
          have HBf := hidIn hM.b
          clear hM hH
          go_wp2_with fail
          go_ret
          exact ⟨⟨B, rfl, by omega, by rw [Hc.out]; exact HHf.out⟩, HBf.out⟩
end Go.Proofs.YtgeoghhajjlofaaGreatDoor
