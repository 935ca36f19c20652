/- graph.Same, the document's Same. -/
import Derived.Test.YtpdpdhnllmlfdaaGD
namespace Go.Proofs.Ytpdpdhnllmlfdaa
open Go.RowKit

def sameG (ns ms : List Int) (es fs : List Ed) : Bool := decide (ns = ms) && decide (es = fs)
set_option maxRecDepth 100000 in
set_option maxHeartbeats 1000000 in
theorem rsame_any {ns ms : List Int} {es fs : List Ed} {vn ve un ue : Value} {w : World} (h : GrAt w vn ve ns es) (k : GrAt w un ue ms fs) :
    Calls Try.prog 20 #[grV vn ve, grV un ue] w fun e w' => e = .returned (.bool (sameG ns ms es fs)) ∧ Below w.heap.size w w' := by
  obtain ⟨na, nca, rfl, hnl, _, hna⟩ := h.n.ints
  obtain ⟨ma, mca, rfl, hml, _, hma⟩ := k.n.ints
  obtain ⟨ea, eca, rfl, hel, _, hea⟩ := h.e.eds
  obtain ⟨fa, fca, rfl, hfl, _, hfa⟩ := k.e.eds
  have Hna := hidIn hna
  have Hma := hidIn hma
  have Hea := hidIn hea
  have Hfa := hidIn hfa
  clear hna hma hea hfa h k
  by_cases hlen : ns.length = ms.length
  · by_cases hlen2 : es.length = fs.length
    · obtain ⟨m, hm⟩ : ∃ m, ms.length = m := ⟨_, rfl⟩
      obtain ⟨p, hp⟩ : ∃ p, fs.length = p := ⟨_, rfl⟩
      have hn : ns.length = m := by rw [hlen, hm]
      have hq : es.length = p := by rw [hlen2, hp]
      rw [hm] at hml Hma ⊢
      rw [hn] at hnl Hna ⊢
      rw [hp] at hfl Hfa ⊢
      rw [hq] at hel Hea ⊢
      have Hm := hidIn hm
      have Hn := hidIn hn
      have Hp := hidIn hp
      have Hq := hidIn hq
      clear hm hn hp hq hlen hlen2
      obtain ⟨W0, hW0⟩ : ∃ W0, (w.alloc (.cells #[.slice na m nca, .slice ea p eca] 49)).alloc (.cells #[.slice ma m mca, .slice fa p fca] 49) = W0 := ⟨_, rfl⟩
      have hb0 : Below w.heap.size w W0 := by rw [← hW0]; go_grown
      have hs0 : W0.heap.size = w.heap.size + 2 := by rw [← hW0]; simp
      have k0 : W0.heap[w.heap.size]? = some (.cells #[.slice na m nca, .slice ea p eca] 49) := by
        rw [← hW0, Below.heap_alloc _ _ _ (by simp)]; exact heap_alloc_last w _
      have k1 : W0.heap[w.heap.size + 1]? = some (.cells #[.slice ma m mca, .slice fa p fca] 49) := by
        have := heap_alloc_last (w.alloc (.cells #[.slice na m nca, .slice ea p eca] 49)) (.cells #[.slice ma m mca, .slice fa p fca] 49)
        rw [World.size_alloc, hW0] at this
        exact this
      have HW := hidIn hW0
      have HF : Hid (∀ wr, Below W0.heap.size W0 wr → wr.cell? ⟨w.heap.size, 0, none⟩ = some (.slice na m nca) ∧ wr.cell? ⟨w.heap.size, 1, none⟩ = some (.slice ea p eca) ∧ wr.cell? ⟨w.heap.size + 1, 0, none⟩ = some (.slice ma m mca) ∧ wr.cell? ⟨w.heap.size + 1, 1, none⟩ = some (.slice fa p fca) ∧ Below w.heap.size w wr) := hidIn fun wr hb => by
        have j0 := (hb.block _ (by omega)).trans k0
        have j1 := (hb.block _ (by omega)).trans k1
        exact ⟨cell_of_row _ _ 0 _ _ _ j0, cell_of_row _ _ 1 _ _ _ j0, cell_of_row _ _ 0 _ _ _ j1, cell_of_row _ _ 1 _ _ _ j1, hb0.trans (hb.mono hb0.size)⟩
      clear hW0 k0 k1 hb0 hs0
      go_enter Try.func20, Try.ntmps20
      go_upto_region 1 with fail
      rw [HW.out]
      clear HW
      obtain ⟨f0, f1, f2, f3, _⟩ := HF.out W0 (Below.refl _ _)
      go_wp2_with fail
      go_loopw [5] (fun i wr => ∃ k : Nat, k ≤ m ∧ i = .int .i64 k ∧ Hid (Below W0.heap.size W0 wr ∧ decide (ns = ms) = decide (ns.drop k = ms.drop k))) (fun i _ => m - (intOf i).toNat)
      case atStart => exact ⟨0, Nat.zero_le _, rfl, hidIn ⟨Below.refl _ _, by rw [List.drop_zero, List.drop_zero]⟩⟩
      case round =>
        obtain ⟨k, hk, rfl, HR⟩ := hrel
        obtain ⟨hbel, hrest⟩ := HR.out
        clear f0 f1 f2 f3
        obtain ⟨f0, f1, f2, f3, hbw⟩ := HF.out wr hbel
        have HB := hidIn hbel
        have HBW := hidIn hbw
        have HE := hidIn hrest
        clear HR hbel hrest hbw
        by_cases hlt : k < m
        · obtain ⟨b1, o1, rfl, hb1, c1⟩ := Hna.out (by omega)
          obtain ⟨b2, o2, rfl, hb2, c2⟩ := Hma.out (by omega)
          obtain ⟨x, hx⟩ : ∃ x, ns[k]? = some x := ⟨ns[k]'(by have := Hn.out; omega), List.getElem?_eq_getElem _⟩
          obtain ⟨y, hy⟩ : ∃ y, ms[k]? = some y := ⟨ms[k]'(by have := Hm.out; omega), List.getElem?_eq_getElem _⟩
          have HN : Hid (decide (ns = ms) = (decide (x = y) && decide (ns.drop (k + 1) = ms.drop (k + 1)))) := hidIn (by rw [HE.out, dropEq hx hy])
          have x0 := (HBW.out.cell (p := ⟨b1, o1 + k, none⟩) hb1).trans (c1 k x hx)
          have y0 := (HBW.out.cell (p := ⟨b2, o2 + k, none⟩) hb2).trans (c2 k y hy)
          have hki : (k : Int) < (m : Int) := by omega
          clear c1 c2 hx hy
          by_cases hxy : x = y
          · have hq : (x == y) = true := by simpa using hxy
            have Hxy := hidIn hxy
            clear hxy
            go_wp2_with fail
            go_quiet (fail)
            go_wp2_with fail
            go_roundw
            case rel => exact ⟨k + 1, by omega, by go_num, hidIn ⟨below_drewN HB.out _, by rw [HN.out]; simp [Hxy.out]⟩⟩
            case measure => simp [intOf]; omega
          · have hq : (x == y) = false := by simpa using hxy
            have Hxy := hidIn hxy
            clear hxy
            go_wp2_with fail
            go_quiet (fail)
            go_wp2_with fail
            go_returns
            exact ⟨by unfold sameG; rw [HN.out]; simp [Hxy.out], below_drewN HBW.out _⟩
        · have hki : ¬ ((k : Int) < (m : Int)) := by omega
          have HT : Hid (decide (ns = ms) = true) := hidIn (by rw [HE.out, List.drop_eq_nil_of_le (by have := Hn.out; omega), List.drop_eq_nil_of_le (by have := Hm.out; omega)]; rfl)
          clear HE
          generalize wr = wo at *
          go_wp2_with fail
          go_loopw [6] (fun i wr => ∃ j : Nat, j ≤ p ∧ i = .int .i64 j ∧ Hid (Below W0.heap.size W0 wr ∧ decide (es = fs) = decide (es.drop j = fs.drop j))) (fun i _ => p - (intOf i).toNat)
          case atStart => exact ⟨0, Nat.zero_le _, rfl, hidIn ⟨HB.out, by rw [List.drop_zero, List.drop_zero]⟩⟩
          case round =>
            obtain ⟨j, hj, rfl, HR⟩ := hrel
            obtain ⟨hbel, hrest⟩ := HR.out
            clear f0 f1 f2 f3
            obtain ⟨f0, f1, f2, f3, hbw⟩ := HF.out wr hbel
            have HB2 := hidIn hbel
            have HBW2 := hidIn hbw
            have HE := hidIn hrest
            clear HR hbel hrest hbw
            by_cases hlt2 : j < p
            · obtain ⟨b1, o1, rfl, hb1, c1⟩ := Hea.out (by omega)
              obtain ⟨b2, o2, rfl, hb2, c2⟩ := Hfa.out (by omega)
              obtain ⟨x, hx⟩ : ∃ x, es[j]? = some x := ⟨es[j]'(by have := Hq.out; omega), List.getElem?_eq_getElem _⟩
              obtain ⟨y, hy⟩ : ∃ y, fs[j]? = some y := ⟨fs[j]'(by have := Hp.out; omega), List.getElem?_eq_getElem _⟩
              have HN : Hid (decide (es = fs) = (decide (x = y) && decide (es.drop (j + 1) = fs.drop (j + 1)))) := hidIn (by rw [HE.out, dropEq hx hy])
              obtain ⟨p0, p1, p2⟩ := c1 j _ hx
              obtain ⟨q0, q1, q2⟩ := c2 j _ hy
              have x0 := (HBW2.out.cell (p := ⟨b1, o1 + j * 3, none⟩) hb1).trans p0
              have x1 := (HBW2.out.cell (p := ⟨b1, o1 + j * 3 + 1, none⟩) hb1).trans p1
              have x2 := (HBW2.out.cell (p := ⟨b1, o1 + j * 3 + 2, none⟩) hb1).trans p2
              have y0 := (HBW2.out.cell (p := ⟨b2, o2 + j * 3, none⟩) hb2).trans q0
              have y1 := (HBW2.out.cell (p := ⟨b2, o2 + j * 3 + 1, none⟩) hb2).trans q1
              have y2 := (HBW2.out.cell (p := ⟨b2, o2 + j * 3 + 2, none⟩) hb2).trans q2
              have hji : (j : Int) < (p : Int) := by omega
              clear c1 c2 hx hy p0 p1 p2 q0 q1 q2
              by_cases hxy : x = y
              · have hq : ∀ w, (Op.equalIn 10000 79 (.agg #[.int .i64 x.1, .int .i64 x.2.1, .int .i64 x.2.2]) (.agg #[.int .i64 y.1, .int .i64 y.2.1, .int .i64 y.2.2])).run Try.prog w = Result.ok true w := fun w => by rw [eq_edge]; simp [hxy]
                have Hxy := hidIn hxy
                clear hxy
                go_wp2_with fail
                go_quiet (fail)
                go_wp2_with fail
                go_roundw
                case rel => exact ⟨j + 1, by omega, by go_num, hidIn ⟨below_drewN HB2.out _, by rw [HN.out]; simp [Hxy.out]⟩⟩
                case measure => simp [intOf]; omega
              · have hq : ∀ w, (Op.equalIn 10000 79 (.agg #[.int .i64 x.1, .int .i64 x.2.1, .int .i64 x.2.2]) (.agg #[.int .i64 y.1, .int .i64 y.2.1, .int .i64 y.2.2])).run Try.prog w = Result.ok false w := fun w => by
                  rw [eq_edge]
                  congr 1
                  apply Bool.eq_false_iff.2
                  intro h
                  simp at h
                  exact hxy (by obtain ⟨x0, x1, x2⟩ := x; obtain ⟨y0, y1, y2⟩ := y; simp at h; obtain ⟨⟨rfl, rfl⟩, rfl⟩ := h; rfl)
                have Hxy := hidIn hxy
                clear hxy
                go_wp2_with fail
                go_quiet (fail)
                go_wp2_with fail
                go_returns
                exact ⟨by unfold sameG; rw [HN.out]; simp [Hxy.out], below_drewN HBW2.out _⟩
            · have hji : ¬ ((j : Int) < (p : Int)) := by omega
              have HT2 : Hid (decide (es = fs) = true) := hidIn (by rw [HE.out, List.drop_eq_nil_of_le (by have := Hq.out; omega), List.drop_eq_nil_of_le (by have := Hp.out; omega)]; rfl)
              go_wp2_with fail
              go_returns
              exact ⟨by unfold sameG; rw [HT.out, HT2.out]; rfl, HBW2.out⟩
    · have hl2 : ((es.length : Int) == (fs.length : Int)) = false := by
        apply Bool.eq_false_iff.2
        intro h
        simp at h
        exact hlen2 (by omega)
      have HT : Hid (sameG ns ms es fs = false) := hidIn (by unfold sameG; simp; intro _ h; exact hlen2 (by rw [h]))
      rw [hlen] at hnl Hna ⊢
      clear hlen hlen2
      generalize ms.length = n2 at *
      generalize es.length = n3 at *
      generalize fs.length = n4 at *
      go_enter Try.func20, Try.ntmps20
      go_wp2_with fail
      go_ret
      exact ⟨by rw [HT.out]; rfl, by go_grown⟩
  · have hl1 : ((ns.length : Int) == (ms.length : Int)) = false := by
      apply Bool.eq_false_iff.2
      intro h
      simp at h
      exact hlen (by omega)
    have HT : Hid (sameG ns ms es fs = false) := hidIn (by unfold sameG; simp; intro h; exact absurd (by rw [h]) hlen)
    clear hlen
    generalize ns.length = n1 at *
    generalize ms.length = n2 at *
    generalize es.length = n3 at *
    generalize fs.length = n4 at *
    go_enter Try.func20, Try.ntmps20
    go_wp2_with fail
    go_ret
    exact ⟨by rw [HT.out]; rfl, by go_grown⟩
end Go.Proofs.Ytpdpdhnllmlfdaa
