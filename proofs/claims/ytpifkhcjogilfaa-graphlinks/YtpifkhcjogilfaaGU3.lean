/- All records behind a row; the document's SameRecords. -/
import Derived.Test.YtpifkhcjogilfaaGU2
import Derived.Test.YtpifkhcjogilfaaGW0
namespace Go.Proofs.Ytpifkhcjogilfaa
open Go.RowKit

theorem append_allR {W : World} {base k : Nat} {u v : Value} {l m : List (Rc × Value)} (hr : W.ownsRow base 55 6 u k (fl rcc l)) (hv : SlAt rcc 6 W v m) (ho : ∀ x ∈ m, x.2.oneCell' = true) (hk : (k + m.length) * 56 ≤ 140737488355328) (hbase : base ≤ W.heap.size) (hnil : (∃ a n c, v = .slice (some a) n c) ∨ (v = .slice none 0 0 ∧ u = .slice none 0 0)) :
    ∃ v' w6, (Builtin.append_ #[41, 41] 41 #[u, v]).run Try.prog W = .ok v' w6 ∧ w6.ownsRow base 55 6 v' (k + m.length) (fl rcc (l ++ m)) ∧ Below base W w6 ∧ W.grownBy w6 u.ownBlock := by
  have hc : ∀ x : Rc × Value, (rcc x).length = 6 := fun _ => rfl
  have hu := Try.underlying41
  obtain ⟨i0, hi, hz0, hz1, hz2⟩ := info_parts infoRec
  obtain ⟨a, cap, rfl, hlen, hcap, hcell⟩ := hv
  by_cases hn : a = none
  · subst hn
    rcases hnil with ⟨a, n, c, h⟩ | ⟨h, rfl⟩
    · simp at h
    · simp at h
      obtain ⟨rfl, rfl⟩ := h
      have hk0 : k = 0 := by
        rcases hr.2 with ⟨_, h⟩ | ⟨_, _, _, h, _⟩
        · exact h
        · simp at h
      refine ⟨.slice none 0 0, W, ?_, by simpa using hr, Below.refl _ _, ⟨rfl, rfl, rfl, Nat.le_refl _, fun _ _ _ => rfl⟩⟩
      simp [Builtin.append_, go_sem, run_underlying hu W, run_sizeOf W hi]
  · obtain ⟨ad, rfl⟩ : ∃ ad, a = some ad := by cases a with | none => exact absurd rfl hn | some ad => exact ⟨ad, rfl⟩
    obtain ⟨v', w', hrun, r1, r2, _⟩ := run_append_own (P := Try.prog) W base 41 41 55 i0 _ 6 56 hu hi hz0 hz1 hz2 rfl (by decide) u k (fl rcc l) hr ad m.length cap (fl rcc m) (by rw [fl_length hc]) (fun j v hj => by
      obtain ⟨q, i, x, h1, h2, rfl, h4⟩ := fl_inv hc m j v hj
      have hp : 0 < m.length := by have := (List.getElem?_eq_some_iff.1 h1).1; omega
      obtain ⟨bk, o, h5, h6, h7⟩ := hcell hp
      cases h5
      rw [Addr.add_mid, ← Nat.add_assoc]
      exact h7 q x h1 i v h4) (fun v hv => by
      obtain ⟨j, hj, rfl⟩ := List.getElem_of_mem hv
      obtain ⟨q, i, x, h2, h3, _, h4⟩ := fl_inv hc m j _ (List.getElem?_eq_getElem hj)
      have h5 := List.mem_of_getElem? h4
      have h6 := ho x (List.mem_of_getElem? h2)
      generalize (fl rcc m)[j] = y at h5 ⊢
      simp only [rcc, List.mem_cons, List.not_mem_nil, or_false] at h5
      rcases h5 with rfl | rfl | rfl | rfl | rfl | rfl <;> first | rfl | exact h6) (by unfold maxLen; omega) hk hbase
    exact ⟨v', w', hrun, by rw [fl_append]; exact r1, (Below.refl _ W).grown r2 hbase (fun j e => (hr.lt j e).1), r2⟩
theorem two_new (w : World) (A B : Obj) : ((w.alloc A).alloc B).drew.heap[w.heap.size]? = some A ∧ ((w.alloc A).alloc B).drew.heap[w.heap.size + 1]? = some B := by
  refine ⟨?_, ?_⟩
  · show ((w.alloc A).alloc B).heap[w.heap.size]? = some A
    rw [Below.heap_alloc _ _ _ (by simp)]
    exact heap_alloc_last w A
  · show ((w.alloc A).alloc B).heap[w.heap.size + 1]? = some B
    have := heap_alloc_last (w.alloc A) B
    rw [World.size_alloc] at this
    exact this

set_option maxRecDepth 100000 in
set_option maxHeartbeats 2000000 in
theorem srecs_any {l : List (Rc × Value)} {v1 v2 : Value} {w : World} (h1 : RecsAt w v1 l) (h2 : RecsAt w v2 l) :
    Calls Try.prog 23 #[v1, v2] w fun e w' => e = .returned (.bool true) ∧ Below w.heap.size w w' := by
  obtain ⟨a1, cap1, rfl, hl, _, hat1⟩ := h1.r.recs
  obtain ⟨a2, cap2, rfl, _, _, hat2⟩ := h2.r.recs
  have H1 := hidIn hat1
  have H2 := hidIn hat2
  have HA := hidIn h1.a
  clear hat1 hat2 h1 h2
  go_enter Try.func23, Try.ntmps23
  go_wp2
  go_loopw [5] (fun i wr => ∃ k : Nat, k ≤ l.length ∧ i = .int .i64 k ∧ Hid (Below w.heap.size w wr)) (fun i _ => l.length - (intOf i).toNat)
  case atStart => exact ⟨0, Nat.zero_le _, rfl, hidIn (Below.refl _ _)⟩
  case round =>
    obtain ⟨k, hk, rfl, HB⟩ := hrel
    by_cases hlt : k < l.length
    · obtain ⟨b1, o1, rfl, hb1, hc1⟩ := H1.out (by omega)
      obtain ⟨b2, o2, rfl, hb2, hc2⟩ := H2.out (by omega)
      obtain ⟨⟨⟨orig, epo, sq, cl, ig, as'⟩, va⟩, hz⟩ : ∃ z, l[k]? = some z := ⟨l[k], List.getElem?_eq_getElem hlt⟩
      have hva := HA.out _ (List.mem_of_getElem? hz)
      simp only at hva
      have HV := hidIn hva
      obtain ⟨aa, acap, rfl, hal, _, _⟩ := hva.ads
      obtain ⟨p0, p1, p2, p3, p4, p5⟩ := hc1 k _ hz
      obtain ⟨q0, q1, q2, q3, q4, q5⟩ := hc2 k _ hz
      have c0 := (HB.out.cell (p := ⟨b1, o1 + k * 6, none⟩) hb1).trans p0
      have c1 := (HB.out.cell (p := ⟨b1, o1 + k * 6 + 1, none⟩) hb1).trans p1
      have c2 := (HB.out.cell (p := ⟨b1, o1 + k * 6 + 2, none⟩) hb1).trans p2
      have c3 := (HB.out.cell (p := ⟨b1, o1 + k * 6 + 3, none⟩) hb1).trans p3
      have c4 := (HB.out.cell (p := ⟨b1, o1 + k * 6 + 4, none⟩) hb1).trans p4
      have c5 := (HB.out.cell (p := ⟨b1, o1 + k * 6 + 5, none⟩) hb1).trans p5
      have d0 := (HB.out.cell (p := ⟨b2, o2 + k * 6, none⟩) hb2).trans q0
      have d1 := (HB.out.cell (p := ⟨b2, o2 + k * 6 + 1, none⟩) hb2).trans q1
      have d2 := (HB.out.cell (p := ⟨b2, o2 + k * 6 + 2, none⟩) hb2).trans q2
      have d3 := (HB.out.cell (p := ⟨b2, o2 + k * 6 + 3, none⟩) hb2).trans q3
      have d4 := (HB.out.cell (p := ⟨b2, o2 + k * 6 + 4, none⟩) hb2).trans q4
      have d5 := (HB.out.cell (p := ⟨b2, o2 + k * 6 + 5, none⟩) hb2).trans q5
      simp only at c0 c1 c2 c3 c4 c5 d0 d1 d2 d3 d4 d5
      have hki : (k : Int) < (l.length : Int) := by omega
      have hb1' : b1 < wr.heap.size := Nat.lt_of_lt_of_le hb1 HB.out.size
      have hb2' : b2 < wr.heap.size := Nat.lt_of_lt_of_le hb2 HB.out.size
      clear hc1 hc2 p0 p1 p2 p3 p4 p5 q0 q1 q2 q3 q4 q5 hz hva
      go_upto_region 6 with fail
      go_cut [6, 7] (fun x y wx => (∃ bx, x = .pointer (some ⟨bx, 0, none⟩) ∧ wx.heap[bx]? = some (recO ⟨orig, epo, sq, cl, ig, as'⟩ (.slice aa as'.length acap))) ∧ (∃ by', y = .pointer (some ⟨by', 0, none⟩) ∧ wx.heap[by']? = some (recO ⟨orig, epo, sq, cl, ig, as'⟩ (.slice aa as'.length acap))) ∧ Below wr.heap.size wr wx)
      case first =>
        go_region
        all_goals (go_wp2_with fail; go_meet)
        · exact ⟨⟨_, rfl, (two_new _ _ _).1⟩, ⟨_, rfl, (two_new _ _ _).2⟩, by go_grown⟩
        · exact ⟨⟨_, rfl, (two_new _ _ _).2⟩, ⟨_, rfl, (two_new _ _ _).1⟩, by go_grown⟩
      case rest =>
        obtain ⟨⟨bx, rfl, hx⟩, ⟨by', rfl, hy⟩, hbel⟩ := hcut
        have HBc := hidIn (HB.out.trans (hbel.mono HB.out.size))
        have x0 := cell_of_row wc bx 0 _ _ _ hx
        have x1 := cell_of_row wc bx 1 _ _ _ hx
        have x2 := cell_of_row wc bx 2 _ _ _ hx
        have x3 := cell_of_row wc bx 3 _ _ _ hx
        have x4 := cell_of_row wc bx 4 _ _ _ hx
        have x5 := cell_of_row wc bx 5 _ _ _ hx
        have y0 := cell_of_row wc by' 0 _ _ _ hy
        have y1 := cell_of_row wc by' 1 _ _ _ hy
        have y2 := cell_of_row wc by' 2 _ _ _ hy
        have y3 := cell_of_row wc by' 3 _ _ _ hy
        have y4 := cell_of_row wc by' 4 _ _ _ hy
        have y5 := cell_of_row wc by' 5 _ _ _ hy
        simp at x0 x1 x2 x3 x4 x5 y0 y1 y2 y3 y4 y5
        have HVc := hidIn (HV.out.keep HBc.out (Nat.le_refl _))
        have HS : Hid (Calls Try.prog 14 #[.slice aa as'.length acap, .slice aa as'.length acap] wc fun e w' => e = .returned (.bool true) ∧ Below wc.heap.size wc w') := hidIn (by
          have := sameAdjs HVc.out HVc.out
          simpa using this)
        clear hx hy hbel c0 c1 c2 c3 c4 c5 d0 d1 d2 d3 d4 d5
        go_wp2_with fail
        refine HS.out.mono ?_
        rintro e w5 ⟨rfl, hb5⟩
        have HB5 := hidIn (HBc.out.trans (hb5.mono HBc.out.size))
        clear hb5 x0 x1 x2 x3 x4 x5 y0 y1 y2 y3 y4 y5
        go_wp2_with fail
        go_roundw
        case rel => exact ⟨k + 1, by omega, by go_num, HB5⟩
        case measure => simp [intOf]; omega
    · have hki : ¬ ((k : Int) < (l.length : Int)) := by omega
      go_wp2_with fail
      go_returns
      exact ⟨rfl, HB.out⟩
end Go.Proofs.Ytpifkhcjogilfaa
