/- slices.Equal of neighbours; stamps compared; record.Same. -/
import Derived.Test.YtllmocfiobbofaaX6
import Derived.Test.YtllmocfiobbofaaGD
namespace Go.Proofs.Ytllmocfiobbofaa
open Go.RowKit

set_option maxRecDepth 100000 in
set_option maxHeartbeats 1000000 in
theorem equalA {a b : List (Int × Int)} {va vb : Value} {w : World} (ha : SlAt ac 2 w va a) (hb : SlAt ac 2 w vb b) :
    Calls Try.prog 57 #[va, vb] w fun e w' => e = .returned (.bool (decide (a = b))) ∧ Below w.heap.size w w' := by
  obtain ⟨aa, ca, rfl, hla, _, hca⟩ := ha.ads
  obtain ⟨ab, cb, rfl, hlb, _, hcb⟩ := hb.ads
  have Ha := hidIn hca
  have Hb := hidIn hcb
  clear hca hcb ha hb
  by_cases hlen : a.length = b.length
  · obtain ⟨m, hm⟩ : ∃ m, b.length = m := ⟨_, rfl⟩
    have hlen2 : a.length = m := by rw [hlen, hm]
    rw [hm] at hlb Hb ⊢
    rw [hlen2] at hla Ha ⊢
    have Hm := hidIn hm
    have HL := hidIn hlen2
    clear hm hlen2 hlen
    go_enter Try.func57, Try.ntmps57
    go_wp2
    go_loopw [13] (fun i wr => ∃ k : Nat, k ≤ m ∧ i = .int .i64 k ∧ Hid (Below w.heap.size w wr ∧ decide (a = b) = decide (a.drop k = b.drop k))) (fun i _ => m - (intOf i).toNat)
    case atStart => exact ⟨0, Nat.zero_le _, rfl, hidIn ⟨Below.refl _ _, by rw [List.drop_zero, List.drop_zero]⟩⟩
    case round =>
      obtain ⟨k, hk, rfl, HR⟩ := hrel
      obtain ⟨hbel, hrest⟩ := HR.out
      have HB := hidIn hbel
      have HE := hidIn hrest
      clear HR hbel hrest
      by_cases hlt : k < m
      · obtain ⟨b1, o1, rfl, hb1, c1⟩ := Ha.out (by omega)
        obtain ⟨b2, o2, rfl, hb2, c2⟩ := Hb.out (by omega)
        obtain ⟨x, hx⟩ : ∃ x, a[k]? = some x := ⟨a[k]'(by have := HL.out; omega), List.getElem?_eq_getElem _⟩
        obtain ⟨y, hy⟩ : ∃ y, b[k]? = some y := ⟨b[k]'(by have := Hm.out; omega), List.getElem?_eq_getElem _⟩
        have HN : Hid (decide (a = b) = (decide (x = y) && decide (a.drop (k + 1) = b.drop (k + 1)))) := hidIn (by rw [HE.out, dropEq hx hy])
        obtain ⟨p0, p1⟩ := c1 k _ hx
        obtain ⟨q0, q1⟩ := c2 k _ hy
        have x0 := (HB.out.cell (p := ⟨b1, o1 + k * 2, none⟩) hb1).trans p0
        have y0 := (HB.out.cell (p := ⟨b2, o2 + k * 2, none⟩) hb2).trans q0
        have x1 := (HB.out.cell (p := ⟨b1, o1 + k * 2 + 1, none⟩) hb1).trans p1
        have y1 := (HB.out.cell (p := ⟨b2, o2 + k * 2 + 1, none⟩) hb2).trans q1
        have hki : (k : Int) < (m : Int) := by omega
        clear c1 c2 hx hy
        by_cases hxy : x = y
        · have hq : ∀ w, (Op.equalIn 10000 78 (.agg #[.int .i64 x.1, .int .i64 x.2]) (.agg #[.int .i64 y.1, .int .i64 y.2])).run Try.prog w = Result.ok true w := fun w => by rw [eq_adj]; simp [hxy]
          have Hxy := hidIn hxy
          clear hxy
          go_wp2_with fail
          go_quiet (fail)
          go_wp2_with fail
          go_roundw
          case rel => exact ⟨k + 1, by omega, by go_num, hidIn ⟨below_drewN HB.out _, by rw [HN.out]; simp [Hxy.out]⟩⟩
          case measure => simp [intOf]; omega
        · have hq : ∀ w, (Op.equalIn 10000 78 (.agg #[.int .i64 x.1, .int .i64 x.2]) (.agg #[.int .i64 y.1, .int .i64 y.2])).run Try.prog w = Result.ok false w := fun w => by
            rw [eq_adj]
            congr 1
            apply Bool.eq_false_iff.2
            intro h
            simp at h
            exact hxy (by obtain ⟨x0, x1⟩ := x; obtain ⟨y0, y1⟩ := y; simp at h; obtain ⟨rfl, rfl⟩ := h; rfl)
          have Hxy := hidIn hxy
          clear hxy
          go_wp2_with fail
          go_quiet (fail)
          go_wp2_with fail
          go_returns
          exact ⟨by rw [HN.out]; simp [Hxy.out], below_drewN HB.out _⟩
      · have hki : ¬ ((k : Int) < (m : Int)) := by omega
        have HT : Hid (decide (a = b) = true) := hidIn (by rw [HE.out, List.drop_eq_nil_of_le (by have := HL.out; omega), List.drop_eq_nil_of_le (by have := Hm.out; omega)]; rfl)
        go_wp2_with fail
        go_returns
        exact ⟨by rw [HT.out]; rfl, HB.out⟩
  · have hne : ((a.length : Int) == (b.length : Int)) = false := by
      apply Bool.eq_false_iff.2
      intro h
      simp at h
      exact hlen (by omega)
    have HT : Hid (decide (a = b) = false) := hidIn (by simp; intro h; exact hlen (by rw [h]))
    clear hlen
    generalize a.length = m at *
    generalize b.length = m2 at *
    go_enter Try.func57, Try.ntmps57
    go_wp2
    go_ret
    exact ⟨by rw [HT.out]; rfl, Below.refl _ _⟩
theorem eqU (d : Nat) (x y : Int) (w : World) : (Op.equalIn (d + 1) 25 (.int .u32 x) (.int .u32 y)).run Try.prog w = .ok (x == y) w := run_equalIn_int w d _ _ _ x y Try.underlying25
theorem partS {x0 x1 x2 : Value} (w : World) : (part 3 #[x0, x1, x2] 0).run Try.prog w = .ok x0 w ∧ (part 25 #[x0, x1, x2] 1).run Try.prog w = .ok x1 w ∧ (part 25 #[x0, x1, x2] 2).run Try.prog w = .ok x2 w :=
  ⟨by kernel_rfl, by kernel_rfl, by kernel_rfl⟩
theorem stampFields : (Try.prog.fieldsOf 72).toList.map (fun f => (f.name == "_", f.type, f.offset)) = [(false, 3, 0), (false, 25, 1), (false, 25, 2)] := by kernel_rfl
theorem stampUnder : Try.prog.underlying 72 = some (.struct (Try.prog.fieldsOf 72)) := by kernel_rfl
theorem stampStood : Try.prog.stoodInHeld 72 = false := by kernel_rfl
theorem eq_stamp (a0 a1 a2 b0 b1 b2 : Int) (w : World) : (Op.equalIn 10000 72 (.agg #[.int .i64 a0, .int .u32 a1, .int .u32 a2]) (.agg #[.int .i64 b0, .int .u32 b1, .int .u32 b2])).run Try.prog w = Result.ok (a0 == b0 && a1 == b1 && a2 == b2) w := by
  rw [run_equalIn_struct w 9999 _ _ _ stampUnder stampStood]
  have hf := stampFields
  generalize (Try.prog.fieldsOf 72).toList = fs at hf
  obtain ⟨p0, p1, p2⟩ := @partS (.int .i64 a0) (.int .u32 a1) (.int .u32 a2) w
  obtain ⟨q0, q1, q2⟩ := @partS (.int .i64 b0) (.int .u32 b1) (.int .u32 b2) w
  obtain ⟨f0, r0, rfl, h0, hf⟩ := List.map_eq_cons_iff.1 hf
  obtain ⟨f1, r1, rfl, h1, hf⟩ := List.map_eq_cons_iff.1 hf
  obtain ⟨f2, r2, rfl, h2, hf⟩ := List.map_eq_cons_iff.1 hf
  obtain rfl := List.map_eq_nil_iff.1 hf
  simp only [Prod.mk.injEq] at h0
  obtain ⟨n0, t0, o0⟩ := h0
  simp only [Prod.mk.injEq] at h1
  obtain ⟨n1, t1, o1⟩ := h1
  simp only [Prod.mk.injEq] at h2
  obtain ⟨n2, t2, o2⟩ := h2
  rw [eqFields_cons 9999 _ _ f0 [f1, f2] (.int .i64 a0) (.int .i64 b0) (a0 == b0) w n0 (by rw [t0, o0]; exact p0) (by rw [t0, o0]; exact q0) (by rw [t0]; exact eqI 9998 a0 b0 w)]
  rw [eqFields_cons 9999 _ _ f1 [f2] (.int .u32 a1) (.int .u32 b1) (a1 == b1) w n1 (by rw [t1, o1]; exact p1) (by rw [t1, o1]; exact q1) (by rw [t1]; exact eqU 9998 a1 b1 w)]
  rw [eqFields_cons 9999 _ _ f2 [] (.int .u32 a2) (.int .u32 b2) (a2 == b2) w n2 (by rw [t2, o2]; exact p2) (by rw [t2, o2]; exact q2) (by rw [t2]; exact eqU 9998 a2 b2 w)]
  cases a0 == b0 <;> cases a1 == b1 <;> cases a2 == b2 <;> simp [Op.eqFields]
theorem stamp_lit (o e q c : Int) (i : Bool) (a : Option Addr) (n cap : Nat) (w : World) : Calls Try.prog 34 #[.agg #[.int .i64 o, .int .u32 e, .int .u32 q, .int .i64 c, .bool i, .slice a n cap]] w fun r w' => r = .returned (.agg #[.int .i64 o, .int .u32 e, .int .u32 q]) ∧ Below w.heap.size w w' := stamp_any ⟨o, e, q, c, i, []⟩ a n cap w
/-- Are two records the same? -/
def sameB (r s : Rc) : Bool := (r.origin == s.origin && r.epoch == s.epoch && r.seq == s.seq) && ((r.claim == s.claim) && ((r.ing == s.ing) && decide (r.adjs = s.adjs)))
set_option maxRecDepth 100000 in
set_option maxHeartbeats 2000000 in
theorem recSame_any {r s : Rc} {va vb : Value} {w : World} (ha : SlAt ac 2 w va r.adjs) (hb : SlAt ac 2 w vb s.adjs) :
    Calls Try.prog 35 #[recV r va, recV s vb] w fun e w' => e = .returned (.bool (sameB r s)) ∧ Below w.heap.size w w' := by
  obtain ⟨W1, hW1⟩ : ∃ W1, (w.alloc (recO r va)).alloc (recO s vb) = W1 := ⟨_, rfl⟩
  have b1 : Below w.heap.size w W1 := by rw [← hW1]; exact ((Below.refl _ w).alloc (Nat.le_refl _) _).alloc (by simp) _
  have hX : W1.heap[w.heap.size]? = some (recO r va) := by rw [← hW1, Below.heap_alloc _ _ _ (by simp)]; exact heap_alloc_last w _
  have hY : W1.heap[w.heap.size + 1]? = some (recO s vb) := by
    rw [← hW1]
    have := heap_alloc_last (w.alloc (recO r va)) (recO s vb)
    rw [World.size_alloc] at this
    exact this
  have HEq : Hid (∀ dd os, Calls Try.prog 57 #[va, vb] (Go.Sort.grow (redrawn W1 dd) os) fun e w' => e = .returned (.bool (decide (r.adjs = s.adjs))) ∧ Below (Go.Sort.grow (redrawn W1 dd) os).heap.size (Go.Sort.grow (redrawn W1 dd) os) w') := hidIn fun dd os => by
    have hbb := b1.trans ((below_regrown W1 dd os).mono b1.size)
    exact equalA (ha.keep hbb (Nat.le_refl _)) (hb.keep hbb (Nat.le_refl _))
  obtain ⟨aa, acap, rfl, _⟩ := ha.ads
  obtain ⟨ba, bcap, rfl, _⟩ := hb.ads
  obtain ⟨res, hres⟩ : ∃ res, sameB r s = res := ⟨_, rfl⟩
  rw [hres]
  have Hres := hidIn hres
  obtain ⟨o1, e1, q1, c1, i1, l1⟩ := r
  obtain ⟨o2, e2, q2, c2, i2, l2⟩ := s
  have x0 := cell_regrown (cell_of_row _ _ 0 _ _ _ hX)
  have y0 := cell_regrown (cell_of_row _ _ 0 _ _ _ hY)
  have x1 := cell_regrown (cell_of_row _ _ 1 _ _ _ hX)
  have y1 := cell_regrown (cell_of_row _ _ 1 _ _ _ hY)
  have x2 := cell_regrown (cell_of_row _ _ 2 _ _ _ hX)
  have y2 := cell_regrown (cell_of_row _ _ 2 _ _ _ hY)
  have x3 := cell_regrown (cell_of_row _ _ 3 _ _ _ hX)
  have y3 := cell_regrown (cell_of_row _ _ 3 _ _ _ hY)
  have x4 := cell_regrown (cell_of_row _ _ 4 _ _ _ hX)
  have y4 := cell_regrown (cell_of_row _ _ 4 _ _ _ hY)
  have x5 := cell_regrown (cell_of_row _ _ 5 _ _ _ hX)
  have y5 := cell_regrown (cell_of_row _ _ 5 _ _ _ hY)
  simp at x0 x1 x2 x3 x4 x5 y0 y1 y2 y3 y4 y5
  have HW := hidIn hW1
  have HB1 := hidIn b1
  obtain ⟨dq, hdq⟩ : ∃ dq, decide (l1 = l2) = dq := ⟨_, rfl⟩
  simp only at HEq
  rw [hdq] at HEq
  have Hdq := hidIn hdq
  obtain ⟨n1, hn1⟩ : ∃ n1, l1.length = n1 := ⟨_, rfl⟩
  obtain ⟨n2, hn2⟩ : ∃ n2, l2.length = n2 := ⟨_, rfl⟩
  simp only [hn1, hn2] at HEq x5 y5 HW ⊢
  clear hW1 b1 hX hY ha hb hres hdq hn1 hn2
  obtain ⟨st, hst⟩ : ∃ st, (o1 == o2 && e1 == e2 && q1 == q2) = st := ⟨_, rfl⟩
  have hq : ∀ w, (Op.equalIn 10000 72 (stV o1 e1 q1) (stV o2 e2 q2)).run Try.prog w = Result.ok st w := fun w => by rw [eq_stamp, hst]
  have Hst := hidIn hst
  clear hst
  go_enter Try.func35, Try.ntmps35
  go_upto_region 1 with fail
  rw [HW.out]
  clear HW
  cases st
  · refine wp_region_quiet_below (by kernel_rfl) (by kernel_rfl) ?_
    repeat (go_big_quiet_step (first | (go_at_call 34; exact Calls.regrown_of (stamp_lit _ _ _ _ _ _ _ _ _)) | (go_at_call 57; exact Calls.regrown_of (HEq.out _ _))))
    refine wpQuiet_nil ?_
    intro _ hw'
    obtain ⟨⟨dq2, osq⟩, hw''⟩ := hw'
    subst hw''
    have HB4 := hidIn (HB1.out.trans ((below_regrown W1 dq2 osq).mono HB1.out.size))
    generalize Go.Sort.grow (redrawn W1 dq2) osq = W4 at HB4 ⊢
    clear x0 x1 x2 x3 x4 x5 y0 y1 y2 y3 y4 y5 HEq hq
    go_wp2_with fail
    go_ret
    exact ⟨by rw [← Hres.out]; unfold sameB; simp only; rw [Hst.out]; rfl, HB4.out⟩
  by_cases hc : c1 = c2
  case neg =>
    have hc' : (c1 == c2) = false := by simpa using hc
    have Hc := hidIn hc'
    clear hc
    refine wp_region_quiet_below (by kernel_rfl) (by kernel_rfl) ?_
    repeat (go_big_quiet_step (first | (go_at_call 34; exact Calls.regrown_of (stamp_lit _ _ _ _ _ _ _ _ _)) | (go_at_call 57; exact Calls.regrown_of (HEq.out _ _))))
    refine wpQuiet_nil ?_
    intro _ hw'
    obtain ⟨⟨dq2, osq⟩, hw''⟩ := hw'
    subst hw''
    have HB4 := hidIn (HB1.out.trans ((below_regrown W1 dq2 osq).mono HB1.out.size))
    generalize Go.Sort.grow (redrawn W1 dq2) osq = W4 at HB4 ⊢
    clear x0 x1 x2 x3 x4 x5 y0 y1 y2 y3 y4 y5 HEq hq
    go_wp2_with fail
    go_ret
    exact ⟨by rw [← Hres.out]; unfold sameB; simp only; rw [Hst.out]; rw [Hc.out]; rfl, HB4.out⟩
  have hc' : (c1 == c2) = true := by simpa using hc
  have Hc := hidIn hc'
  clear hc
  by_cases hi : i1 = i2
  case neg =>
    have hi' : (i1 == i2) = false := by simpa using hi
    have Hi := hidIn hi'
    clear hi
    refine wp_region_quiet_below (by kernel_rfl) (by kernel_rfl) ?_
    repeat (go_big_quiet_step (first | (go_at_call 34; exact Calls.regrown_of (stamp_lit _ _ _ _ _ _ _ _ _)) | (go_at_call 57; exact Calls.regrown_of (HEq.out _ _))))
    refine wpQuiet_nil ?_
    intro _ hw'
    obtain ⟨⟨dq2, osq⟩, hw''⟩ := hw'
    subst hw''
    have HB4 := hidIn (HB1.out.trans ((below_regrown W1 dq2 osq).mono HB1.out.size))
    generalize Go.Sort.grow (redrawn W1 dq2) osq = W4 at HB4 ⊢
    clear x0 x1 x2 x3 x4 x5 y0 y1 y2 y3 y4 y5 HEq hq
    go_wp2_with fail
    go_ret
    exact ⟨by rw [← Hres.out]; unfold sameB; simp only; rw [Hst.out]; rw [Hc.out, Hi.out]; rfl, HB4.out⟩
  have hi' : (i1 == i2) = true := by simpa using hi
  have Hi := hidIn hi'
  clear hi
  refine wp_region_quiet_below (by kernel_rfl) (by kernel_rfl) ?_
  repeat (go_big_quiet_step (first | (go_at_call 34; exact Calls.regrown_of (stamp_lit _ _ _ _ _ _ _ _ _)) | (go_at_call 57; exact Calls.regrown_of (HEq.out _ _))))
  refine wpQuiet_nil ?_
  intro _ hw'
  obtain ⟨⟨dq2, osq⟩, hw''⟩ := hw'
  subst hw''
  have HB4 := hidIn (HB1.out.trans ((below_regrown W1 dq2 osq).mono HB1.out.size))
  generalize Go.Sort.grow (redrawn W1 dq2) osq = W4 at HB4 ⊢
  clear x0 x1 x2 x3 x4 x5 y0 y1 y2 y3 y4 y5 HEq hq
  go_wp2_with fail
  go_ret
  exact ⟨by rw [← Hres.out]; unfold sameB; simp only; rw [Hst.out]; rw [Hc.out, Hi.out, Hdq.out]; rfl, HB4.out⟩
end Go.Proofs.Ytllmocfiobbofaa
