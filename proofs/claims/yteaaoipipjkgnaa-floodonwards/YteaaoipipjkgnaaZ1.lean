/- A store filled. slices.Equal of neighbours; stamps compared; record.Same. StoreNewest. What is owed no more; Ack. Stamps by their origins. byOrigin. A store held against stamps. What is missing. Missing. A store's copy. Up. Tick. -/
import Derived.Test.YteaaoipipjkgnaaN7
import Derived.Test.YteaaoipipjkgnaaX6
import Derived.Test.YteaaoipipjkgnaaGD
import Derived.Test.YteaaoipipjkgnaaQ5
import Derived.Test.YteaaoipipjkgnaaX2
import Derived.BigQuiet
namespace Go.Proofs.Yteaaoipipjkgnaa
open Go.RowKit Go.Maps

/-- A store that was made. -/
def FilAns (w w' : World) (rs : List Rc) (e : Ending) : Prop := ∃ S M f, e = .returned (ptr S) ∧ StAt w' S M 40 f ∧ fR f = runR rs ∧ w.heap.size ≤ S ∧ w.heap.size ≤ M
def ordT (t : Bool) (l : List Te) : List Rc := (if t = true then l.reverse else l).map tellR
theorem SlAt.tes {w : World} {v : Value} {l : List Te} (h : SlAt te4 4 w v l) : ∃ a cap, v = .slice a l.length cap ∧ l.length ≤ 9223372036854775807 ∧ l.length ≤ cap ∧ (0 < l.length → ∃ bk o, a = some ⟨bk, o, none⟩ ∧ bk < w.heap.size ∧ ∀ j x, l[j]? = some x → w.cell? ⟨bk, o + j * 4, none⟩ = some (.int .u8 x.1) ∧ w.cell? ⟨bk, o + j * 4 + 1, none⟩ = some (.int .u8 x.2.1) ∧ w.cell? ⟨bk, o + j * 4 + 2, none⟩ = some (.int .u8 x.2.2.1) ∧ w.cell? ⟨bk, o + j * 4 + 3, none⟩ = some (.int .u8 x.2.2.2)) := by
  obtain ⟨a, cap, rfl, h0, h1, h2⟩ := h
  refine ⟨a, cap, rfl, h0, h1, fun hp => ?_⟩
  obtain ⟨bk, o, rfl, h3, h4⟩ := h2 hp
  exact ⟨bk, o, rfl, h3, fun j z hz => ⟨h4 j z hz 0 _ rfl, h4 j z hz 1 _ rfl, h4 j z hz 2 _ rfl, h4 j z hz 3 _ rfl⟩⟩
theorem ordT_at {t : Bool} {l : List Te} {k : Nat} (hk : k < l.length) : ∃ j x, j < l.length ∧ l[j]? = some x ∧ (ordT t l)[k]? = some (tellR x) ∧ j = (if t = true then l.length - 1 - k else k) := by
  unfold ordT
  cases t with
  | false => exact ⟨k, l[k], hk, List.getElem?_eq_getElem hk, by simp [hk], by simp⟩
  | true =>
    refine ⟨l.length - 1 - k, l[l.length - 1 - k], by omega, List.getElem?_eq_getElem _, ?_, by simp⟩
    simp only [if_true, List.getElem?_map]
    rw [List.getElem?_reverse hk, List.getElem?_eq_getElem (by omega)]
    rfl
end Go.Proofs.Yteaaoipipjkgnaa
namespace Go.Proofs.Yteaaoipipjkgnaa
open Go.RowKit

set_option maxRecDepth 100000 in
set_option maxHeartbeats 1000000 in
theorem equalA {a b : List (Int × Int)} {va vb : Value} {w : World} (ha : SlAt ac 2 w va a) (hb : SlAt ac 2 w vb b) :
    Calls Try.prog 63 #[va, vb] w fun e w' => e = .returned (.bool (decide (a = b))) ∧ Below w.heap.size w w' := by
  obtain ⟨aa, ca, rfl, hla, _, hca⟩ := ha.ads
  obtain ⟨ab, cb, rfl, hlb, _, hcb⟩ := hb.ads
  have Ha := hidIn hca
  have Hb := hidIn hcb
  clear hca hcb ha hb
  by_cases hlen : a.length = b.length
  · obtain ⟨m, hm⟩ : ∃ m, b.length = m := ⟨_, rfl⟩
    have hlen2 : a.length = m := by rw [hlen, hm]
    rw [hm] at hlb Hb ⊢
    rw [hlen2] at hla Ha ⊢
    have Hm := hidIn hm
    have HL := hidIn hlen2
    clear hm hlen2 hlen
    go_enter Try.func63, Try.ntmps63
    go_wp2
    go_loopw [13] (fun i wr => ∃ k : Nat, k ≤ m ∧ i = .int .i64 k ∧ Hid (Below w.heap.size w wr ∧ decide (a = b) = decide (a.drop k = b.drop k))) (fun i _ => m - (intOf i).toNat)
    case atStart => exact ⟨0, Nat.zero_le _, rfl, hidIn ⟨Below.refl _ _, by rw [List.drop_zero, List.drop_zero]⟩⟩
    case round =>
      obtain ⟨k, hk, rfl, HR⟩ := hrel
      obtain ⟨hbel, hrest⟩ := HR.out
      have HB := hidIn hbel
      have HE := hidIn hrest
      clear HR hbel hrest
      by_cases hlt : k < m
      · obtain ⟨b1, o1, rfl, hb1, c1⟩ := Ha.out (by omega)
        obtain ⟨b2, o2, rfl, hb2, c2⟩ := Hb.out (by omega)
        obtain ⟨x, hx⟩ : ∃ x, a[k]? = some x := ⟨a[k]'(by have := HL.out; omega), List.getElem?_eq_getElem _⟩
        obtain ⟨y, hy⟩ : ∃ y, b[k]? = some y := ⟨b[k]'(by have := Hm.out; omega), List.getElem?_eq_getElem _⟩
        have HN : Hid (decide (a = b) = (decide (x = y) && decide (a.drop (k + 1) = b.drop (k + 1)))) := hidIn (by rw [HE.out, dropEq hx hy])
        obtain ⟨p0, p1⟩ := c1 k _ hx
        obtain ⟨q0, q1⟩ := c2 k _ hy
        have x0 := (HB.out.cell (p := ⟨b1, o1 + k * 2, none⟩) hb1).trans p0
        have y0 := (HB.out.cell (p := ⟨b2, o2 + k * 2, none⟩) hb2).trans q0
        have x1 := (HB.out.cell (p := ⟨b1, o1 + k * 2 + 1, none⟩) hb1).trans p1
        have y1 := (HB.out.cell (p := ⟨b2, o2 + k * 2 + 1, none⟩) hb2).trans q1
        have hki : (k : Int) < (m : Int) := by omega
        clear c1 c2 hx hy
        by_cases hxy : x = y
        · have hq : ∀ w, (Op.equalIn 10000 98 (.agg #[.int .i64 x.1, .int .i64 x.2]) (.agg #[.int .i64 y.1, .int .i64 y.2])).run Try.prog w = Result.ok true w := fun w => by rw [eq_adj]; simp [hxy]
          have Hxy := hidIn hxy
          clear hxy
          go_wp2_with fail
          go_quiet (fail)
          go_wp2_with fail
          go_roundw
          case rel => exact ⟨k + 1, by omega, by go_num, hidIn ⟨below_drewN HB.out _, by rw [HN.out]; simp [Hxy.out]⟩⟩
          case measure => simp [intOf]; omega
        · have hq : ∀ w, (Op.equalIn 10000 98 (.agg #[.int .i64 x.1, .int .i64 x.2]) (.agg #[.int .i64 y.1, .int .i64 y.2])).run Try.prog w = Result.ok false w := fun w => by
            rw [eq_adj]
            congr 1
            apply Bool.eq_false_iff.2
            intro h
            simp at h
            exact hxy (by obtain ⟨x0, x1⟩ := x; obtain ⟨y0, y1⟩ := y; simp at h; obtain ⟨rfl, rfl⟩ := h; rfl)
          have Hxy := hidIn hxy
          clear hxy
          go_wp2_with fail
          go_quiet (fail)
          go_wp2_with fail
          go_returns
          exact ⟨by rw [HN.out]; simp [Hxy.out], below_drewN HB.out _⟩
      · have hki : ¬ ((k : Int) < (m : Int)) := by omega
        have HT : Hid (decide (a = b) = true) := hidIn (by rw [HE.out, List.drop_eq_nil_of_le (by have := HL.out; omega), List.drop_eq_nil_of_le (by have := Hm.out; omega)]; rfl)
        go_wp2_with fail
        go_returns
        exact ⟨by rw [HT.out]; rfl, HB.out⟩
  · have hne : ((a.length : Int) == (b.length : Int)) = false := by
      apply Bool.eq_false_iff.2
      intro h
      simp at h
      exact hlen (by omega)
    have HT : Hid (decide (a = b) = false) := hidIn (by simp; intro h; exact hlen (by rw [h]))
    clear hlen
    generalize a.length = m at *
    generalize b.length = m2 at *
    go_enter Try.func63, Try.ntmps63
    go_wp2
    go_ret
    exact ⟨by rw [HT.out]; rfl, Below.refl _ _⟩
theorem eqU (d : Nat) (x y : Int) (w : World) : (Op.equalIn (d + 1) 22 (.int .u32 x) (.int .u32 y)).run Try.prog w = .ok (x == y) w := run_equalIn_int w d _ _ _ x y Try.underlying22
theorem partS {x0 x1 x2 : Value} (w : World) : (part 3 #[x0, x1, x2] 0).run Try.prog w = .ok x0 w ∧ (part 22 #[x0, x1, x2] 1).run Try.prog w = .ok x1 w ∧ (part 22 #[x0, x1, x2] 2).run Try.prog w = .ok x2 w :=
  ⟨by kernel_rfl, by kernel_rfl, by kernel_rfl⟩
theorem stampFields : (Try.prog.fieldsOf 67).toList.map (fun f => (f.name == "_", f.type, f.offset)) = [(false, 3, 0), (false, 22, 1), (false, 22, 2)] := by kernel_rfl
theorem stampUnder : Try.prog.underlying 67 = some (.struct (Try.prog.fieldsOf 67)) := by kernel_rfl
theorem stampStood : Try.prog.stoodInHeld 67 = false := by kernel_rfl
theorem eq_stamp (a0 a1 a2 b0 b1 b2 : Int) (w : World) : (Op.equalIn 10000 67 (.agg #[.int .i64 a0, .int .u32 a1, .int .u32 a2]) (.agg #[.int .i64 b0, .int .u32 b1, .int .u32 b2])).run Try.prog w = Result.ok (a0 == b0 && a1 == b1 && a2 == b2) w := by
  rw [run_equalIn_struct w 9999 _ _ _ stampUnder stampStood]
  have hf := stampFields
  generalize (Try.prog.fieldsOf 67).toList = fs at hf
  obtain ⟨p0, p1, p2⟩ := @partS (.int .i64 a0) (.int .u32 a1) (.int .u32 a2) w
  obtain ⟨q0, q1, q2⟩ := @partS (.int .i64 b0) (.int .u32 b1) (.int .u32 b2) w
  obtain ⟨f0, r0, rfl, h0, hf⟩ := List.map_eq_cons_iff.1 hf
  obtain ⟨f1, r1, rfl, h1, hf⟩ := List.map_eq_cons_iff.1 hf
  obtain ⟨f2, r2, rfl, h2, hf⟩ := List.map_eq_cons_iff.1 hf
  obtain rfl := List.map_eq_nil_iff.1 hf
  simp only [Prod.mk.injEq] at h0
  obtain ⟨n0, t0, o0⟩ := h0
  simp only [Prod.mk.injEq] at h1
  obtain ⟨n1, t1, o1⟩ := h1
  simp only [Prod.mk.injEq] at h2
  obtain ⟨n2, t2, o2⟩ := h2
  rw [eqFields_cons 9999 _ _ f0 [f1, f2] (.int .i64 a0) (.int .i64 b0) (a0 == b0) w n0 (by rw [t0, o0]; exact p0) (by rw [t0, o0]; exact q0) (by rw [t0]; exact eqI 9998 a0 b0 w)]
  rw [eqFields_cons 9999 _ _ f1 [f2] (.int .u32 a1) (.int .u32 b1) (a1 == b1) w n1 (by rw [t1, o1]; exact p1) (by rw [t1, o1]; exact q1) (by rw [t1]; exact eqU 9998 a1 b1 w)]
  rw [eqFields_cons 9999 _ _ f2 [] (.int .u32 a2) (.int .u32 b2) (a2 == b2) w n2 (by rw [t2, o2]; exact p2) (by rw [t2, o2]; exact q2) (by rw [t2]; exact eqU 9998 a2 b2 w)]
  cases a0 == b0 <;> cases a1 == b1 <;> cases a2 == b2 <;> simp [Op.eqFields]
theorem stamp_lit (o e q c : Int) (i : Bool) (a : Option Addr) (n cap : Nat) (w : World) : Calls Try.prog 23 #[.agg #[.int .i64 o, .int .u32 e, .int .u32 q, .int .i64 c, .bool i, .slice a n cap]] w fun r w' => r = .returned (.agg #[.int .i64 o, .int .u32 e, .int .u32 q]) ∧ Below w.heap.size w w' := stamp_any ⟨o, e, q, c, i, []⟩ a n cap w
/-- Are two records the same? -/
def sameB (r s : Rc) : Bool := (r.origin == s.origin && r.epoch == s.epoch && r.seq == s.seq) && ((r.claim == s.claim) && ((r.ing == s.ing) && decide (r.adjs = s.adjs)))
set_option maxRecDepth 100000 in
set_option maxHeartbeats 2000000 in
theorem recSame_any {r s : Rc} {va vb : Value} {w : World} (ha : SlAt ac 2 w va r.adjs) (hb : SlAt ac 2 w vb s.adjs) :
    Calls Try.prog 28 #[recV r va, recV s vb] w fun e w' => e = .returned (.bool (sameB r s)) ∧ Below w.heap.size w w' := by
  obtain ⟨W1, hW1⟩ : ∃ W1, (w.alloc (recO r va)).alloc (recO s vb) = W1 := ⟨_, rfl⟩
  have b1 : Below w.heap.size w W1 := by rw [← hW1]; exact ((Below.refl _ w).alloc (Nat.le_refl _) _).alloc (by simp) _
  have hX : W1.heap[w.heap.size]? = some (recO r va) := by rw [← hW1, Below.heap_alloc _ _ _ (by simp)]; exact heap_alloc_last w _
  have hY : W1.heap[w.heap.size + 1]? = some (recO s vb) := by
    rw [← hW1]
    have := heap_alloc_last (w.alloc (recO r va)) (recO s vb)
    rw [World.size_alloc] at this
    exact this
  have HEq : Hid (∀ dd os, Calls Try.prog 63 #[va, vb] (Go.Sort.grow (redrawn W1 dd) os) fun e w' => e = .returned (.bool (decide (r.adjs = s.adjs))) ∧ Below (Go.Sort.grow (redrawn W1 dd) os).heap.size (Go.Sort.grow (redrawn W1 dd) os) w') := hidIn fun dd os => by
    have hbb := b1.trans ((below_regrown W1 dd os).mono b1.size)
    exact equalA (ha.keep hbb (Nat.le_refl _)) (hb.keep hbb (Nat.le_refl _))
  obtain ⟨aa, acap, rfl, _⟩ := ha.ads
  obtain ⟨ba, bcap, rfl, _⟩ := hb.ads
  obtain ⟨res, hres⟩ : ∃ res, sameB r s = res := ⟨_, rfl⟩
  rw [hres]
  have Hres := hidIn hres
  obtain ⟨o1, e1, q1, c1, i1, l1⟩ := r
  obtain ⟨o2, e2, q2, c2, i2, l2⟩ := s
  have x0 := cell_regrown (cell_of_row _ _ 0 _ _ _ hX)
  have y0 := cell_regrown (cell_of_row _ _ 0 _ _ _ hY)
  have x1 := cell_regrown (cell_of_row _ _ 1 _ _ _ hX)
  have y1 := cell_regrown (cell_of_row _ _ 1 _ _ _ hY)
  have x2 := cell_regrown (cell_of_row _ _ 2 _ _ _ hX)
  have y2 := cell_regrown (cell_of_row _ _ 2 _ _ _ hY)
  have x3 := cell_regrown (cell_of_row _ _ 3 _ _ _ hX)
  have y3 := cell_regrown (cell_of_row _ _ 3 _ _ _ hY)
  have x4 := cell_regrown (cell_of_row _ _ 4 _ _ _ hX)
  have y4 := cell_regrown (cell_of_row _ _ 4 _ _ _ hY)
  have x5 := cell_regrown (cell_of_row _ _ 5 _ _ _ hX)
  have y5 := cell_regrown (cell_of_row _ _ 5 _ _ _ hY)
  simp at x0 x1 x2 x3 x4 x5 y0 y1 y2 y3 y4 y5
  have HW := hidIn hW1
  have HB1 := hidIn b1
  obtain ⟨dq, hdq⟩ : ∃ dq, decide (l1 = l2) = dq := ⟨_, rfl⟩
  simp only at HEq
  rw [hdq] at HEq
  have Hdq := hidIn hdq
  obtain ⟨n1, hn1⟩ : ∃ n1, l1.length = n1 := ⟨_, rfl⟩
  obtain ⟨n2, hn2⟩ : ∃ n2, l2.length = n2 := ⟨_, rfl⟩
  simp only [hn1, hn2] at HEq x5 y5 HW ⊢
  clear hW1 b1 hX hY ha hb hres hdq hn1 hn2
  obtain ⟨st, hst⟩ : ∃ st, (o1 == o2 && e1 == e2 && q1 == q2) = st := ⟨_, rfl⟩
  have hq : ∀ w, (Op.equalIn 10000 67 (stV o1 e1 q1) (stV o2 e2 q2)).run Try.prog w = Result.ok st w := fun w => by rw [eq_stamp, hst]
  have Hst := hidIn hst
  clear hst
  go_enter Try.func28, Try.ntmps28
  go_upto_region 1 with fail
  rw [HW.out]
  clear HW
  cases st
  · refine wp_region_quiet_below (by kernel_rfl) (by kernel_rfl) ?_
    repeat (go_big_quiet_step (first | (go_at_call 23; exact Calls.regrown_of (stamp_lit _ _ _ _ _ _ _ _ _)) | (go_at_call 63; exact Calls.regrown_of (HEq.out _ _))))
    refine wpQuiet_nil ?_
    intro _ hw'
    obtain ⟨⟨dq2, osq⟩, hw''⟩ := hw'
    subst hw''
    have HB4 := hidIn (HB1.out.trans ((below_regrown W1 dq2 osq).mono HB1.out.size))
    generalize Go.Sort.grow (redrawn W1 dq2) osq = W4 at HB4 ⊢
    clear x0 x1 x2 x3 x4 x5 y0 y1 y2 y3 y4 y5 HEq hq
    go_wp2_with fail
    go_ret
    exact ⟨by rw [← Hres.out]; unfold sameB; simp only; rw [Hst.out]; rfl, HB4.out⟩
  by_cases hc : c1 = c2
  case neg =>
    have hc' : (c1 == c2) = false := by simpa using hc
    have Hc := hidIn hc'
    clear hc
    refine wp_region_quiet_below (by kernel_rfl) (by kernel_rfl) ?_
    repeat (go_big_quiet_step (first | (go_at_call 23; exact Calls.regrown_of (stamp_lit _ _ _ _ _ _ _ _ _)) | (go_at_call 63; exact Calls.regrown_of (HEq.out _ _))))
    refine wpQuiet_nil ?_
    intro _ hw'
    obtain ⟨⟨dq2, osq⟩, hw''⟩ := hw'
    subst hw''
    have HB4 := hidIn (HB1.out.trans ((below_regrown W1 dq2 osq).mono HB1.out.size))
    generalize Go.Sort.grow (redrawn W1 dq2) osq = W4 at HB4 ⊢
    clear x0 x1 x2 x3 x4 x5 y0 y1 y2 y3 y4 y5 HEq hq
    go_wp2_with fail
    go_ret
    exact ⟨by rw [← Hres.out]; unfold sameB; simp only; rw [Hst.out]; rw [Hc.out]; rfl, HB4.out⟩
  have hc' : (c1 == c2) = true := by simpa using hc
  have Hc := hidIn hc'
  clear hc
  by_cases hi : i1 = i2
  case neg =>
    have hi' : (i1 == i2) = false := by simpa using hi
    have Hi := hidIn hi'
    clear hi
    refine wp_region_quiet_below (by kernel_rfl) (by kernel_rfl) ?_
    repeat (go_big_quiet_step (first | (go_at_call 23; exact Calls.regrown_of (stamp_lit _ _ _ _ _ _ _ _ _)) | (go_at_call 63; exact Calls.regrown_of (HEq.out _ _))))
    refine wpQuiet_nil ?_
    intro _ hw'
    obtain ⟨⟨dq2, osq⟩, hw''⟩ := hw'
    subst hw''
    have HB4 := hidIn (HB1.out.trans ((below_regrown W1 dq2 osq).mono HB1.out.size))
    generalize Go.Sort.grow (redrawn W1 dq2) osq = W4 at HB4 ⊢
    clear x0 x1 x2 x3 x4 x5 y0 y1 y2 y3 y4 y5 HEq hq
    go_wp2_with fail
    go_ret
    exact ⟨by rw [← Hres.out]; unfold sameB; simp only; rw [Hst.out]; rw [Hc.out, Hi.out]; rfl, HB4.out⟩
  have hi' : (i1 == i2) = true := by simpa using hi
  have Hi := hidIn hi'
  clear hi
  refine wp_region_quiet_below (by kernel_rfl) (by kernel_rfl) ?_
  repeat (go_big_quiet_step (first | (go_at_call 23; exact Calls.regrown_of (stamp_lit _ _ _ _ _ _ _ _ _)) | (go_at_call 63; exact Calls.regrown_of (HEq.out _ _))))
  refine wpQuiet_nil ?_
  intro _ hw'
  obtain ⟨⟨dq2, osq⟩, hw''⟩ := hw'
  subst hw''
  have HB4 := hidIn (HB1.out.trans ((below_regrown W1 dq2 osq).mono HB1.out.size))
  generalize Go.Sort.grow (redrawn W1 dq2) osq = W4 at HB4 ⊢
  clear x0 x1 x2 x3 x4 x5 y0 y1 y2 y3 y4 y5 HEq hq
  go_wp2_with fail
  go_ret
  exact ⟨by rw [← Hres.out]; unfold sameB; simp only; rw [Hst.out]; rw [Hc.out, Hi.out, Hdq.out]; rfl, HB4.out⟩
end Go.Proofs.Yteaaoipipjkgnaa
namespace Go.Proofs.Yteaaoipipjkgnaa
open Go.RowKit Go.Maps

theorem nwst_of {O : List Rc} {i : Nat} {r : Rc} (hr : O[i]? = some r) (hok : recOk r = true) : ∃ g, runR O r.origin = some g ∧ Nwst O r.origin g := by
  cases h : runR O r.origin with
  | none => exact absurd rfl ((runR_is O r.origin).2 h r (List.mem_of_getElem? hr) hok)
  | some g => exact ⟨g, rfl, (runR_is O r.origin).1 g h⟩
theorem fR_some {f : Sf} {k : Int} {g : Rc} (h : fR f k = some g) : rOf (f k) = g ∧ (f k).isSome = true := by
  unfold fR at h
  cases h1 : f k with
  | none => rw [h1] at h; cases h
  | some p => rw [h1] at h; exact ⟨by simpa [rOf] using h, rfl⟩
theorem SlAt.sts {w : World} {a : Option Addr} {n cap : Nat} {l : List Ed} (h : SlAt sc3 3 w (.slice a n cap) l) : 0 < n → ∃ bk o, a = some ⟨bk, o, none⟩ ∧ bk < w.heap.size ∧ ∀ j x, l[j]? = some x → w.cell? ⟨bk, o + j * 3, none⟩ = some (.int .i64 x.1) ∧ w.cell? ⟨bk, o + j * 3 + 1, none⟩ = some (.int .u32 x.2.1) ∧ w.cell? ⟨bk, o + j * 3 + 2, none⟩ = some (.int .u32 x.2.2) := by
  obtain ⟨a', cap', he, h0, h1, h2⟩ := h
  simp only [Value.slice.injEq] at he
  obtain ⟨rfl, rfl, rfl⟩ := he
  intro hp
  obtain ⟨bk, o, rfl, h3, h4⟩ := h2 hp
  exact ⟨bk, o, rfl, h3, fun j z hz => ⟨h4 j z hz 0 _ rfl, h4 j z hz 1 _ rfl, h4 j z hz 2 _ rfl⟩⟩
theorem eqSt (a b : Ed) (w : World) : (Op.equalIn 10000 67 (.agg #[.int .i64 a.1, .int .u32 a.2.1, .int .u32 a.2.2]) (.agg #[.int .i64 b.1, .int .u32 b.2.1, .int .u32 b.2.2])).run Try.prog w = Result.ok (decide (a = b)) w := by
  rw [eq_stamp]
  obtain ⟨a0, a1, a2⟩ := a
  obtain ⟨b0, b1, b2⟩ := b
  congr 1
  by_cases h : ((a0, a1, a2) : Ed) = (b0, b1, b2)
  · rw [decide_eq_true h]
    simp only [Prod.mk.injEq] at h
    simp [h]
  · rw [decide_eq_false h]
    simp only [Prod.mk.injEq] at h
    simp only [Bool.and_eq_false_iff, beq_eq_false_iff_ne]
    omega
end Go.Proofs.Yteaaoipipjkgnaa
namespace Go.Proofs.Yteaaoipipjkgnaa
open Go.RowKit Go.Maps

/-- An origin is owed to a port no more. -/
def Fp.free (s : Fp) (p o : Int) : Fp := { s with ow := fun k => if k = p then (s.ow p).map (fun d => delO d o) else s.ow k }
theorem FpOk.free {s : Fp} (h : FpOk s) {p o : Int} : FpOk (s.free p o) :=
  ⟨h.se, h.ep, h.ag, h.la, fun k d j t hk hd => by
    unfold Fp.free at hk
    simp only at hk
    show 0 ≤ t ∧ t ≤ s.last
    by_cases hkp : k = p
    · rw [if_pos hkp] at hk
      cases hq : s.ow p with
      | none => rw [hq] at hk; cases hk
      | some d0 =>
        rw [hq] at hk
        simp only [Option.map_some, Option.some.injEq] at hk
        rw [← hk] at hd
        unfold delO at hd
        by_cases hjo : j = o
        · rw [if_pos hjo] at hd
          cases hd
        · rw [if_neg hjo] at hd
          exact h.ti p d0 j t hq hd
    · rw [if_neg hkp] at hk
      exact h.ti k d j t hk hd⟩
/-- The deletion, in memory: what stands while it is under way, and behind it. -/
theorem free_mem {W : World} {P O S M n : Nat} {s : Fp} {f : Sf} {ob : Int → Option Nat} (h : FlAt W P O S M n s f ob) {p o : Int} (hp : (s.ow p).isSome = true) (ho : 1 ≤ o ∧ o ≤ 24) :
    ∃ b w', ob p = some b ∧ (Builtin.delete_ #[99, 3] 0 #[.map (some b), .int .i64 o]).run Try.prog W.drew = .ok (.tuple #[]) w' ∧ FlAt w' P O S M n (s.free p o) f ob ∧ Fr (fun j => j = b) W w' ∧ (∃ es cl, W.heap[b]? = some (Obj.map es cl)) ∧ (∀ wq, Fr (fun j => j = b) W wq → wq.cell? ⟨P, 5, none⟩ = some (.map (some O)) ∧ (Instr.lookup 89 (.map (some O)) (.int .i64 p) false).run Try.prog wq = .ok (.map (some b)) wq) := by
  have hp24 := h.rg hp
  obtain ⟨b, hb⟩ : ∃ b, ob p = some b := by rw [← h.up] at hp; exact Option.isSome_iff_exists.1 hp
  obtain ⟨d, hd, hm⟩ := h.i p b hb
  have hdr : Below W.heap.size W W.drew := (Below.refl _ W).drew
  have hm' : MpG zU W.drew b (fun j => (d j).map (Value.int .u64)) := hm.keep (T := fun _ => False) (Fr.of_below hdr) (fun h => h)
  obtain ⟨w1, hrun, hm1, hF1⟩ := hm'.drop Try.underlying99 ho.1 ho.2 0
  rw [← map_del] at hm1
  have hF2 : Fr (fun j => j = b) W w1 := (Fr.of_below hdr).trans hF1
  have g1 : (s.free p o).ow p = some (delO d o) := by unfold Fp.free; simp [hd]
  have g2 : ∀ k, k ≠ p → (s.free p o).ow k = s.ow k := fun k hk => by unfold Fp.free; simp [hk]
  refine ⟨b, w1, hb, hrun, FlAt.setI (d' := delO d o) h hb hF2 hm1 ⟨rfl, rfl, rfl, rfl⟩ g1 g2 h.ok.free, hF2, hm.isMap, fun wq hq => ?_⟩
  have e3 := (hq.block _ (block_lt h.p) (fun e => h.neP.2.2.2.1 p b hb e.symm)).trans h.p
  have c3 := cell_of_row _ _ 5 _ _ _ e3
  simp at c3
  have hmo := h.o.keep hq (fun e => (h.m.2 p b hb).2 e.symm)
  have hl := hmo.look1 Try.underlying89 zeroMM (x := p) (wf9 (by omega))
  simp only [hb, Option.map_some, Option.getD_some] at hl
  exact ⟨c3, hl⟩
/-- What Ack answers. -/
def AckAns (w w' : World) (P O S M n : Nat) (s : Fp) (f : Sf) (ob : Int → Option Nat) (p so se sq : Int) (e : Ending) : Prop :=
  ((isOth s p = false ∨ mayS so se sq = false) ∧ e = .returned (.int .i64 2) ∧ Below w.heap.size w w') ∨
  (isOth s p = true ∧ mayS so se sq = true ∧ (s.ow p).isSome = false ∧ e = .returned (.int .i64 9) ∧ Below w.heap.size w w') ∨
  (isOth s p = true ∧ mayS so se sq = true ∧ (s.ow p).isSome = true ∧ e = .returned (.int .i64 0) ∧ FlAt w' P O S M n (if stOf (rOf (f so)) = (so, se, sq) then s.free p so else s) f ob ∧ Fr (fun j => ∃ k, ob k = some j) w w')
set_option maxRecDepth 100000 in
set_option maxHeartbeats 8000000 in
theorem fack_any {P O S M n : Nat} {s : Fp} {f : Sf} {ob : Int → Option Nat} {w : World} (h : FlAt w P O S M n s f ob) (p so se sq : Int) (he : 0 ≤ se ∧ se < 4294967296) (hq : 0 ≤ sq ∧ sq < 4294967296) :
    Calls Try.prog 25 #[ptr P, .int .i64 p, stV so se sq] w fun e w' => AckAns w w' P O S M n s f ob p so se sq e := by
  obtain ⟨W1, hW1⟩ : ∃ W1, w.alloc (stO so se sq) = W1 := ⟨_, rfl⟩
  have b1 : Below w.heap.size w W1 := by rw [← hW1]; exact (Below.refl _ w).alloc (Nat.le_refl _) _
  have hX1 : W1.heap[w.heap.size]? = some (stO so se sq) := by rw [← hW1]; exact heap_alloc_last w _
  obtain ⟨b5, hb5⟩ : ∃ b5, w.heap.size = b5 := ⟨_, rfl⟩
  rw [hb5] at hX1
  have HF1 := hidIn (h.keep b1)
  have HX1 := hidIn hX1
  have HB1 := hidIn b1
  have HT1 := hidIn (fthere_any HF1.out)
  have HEn := hidIn (encSt_any so se sq he hq)
  have HW1 := hidIn hW1
  clear h b1 hX1 hW1
  go_enter Try.func25, Try.ntmps25
  go_upto_region 1 with fail
  rw [HW1.out]
  clear HW1 hb5
  go_wp2_with fail
  refine HT1.out.mono ?_
  rintro e w1 ⟨rfl, h1⟩
  rw [h1]
  clear HT1 h1 w1
  have x0 := cell_of_row _ _ 0 _ _ _ HX1.out
  have x1 := cell_of_row _ _ 1 _ _ _ HX1.out
  have x2 := cell_of_row _ _ 2 _ _ _ HX1.out
  simp at x0 x1 x2
  go_wp2_with fail
  refine (HEn.out _).mono ?_
  rintro e w2 ⟨rfl, hb2⟩
  have HF2 := hidIn (HF1.out.keep hb2)
  have HX2 := hidIn ((hb2.block _ (block_lt HX1.out)).trans HX1.out)
  have HB2 := hidIn (HB1.out.trans (hb2.mono HB1.out.size))
  have HOt := hidIn (fother_any HF2.out p)
  obtain ⟨es, hes⟩ : ∃ es, (esA so se sq).1 = es := ⟨_, rfl⟩
  obtain ⟨en, hen⟩ : ∃ en, (esA so se sq).2 = en := ⟨_, rfl⟩
  have Hen : Hid (en = if mayS so se sq = true then 0 else 2) := hidIn (by rw [← hen]; unfold esA; split <;> rfl)
  rw [hes, hen]
  clear hb2 x0 x1 x2 HEn HF1 HX1 HB1 hes hen
  go_wp2_with fail
  refine HOt.out.mono ?_
  rintro e w1 ⟨rfl, h1⟩
  rw [h1]
  clear HOt h1 w1
  cases hot : isOth s p with
  | false =>
    have HO : Hid (AckAns w w2 P O S M n s f ob p so se sq (.returned (.int .i64 2))) := hidIn (.inl ⟨.inl hot, rfl, HB2.out⟩)
    clear hot
    go_wp2_with fail
    go_ret
    exact HO.out
  | true =>
    have h24 := (isOth_iff.1 hot).1
    have Hot := hidIn hot
    clear hot
    by_cases hms : mayS so se sq = true
    · have hen0 : en = 0 := by rw [Hen.out, if_pos hms]
      subst hen0
      have Hms := hidIn hms
      have hso : 1 ≤ so ∧ so ≤ 24 := (mayS_iff.1 hms).1
      have HU := hidIn (fup_any (k := p) HF2.out (wf9 (by omega)))
      clear hms Hen
      go_wp2_with fail
      refine HU.out.mono ?_
      rintro e w1 ⟨rfl, h1⟩
      rw [h1]
      clear HU h1 w1
      cases hup : (s.ow p).isSome with
      | false =>
        have HO : Hid (AckAns w w2 P O S M n s f ob p so se sq (.returned (.int .i64 9))) := hidIn (.inr (.inl ⟨Hot.out, Hms.out, hup, rfl, HB2.out⟩))
        clear hup
        go_wp2_with fail
        go_ret
        exact HO.out
      | true =>
        have Hup := hidIn hup
        have HG := hidIn (fun wq (hq : Below w2.heap.size w2 wq) => sget_any (HF2.out.keep hq).st (k := so) (wf9 (by omega)))
        have HCl : Hid (∀ wq, Below w2.heap.size w2 wq → wq.cell? ⟨b5, 0, none⟩ = some (.int .i64 so) ∧ wq.cell? ⟨P, 4, none⟩ = some (ptr S)) := hidIn fun wq hq => by
          have e1 := (hq.block _ (block_lt HX2.out)).trans HX2.out
          have e2 := (hq.block _ (block_lt HF2.out.p)).trans HF2.out.p
          have c1 := cell_of_row _ _ 0 _ _ _ e1
          have c4 := cell_of_row _ _ 4 _ _ _ e2
          simp at c1 c4
          exact ⟨c1, c4⟩
        obtain ⟨xr, hxr⟩ : ∃ xr, rOf (f so) = xr := ⟨_, rfl⟩
        have Hxr := hidIn hxr
        unfold GtAns at HG
        rw [hxr] at HG
        generalize (f so).isSome = xb at HG
        obtain ⟨xo, xe, xs, xcl, xi, xl⟩ := xr
        obtain ⟨xn, hxn⟩ : ∃ xn, xl.length = xn := ⟨_, rfl⟩
        simp only [hxn] at HG
        clear hup hxr hxn
        go_upto_region 8 with fail
        go_cut [9, 10] (fun x y wx => ∃ bx a cc, x = ptr bx ∧ wx.heap[bx]? = some (.cells #[.int .i64 xo, .int .u32 xe, .int .u32 xs, .int .i64 xcl, .bool xi, .slice a xn cc] 38) ∧ y = .bool xb ∧ SlAt ac 2 wx (.slice a xn cc) xl ∧ NilOk (.slice a xn cc) ∧ w2.heap.size ≤ bx ∧ Below w2.heap.size w2 wx)
        case first =>
          refine wp_region_held_drew (S := fun wx => Below w2.heap.size w2 wx) (by kernel_rfl) ((Below.refl _ w2).drew) (fun hHeld => ?_)
          have hh : Below w2.heap.size w2 w2.drew := hHeld
          refine wpAnyH_take (i := 0) (v := ?_) rfl (by kernel_rfl) (by kernel_rfl) (by kernel_rfl) (fun _ _ _ h => h) (Or.inl ⟨by rfl, ?_⟩) (by assumption) ?_
          rotate_left
          · intro wq hSw
            clear hSw
            go_simp
            try (with_reducible rfl)
          refine wpAnyH_take (i := 1) (v := ?_) rfl (by kernel_rfl) (by kernel_rfl) (by kernel_rfl) (fun _ _ _ h => h) (Or.inl ⟨by rfl, ?_⟩) (by assumption) ?_
          rotate_left
          · intro wq hSw
            clear hSw
            go_simp
            try (with_reducible rfl)
          refine wpAnyH_take (i := 2) (v := ?_) rfl (by kernel_rfl) (by kernel_rfl) (by kernel_rfl) (fun _ _ _ h => h) (Or.inl ⟨by rfl, ?_⟩) (by assumption) ?_
          rotate_left
          · intro wq hSw
            clear hSw
            go_simp
            try (with_reducible rfl)
          refine wpAnyH_take (i := 3) (v := ?_) rfl (by kernel_rfl) (by kernel_rfl) (by kernel_rfl) (fun _ _ _ h => h) (Or.inl ⟨by rfl, ?_⟩) (by assumption) ?_
          rotate_left
          · intro wq hSw
            obtain ⟨_, z0⟩ := HCl.out wq hSw
            clear hSw
            go_simp
            try (with_reducible rfl)
          refine wpAnyH_take (i := 4) (v := ?_) rfl (by kernel_rfl) (by kernel_rfl) (by kernel_rfl) (fun _ _ _ h => h) (Or.inl ⟨by rfl, ?_⟩) (by assumption) ?_
          rotate_left
          · intro wq hSw
            clear hSw
            go_simp
            try (with_reducible rfl)
          refine wpAnyH_take (i := 5) (v := ?_) rfl (by kernel_rfl) (by kernel_rfl) (by kernel_rfl) (fun _ _ _ h => h) (Or.inl ⟨by rfl, ?_⟩) (by assumption) ?_
          rotate_left
          · intro wq hSw
            obtain ⟨z0, _⟩ := HCl.out wq hSw
            clear hSw
            go_simp
            try (with_reducible rfl)
          refine wpAnyH_ready (rs := [6, 10]) (by kernel_rfl) (by simp) ?_
          refine AllReadyH.cons rfl (fun K hK => ?_) (AllReadyH.cons rfl (fun K hK => ?_) AllReadyH.nil)
          · go_simp
            refine (HG.out _ hh).mono ?_
            rintro e w5 ⟨⟨a, cc, rfl, hsl, hnl, hfr⟩, hbx⟩
            have h5 : Below w2.heap.size w2 w5 := hh.trans (hbx.mono hh.size)
            refine hK.out _ _ h5 (fun _ => ?_)
            clear hK K
            refine wpAnyH_take (i := 7) (v := ?_) rfl (by kernel_rfl) (by kernel_rfl) (by kernel_rfl) (fun _ _ _ h => h) (Or.inl ⟨by rfl, ?_⟩) (by assumption) ?_
            rotate_left
            · intro wq hSw
              clear hSw
              go_simp
              try (with_reducible rfl)
            refine wpAnyH_take (i := 8) (v := ?_) rfl (by kernel_rfl) (by kernel_rfl) (by kernel_rfl) (fun _ _ _ h => h) (Or.inl ⟨by rfl, ?_⟩) (by assumption) ?_
            rotate_left
            · intro wq hSw
              clear hSw
              go_simp
              try (with_reducible rfl)
            refine wpAnyH_take (i := 9) (v := ?_) rfl (by kernel_rfl) (by kernel_rfl) (by kernel_rfl) (fun _ _ _ h => h) (Or.inl ⟨by rfl, ?_⟩) (by assumption) ?_
            rotate_left
            · intro wq hSw
              clear hSw
              go_simp
              try (with_reducible rfl)
            refine wpAnyH_ready (rs := [10]) (by kernel_rfl) (by simp) ?_
            refine AllReadyH.cons rfl (fun K hK => ?_) AllReadyH.nil
            go_simp
            obtain ⟨W6, hW6⟩ : ∃ W6, w5.alloc (.cells #[.int .i64 0, .int .u32 0, .int .u32 0, .int .i64 0, .bool false, .slice none 0 0] 38) = W6 := ⟨_, rfl⟩
            have b6 : Below w5.heap.size w5 W6 := by rw [← hW6]; exact (Below.refl _ w5).alloc (Nat.le_refl _) _
            have h6 : Below w2.heap.size w2 W6 := h5.trans (b6.mono h5.size)
            have hz8 : W6.heap[w5.heap.size]? = some (.cells #[.int .i64 0, .int .u32 0, .int .u32 0, .int .i64 0, .bool false, .slice none 0 0] 38) := by rw [← hW6]; exact heap_alloc_last w5 _
            rw [hW6]
            have h58 := h5.size
            have hsl6 := hsl.keep b6 (Nat.le_refl _)
            have hne : ∀ p, a = some p → ¬ p.block = w5.heap.size := fun p hp e => by
              obtain ⟨g, rfl, _, cur, hc⟩ := hfr p hp
              have := block_lt hc
              simp at e
              omega
            obtain ⟨b8, hb8⟩ : ∃ b8, w5.heap.size = b8 := ⟨_, rfl⟩
            rw [hb8] at hz8 h58 hne ⊢
            refine hK.out _ _ h6 (fun _ => ?_)
            clear hK K hW6 hb8
            refine wpAnyH_ready (rs := [11]) (by kernel_rfl) (by simp) ?_
            refine AllReadyH.cons rfl (fun K hK => ?_) AllReadyH.nil
            have zz0 := cell_of_row _ _ 0 _ _ _ hz8
            have zz1 := cell_of_row _ _ 1 _ _ _ hz8
            have zz2 := cell_of_row _ _ 2 _ _ _ hz8
            have zz3 := cell_of_row _ _ 3 _ _ _ hz8
            have zz4 := cell_of_row _ _ 4 _ _ _ hz8
            have zz5 := cell_of_row _ _ 5 _ _ _ hz8
            simp at zz0 zz1 zz2 zz3 zz4 zz5
            have yy0 := frozen_new hz8 0
            have yy1 := frozen_new hz8 1
            have yy2 := frozen_new hz8 2
            have yy3 := frozen_new hz8 3
            have yy4 := frozen_new hz8 4
            have yy5 := frozen_new hz8 5
            go_simp
            have hset := set6 (.int .i64 xo) (.int .u32 xe) (.int .u32 xs) (.int .i64 xcl) (.bool xi) (.slice a xn cc) hz8
            have hbs : Below w2.heap.size w2 ((((((W6.setCell ⟨b8, 0, none⟩ (.int .i64 xo)).setCell ⟨b8, 1, none⟩ (.int .u32 xe)).setCell ⟨b8, 2, none⟩ (.int .u32 xs)).setCell ⟨b8, 3, none⟩ (.int .i64 xcl)).setCell ⟨b8, 4, none⟩ (.bool xi)).setCell ⟨b8, 5, none⟩ (.slice a xn cc)) := (((((h6.setCell (p := ⟨b8, 0, none⟩) h58 _).setCell (p := ⟨b8, 1, none⟩) h58 _).setCell (p := ⟨b8, 2, none⟩) h58 _).setCell (p := ⟨b8, 3, none⟩) h58 _).setCell (p := ⟨b8, 4, none⟩) h58 _).setCell (p := ⟨b8, 5, none⟩) h58 _
            have hfs := fr6 (S := fun k => k = b8) (Fr.refl _ W6) rfl (.int .i64 xo) (.int .u32 xe) (.int .u32 xs) (.int .i64 xcl) (.bool xi) (.slice a xn cc)
            generalize (((((World.setCell _ _ _).setCell _ _).setCell _ _).setCell _ _).setCell _ _).setCell _ _ = W9 at hset hbs hfs ⊢
            have hsl9 := hsl6.frP hfs (fun _ p hp _ e => hne p hp e)
            refine hK.out _ _ hbs (fun _ => ?_)
            clear hK K zz0 zz1 zz2 zz3 zz4 zz5 yy0 yy1 yy2 yy3 yy4 yy5
            refine wpAnyH_take (i := 12) (v := ?_) rfl (by kernel_rfl) (by kernel_rfl) (by kernel_rfl) (fun _ _ _ h => h) (Or.inl ⟨by rfl, ?_⟩) (by assumption) ?_
            rotate_left
            · intro wq hSw
              clear hSw
              go_simp
              try (with_reducible rfl)
            refine wpAnyH_done (by kernel_rfl) ?_ _
            go_wp2_with fail
            go_meet
            exact ⟨b8, a, cc, rfl, hset, rfl, hsl9, hnl, h58, hbs⟩
          · go_simp
            obtain ⟨Wq4, hW4⟩ : ∃ Wq4, (w2.alloc (.cells #[.int .i64 0, .int .u32 0, .int .u32 0, .int .i64 0, .bool false, .slice none 0 0] 38)).drew = Wq4 := ⟨_, rfl⟩
            have h4 : Below w2.heap.size w2 Wq4 := by rw [← hW4]; exact ((Below.refl _ w2).alloc (Nat.le_refl _) _).drew
            have hz4 : Wq4.heap[w2.heap.size]? = some (.cells #[.int .i64 0, .int .u32 0, .int .u32 0, .int .i64 0, .bool false, .slice none 0 0] 38) := by rw [← hW4]; exact heap_alloc_last w2 _
            rw [hW4]
            obtain ⟨b8, hb8⟩ : ∃ b8, w2.heap.size = b8 := ⟨_, rfl⟩
            have h58 : w2.heap.size ≤ b8 := Nat.le_of_eq hb8
            rw [hb8] at hz4 ⊢
            refine hK.out _ _ h4 (fun _ => ?_)
            clear hK K hW4
            refine wpAnyH_ready (rs := [6]) (by kernel_rfl) (by simp) ?_
            refine AllReadyH.cons rfl (fun K hK => ?_) AllReadyH.nil
            go_simp
            refine (HG.out _ h4).mono ?_
            rintro e W6 ⟨⟨a, cc, rfl, hsl6, hnl, hfr⟩, hbx⟩
            have h6 : Below w2.heap.size w2 W6 := h4.trans (hbx.mono h4.size)
            have hz8 := (hbx.block _ (block_lt hz4)).trans hz4
            have hne : ∀ p, a = some p → ¬ p.block = b8 := fun p hp e => by
              obtain ⟨g, rfl, hg, _⟩ := hfr p hp
              have := block_lt hz4
              simp at e
              omega
            refine hK.out _ _ h6 (fun _ => ?_)
            clear hK K hbx hz4 h4
            refine wpAnyH_take (i := 7) (v := ?_) rfl (by kernel_rfl) (by kernel_rfl) (by kernel_rfl) (fun _ _ _ h => h) (Or.inl ⟨by rfl, ?_⟩) (by assumption) ?_
            rotate_left
            · intro wq hSw
              clear hSw
              go_simp
              try (with_reducible rfl)
            refine wpAnyH_take (i := 8) (v := ?_) rfl (by kernel_rfl) (by kernel_rfl) (by kernel_rfl) (fun _ _ _ h => h) (Or.inl ⟨by rfl, ?_⟩) (by assumption) ?_
            rotate_left
            · intro wq hSw
              clear hSw
              go_simp
              try (with_reducible rfl)
            refine wpAnyH_take (i := 9) (v := ?_) rfl (by kernel_rfl) (by kernel_rfl) (by kernel_rfl) (fun _ _ _ h => h) (Or.inl ⟨by rfl, ?_⟩) (by assumption) ?_
            rotate_left
            · intro wq hSw
              clear hSw
              go_simp
              try (with_reducible rfl)
            refine wpAnyH_ready (rs := [11]) (by kernel_rfl) (by simp) ?_
            refine AllReadyH.cons rfl (fun K hK => ?_) AllReadyH.nil
            have zz0 := cell_of_row _ _ 0 _ _ _ hz8
            have zz1 := cell_of_row _ _ 1 _ _ _ hz8
            have zz2 := cell_of_row _ _ 2 _ _ _ hz8
            have zz3 := cell_of_row _ _ 3 _ _ _ hz8
            have zz4 := cell_of_row _ _ 4 _ _ _ hz8
            have zz5 := cell_of_row _ _ 5 _ _ _ hz8
            simp at zz0 zz1 zz2 zz3 zz4 zz5
            have yy0 := frozen_new hz8 0
            have yy1 := frozen_new hz8 1
            have yy2 := frozen_new hz8 2
            have yy3 := frozen_new hz8 3
            have yy4 := frozen_new hz8 4
            have yy5 := frozen_new hz8 5
            go_simp
            have hset := set6 (.int .i64 xo) (.int .u32 xe) (.int .u32 xs) (.int .i64 xcl) (.bool xi) (.slice a xn cc) hz8
            have hbs : Below w2.heap.size w2 ((((((W6.setCell ⟨b8, 0, none⟩ (.int .i64 xo)).setCell ⟨b8, 1, none⟩ (.int .u32 xe)).setCell ⟨b8, 2, none⟩ (.int .u32 xs)).setCell ⟨b8, 3, none⟩ (.int .i64 xcl)).setCell ⟨b8, 4, none⟩ (.bool xi)).setCell ⟨b8, 5, none⟩ (.slice a xn cc)) := (((((h6.setCell (p := ⟨b8, 0, none⟩) h58 _).setCell (p := ⟨b8, 1, none⟩) h58 _).setCell (p := ⟨b8, 2, none⟩) h58 _).setCell (p := ⟨b8, 3, none⟩) h58 _).setCell (p := ⟨b8, 4, none⟩) h58 _).setCell (p := ⟨b8, 5, none⟩) h58 _
            have hfs := fr6 (S := fun k => k = b8) (Fr.refl _ W6) rfl (.int .i64 xo) (.int .u32 xe) (.int .u32 xs) (.int .i64 xcl) (.bool xi) (.slice a xn cc)
            generalize (((((World.setCell _ _ _).setCell _ _).setCell _ _).setCell _ _).setCell _ _).setCell _ _ = W9 at hset hbs hfs ⊢
            have hsl9 := hsl6.frP hfs (fun _ p hp _ e => hne p hp e)
            refine hK.out _ _ hbs (fun _ => ?_)
            clear hK K zz0 zz1 zz2 zz3 zz4 zz5 yy0 yy1 yy2 yy3 yy4 yy5
            refine wpAnyH_take (i := 12) (v := ?_) rfl (by kernel_rfl) (by kernel_rfl) (by kernel_rfl) (fun _ _ _ h => h) (Or.inl ⟨by rfl, ?_⟩) (by assumption) ?_
            rotate_left
            · intro wq hSw
              clear hSw
              go_simp
              try (with_reducible rfl)
            refine wpAnyH_done (by kernel_rfl) ?_ _
            go_wp2_with fail
            go_meet
            exact ⟨b8, a, cc, rfl, hset, rfl, hsl9, hnl, h58, hbs⟩
        case rest =>
          obtain ⟨bx, xa, xc, rfl, hxr2, rfl, hsx, hnx, hbx, hbc⟩ := hcut
          have HXr := hidIn hxr2
          have HF3 := hidIn (HF2.out.keep hbc)
          have HX3 := hidIn ((hbc.block _ (block_lt HX2.out)).trans HX2.out)
          have HB3 := hidIn (HB2.out.trans (hbc.mono HB2.out.size))
          have heq : ∀ w, (Op.equalIn 10000 67 (.agg #[.int .i64 xo, .int .u32 xe, .int .u32 xs]) (.agg #[.int .i64 so, .int .u32 se, .int .u32 sq])).run Try.prog w = Result.ok (decide (((xo, xe, xs) : Ed) = (so, se, sq))) w := fun w => eqSt (xo, xe, xs) (so, se, sq) w
          have HSt : Hid (stOf (rOf (f so)) = (xo, xe, xs)) := hidIn (by rw [Hxr.out]; rfl)
          have z0 := cell_of_row _ _ 0 _ _ _ HXr.out
          have z1 := cell_of_row _ _ 1 _ _ _ HXr.out
          have z2 := cell_of_row _ _ 2 _ _ _ HXr.out
          have z3 := cell_of_row _ _ 3 _ _ _ HXr.out
          have z4 := cell_of_row _ _ 4 _ _ _ HXr.out
          have z5 := cell_of_row _ _ 5 _ _ _ HXr.out
          simp at z0 z1 z2 z3 z4 z5
          have y0 := cell_of_row _ _ 0 _ _ _ HX3.out
          have y1 := cell_of_row _ _ 1 _ _ _ HX3.out
          have y2 := cell_of_row _ _ 2 _ _ _ HX3.out
          simp at y0 y1 y2
          have kz0 := cell_regrown z0
          have kz1 := cell_regrown z1
          have kz2 := cell_regrown z2
          have kz3 := cell_regrown z3
          have kz4 := cell_regrown z4
          have kz5 := cell_regrown z5
          have ky0 := cell_regrown y0
          have ky1 := cell_regrown y1
          have ky2 := cell_regrown y2
          obtain ⟨w3, hw3⟩ : ∃ w3, w3 = wc := ⟨_, rfl⟩
          rw [← hw3] at HF3 HX3 HB3 z0 z1 z2 z3 z4 z5 y0 y1 y2 kz0 kz1 kz2 kz3 kz4 kz5 ky0 ky1 ky2 ⊢
          clear hsx hnx hbx hbc hxr2 HXr hw3 HG HCl HF2 HX2 HB2
          go_upto_region 9 with fail
          refine wp_region_quiet_below (by kernel_rfl) (by kernel_rfl) ?_
          repeat (go_big_quiet_step (first
            | (go_at_call 23; exact Calls.regrown_of (stamp_lit _ _ _ _ _ _ _ _ _))))
          refine wpQuiet_nil ?_
          rintro _ ⟨⟨dq, osq⟩, rfl⟩
          have hbr := below_regrown w3 dq osq
          generalize Go.Sort.grow (redrawn w3 dq) osq = W4 at hbr ⊢
          have HF4 := hidIn (HF3.out.keep hbr)
          have HX4 := hidIn ((hbr.block _ (block_lt HX3.out)).trans HX3.out)
          have HB4 := hidIn (HB3.out.trans (hbr.mono HB3.out.size))
          clear hbr z0 z1 z2 z3 z4 z5 y0 y1 y2 kz0 kz1 kz2 kz3 kz4 kz5 ky0 ky1 ky2 HF3 HX3 HB3 heq
          by_cases heq : ((xo, xe, xs) : Ed) = (so, se, sq)
          · rw [show (decide (xo = so) && (decide (xe = se) && decide (xs = sq))) = true by simpa using heq]
            obtain ⟨b, w', hb, hrun, hfl, hfr, hmap, hcl⟩ := free_mem HF4.out Hup.out hso
            have hbb : b5 ≠ b := fun e => by
              obtain ⟨es, cl, hm⟩ := hmap
              rw [← e, HX4.out] at hm
              cases hm
            have HD : Hid (∀ wq, Fr (fun j => j = b) W4 wq → wq.cell? ⟨P, 5, none⟩ = some (.map (some O)) ∧ (Instr.lookup 89 (.map (some O)) (.int .i64 p) false).run Try.prog wq = .ok (.map (some b)) wq ∧ wq.cell? ⟨b5, 0, none⟩ = some (.int .i64 so)) := hidIn fun wq hq => by
              have e1 := (hq.block _ (block_lt HX4.out) hbb).trans HX4.out
              have c1 := cell_of_row _ _ 0 _ _ _ e1
              simp at c1
              exact ⟨(hcl wq hq).1, (hcl wq hq).2, c1⟩
            have HRu := hidIn hrun
            have HFn := hidIn hfr
            have HO : Hid (AckAns w w' P O S M n s f ob p so se sq (.returned (.int .i64 0))) := hidIn (.inr (.inr ⟨Hot.out, Hms.out, Hup.out, rfl, by rw [HSt.out, if_pos heq]; exact hfl, (Fr.of_below HB4.out).trans (hfr.mono fun k _ hk => ⟨p, by rw [hk]; exact hb⟩)⟩))
            clear heq hb hrun hfl hfr hmap hcl hbb HF4 HX4 HB4
            go_upto_region 10 with fail
            refine wp_region_held_drew (S := fun wx => Fr (fun j => j = b) W4 wx) (by kernel_rfl) ((Fr.refl _ W4).drew) (fun hHeld => ?_)
            refine wpAnyH_take (i := 0) (v := ?_) rfl (by kernel_rfl) (by kernel_rfl) (by kernel_rfl) (fun _ _ _ h => h) (Or.inl ⟨by rfl, ?_⟩) (by assumption) ?_
            rotate_left
            · intro wq hSw
              clear hSw
              go_simp
              try (with_reducible rfl)
            refine wpAnyH_take (i := 1) (v := ?_) rfl (by kernel_rfl) (by kernel_rfl) (by kernel_rfl) (fun _ _ _ h => h) (Or.inl ⟨by rfl, ?_⟩) (by assumption) ?_
            rotate_left
            · intro wq hSw
              clear hSw
              go_simp
              try (with_reducible rfl)
            refine wpAnyH_take (i := 2) (v := ?_) rfl (by kernel_rfl) (by kernel_rfl) (by kernel_rfl) (fun _ _ _ h => h) (Or.inl ⟨by rfl, ?_⟩) (by assumption) ?_
            rotate_left
            · intro wq hSw
              clear hSw
              go_simp
              try (with_reducible rfl)
            refine wpAnyH_take (i := 3) (v := ?_) rfl (by kernel_rfl) (by kernel_rfl) (by kernel_rfl) (fun _ _ _ h => h) (Or.inl ⟨by rfl, ?_⟩) (by assumption) ?_
            rotate_left
            · intro wq hSw
              obtain ⟨z0, _, _⟩ := HD.out wq hSw
              clear hSw
              go_simp
              try (with_reducible rfl)
            refine wpAnyH_take (i := 4) (v := ?_) rfl (by kernel_rfl) (by kernel_rfl) (by kernel_rfl) (fun _ _ _ h => h) (Or.inl ⟨by rfl, ?_⟩) (by assumption) ?_
            rotate_left
            · intro wq hSw
              clear hSw
              go_simp
              try (with_reducible rfl)
            refine wpAnyH_take (i := 5) (v := ?_) rfl (by kernel_rfl) (by kernel_rfl) (by kernel_rfl) (fun _ _ _ h => h) (Or.inl ⟨by rfl, ?_⟩) (by assumption) ?_
            rotate_left
            · intro wq hSw
              obtain ⟨_, z0, _⟩ := HD.out wq hSw
              clear hSw
              go_simp
              try (with_reducible rfl)
            refine wpAnyH_take (i := 6) (v := ?_) rfl (by kernel_rfl) (by kernel_rfl) (by kernel_rfl) (fun _ _ _ h => h) (Or.inl ⟨by rfl, ?_⟩) (by assumption) ?_
            rotate_left
            · intro wq hSw
              clear hSw
              go_simp
              try (with_reducible rfl)
            refine wpAnyH_take (i := 7) (v := ?_) rfl (by kernel_rfl) (by kernel_rfl) (by kernel_rfl) (fun _ _ _ h => h) (Or.inl ⟨by rfl, ?_⟩) (by assumption) ?_
            rotate_left
            · intro wq hSw
              obtain ⟨_, _, z0⟩ := HD.out wq hSw
              clear hSw
              go_simp
              try (with_reducible rfl)
            refine wpAnyH_ready (rs := [8]) (by kernel_rfl) (by simp) ?_
            have hru := HRu.out
            refine AllReadyH.cons (i := 8) rfl ?_ AllReadyH.nil
            go_simp
            clear hru
            intro K hK
            refine hK.out _ _ HFn.out (fun _ => ?_)
            clear hK K hHeld
            refine wpAnyH_done (by kernel_rfl) ?_ _
            clear HRu HFn HD
            go_wp2_with fail
            go_ret
            exact HO.out
          · rw [show (decide (xo = so) && (decide (xe = se) && decide (xs = sq))) = false from Bool.eq_false_iff.2 (fun h => heq (by simpa using h))]
            have HO : Hid (AckAns w W4 P O S M n s f ob p so se sq (.returned (.int .i64 0))) := hidIn (.inr (.inr ⟨Hot.out, Hms.out, Hup.out, rfl, by rw [HSt.out, if_neg heq]; exact HF4.out, Fr.of_below HB4.out⟩))
            clear heq HF4 HX4 HB4
            go_wp2_with fail
            go_ret
            exact HO.out
    · have hen2 : en = 2 := by rw [Hen.out, if_neg hms]
      subst hen2
      have HO : Hid (AckAns w w2 P O S M n s f ob p so se sq (.returned (.int .i64 2))) := hidIn (.inl ⟨.inr (by simpa using hms), rfl, HB2.out⟩)
      clear hms Hen
      go_wp2_with fail
      go_ret
      exact HO.out
end Go.Proofs.Yteaaoipipjkgnaa
namespace Go.Proofs.Yteaaoipipjkgnaa
open Go.RowKit Go.Maps

/-- The 75 cells: a stamp for each router. -/
def gs (f : Nat → Ed) : List Value := fl sc3 ((List.range 25).map f)
def no3 : Nat → Ed := fun _ => (0, 0, 0)
def upS (f : Nat → Ed) (n : Nat) (x : Ed) : Nat → Ed := fun i => if i = n then x else f i
theorem gs_len (f : Nat → Ed) : (gs f).length = 75 := by unfold gs; rw [fl_length (cs := sc3) (sz := 3) (fun _ => rfl)]; simp
theorem gs_get (f : Nat → Ed) {q s : Nat} (hq : q < 25) (hs : s < 3) : (gs f)[q * 3 + s]? = (sc3 (f q))[s]? :=
  fl_get (cs := sc3) (sz := 3) (fun _ => rfl) _ q s (f q) (by rw [List.getElem?_map, List.getElem?_range hq]; rfl) hs
theorem gs_put (f : Nat → Ed) {n : Nat} (_hn : n < 25) (x : Ed) : (((gs f).set (n * 3) (.int .i64 x.1)).set (n * 3 + 1) (.int .u32 x.2.1)).set (n * 3 + 2) (.int .u32 x.2.2) = gs (upS f n x) := by
  apply List.ext_getElem?
  intro m
  simp only [List.getElem?_set, List.length_set, gs_len]
  by_cases hm : m < 75
  · obtain ⟨q, s, hq, hs, rfl⟩ : ∃ q s, q < 25 ∧ s < 3 ∧ m = q * 3 + s := ⟨m / 3, m % 3, by omega, by omega, by omega⟩
    rw [gs_get _ hq hs, gs_get _ hq hs]
    by_cases hqn : q = n
    · subst hqn
      have hu : upS f q x q = x := by simp [upS]
      rw [hu]
      match s, hs with
      | 0, _ => rw [if_neg (by omega), if_neg (by omega), if_pos (by omega), if_pos (by omega)]; rfl
      | 1, _ => rw [if_neg (by omega), if_pos (by omega), if_pos (by omega)]; rfl
      | 2, _ => rw [if_pos (by omega), if_pos (by omega)]; rfl
    · have hu : upS f n x q = f q := by simp [upS, hqn]
      rw [hu, if_neg (by omega), if_neg (by omega), if_neg (by omega)]
  · rw [if_neg (by omega), if_neg (by omega), if_neg (by omega), List.getElem?_eq_none (by rw [gs_len]; omega), List.getElem?_eq_none (by rw [gs_len]; omega)]
theorem gs_one (f : Nat → Ed) : (gs f).toArray.all (·.oneCell') = true := all_oneCell_toArray (fun v hv => by
  unfold gs fl at hv
  obtain ⟨x, _, hx⟩ := List.mem_flatMap.1 hv
  simp only [sc3, List.mem_cons, List.not_mem_nil, or_false] at hx
  rcases hx with rfl | rfl | rfl <;> rfl)
theorem below_setCellsS (b : Nat) : ∀ (vs : List Value) (o : Nat) (w : World) (B : Nat), B ≤ b → Below B w (w.setCells b o vs)
  | [], _, w, B, _ => Below.refl _ _
  | v :: r, o, w, B, h => by
    rw [World.setCells]
    exact ((Below.refl B w).setCell (p := ⟨b, o, none⟩) h v).trans (below_setCellsS b r (o + 1) _ B h)
theorem arr_there {w : World} {b : Nat} {T : TypeId} {vs : List Value} (h : Arr w b T vs) : w.there b 0 vs.length := fun j hj => ⟨by rw [Nat.zero_add, h.cell, List.getElem?_eq_getElem hj]; rfl, h.frozen _⟩
/-- One stamp more, or refused. -/
def addS (o : Option (Nat → Ed)) (x : Ed) : Option (Nat → Ed) := o.bind fun f => if mayS x.1 x.2.1 x.2.2 = true ∧ f x.1.toNat = (0, 0, 0) then some (upS f x.1.toNat x) else none
def byS (l : List Ed) : Option (Nat → Ed) := l.foldl addS (some no3)
theorem byS_none : ∀ l : List Ed, l.foldl addS none = none
  | [] => rfl
  | _ :: l => byS_none l
theorem byS_take {l : List Ed} {k : Nat} {x : Ed} {f : Nat → Ed} (h : byS (l.take k) = some f) (hx : l[k]? = some x) : byS (l.take (k + 1)) = addS (some f) x ∧ (addS (some f) x = none → byS l = none) := by
  have h1 : l.take (k + 1) = l.take k ++ [x] := by rw [List.take_add_one, hx]; rfl
  have h2 : byS (l.take (k + 1)) = addS (some f) x := by
    rw [h1]
    unfold byS at h ⊢
    rw [List.foldl_append, h]
    rfl
  refine ⟨h2, fun h3 => ?_⟩
  rw [h3] at h2
  have h4 := List.take_append_drop (k + 1) l
  unfold byS at h2 ⊢
  rw [← h4, List.foldl_append, h2]
  exact byS_none _
/-- What byOrigin answers. -/
def ByAns (o : Option (Nat → Ed)) (e : Ending) : Prop := (∃ f, o = some f ∧ e = .returned (.tuple #[.agg (gs f).toArray, .int .i64 0])) ∨ (o = none ∧ e = .returned (.tuple #[.agg (gs no3).toArray, .int .i64 2]))
end Go.Proofs.Yteaaoipipjkgnaa
namespace Go.Proofs.Yteaaoipipjkgnaa
open Go.RowKit Go.Maps

theorem eqZ (x : Ed) (w : World) : (Op.equalIn 10000 67 (.agg #[.int .i64 x.1, .int .u32 x.2.1, .int .u32 x.2.2]) (.agg #[.int .i64 0, .int .u32 0, .int .u32 0])).run Try.prog w = Result.ok (decide (x = (0, 0, 0))) w := eqSt x (0, 0, 0) w
end Go.Proofs.Yteaaoipipjkgnaa
namespace Go.Proofs.Yteaaoipipjkgnaa
open Go.RowKit Go.Maps

def ansF (f : Sf) (g : Nat → Ed) (i : Nat) : Int := newI (rOf (f (i : Int))).epoch (rOf (f (i : Int))).seq (g i).2.1 (g i).2.2
def no0 : Nat → Int := fun _ => 0
def upI (c : Nat → Int) (i : Nat) (v : Int) : Nat → Int := fun j => if j = i then v else c j
theorem rcl_up (c : Nat → Int) {n : Nat} (_h : n < 25) (v : Int) : (rcl c).set n (.int .i64 v) = rcl (upI c n v) := by
  apply List.ext_getElem?
  intro j
  rw [List.getElem?_set]
  by_cases hj : j < 25
  · rw [rcl_get _ hj, rcl_get _ hj]
    by_cases hn : n = j
    · subst hn; rw [if_pos rfl, if_pos (by rw [rcl_len]; exact hj)]; simp [upI]
    · rw [if_neg hn]
      have : upI c n v j = c j := by unfold upI; rw [if_neg (fun e => hn e.symm)]
      rw [this]
  · rw [List.getElem?_eq_none (by rw [rcl_len]; omega), List.getElem?_eq_none (by rw [rcl_len]; omega), if_neg (by omega)]
theorem rcl_ext {c d : Nat → Int} (h : ∀ i, i < 25 → c i = d i) : rcl c = rcl d := by
  unfold rcl
  apply List.map_congr_left
  intro i hi
  rw [h i (by simpa using hi)]
theorem rcl_one (c : Nat → Int) : (rcl c).toArray.all (·.oneCell') = true := all_oneCell_toArray (fun v hv => by simp only [rcl, List.mem_map] at hv; obtain ⟨_, _, rfl⟩ := hv; rfl)
end Go.Proofs.Yteaaoipipjkgnaa
namespace Go.Proofs.Yteaaoipipjkgnaa
open Go.RowKit Go.Maps

def sendL (f : Sf) (g : Nat → Ed) (n : Nat) : List Rc := (List.range n).filterMap fun (i : Nat) => if ansF f g i = 1 then some (rOf (f (i : Int))) else none
def wantL (f : Sf) (g : Nat → Ed) (n : Nat) : List Int := (List.range n).filterMap fun (i : Nat) => if ansF f g i = -1 then some (i : Int) else none
theorem sendL_succ (f : Sf) (g : Nat → Ed) (n : Nat) : sendL f g (n + 1) = sendL f g n ++ (if ansF f g n = 1 then [rOf (f (n : Int))] else []) := by
  unfold sendL
  rw [List.range_succ, List.filterMap_append]
  by_cases h : ansF f g n = 1 <;> simp [h]
theorem wantL_succ (f : Sf) (g : Nat → Ed) (n : Nat) : wantL f g (n + 1) = wantL f g n ++ (if ansF f g n = -1 then [(n : Int)] else []) := by
  unfold wantL
  rw [List.range_succ, List.filterMap_append]
  by_cases h : ansF f g n = -1 <;> simp [h]
theorem ansF_vals (f : Sf) (g : Nat → Ed) (n : Nat) : ansF f g n = -1 ∨ ansF f g n = 0 ∨ ansF f g n = 1 := newI_vals _ _ _ _
theorem row_ty {w : World} {base k size : Nat} {e : TypeId} {u : Value} {xs : List Value} (h : w.ownsRow base e size u k xs) {j : Nat} (hj : u.ownBlock = some j) : ∃ cur, w.heap[j]? = some (Obj.cells cur e) := by
  rcases h.2 with ⟨rfl, _⟩ | ⟨g, cap, cur, rfl, _, hh, _⟩
  · simp [Value.ownBlock] at hj
  · simp [Value.ownBlock] at hj
    subst hj
    exact ⟨cur, hh⟩
theorem infoInt9 : (Try.prog.info? 3).map (fun i => (i.zero, i.size, i.bytes)) = some (some (.int .i64 0), 1, 8) := by kernel_rfl
theorem append_in {W : World} {base k : Nat} {u : Value} {l : List Int} (hr : W.ownsRow base 3 1 u k (fl ic l)) (x : Int) (hk : (k + 1) * 8 ≤ 140737488355328) (hbase : base ≤ W.heap.size) :
    ∃ g cap w6, (Builtin.append_ #[134, 134] 134 #[u, .slice (some ⟨W.heap.size, 0, none⟩) 1 1]).run Try.prog (W.alloc (.cells (ic x).toArray 3)) = .ok (.slice (some ⟨g, 0, none⟩) (k + 1) cap) w6 ∧
      w6.ownsRow base 3 1 (.slice (some ⟨g, 0, none⟩) (k + 1) cap) (k + 1) (fl ic (l ++ [x])) ∧ (u.ownBlock = some g ∨ g = W.heap.size + 1) ∧ W.grownBy w6 u.ownBlock ∧ Below base W w6 :=
  append_one (P := Try.prog) (cs := ic) (T := 134) (fun _ => rfl) (fun _ => by simp [Value.oneCell']) Try.underlying134 infoInt9 rfl (by decide) hr x hk (by unfold maxLen; omega) hbase
/-- What Missing answers. -/
def MisAns (w w' : World) (f : Sf) (o : Option (Nat → Ed)) (e : Ending) : Prop :=
  (o = none ∧ e = .returned (.tuple #[.slice none 0 0, .slice none 0 0, .int .i64 2])) ∨
    ∃ g u v L, o = some g ∧ e = .returned (.tuple #[u, v, .int .i64 0]) ∧ w'.ownsRow w.heap.size 38 6 u L.length (fl rcc L) ∧ rcs L = sendL f g 25 ∧ (∀ x ∈ L, FrRec w w' x) ∧ w'.ownsRow w.heap.size 3 1 v (wantL f g 25).length (fl ic (wantL f g 25))
/-- Amid it. -/
def MisM (w wr : World) (f : Sf) (g : Nat → Ed) (k : Nat) (u v : Value) : Prop :=
  ∃ L, wr.ownsRow w.heap.size 38 6 u L.length (fl rcc L) ∧ rcs L = sendL f g k ∧ (∀ x ∈ L, FrRec w wr x) ∧ wr.ownsRow w.heap.size 3 1 v (wantL f g k).length (fl ic (wantL f g k)) ∧ L.length ≤ k ∧ (wantL f g k).length ≤ k ∧ Below w.heap.size w wr
theorem MisM.keep {w wr w' : World} {f : Sf} {g : Nat → Ed} {k : Nat} {u v : Value} (h : MisM w wr f g k u v) (hb : Below wr.heap.size wr w') : MisM w w' f g k u v := by
  obtain ⟨L, h1, h2, h3, h4, h5, h6, h7⟩ := h
  exact ⟨L, row_below h1 hb (Nat.le_refl _), h2, fun x hx => (h3 x hx).keep hb, row_below h4 hb (Nat.le_refl _), h5, h6, h7.trans (hb.mono h7.size)⟩
theorem MisM.send {w W : World} {f : Sf} {g : Nat → Ed} {k : Nat} {u v : Value} (h : MisM w W f g k u v) (hk : k < 25) (ha : ansF f g k = 1) {x : Rc × Value} (hx : FrRec w W x) (hr : x.1 = rOf (f (k : Int))) :
    ∃ gg cap w6, (Builtin.append_ #[42, 42] 42 #[u, .slice (some ⟨W.heap.size, 0, none⟩) 1 1]).run Try.prog (W.alloc (.cells (rcc x).toArray 38)) = .ok (.slice (some ⟨gg, 0, none⟩) ((sendL f g k).length + 1) cap) w6 ∧ MisM w w6 f g (k + 1) (.slice (some ⟨gg, 0, none⟩) ((sendL f g k).length + 1) cap) v := by
  obtain ⟨L, h1, h2, h3, h4, h5, h6, h7⟩ := h
  obtain ⟨gg, cap, w6, hrun, hown, hb6, hF6⟩ := append_recF h1 x hx.one (by omega) h7.size
  have hLs : (sendL f g k).length = L.length := by rw [← h2, List.length_map]
  rw [hLs]
  have hno : ∀ (j : Nat) (cur : Array Value), W.heap[j]? = some (Obj.cells cur 98) → ¬ ∃ cur, W.heap[j]? = some (Obj.cells cur 38) := fun j cur h ⟨cur', h'⟩ => by
    rw [h] at h'
    simp at h'
  have hno2 : ∀ j, v.ownBlock = some j → ¬ ∃ cur, W.heap[j]? = some (Obj.cells cur 38) := fun j hj ⟨cur', h'⟩ => by
    obtain ⟨cur, h⟩ := row_ty h4 hj
    rw [h] at h'
    simp at h'
  have hl : (L ++ [x]).length = L.length + 1 := by simp
  refine ⟨gg, cap, w6, hrun, L ++ [x], by rw [hl]; exact hown, ?_, fun y hy => ?_, ?_, by rw [hl]; omega, ?_, h7.trans hb6⟩
  · rw [sendL_succ, if_pos ha, ← h2, ← hr]; simp
  · rcases List.mem_append.1 hy with hy | hy
    · exact (h3 y hy).fr hF6 hno
    · rw [List.mem_singleton.1 hy]; exact hx.fr hF6 hno
  · rw [wantL_succ, if_neg (by omega), List.append_nil]
    exact row_fr h4 hF6 hno2
  · rw [wantL_succ, if_neg (by omega), List.append_nil]; omega
theorem MisM.want {w W : World} {f : Sf} {g : Nat → Ed} {k : Nat} {u v : Value} (h : MisM w W f g k u v) (hk : k < 25) (ha : ansF f g k = -1) :
    ∃ gg cap w6, (Builtin.append_ #[134, 134] 134 #[v, .slice (some ⟨W.heap.size, 0, none⟩) 1 1]).run Try.prog (W.alloc (.cells (ic (k : Int)).toArray 3)) = .ok (.slice (some ⟨gg, 0, none⟩) ((wantL f g k).length + 1) cap) w6 ∧ MisM w w6 f g (k + 1) u (.slice (some ⟨gg, 0, none⟩) ((wantL f g k).length + 1) cap) := by
  obtain ⟨L, h1, h2, h3, h4, h5, h6, h7⟩ := h
  obtain ⟨gg, cap, w6, hrun, hown, _, hg6, hb6⟩ := append_in h4 (k : Int) (by omega) h7.size
  have hF6 : Fr (fun j => v.ownBlock = some j) W w6 := ⟨hg6.os, hg6.tape, hg6.output, hg6.size, fun j hj hn => hg6.block j hj (fun e => hn e.symm)⟩
  have hl : (wantL f g (k + 1)) = wantL f g k ++ [(k : Int)] := by rw [wantL_succ, if_pos ha]
  refine ⟨gg, cap, w6, hrun, L, row_fr h1 hF6 (fun j hj hv => ?_), ?_, fun y hy => (h3 y hy).fr hF6 (fun j cur hj hv => ?_), by rw [hl, List.length_append]; exact hown, by omega, by rw [hl, List.length_append]; simp; omega, h7.trans hb6⟩
  · obtain ⟨c1, e1⟩ := row_ty h1 hj
    obtain ⟨c2, e2⟩ := row_ty h4 hv
    rw [e1] at e2
    simp at e2
  · rw [sendL_succ, if_neg (by omega), List.append_nil]; exact h2
  · obtain ⟨c2, e2⟩ := row_ty h4 hv
    rw [hj] at e2
    simp at e2
theorem MisM.none {w W : World} {f : Sf} {g : Nat → Ed} {k : Nat} {u v : Value} (h : MisM w W f g k u v) (ha : ansF f g k = 0) : MisM w W f g (k + 1) u v := by
  obtain ⟨L, h1, h2, h3, h4, h5, h6, h7⟩ := h
  have e1 : sendL f g (k + 1) = sendL f g k := by rw [sendL_succ, if_neg (by omega), List.append_nil]
  have e2 : wantL f g (k + 1) = wantL f g k := by rw [wantL_succ, if_neg (by omega), List.append_nil]
  refine ⟨L, h1, by rw [e1]; exact h2, h3, ?_, by omega, ?_, h7⟩
  · rw [e2]; exact h4
  · rw [e2]; omega
theorem MisM.shape {w W : World} {f : Sf} {g : Nat → Ed} {k : Nat} {u v : Value} (h : MisM w W f g k u v) : ∃ a c b d, u = .slice a (sendL f g k).length c ∧ v = .slice b (wantL f g k).length d := by
  obtain ⟨L, h1, h2, _, h4, _⟩ := h
  obtain ⟨a, c, e1⟩ := row_shape h1
  obtain ⟨b, d, e2⟩ := row_shape h4
  have : (sendL f g k).length = L.length := by rw [← h2, List.length_map]
  exact ⟨a, c, b, d, by rw [this]; exact e1, e2⟩
end Go.Proofs.Yteaaoipipjkgnaa
namespace Go.Proofs.Yteaaoipipjkgnaa
open Go.RowKit Go.Maps

end Go.Proofs.Yteaaoipipjkgnaa
namespace Go.Proofs.Yteaaoipipjkgnaa
open Go.RowKit Go.Maps

theorem StAt.org {w : World} {S M n : Nat} {f : Sf} (h : StAt w S M n f) {k : Int} {g : Rc} (hk : fR f k = some g) : recOk g = true ∧ g.origin = k ∧ 0 ≤ g.epoch ∧ 0 ≤ g.seq := by
  unfold fR at hk
  cases h1 : f k with
  | none => rw [h1] at hk; cases hk
  | some p =>
    rw [h1] at hk
    simp at hk
    obtain ⟨r, u⟩ := p
    simp at hk
    subst hk
    obtain ⟨a, b, _, _, c, d⟩ := h.v k r u h1
    exact ⟨a, b, c, d⟩
/-- Records laid by their origins. -/
def layR (F : Rf) (r : Rc) : Rf := putO F r.origin r
theorem lay_all {F : Rf} (hF : ∀ k g, F k = some g → g.origin = k ∧ 1 ≤ k ∧ k ≤ 24) : ∀ n, n ≤ 24 → ∀ k, (allR F n).foldl layR noR9 k = if 1 ≤ k ∧ k ≤ (n : Int) then F k else none
  | 0, _, k => by
    rw [if_neg (by omega)]
    rfl
  | n + 1, hn, k => by
    have he : allR F (n + 1) = allR F n ++ (F ((n : Int) + 1)).toList := by
      unfold allR
      rw [List.range_succ, List.filterMap_append]
      cases hq : F ((n : Int) + 1) <;> simp [hq]
    have ih := lay_all hF n (by omega)
    rw [he, List.foldl_append]
    cases hq : F ((n : Int) + 1) with
    | none =>
      simp only [Option.toList_none, List.foldl_nil]
      rw [ih k]
      by_cases hk : k = (n : Int) + 1
      · rw [hk, if_neg (by omega), if_pos (by omega), hq]
      · by_cases h1 : 1 ≤ k ∧ k ≤ (n : Int)
        · rw [if_pos h1, if_pos (by omega)]
        · rw [if_neg h1, if_neg (by omega)]
    | some g =>
      simp only [Option.toList_some, List.foldl_cons, List.foldl_nil]
      have hg := (hF _ g hq).1
      show putO (List.foldl layR noR9 (allR F n)) g.origin g k = _
      rw [hg]
      by_cases hk : k = (n : Int) + 1
      · rw [hk, putO_same, if_pos (by omega), hq]
      · rw [putO_other _ _ hk, ih k]
        by_cases h1 : 1 ≤ k ∧ k ≤ (n : Int)
        · rw [if_pos h1, if_pos (by omega)]
        · rw [if_neg h1, if_neg (by omega)]
theorem lay_same {w : World} {S M n : Nat} {f : Sf} (h : StAt w S M n f) : (allR (fR f) 24).foldl layR noR9 = fR f := by
  have hF : ∀ k g, fR f k = some g → g.origin = k ∧ 1 ≤ k ∧ k ≤ 24 := fun k g hk => by
    have h1 := h.org hk
    have h2 := recOk_pos h1.1
    omega
  funext k
  rw [lay_all hF 24 (by omega) k]
  by_cases hk : 1 ≤ k ∧ k ≤ ((24 : Nat) : Int)
  · rw [if_pos hk]
  · rw [if_neg hk]
    cases hq : fR f k with
    | none => rfl
    | some g => have := hF k g hq; omega
theorem allR_of {F : Rf} {n : Nat} {g : Rc} (h : g ∈ allR F n) : ∃ k, F k = some g := by
  unfold allR at h
  obtain ⟨j, _, hj⟩ := List.mem_filterMap.1 h
  exact ⟨_, hj⟩
/-- One record laid into the map. -/
theorem StAt.upd {w : World} {S M n : Nat} {f : Sf} (h : StAt w S M n f) (hn : n < 1000000) {r : Rc} {u : Value} (hok : recOk r = true) (hu : SlAt ac 2 w u r.adjs) (hnil : NilOk u) (hp : 0 ≤ r.epoch ∧ 0 ≤ r.seq) :
    ∃ w', (Instr.mapUpdate 123 (.map (some M)) (.int .i64 r.origin) (recV r u)).run Try.prog w = .ok () w' ∧ StAt w' S M (n + 1) (putO f r.origin (r, u)) ∧ Fr (fun k => k = M) w w' := by
  obtain ⟨w6, hrun, hm6, hF6⟩ := h.m.put hn (x := r.origin) (wf9 (by have := (recOk_parts hok).1; omega)) (recV r u)
  have hSM : ¬ S = M := fun e => by
    have h1 := h.p
    obtain ⟨es, cl, hb⟩ := h.m.isMap
    rw [e, hb] at h1
    cases h1
  refine ⟨w6, hrun, ⟨(hF6.block S (block_lt h.p) hSM).trans h.p, ?_, fun k r' u' hk => ?_⟩, hF6⟩
  · have he : putO (sV f) r.origin (recV r u) = sV (putO f r.origin (r, u)) := by
      funext j
      unfold sV putO
      by_cases hj : j = r.origin
      · rw [if_pos hj, if_pos hj]; rfl
      · rw [if_neg hj, if_neg hj]
    rw [← he]
    exact hm6
  · by_cases hj : k = r.origin
    · rw [hj, putO_same] at hk
      simp only [Option.some.injEq, Prod.mk.injEq] at hk
      obtain ⟨rfl, rfl⟩ := hk
      exact ⟨hok, hj.symm, hu.keepM hF6 h.m.isMap (by omega) (fun _ => rfl), hnil, hp⟩
    · rw [putO_other f _ hj] at hk
      obtain ⟨h1, h2, h3, h4⟩ := h.v k r' u' hk
      exact ⟨h1, h2, h3.keepM hF6 h.m.isMap (by omega) (fun _ => rfl), h4⟩
/-- A copy. -/
def CpyAns (w w' : World) (f : Sf) (e : Ending) : Prop := ∃ S' M' f', e = .returned (ptr S') ∧ StAt w' S' M' 24 f' ∧ fR f' = fR f ∧ w.heap.size ≤ S' ∧ w.heap.size ≤ M'
set_option maxRecDepth 100000 in
set_option maxHeartbeats 2000000 in
theorem scopy_any {S M n : Nat} {f : Sf} {w : World} (h : StAt w S M n f) :
    Calls Try.prog 64 #[ptr S] w fun e w' => CpyAns w w' f e ∧ Below w.heap.size w w' := by
  have HT := hidIn (there_any h)
  have HS := hidIn h
  have HLs := hidIn (lay_same h)
  clear h
  go_enter Try.func64, Try.ntmps64
  go_wp2_with fail
  refine HT.out.mono ?_
  rintro e w1 ⟨rfl, h1⟩
  rw [h1]
  clear HT h1 w1
  go_wp2_with fail
  refine (snew_any _).mono ?_
  rintro e w2 ⟨⟨S', M', rfl, hn, hS', hM'⟩, hb2⟩
  have HA := hidIn (sall_any (HS.out.keep hb2))
  have Hnew := hidIn hn
  have HB2 := hidIn hb2
  have HSM := hidIn (And.intro hS' hM')
  clear hn hb2 hS' hM'
  go_wp2_with fail
  refine HA.out.mono ?_
  rintro e w3 ⟨⟨u, L, rfl, hrow, hrs, hfr⟩, hb3⟩
  have hL24 : L.length ≤ 24 := by
    have := allL_len f 24
    rw [← hrs, List.length_map] at this
    exact this
  obtain ⟨aa, cap, rfl, hl, _, hat⟩ := (slAt_of_row (cs := rcc) (fun _ => rfl) hrow rfl).recs
  have Hat := hidIn hat
  have Hrs := hidIn hrs
  have HB3 := hidIn (HB2.out.trans (hb3.mono HB2.out.size))
  have Hfr := hidIn hfr
  have Hnew3 := hidIn (Hnew.out.keep hb3)
  have Hrow := hidIn hrow
  obtain ⟨LL, hLL⟩ : ∃ LL, L.length = LL := ⟨_, rfl⟩
  rw [hLL] at Hat hL24 ⊢
  have HLL := hidIn hLL
  clear hat hrs hb3 hfr hrow hl HA hLL Hnew HB2
  go_wp2_with fail
  go_loopw [13] (fun i wr => ∃ k : Nat, k ≤ LL ∧ i = .int .i64 k ∧ Hid (∃ f', StAt wr S' M' k f' ∧ fR f' = ((rcs L).take k).foldl layR noR9 ∧ Fr (fun j => j = M') w3 wr)) (fun i _ => LL - (intOf i).toNat)
  case atStart => exact ⟨0, Nat.zero_le _, rfl, hidIn ⟨_, Hnew3.out, by rw [List.take_zero]; rfl, Fr.refl _ _⟩⟩
  case round =>
    obtain ⟨k, hk, rfl, HR⟩ := hrel
    by_cases hlt : k < LL
    · have hki : (k : Int) < (LL : Int) := by omega
      obtain ⟨f', h1, h2, h3⟩ := HR.out
      obtain ⟨x, hx⟩ : ∃ x, L[k]? = some x := ⟨L[k]'(by rw [HLL.out]; exact hlt), List.getElem?_eq_getElem _⟩
      obtain ⟨bk, o, rfl, hbk, hcell⟩ := Hat.out (by omega)
      obtain ⟨q0, q1, q2, q3, q4, q5⟩ := hcell k x hx
      have hxm := List.mem_of_getElem? hx
      obtain ⟨xa, xc, hxv, hxs, hxn, _⟩ := Hfr.out x hxm
      have hxo : recOk x.1 = true ∧ 0 ≤ x.1.epoch ∧ 0 ≤ x.1.seq := by
        have hm : x.1 ∈ allR (fR f) 24 := by rw [← allL_fR, ← Hrs.out]; exact List.mem_map.2 ⟨x, hxm, rfl⟩
        obtain ⟨kk, hkk⟩ := allR_of hm
        have := HS.out.org hkk
        exact ⟨this.1, this.2.2⟩
      have hmap := Hnew3.out.m.isMap
      have hbM : ¬ bk = M' := fun e => by
        obtain ⟨cur, hc⟩ := row_ty (j := bk) Hrow.out rfl
        obtain ⟨es, cl, hm⟩ := hmap
        rw [e, hm] at hc
        cases hc
      have hbb := h3.block bk hbk hbM
      rw [hxv] at q5
      have p0 := (World.cell?_of_block (a := ⟨bk, o + k * 6, none⟩) hbb).trans q0
      have p1 := (World.cell?_of_block (a := ⟨bk, o + k * 6 + 1, none⟩) hbb).trans q1
      have p2 := (World.cell?_of_block (a := ⟨bk, o + k * 6 + 2, none⟩) hbb).trans q2
      have p3 := (World.cell?_of_block (a := ⟨bk, o + k * 6 + 3, none⟩) hbb).trans q3
      have p4 := (World.cell?_of_block (a := ⟨bk, o + k * 6 + 4, none⟩) hbb).trans q4
      have p5 := (World.cell?_of_block (a := ⟨bk, o + k * 6 + 5, none⟩) hbb).trans q5
      have hxs' := hxs.keepM h3 hmap (by omega) (fun _ => rfl)
      rw [hxv] at hxs' hxn
      have HT : Hid ((rcs L).take (k + 1) = (rcs L).take k ++ [x.1]) := hidIn (by
        rw [List.take_add_one]
        congr 1
        rw [List.getElem?_map, hx]
        rfl)
      generalize x.1 = r at p0 p1 p2 p3 p4 p5 HT hxs' hxn hxo
      obtain ⟨nl, hnl⟩ : ∃ nl, r.adjs.length = nl := ⟨_, rfl⟩
      rw [hnl] at p5 hxs' hxn
      obtain ⟨W4, hW4⟩ : ∃ W4, wr.alloc (.cells #[.int .i64 r.origin, .int .u32 r.epoch, .int .u32 r.seq, .int .i64 r.claim, .bool r.ing, .slice xa nl xc] 38) = W4 := ⟨_, rfl⟩
      have b4 : Below wr.heap.size wr W4 := by rw [← hW4]; exact (Below.refl _ wr).alloc (Nat.le_refl _) _
      have HX : Hid (W4.heap[wr.heap.size]? = some (.cells #[.int .i64 r.origin, .int .u32 r.epoch, .int .u32 r.seq, .int .i64 r.claim, .bool r.ing, .slice xa nl xc] 38)) := hidIn (by rw [← hW4]; exact heap_alloc_last wr _)
      have HS4 := hidIn (h1.keep b4)
      obtain ⟨w6, hrun, hst6, hF6⟩ := StAt.upd (w := W4.drew) (S := S') (M := M') (n := k) (f := f') (h1.keep b4.drew) (by omega) hxo.1 (u := .slice xa nl xc) (hxs'.keep b4.drew (Nat.le_refl _)) hxn hxo.2
      have hF4 : Fr (fun j => j = M') w3 W4 := h3.trans (Fr.of_below b4)
      have HO : Hid (∃ f', StAt w6 S' M' (k + 1) f' ∧ fR f' = ((rcs L).take (k + 1)).foldl layR noR9 ∧ Fr (fun j => j = M') w3 w6) := hidIn ⟨_, hst6, by rw [fR_put, h2, HT.out, List.foldl_append]; rfl, hF4.drew.trans hF6⟩
      have HSM4 : Hid (¬ S' = M') := hidIn fun e => by
        have h1 := HS4.out.p
        obtain ⟨es, cl, hb⟩ := HS4.out.m.isMap
        rw [e, hb] at h1
        cases h1
      obtain ⟨b5, hb5⟩ : ∃ b5, wr.heap.size = b5 := ⟨_, rfl⟩
      rw [hb5] at HX
      have Hne : Hid (¬ b5 = M') := hidIn (by have := h1.lts.2; omega)
      have HW := hidIn hW4
      have HRun := hidIn hrun
      have hS6 : Fr (fun j => j = M') W4 w6 := (Fr.refl _ W4).drew.trans hF6
      have HS6 := hidIn hS6
      clear HR h1 h2 h3 hx hcell q0 q1 q2 q3 q4 q5 hxv hxs hxs' hxn hxm hxo hmap hbM hbb hbk b4 hW4 hrun hst6 hF6 hF4 hnl HT hS6
      go_upto_region 7 with fail
      rw [HW.out]
      clear HW hb5 p0 p1 p2 p3 p4 p5
      refine wp_region_held_drew (S := fun wx => Fr (fun j => j = M') W4 wx) (by kernel_rfl) ((Fr.refl _ W4).drew) (fun hHeld => ?_)
      refine wpAnyH_take (i := 0) (v := ?_) rfl (by kernel_rfl) (by kernel_rfl) (by kernel_rfl) (fun _ _ _ h => h) (Or.inl ⟨by rfl, ?_⟩) (by assumption) ?_
      rotate_left
      · intro wq hSw
        clear hSw
        go_simp
        try (with_reducible rfl)
      refine wpAnyH_take (i := 1) (v := ?_) rfl (by kernel_rfl) (by kernel_rfl) (by kernel_rfl) (fun _ _ _ h => h) (Or.inl ⟨by rfl, ?_⟩) (by assumption) ?_
      rotate_left
      · intro wq hSw
        clear hSw
        go_simp
        try (with_reducible rfl)
      refine wpAnyH_take (i := 2) (v := ?_) rfl (by kernel_rfl) (by kernel_rfl) (by kernel_rfl) (fun _ _ _ h => h) (Or.inl ⟨by rfl, ?_⟩) (by assumption) ?_
      rotate_left
      · intro wq hSw
        clear hSw
        go_simp
        try (with_reducible rfl)
      refine wpAnyH_take (i := 3) (v := ?_) rfl (by kernel_rfl) (by kernel_rfl) (by kernel_rfl) (fun _ _ _ h => h) (Or.inl ⟨by rfl, ?_⟩) (by assumption) ?_
      rotate_left
      · intro wq hSw
        have hq := (hSw.block S' (block_lt HS4.out.p) HSM4.out).trans HS4.out.p
        have z0 := cell_of_row _ _ 0 _ _ _ hq
        simp at z0
        clear hq
        clear hSw
        go_simp
        try (with_reducible rfl)
      refine wpAnyH_take (i := 4) (v := ?_) rfl (by kernel_rfl) (by kernel_rfl) (by kernel_rfl) (fun _ _ _ h => h) (Or.inl ⟨by rfl, ?_⟩) (by assumption) ?_
      rotate_left
      · intro wq hSw
        clear hSw
        go_simp
        try (with_reducible rfl)
      refine wpAnyH_take (i := 5) (v := ?_) rfl (by kernel_rfl) (by kernel_rfl) (by kernel_rfl) (fun _ _ _ h => h) (Or.inl ⟨by rfl, ?_⟩) (by assumption) ?_
      rotate_left
      · intro wq hSw
        have hq := (hSw.block b5 (block_lt HX.out) Hne.out).trans HX.out
        have z0 := cell_of_row _ _ 0 _ _ _ hq
        have z1 := cell_of_row _ _ 1 _ _ _ hq
        have z2 := cell_of_row _ _ 2 _ _ _ hq
        have z3 := cell_of_row _ _ 3 _ _ _ hq
        have z4 := cell_of_row _ _ 4 _ _ _ hq
        have z5 := cell_of_row _ _ 5 _ _ _ hq
        simp at z0 z1 z2 z3 z4 z5
        clear hq
        clear hSw
        go_simp
        try (with_reducible rfl)
      refine wpAnyH_take (i := 6) (v := ?_) rfl (by kernel_rfl) (by kernel_rfl) (by kernel_rfl) (fun _ _ _ h => h) (Or.inl ⟨by rfl, ?_⟩) (by assumption) ?_
      rotate_left
      · intro wq hSw
        have hq := (hSw.block b5 (block_lt HX.out) Hne.out).trans HX.out
        have z0 := cell_of_row _ _ 0 _ _ _ hq
        have z1 := cell_of_row _ _ 1 _ _ _ hq
        have z2 := cell_of_row _ _ 2 _ _ _ hq
        have z3 := cell_of_row _ _ 3 _ _ _ hq
        have z4 := cell_of_row _ _ 4 _ _ _ hq
        have z5 := cell_of_row _ _ 5 _ _ _ hq
        simp at z0 z1 z2 z3 z4 z5
        clear hq
        clear hSw
        go_simp
        try (with_reducible rfl)
      refine wpAnyH_ready (rs := [7]) (by kernel_rfl) (by simp) ?_
      refine AllReadyH.cons rfl (fun K hK => ?_) AllReadyH.nil
      have hr := HRun.out
      go_simp
      refine hK.out _ _ HS6.out (fun _ => ?_)
      clear hK K
      refine wpAnyH_done (by kernel_rfl) ?_ _
      go_wp2_with fail
      go_roundw
      case rel => exact ⟨k + 1, by omega, by go_num, HO⟩
      case measure => simp [intOf]; omega
    · have hki : ¬ ((k : Int) < (LL : Int)) := by omega
      obtain ⟨f', h1, h2, h3⟩ := HR.out
      have HO : Hid (StAt wr S' M' 24 f' ∧ fR f' = fR f ∧ Below w.heap.size w wr) := hidIn ⟨h1.mono (by omega), by rw [h2, List.take_of_length_le (by rw [List.length_map, HLL.out]; omega), Hrs.out, allL_fR, HLs.out], HB3.out.trans (h3.below HB3.out.size (fun j hj => by rw [hj]; exact HSM.out.2))⟩
      clear HR h1 h2 h3
      go_wp2_with fail
      go_ret
      exact ⟨⟨S', M', f', rfl, HO.out.1, HO.out.2.1, HSM.out⟩, HO.out.2.2⟩
end Go.Proofs.Yteaaoipipjkgnaa
namespace Go.Proofs.Yteaaoipipjkgnaa
open Go.RowKit Go.Maps

theorem l_put {P : Program} {ops : Array Oper} {rest : List Oper} {o : Oper} {a : Act} {w w' : World} {Q : Exit → Act → World → Prop}
    (hg : o.guard = none) (m x v : Operand) (t : TypeId) (hop : o.op = Op.mapUpdate t m x v)
    (hrun : (Instr.mapUpdate t (a.eval m) (a.eval x) (a.eval v)).run P w = .ok () w') (h : wpList P ops Q rest (a.put o.dst undef) w') : wpList P ops Q (o :: rest) a w := by
  refine wpList_plain hg fun K hK => ?_
  unfold Oper.wp
  simp [execOp, hop, hrun, Result.andThen]
  exact hK _ _ h
/-- A port more. -/
def Fp.up (s : Fp) (p : Int) : Fp := { s with ow := putO s.ow p (fun _ => none) }
theorem FlAt.upP {w w1 w' : World} {P O S M n : Nat} {s : Fp} {f : Sf} {ob : Int → Option Nat} (h : FlAt w P O S M n s f ob) {p : Int} (hw1 : w.alloc (.map #[] 0) = w1) (hF : Fr (fun k => k = O) w1 w') (hm : MpG zM w' O (putO (fun k => (ob k).map mB) p (mB w.heap.size))) : FlAt w' P O S M n (s.up p) f (putO ob p w.heap.size) := by
  have b1 : Below w.heap.size w w1 := by rw [← hw1]; exact (Below.refl _ w).alloc (Nat.le_refl _) _
  have h1 := h.keep b1
  have hne := h1.neP
  have hlt : ∀ k b, ob k = some b → b < w.heap.size := fun k b hk => by obtain ⟨d, _, h2⟩ := h.i k b hk; exact h2.lt
  have hOl := h.o.lt
  have hMl := h.st.lts.2
  have hA : ∀ j (cur : Array Value), w1.heap[j]? = some (Obj.cells cur 98) → ¬ j = O := fun j cur hj e => by
    obtain ⟨es, cl, hm⟩ := h1.o.isMap
    rw [← e, hj] at hm
    cases hm
  have hd : ∀ k b, putO ob p w.heap.size k = some b → (k = p ∧ b = w.heap.size) ∨ (k ≠ p ∧ ob k = some b) := fun k b hk => by
    unfold putO at hk
    by_cases hq : k = p
    · rw [if_pos hq] at hk; exact .inl ⟨hq, (Option.some.inj hk).symm⟩
    · rw [if_neg hq] at hk; exact .inr ⟨hq, hk⟩
  refine ⟨(hF.block P (block_lt h1.p) (fun e => hne.2.2.1 e.symm)).trans h1.p, h1.st.fr hF h1.neS.1 h1.m.1 (fun k r u b hk hu => by obtain ⟨cur, hc⟩ := h1.v k r u b hk hu; exact hA b cur hc), ?_, fun k b hk => ?_, fun k hk => ?_, fun k k' b hk hk' => ?_, ⟨h.m.1, fun k b hk => ?_⟩, ⟨h.ok.se, h.ok.ep, h.ok.ag, h.ok.la, fun k d j t hk hj => ?_⟩, fun k r u b hk hu => ?_⟩
  · have he : (fun k => (putO ob p w.heap.size k).map mB) = putO (fun k => (ob k).map mB) p (mB w.heap.size) := by
      funext k
      unfold putO
      by_cases hq : k = p
      · rw [if_pos hq, if_pos hq]; rfl
      · rw [if_neg hq, if_neg hq]
    rw [he]
    exact hm
  · rcases hd k b hk with ⟨rfl, rfl⟩ | ⟨hq, hk'⟩
    · refine ⟨fun _ => none, by show putO s.ow k (fun _ => none) k = _; rw [putO_same], ?_⟩
      have := mpG_new zU w
      rw [hw1] at this
      exact this.keep hF (by omega)
    · obtain ⟨d, e1, e2⟩ := h1.i k b hk'
      exact ⟨d, by show putO s.ow p (fun _ => none) k = some d; rw [putO_other _ _ hq]; exact e1, e2.keep hF (fun e => (h.m.2 k b hk').2 e)⟩
  · show putO s.ow p (fun _ => none) k = none
    by_cases hq : k = p
    · rw [hq, putO_same] at hk; cases hk
    · rw [putO_other _ _ hq] at hk ⊢
      exact h.j k hk
  · rcases hd k b hk with ⟨e1, e2⟩ | ⟨hq, hk1⟩ <;> rcases hd k' b hk' with ⟨e3, e4⟩ | ⟨hq', hk2⟩
    · rw [e1, e3]
    · have := hlt k' _ hk2; omega
    · have := hlt k _ hk1; omega
    · exact h.d k k' b hk1 hk2
  · rcases hd k b hk with ⟨rfl, rfl⟩ | ⟨hq, hk1⟩
    · constructor <;> omega
    · exact h.m.2 k b hk1
  · have hk' : putO s.ow p (fun _ => none) k = some d := hk
    by_cases hq : k = p
    · rw [hq, putO_same] at hk'
      cases hk'
      cases hj
    · rw [putO_other _ _ hq] at hk'
      exact h.ok.ti k d j t hk' hj
  · obtain ⟨cur, hc⟩ := h1.v k r u b hk hu
    exact ⟨cur, (hF.block b (block_lt hc) (hA b cur hc)).trans hc⟩
def Fp.oweO (s : Fp) (p : Int) (os : List Int) (now : Int) : Fp := os.foldl (fun s o => s.owe p o now) s
theorem oweO_snoc (s : Fp) (p : Int) (os : List Int) (o now : Int) : s.oweO p (os ++ [o]) now = (s.oweO p os now).owe p o now := by unfold Fp.oweO; rw [List.foldl_append]; rfl
theorem oweO_up (s : Fp) (p now k : Int) : ∀ os : List Int, ((s.oweO p os now).ow k).isSome = (s.ow k).isSome := by
  intro os
  induction os generalizing s with
  | nil => rfl
  | cons o os ih =>
    show (((s.owe p o now).oweO p os now).ow k).isSome = _
    rw [ih, owe_up]
/-- What Up answers. -/
def UpAns (w w' : World) (P O S M n : Nat) (s : Fp) (f : Sf) (ob : Int → Option Nat) (p now : Int) (e : Ending) : Prop :=
  ((isOth s p = false ∨ tkOk s now = false) ∧ e = .returned (.tuple #[.slice none 0 0, .int .i64 2]) ∧ w' = w) ∨
  (isOth s p = true ∧ tkOk s now = true ∧ (s.ow p).isSome = true ∧ e = .returned (.tuple #[.slice none 0 0, .int .i64 7]) ∧ w' = w) ∨
  (isOth s p = true ∧ tkOk s now = true ∧ (s.ow p).isSome = false ∧ ∃ u, e = .returned (.tuple #[u, .int .i64 0]) ∧ FlAt w' P O S M n (((s.up p).tick now).oweO p ((allL f 24).map (·.origin)) now) f (putO ob p w.heap.size) ∧ SndAns w w' ((allL f 24).map (fun r => (p, r))) u ∧ Fr (FlB P O M ob) w w')
theorem all_at {w : World} {S M n : Nat} {f : Sf} (h : StAt w S M n f) {r : Rc} (hr : r ∈ allL f 24) : rOf (f r.origin) = r ∧ 1 ≤ r.origin ∧ r.origin ≤ 24 := by
  rw [allL_fR] at hr
  obtain ⟨k, hk⟩ := allR_of hr
  have h1 := h.org hk
  have h2 := recOk_pos h1.1
  refine ⟨?_, h2.2.2⟩
  rw [h1.2.1]
  show ((f k).map (·.1)).getD rc0 = r
  rw [show (f k).map (·.1) = some r from hk]
  rfl
set_option maxRecDepth 100000 in
set_option maxHeartbeats 8000000 in
theorem fup2_any {P O S M n : Nat} {s : Fp} {f : Sf} {ob : Int → Option Nat} {w : World} (h : FlAt w P O S M n s f ob) (p now : Int) :
    Calls Try.prog 20 #[ptr P, .int .i64 p, .int .u64 now] w fun e w' => UpAns w w' P O S M n s f ob p now e := by
  have HT := hidIn (fthere_any h)
  have HOt := hidIn (fother_any h p)
  have HTk := hidIn (ftick_any h now)
  have Hh := hidIn h
  have hmk := makeI
  clear h
  go_enter Try.func20, Try.ntmps20
  go_wp2_with fail
  refine HT.out.mono ?_
  rintro e w1 ⟨rfl, h1⟩
  rw [h1]
  clear HT h1 w1
  go_wp2_with fail
  refine HOt.out.mono ?_
  rintro e w1 ⟨rfl, h1⟩
  rw [h1]
  clear HOt h1 w1
  cases hot : isOth s p with
  | false =>
    go_wp2_with fail
    go_returns
    exact .inl ⟨.inl hot, rfl, rfl⟩
  | true =>
    have h24 := (isOth_iff.1 hot).1
    have Hot := hidIn hot
    have HU := hidIn (fup_any (k := p) Hh.out (wf9 (by omega)))
    clear hot
    go_wp2_with fail
    refine HTk.out.mono ?_
    rintro e w1 ⟨rfl, h1⟩
    rw [h1]
    clear HTk h1 w1
    cases htk : tkOk s now with
    | false =>
      have Htk := hidIn htk
      clear htk
      go_wp2_with fail
      go_returns
      exact .inl ⟨.inr Htk.out, rfl, rfl⟩
    | true =>
      have Htk := hidIn htk
      clear htk
      go_wp2_with fail
      refine HU.out.mono ?_
      rintro e w1 ⟨rfl, h1⟩
      rw [h1]
      clear HU h1 w1
      cases hup : (s.ow p).isSome with
      | true =>
        have Hup := hidIn hup
        clear hup
        go_wp2_with fail
        go_returns
        exact .inr (.inl ⟨Hot.out, Htk.out, Hup.out, rfl, rfl⟩)
      | false =>
        have Hup := hidIn hup
        obtain ⟨W1, hW1⟩ : ∃ W1, w.alloc (.map #[] 0) = W1 := ⟨_, rfl⟩
        have b1 : Below w.heap.size w W1 := by rw [← hW1]; exact (Below.refl _ w).alloc (Nat.le_refl _) _
        obtain ⟨W2, hrun, hm, hF2⟩ := (Hh.out.keep b1).o.put Try.underlying89 h24.1 h24.2 (mB w.heap.size)
        have hfl2 := Hh.out.upP hW1 hF2 hm
        have htk2 : s.last ≤ now ∧ now ≤ 1099511627776 := by have := Htk.out; unfold tkOk at this; simpa using this
        have HF2 := hidIn hfl2
        have HTl := hidIn (telling_any hfl2 htk2.1 htk2.2)
        have HFw : Hid (Fr (FlB P O M ob) w W2) := hidIn ((Fr.of_below b1).trans (hF2.mono fun k _ hk => .inr (.inl hk)))
        have HRu := hidIn hrun
        have HW1 := hidIn hW1
        have x5 := cell_of_row _ _ 5 _ _ _ Hh.out.p
        have hPl := block_lt Hh.out.p
        simp at x5
        obtain ⟨ob', hob'⟩ : ∃ ob', putO ob p w.heap.size = ob' := ⟨_, rfl⟩
        have Hob := hidIn hob'
        have HobT : Hid (∀ j, (∃ k, ob' k = some j) → FlB P O M ob j ∨ w.heap.size ≤ j) := hidIn fun j hj => by
          obtain ⟨k, hk⟩ := hj
          rw [← hob'] at hk
          unfold putO at hk
          by_cases hq : k = p
          · rw [if_pos hq] at hk
            cases hk
            exact .inr (Nat.le_refl _)
          · rw [if_neg hq] at hk
            exact .inl (.inr (.inr (.inr ⟨k, hk⟩)))
        rw [hob'] at HF2 HTl
        obtain ⟨bn, hbn⟩ : ∃ bn, w.heap.size = bn := ⟨_, rfl⟩
        have Hbn := hidIn hbn
        rw [hbn] at HRu
        clear hup hrun hm hF2 hfl2 hW1 b1 htk2 hob'
        go_upto_region 8 with (refine l_put rfl _ _ _ 89 rfl (by first | exact HRu.out | (rw [HW1.out]; exact HRu.out)) ?_)
        clear HRu HW1 x5 hbn
        go_wp2_with fail
        refine HTl.out.mono ?_
        rintro e w3 ⟨rfl, h8, h9, h10⟩
        have HF3 := hidIn h8
        have ham : Amid W2 w3 P O S M n ((s.up p).tick now) f ob' W2.heap.size now [] := ⟨h8, ⟨[], h9, rfl⟩, rfl⟩
        have HFw3 : Hid (Fr (FlB P O M ob) w w3) := hidIn (HFw.out.trans (h10.mono fun k _ hk => .inl hk))
        have HSt := hidIn (sstamps_any h8.st)
        have HAll := hidIn (fun r (hr : r ∈ allL f 24) => all_at h8.st hr)
        have x4 := cell_of_row _ _ 4 _ _ _ h8.p
        simp at x4
        obtain ⟨B, hB⟩ : ∃ B, W2.heap.size = B := ⟨_, rfl⟩
        have HwB : Hid (w.heap.size ≤ B) := hidIn (by rw [← hB]; exact HFw.out.size)
        rw [hB] at ham ⊢
        have HAm := hidIn ham
        have Hl24 : Hid ((allL f 24).length ≤ 24) := hidIn (allL_len f 24)
        clear h8 h9 h10 ham HTl HF2 HFw
        have HB := hidIn hB
        clear hB
        go_wp2_with fail
        refine HSt.out.mono ?_
        rintro e w4 ⟨⟨uv, rfl, hr4⟩, hb4⟩
        have Hcx := hidIn (slAt_of_row (cs := sc3) (fun _ => rfl) hr4 rfl)
        have HTy := hidIn (fun j hj => rowTy (j := j) hr4 hj)
        obtain ⟨ua, uc, rfl⟩ := row_shape hr4
        have HA4 := hidIn (HAm.out.keep hb4)
        have HFw4 : Hid (Fr (FlB P O M ob) w w4) := hidIn (HFw3.out.trans (Fr.of_below hb4))
        obtain ⟨rs, hrs⟩ : ∃ rs, allL f 24 = rs := ⟨_, rfl⟩
        have Hrs := hidIn hrs
        rw [hrs] at Hcx HAll Hl24 HTy ⊢
        rw [List.length_map] at Hcx HTy ⊢
        obtain ⟨NL, hNL⟩ : ∃ NL, rs.length = NL := ⟨_, rfl⟩
        have HNL := hidIn hNL
        rw [hNL] at Hcx Hl24 HTy ⊢
        have hl24 := Hl24.out
        clear hr4 hb4 hrs hNL HSt HAm HFw3 x4 HF3
        go_wp2_with fail
        go_loopw [46] (fun q wr => ∃ i : Nat, i ≤ NL ∧ q = .int .i64 i ∧ Hid (Amid W2 wr P O S M n (((s.up p).tick now).oweO p ((rs.take i).map (·.origin)) now) f ob' B now ((rs.take i).map (fun r => (p, r))) ∧ Fr (TchF ob' B) w4 wr ∧ OwFr B w4 wr)) (fun q _ => NL - (intOf q).toNat)
        case atStart => exact ⟨0, Nat.zero_le _, rfl, hidIn ⟨by simpa [Fp.oweO] using HA4.out, Fr.refl _ _, OwFr.refl _ _⟩⟩
        case round =>
          obtain ⟨i, hi, rfl, HR⟩ := hrel
          by_cases hlt : i < NL
          · have hii : (i : Int) < (NL : Int) := by omega
            obtain ⟨bk, o, rfl, hbk, hcell⟩ := Hcx.out.sts (by omega)
            obtain ⟨r, hr⟩ : ∃ r, rs[i]? = some r := ⟨rs[i]'(by rw [HNL.out]; exact hlt), List.getElem?_eq_getElem _⟩
            obtain ⟨q0, q1, q2⟩ := hcell i (stOf r) (by rw [List.getElem?_map, hr]; rfl)
            obtain ⟨cur, hcur⟩ := HTy.out bk rfl
            have hne : bk ≠ B + 2 := fun e => by
              obtain ⟨L, htl, _⟩ := HA4.out.t
              obtain ⟨u, hu, _⟩ := htl.c
              rw [← e, hcur] at hu
              simp at hu
            have hbb := (HR.out.2.2 bk _ hcur hne (by simp) (by simp)).trans hcur.symm
            have p0 := (World.cell?_of_block (a := ⟨bk, o + i * 3, none⟩) hbb).trans q0
            have p1 := (World.cell?_of_block (a := ⟨bk, o + i * 3 + 1, none⟩) hbb).trans q1
            have p2 := (World.cell?_of_block (a := ⟨bk, o + i * 3 + 2, none⟩) hbb).trans q2
            have hra := HAll.out r (List.mem_of_getElem? hr)
            obtain ⟨ro, hro⟩ : ∃ ro, r.origin = ro := ⟨_, rfl⟩
            obtain ⟨re, hre⟩ : ∃ re, r.epoch = re := ⟨_, rfl⟩
            obtain ⟨rq, hrq⟩ : ∃ rq, r.seq = rq := ⟨_, rfl⟩
            simp only [stOf, hro, hre, hrq] at p0 p1 p2
            have HT1 : Hid ((rs.take (i + 1)).map (·.origin) = (rs.take i).map (·.origin) ++ [ro]) := hidIn (by rw [List.take_add_one, hr]; simp [hro])
            have HT2 : Hid ((rs.take (i + 1)).map (fun r => (p, r)) = (rs.take i).map (fun r => (p, r)) ++ [(p, rOf (f ro))]) := hidIn (by rw [List.take_add_one, hr, ← hro, hra.1]; simp)
            obtain ⟨W5, hW5⟩ : ∃ W5, wr.alloc (.cells #[.int .i64 ro, .int .u32 re, .int .u32 rq] 67) = W5 := ⟨_, rfl⟩
            have b5 : Below wr.heap.size wr W5 := by rw [← hW5]; exact (Below.refl _ wr).alloc (Nat.le_refl _) _
            have hX5 : W5.heap[wr.heap.size]? = some (.cells #[.int .i64 ro, .int .u32 re, .int .u32 rq] 67) := by rw [← hW5]; exact heap_alloc_last wr _
            have HOw := hidIn (owe_amid (p := p) (o := ro) (HR.out.1.keep b5) (by
              rw [oweO_up]
              show (putO s.ow p (fun _ => none) p).isSome = true
              rw [putO_same]; rfl) (by rw [← hro]; exact hra.2) (by rw [List.length_map, List.length_take]; omega))
            have HFr5 := hidIn (And.intro (HR.out.2.1.trans (Fr.of_below b5)) (HR.out.2.2.trans (OwFr.of_below b5)))
            obtain ⟨b11, hb11⟩ : ∃ b11, wr.heap.size = b11 := ⟨_, rfl⟩
            rw [hb11] at hX5
            have x0 := cell_of_row _ _ 0 _ _ _ hX5
            simp at x0
            have HW5 := hidIn hW5
            clear hcell q0 q1 q2 hcur hne hbb hra hro hre hrq hr hbk hW5 b5 hX5 HR
            go_upto_region 12 with fail
            rw [HW5.out]
            clear HW5 hb11 p0 p1 p2
            go_wp2_with fail
            refine HOw.out.mono ?_
            rintro e w6 ⟨⟨x, rfl⟩, h6, h7, h8⟩
            have HO : Hid (Amid W2 w6 P O S M n (((s.up p).tick now).oweO p ((rs.take (i + 1)).map (·.origin)) now) f ob' B now ((rs.take (i + 1)).map (fun r => (p, r))) ∧ Fr (TchF ob' B) w4 w6 ∧ OwFr B w4 w6) := hidIn ⟨by rw [HT1.out, HT2.out, oweO_snoc]; exact h6, HFr5.out.1.trans h7, HFr5.out.2.trans h8⟩
            clear HOw h6 h7 h8 HT1 HT2 HFr5 x0
            go_wp2_with fail
            go_roundw
            case rel => exact ⟨i + 1, by omega, by go_num, HO⟩
            case measure => simp [intOf]; omega
          · have hii : ¬ (i : Int) < (NL : Int) := by omega
            obtain rfl : i = NL := by omega
            obtain ⟨L, htl, hsl⟩ := HR.out.1.t
            have HTo := hidIn (told_any htl)
            have HO : Hid (∀ u, wr.ownsRow (B + 3) 81 7 u L.length (fl sdc L) → UpAns w wr P O S M n s f ob p now (.returned (.tuple #[u, .int .i64 0]))) := hidIn fun u hu => by
              have htk : rs.take i = rs := List.take_of_length_le (by rw [HNL.out]; exact Nat.le_refl _)
              have ham := HR.out.1
              rw [htk] at ham hsl
              have hFw : Fr (FlB P O M ob) w wr := by
                have g1 : Fr (fun j => FlB P O M ob j ∨ w.heap.size ≤ j) w wr := (HFw4.out.mono fun k _ hk => .inl hk).trans (HR.out.2.1.mono fun k _ hk => by rcases hk with hk | hk; exact HobT.out k hk; exact .inr (by have := HwB.out; omega))
                exact g1.mono fun k hk h => by rcases h with h | h; exact h; omega
              refine .inr (.inr ⟨Hot.out, Htk.out, Hup.out, u, rfl, by rw [Hrs.out, Hob.out]; exact ham.f, ⟨L, row_low hu (by have := HwB.out; omega), by rw [hsl, Hrs.out], fun x hx => ?_⟩, hFw⟩)
              obtain ⟨a, c, e1, e2, e3, e4⟩ := htl.r x hx
              exact ⟨a, c, e1, e2, e3, fun q hq => by obtain ⟨g, e5, e6, e7⟩ := e4 q hq; exact ⟨g, e5, by have := HwB.out; rw [← HB.out] at this; omega, e7⟩⟩
            clear htl hsl
            go_wp2_with fail
            refine HTo.out.mono ?_
            rintro e w11 ⟨⟨u, rfl, hu⟩, h11⟩
            rw [h11]
            have HA := hidIn (HO.out u hu)
            obtain ⟨va, vc, rfl⟩ := row_shape hu
            clear hu HTo HO h11
            go_wp2_with fail
            go_returns
            exact HA.out
end Go.Proofs.Yteaaoipipjkgnaa
namespace Go.Proofs.Yteaaoipipjkgnaa
open Go.RowKit Go.Maps

/-- What is due of a port's debts. -/
def dueL (d : Int → Option Int) (now again : Int) (n : Nat) : List Int := (List.range n).filterMap fun (i : Nat) => (d ((i : Int) + 1)).bind fun t => if again ≤ now - t then some ((i : Int) + 1) else none
theorem dueL_succ (d : Int → Option Int) (now again : Int) (n : Nat) : dueL d now again (n + 1) = dueL d now again n ++ ((d ((n : Int) + 1)).bind fun t => if again ≤ now - t then some ((n : Int) + 1) else none).toList := by
  unfold dueL
  rw [List.range_succ, List.filterMap_append]
  cases h : ((d ((n : Int) + 1)).bind fun t => if again ≤ now - t then some ((n : Int) + 1) else none) <;> simp [h]
theorem dueL_lt {d : Int → Option Int} {now again : Int} {n : Nat} {o : Int} (h : o ∈ dueL d now again n) : 1 ≤ o ∧ o ≤ (n : Int) := by
  unfold dueL at h
  obtain ⟨i, hi, hq⟩ := List.mem_filterMap.1 h
  have hi' : i < n := by simpa using hi
  cases hd : d ((i : Int) + 1) with
  | none => rw [hd] at hq; cases hq
  | some t =>
    rw [hd] at hq
    simp only [Option.bind_some] at hq
    split at hq
    · cases hq; omega
    · cases hq
theorem dueL_len (d : Int → Option Int) (now again : Int) (n : Nat) : (dueL d now again n).length ≤ n := by
  unfold dueL
  exact Nat.le_trans (List.length_filterMap_le _ _) (by simp)
def putL (d : Int → Option Int) (os : List Int) (now : Int) : Int → Option Int := os.foldl (fun d o => putO d o now) d
theorem putL_not (now : Int) {o : Int} : ∀ (os : List Int) (d : Int → Option Int), o ∉ os → putL d os now o = d o
  | [], _, _ => rfl
  | x :: os, d, h => by
    show putL (putO d x now) os now o = d o
    rw [putL_not now os _ (fun h' => h (List.mem_cons_of_mem _ h')), putO_other _ _ (fun e => h (by rw [e]; exact List.mem_cons_self))]
theorem oweO_ow (p now : Int) : ∀ (os : List Int) (s : Fp) (d : Int → Option Int), s.ow p = some d → (s.oweO p os now).ow p = some (putL d os now)
  | [], _, _, h => h
  | o :: os, s, d, h => by
    show ((s.owe p o now).oweO p os now).ow p = some (putL (putO d o now) os now)
    refine oweO_ow p now os _ _ ?_
    unfold Fp.owe
    simp [h]
theorem oweO_other (p now : Int) {k : Int} (hk : k ≠ p) : ∀ (os : List Int) (s : Fp), (s.oweO p os now).ow k = s.ow k
  | [], _ => rfl
  | o :: os, s => by
    show ((s.owe p o now).oweO p os now).ow k = s.ow k
    rw [oweO_other p now hk os]
    unfold Fp.owe
    simp [hk]
theorem oweO_rest (p now : Int) : ∀ (os : List Int) (s : Fp), (s.oweO p os now).again = s.again ∧ (s.oweO p os now).last = s.last ∧ (s.oweO p os now).self = s.self
  | [], _ => ⟨rfl, rfl, rfl⟩
  | o :: os, s => by
    have := oweO_rest p now os (s.owe p o now)
    exact this
set_option maxRecDepth 100000 in
set_option maxHeartbeats 4000000 in
theorem tick1_any {P O S M n : Nat} {s : Fp} {f : Sf} {ob : Int → Option Nat} {w0 w : World} {B : Nat} {now : Int} {T : List (Int × Rc)} (h : Amid w0 w P O S M n s f ob B now T) {p : Int} {d : Int → Option Int} {b2 b3 b6 : Nat} (h2 : w.heap[b2]? = some (.cells #[ptr P] 26)) (h3 : w.heap[b3]? = some (.cells #[.int .u64 now] 39)) (h6 : w.heap[b6]? = some (.cells #[oweF B] 105)) (hbb : b2 ≠ B + 2 ∧ b3 ≠ B + 2 ∧ b6 ≠ B + 2) (hd : s.ow p = some d) (hL : T.length ≤ 900000) :
    Calls Try.prog 52 #[.int .i64 p, ptr b2, ptr b3, ptr b6] w fun e w' => (∃ x, e = .returned x) ∧ Amid w0 w' P O S M n (s.oweO p (dueL d now s.again 24) now) f ob B now (T ++ (dueL d now s.again 24).map (fun o => (p, rOf (f o)))) ∧ Fr (TchF ob B) w w' ∧ OwFr B w w' := by
  have H := hidIn h
  have H2 := hidIn h2
  have H3 := hidIn h3
  have H6 := hidIn h6
  have Hbb := hidIn hbb
  have Hd := hidIn hd
  have HL := hidIn hL
  have hp24 := h.f.rg (k := p) (by rw [hd]; rfl)
  have HTi := hidIn (fun j t (hj : d j = some t) => h.f.ok.ti p d j t hd hj)
  have Hll := hidIn (And.intro h.l h.f.ok.la)
  clear h h2 h3 h6 hbb hd hL
  go_enter Try.func52, Try.ntmps52
  go_wp2_with fail
  go_loopw [5] (fun q wr => ∃ i : Nat, i ≤ 24 ∧ q = .int .i64 ((i : Int) + 1) ∧ Hid (Amid w0 wr P O S M n (s.oweO p (dueL d now s.again i) now) f ob B now (T ++ (dueL d now s.again i).map (fun o => (p, rOf (f o)))) ∧ Fr (TchF ob B) w wr ∧ OwFr B w wr)) (fun q _ => 25 - (intOf q).toNat)
  case atStart => exact ⟨0, Nat.zero_le _, rfl, hidIn ⟨by simpa [dueL, Fp.oweO] using H.out, Fr.refl _ _, OwFr.refl _ _⟩⟩
  case round =>
    obtain ⟨i, hi, rfl, HR⟩ := hrel
    by_cases hlt : i < 24
    · have hil : (i : Int) + 1 ≤ 24 := by omega
      have hfl := HR.out.1.f
      have hrst := oweO_rest p now (dueL d now s.again i) s
      have how := oweO_ow p now (dueL d now s.again i) s d Hd.out
      have hnd : putL d (dueL d now s.again i) now ((i : Int) + 1) = d ((i : Int) + 1) := putL_not now _ _ (fun hm => by have := dueL_lt hm; omega)
      obtain ⟨b, hb⟩ : ∃ b, ob p = some b := by
        have h1 : ((s.oweO p (dueL d now s.again i) now).ow p).isSome = true := by rw [how]; rfl
        rw [← hfl.up] at h1
        exact Option.isSome_iff_exists.1 h1
      obtain ⟨d', hd', hm⟩ := hfl.i p b hb
      rw [how] at hd'
      cases hd'
      have hl1 : (Instr.lookup 89 (.map (some O)) (.int .i64 p) false).run Try.prog wr = .ok (.map (some b)) wr := by
        have hl := hfl.o.look1 Try.underlying89 zeroMM (x := p) (wf9 (by omega))
        simp only [hb, Option.map_some, Option.getD_some] at hl
        exact hl
      have hl2 := hm.look Try.underlying99 zeroU64 (x := (i : Int) + 1) (wf9 (by omega))
      simp only [hnd] at hl2
      have e2 := HR.out.2.2 b2 _ H2.out Hbb.out.1 (by simp) (by simp)
      have e3 := HR.out.2.2 b3 _ H3.out Hbb.out.2.1 (by simp) (by simp)
      have e6 := HR.out.2.2 b6 _ H6.out Hbb.out.2.2 (by simp) (by simp)
      have x2 := cell_of_row _ _ 0 _ _ _ e2
      have x3 := cell_of_row _ _ 0 _ _ _ e3
      have x5 := cell_of_row _ _ 5 _ _ _ hfl.p
      have xa := cell_of_row _ _ 2 _ _ _ hfl.p
      simp at x2 x3 x5 xa
      rw [hrst.1] at xa
      have HE6 := hidIn e6
      have kx2 := cell_regrown x2
      have kx3 := cell_regrown x3
      have kxa := cell_regrown xa
      have HSu := hidIn (dueL_succ d now s.again i)
      cases hdi : d ((i : Int) + 1) with
      | none =>
        rw [hdi] at hl2
        have hl2' : (Instr.lookup 99 (.map (some b)) (.int .i64 ((i : Int) + 1)) true).run Try.prog wr = .ok (.tuple #[.int .u64 0, .bool false]) wr := hl2
        have HE : Hid (dueL d now s.again (i + 1) = dueL d now s.again i) := hidIn (by rw [HSu.out, hdi]; simp)
        clear hl2 hnd how hm hb hfl hrst e2 e3 e6 hdi HSu
        go_upto_region 4 with (first | (refine l_look rfl _ _ 89 false rfl hl1 ?_) | (refine l_look rfl _ _ 99 true rfl hl2' ?_))
        refine wp_region_quiet_below (by kernel_rfl) (by kernel_rfl) ?_
        repeat (go_big_quiet_step (fail))
        refine wpQuiet_nil ?_
        rintro _ ⟨⟨dq, osq⟩, rfl⟩
        have hbr := below_regrown wr dq osq
        generalize Go.Sort.grow (redrawn wr dq) osq = W4 at hbr ⊢
        have HO : Hid (Amid w0 W4 P O S M n (s.oweO p (dueL d now s.again (i + 1)) now) f ob B now (T ++ (dueL d now s.again (i + 1)).map (fun o => (p, rOf (f o)))) ∧ Fr (TchF ob B) w W4 ∧ OwFr B w W4) := hidIn ⟨by rw [HE.out]; exact HR.out.1.keep hbr, HR.out.2.1.trans (Fr.of_below hbr), HR.out.2.2.trans (OwFr.of_below hbr)⟩
        clear hbr x2 x3 x5 xa kx2 kx3 kxa hl1 hl2' HR HE6
        go_wp2_with fail
        go_roundw
        case rel => exact ⟨i + 1, by omega, by go_num, HO⟩
        case measure => simp [intOf]; omega
      | some t =>
        rw [hdi] at hl2
        have hl2' : (Instr.lookup 99 (.map (some b)) (.int .i64 ((i : Int) + 1)) true).run Try.prog wr = .ok (.tuple #[.int .u64 t, .bool true]) wr := hl2
        have hti := HTi.out _ _ hdi
        have hwr : IntKind.u64.wrap (now - t) = now - t := by rw [show IntKind.u64.wrap (now - t) = (now - t) % 18446744073709551616 from rfl]; have := Hll.out; omega
        have Hdi := hidIn hdi
        clear hl2 hnd how hm hb hfl hrst e2 e3 e6 hdi hti
        by_cases hdue : s.again ≤ now - t
        · have hd1 : decide (s.again ≤ now - t) = true := by simpa using hdue
          have HE : Hid (dueL d now s.again (i + 1) = dueL d now s.again i ++ [(i : Int) + 1]) := hidIn (by rw [HSu.out, Hdi.out]; simp [hdue])
          clear HSu
          go_upto_region 4 with (first | (refine l_look rfl _ _ 89 false rfl hl1 ?_) | (refine l_look rfl _ _ 99 true rfl hl2' ?_))
          refine wp_region_quiet_below (by kernel_rfl) (by kernel_rfl) ?_
          repeat (go_big_quiet_step (fail))
          refine wpQuiet_nil ?_
          rintro _ ⟨⟨dq, osq⟩, rfl⟩
          have hbr := below_regrown wr dq osq
          generalize Go.Sort.grow (redrawn wr dq) osq = W4 at hbr ⊢
          have z6 := cell_of_row _ _ 0 _ _ _ ((hbr.block _ (block_lt HE6.out)).trans HE6.out)
          simp at z6
          have HOw := hidIn (owe_amid (p := p) (o := (i : Int) + 1) (HR.out.1.keep hbr) (by rw [oweO_up, Hd.out]; rfl) (by omega) (by rw [List.length_append, List.length_map]; have := dueL_len d now s.again i; have := HL.out; omega))
          have HFr5 := hidIn (And.intro (HR.out.2.1.trans (Fr.of_below hbr)) (HR.out.2.2.trans (OwFr.of_below hbr)))
          clear hbr x2 x3 x5 xa kx2 kx3 kxa hl1 hl2' HR HE6 hwr hdue
          go_wp2_with fail
          refine HOw.out.mono ?_
          rintro e w6 ⟨⟨x, rfl⟩, h6, h7, h8⟩
          have HO : Hid (Amid w0 w6 P O S M n (s.oweO p (dueL d now s.again (i + 1)) now) f ob B now (T ++ (dueL d now s.again (i + 1)).map (fun o => (p, rOf (f o)))) ∧ Fr (TchF ob B) w w6 ∧ OwFr B w w6) := hidIn ⟨by rw [HE.out, oweO_snoc, List.map_append, ← List.append_assoc]; exact h6, HFr5.out.1.trans h7, HFr5.out.2.trans h8⟩
          clear HOw h6 h7 h8 HFr5 z6
          go_wp2_with fail
          go_roundw
          case rel => exact ⟨i + 1, by omega, by go_num, HO⟩
          case measure => simp [intOf]; omega
        · have hd1 : decide (s.again ≤ now - t) = false := by simpa using hdue
          have HE : Hid (dueL d now s.again (i + 1) = dueL d now s.again i) := hidIn (by rw [HSu.out, Hdi.out]; simp [hdue])
          clear HSu
          go_upto_region 4 with (first | (refine l_look rfl _ _ 89 false rfl hl1 ?_) | (refine l_look rfl _ _ 99 true rfl hl2' ?_))
          refine wp_region_quiet_below (by kernel_rfl) (by kernel_rfl) ?_
          repeat (go_big_quiet_step (fail))
          refine wpQuiet_nil ?_
          rintro _ ⟨⟨dq, osq⟩, rfl⟩
          have hbr := below_regrown wr dq osq
          generalize Go.Sort.grow (redrawn wr dq) osq = W4 at hbr ⊢
          have HO : Hid (Amid w0 W4 P O S M n (s.oweO p (dueL d now s.again (i + 1)) now) f ob B now (T ++ (dueL d now s.again (i + 1)).map (fun o => (p, rOf (f o)))) ∧ Fr (TchF ob B) w W4 ∧ OwFr B w W4) := hidIn ⟨by rw [HE.out]; exact HR.out.1.keep hbr, HR.out.2.1.trans (Fr.of_below hbr), HR.out.2.2.trans (OwFr.of_below hbr)⟩
          clear hbr x2 x3 x5 xa kx2 kx3 kxa hl1 hl2' HR HE6 hwr hdue
          go_wp2_with fail
          go_roundw
          case rel => exact ⟨i + 1, by omega, by go_num, HO⟩
          case measure => simp [intOf]; omega
    · have hil : ¬ (i : Int) + 1 ≤ 24 := by omega
      obtain rfl : i = 24 := by omega
      go_wp2_with fail
      go_returns
      exact ⟨⟨_, rfl⟩, HR.out⟩
end Go.Proofs.Yteaaoipipjkgnaa
