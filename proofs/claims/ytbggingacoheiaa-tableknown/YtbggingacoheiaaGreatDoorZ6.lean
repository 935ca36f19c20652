/- table.sameEntry, slices.EqualFunc of entries, table.Same. Ranks as plain numbers: unlike numbers below 2^32 have unlike ranks. Neighbours, the best of them, all by their ranks: as lists. Tables that may be, as lists (pure). Lists of numbers in memory: the graph's. The rank, the program's and the document's. greatestFirst and its closure: who comes first of two. areNeighbours; the document's Neighbours. table.nextMayBe, entryMayBe. table.entryMayBe, at and its closure, those. -/
import Derived.Test.YtbggingacoheiaaGreatDoorZ5
import Derived.Test.YtbggingacoheiaaGreatDoorGD
import Derived.Laws.BitsAllLaws
import Derived.Test.YtbggingacoheiaaGreatDoorG4
import Derived.Test.YtbggingacoheiaaGreatDoorGF
namespace Go.Proofs.YtbggingacoheiaaGreatDoor
open Go.RowKit

abbrev toE (x : En) : Et := (x.1.1, x.1.2.1, x.1.2.2.1, x.2)
abbrev enV (x : Rw) : Value := .agg #[.int .i64 x.1, .int .i64 x.2.1, .int .i64 x.2.2.1, rwS x]
set_option maxRecDepth 100000 in
set_option maxHeartbeats 2000000 in
theorem sameE_any {x y : En} {w : World} (hx : SlAt ic 1 w (rwS x.1) x.2) (hy : SlAt ic 1 w (rwS y.1) y.2) :
    Calls Tryz.prog 62 #[enV x.1, enV y.1] w fun e w' => e = .returned (.bool (decide (toE x = toE y))) ∧ Below w.heap.size w w' := by
  obtain ⟨⟨a0, a1, a2, a3, a4, a5⟩, an⟩ := x
  obtain ⟨⟨b0, b1, b2, b3, b4, b5⟩, bn⟩ := y
  simp only at hx hy
  obtain ⟨W1, hW1⟩ : ∃ W1, (w.alloc (enO a0 a1 a2 (.slice a3 a4 a5))).alloc (enO b0 b1 b2 (.slice b3 b4 b5)) = W1 := ⟨_, rfl⟩
  have hb : Below w.heap.size w W1 := by rw [← hW1]; exact ((Below.refl _ w).alloc (Nat.le_refl _) _).alloc (by simp) _
  have hA : W1.heap[w.heap.size]? = some (enO a0 a1 a2 (.slice a3 a4 a5)) := by rw [← hW1, Below.heap_alloc _ _ _ (by simp)]; exact heap_alloc_last w _
  have hB : W1.heap[w.heap.size + 1]? = some (enO b0 b1 b2 (.slice b3 b4 b5)) := by
    rw [← hW1]
    have := heap_alloc_last (w.alloc (enO a0 a1 a2 (.slice a3 a4 a5))) (enO b0 b1 b2 (.slice b3 b4 b5))
    rwa [World.size_alloc] at this
  obtain ⟨q, hq⟩ : ∃ q, w.heap.size = q := ⟨_, rfl⟩
  have HEq := hidIn (equalI (hx.keep hb (Nat.le_refl _)) (hy.keep hb (Nat.le_refl _)))
  have HB := hidIn hb
  rw [hq] at hA hB
  have s0 := cell_of_row _ _ 0 _ _ _ hA
  have s1 := cell_of_row _ _ 1 _ _ _ hA
  have s2 := cell_of_row _ _ 2 _ _ _ hA
  have s3 := cell_of_row _ _ 3 _ _ _ hA
  have t0 := cell_of_row _ _ 0 _ _ _ hB
  have t1 := cell_of_row _ _ 1 _ _ _ hB
  have t2 := cell_of_row _ _ 2 _ _ _ hB
  have t3 := cell_of_row _ _ 3 _ _ _ hB
  simp at s0 s1 s2 s3 t0 t1 t2 t3
  obtain ⟨r, hr⟩ : ∃ r, decide (toE (((a0, a1, a2, a3, a4, a5), an) : En) = toE ((b0, b1, b2, b3, b4, b5), bn)) = r := ⟨_, rfl⟩
  obtain ⟨n, hn⟩ : ∃ n, decide (an = bn) = n := ⟨_, rfl⟩
  have hr' : r = (decide (a0 = b0) && (decide (a1 = b1) && (decide (a2 = b2) && n))) := by
    rw [← hr, ← hn]
    simp only [toE, Prod.mk.injEq, Bool.decide_and]
  rw [hr]
  rw [hn] at HEq
  have HR := hidIn hr'
  have HW := hidIn hW1
  clear hx hy hb hA hB hr hn hr' hW1
  go_enter Tryz.func62, Tryz.ntmps62
  go_upto_region 1 with fail
  rw [HW.out]
  clear HW hq
  by_cases h0 : a0 = b0
  rotate_left
  · have d0 : (a0 == b0) = false := by simpa using h0
    have HE : Hid (r = false) := hidIn (by rw [HR.out, decide_eq_false h0]; rfl)
    clear h0 HEq
    go_wp2_with fail
    go_ret
    exact ⟨by rw [HE.out]; rfl, HB.out⟩
  have d0 : (a0 == b0) = true := by simpa using h0
  have H0 := hidIn h0
  clear h0
  by_cases h1 : a1 = b1
  rotate_left
  · have d1 : (a1 == b1) = false := by simpa using h1
    have HE : Hid (r = false) := hidIn (by rw [HR.out, decide_eq_false h1]; simp)
    clear h1 HEq
    go_wp2_with fail
    go_ret
    exact ⟨by rw [HE.out]; rfl, HB.out⟩
  have d1 : (a1 == b1) = true := by simpa using h1
  have H1 := hidIn h1
  clear h1
  by_cases h2 : a2 = b2
  rotate_left
  · have d2 : (a2 == b2) = false := by simpa using h2
    have HE : Hid (r = false) := hidIn (by rw [HR.out, decide_eq_false h2]; simp)
    clear h2 HEq
    go_wp2_with fail
    go_ret
    exact ⟨by rw [HE.out]; rfl, HB.out⟩
  have d2 : (a2 == b2) = true := by simpa using h2
  have HE : Hid (r = n) := hidIn (by rw [HR.out, decide_eq_true H0.out, decide_eq_true H1.out, decide_eq_true h2]; rfl)
  clear h2
  go_wp2_with fail
  refine HEq.out.mono ?_
  rintro e w2 ⟨rfl, hb2⟩
  have HB2 := hidIn (HB.out.trans (hb2.mono HB.out.size))
  clear hb2 HEq
  go_wp2_with fail
  go_ret
  exact ⟨by rw [HE.out]; rfl, HB2.out⟩
abbrev sameF : Value := .func (.func 62) #[] #[]
theorem call_same (args : Array Value) (w : World) : (callFunc 62 args).run Tryz.prog w = .ok (.enter 62 args) w := by kernel_rfl
theorem toT_get {es : List En} {k : Nat} {x : En} (h : es[k]? = some x) : (toT es)[k]? = some (toE x) := by rw [toT, List.getElem?_map, h]; rfl
set_option maxRecDepth 100000 in
set_option maxHeartbeats 4000000 in
theorem eqF_any {a b : List En} {va vb : Value} {w : World} (ha : EnAt w va a) (hb : EnAt w vb b) :
    Calls Tryz.prog 61 #[va, vb, sameF] w fun e w' => e = .returned (.bool (decide (toT a = toT b))) ∧ Below w.heap.size w w' := by
  obtain ⟨aa, ca, rfl, hla, _, hca⟩ := ha.op
  obtain ⟨ab, cb, rfl, hlb, _, hcb⟩ := hb.op
  have Ha := hidIn hca
  have Hb := hidIn hcb
  have HcF := hidIn call_same
  clear hca hcb ha hb
  by_cases hlen : a.length = b.length
  · obtain ⟨m, hm⟩ : ∃ m, b.length = m := ⟨_, rfl⟩
    have hlen2 : a.length = m := by rw [hlen, hm]
    rw [hm] at hlb Hb ⊢
    rw [hlen2] at hla Ha ⊢
    obtain ⟨r, hr⟩ : ∃ r, decide (toT a = toT b) = r := ⟨_, rfl⟩
    rw [hr]
    have HR := hidIn hr
    have Hm := hidIn hm
    have HL := hidIn hlen2
    clear hm hlen2 hlen hr
    go_enter Tryz.func61, Tryz.ntmps61
    go_wp2_with fail
    go_loopw [17] (fun i wr => ∃ k : Nat, k ≤ m ∧ i = .int .i64 k ∧ Hid (Below w.heap.size w wr ∧ r = decide ((toT a).drop k = (toT b).drop k))) (fun i _ => m - (intOf i).toNat)
    case atStart => exact ⟨0, Nat.zero_le _, rfl, hidIn ⟨Below.refl _ _, by rw [List.drop_zero, List.drop_zero]; exact HR.out.symm⟩⟩
    case round =>
      obtain ⟨k, hk, rfl, HI⟩ := hrel
      obtain ⟨hbel, hrest⟩ := HI.out
      have HB := hidIn hbel
      have HE := hidIn hrest
      clear HI hbel hrest
      by_cases hlt : k < m
      · obtain ⟨b1, o1, rfl, hb1, c1⟩ := Ha.out (by omega)
        obtain ⟨b2, o2, rfl, hb2, c2⟩ := Hb.out (by omega)
        obtain ⟨x, hx⟩ : ∃ x, a[k]? = some x := ⟨a[k]'(by have := HL.out; omega), List.getElem?_eq_getElem _⟩
        obtain ⟨y, hy⟩ : ∃ y, b[k]? = some y := ⟨b[k]'(by have := Hm.out; omega), List.getElem?_eq_getElem _⟩
        have HN : Hid (r = (decide (toE x = toE y) && decide ((toT a).drop (k + 1) = (toT b).drop (k + 1)))) := hidIn (by rw [HE.out, dropEq (toT_get hx) (toT_get hy)])
        obtain ⟨p0, p1, p2, p3, p4, p5⟩ := c1 k x hx
        obtain ⟨q0, q1, q2, q3, q4, q5⟩ := c2 k y hy
        clear p5 q5
        have e0 := (HB.out.cell (p := ⟨b1, o1 + k * 4, none⟩) hb1).trans p0
        have e1 := (HB.out.cell (p := ⟨b1, o1 + k * 4 + 1, none⟩) hb1).trans p1
        have e2 := (HB.out.cell (p := ⟨b1, o1 + k * 4 + 2, none⟩) hb1).trans p2
        have e3 := (HB.out.cell (p := ⟨b1, o1 + k * 4 + 3, none⟩) hb1).trans p3
        have f0 := (HB.out.cell (p := ⟨b2, o2 + k * 4, none⟩) hb2).trans q0
        have f1 := (HB.out.cell (p := ⟨b2, o2 + k * 4 + 1, none⟩) hb2).trans q1
        have f2 := (HB.out.cell (p := ⟨b2, o2 + k * 4 + 2, none⟩) hb2).trans q2
        have f3 := (HB.out.cell (p := ⟨b2, o2 + k * 4 + 3, none⟩) hb2).trans q3
        have hB2 : b2 < wr.heap.size := Nat.lt_of_lt_of_le hb2 HB.out.size
        obtain ⟨W1, hW1⟩ : ∃ W1, (wr.alloc (enO x.1.1 x.1.2.1 x.1.2.2.1 (rwS x.1))).alloc (enO y.1.1 y.1.2.1 y.1.2.2.1 (rwS y.1)) = W1 := ⟨_, rfl⟩
        have hbW : Below wr.heap.size wr W1 := by rw [← hW1]; exact ((Below.refl _ wr).alloc (Nat.le_refl _) _).alloc (by simp) _
        have hB1 := HB.out.trans (hbW.mono HB.out.size)
        have HS := hidIn (sameE_any (p4.keep hB1 (Nat.le_refl _)) (q4.keep hB1 (Nat.le_refl _)))
        have HBW := hidIn hB1
        have hA : W1.heap[wr.heap.size]? = some (enO x.1.1 x.1.2.1 x.1.2.2.1 (rwS x.1)) := by rw [← hW1, Below.heap_alloc _ _ _ (by simp)]; exact heap_alloc_last wr _
        have hB : W1.heap[wr.heap.size + 1]? = some (enO y.1.1 y.1.2.1 y.1.2.2.1 (rwS y.1)) := by
          rw [← hW1]
          have := heap_alloc_last (wr.alloc (enO x.1.1 x.1.2.1 x.1.2.2.1 (rwS x.1))) (enO y.1.1 y.1.2.1 y.1.2.2.1 (rwS y.1))
          rwa [World.size_alloc] at this
        obtain ⟨⟨a0, a1, a2, a3, a4, a5⟩, an⟩ := x
        obtain ⟨⟨z0, z1, z2, z3, z4, z5⟩, zn⟩ := y
        simp only at e0 e1 e2 e3 f0 f1 f2 f3 hW1 hA hB HS
        obtain ⟨qq, hqq⟩ : ∃ qq, wr.heap.size = qq := ⟨_, rfl⟩
        rw [hqq] at hA hB
        have hB2' : b2 < qq := by omega
        have s0 := cell_of_row _ _ 0 _ _ _ hA
        have s1 := cell_of_row _ _ 1 _ _ _ hA
        have s2 := cell_of_row _ _ 2 _ _ _ hA
        have s3 := cell_of_row _ _ 3 _ _ _ hA
        have t0 := cell_of_row _ _ 0 _ _ _ hB
        have t1 := cell_of_row _ _ 1 _ _ _ hB
        have t2 := cell_of_row _ _ 2 _ _ _ hB
        have t3 := cell_of_row _ _ 3 _ _ _ hB
        simp at s0 s1 s2 s3 t0 t1 t2 t3
        have hki : (k : Int) < (m : Int) := by omega
        have HW := hidIn hW1
        obtain ⟨rr, hrr⟩ : ∃ rr, decide (toE (((a0, a1, a2, a3, a4, a5), an) : En) = toE ((z0, z1, z2, z3, z4, z5), zn)) = rr := ⟨_, rfl⟩
        rw [hrr] at HN HS
        clear c1 c2 hx hy p0 p1 p2 p3 p4 q0 q1 q2 q3 q4 hbW hB1 hW1 hA hB hrr
        go_upto_region 7 with fail
        rw [HW.out]
        clear HW hqq e0 e1 e2 e3 f0 f1 f2 f3
        have hcF := HcF.out
        go_wp2_with fail
        refine HS.out.mono ?_
        rintro e w2 ⟨rfl, hb2⟩
        have HB2 := hidIn (HBW.out.trans (hb2.mono HBW.out.size))
        clear hb2 HS hcF
        cases rr
        · have HF : Hid (r = false) := hidIn (by rw [HN.out]; rfl)
          go_wp2_with fail
          go_ret
          exact ⟨by rw [HF.out]; rfl, HB2.out⟩
        · have HF : Hid (r = decide ((toT a).drop (k + 1) = (toT b).drop (k + 1))) := hidIn (by rw [HN.out]; rfl)
          go_wp2_with fail
          go_roundw
          case rel => exact ⟨k + 1, by omega, by go_num, hidIn ⟨HB2.out, HF.out⟩⟩
          case measure => simp [intOf]; omega
      · have hki : ¬ ((k : Int) < (m : Int)) := by omega
        have HT : Hid (r = true) := hidIn (by rw [HE.out, List.drop_eq_nil_of_le (by rw [List.length_map]; have := HL.out; omega), List.drop_eq_nil_of_le (by rw [List.length_map]; have := Hm.out; omega)]; rfl)
        go_wp2_with fail
        go_ret
        exact ⟨by rw [HT.out]; rfl, HB.out⟩
  · have hne : ((a.length : Int) != (b.length : Int)) = true := by
      simp only [bne_iff_ne, ne_eq]
      omega
    have HT : Hid (decide (toT a = toT b) = false) := hidIn (by simp only [decide_eq_false_iff_not]; intro h; have := congrArg List.length h; rw [List.length_map, List.length_map] at this; exact hlen this)
    rw [HT.out]
    clear hlen
    generalize a.length = n at *
    generalize b.length = m at *
    go_enter Tryz.func61, Tryz.ntmps61
    go_wp2_with fail
    go_ret
    exact ⟨rfl, Below.refl _ _⟩
set_option maxRecDepth 100000 in
set_option maxHeartbeats 2000000 in
theorem tsame_any {a b : List En} {va vb : Value} {w : World} (ha : EnAt w va a) (hb : EnAt w vb b) (s1 w1 o1 s2 w2 o2 : Int) :
    Calls Tryz.prog 18 #[tbV s1 w1 o1 va, tbV s2 w2 o2 vb] w fun e w' => e = .returned (.bool (decide (s1 = s2) && (decide (w1 = w2) && (decide (o1 = o2) && decide (toT a = toT b))))) ∧ Below w.heap.size w w' := by
  obtain ⟨W1, hW1⟩ : ∃ W1, (w.alloc (tbO s1 w1 o1 va)).alloc (tbO s2 w2 o2 vb) = W1 := ⟨_, rfl⟩
  have hbl : Below w.heap.size w W1 := by rw [← hW1]; exact ((Below.refl _ w).alloc (Nat.le_refl _) _).alloc (by simp) _
  have hA : W1.heap[w.heap.size]? = some (tbO s1 w1 o1 va) := by rw [← hW1, Below.heap_alloc _ _ _ (by simp)]; exact heap_alloc_last w _
  have hB : W1.heap[w.heap.size + 1]? = some (tbO s2 w2 o2 vb) := by
    rw [← hW1]
    have := heap_alloc_last (w.alloc (tbO s1 w1 o1 va)) (tbO s2 w2 o2 vb)
    rwa [World.size_alloc] at this
  have HEq := hidIn (eqF_any (ha.keep hbl (Nat.le_refl _)) (hb.keep hbl (Nat.le_refl _)))
  obtain ⟨aa, ca, rfl, hla, _, _⟩ := ha.op
  obtain ⟨ab, cb, rfl, hlb, _, _⟩ := hb.op
  obtain ⟨q, hq⟩ : ∃ q, w.heap.size = q := ⟨_, rfl⟩
  have HB := hidIn hbl
  rw [hq] at hA hB
  have c0 := cell_of_row _ _ 0 _ _ _ hA
  have c1 := cell_of_row _ _ 1 _ _ _ hA
  have c2 := cell_of_row _ _ 2 _ _ _ hA
  have c3 := cell_of_row _ _ 3 _ _ _ hA
  have t0 := cell_of_row _ _ 0 _ _ _ hB
  have t1 := cell_of_row _ _ 1 _ _ _ hB
  have t2 := cell_of_row _ _ 2 _ _ _ hB
  have t3 := cell_of_row _ _ 3 _ _ _ hB
  simp at c0 c1 c2 c3 t0 t1 t2 t3
  obtain ⟨r, hr⟩ : ∃ r, (decide (s1 = s2) && (decide (w1 = w2) && (decide (o1 = o2) && decide (toT a = toT b)))) = r := ⟨_, rfl⟩
  obtain ⟨n, hn⟩ : ∃ n, decide (toT a = toT b) = n := ⟨_, rfl⟩
  have hr' : r = (decide (s1 = s2) && (decide (w1 = w2) && (decide (o1 = o2) && n))) := by
    rw [← hr, ← hn]
  rw [hr]
  rw [hn] at HEq
  have HR := hidIn hr'
  have HW := hidIn hW1
  generalize a.length = la at *
  generalize b.length = lb at *
  clear ha hb hbl hA hB hr hn hr' hW1
  go_enter Tryz.func18, Tryz.ntmps18
  go_upto_region 1 with fail
  rw [HW.out]
  clear HW hq
  by_cases h0 : s1 = s2
  rotate_left
  · have d0 : (s1 == s2) = false := by simpa using h0
    have HE : Hid (r = false) := hidIn (by rw [HR.out, decide_eq_false h0]; rfl)
    clear h0 HEq
    go_wp2_with fail
    go_ret
    exact ⟨by rw [HE.out]; rfl, HB.out⟩
  have d0 : (s1 == s2) = true := by simpa using h0
  have H0 := hidIn h0
  clear h0
  by_cases h1 : w1 = w2
  rotate_left
  · have d1 : (w1 == w2) = false := by simpa using h1
    have HE : Hid (r = false) := hidIn (by rw [HR.out, decide_eq_false h1]; simp)
    clear h1 HEq
    go_wp2_with fail
    go_ret
    exact ⟨by rw [HE.out]; rfl, HB.out⟩
  have d1 : (w1 == w2) = true := by simpa using h1
  have H1 := hidIn h1
  clear h1
  by_cases h2 : o1 = o2
  rotate_left
  · have d2 : (o1 == o2) = false := by simpa using h2
    have HE : Hid (r = false) := hidIn (by rw [HR.out, decide_eq_false h2]; simp)
    clear h2 HEq
    go_wp2_with fail
    go_ret
    exact ⟨by rw [HE.out]; rfl, HB.out⟩
  have d2 : (o1 == o2) = true := by simpa using h2
  have HE : Hid (r = n) := hidIn (by rw [HR.out, decide_eq_true H0.out, decide_eq_true H1.out, decide_eq_true h2]; rfl)
  clear h2
  go_wp2_with fail
  refine HEq.out.mono ?_
  rintro e w2 ⟨rfl, hb2⟩
  have HB2 := hidIn (HB.out.trans (hb2.mono HB.out.size))
  clear hb2 HEq
  go_wp2_with fail
  go_ret
  exact ⟨by rw [HE.out]; rfl, HB2.out⟩
end Go.Proofs.YtbggingacoheiaaGreatDoor
namespace Go.Proofs.YtbggingacoheiaaGreatDoor
open Go

/-- A number xor itself moved down. -/
def xsh (s x : Nat) : Nat := x ^^^ (x / 2 ^ s)
def mx0 (e m : Nat) : Nat := e ^^^ (m * 2654435761 % 4294967296)
def mx1 (x : Nat) : Nat := xsh 16 x
def mx2 (x : Nat) : Nat := x * 2246822507 % 4294967296
def mx3 (x : Nat) : Nat := xsh 13 x
def mx4 (x : Nat) : Nat := x * 3266489909 % 4294967296
/-- The rank of a number below 2^32. -/
def mixN (e m : Nat) : Nat := mx1 (mx4 (mx3 (mx2 (mx1 (mx0 e m)))))
/-- The rank of a number. -/
def mix (e : Nat) (n : Int) : Nat := mixN e (n % 4294967296).toNat

theorem xsh_lt {s x : Nat} (h : x < 4294967296) : xsh s x < 4294967296 := Nat.xor_lt_two_pow (n := 32) h (Nat.lt_of_le_of_lt (Nat.div_le_self _ _) h)
theorem mx0_lt {e m : Nat} (h : e < 4294967296) : mx0 e m < 4294967296 := Nat.xor_lt_two_pow (n := 32) h (Nat.mod_lt _ (by decide))
theorem mx2_lt (x : Nat) : mx2 x < 4294967296 := Nat.mod_lt _ (by decide)
theorem mx4_lt (x : Nat) : mx4 x < 4294967296 := Nat.mod_lt _ (by decide)
theorem mix_lt (e : Nat) (n : Int) : mix e n < 4294967296 := xsh_lt (mx4_lt _)
theorem div_xor (a b s : Nat) : (a ^^^ b) / 2 ^ s = (a / 2 ^ s) ^^^ (b / 2 ^ s) := by
  apply Nat.eq_of_testBit_eq
  intro j
  rw [Nat.testBit_div_two_pow, Nat.testBit_xor, Nat.testBit_xor, Nat.testBit_div_two_pow, Nat.testBit_div_two_pow]
theorem big_shift {x s : Nat} (h : x < 4294967296) (hs : 32 ≤ s) : x / 2 ^ s = 0 :=
  Nat.div_eq_of_lt (Nat.lt_of_lt_of_le h (show 2 ^ 32 ≤ 2 ^ s from Nat.pow_le_pow_right (by decide) hs))
theorem div_div_pow (x a b : Nat) : x / 2 ^ a / 2 ^ b = x / 2 ^ (a + b) := by rw [Nat.div_div_eq_div_mul, Nat.pow_add]
theorem xsh16_twice {x : Nat} (h : x < 4294967296) : xsh 16 (xsh 16 x) = x := by
  unfold xsh
  rw [div_xor, div_div_pow, big_shift h (show 32 ≤ 16 + 16 by decide), Nat.xor_zero, Nat.xor_assoc, Nat.xor_self, Nat.xor_zero]
theorem xsh16_inj {x y : Nat} (hx : x < 4294967296) (hy : y < 4294967296) (h : xsh 16 x = xsh 16 y) : x = y := by rw [← xsh16_twice hx, ← xsh16_twice hy, h]
theorem xsh13_back {x : Nat} (h : x < 4294967296) : xsh 13 x ^^^ (xsh 13 x / 2 ^ 13) ^^^ (xsh 13 x / 2 ^ 26) = x := by
  unfold xsh
  rw [div_xor, div_xor, div_div_pow, div_div_pow, big_shift h (show 32 ≤ 13 + 26 by decide), Nat.xor_zero, Nat.xor_assoc x, ← Nat.xor_assoc (x / 2 ^ 13), Nat.xor_self, Nat.zero_xor, Nat.xor_assoc, Nat.xor_self, Nat.xor_zero]
theorem xsh13_inj {x y : Nat} (hx : x < 4294967296) (hy : y < 4294967296) (h : xsh 13 x = xsh 13 y) : x = y := by rw [← xsh13_back hx, ← xsh13_back hy, h]
theorem mul_inj {c d x y : Nat} (hcd : c * d % 4294967296 = 1) (hx : x < 4294967296) (hy : y < 4294967296) (h : x * c % 4294967296 = y * c % 4294967296) : x = y := by
  have k : ∀ z : Nat, z < 4294967296 → z * c % 4294967296 * d % 4294967296 = z := fun z hz => by
    rw [Nat.mul_mod, Nat.mod_mod, ← Nat.mul_mod, Nat.mul_assoc, Nat.mul_mod, hcd, Nat.mul_one, Nat.mod_mod, Nat.mod_eq_of_lt hz]
  rw [← k x hx, ← k y hy, h]
theorem xor_inj {e a b : Nat} (h : e ^^^ a = e ^^^ b) : a = b := by
  have : e ^^^ (e ^^^ a) = e ^^^ (e ^^^ b) := by rw [h]
  rwa [← Nat.xor_assoc, ← Nat.xor_assoc, Nat.xor_self, Nat.zero_xor, Nat.zero_xor] at this
theorem mixN_inj {e a b : Nat} (he : e < 4294967296) (ha : a < 4294967296) (hb : b < 4294967296) (h : mixN e a = mixN e b) : a = b := by
  have h1 := xsh16_inj (mx4_lt _) (mx4_lt _) h
  have h2 := mul_inj (d := 2127672349) (by decide) (xsh_lt (mx2_lt _)) (xsh_lt (mx2_lt _)) h1
  have h3 := xsh13_inj (mx2_lt _) (mx2_lt _) h2
  have h4 := mul_inj (d := 2781581891) (by decide) (xsh_lt (mx0_lt he)) (xsh_lt (mx0_lt he)) h3
  have h5 := xsh16_inj (mx0_lt he) (mx0_lt he) h4
  exact mul_inj (d := 244002641) (by decide) ha hb (xor_inj h5)
/-- Unlike routers have unlike ranks. -/
theorem mix_inj {e : Nat} (he : e < 4294967296) {a b : Int} (ha : 0 ≤ a ∧ a < 4294967296) (hb : 0 ≤ b ∧ b < 4294967296) (h : mix e a = mix e b) : a = b := by
  have := mixN_inj he (by omega) (by omega) h
  omega
end Go.Proofs.YtbggingacoheiaaGreatDoor
namespace Go.Proofs.YtbggingacoheiaaGreatDoor

/-- Rising above p, none above 24. -/
def upF : Int → List Int → Bool
  | _, [] => true
  | p, x :: l => decide (p < x) && decide (x ≤ 24) && upF x l
def nbOk (l : List Int) : Bool := upF 0 l
def lastF : Int → List Int → Int
  | p, [] => p
  | _, x :: l => lastF x l
theorem upF_app : ∀ (p : Int) (a b : List Int), upF p (a ++ b) = (upF p a && upF (lastF p a) b)
  | _, [], _ => by simp [upF, lastF]
  | p, x :: a, b => by simp only [List.cons_append, upF, lastF, upF_app x a b, Bool.and_assoc]
theorem lastF_snoc : ∀ (p : Int) (a : List Int) (x : Int), lastF p (a ++ [x]) = x
  | _, [], _ => rfl
  | _, y :: a, x => by rw [List.cons_append, lastF]; exact lastF_snoc y a x
theorem upF_snoc (p : Int) (a : List Int) (x : Int) : upF p (a ++ [x]) = (upF p a && (decide (lastF p a < x) && decide (x ≤ 24))) := by
  rw [upF_app]
  simp [upF]
theorem upF_ok : ∀ {p : Int} {l : List Int}, upF p l = true → (∀ x ∈ l, p < x ∧ x ≤ 24) ∧ l.Pairwise fun x y => x < y
  | _, [], _ => ⟨fun _ h => (nomatch h), List.Pairwise.nil⟩
  | p, x :: l, h => by
    simp only [upF, Bool.and_eq_true, decide_eq_true_eq] at h
    obtain ⟨h1, h2⟩ := upF_ok h.2
    refine ⟨fun y hy => ?_, List.pairwise_cons.2 ⟨fun y hy => (h1 y hy).1, h2⟩⟩
    rcases List.mem_cons.1 hy with rfl | hy
    · exact h.1
    · have := h1 y hy
      exact ⟨by omega, this.2⟩
theorem upF_of : ∀ {p : Int} {l : List Int}, (∀ x ∈ l, p < x ∧ x ≤ 24) → l.Pairwise (fun x y => x < y) → upF p l = true
  | _, [], _, _ => rfl
  | p, x :: l, h1, h2 => by
    rw [List.pairwise_cons] at h2
    have h3 := h1 x List.mem_cons_self
    simp only [upF, Bool.and_eq_true, decide_eq_true_eq]
    exact ⟨h3, upF_of (fun y hy => ⟨h2.1 y hy, (h1 y (List.mem_cons_of_mem _ hy)).2⟩) h2.2⟩
theorem nb_in {l : List Int} (h : nbOk l = true) {x : Int} (hx : x ∈ l) : 1 ≤ x ∧ x ≤ 24 := by have := (upF_ok h).1 x hx; omega
theorem nb_rise {l : List Int} (h : nbOk l = true) : l.Pairwise fun x y => x < y := (upF_ok h).2
theorem up_len : ∀ {p : Int} {l : List Int}, upF p l = true → p ≤ 24 → (l.length : Int) ≤ 24 - p
  | _, [], _, h => by simp; omega
  | p, x :: l, h, _ => by
    simp only [upF, Bool.and_eq_true, decide_eq_true_eq] at h
    have := up_len h.2 h.1.2
    simp only [List.length_cons]
    omega
theorem nb_len {l : List Int} (h : nbOk l = true) : l.length ≤ 24 := by have := up_len h (by decide); omega
theorem nb_sub {l m : List Int} (h : nbOk l = true) (hs : m.Sublist l) : nbOk m = true :=
  upF_of (fun x hx => (upF_ok h).1 x (hs.subset hx)) ((upF_ok h).2.sublist hs)
/-- The best so far, and on. -/
def bestF (r : Int → Nat) : Int → List Int → Int
  | b, [] => b
  | b, x :: l => bestF r (if r b < r x then x else b) l
def best (r : Int → Nat) : List Int → Int
  | [] => 0
  | x :: l => bestF r x l
theorem bestF_snoc (r : Int → Nat) : ∀ (b : Int) (l : List Int) (x : Int), bestF r b (l ++ [x]) = if r (bestF r b l) < r x then x else bestF r b l
  | _, [], _ => rfl
  | b, y :: l, x => by rw [List.cons_append, bestF, bestF, bestF_snoc]
theorem best_snoc (r : Int → Nat) {l : List Int} (h : l ≠ []) (x : Int) : best r (l ++ [x]) = if r (best r l) < r x then x else best r l := by
  cases l with
  | nil => exact absurd rfl h
  | cons y l => exact bestF_snoc r y l x
theorem bestF_ok (r : Int → Nat) : ∀ (b : Int) (l : List Int), bestF r b l ∈ b :: l ∧ ∀ y ∈ b :: l, r y ≤ r (bestF r b l)
  | b, [] => ⟨List.mem_cons_self, fun y hy => by rw [List.mem_singleton.1 hy]; exact Nat.le_refl _⟩
  | b, x :: l => by
    obtain ⟨h1, h2⟩ := bestF_ok r (if r b < r x then x else b) l
    rw [bestF]
    refine ⟨?_, fun y hy => ?_⟩
    · rcases List.mem_cons.1 h1 with h | h
      · rw [h]; split
        · exact List.mem_cons_of_mem _ List.mem_cons_self
        · exact List.mem_cons_self
      · exact List.mem_cons_of_mem _ (List.mem_cons_of_mem _ h)
    · have h3 := h2 _ List.mem_cons_self
      rcases List.mem_cons.1 hy with rfl | hy
      · refine Nat.le_trans ?_ h3
        split <;> omega
      · rcases List.mem_cons.1 hy with rfl | hy
        · refine Nat.le_trans ?_ h3
          split <;> omega
        · exact h2 y (List.mem_cons_of_mem _ hy)
theorem best_ok (r : Int → Nat) {l : List Int} (h : l ≠ []) : best r l ∈ l ∧ ∀ y ∈ l, r y ≤ r (best r l) := by
  cases l with
  | nil => exact absurd rfl h
  | cons y l => exact bestF_ok r y l
/-- Falling by ranks. -/
def Fall (r : Int → Nat) (l : List Int) : Prop := l.Pairwise fun x y => r y < r x
theorem fall_ext {r : Int → Nat} : ∀ {a b : List Int}, Fall r a → Fall r b → (∀ x, x ∈ a ↔ x ∈ b) → a = b
  | [], [], _, _, _ => rfl
  | [], y :: b, _, _, h => by have := (h y).2 List.mem_cons_self; simp at this
  | x :: a, [], _, _, h => by have := (h x).1 List.mem_cons_self; simp at this
  | x :: a, y :: b, ha, hb, h => by
    unfold Fall at ha hb
    rw [List.pairwise_cons] at ha hb
    have hxy : x = y := by
      rcases List.mem_cons.1 ((h x).1 List.mem_cons_self) with e | h1
      · exact e
      · rcases List.mem_cons.1 ((h y).2 List.mem_cons_self) with e | h2
        · exact e.symm
        · have := hb.1 x h1
          have := ha.1 y h2
          omega
    subst hxy
    refine congrArg _ (fall_ext ha.2 hb.2 fun z => ⟨fun hz => ?_, fun hz => ?_⟩)
    · rcases List.mem_cons.1 ((h z).1 (List.mem_cons_of_mem _ hz)) with rfl | h1
      · have := ha.1 z hz; omega
      · exact h1
    · rcases List.mem_cons.1 ((h z).2 (List.mem_cons_of_mem _ hz)) with rfl | h1
      · have := hb.1 z hz; omega
      · exact h1
/-- All of them, the greatest rank first. -/
def rankL (r : Int → Nat) (l : List Int) : List Int := l.mergeSort fun x y => decide (r y ≤ r x)
/-- No two of them have one rank. -/
def UnlR (r : Int → Nat) (l : List Int) : Prop := ∀ x ∈ l, ∀ y ∈ l, r x = r y → x = y
theorem rank_mem (r : Int → Nat) (l : List Int) (x : Int) : x ∈ rankL r l ↔ x ∈ l := List.mem_mergeSort
theorem rank_len (r : Int → Nat) (l : List Int) : (rankL r l).length = l.length := List.length_mergeSort ..
theorem fall_of {r : Int → Nat} {l : List Int} (h : l.Pairwise fun x y => r y ≤ r x) (hn : l.Nodup) (hu : UnlR r l) : Fall r l := by
  induction l with
  | nil => exact List.Pairwise.nil
  | cons x l ih =>
    unfold Fall
    rw [List.pairwise_cons] at h ⊢
    rw [List.nodup_cons] at hn
    refine ⟨fun y hy => ?_, ih h.2 hn.2 (fun a ha b hb => hu a (List.mem_cons_of_mem _ ha) b (List.mem_cons_of_mem _ hb))⟩
    rcases Nat.lt_or_ge (r y) (r x) with h1 | h1
    · exact h1
    · have h2 := h.1 y hy
      have h3 := hu x List.mem_cons_self y (List.mem_cons_of_mem _ hy) (by omega)
      exact absurd (h3 ▸ hy) hn.1
theorem rank_fall {r : Int → Nat} {l : List Int} (hn : l.Nodup) (hu : UnlR r l) : Fall r (rankL r l) := by
  have hp : (rankL r l).Perm l := List.mergeSort_perm l _
  refine fall_of ?_ (hp.nodup_iff.2 hn) (fun x hx y hy => hu x ((rank_mem r l x).1 hx) y ((rank_mem r l y).1 hy))
  have := List.pairwise_mergeSort (le := fun x y : Int => decide (r y ≤ r x)) (fun a b c h1 h2 => by simp at *; omega) (fun a b => by simp; omega) l
  exact this.imp (fun h => by simpa using h)
theorem rank_of {r : Int → Nat} {l m : List Int} (hp : m.Perm l) (hs : m.Pairwise fun x y => r y ≤ r x) (hn : l.Nodup) (hu : UnlR r l) : m = rankL r l :=
  fall_ext (fall_of hs (hp.nodup_iff.2 hn) (fun x hx y hy => hu x (hp.mem_iff.1 hx) y (hp.mem_iff.1 hy))) (rank_fall hn hu) fun x => by rw [rank_mem, hp.mem_iff]
theorem nodup_rise {l : List Int} (h : l.Pairwise fun x y => x < y) : l.Nodup := h.imp (fun {a b} h e => by omega)
/-- Ranks of neighbours are unlike. -/
theorem nb_unl {e : Nat} (he : e < 4294967296) {l : List Int} (h : nbOk l = true) : UnlR (mix e) l := fun x hx y hy hr => by
  have h1 := nb_in h hx
  have h2 := nb_in h hy
  exact mix_inj he (by omega) (by omega) hr
theorem nb_fall {e : Nat} (he : e < 4294967296) {l : List Int} (h : nbOk l = true) : Fall (mix e) (rankL (mix e) l) := rank_fall (nodup_rise (nb_rise h)) (nb_unl he h)
theorem UnlR.sub {r : Int → Nat} {l m : List Int} (h : UnlR r l) (hs : ∀ x ∈ m, x ∈ l) : UnlR r m := fun x hx y hy => h x (hs x hx) y (hs y hy)
def outL (l : List Int) (g : Int) : List Int := l.filter fun x => x != g
theorem mem_out {l : List Int} {g x : Int} : x ∈ outL l g ↔ x ∈ l ∧ x ≠ g := by simp [outL]
theorem out_sub (l : List Int) (g : Int) : (outL l g).Sublist l := List.filter_sublist
theorem outL_snoc (l : List Int) (g x : Int) : outL (l ++ [x]) g = if (x == g) = true then outL l g else outL l g ++ [x] := by
  unfold outL
  rw [List.filter_append]
  by_cases h : x = g
  · simp [h]
  · simp [h]
/-- Without one: the order of the others. -/
theorem rank_out {r : Int → Nat} {l : List Int} (hn : l.Nodup) (hu : UnlR r l) (g : Int) : rankL r (outL l g) = outL (rankL r l) g := by
  have hs := out_sub l g
  refine fall_ext (rank_fall (hn.sublist hs) (hu.sub fun x hx => hs.subset hx)) ((rank_fall hn hu).sublist (out_sub _ _)) fun x => ?_
  rw [rank_mem, mem_out, mem_out, rank_mem]
/-- The best is the first; then the others. -/
theorem rank_cons {r : Int → Nat} {l : List Int} (hn : l.Nodup) (hu : UnlR r l) (h0 : l ≠ []) : rankL r l = best r l :: rankL r (outL l (best r l)) := by
  obtain ⟨h1, h2⟩ := best_ok r h0
  have hs := out_sub l (best r l)
  refine fall_ext (rank_fall hn hu) (List.pairwise_cons.2 ⟨fun y hy => ?_, rank_fall (hn.sublist hs) (hu.sub fun x hx => hs.subset hx)⟩) fun x => ?_
  · obtain ⟨h3, h4⟩ := mem_out.1 ((rank_mem r _ y).1 hy)
    rcases Nat.lt_or_ge (r y) (r (best r l)) with h5 | h5
    · exact h5
    · exact absurd (hu y h3 _ h1 (by have := h2 y h3; omega)) h4
  · rw [rank_mem, List.mem_cons, rank_mem, mem_out]
    constructor
    · intro h
      by_cases e : x = best r l
      · exact .inl e
      · exact .inr ⟨h, e⟩
    · rintro (rfl | h)
      · exact h1
      · exact h.1
theorem best_unl {r : Int → Nat} {l : List Int} (hu : UnlR r l) {x : Int} (hx : x ∈ l) (hm : ∀ y ∈ l, r y ≤ r x) : best r l = x := by
  have h0 : l ≠ [] := fun e => by rw [e] at hx; simp at hx
  obtain ⟨h1, h2⟩ := best_ok r h0
  exact hu _ h1 x hx (by have := h2 x hx; have := hm _ h1; omega)
/-- Without one that is not chosen the same one is chosen. -/
theorem best_out {r : Int → Nat} {l : List Int} (hu : UnlR r l) (h0 : l ≠ []) {g : Int} (hg : best r l ≠ g) : best r (outL l g) = best r l := by
  obtain ⟨h1, h2⟩ := best_ok r h0
  exact best_unl (hu.sub fun x hx => (mem_out.1 hx).1) (mem_out.2 ⟨h1, hg⟩) fun y hy => h2 y (mem_out.1 hy).1
theorem rank_nil (r : Int → Nat) : rankL r [] = [] := by simp [rankL]
end Go.Proofs.YtbggingacoheiaaGreatDoor
namespace Go.Proofs.YtbggingacoheiaaGreatDoor

/-- Neighbours of an entry that may be. -/
def nxOk (self : Int) (l : List Int) : Bool := nbOk l && (!l.contains self && (decide (1 ≤ l.length) && decide (l.length ≤ 16)))
def enB (self wd : Int) (x : Et) : Bool := (decide (0 ≤ x.1) && decide (x.1 < 128)) && (decide (1 ≤ x.2.1) && (decide (x.2.1 ≤ wd) && ((decide (1 ≤ x.2.2.1) && decide (x.2.2.1 ≤ 24)) && (!decide (x.2.2.1 = self) && nxOk self x.2.2.2))))
/-- A place ahead of another one. -/
def plB (x y : Et) : Bool := decide (x.1 < y.1 ∨ (x.1 = y.1 ∧ x.2.1 < y.2.1))
def entsB (self wd : Int) : Option Et → List Et → Bool
  | _, [] => true
  | p, x :: l => enB self wd x && ((match p with | none => true | some y => plB y x) && entsB self wd (some x) l)
/-- The place of one's own id. -/
def opS (own : Int) (wd : Int) : Int := if own = 0 then 0 else (own - 1) / wd
def opB (own : Int) (wd : Int) : Int := if own = 0 then 0 else (own - 1) % wd + 1
def atB (s b : Int) (x : Et) : Bool := decide (x.1 = s) && decide (x.2.1 = b)
def esB (self wd own : Int) (T : List Et) : Bool := decide (T.length ≤ 24) && (entsB self wd none T && (T.filter (atB (opS own wd) (opB own wd))).isEmpty)
/-- A table that may be. -/
structure TbOk (sf wd own : Int) (T : List Et) : Prop where
  s : 1 ≤ sf ∧ sf ≤ 24
  w : IsW wd
  o : 0 ≤ own ∧ own ≤ 1024
  e : esB sf wd own T = true
theorem entsB_ok {self wd : Int} : ∀ {T : List Et} {p : Option Et}, entsB self wd p T = true → (∀ x ∈ T, enB self wd x = true) ∧ T.Pairwise (fun x y => x.1 < y.1 ∨ (x.1 = y.1 ∧ x.2.1 < y.2.1)) ∧ ∀ y, p = some y → ∀ x ∈ T, y.1 < x.1 ∨ (y.1 = x.1 ∧ y.2.1 < x.2.1)
  | [], _, _ => ⟨fun x hx => absurd hx List.not_mem_nil, List.Pairwise.nil, fun _ _ x hx => absurd hx List.not_mem_nil⟩
  | x :: l, p, h => by
    simp only [entsB, Bool.and_eq_true] at h
    obtain ⟨h1, h2, h3⟩ := h
    obtain ⟨k1, k2, k3⟩ := entsB_ok h3
    refine ⟨fun y hy => ?_, List.pairwise_cons.2 ⟨k3 x rfl, k2⟩, fun y hy z hz => ?_⟩
    · rcases List.mem_cons.1 hy with rfl | hy
      · exact h1
      · exact k1 y hy
    · subst hy
      simp only [plB, decide_eq_true_eq] at h2
      rcases List.mem_cons.1 hz with rfl | hz
      · exact h2
      · have := k3 x rfl z hz
        omega
theorem entsB_of {self wd : Int} : ∀ {T : List Et} {p : Option Et}, (∀ x ∈ T, enB self wd x = true) → T.Pairwise (fun x y => x.1 < y.1 ∨ (x.1 = y.1 ∧ x.2.1 < y.2.1)) → (∀ y, p = some y → ∀ x ∈ T, y.1 < x.1 ∨ (y.1 = x.1 ∧ y.2.1 < x.2.1)) → entsB self wd p T = true
  | [], _, _, _, _ => rfl
  | x :: l, p, h1, h2, h3 => by
    rw [List.pairwise_cons] at h2
    simp only [entsB, Bool.and_eq_true]
    refine ⟨h1 x (by simp), ?_, entsB_of (fun y hy => h1 y (by simp [hy])) h2.2 (fun y hy z hz => by
      rw [Option.some.injEq] at hy
      subst hy
      exact h2.1 z hz)⟩
    cases p with
    | none => rfl
    | some y => simp only [plB, decide_eq_true_eq]; exact h3 y rfl x (by simp)
theorem enB_ok {self wd : Int} {x : Et} : enB self wd x = true ↔ (0 ≤ x.1 ∧ x.1 < 128) ∧ (1 ≤ x.2.1 ∧ x.2.1 ≤ wd) ∧ (1 ≤ x.2.2.1 ∧ x.2.2.1 ≤ 24) ∧ x.2.2.1 ≠ self ∧ nxOk self x.2.2.2 = true := by
  simp only [enB, Bool.and_eq_true, decide_eq_true_eq, Bool.not_eq_true', decide_eq_false_iff_not]
  constructor
  · rintro ⟨h1, h2, h3, h4, h5, h6⟩; exact ⟨h1, ⟨h2, h3⟩, h4, h5, h6⟩
  · rintro ⟨h1, ⟨h2, h3⟩, h4, h5, h6⟩; exact ⟨h1, h2, h3, h4, h5, h6⟩
theorem nxOk_ok {self : Int} {l : List Int} : nxOk self l = true ↔ nbOk l = true ∧ self ∉ l ∧ 1 ≤ l.length ∧ l.length ≤ 16 := by
  simp only [nxOk, Bool.and_eq_true, decide_eq_true_eq, Bool.not_eq_true', List.contains_eq_mem, decide_eq_false_iff_not]
theorem TbOk.parts {self wd own : Int} {T : List Et} (h : TbOk self wd own T) : T.length ≤ 24 ∧ (∀ x ∈ T, enB self wd x = true) ∧ T.Pairwise (fun x y => x.1 < y.1 ∨ (x.1 = y.1 ∧ x.2.1 < y.2.1)) ∧ ∀ x ∈ T, atB (opS own wd) (opB own wd) x = false := by
  have h1 := h.e
  simp only [esB, Bool.and_eq_true, decide_eq_true_eq] at h1
  obtain ⟨h1, h2, h3⟩ := h1
  obtain ⟨k1, k2, _⟩ := entsB_ok h2
  refine ⟨h1, k1, k2, fun x hx => ?_⟩
  cases hq : atB (opS own wd) (opB own wd) x with
  | false => rfl
  | true =>
    have := List.mem_filter.2 ⟨hx, hq⟩
    rw [List.isEmpty_iff.1 h3] at this
    cases this
theorem opS_pos {k W : Nat} : opS ((k : Int) + 1) W = ((k / W : Nat) : Int) ∧ opB ((k : Int) + 1) W = ((k % W : Nat) : Int) + 1 := by
  unfold opS opB
  rw [if_neg (by omega), if_neg (by omega), Int.add_sub_cancel]
  exact ⟨rfl, rfl⟩
theorem cmR_plB (x y : Rw) (xn yn : List Int) : decide (0 ≤ cmR x y) = !plB (toE (x, xn)) (toE (y, yn)) := by
  unfold plB cmR orI cmI toE
  simp only
  rw [← decide_not, decide_eq_decide]
  split <;> split <;> (try split) <;> (try split) <;> omega
end Go.Proofs.YtbggingacoheiaaGreatDoor
namespace Go.Proofs.YtbggingacoheiaaGreatDoor
end Go.Proofs.YtbggingacoheiaaGreatDoor
namespace Go.Proofs.YtbggingacoheiaaGreatDoor
open Go.RowKit

/-- The model's words. -/
theorem rank_step (e : Nat) (n : Int) : ∃ m : Nat, m < 4294967296 ∧ IntKind.u32.wrap n = (m : Int) ∧ mix e n = mixN e m := ⟨(n % 4294967296).toNat, by omega, by rw [IntKind.wrap_u32]; omega, rfl⟩
theorem iw0 {e : Nat} (m : Nat) (he : e < 4294967296) : bits .xor .u32 (e : Int) ((m : Int) * 2654435761 % 4294967296) = ((mx0 e m : Nat) : Int) := by
  rw [show ((m : Int) * 2654435761 % 4294967296) = ((m * 2654435761 % 4294967296 : Nat) : Int) from by omega, u32_xor_nat _ _ he (by omega)]
  rfl
theorem iw1 {x : Nat} (h : x < 4294967296) : bits .xor .u32 (x : Int) ((x : Int) / 65536) = ((mx1 x : Nat) : Int) := by
  rw [show ((x : Int) / 65536) = ((x / 65536 : Nat) : Int) from by omega, u32_xor_nat _ _ h (by omega)]
  rfl
theorem iw3 {x : Nat} (h : x < 4294967296) : bits .xor .u32 (x : Int) ((x : Int) / 8192) = ((mx3 x : Nat) : Int) := by
  rw [show ((x : Int) / 8192) = ((x / 8192 : Nat) : Int) from by omega, u32_xor_nat _ _ h (by omega)]
  rfl
theorem iw2 (x : Nat) : (x : Int) * 2246822507 % 4294967296 = ((mx2 x : Nat) : Int) := by unfold mx2; omega
theorem iw4 (x : Nat) : (x : Int) * 3266489909 % 4294967296 = ((mx4 x : Nat) : Int) := by unfold mx4; omega
set_option maxRecDepth 100000 in
theorem rank_any {e : Nat} (he : e < 4294967296) (n : Int) (w : World) : Calls Tryz.prog 169 #[.int .u32 e, .int .i64 n] w fun x w' => x = .returned (.int .u32 (mix e n : Nat)) ∧ w' = w := by
  obtain ⟨m, hm, hmw, hmx⟩ := rank_step e n
  rw [hmx]
  go_enter Tryz.func169, Tryz.ntmps169
  go_wp2_with fail
  rw [iw0 m he, iw1 (mx0_lt he), iw2, iw3 (mx2_lt _), iw4, iw1 (mx4_lt _)]
  go_ret
  exact ⟨rfl, rfl⟩
set_option maxRecDepth 100000 in
theorem dmix_any {e : Nat} (he : e < 4294967296) (n : Int) (w : World) : Calls Tryz.prog 130 #[.int .u32 e, .int .i64 n] w fun x w' => x = .returned (.int .u32 (mix e n : Nat)) ∧ w' = w := by
  obtain ⟨m, hm, hmw, hmx⟩ := rank_step e n
  rw [hmx]
  go_enter Tryz.func130, Tryz.ntmps130
  go_wp2_with fail
  rw [iw0 m he, iw1 (mx0_lt he), iw2, iw3 (mx2_lt _), iw4, iw1 (mx4_lt _)]
  go_ret
  exact ⟨rfl, rfl⟩
/-- Two numbers held against each other. -/
def cmpN (x y : Nat) : Int := if x < y then -1 else if y < x then 1 else 0
theorem pisNaN_any (x : Int) (w : World) : Calls Tryz.prog 192 #[.int .u32 x] w fun e w' => e = .returned (.bool false) ∧ w' = w := by
  go_enter Tryz.func192, Tryz.ntmps192
  go_wp2
  go_ret
  exact ⟨by simp, rfl⟩
theorem cmp_any (x y : Nat) (w : World) : Calls Tryz.prog 187 #[.int .u32 x, .int .u32 y] w fun e w' => e = .returned (.int .i64 (cmpN x y)) ∧ w' = w := by
  by_cases h1 : x < y
  · have hd : (x : Int) < (y : Int) := by omega
    have HE : Hid (cmpN x y = -1) := hidIn (by simp [cmpN, h1])
    go_enter Tryz.func187, Tryz.ntmps187
    go_wp2_with (go_at_call 192; refine (pisNaN_any _ _).mono ?_; rintro e w1 ⟨rfl, rfl⟩)
    go_ret
    exact ⟨by rw [HE.out]; rfl, rfl⟩
  · have hd : ¬ (x : Int) < (y : Int) := by omega
    by_cases h2 : y < x
    · have hd2 : (y : Int) < (x : Int) := by omega
      have HE : Hid (cmpN x y = 1) := hidIn (by simp [cmpN, h1, h2])
      go_enter Tryz.func187, Tryz.ntmps187
      go_wp2_with (go_at_call 192; refine (pisNaN_any _ _).mono ?_; rintro e w1 ⟨rfl, rfl⟩)
      go_ret
      exact ⟨by rw [HE.out]; rfl, rfl⟩
    · have hd2 : ¬ (y : Int) < (x : Int) := by omega
      have HE : Hid (cmpN x y = 0) := hidIn (by simp [cmpN, h1, h2])
      go_enter Tryz.func187, Tryz.ntmps187
      go_wp2_with (go_at_call 192; refine (pisNaN_any _ _).mono ?_; rintro e w1 ⟨rfl, rfl⟩)
      go_ret
      exact ⟨by rw [HE.out]; rfl, rfl⟩
end Go.Proofs.YtbggingacoheiaaGreatDoor
namespace Go.Proofs.YtbggingacoheiaaGreatDoor
open Go.RowKit

/-- The method as a value. -/
abbrev rkF (e : Nat) : Value := .func (.func 169) #[.int .u32 e] #[]
abbrev gfF (B : Nat) : Value := .func (.func 186) #[] #[.pointer (some ⟨B, 0, none⟩)]
set_option maxRecDepth 100000 in
theorem great_any (e : Nat) (w : World) : Calls Tryz.prog 168 #[rkF e] w fun r w' => r = .returned (gfF w.heap.size) ∧ w' = w.alloc (.cells #[rkF e] 207) := by
  go_enter Tryz.func168, Tryz.ntmps168
  go_wp2
  go_ret
  exact ⟨rfl, rfl⟩
set_option maxRecDepth 100000 in
theorem less_any {e : Nat} (he : e < 4294967296) {B : Nat} {w : World} (hc : w.cell? ⟨B, 0, none⟩ = some (rkF e)) (x y : Int) :
    Calls Tryz.prog 186 #[.int .i64 x, .int .i64 y, .pointer (some ⟨B, 0, none⟩)] w fun r w' => r = .returned (.int .i64 (cmpN (mix e y) (mix e x))) ∧ ∃ q, w' = w.drewN q := by
  have HR := hidIn (fun n W => rank_any he n W)
  generalize mix e = r at *
  have HC := hidIn (fun W => cmp_any (r y) (r x) W)
  generalize cmpN (r y) (r x) = c at *
  go_enter Tryz.func186, Tryz.ntmps186
  go_upto_region 1 with fail
  go_quiet (first | (go_at_call 187; exact Calls.quiet_of_same (HC.out _)) | (go_at_call 169; exact Calls.quiet_of_same (HR.out _ _)))
  go_wp2_with fail
  go_ret
  exact ⟨rfl, _, rfl⟩
end Go.Proofs.YtbggingacoheiaaGreatDoor
namespace Go.Proofs.YtbggingacoheiaaGreatDoor
open Go.RowKit

theorem up_no {l : List Int} {k : Nat} {x : Int} (hx : l[k]? = some x) (h : ¬ (lastF 0 (l.take k) < x ∧ x ≤ 24)) : nbOk l = false := by
  have hs : upF 0 (l.take (k + 1)) = false := by
    rw [take_snoc hx, upF_snoc]
    have : (decide (lastF 0 (l.take k) < x) && decide (x ≤ 24)) = false := by
      rw [Bool.and_eq_false_iff, decide_eq_false_iff_not, decide_eq_false_iff_not]
      omega
    rw [this, Bool.and_false]
  unfold nbOk
  rw [← List.take_append_drop (k + 1) l, upF_app, hs, Bool.false_and]
theorem up_yes {l : List Int} {k : Nat} {x : Int} (hx : l[k]? = some x) (h0 : upF 0 (l.take k) = true) (h : lastF 0 (l.take k) < x ∧ x ≤ 24) : upF 0 (l.take (k + 1)) = true ∧ lastF 0 (l.take (k + 1)) = x := by
  rw [take_snoc hx, upF_snoc, lastF_snoc, h0]
  simp [h.1, h.2]
set_option maxRecDepth 100000 in
theorem areNb_any {l : List Int} {v : Value} {w : World} (h : SlAt ic 1 w v l) : Calls Tryz.prog 128 #[v] w fun e w' => e = .returned (.bool (nbOk l)) ∧ w' = w := by
  obtain ⟨a, cap, rfl, hl, _, hat⟩ := h.ints
  have Ha := hidIn hat
  obtain ⟨ln, hln⟩ : ∃ ln, l.length = ln := ⟨_, rfl⟩
  have Hln := hidIn hln
  rw [hln] at hl ⊢
  obtain ⟨bq, hbq⟩ : ∃ bq, nbOk l = bq := ⟨_, rfl⟩
  rw [hbq]
  have HQ := hidIn hbq
  clear h hat hln hbq
  go_enter Tryz.func128, Tryz.ntmps128
  go_wp2_with fail
  go_loop [3, 8] (fun p i => ∃ k : Nat, k ≤ ln ∧ i = .int .i64 k ∧ p = .int .i64 (lastF 0 (l.take k)) ∧ Hid (upF 0 (l.take k) = true)) (fun _ i => ln - (intOf i).toNat)
  case atStart => exact ⟨0, Nat.zero_le _, rfl, rfl, hidIn rfl⟩
  case round =>
    obtain ⟨k, hk, rfl, rfl, HC⟩ := hrel
    by_cases hlt : k < ln
    · obtain ⟨bk, o, rfl, hbk, hcell⟩ := Ha.out (by have := Hln.out; omega)
      obtain ⟨x, hx⟩ : ∃ x, l[k]? = some x := ⟨l[k]'(by have := Hln.out; omega), List.getElem?_eq_getElem _⟩
      have c0 := hcell k x hx
      have hki : (k : Int) < (ln : Int) := by omega
      obtain ⟨p, hp⟩ : ∃ p, lastF 0 (l.take k) = p := ⟨_, rfl⟩
      by_cases hxn : p < x ∧ x ≤ 24
      · have HE := hidIn (up_yes hx HC.out (by rw [hp]; exact hxn))
        rw [hp]
        obtain ⟨d1, d2⟩ := hxn
        clear hcell hx hp HC
        go_wp2_with fail
        go_round
        case rel => exact ⟨k + 1, by omega, by go_num, by rw [HE.out.2], hidIn HE.out.1⟩
        case measure => simp [intOf]; omega
      · have HE : Hid (bq = false) := hidIn (by rw [← HQ.out]; exact up_no hx (by rw [hp]; exact hxn))
        rw [hp]
        clear hcell hx hp HC
        by_cases d1 : p < x
        · have d2 : ¬ x ≤ 24 := fun h => hxn ⟨d1, h⟩
          clear hxn
          go_wp2_with fail
          go_ret
          exact ⟨by rw [HE.out]; rfl, rfl⟩
        · clear hxn
          go_wp2_with fail
          go_ret
          exact ⟨by rw [HE.out]; rfl, rfl⟩
    · have hki : ¬ ((k : Int) < (ln : Int)) := by omega
      have HE : Hid (bq = true) := hidIn (by rw [← HQ.out]; have := HC.out; rw [List.take_of_length_le (by have := Hln.out; omega)] at this; exact this)
      go_wp2_with fail
      go_ret
      exact ⟨by rw [HE.out]; rfl, rfl⟩
theorem last_get {l : List Int} {k : Nat} {x : Int} (hx : l[k]? = some x) : lastF 0 (l.take (k + 1)) = x := by rw [take_snoc hx, lastF_snoc]
set_option maxRecDepth 100000 in
set_option maxHeartbeats 2000000 in
theorem dnb_any {l : List Int} {v : Value} {w : World} (h : SlAt ic 1 w v l) : Calls Tryz.prog 102 #[v] w fun e w' => e = .returned (.bool (nbOk l)) ∧ ∃ q, w' = w.drewN q := by
  obtain ⟨a, cap, rfl, hl, _, hat⟩ := h.ints
  have Ha := hidIn hat
  obtain ⟨ln, hln⟩ : ∃ ln, l.length = ln := ⟨_, rfl⟩
  have Hln := hidIn hln
  rw [hln] at hl ⊢
  obtain ⟨bq, hbq⟩ : ∃ bq, nbOk l = bq := ⟨_, rfl⟩
  rw [hbq]
  have HQ := hidIn hbq
  clear h hat hln hbq
  go_enter Tryz.func102, Tryz.ntmps102
  go_wp2_with fail
  go_loopw [3] (fun i wr => ∃ k q : Nat, k ≤ ln ∧ i = .int .i64 k ∧ wr = w.drewN q ∧ Hid (upF 0 (l.take k) = true)) (fun i _ => ln - (intOf i).toNat)
  case atStart => exact ⟨0, 0, Nat.zero_le _, rfl, rfl, hidIn rfl⟩
  case round =>
    obtain ⟨k, q, hk, rfl, rfl, HC⟩ := hrel
    by_cases hlt : k < ln
    · obtain ⟨bk, o, rfl, hbk, hcell⟩ := Ha.out (by have := Hln.out; omega)
      obtain ⟨x, hx⟩ : ∃ x, l[k]? = some x := ⟨l[k]'(by have := Hln.out; omega), List.getElem?_eq_getElem _⟩
      have c0 := hcell k x hx
      have hki : (k : Int) < (ln : Int) := by omega
      have hno : ¬ (lastF 0 (l.take k) < x ∧ x ≤ 24) → bq = false := fun hh => by rw [← HQ.out]; exact up_no hx hh
      by_cases h1 : x < 1
      · have d1 : decide (x < 1) = true := by simpa using h1
        have HE : Hid (bq = false) := hidIn (hno (fun hh => by
          have : 0 ≤ lastF 0 (l.take k) := by
            rcases Nat.eq_zero_or_pos k with rfl | hk0
            · exact Int.le_refl _
            · obtain ⟨y, hy⟩ : ∃ y, l[k - 1]? = some y := ⟨l[k - 1]'(by have := Hln.out; omega), List.getElem?_eq_getElem _⟩
              have h3 := last_get hy
              rw [Nat.sub_add_cancel hk0] at h3
              rw [h3]
              have := (upF_ok HC.out).1 y (by have := take_snoc hy; rw [Nat.sub_add_cancel hk0] at this; rw [this]; simp)
              omega
          omega))
        clear hno hcell hx
        go_wp2_with fail
        go_quiet (fail)
        go_wp2_with fail
        go_ret
        exact ⟨by rw [HE.out]; rfl, q + nq, by rw [World.drewN_drewN]⟩
      · have d1 : decide (x < 1) = false := by simpa using h1
        by_cases h2 : 24 < x
        · have d2 : decide (24 < x) = true := by simpa using h2
          have HE : Hid (bq = false) := hidIn (hno (fun hh => by omega))
          clear hno hcell hx
          go_wp2_with fail
          go_quiet (fail)
          go_wp2_with fail
          go_ret
          exact ⟨by rw [HE.out]; rfl, q + nq, by rw [World.drewN_drewN]⟩
        · have d2 : decide (24 < x) = false := by simpa using h2
          rcases Nat.eq_zero_or_pos k with hk0 | hk0
          · have d3 : decide ((0 : Int) < (k : Int)) = false := by simp; omega
            have d3' : decide (0 < k) = false := by simp; omega
            have HE := hidIn (up_yes hx HC.out (by rw [hk0]; simp [lastF]; omega))
            clear hno hcell hx hk0
            go_wp2_with fail
            go_quiet (fail)
            go_wp2_with fail
            go_roundw
            case rel => exact ⟨k + 1, q + nq, by omega, by go_num, rfl, hidIn HE.out.1⟩
            case measure => simp [intOf]; omega
          · obtain ⟨m, hm⟩ : ∃ m, k = m + 1 := ⟨k - 1, by omega⟩
            obtain ⟨y, hy⟩ : ∃ y, l[m]? = some y := ⟨l[m]'(by have := Hln.out; omega), List.getElem?_eq_getElem _⟩
            have c1 := hcell m y hy
            have d3 : decide ((0 : Int) < (k : Int)) = true := by simp; omega
            have d3' : decide (0 < k) = true := by simp; omega
            have hw1 : IntKind.i64.wrap ((k : Int) - 1) = (m : Int) := by rw [IntKind.wrap_i64]; omega
            have hmi : (m : Int) < (ln : Int) := by omega
            have hlk := last_get hy
            rw [← hm] at hlk
            by_cases h3 : x ≤ y
            · have d4 : decide (x ≤ y) = true := by simpa using h3
              have HE : Hid (bq = false) := hidIn (hno (fun hh => by rw [hlk] at hh; omega))
              clear hno hcell hx hlk hy hm
              go_wp2_with fail
              go_quiet (fail)
              go_wp2_with fail
              go_ret
              exact ⟨by rw [HE.out]; rfl, q + nq, by rw [World.drewN_drewN]⟩
            · have d4 : decide (x ≤ y) = false := by simpa using h3
              have HE := hidIn (up_yes hx HC.out (by rw [hlk]; omega))
              clear hno hcell hx hlk hy hm
              go_wp2_with fail
              go_quiet (fail)
              go_wp2_with fail
              go_roundw
              case rel => exact ⟨k + 1, q + nq, by omega, by go_num, rfl, hidIn HE.out.1⟩
              case measure => simp [intOf]; omega
    · have hki : ¬ ((k : Int) < (ln : Int)) := by omega
      have HE : Hid (bq = true) := hidIn (by rw [← HQ.out]; have := HC.out; rw [List.take_of_length_le (by have := Hln.out; omega)] at this; exact this)
      go_wp2_with fail
      go_ret
      exact ⟨by rw [HE.out]; rfl, q, rfl⟩
end Go.Proofs.YtbggingacoheiaaGreatDoor
namespace Go.Proofs.YtbggingacoheiaaGreatDoor
open Go.RowKit

theorem nx_no {self : Int} {l : List Int} {k : Nat} {x : Int} (hx : l[k]? = some x) (h : ¬ (lastF 0 (l.take k) < x ∧ x ≤ 24) ∨ x = self) : nxOk self l = false := by
  unfold nxOk
  rcases h with h | h
  · rw [up_no hx h, Bool.false_and]
  · have : l.contains self = true := by rw [List.contains_eq_mem, decide_eq_true_eq, ← h]; exact List.mem_of_getElem? hx
    rw [this]
    simp
set_option maxRecDepth 100000 in
set_option maxHeartbeats 1000000 in
theorem nextMay_any {l : List Int} {v : Value} (self : Int) {w : World} (h : SlAt ic 1 w v l) : Calls Tryz.prog 127 #[v, .int .i64 self] w fun e w' => e = .returned (.bool (nxOk self l)) ∧ w' = w := by
  obtain ⟨a, cap, rfl, hl, _, hat⟩ := h.ints
  have Ha := hidIn hat
  obtain ⟨ln, hln⟩ : ∃ ln, l.length = ln := ⟨_, rfl⟩
  have Hln := hidIn hln
  rw [hln] at hl ⊢
  obtain ⟨bq, hbq⟩ : ∃ bq, nxOk self l = bq := ⟨_, rfl⟩
  rw [hbq]
  have HQ := hidIn hbq
  clear h hat hln hbq
  go_enter Tryz.func127, Tryz.ntmps127
  go_wp2_with fail
  go_loop [5, 10] (fun p i => ∃ k : Nat, k ≤ ln ∧ i = .int .i64 k ∧ p = .int .i64 (lastF 0 (l.take k)) ∧ Hid (upF 0 (l.take k) = true ∧ self ∉ l.take k)) (fun _ i => ln - (intOf i).toNat)
  case atStart => exact ⟨0, Nat.zero_le _, rfl, rfl, hidIn ⟨rfl, by simp⟩⟩
  case round =>
    obtain ⟨k, hk, rfl, rfl, HC⟩ := hrel
    by_cases hlt : k < ln
    · obtain ⟨bk, o, rfl, hbk, hcell⟩ := Ha.out (by have := Hln.out; omega)
      obtain ⟨x, hx⟩ : ∃ x, l[k]? = some x := ⟨l[k]'(by have := Hln.out; omega), List.getElem?_eq_getElem _⟩
      have c0 := hcell k x hx
      have hki : (k : Int) < (ln : Int) := by omega
      obtain ⟨p, hp⟩ : ∃ p, lastF 0 (l.take k) = p := ⟨_, rfl⟩
      have hp0 : 0 ≤ p := by
        rw [← hp]
        have hu := HC.out.1
        clear hp c0 hki HC
        rcases Nat.eq_zero_or_pos k with h0 | h0
        · subst h0; simp [lastF]
        · obtain ⟨y, hy⟩ : ∃ y, l[k - 1]? = some y := ⟨l[k - 1]'(by have := Hln.out; omega), List.getElem?_eq_getElem _⟩
          have h1 := last_get hy
          rw [show k - 1 + 1 = k by omega] at h1
          rw [h1]
          have := (upF_ok hu).1 y (by rw [List.mem_take_iff_getElem]; exact ⟨k - 1, by have := Hln.out; omega, by rw [List.getElem?_eq_some_iff] at hy; exact hy.2⟩)
          omega
      have hrr : (decide (1 ≤ x) && decide (x ≤ 24)) = decide (1 ≤ x ∧ x ≤ 24) := (Bool.decide_and _ _).symm
      by_cases h1 : 1 ≤ x ∧ x ≤ 24
      rotate_left
      · have HE : Hid (bq = false) := hidIn (by rw [← HQ.out]; exact nx_no hx (.inl (by rw [hp]; omega)))
        have hd : (decide (1 ≤ x) && decide (x ≤ 24)) = false := by rw [hrr]; exact decide_eq_false h1
        rw [hp]
        clear hcell hx hp HC h1 hrr
        go_wp2_with fail
        refine (tisR_any x _).mono ?_
        rintro e w1 ⟨rfl, hw1⟩
        rw [hw1, hd]
        clear hw1 w1 hd
        go_wp2_with fail
        go_ret
        exact ⟨by rw [HE.out]; rfl, rfl⟩
      have hd : (decide (1 ≤ x) && decide (x ≤ 24)) = true := by rw [hrr]; exact decide_eq_true h1
      by_cases h2 : x = self
      · have HE : Hid (bq = false) := hidIn (by rw [← HQ.out]; exact nx_no hx (.inr h2))
        have h2' : (x == self) = true := by simpa using h2
        rw [hp]
        clear hcell hx hp HC h1 h2 hrr
        go_wp2_with fail
        refine (tisR_any x _).mono ?_
        rintro e w1 ⟨rfl, hw1⟩
        rw [hw1, hd]
        clear hw1 w1 hd
        go_wp2_with fail
        go_ret
        exact ⟨by rw [HE.out]; rfl, rfl⟩
      have h2' : (x == self) = false := by simpa using h2
      by_cases h3 : p < x
      · have HE := hidIn (up_yes hx HC.out.1 (by rw [hp]; exact ⟨h3, h1.2⟩))
        have HN : Hid (self ∉ l.take (k + 1)) := hidIn (by
          rw [take_snoc hx, List.mem_append, List.mem_singleton]
          rintro (h | h)
          · exact HC.out.2 h
          · exact h2 h.symm)
        have h3' : ¬ x ≤ p := by omega
        rw [hp]
        clear hcell hx hp HC h1 h2 h3 hrr
        go_wp2_with fail
        refine (tisR_any x _).mono ?_
        rintro e w1 ⟨rfl, hw1⟩
        rw [hw1, hd]
        clear hw1 w1 hd
        go_wp2_with fail
        go_round
        case rel => exact ⟨k + 1, by omega, by go_num, by rw [HE.out.2], hidIn ⟨HE.out.1, HN.out⟩⟩
        case measure => simp [intOf]; omega
      · have HE : Hid (bq = false) := hidIn (by rw [← HQ.out]; exact nx_no hx (.inl (by rw [hp]; omega)))
        have h3' : x ≤ p := by omega
        rw [hp]
        clear hcell hx hp HC h1 h2 h3 hrr
        go_wp2_with fail
        refine (tisR_any x _).mono ?_
        rintro e w1 ⟨rfl, hw1⟩
        rw [hw1, hd]
        clear hw1 w1 hd
        go_wp2_with fail
        go_ret
        exact ⟨by rw [HE.out]; rfl, rfl⟩
    · have hki : ¬ ((k : Int) < (ln : Int)) := by omega
      have HE : Hid (bq = (decide (1 ≤ ln) && decide (ln ≤ 16))) := hidIn (by
        rw [← HQ.out]
        have := HC.out
        rw [List.take_of_length_le (by have := Hln.out; omega)] at this
        unfold nxOk
        rw [show nbOk l = true from this.1, Hln.out, show l.contains self = false by rw [List.contains_eq_mem, decide_eq_false_iff_not]; exact this.2]
        rfl)
      by_cases h1 : 1 ≤ ln
      · by_cases h2 : ln ≤ 16
        · have g1 : (1 : Int) ≤ (ln : Int) := by omega
          have g2 : (ln : Int) ≤ 16 := by omega
          have HF : Hid (bq = true) := hidIn (by rw [HE.out, decide_eq_true h1, decide_eq_true h2]; rfl)
          clear h1 h2 hlt hk
          go_wp2_with fail
          go_ret
          exact ⟨by rw [HF.out]; rfl, rfl⟩
        · have g1 : (1 : Int) ≤ (ln : Int) := by omega
          have g2 : ¬ (ln : Int) ≤ 16 := by omega
          have HF : Hid (bq = false) := hidIn (by rw [HE.out, decide_eq_false h2]; simp)
          clear h1 h2 hlt hk
          go_wp2_with fail
          go_ret
          exact ⟨by rw [HF.out]; rfl, rfl⟩
      · have g1 : ¬ (1 : Int) ≤ (ln : Int) := by omega
        have HF : Hid (bq = false) := hidIn (by rw [HE.out, decide_eq_false h1]; rfl)
        clear h1 hlt hk
        go_wp2_with fail
        go_ret
        exact ⟨by rw [HF.out]; rfl, rfl⟩
end Go.Proofs.YtbggingacoheiaaGreatDoor
namespace Go.Proofs.YtbggingacoheiaaGreatDoor
open Go.RowKit

set_option maxRecDepth 100000 in
set_option maxHeartbeats 4000000 in
theorem entryMay_any {x : En} {w : World} (hx : SlAt ic 1 w (rwS x.1) x.2) (self wd own : Int) (ua : Option Addr) (un uc : Nat) :
    Calls Tryz.prog 98 #[tbV self wd own (.slice ua un uc), enV x.1] w fun e w' => e = .returned (.bool (enB self wd (toE x))) ∧ Below w.heap.size w w' := by
  obtain ⟨⟨a0, a1, a2, a3, a4, a5⟩, an⟩ := x
  simp only at hx
  obtain ⟨W1, hW1⟩ : ∃ W1, (w.alloc (tbO self wd own (.slice ua un uc))).alloc (enO a0 a1 a2 (.slice a3 a4 a5)) = W1 := ⟨_, rfl⟩
  have hb : Below w.heap.size w W1 := by rw [← hW1]; exact ((Below.refl _ w).alloc (Nat.le_refl _) _).alloc (by simp) _
  have hA : W1.heap[w.heap.size]? = some (tbO self wd own (.slice ua un uc)) := by rw [← hW1, Below.heap_alloc _ _ _ (by simp)]; exact heap_alloc_last w _
  have hB : W1.heap[w.heap.size + 1]? = some (enO a0 a1 a2 (.slice a3 a4 a5)) := by
    rw [← hW1]
    have := heap_alloc_last (w.alloc (tbO self wd own (.slice ua un uc))) (enO a0 a1 a2 (.slice a3 a4 a5))
    rwa [World.size_alloc] at this
  obtain ⟨q, hq⟩ : ∃ q, w.heap.size = q := ⟨_, rfl⟩
  have HN := hidIn (nextMay_any self (hx.keep hb (Nat.le_refl _)))
  have HB := hidIn hb
  rw [hq] at hA hB
  have s0 := cell_of_row _ _ 0 _ _ _ hA
  have s1 := cell_of_row _ _ 1 _ _ _ hA
  have t0 := cell_of_row _ _ 0 _ _ _ hB
  have t1 := cell_of_row _ _ 1 _ _ _ hB
  have t2 := cell_of_row _ _ 2 _ _ _ hB
  have t3 := cell_of_row _ _ 3 _ _ _ hB
  simp at s0 s1 t0 t1 t2 t3
  obtain ⟨r, hr⟩ : ∃ r, enB self wd (toE (((a0, a1, a2, a3, a4, a5), an) : En)) = r := ⟨_, rfl⟩
  obtain ⟨n, hn⟩ : ∃ n, nxOk self an = n := ⟨_, rfl⟩
  have hr' : r = ((decide (0 ≤ a0) && decide (a0 < 128)) && (decide (1 ≤ a1) && (decide (a1 ≤ wd) && ((decide (1 ≤ a2) && decide (a2 ≤ 24)) && (!decide (a2 = self) && n))))) := by
    rw [← hr, ← hn]
    rfl
  rw [hr]
  rw [hn] at HN
  have HR := hidIn hr'
  have HW := hidIn hW1
  clear hx hb hA hB hr hn hr' hW1
  obtain ⟨p0, hp0⟩ : ∃ p, (decide (0 ≤ a0) && decide (a0 < 128)) = p := ⟨_, rfl⟩
  obtain ⟨p3, hp3⟩ : ∃ p, (decide (1 ≤ a2) && decide (a2 ≤ 24)) = p := ⟨_, rfl⟩
  have HS : Hid (Calls Tryz.prog 68 #[.int .i64 a0] W1 fun e w' => e = .returned (.bool p0) ∧ w' = W1) := hidIn (by rw [← hp0]; exact tisS_any a0 W1)
  have HO : Hid (Calls Tryz.prog 40 #[.int .i64 a2] W1 fun e w' => e = .returned (.bool p3) ∧ w' = W1) := hidIn (by rw [← hp3]; exact tisR_any a2 W1)
  rw [hp0, hp3] at HR
  clear hp0 hp3
  go_enter Tryz.func98, Tryz.ntmps98
  go_upto_region 1 with fail
  rw [HW.out]
  clear HW hq
  go_wp2_with fail
  refine HS.out.mono ?_
  rintro e w1 ⟨rfl, hw1⟩
  rw [hw1]
  clear hw1 w1 HS
  cases p0
  · have HE : Hid (r = false) := hidIn (by rw [HR.out]; rfl)
    go_wp2_with fail
    go_ret
    exact ⟨by rw [HE.out]; rfl, HB.out⟩
  by_cases h1 : 1 ≤ a1
  rotate_left
  · have HE : Hid (r = false) := hidIn (by rw [HR.out, decide_eq_false h1]; rfl)
    go_wp2_with fail
    go_ret
    exact ⟨by rw [HE.out]; rfl, HB.out⟩
  by_cases h2 : a1 ≤ wd
  rotate_left
  · have HE : Hid (r = false) := hidIn (by rw [HR.out, decide_eq_false h2]; simp)
    go_wp2_with fail
    go_ret
    exact ⟨by rw [HE.out]; rfl, HB.out⟩
  go_wp2_with fail
  refine HO.out.mono ?_
  rintro e w1 ⟨rfl, hw1⟩
  rw [hw1]
  clear hw1 w1 HO
  cases p3
  · have HE : Hid (r = false) := hidIn (by rw [HR.out]; simp)
    go_wp2_with fail
    go_ret
    exact ⟨by rw [HE.out]; rfl, HB.out⟩
  by_cases h4 : a2 = self
  · have HE : Hid (r = false) := hidIn (by rw [HR.out, decide_eq_true h4]; simp)
    have h4' : (a2 != self) = false := by simpa using h4
    clear h4
    go_wp2_with fail
    go_ret
    exact ⟨by rw [HE.out]; rfl, HB.out⟩
  have h4' : (a2 != self) = true := by simpa using h4
  have HE : Hid (r = n) := hidIn (by rw [HR.out, decide_eq_true h1, decide_eq_true h2, decide_eq_false h4]; rfl)
  clear h1 h2 h4 HR
  go_wp2_with fail
  refine HN.out.mono ?_
  rintro e w1 ⟨rfl, hw1⟩
  rw [hw1]
  clear hw1 w1 HN
  go_wp2_with fail
  go_ret
  exact ⟨by rw [HE.out]; rfl, HB.out⟩
/-- The closure of at, and what it has caught. -/
abbrev atC (B : Nat) : Array Value := #[.pointer (some ⟨B, 0, none⟩), .pointer (some ⟨B + 1, 0, none⟩)]
abbrev atF (B : Nat) : Value := .func (.func 100) #[] (atC B)
theorem at_any (s b : Int) (w : World) : Calls Tryz.prog 64 #[.int .i64 s, .int .i64 b] w fun e w' => e = .returned (atF w.heap.size) ∧ w' = (w.alloc (.cells #[.int .i64 s] 3)).alloc (.cells #[.int .i64 b] 3) := by
  go_enter Tryz.func64, Tryz.ntmps64
  go_wp2
  go_ret
  exact ⟨rfl, rfl⟩
theorem enter_at (args : Array Value) (w : World) : (callFunc 100 args).run Tryz.prog w = .ok (.enter 100 args) w := by kernel_rfl
set_option maxRecDepth 100000 in
set_option maxHeartbeats 1000000 in
theorem at1_any {s b : Int} {B : Nat} {w : World} (h0 : w.cell? ⟨B, 0, none⟩ = some (.int .i64 s)) (h1 : w.cell? ⟨B + 1, 0, none⟩ = some (.int .i64 b)) (x : En) :
    Calls Tryz.prog 100 (#[enV x.1] ++ atC B) w fun e w' => e = .returned (.bool (atB s b (toE x))) ∧ Below w.heap.size w w' := by
  obtain ⟨⟨a0, a1, a2, a3, a4, a5⟩, an⟩ := x
  have hlt0 := block_lt_of_cell h0
  have hlt1 := block_lt_of_cell h1
  simp only at hlt0 hlt1
  obtain ⟨W1, hW1⟩ : ∃ W1, w.alloc (enO a0 a1 a2 (.slice a3 a4 a5)) = W1 := ⟨_, rfl⟩
  have hb : Below w.heap.size w W1 := by rw [← hW1]; exact (Below.refl _ w).alloc (Nat.le_refl _) _
  have hA : W1.heap[w.heap.size]? = some (enO a0 a1 a2 (.slice a3 a4 a5)) := by rw [← hW1]; exact heap_alloc_last w _
  obtain ⟨q, hq⟩ : ∃ q, w.heap.size = q := ⟨_, rfl⟩
  have HB := hidIn hb
  have k0 := (hb.cell (p := ⟨B, 0, none⟩) hlt0).trans h0
  have k1 := (hb.cell (p := ⟨B + 1, 0, none⟩) hlt1).trans h1
  rw [hq] at hA
  have t0 := cell_of_row _ _ 0 _ _ _ hA
  have t1 := cell_of_row _ _ 1 _ _ _ hA
  simp at t0 t1
  obtain ⟨r, hr⟩ : ∃ r, atB s b (toE (((a0, a1, a2, a3, a4, a5), an) : En)) = r := ⟨_, rfl⟩
  have hr' : r = (decide (a0 = s) && decide (a1 = b)) := by rw [← hr]; rfl
  rw [hr]
  have HR := hidIn hr'
  have HW := hidIn hW1
  clear hb hA hr hr' hW1 h0 h1 hlt0 hlt1
  show Calls Tryz.prog 100 #[enV (a0, a1, a2, a3, a4, a5), .pointer (some ⟨B, 0, none⟩), .pointer (some ⟨B + 1, 0, none⟩)] w _
  go_enter Tryz.func100, Tryz.ntmps100
  go_upto_region 1 with fail
  rw [HW.out]
  clear HW hq
  by_cases g0 : a0 = s
  rotate_left
  · have d0 : (a0 == s) = false := by simpa using g0
    have HE : Hid (r = false) := hidIn (by rw [HR.out, decide_eq_false g0]; rfl)
    clear g0
    go_wp2_with fail
    go_ret
    exact ⟨by rw [HE.out]; rfl, HB.out⟩
  have d0 : (a0 == s) = true := by simpa using g0
  by_cases g1 : a1 = b
  · have d1 : (a1 == b) = true := by simpa using g1
    have HE : Hid (r = true) := hidIn (by rw [HR.out, decide_eq_true g0, decide_eq_true g1]; rfl)
    clear g0 g1
    go_wp2_with fail
    go_ret
    exact ⟨by rw [HE.out]; rfl, HB.out⟩
  · have d1 : (a1 == b) = false := by simpa using g1
    have HE : Hid (r = false) := hidIn (by rw [HR.out, decide_eq_false g1]; simp)
    clear g0 g1
    go_wp2_with fail
    go_ret
    exact ⟨by rw [HE.out]; rfl, HB.out⟩
/-- Who is asked of each entry: a function, what it has caught, what it answers. -/
structure AskS (w : World) (es : List En) where
  f : FuncId
  caps : Array Value
  q : En → Bool
  enter : ∀ args w, (callFunc f args).run Tryz.prog w = .ok (Next.enter f args) w
  call : ∀ x ∈ es, ∀ wr, Below w.heap.size w wr → Calls Tryz.prog f (#[enV x.1] ++ caps) wr fun e w' => e = .returned (.bool (q x)) ∧ Below wr.heap.size wr w'
/-- Entries in a row of their own, their neighbours shared. -/
def ThAns (w w' : World) (es : List En) (e : Ending) : Prop := ∃ a c, e = .returned (.slice a es.length c) ∧ w'.ownsRow w.heap.size 34 4 (.slice a es.length c) es.length (fl rwcs (es.map (·.1)))
set_option maxRecDepth 100000 in
set_option maxHeartbeats 4000000 in
theorem those_any {es : List En} {ua : Option Addr} {un uc : Nat} {w : World} (h : EnAt w (.slice ua un uc) es) (hn : es.length ≤ 100000) (A : AskS w es) (self wd own : Int) :
    Calls Tryz.prog 63 #[tbV self wd own (.slice ua un uc), .func (.func A.f) #[] A.caps] w fun e w' => ThAns w w' (es.filter A.q) e ∧ Below w.heap.size w w' := by
  obtain ⟨W1, hW1⟩ : ∃ W1, w.alloc (tbO self wd own (.slice ua un uc)) = W1 := ⟨_, rfl⟩
  have hb : Below w.heap.size w W1 := by rw [← hW1]; exact (Below.refl _ w).alloc (Nat.le_refl _) _
  have hA : W1.heap[w.heap.size]? = some (tbO self wd own (.slice ua un uc)) := by rw [← hW1]; exact heap_alloc_last w _
  obtain ⟨q, hq⟩ : ∃ q, w.heap.size = q := ⟨_, rfl⟩
  have hs1 : W1.heap.size = q + 1 := by rw [← hW1, World.size_alloc, hq]
  obtain ⟨a', c', he, hl, _, hcl⟩ := (h.keep hb (Nat.le_refl _)).op
  simp only [Value.slice.injEq] at he
  obtain ⟨hua, hun, huc⟩ := he
  subst hua
  clear huc
  obtain ⟨ln, hln⟩ : ∃ ln, es.length = ln := ⟨_, rfl⟩
  rw [hln] at hun hl hn
  subst hun
  have Hcl := hidIn hcl
  have Hln := hidIn hln
  have HB := hidIn hb
  have HA := hidIn hA
  have Hq := hidIn hq
  have Hs1 := hidIn hs1
  rw [hq] at hA
  have t3 := cell_of_row _ _ 3 _ _ _ hA
  simp at t3
  have HC := hidIn A.call
  have Hen := hidIn A.enter
  obtain ⟨F, caps, Q, hen, hcall⟩ := A
  simp only at HC Hen ⊢
  have HW := hidIn hW1
  clear hb hA hW1 hcl hln h hs1 hen hcall
  go_enter Tryz.func63, Tryz.ntmps63
  go_upto_region 1 with fail
  rw [HW.out]
  clear HW hq
  go_wp2_with fail
  clear t3
  go_loopw [5, 11] (fun ov i wr => ∃ (k : Nat) (oa : Option Addr) (oc : Nat), k ≤ un ∧ i = .int .i64 k ∧ ov = .slice oa ((es.take k).filter Q).length oc ∧ Hid (Below W1.heap.size W1 wr ∧ wr.ownsRow W1.heap.size 34 4 (.slice oa ((es.take k).filter Q).length oc) ((es.take k).filter Q).length (fl rwcs (((es.take k).filter Q).map (·.1))))) (fun _ i _ => un - (intOf i).toNat)
  case atStart => exact ⟨0, none, 0, Nat.zero_le _, rfl, rfl, hidIn ⟨Below.refl _ _, World.ownsRow_nil _ _ _ _⟩⟩
  case round =>
    obtain ⟨k, oa, oc, hk, rfl, rfl, HM⟩ := hrel
    obtain ⟨hbr, hro⟩ := HM.out
    clear HM
    obtain ⟨PL, hPL⟩ : ∃ PL, (es.take k).filter Q = PL := ⟨_, rfl⟩
    have hPn : PL.length ≤ 100000 := by rw [← hPL]; have := List.length_filter_le Q (es.take k); rw [List.length_take] at this; omega
    rw [hPL] at hro ⊢
    by_cases hlt : k < un
    · have hki : (k : Int) < (un : Int) := by omega
      obtain ⟨bk, o, rfl, hbk, hcell⟩ := Hcl.out (by have := Hln.out; omega)
      obtain ⟨x, hx⟩ : ∃ x, es[k]? = some x := ⟨es[k]'(by have := Hln.out; omega), List.getElem?_eq_getElem _⟩
      obtain ⟨g0, g1, g2, g3, g4, g5⟩ := hcell k x hx
      clear g4 g5
      have e0 := (hbr.cell (p := ⟨bk, o + k * 4, none⟩) hbk).trans g0
      have e1 := (hbr.cell (p := ⟨bk, o + k * 4 + 1, none⟩) hbk).trans g1
      have e2 := (hbr.cell (p := ⟨bk, o + k * 4 + 2, none⟩) hbk).trans g2
      have e3 := (hbr.cell (p := ⟨bk, o + k * 4 + 3, none⟩) hbk).trans g3
      obtain ⟨w3, hw3⟩ : ∃ w3, wr.alloc (enO x.1.1 x.1.2.1 x.1.2.2.1 (rwS x.1)) = w3 := ⟨_, rfl⟩
      have b3 : Below wr.heap.size wr w3 := by rw [← hw3]; exact (Below.refl _ wr).alloc (Nat.le_refl _) _
      have hz : w3.heap[wr.heap.size]? = some (enO x.1.1 x.1.2.1 x.1.2.2.1 (rwS x.1)) := by rw [← hw3]; exact heap_alloc_last wr _
      have hB3 := hbr.trans (b3.mono hbr.size)
      have hBw := HB.out.trans (hB3.mono HB.out.size)
      have HCx := hidIn (HC.out x (List.mem_of_getElem? hx) w3 hBw)
      have HTk : Hid ((es.take (k + 1)).filter Q = PL ++ (if Q x = true then [x] else [])) := hidIn (by rw [take_snoc hx, List.filter_append, hPL, List.filter_cons, List.filter_nil])
      obtain ⟨⟨x0, x1, x2, x3, x4, x5⟩, xn⟩ := x
      simp only at e0 e1 e2 e3 hw3 hz HCx
      obtain ⟨q3, hq3⟩ : ∃ q3, wr.heap.size = q3 := ⟨_, rfl⟩
      rw [hq3] at hz
      have HZ := hidIn hz
      have z0 := cell_of_row _ _ 0 _ _ _ hz
      have z1 := cell_of_row _ _ 1 _ _ _ hz
      have z2 := cell_of_row _ _ 2 _ _ _ hz
      have z3 := cell_of_row _ _ 3 _ _ _ hz
      simp at z0 z1 z2 z3
      have HB3 := hidIn hB3
      have HRo := hidIn (row_below hro b3 (Nat.le_refl _))
      have HW3 := hidIn hw3
      clear hcell hx g0 g1 g2 g3 hbr hro b3 hB3 hBw hz hw3 hPL hbk
      go_upto_region 5 with fail
      rw [HW3.out]
      clear HW3 hq3 e0 e1 e2 e3
      have hen := Hen.out
      go_wp2_with fail
      refine HCx.out.mono ?_
      rintro e w4 ⟨rfl, hb4⟩
      have HB4 := hidIn (HB3.out.trans (hb4.mono HB3.out.size))
      have HR4 := hidIn (row_below HRo.out hb4 (Nat.le_refl _))
      have hz4 := (hb4.block _ (block_lt HZ.out)).trans HZ.out
      have y0 := cell_of_row _ _ 0 _ _ _ hz4
      have y1 := cell_of_row _ _ 1 _ _ _ hz4
      have y2 := cell_of_row _ _ 2 _ _ _ hz4
      have y3 := cell_of_row _ _ 3 _ _ _ hz4
      simp at y0 y1 y2 y3
      obtain ⟨g9, gc9, w9, hrun, hown, hb9⟩ := append_ent HR4.out (x0, x1, x2, x3, x4, x5) (by omega) HB4.out.size
      have HRun := hidIn hrun
      have HO := hidIn (And.intro (HB4.out.trans hb9) hown)
      obtain ⟨qx, hqx⟩ : ∃ qx, Q ((x0, x1, x2, x3, x4, x5), xn) = qx := ⟨_, rfl⟩
      rw [hqx] at HTk ⊢
      clear hb4 HCx hz4 z0 z1 z2 z3 hen hrun hown hb9 hqx HRo HB3 HZ
      cases qx
      · have HT : Hid ((es.take (k + 1)).filter Q = PL) := hidIn (by rw [HTk.out]; simp)
        go_wp2_with fail
        go_roundw
        case rel => exact ⟨k + 1, oa, oc, by omega, by go_num, by rw [HT.out], hidIn (by rw [HT.out]; exact ⟨HB4.out, HR4.out⟩)⟩
        case measure => simp [intOf]; omega
      · have HT : Hid ((es.take (k + 1)).filter Q = PL ++ [((x0, x1, x2, x3, x4, x5), xn)]) := hidIn (by rw [HTk.out]; simp)
        have HL1 : Hid (((es.take (k + 1)).filter Q).length = PL.length + 1) := hidIn (by rw [HT.out, List.length_append]; rfl)
        have HO2 : Hid (Below W1.heap.size W1 w9 ∧ w9.ownsRow W1.heap.size 34 4 (.slice (some ⟨g9, 0, none⟩) ((es.take (k + 1)).filter Q).length gc9) ((es.take (k + 1)).filter Q).length (fl rwcs (((es.take (k + 1)).filter Q).map (·.1)))) := hidIn (by
          rw [HL1.out, HT.out, List.map_append]
          exact HO.out)
        go_wp2_with (refine l_append rfl _ _ 24 rfl HRun.out ?_)
        go_roundw
        case rel => exact ⟨k + 1, _, gc9, by omega, by go_num, by rw [HL1.out], HO2⟩
        case measure => simp [intOf]; omega
    · have hki : ¬ ((k : Int) < (un : Int)) := by omega
      have HE : Hid (ThAns w wr (es.filter Q) (.returned (.slice oa PL.length oc)) ∧ Below w.heap.size w wr) := hidIn (by
        have hT : PL = es.filter Q := by rw [← hPL, List.take_of_length_le (by have := Hln.out; omega)]
        rw [← hT]
        refine ⟨⟨oa, oc, rfl, row_low hro (by have := Hs1.out; have := Hq.out; omega)⟩, HB.out.trans (hbr.mono HB.out.size)⟩)
      clear hbr hro hPL
      go_wp2_with fail
      go_ret
      exact HE.out
end Go.Proofs.YtbggingacoheiaaGreatDoor
