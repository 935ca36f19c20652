/- areNodes; Count. -/
import Derived.Test.YtabnecicidkmhaaV5
namespace Go.Proofs.Ytabnecicidkmhaa
open Go.RowKit

/-- May a graph be, and are all of these its nodes? -/
def ndAll (ns : List Int) (es : List Ed) (l : List Int) : Bool := graphOk ns es && l.all fun n => hasN ns n
set_option maxRecDepth 100000 in
set_option maxHeartbeats 1000000 in
theorem areNodes_any {ns : List Int} {es : List Ed} {vn ve v : Value} {l : List Int} {w : World} (h : GrAt w vn ve ns es) (hv : SlAt ic 1 w v l) :
    Calls Try.prog 21 #[grV vn ve, v] w fun e w' => e = .returned (.bool (ndAll ns es l)) ∧ Below w.heap.size w w' := by
  have HG0 := hidIn h
  obtain ⟨ea, eca, rfl, _⟩ := h.e
  obtain ⟨na, nca, rfl, _⟩ := h.n
  obtain ⟨a, cap, rfl, hl, _, hat⟩ := hv.ints
  have Ha := hidIn hat
  obtain ⟨W1, hW1⟩ : ∃ W1, w.alloc (.cells #[.slice na ns.length nca, .slice ea es.length eca] 25) = W1 := ⟨_, rfl⟩
  have bA : Below w.heap.size w W1 := by rw [← hW1]; exact (Below.refl _ w).alloc (Nat.le_refl _) _
  have hGB : W1.heap[w.heap.size]? = some (.cells #[.slice na ns.length nca, .slice ea es.length eca] 25) := by rw [← hW1]; exact heap_alloc_last w _
  have HK : Hid (∀ wq, Below W1.heap.size W1 wq → (wq.cell? ⟨w.heap.size, 0, none⟩ = some (.slice na ns.length nca) ∧ wq.cell? ⟨w.heap.size, 1, none⟩ = some (.slice ea es.length eca)) ∧ Below w.heap.size w wq) := hidIn fun wq h => by
    have j0 := (h.block _ (block_lt hGB)).trans hGB
    exact ⟨⟨cell_of_row _ _ 0 _ _ _ j0, cell_of_row _ _ 1 _ _ _ j0⟩, bA.trans (h.mono bA.size)⟩
  obtain ⟨b1, hb1⟩ : ∃ b1, graphOk ns es = b1 := ⟨_, rfl⟩
  have hC := check_any (HG0.out.keep bA (Nat.le_refl _))
  rw [hb1] at hC
  have HC := hidIn hC
  have Hb1 := hidIn hb1
  have HW := hidIn hW1
  clear hW1 bA hGB h hv hat hb1 hC
  obtain ⟨⟨g0, g1⟩, _⟩ := HK.out W1 (Below.refl _ _)
  go_enter Try.func21, Try.ntmps21
  go_upto_region 1 with fail
  rw [HW.out]
  clear HW
  go_wp2_with fail
  refine HC.out.mono ?_
  rintro e w2 ⟨rfl, hb2⟩
  have HB2 := hidIn hb2
  clear hb2 HC g0 g1
  cases b1
  · simp only [Bool.false_eq_true, if_false]
    have HBw := hidIn (HK.out w2 HB2.out).2
    go_wp2_with fail
    go_returns
    exact ⟨by unfold ndAll; rw [Hb1.out]; rfl, HBw.out⟩
  simp only [if_true]
  go_wp2_with fail
  go_loopw [12] (fun i wr => ∃ k : Nat, k ≤ l.length ∧ i = .int .i64 k ∧ Hid (Below W1.heap.size W1 wr ∧ (l.all fun n => hasN ns n) = ((l.drop k).all fun n => hasN ns n))) (fun i _ => l.length - (intOf i).toNat)
  case atStart => exact ⟨0, Nat.zero_le _, rfl, hidIn ⟨HB2.out, by rw [List.drop_zero]⟩⟩
  case round =>
    clear HB2
    obtain ⟨k, hk, rfl, HR⟩ := hrel
    obtain ⟨hB, hrest⟩ := HR.out
    clear HR
    obtain ⟨⟨g0, g1⟩, hbw⟩ := HK.out wr hB
    by_cases hlt : k < l.length
    · obtain ⟨bk, o, rfl, hbk, hcell⟩ := Ha.out (by omega)
      obtain ⟨z, hz⟩ : ∃ z, l[k]? = some z := ⟨l[k], List.getElem?_eq_getElem hlt⟩
      have c0 := (hbw.cell (p := ⟨bk, o + k, none⟩) hbk).trans (hcell k z hz)
      have hki : (k : Int) < (l.length : Int) := by omega
      have HN : Hid ((l.all fun n => hasN ns n) = (hasN ns z && (l.drop (k + 1)).all fun n => hasN ns n)) := hidIn (by rw [hrest, drop_next hz]; rfl)
      have HCo := hidIn (contains_any (HG0.out.n.keep hbw (Nat.le_refl _)) z)
      have HB := hidIn hB
      have HBw := hidIn hbw
      clear hcell hz hrest hB hbw
      go_wp2_with fail
      refine HCo.out.mono ?_
      rintro e w3 ⟨rfl, hw3⟩
      rw [hw3]
      clear hw3 w3 HCo
      obtain ⟨b2, hb2⟩ : ∃ b2, hasN ns z = b2 := ⟨_, rfl⟩
      rw [hb2] at HN ⊢
      clear hb2
      cases b2
      · go_wp2_with fail
        go_returns
        exact ⟨by unfold ndAll; rw [Hb1.out, HN.out]; rfl, HBw.out⟩
      · go_wp2_with fail
        go_roundw
        case rel => exact ⟨k + 1, by omega, by go_num, hidIn ⟨HB.out, by rw [HN.out]; rfl⟩⟩
        case measure => simp [intOf]; omega
    · have hki : ¬ ((k : Int) < (l.length : Int)) := by omega
      have HT : Hid (ndAll ns es l = true) := hidIn (by unfold ndAll; rw [Hb1.out, hrest, List.drop_eq_nil_of_le (by omega)]; rfl)
      have HBw := hidIn hbw
      clear hbw hrest
      go_wp2_with fail
      go_returns
      exact ⟨by rw [HT.out]; rfl, HBw.out⟩
/-- Numbers of ways, in their array. -/
def ucl (c : Nat → Nat) : List Value := (List.range 25).map fun i => .int .u64 (c i : Nat)
theorem ucl_len (c : Nat → Nat) : (ucl c).length = 25 := by simp [ucl]
theorem ucl_get (c : Nat → Nat) {j : Nat} (h : j < 25) : (ucl c)[j]? = some (.int .u64 (c j : Nat)) := by
  simp only [ucl, List.getElem?_map]; rw [List.getElem?_range h]; rfl
def putN (c : Nat → Nat) (i v : Nat) : Nat → Nat := fun j => if j = i then v else c j
theorem ucl_set (c : Nat → Nat) {n : Nat} (_h : n < 25) (v : Nat) : (ucl c).set n (.int .u64 (v : Nat)) = ucl (putN c n v) := by
  apply List.ext_getElem?
  intro j
  rw [List.getElem?_set]
  by_cases hj : j < 25
  · rw [ucl_get _ hj, ucl_get _ hj]
    by_cases hn : n = j
    · subst hn; rw [if_pos rfl, if_pos (by rw [ucl_len]; exact hj)]; simp [putN]
    · rw [if_neg hn]
      have : putN c n v j = c j := by unfold putN; rw [if_neg (fun e => hn e.symm)]
      rw [this]
  · rw [List.getElem?_eq_none (by rw [ucl_len]; omega), List.getElem?_eq_none (by rw [ucl_len]; omega), if_neg (by omega)]
/-- One edge more. -/
def cntE (c : Nat → Nat) (e : Ed) : Nat → Nat := putN c e.2.1.toNat ((c e.2.1.toNat + c e.1.toNat) % 18446744073709551616)
def cntT (r : Int) (T : List Ed) : Nat → Nat := T.foldl cntE (putN (fun _ => 0) r.toNat 1)
theorem cntT_snoc (r : Int) (T : List Ed) (e : Ed) : cntT r (T ++ [e]) = cntE (cntT r T) e := by simp [cntT, List.foldl_append]
theorem infoU25 : (Try.prog.info? 68).map (fun i => (i.zero, i.size)) = some (some (.agg (ucl fun _ => 0).toArray), 25) := by kernel_rfl
theorem zeroU25 (w : World) : (zeroValue 68).run Try.prog w = .ok (.agg (ucl fun _ => 0).toArray) w := (zero_of_info infoU25).1 w
set_option maxRecDepth 100000 in
set_option maxHeartbeats 2000000 in
theorem count1_any {B : Nat} {c : Nat → Nat} {a b d k : Int} {w : World} (ha : 1 ≤ a ∧ a ≤ 24) (hb : 1 ≤ b ∧ b ≤ 24) (hA : Arr w B 68 (ucl c)) :
    Calls Try.prog 33 #[edV (a, b, d), .int .i64 k, .pointer (some ⟨B, 0, none⟩)] w fun x w' => (∃ v, x = .returned v) ∧ Arr w' B 68 (ucl (cntE c (a, b, d))) ∧ Fr (fun k => k = B) w w' := by
  obtain ⟨i, rfl⟩ : ∃ i : Nat, a = (i : Int) := ⟨a.toNat, by omega⟩
  obtain ⟨j, rfl⟩ : ∃ j : Nat, b = (j : Int) := ⟨b.toNat, by omega⟩
  have hi : i < 25 := by omega
  have hj : j < 25 := by omega
  have hii : (i : Int) < 25 := by omega
  have hji : (j : Int) < 25 := by omega
  obtain ⟨W1, hW1⟩ : ∃ W1, w.alloc (.cells #[.int .i64 (i : Int), .int .i64 (j : Int), .int .i64 d] 54) = W1 := ⟨_, rfl⟩
  have bA : Below w.heap.size w W1 := by rw [← hW1]; exact (Below.refl _ w).alloc (Nat.le_refl _) _
  have hE : W1.heap[w.heap.size]? = some (.cells #[.int .i64 (i : Int), .int .i64 (j : Int), .int .i64 d] 54) := by rw [← hW1]; exact heap_alloc_last w _
  have hA1 := hA.keep bA hA.lt
  have hne : w.heap.size ≠ B := by have := hA.lt; omega
  have l0 := cell_of_row _ _ 0 _ _ _ hE
  have l1 := cell_of_row _ _ 1 _ _ _ hE
  simp at l0 l1
  have m0 := hA1.cell i
  have m1 := hA1.cell j
  rw [ucl_get _ hi] at m0
  rw [ucl_get _ hj] at m1
  have mf := hA1.frozen j
  have HA1 := hidIn hA1
  have HF1 : Hid (Fr (fun k => k = B) w W1) := hidIn (Fr.of_below bA)
  have hwr : IntKind.u64.wrap ((c j : Int) + (c i : Int)) = (((c j + c i) % 18446744073709551616 : Nat) : Int) := by rw [IntKind.wrap_u64]; omega
  have HW := hidIn hW1
  clear hW1 bA hE hA hA1
  go_enter Try.func33, Try.ntmps33
  go_upto_region 1 with fail
  rw [HW.out]
  clear HW
  generalize w.heap.size = be at *
  go_region
  have hcast : ((c j : Int) + (c i : Int)) % 18446744073709551616 = (((c j + c i) % 18446744073709551616 : Nat) : Int) := by omega
  rw [hcast]
  have HA2 : Hid (Arr (W1.setCell ⟨B, j, none⟩ (.int .u64 (((c j + c i) % 18446744073709551616 : Nat) : Int))).drew B 68 (ucl (cntE c ((i : Int), (j : Int), d)))) := hidIn (by
    have h1 := HA1.out.set j (.int .u64 (((c j + c i) % 18446744073709551616 : Nat) : Int))
    rw [ucl_set c hj] at h1
    rw [show cntE c ((i : Int), (j : Int), d) = putN c j ((c j + c i) % 18446744073709551616) from by simp [cntE]]
    exact h1)
  have HF2 := hidIn ((HF1.out.set (p := ⟨B, j, none⟩) rfl (.int .u64 (((c j + c i) % 18446744073709551616 : Nat) : Int))).drew)
  clear m0 m1 mf l0 l1 hwr hcast
  generalize World.drew _ = V at HA2 HF2 ⊢
  go_returns
  exact ⟨⟨_, rfl⟩, HA2.out, HF2.out⟩
theorem enter40 (args : Array Value) (w : World) : (callFunc 33 args).run Try.prog w = .ok (Next.enter 33 args) w := by kernel_rfl
/-- Who counts. -/
def countS {ns : List Int} {es : List Ed} (hok : graphOk ns es = true) (r : Int) (B : Nat) : TellS es r where
  f := 33
  caps := #[.pointer (some ⟨B, 0, none⟩)]
  C := fun k => k = B
  I := fun T w => Arr w B 68 (ucl (cntT r T))
  call := fun T e c w _ ht hI => by
    obtain ⟨a, b, d⟩ := e
    have hbd := graphOk_bd hok
    have he := hbd.2.1 _ ht.1
    rw [cntT_snoc]
    exact count1_any (hbd.1 _ he.1) (hbd.1 _ he.2) hI
  keep := fun T w w' hI hb => hI.keep hb hI.lt
  enter := enter40
set_option maxRecDepth 100000 in
set_option maxHeartbeats 2000000 in
theorem count_any {ns : List Int} {es : List Ed} {vn ve : Value} {w : World} (h : GrAt w vn ve ns es) (a b : Int) :
    Calls Try.prog 16 #[grV vn ve, .int .i64 a, .int .i64 b] w fun e w' =>
      ((ndAll ns es [a, b] = false ∧ e = .returned (.tuple #[.int .u64 0, .int .i64 2])) ∨ (ndAll ns es [a, b] = true ∧ ∃ P, IsNear es a P ∧ NdOk P ∧ e = .returned (.tuple #[.int .u64 (cntT a (told es P P) b.toNat : Nat), .int .i64 0]))) ∧ Below w.heap.size w w' := by
  have HG0 := hidIn h
  obtain ⟨ea, eca, rfl, _⟩ := h.e
  obtain ⟨na, nca, rfl, _⟩ := h.n
  have hz := zeroU25
  obtain ⟨W1, hW1⟩ : ∃ W1, w.alloc (.cells #[.slice na ns.length nca, .slice ea es.length eca] 25) = W1 := ⟨_, rfl⟩
  have bA : Below w.heap.size w W1 := by rw [← hW1]; exact (Below.refl _ w).alloc (Nat.le_refl _) _
  have hGB : W1.heap[w.heap.size]? = some (.cells #[.slice na ns.length nca, .slice ea es.length eca] 25) := by rw [← hW1]; exact heap_alloc_last w _
  have HK : Hid (∀ wq, Below W1.heap.size W1 wq → (wq.cell? ⟨w.heap.size, 0, none⟩ = some (.slice na ns.length nca) ∧ wq.cell? ⟨w.heap.size, 1, none⟩ = some (.slice ea es.length eca)) ∧ Below w.heap.size w wq) := hidIn fun wq h => by
    have j0 := (h.block _ (block_lt hGB)).trans hGB
    exact ⟨⟨cell_of_row _ _ 0 _ _ _ j0, cell_of_row _ _ 1 _ _ _ j0⟩, bA.trans (h.mono bA.size)⟩
  obtain ⟨b1, hb1⟩ : ∃ b1, ndAll ns es [a, b] = b1 := ⟨_, rfl⟩
  have b2 := bA.alloc (o := .cells #[.int .i64 a, .int .i64 b] 3) bA.size
  have hC := areNodes_any (l := [a, b]) (HG0.out.keep b2 (Nat.le_refl _)) (slAt_block (cs := ic) (sz := 1) (fun _ => rfl) (T := 3) (heap_alloc_last W1 (.cells #[.int .i64 a, .int .i64 b] 3)) (by simp))
  rw [hb1] at hC
  have HC := hidIn hC
  have Hb1 := hidIn hb1
  have HW := hidIn hW1
  have hlt1 := block_lt hGB
  clear hW1 bA hGB h hb1 hC b2
  obtain ⟨⟨g0, g1⟩, _⟩ := HK.out W1 (Below.refl _ _)
  go_enter Try.func16, Try.ntmps16
  go_upto_region 1 with fail
  rw [HW.out]
  clear HW
  go_wp2_with fail
  refine HC.out.mono ?_
  rintro e w2 ⟨rfl, hb2⟩
  have HB2 : Hid (Below W1.heap.size W1 w2) := hidIn (((Below.refl _ W1).alloc (Nat.le_refl _) _).trans (hb2.mono (by simp)))
  clear hb2 HC g0 g1
  obtain ⟨⟨g0, g1⟩, hbw⟩ := HK.out w2 HB2.out
  cases b1
  · have HBw := hidIn hbw
    clear hbw
    go_wp2_with fail
    go_ret2
    exact ⟨.inl ⟨Hb1.out, rfl⟩, HBw.out⟩
  have hnd := Hb1.out
  simp only [ndAll, List.all_cons, List.all_nil, Bool.and_true, Bool.and_eq_true] at hnd
  obtain ⟨hok, ha, hb⟩ := hnd
  have har := (graphOk_bd hok).1 _ (hasN_iff.1 ha)
  have hbr := (graphOk_bd hok).1 _ (hasN_iff.1 hb)
  have Hok := hidIn hok
  have HMa := hidIn (hasN_iff.1 ha)
  clear hok ha hb
  obtain ⟨i, rfl⟩ : ∃ i : Nat, a = (i : Int) := ⟨a.toNat, by omega⟩
  obtain ⟨j, rfl⟩ : ∃ j : Nat, b = (j : Int) := ⟨b.toNat, by omega⟩
  have hi : i < 25 := by omega
  have hj : j < 25 := by omega
  have hii : (i : Int) < 25 := by omega
  have hji : (j : Int) < 25 := by omega
  obtain ⟨V2, hV2⟩ : ∃ V2, w2.alloc (.cells (ucl fun _ => 0).toArray 68) = V2 := ⟨_, rfl⟩
  have hA2 : Arr V2 w2.heap.size 68 (ucl fun _ => 0) := by rw [← hV2]; exact arr_new w2 _ _
  have bV : Below w2.heap.size w2 V2 := by rw [← hV2]; exact (Below.refl _ w2).alloc (Nat.le_refl _) _
  have mA := hA2.cell i
  rw [ucl_get _ hi] at mA
  have mF := hA2.frozen i
  have HW := hidIn hV2
  clear hV2
  go_upto_region 4 with fail
  rw [HW.out]
  clear HW hz
  obtain ⟨W3, hW3⟩ : ∃ W3, V2.setCell ⟨w2.heap.size, i, none⟩ (.int .u64 1) = W3 := ⟨_, rfl⟩
  have hA3 : Arr W3 w2.heap.size 68 (ucl (cntT (i : Int) [])) := by
    rw [← hW3]
    have h1 := hA2.set i (.int .u64 ((1 : Nat) : Int))
    rw [ucl_set _ hi] at h1
    exact h1
  have b23 : Below w2.heap.size w2 W3 := by rw [← hW3]; exact bV.setCell (p := ⟨w2.heap.size, i, none⟩) (Nat.le_refl _) _
  have HB3 := hidIn (HB2.out.trans (b23.mono HB2.out.size))
  have hbw3 := (HK.out W3 HB3.out).2
  have HAl := hidIn (along_any (w0 := w) (w := W3) HG0.out Hok.out HMa.out hbw3 (countS Hok.out (i : Int) w2.heap.size) (fun k hk => by have hk' : k = w2.heap.size := hk; have := hbw.size; have := hA3.lt; omega) hA3)
  have HW := hidIn hW3
  have hws := hbw.size
  have hwl := hA3.lt
  clear hW3 hA3 hA2 bV b23 hbw g0 g1
  obtain ⟨⟨g0, g1⟩, _⟩ := HK.out W3 HB3.out
  go_upto_region 5 with fail
  rw [HW.out]
  clear HW mA mF
  generalize w2.heap.size = B at *
  go_wp2_with fail
  refine HAl.out.mono ?_
  rintro e w4 ⟨⟨v4, rfl⟩, ⟨P, hP, hN, hI⟩, hF⟩
  have hA4 : Arr w4 B 68 (ucl (cntT (i : Int) (told es P P))) := hI
  have m4 := hA4.cell j
  rw [ucl_get _ hj] at m4
  have HP := hidIn hP
  have HN := hidIn hN
  have HBw : Hid (Below w.heap.size w w4) := hidIn (hbw3.trans (hF.below hbw3.size (fun k hk => by have hk' : k = B := hk; omega)))
  clear hP hN hI hF hA4 HAl g0 g1
  go_wp2_with fail
  go_ret2
  exact ⟨.inr ⟨Hb1.out, P, HP.out, HN.out, rfl⟩, HBw.out⟩
end Go.Proofs.Ytabnecicidkmhaa
