/- First, whole. -/
import Derived.Test.YtabnecicidkmhaaV9
namespace Go.Proofs.Ytabnecicidkmhaa
open Go.RowKit

theorem infoV25 : (Try.prog.info? 72).map (fun i => (i.zero, i.size)) = some (some (.agg (vcl fun _ => .slice none 0 0).toArray), 25) := by kernel_rfl
theorem zeroV25 (w : World) : (zeroValue 72).run Try.prog w = .ok (.agg (vcl fun _ => .slice none 0 0).toArray) w := (zero_of_info infoV25).1 w
/-- What First answers of a way that is or is not. -/
def FstAns (w' : World) (e : Ending) : Option (List Int) → Prop
  | none => e = .returned (.tuple #[.slice none 0 0, .int .i64 6])
  | some l => ∃ v, e = .returned (.tuple #[v, .int .i64 0]) ∧ SlAt ic 1 w' v l ∧ 0 < l.length
set_option maxRecDepth 100000 in
set_option maxHeartbeats 2000000 in
theorem first_any {ns : List Int} {es : List Ed} {vn ve : Value} {w : World} (h : GrAt w vn ve ns es) (a b : Int) :
    Calls Try.prog 18 #[grV vn ve, .int .i64 a, .int .i64 b] w fun e w' =>
      ((ndAll ns es [a, b] = false ∧ e = .returned (.tuple #[.slice none 0 0, .int .i64 2])) ∨ (ndAll ns es [a, b] = true ∧ ∃ P, IsNear es a P ∧ NdOk P ∧ FstAns w' e (fstT a (told es P P) b.toNat))) ∧ Below w.heap.size w w' := by
  have HG0 := hidIn h
  obtain ⟨ea, eca, rfl, _⟩ := h.e
  obtain ⟨na, nca, rfl, _⟩ := h.n
  have hz := zeroV25
  obtain ⟨W1, hW1⟩ : ∃ W1, w.alloc (.cells #[.slice na ns.length nca, .slice ea es.length eca] 25) = W1 := ⟨_, rfl⟩
  have bA : Below w.heap.size w W1 := by rw [← hW1]; exact (Below.refl _ w).alloc (Nat.le_refl _) _
  have hGB : W1.heap[w.heap.size]? = some (.cells #[.slice na ns.length nca, .slice ea es.length eca] 25) := by rw [← hW1]; exact heap_alloc_last w _
  have HK : Hid (∀ wq, Below W1.heap.size W1 wq → (wq.cell? ⟨w.heap.size, 0, none⟩ = some (.slice na ns.length nca) ∧ wq.cell? ⟨w.heap.size, 1, none⟩ = some (.slice ea es.length eca)) ∧ Below w.heap.size w wq) := hidIn fun wq h => by
    have j0 := (h.block _ (block_lt hGB)).trans hGB
    exact ⟨⟨cell_of_row _ _ 0 _ _ _ j0, cell_of_row _ _ 1 _ _ _ j0⟩, bA.trans (h.mono bA.size)⟩
  obtain ⟨b1, hb1⟩ : ∃ b1, ndAll ns es [a, b] = b1 := ⟨_, rfl⟩
  have b2 := bA.alloc (o := .cells #[.int .i64 a, .int .i64 b] 3) bA.size
  have hC := areNodes_any (l := [a, b]) (HG0.out.keep b2 (Nat.le_refl _)) (slAt_block (cs := ic) (sz := 1) (fun _ => rfl) (T := 3) (heap_alloc_last W1 (.cells #[.int .i64 a, .int .i64 b] 3)) (by simp))
  rw [hb1] at hC
  have HC := hidIn hC
  have Hb1 := hidIn hb1
  have HW := hidIn hW1
  have hlt1 := block_lt hGB
  clear hW1 bA hGB h hb1 hC b2
  obtain ⟨⟨g0, g1⟩, _⟩ := HK.out W1 (Below.refl _ _)
  go_enter Try.func18, Try.ntmps18
  go_upto_region 1 with fail
  rw [HW.out]
  clear HW
  go_wp2_with fail
  refine HC.out.mono ?_
  rintro e w2 ⟨rfl, hb2⟩
  have HB2 : Hid (Below W1.heap.size W1 w2) := hidIn (((Below.refl _ W1).alloc (Nat.le_refl _) _).trans (hb2.mono (by simp)))
  clear hb2 HC g0 g1
  obtain ⟨⟨g0, g1⟩, hbw⟩ := HK.out w2 HB2.out
  cases b1
  · have HBw := hidIn hbw
    clear hbw
    go_wp2_with fail
    go_ret2
    exact ⟨.inl ⟨Hb1.out, rfl⟩, HBw.out⟩
  have hnd := Hb1.out
  simp only [ndAll, List.all_cons, List.all_nil, Bool.and_true, Bool.and_eq_true] at hnd
  obtain ⟨hok, ha, hb⟩ := hnd
  have har := (graphOk_bd hok).1 _ (hasN_iff.1 ha)
  have hbr := (graphOk_bd hok).1 _ (hasN_iff.1 hb)
  have Hok := hidIn hok
  have HMa := hidIn (hasN_iff.1 ha)
  clear hok ha hb
  obtain ⟨i, rfl⟩ : ∃ i : Nat, a = (i : Int) := ⟨a.toNat, by omega⟩
  obtain ⟨j, rfl⟩ : ∃ j : Nat, b = (j : Int) := ⟨b.toNat, by omega⟩
  have hi : i < 25 := by omega
  have hj : j < 25 := by omega
  have hii : (i : Int) < 25 := by omega
  have hji : (j : Int) < 25 := by omega
  obtain ⟨V2, hV2⟩ : ∃ V2, w2.alloc (.cells (vcl fun _ => .slice none 0 0).toArray 72) = V2 := ⟨_, rfl⟩
  have hA2 : Arr V2 w2.heap.size 72 (vcl fun _ => .slice none 0 0) := by rw [← hV2]; exact arr_new w2 _ _
  have bV : Below w2.heap.size w2 V2 := by rw [← hV2]; exact (Below.refl _ w2).alloc (Nat.le_refl _) _
  have HW := hidIn hV2
  clear hV2
  go_upto_region 4 with fail
  rw [HW.out]
  clear HW hz
  obtain ⟨V3, hV3⟩ : ∃ V3, V2.alloc (.cells #[.int .i64 (i : Int)] 3) = V3 := ⟨_, rfl⟩
  have bV3 : Below V2.heap.size V2 V3 := by rw [← hV3]; exact (Below.refl _ V2).alloc (Nat.le_refl _) _
  have hb3 : V3.heap[V2.heap.size]? = some (.cells #[.int .i64 (i : Int)] 3) := by rw [← hV3]; exact heap_alloc_last V2 _
  have hA3 := hA2.keep bV3 hA2.lt
  have mA := hA3.cell i
  rw [vcl_get _ hi] at mA
  have mF := hA3.frozen i
  have hvl := hA2.lt
  have hM3 : FsM (V3.setCell ⟨w2.heap.size, i, none⟩ (.slice (some ⟨V2.heap.size, 0, none⟩) 1 1)) w2.heap.size (fstT (i : Int) []) := by
    have hput := FsM.put (f := fun _ => none) (l := [(i : Int)]) hA3 (fun n _ => rfl) hi (v := .slice (some ⟨V2.heap.size, 0, none⟩) 1 1) ⟨by simp, by simp, V2.heap.size, 0, 1, rfl, by simp, by omega, block_lt hb3, fun j z hz => by
      rw [Nat.zero_add, cell_of_row _ _ j _ _ _ hb3]
      rw [show (#[Value.int .i64 (i : Int)] : Array Value)[j]? = ([(i : Int)].map (Value.int .i64))[j]? from by simp, List.getElem?_map, hz]
      rfl⟩
    simpa [fstT] using hput
  have b23 : Below w2.heap.size w2 (V3.setCell ⟨w2.heap.size, i, none⟩ (.slice (some ⟨V2.heap.size, 0, none⟩) 1 1)) := (bV.trans (bV3.mono bV.size)).setCell (p := ⟨w2.heap.size, i, none⟩) (Nat.le_refl _) _
  obtain ⟨W3, hW3⟩ : ∃ W3, V3.setCell ⟨w2.heap.size, i, none⟩ (.slice (some ⟨V2.heap.size, 0, none⟩) 1 1) = W3 := ⟨_, rfl⟩
  rw [hW3] at hM3 b23
  have hwl : w2.heap.size < W3.heap.size := by obtain ⟨vs, hA, _⟩ := hM3; exact hA.lt
  have HB3 := hidIn (HB2.out.trans (b23.mono HB2.out.size))
  have hbw3 := (HK.out W3 HB3.out).2
  have HAl := hidIn (along_any (w0 := w) (w := W3) HG0.out Hok.out HMa.out hbw3 (firstS Hok.out (i : Int) w2.heap.size) (fun k hk => by have hk' : k = w2.heap.size := hk; have := hbw.size; omega) hM3)
  rw [← hV3] at mA mF
  have HW := hidIn hW3
  have HV3 := hidIn hV3
  have hws := hbw.size
  have hBne : w2.heap.size ≠ V2.heap.size := by omega
  clear hW3 hV3 hA3 hA2 bV b23 bV3 hbw g0 g1 hM3 hb3
  go_upto_region 5 with fail
  rw [← World.setCell_alloc_past (w := V2) _ _ _ _ hvl, HV3.out, HW.out]
  clear HW HV3 mA mF
  obtain ⟨⟨g0, g1⟩, _⟩ := HK.out W3 HB3.out
  generalize w2.heap.size = B at *
  go_wp2_with fail
  refine HAl.out.mono ?_
  rintro e w4 ⟨⟨v4, rfl⟩, ⟨P, hP, hN, hI⟩, hF⟩
  obtain ⟨vs, hA4, hW4⟩ : FsM w4 B (fstT (i : Int) (told es P P)) := hI
  have m4 := hA4.cell j
  rw [vcl_get _ hj] at m4
  have hwj := hW4 j hj
  have HP := hidIn hP
  have HN := hidIn hN
  have hen := eq_nil
  have hes := eq_some
  have HBw : Hid (Below w.heap.size w w4) := hidIn (hbw3.trans (hF.below hbw3.size (fun k hk => by have hk' : k = B := hk; omega)))
  obtain ⟨y, hy⟩ : ∃ y, fstT (i : Int) (told es P P) j = y := ⟨_, rfl⟩
  rw [hy] at hwj
  have Hy := hidIn hy
  clear hP hN hF hA4 hW4 HAl g0 g1 hy
  cases y with
  | none =>
    have hvj : vs j = .slice none 0 0 := hwj
    rw [hvj] at m4
    clear hwj hvj
    go_wp2_with fail
    go_ret2
    exact ⟨.inr ⟨Hb1.out, P, HP.out, HN.out, by rw [Int.toNat_natCast, Hy.out]; rfl⟩, HBw.out⟩
  | some lb =>
    have HWj := hidIn hwj
    obtain ⟨_, _, bj, oj, cj, hvj, _⟩ := hwj
    rw [hvj] at m4 HWj
    clear hvj
    go_wp2_with fail
    go_ret2
    exact ⟨.inr ⟨Hb1.out, P, HP.out, HN.out, by rw [Int.toNat_natCast, Hy.out]; exact ⟨_, rfl, HWj.out.sl, HWj.out.1⟩⟩, HBw.out⟩
end Go.Proofs.Ytabnecicidkmhaa
