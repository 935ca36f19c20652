/- works(): the law's three bits. -/
import Derived.Test.YtjpnbjfomikhaaaDoorT1
import Derived.Test.YtjpnbjfomikhaaaDoorB1
import Derived.Lib.QuietBelow
import Derived.BigQuiet
namespace Go.Proofs.YtjpnbjfomikhaaaDoor
open Go.RowKit

theorem ofl_works : ofl [1, 10] = 513 := by decide
theorem lst_513 : lst 513 = [0, 9] := by decide +kernel
theorem cnt_513 : cntTo 256 513 = 2 := by decide +kernel
theorem txt_513 : (txt (lst 513)).toArray = #[49, 32, 49, 48] := by
  rw [lst_513]
  have e1 : num 0 = [49] := by unfold num; rw [Lib.decDigits]; rfl
  have e2 : num 9 = [49, 48] := by unfold num; rw [Lib.decDigits, Lib.decDigits]; rfl
  simp [txt, e1, e2, Lib.join, List.intercalate]
theorem bytes_513 : strOfNums ((List.range 2).map fun i => ((byteOf 513 i : Nat) : Int)) = ⟨#[1, 2]⟩ := by decide +kernel

set_option maxHeartbeats 1000000 in
theorem works_any (w : World) (ht : Tabs w) :
    Calls Tryd.prog 23 #[] w fun e w' => e = .returned (.bool true) ∧ Below w.heap.size w w' := by
  go_enter Tryd.func23, Tryd.ntmps23
  have hO := of_yes [1, 10] w.heap.size 0 2 (w.alloc (.cells #[.int .i64 1, .int .i64 10] 3)) (by decide) (by
    intro j hj
    have : j = 0 ∨ j = 1 := by simp at hj; omega
    rcases this with rfl | rfl <;> simp [go_sem]) (by simp) (by intro z hz; simp at hz; omega)
  rw [ofl_works] at hO
  go_wp2_with fail
  refine hO.mono ?_
  rintro e w1 ⟨rfl, hb1⟩
  have ht1 : Tabs w1 := (ht.keep ((Below.refl _ w).alloc (Nat.le_refl _) _)).keep hb1
  have hw1 : Below w.heap.size w w1 := ((Below.refl _ w).alloc (Nat.le_refl _) _).trans (hb1.mono (by simp))
  have hs1 := hw1.size
  clear hO hb1
  go_wp2_with fail
  refine (bytes_ok 513 2 (by decide) (by decide) (by decide) (by decide) _).mono ?_
  rintro e w2 ⟨rfl, hb2⟩
  rw [bytes_513]
  have hB2 := (hasBs_new w1 513).keep hb2 (by simp)
  have ht2 : Tabs w2 := (ht1.keep ((Below.refl _ w1).alloc (Nat.le_refl _) _)).keep hb2
  have hw2 : Below w.heap.size w w2 := hw1.trans ((((Below.refl _ w1).alloc (Nat.le_refl _) _).trans (hb2.mono (by simp))).mono hs1)
  have hs2 := hw2.size
  have HB2 := hidIn hB2
  obtain ⟨c0, c1, c2, c3, f0, f1, f2, f3, lt⟩ := hB2
  clear hb2
  go_wp2_with fail
  refine (text_some 513 (by decide) (by decide) _ ht2).mono ?_
  rintro e w3 ⟨rfl, hb3⟩
  rw [txt_513]
  have hw3 : Below w.heap.size w w3 := hw2.trans (hb3.mono hs2)
  obtain ⟨d0, d1, d2, d3, g0, g1, g2, g3, lt'⟩ := HB2.out.keep hb3 HB2.out.lt
  clear hb3 c0 c1 c2 c3 f0 f1 f2 f3
  go_wp2_with fail
  refine (count_any 513 _).mono ?_
  rintro e w4 ⟨rfl, hb4⟩
  rw [cnt_513]
  have hw4 : Below w.heap.size w w4 := hw3.trans (hb4.mono hw3.size)
  go_wp2
  go_ret
  exact ⟨rfl, hw4⟩
end Go.Proofs.YtjpnbjfomikhaaaDoor
