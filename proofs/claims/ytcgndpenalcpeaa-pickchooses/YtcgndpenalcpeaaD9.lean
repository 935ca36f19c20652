/- The law's works. -/
import Derived.Test.YtcgndpenalcpeaaD5
import Derived.Test.YtcgndpenalcpeaaD7
import Derived.Test.YtcgndpenalcpeaaD8
namespace Go.Proofs.Ytcgndpenalcpeaa
open Go.RowKit

/-- A list typed out. -/
theorem lit_sl (w : World) (l : List Int) (hl : l.length ≤ 1000) : SlAt ic 1 (w.alloc (.cells (l.map (Value.int .i64)).toArray 3)) (.slice (some ⟨w.heap.size, 0, none⟩) l.length l.length) l := by
  refine ⟨_, _, rfl, by omega, Nat.le_refl _, fun _ => ⟨w.heap.size, 0, rfl, by simp, fun j x hx i u hu => ?_⟩⟩
  match i, hu with
  | 0, hu =>
    simp at hu
    subst hu
    rw [cell_of_row _ _ _ _ _ _ (heap_alloc_last w _)]
    simp [hx]
theorem nilOk_some (p : Addr) (n c : Nat) : NilOk (.slice (some p) n c) := .inl ⟨_, _, _, rfl⟩
theorem row_sl {w : World} {base : Nat} {a : Option Addr} {cap : Nat} {l : List Int} (h : w.ownsRow base 3 1 (.slice a l.length cap) l.length (fl ic l)) : SlAt ic 1 w (.slice a l.length cap) l := slAt_of_row (cs := ic) (fun _ => rfl) h rfl
theorem row_nil {w : World} {base k : Nat} {v : Value} {xs : List Value} {e : TypeId} {sz : Nat} (h : w.ownsRow base e sz v k xs) : NilOk v := by
  rcases h.2 with ⟨rfl, _⟩ | ⟨g, cap, cur, rfl, _⟩
  · exact .inr rfl
  · exact .inl ⟨_, _, _, rfl⟩
theorem rank_lit {e : Nat} {l m : List Int} (he : e < 4294967296) (h : nbOk l = true) (hp : m.isPerm l = true) (hs : m.Pairwise fun x y => mix e y ≤ mix e x) : rkL e l = m ∧ rkE l = 0 := by
  refine ⟨?_, by simp [rkE, h]⟩
  rw [(rk_yes e h).1]
  exact (rank_of (List.isPerm_iff.1 hp) hs (nodup_rise (nb_rise h)) (nb_unl he h)).symm
theorem wk_rank : rkL 4 [1, 2, 3] = [1, 2, 3] ∧ rkE [1, 2, 3] = 0 := rank_lit (by decide) (by decide) (by decide) (by decide)
theorem wk_choose : chN 0 [1, 2, 3] = 3 ∧ chE [1, 2, 3] = 0 := by decide
theorem wk_mix : mix 9 5 = 3340711254 := by decide
set_option maxRecDepth 100000 in
set_option maxHeartbeats 1000000 in
theorem pworks_any (w : World) : Calls Try.prog 16 #[] w fun e w' => e = .returned (.bool true) ∧ Below w.heap.size w w' := by
  have bA : Below w.heap.size w (w.alloc (.cells #[.int .i64 1, .int .i64 2, .int .i64 3] 3)) := (Below.refl _ w).alloc (Nat.le_refl _) _
  have HR := hidIn (rank2_any (e := 4) (by decide) (lit_sl w [1, 2, 3] (by decide)) (nilOk_some _ _ _))
  rw [wk_rank.1, wk_rank.2] at HR
  have HW : Hid (∃ W, w.alloc (.cells #[.int .i64 1, .int .i64 2, .int .i64 3] 3) = W) := hidIn ⟨_, rfl⟩
  have HA := hidIn bA
  clear bA
  go_enter Try.func16, Try.ntmps16
  go_wp2_with fail
  refine HR.out.mono ?_
  rintro x w1 ⟨⟨a, cap, rfl, hr1⟩, hb1⟩
  have HB1 := hidIn (HA.out.trans (hb1.mono HA.out.size))
  have HR1 := hidIn hr1
  clear hr1 hb1 HA HR HW
  simp only [List.length_cons, List.length_nil]
  have HC := hidIn (choose_any (e := 0) (by decide) (lit_sl w1 [1, 2, 3] (by decide)))
  rw [wk_choose.1, wk_choose.2] at HC
  go_wp2_with fail
  refine HC.out.mono ?_
  rintro x w2 ⟨rfl, hb2⟩
  have hA1 : Below w1.heap.size w1 (w1.alloc (.cells #[.int .i64 1, .int .i64 2, .int .i64 3] 3)) := (Below.refl _ w1).alloc (Nat.le_refl _) _
  have hb12 : Below w1.heap.size w1 w2 := hA1.trans (hb2.mono hA1.size)
  have HB2 := hidIn (HB1.out.trans (hb12.mono HB1.out.size))
  have hA2 : Below w2.heap.size w2 (w2.alloc (.cells #[.int .i64 1, .int .i64 2, .int .i64 3] 3)) := (Below.refl _ w2).alloc (Nat.le_refl _) _
  have hS := ((row_sl HR1.out).keep hb12 (Nat.le_refl _)).keep hA2 (Nat.le_refl _)
  have HS := hidIn (lsame_any hS (lit_sl w2 [1, 2, 3] (by decide)))
  have HA2 := hidIn (HB2.out.trans (hA2.mono HB2.out.size))
  clear hb2 hA1 hb12 hA2 hS HC HR1 HB1 HB2
  have HM := hidIn (fun W => mix_any (e := 9) (by decide) 5 W)
  rw [wk_mix] at HM
  go_wp2_with fail
  refine HS.out.mono ?_
  rintro x w3 ⟨rfl, q, hw3⟩
  rw [hw3]
  clear hw3 w3 HS
  generalize World.alloc _ _ = W at HA2 ⊢
  go_wp2_with fail
  refine (HM.out _).mono ?_
  rintro x w3 ⟨rfl, hw3⟩
  rw [hw3]
  clear hw3 w3
  go_wp2_with fail
  go_ret
  exact ⟨rfl, below_drewN HA2.out _⟩
end Go.Proofs.Ytcgndpenalcpeaa
