/- header.within, inRange: a header as a value. -/
import Derived.Test.YtgfmlonhjmdfjaaDoorH1
import Derived.Test.YtgfmlonhjmdfjaaDoorW5
namespace Go.Proofs.YtgfmlonhjmdfjaaDoor
open Go.RowKit

/-- A header as a value. -/
abbrev hd (W S E H O G I : Int) (N : Nat) : Value :=
  .agg #[.int .i64 W, .int .i64 S, .int .u32 E, .int .i64 H, .int .i64 O, .int .i64 G, .int .u32 I, .int .u64 (wd N 0), .int .u64 (wd N 1), .int .u64 (wd N 2), .int .u64 (wd N 3)]
/-- A number brought between two. -/
def within (n a b : Int) : Int := min (max n a) b

set_option maxHeartbeats 400000 in
theorem within_any (n a b : Int) (w : World) :
    Calls Tryd.prog 38 #[.int .i64 n, .int .i64 a, .int .i64 b] w fun e w' => e = .returned (.int .i64 (within n a b)) ∧ w' = w := by
  go_enter Tryd.func38, Tryd.ntmps38
  go_wp2
  go_ret
  exact ⟨rfl, rfl⟩
set_option maxHeartbeats 400000 in
theorem inRange_any (W S E H O G I : Int) (N : Nat) (w : World) :
    Calls Tryd.prog 21 #[hd W S E H O G I N] w fun e w' => e = .returned (hd W (within S 0 127) E (within H 0 15) (within O 1 24) (within G 0 7) I N) ∧ Below w.heap.size w w' := by
  generalize hS : within S 0 127 = S'
  generalize hH : within H 0 15 = H'
  generalize hO : within O 1 24 = O'
  generalize hG : within G 0 7 = G'
  have cS := within_any S 0 127
  have cH := within_any H 0 15
  have cO := within_any O 1 24
  have cG := within_any G 0 7
  rw [hS] at cS
  rw [hH] at cH
  rw [hO] at cO
  rw [hG] at cG
  have CS := hidIn cS
  have CH := hidIn cH
  have CO := hidIn cO
  have CG := hidIn cG
  clear cS cH cO cG hS hH hO hG
  unfold hd
  go_enter Tryd.func21, Tryd.ntmps21
  go_wp2_with fail
  refine (CS.out _).mono ?_
  rintro e w1 ⟨rfl, hw⟩
  replace hw := hw.symm
  subst hw
  go_wp2_with fail
  refine (CH.out _).mono ?_
  rintro e w1 ⟨rfl, hw⟩
  replace hw := hw.symm
  subst hw
  go_wp2_with fail
  refine (CO.out _).mono ?_
  rintro e w1 ⟨rfl, hw⟩
  replace hw := hw.symm
  subst hw
  go_wp2_with fail
  refine (CG.out _).mono ?_
  rintro e w1 ⟨rfl, hw⟩
  replace hw := hw.symm
  subst hw
  go_wp2
  go_returns
  exact ⟨rfl, by go_grown⟩
end Go.Proofs.YtgfmlonhjmdfjaaDoor
