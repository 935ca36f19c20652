/- The law HeaderBack, walked. -/
import Derived.Test.YtmdpbohepdblcaaDoorH16
namespace Go.Proofs.YtmdpbohepdblcaaDoor
open Go.RowKit

theorem HasHd.putAll {w : World} {b : Nat} {W S E H O G I : Int} {N : Nat} (h : HasHd w b W S E H O G I N) (W' S' E' H' O' G' I' : Int) (N' : Nat) : HasHd (World.putHd w b W' S' E' H' O' G' I' (wd N' 0) (wd N' 1) (wd N' 2) (wd N' 3)) b W' S' E' H' O' G' I' N' := by
  obtain ⟨c0, c1, c2, c3, c4, c5, c6, c7, c8, c9, ca, f0, f1, f2, f3, f4, f5, f6, f7, f8, f9, fa, lt⟩ := h
  refine ⟨?_, ?_, ?_, ?_, ?_, ?_, ?_, ?_, ?_, ?_, ?_, ?_, ?_, ?_, ?_, ?_, ?_, ?_, ?_, ?_, ?_, ?_, ?_⟩
  all_goals simp [*, go_sem]
theorem eq_self (W S E H O G I : Int) (N : Nat) (hN : N < 2 ^ 256) (w : World) : (Op.equalIn 10000 27 (hd W S E H O G I N) (hd W S E H O G I N)).run Tryd.prog w = Result.ok true w := by
  rw [eq_hd _ _ _ _ _ _ _ _ _ _ _ _ _ _ _ _ hN hN]
  simp
theorem wpk (k : Nat) : 15 + (k : Int) = ((15 + k : Nat) : Int) := by omega

end Go.Proofs.YtmdpbohepdblcaaDoor
