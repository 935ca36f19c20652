/- dandelionlaw02.works. -/
import Derived.Test.YtmdpbohepdblcaaDoorK7
import Derived.Test.YtmdpbohepdblcaaDoorK8
namespace Go.Proofs.YtmdpbohepdblcaaDoor.Wi
open Go.RowKit

theorem put_w (w : World) : Calls Tryd.prog 48 #[.string ⟨#[97]⟩, .int .u64 258, .int .i64 2] w fun e w' => e = .returned (.tuple #[.string ⟨#[97, 1, 2]⟩, .int .i64 0]) ∧ Below w.heap.size w w' := by
  refine (put_ok2 ⟨#[97]⟩ 258 (by decide) (by decide) (by decide) w).mono ?_
  rintro e w' ⟨rfl, hb⟩
  exact ⟨by rw [show (⟨#[97]⟩ : ByteArray) ++ strOfNums (layN 258 2) = ⟨#[97, 1, 2]⟩ from by decide], hb⟩
theorem take_w (w : World) : Calls Tryd.prog 56 #[.string ⟨#[97, 1, 2]⟩, .int .i64 1, .int .i64 2] w fun e w' => e = .returned (.tuple #[.int .u64 258, .int .i64 0]) ∧ w' = w := by
  refine (take_ok ⟨#[97, 1, 2]⟩ 1 2 (by decide) (by decide) (by decide) w).mono ?_
  rintro e w' ⟨rfl, hb⟩
  exact ⟨by rw [show tk ⟨#[97, 1, 2]⟩ 1 2 = 258 from by decide]; rfl, hb⟩
theorem sum_w (b cap : Nat) (w : World) (hc : w.cell? ⟨b, 0, none⟩ = some (.string ⟨#[49, 50, 51, 52, 53, 54, 55, 56, 57]⟩)) :
    Calls Tryd.prog 51 #[.slice (some ⟨b, 0, none⟩) 1 cap] w fun e w' => e = .returned (.int .u16 10673) ∧ w' = w := by
  refine (sum_any (fun _ => ⟨#[49, 50, 51, 52, 53, 54, 55, 56, 57]⟩) 1 b 0 cap (by decide) (fun _ _ => by decide) w (fun i hi => ?_)).mono ?_
  · obtain rfl : i = 0 := by omega
    exact hc
  · rintro e w' ⟨rfl, hb⟩
    exact ⟨ret_int (by kernel_rfl), hb⟩

end Go.Proofs.YtmdpbohepdblcaaDoor.Wi
