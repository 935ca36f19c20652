/- bits.number and bits.Parse, at the text of a bit string. -/
import Derived.Test.YtjpnbjfomikhaaaDoorP1
import Derived.Test.YtjpnbjfomikhaaaDoorShelf2
import Derived.Lib.ConvBytes
namespace Go.Proofs.YtjpnbjfomikhaaaDoor
open Go.RowKit Go.Shelf

theorem below_bytes (w : World) (e : TypeId) (s : ByteArray) : Below w.heap.size w (Lib.bytesWorld w e s) :=
  ⟨by simp [Lib.bytesWorld, World.freeze, World.alloc, World.drew, -World.alloc_eq, -World.drew_eq], by simp [Lib.bytesWorld, World.freeze, World.alloc, World.drew, -World.alloc_eq, -World.drew_eq], by simp [Lib.bytesWorld, World.freeze, World.alloc, World.drew, -World.alloc_eq, -World.drew_eq], by rw [Lib.bytesWorld_size]; omega, fun k hk => Lib.bytesWorld_at_old w e s k hk⟩
theorem atoi_any (m : Nat) (h : m < 256) (w : World) :
    Calls Tryd.prog 50 #[.string ⟨(num m).toArray⟩] w fun e w' => e = .returned (.tuple #[.int .i64 ((m : Int) + 1), .nilIface]) ∧ Below w.heap.size w w' := by
  have hl : (⟨(num m).toArray⟩ : ByteArray).size ≤ 18 := by
    have := num_length m h
    show (num m).toArray.size ≤ 18
    simp
    omega
  have ha : Lib.atoi (⟨(num m).toArray⟩ : ByteArray).data.toList = some ((m : Int) + 1) := by
    have := atoi_dec (m + 1)
    simpa [num] using this
  refine (Tryd.strconv_Atoi _ _ hl ha w).mono ?_
  rintro e w' ⟨rfl, t, rfl⟩
  exact ⟨rfl, below_bytes _ _ _⟩
theorem self_num (m : Nat) : ((⟨(num m).toArray⟩ : ByteArray).toList == (⟨(num m).toArray⟩ : ByteArray).toList) = true := beq_self_eq_true _
set_option maxHeartbeats 400000 in
theorem number_ok (m : Nat) (h : m < 256) (w : World) (ht : Tabs w) :
    Calls Tryd.prog 43 #[.string ⟨(num m).toArray⟩] w fun e w' => e = .returned (.tuple #[.int .i64 ((m : Int) + 1), .bool true]) ∧ Below w.heap.size w w' := by
  have hs := self_num m
  generalize hS : (⟨(num m).toArray⟩ : ByteArray) = S at hs
  have H1 := hidIn (atoi_any m h)
  have H2 := hidIn (itoa_any m h)
  rw [hS] at H1 H2
  have HS := hidIn hS
  clear hS
  go_enter Tryd.func43, Tryd.ntmps43
  go_wp2_with (first
    | (go_at_call 50; refine (H1.out _).mono ?_; rintro e w1 ⟨rfl, b1⟩; have ht1 := ht.keep b1)
    | (go_at_call 33; refine (H2.out _ ht1).mono ?_; rintro e w2 ⟨rfl, b2⟩))
  go_ret2
  exact ⟨rfl, b1.trans (b2.mono b1.size)⟩
end Go.Proofs.YtjpnbjfomikhaaaDoor
