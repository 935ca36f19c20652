/- What is no calendar of string: nil, and one that New did not make. -/
import Derived.Test.YtgblfpdhodfmbaaCRS
namespace Go.Proofs.Ytgblfpdhodfmbaa.Ca.S
open Go.RowKit Go.Maps

/-- v is no calendar: isThere says so. -/
def Off (v : Value) (w : World) : Prop := Calls Try.prog 37 #[v] w fun e w' => e = .returned (.bool false) ∧ w' = w
theorem eqInN (b d : Nat) (w : World) : (Op.equalIn (d + 1) 23 nilP (ptr b)).run Try.prog w = .ok false w := by
  simp [Op.equalIn, run_underlying Try.underlying23, sameAddr]
theorem eqPN (b : Nat) (w : World) : (binOp BinOp.eql 23 nilP (ptr b)).run Try.prog w = .ok (.bool false) w := by
  have h : (Op.equal 23 nilP (ptr b)).run Try.prog w = .ok false w := eqInN b 9999 w
  simp only [binOp]
  simp [h]
set_option maxRecDepth 100000 in
theorem off_empty {b : Nat} {w : World} (h : w.cell? ⟨b, 0, none⟩ = some nilP) : Off (ptr b) w := by
  unfold Off
  have he := eqPN b w
  go_enter Try.func37, Try.ntmps37
  go_wp2
  go_ret
  exact ⟨rfl, rfl⟩
set_option maxRecDepth 100000 in
theorem off_nil (w : World) : Off nilP w := by
  unfold Off
  go_enter Try.func37, Try.ntmps37
  go_wp2
  go_ret
  exact ⟨rfl, rfl⟩
set_option maxRecDepth 100000 in
theorem len_off {v : Value} {w : World} (h : Off v w) : Calls Try.prog 10 #[v] w fun e w' => e = .returned (.int .i64 0) ∧ w' = w := by
  have HT := hidIn h
  clear h
  go_enter Try.func10, Try.ntmps10
  go_wp2_with (go_at_call 37; refine HT.out.mono ?_; rintro e w1 ⟨rfl, hw1⟩; rw [hw1]; clear hw1 w1)
  go_ret
  exact ⟨rfl, rfl⟩
set_option maxRecDepth 100000 in
theorem next_off {v : Value} {w : World} (h : Off v w) : Calls Try.prog 28 #[v] w fun e w' => e = .returned (.tuple #[.int .u64 0, .bool false]) ∧ w' = w := by
  have HL := hidIn (len_off h)
  clear h
  go_enter Try.func28, Try.ntmps28
  go_wp2_with (go_at_call 10; refine HL.out.mono ?_; rintro e w1 ⟨rfl, hw1⟩; rw [hw1]; clear hw1 w1)
  go_returns
  exact ⟨rfl, rfl⟩
set_option maxRecDepth 100000 in
theorem put_off {v x t : Value} {w : World} (h : Off v w) : Calls Try.prog 27 #[v, t, x] w fun e w' => e = .returned (.int .i64 0) ∧ w' = w := by
  have HT := hidIn h
  clear h
  go_enter Try.func27, Try.ntmps27
  go_wp2_with (go_at_call 37; refine HT.out.mono ?_; rintro e w1 ⟨rfl, hw1⟩; rw [hw1]; clear hw1 w1)
  go_returns
  exact ⟨rfl, rfl⟩
set_option maxRecDepth 100000 in
theorem drop_off {v t : Value} {w : World} (h : Off v w) : Calls Try.prog 29 #[v, t] w fun e w' => e = .returned (.bool false) ∧ w' = w := by
  have HT := hidIn h
  clear h
  go_enter Try.func29, Try.ntmps29
  go_wp2_with (go_at_call 37; refine HT.out.mono ?_; rintro e w1 ⟨rfl, hw1⟩; rw [hw1]; clear hw1 w1)
  go_returns
  exact ⟨rfl, rfl⟩
set_option maxRecDepth 100000 in
theorem copy_off {v : Value} {w : World} (h : Off v w) : Calls Try.prog 33 #[v] w fun e w' => e = .returned nilP ∧ w' = w := by
  have HT := hidIn h
  clear h
  go_enter Try.func33, Try.ntmps33
  go_wp2_with (go_at_call 37; refine HT.out.mono ?_; rintro e w1 ⟨rfl, hw1⟩; rw [hw1]; clear hw1 w1)
  go_returns
  exact ⟨rfl, rfl⟩
set_option maxRecDepth 100000 in
theorem due_off {v : Value} {w : World} {c1 c2 : Nat} (h : Off v w) (h1 : w.heap[c1]? = some (.cells #[v] 23)) :
    Calls Try.prog 38 #[ptr c1, ptr c2] w fun e w' => e = .returned (.bool false) ∧ w' = w := by
  have x1 := cell_of_row _ _ 0 _ _ _ h1
  simp at x1
  have HN := hidIn (next_off h)
  clear h h1
  go_enter Try.func38, Try.ntmps38
  go_wp2_with fail
  refine HN.out.mono ?_
  rintro e w1 ⟨rfl, hw1⟩
  rw [hw1]
  clear hw1 w1
  go_wp2
  go_ret
  exact ⟨rfl, rfl⟩
set_option maxRecDepth 100000 in
set_option maxHeartbeats 1000000 in
theorem take_off {pa : Option Addr} {w : World} {now : Int} (hv : ∀ w', Below w.heap.size w w' → Off (.pointer pa) w') : Calls Try.prog 12 #[.pointer pa, .int .u64 now] w fun e w' => e = .returned (.slice none 0 0) ∧ Below w.heap.size w w' := by
  obtain ⟨W1, hW1⟩ : ∃ W1, (w.alloc (.cells #[.pointer pa] 23)).alloc (.cells #[.int .u64 now] 31) = W1 := ⟨_, rfl⟩
  have hb1 : Below w.heap.size w W1 := by rw [← hW1]; exact ((Below.refl _ w).alloc (Nat.le_refl _) _).alloc (by simp) _
  have hA : W1.heap[w.heap.size]? = some (.cells #[.pointer pa] 23) := by rw [← hW1, Below.heap_alloc _ _ _ (by simp)]; exact heap_alloc_last w _
  have HD := hidIn (due_off (c2 := w.heap.size + 1) (hv _ hb1) hA)
  have Hb := hidIn hb1
  have HW := hidIn hW1
  have hE := enterT
  clear hW1 hb1 hA hv
  go_enter Try.func12, Try.ntmps12
  go_upto_region 1 with fail
  try rw [HW.out]
  clear HW
  go_wp2_with fail
  go_loopw [6] (fun u wr => ∃ k : Nat, k = 0 ∧ u = .slice none 0 k ∧ Hid (wr = W1)) (fun u _ => 5 - slN u)
  case atStart => exact ⟨0, rfl, rfl, hidIn rfl⟩
  case round =>
    obtain ⟨k, rfl, rfl, hrw⟩ := hrel
    rw [hrw.out]
    go_wp2_with fail
    refine HD.out.mono ?_
    rintro e w1 ⟨rfl, hw1⟩
    rw [hw1]
    clear hw1 w1
    go_wp2
    go_returns
    exact ⟨rfl, Hb.out⟩
set_option maxRecDepth 100000 in
theorem sift_off {v k : Value} {w : World} (h : Off v w) : Calls Try.prog 31 #[v, k] w fun e w' => e = .returned (.int .i64 0) ∧ w' = w := by
  have HT := hidIn h
  clear h
  go_enter Try.func31, Try.ntmps31
  go_wp2_with (go_at_call 37; refine HT.out.mono ?_; rintro e w1 ⟨rfl, hw1⟩; rw [hw1]; clear hw1 w1)
  go_returns
  exact ⟨rfl, rfl⟩
theorem eqInF (d : Nat) (w : World) : (Op.equalIn (d + 1) 63 .nilFunc .nilFunc).run Try.prog w = .ok true w := by
  simp [Op.equalIn, run_underlying Try.underlying63]
theorem eqPF (w : World) : (binOp BinOp.eql 63 .nilFunc .nilFunc).run Try.prog w = .ok (.bool true) w := by
  have h : (Op.equal 63 .nilFunc .nilFunc).run Try.prog w = .ok true w := eqInF 9999 w
  simp only [binOp]
  simp [h]
set_option maxRecDepth 100000 in
theorem sift_nil {cp : Nat} {w : World} (h : w.cell? ⟨cp, 0, none⟩ = some (ptr cp)) : Calls Try.prog 31 #[ptr cp, .nilFunc] w fun e w' => e = .returned (.int .i64 0) ∧ w' = w := by
  have HT := hidIn (there_yes h)
  have hq := eqPF w
  clear h
  go_enter Try.func31, Try.ntmps31
  go_wp2_with (go_at_call 37; refine HT.out.mono ?_; rintro e w1 ⟨rfl, hw1⟩; rw [hw1]; clear hw1 w1)
  go_returns
  exact ⟨rfl, rfl⟩
end Go.Proofs.Ytgblfpdhodfmbaa.Ca.S
