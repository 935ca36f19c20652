/- dandelionlaw05.HeapKnown. -/
import Derived.Test.YtndiafbldgbplaaJM
namespace Go.Proofs.Ytndiafbldgbplaa
open Go.RowKit

theorem nil_nil (w : World) : (binOp BinOp.eql 48 Value.nilFunc Value.nilFunc).run Try.prog w = .ok (.bool true) w := by kernel_rfl
theorem new_nil (w : World) : Calls Try.prog 21 #[.nilFunc] w fun e w' => e = .returned (.pointer none) ∧ w' = w := by
  have hz := nil_nil
  go_enter Try.func21, Try.ntmps21
  go_wp2
  go_ret
  exact ⟨rfl, rfl⟩
theorem len_nil (w : World) : Calls Try.prog 24 #[.pointer none] w fun e w' => e = .returned (.int .i64 0) ∧ w' = w := by
  go_enter Try.func24, Try.ntmps24
  go_wp2
  go_ret
  exact ⟨rfl, rfl⟩
theorem peek_nil (w : World) : Calls Try.prog 26 #[.pointer none] w fun e w' => e = .returned (.tuple #[.int .i64 0, .bool false]) ∧ w' = w := by
  go_enter Try.func26, Try.ntmps26
  go_wp2_with (go_at_call 24; refine (len_nil w).mono ?_; rintro e w1 ⟨rfl, hw1⟩; rw [hw1]; clear hw1 w1)
  go_ret2
  exact ⟨rfl, rfl⟩
theorem pop_nil (w : World) : Calls Try.prog 25 #[.pointer none] w fun e w' => e = .returned (.tuple #[.int .i64 0, .bool false]) ∧ w' = w := by
  go_enter Try.func25, Try.ntmps25
  go_wp2_with (go_at_call 26; refine (peek_nil w).mono ?_; rintro e w1 ⟨rfl, hw1⟩; rw [hw1]; clear hw1 w1)
  go_ret2
  exact ⟨rfl, rfl⟩
theorem push_nil (x : Int) (w : World) : Calls Try.prog 22 #[.pointer none, .int .i64 x] w fun e w' => e = .returned (.bool false) ∧ w' = w := by
  go_enter Try.func22, Try.ntmps22
  go_wp2
  go_ret
  exact ⟨rfl, rfl⟩
/-- A heap that New did not make. -/
abbrev rawObj : Obj := .cells #[.nilFunc, .slice none 0 0, .int .i64 0] 59
theorem len_raw {w : World} {b : Nat} (h : w.heap[b]? = some rawObj) : Calls Try.prog 24 #[.pointer (some ⟨b, 0, none⟩)] w fun e w' => e = .returned (.int .i64 0) ∧ w' = w := by
  have c1 := cell_of_row w b 1 _ _ _ h
  simp at c1
  go_enter Try.func24, Try.ntmps24
  go_wp2
  go_ret
  exact ⟨rfl, rfl⟩
theorem peek_raw {w : World} {b : Nat} (h : w.heap[b]? = some rawObj) : Calls Try.prog 26 #[.pointer (some ⟨b, 0, none⟩)] w fun e w' => e = .returned (.tuple #[.int .i64 0, .bool false]) ∧ w' = w := by
  have HL := hidIn (len_raw h)
  clear h
  go_enter Try.func26, Try.ntmps26
  go_wp2_with (go_at_call 24; refine HL.out.mono ?_; rintro e w1 ⟨rfl, hw1⟩; rw [hw1]; clear hw1 w1)
  go_ret2
  exact ⟨rfl, rfl⟩
theorem push_raw {w : World} {b : Nat} (x : Int) (h : w.heap[b]? = some rawObj) : Calls Try.prog 22 #[.pointer (some ⟨b, 0, none⟩), .int .i64 x] w fun e w' => e = .returned (.bool false) ∧ w' = w := by
  have c0 := cell_of_row w b 0 _ _ _ h
  simp at c0
  have hz := nil_nil
  clear h
  go_enter Try.func22, Try.ntmps22
  go_wp2
  go_ret
  exact ⟨rfl, rfl⟩
theorem sort_nil {w : World} {b : Nat} (x : Int) (h : w.heap[b]? = some (.cells #[.int .i64 x] 3)) : Calls Try.prog 23 #[.slice (some ⟨b, 0, none⟩) 1 1, .nilFunc] w fun e w' => e = .returned (.slice none 0 0) ∧ w' = w := by
  have c0 := cell_of_row w b 0 _ _ _ h
  simp at c0
  clear h
  go_enter Try.func23, Try.ntmps23
  go_wp2_with (go_at_call 21; refine (new_nil w).mono ?_; rintro e w1 ⟨rfl, hw1⟩; rw [hw1]; clear hw1 w1)
  go_loopw [15] (fun i wr => (i = .int .i64 0 ∨ i = .int .i64 1) ∧ wr = w) (fun i _ => 1 - (intOf i).toNat)
  case atStart => exact ⟨.inl rfl, rfl⟩
  case round =>
    obtain ⟨hi, hwr⟩ := hrel
    rw [hwr]
    clear hwr
    rcases hi with rfl | rfl
    · go_wp2_with (go_at_call 22; refine (push_nil x w).mono ?_; rintro e w1 ⟨rfl, hw1⟩; rw [hw1]; clear hw1 w1)
      go_roundw
      case rel => exact ⟨.inr rfl, trivial⟩
      case measure => simp [intOf]
    · go_wp2_with fail
      go_loopw [8] (fun u wr => u = .slice none 0 0 ∧ wr = w) (fun _ _ => 0)
      case atStart => exact ⟨rfl, rfl⟩
      case round =>
        obtain ⟨rfl, hwr⟩ := hrel
        rw [hwr]
        clear hwr
        go_wp2_with (go_at_call 24; refine (len_nil w).mono ?_; rintro e w1 ⟨rfl, hw1⟩; rw [hw1]; clear hw1 w1)
        go_ret
        exact ⟨rfl, rfl⟩
def five : List Int := [42, 30, 41, 12]
theorem five_dom : ∀ x ∈ five, OT.D x := by
  intro x hx
  show 0 ≤ x ∧ x ≤ 1000
  simp [five] at hx
  omega
theorem five_out : sortL ltTen five = [12, 30, 42, 41] := by rfl
set_option maxRecDepth 100000 in
set_option maxHeartbeats 1000000 in
theorem known5_walk (w : World) : Calls Try.prog 7 #[] w fun e w' => e = .returned (.bool true) ∧ Below w.heap.size w w' := by
  go_enter Try.func7, Try.ntmps7
  go_wp2_with (first
    | (go_at_call 21; refine (new_nil w).mono ?_; rintro e w1 ⟨rfl, hw1⟩; rw [hw1]; clear hw1 w1)
    | (go_at_call 25; refine (pop_nil w).mono ?_; rintro e w1 ⟨rfl, hw1⟩; rw [hw1]; clear hw1 w1))
  refine (peek_raw (heap_alloc_new w rawObj)).mono ?_
  rintro e w1 ⟨rfl, hw1⟩
  rw [hw1]
  clear hw1 w1
  go_wp2_with fail
  refine (push_nil 1 _).mono ?_
  rintro e w1 ⟨rfl, hw1⟩
  rw [hw1]
  clear hw1 w1
  go_wp2_with fail
  have h2 := heap_alloc_new (w.alloc rawObj) rawObj
  rw [World.size_alloc] at h2
  refine (push_raw 1 h2).mono ?_
  clear h2
  rintro e w1 ⟨rfl, hw1⟩
  rw [hw1]
  clear hw1 w1
  go_wp2_with fail
  refine (len_nil _).mono ?_
  rintro e w1 ⟨rfl, hw1⟩
  rw [hw1]
  clear hw1 w1
  go_wp2_with fail
  have hb3 : Below w.heap.size w ((w.alloc rawObj).alloc rawObj) := ((Below.refl _ w).alloc (Nat.le_refl _) _).alloc (by simp) _
  have hs3 : ((w.alloc rawObj).alloc rawObj).heap.size = w.heap.size + 2 := by simp
  have h3 := heap_alloc_new ((w.alloc rawObj).alloc rawObj) (.cells #[.int .i64 1] 3)
  rw [hs3] at h3
  refine (sort_nil 1 h3).mono ?_
  clear h3
  rintro e w1 ⟨rfl, hw1⟩
  rw [hw1]
  clear hw1 w1
  have hb4 := hb3.alloc hb3.size (.cells #[.int .i64 1] 3)
  have hs4 : (((w.alloc rawObj).alloc rawObj).alloc (.cells #[.int .i64 1] 3)).heap.size = w.heap.size + 3 := by simp
  have HB4 := hidIn hb4
  have HS4 := hidIn hs4
  clear hb3 hs3 hb4 hs4
  generalize ((w.alloc rawObj).alloc rawObj).alloc _ = V at HB4 HS4 ⊢
  have h5 := heap_alloc_new V (.cells (five.map (Value.int .i64)).toArray 3)
  have hI : In.IntsAt (V.alloc (.cells (five.map (Value.int .i64)).toArray 3)) (.slice (some ⟨V.heap.size, 0, none⟩) 4 4) five := ⟨_, 4, rfl, fun _ => ⟨V.heap.size, 0, rfl, by simp, fun j x hj => by
    have hjl : j < 4 := (List.getElem?_eq_some_iff.1 hj).1
    rw [Nat.zero_add, four_at five rfl _ _ _ h5 j hjl, hj]
    rfl⟩⟩
  have hS := In.sort_ok (O := OT) hI (by decide) trivial (Nat.zero_le _) five_dom ⟨by decide, by decide⟩
  have e5 : sortL OT.lt five = [12, 30, 42, 41] := five_out
  rw [e5] at hS
  have HS := hidIn hS
  clear hS hI h5 e5
  go_wp2_with fail
  refine HS.out.mono ?_
  rintro e w5 ⟨⟨u, rfl, hr⟩, hb5⟩
  have HB5 := hidIn ((HB4.out.alloc HB4.out.size (.cells (five.map (Value.int .i64)).toArray 3)).trans (hb5.mono (Nat.le_trans HB4.out.size (by simp))))
  obtain ⟨g, cap, rfl⟩ : ∃ g cap, u = .slice (some ⟨g, 0, none⟩) 4 cap := by
    rcases hr.2 with ⟨_, h1⟩ | ⟨g, cap, cur, rfl, _⟩
    · exact absurd h1 (by decide)
    · exact ⟨g, cap, rfl⟩
  have c0 := hr.cells (g := g) rfl 0 (.int .i64 12) rfl
  have c1 := hr.cells (g := g) rfl 1 (.int .i64 30) rfl
  have c2 := hr.cells (g := g) rfl 2 (.int .i64 42) rfl
  have c3 := hr.cells (g := g) rfl 3 (.int .i64 41) rfl
  rw [Addr.add_mid] at c0 c1 c2 c3
  simp only [Nat.zero_add] at c0 c1 c2 c3
  have HN := hidIn (In.new_ok OT w5)
  have HP := hidIn (In.pop_none (In.hpM_new (O := OT) w5 trivial (Nat.zero_le _)))
  clear hr hb5 HS
  go_wp2_with (first
    | (go_at_call 21; refine HN.out.mono ?_; rintro e w6 ⟨rfl, hw6⟩; rw [hw6]; clear hw6 w6)
    | (go_at_call 25; refine HP.out.mono ?_; rintro e w6 ⟨rfl, hw6⟩; rw [hw6]; clear hw6 w6)
    | (go_at_call 16; refine (works_ok _).mono ?_; rintro e w7 ⟨rfl, hb7⟩))
  go_ret
  have hb6 := HB5.out.alloc HB5.out.size (In.hpObj OT)
  exact ⟨rfl, hb6.trans (hb7.mono hb6.size)⟩
end Go.Proofs.Ytndiafbldgbplaa
