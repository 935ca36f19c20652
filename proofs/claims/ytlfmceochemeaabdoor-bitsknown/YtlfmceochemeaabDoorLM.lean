/- The law BitsKnown, walked. -/
import Derived.Test.YtlfmceochemeaabDoorLK
namespace Go.Proofs.YtlfmceochemeaabDoor
open Go.RowKit Go.Shelf

/-- The example's bit string: the bits 1, 64, 65, 256. -/
def exK : Nat := ofl [1, 64, 65, 256, 64]
theorem exK_lt : exK < 2 ^ 256 := by decide +kernel
theorem exK_top : 255 < bl exK := by
  rcases Nat.lt_or_ge 255 (bl exK) with h | h
  · exact h
  · exact absurd (bl_le.1 h) (by decide +kernel)
theorem of_ex (T b cap : Nat) (w : World) (hb : w.heap.size = b) :
    Calls Tryd.prog 12 #[.slice (some ⟨b, 0, none⟩) 5 cap] (w.alloc (.cells #[.int .i64 1, .int .i64 64, .int .i64 65, .int .i64 256, .int .i64 64] T)) fun e w' => e = .returned (.tuple #[bs exK, .int .i64 0]) ∧ Below w.heap.size w w' := by
  subst hb
  refine (of_yes [1, 64, 65, 256, 64] w.heap.size 0 cap _ (by decide) (fun j hj => ?_) (by simp) (fun z hz => by simp at hz; omega)).mono ?_
  · have : j = 0 ∨ j = 1 ∨ j = 2 ∨ j = 3 ∨ j = 4 := by simp at hj; omega
    rcases this with rfl | rfl | rfl | rfl | rfl <;> simp
  · rintro e w' ⟨rfl, h⟩
    exact ⟨rfl, ((Below.refl _ w).alloc (Nat.le_refl _) _).trans (h.mono (by simp))⟩
theorem of_one (n : Int) (hn : n < 1 ∨ 256 < n) (T b cap : Nat) (w : World) (hb : w.heap.size = b) :
    Calls Tryd.prog 12 #[.slice (some ⟨b, 0, none⟩) 1 cap] (w.alloc (.cells #[.int .i64 n] T)) fun e w' => e = .returned (.tuple #[bs 0, .int .i64 2]) ∧ Below w.heap.size w w' := by
  subst hb
  refine (of_no [n] w.heap.size 0 cap _ (by simp) (fun j hj => ?_) (by simp) (fun h => by have := h n (by simp); omega)).mono ?_
  · obtain rfl : j = 0 := by simp at hj; omega
    simp
  · rintro e w' ⟨rfl, h⟩
    exact ⟨rfl, ((Below.refl _ w).alloc (Nat.le_refl _) _).trans (h.mono (by simp))⟩
theorem below_0 (width : Int) (b : Bool) (hb : b = decide (0 ≤ width ∧ width ≤ 256)) (w : World) :
    Calls Tryd.prog 17 #[.agg #[.int .u64 0, .int .u64 0, .int .u64 0, .int .u64 0], .int .i64 width] w fun e w' => e = .returned (.bool b) ∧ Below w.heap.size w w' := by
  have h0 : bl 0 = 0 := Nat.le_zero.1 (bl_le.2 (by decide))
  by_cases h : 0 ≤ width ∧ width ≤ 256
  · have := below_yes 0 (by decide) width h.1 h.2 (by rw [h0]; exact h.1) w
    rw [hb, decide_eq_true h]
    simpa [bs, wd_zero] using this
  · have := below_no 0 (by decide) width (by omega) w
    rw [hb, decide_eq_false h]
    simpa [bs, wd_zero] using this
theorem bytes_0 (width : Int) (h : width < 8 ∨ 256 < width ∨ width % 8 ≠ 0) (w : World) :
    Calls Tryd.prog 13 #[.agg #[.int .u64 0, .int .u64 0, .int .u64 0, .int .u64 0], .int .i64 width] w fun e w' => e = .returned (.tuple #[.string ⟨#[]⟩, .int .i64 2]) ∧ Below w.heap.size w w' := by
  have := bytes_arg 0 width h w
  simpa [bs, wd_zero] using this
theorem Kept.any {w V : World} {N : Nat} {l : List Nat} (h : Kept w V N l) (o : Obj) : Kept w (V.alloc o) N l := h.go ((Below.refl _ V).alloc (Nat.le_refl _) o)
theorem Kept.via {w V v : World} {N : Nat} {l : List Nat} {o : Obj} (h : Kept w V N l) (a : Below (V.alloc o).heap.size (V.alloc o) v) : Kept w v N l := (h.any o).go a
theorem Below.via {n : Nat} {w V v : World} {o : Obj} (h : Below n w V) (hs : n ≤ V.heap.size) (a : Below (V.alloc o).heap.size (V.alloc o) v) : Below n w v := (h.alloc hs o).trans (a.mono (by simp; omega))
def zsA (k : Nat) : Int := if k = 0 then 0 else if k = 1 then -1 else if k = 2 then 257 else 4611686018427387904
def zsB (k : Nat) : Int := if k = 0 then 0 else if k = 1 then 12 else if k = 2 then 264 else -8
/-- 33 bytes, all 0, as a string. -/
def zeros33 : ByteArray := strOfNums (List.replicate 33 0)
theorem zeros33_size : 32 < zeros33.size := by decide +kernel
theorem size_up (w : World) (o : Obj) : (w.alloc o).heap.size = w.heap.size + 1 := by simp
theorem nil_at (n i : Nat) (h : i < n) : (List.replicate n (0 : Int)).getD i 0 = 0 := by simp [h]
theorem make_33 (W : World) : (Instr.makeSlice 40 (.int .i64 33) (.int .i64 33)).run Tryd.prog W = .ok (.slice (some ⟨W.heap.size, 0, none⟩) 33 33) (W.alloc (.cells (madeCells #[.int .u8 0] 33) 5)) :=
  run_make_row' (P := Tryd.prog) 40 5 (.int .u8 0) 1 Tryd.underlying40 infoByte rfl .i64 .i64 33 (by omega) (by omega) W
theorem conv_33 (W : World) : (convert 40 9 (.slice (some ⟨W.heap.size, 0, none⟩) 33 33)).run Tryd.prog (W.alloc (.cells (madeCells #[.int .u8 0] 33) 5)) = .ok (.string zeros33) (W.alloc (.cells (madeCells #[.int .u8 0] 33) 5)) :=
  run_convert_bytes_arg (P := Tryd.prog) _ 40 5 Tryd.underlying40 Tryd.underlying5 W.heap.size 0 33 33 (List.replicate 33 0) (by simp) (by
    intro i hi
    rw [Nat.zero_add, (World.rowIs_made W (.int .u8 0) 33 5).cell hi]
    exact congrArg (fun z => some (Value.int .u8 z)) (nil_at 33 i hi).symm) 9 Tryd.underlying9
theorem zsA_bad (k : Nat) : zsA k < 1 ∨ 256 < zsA k := by unfold zsA; split; omega; split; omega; split <;> omega
theorem zsB_bad (k : Nat) : zsB k < 8 ∨ 256 < zsB k ∨ zsB k % 8 ≠ 0 := by unfold zsB; split; omega; split; omega; split <;> omega
theorem cells_A (w : World) (T : TypeId) (k : Nat) (h : k < 4) : (w.alloc (.cells #[.int .i64 0, .int .i64 (-1), .int .i64 257, .int .i64 4611686018427387904] T)).cell? ⟨w.heap.size, k, none⟩ = some (.int .i64 (zsA k)) := by
  have : k = 0 ∨ k = 1 ∨ k = 2 ∨ k = 3 := by omega
  rcases this with rfl | rfl | rfl | rfl <;> simp [zsA]
theorem cells_B (w : World) (T : TypeId) (k : Nat) (h : k < 4) : (w.alloc (.cells #[.int .i64 0, .int .i64 12, .int .i64 264, .int .i64 (-8)] T)).cell? ⟨w.heap.size, k, none⟩ = some (.int .i64 (zsB k)) := by
  have : k = 0 ∨ k = 1 ∨ k = 2 ∨ k = 3 := by omega
  rcases this with rfl | rfl | rfl | rfl <;> simp [zsB]
theorem cells_T (w : World) (T : TypeId) (k : Nat) (h : k < 11) : (w.alloc (.cells #[.string ⟨#[]⟩, .string ⟨#[51, 32, 49]⟩, .string ⟨#[49, 32, 49]⟩, .string ⟨#[48, 49]⟩, .string ⟨#[50, 53, 55]⟩, .string ⟨#[48]⟩, .string ⟨#[49, 32, 32, 50]⟩, .string ⟨#[32, 49]⟩, .string ⟨#[49, 32]⟩, .string ⟨#[43, 49]⟩, .string ⟨#[45, 45]⟩] T)).cell? ⟨w.heap.size, k, none⟩ = some (.string (noTexts k)) := by
  have : k = 0 ∨ k = 1 ∨ k = 2 ∨ k = 3 ∨ k = 4 ∨ k = 5 ∨ k = 6 ∨ k = 7 ∨ k = 8 ∨ k = 9 ∨ k = 10 := by omega
  rcases this with rfl | rfl | rfl | rfl | rfl | rfl | rfl | rfl | rfl | rfl | rfl <;> simp [noTexts]
set_option maxRecDepth 100000 in
set_option maxHeartbeats 4000000 in
theorem known_walk (M : Int) (w : World) (ht : Tabs w) (he : ErrV w) (hm : w.cell? ⟨1, 0, none⟩ = some (.int .i64 M)) :
    Calls Tryd.prog 5 #[] w fun e w' => e = .returned (.bool true) ∧ Below w.heap.size w w' := by
  have hg : 1 < w.heap.size := block_lt_of_cell hm
  have Hm := hidIn (And.intro hm he)
  clear hm he
  have hq : ∀ w : World, (Op.equalIn 10000 24 (.agg #[.int .u64 (wd exK 0), .int .u64 (wd exK 1), .int .u64 (wd exK 2), .int .u64 (wd exK 3)]) (.agg #[.int .u64 9223372036854775809, .int .u64 1, .int .u64 0, .int .u64 9223372036854775808])).run Tryd.prog w = Result.ok true w := by
    intro w
    have := bits_same exK w
    rw [show wd exK 0 = 9223372036854775809 from by decide +kernel, show wd exK 1 = 1 from by decide +kernel, show wd exK 2 = 0 from by decide +kernel, show wd exK 3 = 9223372036854775808 from by decide +kernel] at this ⊢
    exact this
  have HK := hidIn (And.intro exK_lt (And.intro exK_top (show exK.testBit 64 = true by decide +kernel)))
  go_enter Tryd.func5, Tryd.ntmps5
  go_wp2_with fail
  refine (of_ex _ _ _ _ (by simp)).mono ?_
  rintro e w1 ⟨rfl, b1⟩
  generalize exK = K at hq HK ⊢
  have K1 : Kept w (w1.alloc (.cells #[.int .u64 (wd K 0), .int .u64 (wd K 1), .int .u64 (wd K 2), .int .u64 (wd K 3)] 24)) K [w1.heap.size] := ⟨b1.alloc b1.size _, fun b hb => by rw [List.mem_singleton.1 hb]; exact hasBs_new w1 K⟩
  go_wp2_with fail
  generalize w1.alloc _ = V1 at K1 ⊢
  generalize w1.heap.size = bx at K1 ⊢
  clear b1
  refine (has_is K HK.out.1 64 (by decide) true HK.out.2.2 _).mono ?_
  rintro e w2 ⟨rfl, b2⟩
  replace K1 := K1.go b2
  clear b2
  obtain ⟨c0, c1, c2, c3, f0, f1, f2, f3, l0⟩ := K1.has bx (by simp)
  go_wp2_with fail
  refine (has_no K 0 (by decide) _).mono ?_
  rintro e w3 ⟨rfl, b3⟩
  replace K1 := K1.go b3
  clear b3 c0 c1 c2 c3 f0 f1 f2 f3 l0
  obtain ⟨c0, c1, c2, c3, f0, f1, f2, f3, l0⟩ := K1.has bx (by simp)
  go_wp2_with fail
  refine (has_no K 257 (by decide) _).mono ?_
  rintro e w4 ⟨rfl, b4⟩
  replace K1 := K1.go b4
  clear b4 c0 c1 c2 c3 f0 f1 f2 f3 l0
  obtain ⟨c0, c1, c2, c3, f0, f1, f2, f3, l0⟩ := K1.has bx (by simp)
  go_wp2_with fail
  refine (below_no K HK.out.1 255 (by have := HK.out.2.1; omega) _).mono ?_
  rintro e w5 ⟨rfl, b5⟩
  replace K1 := K1.go b5
  clear b5 c0 c1 c2 c3 f0 f1 f2 f3 l0
  go_wp2_with fail
  refine (below_0 0 true (by decide) _).mono ?_
  rintro e w6 ⟨rfl, b6⟩
  replace K1 := K1.go b6
  clear b6
  go_wp2_with fail
  refine (below_0 257 false (by decide) _).mono ?_
  rintro e w7 ⟨rfl, b7⟩
  replace K1 := K1.go b7
  clear b7
  go_wp2_with fail
  refine (below_0 (-1) false (by decide) _).mono ?_
  rintro e w8 ⟨rfl, b8⟩
  replace K1 := K1.go b8
  clear b8
  go_wp2
  clear hq
  have hcA := cells_A w8 3
  have K2 := K1.any (.cells #[.int .i64 0, .int .i64 (-1), .int .i64 257, .int .i64 4611686018427387904] 3)
  have hBA : w8.heap.size < (w8.alloc (.cells #[.int .i64 0, .int .i64 (-1), .int .i64 257, .int .i64 4611686018427387904] 3)).heap.size := by simp
  generalize w8.alloc _ = VA at hcA K2 hBA ⊢
  generalize w8.heap.size = BA at hcA hBA ⊢
  have HcA := hidIn hcA
  clear hcA K1
  go_loopw [69] (fun i wr => ∃ k : Nat, k ≤ 4 ∧ i = .int .i64 k ∧ Kept w wr K [bx] ∧ Below VA.heap.size VA wr) (fun i _ => 4 - (intOf i).toNat)
  case atStart => exact ⟨0, by omega, rfl, K2, Below.refl _ _⟩
  case round =>
    obtain ⟨k, hk, rfl, K3, hbel⟩ := hrel
    clear K2
    by_cases hlt : k < 4
    · have hn := zsA_bad k
      have hcell : wr.cell? ⟨BA, k, none⟩ = some (.int .i64 (zsA k)) := (hbel.cell (p := ⟨BA, k, none⟩) hBA).trans (HcA.out k hlt)
      generalize zsA k = n at hn hcell
      go_wp2_with fail
      refine (of_one n hn _ _ _ _ (by simp)).mono ?_
      rintro e v1 ⟨rfl, a1⟩
      replace K3 := K3.go a1
      have hbl1 := hbel.trans (a1.mono hbel.size)
      clear a1 hbel hcell
      obtain ⟨c0, c1, c2, c3, f0, f1, f2, f3, l0⟩ := K3.has bx (by simp)
      go_wp2_with fail
      refine (with_no K n hn _).mono ?_
      rintro e v2 ⟨rfl, a2⟩
      replace K3 := K3.via a2
      have hbl2 := Below.via hbl1 hbl1.size a2
      clear a2 hbl1 c0 c1 c2 c3 f0 f1 f2 f3 l0
      obtain ⟨c0, c1, c2, c3, f0, f1, f2, f3, l0⟩ := K3.has bx (by simp)
      go_wp2_with fail
      refine (without_no K n hn _).mono ?_
      rintro e v3 ⟨rfl, a3⟩
      replace K3 := K3.via a3
      have hbl3 := Below.via hbl2 hbl2.size a3
      clear a3 hbl2 c0 c1 c2 c3 f0 f1 f2 f3 l0
      go_wp2
      go_roundw
      case rel => exact ⟨k + 1, by omega, by go_num, K3.any _, hbl3.alloc hbl3.size _⟩
      case measure => simp [intOf]; omega
    · obtain rfl : k = 4 := by omega
      clear HcA hBA hbel
      go_wp2
      have hcB := cells_B wr 3
      have K4 := K3.any (.cells #[.int .i64 0, .int .i64 12, .int .i64 264, .int .i64 (-8)] 3)
      have hBB : wr.heap.size < (wr.alloc (.cells #[.int .i64 0, .int .i64 12, .int .i64 264, .int .i64 (-8)] 3)).heap.size := by simp
      generalize wr.alloc _ = VB at hcB K4 hBB ⊢
      generalize wr.heap.size = BB at hcB hBB ⊢
      have HcB := hidIn hcB
      clear hcB K3
      go_loopw [104] (fun i wr => ∃ k : Nat, k ≤ 4 ∧ i = .int .i64 k ∧ Kept w wr K [bx] ∧ Below VB.heap.size VB wr) (fun i _ => 4 - (intOf i).toNat)
      case atStart => exact ⟨0, by omega, rfl, K4, Below.refl _ _⟩
      case round =>
        obtain ⟨k, hk, rfl, K3, hbel⟩ := hrel
        clear K4
        by_cases hlt : k < 4
        · have hn := zsB_bad k
          have hcell : wr.cell? ⟨BB, k, none⟩ = some (.int .i64 (zsB k)) := (hbel.cell (p := ⟨BB, k, none⟩) hBB).trans (HcB.out k hlt)
          generalize zsB k = n at hn hcell
          go_wp2_with fail
          refine (bytes_0 n hn _).mono ?_
          rintro e v1 ⟨rfl, a1⟩
          replace K3 := K3.go a1
          have hbl1 := hbel.trans (a1.mono hbel.size)
          clear a1 hbel hcell
          go_wp2
          refine ⟨?_, ?_⟩
          · (repeat apply Exists.intro)
            refine ⟨?_, rfl⟩
            exact ⟨k + 1, by omega, by go_num, K3, hbl1⟩
          · simp [intOf]; omega
        · obtain rfl : k = 4 := by omega
          clear HcB hBB hbel
          go_wp2
          have hcT := cells_T wr 9
          generalize hT : wr.alloc _ = VT at hcT ⊢
          have K4 : Kept w VT K [bx] := by rw [← hT]; exact K3.any _
          have hBT : wr.heap.size < VT.heap.size := by rw [← hT]; simp
          clear hT
          generalize wr.heap.size = BT at hcT hBT ⊢
          have HcT := hidIn hcT
          clear hcT K3
          go_loopw [119] (fun i wr => ∃ k : Nat, k ≤ 11 ∧ i = .int .i64 k ∧ Kept w wr K [bx] ∧ Below VT.heap.size VT wr) (fun i _ => 11 - (intOf i).toNat)
          case atStart => exact ⟨0, by omega, rfl, K4, Below.refl _ _⟩
          case round =>
            obtain ⟨k, hk, rfl, K3, hbel⟩ := hrel
            clear K4
            by_cases hlt : k < 11
            · have hn := no_text k hlt
              have hcell : wr.cell? ⟨BT, k, none⟩ = some (.string (noTexts k)) := (hbel.cell (p := ⟨BT, k, none⟩) hBT).trans (HcT.out k hlt)
              generalize noTexts k = s at hn hcell
              have Hn := hidIn hn
              clear hn
              go_wp2_with fail
              refine (parse_bad s Hn.out.1 Hn.out.2.1 Hn.out.2.2 M _ (ht.keep K3.below) (Hm.out.2.keep K3.below) ((K3.below.cell (p := ⟨1, 0, none⟩) hg).trans Hm.out.1)).mono ?_
              rintro e v1 ⟨rfl, a1⟩
              replace K3 := K3.go a1
              have hbl1 := hbel.trans (a1.mono hbel.size)
              clear a1 hbel hcell
              go_wp2
              refine ⟨?_, ?_⟩
              · (repeat apply Exists.intro)
                refine ⟨?_, rfl⟩
                exact ⟨k + 1, by omega, by go_num, K3.any _, hbl1.alloc hbl1.size _⟩
              · simp [intOf]; omega
            · obtain rfl : k = 11 := by omega
              clear HcT hBT hbel
              go_wp2_with fail
              refine (read_short ⟨#[]⟩ (by decide) _).mono ?_
              rintro e u1 ⟨rfl, a1⟩
              replace K3 := K3.go a1
              clear a1
              have hmk := make_33
              have hcv := conv_33 (u1.alloc (.cells #[.int .u64 (wd 0 0), .int .u64 (wd 0 1), .int .u64 (wd 0 2), .int .u64 (wd 0 3)] 24))
              rw [size_up] at hcv
              have K6 := (K3.any (.cells #[.int .u64 (wd 0 0), .int .u64 (wd 0 1), .int .u64 (wd 0 2), .int .u64 (wd 0 3)] 24)).any (.cells (madeCells #[.int .u8 0] 33) 5)
              go_wp2_with fail
              refine (read_long zeros33 zeros33_size _).mono ?_
              rintro e u2 ⟨rfl, a2⟩
              replace K6 := K6.go a2
              clear a2 hmk hcv K3
              go_wp2_with fail
              refine (parse_none _).mono ?_
              rintro e u3 ⟨rfl, a3⟩
              replace K6 := K6.via a3
              clear a3
              have hz := fun w => eq_zero 0 (by decide) w
              have K7 := K6.any (.cells #[.int .u64 (wd 0 0), .int .u64 (wd 0 1), .int .u64 (wd 0 2), .int .u64 (wd 0 3)] 24)
              obtain ⟨c0, c1, c2, c3, f0, f1, f2, f3, l0⟩ := hasBs_new u3 0
              go_wp2_with fail
              refine (text_none _).mono ?_
              rintro e u4 ⟨rfl, a4⟩
              replace K7 := K7.go a4
              clear a4 K6 hz c0 c1 c2 c3 f0 f1 f2 f3 l0
              go_wp2_with fail
              refine (works_any _ (ht.keep K7.below)).mono ?_
              rintro e u5 ⟨rfl, a5⟩
              replace K7 := K7.go a5
              go_wp2
              go_ret
              exact ⟨rfl, K7.below⟩
end Go.Proofs.YtlfmceochemeaabDoor
