/- The closed law HeaderKnown, walked. -/
import Derived.Test.YtmdpbohepdblcaaDoorHB
import Derived.Test.YtmdpbohepdblcaaDoorK12
namespace Go.Proofs.YtmdpbohepdblcaaDoor
open Go.RowKit

/-- The example's block. -/
abbrev exO : Obj := .cells #[.int .i64 8, .int .i64 2, .int .u32 16909060, .int .i64 15, .int .i64 7, .int .i64 3, .int .u32 9, .int .u64 129, .int .u64 0, .int .u64 0, .int .u64 0] 27
/-- The example's bytes, its last byte of bits turned. -/
def exT : ByteArray := ⟨#[16, 2, 1, 2, 3, 4, 15, 7, 3, 0, 0, 0, 9, 128, 94, 234]⟩
theorem decode_exT (w : World) (ht : Wid w) : Calls Tryd.prog 22 #[.string exT] w fun e w' => e = .returned (.tuple #[hd0, .int .i64 5]) ∧ Below w.heap.size w w' :=
  decode_sum exT 0 (by decide) (by decide) (by decide) (by decide) (by decide +kernel) w ht
theorem decode_nil (w : World) (ht : Wid w) : Calls Tryd.prog 22 #[.string ⟨#[]⟩] w fun e w' => e = .returned (.tuple #[hd0, .int .i64 4]) ∧ Below w.heap.size w w' :=
  decode_now ⟨#[]⟩ (.inl rfl) w ht
theorem decode_22 (w : World) (ht : Wid w) : Calls Tryd.prog 22 #[.string ⟨#[22]⟩] w fun e w' => e = .returned (.tuple #[hd0, .int .i64 4]) ∧ Below w.heap.size w w' :=
  decode_now ⟨#[22]⟩ (.inr ⟨by decide, .inr (by decide)⟩) w ht
theorem size_8 (w : World) (ht : Wid w) : Calls Tryd.prog 13 #[.int .i64 8] w fun e w' => e = .returned (.tuple #[.int .i64 16, .int .i64 0]) ∧ w' = w := size_yes 8 (by unfold IsW; decide) w ht
theorem size_256 (w : World) (ht : Wid w) : Calls Tryd.prog 13 #[.int .i64 256] w fun e w' => e = .returned (.tuple #[.int .i64 47, .int .i64 0]) ∧ w' = w := size_yes 256 (by unfold IsW; decide) w ht
theorem exT_set : exS.data.toList.set 13 128 = exT.data.toList := by decide +kernel

theorem alloc_new (w : World) (o : Obj) : (w.alloc o).heap[w.heap.size]? = some o := by simp [World.alloc, -World.alloc_eq]
/-- Headers that may not be, one behind the other. -/
abbrev badO : Obj := .cells #[.int .i64 24, .int .i64 2, .int .u32 16909060, .int .i64 15, .int .i64 7, .int .i64 3, .int .u32 9, .int .u64 129, .int .u64 0, .int .u64 0, .int .u64 0, .int .i64 8, .int .i64 128, .int .u32 16909060, .int .i64 15, .int .i64 7, .int .i64 3, .int .u32 9, .int .u64 129, .int .u64 0, .int .u64 0, .int .u64 0, .int .i64 8, .int .i64 2, .int .u32 16909060, .int .i64 16, .int .i64 7, .int .i64 3, .int .u32 9, .int .u64 129, .int .u64 0, .int .u64 0, .int .u64 0, .int .i64 8, .int .i64 2, .int .u32 16909060, .int .i64 15, .int .i64 0, .int .i64 3, .int .u32 9, .int .u64 129, .int .u64 0, .int .u64 0, .int .u64 0, .int .i64 8, .int .i64 2, .int .u32 16909060, .int .i64 15, .int .i64 7, .int .i64 8, .int .u32 9, .int .u64 129, .int .u64 0, .int .u64 0, .int .u64 0, .int .i64 8, .int .i64 2, .int .u32 16909060, .int .i64 15, .int .i64 7, .int .i64 3, .int .u32 9, .int .u64 256, .int .u64 0, .int .u64 0, .int .u64 0] 27
/-- What is answered of a header that may not be. -/
structure BadC (v : Value) : Prop where
  enc : ∀ w, Wid w → Calls Tryd.prog 15 #[v] w fun e w' => e = .returned (.tuple #[.string ⟨#[]⟩, .int .i64 2]) ∧ Below w.heap.size w w'
  hop : ∀ w, Wid w → Calls Tryd.prog 17 #[v] w fun e w' => e = .returned (.tuple #[hd0, .int .i64 2]) ∧ Below w.heap.size w w'
  wth : ∀ w, Wid w → Calls Tryd.prog 19 #[v, .agg #[.int .u64 0, .int .u64 0, .int .u64 0, .int .u64 0]] w fun e w' => e = .returned (.tuple #[hd0, .int .i64 2]) ∧ Below w.heap.size w w'
  chk : ∀ w, Wid w → Calls Tryd.prog 9 #[v] w fun e w' => e = .returned (.int .i64 2) ∧ Below w.heap.size w w'
theorem bs0 : bs 0 = .agg #[.int .u64 0, .int .u64 0, .int .u64 0, .int .u64 0] := by simp only [bs, wd_zero]; rfl
theorem badC (W S E H O G I : Int) (N : Nat) (hN : N < 2 ^ 256) (h : ¬ OkH W S H O G N) : BadC (hd W S E H O G I N) :=
  ⟨fun w ht => encode_bad W S E H O G I N hN h w ht, fun w ht => hop_bad W S E H O G I N hN h w ht, fun w ht => by rw [← bs0]; exact with_bad W S E H O G I N 0 hN h w ht, fun w ht => check_bad W S E H O G I N hN h w ht⟩
theorem wd256 : wd 256 0 = 256 ∧ wd 256 1 = 0 ∧ wd 256 2 = 0 ∧ wd 256 3 = 0 := by decide
theorem bl256 : bl 256 = 9 := by decide +kernel
theorem bad0 : BadC (.agg #[.int .i64 24, .int .i64 2, .int .u32 16909060, .int .i64 15, .int .i64 7, .int .i64 3, .int .u32 9, .int .u64 129, .int .u64 0, .int .u64 0, .int .u64 0]) := by
  have h := badC 24 2 16909060 15 7 3 9 129 (by decide) (by intro h; exact absurd h.1 (by unfold IsW; decide))
  obtain ⟨a, b, c, d⟩ := wd129
  simp only [hd, a, b, c, d] at h
  exact h
theorem bad1 : BadC (.agg #[.int .i64 8, .int .i64 128, .int .u32 16909060, .int .i64 15, .int .i64 7, .int .i64 3, .int .u32 9, .int .u64 129, .int .u64 0, .int .u64 0, .int .u64 0]) := by
  have h := badC 8 128 16909060 15 7 3 9 129 (by decide) (by intro h; exact absurd h.2.2.1 (by decide))
  obtain ⟨a, b, c, d⟩ := wd129
  simp only [hd, a, b, c, d] at h
  exact h
theorem bad2 : BadC (.agg #[.int .i64 8, .int .i64 2, .int .u32 16909060, .int .i64 16, .int .i64 7, .int .i64 3, .int .u32 9, .int .u64 129, .int .u64 0, .int .u64 0, .int .u64 0]) := by
  have h := badC 8 2 16909060 16 7 3 9 129 (by decide) (by intro h; exact absurd h.2.2.2.1 (by decide))
  obtain ⟨a, b, c, d⟩ := wd129
  simp only [hd, a, b, c, d] at h
  exact h
theorem bad3 : BadC (.agg #[.int .i64 8, .int .i64 2, .int .u32 16909060, .int .i64 15, .int .i64 0, .int .i64 3, .int .u32 9, .int .u64 129, .int .u64 0, .int .u64 0, .int .u64 0]) := by
  have h := badC 8 2 16909060 15 0 3 9 129 (by decide) (by intro h; exact absurd h.2.2.2.2.1 (by decide))
  obtain ⟨a, b, c, d⟩ := wd129
  simp only [hd, a, b, c, d] at h
  exact h
theorem bad4 : BadC (.agg #[.int .i64 8, .int .i64 2, .int .u32 16909060, .int .i64 15, .int .i64 7, .int .i64 8, .int .u32 9, .int .u64 129, .int .u64 0, .int .u64 0, .int .u64 0]) := by
  have h := badC 8 2 16909060 15 7 8 9 129 (by decide) (by intro h; exact absurd h.2.2.2.2.2 (by decide))
  obtain ⟨a, b, c, d⟩ := wd129
  simp only [hd, a, b, c, d] at h
  exact h
theorem bad5 : BadC (.agg #[.int .i64 8, .int .i64 2, .int .u32 16909060, .int .i64 15, .int .i64 7, .int .i64 3, .int .u32 9, .int .u64 256, .int .u64 0, .int .u64 0, .int .u64 0]) := by
  have h := badC 8 2 16909060 15 7 3 9 256 (by decide) (by intro h; have h2 := h.2.1; rw [bl256] at h2; exact absurd h2 (by decide))
  obtain ⟨a, b, c, d⟩ := wd256
  simp only [hd, a, b, c, d] at h
  exact h
theorem badcell0 {w : World} {sb : Nat} (h : w.heap[sb]? = some badO) : w.cell? ⟨sb, 0, none⟩ = some (.int .i64 24) ∧ w.cell? ⟨sb, 1, none⟩ = some (.int .i64 2) ∧ w.cell? ⟨sb, 2, none⟩ = some (.int .u32 16909060) ∧ w.cell? ⟨sb, 3, none⟩ = some (.int .i64 15) ∧ w.cell? ⟨sb, 4, none⟩ = some (.int .i64 7) ∧ w.cell? ⟨sb, 5, none⟩ = some (.int .i64 3) ∧ w.cell? ⟨sb, 6, none⟩ = some (.int .u32 9) ∧ w.cell? ⟨sb, 7, none⟩ = some (.int .u64 129) ∧ w.cell? ⟨sb, 8, none⟩ = some (.int .u64 0) ∧ w.cell? ⟨sb, 9, none⟩ = some (.int .u64 0) ∧ w.cell? ⟨sb, 10, none⟩ = some (.int .u64 0) := ⟨by simp [World.cell?, h], by simp [World.cell?, h], by simp [World.cell?, h], by simp [World.cell?, h], by simp [World.cell?, h], by simp [World.cell?, h], by simp [World.cell?, h], by simp [World.cell?, h], by simp [World.cell?, h], by simp [World.cell?, h], by simp [World.cell?, h]⟩
theorem badcell1 {w : World} {sb : Nat} (h : w.heap[sb]? = some badO) : w.cell? ⟨sb, 11, none⟩ = some (.int .i64 8) ∧ w.cell? ⟨sb, 12, none⟩ = some (.int .i64 128) ∧ w.cell? ⟨sb, 13, none⟩ = some (.int .u32 16909060) ∧ w.cell? ⟨sb, 14, none⟩ = some (.int .i64 15) ∧ w.cell? ⟨sb, 15, none⟩ = some (.int .i64 7) ∧ w.cell? ⟨sb, 16, none⟩ = some (.int .i64 3) ∧ w.cell? ⟨sb, 17, none⟩ = some (.int .u32 9) ∧ w.cell? ⟨sb, 18, none⟩ = some (.int .u64 129) ∧ w.cell? ⟨sb, 19, none⟩ = some (.int .u64 0) ∧ w.cell? ⟨sb, 20, none⟩ = some (.int .u64 0) ∧ w.cell? ⟨sb, 21, none⟩ = some (.int .u64 0) := ⟨by simp [World.cell?, h], by simp [World.cell?, h], by simp [World.cell?, h], by simp [World.cell?, h], by simp [World.cell?, h], by simp [World.cell?, h], by simp [World.cell?, h], by simp [World.cell?, h], by simp [World.cell?, h], by simp [World.cell?, h], by simp [World.cell?, h]⟩
theorem badcell2 {w : World} {sb : Nat} (h : w.heap[sb]? = some badO) : w.cell? ⟨sb, 22, none⟩ = some (.int .i64 8) ∧ w.cell? ⟨sb, 23, none⟩ = some (.int .i64 2) ∧ w.cell? ⟨sb, 24, none⟩ = some (.int .u32 16909060) ∧ w.cell? ⟨sb, 25, none⟩ = some (.int .i64 16) ∧ w.cell? ⟨sb, 26, none⟩ = some (.int .i64 7) ∧ w.cell? ⟨sb, 27, none⟩ = some (.int .i64 3) ∧ w.cell? ⟨sb, 28, none⟩ = some (.int .u32 9) ∧ w.cell? ⟨sb, 29, none⟩ = some (.int .u64 129) ∧ w.cell? ⟨sb, 30, none⟩ = some (.int .u64 0) ∧ w.cell? ⟨sb, 31, none⟩ = some (.int .u64 0) ∧ w.cell? ⟨sb, 32, none⟩ = some (.int .u64 0) := ⟨by simp [World.cell?, h], by simp [World.cell?, h], by simp [World.cell?, h], by simp [World.cell?, h], by simp [World.cell?, h], by simp [World.cell?, h], by simp [World.cell?, h], by simp [World.cell?, h], by simp [World.cell?, h], by simp [World.cell?, h], by simp [World.cell?, h]⟩
theorem badcell3 {w : World} {sb : Nat} (h : w.heap[sb]? = some badO) : w.cell? ⟨sb, 33, none⟩ = some (.int .i64 8) ∧ w.cell? ⟨sb, 34, none⟩ = some (.int .i64 2) ∧ w.cell? ⟨sb, 35, none⟩ = some (.int .u32 16909060) ∧ w.cell? ⟨sb, 36, none⟩ = some (.int .i64 15) ∧ w.cell? ⟨sb, 37, none⟩ = some (.int .i64 0) ∧ w.cell? ⟨sb, 38, none⟩ = some (.int .i64 3) ∧ w.cell? ⟨sb, 39, none⟩ = some (.int .u32 9) ∧ w.cell? ⟨sb, 40, none⟩ = some (.int .u64 129) ∧ w.cell? ⟨sb, 41, none⟩ = some (.int .u64 0) ∧ w.cell? ⟨sb, 42, none⟩ = some (.int .u64 0) ∧ w.cell? ⟨sb, 43, none⟩ = some (.int .u64 0) := ⟨by simp [World.cell?, h], by simp [World.cell?, h], by simp [World.cell?, h], by simp [World.cell?, h], by simp [World.cell?, h], by simp [World.cell?, h], by simp [World.cell?, h], by simp [World.cell?, h], by simp [World.cell?, h], by simp [World.cell?, h], by simp [World.cell?, h]⟩
theorem badcell4 {w : World} {sb : Nat} (h : w.heap[sb]? = some badO) : w.cell? ⟨sb, 44, none⟩ = some (.int .i64 8) ∧ w.cell? ⟨sb, 45, none⟩ = some (.int .i64 2) ∧ w.cell? ⟨sb, 46, none⟩ = some (.int .u32 16909060) ∧ w.cell? ⟨sb, 47, none⟩ = some (.int .i64 15) ∧ w.cell? ⟨sb, 48, none⟩ = some (.int .i64 7) ∧ w.cell? ⟨sb, 49, none⟩ = some (.int .i64 8) ∧ w.cell? ⟨sb, 50, none⟩ = some (.int .u32 9) ∧ w.cell? ⟨sb, 51, none⟩ = some (.int .u64 129) ∧ w.cell? ⟨sb, 52, none⟩ = some (.int .u64 0) ∧ w.cell? ⟨sb, 53, none⟩ = some (.int .u64 0) ∧ w.cell? ⟨sb, 54, none⟩ = some (.int .u64 0) := ⟨by simp [World.cell?, h], by simp [World.cell?, h], by simp [World.cell?, h], by simp [World.cell?, h], by simp [World.cell?, h], by simp [World.cell?, h], by simp [World.cell?, h], by simp [World.cell?, h], by simp [World.cell?, h], by simp [World.cell?, h], by simp [World.cell?, h]⟩
theorem badcell5 {w : World} {sb : Nat} (h : w.heap[sb]? = some badO) : w.cell? ⟨sb, 55, none⟩ = some (.int .i64 8) ∧ w.cell? ⟨sb, 56, none⟩ = some (.int .i64 2) ∧ w.cell? ⟨sb, 57, none⟩ = some (.int .u32 16909060) ∧ w.cell? ⟨sb, 58, none⟩ = some (.int .i64 15) ∧ w.cell? ⟨sb, 59, none⟩ = some (.int .i64 7) ∧ w.cell? ⟨sb, 60, none⟩ = some (.int .i64 3) ∧ w.cell? ⟨sb, 61, none⟩ = some (.int .u32 9) ∧ w.cell? ⟨sb, 62, none⟩ = some (.int .u64 256) ∧ w.cell? ⟨sb, 63, none⟩ = some (.int .u64 0) ∧ w.cell? ⟨sb, 64, none⟩ = some (.int .u64 0) ∧ w.cell? ⟨sb, 65, none⟩ = some (.int .u64 0) := ⟨by simp [World.cell?, h], by simp [World.cell?, h], by simp [World.cell?, h], by simp [World.cell?, h], by simp [World.cell?, h], by simp [World.cell?, h], by simp [World.cell?, h], by simp [World.cell?, h], by simp [World.cell?, h], by simp [World.cell?, h], by simp [World.cell?, h]⟩
theorem with_ex (w : World) (ht : Wid w) : Calls Tryd.prog 19 #[exV, .agg #[.int .u64 256, .int .u64 0, .int .u64 0, .int .u64 0]] w fun e w' => e = .returned (.tuple #[hd0, .int .i64 3]) ∧ Below w.heap.size w w' := by
  have h := with_long 8 2 16909060 15 7 3 9 129 256 (by decide) (by decide) exOk (by rw [bl256]; decide) w ht
  rw [exV_eq] at h
  obtain ⟨a, b, c, d⟩ := wd256
  simp only [bs, a, b, c, d] at h
  exact h
set_option maxRecDepth 100000 in
set_option maxHeartbeats 8000000 in
theorem known_walk (w : World) (ht : Wid w) :
    Calls Tryd.prog 8 #[] w fun e w' => e = .returned (.bool true) ∧ Below w.heap.size w w' := by
  go_enter Tryd.func8, Tryd.ntmps8
  go_wp2_with fail
  refine (example_any _).mono ?_
  rintro r w1 ⟨rfl, hb1⟩
  have HV := hidIn (hasHd_ex w1)
  have HB := hidIn (hb1.alloc hb1.size exO)
  have HZ := hidIn hb1.size
  clear hb1
  go_upto_region 2 with fail
  generalize w1.alloc _ = V at HV HB ⊢
  generalize w1.heap.size = vb at *
  obtain ⟨c0, c1, c2, c3, c4, c5, c6, c7, c8, c9, ca, _, _, _, _, _, _, _, _, _, _, _, ltc⟩ := HV.out
  simp only [wd129.1, wd129.2.1, wd129.2.2.1, wd129.2.2.2] at c7 c8 c9 ca
  go_wp2_with fail
  refine (encode_ex _ (ht.keep HB.out)).mono ?_
  rintro r w2 ⟨rfl, hb2⟩
  clear c0 c1 c2 c3 c4 c5 c6 c7 c8 c9 ca ltc
  replace HV := hidIn (HV.out.keep hb2 HV.out.lt)
  replace HB := hidIn (HB.out.trans (hb2.mono HB.out.size))
  clear hb2
  go_wp2_with fail
  refine (size_8 _ (ht.keep HB.out)).mono ?_
  rintro r w3 ⟨rfl, hw⟩
  replace hw := hw.symm
  subst hw
  go_wp2_with fail
  refine (size_256 _ (ht.keep HB.out)).mono ?_
  rintro r w3 ⟨rfl, hw⟩
  replace hw := hw.symm
  subst hw
  go_wp2_with fail
  refine (size_no 24 (by unfold IsW; decide) _ (ht.keep HB.out)).mono ?_
  rintro r w3 ⟨rfl, hw⟩
  replace hw := hw.symm
  subst hw
  go_wp2_with fail
  refine (wide_yes 128 (by unfold IsW; decide) _ (ht.keep HB.out)).mono ?_
  rintro r w3 ⟨rfl, hw⟩
  replace hw := hw.symm
  subst hw
  go_wp2_with fail
  refine (wide_no 0 (by unfold IsW; decide) _ (ht.keep HB.out)).mono ?_
  rintro r w3 ⟨rfl, hw⟩
  replace hw := hw.symm
  subst hw
  go_wp2_with fail
  refine (wide_no 512 (by unfold IsW; decide) _ (ht.keep HB.out)).mono ?_
  rintro r w3 ⟨rfl, hw⟩
  replace hw := hw.symm
  subst hw
  go_wp2_with fail
  refine (wide_no (-8) (by unfold IsW; decide) _ (ht.keep HB.out)).mono ?_
  rintro r w3 ⟨rfl, hw⟩
  replace hw := hw.symm
  subst hw
  obtain ⟨U, cap, hconv, hbW, hL, hW⟩ := Wi.conv_any exS w2
  have hV3 := HV.out.lt
  replace HV := hidIn (HV.out.keep hbW HV.out.lt)
  have HZ1 := hidIn HB.out.size
  replace HB := hidIn (HB.out.trans (hbW.mono HB.out.size))
  have hsz : exS.size = 16 := rfl
  have hcell := hL.cell (j := 13) (by decide)
  have hfro := hL.frozen (j := 13) (by decide)
  have hL2 : Wi.HasL (U.setCell ⟨w2.heap.size, 13, none⟩ (.int .u8 128)) w2.heap.size (exS.data.toList.set 13 128) := hL.set 13 128
  rw [exT_set] at hL2
  have HLs := hidIn hL2
  clear hL2
  have HV2 := hidIn (HV.out.other (c := w2.heap.size) (by omega) 13 (.int .u8 128))
  have HB2 := hidIn (HB.out.setCell (p := ⟨w2.heap.size, 13, none⟩) HZ1.out (.int .u8 128))
  rw [hsz] at hconv
  clear hbW hL hW HV HB HZ1 hV3
  go_upto_region 10 with fail
  generalize World.setCell _ _ _ = U2 at HLs HV2 HB2 ⊢
  clear hconv hcell hfro hsz
  have hstr := HLs.out.string (cap := cap) (n := 16) (by decide)
  change (convert 44 9 (.slice (some ⟨w2.heap.size, 0, none⟩) 16 cap)).run Tryd.prog U2 = .ok (.string exT) U2 at hstr
  have HTn := hidIn decode_exT
  generalize exT = XT at hstr HTn
  go_wp2_with fail
  refine (HTn.out _ (ht.keep HB2.out)).mono ?_
  rintro r w4 ⟨rfl, hb4⟩
  replace HV2 := hidIn (HV2.out.keep hb4 HV2.out.lt)
  replace HB2 := hidIn (HB2.out.trans (hb4.mono HB2.out.size))
  clear hb4 hstr HTn HLs
  go_wp2_with fail
  refine (decode_nil _ (ht.keep HB2.out)).mono ?_
  rintro r w5 ⟨rfl, hb5⟩
  replace HV2 := hidIn (HV2.out.keep hb5 HV2.out.lt)
  replace HB2 := hidIn (HB2.out.trans (hb5.mono HB2.out.size))
  clear hb5
  go_wp2_with fail
  refine (decode_22 _ (ht.keep HB2.out)).mono ?_
  rintro r w6 ⟨rfl, hb6⟩
  replace HV2 := hidIn (HV2.out.keep hb6 HV2.out.lt)
  replace HB2 := hidIn (HB2.out.trans (hb6.mono HB2.out.size))
  clear hb6
  obtain ⟨c0, c1, c2, c3, c4, c5, c6, c7, c8, c9, ca, _, _, _, _, _, _, _, _, _, _, _, ltc⟩ := HV2.out
  simp only [wd129.1, wd129.2.1, wd129.2.2.1, wd129.2.2.2] at c7 c8 c9 ca
  go_upto_region 22 with fail
  have HO : Hid ((w6.alloc badO).heap[w6.heap.size]? = some badO) := alloc_new w6 badO
  replace HV2 := hidIn (HV2.out.keep ((Below.refl _ w6).alloc (Nat.le_refl _) badO) HV2.out.lt)
  replace HB2 := hidIn (HB2.out.alloc HB2.out.size badO)
  clear c0 c1 c2 c3 c4 c5 c6 c7 c8 c9 ca ltc
  generalize w6.alloc _ = V6 at HO HV2 HB2 ⊢
  generalize w6.heap.size = sb at *
  go_wp2_with fail
  go_loopw [12] (fun ii wr => ∃ k : Nat, k ≤ 6 ∧ ii = .int .i64 (k : Int) ∧ wr.heap[sb]? = some badO ∧ HasHd wr vb 8 2 16909060 15 7 3 9 129 ∧ Below w.heap.size w wr) (fun ii _ => 6 - (intOf ii).toNat)
  case atStart => exact ⟨0, by omega, rfl, HO.out, HV2.out, HB2.out⟩
  case round =>
    clear HO HV2 HB2
    obtain ⟨k, hk, rfl, hO, hV, hB⟩ := hrel
    have HO := hidIn hO
    have HV2 := hidIn hV
    have HB2 := hidIn hB
    clear hO hV hB
    have hks : k = 0 ∨ k = 1 ∨ k = 2 ∨ k = 3 ∨ k = 4 ∨ k = 5 ∨ k = 6 := by omega
    rcases hks with rfl | rfl | rfl | rfl | rfl | rfl | rfl
    · have HBd := hidIn bad0
      obtain ⟨c0, c1, c2, c3, c4, c5, c6, c7, c8, c9, ca⟩ := badcell0 HO.out
      go_wp2_with fail
      refine (HBd.out.enc _ (ht.keep HB2.out)).mono ?_
      rintro r w7 ⟨rfl, hb7⟩
      clear c0 c1 c2 c3 c4 c5 c6 c7 c8 c9 ca
      replace HO := hidIn ((hb7.block sb (Array.getElem?_eq_some_iff.1 HO.out).1).trans HO.out)
      replace HV2 := hidIn (HV2.out.keep hb7 HV2.out.lt)
      replace HB2 := hidIn (HB2.out.trans (hb7.mono HB2.out.size))
      clear hb7
      obtain ⟨c0, c1, c2, c3, c4, c5, c6, c7, c8, c9, ca⟩ := badcell0 HO.out
      go_wp2_with fail
      refine (HBd.out.hop _ (ht.keep HB2.out)).mono ?_
      rintro r w8 ⟨rfl, hb8⟩
      clear c0 c1 c2 c3 c4 c5 c6 c7 c8 c9 ca
      replace HO := hidIn ((hb8.block sb (Array.getElem?_eq_some_iff.1 HO.out).1).trans HO.out)
      replace HV2 := hidIn (HV2.out.keep hb8 HV2.out.lt)
      replace HB2 := hidIn (HB2.out.trans (hb8.mono HB2.out.size))
      clear hb8
      replace HO := hidIn ((((Below.refl _ w8).alloc (Nat.le_refl _) hob0).block sb (Array.getElem?_eq_some_iff.1 HO.out).1).trans HO.out)
      replace HV2 := hidIn (HV2.out.keep ((Below.refl _ w8).alloc (Nat.le_refl _) hob0) HV2.out.lt)
      replace HB2 := hidIn (HB2.out.alloc HB2.out.size hob0)
      go_upto_region 27 with fail
      generalize w8.alloc _ = w8a at HO HV2 HB2 ⊢
      obtain ⟨c0, c1, c2, c3, c4, c5, c6, c7, c8, c9, ca⟩ := badcell0 HO.out
      go_wp2_with fail
      refine (HBd.out.wth _ (ht.keep HB2.out)).mono ?_
      rintro r w9 ⟨rfl, hb9⟩
      clear c0 c1 c2 c3 c4 c5 c6 c7 c8 c9 ca
      replace HO := hidIn ((hb9.block sb (Array.getElem?_eq_some_iff.1 HO.out).1).trans HO.out)
      replace HV2 := hidIn (HV2.out.keep hb9 HV2.out.lt)
      replace HB2 := hidIn (HB2.out.trans (hb9.mono HB2.out.size))
      clear hb9
      replace HO := hidIn ((((Below.refl _ w9).alloc (Nat.le_refl _) hob0).block sb (Array.getElem?_eq_some_iff.1 HO.out).1).trans HO.out)
      replace HV2 := hidIn (HV2.out.keep ((Below.refl _ w9).alloc (Nat.le_refl _) hob0) HV2.out.lt)
      replace HB2 := hidIn (HB2.out.alloc HB2.out.size hob0)
      go_upto_region 28 with fail
      generalize w9.alloc _ = w9a at HO HV2 HB2 ⊢
      obtain ⟨c0, c1, c2, c3, c4, c5, c6, c7, c8, c9, ca⟩ := badcell0 HO.out
      go_wp2_with fail
      refine (HBd.out.chk _ (ht.keep HB2.out)).mono ?_
      rintro r w10 ⟨rfl, hb10⟩
      clear c0 c1 c2 c3 c4 c5 c6 c7 c8 c9 ca
      replace HO := hidIn ((hb10.block sb (Array.getElem?_eq_some_iff.1 HO.out).1).trans HO.out)
      replace HV2 := hidIn (HV2.out.keep hb10 HV2.out.lt)
      replace HB2 := hidIn (HB2.out.trans (hb10.mono HB2.out.size))
      clear hb10
      go_wp2
      go_roundw
      case rel => exact ⟨1, by omega, rfl, HO.out, HV2.out, HB2.out⟩
      case measure => simp [intOf]
    · have HBd := hidIn bad1
      obtain ⟨c0, c1, c2, c3, c4, c5, c6, c7, c8, c9, ca⟩ := badcell1 HO.out
      go_wp2_with fail
      refine (HBd.out.enc _ (ht.keep HB2.out)).mono ?_
      rintro r w7 ⟨rfl, hb7⟩
      clear c0 c1 c2 c3 c4 c5 c6 c7 c8 c9 ca
      replace HO := hidIn ((hb7.block sb (Array.getElem?_eq_some_iff.1 HO.out).1).trans HO.out)
      replace HV2 := hidIn (HV2.out.keep hb7 HV2.out.lt)
      replace HB2 := hidIn (HB2.out.trans (hb7.mono HB2.out.size))
      clear hb7
      obtain ⟨c0, c1, c2, c3, c4, c5, c6, c7, c8, c9, ca⟩ := badcell1 HO.out
      go_wp2_with fail
      refine (HBd.out.hop _ (ht.keep HB2.out)).mono ?_
      rintro r w8 ⟨rfl, hb8⟩
      clear c0 c1 c2 c3 c4 c5 c6 c7 c8 c9 ca
      replace HO := hidIn ((hb8.block sb (Array.getElem?_eq_some_iff.1 HO.out).1).trans HO.out)
      replace HV2 := hidIn (HV2.out.keep hb8 HV2.out.lt)
      replace HB2 := hidIn (HB2.out.trans (hb8.mono HB2.out.size))
      clear hb8
      replace HO := hidIn ((((Below.refl _ w8).alloc (Nat.le_refl _) hob0).block sb (Array.getElem?_eq_some_iff.1 HO.out).1).trans HO.out)
      replace HV2 := hidIn (HV2.out.keep ((Below.refl _ w8).alloc (Nat.le_refl _) hob0) HV2.out.lt)
      replace HB2 := hidIn (HB2.out.alloc HB2.out.size hob0)
      go_upto_region 27 with fail
      generalize w8.alloc _ = w8a at HO HV2 HB2 ⊢
      obtain ⟨c0, c1, c2, c3, c4, c5, c6, c7, c8, c9, ca⟩ := badcell1 HO.out
      go_wp2_with fail
      refine (HBd.out.wth _ (ht.keep HB2.out)).mono ?_
      rintro r w9 ⟨rfl, hb9⟩
      clear c0 c1 c2 c3 c4 c5 c6 c7 c8 c9 ca
      replace HO := hidIn ((hb9.block sb (Array.getElem?_eq_some_iff.1 HO.out).1).trans HO.out)
      replace HV2 := hidIn (HV2.out.keep hb9 HV2.out.lt)
      replace HB2 := hidIn (HB2.out.trans (hb9.mono HB2.out.size))
      clear hb9
      replace HO := hidIn ((((Below.refl _ w9).alloc (Nat.le_refl _) hob0).block sb (Array.getElem?_eq_some_iff.1 HO.out).1).trans HO.out)
      replace HV2 := hidIn (HV2.out.keep ((Below.refl _ w9).alloc (Nat.le_refl _) hob0) HV2.out.lt)
      replace HB2 := hidIn (HB2.out.alloc HB2.out.size hob0)
      go_upto_region 28 with fail
      generalize w9.alloc _ = w9a at HO HV2 HB2 ⊢
      obtain ⟨c0, c1, c2, c3, c4, c5, c6, c7, c8, c9, ca⟩ := badcell1 HO.out
      go_wp2_with fail
      refine (HBd.out.chk _ (ht.keep HB2.out)).mono ?_
      rintro r w10 ⟨rfl, hb10⟩
      clear c0 c1 c2 c3 c4 c5 c6 c7 c8 c9 ca
      replace HO := hidIn ((hb10.block sb (Array.getElem?_eq_some_iff.1 HO.out).1).trans HO.out)
      replace HV2 := hidIn (HV2.out.keep hb10 HV2.out.lt)
      replace HB2 := hidIn (HB2.out.trans (hb10.mono HB2.out.size))
      clear hb10
      go_wp2
      go_roundw
      case rel => exact ⟨2, by omega, rfl, HO.out, HV2.out, HB2.out⟩
      case measure => simp [intOf]
    · have HBd := hidIn bad2
      obtain ⟨c0, c1, c2, c3, c4, c5, c6, c7, c8, c9, ca⟩ := badcell2 HO.out
      go_wp2_with fail
      refine (HBd.out.enc _ (ht.keep HB2.out)).mono ?_
      rintro r w7 ⟨rfl, hb7⟩
      clear c0 c1 c2 c3 c4 c5 c6 c7 c8 c9 ca
      replace HO := hidIn ((hb7.block sb (Array.getElem?_eq_some_iff.1 HO.out).1).trans HO.out)
      replace HV2 := hidIn (HV2.out.keep hb7 HV2.out.lt)
      replace HB2 := hidIn (HB2.out.trans (hb7.mono HB2.out.size))
      clear hb7
      obtain ⟨c0, c1, c2, c3, c4, c5, c6, c7, c8, c9, ca⟩ := badcell2 HO.out
      go_wp2_with fail
      refine (HBd.out.hop _ (ht.keep HB2.out)).mono ?_
      rintro r w8 ⟨rfl, hb8⟩
      clear c0 c1 c2 c3 c4 c5 c6 c7 c8 c9 ca
      replace HO := hidIn ((hb8.block sb (Array.getElem?_eq_some_iff.1 HO.out).1).trans HO.out)
      replace HV2 := hidIn (HV2.out.keep hb8 HV2.out.lt)
      replace HB2 := hidIn (HB2.out.trans (hb8.mono HB2.out.size))
      clear hb8
      replace HO := hidIn ((((Below.refl _ w8).alloc (Nat.le_refl _) hob0).block sb (Array.getElem?_eq_some_iff.1 HO.out).1).trans HO.out)
      replace HV2 := hidIn (HV2.out.keep ((Below.refl _ w8).alloc (Nat.le_refl _) hob0) HV2.out.lt)
      replace HB2 := hidIn (HB2.out.alloc HB2.out.size hob0)
      go_upto_region 27 with fail
      generalize w8.alloc _ = w8a at HO HV2 HB2 ⊢
      obtain ⟨c0, c1, c2, c3, c4, c5, c6, c7, c8, c9, ca⟩ := badcell2 HO.out
      go_wp2_with fail
      refine (HBd.out.wth _ (ht.keep HB2.out)).mono ?_
      rintro r w9 ⟨rfl, hb9⟩
      clear c0 c1 c2 c3 c4 c5 c6 c7 c8 c9 ca
      replace HO := hidIn ((hb9.block sb (Array.getElem?_eq_some_iff.1 HO.out).1).trans HO.out)
      replace HV2 := hidIn (HV2.out.keep hb9 HV2.out.lt)
      replace HB2 := hidIn (HB2.out.trans (hb9.mono HB2.out.size))
      clear hb9
      replace HO := hidIn ((((Below.refl _ w9).alloc (Nat.le_refl _) hob0).block sb (Array.getElem?_eq_some_iff.1 HO.out).1).trans HO.out)
      replace HV2 := hidIn (HV2.out.keep ((Below.refl _ w9).alloc (Nat.le_refl _) hob0) HV2.out.lt)
      replace HB2 := hidIn (HB2.out.alloc HB2.out.size hob0)
      go_upto_region 28 with fail
      generalize w9.alloc _ = w9a at HO HV2 HB2 ⊢
      obtain ⟨c0, c1, c2, c3, c4, c5, c6, c7, c8, c9, ca⟩ := badcell2 HO.out
      go_wp2_with fail
      refine (HBd.out.chk _ (ht.keep HB2.out)).mono ?_
      rintro r w10 ⟨rfl, hb10⟩
      clear c0 c1 c2 c3 c4 c5 c6 c7 c8 c9 ca
      replace HO := hidIn ((hb10.block sb (Array.getElem?_eq_some_iff.1 HO.out).1).trans HO.out)
      replace HV2 := hidIn (HV2.out.keep hb10 HV2.out.lt)
      replace HB2 := hidIn (HB2.out.trans (hb10.mono HB2.out.size))
      clear hb10
      go_wp2
      go_roundw
      case rel => exact ⟨3, by omega, rfl, HO.out, HV2.out, HB2.out⟩
      case measure => simp [intOf]
    · have HBd := hidIn bad3
      obtain ⟨c0, c1, c2, c3, c4, c5, c6, c7, c8, c9, ca⟩ := badcell3 HO.out
      go_wp2_with fail
      refine (HBd.out.enc _ (ht.keep HB2.out)).mono ?_
      rintro r w7 ⟨rfl, hb7⟩
      clear c0 c1 c2 c3 c4 c5 c6 c7 c8 c9 ca
      replace HO := hidIn ((hb7.block sb (Array.getElem?_eq_some_iff.1 HO.out).1).trans HO.out)
      replace HV2 := hidIn (HV2.out.keep hb7 HV2.out.lt)
      replace HB2 := hidIn (HB2.out.trans (hb7.mono HB2.out.size))
      clear hb7
      obtain ⟨c0, c1, c2, c3, c4, c5, c6, c7, c8, c9, ca⟩ := badcell3 HO.out
      go_wp2_with fail
      refine (HBd.out.hop _ (ht.keep HB2.out)).mono ?_
      rintro r w8 ⟨rfl, hb8⟩
      clear c0 c1 c2 c3 c4 c5 c6 c7 c8 c9 ca
      replace HO := hidIn ((hb8.block sb (Array.getElem?_eq_some_iff.1 HO.out).1).trans HO.out)
      replace HV2 := hidIn (HV2.out.keep hb8 HV2.out.lt)
      replace HB2 := hidIn (HB2.out.trans (hb8.mono HB2.out.size))
      clear hb8
      replace HO := hidIn ((((Below.refl _ w8).alloc (Nat.le_refl _) hob0).block sb (Array.getElem?_eq_some_iff.1 HO.out).1).trans HO.out)
      replace HV2 := hidIn (HV2.out.keep ((Below.refl _ w8).alloc (Nat.le_refl _) hob0) HV2.out.lt)
      replace HB2 := hidIn (HB2.out.alloc HB2.out.size hob0)
      go_upto_region 27 with fail
      generalize w8.alloc _ = w8a at HO HV2 HB2 ⊢
      obtain ⟨c0, c1, c2, c3, c4, c5, c6, c7, c8, c9, ca⟩ := badcell3 HO.out
      go_wp2_with fail
      refine (HBd.out.wth _ (ht.keep HB2.out)).mono ?_
      rintro r w9 ⟨rfl, hb9⟩
      clear c0 c1 c2 c3 c4 c5 c6 c7 c8 c9 ca
      replace HO := hidIn ((hb9.block sb (Array.getElem?_eq_some_iff.1 HO.out).1).trans HO.out)
      replace HV2 := hidIn (HV2.out.keep hb9 HV2.out.lt)
      replace HB2 := hidIn (HB2.out.trans (hb9.mono HB2.out.size))
      clear hb9
      replace HO := hidIn ((((Below.refl _ w9).alloc (Nat.le_refl _) hob0).block sb (Array.getElem?_eq_some_iff.1 HO.out).1).trans HO.out)
      replace HV2 := hidIn (HV2.out.keep ((Below.refl _ w9).alloc (Nat.le_refl _) hob0) HV2.out.lt)
      replace HB2 := hidIn (HB2.out.alloc HB2.out.size hob0)
      go_upto_region 28 with fail
      generalize w9.alloc _ = w9a at HO HV2 HB2 ⊢
      obtain ⟨c0, c1, c2, c3, c4, c5, c6, c7, c8, c9, ca⟩ := badcell3 HO.out
      go_wp2_with fail
      refine (HBd.out.chk _ (ht.keep HB2.out)).mono ?_
      rintro r w10 ⟨rfl, hb10⟩
      clear c0 c1 c2 c3 c4 c5 c6 c7 c8 c9 ca
      replace HO := hidIn ((hb10.block sb (Array.getElem?_eq_some_iff.1 HO.out).1).trans HO.out)
      replace HV2 := hidIn (HV2.out.keep hb10 HV2.out.lt)
      replace HB2 := hidIn (HB2.out.trans (hb10.mono HB2.out.size))
      clear hb10
      go_wp2
      go_roundw
      case rel => exact ⟨4, by omega, rfl, HO.out, HV2.out, HB2.out⟩
      case measure => simp [intOf]
    · have HBd := hidIn bad4
      obtain ⟨c0, c1, c2, c3, c4, c5, c6, c7, c8, c9, ca⟩ := badcell4 HO.out
      go_wp2_with fail
      refine (HBd.out.enc _ (ht.keep HB2.out)).mono ?_
      rintro r w7 ⟨rfl, hb7⟩
      clear c0 c1 c2 c3 c4 c5 c6 c7 c8 c9 ca
      replace HO := hidIn ((hb7.block sb (Array.getElem?_eq_some_iff.1 HO.out).1).trans HO.out)
      replace HV2 := hidIn (HV2.out.keep hb7 HV2.out.lt)
      replace HB2 := hidIn (HB2.out.trans (hb7.mono HB2.out.size))
      clear hb7
      obtain ⟨c0, c1, c2, c3, c4, c5, c6, c7, c8, c9, ca⟩ := badcell4 HO.out
      go_wp2_with fail
      refine (HBd.out.hop _ (ht.keep HB2.out)).mono ?_
      rintro r w8 ⟨rfl, hb8⟩
      clear c0 c1 c2 c3 c4 c5 c6 c7 c8 c9 ca
      replace HO := hidIn ((hb8.block sb (Array.getElem?_eq_some_iff.1 HO.out).1).trans HO.out)
      replace HV2 := hidIn (HV2.out.keep hb8 HV2.out.lt)
      replace HB2 := hidIn (HB2.out.trans (hb8.mono HB2.out.size))
      clear hb8
      replace HO := hidIn ((((Below.refl _ w8).alloc (Nat.le_refl _) hob0).block sb (Array.getElem?_eq_some_iff.1 HO.out).1).trans HO.out)
      replace HV2 := hidIn (HV2.out.keep ((Below.refl _ w8).alloc (Nat.le_refl _) hob0) HV2.out.lt)
      replace HB2 := hidIn (HB2.out.alloc HB2.out.size hob0)
      go_upto_region 27 with fail
      generalize w8.alloc _ = w8a at HO HV2 HB2 ⊢
      obtain ⟨c0, c1, c2, c3, c4, c5, c6, c7, c8, c9, ca⟩ := badcell4 HO.out
      go_wp2_with fail
      refine (HBd.out.wth _ (ht.keep HB2.out)).mono ?_
      rintro r w9 ⟨rfl, hb9⟩
      clear c0 c1 c2 c3 c4 c5 c6 c7 c8 c9 ca
      replace HO := hidIn ((hb9.block sb (Array.getElem?_eq_some_iff.1 HO.out).1).trans HO.out)
      replace HV2 := hidIn (HV2.out.keep hb9 HV2.out.lt)
      replace HB2 := hidIn (HB2.out.trans (hb9.mono HB2.out.size))
      clear hb9
      replace HO := hidIn ((((Below.refl _ w9).alloc (Nat.le_refl _) hob0).block sb (Array.getElem?_eq_some_iff.1 HO.out).1).trans HO.out)
      replace HV2 := hidIn (HV2.out.keep ((Below.refl _ w9).alloc (Nat.le_refl _) hob0) HV2.out.lt)
      replace HB2 := hidIn (HB2.out.alloc HB2.out.size hob0)
      go_upto_region 28 with fail
      generalize w9.alloc _ = w9a at HO HV2 HB2 ⊢
      obtain ⟨c0, c1, c2, c3, c4, c5, c6, c7, c8, c9, ca⟩ := badcell4 HO.out
      go_wp2_with fail
      refine (HBd.out.chk _ (ht.keep HB2.out)).mono ?_
      rintro r w10 ⟨rfl, hb10⟩
      clear c0 c1 c2 c3 c4 c5 c6 c7 c8 c9 ca
      replace HO := hidIn ((hb10.block sb (Array.getElem?_eq_some_iff.1 HO.out).1).trans HO.out)
      replace HV2 := hidIn (HV2.out.keep hb10 HV2.out.lt)
      replace HB2 := hidIn (HB2.out.trans (hb10.mono HB2.out.size))
      clear hb10
      go_wp2
      go_roundw
      case rel => exact ⟨5, by omega, rfl, HO.out, HV2.out, HB2.out⟩
      case measure => simp [intOf]
    · have HBd := hidIn bad5
      obtain ⟨c0, c1, c2, c3, c4, c5, c6, c7, c8, c9, ca⟩ := badcell5 HO.out
      go_wp2_with fail
      refine (HBd.out.enc _ (ht.keep HB2.out)).mono ?_
      rintro r w7 ⟨rfl, hb7⟩
      clear c0 c1 c2 c3 c4 c5 c6 c7 c8 c9 ca
      replace HO := hidIn ((hb7.block sb (Array.getElem?_eq_some_iff.1 HO.out).1).trans HO.out)
      replace HV2 := hidIn (HV2.out.keep hb7 HV2.out.lt)
      replace HB2 := hidIn (HB2.out.trans (hb7.mono HB2.out.size))
      clear hb7
      obtain ⟨c0, c1, c2, c3, c4, c5, c6, c7, c8, c9, ca⟩ := badcell5 HO.out
      go_wp2_with fail
      refine (HBd.out.hop _ (ht.keep HB2.out)).mono ?_
      rintro r w8 ⟨rfl, hb8⟩
      clear c0 c1 c2 c3 c4 c5 c6 c7 c8 c9 ca
      replace HO := hidIn ((hb8.block sb (Array.getElem?_eq_some_iff.1 HO.out).1).trans HO.out)
      replace HV2 := hidIn (HV2.out.keep hb8 HV2.out.lt)
      replace HB2 := hidIn (HB2.out.trans (hb8.mono HB2.out.size))
      clear hb8
      replace HO := hidIn ((((Below.refl _ w8).alloc (Nat.le_refl _) hob0).block sb (Array.getElem?_eq_some_iff.1 HO.out).1).trans HO.out)
      replace HV2 := hidIn (HV2.out.keep ((Below.refl _ w8).alloc (Nat.le_refl _) hob0) HV2.out.lt)
      replace HB2 := hidIn (HB2.out.alloc HB2.out.size hob0)
      go_upto_region 27 with fail
      generalize w8.alloc _ = w8a at HO HV2 HB2 ⊢
      obtain ⟨c0, c1, c2, c3, c4, c5, c6, c7, c8, c9, ca⟩ := badcell5 HO.out
      go_wp2_with fail
      refine (HBd.out.wth _ (ht.keep HB2.out)).mono ?_
      rintro r w9 ⟨rfl, hb9⟩
      clear c0 c1 c2 c3 c4 c5 c6 c7 c8 c9 ca
      replace HO := hidIn ((hb9.block sb (Array.getElem?_eq_some_iff.1 HO.out).1).trans HO.out)
      replace HV2 := hidIn (HV2.out.keep hb9 HV2.out.lt)
      replace HB2 := hidIn (HB2.out.trans (hb9.mono HB2.out.size))
      clear hb9
      replace HO := hidIn ((((Below.refl _ w9).alloc (Nat.le_refl _) hob0).block sb (Array.getElem?_eq_some_iff.1 HO.out).1).trans HO.out)
      replace HV2 := hidIn (HV2.out.keep ((Below.refl _ w9).alloc (Nat.le_refl _) hob0) HV2.out.lt)
      replace HB2 := hidIn (HB2.out.alloc HB2.out.size hob0)
      go_upto_region 28 with fail
      generalize w9.alloc _ = w9a at HO HV2 HB2 ⊢
      obtain ⟨c0, c1, c2, c3, c4, c5, c6, c7, c8, c9, ca⟩ := badcell5 HO.out
      go_wp2_with fail
      refine (HBd.out.chk _ (ht.keep HB2.out)).mono ?_
      rintro r w10 ⟨rfl, hb10⟩
      clear c0 c1 c2 c3 c4 c5 c6 c7 c8 c9 ca
      replace HO := hidIn ((hb10.block sb (Array.getElem?_eq_some_iff.1 HO.out).1).trans HO.out)
      replace HV2 := hidIn (HV2.out.keep hb10 HV2.out.lt)
      replace HB2 := hidIn (HB2.out.trans (hb10.mono HB2.out.size))
      clear hb10
      go_wp2
      go_roundw
      case rel => exact ⟨6, by omega, rfl, HO.out, HV2.out, HB2.out⟩
      case measure => simp [intOf]
    · obtain ⟨c0, c1, c2, c3, c4, c5, c6, c7, c8, c9, ca, _, _, _, _, _, _, _, _, _, _, _, ltc⟩ := HV2.out
      simp only [wd129.1, wd129.2.1, wd129.2.2.1, wd129.2.2.2] at c7 c8 c9 ca
      go_wp2_with fail
      refine (with_ex _ (ht.keep HB2.out)).mono ?_
      rintro r w7 ⟨rfl, hb7⟩
      replace HB2 := hidIn (HB2.out.trans (hb7.mono HB2.out.size))
      clear c0 c1 c2 c3 c4 c5 c6 c7 c8 c9 ca ltc
      go_wp2_with fail
      refine (works_any _ (ht.keep HB2.out)).mono ?_
      rintro r w8 ⟨rfl, hb8⟩
      go_wp2
      go_ret
      exact ⟨rfl, HB2.out.trans (hb8.mono HB2.out.size)⟩
end Go.Proofs.YtmdpbohepdblcaaDoor
