/- laying, its closures; putStamp, EncodeStamp. -/
import Derived.Test.YteaaoipipjkgnaaX1
import Derived.Laws.EntriesVeiled
namespace Go.Proofs.Yteaaoipipjkgnaa
open Go.RowKit

/-- What has been laid. -/
structure LyM (V : World) (B : Nat) (s : ByteArray) : Prop where
  o : V.heap[B]? = some (.cells #[.string s] 9)
  f : V.heap[B + 1]? = some (.cells #[.int .i64 0] 27)
abbrev LyS (B : Nat) : Nat → Prop := fun k => k = B ∨ k = B + 1
abbrev putF (B : Nat) : Value := .func (.func 89) #[] #[.pointer (some ⟨B + 1, 0, none⟩), .pointer (some ⟨B, 0, none⟩)]
abbrev allF (B : Nat) : Value := .func (.func 91) #[] #[.pointer (some ⟨B, 0, none⟩), .pointer (some ⟨B + 1, 0, none⟩)]
theorem LyM.keep {V V' : World} {B : Nat} {s : ByteArray} (h : LyM V B s) (hb : Below V.heap.size V V') : LyM V' B s := ⟨(hb.block _ (block_lt h.o)).trans h.o, (hb.block _ (block_lt h.f)).trans h.f⟩
theorem LyM.put {V : World} {B : Nat} {s : ByteArray} (h : LyM V B s) (t : ByteArray) : LyM ((V.setCell ⟨B, 0, none⟩ (.string t)).setCell ⟨B + 1, 0, none⟩ (.int .i64 0)) B t := by
  refine ⟨?_, ?_⟩
  · rw [Below.heap_setCell _ _ _ _ (by show B ≠ B + 1; omega)]
    have := heap_setCell_same V B 0 _ _ (.string t) h.o
    simpa using this
  · have h1 := (Below.heap_setCell V ⟨B, 0, none⟩ (.string t) (B + 1) (by show B + 1 ≠ B; omega)).trans h.f
    have := heap_setCell_same _ (B + 1) 0 _ _ (.int .i64 0) h1
    simpa using this
set_option maxHeartbeats 1000000 in
theorem laying_any (w : World) : Calls Try.prog 85 #[] w fun e w' => e = .returned (.tuple #[putF w.heap.size, allF w.heap.size]) ∧ LyM w' w.heap.size ⟨#[]⟩ ∧ Below w.heap.size w w' := by
  go_enter Try.func85, Try.ntmps85
  go_wp2_with fail
  go_ret2
  refine ⟨rfl, ⟨?_, ?_⟩, by go_grown⟩
  · rw [Below.heap_alloc _ _ _ (by simp)]
    exact heap_alloc_last w _
  · have := heap_alloc_last (w.alloc (.cells #[.string ⟨#[]⟩] 9)) (.cells #[.int .i64 0] 27)
    rw [World.size_alloc] at this
    exact this
/-- A number in n bytes. -/
def NumB (v n : Nat) : Prop := (n = 1 ∧ v < 256) ∨ (n = 2 ∧ v < 65536) ∨ (n = 4 ∧ v < 4294967296)
theorem wput_any (b : ByteArray) (v n : Nat) (hb : b.size ≤ 1000000) (hn : NumB v n) (w : World) :
    Calls Try.prog 90 #[.string b, .int .u64 v, .int .i64 n] w fun e w' => e = .returned (.tuple #[.string (b ++ ly v n), .int .i64 0]) ∧ Below w.heap.size w w' := by
  unfold ly
  rcases hn with ⟨rfl, h⟩ | ⟨rfl, h⟩ | ⟨rfl, h⟩
  · exact Wi.put_ok1 b v (by omega) (by omega) h w
  · exact Wi.put_ok2 b v (by omega) (by omega) h w
  · exact Wi.put_ok4 b v (by omega) (by omega) h w
set_option maxHeartbeats 1000000 in
theorem put_any {V : World} {B : Nat} {s : ByteArray} (h : LyM V B s) (v n : Nat) (hs : s.size ≤ 1000000) (hn : NumB v n) :
    Calls Try.prog 89 #[.int .u64 v, .int .i64 n, .pointer (some ⟨B + 1, 0, none⟩), .pointer (some ⟨B, 0, none⟩)] V fun e V' => (∃ r, e = .returned r) ∧ LyM V' B (s ++ ly v n) ∧ Fr (LyS B) V V' := by
  have HW := hidIn (fun w => wput_any s v n hs hn w)
  have c0 := cell_of_row _ _ 0 _ _ _ h.o
  have c1 := cell_of_row _ _ 0 _ _ _ h.f
  simp at c0 c1
  have Hh := hidIn h
  clear hn h hs
  go_enter Try.func89, Try.ntmps89
  go_wp2_with fail
  refine (HW.out _).mono ?_
  rintro e w2 ⟨rfl, hb2⟩
  have h2 := Hh.out.keep hb2
  have d0 := cell_of_row _ _ 0 _ _ _ h2.o
  have d1 := cell_of_row _ _ 0 _ _ _ h2.f
  simp at d0 d1
  have f0 := frozen_new h2.o 0
  have f1 := frozen_new h2.f 0
  have H2 := hidIn h2
  have HB2 := hidIn hb2
  clear HW c0 c1 h2 hb2 Hh
  go_wp2_with fail
  go_returns
  exact ⟨⟨_, rfl⟩, H2.out.put _, ((Fr.of_below HB2.out).set (p := ⟨B, 0, none⟩) (.inl rfl) _).set (p := ⟨B + 1, 0, none⟩) (.inr rfl) _⟩
set_option maxHeartbeats 1000000 in
theorem all_any {V : World} {B : Nat} {s : ByteArray} (h : LyM V B s) :
    Calls Try.prog 91 #[.pointer (some ⟨B, 0, none⟩), .pointer (some ⟨B + 1, 0, none⟩)] V fun e V' => e = .returned (.tuple #[.string s, .int .i64 0]) ∧ Below V.heap.size V V' := by
  have c0 := cell_of_row _ _ 0 _ _ _ h.o
  have c1 := cell_of_row _ _ 0 _ _ _ h.f
  simp at c0 c1
  clear h
  go_enter Try.func91, Try.ntmps91
  go_wp2_with fail
  go_quiet (fail)
  go_wp2_with fail
  go_ret2
  exact ⟨rfl, ((Fr.refl (fun _ => False) V).drewN _).below (Nat.le_refl _) (fun _ h => h.elim)⟩
set_option maxHeartbeats 1000000 in
theorem putStamp_any {V : World} {B : Nat} {s : ByteArray} (h : LyM V B s) (o e q : Nat) (hs : s.size ≤ 100000) (ho : o < 256) (he : e < 4294967296) (hq : q < 4294967296) :
    Calls Try.prog 86 #[putF B, stV o e q] V fun r V' => (∃ x, r = .returned x) ∧ LyM V' B (((s ++ ly o 1) ++ ly e 4) ++ ly q 4) ∧ Fr (LyS B) V V' := by
  have Hh := hidIn h
  obtain ⟨V1, hV1⟩ : ∃ V1, V.alloc (stO o e q) = V1 := ⟨_, rfl⟩
  have b1 : Below V.heap.size V V1 := by rw [← hV1]; exact (Below.refl _ V).alloc (Nat.le_refl _) _
  have hX : V1.heap[V.heap.size]? = some (stO o e q) := by rw [← hV1]; exact heap_alloc_last V _
  have h1 := h.keep b1
  have hBV : B + 1 < V.heap.size := block_lt h.f
  obtain ⟨X, hXe⟩ : ∃ X, V.heap.size = X := ⟨_, rfl⟩
  have hF1 : Fr (LyS B) V V1 := Fr.of_below b1
  rw [hXe] at hX hBV
  have HW := hidIn hV1
  clear hV1 b1 h
  have HK : Hid (∀ wq, Fr (LyS B) V1 wq → wq.heap[X]? = some (stO o e q)) := hidIn fun wq hq => (hq.block X (block_lt hX) (by unfold LyS; omega)).trans hX
  have x0 := cell_of_row _ _ 0 _ _ _ hX
  simp at x0
  have HX := hidIn hXe
  clear hX hXe
  have H1 := hidIn h1
  have HF1 := hidIn hF1
  clear h1 hF1 Hh
  go_enter Try.func86, Try.ntmps86
  go_upto_region 1 with fail
  rw [HW.out, HX.out]
  clear HW HX
  go_wp2_with fail
  refine (put_any H1.out o 1 (by omega) (.inl ⟨rfl, ho⟩)).mono ?_
  rintro r w2 ⟨⟨x2, rfl⟩, h2, hf2⟩
  have hX2 := HK.out w2 hf2
  have x1 := cell_of_row _ _ 1 _ _ _ hX2
  simp at x1
  have H2 := hidIn h2
  have HF2 := hidIn hf2
  clear x0 hX2 h2 hf2 H1
  have hs2 : (s ++ ly o 1).size ≤ 1000000 := by rw [app_size, ly_size]; omega
  go_wp2_with fail
  refine (put_any H2.out e 4 hs2 (.inr (.inr ⟨rfl, he⟩))).mono ?_
  rintro r w3 ⟨⟨x3, rfl⟩, h3, hf3⟩
  have hf3' := HF2.out.trans hf3
  have hX3 := HK.out w3 hf3'
  have x2 := cell_of_row _ _ 2 _ _ _ hX3
  simp at x2
  have H3 := hidIn h3
  have HF3 := hidIn hf3'
  clear x1 hX3 h3 hf3 hf3' H2 HF2
  have hs3 : ((s ++ ly o 1) ++ ly e 4).size ≤ 1000000 := by rw [app_size, app_size, ly_size, ly_size]; omega
  go_wp2_with fail
  refine (put_any H3.out q 4 hs3 (.inr (.inr ⟨rfl, hq⟩))).mono ?_
  rintro r w4 ⟨⟨x4, rfl⟩, h4, hf4⟩
  have HF4 := hidIn (HF1.out.trans (HF3.out.trans hf4))
  have H4 := hidIn h4
  clear x2 h4 hf4 H3 HF3
  go_wp2_with fail
  go_returns
  exact ⟨⟨_, rfl⟩, H4.out, HF4.out⟩
/-- What EncodeStamp answers. -/
def esA (o e q : Int) : ByteArray × Int := if mayS o e q then (stS o.toNat e.toNat q.toNat, 0) else (⟨#[]⟩, 2)
theorem mayS_iff {o e q : Int} : mayS o e q = true ↔ (1 ≤ o ∧ o ≤ 24) ∧ 0 < e ∧ 0 < q := by simp [mayS, isR]
set_option maxHeartbeats 1000000 in
theorem encSt_any (o e q : Int) (he : 0 ≤ e ∧ e < 4294967296) (hq : 0 ≤ q ∧ q < 4294967296) (w : World) :
    Calls Try.prog 62 #[stV o e q] w fun r w' => r = .returned (.tuple #[.string (esA o e q).1, .int .i64 (esA o e q).2]) ∧ Below w.heap.size w w' := by
  obtain ⟨V1, hV1⟩ : ∃ V1, w.alloc (stO o e q) = V1 := ⟨_, rfl⟩
  have b1 : Below w.heap.size w V1 := by rw [← hV1]; exact (Below.refl _ w).alloc (Nat.le_refl _) _
  have hX : V1.heap[w.heap.size]? = some (stO o e q) := by rw [← hV1]; exact heap_alloc_last w _
  have HW := hidIn hV1
  have x0 := cell_of_row _ _ 0 _ _ _ hX
  have x1 := cell_of_row _ _ 1 _ _ _ hX
  have x2 := cell_of_row _ _ 2 _ _ _ hX
  simp at x0 x1 x2
  have HX := hidIn hX
  have HB := hidIn b1
  clear hV1 b1 hX
  obtain ⟨m, hm⟩ : ∃ m, mayS o e q = m := ⟨_, rfl⟩
  have Hm := hidIn hm
  go_enter Try.func62, Try.ntmps62
  go_upto_region 1 with fail
  rw [HW.out]
  clear HW
  go_wp2_with fail
  refine (mayS_any o e q _).mono ?_
  rintro r w2 ⟨rfl, hb2⟩
  rw [hm]
  have hX2 := (hb2.block _ (block_lt HX.out)).trans HX.out
  have HB2 := hidIn (HB.out.trans (hb2.mono HB.out.size))
  clear hm x0 x1 x2 hb2
  cases m
  · go_wp2_with fail
    go_ret2
    exact ⟨by unfold esA; rw [Hm.out]; rfl, HB2.out⟩
  obtain ⟨⟨ho1, ho2⟩, he1, hq1⟩ := mayS_iff.1 Hm.out
  obtain ⟨O, rfl⟩ : ∃ O : Nat, o = (O : Int) := ⟨o.toNat, by omega⟩
  obtain ⟨E, rfl⟩ : ∃ E : Nat, e = (E : Int) := ⟨e.toNat, by omega⟩
  obtain ⟨Q, rfl⟩ : ∃ Q : Nat, q = (Q : Int) := ⟨q.toNat, by omega⟩
  go_wp2_with fail
  refine (laying_any _).mono ?_
  rintro r w3 ⟨rfl, h3, hb3⟩
  have hX3 := (hb3.block _ (block_lt hX2)).trans hX2
  have x0 := cell_of_row _ _ 0 _ _ _ hX3
  have x1 := cell_of_row _ _ 1 _ _ _ hX3
  have x2 := cell_of_row _ _ 2 _ _ _ hX3
  simp at x0 x1 x2
  have HB3 := hidIn (HB2.out.trans (hb3.mono HB2.out.size))
  have H3 := hidIn h3
  have HS := hidIn (putStamp_any h3 O E Q (by decide) (by omega) (by omega) (by omega))
  have hs2 : w.heap.size ≤ w2.heap.size := HB2.out.size
  clear hb3 hX2 hX3 h3
  go_wp2_with fail
  refine HS.out.mono ?_
  rintro r w4 ⟨⟨x, rfl⟩, h4, hf4⟩
  have HB4 := hidIn (HB3.out.trans (hf4.below HB3.out.size (fun k hk => by rcases hk with rfl | rfl <;> omega)))
  have HA := hidIn (all_any h4)
  clear x0 x1 x2 h4 hf4 HS H3
  go_wp2_with fail
  refine HA.out.mono ?_
  rintro r w5 ⟨rfl, hb5⟩
  have HB5 := hidIn (HB4.out.trans (hb5.mono HB4.out.size))
  clear hb5 HA
  go_wp2_with fail
  go_ret2
  exact ⟨by unfold esA; rw [Hm.out]; rfl, HB5.out⟩
end Go.Proofs.Yteaaoipipjkgnaa
