/- record.Encode. -/
import Derived.Test.YtclnhohfiimcdabX2
namespace Go.Proofs.Ytclnhohfiimcdab
open Go.RowKit

/-- What Encode answers. -/
def enA (r : Rc) : ByteArray × Int := if recOk r then (encS r, 0) else (⟨#[]⟩, 2)
/-- While Encode lays: what is laid, the record's own block, what was there. -/
structure EnM (w V : World) (B : Nat) (r : Rc) (va : Value) (s : ByteArray) : Prop where
  l : LyM V B s
  x : V.heap[w.heap.size]? = some (recO r va)
  b : Below w.heap.size w V
theorem EnM.keep {w V V' : World} {B : Nat} {r : Rc} {va : Value} {s : ByteArray} (h : EnM w V B r va s) (hb : Below V.heap.size V V') : EnM w V' B r va s :=
  ⟨h.l.keep hb, (hb.block _ (block_lt h.x)).trans h.x, h.b.trans (hb.mono h.b.size)⟩
theorem EnM.fr {w V V' : World} {B : Nat} {r : Rc} {va : Value} {s t : ByteArray} (h : EnM w V B r va s) (hB : w.heap.size < B) (hl : LyM V' B t) (hf : Fr (LyS B) V V') : EnM w V' B r va t :=
  ⟨hl, (hf.block _ (block_lt h.x) (by unfold LyS; omega)).trans h.x, h.b.trans (hf.below h.b.size (fun k hk => by rcases hk with rfl | rfl <;> omega))⟩
theorem EnM.put {w V : World} {B : Nat} {r : Rc} {va : Value} {s : ByteArray} (h : EnM w V B r va s) (hB : w.heap.size < B) (v n : Nat) (hs : s.size ≤ 1000000) (hn : NumB v n) :
    Calls Try.prog 28 #[.int .u64 v, .int .i64 n, .pointer (some ⟨B + 1, 0, none⟩), .pointer (some ⟨B, 0, none⟩)] V fun e V' => (∃ r, e = .returned r) ∧ EnM w V' B r va (s ++ ly v n) ∧ Fr (LyS B) V V' := by
  refine (put_any h.l v n hs hn).mono ?_
  rintro e V' ⟨h1, h2, h3⟩
  exact ⟨h1, h.fr hB h2 h3, h3⟩
set_option maxRecDepth 100000 in
set_option maxHeartbeats 2000000 in
theorem encode_any {r : Rc} {va : Value} {w : World} (hv : SlAt ac 2 w va r.adjs) (hrb : RcB r) :
    Calls Try.prog 11 #[recV r va] w fun e w' => e = .returned (.tuple #[.string (enA r).1, .int .i64 (enA r).2]) ∧ Below w.heap.size w w' := by
  have HV := hidIn hv
  obtain ⟨aa, acap, rfl, hal, _, hat⟩ := hv.ads
  have Ha := hidIn hat
  obtain ⟨V1, hV1⟩ : ∃ V1, w.alloc (recO r (.slice aa r.adjs.length acap)) = V1 := ⟨_, rfl⟩
  have b1 : Below w.heap.size w V1 := by rw [← hV1]; exact (Below.refl _ w).alloc (Nat.le_refl _) _
  have hX : V1.heap[w.heap.size]? = some (recO r (.slice aa r.adjs.length acap)) := by rw [← hV1]; exact heap_alloc_last w _
  have HC := hidIn (rcheck_any (hv.keep b1 (Nat.le_refl _)))
  obtain ⟨m, hm⟩ : ∃ m, recOk r = m := ⟨_, rfl⟩
  have Hm := hidIn hm
  have hck : ckN r = if m then 0 else 2 := by unfold ckN; rw [hm]
  rw [hck] at HC
  have HW := hidIn hV1
  have HX := hidIn hX
  have HB := hidIn b1
  have HRb := hidIn hrb
  have HSt := hidIn (fun w1 => stamp_any r aa r.adjs.length acap w1)
  obtain ⟨res, hres⟩ : ∃ res, enA r = res := ⟨_, rfl⟩
  rw [hres]
  have Hres : Hid (enA r = res) := hidIn hres
  obtain ⟨orig, epo, sq, cl, ig, as'⟩ := r
  have x0 := cell_of_row _ _ 0 _ _ _ hX
  have x1 := cell_of_row _ _ 1 _ _ _ hX
  have x2 := cell_of_row _ _ 2 _ _ _ hX
  have x3 := cell_of_row _ _ 3 _ _ _ hX
  have x4 := cell_of_row _ _ 4 _ _ _ hX
  have x5 := cell_of_row _ _ 5 _ _ _ hX
  simp at x0 x1 x2 x3 x4 x5
  clear hV1 b1 hX hv hat hm hck hrb hres
  simp only at Ha hal HSt ⊢
  go_enter Try.func11, Try.ntmps11
  go_upto_region 1 with fail
  rw [HW.out]
  clear HW
  go_wp2_with fail
  refine HC.out.mono ?_
  rintro e w2 ⟨rfl, hb2⟩
  have HX2 := hidIn ((hb2.block _ (block_lt HX.out)).trans HX.out)
  have HB2 := hidIn (HB.out.trans (hb2.mono HB.out.size))
  clear hb2 HC x0 x1 x2 x3 x4 x5 HX HB
  cases m
  · simp only [Bool.false_eq_true, if_false]
    go_wp2_with fail
    go_ret2
    exact ⟨by rw [← Hres.out]; unfold enA; rw [Hm.out]; rfl, HB2.out⟩
  simp only [if_true]
  obtain ⟨⟨ho1, ho2⟩, hl16, hadj⟩ := recOk_parts Hm.out
  have hcl : 0 ≤ cl ∧ cl ≤ 1024 := by
    have h := Hm.out
    simp only [recOk, Bool.and_eq_true, decide_eq_true_eq] at h
    exact ⟨h.2.2.2.1, h.2.2.2.2.1⟩
  obtain ⟨he0, he1, hq0, hq1⟩ := HRb.out
  simp only at ho1 ho2 hl16 hadj he0 he1 hq0 hq1
  have HAdj := hidIn hadj
  obtain ⟨hc0, hc1⟩ := hcl
  obtain ⟨O, rfl⟩ : ∃ O : Nat, orig = (O : Int) := ⟨orig.toNat, by omega⟩
  obtain ⟨E, rfl⟩ : ∃ E : Nat, epo = (E : Int) := ⟨epo.toNat, by omega⟩
  obtain ⟨Q, rfl⟩ : ∃ Q : Nat, sq = (Q : Int) := ⟨sq.toNat, by omega⟩
  obtain ⟨C, rfl⟩ : ∃ C : Nat, cl = (C : Int) := ⟨cl.toNat, by omega⟩
  have hO : O < 256 := by omega
  have hE : E < 4294967296 := by omega
  have hQ : Q < 4294967296 := by omega
  have hC : C < 65536 := by omega
  clear ho1 ho2 hadj he0 he1 hq0 hq1 hc0 hc1
  obtain ⟨R, hR⟩ : ∃ R : Rc, (⟨(O : Int), (E : Int), (Q : Int), (C : Int), ig, as'⟩ : Rc) = R := ⟨_, rfl⟩
  have HR := hidIn hR
  go_wp2_with fail
  refine (laying_any _).mono ?_
  rintro e w3 ⟨rfl, h3, hb3⟩
  obtain ⟨B, hB⟩ : ∃ B, w2.heap.size = B := ⟨_, rfl⟩
  have hBl : w.heap.size < B := by rw [← hB]; exact block_lt HX2.out
  have HM3 : Hid (EnM w w3 B R (.slice aa as'.length acap) ⟨#[]⟩) := hidIn ⟨by rw [← hB]; exact h3, by rw [← hR]; exact (hb3.block _ (block_lt HX2.out)).trans HX2.out, HB2.out.trans (hb3.mono HB2.out.size)⟩
  rw [hB]
  clear hb3 h3 HX2 HB2 hB hR
  have hx := HM3.out.x
  rw [← HR.out] at hx
  have x0 := cell_of_row _ _ 0 _ _ _ hx
  have x1 := cell_of_row _ _ 1 _ _ _ hx
  have x2 := cell_of_row _ _ 2 _ _ _ hx
  have x3 := cell_of_row _ _ 3 _ _ _ hx
  have x4 := cell_of_row _ _ 4 _ _ _ hx
  have x5 := cell_of_row _ _ 5 _ _ _ hx
  simp at x0 x1 x2 x3 x4 x5
  clear hx
  go_wp2_with fail
  refine (HSt.out _).mono ?_
  rintro e w4 ⟨rfl, hb4⟩
  have HM4 := hidIn (HM3.out.keep hb4)
  clear x0 x1 x2 x3 x4 x5 hb4 HM3 HSt
  have HP := hidIn (putStamp_any HM4.out.l O E Q (by decide) hO hE hQ)
  go_wp2_with fail
  refine HP.out.mono ?_
  rintro e w5 ⟨⟨y5, rfl⟩, h5, hf5⟩
  have HM5 : Hid (EnM w w5 B R (.slice aa as'.length acap) (stS O E Q)) := hidIn (HM4.out.fr hBl h5 hf5)
  clear HP HM4 h5 hf5
  have hx := HM5.out.x
  rw [← HR.out] at hx
  have x3 := cell_of_row _ _ 3 _ _ _ hx
  simp at x3
  clear hx
  have hs5 := stS_size O E Q
  go_wp2_with fail
  refine (HM5.out.put hBl C 2 (by omega) (.inr (.inl ⟨rfl, hC⟩))).mono ?_
  rintro e w6 ⟨⟨y6, rfl⟩, h6, _⟩
  have HM6 := hidIn h6
  clear x3 h6 HM5
  have hx := HM6.out.x
  rw [← HR.out] at hx
  have x4 := cell_of_row _ _ 4 _ _ _ hx
  simp at x4
  clear hx
  have hs6 := app_size (stS O E Q) (ly C 2)
  rw [ly_size] at hs6
  go_wp2_with fail
  refine (oneIf_any ig _).mono ?_
  rintro e w7 ⟨rfl, hw7⟩
  rw [hw7]
  clear hw7 w7 x4
  have hig : ingN ig < 256 := by unfold ingN; split <;> omega
  go_wp2_with fail
  refine (HM6.out.put hBl (ingN ig) 1 (by omega) (.inl ⟨rfl, hig⟩)).mono ?_
  rintro e w8 ⟨⟨y8, rfl⟩, h8, _⟩
  have HM8 := hidIn h8
  clear h8 HM6
  have hx := HM8.out.x
  rw [← HR.out] at hx
  have x5 := cell_of_row _ _ 5 _ _ _ hx
  simp at x5
  clear hx
  have hs8 := app_size (stS O E Q ++ ly C 2) (ly (ingN ig) 1)
  rw [ly_size] at hs8
  have hn256 : as'.length < 256 := by omega
  go_wp2_with fail
  refine (HM8.out.put hBl as'.length 1 (by omega) (.inl ⟨rfl, hn256⟩)).mono ?_
  rintro e w9 ⟨⟨y9, rfl⟩, h9, _⟩
  have HM9 : Hid (EnM w w9 B R (.slice aa as'.length acap) (adS (hdS R) (as'.take 0))) := hidIn (by rw [← HR.out] at h9 ⊢; exact h9)
  clear h9 HM8 x5 hs5 hs6 hs8
  have hx := HM9.out.x
  rw [← HR.out] at hx
  have x5 := cell_of_row _ _ 5 _ _ _ hx
  simp at x5
  clear hx
  go_wp2_with fail
  go_loopw [41] (fun i wr => ∃ k : Nat, k ≤ as'.length ∧ i = .int .i64 k ∧ Hid (EnM w wr B R (.slice aa as'.length acap) (adS (hdS R) (as'.take k)))) (fun i _ => as'.length - (intOf i).toNat)
  case atStart => exact ⟨0, Nat.zero_le _, rfl, HM9⟩
  case round =>
    clear HM9 x5
    obtain ⟨k, hk, rfl, HM⟩ := hrel
    have hsz := adS_size (hdS R) (as'.take k)
    rw [hdS_size, List.length_take] at hsz
    by_cases hlt : k < as'.length
    · obtain ⟨bk, o, rfl, hbk, hcell⟩ := Ha.out (by omega)
      obtain ⟨⟨x, y⟩, hz⟩ : ∃ z, as'[k]? = some z := ⟨as'[k], List.getElem?_eq_getElem hlt⟩
      obtain ⟨q0, q1⟩ := hcell k _ hz
      have c0 := (HM.out.b.cell (p := ⟨bk, o + k * 2, none⟩) hbk).trans q0
      have c1 := (HM.out.b.cell (p := ⟨bk, o + k * 2 + 1, none⟩) hbk).trans q1
      simp only at c0 c1
      have hab := adjsOk_all _ _ _ HAdj.out _ (List.mem_of_getElem? hz)
      simp only at hab
      obtain ⟨X, rfl⟩ : ∃ X : Nat, x = (X : Int) := ⟨x.toNat, by omega⟩
      obtain ⟨Y, rfl⟩ : ∃ Y : Nat, y = (Y : Int) := ⟨y.toNat, by omega⟩
      have hX : X < 256 := by omega
      have hY : Y < 65536 := by omega
      have HT : Hid (adS (hdS R) (as'.take (k + 1)) = (adS (hdS R) (as'.take k) ++ ly X 1) ++ ly Y 2) := hidIn (by rw [take_snoc hz, adS_snoc]; rfl)
      have hki : (k : Int) < (as'.length : Int) := by omega
      generalize adS (hdS R) (as'.take k) = S at *
      obtain ⟨V, hV⟩ : ∃ V, wr.alloc (.cells #[.int .i64 (X : Int), .int .i64 (Y : Int)] 35) = V := ⟨_, rfl⟩
      have bV : Below wr.heap.size wr V := by rw [← hV]; exact (Below.refl _ wr).alloc (Nat.le_refl _) _
      have hA : V.heap[wr.heap.size]? = some (.cells #[.int .i64 (X : Int), .int .i64 (Y : Int)] 35) := by rw [← hV]; exact heap_alloc_last wr _
      have HMV := hidIn (HM.out.keep bV)
      have hBw : B + 1 < wr.heap.size := block_lt HM.out.l.f
      have HW := hidIn hV
      have a0 := cell_of_row _ _ 0 _ _ _ hA
      simp at a0
      have HA := hidIn hA
      obtain ⟨ab, hab2⟩ : ∃ ab, wr.heap.size = ab := ⟨_, rfl⟩
      have Hab := hidIn hab2
      rw [hab2] at HA a0 hBw
      clear hcell q0 q1 hz hab bV hA hV HM hab2
      go_upto_region 12 with fail
      rw [HW.out, Hab.out]
      clear HW c0 c1
      go_wp2_with fail
      refine (HMV.out.put hBl X 1 (by omega) (.inl ⟨rfl, hX⟩)).mono ?_
      rintro e w3 ⟨⟨y3, rfl⟩, h3, hf3⟩
      have hA3 := (hf3.block _ (block_lt HA.out) (by unfold LyS; omega)).trans HA.out
      have a1 := cell_of_row _ _ 1 _ _ _ hA3
      simp at a1
      have HM3 := hidIn h3
      have hs3 := app_size S (ly X 1)
      rw [ly_size] at hs3
      clear h3 hf3 HA hA3 a0 HMV
      go_wp2_with fail
      refine (HM3.out.put hBl Y 2 (by omega) (.inr (.inl ⟨rfl, hY⟩))).mono ?_
      rintro e w4 ⟨⟨y4, rfl⟩, h4, _⟩
      have HM4 := hidIn h4
      clear h4 HM3 a1
      go_wp2_with fail
      go_roundw
      case rel => exact ⟨k + 1, by omega, by go_num, hidIn (by rw [HT.out]; exact HM4.out)⟩
      case measure => simp [intOf]; omega
    · have hki : ¬ ((k : Int) < (as'.length : Int)) := by omega
      have hM := HM.out
      rw [List.take_of_length_le (by omega)] at hM
      have HB := hidIn hM.b
      have HAl := hidIn (all_any hM.l)
      clear HM hM hsz
      go_wp2_with fail
      refine HAl.out.mono ?_
      rintro e w3 ⟨rfl, hb3⟩
      have HB3 := hidIn (HB.out.trans (hb3.mono HB.out.size))
      clear hb3 HAl HB
      go_wp2_with fail
      go_ret2
      refine ⟨?_, HB3.out⟩
      rw [← Hres.out]
      unfold enA
      rw [Hm.out, ← HR.out]
      rfl
end Go.Proofs.Ytclnhohfiimcdab
