/- bits.number at any short word, bits.Parse at texts that are none. -/
import Derived.Test.YtjpnbjfomikhaaaDoorP3
namespace Go.Proofs.YtjpnbjfomikhaaaDoor
open Go.RowKit Go.Shelf

/-- The library's error is one. -/
def ErrV (w : World) : Prop := ∃ te pe, w.cell? ⟨3, 0, none⟩ = some (.iface te pe)
theorem ErrV.keep {w w' : World} (h : ErrV w) (hb : Below w.heap.size w w') : ErrV w' := by
  obtain ⟨te, pe, hc⟩ := h
  exact ⟨te, pe, (hb.cell (p := ⟨3, 0, none⟩) (block_lt_of_cell hc)).trans hc⟩
theorem itoa_gen (n : Int) (h0 : -9223372036854775808 ≤ n) (h1 : n ≤ 9223372036854775807) (w : World) (ht : Tabs w) :
    Calls Tryd.prog 33 #[.int .i64 n] w fun e w' => e = .returned (.string ⟨(Lib.itoa n).toArray⟩) ∧ Below w.heap.size w w' := by
  refine (Tryd.strconv_Itoa n h0 h1 w ht.p10).mono ?_
  rintro e w' ⟨rfl, k, os, rfl⟩
  exact ⟨rfl, rfl, rfl, rfl, by simp [Go.Sort.grow], fun j hj => by simp [Go.Sort.grow, Array.getElem?_append, hj]⟩
set_option maxHeartbeats 400000 in
theorem number_some (s : ByteArray) (n : Int) (hl : s.size ≤ 18) (ha : Lib.atoi s.data.toList = some n) (h0 : -9223372036854775808 ≤ n) (h1 : n ≤ 9223372036854775807) (b : Bool) (hb : ((⟨(Lib.itoa n).toArray⟩ : ByteArray).toList == s.toList) = b) (w : World) (ht : Tabs w) :
    Calls Tryd.prog 43 #[.string s] w fun e w' => e = .returned (.tuple #[.int .i64 (if b then n else 0), .bool b]) ∧ Below w.heap.size w w' := by
  have H1 := hidIn (Tryd.strconv_Atoi s n hl ha)
  have H2 := hidIn (itoa_gen n h0 h1)
  generalize (⟨(Lib.itoa n).toArray⟩ : ByteArray) = S at hb H2
  clear ha
  cases b
  all_goals
    go_enter Tryd.func43, Tryd.ntmps43
    go_wp2_with (first
      | (go_at_call 50; refine (H1.out _).mono ?_; rintro e w1 ⟨rfl, t1, hw1⟩; have b1 : Below w.heap.size w w1 := (by rw [hw1]; exact below_bytes _ _ _); clear hw1; have ht1 := ht.keep b1)
      | (go_at_call 33; refine (H2.out _ ht1).mono ?_; rintro e w2 ⟨rfl, b2⟩))
    go_ret2
    exact ⟨rfl, b1.trans (b2.mono b1.size)⟩
set_option maxHeartbeats 400000 in
theorem number_none (s : ByteArray) (hl : s.size ≤ 18) (ha : Lib.atoi s.data.toList = none) (w : World) (he : ErrV w) :
    Calls Tryd.prog 43 #[.string s] w fun e w' => e = .returned (.tuple #[.int .i64 0, .bool false]) ∧ Below w.heap.size w w' := by
  obtain ⟨te, pe, hc⟩ := he
  have H1 := hidIn (Tryd.strconv_Atoi_err s hl ha (.iface te pe) w hc (.inr ⟨te, pe, rfl⟩))
  clear ha hc
  go_enter Tryd.func43, Tryd.ntmps43
  go_wp2_with (go_at_call 50; refine H1.out.mono ?_; rintro e w1 ⟨Nb, rfl, _, _, b1⟩)
  go_ret2
  exact ⟨rfl, b1⟩
/-- A word that ends the reading: no number of the form, no bit, or one that does not rise. -/
structure Bad (W : ByteArray) (la : Int) (n : Int) (ok : Bool) : Prop where
  num : ∀ w, Tabs w → ErrV w → Calls Tryd.prog 43 #[.string W] w fun e w' => e = .returned (.tuple #[.int .i64 n, .bool ok]) ∧ Below w.heap.size w w'
  bad : ok = false ∨ (ok = true ∧ (n < 1 ∨ 256 < n)) ∨ (ok = true ∧ 1 ≤ n ∧ n ≤ 256 ∧ n ≤ la)
/-- The first word ends it. -/
def Bad0 (T : ByteArray) (la : Int) : Prop := ∃ (W R : ByteArray) (more : Bool) (n : Int) (ok : Bool), Lib.cut T.data.toList [32] = (W.data.toList, R.data.toList, more) ∧ Bad W la n ok
/-- The second one does. -/
def Bad1 (T : ByteArray) : Prop := ∃ (m : Nat) (R : ByteArray), m < 256 ∧ Lib.cut T.data.toList [32] = (num m, R.data.toList, true) ∧ R.size < T.size ∧ Bad0 R ((m : Int) + 1)
theorem cut_gen (s W R : ByteArray) (more : Bool) (hsz : s.size ≤ 1000) (hcut : Lib.cut s.data.toList [32] = (W.data.toList, R.data.toList, more)) (M : Int) (w : World) (hm : w.cell? ⟨1, 0, none⟩ = some (.int .i64 M)) :
    Calls Tryd.prog 42 #[.string s, .string ⟨#[32]⟩] w fun e w' => e = .returned (.tuple #[.string W, .string R, .bool more]) ∧ Below w.heap.size w w' := by
  refine (Tryd.strings_Cut s ⟨#[32]⟩ M w (by omega) hm).mono ?_
  rintro e w' ⟨rfl, n, rfl⟩
  refine ⟨?_, rfl, rfl, rfl, Nat.le_refl _, fun _ _ => rfl⟩
  have e2 : (⟨#[32]⟩ : ByteArray).data.toList = [32] := rfl
  rw [e2, hcut]
theorem below_zero {w V : World} (h : Below w.heap.size w V) : Below w.heap.size w ((((V.setCell ⟨w.heap.size, 0, none⟩ (.int .u64 0)).setCell ⟨w.heap.size, 1, none⟩ (.int .u64 0)).setCell ⟨w.heap.size, 2, none⟩ (.int .u64 0)).setCell ⟨w.heap.size, 3, none⟩ (.int .u64 0)) :=
  (((h.setCell (p := ⟨w.heap.size, 0, none⟩) (Nat.le_refl _) _).setCell (p := ⟨w.heap.size, 1, none⟩) (Nat.le_refl _) _).setCell (p := ⟨w.heap.size, 2, none⟩) (Nat.le_refl _) _).setCell (p := ⟨w.heap.size, 3, none⟩) (Nat.le_refl _) _
set_option maxRecDepth 100000 in
set_option maxHeartbeats 1000000 in
theorem parse_bad (s : ByteArray) (hne : (s.toList == [45]) = false) (hsz : s.size ≤ 1000)
    (hw : Bad0 s 0 ∨ Bad1 s)
    (M : Int) (w : World) (ht : Tabs w) (he : ErrV w) (hm : w.cell? ⟨1, 0, none⟩ = some (.int .i64 M)) :
    Calls Tryd.prog 24 #[.string s] w fun e w' => e = .returned (.tuple #[bs 0, .int .i64 4]) ∧ Below w.heap.size w w' := by
  have hg1 : 1 < w.heap.size := block_lt_of_cell hm
  have Hm := hidIn hm
  have HE := hidIn he
  have HW := hidIn hw
  clear hm he hw
  go_enter Tryd.func24, Tryd.ntmps24
  go_wp2
  go_loopw [0, 5, 6] (fun t last more wr => ∃ (T : ByteArray) (la : Int) (X : Nat), t = .string T ∧ last = .int .i64 la ∧ more = .bool true ∧ HasBs wr (w.heap.size + 1) X ∧ Below (w.heap.size + 1) (w.alloc (.cells #[.int .u64 0, .int .u64 0, .int .u64 0, .int .u64 0] 24)) wr ∧ T.size ≤ 1000 ∧
      (Bad0 T la ∨ (la = 0 ∧ Bad1 T))) (fun t _ _ _ => strLen t)
  case atStart =>
    refine ⟨s, 0, 0, rfl, rfl, rfl, ?_, ?_, hsz, ?_⟩
    · have := hasBs_new (w.alloc (.cells #[.int .u64 0, .int .u64 0, .int .u64 0, .int .u64 0] 24)) 0
      simpa [wd_zero] using this
    · go_grown
    · rcases HW.out with h | h
      · exact .inl h
      · exact .inr ⟨rfl, h⟩
  case round =>
    obtain ⟨T, la, X, rfl, rfl, rfl, hB, hbel, hT, hcs⟩ := hrel
    have hbw : Below w.heap.size w wr := ((Below.refl _ w).alloc (Nat.le_refl _) _).trans (hbel.mono (Nat.le_succ _))
    have hmr : wr.cell? ⟨1, 0, none⟩ = some (.int .i64 M) := (hbw.cell (p := ⟨1, 0, none⟩) hg1).trans Hm.out
    have htr := ht.keep hbw
    have her := HE.out.keep hbw
    rcases hcs with ⟨W, R, more, n, ok, hcut, hbad⟩ | ⟨rfl, m, R, hm256, hcut, hlt, hbad⟩
    · have HC := hidIn (cut_gen T W R more hT hcut M wr hmr)
      have HB := hidIn hbad
      clear hcut hbad hmr
      go_wp2_with fail
      refine HC.out.mono ?_
      rintro e w2 ⟨rfl, hb2⟩
      go_wp2_with fail
      refine (HB.out.num _ (htr.keep hb2) (her.keep hb2)).mono ?_
      rintro e w3 ⟨rfl, hb3⟩
      have hb23 := hb2.trans (hb3.mono hb2.size)
      have hB3 : Below w.heap.size w w3 := hbw.trans (hb23.mono hbw.size)
      have hR := ((hasBs_new w 0).keep hbel (by omega)).keep hb23 (by have := hbw.size; have := hB.lt; omega)
      clear hb2 hb3 hb23 htr her hB
      obtain ⟨d0, d1, d2, d3, g0, g1, g2, g3, lt'⟩ := hR
      rcases HB.out.bad with rfl | ⟨rfl, hnb⟩ | ⟨rfl, hn1, hn2, hla⟩
      · go_wp2
        refine bodyPost_ret (v := .tuple #[bs 0, .int .i64 4]) (by simp [results, Tryd.results24, go_sem, bs, wd_zero, d0, d1, d2, d3]) rfl ⟨rfl, below_zero hB3⟩
      · go_wp2_with (go_at_call 26; refine (isBit_no _ hnb _).mono ?_; rintro e w4 ⟨rfl, hw4⟩; replace hw4 := hw4.symm; subst hw4)
        refine bodyPost_ret (v := .tuple #[bs 0, .int .i64 4]) (by simp [results, Tryd.results24, go_sem, bs, wd_zero, d0, d1, d2, d3]) rfl ⟨rfl, below_zero hB3⟩
      · go_wp2_with (go_at_call 26; refine (isBit_yes _ hn1 hn2 _).mono ?_; rintro e w4 ⟨rfl, hw4⟩; replace hw4 := hw4.symm; subst hw4)
        refine bodyPost_ret (v := .tuple #[bs 0, .int .i64 4]) (by simp [results, Tryd.results24, go_sem, bs, wd_zero, d0, d1, d2, d3]) rfl ⟨rfl, below_zero hB3⟩
    · have HC := hidIn (cut_gen T ⟨(num m).toArray⟩ R true hT hcut M wr hmr)
      have HN := hidIn (number_ok m hm256)
      have HB := hidIn hbad
      generalize (⟨(num m).toArray⟩ : ByteArray) = W0 at HC HN
      clear hcut hbad hmr
      go_wp2_with fail
      refine HC.out.mono ?_
      rintro e w2 ⟨rfl, hb2⟩
      have hB2 := hB.keep hb2 hB.lt
      have hbel2 := hbel.trans (hb2.mono (by have := hbel.size; simp at this; omega))
      have htr2 := htr.keep hb2
      go_wp2_with fail
      refine (HN.out _ htr2).mono ?_
      rintro e w3 ⟨rfl, hb3⟩
      have hB3 := hB2.keep hb3 hB2.lt
      have hbel3 := hbel2.trans (hb3.mono (by have := hbel2.size; simp at this; omega))
      clear hB hbel hb2 hB2 hbel2 hb3 htr htr2 hbw her
      have hla : ¬ (m : Int) + 1 ≤ 0 := by omega
      have hS := Held.of hB3 hbel3
      go_wp2_with (go_at_call 26; refine (isBit_yes _ (by omega) (by omega) _).mono ?_; rintro e w4 ⟨rfl, hw4⟩; replace hw4 := hw4.symm; subst hw4)
      obtain ⟨c0, c1, c2, c3, f0, f1, f2, f3, lt⟩ := hB3
      go_region_with (first | (go_at_call 28; refine (only_any m hm256 _).mono ?_; rintro e w1 ⟨rfl, hb1⟩; have hS1 := Held.keep (Held.drew hS) hb1; obtain ⟨c0', c1', c2', c3', f0', f1', f2', f3', lt', hb1'⟩ := hS1) | (go_at_call 36; refine (or_any _ _ _).mono ?_; rintro e w2 ⟨rfl, hb2⟩; obtain ⟨c0'', c1'', c2'', c3'', f0'', f1'', f2'', f3'', lt'', hb2''⟩ := Held.keep ⟨c0', c1', c2', c3', f0', f1', f2', f3', lt', hb1'⟩ hb2))
      all_goals
        go_wp2
        go_roundw
        case rel => exact ⟨R, (m : Int) + 1, X ||| 2 ^ m, rfl, rfl, rfl, HasBs.put ⟨c0'', c1'', c2'', c3'', f0'', f1'', f2'', f3'', lt''⟩ _, below_put hb2'' (Nat.le_refl _), by omega, .inl HB.out⟩
        case measure => exact hlt
end Go.Proofs.YtjpnbjfomikhaaaDoor
