/- bits.number at any word; bits.Parse at whatever is no text of bits. -/
import Derived.Test.YtjpnbjfomikhaaaDoorY1
import Derived.Test.YtjpnbjfomikhaaaDoorP4
import Derived.Test.YtjpnbjfomikhaaaDoorY0
import Derived.Lib.AtoiAllCases
namespace Go.Proofs.YtjpnbjfomikhaaaDoor
open Go.RowKit Go.Shelf

/-- The library's other error is one. -/
def ErrR (w : World) : Prop := ∃ te pe, w.cell? ⟨4, 0, none⟩ = some (.iface te pe)
theorem ErrR.keep {w w' : World} (h : ErrR w) (hb : Below w.heap.size w w') : ErrR w' := by
  obtain ⟨te, pe, hc⟩ := h
  exact ⟨te, pe, (hb.cell (p := ⟨4, 0, none⟩) (block_lt_of_cell hc)).trans hc⟩
set_option maxHeartbeats 400000 in
theorem number_v (s : ByteArray) (n : Int) (hl : s.size ≤ 281474976710656) (ha : Lib.atoiAll s.data.toList = .ok n) (b : Bool) (hb : ((⟨(Lib.itoa n).toArray⟩ : ByteArray).toList == s.toList) = b) (w : World) (ht : Tabs w) :
    Calls Tryd.prog 43 #[.string s] w fun e w' => e = .returned (.tuple #[.int .i64 (if b then n else 0), .bool b]) ∧ Below w.heap.size w w' := by
  have hbd := Lib.atoiAll_bounds ha
  have H1 := hidIn (Tryd.strconv_Atoi_ok s (by omega) n ha)
  have H2 := hidIn (itoa_gen n hbd.1 hbd.2)
  generalize (⟨(Lib.itoa n).toArray⟩ : ByteArray) = S at hb H2
  clear ha
  cases b
  all_goals
    go_enter Tryd.func43, Tryd.ntmps43
    go_wp2_with (first
      | (go_at_call 50; refine (H1.out _).mono ?_; rintro e w1 ⟨rfl, hw1⟩; have b1 : Below w.heap.size w w1 := (by rcases hw1 with rfl | ⟨t1, rfl⟩; exact Below.refl _ _; exact below_bytes _ _ _); clear hw1; have ht1 := ht.keep b1)
      | (go_at_call 33; refine (H2.out _ ht1).mono ?_; rintro e w2 ⟨rfl, b2⟩))
    go_ret2
    exact ⟨rfl, b1.trans (b2.mono b1.size)⟩
set_option maxHeartbeats 400000 in
theorem number_syntax (s : ByteArray) (hl : s.size ≤ 281474976710656) (ha : Lib.atoiAll s.data.toList = .«syntax») (w : World) (he : ErrV w) :
    Calls Tryd.prog 43 #[.string s] w fun e w' => e = .returned (.tuple #[.int .i64 0, .bool false]) ∧ Below w.heap.size w w' := by
  obtain ⟨te, pe, hc⟩ := he
  have H1 := hidIn (Tryd.strconv_Atoi_syntax s hl ha (.iface te pe) w hc (.inr ⟨te, pe, rfl⟩))
  clear ha hc
  go_enter Tryd.func43, Tryd.ntmps43
  go_wp2_with (go_at_call 50; refine H1.out.mono ?_; rintro e w1 ⟨Nb, rfl, _, _, b1⟩)
  go_ret2
  exact ⟨rfl, b1⟩
set_option maxHeartbeats 400000 in
theorem number_range (s : ByteArray) (hl : s.size ≤ 281474976710656) (ha : Lib.atoiAll s.data.toList = .range) (w : World) (he : ErrR w) :
    Calls Tryd.prog 43 #[.string s] w fun e w' => e = .returned (.tuple #[.int .i64 0, .bool false]) ∧ Below w.heap.size w w' := by
  obtain ⟨te, pe, hc⟩ := he
  have H1 := hidIn (Tryd.strconv_Atoi_range s hl ha (.iface te pe) w hc (.inr ⟨te, pe, rfl⟩))
  clear ha hc
  go_enter Tryd.func43, Tryd.ntmps43
  go_wp2_with (go_at_call 50; refine H1.out.mono ?_; rintro e w1 ⟨Nb, rfl, _, _, b1⟩)
  go_ret2
  exact ⟨rfl, b1⟩
/-- **Any word: a bit's number, or none.** -/
theorem number_gen (s : ByteArray) (hl : s.size ≤ 281474976710656) : (∃ m, m < 256 ∧ s.data.toList = num m) ∨
    ∃ (n : Int) (ok : Bool), (∀ w, Tabs w → ErrV w → ErrR w → Calls Tryd.prog 43 #[.string s] w fun e w' => e = .returned (.tuple #[.int .i64 n, .bool ok]) ∧ Below w.heap.size w w') ∧ (ok = false ∨ (ok = true ∧ (n < 1 ∨ 256 < n))) := by
  cases ha : Lib.atoiAll s.data.toList with
  | «syntax» => exact .inr ⟨0, false, fun w _ he _ => number_syntax s hl ha w he, .inl rfl⟩
  | range => exact .inr ⟨0, false, fun w _ _ he => number_range s hl ha w he, .inl rfl⟩
  | ok n =>
    cases hb : ((⟨(Lib.itoa n).toArray⟩ : ByteArray).toList == s.toList) with
    | false => exact .inr ⟨0, false, fun w ht _ _ => number_v s n hl ha false hb w ht, .inl rfl⟩
    | true =>
      by_cases hn : n < 1 ∨ 256 < n
      · exact .inr ⟨n, true, fun w ht _ _ => number_v s n hl ha true hb w ht, .inr ⟨rfl, hn⟩⟩
      · refine .inl ⟨(n - 1).toNat, by omega, ?_⟩
        have e : Lib.itoa n = s.data.toList := by
          have := eq_of_beq hb
          rw [ByteArray.toList_eq, ByteArray.toList_eq] at this
          exact this
        rw [← e]
        unfold Lib.itoa num
        rw [if_neg (by omega)]
        congr 1
        omega
theorem ba_size (l : List UInt8) : (⟨l.toArray⟩ : ByteArray).size = l.length := by show l.toArray.size = _; simp
set_option maxRecDepth 100000 in
set_option maxHeartbeats 2000000 in
theorem parse_no (s : ByteArray) (hne : (s.toList == [45]) = false) (hsz : s.size ≤ 140737488351232) (hno : NoT 0 s.data.toList)
    (w : World) (ht : Tabs w) (he : ErrV w) (hr : ErrR w) :
    Calls Tryd.prog 24 #[.string s] w fun e w' => e = .returned (.tuple #[bs 0, .int .i64 4]) ∧ Below w.heap.size w w' := by
  have HE := hidIn he
  have HR := hidIn hr
  have HW := hidIn hno
  clear he hr hno
  go_enter Tryd.func24, Tryd.ntmps24
  go_wp2
  go_loopw [0, 5, 6] (fun t last more wr => ∃ (T : ByteArray) (la : Nat) (X : Nat), t = .string T ∧ last = .int .i64 (la : Int) ∧ more = .bool true ∧ HasBs wr (w.heap.size + 1) X ∧ Below (w.heap.size + 1) (w.alloc (.cells #[.int .u64 0, .int .u64 0, .int .u64 0, .int .u64 0] 24)) wr ∧ T.size ≤ 140737488351232 ∧
      Hid (NoT la T.data.toList)) (fun t _ _ _ => strLen t)
  case atStart =>
    refine ⟨s, 0, 0, rfl, rfl, rfl, ?_, ?_, hsz, HW⟩
    · have := hasBs_new (w.alloc (.cells #[.int .u64 0, .int .u64 0, .int .u64 0, .int .u64 0] 24)) 0
      simpa [wd_zero] using this
    · go_grown
  case round =>
    obtain ⟨T, la, X, rfl, rfl, rfl, hB, hbel, hT, HNT⟩ := hrel
    have hbw : Below w.heap.size w wr := ((Below.refl _ w).alloc (Nat.le_refl _) _).trans (hbel.mono (Nat.le_succ _))
    have htr := ht.keep hbw
    have her := HE.out.keep hbw
    have hrr := HR.out.keep hbw
    obtain ⟨W, R, more, hcut⟩ : ∃ W R more, Lib.cut T.data.toList [32] = (W, R, more) := ⟨_, _, _, rfl⟩
    have hparts := cut_parts hcut
    have hTl : T.data.toList.length = T.size := by simp
    have hWl : W.length ≤ T.size := by
      rcases hparts with ⟨_, e⟩ | ⟨_, e, _⟩
      · rw [← hTl, e, List.length_append]; omega
      · rw [e, hTl]; exact Nat.le_refl _
    have HC := hidIn (cut_blank T W R more hT hcut wr)
    clear hcut
    have hgen := number_gen ⟨W.toArray⟩ (by rw [ba_size]; omega)
    have hend : (∃ m, m < 256 ∧ W = num m ∧ la ≤ m) ∨ ∃ (n : Int) (ok : Bool), (∀ w, Tabs w → ErrV w → ErrR w → Calls Tryd.prog 43 #[.string ⟨W.toArray⟩] w fun e w' => e = .returned (.tuple #[.int .i64 n, .bool ok]) ∧ Below w.heap.size w w') ∧ (ok = false ∨ (ok = true ∧ (n < 1 ∨ 256 < n)) ∨ (ok = true ∧ 1 ≤ n ∧ n ≤ 256 ∧ n ≤ (la : Int))) := by
      rcases hgen with ⟨m, hm, e⟩ | ⟨n, ok, h1, h2⟩
      · have e' : W = num m := by simpa using e
        by_cases hla : la ≤ m
        · exact .inl ⟨m, hm, e', hla⟩
        · exact .inr ⟨(m : Int) + 1, true, fun w ht _ _ => by rw [e']; exact number_ok m hm w ht, .inr (.inr ⟨rfl, by omega, by omega, by omega⟩)⟩
      · exact .inr ⟨n, ok, h1, by rcases h2 with h | h; exact .inl h; exact .inr (.inl h)⟩
    clear hgen
    rcases hend with ⟨m, hm256, rfl, hla0⟩ | ⟨n, ok, hnum, hbad⟩
    · rcases hparts with ⟨rfl, hTe⟩ | ⟨rfl, e, _⟩
      · have HNR := hidIn (noT_more HNT.out hla0 hm256 hTe)
        have hlt : (⟨R.toArray⟩ : ByteArray).size < T.size := by
          rw [ba_size, ← hTl, hTe, List.length_append, List.length_cons]
          omega
        have HNR2 : Hid (NoT (m + 1) (⟨R.toArray⟩ : ByteArray).data.toList) := HNR
        have HN := hidIn (number_ok m hm256)
        clear hTe HNR hWl hTl
        generalize (⟨(num m).toArray⟩ : ByteArray) = W0 at HC HN
        generalize (⟨R.toArray⟩ : ByteArray) = R0 at HC HNR2 hlt
        go_wp2_with fail
        refine HC.out.mono ?_
        rintro e w2 ⟨rfl, hb2⟩
        have hB2 := hB.keep hb2 hB.lt
        have hbel2 := hbel.trans (hb2.mono (by have := hbel.size; simp at this; omega))
        have htr2 := htr.keep hb2
        go_wp2_with fail
        refine (HN.out _ htr2).mono ?_
        rintro e w3 ⟨rfl, hb3⟩
        have hB3 := hB2.keep hb3 hB2.lt
        have hbel3 := hbel2.trans (hb3.mono (by have := hbel2.size; simp at this; omega))
        clear hB hbel hb2 hB2 hbel2 hb3 htr htr2 hbw her hrr
        have hla : ¬ (m : Int) + 1 ≤ (la : Int) := by omega
        have hS := Held.of hB3 hbel3
        go_wp2_with (go_at_call 26; refine (isBit_yes _ (by omega) (by omega) _).mono ?_; rintro e w4 ⟨rfl, hw4⟩; replace hw4 := hw4.symm; subst hw4)
        obtain ⟨c0, c1, c2, c3, f0, f1, f2, f3, lt⟩ := hB3
        go_region_with (first | (go_at_call 28; refine (only_any m hm256 _).mono ?_; rintro e w1 ⟨rfl, hb1⟩; have hS1 := Held.keep (Held.drew hS) hb1; obtain ⟨c0', c1', c2', c3', f0', f1', f2', f3', lt', hb1'⟩ := hS1) | (go_at_call 36; refine (or_any _ _ _).mono ?_; rintro e w2 ⟨rfl, hb2⟩; obtain ⟨c0'', c1'', c2'', c3'', f0'', f1'', f2'', f3'', lt'', hb2''⟩ := Held.keep ⟨c0', c1', c2', c3', f0', f1', f2', f3', lt', hb1'⟩ hb2))
        all_goals
          go_wp2
          go_roundw
          case rel => exact ⟨R0, m + 1, X ||| 2 ^ m, rfl, by go_num, rfl, HasBs.put ⟨c0'', c1'', c2'', c3'', f0'', f1'', f2'', f3'', lt''⟩ _, below_put hb2'' (Nat.le_refl _), by omega, HNR2⟩
          case measure => exact hlt
      · exact (noT_last HNT.out hla0 hm256 e.symm).elim
    · have HB := hidIn hnum
      clear hnum hparts hWl hTl
      generalize (⟨W.toArray⟩ : ByteArray) = W0 at HC HB
      generalize (⟨R.toArray⟩ : ByteArray) = R0 at HC
      go_wp2_with fail
      refine HC.out.mono ?_
      rintro e w2 ⟨rfl, hb2⟩
      go_wp2_with fail
      refine (HB.out _ (htr.keep hb2) (her.keep hb2) (hrr.keep hb2)).mono ?_
      rintro e w3 ⟨rfl, hb3⟩
      have hb23 := hb2.trans (hb3.mono hb2.size)
      have hB3 : Below w.heap.size w w3 := hbw.trans (hb23.mono hbw.size)
      have hR := ((hasBs_new w 0).keep hbel (by omega)).keep hb23 (by have := hbw.size; have := hB.lt; omega)
      clear hb2 hb3 hb23 htr her hrr hB
      obtain ⟨d0, d1, d2, d3, g0, g1, g2, g3, lt'⟩ := hR
      rcases hbad with rfl | ⟨rfl, hnb⟩ | ⟨rfl, hn1, hn2, hla⟩
      · go_wp2
        refine bodyPost_ret (v := .tuple #[bs 0, .int .i64 4]) (by simp [results, Tryd.results24, go_sem, bs, wd_zero, d0, d1, d2, d3]) rfl ⟨rfl, below_zero hB3⟩
      · go_wp2_with (go_at_call 26; refine (isBit_no _ hnb _).mono ?_; rintro e w4 ⟨rfl, hw4⟩; replace hw4 := hw4.symm; subst hw4)
        refine bodyPost_ret (v := .tuple #[bs 0, .int .i64 4]) (by simp [results, Tryd.results24, go_sem, bs, wd_zero, d0, d1, d2, d3]) rfl ⟨rfl, below_zero hB3⟩
      · go_wp2_with (go_at_call 26; refine (isBit_yes _ hn1 hn2 _).mono ?_; rintro e w4 ⟨rfl, hw4⟩; replace hw4 := hw4.symm; subst hw4)
        refine bodyPost_ret (v := .tuple #[bs 0, .int .i64 4]) (by simp [results, Tryd.results24, go_sem, bs, wd_zero, d0, d1, d2, d3]) rfl ⟨rfl, below_zero hB3⟩
end Go.Proofs.YtjpnbjfomikhaaaDoor
