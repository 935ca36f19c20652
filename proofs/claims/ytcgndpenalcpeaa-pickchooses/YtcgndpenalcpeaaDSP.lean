/- The document's Spread. -/
import Derived.Test.YtcgndpenalcpeaaD6
import Derived.Test.YtcgndpenalcpeaaDT
namespace Go.Proofs.Ytcgndpenalcpeaa
open Go.RowKit

/-- The first q counted one further. -/
def stK (l : List Int) (k q : Nat) : List Int := ((sprL l (k + 1)).take q) ++ ((sprL l k).drop q)
theorem stK_zero (l : List Int) (k : Nat) : stK l k 0 = sprL l k := by simp [stK]
theorem stK_all {l : List Int} {k q : Nat} (h : l.length ≤ q) : stK l k q = sprL l (k + 1) := by
  unfold stK
  rw [List.take_of_length_le (by rw [spr_len]; exact h), List.drop_of_length_le (by rw [spr_len]; exact h), List.append_nil]
theorem stK_len (l : List Int) (k q : Nat) : (stK l k q).length = l.length := by
  unfold stK
  rw [List.length_append, List.length_take, List.length_drop, spr_len, spr_len]
  omega
theorem stK_get (l : List Int) (k q j : Nat) : (stK l k q)[j]? = if j < q then (sprL l (k + 1))[j]? else (sprL l k)[j]? := by
  unfold stK
  by_cases h : j < q
  · rw [if_pos h]
    by_cases hl : j < l.length
    · rw [List.getElem?_append_left (by rw [List.length_take, spr_len]; omega), List.getElem?_take_of_lt h]
    · rw [List.getElem?_eq_none (by rw [List.length_append, List.length_take, List.length_drop, spr_len, spr_len]; omega), List.getElem?_eq_none (by rw [spr_len]; omega)]
  · rw [if_neg h]
    by_cases hl : j < l.length
    · rw [List.getElem?_append_right (by rw [List.length_take, spr_len]; omega), List.length_take, spr_len, List.getElem?_drop]
      congr 1
      omega
    · rw [List.getElem?_eq_none (by rw [List.length_append, List.length_take, List.length_drop, spr_len, spr_len]; omega), List.getElem?_eq_none (by rw [spr_len]; omega)]
theorem spr_getE (l : List Int) (n j : Nat) : (sprL l n)[j]? = (l[j]?).map fun x => ((cntE l n x : Nat) : Int) := by simp [sprL]
theorem stK_same {l : List Int} {k q : Nat} {x : Int} (hx : l[q]? = some x) (h : best (mix k) l ≠ x) : stK l k (q + 1) = stK l k q := by
  apply List.ext_getElem?
  intro j
  rw [stK_get, stK_get]
  by_cases h1 : j < q
  · rw [if_pos (by omega), if_pos h1]
  · by_cases h2 : j = q
    · subst h2
      rw [if_pos (by omega), if_neg h1, spr_getE, spr_getE, hx]
      simp [cntE_succ, h]
    · rw [if_neg (by omega), if_neg h1]
theorem stK_next {l : List Int} {k q : Nat} {x : Int} (hx : l[q]? = some x) (h : best (mix k) l = x) : stK l k (q + 1) = (stK l k q).set q ((cntE l k x : Int) + 1) := by
  apply List.ext_getElem?
  intro j
  rw [List.getElem?_set, stK_get, stK_get, stK_len]
  have hql := (List.getElem?_eq_some_iff.1 hx).1
  by_cases h2 : q = j
  · subst h2
    rw [if_pos (by omega), if_pos rfl, if_pos hql, spr_getE, hx]
    simp [cntE_succ, h]
  · rw [if_neg h2]
    by_cases h1 : j < q
    · rw [if_pos (by omega), if_pos h1]
    · rw [if_neg (by omega), if_neg h1]
theorem stK_at {l : List Int} {k q : Nat} {x : Int} (hx : l[q]? = some x) : (stK l k q)[q]? = some ((cntE l k x : Nat) : Int) := by rw [stK_get, if_neg (by omega), spr_getE, hx]; rfl
theorem fl_set1 {l : List Int} {q : Nat} (v : Int) : (fl ic l).set q (.int .i64 v) = fl ic (l.set q v) := by
  rw [cints_map, cints_map, List.map_set]
theorem spr_zero (l : List Int) : fl ic (sprL l 0) = List.replicate l.length (.int .i64 0) := by
  rw [cints_map]
  unfold sprL
  rw [List.map_map]
  apply List.ext_getElem?
  intro j
  rw [List.getElem?_map, List.getElem?_replicate]
  by_cases h : j < l.length
  · rw [List.getElem?_eq_getElem h, if_pos h]; rfl
  · rw [List.getElem?_eq_none (by omega), if_neg h]; rfl
theorem make_row (n : Nat) (hn : n ≤ 1000) (w : World) : ∃ W, (Instr.makeSlice 23 (.int .i64 (n : Int)) (.int .i64 (n : Int))).run Try.prog w = .ok (.slice (some ⟨w.heap.size, 0, none⟩) n n) W ∧ W.ownsRow w.heap.size 3 1 (.slice (some ⟨w.heap.size, 0, none⟩) n n) n (List.replicate n (.int .i64 0)) ∧ Below w.heap.size w W := by
  obtain ⟨i0, hi, hz0, hz1, hz2⟩ := info_parts infoInt
  have := run_make (P := Try.prog) w 23 3 i0 (.int .i64 0) Try.underlying23 hi hz0 .i64 .i64 n n (by omega) (Int.le_refl _) (by rw [hz2]; omega) (by omega)
  rw [hz1, Nat.mul_one] at this
  refine ⟨w.alloc (.cells (madeCells #[.int .i64 0] n) 3), by simpa [Value.cells] using this, ⟨by simp, .inr ⟨w.heap.size, n, _, rfl, Nat.le_refl _, heap_alloc_last w _, Nat.le_refl _, by unfold maxLen; omega, by rw [size_madeCells, Nat.mul_one], ?_⟩⟩, (Below.refl _ w).alloc (Nat.le_refl _) _⟩
  rw [Nat.mul_one, List.take_of_length_le (by simp [madeCells])]
  apply List.ext_getElem?
  intro j
  rw [List.getElem?_replicate]
  by_cases h : j < n
  · simp [madeCells, h, Nat.mod_one]
  · simp [madeCells, h]
set_option maxRecDepth 100000 in
set_option maxHeartbeats 2000000 in
theorem dspread_any {l : List Int} {v : Value} {w : World} (h : SlAt ic 1 w v l) (n : Int) (hnw : n < 9223372036854775808) :
    Calls Try.prog 18 #[v, .int .i64 n] w fun r w' => ∃ a cap, r = .returned (.tuple #[.slice a (spL l n).length cap, .int .i64 (spE l n)]) ∧ w'.ownsRow w.heap.size 3 1 (.slice a (spL l n).length cap) (spL l n).length (fl ic (spL l n)) ∧ Below w.heap.size w w' := by
  have HN := hidIn (dnb_any h)
  have HSl := hidIn h
  obtain ⟨a, cap, rfl, hjunk⟩ := h
  clear hjunk
  by_cases hbad : nbOk l = true ∧ 0 ≤ n
  · obtain ⟨hnb, h0⟩ := hbad
    rw [hnb] at HN
    have hn0 : ¬ n < 0 := by omega
    by_cases h4 : n ≤ 4096
    · obtain ⟨N, hNn⟩ : ∃ N : Nat, n = N := ⟨n.toNat, by omega⟩
      have HE := hidIn (sp_yes N hnb (by omega))
      rw [← hNn] at HE
      have HNn := hidIn hNn
      have hg4 : ¬ (4096 : Int) < n := by omega
      have h24 := nb_len hnb
      rw [HE.out.1, HE.out.2]
      obtain ⟨ln, hln⟩ : ∃ ln, l.length = ln := ⟨_, rfl⟩
      rw [hln] at HN HSl h24 ⊢
      have Hln := hidIn hln
      have HMk := hidIn (fun q => make_row ln (by omega) (w.drewN q))
      clear hNn h4 hnb hln
      go_enter Try.func18, Try.ntmps18
      go_wp2_with fail
      refine HN.out.mono ?_
      rintro x w1 ⟨rfl, q0, hw1⟩
      rw [hw1]
      clear hw1 w1 HN
      obtain ⟨W, hmk, hrow, hbW⟩ := HMk.out q0
      have HRow : Hid (W.ownsRow w.heap.size 3 1 (.slice (some ⟨w.heap.size, 0, none⟩) ln ln) ln (fl ic (sprL l 0))) := hidIn (by rw [spr_zero, Hln.out]; exact hrow)
      have HBW : Hid (Below w.heap.size w W) := hidIn (Below.trans (below_drewN (Below.refl w.heap.size w) q0) hbW)
      have hmk' : (Instr.makeSlice 23 (.int .i64 (ln : Int)) (.int .i64 (ln : Int))).run Try.prog (w.drewN q0) = .ok (.slice (some ⟨w.heap.size, 0, none⟩) ln ln) W := hmk
      clear hmk hrow hbW HMk
      go_wp2_with fail
      clear hmk'
      go_loopw [7] (fun i wr => ∃ k : Nat, k ≤ N ∧ i = .int .i64 k ∧ Hid (Below w.heap.size w wr ∧ wr.ownsRow w.heap.size 3 1 (.slice (some ⟨w.heap.size, 0, none⟩) ln ln) ln (fl ic (sprL l k)))) (fun i _ => N - (intOf i).toNat)
      case atStart => exact ⟨0, Nat.zero_le _, rfl, hidIn ⟨HBW.out, HRow.out⟩⟩
      case round =>
        clear HRow HBW
        obtain ⟨k, hk, rfl, HR⟩ := hrel
        by_cases hlt : k < N ∧ 0 < ln
        · obtain ⟨hkN, hl0⟩ := hlt
          have hN4 : N ≤ 4096 := by have := HNn.out; omega
          have hki : (k : Int) < n := by have := HNn.out; omega
          have hli : (0 : Int) < (ln : Int) := by omega
          have hwk : IntKind.u32.wrap (k : Int) = (k : Int) := by rw [IntKind.wrap_u32]; omega
          have HBe := hidIn (dbest_any (e := k) (by omega) (HSl.out.keep HR.out.1 (Nat.le_refl _)) (by have := Hln.out; omega))
          obtain ⟨b, hb⟩ : ∃ b, best (mix k) l = b := ⟨_, rfl⟩
          rw [hb] at HBe
          have HBs := hidIn hb
          clear hb
          go_wp2_with fail
          refine HBe.out.mono ?_
          rintro x w2 ⟨rfl, hw2⟩
          rw [hw2]
          clear hw2 w2 HBe
          go_wp2_with fail
          have HR0 : Hid (Below w.heap.size w wr ∧ wr.ownsRow w.heap.size 3 1 (.slice (some ⟨w.heap.size, 0, none⟩) ln ln) ln (fl ic (stK l k 0))) := hidIn (by rw [stK_zero]; exact HR.out)
          clear HR
          go_loopw [9] (fun i wz => ∃ p : Nat, p ≤ ln ∧ i = .int .i64 p ∧ Hid (Below w.heap.size w wz ∧ wz.ownsRow w.heap.size 3 1 (.slice (some ⟨w.heap.size, 0, none⟩) ln ln) ln (fl ic (stK l k p)))) (fun i _ => ln - (intOf i).toNat)
          case atStart => exact ⟨0, Nat.zero_le _, rfl, HR0⟩
          case round =>
            clear HR0
            obtain ⟨p, hp, rfl, HZ⟩ := hrel
            by_cases hpl : p < ln
            · obtain ⟨hbz, hrz⟩ := HZ.out
              obtain ⟨x, hx⟩ : ∃ x, l[p]? = some x := ⟨l[p]'(by have := Hln.out; omega), List.getElem?_eq_getElem _⟩
              obtain ⟨a5, k5, he5, _, _, hat5⟩ := HSl.out.ints
              obtain ⟨bk, o, rfl, hbk, hcell⟩ := hat5 (by have := Hln.out; omega)
              simp only [Value.slice.injEq] at he5
              obtain ⟨rfl, h5a, h5b⟩ := he5
              have c0 := (hbz.cell (p := ⟨bk, o + p, none⟩) hbk).trans (hcell p x hx)
              have hpi : (p : Int) < (ln : Int) := by omega
              clear hcell hat5 h5a h5b HZ
              by_cases hxb : x = b
              · have hq : (x == b) = true := by simpa using hxb
                have hnx := stK_next (k := k) hx (by rw [HBs.out, hxb])
                have hcl := cntE_le l k x
                have hat : (fl ic (stK l k p))[p]? = some (.int .i64 ((cntE l k x : Nat) : Int)) := by rw [cints_map, List.getElem?_map, stK_at hx]; rfl
                obtain ⟨g, hg, hgb, hglt, _, hfr⟩ := row_write hrz (by omega)
                simp only [Option.some.injEq, Addr.mk.injEq] at hg
                obtain ⟨hg, _⟩ := hg
                rw [← hg] at hfr hglt
                have c1 := hrz.cells (g := w.heap.size) rfl p _ hat
                rw [Addr.add_mid, Nat.zero_add] at c1
                have f1 := hfr p
                obtain ⟨c, hc⟩ : ∃ c, cntE l k x = c := ⟨_, rfl⟩
                rw [hc] at c1 hcl hnx
                have HZ2 : Hid (Below w.heap.size w (wr.setCell ⟨w.heap.size, p, none⟩ (.int .i64 ((c : Int) + 1))) ∧ (wr.setCell ⟨w.heap.size, p, none⟩ (.int .i64 ((c : Int) + 1))).ownsRow w.heap.size 3 1 (.slice (some ⟨w.heap.size, 0, none⟩) ln ln) ln (fl ic (stK l k (p + 1)))) := hidIn ⟨below_set hbz (Nat.le_refl _) _, by rw [hnx, ← fl_set1]; exact row_set hrz p _⟩
                clear hxb hx hbz hrz hnx hat hg hgb hglt hfr hc
                go_wp2_with fail
                go_roundw
                case rel => exact ⟨p + 1, by omega, by go_num, HZ2⟩
                case measure => simp [intOf]; omega
              · have hq : (x == b) = false := by simpa using hxb
                have HS : Hid (stK l k (p + 1) = stK l k p) := hidIn (stK_same hx (by rw [HBs.out]; exact fun e => hxb e.symm))
                have HZ2 := hidIn (And.intro hbz hrz)
                clear hxb hx hbz hrz
                go_wp2_with fail
                go_roundw
                case rel => exact ⟨p + 1, by omega, by go_num, hidIn (by rw [HS.out]; exact HZ2.out)⟩
                case measure => simp [intOf]; omega
            · have hpi : ¬ (p : Int) < (ln : Int) := by omega
              have HS : Hid (stK l k p = sprL l (k + 1)) := hidIn (stK_all (by have := Hln.out; omega))
              go_wp2_with fail
              go_roundw
              case rel => exact ⟨k + 1, by omega, by go_num, hidIn (by have := HZ.out; rw [HS.out] at this; exact this)⟩
              case measure => simp [intOf]; omega
        · have HE2 : Hid (sprL l k = sprL l N ∧ (sprL l N).length = ln) := hidIn (by
            refine ⟨?_, by rw [spr_len]; exact Hln.out⟩
            by_cases hl0 : 0 < ln
            · rw [show k = N from by omega]
            · rw [spr_nil (by have := Hln.out; omega), spr_nil (by have := Hln.out; omega)])
          have HR2 := hidIn HR.out
          clear HR
          by_cases hkN : k < N
          · have hki : (k : Int) < n := by have := HNn.out; omega
            have hli : ¬ (0 : Int) < (ln : Int) := by omega
            clear hlt
            go_wp2_with fail
            go_ret2
            refine ⟨some ⟨w.heap.size, 0, none⟩, ln, by rw [HE2.out.2]; rfl, ?_, HR2.out.1⟩
            rw [HE2.out.2, ← HE2.out.1]
            exact HR2.out.2
          · have hki : ¬ (k : Int) < n := by have := HNn.out; omega
            clear hlt
            go_wp2_with fail
            go_ret2
            refine ⟨some ⟨w.heap.size, 0, none⟩, ln, by rw [HE2.out.2]; rfl, ?_, HR2.out.1⟩
            rw [HE2.out.2, ← HE2.out.1]
            exact HR2.out.2
    · have HE := hidIn (sp_long hnb h0 h4)
      have hg4 : (4096 : Int) < n := by omega
      rw [HE.out.1, HE.out.2]
      generalize l.length = ln at *
      clear hnb
      go_enter Try.func18, Try.ntmps18
      go_wp2_with fail
      refine HN.out.mono ?_
      rintro x w1 ⟨rfl, q, hw1⟩
      rw [hw1]
      clear hw1 w1 HN
      go_wp2_with fail
      go_ret2
      exact ⟨none, 0, rfl, World.ownsRow_nil _ _ _ _, below_drewN (Below.refl _ _) q⟩
  · have HE := hidIn (sp_no hbad)
    rw [HE.out.1, HE.out.2]
    obtain ⟨bq, hbq⟩ : ∃ bq, nbOk l = bq := ⟨_, rfl⟩
    rw [hbq] at HN hbad
    generalize l.length = ln at *
    clear hbq
    cases bq
    · clear hbad
      go_enter Try.func18, Try.ntmps18
      go_wp2_with fail
      refine HN.out.mono ?_
      rintro x w1 ⟨rfl, q, hw1⟩
      rw [hw1]
      clear hw1 w1 HN
      go_wp2_with fail
      go_ret2
      exact ⟨none, 0, rfl, World.ownsRow_nil _ _ _ _, below_drewN (Below.refl _ _) q⟩
    · have hn0 : n < 0 := by simpa using hbad
      clear hbad
      go_enter Try.func18, Try.ntmps18
      go_wp2_with fail
      refine HN.out.mono ?_
      rintro x w1 ⟨rfl, q, hw1⟩
      rw [hw1]
      clear hw1 w1 HN
      go_wp2_with fail
      go_ret2
      exact ⟨none, 0, rfl, World.ownsRow_nil _ _ _ _, below_drewN (Below.refl _ _) q⟩
end Go.Proofs.Ytcgndpenalcpeaa
