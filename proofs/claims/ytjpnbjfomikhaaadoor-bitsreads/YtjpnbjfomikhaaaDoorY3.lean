/- The document's Parse. -/
import Derived.Test.YtjpnbjfomikhaaaDoorY2
import Derived.Test.YtjpnbjfomikhaaaDoorRV
namespace Go.Proofs.YtjpnbjfomikhaaaDoor
open Go.RowKit

/-- Where the scan stands behind k rounds. -/
def stAt (l : List UInt8) (k : Nat) : Nat × Nat := if k ≤ l.length then (l.take k).foldl sc (0, 0) else (0, scan l)
theorem stAt_zero (l : List UInt8) : stAt l 0 = (0, 0) := by unfold stAt; rw [if_pos (Nat.zero_le _)]; rfl
theorem stAt_next {l : List UInt8} {k : Nat} {c : UInt8} (h : l[k]? = some c) : stAt l (k + 1) = sc (stAt l k) c := by
  have hlt := (List.getElem?_eq_some_iff.1 h).1
  unfold stAt
  rw [if_pos (by omega), if_pos (by omega), List.take_add_one, h, List.foldl_append]
  rfl
theorem stAt_end (l : List UInt8) : stAt l (l.length + 1) = (0, scEnd (stAt l l.length)) := by
  unfold stAt
  rw [if_neg (by omega), if_pos (Nat.le_refl _), List.take_length]
  rfl
theorem stAt_bound (l : List UInt8) (k : Nat) : (stAt l k).1 ≤ 2569 := by
  unfold stAt
  split
  · exact (fold_bound _ (0, 0) (by simp) (Nat.two_pow_pos 256)).1
  · simp
/-- The text of a bit string. -/
def textOf (N : Nat) : ByteArray := if N = 0 then ⟨#[45]⟩ else tb (lst N)
theorem rtext_gen (N : Nat) (hN : N < 2 ^ 256) (w : World) : Calls Tryd.prog 14 #[bs N] w fun e w' => e = .returned (.string (textOf N)) ∧ Below w.heap.size w w' := by
  unfold textOf
  by_cases h : N = 0
  · subst h; rw [if_pos rfl]; exact rtext_none w
  · rw [if_neg h]; exact rtext_some N hN h w
set_option maxRecDepth 100000 in
set_option maxHeartbeats 1000000 in
theorem rparse_long (s : ByteArray) (h : 1024 < s.size) (hs : s.size ≤ 140737488351232) (w : World) :
    Calls Tryd.prog 25 #[.string s] w fun e w' => e = .returned (.tuple #[bs 0, .int .i64 4]) ∧ Below w.heap.size w w' := by
  have hn := hasBs_new w 0
  simp only [wd_zero] at hn
  obtain ⟨c0, c1, c2, c3, f0, f1, f2, f3, lt⟩ := hn
  have h' : (1024 : Int) < (s.size : Int) := by omega
  go_enter Tryd.func25, Tryd.ntmps25
  go_wp2
  refine bodyPost_ret (v := .tuple #[bs 0, .int .i64 4]) (by simp [results, Tryd.results25, go_sem, bs, wd_zero]) rfl ⟨rfl, by go_grown⟩
set_option maxRecDepth 100000 in
set_option maxHeartbeats 4000000 in
theorem rparse_any (s : ByteArray) (hs : s.size ≤ 1024) (w : World) :
    Calls Tryd.prog 25 #[.string s] w fun e w' => ((textOf (scan s.data.toList) = s ∧ e = .returned (.tuple #[bs (scan s.data.toList), .int .i64 0])) ∨ (textOf (scan s.data.toList) ≠ s ∧ e = .returned (.tuple #[bs 0, .int .i64 4]))) ∧ Below w.heap.size w w' := by
  obtain ⟨l, hl⟩ : ∃ l, s.data.toList = l := ⟨_, rfl⟩
  have hll : l.length = s.size := by rw [← hl]; simp
  have HLL := hidIn hl
  have hs0 : ¬ (1024 : Int) < (s.size : Int) := by omega
  clear hl
  go_enter Tryd.func25, Tryd.ntmps25
  go_wp2
  go_loopw [5, 6] (fun n i wr => ∃ k : Nat, k ≤ s.size + 1 ∧ i = .int .i64 k ∧ n = .int .i64 ((stAt l k).1 : Nat) ∧ HasBs wr (w.heap.size + 1) (stAt l k).2 ∧ HasBs wr w.heap.size 0 ∧ Below w.heap.size w wr) (fun _ i _ => s.size + 1 - (intOf i).toNat)
  case atStart =>
    have k0 := hasBs_new w 0
    have k1 := hasBs_new (w.alloc (.cells #[.int .u64 (wd 0 0), .int .u64 (wd 0 1), .int .u64 (wd 0 2), .int .u64 (wd 0 3)] 24)) 0
    have k0' := k0.alloc (.cells #[.int .u64 (wd 0 0), .int .u64 (wd 0 1), .int .u64 (wd 0 2), .int .u64 (wd 0 3)] 24)
    simp only [World.size_alloc, wd_zero] at k1 k0'
    refine ⟨0, by omega, rfl, ?_, ?_, k0', by go_grown⟩
    · rw [stAt_zero]; rfl
    · rw [stAt_zero]; exact k1
  case round =>
    obtain ⟨k, hk, rfl, rfl, hB, hR, hbel⟩ := hrel
    have hab := stAt_bound l k
    by_cases hle : k ≤ s.size
    · have hki : (k : Int) ≤ (s.size : Int) := by omega
      by_cases hlt : k < s.size
      · have hki2 : (k : Int) < (s.size : Int) := by omega
        have hlk : l[k]? = some (s[k]'hlt) := by
          rw [← HLL.out, List.getElem?_eq_getElem (by simpa using hlt)]
          rfl
        have HN := hidIn (stAt_next hlk)
        have hc256 := UInt8.toNat_lt (s[k]'hlt)
        obtain ⟨st, hst⟩ : ∃ st, stAt l k = st := ⟨_, rfl⟩
        rw [hst] at hab hB HN ⊢
        clear hst
        obtain ⟨a, X⟩ := st
        simp only at hab hB ⊢
        generalize hc : (s[k]'hlt) = c at HN hc256
        have HCC := hidIn hc
        by_cases hd : 48 ≤ c.toNat ∧ c.toNat ≤ 57 ∧ a ≤ 256
        · have HS : Hid (stAt l (k + 1) = (10 * a + (c.toNat - 48), X)) := hidIn (by rw [HN.out]; unfold sc; rw [if_pos hd])
          obtain ⟨h48, h57, ha⟩ := hd
          rw [← hc] at h48 h57 HS hc256
          have i48 : (48 : Int) ≤ ((s[k]'hlt).toNat : Int) := by omega
          have i57 : ((s[k]'hlt).toNat : Int) ≤ 57 := by omega
          have ia : (a : Int) ≤ 256 := by omega
          clear HN hc HCC
          have HB := hidIn hB
          have HR := hidIn hR
          clear hB hR
          go_wp2
          go_roundw
          case rel => exact ⟨k + 1, by omega, by go_num, by rw [HS.out]; go_num, by rw [HS.out]; exact HB.out, HR.out, hbel⟩
          case measure => simp [intOf]; omega
        · have HS0 : Hid (stAt l (k + 1) = (0, if 1 ≤ a ∧ a ≤ 256 then X ||| 2 ^ (a - 1) else X)) := hidIn (by rw [HN.out]; unfold sc; rw [if_neg hd])
          rw [← hc] at hd hc256
          clear HN hc HCC
          by_cases h48 : 48 ≤ (s[k]'hlt).toNat
          · have i48 : (48 : Int) ≤ ((s[k]'hlt).toNat : Int) := by omega
            by_cases h57 : (s[k]'hlt).toNat ≤ 57
            · have i57 : ((s[k]'hlt).toNat : Int) ≤ 57 := by omega
              have ia : ¬ (a : Int) ≤ 256 := by omega
              clear hd
              have HS : Hid (stAt l (k + 1) = (0, X)) := hidIn (by rw [HS0.out, if_neg (by omega)])
              clear HS0
              have HB := hidIn hB
              have HR := hidIn hR
              clear hB hR
              go_wp2_with fail
              refine (right_no _ (by omega) _).mono ?_
              rintro e w2 ⟨rfl, hw2⟩
              rw [hw2]
              clear hw2 w2
              go_wp2
              go_roundw
              case rel => exact ⟨k + 1, by omega, by go_num, by rw [HS.out]; rfl, by rw [HS.out]; exact HB.out, HR.out, hbel⟩
              case measure => simp [intOf]; omega
            · have i57 : ¬ ((s[k]'hlt).toNat : Int) ≤ 57 := by omega
              clear hd
              by_cases hr : 1 ≤ a ∧ a ≤ 256
              · have HS : Hid (stAt l (k + 1) = (0, X ||| 2 ^ (a - 1))) := hidIn (by rw [HS0.out, if_pos hr])
                rw [show a - 1 = a - 1 from rfl] at HS
                have hr1 := hr.1
                have hr2 := hr.2
                clear hr HS0
                obtain ⟨m, rfl⟩ : ∃ m, a = m + 1 := ⟨a - 1, by omega⟩
                have HB := hidIn hB
                have HR := hidIn hR
                obtain ⟨c0, c1, c2, c3, f0, f1, f2, f3, lt⟩ := hB
                clear hR
                rw [show ((m + 1 : Nat) : Int) = (m : Int) + 1 from rfl]
                go_wp2_with fail
                refine (right_yes _ (by omega) (by omega) _).mono ?_
                rintro e w2 ⟨rfl, hw2⟩
                rw [hw2]
                clear hw2 w2
                go_wp2_with fail
                refine (put_any X m (by omega) _).mono ?_
                rintro e w1 ⟨rfl, hb1⟩
                have HB1 := hidIn (HB.out.keep hb1 HB.out.lt)
                obtain ⟨q0, q1, q2, q3, r0, r1, r2, r3, _⟩ := HB1.out
                have HG := hidIn hb1
                clear hb1 c0 c1 c2 c3 f0 f1 f2 f3
                go_wp2
                go_roundw
                case rel =>
                  refine ⟨k + 1, by omega, by go_num, by rw [HS.out]; rfl, by rw [HS.out]; exact HB1.out.put _, ?_, ?_⟩
                  · exact (HR.out.keep HG.out HR.out.lt).keep (below_put (b := w.heap.size + 1) (Below.refl _ w1) (Nat.le_refl _)) (by omega)
                  · exact below_put (hbel.trans (HG.out.mono hbel.size)) (by omega)
                case measure => simp [intOf]; omega
              · have HS : Hid (stAt l (k + 1) = (0, X)) := hidIn (by rw [HS0.out, if_neg hr])
                have hr' : (a : Int) < 1 ∨ 256 < (a : Int) := by omega
                clear hr HS0
                have HB := hidIn hB
                have HR := hidIn hR
                clear hB hR
                go_wp2_with fail
                refine (right_no _ (by omega) _).mono ?_
                rintro e w2 ⟨rfl, hw2⟩
                rw [hw2]
                clear hw2 w2
                go_wp2
                go_roundw
                case rel => exact ⟨k + 1, by omega, by go_num, by rw [HS.out]; rfl, by rw [HS.out]; exact HB.out, HR.out, hbel⟩
                case measure => simp [intOf]; omega
          · have i48 : ¬ (48 : Int) ≤ ((s[k]'hlt).toNat : Int) := by omega
            clear hd
            by_cases hr : 1 ≤ a ∧ a ≤ 256
            · have HS : Hid (stAt l (k + 1) = (0, X ||| 2 ^ (a - 1))) := hidIn (by rw [HS0.out, if_pos hr])
              rw [show a - 1 = a - 1 from rfl] at HS
              have hr1 := hr.1
              have hr2 := hr.2
              clear hr HS0
              obtain ⟨m, rfl⟩ : ∃ m, a = m + 1 := ⟨a - 1, by omega⟩
              have HB := hidIn hB
              have HR := hidIn hR
              obtain ⟨c0, c1, c2, c3, f0, f1, f2, f3, lt⟩ := hB
              clear hR
              rw [show ((m + 1 : Nat) : Int) = (m : Int) + 1 from rfl]
              go_wp2_with fail
              refine (right_yes _ (by omega) (by omega) _).mono ?_
              rintro e w2 ⟨rfl, hw2⟩
              rw [hw2]
              clear hw2 w2
              go_wp2_with fail
              refine (put_any X m (by omega) _).mono ?_
              rintro e w1 ⟨rfl, hb1⟩
              have HB1 := hidIn (HB.out.keep hb1 HB.out.lt)
              obtain ⟨q0, q1, q2, q3, r0, r1, r2, r3, _⟩ := HB1.out
              have HG := hidIn hb1
              clear hb1 c0 c1 c2 c3 f0 f1 f2 f3
              go_wp2
              go_roundw
              case rel =>
                refine ⟨k + 1, by omega, by go_num, by rw [HS.out]; rfl, by rw [HS.out]; exact HB1.out.put _, ?_, ?_⟩
                · exact (HR.out.keep HG.out HR.out.lt).keep (below_put (b := w.heap.size + 1) (Below.refl _ w1) (Nat.le_refl _)) (by omega)
                · exact below_put (hbel.trans (HG.out.mono hbel.size)) (by omega)
              case measure => simp [intOf]; omega
            · have HS : Hid (stAt l (k + 1) = (0, X)) := hidIn (by rw [HS0.out, if_neg hr])
              have hr' : (a : Int) < 1 ∨ 256 < (a : Int) := by omega
              clear hr HS0
              have HB := hidIn hB
              have HR := hidIn hR
              clear hB hR
              go_wp2_with fail
              refine (right_no _ (by omega) _).mono ?_
              rintro e w2 ⟨rfl, hw2⟩
              rw [hw2]
              clear hw2 w2
              go_wp2
              go_roundw
              case rel => exact ⟨k + 1, by omega, by go_num, by rw [HS.out]; rfl, by rw [HS.out]; exact HB.out, HR.out, hbel⟩
              case measure => simp [intOf]; omega
      · have hke : k = l.length := by omega
        have hki2 : ¬ (k : Int) < (s.size : Int) := by omega
        have HN := hidIn (stAt_end l)
        rw [← hke] at HN
        obtain ⟨st, hst⟩ : ∃ st, stAt l k = st := ⟨_, rfl⟩
        rw [hst] at hab hB HN ⊢
        clear hst hke
        obtain ⟨a, X⟩ := st
        simp only at hab hB ⊢
        have HS0 : Hid (stAt l (k + 1) = (0, if 1 ≤ a ∧ a ≤ 256 then X ||| 2 ^ (a - 1) else X)) := HN
        clear HN
        by_cases hr : 1 ≤ a ∧ a ≤ 256
        · have HS : Hid (stAt l (k + 1) = (0, X ||| 2 ^ (a - 1))) := hidIn (by rw [HS0.out, if_pos hr])
          rw [show a - 1 = a - 1 from rfl] at HS
          have hr1 := hr.1
          have hr2 := hr.2
          clear hr HS0
          obtain ⟨m, rfl⟩ : ∃ m, a = m + 1 := ⟨a - 1, by omega⟩
          have HB := hidIn hB
          have HR := hidIn hR
          obtain ⟨c0, c1, c2, c3, f0, f1, f2, f3, lt⟩ := hB
          clear hR
          rw [show ((m + 1 : Nat) : Int) = (m : Int) + 1 from rfl]
          go_wp2_with fail
          refine (right_yes _ (by omega) (by omega) _).mono ?_
          rintro e w2 ⟨rfl, hw2⟩
          rw [hw2]
          clear hw2 w2
          go_wp2_with fail
          refine (put_any X m (by omega) _).mono ?_
          rintro e w1 ⟨rfl, hb1⟩
          have HB1 := hidIn (HB.out.keep hb1 HB.out.lt)
          obtain ⟨q0, q1, q2, q3, r0, r1, r2, r3, _⟩ := HB1.out
          have HG := hidIn hb1
          clear hb1 c0 c1 c2 c3 f0 f1 f2 f3
          go_wp2
          go_roundw
          case rel =>
            refine ⟨k + 1, by omega, by go_num, by rw [HS.out]; rfl, by rw [HS.out]; exact HB1.out.put _, ?_, ?_⟩
            · exact (HR.out.keep HG.out HR.out.lt).keep (below_put (b := w.heap.size + 1) (Below.refl _ w1) (Nat.le_refl _)) (by omega)
            · exact below_put (hbel.trans (HG.out.mono hbel.size)) (by omega)
          case measure => simp [intOf]; omega
        · have HS : Hid (stAt l (k + 1) = (0, X)) := hidIn (by rw [HS0.out, if_neg hr])
          have hr' : (a : Int) < 1 ∨ 256 < (a : Int) := by omega
          clear hr HS0
          have HB := hidIn hB
          have HR := hidIn hR
          clear hB hR
          go_wp2_with fail
          refine (right_no _ (by omega) _).mono ?_
          rintro e w2 ⟨rfl, hw2⟩
          rw [hw2]
          clear hw2 w2
          go_wp2
          go_roundw
          case rel => exact ⟨k + 1, by omega, by go_num, by rw [HS.out]; rfl, by rw [HS.out]; exact HB.out, HR.out, hbel⟩
          case measure => simp [intOf]; omega
    · have hke : k = l.length + 1 := by omega
      have hki : ¬ (k : Int) ≤ (s.size : Int) := by omega
      have hX : (stAt l k).2 = scan l := by rw [hke, stAt_end]; unfold scan; simp only [stAt]; rw [if_pos (Nat.le_refl _), List.take_length]
      rw [hX] at hB
      have HTx := hidIn (rtext_gen (scan l) (scan_lt l))
      rw [← HLL.out] at hB HTx
      obtain ⟨X, hX2⟩ : ∃ X, scan s.data.toList = X := ⟨_, rfl⟩
      rw [hX2] at hB HTx
      have HX := hidIn hX2
      obtain ⟨tt, htt⟩ : ∃ tt, textOf X = tt := ⟨_, rfl⟩
      rw [htt] at HTx
      have HT := hidIn htt
      clear hX htt hke hX2
      have HB := hidIn hB
      have HR := hidIn hR
      obtain ⟨c0, c1, c2, c3, _, _, _, _, _⟩ := hB
      clear hR
      go_wp2_with fail
      refine (HTx.out _).mono ?_
      rintro e w2 ⟨rfl, hb2⟩
      have hB2 : Below w.heap.size w w2 := hbel.trans (hb2.mono hbel.size)
      obtain ⟨c0', c1', c2', c3', _, _, _, _, _⟩ := HB.out.keep hb2 HB.out.lt
      obtain ⟨d0, d1, d2, d3, g0, g1, g2, g3, lt'⟩ := HR.out.keep hb2 HR.out.lt
      clear c0 c1 c2 c3 hb2 HTx HB HR
      by_cases hq : tt = s
      · have hq' : (tt.toList != s.toList) = false := by rw [hq]; simp
        go_wp2
        refine bodyPost_ret (v := .tuple #[bs X, .int .i64 0]) (by simp [results, Tryd.results25, go_sem, d0, d1, d2, d3]) rfl ⟨.inl ⟨by rw [HX.out, HT.out, hq], by rw [HX.out]⟩, below_put hB2 (Nat.le_refl _)⟩
      · have hq3 : ¬ tt.toList = s.toList := by
          intro e
          rw [ByteArray.toList_eq, ByteArray.toList_eq] at e
          exact hq (ba_ext e)
        have hq2 : (tt.toList == s.toList) = false := by rw [beq_eq_false_iff_ne]; exact hq3
        have hq' : (tt.toList != s.toList) = true := by rw [bne_iff_ne]; exact hq3
        go_wp2
        refine bodyPost_ret (v := .tuple #[bs 0, .int .i64 4]) (by simp [results, Tryd.results25, go_sem, bs, wd_zero, d0, d1, d2, d3]) rfl ⟨.inr ⟨by rw [HX.out, HT.out]; exact hq, rfl⟩, below_zero hB2⟩
end Go.Proofs.YtjpnbjfomikhaaaDoor
