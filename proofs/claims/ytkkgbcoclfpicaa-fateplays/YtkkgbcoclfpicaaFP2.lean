/- FatePlays: the document's Count, Left. -/
import Derived.Test.YtkkgbcoclfpicaaFP1
namespace Go.Proofs.Ytkkgbcoclfpicaa.Fa
open Go.RowKit

theorem SlAt_i2 {w : World} {v : Value} {l : List (Int × Int)} (h : SlAt i2C 2 w v l) : ∃ a cap, v = .slice a l.length cap ∧ (0 < l.length → ∃ bk o, a = some ⟨bk, o, none⟩ ∧ bk < w.heap.size ∧ ∀ j e, l[j]? = some e → w.cell? ⟨bk, o + j * 2, none⟩ = some (.int .i64 e.1) ∧ w.cell? ⟨bk, o + j * 2 + 1, none⟩ = some (.int .i64 e.2)) := by
  obtain ⟨a, cap, rfl, h0, h1, h2⟩ := h
  refine ⟨a, cap, rfl, fun hp => ?_⟩
  obtain ⟨bk, o, rfl, h3, h4⟩ := h2 hp
  exact ⟨bk, o, rfl, h3, fun j z hz => ⟨h4 j z hz 0 _ rfl, h4 j z hz 1 _ rfl⟩⟩
set_option maxRecDepth 100000 in
set_option maxHeartbeats 4000000 in
theorem dcount_any {A : List (Int × Int)} {ra : Option Addr} {rn rc : Nat} {u : Value} {w : World} (h : SlAt i2C 2 w u A) (hA : A.length ≤ 1000) (a b : Int) :
    Calls Try.prog 13 #[.agg #[.slice ra rn rc, u], .int .i64 a, .int .i64 b] w fun e w' => e = .returned (.int .i64 (cntP A a b : Int)) ∧ Below w.heap.size w w' := by
  obtain ⟨ua, uc, rfl, hat⟩ := SlAt_i2 h
  obtain ⟨n, hn⟩ : ∃ n, A.length = n := ⟨_, rfl⟩
  rw [hn] at hat hA ⊢
  have Ha := hidIn hat
  have Hn := hidIn hn
  obtain ⟨W1, hW1⟩ : ∃ W1, w.alloc (.cells #[.slice ra rn rc, .slice ua n uc] 35) = W1 := ⟨_, rfl⟩
  have b1 : Below w.heap.size w W1 := by rw [← hW1]; exact (Below.refl _ w).alloc (Nat.le_refl _) _
  have hX : W1.heap[w.heap.size]? = some (.cells #[.slice ra rn rc, .slice ua n uc] 35) := by rw [← hW1]; exact heap_alloc_last w _
  obtain ⟨q, hq⟩ : ∃ q, w.heap.size = q := ⟨_, rfl⟩
  rw [hq] at hX
  have HX := hidIn hX
  have Hb1 := hidIn b1
  have HW := hidIn hW1
  have HQ := hidIn hq
  clear h hat hn b1 hX hW1 hq
  go_enter Try.func13, Try.ntmps13
  go_upto_region 1 with fail
  rw [HW.out, HQ.out]
  clear HW
  go_wp2_with fail
  go_loopw [7, 8] (fun nv iv wr => ∃ (j m : Nat), j ≤ n ∧ iv = .int .i64 j ∧ nv = .int .i64 m ∧ Hid (m = cntP (A.take j) a b ∧ Below W1.heap.size W1 wr)) (fun _ iv _ => n - (intOf iv).toNat)
  case atStart => exact ⟨0, 0, Nat.zero_le _, rfl, rfl, hidIn ⟨rfl, Below.refl _ _⟩⟩
  case round =>
    obtain ⟨j, m, hj, rfl, rfl, HR⟩ := hrel
    have hm : m ≤ 1000 := by have := cntP_le (A.take j) a b; have := HR.out.1; rw [List.length_take] at *; omega
    have hX := (HR.out.2.block q (block_lt HX.out)).trans HX.out
    have x1 := cell_of_row _ _ 1 _ _ _ hX
    simp at x1
    clear hX
    by_cases hlt : j < n
    · have hji : (j : Int) < (n : Int) := by omega
      obtain ⟨bk, o, rfl, hbk, hcell⟩ := Ha.out (by omega)
      obtain ⟨⟨p0, p1⟩, hp⟩ : ∃ p, A[j]? = some p := ⟨A[j]'(by have := Hn.out; omega), List.getElem?_eq_getElem _⟩
      obtain ⟨q0, q1⟩ := hcell j _ hp
      have hb2 := Hb1.out.trans (HR.out.2.mono Hb1.out.size)
      have c0 := (hb2.cell (p := ⟨bk, o + j * 2, none⟩) hbk).trans q0
      have c1 := (hb2.cell (p := ⟨bk, o + j * 2 + 1, none⟩) hbk).trans q1
      simp only at c0 c1
      obtain ⟨e1, he1⟩ : ∃ e, (p0 == a) = e := ⟨_, rfl⟩
      obtain ⟨e2, he2⟩ : ∃ e, (p1 == b) = e := ⟨_, rfl⟩
      have HN : Hid (cntP (A.take (j + 1)) a b = m + (if (e1 && e2) = true then 1 else 0)) := hidIn (by rw [take_snoc hp, cntP_snoc, ← HR.out.1, he1, he2])
      have HB := hidIn HR.out.2
      clear hcell hbk hp q0 q1 hb2 HR
      cases e1 with
      | false =>
        clear he2 c1
        go_wp2_with fail
        go_roundw
        case rel => exact ⟨j + 1, m, by omega, by go_num, rfl, hidIn ⟨by rw [HN.out]; rfl, HB.out⟩⟩
        case measure => simp [intOf]; omega
      | true =>
        cases e2 with
        | false =>
          go_wp2_with fail
          go_roundw
          case rel => exact ⟨j + 1, m, by omega, by go_num, rfl, hidIn ⟨by rw [HN.out]; rfl, HB.out⟩⟩
          case measure => simp [intOf]; omega
        | true =>
          go_wp2_with fail
          go_roundw
          case rel => exact ⟨j + 1, m + 1, by omega, by go_num, by go_num, hidIn ⟨by rw [HN.out]; rfl, HB.out⟩⟩
          case measure => simp [intOf]; omega
    · have hji : ¬ (j : Int) < (n : Int) := by omega
      have hm' : Hid (m = cntP A a b) := hidIn (by rw [HR.out.1, List.take_of_length_le (by have := Hn.out; omega)])
      have HB := hidIn (Hb1.out.trans (HR.out.2.mono Hb1.out.size))
      clear HR
      go_wp2_with fail
      go_ret
      exact ⟨by rw [hm'.out]; rfl, HB.out⟩
set_option maxRecDepth 100000 in
set_option maxHeartbeats 4000000 in
theorem dleft_any {l : List Ru} {A : List (Int × Int)} {v u : Value} {w : World} (g : SlAt ruC 5 w v l) (h : SlAt i2C 2 w u A) (hl : l.length ≤ 1000) (hA : A.length ≤ 1000) :
    Calls Try.prog 15 #[.agg #[v, u]] w fun e w' => e = .returned (.int .i64 (leftD l A : Int)) ∧ Below w.heap.size w w' := by
  obtain ⟨ra, rc, rfl, _, hat⟩ := SlAt_rus g
  obtain ⟨ua, uc, rfl, _⟩ := SlAt_i2 h
  obtain ⟨n, hn⟩ : ∃ n, l.length = n := ⟨_, rfl⟩
  obtain ⟨an, han⟩ : ∃ n, A.length = n := ⟨_, rfl⟩
  rw [hn] at hat hl ⊢
  rw [han] at h ⊢
  have Ha := hidIn hat
  have Hn := hidIn hn
  have HAn : Hid (A.length ≤ 1000) := hidIn hA
  have HU := hidIn h
  obtain ⟨W1, hW1⟩ : ∃ W1, w.alloc (.cells #[.slice ra n rc, .slice ua an uc] 35) = W1 := ⟨_, rfl⟩
  have b1 : Below w.heap.size w W1 := by rw [← hW1]; exact (Below.refl _ w).alloc (Nat.le_refl _) _
  have hX : W1.heap[w.heap.size]? = some (.cells #[.slice ra n rc, .slice ua an uc] 35) := by rw [← hW1]; exact heap_alloc_last w _
  obtain ⟨q, hq⟩ : ∃ q, w.heap.size = q := ⟨_, rfl⟩
  rw [hq] at hX
  have HX := hidIn hX
  have Hb1 := hidIn b1
  have HW := hidIn hW1
  have HQ := hidIn hq
  clear g h hat hn han hA b1 hX hW1 hq
  go_enter Try.func15, Try.ntmps15
  go_upto_region 1 with fail
  rw [HW.out, HQ.out]
  clear HW
  go_wp2_with fail
  go_loopw [3, 4] (fun nv iv wr => ∃ (j m : Nat), j ≤ n ∧ iv = .int .i64 j ∧ nv = .int .i64 m ∧ Hid (m = leftD (l.take j) A ∧ Below W1.heap.size W1 wr)) (fun _ iv _ => n - (intOf iv).toNat)
  case atStart => exact ⟨0, 0, Nat.zero_le _, rfl, rfl, hidIn ⟨rfl, Below.refl _ _⟩⟩
  case round =>
    obtain ⟨j, m, hj, rfl, rfl, HR⟩ := hrel
    have hm : m ≤ 1000 := by
      have h1 := HR.out.1
      have h2 : leftD (l.take j) A ≤ (l.take j).length := List.length_filter_le _ _
      rw [List.length_take] at h2
      omega
    have hX := (HR.out.2.block q (block_lt HX.out)).trans HX.out
    by_cases hlt : j < n
    · have hji : (j : Int) < (n : Int) := by omega
      obtain ⟨bk, o, rfl, hbk, hcell⟩ := Ha.out (by omega)
      obtain ⟨⟨r0, r1, r2, r3, r4⟩, hr⟩ : ∃ r, l[j]? = some r := ⟨l[j]'(by have := Hn.out; omega), List.getElem?_eq_getElem _⟩
      obtain ⟨q0, q1, q2, q3, q4⟩ := hcell j _ hr
      have hb2 := Hb1.out.trans (HR.out.2.mono Hb1.out.size)
      have c0 := cell_regrown ((hb2.cell (p := ⟨bk, o + j * 5, none⟩) hbk).trans q0)
      have c1 := cell_regrown ((hb2.cell (p := ⟨bk, o + j * 5 + 1, none⟩) hbk).trans q1)
      have c2 := cell_regrown ((hb2.cell (p := ⟨bk, o + j * 5 + 2, none⟩) hbk).trans q2)
      simp only at c0 c1 c2
      have HC : Hid (∀ dq osq, Calls Try.prog 13 #[.agg #[.slice (some ⟨bk, o, none⟩) n rc, .slice ua an uc], .int .i64 r0, .int .i64 r1] (Go.Sort.grow (redrawn wr dq) osq) fun e w' => e = .returned (.int .i64 (cntP A r0 r1 : Int)) ∧ Below (Go.Sort.grow (redrawn wr dq) osq).heap.size (Go.Sort.grow (redrawn wr dq) osq) w') := hidIn fun dq osq =>
        dcount_any (HU.out.keep (hb2.trans ((below_regrown wr dq osq).mono hb2.size)) (Nat.le_refl _)) HAn.out r0 r1
      have x0 := cell_of_row _ _ 0 _ _ _ hX
      have x1 := cell_of_row _ _ 1 _ _ _ hX
      simp at x0 x1
      have y0 := cell_regrown x0
      have y1 := cell_regrown x1
      obtain ⟨z, hz⟩ : ∃ z, cntP A r0 r1 = z := ⟨_, rfl⟩
      rw [hz] at HC
      have HN : Hid (leftD (l.take (j + 1)) A = m + (if (z : Int) < r2 then 1 else 0)) := hidIn (by
        have h1 := HR.out.1
        unfold leftD at h1 ⊢
        rw [take_snoc hr, List.filter_append, List.length_append, ← h1]
        congr 1
        by_cases hlt2 : (z : Int) < r2
        · rw [if_pos hlt2, List.filter_cons_of_pos (by simpa [hz] using hlt2)]; rfl
        · rw [if_neg hlt2, List.filter_cons_of_neg (by simpa [hz] using hlt2)]; rfl)
      have HB := hidIn HR.out.2
      clear hcell hbk hr q0 q1 q2 q3 q4 hb2 HR hX hz
      by_cases hz2 : (z : Int) < r2
      · rw [if_pos hz2] at HN
        go_upto_region 5 with fail
        refine wp_region_quiet_below (by kernel_rfl) (by kernel_rfl) ?_
        repeat (go_big_quiet_step (first | (go_at_call 13; exact Calls.regrown_of (HC.out _ _))))
        refine wpQuiet_nil ?_
        intro _ hw'
        obtain ⟨⟨dq, osq⟩, hw''⟩ := hw'
        subst hw''
        have hq5 := below_regrown wr dq osq
        generalize Go.Sort.grow (redrawn wr dq) osq = W5x at hq5 ⊢
        have HBn := hidIn (HB.out.trans (hq5.mono HB.out.size))
        clear hq5 c0 c1 c2 x0 x1 y0 y1
        go_wp2_with fail
        go_roundw
        case rel => exact ⟨j + 1, m + 1, by omega, by go_num, by go_num, hidIn ⟨by rw [HN.out], HBn.out⟩⟩
        case measure => simp [intOf]; omega
      · rw [if_neg hz2] at HN
        go_upto_region 5 with fail
        refine wp_region_quiet_below (by kernel_rfl) (by kernel_rfl) ?_
        repeat (go_big_quiet_step (first | (go_at_call 13; exact Calls.regrown_of (HC.out _ _))))
        refine wpQuiet_nil ?_
        intro _ hw'
        obtain ⟨⟨dq, osq⟩, hw''⟩ := hw'
        subst hw''
        have hq5 := below_regrown wr dq osq
        generalize Go.Sort.grow (redrawn wr dq) osq = W5x at hq5 ⊢
        have HBn := hidIn (HB.out.trans (hq5.mono HB.out.size))
        clear hq5 c0 c1 c2 x0 x1 y0 y1
        go_wp2_with fail
        go_roundw
        case rel => exact ⟨j + 1, m, by omega, by go_num, rfl, hidIn ⟨by rw [HN.out]; rfl, HBn.out⟩⟩
        case measure => simp [intOf]; omega
    · have hji : ¬ (j : Int) < (n : Int) := by omega
      have hm' : Hid (m = leftD l A) := hidIn (by rw [HR.out.1, List.take_of_length_le (by have := Hn.out; omega)])
      have HB := hidIn (Hb1.out.trans (HR.out.2.mono Hb1.out.size))
      have x0 := cell_of_row _ _ 0 _ _ _ hX
      simp at x0
      clear HR hX
      go_wp2_with fail
      go_ret
      exact ⟨by rw [hm'.out]; rfl, HB.out⟩
end Go.Proofs.Ytkkgbcoclfpicaa.Fa
