/- fate: New, Check, Left, Asked. -/
import Derived.Test.YtkkgbcoclfpicaaFA4
namespace Go.Proofs.Ytkkgbcoclfpicaa.Fa
open Go.RowKit

set_option maxRecDepth 100000 in
theorem fcheck_any {l : List Ru} {v : Value} {w : World} (h : SlAt ruC 5 w v l) {n c : Int} (hc : chkR l = (n, c)) :
    Calls Try.prog 6 #[v] w fun e w' => e = .returned (.tuple #[.int .i64 n, .int .i64 c]) ∧ Below w.heap.size w w' := by
  have HG := hidIn (gather_any h)
  have HC := hidIn hc
  clear h hc
  go_enter Try.func6, Try.ntmps6
  go_wp2_with fail
  refine HG.out.mono ?_
  rintro e w1 ⟨n', c', he, hb, hr⟩
  rw [HC.out] at he
  cases he
  have HB := hidIn hb
  clear hb
  rcases hr with ⟨_, rfl⟩ | ⟨rfl, rfl, B, _, rfl, _⟩
  · go_wp2_with fail
    refine bodyPost_ret (v := .tuple #[.int .i64 n, .int .i64 c]) (by simp [results, Try.results6, asAddr, go_sem]) rfl ⟨rfl, HB.out⟩
  · go_wp2_with fail
    refine bodyPost_ret (v := .tuple #[.int .i64 0, .int .i64 0]) (by simp [results, Try.results6, asAddr, go_sem]) rfl ⟨rfl, HB.out⟩
set_option maxRecDepth 100000 in
theorem fnew_no {l : List Ru} {v : Value} {w : World} (h : SlAt ruC 5 w v l) {n c : Int} (hc : chkR l = (n, c)) (hne : c ≠ 0) :
    Calls Try.prog 8 #[v] w fun e w' => e = .returned (.tuple #[nilQ, .int .i64 c]) ∧ Below w.heap.size w w' := by
  have HG := hidIn (gather_any h)
  have HC := hidIn hc
  have HN := hidIn hne
  have hq : (c != 0) = true := by simpa using hne
  clear h hc hne
  go_enter Try.func8, Try.ntmps8
  go_wp2_with fail
  refine HG.out.mono ?_
  rintro e w1 ⟨n', c', he, hb, hr⟩
  rw [HC.out] at he
  cases he
  have HB := hidIn hb
  clear hb
  rcases hr with ⟨_, rfl⟩ | ⟨rfl, rfl, B, _, rfl, _⟩
  · go_wp2_with fail
    refine bodyPost_ret (v := .tuple #[nilQ, .int .i64 c]) (by simp [results, Try.results8, asAddr, go_sem]) rfl ⟨rfl, HB.out⟩
  · exact absurd rfl HN.out
set_option maxRecDepth 100000 in
theorem fnew_ok {l : List Ru} {v : Value} {w : World} (h : SlAt ruC 5 w v l) (hc : chkR l = (0, 0)) :
    Calls Try.prog 8 #[v] w fun e w' => ∃ P m, e = .returned (.tuple #[pp P, .int .i64 0]) ∧ PlAt w' P m l no2 ∧ w.heap.size ≤ P ∧ w.heap.size ≤ m ∧ Below w.heap.size w w' := by
  have HG := hidIn (gather_any h)
  have HC := hidIn hc
  clear h hc
  obtain ⟨ZA, hZA⟩ : ∃ ZA, (ccl no2).toArray = ZA := ⟨_, rfl⟩
  have HMD := fun m w => hidIn (made_any m no2 w)
  rw [hZA] at HMD
  have HZ := hidIn hZA
  clear hZA
  go_enter Try.func8, Try.ntmps8
  go_wp2_with fail
  refine HG.out.mono ?_
  rintro e w1 ⟨n', c', he, hb, hr⟩
  rw [HC.out] at he
  cases he
  have HB := hidIn hb
  clear hb
  rcases hr with ⟨hne, _⟩ | ⟨_, _, B, hB, rfl, hM⟩
  · exact absurd rfl hne
  · have HM := hidIn hM
    have HL := hidIn hB
    clear hM hB
    go_wp2_with (refine l_buildCo0 rfl rfl ?_; rw [HZ.out])
    refine (HMD B w1).out.mono ?_
    rintro e w2 ⟨rfl, hP, hb2⟩
    have HP : Hid (PlAt w2 (w1.heap.size + 1) B l no2) := hidIn ⟨hP, HM.out.below hb2 HM.out.lt⟩
    have HB2 := hidIn (HB.out.trans (hb2.mono HB.out.size))
    clear hP hb2
    obtain ⟨P, hP⟩ : ∃ P, w1.heap.size + 1 = P := ⟨_, rfl⟩
    have HPs : Hid (w.heap.size ≤ P) := hidIn (by have := HB.out.size; omega)
    rw [hP] at HP ⊢
    clear hP
    go_wp2_with fail
    refine bodyPost_ret (v := .tuple #[pp P, .int .i64 0]) (by simp [results, Try.results8, asAddr, go_sem]) rfl ⟨P, B, rfl, HP.out, HPs.out, HL.out, HB2.out⟩
set_option maxRecDepth 100000 in
theorem fleft_any {P m : Nat} {l : List Ru} {c : Nat → Nat → Int} {w : World} (h : PlAt w P m l c) : Calls Try.prog 14 #[pp P] w fun e w' => e = .returned (.int .i64 l.length) ∧ w' = w := by
  have HT := hidIn (fthere_yes h.b.self)
  have c1 := h.b.map
  have HL := hidIn (h.m.size 3)
  clear h
  go_enter Try.func14, Try.ntmps14
  go_wp2_with (first
    | (go_at_call 23; refine HT.out.mono ?_; rintro e w1 ⟨rfl, hw1⟩; rw [hw1]; clear hw1 w1)
    | (refine l_len9 rfl _ _ rfl HL.out ?_))
  go_ret
  exact ⟨rfl, rfl⟩
set_option maxRecDepth 100000 in
theorem fasked_no {P m : Nat} {c : Nat → Nat → Int} {w : World} (h : PlB w P m c) {a b : Int} (hp : isP a b = false) : Calls Try.prog 12 #[pp P, .int .i64 a, .int .i64 b] w fun e w' => e = .returned (.int .i64 0) ∧ w' = w := by
  have HT := hidIn (fthere_yes h.self)
  have HP := hidIn (ftisP_any a b w)
  rw [hp] at HP
  clear h hp
  go_enter Try.func12, Try.ntmps12
  go_wp2_with (first
    | (go_at_call 23; refine HT.out.mono ?_; rintro e w1 ⟨rfl, hw1⟩; rw [hw1]; clear hw1 w1)
    | (go_at_call 24; refine HP.out.mono ?_; rintro e w1 ⟨rfl, hw1⟩; rw [hw1]; clear hw1 w1))
  go_ret
  exact ⟨rfl, rfl⟩
set_option maxRecDepth 100000 in
theorem fasked_yes {P m : Nat} {c : Nat → Nat → Int} {w : World} (h : PlB w P m c) {a b : Nat} (hp : isP a b = true) : Calls Try.prog 12 #[pp P, .int .i64 a, .int .i64 b] w fun e w' => e = .returned (.int .i64 (c a b)) ∧ w' = w := by
  have HT := hidIn (fthere_yes h.self)
  have HP := hidIn (ftisP_any a b w)
  rw [hp] at HP
  have hq := isP_iff.1 hp
  have ha : (a : Int) < 25 := by omega
  have hb : (b : Int) < 25 := by omega
  have ha' : a < 25 := by omega
  have hb' : b < 25 := by omega
  have c1 := h.at ha' hb'
  clear h hp hq
  go_enter Try.func12, Try.ntmps12
  go_wp2_with (first
    | (go_at_call 23; refine HT.out.mono ?_; rintro e w1 ⟨rfl, hw1⟩; rw [hw1]; clear hw1 w1)
    | (go_at_call 24; refine HP.out.mono ?_; rintro e w1 ⟨rfl, hw1⟩; rw [hw1]; clear hw1 w1))
  go_ret
  exact ⟨rfl, rfl⟩
end Go.Proofs.Ytkkgbcoclfpicaa.Fa
