/- fate: New, Check, Left, Asked. -/
import Derived.Test.YtkhfpcnmnnboeaaFA4
namespace Go.Proofs.Ytkhfpcnmnnboeaa.Fa
open Go.RowKit

set_option maxRecDepth 100000 in
theorem fnew_no {l : List Ru} {v : Value} {w : World} (h : SlAt ruC 5 w v l) {n c : Int} (hc : chkR l = (n, c)) (hne : c ≠ 0) :
    Calls Try.prog 36 #[v] w fun e w' => e = .returned (.tuple #[nilQ, .int .i64 c]) ∧ Below w.heap.size w w' := by
  have HG := hidIn (gather_any h)
  have HC := hidIn hc
  have HN := hidIn hne
  have hq : (c != 0) = true := by simpa using hne
  clear h hc hne
  go_enter Try.func36, Try.ntmps36
  go_wp2_with fail
  refine HG.out.mono ?_
  rintro e w1 ⟨n', c', he, hb, hr⟩
  rw [HC.out] at he
  cases he
  have HB := hidIn hb
  clear hb
  rcases hr with ⟨_, rfl⟩ | ⟨rfl, rfl, B, _, rfl, _⟩
  · go_wp2_with fail
    refine bodyPost_ret (v := .tuple #[nilQ, .int .i64 c]) (by simp [results, Try.results36, asAddr, go_sem]) rfl ⟨rfl, HB.out⟩
  · exact absurd rfl HN.out
set_option maxRecDepth 100000 in
theorem fnew_ok {l : List Ru} {v : Value} {w : World} (h : SlAt ruC 5 w v l) (hc : chkR l = (0, 0)) :
    Calls Try.prog 36 #[v] w fun e w' => ∃ P m, e = .returned (.tuple #[pp P, .int .i64 0]) ∧ PlAt w' P m l no2 ∧ w.heap.size ≤ P ∧ w.heap.size ≤ m ∧ Below w.heap.size w w' := by
  have HG := hidIn (gather_any h)
  have HC := hidIn hc
  clear h hc
  obtain ⟨ZA, hZA⟩ : ∃ ZA, (ccl no2).toArray = ZA := ⟨_, rfl⟩
  have HMD := fun m w => hidIn (made_any m no2 w)
  rw [hZA] at HMD
  have HZ := hidIn hZA
  clear hZA
  go_enter Try.func36, Try.ntmps36
  go_wp2_with fail
  refine HG.out.mono ?_
  rintro e w1 ⟨n', c', he, hb, hr⟩
  rw [HC.out] at he
  cases he
  have HB := hidIn hb
  clear hb
  rcases hr with ⟨hne, _⟩ | ⟨_, _, B, hB, rfl, hM⟩
  · exact absurd rfl hne
  · have HM := hidIn hM
    have HL := hidIn hB
    clear hM hB
    go_wp2_with (refine l_buildCo0 rfl rfl ?_; rw [HZ.out])
    refine (HMD B w1).out.mono ?_
    rintro e w2 ⟨rfl, hP, hb2⟩
    have HP : Hid (PlAt w2 (w1.heap.size + 1) B l no2) := hidIn ⟨hP, HM.out.below hb2 HM.out.lt⟩
    have HB2 := hidIn (HB.out.trans (hb2.mono HB.out.size))
    clear hP hb2
    obtain ⟨P, hP⟩ : ∃ P, w1.heap.size + 1 = P := ⟨_, rfl⟩
    have HPs : Hid (w.heap.size ≤ P) := hidIn (by have := HB.out.size; omega)
    rw [hP] at HP ⊢
    clear hP
    go_wp2_with fail
    refine bodyPost_ret (v := .tuple #[pp P, .int .i64 0]) (by simp [results, Try.results36, asAddr, go_sem]) rfl ⟨P, B, rfl, HP.out, HPs.out, HL.out, HB2.out⟩
end Go.Proofs.Ytkhfpcnmnnboeaa.Fa
