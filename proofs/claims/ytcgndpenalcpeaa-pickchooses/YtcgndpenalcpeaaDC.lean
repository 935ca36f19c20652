/- PickChooses. -/
import Derived.Test.YtcgndpenalcpeaaDR
import Derived.Test.YtcgndpenalcpeaaDP
namespace Go.Proofs.Ytcgndpenalcpeaa
open Go.RowKit

theorem slAt_front {w : World} {base g cap : Nat} {l : List Int} {x : Int} (hr : w.ownsRow base 3 1 (.slice (some ⟨g, 0, none⟩) (l.length + 1) cap) (l.length + 1) (fl ic (l ++ [x]))) : SlAt ic 1 w (.slice (some ⟨g, 0, none⟩) l.length cap) l := by
  have h := slAt_of_row (cs := ic) (l := l ++ [x]) (fun _ => rfl) hr (by simp)
  have h' : SlAt ic 1 w (.slice (some ⟨g, 0, none⟩) (l ++ [x]).length cap) (l ++ [x]) := by
    rw [List.length_append]
    exact h
  have := SlAt.front h' (m := l.length) (by simp)
  rwa [List.take_left] at this
theorem row_last {w : World} {base g cap : Nat} {l : List Int} {x : Int} (hr : w.ownsRow base 3 1 (.slice (some ⟨g, 0, none⟩) (l.length + 1) cap) (l.length + 1) (fl ic (l ++ [x]))) : w.cell? ⟨g, l.length, none⟩ = some (.int .i64 x) ∧ base ≤ g ∧ g < w.heap.size ∧ l.length + 1 ≤ cap := by
  have c := hr.cells (g := g) rfl l.length (.int .i64 x) (by rw [cints_map]; simp)
  rw [Addr.add_mid, Nat.zero_add] at c
  have h1 := hr.lt g rfl
  refine ⟨c, h1.1, h1.2, ?_⟩
  rcases hr.2 with ⟨h, _⟩ | ⟨g', cap', cur, h, _, _, h2, _⟩
  · simp at h
  · simp only [Value.slice.injEq] at h
    omega
theorem row_other {w : World} {base k size : Nat} {e : TypeId} {u x : Value} {xs : List Value} {p : Addr} (h : w.ownsRow base e size u k xs) (hne : ∀ j, u.ownBlock = some j → j ≠ p.block) : (w.setCell p x).ownsRow base e size u k xs :=
  row_fr h ((Fr.refl (fun k => k = p.block) w).set rfl x) (fun j hj e => hne j hj e)
/-- Somebody's row: whatever stands in it. -/
def AnyRow (w : World) (base : Nat) (v : Value) (k : Nat) : Prop := ∃ xs, w.ownsRow base 3 1 v k xs
set_option maxRecDepth 100000 in
set_option maxHeartbeats 4000000 in
theorem pickChooses_at {e : Nat} (he : e < 4294967296) {L : List Int} {a : Option Addr} {cap : Nat} {w : World} (h : SlAt ic 1 w (.slice a L.length cap) L) (hnil : NilOk (.slice a L.length cap)) (n : Int) :
    Calls Try.prog 3 #[.int .u32 e, .slice a L.length cap, .int .i64 n] w fun x w' => x = .returned (.bool true) ∧ Below w.heap.size w w' := by
  have hcap : L.length ≤ cap := by
    obtain ⟨a', cap', he, _, h1, _⟩ := h
    simp only [Value.slice.injEq] at he
    omega
  obtain ⟨m, hm, hmL, hm1, hmin⟩ : ∃ m : Nat, (L.take m).length = m ∧ m ≤ L.length ∧ m ≤ 100 ∧ min (L.length : Int) 100 = (m : Int) := ⟨min L.length 100, by rw [List.length_take]; omega, by omega, by omega, by omega⟩
  have HL := hidIn (h.front hmL)
  have hNi := nilOk_cut hnil hmL
  rw [hm] at HL
  generalize hll : L.length = ll at *
  clear hll h hnil
  generalize hlt : L.take m = l at *
  clear hlt
  obtain ⟨v1, w1, hrun1, hr1, hb1⟩ := append_new HL.out hNi (by omega) (Nat.le_refl w.heap.size)
  obtain ⟨a1, c1, rfl⟩ := row_shape hr1
  obtain ⟨g, c2, w2, hrun2, hr2, _, _, hb2⟩ := append_int hr1 77 (by omega) hb1.size
  rw [hm] at hrun1 hrun2
  have HI2 := hidIn (slAt_front hr2)
  obtain ⟨hc77, hgw, hg2, hc2⟩ := row_last hr2
  rw [hm] at HI2 hc77 hc2
  have HRun1 := hidIn hrun1
  have HRun2 := hidIn hrun2
  have H77 := hidIn hc77
  have HG := hidIn hg2
  have hbb2 := hb1.trans hb2
  have HB2 := hidIn hbb2
  have HL2 := hidIn (HL.out.keep hbb2 (Nat.le_refl _))
  have HNi := hidIn hNi
  clear hrun1 hr1 hb1 hrun2 hr2 hb2 hc77 hg2 hbb2 hNi hgw HL
  go_enter Try.func3, Try.ntmps3
  have hmc : (m : Int) ≤ (c2 : Int) := by omega
  have HC := hidIn (choose_any he HI2.out)
  go_wp2_with (first | (refine l_append rfl _ _ 23 rfl HRun1.out ?_) | (refine l_append rfl _ _ 23 rfl HRun2.out ?_))
  clear HRun1 HRun2
  refine HC.out.mono ?_
  rintro x w3 ⟨rfl, hb3⟩
  have HB3 := hidIn (HB2.out.trans (hb3.mono HB2.out.size))
  have HL3 := hidIn (HL2.out.keep hb3 (Nat.le_refl _))
  have HI3 := hidIn (HI2.out.keep hb3 (Nat.le_refl _))
  have H773 := hidIn ((hb3.cell (p := ⟨g, m, none⟩) HG.out).trans H77.out)
  have HG3 := hidIn (Nat.lt_of_lt_of_le HG.out hb3.size)
  clear hb3 HC HB2 HL2 HI2 H77 HG
  have HC := hidIn (dchoose_any he HL3.out)
  go_wp2_with fail
  refine HC.out.mono ?_
  rintro x w4 ⟨rfl, q4, hw4⟩
  have hb4 : Below w3.heap.size w3 w4 := by rw [hw4]; exact below_drewN (Below.refl _ _) _
  have HB4 := hidIn (HB3.out.trans (hb4.mono HB3.out.size))
  have HL4 := hidIn (HL3.out.keep hb4 (Nat.le_refl _))
  have HI4 := hidIn (HI3.out.keep hb4 (Nat.le_refl _))
  have H774 := hidIn ((hb4.cell (p := ⟨g, m, none⟩) HG3.out).trans H773.out)
  have HG4 := hidIn (Nat.lt_of_lt_of_le HG3.out hb4.size)
  clear hb4 hw4 HC HB3 HL3 HI3 H773 HG3
  have HC := hidIn (rank2_any he HI4.out (nilOk_some _ _ _))
  go_wp2_with fail
  refine HC.out.mono ?_
  rintro x w5 ⟨⟨a5, c5, rfl, hr5⟩, hb5⟩
  have HB5 := hidIn hb5
  have HR5 := hidIn hr5
  have HD := hidIn (drank_any he (HL4.out.keep hb5 (Nat.le_refl _)) HNi.out)
  clear hr5 hb5 HC
  go_wp2_with fail
  refine HD.out.mono ?_
  rintro x w6 ⟨⟨a6, c6, rfl, hr6⟩, hb6⟩
  have HB6 := hidIn (HB5.out.trans (hb6.mono HB5.out.size))
  have HR5' := hidIn (row_below HR5.out hb6 (Nat.le_refl _))
  have HS := hidIn (dsame_any (row_sl HR5'.out) (row_sl hr6))
  have hee : (rkL e l == rkL e l) = true := by simp
  rw [hee] at HS
  have HR6 := hidIn hr6
  have HG5 := hidIn (fun j (hj : Value.ownBlock (.slice a5 (rkL e l).length c5) = some j) => (HR5.out.lt j hj).2)
  clear hr6 hb6 HD hee HR5
  have hq1 : (chN e l != chN e l) = false := by simp
  have hq2 : (chE l != chE l) = false := by simp
  have hq3 : (rkE l != rkE l) = false := by simp
  have hq4 : (rkE l == rkE l) = true := by simp
  have hq5 : (((mix e n : Nat) : Int) != ((mix e n : Nat) : Int)) = false := by simp
  have HM := hidIn (fun W => mix_any he n W)
  have HM2 := hidIn (fun W => dmix_any he n W)
  have HAg := hidIn (fun W (hI : SlAt ic 1 W (.slice (some ⟨g, 0, none⟩) m c2) l) => rank2_any he hI (nilOk_some _ _ _))
  have HEq : Hid (∀ x y : List Int, x = y → (x == y) = true) := hidIn fun x y h => by simpa using h
  have HRl := hidIn (rk_len e l)
  rw [hm] at HRl
  generalize chN e l = k1 at *
  generalize chE l = k2 at *
  generalize rkE l = k3 at *
  generalize mix e n = k4 at *
  generalize rkL e l = R at *
  go_wp2_with fail
  refine HS.out.mono ?_
  rintro x w7 ⟨rfl, q7, hw7⟩
  have HB7 : Hid (Below w4.heap.size w4 w7) := hidIn (by rw [hw7]; exact below_drewN HB6.out _)
  have HR5'' : Hid (w7.ownsRow w4.heap.size 3 1 (.slice a5 R.length c5) R.length (fl ic R)) := hidIn (by
    have hb : Below w6.heap.size w6 w7 := by rw [hw7]; exact below_drewN (Below.refl _ _) _
    exact row_below HR5'.out hb (Nat.le_refl _))
  have HR6' : Hid (w7.ownsRow w5.heap.size 3 1 (.slice a6 R.length c6) R.length (fl ic R)) := hidIn (by
    have hb : Below w6.heap.size w6 w7 := by rw [hw7]; exact below_drewN (Below.refl _ _) _
    exact row_below HR6.out hb (Nat.le_refl _))
  clear hw7 HS HB6 HR5' HR6
  go_wp2_with fail
  refine (HM.out w7).mono ?_
  rintro x w8 ⟨rfl, hw8⟩
  rw [hw8]
  clear hw8 w8 HM
  go_wp2_with fail
  refine (HM2.out w7).mono ?_
  rintro x w8 ⟨rfl, hw8⟩
  rw [hw8]
  clear hw8 w8 HM2
  obtain ⟨rn, hrn⟩ : ∃ rn, R.length = rn := ⟨_, rfl⟩
  have Hrn := hidIn hrn
  rw [hrn] at HR5'' HR6' HG5 HRl ⊢
  have hrb : rn ≤ 100 := by have := HRl.out; omega
  clear hrn HRl
  go_wp2_with fail
  go_loopw [16] (fun i wr => ∃ k : Nat, k ≤ rn ∧ i = .int .i64 k ∧ Hid (Below w4.heap.size w4 wr ∧ AnyRow wr w4.heap.size (.slice a5 rn c5) rn ∧ wr.ownsRow w5.heap.size 3 1 (.slice a6 rn c6) rn (fl ic R))) (fun i _ => rn - (intOf i).toNat)
  case atStart => exact ⟨0, Nat.zero_le _, rfl, hidIn ⟨HB7.out, ⟨_, HR5''.out⟩, HR6'.out⟩⟩
  case round =>
    clear HB7 HR5'' HR6'
    obtain ⟨k, hk, rfl, HZ⟩ := hrel
    by_cases hlt : k < rn
    · obtain ⟨hbz, ⟨xs, hrz⟩, hdz⟩ := HZ.out
      obtain ⟨g5, rfl, hg5, hglt, hcl, hfr⟩ := row_write hrz (by omega)
      obtain ⟨v0, c0⟩ := hcl k (by omega)
      have f0 := hfr k
      have hki : (k : Int) < (rn : Int) := by omega
      have HZ2 : Hid (Below w4.heap.size w4 (wr.setCell ⟨g5, k, none⟩ (.int .i64 0)) ∧ AnyRow (wr.setCell ⟨g5, k, none⟩ (.int .i64 0)) w4.heap.size (.slice (some ⟨g5, 0, none⟩) rn c5) rn ∧ (wr.setCell ⟨g5, k, none⟩ (.int .i64 0)).ownsRow w5.heap.size 3 1 (.slice a6 rn c6) rn (fl ic R)) := hidIn ⟨below_set hbz hg5 _, ⟨_, row_set hrz k _⟩, row_other hdz (fun j hj e => by
        have h1 := (hdz.lt j hj).1
        have h2 := HG5.out g5 rfl
        have h3 : j = g5 := e
        omega)⟩
      clear hbz hrz hdz hg5 hglt hcl hfr HZ
      go_wp2_with fail
      go_roundw
      case rel => exact ⟨k + 1, by omega, by go_num, HZ2⟩
      case measure => simp [intOf]; omega
    · have hki : ¬ (k : Int) < (rn : Int) := by omega
      generalize wr = w9 at *
      have HI9 := hidIn (HI4.out.keep HZ.out.1 (Nat.le_refl _))
      have HL9 := hidIn (HL4.out.keep HZ.out.1 (Nat.le_refl _))
      have H779 := hidIn ((HZ.out.1.cell (p := ⟨g, m, none⟩) HG4.out).trans H774.out)
      have HG9 := hidIn (Nat.lt_of_lt_of_le HG4.out HZ.out.1.size)
      have HB9 := hidIn (HB4.out.trans (HZ.out.1.mono HB4.out.size))
      have HD9 := hidIn HZ.out.2.2
      have HA := hidIn (HAg.out w9 HI9.out)
      clear hlt hk HZ HI4 HL4 H774 HG4 HB4 HAg HG5
      go_wp2_with fail
      refine HA.out.mono ?_
      rintro x w10 ⟨⟨a10, c10, rfl, hr10⟩, hb10⟩
      have HI10 := hidIn (HI9.out.keep hb10 (Nat.le_refl _))
      have HL10 := hidIn (HL9.out.keep hb10 (Nat.le_refl _))
      have H7710 := hidIn ((hb10.cell (p := ⟨g, m, none⟩) HG9.out).trans H779.out)
      have HG10 := hidIn (Nat.lt_of_lt_of_le HG9.out hb10.size)
      have HB10 := hidIn (HB9.out.trans (hb10.mono HB9.out.size))
      have hd10 := row_below HD9.out hb10 (Nat.le_refl _)
      rw [← Hrn.out] at hd10
      have HS1 := hidIn (dsame_any (row_sl hr10) (row_sl hd10))
      have hee : (R == R) = true := by simp
      rw [hee, Hrn.out] at HS1
      rw [Hrn.out]
      clear hr10 hb10 hd10 hee HI9 HL9 H779 HG9 HB9 HD9 HA
      go_wp2_with fail
      refine HS1.out.mono ?_
      rintro x w11 ⟨rfl, q11, hw11⟩
      have hb11 : Below w10.heap.size w10 w11 := by rw [hw11]; exact below_drewN (Below.refl _ _) _
      have HI11 := hidIn (HI10.out.keep hb11 (Nat.le_refl _))
      have HL11 := hidIn (HL10.out.keep hb11 (Nat.le_refl _))
      have H7711 := hidIn ((hb11.cell (p := ⟨g, m, none⟩) HG10.out).trans H7710.out)
      have HG11 := hidIn (Nat.lt_of_lt_of_le HG10.out hb11.size)
      have HB11 := hidIn (HB10.out.trans (hb11.mono HB10.out.size))
      have HS2 := hidIn (dsame_any HI11.out HL11.out)
      have hee : (l == l) = true := by simp
      rw [hee] at HS2
      clear hw11 hb11 hee HS1 HI10 HL10 H7710 HG10 HB10
      go_wp2_with fail
      refine HS2.out.mono ?_
      rintro x w12 ⟨rfl, q12, hw12⟩
      have hb12 : Below w11.heap.size w11 w12 := by rw [hw12]; exact below_drewN (Below.refl _ _) _
      have c77 := (hb12.cell (p := ⟨g, m, none⟩) HG11.out).trans H7711.out
      have HB12 := hidIn (HB11.out.trans (hb12.mono HB11.out.size))
      have hmc1 : (m : Int) + 1 ≤ (c2 : Int) := by omega
      have hwm : IntKind.i64.wrap ((m : Int) + 1) = (m : Int) + 1 := by rw [IntKind.wrap_i64]; omega
      clear hw12 hb12 HS2 HI11 HL11 H7711 HG11 HB11
      go_wp2_with fail
      refine (pworks_any w12).mono ?_
      rintro x w13 ⟨rfl, hb13⟩
      have HB13 := hidIn (HB12.out.trans (hb13.mono HB12.out.size))
      clear hb13
      go_wp2_with fail
      go_ret
      exact ⟨rfl, HB13.out⟩
theorem pickChooses_int {b : Int} (hb : (Lit.int .u32 b).wf = true) {L : List Int} {a : Option Addr} {len cap : Nat} {w : World} (h : SlAt ic 1 w (.slice a len cap) L) (hn : NilOk (.slice a len cap)) (n : Int) :
    Calls Try.prog 3 #[.int .u32 b, .slice a len cap, .int .i64 n] w fun x w' => x = .returned (.bool true) ∧ Below w.heap.size w w' := by
  obtain ⟨e, rfl, he⟩ := nat_u32 hb
  have h' := h
  obtain ⟨a', cap', he', _⟩ := h'
  simp only [Value.slice.injEq] at he'
  obtain ⟨_, rfl, _⟩ := he'
  exact pickChooses_at he h hn n
end Go.Proofs.Ytcgndpenalcpeaa
