/- PickSpreads. -/
import Derived.Test.YtcgndpenalcpeaaD9
import Derived.Test.YtcgndpenalcpeaaDSP
import Derived.Test.YtcgndpenalcpeaaDG
namespace Go.Proofs.Ytcgndpenalcpeaa
open Go.RowKit

theorem SlAt.front {w : World} {a : Option Addr} {cap m : Nat} {l : List Int} (h : SlAt ic 1 w (.slice a l.length cap) l) (hm : m ≤ l.length) : SlAt ic 1 w (.slice a (l.take m).length cap) (l.take m) := by
  obtain ⟨a', cap', he, h0, h1, h2⟩ := h
  simp only [Value.slice.injEq] at he
  obtain ⟨rfl, _, rfl⟩ := he
  have hlen : (l.take m).length = m := by rw [List.length_take]; omega
  refine ⟨a, cap, rfl, by omega, by omega, fun hp => ?_⟩
  obtain ⟨bk, o, ha, hb, hc⟩ := h2 (by omega)
  refine ⟨bk, o, ha, hb, fun j x hx => hc j x ?_⟩
  have hj := (List.getElem?_eq_some_iff.1 hx).1
  rwa [List.getElem?_take_of_lt (by omega)] at hx
theorem nilOk_cut {a : Option Addr} {n cap m : Nat} (h : NilOk (.slice a n cap)) (hm : m ≤ n) : NilOk (.slice a m cap) := by
  rcases h with ⟨p, n', c, he⟩ | he
  · simp only [Value.slice.injEq] at he
    obtain ⟨rfl, _, _⟩ := he
    exact .inl ⟨_, _, _, rfl⟩
  · simp only [Value.slice.injEq] at he
    obtain ⟨rfl, rfl, rfl⟩ := he
    have : m = 0 := by omega
    subst this
    exact .inr rfl
set_option maxRecDepth 100000 in
set_option maxHeartbeats 2000000 in
theorem pickSpreads_at {L : List Int} {a : Option Addr} {cap : Nat} {w : World} (h : SlAt ic 1 w (.slice a L.length cap) L) (n : Int) (hn : (Lit.int .i64 n).wf = true) :
    Calls Try.prog 4 #[.slice a L.length cap, .int .i64 n] w fun x w' => x = .returned (.bool true) ∧ Below w.heap.size w w' := by
  have hnw := bounds_i64 hn
  have hcap : L.length ≤ cap := by
    obtain ⟨a', cap', he, _, h1, _⟩ := h
    simp only [Value.slice.injEq] at he
    omega
  obtain ⟨m, hm, hmL, hmin⟩ : ∃ m : Nat, (L.take m).length = m ∧ m ≤ L.length ∧ min (L.length : Int) 100 = (m : Int) := ⟨min L.length 100, by rw [List.length_take]; omega, by omega, by omega⟩
  have HL := hidIn (h.front hmL)
  rw [hm] at HL
  generalize hll : L.length = ll at *
  clear hll h hm
  generalize L.take m = l at HL
  go_enter Try.func4, Try.ntmps4
  by_cases h1 : 200 < n
  · by_cases h2 : n ≤ 4096
    · obtain ⟨n2, hn2, hn3⟩ : ∃ n2 : Int, n.tmod 201 = n2 ∧ n2 < 9223372036854775808 := ⟨_, rfl, by rw [Int.tmod_eq_emod_of_nonneg (by omega)]; omega⟩
      have HA := hidIn (spread_any HL.out n2 (by exact hn3))
      go_wp2_with fail
      refine HA.out.mono ?_
      rintro x w1 ⟨a1, c1, rfl, hr1, hb1⟩
      have HB1 := hidIn hb1
      have HR1 := hidIn (row_sl hr1)
      have HD := hidIn (dspread_any (HL.out.keep hb1 (Nat.le_refl _)) n2 (by exact hn3))
      clear hr1 hb1 HA HL
      go_wp2_with fail
      refine HD.out.mono ?_
      rintro x w2 ⟨a2, c2, rfl, hr2, hb2⟩
      have HB2 := hidIn (HB1.out.trans (hb2.mono HB1.out.size))
      have HS := hidIn (dsame_any (HR1.out.keep hb2 (Nat.le_refl _)) (row_sl hr2))
      have hee : (spL l n2 == spL l n2) = true := by simp
      rw [hee] at HS
      have hq : (spE l n2 == spE l n2) = true := by simp
      clear hr2 hb2 HD HB1 HR1 hee
      generalize spE l n2 = se at *
      generalize (spL l n2).length = sl at *
      go_wp2_with fail
      refine HS.out.mono ?_
      rintro x w3 ⟨rfl, q, hw3⟩
      rw [hw3]
      have HB3 := hidIn (below_drewN HB2.out q)
      clear hw3 w3 HS HB2
      generalize w2.drewN q = w4 at *
      go_wp2_with fail
      refine (pworks_any w4).mono ?_
      rintro x w5 ⟨rfl, hb5⟩
      have HB5 := hidIn (HB3.out.trans (hb5.mono HB3.out.size))
      clear hb5
      go_wp2_with fail
      go_ret
      exact ⟨rfl, HB5.out⟩
    · have h2' : decide (n ≤ 4096) = false := by simpa using h2
      have HA := hidIn (spread_any HL.out n (by omega))
      go_wp2_with fail
      refine HA.out.mono ?_
      rintro x w1 ⟨a1, c1, rfl, hr1, hb1⟩
      have HB1 := hidIn hb1
      have HR1 := hidIn (row_sl hr1)
      have HD := hidIn (dspread_any (HL.out.keep hb1 (Nat.le_refl _)) n (by omega))
      clear hr1 hb1 HA HL
      go_wp2_with fail
      refine HD.out.mono ?_
      rintro x w2 ⟨a2, c2, rfl, hr2, hb2⟩
      have HB2 := hidIn (HB1.out.trans (hb2.mono HB1.out.size))
      have HS := hidIn (dsame_any (HR1.out.keep hb2 (Nat.le_refl _)) (row_sl hr2))
      have hee : (spL l n == spL l n) = true := by simp
      rw [hee] at HS
      have hq : (spE l n == spE l n) = true := by simp
      clear hr2 hb2 HD HB1 HR1 hee
      generalize spE l n = se at *
      generalize (spL l n).length = sl at *
      go_wp2_with fail
      refine HS.out.mono ?_
      rintro x w3 ⟨rfl, q, hw3⟩
      rw [hw3]
      have HB3 := hidIn (below_drewN HB2.out q)
      clear hw3 w3 HS HB2
      generalize w2.drewN q = w4 at *
      go_wp2_with fail
      refine (pworks_any w4).mono ?_
      rintro x w5 ⟨rfl, hb5⟩
      have HB5 := hidIn (HB3.out.trans (hb5.mono HB3.out.size))
      clear hb5
      go_wp2_with fail
      go_ret
      exact ⟨rfl, HB5.out⟩
  · have h1' : decide (200 < n) = false := by simpa using h1
    have HA := hidIn (spread_any HL.out n (by omega))
    go_wp2_with fail
    refine HA.out.mono ?_
    rintro x w1 ⟨a1, c1, rfl, hr1, hb1⟩
    have HB1 := hidIn hb1
    have HR1 := hidIn (row_sl hr1)
    have HD := hidIn (dspread_any (HL.out.keep hb1 (Nat.le_refl _)) n (by omega))
    clear hr1 hb1 HA HL
    go_wp2_with fail
    refine HD.out.mono ?_
    rintro x w2 ⟨a2, c2, rfl, hr2, hb2⟩
    have HB2 := hidIn (HB1.out.trans (hb2.mono HB1.out.size))
    have HS := hidIn (dsame_any (HR1.out.keep hb2 (Nat.le_refl _)) (row_sl hr2))
    have hee : (spL l n == spL l n) = true := by simp
    rw [hee] at HS
    have hq : (spE l n == spE l n) = true := by simp
    clear hr2 hb2 HD HB1 HR1 hee
    generalize spE l n = se at *
    generalize (spL l n).length = sl at *
    go_wp2_with fail
    refine HS.out.mono ?_
    rintro x w3 ⟨rfl, q, hw3⟩
    rw [hw3]
    have HB3 := hidIn (below_drewN HB2.out q)
    clear hw3 w3 HS HB2
    generalize w2.drewN q = w4 at *
    go_wp2_with fail
    refine (pworks_any w4).mono ?_
    rintro x w5 ⟨rfl, hb5⟩
    have HB5 := hidIn (HB3.out.trans (hb5.mono HB3.out.size))
    clear hb5
    go_wp2_with fail
    go_ret
    exact ⟨rfl, HB5.out⟩
theorem pickSpreads_walk {L : List Int} {a : Option Addr} {len cap : Nat} {w : World} (h : SlAt ic 1 w (.slice a len cap) L) {n : Int} (hn : (Lit.int .i64 n).wf = true) :
    Calls Try.prog 4 #[.slice a len cap, .int .i64 n] w fun x w' => x = .returned (.bool true) ∧ Below w.heap.size w w' := by
  have h' := h
  obtain ⟨a', cap', he, _⟩ := h'
  simp only [Value.slice.injEq] at he
  obtain ⟨_, rfl, _⟩ := he
  exact pickSpreads_at h n hn
end Go.Proofs.Ytcgndpenalcpeaa
