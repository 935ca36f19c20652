/- PickFalls. -/
import Derived.Test.YtcgndpenalcpeaaD9
import Derived.Test.YtcgndpenalcpeaaDG
namespace Go.Proofs.Ytcgndpenalcpeaa
open Go.RowKit

theorem fall_next {r : Int → Nat} {l : List Int} (h : Fall r l) {m : Nat} {x y : Int} (hx : l[m]? = some x) (hy : l[m + 1]? = some y) : r y < r x := by
  obtain ⟨h1, rfl⟩ := List.getElem?_eq_some_iff.1 hx
  obtain ⟨h2, rfl⟩ := List.getElem?_eq_some_iff.1 hy
  exact List.pairwise_iff_getElem.1 h m (m + 1) h1 h2 (by omega)
set_option maxRecDepth 100000 in
set_option maxHeartbeats 2000000 in
theorem pickFalls_walk {e s : Nat} (he : e < 4294967296) (hs : s < 4294967296) (w : World) :
    Calls Try.prog 6 #[.int .u32 e, .int .u32 s] w fun x w' => x = .returned (.bool true) ∧ Below w.heap.size w w' := by
  have hnb := of_nb s
  have HE := hidIn (rk_yes e hnb)
  have HF := hidIn (nb_fall he hnb)
  have HL := hidIn (rank_len (mix e) (ofL s))
  have H24 := hidIn (nb_len hnb)
  have HO := hidIn (fun W => of_any hs W)
  have HM := hidIn (fun n W => mix_any he n W)
  clear hnb
  go_enter Try.func6, Try.ntmps6
  go_wp2_with fail
  refine (pworks_any w).mono ?_
  rintro x w1 ⟨rfl, hb1⟩
  have HB1 := hidIn hb1
  clear hb1
  go_wp2_with fail
  refine (HO.out w1).mono ?_
  rintro x w2 ⟨⟨a, cap, rfl, hr2⟩, hb2⟩
  have HB2 := hidIn (HB1.out.trans (hb2.mono HB1.out.size))
  have HR := hidIn (rank2_any he (row_sl hr2) (row_nil hr2))
  rw [HE.out.1, HE.out.2] at HR
  clear hr2 hb2 HB1 HE
  generalize ofL s = L at *
  go_wp2_with fail
  refine HR.out.mono ?_
  rintro x w3 ⟨⟨b, cap2, rfl, hr3⟩, hb3⟩
  have HB3 := hidIn (HB2.out.trans (hb3.mono HB2.out.size))
  have HS3 := hidIn (row_sl hr3)
  clear hb3 hr3 HR HB2
  obtain ⟨LL, hLL⟩ : ∃ LL, rankL (mix e) L = LL := ⟨_, rfl⟩
  rw [hLL] at HF HL HS3 ⊢
  clear hLL
  generalize mix e = r at *
  obtain ⟨ln, hln⟩ : ∃ ln, LL.length = ln := ⟨_, rfl⟩
  have Hln := hidIn hln
  rw [hln] at HS3 HL ⊢
  rw [← HL.out] at HO H24
  clear hln HL
  have hq0 : ((ln : Int) != (ln : Int)) = false := by simp
  go_wp2_with fail
  refine (HO.out w3).mono ?_
  rintro x w4 ⟨⟨a4, cap4, rfl, _⟩, hb4⟩
  have HB4 := hidIn (HB3.out.trans (hb4.mono HB3.out.size))
  have HC := hidIn (HS3.out.keep hb4 (Nat.le_refl _)).ints
  clear hb4 HS3 HB3 HO
  go_wp2_with fail
  go_loopw [7] (fun i wr => ∃ k : Nat, 0 < k ∧ (k ≤ ln ∨ k = 1) ∧ i = .int .i64 k ∧ Hid (Below w4.heap.size w4 wr)) (fun i _ => ln - (intOf i).toNat)
  case atStart => exact ⟨1, by omega, .inr rfl, rfl, hidIn (Below.refl _ _)⟩
  case round =>
    obtain ⟨k, hk0, hk, rfl, HW⟩ := hrel
    by_cases hlt : k < ln
    · obtain ⟨a5, c5, he5, _, _, hat⟩ := HC.out
      obtain ⟨bk, o, rfl, hbk, hcell⟩ := hat (by have := Hln.out; omega)
      simp only [Value.slice.injEq] at he5
      obtain ⟨rfl, h5a, h5b⟩ := he5
      clear h5a h5b
      obtain ⟨m, hm⟩ : ∃ m, k = m + 1 := ⟨k - 1, by omega⟩
      obtain ⟨x, hx⟩ : ∃ x, LL[m]? = some x := ⟨LL[m]'(by have := Hln.out; omega), List.getElem?_eq_getElem _⟩
      obtain ⟨y, hy⟩ : ∃ y, LL[k]? = some y := ⟨LL[k]'(by have := Hln.out; omega), List.getElem?_eq_getElem _⟩
      have c0 := (HW.out.cell (p := ⟨bk, o + m, none⟩) hbk).trans (hcell m x hx)
      have c1 := (HW.out.cell (p := ⟨bk, o + k, none⟩) hbk).trans (hcell k y hy)
      have hw1 : IntKind.i64.wrap ((k : Int) - 1) = (m : Int) := by have := H24.out; rw [IntKind.wrap_i64]; omega
      have hmi : (m : Int) < (ln : Int) := by omega
      have hki : (k : Int) < (ln : Int) := by omega
      have hf := fall_next HF.out hx (by rw [← hm]; exact hy)
      have hd : decide (((r x : Nat) : Int) ≤ ((r y : Nat) : Int)) = false := by simp; omega
      have hd' : decide (r x ≤ r y) = false := by simp; omega
      have h24 := H24.out
      clear hcell hx hy hm hf hat
      go_wp2_with fail
      go_quiet (first | (go_at_call 14; exact Calls.quiet_of_same (HM.out _ _)))
      go_wp2_with fail
      go_roundw
      case rel => exact ⟨k + 1, by omega, .inl (by omega), by go_num, hidIn (below_drewN HW.out _)⟩
      case measure => simp [intOf]; omega
    · have hki : ¬ ((k : Int) < (ln : Int)) := by omega
      go_wp2_with fail
      go_ret
      exact ⟨rfl, HB4.out.trans (HW.out.mono HB4.out.size)⟩
theorem pickFalls_int {a b : Int} (ha : (Lit.int .u32 a).wf = true) (hb : (Lit.int .u32 b).wf = true) (w : World) : Calls Try.prog 6 #[.int .u32 a, .int .u32 b] w fun x w' => x = .returned (.bool true) ∧ Below w.heap.size w w' := by
  obtain ⟨e, rfl, he⟩ := nat_u32 ha
  obtain ⟨s, rfl, hs⟩ := nat_u32 hb
  exact pickFalls_walk he hs w
end Go.Proofs.Ytcgndpenalcpeaa
