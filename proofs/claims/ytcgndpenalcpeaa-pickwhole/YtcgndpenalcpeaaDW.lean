/- PickWhole. -/
import Derived.Test.YtcgndpenalcpeaaD9
import Derived.Test.YtcgndpenalcpeaaDT
import Derived.Test.YtcgndpenalcpeaaDG
namespace Go.Proofs.Ytcgndpenalcpeaa
open Go.RowKit

/-- What the first ones have together. -/
def smK (l : List Int) (n k : Nat) : Nat := ((l.take k).map (cntE l n)).sum
theorem smK_succ {l : List Int} {n k : Nat} {x : Int} (h : l[k]? = some x) : smK l n (k + 1) = smK l n k + cntE l n x := by
  unfold smK
  rw [take_snoc h, List.map_append, List.sum_append]
  simp
theorem smK_le (l : List Int) (n k : Nat) : smK l n k ≤ k * n := by
  induction k with
  | zero => simp [smK]
  | succ k ih =>
    rcases Nat.lt_or_ge k l.length with h | h
    · rw [smK_succ (List.getElem?_eq_getElem h), Nat.succ_mul]
      have := cntE_le l n l[k]
      omega
    · unfold smK at ih ⊢
      rw [List.take_of_length_le (by omega)] at ih ⊢
      rw [Nat.succ_mul]
      omega
theorem smK_all {l : List Int} (hn : l.Nodup) (h0 : l ≠ []) (n : Nat) : smK l n l.length = n := by
  unfold smK
  rw [List.take_length]
  exact cnt_sum hn h0 n
theorem spr_get {l : List Int} {k : Nat} {x : Int} (n : Nat) (h : l[k]? = some x) : (sprL l n)[k]? = some ((cntE l n x : Nat) : Int) := by simp [sprL, h]
set_option maxRecDepth 100000 in
set_option maxHeartbeats 2000000 in
theorem pickWhole_walk {s n m : Nat} (hs : s < 4294967296) (hn : n < 256) (hm : m < 256) (w : World) :
    Calls Try.prog 7 #[.int .u32 s, .int .u8 n, .int .u8 m] w fun x w' => x = .returned (.bool true) ∧ Below w.heap.size w w' := by
  have hnb := of_nb s
  have HE1 := hidIn (sp_yes n hnb (by omega))
  have HE2 := hidIn (sp_yes (n + m) hnb (by omega))
  have H24 := hidIn (nb_len hnb)
  have HSum := hidIn (fun h0 => smK_all (nodup_rise (nb_rise hnb)) h0 n)
  have hw2 : IntKind.i64.wrap ((n : Int) + (m : Int)) = ((n + m : Nat) : Int) := by rw [IntKind.wrap_i64]; omega
  clear hnb
  go_enter Try.func7, Try.ntmps7
  go_wp2_with fail
  refine (pworks_any w).mono ?_
  rintro x w1 ⟨rfl, hb1⟩
  have HB1 := hidIn hb1
  clear hb1
  go_wp2_with fail
  refine (of_any hs w1).mono ?_
  rintro x w2 ⟨⟨a, cap, rfl, hr2⟩, hb2⟩
  have HB2 := hidIn (HB1.out.trans (hb2.mono HB1.out.size))
  have HL2 := hidIn (row_sl hr2)
  clear hr2 hb2 HB1
  generalize ofL s = L at *
  have HS := hidIn (spread_any HL2.out (n : Int) (by omega))
  rw [HE1.out.1, HE1.out.2] at HS
  go_wp2_with fail
  refine HS.out.mono ?_
  rintro x w3 ⟨a3, c3, rfl, hr3, hb3⟩
  have HB3 := hidIn (HB2.out.trans (hb3.mono HB2.out.size))
  have HL3 := hidIn (HL2.out.keep hb3 (Nat.le_refl _))
  have HA3 := hidIn (row_sl hr3)
  clear hr3 hb3 HB2 HL2 HS
  have HS := hidIn (spread_any HL3.out ((n + m : Nat) : Int) (by omega))
  rw [HE2.out.1, HE2.out.2] at HS
  go_wp2_with fail
  refine HS.out.mono ?_
  rintro x w4 ⟨a4, c4, rfl, hr4, hb4⟩
  have HB4 := hidIn (HB3.out.trans (hb4.mono HB3.out.size))
  have HA4 := hidIn (HA3.out.keep hb4 (Nat.le_refl _)).ints
  have HC4 := hidIn (row_sl hr4).ints
  have HG3 := hidIn (fun (k : Nat) (x : Int) (h : L[k]? = some x) => spr_get n h)
  have HG4 := hidIn (fun (k : Nat) (x : Int) (h : L[k]? = some x) => spr_get (n + m) h)
  have HP3 := hidIn (spr_len L n)
  have HP4 := hidIn (spr_len L (n + m))
  clear hr4 hb4 HB3 HL3 HA3 HS HE1 HE2
  rw [HP3.out] at HA4 ⊢
  rw [HP4.out] at HC4 ⊢
  generalize sprL L n = A at *
  generalize sprL L (n + m) = B at *
  obtain ⟨ln, hln⟩ : ∃ ln, L.length = ln := ⟨_, rfl⟩
  rw [hln] at HA4 HC4 HP3 HP4 H24 ⊢
  have Hln := hidIn hln
  clear hln
  have hq0 : ((ln : Int) != (ln : Int)) = false := by simp
  go_wp2_with fail
  go_loopw [12, 13] (fun u i wr => ∃ k : Nat, k ≤ ln ∧ i = .int .i64 k ∧ u = .int .i64 ((smK L n k : Nat) : Int) ∧ Hid (Below w4.heap.size w4 wr)) (fun _ i _ => ln - (intOf i).toNat)
  case atStart => exact ⟨0, Nat.zero_le _, rfl, rfl, hidIn (Below.refl _ _)⟩
  case round =>
    obtain ⟨k, hk, rfl, rfl, HW⟩ := hrel
    by_cases hlt : k < ln
    · have h24 := H24.out
      obtain ⟨x, hx⟩ : ∃ x, L[k]? = some x := ⟨L[k]'(by have := Hln.out; omega), List.getElem?_eq_getElem _⟩
      obtain ⟨a5, c5, he5, _, _, hat⟩ := HA4.out
      obtain ⟨bk, o, rfl, hbk, hcell⟩ := hat (by have := HP3.out; omega)
      simp only [Value.slice.injEq] at he5
      obtain ⟨rfl, h5a, h5b⟩ := he5
      obtain ⟨a6, c6, he6, _, _, hat6⟩ := HC4.out
      obtain ⟨bk6, o6, rfl, hbk6, hcell6⟩ := hat6 (by have := HP4.out; omega)
      simp only [Value.slice.injEq] at he6
      obtain ⟨rfl, h6a, h6b⟩ := he6
      have c0 := (HW.out.cell (p := ⟨bk, o + k, none⟩) hbk).trans (hcell k _ (HG3.out k x hx))
      have c1 := (HW.out.cell (p := ⟨bk6, o6 + k, none⟩) hbk6).trans (hcell6 k _ (HG4.out k x hx))
      have hsm := smK_succ (n := n) hx
      have hle := smK_le L n k
      have hkn : k * n ≤ 24 * 255 := Nat.mul_le_mul (by omega) (by omega)
      have hcl := cntE_le L n x
      have hmo := cntE_mono L n m x
      generalize cntE L n x = c at *
      generalize cntE L (n + m) x = d at *
      obtain ⟨sm, hsm0⟩ : ∃ sm, smK L n k = sm := ⟨_, rfl⟩
      rw [hsm0] at hsm hle ⊢
      have HS1 := hidIn hsm
      have hd : ¬ (d : Int) < (c : Int) := by omega
      have hd1 : decide ((d : Int) < (c : Int)) = false := by simp; omega
      have hd2 : decide (d < c) = false := by simp; omega
      have hw1 : IntKind.i64.wrap ((sm : Int) + (c : Int)) = ((sm + c : Nat) : Int) := by rw [IntKind.wrap_i64]; omega
      have hki : (k : Int) < (ln : Int) := by omega
      clear hcell hcell6 hat hat6 h5a h5b h6a h6b hx hsm hle hkn hcl hmo hsm0
      go_wp2_with fail
      go_quiet (fail)
      go_wp2_with fail
      go_roundw
      case rel => exact ⟨k + 1, by omega, by go_num, by rw [HS1.out]; go_num, hidIn (below_drewN HW.out _)⟩
      case measure => simp [intOf]; omega
    · have hki : ¬ ((k : Int) < (ln : Int)) := by omega
      have hke : k = L.length := by have := Hln.out; omega
      have HBw := hidIn (HB4.out.trans (HW.out.mono HB4.out.size))
      by_cases hz : ln = 0
      · have hzb : ((ln : Int) == 0) = true := by rw [hz]; rfl
        clear hke hz
        go_wp2_with fail
        go_ret
        exact ⟨rfl, HBw.out⟩
      · have hzb : ((ln : Int) == 0) = false := by rw [beq_eq_false_iff_ne]; omega
        have hsn : smK L n k = n := by
          rw [hke]
          exact HSum.out (fun e => hz (by rw [← Hln.out, e]; rfl))
        rw [hsn]
        have hq1 : ((n : Int) == (n : Int)) = true := by simp
        clear hke hz hsn
        go_wp2_with fail
        go_ret
        exact ⟨rfl, HBw.out⟩
theorem pickWhole_int {a b c : Int} (ha : (Lit.int .u32 a).wf = true) (hb : (Lit.int .u8 b).wf = true) (hc : (Lit.int .u8 c).wf = true) (w : World) : Calls Try.prog 7 #[.int .u32 a, .int .u8 b, .int .u8 c] w fun x w' => x = .returned (.bool true) ∧ Below w.heap.size w w' := by
  obtain ⟨s, rfl, hs⟩ := nat_u32 ha
  obtain ⟨n, rfl, hn⟩ := nat_u8 hb
  obtain ⟨m, rfl, hm⟩ := nat_u8 hc
  exact pickWhole_walk hs hn hm w
end Go.Proofs.Ytcgndpenalcpeaa
