/- bits.Of: every list. -/
import Derived.Test.YtlfmceochemeaabDoorW5
namespace Go.Proofs.YtlfmceochemeaabDoor
open Go.RowKit

set_option maxHeartbeats 400000 in
theorem of_nil (a : Option Addr) (cap : Nat) (w : World) :
    Calls Tryd.prog 12 #[.slice a 0 cap] w fun e w' => e = .returned (.tuple #[bs 0, .int .i64 0]) ∧ Below w.heap.size w w' := by
  go_enter Tryd.func12, Tryd.ntmps12
  go_wp2
  go_rounds 1
  go_returns
  exact ⟨by simp only [bs, wd_zero]; rfl, by go_grown⟩

set_option maxHeartbeats 1000000 in
theorem of_no (zs : List Int) (bk o cap : Nat) (w : World) (hl : zs.length ≤ 9223372036854775807) (hcell : ∀ j, j < zs.length → w.cell? ⟨bk, o + j, none⟩ = some (.int .i64 (zs[j]?.getD 0))) (hbk : bk < w.heap.size) (hall : ¬ allBits zs) :
    Calls Tryd.prog 12 #[.slice (some ⟨bk, o, none⟩) zs.length cap] w fun e w' => e = .returned (.tuple #[bs 0, .int .i64 2]) ∧ Below w.heap.size w w' := by
  have Hc := hidIn hcell
  have Ha := hidIn hall
  clear hcell hall
  go_enter Tryd.func12, Tryd.ntmps12
  go_wp2
  go_loopw [9] (fun i wr => ∃ k : Nat, k ≤ zs.length ∧ i = .int .i64 k ∧ Hid (allBits (zs.take k)) ∧ HasBs wr (w.heap.size + 1) (ofl (zs.take k)) ∧ Below (w.heap.size + 1) (w.alloc (.cells #[.int .u64 0, .int .u64 0, .int .u64 0, .int .u64 0] 24)) wr) (fun i _ => zs.length - (intOf i).toNat)
  case atStart =>
    refine ⟨0, Nat.zero_le _, rfl, hidIn (by intro z hz; simp at hz), ?_, ?_⟩
    · have := hasBs_new (w.alloc (.cells #[.int .u64 0, .int .u64 0, .int .u64 0, .int .u64 0] 24)) 0
      simpa [ofl, wd_zero] using this
    · go_grown
  case round =>
    obtain ⟨k, hk, rfl, HP, hB, hbel⟩ := hrel
    by_cases hlt : k < zs.length
    · have hcc : wr.cell? ⟨bk, o + k, none⟩ = some (.int .i64 (zs[k]?.getD 0)) := by
        rw [hbel.cell (p := ⟨bk, o + k, none⟩) (show bk < w.heap.size + 1 by omega)]
        exact cell_later (Below.alloc (Below.refl _ w) (Nat.le_refl _) _) (Hc.out k hlt)
      by_cases hgood : 1 ≤ zs[k]?.getD 0 ∧ zs[k]?.getD 0 ≤ 256
      · obtain ⟨m, hm, hz⟩ : ∃ m : Nat, m < 256 ∧ zs[k]?.getD 0 = (m : Int) + 1 := ⟨(zs[k]?.getD 0 - 1).toNat, by omega, by omega⟩
        have HP1 : Hid (allBits (zs.take (k + 1))) := hidIn (by
          have e : zs.take (k + 1) = zs.take k ++ [zs[k]?.getD 0] := by
            rw [List.take_add_one, List.getElem?_eq_getElem hlt]; rfl
          rw [e]
          intro z hz'
          rcases List.mem_append.1 hz' with h | h
          · exact HP.out z h
          · simp at h; rw [h]; exact hgood)
        clear hgood hcc
        have hc : wr.cell? ⟨bk, o + k, none⟩ = some (.int .i64 ((m : Int) + 1)) := by
          rw [hbel.cell (p := ⟨bk, o + k, none⟩) (show bk < w.heap.size + 1 by omega), ← hz, ← Hc.out k hlt]
          exact cell_later (Below.alloc (Below.refl _ w) (Nat.le_refl _) _) (Hc.out k hlt) |>.trans (Hc.out k hlt).symm
        have HX : Hid (ofl (zs.take (k + 1)) = ofl (zs.take k) ||| 2 ^ m) := by
          have : zs.take (k + 1) = zs.take k ++ [zs[k]?.getD 0] := by
            rw [List.take_add_one, List.getElem?_eq_getElem hlt]; rfl
          rw [this, ofl_snoc, hz]
          show _ = _
          congr 3
          omega
        have Hz := hidIn hz
        clear hz
        generalize ofl (zs.take k) = X at hB HX
        have hS := Held.of hB hbel
        go_wp2_with (go_at_call 21; refine (isBit_yes _ (by omega) (by omega) _).mono ?_; rintro e wr ⟨rfl, rfl⟩)
        obtain ⟨c0, c1, c2, c3, f0, f1, f2, f3, lt⟩ := hB
        go_region_with (first | (go_at_call 23; refine (only_any m hm _).mono ?_; rintro e w1 ⟨rfl, hb1⟩; have hS1 := Held.keep (Held.drew hS) hb1; obtain ⟨c0', c1', c2', c3', f0', f1', f2', f3', lt', hb1'⟩ := hS1) | (go_at_call 26; refine (or_any _ _ _).mono ?_; rintro e w2 ⟨rfl, hb2⟩; obtain ⟨c0'', c1'', c2'', c3'', f0'', f1'', f2'', f3'', lt'', hb2''⟩ := Held.keep ⟨c0', c1', c2', c3', f0', f1', f2', f3', lt', hb1'⟩ hb2))
        all_goals
          go_wp2
          go_roundw
          case rel => exact ⟨k + 1, by omega, by go_num, HP1, by rw [HX.out]; exact HasBs.put ⟨c0'', c1'', c2'', c3'', f0'', f1'', f2'', f3'', lt''⟩ _, below_put hb2'' (Nat.le_refl _)⟩
          case measure => simp [intOf]; omega
      · have hR := (hasBs_new w 0).keep hbel (by omega)
        obtain ⟨d0, d1, d2, d3, g0, g1, g2, g3, lt'⟩ := hR
        have hbad : zs[k]?.getD 0 < 1 ∨ 256 < zs[k]?.getD 0 := by omega
        have Hbad := hidIn hbad
        generalize zs[k]?.getD 0 = z at *
        clear hgood hbad hB
        go_wp2_with (go_at_call 21; refine (isBit_no _ Hbad.out _).mono ?_; rintro e wr ⟨rfl, rfl⟩)
        refine bodyPost_ret (v := .tuple #[bs 0, .int .i64 2]) (by simp [results, Tryd.results12, go_sem, d0, d1, d2, d3, bs, wd_zero]) rfl ⟨rfl, ?_⟩
        have := below_put (N := 0) (b := w.heap.size) (((Below.refl _ w).alloc (Nat.le_refl _) (.cells #[.int .u64 0, .int .u64 0, .int .u64 0, .int .u64 0] 24)).trans (hbel.mono (Nat.le_succ _))) (Nat.le_refl _)
        simp only [World.putBs, wd_zero] at this
        exact this
    · exfalso
      obtain rfl : k = zs.length := by omega
      have := HP.out
      rw [List.take_length] at this
      exact Ha.out this

end Go.Proofs.YtlfmceochemeaabDoor
