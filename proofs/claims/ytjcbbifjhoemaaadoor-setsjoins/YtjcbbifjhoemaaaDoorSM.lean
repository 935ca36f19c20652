/- The document's Split, where it refuses; a list laid anew behind nothing. -/
import Derived.Test.YtjcbbifjhoemaaaDoorSL
namespace Go.Proofs.YtjcbbifjhoemaaaDoor
open Go.RowKit

set_option maxRecDepth 100000 in
set_option maxHeartbeats 1000000 in
theorem rsplit_wide {v : Value} {W : Int} (h : ¬ IsW W) {w : World} :
    Calls Tryd.prog 6 #[v, .int .i64 W] w fun e w' => e = .returned (.tuple #[.slice none 0 0, .int .i64 0, .int .i64 2]) ∧ Below w.heap.size w w' := by
  go_enter Tryd.func6, Tryd.ntmps6
  go_wp2_with (go_at_call 15; refine (rwidth_no W h _).mono ?_; rintro e w1 ⟨rfl, hw1⟩; rw [hw1]; clear hw1 w1)
  go_returns
  exact ⟨rfl, Below.refl _ _⟩
set_option maxRecDepth 100000 in
set_option maxHeartbeats 1000000 in
theorem rsplit_none {zs : List Int} {v : Value} {W : Nat} (hW : IsW W) (hall : ¬ allIds zs) {w : World} (hv : IdsAt w v zs) :
    Calls Tryd.prog 6 #[v, .int .i64 W] w fun e w' => e = .returned (.tuple #[.slice none 0 0, .int .i64 0, .int .i64 2]) ∧ Below w.heap.size w w' := by
  obtain ⟨a, cap, rfl, hlen, hat⟩ := idsG hv
  have Ha := hidIn hat
  have Hall := hidIn hall
  clear hat hall hv
  go_enter Tryd.func6, Tryd.ntmps6
  go_wp2_with (go_at_call 15; refine (rwidth_yes W hW _).mono ?_; rintro e w1 ⟨rfl, hw1⟩; rw [hw1]; clear hw1 w1)
  go_loopw [7] (fun i wr => wr = w ∧ ∃ k : Nat, k ≤ zs.length ∧ i = .int .i64 k ∧ Hid (allIds (zs.take k))) (fun i _ => zs.length - (intOf i).toNat)
  case atStart => exact ⟨rfl, 0, Nat.zero_le _, rfl, hidIn (by intro z hz; simp at hz)⟩
  case round =>
    obtain ⟨hwr, k, hk, rfl, HP⟩ := hrel
    rw [hwr]
    clear hwr
    by_cases hlt : k < zs.length
    · obtain ⟨bk, o, rfl, hbk, hcell⟩ := Ha.out (by omega)
      have hc := hcell k hlt
      by_cases hg : 1 ≤ zs[k]?.getD 0 ∧ zs[k]?.getD 0 ≤ 1024
      · have HP1 := hidIn (allIds_next hlt HP.out hg)
        generalize zs[k]?.getD 0 = z at hc hg
        clear hcell
        go_wp2_with (go_at_call 16; refine (risId_yes z hg.1 hg.2 _).mono ?_; rintro e w1 ⟨rfl, hw1⟩; rw [hw1]; clear hw1 w1)
        go_roundw
        case rel => exact ⟨trivial, k + 1, by omega, by go_num, HP1⟩
        case measure => simp [intOf]; omega
      · have hbad : zs[k]?.getD 0 < 1 ∨ 1024 < zs[k]?.getD 0 := by omega
        clear hg
        generalize zs[k]?.getD 0 = z at hc hbad
        clear hcell
        go_wp2_with (go_at_call 16; refine (risId_no z hbad _).mono ?_; rintro e w1 ⟨rfl, hw1⟩; rw [hw1]; clear hw1 w1)
        go_returns
        exact ⟨rfl, Below.refl _ _⟩
    · exfalso
      have hke : k = zs.length := by omega
      have := HP.out
      rw [hke, List.take_length] at this
      exact Hall.out this
/-- A list laid behind nothing, in a row of one's own. -/
theorem append_all {w : World} {zs : List Int} {a : Option Addr} {cap : Nat} (hl : zs.length ≤ 100000) (hn : a = none → cap = 0) (hat : ∀ ad, a = some ad → ∀ j, j < zs.length → w.cell? (ad.add j) = some (.int .i64 (zs[j]?.getD 0))) (hno : a = none → zs = []) :
    ∃ v w', (Builtin.append_ #[22, 22] 22 #[.slice none 0 0, .slice a zs.length cap]).run Tryd.prog w = .ok v w' ∧ w'.ownsRow w.heap.size 3 1 v zs.length (zs.map fun z => Value.int .i64 z) ∧ Below w.heap.size w w' := by
  obtain ⟨i0, hi, hz0, hz1, hz2⟩ := info_parts infoInt
  cases a with
  | none =>
    obtain rfl := hno rfl
    obtain rfl := hn rfl
    refine ⟨.slice none 0 0, w, ?_, World.ownsRow_nil _ _ _ _, Below.refl _ _⟩
    simp [Builtin.append_, go_sem, run_underlying Tryd.underlying22 w]
  | some ad =>
    obtain ⟨v', w', hrun, r1, r2, _⟩ := run_append_own (P := Tryd.prog) w w.heap.size 22 22 3 i0 _ 1 8 Tryd.underlying22 hi hz0 hz1 hz2 rfl (by decide) (.slice none 0 0) 0 [] (World.ownsRow_nil _ _ _ _) ad zs.length cap (zs.map fun z => Value.int .i64 z) (by simp) (fun j u hu => by
      rw [List.getElem?_map] at hu
      cases h : zs[j]? with
      | none => rw [h] at hu; cases hu
      | some z =>
        rw [h] at hu
        have := hat ad rfl j (List.getElem?_eq_some_iff.1 h).1
        rw [this, h]
        exact hu) (fun u hu => by obtain ⟨z, _, rfl⟩ := List.mem_map.1 hu; rfl) (by unfold maxLen; omega) (by omega) (Nat.le_refl _)
    refine ⟨v', w', hrun, by simpa using r1, ?_⟩
    exact (Below.refl _ w).grown r2 (Nat.le_refl _) (fun k e => by simp [Value.ownBlock] at e)
end Go.Proofs.YtjcbbifjhoemaaaDoor
