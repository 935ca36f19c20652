/- dandelionref05.Sort. -/
import Derived.Test.YtndiafbldgbplaaJR
namespace Go.Proofs.Ytndiafbldgbplaa
open Go.RowKit

theorem row_cap {w : World} {base n : Nat} {e : TypeId} {size : Nat} {v : Value} {xs : List Value} (h : w.ownsRow base e size v n xs) : ∀ a c, v = .slice a n c → n ≤ c := by
  intro a c hv
  rcases h.2 with ⟨rfl, rfl⟩ | ⟨g, cap, cur, rfl, _, _, h4, _⟩
  · omega
  · simp at hv; omega
theorem row_grownBy {w w' : World} {base k size : Nat} {e : TypeId} {u : Value} {xs : List Value} {row : Option Nat} (h : w.ownsRow base e size u k xs) (hg : w.grownBy w' row) (hS : ∀ j, row = some j → u.ownBlock ≠ some j) : w'.ownsRow base e size u k xs :=
  h.kept hg (by
    cases hr : row with
    | none => cases u.ownBlock <;> simp
    | some j => right; exact hS j hr)
set_option maxRecDepth 100000 in
set_option maxHeartbeats 1000000 in
theorem rsort_ok {l : List Th} {v : Value} {w : World} {base : Nat} (hr : w.ownsRow base 26 2 v l.length (tcs l)) (hl : l.length ≤ 300) :
    Calls Try.prog 17 #[v] w fun e w' => (∃ u, e = .returned u ∧ w'.ownsRow w.heap.size 26 2 u l.length (tcs (sortL ltT l))) ∧ Below w.heap.size w w' := by
  obtain ⟨a, cap, rfl⟩ := row_shape5 hr
  have HRow := hidIn hr
  clear hr
  go_enter Try.func17, Try.ntmps17
  go_wp2
  go_loopw [0, 3] (fun x0 x3 wr => ∃ (k : Nat) (l' : List Th) (va : Option Addr) (vcap : Nat) (ua : Option Addr) (ucap : Nat), k + l'.length = l.length ∧ x0 = .slice va l'.length vcap ∧ x3 = .slice ua k ucap ∧ Hid ((∃ b, wr.ownsRow b 26 2 (.slice va l'.length vcap) l'.length (tcs l')) ∧ wr.ownsRow w.heap.size 26 2 (.slice ua k ucap) k (tcs (outN ltT (fillL ltT l) k)) ∧ (∀ j, (Value.slice ua k ucap).ownBlock = some j → (Value.slice va l'.length vcap).ownBlock ≠ some j) ∧ Sim (popN ltT k (fillL ltT l)) l' (l.length : Int) ∧ Below w.heap.size w wr)) (fun x0 _ _ => slLen x0)
  case atStart => exact ⟨0, l, a, cap, none, 0, by omega, rfl, rfl, hidIn ⟨⟨base, HRow.out⟩, World.ownsRow_nil _ _ _ _, fun j hj => by simp [Value.ownBlock] at hj, sim_fill l, Below.refl _ _⟩⟩
  case round =>
    obtain ⟨k, l', va, vcap, ua, ucap, hk, rfl, rfl, HR⟩ := hrel
    obtain ⟨⟨b, hrow⟩, hout, hsep, hsim, hbel⟩ := HR.out
    clear HR
    by_cases h0 : 0 < l'.length
    · have hlen := hsim.length
      obtain ⟨y, hy⟩ : ∃ y, (popN ltT k (fillL ltT l))[0]? = some y := ⟨_, List.getElem?_eq_getElem (by omega)⟩
      have HL := hidIn (least_ok (thsAt_of_row hrow rfl) h0 (by omega))
      have HRw := hidIn hrow
      have HOut := hidIn hout
      have HSep := hidIn hsep
      have HSim := hidIn hsim
      have HB := hidIn hbel
      have HY := hidIn hy
      clear hrow hout hsep hsim hbel hy hlen
      have hpos : (0 : Int) < (l'.length : Int) := by omega
      go_wp2_with (go_at_call 10; refine HL.out.mono ?_; rintro e w1 ⟨⟨m, rfl, hm⟩, hb1⟩; have Hm := hidIn hm; have HB1 := hidIn hb1; clear hm hb1; fail)
      refine HL.out.mono ?_
      rintro e w1 ⟨⟨m, rfl, hm⟩, hb1⟩
      obtain ⟨hget, hsim2⟩ := HSim.out.pop HY.out hm
      have hml := (List.getElem?_eq_some_iff.1 hget).1
      have hrow1 := row_fr (S := fun _ => False) HRw.out (Fr.of_below hb1) (fun _ _ h => h)
      have hout1 := row_fr (S := fun _ => False) HOut.out (Fr.of_below hb1) (fun _ _ h => h)
      obtain ⟨vg, rfl, hcell⟩ := row_things hrow1 h0
      obtain ⟨c0, c1⟩ := hcell m _ hget
      have hbb := HB.out.trans (hb1.mono HB.out.size)
      obtain ⟨g, cap6, w6, hrun, hown, hlie, hgrow⟩ := append_thing hout1 y.1 (by omega) hbb.size
      have hrow6 := row_grownBy hrow1 hgrow HSep.out
      have hb6 := hbb.grown hgrow hbb.size (fun j hj => (hout1.lt j hj).1)
      have HW := hidIn (without_ok (thsAt_of_row hrow6 rfl) hml (by omega) (row_cap hrow6))
      have HRun := hidIn hrun
      have HOwn := hidIn hown
      have HB6 := hidIn hb6
      have HS2 := hidIn hsim2
      have hmi : (m : Int) < (l'.length : Int) := by omega
      clear hrun hown hb6 hsim2 hcell hrow1 hout1 hbb hrow6 hgrow hlie hb1 hget hm HL
      go_wp2_with (first
        | (refine l_append rfl _ _ 28 rfl HRun.out ?_; clear HRun)
        | (go_at_call 13; refine HW.out.mono ?_; rintro e w7 ⟨⟨u7, rfl, hr7⟩, hb7⟩; obtain ⟨a7, cap7, rfl⟩ := row_shape5 hr7; have HR7 := hidIn hr7; have HB7 := hidIn hb7; clear hr7 hb7))
      go_roundw
      case rel =>
        have hel : (l'.eraseIdx m).length = l'.length - 1 := by rw [List.length_eraseIdx]; simp [hml]
        refine ⟨k + 1, l'.eraseIdx m, a7, cap7, _, _, by omega, by rw [hel], rfl, hidIn ⟨⟨_, by rw [hel]; exact HR7.out⟩, ?_, fun j hj e => ?_, HS2.out, HB6.out.trans (HB7.out.mono HB6.out.size)⟩⟩
        · rw [outN_next ltT HY.out, tcs_snoc]
          exact row_fr (S := fun _ => False) HOwn.out (Fr.of_below HB7.out) (fun _ _ h => h)
        · have h1 := (HOwn.out.lt j hj).2
          rw [hel] at e
          have h2 := (HR7.out.lt j e).1
          omega
      case measure => simp [slLen]; omega
    · have hz : l'.length = 0 := by omega
      have hke : k = l.length := by omega
      have HOut := hidIn hout
      have HB := hidIn hbel
      clear hrow hout hsep hsim hbel
      have hz2 : ¬ ((0 : Int) < (l'.length : Int)) := by omega
      go_wp2
      go_ret
      refine ⟨⟨_, rfl, ?_⟩, HB.out⟩
      have := HOut.out
      unfold sortL
      rw [hke] at this
      exact this
end Go.Proofs.Ytndiafbldgbplaa
