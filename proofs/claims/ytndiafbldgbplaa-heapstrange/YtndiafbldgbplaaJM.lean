/- heap.Sort of numbers, whatever the order. -/
import Derived.Test.YtndiafbldgbplaaJ9
namespace Go.Proofs.Ytndiafbldgbplaa.In
open Go.RowKit
variable {O : OrdS}

/-- Numbers as an argument. -/
def IntsAt (w : World) (v : Value) (l : List Int) : Prop := ∃ a cap, v = .slice a l.length cap ∧ (0 < l.length → ∃ bk o, a = some ⟨bk, o, none⟩ ∧ bk < w.heap.size ∧ ∀ j x, l[j]? = some x → w.cell? ⟨bk, o + j, none⟩ = some (.int .i64 x))
theorem intsAt_of_row {w : World} {base k : Nat} {u : Value} {l : List Int} (hr : w.ownsRow base 3 1 u k (l.map (Value.int .i64))) (hk : l.length = k) : IntsAt w u l := by
  rcases hr.2 with ⟨rfl, rfl⟩ | ⟨g, cap, cur, rfl, hb, hh, _⟩
  · exact ⟨none, 0, by rw [hk], fun h => by omega⟩
  · refine ⟨_, cap, by rw [hk], fun _ => ⟨g, 0, rfl, block_lt hh, fun j x hx => ?_⟩⟩
    have h2 := hr.cells (g := g) rfl j (.int .i64 x) (by rw [List.getElem?_map, hx]; rfl)
    rw [Addr.add_mid, Nat.zero_add] at h2
    rw [Nat.zero_add]
    exact h2
theorem infoNum : (Try.prog.info? 3).map (fun i => (i.zero, i.size, i.bytes)) = some (some (.int .i64 0), 1, 8) := by kernel_rfl
theorem append_num {W : World} {base k : Nat} {u : Value} {xs : List Value} (hr : W.ownsRow base 3 1 u k xs) (x : Int) (hk : k < 1000000) (hbase : base ≤ W.heap.size) :
    ∃ g cap w6, (Builtin.append_ #[51, 51] 51 #[u, .slice (some ⟨W.heap.size, 0, none⟩) 1 1]).run Try.prog (W.alloc (.cells #[.int .i64 x] 3)) = .ok (.slice (some ⟨g, 0, none⟩) (k + 1) cap) w6 ∧
      w6.ownsRow base 3 1 (.slice (some ⟨g, 0, none⟩) (k + 1) cap) (k + 1) (xs ++ [.int .i64 x]) ∧ (u.ownBlock = some g ∨ g = W.heap.size + 1) ∧ W.grownBy w6 u.ownBlock := by
  obtain ⟨i0, hi, hz0, hz1, hz2⟩ := info_parts infoNum
  obtain ⟨g, cap, w6, hrun, hown, hgrow, hlie, _⟩ := run_append_lies (P := Try.prog) (W.alloc (.cells #[.int .i64 x] 3)) 51 51 base 3 i0 _ 1 8 Try.underlying51 hi hz0 hz1 hz2 rfl (by decide) u k xs (hr.alloc _) ⟨W.heap.size, 0, none⟩ 1 1 [.int .i64 x] rfl (World.news_of_block (heap_alloc_new W _)) (by simp [Value.oneCell']) (by omega) (by unfold maxLen; omega) (by omega) (by simp; omega) (W.heap.size + 1) (by simp)
  have hs := hgrow.size
  simp at hs
  exact ⟨g, cap, w6, hrun, hown, hlie, hgrow.os, hgrow.tape, hgrow.output, by omega, fun j hj hne => (hgrow.block j (by simp; omega) hne).trans (Below.heap_alloc _ _ _ hj)⟩
theorem HpM.grown {w w' : World} {base hp : Nat} {v : Value} {es : List (Int × Int)} {p : Int} {row : Option Nat} (h : HpM O w base hp v es p) (hg : w.grownBy w' row) (h1 : ∀ j, row = some j → ¬ own hp v j) (hB : ∀ j, row = some j → ¬ j < O.B) : HpM O w' base hp v es p := by
  refine ⟨(hg.block hp h.lt (fun e => h1 hp e.symm (.inl rfl))).trans h.blk, h.row.kept hg ?_, h.ne, h.hb, h.bB, O.keep _ _ h.inv ⟨hg.os, hg.tape, hg.output, hg.size, fun k hk => hg.block k (by have := h.bB; have := h.hb; have := h.lt; omega) (fun e => hB k e.symm hk)⟩, h.dom⟩
  cases hv : v.ownBlock with
  | none => exact .inl rfl
  | some j => right; intro e; exact h1 j e.symm (.inr hv)
theorem HpM.own_ge {w : World} {base hp : Nat} {v : Value} {es : List (Int × Int)} {p : Int} (h : HpM O w base hp v es p) {j : Nat} (hj : own hp v j) : base ≤ j ∧ j < w.heap.size := by
  rcases hj with rfl | hj
  · exact ⟨h.hb, h.lt⟩
  · exact h.row.lt j hj
set_option maxRecDepth 100000 in
set_option maxHeartbeats 1000000 in
theorem sort_ok {l : List Int} {v : Value} {w : World} (hv : IntsAt w v l) (hl : l.length ≤ 300) (hI : O.I w) (hB : O.B ≤ w.heap.size) (hD : ∀ x ∈ l, O.D x) (hD0 : O.D 0) :
    Calls Try.prog 23 #[v, O.fv] w fun e w' => (∃ u, e = .returned u ∧ w'.ownsRow w.heap.size 3 1 u l.length ((sortL O.lt l).map (Value.int .i64))) ∧ Below w.heap.size w w' := by
  obtain ⟨a, cap, rfl, ha⟩ := hv
  have Ha := hidIn ha
  have HN := hidIn (new_ok O w)
  have HM := hidIn (hpM_new (O := O) w hI hB)
  clear ha
  go_enter Try.func23, Try.ntmps23
  go_wp2_with (go_at_call 21; refine HN.out.mono ?_; rintro e w1 ⟨rfl, hw1⟩; rw [hw1]; clear hw1 w1)
  go_loopw [15] (fun i wr => ∃ k : Nat, k ≤ l.length ∧ i = .int .i64 k ∧ Hid (∃ v, HpM O wr w.heap.size w.heap.size v (fillL O.lt (l.take k)) k ∧ Below w.heap.size w wr)) (fun i _ => l.length - (intOf i).toNat)
  case atStart => exact ⟨0, Nat.zero_le _, rfl, hidIn ⟨_, HM.out, (Below.refl _ w).alloc (Nat.le_refl _) _⟩⟩
  case round =>
    obtain ⟨k, hk, rfl, HR⟩ := hrel
    obtain ⟨vt, hM, hbel⟩ := HR.out
    clear HR
    by_cases hlt : k < l.length
    · obtain ⟨bk, o, rfl, hbk, hc⟩ := Ha.out (by omega)
      obtain ⟨x, hx⟩ : ∃ x, l[k]? = some x := ⟨l[k], List.getElem?_eq_getElem hlt⟩
      have hc0 := (hbel.cell (p := ⟨bk, o + k, none⟩) hbk).trans (hc k x hx)
      have HP := hidIn (push_ok x hM (by rw [fillL_length, List.length_take]; omega) (by omega) (by omega) (hD x (List.mem_of_getElem? hx)))
      have HE := hidIn (fillL_next O.lt hx)
      have HB := hidIn hbel
      have HS : Hid (∀ j, own w.heap.size vt j → w.heap.size ≤ j) := hidIn fun j hj => (hM.own_ge hj).1
      clear hM hbel hc hx
      have hki : (k : Int) < (l.length : Int) := by omega
      go_wp2_with (go_at_call 22; refine HP.out.mono ?_; rintro e w2 ⟨rfl, hM2, hF2⟩)
      go_roundw
      case rel =>
        obtain ⟨v2, h2, _⟩ := hM2
        refine ⟨k + 1, by omega, by go_num, hidIn ⟨v2, ?_, HB.out.trans (hF2.below HB.out.size HS.out)⟩⟩
        rw [HE.out]
        exact h2
      case measure => simp [intOf]; omega
    · have hke : k = l.length := by omega
      have hke' : ¬ ((k : Int) < (l.length : Int)) := by omega
      rw [hke, List.take_length] at hM
      have HM4 := hidIn hM
      have HB := hidIn hbel
      clear hM hbel hk hlt HN HM Ha
      generalize wr = wo at *
      have hfl := fillL_length O.lt l
      rw [hke] at *
      clear hke k
      go_wp2_with fail
      go_loopw [8] (fun x wq => ∃ (k : Nat) (ua : Option Addr) (ucap : Nat), k ≤ l.length ∧ x = .slice ua k ucap ∧ Hid (∃ vt, HpM O wq w.heap.size w.heap.size vt (popN O.lt k (fillL O.lt l)) l.length ∧ wq.ownsRow w.heap.size 3 1 (.slice ua k ucap) k ((outN O.lt (fillL O.lt l) k).map (Value.int .i64)) ∧ (∀ j, (Value.slice ua k ucap).ownBlock = some j → ¬ own w.heap.size vt j) ∧ Below w.heap.size w wq)) (fun x _ => l.length - slLen x)
      case atStart => exact ⟨0, none, 0, Nat.zero_le _, rfl, hidIn ⟨vt, HM4.out, World.ownsRow_nil _ _ _ _, fun j hj => by simp [Value.ownBlock] at hj, HB.out⟩⟩
      case round =>
        obtain ⟨k, ua, ucap, hk, rfl, HR⟩ := hrel
        obtain ⟨vt, hM, hrow, hsep, hbel⟩ := HR.out
        clear HR
        have hlen := popN_length O.lt (fillL O.lt l) k
        rw [hfl] at hlen
        have hL := len_ok hM
        rw [hlen] at hL
        have HL := hidIn hL
        by_cases hlt : k < l.length
        · obtain ⟨a, ha⟩ := popN_head O.lt (show k < (fillL O.lt l).length by omega)
          have HP := hidIn (pop_ok hM (by omega) ha hD0)
          have HRow := hidIn hrow
          have HSep := hidIn hsep
          have HBq := hidIn hbel
          have HO := hidIn (outN_next O.lt ha)
          have HS : Hid (∀ j, own w.heap.size vt j → w.heap.size ≤ j) := hidIn fun j hj => (hM.own_ge hj).1
          have hpos : (0 : Int) < ((l.length - k : Nat) : Int) := by omega
          clear hM hrow hsep hbel hL hlen ha
          generalize l.length - k = m at HL hpos
          go_wp2_with (first
            | (go_at_call 24; refine HL.out.mono ?_; rintro e w1 ⟨rfl, hw1⟩; rw [hw1]; clear hw1 w1)
            | (go_at_call 25; refine HP.out.mono ?_; rintro e w2 ⟨rfl, ⟨v2, h2, h3⟩, hF2⟩; obtain ⟨g, cap6, w6, hrun, hown, hlie, hgrow⟩ := append_num (row_fr HRow.out hF2 HSep.out) a.1 (by omega) (HBq.out.trans (hF2.below HBq.out.size HS.out)).size; have HRun := hidIn hrun; have Hown := hidIn hown; have Hlie := hidIn hlie; have Hgrow := hidIn hgrow; have H2 := hidIn h2; have H3 := hidIn h3; have HF2 := hidIn hF2; clear hrun hown hlie hgrow h2 h3 hF2)
            | (refine l_append rfl _ _ 51 rfl HRun.out ?_))
          go_roundw
          case rel =>
            have hM2 := H2.out
            have hb2 := HBq.out.trans (HF2.out.below HBq.out.size HS.out)
            have hb3 := hb2
            refine ⟨k + 1, _, _, by omega, rfl, hidIn ⟨v2, hM2.grown Hgrow.out (fun j hj h => HSep.out j hj ((own_eq H3.out).1 h)) (fun j hj h => by have := (HRow.out.lt j hj).1; omega), ?_, fun j hj h => ?_, hb3.grown Hgrow.out hb3.size (fun j hj => (HRow.out.lt j hj).1)⟩⟩
            · rw [HO.out, List.map_append]; exact Hown.out
            · simp [Value.ownBlock] at hj
              subst hj
              rcases Hlie.out with h1 | h1
              · exact HSep.out _ h1 ((own_eq H3.out).1 h)
              · have := (H2.out.own_ge h).2; omega
          case measure => simp [slLen]; omega
        · have hke : k = l.length := by omega
          have HBq := hidIn hbel
          have HRow := hidIn hrow
          have hz : l.length - k = 0 := by omega
          rw [hz] at HL
          clear hM hrow hsep hbel hL hlen
          go_wp2_with (go_at_call 24; refine HL.out.mono ?_; rintro e w1 ⟨rfl, hw1⟩; rw [hw1]; clear hw1 w1)
          go_ret
          refine ⟨⟨_, rfl, ?_⟩, HBq.out⟩
          have := HRow.out
          unfold sortL
          rw [hke] at this
          exact this
end Go.Proofs.Ytndiafbldgbplaa.In
