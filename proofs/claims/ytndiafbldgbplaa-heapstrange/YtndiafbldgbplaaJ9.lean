/- Lists of things; heap.Sort of things. -/
import Derived.Test.YtndiafbldgbplaaJ8
namespace Go.Proofs.Ytndiafbldgbplaa
open Go.RowKit

theorem l_append {P : Program} {ops : Array Oper} {rest : List Oper} {o : Oper} {a : Act} {w w' : World} {v' : Value} {Q : Exit → Act → World → Prop}
    (hg : o.guard = none) (s x : Operand) (t : TypeId) (hop : o.op = Op.call { callee := Callee.builtin Builtin.append, args := #[s, x], argTypes := #[t, t] })
    (hrun : (Builtin.append_ #[t, t] o.type #[a.eval s, a.eval x]).run P w = .ok v' w') (h : wpList P ops Q rest (a.put o.dst v') w') : wpList P ops Q (o :: rest) a w := by
  refine wpList_plain hg fun K hK => ?_
  unfold Oper.wp
  simp [execOp, hop, resolve, invoke, builtin, hrun, Result.andThen]
  exact hK _ _ h
/-- The cells of things. -/
abbrev tc (x : Th) : List Value := [.int .i64 x.1, .int .i64 x.2]
def tcs (l : List Th) : List Value := l.flatMap tc
theorem tcs_snoc (l : List Th) (x : Th) : tcs (l ++ [x]) = tcs l ++ tc x := by simp [tcs, List.flatMap_append]
theorem tcs_get : ∀ (l : List Th) (j : Nat) (x : Th), l[j]? = some x → (tcs l)[j * 2]? = some (.int .i64 x.1) ∧ (tcs l)[j * 2 + 1]? = some (.int .i64 x.2)
  | [], j, x, h => by simp at h
  | y :: l, 0, x, h => by simp at h; subst h; simp [tcs]
  | y :: l, j + 1, x, h => by
    have hc : tcs (y :: l) = .int .i64 y.1 :: .int .i64 y.2 :: tcs l := by simp [tcs]
    have := tcs_get l j x (by simpa using h)
    rw [hc, show (j + 1) * 2 = j * 2 + 1 + 1 from by omega, show j * 2 + 1 + 1 + 1 = (j * 2 + 1) + 1 + 1 from rfl]
    exact ⟨by rw [List.getElem?_cons_succ, List.getElem?_cons_succ]; exact this.1, by rw [List.getElem?_cons_succ, List.getElem?_cons_succ]; exact this.2⟩
/-- Things as an argument. -/
def ThsAt (w : World) (v : Value) (l : List Th) : Prop := ∃ a cap, v = .slice a l.length cap ∧ (0 < l.length → ∃ bk o, a = some ⟨bk, o, none⟩ ∧ bk < w.heap.size ∧ ∀ j x, l[j]? = some x → w.cell? ⟨bk, o + j * 2, none⟩ = some (.int .i64 x.1) ∧ w.cell? ⟨bk, o + j * 2 + 1, none⟩ = some (.int .i64 x.2))
theorem ThsAt.keep {w w' : World} {v : Value} {l : List Th} {B : Nat} (h : ThsAt w v l) (hb : Below B w w') (hB : w.heap.size ≤ B) : ThsAt w' v l := by
  obtain ⟨a, cap, rfl, h1⟩ := h
  refine ⟨a, cap, rfl, fun h0 => ?_⟩
  obtain ⟨bk, o, rfl, h2, h3⟩ := h1 h0
  exact ⟨bk, o, rfl, Nat.lt_of_lt_of_le h2 hb.size, fun j x hx => ⟨(hb.cell (p := ⟨bk, o + j * 2, none⟩) (Nat.lt_of_lt_of_le h2 hB)).trans (h3 j x hx).1, (hb.cell (p := ⟨bk, o + j * 2 + 1, none⟩) (Nat.lt_of_lt_of_le h2 hB)).trans (h3 j x hx).2⟩⟩
theorem thsAt_of_row {w : World} {base k : Nat} {u : Value} {l : List Th} (hr : w.ownsRow base 26 2 u k (tcs l)) (hk : l.length = k) : ThsAt w u l := by
  rcases hr.2 with ⟨rfl, rfl⟩ | ⟨g, cap, cur, rfl, hb, hh, _⟩
  · exact ⟨none, 0, by rw [hk], fun h => by omega⟩
  · refine ⟨_, cap, by rw [hk], fun _ => ⟨g, 0, rfl, block_lt hh, fun j x hx => ?_⟩⟩
    have h1 := tcs_get l j x hx
    have h2 := hr.cells (g := g) rfl _ _ h1.1
    have h3 := hr.cells (g := g) rfl _ _ h1.2
    rw [Addr.add_mid, Nat.zero_add] at h2 h3
    rw [Nat.zero_add]
    exact ⟨h2, h3⟩
theorem infoTh : (Try.prog.info? 26).map (fun i => (i.zero, i.size, i.bytes)) = some (some (.agg #[.int .i64 0, .int .i64 0]), 2, 16) := by kernel_rfl
theorem append_thing {W : World} {base k : Nat} {u : Value} {xs : List Value} (hr : W.ownsRow base 26 2 u k xs) (x : Th) (hk : k < 1000000) (hbase : base ≤ W.heap.size) :
    ∃ g cap w6, (Builtin.append_ #[28, 28] 28 #[u, .slice (some ⟨W.heap.size, 0, none⟩) 1 1]).run Try.prog (W.alloc (.cells #[.int .i64 x.1, .int .i64 x.2] 26)) = .ok (.slice (some ⟨g, 0, none⟩) (k + 1) cap) w6 ∧
      w6.ownsRow base 26 2 (.slice (some ⟨g, 0, none⟩) (k + 1) cap) (k + 1) (xs ++ tc x) ∧ (u.ownBlock = some g ∨ g = W.heap.size + 1) ∧ W.grownBy w6 u.ownBlock := by
  obtain ⟨i0, hi, hz0, hz1, hz2⟩ := info_parts infoTh
  obtain ⟨g, cap, w6, hrun, hown, hgrow, hlie, _⟩ := run_append_lies (P := Try.prog) (W.alloc (.cells #[.int .i64 x.1, .int .i64 x.2] 26)) 28 28 base 26 i0 _ 2 16 Try.underlying28 hi hz0 hz1 hz2 rfl (by decide) u k xs (hr.alloc _) ⟨W.heap.size, 0, none⟩ 1 1 (tc x) rfl (World.news_of_block (heap_alloc_new W _)) (by simp [Value.oneCell']) (by omega) (by unfold maxLen; omega) (by omega) (by simp; omega) (W.heap.size + 1) (by simp)
  have hs := hgrow.size
  simp at hs
  exact ⟨g, cap, w6, hrun, hown, hlie, hgrow.os, hgrow.tape, hgrow.output, by omega, fun j hj hne => (hgrow.block j (by simp; omega) hne).trans (Below.heap_alloc _ _ _ hj)⟩
theorem row_fr {w w' : World} {S : Nat → Prop} {base k size : Nat} {e : TypeId} {u : Value} {xs : List Value} (h : w.ownsRow base e size u k xs) (hF : Fr S w w') (hS : ∀ j, u.ownBlock = some j → ¬ S j) : w'.ownsRow base e size u k xs := by
  refine ⟨h.1, ?_⟩
  rcases h.2 with hn | ⟨g, cap, cur, rfl, hb, hgg, rest⟩
  · exact .inl hn
  · exact .inr ⟨g, cap, cur, rfl, hb, (hF.block g (block_lt hgg) (hS g rfl)).trans hgg, rest⟩
theorem HpM.grown {w w' : World} {base hp : Nat} {v : Value} {es : List (Th × Int)} {p : Int} {row : Option Nat} (h : HpM w base hp v es p) (hg : w.grownBy w' row) (h1 : ∀ j, row = some j → ¬ own hp v j) : HpM w' base hp v es p := by
  refine ⟨(hg.block hp h.lt (fun e => h1 hp e.symm (.inl rfl))).trans h.blk, h.row.kept hg ?_, h.ne, h.hb⟩
  cases hv : v.ownBlock with
  | none => exact .inl rfl
  | some j => right; intro e; exact h1 j e.symm (.inr hv)
def slLen : Value → Nat | .slice _ n _ => n | _ => 0
theorem HpM.own_ge {w : World} {base hp : Nat} {v : Value} {es : List (Th × Int)} {p : Int} (h : HpM w base hp v es p) {j : Nat} (hj : own hp v j) : base ≤ j ∧ j < w.heap.size := by
  rcases hj with rfl | hj
  · exact ⟨h.hb, h.lt⟩
  · exact h.row.lt j hj
theorem own_eq {hp j : Nat} {v v' : Value} (h : v'.ownBlock = v.ownBlock) : own hp v' j ↔ own hp v j := by unfold own; rw [h]

set_option maxRecDepth 100000 in
set_option maxHeartbeats 1000000 in
theorem sort_ok {l : List Th} {v : Value} {w : World} (hv : ThsAt w v l) (hl : l.length ≤ 300) :
    Calls Try.prog 18 #[v, lessV] w fun e w' => (∃ u, e = .returned u ∧ w'.ownsRow w.heap.size 26 2 u l.length (tcs (sortL ltT l))) ∧ Below w.heap.size w w' := by
  obtain ⟨a, cap, rfl, ha⟩ := hv
  have Ha := hidIn ha
  have HN := hidIn (new_ok w)
  have HM := hidIn (hpM_new w)
  clear ha
  go_enter Try.func18, Try.ntmps18
  go_wp2_with (go_at_call 8; refine HN.out.mono ?_; rintro e w1 ⟨rfl, hw1⟩; rw [hw1]; clear hw1 w1)
  go_loopw [15] (fun i wr => ∃ k : Nat, k ≤ l.length ∧ i = .int .i64 k ∧ Hid (∃ v, HpM wr w.heap.size w.heap.size v (fillL ltT (l.take k)) k ∧ Below w.heap.size w wr)) (fun i _ => l.length - (intOf i).toNat)
  case atStart => exact ⟨0, Nat.zero_le _, rfl, hidIn ⟨_, HM.out, (Below.refl _ w).alloc (Nat.le_refl _) _⟩⟩
  case round =>
    obtain ⟨k, hk, rfl, HR⟩ := hrel
    obtain ⟨vt, hM, hbel⟩ := HR.out
    clear HR
    by_cases hlt : k < l.length
    · obtain ⟨bk, o, rfl, hbk, hc⟩ := Ha.out (by omega)
      obtain ⟨x, hx⟩ : ∃ x, l[k]? = some x := ⟨l[k], List.getElem?_eq_getElem hlt⟩
      have hc0 := (hbel.cell (p := ⟨bk, o + k * 2, none⟩) hbk).trans (hc k x hx).1
      have hc1 := (hbel.cell (p := ⟨bk, o + k * 2 + 1, none⟩) hbk).trans (hc k x hx).2
      have hM1 := hM.below ((Below.refl _ wr).alloc (Nat.le_refl _) (.cells #[.int .i64 x.1, .int .i64 x.2] 26)) (Nat.le_refl _)
      have HP := hidIn (push_ok x hM1 (by rw [fillL_length, List.length_take]; omega) (by omega) (by omega))
      have HE := hidIn (fillL_next ltT hx)
      have HB := hidIn (hbel.alloc hbel.size (.cells #[.int .i64 x.1, .int .i64 x.2] 26))
      have HS : Hid (∀ j, own w.heap.size vt j → w.heap.size ≤ j) := hidIn fun j hj => (hM.own_ge hj).1
      clear hM hM1 hbel hc hx
      have hki : (k : Int) < (l.length : Int) := by omega
      go_wp2_with (go_at_call 11; refine HP.out.mono ?_; rintro e w2 ⟨rfl, hM2, hF2⟩)
      go_roundw
      case rel =>
        obtain ⟨v2, h2, _⟩ := hM2
        refine ⟨k + 1, by omega, by go_num, hidIn ⟨v2, ?_, HB.out.trans (hF2.below HB.out.size HS.out)⟩⟩
        rw [HE.out]
        exact h2
      case measure => simp [intOf]; omega
    · have hke : k = l.length := by omega
      have hke' : ¬ ((k : Int) < (l.length : Int)) := by omega
      rw [hke, List.take_length] at hM
      have HM4 := hidIn hM
      have HB := hidIn hbel
      clear hM hbel hk hlt HN HM Ha
      generalize wr = wo at *
      have hfl := fillL_length ltT l
      rw [hke] at *
      clear hke k
      go_wp2_with fail
      go_loopw [8] (fun x wq => ∃ (k : Nat) (ua : Option Addr) (ucap : Nat), k ≤ l.length ∧ x = .slice ua k ucap ∧ Hid (∃ vt, HpM wq w.heap.size w.heap.size vt (popN ltT k (fillL ltT l)) l.length ∧ wq.ownsRow w.heap.size 26 2 (.slice ua k ucap) k (tcs (outN ltT (fillL ltT l) k)) ∧ (∀ j, (Value.slice ua k ucap).ownBlock = some j → ¬ own w.heap.size vt j) ∧ Below w.heap.size w wq)) (fun x _ => l.length - slLen x)
      case atStart => exact ⟨0, none, 0, Nat.zero_le _, rfl, hidIn ⟨vt, HM4.out, World.ownsRow_nil _ _ _ _, fun j hj => by simp [Value.ownBlock] at hj, HB.out⟩⟩
      case round =>
        obtain ⟨k, ua, ucap, hk, rfl, HR⟩ := hrel
        obtain ⟨vt, hM, hrow, hsep, hbel⟩ := HR.out
        clear HR
        have hlen := popN_length ltT (fillL ltT l) k
        rw [hfl] at hlen
        have hL := len_ok hM
        rw [hlen] at hL
        have HL := hidIn hL
        by_cases hlt : k < l.length
        · obtain ⟨a, ha⟩ := popN_head ltT (show k < (fillL ltT l).length by omega)
          have HP := hidIn (pop_ok hM (by omega) ha)
          have HRow := hidIn hrow
          have HSep := hidIn hsep
          have HBq := hidIn hbel
          have HO := hidIn (outN_next ltT ha)
          have HS : Hid (∀ j, own w.heap.size vt j → w.heap.size ≤ j) := hidIn fun j hj => (hM.own_ge hj).1
          have hpos : (0 : Int) < ((l.length - k : Nat) : Int) := by omega
          clear hM hrow hsep hbel hL hlen ha
          generalize l.length - k = m at HL hpos
          go_wp2_with (first
            | (go_at_call 15; refine HL.out.mono ?_; rintro e w1 ⟨rfl, hw1⟩; rw [hw1]; clear hw1 w1)
            | (go_at_call 12; refine HP.out.mono ?_; rintro e w2 ⟨rfl, ⟨v2, h2, h3⟩, hF2⟩; obtain ⟨g, cap6, w6, hrun, hown, hlie, hgrow⟩ := append_thing ((row_fr HRow.out hF2 HSep.out).alloc (.cells #[.int .i64 a.1.1, .int .i64 a.1.2] 26)) a.1 (by omega) (Nat.le_trans (HBq.out.trans (hF2.below HBq.out.size HS.out)).size (by simp)); rw [World.size_alloc] at hrun hlie; have HRun := hidIn hrun; have Hown := hidIn hown; have Hlie := hidIn hlie; have Hgrow := hidIn hgrow; have H2 := hidIn h2; have H3 := hidIn h3; have HF2 := hidIn hF2; clear hrun hown hlie hgrow h2 h3 hF2)
            | (refine l_append rfl _ _ 28 rfl HRun.out ?_))
          go_roundw
          case rel =>
            have hM2 := H2.out.below ((Below.refl _ w2).alloc (Nat.le_refl _) (.cells #[.int .i64 a.1.1, .int .i64 a.1.2] 26)) (Nat.le_refl _)
            have hb2 := HBq.out.trans (HF2.out.below HBq.out.size HS.out)
            have hb3 := hb2.alloc hb2.size (.cells #[.int .i64 a.1.1, .int .i64 a.1.2] 26)
            refine ⟨k + 1, _, _, by omega, rfl, hidIn ⟨v2, hM2.grown Hgrow.out (fun j hj h => HSep.out j hj ((own_eq H3.out).1 h)), ?_, fun j hj h => ?_, hb3.grown Hgrow.out hb3.size (fun j hj => (HRow.out.lt j hj).1)⟩⟩
            · rw [HO.out, tcs_snoc]; exact Hown.out
            · simp [Value.ownBlock] at hj
              subst hj
              rcases Hlie.out with h1 | h1
              · exact HSep.out _ h1 ((own_eq H3.out).1 h)
              · have := (H2.out.own_ge h).2; omega
          case measure => simp [slLen]; omega
        · have hke : k = l.length := by omega
          have HBq := hidIn hbel
          have HRow := hidIn hrow
          have hz : l.length - k = 0 := by omega
          rw [hz] at HL
          clear hM hrow hsep hbel hL hlen
          go_wp2_with (go_at_call 15; refine HL.out.mono ?_; rintro e w1 ⟨rfl, hw1⟩; rw [hw1]; clear hw1 w1)
          go_ret
          refine ⟨⟨_, rfl, ?_⟩, HBq.out⟩
          have := HRow.out
          unfold sortL
          rw [hke] at this
          exact this
end Go.Proofs.Ytndiafbldgbplaa
