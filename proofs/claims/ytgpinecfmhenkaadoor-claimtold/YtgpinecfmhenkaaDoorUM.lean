/- Mine. -/
import Derived.Test.YtgpinecfmhenkaaDoorUM0
namespace Go.Proofs.YtgpinecfmhenkaaDoor
open Go.RowKit

def tstQ (acc : Option (Int × List Int)) (i : Int) : Bool := match acc with | none => true | some x => decide (i < x.1)
/-- Of the claims that have a router the one of the least id, the first of several. -/
def lstT (T : List (Int × List Int)) (self : Int) : Option (Int × List Int) := T.foldl (fun acc c => if (c.2.contains self && tstQ acc c.1) = true then some c else acc) none
theorem lstO_cls (self : Int) : ∀ (L : List Cl) (acc : Option Cl), (L.foldl (lstC self) acc).map (fun x => (x.1, x.2.1)) = (cls L).foldl (fun acc c => if (c.2.contains self && tstQ acc c.1) = true then some c else acc) (acc.map fun x => (x.1, x.2.1))
  | [], acc => rfl
  | c :: L, acc => by
    rw [List.foldl_cons, lstO_cls self L, show cls (c :: L) = (c.1, c.2.1) :: cls L from rfl, List.foldl_cons]
    congr 1
    have hq : tstQ (acc.map fun x => (x.1, x.2.1)) c.1 = lstQ acc c.1 := by cases acc <;> rfl
    unfold lstC
    simp only
    rw [hq]
    by_cases h : (c.2.1.contains self && lstQ acc c.1) = true
    · rw [if_pos h, if_pos h]; rfl
    · rw [if_neg h, if_neg h]
theorem lstT_of {L : List Cl} {T : List (Int × List Int)} (h : cls L = T) (self : Int) : lstT T self = (lstO L self).map fun x => (x.1, x.2.1) := by
  have := lstO_cls self L none
  rw [h] at this
  exact this.symm
/-- What Mine answers. -/
def MineT (w w' : World) (T : List (Int × List Int)) (self : Int) (e : Ending) : Prop :=
  (lstT T self = none ∧ e = .returned (.tuple #[.int .i64 0, .nilIface])) ∨
  (∃ p x, lstT T self = some p ∧ p.2 = [x] ∧ e = .returned (.tuple #[.int .i64 p.1, .nilIface])) ∨
  (∃ p, lstT T self = some p ∧ 2 ≤ p.2.length ∧ ∃ c u, e = .returned (.tuple #[.int .i64 0, rfs (pcf c)]) ∧ w.heap.size ≤ c ∧ w'.heap[c]? = some (.cells #[.int .i64 p.1, u] 54) ∧ w'.ownsRow w.heap.size 3 1 u p.2.length (fl ic p.2))
theorem neqR (v : Value) (w : World) : (binOp BinOp.neq 25 (rfs v) .nilIface).run Tryd.prog w = .ok (.bool true) w := by kernel_rfl
theorem neqN (w : World) : (binOp BinOp.neq 25 .nilIface .nilIface).run Tryd.prog w = .ok (.bool false) w := by kernel_rfl
set_option maxRecDepth 100000 in
set_option maxHeartbeats 4000000 in
theorem mine_T {T : List (Int × List Int)} {v : Value} (self : Int) {w : World} (h : TAt w v T) (hl : ∀ p ∈ T, p.2.length ≤ 10000) :
    Calls Tryd.prog 10 #[v, .int .i64 self] w fun e w' => MineT w w' T self e ∧ Below w.heap.size w w' := by
  obtain ⟨L, h1, h2⟩ := h
  have HLe := hidIn (leastOf_any (self := self) h1)
  have hT := lstT_of h2 self
  have hmem : ∀ x, lstO L self = some x → x ∈ L ∧ x.2.1.length ≤ 10000 ∧ x.2.1 ≠ [] := fun x hx => by
    obtain ⟨g1, g2⟩ := lstO_has hx
    exact ⟨g1, hl (x.1, x.2.1) (by rw [← h2]; exact List.mem_map.2 ⟨x, g1, rfl⟩), fun e => by rw [e] at g2; simp at g2⟩
  obtain ⟨a, cap, rfl, _⟩ := h1.r
  have HA := hidIn h1.a
  have nR := neqR
  have nN := neqN
  cases hac : lstO L self with
  | none =>
    rw [hac] at HLe hT
    simp only [lsV] at HLe
    have HT : Hid (lstT T self = none) := hidIn hT
    clear hmem h1 h2 hT hac hl
    go_enter Tryd.func10, Tryd.ntmps10
    go_wp2_with fail
    refine HLe.out.mono ?_
    rintro e w1 ⟨rfl, hb1⟩
    obtain ⟨W1, hW1⟩ : ∃ W1, w1.alloc (.cells #[.int .i64 0, .slice none 0 0] 31) = W1 := ⟨_, rfl⟩
    have hB1 : Below w.heap.size w W1 := by rw [← hW1]; exact hb1.alloc hb1.size _
    have HS := hidIn (sole_any (id := 0) (v := nilS) (rs := []) (w := W1) (slAt_of_row (cs := ic) (fun _ => rfl) (World.ownsRow_nil W1 0 3 1) rfl) (.inr rfl) (by decide))
    have HW := hidIn hW1
    have HB1 := hidIn hB1
    have hX := heap_alloc_last w1 (.cells #[.int .i64 0, .slice none 0 0] 31)
    rw [hW1] at hX
    obtain ⟨b1, hb1'⟩ : ∃ b1, w1.heap.size = b1 := ⟨_, rfl⟩
    rw [hb1'] at hX
    have x0 := cell_of_row _ _ 0 _ _ _ hX
    have x1 := cell_of_row _ _ 1 _ _ _ hX
    simp at x0 x1
    clear hb1 hW1 hB1 hX HLe
    go_upto_region 2 with fail
    rw [HW.out]
    clear HW hb1'
    go_wp2_with fail
    refine HS.out.mono ?_
    rintro e w2 ⟨hs, hb2⟩
    rcases hs with ⟨_, b, rfl, hb, hX⟩ | ⟨y, hy, _⟩ | ⟨hy, _⟩
    rotate_left
    · cases hy
    · simp at hy
    have HIs := hidIn (isF_any hX 6)
    have HB2 := hidIn (HB1.out.trans (hb2.mono HB1.out.size))
    clear hb hX hb2 HS HB1 x0 x1
    go_wp2_with fail
    refine HIs.out.mono ?_
    rintro e w3 ⟨rfl, hb3⟩
    have HB3 := hidIn (HB2.out.trans (hb3.mono HB2.out.size))
    clear hb3 HIs HB2
    go_wp2_with fail
    go_ret2
    exact ⟨.inl ⟨HT.out, rfl⟩, HB3.out⟩
  | some x =>
    obtain ⟨xi, xs, xv⟩ := x
    rw [hac] at HLe hT
    simp only [lsV] at HLe
    obtain ⟨g1, g2, g3⟩ := hmem _ hac
    simp only at g2 g3
    obtain ⟨hxs, hxn⟩ := HA.out _ g1
    simp only at hxs hxn
    have HT : Hid (lstT T self = some (xi, xs)) := hidIn hT
    have HXs := hidIn hxs
    have HXn := hidIn hxn
    have HG := hidIn (And.intro g2 g3)
    obtain ⟨xa, xc, hxv⟩ : ∃ xa xc, xv = .slice xa xs.length xc := by
      obtain ⟨xa, xc, h, _⟩ := hxs
      exact ⟨xa, xc, h⟩
    subst hxv
    clear hmem h1 h2 hT hac hl hxs hxn g1 g2 g3
    go_enter Tryd.func10, Tryd.ntmps10
    go_wp2_with fail
    refine HLe.out.mono ?_
    rintro e w1 ⟨rfl, hb1⟩
    obtain ⟨W1, hW1⟩ : ∃ W1, w1.alloc (.cells #[.int .i64 xi, .slice xa xs.length xc] 31) = W1 := ⟨_, rfl⟩
    have hB1 : Below w.heap.size w W1 := by rw [← hW1]; exact hb1.alloc hb1.size _
    have HS := hidIn (sole_any (id := xi) (HXs.out.keep hB1 (Nat.le_refl _)) HXn.out HG.out.1)
    have HW := hidIn hW1
    have HB1 := hidIn hB1
    have hX := heap_alloc_last w1 (.cells #[.int .i64 xi, .slice xa xs.length xc] 31)
    rw [hW1] at hX
    obtain ⟨b1, hb1'⟩ : ∃ b1, w1.heap.size = b1 := ⟨_, rfl⟩
    rw [hb1'] at hX
    have x0 := cell_of_row _ _ 0 _ _ _ hX
    have x1 := cell_of_row _ _ 1 _ _ _ hX
    simp at x0 x1
    have HX := hidIn hX
    clear hb1 hW1 hB1 hX HLe
    go_upto_region 2 with fail
    rw [HW.out]
    clear HW hb1'
    go_wp2_with fail
    refine HS.out.mono ?_
    rintro e w2 ⟨hs, hb2⟩
    have HB2 := hidIn (HB1.out.trans (hb2.mono HB1.out.size))
    have hX2 := (hb2.block _ (block_lt HX.out)).trans HX.out
    have y0 := cell_of_row _ _ 0 _ _ _ hX2
    simp at y0
    rcases hs with ⟨hs, _⟩ | ⟨y, hy, rfl⟩ | ⟨hy, c, u, rfl, hc, hcx, hcr⟩
    · exact absurd hs HG.out.2
    · have HY := hidIn hy
      clear hb2 HS HB1 x0 x1 hX2 hy
      go_wp2_with fail
      refine (isN_any 6 _).mono ?_
      rintro e w3 ⟨rfl, hw3⟩
      rw [hw3]
      clear hw3 w3
      go_wp2_with fail
      go_ret2
      exact ⟨.inr (.inl ⟨_, y, HT.out, HY.out, rfl⟩), HB2.out⟩
    · have HIs := hidIn (isC_any c 6 w2)
      have HE : Hid (∀ w3, Below w2.heap.size w2 w3 → MineT w w3 T self (.returned (.tuple #[.int .i64 0, rfs (pcf c)]))) := hidIn fun w3 hb3 => .inr (.inr ⟨_, HT.out, hy, c, u, rfl, Nat.le_trans HB1.out.size hc, (hb3.block _ (block_lt hcx)).trans hcx, row_below (row_low hcr HB1.out.size) hb3 (Nat.le_refl _)⟩)
      clear hb2 HS HB1 x0 x1 hX2 hy hc hcx hcr y0
      go_wp2_with fail
      refine HIs.out.mono ?_
      rintro e w3 ⟨rfl, hb3⟩
      have HB3 := hidIn (HB2.out.trans (hb3.mono HB2.out.size))
      have HE3 := hidIn (HE.out w3 hb3)
      clear hb3 HIs HB2 HE
      go_wp2_with fail
      go_ret2
      exact ⟨HE3.out, HB3.out⟩
end Go.Proofs.YtgpinecfmhenkaaDoor
