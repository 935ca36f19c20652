/- net: isThere; is there such a link, such a router? net: is a link cut, is it up? net: put, refused, Send. net: Send. A range over an iterator that lays nothing: the law for a caller whose body always goes on. Pointers to things of dandelion/api.Arrive: slices.Values, Collect. -/
import Derived.Test.YtkhfpcnmnnboeaaNT2
import Derived.Test.YtkhfpcnmnnboeaaCB
import Derived.RangeFuncNested
import Derived.RangeFuncBound
import Derived.RangeFuncCalls
import Derived.RangeFuncLeaves
import Derived.RangeFuncBox
import Derived.Shelf.Abstract
import Derived.Shelf.RegionOpen
import Derived.OwnWalkIn
import Derived.TacticsInMore
import Derived.LoopNIn
import Derived.LoopIn
import Derived.Maps.AppendAt
import Derived.Test.YtkhfpcnmnnboeaaC9A
namespace Go.Proofs.Ytkhfpcnmnnboeaa.Nt
open Go.RowKit Go.Proofs.Ytkhfpcnmnnboeaa.Fa

set_option maxRecDepth 100000 in
theorem nl1_any {a b : Int} {ab bb : Nat} (x : Ed) {w : World} (ha : w.heap[ab]? = some (.cells #[.int .i64 a] 3)) (hb : w.heap[bb]? = some (.cells #[.int .i64 b] 3)) :
    Calls Try.prog 45 #[edV x, pp ab, pp bb] w fun e w' => e = .returned (.bool (decide (x.1 = a) && decide (x.2.1 = b))) ∧ Below w.heap.size w w' := by
  obtain ⟨W1, hW1⟩ : ∃ W1, w.alloc (.cells #[.int .i64 x.1, .int .i64 x.2.1, .int .i64 x.2.2] 64) = W1 := ⟨_, rfl⟩
  have bA : Below w.heap.size w W1 := by rw [← hW1]; exact (Below.refl _ w).alloc (Nat.le_refl _) _
  have hX : W1.heap[w.heap.size]? = some (.cells #[.int .i64 x.1, .int .i64 x.2.1, .int .i64 x.2.2] 64) := by rw [← hW1]; exact heap_alloc_last w _
  have t0 := cell_of_row _ _ 0 _ _ _ ((bA.block _ (block_lt ha)).trans ha)
  have t1 := cell_of_row _ _ 0 _ _ _ ((bA.block _ (block_lt hb)).trans hb)
  have x0 := cell_of_row _ _ 0 _ _ _ hX
  have x1 := cell_of_row _ _ 1 _ _ _ hX
  simp at t0 t1 x0 x1
  have HB := hidIn bA
  have HW := hidIn hW1
  obtain ⟨x, y, z⟩ := x
  simp only at x0 x1 HW ⊢
  clear hW1 bA hX ha hb
  by_cases h1 : x = a
  · subst h1
    have e1 : decide (x = x) = true := by simp
    by_cases h2 : y = b
    · subst h2
      have e2 : decide (y = y) = true := by simp
      rw [e1, e2]
      go_enter Try.func45, Try.ntmps45
      go_upto_region 1 with fail
      rw [HW.out]
      clear HW
      go_wp2_with fail
      go_returns
      exact ⟨rfl, HB.out⟩
    · have e2 : decide (y = b) = false := by simpa using h2
      rw [e1, e2]
      go_enter Try.func45, Try.ntmps45
      go_upto_region 1 with fail
      rw [HW.out]
      clear HW
      go_wp2_with fail
      go_returns
      exact ⟨by simpa using h2, HB.out⟩
  · have e1 : decide (x = a) = false := by simpa using h1
    rw [e1]
    go_enter Try.func45, Try.ntmps45
    go_upto_region 1 with fail
    rw [HW.out]
    clear HW
    go_wp2_with fail
    go_returns
    exact ⟨rfl, HB.out⟩
theorem enterN1 (args : Array Value) (w : World) : (callFunc 45 args).run Try.prog w = .ok (Next.enter 45 args) w := by kernel_rfl
set_option maxRecDepth 100000 in
theorem idxE_any {E : List Ed} {v : Value} {a b : Int} {ab bb : Nat} {w : World} (h : SlAt ec 3 w v E) (hl : E.length ≤ 100000) (ha : w.heap[ab]? = some (.cells #[.int .i64 a] 3)) (hb : w.heap[bb]? = some (.cells #[.int .i64 b] 3)) :
    Calls Try.prog 62 #[v, .func (.func 45) #[] #[pp ab, pp bb]] w fun e w' =>
      (∃ r : Int, e = .returned (.int .i64 r) ∧ decide (0 ≤ r) = E.any fun x => decide (x.1 = a) && decide (x.2.1 = b)) ∧ Below w.heap.size w w' := by
  obtain ⟨aa, ca, rfl, hla, _, hca⟩ := h.eds
  have Hc := hidIn hca
  have Ha := hidIn ha
  have Hb := hidIn hb
  have hE := enterN1
  clear hca h ha hb
  go_enter Try.func62, Try.ntmps62
  go_wp2_with fail
  go_loopw [8] (fun i wr => ∃ k : Nat, k ≤ E.length ∧ i = .int .i64 k ∧ Hid (Below w.heap.size w wr ∧ ∀ y ∈ E.take k, (decide (y.1 = a) && decide (y.2.1 = b)) = false)) (fun i _ => E.length - (intOf i).toNat)
  case atStart => exact ⟨0, Nat.zero_le _, rfl, hidIn ⟨Below.refl _ _, fun y hy => by simp at hy⟩⟩
  case round =>
    obtain ⟨k, hk, rfl, HR⟩ := hrel
    by_cases hlt : k < E.length
    · obtain ⟨bk, o, rfl, hbk, hc⟩ := Hc.out (by omega)
      obtain ⟨x, hx⟩ : ∃ z, E[k]? = some z := ⟨E[k], List.getElem?_eq_getElem hlt⟩
      have hbw := HR.out.1
      obtain ⟨q0, q1, q2⟩ := hc k _ hx
      have c0 := (hbw.cell (p := ⟨bk, o + k * 3, none⟩) hbk).trans q0
      have c1 := (hbw.cell (p := ⟨bk, o + k * 3 + 1, none⟩) hbk).trans q1
      have c2 := (hbw.cell (p := ⟨bk, o + k * 3 + 2, none⟩) hbk).trans q2
      have hki : (k : Int) < (E.length : Int) := by omega
      have hk9 : (k : Int) < 100000 := by omega
      have HX := hidIn hx
      have HC := hidIn (nl1_any x ((hbw.block _ (block_lt Ha.out)).trans Ha.out) ((hbw.block _ (block_lt Hb.out)).trans Hb.out))
      obtain ⟨x0, x1, x2⟩ := x
      simp only at c0 c1 c2 HC
      clear hx hbw q0 q1 q2 hc
      go_wp2_with fail
      refine HC.out.mono ?_
      rintro e w3 ⟨rfl, hb3⟩
      have HB3 := hidIn (HR.out.1.trans (hb3.mono HR.out.1.size))
      clear hb3 HC c0 c1 c2
      cases hxt : (decide (x0 = a) && decide (x1 = b))
      · have HXt := hidIn hxt
        clear hxt
        go_wp2_with fail
        go_roundw
        case rel =>
          refine ⟨k + 1, by omega, by go_num, hidIn ⟨HB3.out, fun y hy => ?_⟩⟩
          rw [take_snoc HX.out] at hy
          rcases List.mem_append.1 hy with h1 | h1
          · exact HR.out.2 y h1
          · rw [List.mem_singleton.1 h1]
            exact HXt.out
        case measure => simp [intOf]; omega
      · have HXt := hidIn hxt
        clear hxt
        go_wp2_with fail
        go_returns
        refine ⟨⟨_, rfl, ?_⟩, HB3.out⟩
        have e2 : (E.any fun x => decide (x.1 = a) && decide (x.2.1 = b)) = true := by
          rw [List.any_eq_true]
          exact ⟨_, List.mem_of_getElem? HX.out, HXt.out⟩
        rw [e2]
        simp
    · have hk2 : k = E.length := by omega
      have hki : ¬ ((k : Int) < (E.length : Int)) := by omega
      have HB3 := hidIn HR.out.1
      have HN : Hid ((E.any fun x => decide (x.1 = a) && decide (x.2.1 = b)) = false) := hidIn (by
        rw [List.any_eq_false]
        intro y hy
        have := HR.out.2 y (by rw [hk2, List.take_length]; exact hy)
        rw [this]
        simp)
      clear HR
      go_wp2_with fail
      go_returns
      exact ⟨⟨_, rfl, by rw [HN.out]; rfl⟩, HB3.out⟩
set_option maxRecDepth 100000 in
theorem hasE_any {E : List Ed} {v : Value} {a b : Int} {ab bb : Nat} {w : World} (h : SlAt ec 3 w v E) (hl : E.length ≤ 100000) (ha : w.heap[ab]? = some (.cells #[.int .i64 a] 3)) (hb : w.heap[bb]? = some (.cells #[.int .i64 b] 3)) :
    Calls Try.prog 44 #[v, .func (.func 45) #[] #[pp ab, pp bb]] w fun e w' =>
      e = .returned (.bool (E.any fun x => decide (x.1 = a) && decide (x.2.1 = b))) ∧ Below w.heap.size w w' := by
  have HI := hidIn (idxE_any h hl ha hb)
  obtain ⟨aa, ca, rfl, _⟩ := h.eds
  clear h ha hb
  go_enter Try.func44, Try.ntmps44
  go_wp2_with fail
  refine HI.out.mono ?_
  rintro e w3 ⟨⟨r, rfl, hr⟩, hb3⟩
  have HR := hidIn hr
  have HB := hidIn hb3
  clear hr hb3 HI
  go_wp2_with fail
  go_returns
  exact ⟨by rw [← HR.out]; simp, HB.out⟩
theorem eqInN (b d : Nat) (w : World) : (Op.equalIn (d + 1) 25 (pp b) (pp b)).run Try.prog w = .ok true w := by
  simp [Op.equalIn, run_underlying Try.underlying25, sameAddr]
theorem eqN (b : Nat) (w : World) : (binOp BinOp.eql 25 (pp b) (pp b)).run Try.prog w = .ok (.bool true) w := by
  have h : (Op.equal 25 (pp b) (pp b)).run Try.prog w = .ok true w := eqInN b 9999 w
  simp only [binOp]
  simp [h]
theorem eqN0 (b : Nat) (w : World) : (binOp BinOp.eql 25 nilQ (pp b)).run Try.prog w = .ok (.bool false) w := by kernel_rfl
set_option maxRecDepth 100000 in
theorem nthere_yes {np : Nat} {w : World} (h : w.cell? ⟨np, 0, none⟩ = some (pp np)) : Calls Try.prog 32 #[pp np] w fun e w' => e = .returned (.bool true) ∧ w' = w := by
  have he := eqN np w
  go_enter Try.func32, Try.ntmps32
  go_wp2
  go_ret
  exact ⟨rfl, rfl⟩
set_option maxRecDepth 100000 in
theorem nthere_nil (w : World) : Calls Try.prog 32 #[nilQ] w fun e w' => e = .returned (.bool false) ∧ w' = w := by
  go_enter Try.func32, Try.ntmps32
  go_wp2
  go_ret
  exact ⟨rfl, rfl⟩
set_option maxRecDepth 100000 in
theorem nthere_no {np : Nat} {w : World} (h : w.cell? ⟨np, 0, none⟩ = some nilQ) : Calls Try.prog 32 #[pp np] w fun e w' => e = .returned (.bool false) ∧ w' = w := by
  have he := eqN0 np w
  go_enter Try.func32, Try.ntmps32
  go_wp2
  go_ret
  exact ⟨rfl, rfl⟩
/-- What a router that is none, and a link that is none, are refused with. -/
def noRt (N : Nv) (r : Int) : Int := if hasN N.V r = true then 0 else 2
def noLk (N : Nv) (a b : Int) : Int := if lkQ N a b = true then 0 else 2
set_option maxRecDepth 100000 in
theorem noRt_any {w : World} {np : Nat} {D : Nd} {N : Nv} {S : Nat → Prop} (h : NtAt w np D N S) (r : Int) : Calls Try.prog 31 #[pp np, .int .i64 r] w fun e w' => e = .returned (.int .i64 (noRt N r)) ∧ w' = w := by
  have HT := hidIn (nthere_yes h.b.c0)
  have c1 := h.b.c1
  have hs := slAt_of_row (cs := ic) (fun _ => rfl) h.vn rfl
  have HC := hidIn (contains_any hs r)
  obtain ⟨aa, ca, hv, _⟩ := hs.ints
  rw [hv] at c1 HC
  obtain ⟨c, hc⟩ : ∃ c, noRt N r = c := ⟨_, rfl⟩
  rw [hc]
  have HQ := hidIn hc
  obtain ⟨hb, hhb⟩ : ∃ hb, hasN N.V r = hb := ⟨_, rfl⟩
  rw [hhb] at HC
  have HN := hidIn hhb
  clear h hs hv hc hhb
  go_enter Try.func31, Try.ntmps31
  go_wp2_with (go_at_call 32; refine HT.out.mono ?_; rintro e w1 ⟨rfl, hw1⟩; rw [hw1]; clear hw1 w1)
  refine HC.out.mono ?_
  rintro e w1 ⟨rfl, hw1⟩
  rw [hw1]
  clear hw1 w1 HC HT
  cases hb
  · go_wp2_with fail
    go_returns
    exact ⟨by rw [← HQ.out, noRt, HN.out]; rfl, rfl⟩
  · go_wp2_with fail
    go_returns
    exact ⟨by rw [← HQ.out, noRt, HN.out]; rfl, rfl⟩
set_option maxRecDepth 100000 in
theorem noLk_any {w : World} {np : Nat} {D : Nd} {N : Nv} {S : Nat → Prop} (h : NtAt w np D N S) (hl : N.E.length ≤ 100000) (a b : Int) : Calls Try.prog 26 #[pp np, .int .i64 a, .int .i64 b] w fun e w' => e = .returned (.int .i64 (noLk N a b)) ∧ Below w.heap.size w w' := by
  obtain ⟨W1, hW1⟩ : ∃ W1, (w.alloc (.cells #[.int .i64 a] 3)).alloc (.cells #[.int .i64 b] 3) = W1 := ⟨_, rfl⟩
  have b1 : Below w.heap.size w W1 := by rw [← hW1]; exact ((Below.refl _ w).alloc (Nat.le_refl _) _).alloc (by simp) _
  have hA : W1.heap[w.heap.size]? = some (.cells #[.int .i64 a] 3) := by rw [← hW1, Below.heap_alloc _ _ _ (by simp)]; exact heap_alloc_last w _
  have hB : W1.heap[w.heap.size + 1]? = some (.cells #[.int .i64 b] 3) := by
    rw [← hW1]
    have := heap_alloc_last (w.alloc (.cells #[.int .i64 a] 3)) (.cells #[.int .i64 b] 3)
    rwa [World.size_alloc] at this
  have h1 := h.below b1
  have HT := hidIn (nthere_yes h1.b.c0)
  have c2 := h1.b.c2
  have hs := slAt_of_row (cs := ec) (fun _ => rfl) h1.ve rfl
  have HC := hidIn (hasE_any hs hl hA hB)
  obtain ⟨aa, ca, hv, _⟩ := hs.eds
  rw [hv] at c2 HC
  have HW := hidIn hW1
  have HB := hidIn b1
  obtain ⟨c, hc⟩ : ∃ c, noLk N a b = c := ⟨_, rfl⟩
  rw [hc]
  have HQ := hidIn hc
  rw [show (N.E.any fun x => decide (x.1 = a) && decide (x.2.1 = b)) = lkQ N a b from rfl] at HC
  obtain ⟨hb, hhb⟩ : ∃ hb, lkQ N a b = hb := ⟨_, rfl⟩
  rw [hhb] at HC
  have HN := hidIn hhb
  clear h h1 hs hv hA hB b1 hW1 hc hhb
  go_enter Try.func26, Try.ntmps26
  go_upto_region 1 with fail
  rw [HW.out]
  clear HW
  go_wp2_with (go_at_call 32; refine HT.out.mono ?_; rintro e w1 ⟨rfl, hw1⟩; rw [hw1]; clear hw1 w1)
  refine HC.out.mono ?_
  rintro e w1 ⟨rfl, hb1⟩
  have HB1 := hidIn (HB.out.trans (hb1.mono HB.out.size))
  clear hb1 HC HT HB c2
  cases hb
  · go_wp2_with fail
    go_returns
    exact ⟨by rw [← HQ.out, noLk, HN.out]; rfl, HB1.out⟩
  · go_wp2_with fail
    go_returns
    exact ⟨by rw [← HQ.out, noLk, HN.out]; rfl, HB1.out⟩
end Go.Proofs.Ytkhfpcnmnnboeaa.Nt
namespace Go.Proofs.Ytkhfpcnmnnboeaa.Nt
open Go.RowKit Go.Proofs.Ytkhfpcnmnnboeaa.Fa

/-- What isCut finds in any world that is as this one. -/
def CutW (B np cm : Nat) (w : World) (k : Pr) (c : Bool) : Prop := ∀ wq, Below B w wq → wq.cell? ⟨np, 6, none⟩ = some (.map (some cm)) ∧ (Instr.lookup 73 (.map (some cm)) (prV k) true).run Try.prog wq = .ok (.tuple #[unV, .bool c]) wq
set_option maxRecDepth 100000 in
set_option maxHeartbeats 1000000 in
theorem isCut_any {w : World} {np q : Nat} {D : Nd} {la now : Int} {st : Nat → Bool} {C : Pr → Bool} (h : NtB w np D la st now) (hm : MpC w D.cm q C) {a b : Int} (ha : 0 ≤ a ∧ a ≤ 1000000) (hb : 0 ≤ b ∧ b ≤ 1000000) :
    Calls Try.prog 28 #[pp np, .int .i64 a, .int .i64 b] w fun e w' => e = .returned (.bool (C (nm a b))) ∧ Below w.heap.size w w' := by
  have HN : Hid (CutW w.heap.size np D.cm w (nm a b) (C (nm a b))) := hidIn (fun wq hwq => ⟨((show NtB wq np D la st now from (hwq.block _ h.lt).trans h)).c6, (hm.below hwq hm.lt).look (wf_nm ha hb)⟩)
  obtain ⟨c, hc⟩ : ∃ c, C (nm a b) = c := ⟨_, rfl⟩
  rw [hc] at HN ⊢
  have HNm := fun w => hidIn (named_any a b w)
  obtain ⟨k, hk⟩ : ∃ k, nm a b = k := ⟨_, rfl⟩
  rw [hk] at HN HNm
  obtain ⟨k0, k1⟩ := k
  clear hc hk h hm ha hb
  generalize D.cm = cm at *
  go_enter Try.func28, Try.ntmps28
  go_upto_region 1 with fail
  refine wp_region_held_drew (S := fun wx => Below w.heap.size w wx) (by kernel_rfl) ((Below.refl _ w).drew) (fun hHeld => ?_)
  have hd0 : Below w.heap.size w w.drew := hHeld
  clear hHeld
  refine wpAnyH_take (i := 0) (v := pp np) rfl (by kernel_rfl) (by kernel_rfl) (by kernel_rfl) (fun _ _ _ h => h) (Or.inl ⟨by kernel_rfl, fun _ _ => by kernel_rfl⟩) (by assumption) ?_
  refine wpAnyH_take (i := 1) (v := pp np) rfl (by kernel_rfl) (by kernel_rfl) (by kernel_rfl) (fun _ _ _ h => h) (Or.inl ⟨by kernel_rfl, fun _ _ => by kernel_rfl⟩) (by assumption) ?_
  refine wpAnyH_take (i := 2) (v := .pointer (some ⟨np, 6, none⟩)) rfl (by kernel_rfl) (by kernel_rfl) (by kernel_rfl) (fun _ _ _ h => h) (Or.inl ⟨by kernel_rfl, fun _ _ => by kernel_rfl⟩) (by assumption) ?_
  refine wpAnyH_take (i := 3) (v := .map (some cm)) rfl (by kernel_rfl) (by kernel_rfl) (by kernel_rfl) (fun _ _ _ h => h) (Or.inl ⟨by kernel_rfl, fun wq hSw => by
      obtain ⟨s0, s1⟩ := HN.out wq hSw
      go_simp⟩) (by assumption) ?_
  refine wpAnyH_take (i := 4) (v := .int .i64 a) rfl (by kernel_rfl) (by kernel_rfl) (by kernel_rfl) (fun _ _ _ h => h) (Or.inl ⟨by kernel_rfl, fun _ _ => by kernel_rfl⟩) (by assumption) ?_
  refine wpAnyH_take (i := 5) (v := .int .i64 b) rfl (by kernel_rfl) (by kernel_rfl) (by kernel_rfl) (fun _ _ _ h => h) (Or.inl ⟨by kernel_rfl, fun _ _ => by kernel_rfl⟩) (by assumption) ?_
  refine wpAnyH_ready (rs := [6, 11]) (by kernel_rfl) (by simp) ?_
  refine AllReadyH.cons (i := 6) rfl ?_ (AllReadyH.cons (i := 11) rfl ?_ AllReadyH.nil)
  · go_simp
    intro K hK
    refine (HNm _).out.mono ?_
    rintro e w2 ⟨rfl, hb2⟩
    have hd2 := hd0.trans (hb2.mono hd0.size)
    refine hK.out _ _ hd2 (fun _ => ?_)
    clear hK K
    refine wpAnyH_take (i := 7) (v := .tuple #[unV, .bool c]) rfl (by kernel_rfl) (by kernel_rfl) (by kernel_rfl) (fun _ _ _ h => h) (Or.inl ⟨by kernel_rfl, fun wq hSw => by
        obtain ⟨s0, s1⟩ := HN.out wq hSw
        go_simp⟩) (by assumption) ?_
    refine wpAnyH_take (i := 8) (v := .tuple #[unV, .bool c]) rfl (by kernel_rfl) (by kernel_rfl) (by kernel_rfl) (fun _ _ _ h => h) (Or.inl ⟨by kernel_rfl, fun _ _ => by kernel_rfl⟩) (by assumption) ?_
    refine wpAnyH_take (i := 9) (v := unV) rfl (by kernel_rfl) (by kernel_rfl) (by kernel_rfl) (fun _ _ _ h => h) (Or.inl ⟨by kernel_rfl, fun _ _ => by kernel_rfl⟩) (by assumption) ?_
    refine wpAnyH_take (i := 10) (v := .bool c) rfl (by kernel_rfl) (by kernel_rfl) (by kernel_rfl) (fun _ _ _ h => h) (Or.inl ⟨by kernel_rfl, fun _ _ => by kernel_rfl⟩) (by assumption) ?_
    refine wpAnyH_ready (rs := [11]) (by kernel_rfl) (by simp) ?_
    refine AllReadyH.cons (i := 11) rfl ?_ AllReadyH.nil
    go_simp
    intro K hK
    have hd3 := hd2.alloc hd2.size (.cells #[] 80)
    refine hK.out _ _ hd3 (fun _ => ?_)
    clear hK K
    refine wpAnyH_ready (rs := [12]) (by kernel_rfl) (by simp) ?_
    refine AllReadyH.cons (i := 12) rfl ?_ AllReadyH.nil
    go_simp
    intro K hK
    refine hK.out _ _ hd3 (fun _ => ?_)
    clear hK K
    refine wpAnyH_take (i := 13) (v := .bool c) rfl (by kernel_rfl) (by kernel_rfl) (by kernel_rfl) (fun _ _ _ h => h) (Or.inl ⟨by kernel_rfl, fun _ _ => by kernel_rfl⟩) (by assumption) ?_
    refine wpAnyH_done (by kernel_rfl) ?_ _
    go_wp2_with fail
    go_returns
    exact ⟨rfl, hd3⟩
  · go_simp
    intro K hK
    have hd1 := hd0.alloc hd0.size (.cells #[] 80)
    refine hK.out _ _ hd1 (fun _ => ?_)
    clear hK K
    refine wpAnyH_ready (rs := [6]) (by kernel_rfl) (by simp) ?_
    refine AllReadyH.cons (i := 6) rfl ?_ AllReadyH.nil
    go_simp
    intro K hK
    refine (HNm _).out.mono ?_
    rintro e w2 ⟨rfl, hb2⟩
    have hd2 := hd1.trans (hb2.mono hd1.size)
    refine hK.out _ _ hd2 (fun _ => ?_)
    clear hK K
    refine wpAnyH_take (i := 7) (v := .tuple #[unV, .bool c]) rfl (by kernel_rfl) (by kernel_rfl) (by kernel_rfl) (fun _ _ _ h => h) (Or.inl ⟨by kernel_rfl, fun wq hSw => by
        obtain ⟨s0, s1⟩ := HN.out wq hSw
        go_simp⟩) (by assumption) ?_
    refine wpAnyH_take (i := 8) (v := .tuple #[unV, .bool c]) rfl (by kernel_rfl) (by kernel_rfl) (by kernel_rfl) (fun _ _ _ h => h) (Or.inl ⟨by kernel_rfl, fun _ _ => by kernel_rfl⟩) (by assumption) ?_
    refine wpAnyH_take (i := 9) (v := unV) rfl (by kernel_rfl) (by kernel_rfl) (by kernel_rfl) (fun _ _ _ h => h) (Or.inl ⟨by kernel_rfl, fun _ _ => by kernel_rfl⟩) (by assumption) ?_
    refine wpAnyH_take (i := 10) (v := .bool c) rfl (by kernel_rfl) (by kernel_rfl) (by kernel_rfl) (fun _ _ _ h => h) (Or.inl ⟨by kernel_rfl, fun _ _ => by kernel_rfl⟩) (by assumption) ?_
    refine wpAnyH_ready (rs := [12]) (by kernel_rfl) (by simp) ?_
    refine AllReadyH.cons (i := 12) rfl ?_ AllReadyH.nil
    go_simp
    intro K hK
    refine hK.out _ _ hd2 (fun _ => ?_)
    clear hK K
    refine wpAnyH_take (i := 13) (v := .bool c) rfl (by kernel_rfl) (by kernel_rfl) (by kernel_rfl) (fun _ _ _ h => h) (Or.inl ⟨by kernel_rfl, fun _ _ => by kernel_rfl⟩) (by assumption) ?_
    refine wpAnyH_done (by kernel_rfl) ?_ _
    go_wp2_with fail
    go_returns
    exact ⟨rfl, hd2⟩
set_option maxRecDepth 100000 in
set_option maxHeartbeats 1000000 in
theorem isUp_any {w : World} {np q : Nat} {D : Nd} {la now : Int} {st : Nat → Bool} {C : Pr → Bool} (h : NtB w np D la st now) (hm : MpC w D.cm q C) {a b : Nat} (ha : a ≤ 24) (hb : b ≤ 24) :
    Calls Try.prog 27 #[pp np, .int .i64 a, .int .i64 b] w fun e w' => e = .returned (.bool (!C (nm a b) && (!st a && !st b))) ∧ Below w.heap.size w w' := by
  have HC := hidIn (isCut_any h hm (a := (a : Int)) (b := (b : Int)) ⟨by omega, by omega⟩ ⟨by omega, by omega⟩)
  have HS : Hid (∀ wq, Below w.heap.size w wq → wq.cell? ⟨np, 7 + a, none⟩ = some (.bool (st a)) ∧ wq.cell? ⟨np, 7 + b, none⟩ = some (.bool (st b))) := hidIn (fun wq hwq => by
    have hb' : NtB wq np D la st now := (hwq.block _ h.lt).trans h
    exact ⟨hb'.c7 (by omega), hb'.c7 (by omega)⟩)
  obtain ⟨c, hc⟩ : ∃ c, C (nm a b) = c := ⟨_, rfl⟩
  obtain ⟨x, hx⟩ : ∃ x, st a = x := ⟨_, rfl⟩
  obtain ⟨y, hy⟩ : ∃ y, st b = y := ⟨_, rfl⟩
  rw [hc] at HC ⊢
  rw [hx, hy] at HS ⊢
  have hi : (a : Int) < 25 := by omega
  have hj : (b : Int) < 25 := by omega
  clear hc hx hy h hm ha hb
  go_enter Try.func27, Try.ntmps27
  go_wp2_with fail
  refine HC.out.mono ?_
  rintro e w1 ⟨rfl, hb1⟩
  obtain ⟨s0, s1⟩ := HS.out _ hb1
  have HB := hidIn hb1
  clear hb1 HC HS
  cases c <;> cases x <;> cases y
  all_goals
    go_wp2_with fail
    go_returns
    exact ⟨rfl, HB.out⟩
end Go.Proofs.Ytkhfpcnmnnboeaa.Nt
namespace Go.Proofs.Ytkhfpcnmnnboeaa.Nt
open Go.RowKit Go.Proofs.Ytkhfpcnmnnboeaa.Fa

/-- A message more on its way. -/
def putN (N : Nv) (x : Ar) (more : Int) : Nv := { N with L := Ca.insL N.L ((x, N.now + (N.lt + more)), ((N.p + 1 : Nat) : Int)), p := N.p + 1 }
/-- What put finds in any world that is as this one. -/
structure PutR (vb np cp : Nat) (la now : Int) (x : Ar) (wq : World) : Prop where
  a : wq.cell? ⟨vb, 0, none⟩ = some (.int .i64 x.1)
  b : wq.cell? ⟨vb, 1, none⟩ = some (.int .i64 x.2.1)
  c : wq.cell? ⟨vb, 2, none⟩ = some (.string x.2.2)
  d : wq.cell? ⟨np, 3, none⟩ = some (.int .i64 la)
  e : wq.cell? ⟨np, 5, none⟩ = some (pp cp)
  f : wq.cell? ⟨np, 32, none⟩ = some (.int .u64 now)
theorem Sep.more {np : Nat} {D : Nd} {S T : Nat → Prop} (h : Sep np D S) (hT : ∀ j, T j → S j ∨ ¬ (j = np ∨ j = D.P ∨ j = D.m ∨ j = D.cm ∨ D.nv.ownBlock = some j ∨ D.ev.ownBlock = some j)) : Sep np D T := by
  obtain ⟨a1, a2, a3, a4, b1, b2, b3, b4, b5, c1, c2⟩ := h
  refine ⟨fun h => (hT _ h).elim a1 (fun g => g (.inl rfl)), fun h => (hT _ h).elim a2 (fun g => g (.inr (.inl rfl))), fun h => (hT _ h).elim a3 (fun g => g (.inr (.inr (.inl rfl)))), fun h => (hT _ h).elim a4 (fun g => g (.inr (.inr (.inr (.inl rfl))))), b1, b2, b3, b4, b5, fun j hj => ⟨fun h => (hT _ h).elim (c1 j hj).1 (fun g => g (.inr (.inr (.inr (.inr (.inl hj)))))), (c1 j hj).2⟩, fun j hj => ⟨fun h => (hT _ h).elim (c2 j hj).1 (fun g => g (.inr (.inr (.inr (.inr (.inr hj)))))), (c2 j hj).2⟩⟩
theorem NtAt.recal {w w' : World} {np p : Nat} {D : Nd} {N : Nv} {S S' : Nat → Prop} {L : List (Ca.Tg Ar)} (h : NtAt w np D N S) (hS : ∀ j, S j → j < w.heap.size) (hF : Fr S w w') (hC : Ca.A.Cal w' S' D.cp L p) (hS' : ∀ j, S' j → S j ∨ w.heap.size ≤ j) : NtAt w' np D { N with L := L, p := p } S' := by
  have hs := h.s
  refine ⟨h.b.keep hF hs.sn, row_fr h.vn hF (fun j hj => (hs.v j hj).1), row_fr h.ve hF (fun j hj => (hs.e j hj).1), h.pl.keep hF hs.sP hs.sm, hC, h.cu.keep hF hs.sc, hs.more (fun j hj => ?_)⟩
  rcases hS' j hj with h1 | h1
  · exact .inl h1
  · refine .inr (fun g => ?_)
    have := h.own_lt hS (j := j) (by rcases g with g | g | g | g | g | g; exact .inl g; exact .inr (.inl g); exact .inr (.inr (.inl g)); exact .inr (.inr (.inr (.inl g))); exact .inr (.inr (.inr (.inr (.inl g)))); exact .inr (.inr (.inr (.inr (.inr (.inl g))))))
    omega
theorem _root_.Go.Proofs.Ytkhfpcnmnnboeaa.Ca.cellFr {S : Nat → Prop} {w w' : World} {b j : Nat} {v : Value} (hF : Fr S w w') (hc : w.cell? ⟨b, j, none⟩ = some v) (hS : ¬ S b) : w'.cell? ⟨b, j, none⟩ = w.cell? ⟨b, j, none⟩ := World.cell?_of_block (a := ⟨b, j, none⟩) (hF.block b (block_lt_of_cell hc) hS)
/-- What a call on a net leaves. -/
def Res (w w' : World) (np : Nat) (D : Nd) (N' : Nv) (S : Nat → Prop) : Prop := ∃ S', NtAt w' np D N' S' ∧ (∀ j, S' j → (S j ∨ w.heap.size ≤ j) ∧ j < w'.heap.size) ∧ Fr (Own np D S) w w'
/-- What a call leaves that lays nothing into the net. -/
def Res0 (w w' : World) (np : Nat) (D : Nd) (N' : Nv) (S : Nat → Prop) : Prop := NtAt w' np D N' S ∧ Fr (Own np D S) w w'
theorem Res0.res {w w' : World} {np : Nat} {D : Nd} {N' : Nv} {S : Nat → Prop} (h : Res0 w w' np D N' S) (hS : ∀ j, S j → j < w.heap.size) : Res w w' np D N' S :=
  ⟨S, h.1, fun j hj => ⟨.inl hj, Nat.lt_of_lt_of_le (hS j hj) h.2.size⟩, h.2⟩
theorem own_ext {np : Nat} {D : Nd} {S S' : Nat → Prop} {n : Nat} (hS : ∀ j, S' j → S j ∨ n ≤ j) {j : Nat} (h : Own np D S' j) : Own np D S j ∨ n ≤ j := by
  rcases h with h | h | h | h | h | h | h
  · exact .inl (.inl h)
  · exact .inl (.inr (.inl h))
  · exact .inl (.inr (.inr (.inl h)))
  · exact .inl (.inr (.inr (.inr (.inl h))))
  · exact .inl (.inr (.inr (.inr (.inr (.inl h)))))
  · exact .inl (.inr (.inr (.inr (.inr (.inr (.inl h))))))
  · exact (hS j h).imp (fun h => .inr (.inr (.inr (.inr (.inr (.inr h)))))) id
theorem Res.trans {w w1 w2 : World} {np : Nat} {D : Nd} {N2 : Nv} {S S1 : Nat → Prop} (h1 : ∀ j, S1 j → S j ∨ w.heap.size ≤ j) (hF : Fr (Own np D S) w w1) (h2 : Res w1 w2 np D N2 S1) : Res w w2 np D N2 S := by
  obtain ⟨S2, g1, g2, g3⟩ := h2
  refine ⟨S2, g1, fun j hj => ⟨?_, (g2 j hj).2⟩, ⟨g3.os.trans hF.os, g3.tape.trans hF.tape, g3.output.trans hF.output, Nat.le_trans hF.size g3.size, fun j hj hs => ?_⟩⟩
  · rcases (g2 j hj).1 with h | h
    · exact h1 j h
    · exact .inr (Nat.le_trans hF.size h)
  · refine (g3.block j (Nat.lt_of_lt_of_le hj hF.size) (fun ho => ?_)).trans (hF.block j hj hs)
    rcases own_ext h1 ho with h | h
    · exact hs h
    · omega
theorem NetZ.res {w w' : World} {Z S : Nat → Prop} {np : Nat} {D : Nd} {N N' : Nv} (h : NtAt w np D N S) (h2 : ∀ j, Own np D S j → ¬ Z j) (h4 : ∀ j, Z j → j < w.heap.size) (hr : Res w w' np D N' S) : NetZ w' Z np N' ∧ Fr (fun j => ¬ Z j) w w' := by
  obtain ⟨S', g1, g2, g3⟩ := hr
  exact NetZ.got h h2 h4 g1 g2 g3
theorem NetZ.res0 {w w' : World} {Z S : Nat → Prop} {np : Nat} {D : Nd} {N N' : Nv} {v : Value} (h : NtAt w np D N S) (hS : ∀ j, S j → j < w.heap.size) (h2 : ∀ j, Own np D S j → ¬ Z j) (h4 : ∀ j, Z j → j < w.heap.size) (hr : Res0 w w' np D N' S) (hv : ∀ j, v.ownBlock = some j → w.heap.size ≤ j ∧ j < w'.heap.size) :
    NetZ w' (fun j => Z j ∨ v.ownBlock = some j) np N' ∧ Fr (fun j => ¬ Z j) w w' := by
  refine ⟨⟨⟨D, S, hr.1, fun j hj hz => ?_, fun j hj => Nat.lt_of_lt_of_le (hS j hj) hr.2.size⟩, fun j hj => ?_⟩, hr.2.mono (fun j _ hj => h2 j hj)⟩
  · rcases hz with hz | hz
    · exact h2 j hj hz
    · have := h.own_lt hS hj
      have := (hv j hz).1
      omega
  · rcases hj with hj | hj
    · exact Nat.lt_of_lt_of_le (h4 j hj) hr.2.size
    · exact (hv j hj).2
theorem wrap_i {x : Int} (h : 0 ≤ x ∧ x ≤ 1000000) : IntKind.i64.wrap x = x := by
  simp [IntKind.wrap, IntKind.bits, IntKind.signed]
  omega
theorem wrap_u {x : Int} (h : 0 ≤ x ∧ x ≤ 1000000) : IntKind.u64.wrap x = x := by
  simp [IntKind.wrap, IntKind.bits, IntKind.signed]
  omega
set_option maxRecDepth 100000 in
set_option maxHeartbeats 2000000 in
theorem nput_any {w : World} {np k : Nat} {D : Nd} {N : Nv} {S : Nat → Prop} (h : NtAt w np D N S) (hS : ∀ j, S j → j < w.heap.size) (hk : NvOk N k) (hk9 : k ≤ 30000) (x : Ar) {more : Int} (hm : 0 ≤ more ∧ more ≤ 64) :
    Calls Try.prog 25 #[pp np, arV x, .int .i64 more] w fun e w' => (∃ r, e = .returned r) ∧ Res w w' np D (putN N x more) S := by
  obtain ⟨W1, hW1⟩ : ∃ W1, w.alloc (.cells #[.int .i64 x.1, .int .i64 x.2.1, .string x.2.2] 30) = W1 := ⟨_, rfl⟩
  have b1 : Below w.heap.size w W1 := by rw [← hW1]; exact (Below.refl _ w).alloc (Nat.le_refl _) _
  have hX : W1.heap[w.heap.size]? = some (.cells #[.int .i64 x.1, .int .i64 x.2.1, .string x.2.2] 30) := by rw [← hW1]; exact heap_alloc_last w _
  have h1 := h.below b1
  have hP : ∀ wq, Below W1.heap.size W1 wq → PutR w.heap.size np D.cp N.lt N.now x wq := fun wq hq => by
    have hx := (hq.block _ (block_lt hX)).trans hX
    have hb := (h1.below hq).b
    exact ⟨cell_of_row _ _ 0 _ _ _ hx, cell_of_row _ _ 1 _ _ _ hx, cell_of_row _ _ 2 _ _ _ hx, hb.c3, hb.c5, hb.c32⟩
  obtain ⟨Wd, hWd⟩ : ∃ Wd, W1.drew = Wd := ⟨_, rfl⟩
  have bd : Below W1.heap.size W1 Wd := by rw [← hWd]; exact (Below.refl _ W1).drew
  have hl3 := hk.ll
  have hp3 := hk.p
  obtain ⟨now, hnow⟩ : ∃ t, N.now = t := ⟨_, rfl⟩
  obtain ⟨la, hla⟩ : ∃ t, N.lt = t := ⟨_, rfl⟩
  have hn3 := hk.now
  have ht3 := hk.lt
  rw [hnow] at hn3
  rw [hla] at ht3
  have e13 := wrap_i (x := la + more) (by omega)
  have e14 := wrap_u (x := la + more) (by omega)
  have e15 := wrap_u (x := now + (la + more)) (by omega)
  have HS := hidIn hS
  have hvS : ¬ S w.heap.size := fun h => by have := hS _ h; omega
  have HvS := hidIn hvS
  have HPut := hidIn (Ca.A.put_ok x (now + (la + more)) (h1.ca.keep (T := fun _ => False) (Fr.of_below bd) (fun _ _ h => h)) (by omega) (by omega))
  have HP := hidIn hP
  have HH := hidIn h
  have HB1 := hidIn b1
  have HBd := hidIn bd
  have HW := hidIn hW1
  have HD := hidIn hWd
  have Hnow := hidIn hnow
  have Hla := hidIn hla
  rw [hnow, hla] at HP
  obtain ⟨vb, hvb⟩ : ∃ vb, w.heap.size = vb := ⟨_, rfl⟩
  have hs1 : W1.heap.size = vb + 1 := by rw [← hW1, ← hvb]; simp
  rw [hvb] at HP HB1 HvS
  have Hvb := hidIn hvb
  obtain ⟨x0, x1, x2⟩ := x
  simp only at HW
  clear hW1 b1 hX h1 hP hWd bd h hk hnow hla hvb hS hvS
  go_enter Try.func25, Try.ntmps25
  go_upto_region 1 with fail
  rw [HW.out, Hvb.out]
  clear HW
  refine wp_region_held_drew (S := fun wx => PutR vb np D.cp la now (x0, x1, x2) wx) (by kernel_rfl) ?_ (fun hHeld => ?_)
  · exact HP.out _ ((Below.refl _ W1).drew)
  have hd0 : PutR vb np D.cp la now (x0, x1, x2) Wd := by rw [← HD.out]; exact hHeld
  rw [HD.out]
  clear hHeld
  refine wpAnyH_take (i := 0) (v := pp np) rfl (by kernel_rfl) (by kernel_rfl) (by kernel_rfl) (fun _ _ _ h => h) (Or.inl ⟨by kernel_rfl, fun _ _ => by kernel_rfl⟩) (by assumption) ?_
  refine wpAnyH_take (i := 1) (v := pp np) rfl (by kernel_rfl) (by kernel_rfl) (by kernel_rfl) (fun _ _ _ h => h) (Or.inl ⟨by kernel_rfl, fun _ _ => by kernel_rfl⟩) (by assumption) ?_
  refine wpAnyH_take (i := 2) (v := .pointer (some ⟨np, 5, none⟩)) rfl (by kernel_rfl) (by kernel_rfl) (by kernel_rfl) (fun _ _ _ h => h) (Or.inl ⟨by kernel_rfl, fun _ _ => by kernel_rfl⟩) (by assumption) ?_
  refine wpAnyH_take (i := 3) (v := pp D.cp) rfl (by kernel_rfl) (by kernel_rfl) (by kernel_rfl) (fun _ _ _ h => h) (Or.inl ⟨by kernel_rfl, fun wq hSw => by
      obtain ⟨s0, s1, s2, s3, s4, s5⟩ := hSw
      go_simp⟩) (by assumption) ?_
  refine wpAnyH_take (i := 4) (v := pp np) rfl (by kernel_rfl) (by kernel_rfl) (by kernel_rfl) (fun _ _ _ h => h) (Or.inl ⟨by kernel_rfl, fun _ _ => by kernel_rfl⟩) (by assumption) ?_
  refine wpAnyH_take (i := 5) (v := pp np) rfl (by kernel_rfl) (by kernel_rfl) (by kernel_rfl) (fun _ _ _ h => h) (Or.inl ⟨by kernel_rfl, fun _ _ => by kernel_rfl⟩) (by assumption) ?_
  refine wpAnyH_take (i := 6) (v := .pointer (some ⟨np, 32, none⟩)) rfl (by kernel_rfl) (by kernel_rfl) (by kernel_rfl) (fun _ _ _ h => h) (Or.inl ⟨by kernel_rfl, fun _ _ => by kernel_rfl⟩) (by assumption) ?_
  refine wpAnyH_take (i := 7) (v := .int .u64 now) rfl (by kernel_rfl) (by kernel_rfl) (by kernel_rfl) (fun _ _ _ h => h) (Or.inl ⟨by kernel_rfl, fun wq hSw => by
      obtain ⟨s0, s1, s2, s3, s4, s5⟩ := hSw
      go_simp⟩) (by assumption) ?_
  refine wpAnyH_take (i := 8) (v := pp np) rfl (by kernel_rfl) (by kernel_rfl) (by kernel_rfl) (fun _ _ _ h => h) (Or.inl ⟨by kernel_rfl, fun _ _ => by kernel_rfl⟩) (by assumption) ?_
  refine wpAnyH_take (i := 9) (v := pp np) rfl (by kernel_rfl) (by kernel_rfl) (by kernel_rfl) (fun _ _ _ h => h) (Or.inl ⟨by kernel_rfl, fun _ _ => by kernel_rfl⟩) (by assumption) ?_
  refine wpAnyH_take (i := 10) (v := .pointer (some ⟨np, 3, none⟩)) rfl (by kernel_rfl) (by kernel_rfl) (by kernel_rfl) (fun _ _ _ h => h) (Or.inl ⟨by kernel_rfl, fun _ _ => by kernel_rfl⟩) (by assumption) ?_
  refine wpAnyH_take (i := 11) (v := .int .i64 la) rfl (by kernel_rfl) (by kernel_rfl) (by kernel_rfl) (fun _ _ _ h => h) (Or.inl ⟨by kernel_rfl, fun wq hSw => by
      obtain ⟨s0, s1, s2, s3, s4, s5⟩ := hSw
      go_simp⟩) (by assumption) ?_
  refine wpAnyH_take (i := 12) (v := .int .i64 more) rfl (by kernel_rfl) (by kernel_rfl) (by kernel_rfl) (fun _ _ _ h => h) (Or.inl ⟨by kernel_rfl, fun _ _ => by kernel_rfl⟩) (by assumption) ?_
  refine wpAnyH_take (i := 13) (v := .int .i64 (la + more)) rfl (by kernel_rfl) (by kernel_rfl) (by kernel_rfl) (fun _ _ _ h => h) (Or.inl ⟨by kernel_rfl, fun wq hSw => by
      skip
      go_simp⟩) (by assumption) ?_
  refine wpAnyH_take (i := 14) (v := .int .u64 (la + more)) rfl (by kernel_rfl) (by kernel_rfl) (by kernel_rfl) (fun _ _ _ h => h) (Or.inl ⟨by kernel_rfl, fun wq hSw => by
      skip
      go_simp⟩) (by assumption) ?_
  refine wpAnyH_take (i := 15) (v := .int .u64 (now + (la + more))) rfl (by kernel_rfl) (by kernel_rfl) (by kernel_rfl) (fun _ _ _ h => h) (Or.inl ⟨by kernel_rfl, fun wq hSw => by
      skip
      go_simp⟩) (by assumption) ?_
  refine wpAnyH_take (i := 16) (v := .agg #[.int .i64 x0, .int .i64 x1, .string x2]) rfl (by kernel_rfl) (by kernel_rfl) (by kernel_rfl) (fun _ _ _ h => h) (Or.inl ⟨by kernel_rfl, fun wq hSw => by
      obtain ⟨s0, s1, s2, s3, s4, s5⟩ := hSw
      go_simp⟩) (by assumption) ?_
  refine wpAnyH_ready (rs := [17]) (by kernel_rfl) (by simp) ?_
  refine AllReadyH.cons (i := 17) rfl ?_ AllReadyH.nil
  go_simp
  intro K hK
  refine HPut.out.mono ?_
  rintro e w3 ⟨rfl, hC, hF⟩
  have hX3 : PutR vb np D.cp la now (x0, x1, x2) w3 := by
    obtain ⟨s0, s1, s2, s3, s4, s5⟩ := hd0
    have hnp := HH.out.s.sn
    exact ⟨(Ca.cellFr hF s0 HvS.out).trans s0, (Ca.cellFr hF s1 HvS.out).trans s1, (Ca.cellFr hF s2 HvS.out).trans s2, (Ca.cellFr hF s3 hnp).trans s3, (Ca.cellFr hF s4 hnp).trans s4, (Ca.cellFr hF s5 hnp).trans s5⟩
  refine hK.out _ _ hX3 (fun _ => ?_)
  clear hK K
  refine wpAnyH_done (by kernel_rfl) ?_ _
  have HC := hidIn hC
  have HF := hidIn hF
  clear hC hF HPut hX3 hd0 e13 e14 e15
  go_wp2
  go_end0
  have hbd : Below w.heap.size w Wd := by rw [Hvb.out]; exact HB1.out.trans (HBd.out.mono (by omega))
  have hsz := hbd.size
  have hN := (HH.out.below hbd).recal (fun j hj => Nat.lt_of_lt_of_le (HS.out j hj) hsz) HF.out HC.out (fun j (hj : Ca.A.ext S Wd w3 j) => hj.imp id (fun h => h.1))
  rw [← Hnow.out, ← Hla.out] at hN
  refine ⟨⟨_, rfl⟩, _, hN, fun j hj => ?_, ⟨HF.out.os.trans hbd.os, HF.out.tape.trans hbd.tape, HF.out.output.trans hbd.output, Nat.le_trans hsz HF.out.size, fun j hj hs => ?_⟩⟩
  · rcases hj with h | h
    · exact ⟨.inl h, by have := HS.out j h; have := HF.out.size; omega⟩
    · exact ⟨.inr (by omega), h.2⟩
  · exact (HF.out.block j (Nat.lt_of_lt_of_le hj hsz) (fun h => hs (.inr (.inr (.inr (.inr (.inr (.inr h)))))))).trans (hbd.block j hj)
/-- What a message is refused with. -/
def refE (N : Nv) (a b : Int) (n : Nat) : Int := if lkQ N a b = true then (if 512 < n then 3 else if upQ N a b = true then (if 16382 < N.L.length then 8 else 0) else 9) else 2
set_option maxRecDepth 100000 in
set_option maxHeartbeats 1000000 in
theorem refused_any {w : World} {np k : Nat} {D : Nd} {N : Nv} {S : Nat → Prop} (h : NtAt w np D N S) (hk : NvOk N k) (a b : Int) (s : ByteArray) :
    Calls Try.prog 23 #[pp np, .int .i64 a, .int .i64 b, .string s] w fun e w' => e = .returned (.int .i64 (refE N a b s.size)) ∧ Below w.heap.size w w' := by
  have HL := hidIn (noLk_any h (Nat.le_trans hk.el (by omega)) a b)
  have HH := hidIn h
  have HK := hidIn hk
  obtain ⟨c, hc⟩ : ∃ c, refE N a b s.size = c := ⟨_, rfl⟩
  rw [hc]
  have HQ := hidIn hc
  obtain ⟨n, hn⟩ : ∃ n, s.size = n := ⟨_, rfl⟩
  have hn' : (s.size : Int) = (n : Int) := by rw [hn]
  have Hn := hidIn hn
  clear hc
  cases hlk : lkQ N a b
  · rw [show noLk N a b = 2 from by rw [noLk, hlk]; rfl] at HL
    have Hlk := hidIn hlk
    clear hlk h hk
    go_enter Try.func23, Try.ntmps23
    go_wp2_with fail
    refine HL.out.mono ?_
    rintro e w1 ⟨rfl, hb1⟩
    have HB := hidIn hb1
    clear hb1 HL
    go_wp2_with fail
    go_returns
    exact ⟨by rw [← HQ.out, refE, Hlk.out]; rfl, HB.out⟩
  · rw [show noLk N a b = 0 from by rw [noLk, hlk]; rfl] at HL
    have hbd := lkQ_bd hk hlk
    obtain ⟨x, rfl⟩ : ∃ x : Nat, a = x := ⟨a.toNat, by omega⟩
    obtain ⟨y, rfl⟩ : ∃ y : Nat, b = y := ⟨b.toNat, by omega⟩
    have Hlk := hidIn hlk
    have Hup : Hid (∀ w1, Below w.heap.size w w1 → Calls Try.prog 27 #[pp np, .int .i64 (x : Int), .int .i64 (y : Int)] w1 fun e w' => e = .returned (.bool (upQ N x y)) ∧ Below w1.heap.size w1 w') := hidIn (fun w1 hb1 => isUp_any (HH.out.below hb1).b (HH.out.below hb1).cu (by omega) (by omega))
    clear hlk h hk hbd
    by_cases h5 : 512 < n
    · have h5i : (512 : Int) < (n : Int) := by omega
      go_enter Try.func23, Try.ntmps23
      go_wp2_with fail
      refine HL.out.mono ?_
      rintro e w1 ⟨rfl, hb1⟩
      have HB := hidIn hb1
      clear hb1 HL
      go_wp2_with fail
      go_returns
      exact ⟨by rw [← HQ.out, refE, Hlk.out, if_pos rfl, if_pos (by rw [Hn.out]; exact h5)]; rfl, HB.out⟩
    · have h5i : ¬ (512 : Int) < (n : Int) := by omega
      cases hup : upQ N x y
      · rw [hup] at Hup
        have Hu := hidIn hup
        clear hup
        go_enter Try.func23, Try.ntmps23
        go_wp2_with fail
        refine HL.out.mono ?_
        rintro e w1 ⟨rfl, hb1⟩
        have HB := hidIn hb1
        have HU := hidIn (Hup.out w1 hb1)
        clear hb1 HL Hup
        go_wp2_with fail
        refine HU.out.mono ?_
        rintro e w2 ⟨rfl, hb2⟩
        have HB2 := hidIn (HB.out.trans (hb2.mono HB.out.size))
        clear hb2 HU
        go_wp2_with fail
        go_returns
        exact ⟨by rw [← HQ.out, refE, Hlk.out, if_pos rfl, if_neg (by rw [Hn.out]; exact h5), Hu.out]; rfl, HB2.out⟩
      · rw [hup] at Hup
        have Hu := hidIn hup
        clear hup
        obtain ⟨m, hm⟩ : ∃ m, N.L.length = m := ⟨_, rfl⟩
        have Hm := hidIn hm
        clear hm
        by_cases h6 : 16382 < m
        · have h6i : (16382 : Int) < (m : Int) := by omega
          go_enter Try.func23, Try.ntmps23
          go_wp2_with fail
          refine HL.out.mono ?_
          rintro e w1 ⟨rfl, hb1⟩
          have HB := hidIn hb1
          have HU := hidIn (Hup.out w1 hb1)
          clear hb1 HL Hup
          go_wp2_with fail
          refine HU.out.mono ?_
          rintro e w2 ⟨rfl, hb2⟩
          have HB2 := hidIn (HB.out.trans (hb2.mono HB.out.size))
          have h2 := HH.out.below HB2.out
          have c5 := h2.b.c5
          have HLn := hidIn (Ca.A.len_ok h2.ca)
          rw [Hm.out] at HLn
          clear hb2 HU h2
          go_wp2_with (go_at_call 34; refine HLn.out.mono ?_; rintro e w3 ⟨rfl, hw3⟩; rw [hw3]; clear hw3 w3)
          go_returns
          exact ⟨by rw [← HQ.out, refE, Hlk.out, if_pos rfl, if_neg (by rw [Hn.out]; exact h5), Hu.out, if_pos rfl, if_pos (by rw [Hm.out]; exact h6)]; rfl, HB2.out⟩
        · have h6i : ¬ (16382 : Int) < (m : Int) := by omega
          go_enter Try.func23, Try.ntmps23
          go_wp2_with fail
          refine HL.out.mono ?_
          rintro e w1 ⟨rfl, hb1⟩
          have HB := hidIn hb1
          have HU := hidIn (Hup.out w1 hb1)
          clear hb1 HL Hup
          go_wp2_with fail
          refine HU.out.mono ?_
          rintro e w2 ⟨rfl, hb2⟩
          have HB2 := hidIn (HB.out.trans (hb2.mono HB.out.size))
          have h2 := HH.out.below HB2.out
          have c5 := h2.b.c5
          have HLn := hidIn (Ca.A.len_ok h2.ca)
          rw [Hm.out] at HLn
          clear hb2 HU h2
          go_wp2_with (go_at_call 34; refine HLn.out.mono ?_; rintro e w3 ⟨rfl, hw3⟩; rw [hw3]; clear hw3 w3)
          go_returns
          exact ⟨by rw [← HQ.out, refE, Hlk.out, if_pos rfl, if_neg (by rw [Hn.out]; exact h5), Hu.out, if_pos rfl, if_neg (by rw [Hm.out]; exact h6)]; rfl, HB2.out⟩
end Go.Proofs.Ytkhfpcnmnnboeaa.Nt
namespace Go.Proofs.Ytkhfpcnmnnboeaa.Nt
open Go.RowKit Go.Proofs.Ytkhfpcnmnnboeaa.Fa

theorem Res.refl {w : World} {np : Nat} {D : Nd} {N : Nv} {S : Nat → Prop} (h : NtAt w np D N S) (hS : ∀ j, S j → j < w.heap.size) : Res w w np D N S :=
  ⟨S, h, fun j hj => ⟨.inl hj, hS j hj⟩, Fr.refl _ _⟩
theorem Res.frame {w w' : World} {np : Nat} {D : Nd} {N' : Nv} {S : Nat → Prop} (h : Res w w' np D N' S) : Fr (Own np D S) w w' := by
  obtain ⟨_, _, _, h3⟩ := h
  exact h3
theorem Res.close {w W4 w6 w7 : World} {np : Nat} {D : Nd} {N' : Nv} {S T : Nat → Prop} (hF4 : Fr (Own np D S) w W4) (hOwn : ∀ j, Own np D S j → j < w.heap.size) (hr : Res W4 w6 np D N' S) (hT : ∀ j, T j → w.heap.size ≤ j ∧ j < W4.heap.size) (h7 : Fr T w6 w7) : Res w w7 np D N' S := by
  obtain ⟨S', g1, g2, g3⟩ := hr
  have hsz := hF4.size
  have hno : ∀ j, Own np D S' j → ¬ T j := fun j hj ht => by
    have hb := hT j ht
    rcases own_ext (fun j hj => (g2 j hj).1) hj with h | h
    · have := hOwn j h; omega
    · omega
  refine ⟨S', g1.keep h7 hno, fun j hj => ⟨?_, Nat.lt_of_lt_of_le (g2 j hj).2 h7.size⟩, ⟨h7.os.trans (g3.os.trans hF4.os), h7.tape.trans (g3.tape.trans hF4.tape), h7.output.trans (g3.output.trans hF4.output), Nat.le_trans hsz (Nat.le_trans g3.size h7.size), fun j hj hs => ?_⟩⟩
  · rcases (g2 j hj).1 with h | h
    · exact .inl h
    · exact .inr (by omega)
  · have hj4 : j < W4.heap.size := by omega
    refine (h7.block j (Nat.lt_of_lt_of_le hj4 g3.size) (fun ht => by have := hT j ht; omega)).trans ((g3.block j hj4 hs).trans (hF4.block j hj hs))
/-- The fate of the next message. -/
def fateN (N : Nv) (a b : Int) : Ft := ftO (findR N.R (a, b, N.A a.toNat b.toNat + 1))
def askN (N : Nv) (a b : Int) : Nv := { N with R := dropR N.R (a, b, N.A a.toNat b.toNat + 1), A := put2 N.A a.toNat b.toNat (N.A a.toNat b.toNat + 1) }
def sendN (N : Nv) (a b : Int) (s : ByteArray) : Nv :=
  if (fateN N a b).1 = 0 then askN N a b else if (fateN N a b).1 = 1 then putN (askN N a b) (a, b, s) (fateN N a b).2.1 else putN (putN (askN N a b) (a, b, s) (fateN N a b).2.1) (a, b, s) (fateN N a b).2.2
theorem fate_bd {N : Nv} (h : RsOk N.R) (a b : Int) : ((fateN N a b).1 = 0 ∨ (fateN N a b).1 = 1 ∨ (fateN N a b).1 = 2) ∧ (0 ≤ (fateN N a b).2.1 ∧ (fateN N a b).2.1 ≤ 64) ∧ (0 ≤ (fateN N a b).2.2 ∧ (fateN N a b).2.2 ≤ 64) := by
  unfold fateN
  cases hf : findR N.R (a, b, N.A a.toNat b.toNat + 1) with
  | none => simp [ftO]
  | some r =>
    have hr := h.ok r (findR_some hf).1
    obtain ⟨r0, r1, r2, r3, r4⟩ := r
    simp [ruOk, byOk] at hr
    have h4 := hr.2.2.2
    simp only [ftO, byR]
    by_cases h1 : r3 = 1
    · rw [if_pos h1]; simp
    · rw [if_neg h1] at h4 ⊢
      by_cases h3 : r3 = 2
      · rw [if_pos h3]; simp; omega
      · rw [if_neg h3]; simp; omega
theorem NtAt.replan {w w' : World} {np : Nat} {D : Nd} {N : Nv} {S : Nat → Prop} {R : List Ru} {A : Nat → Nat → Int} (h : NtAt w np D N S) (hp : PlAt w' D.P D.m R A) (hF : Fr (fun j => j = D.P ∨ j = D.m) w w') : NtAt w' np D { N with R := R, A := A } S := by
  have hs := h.s
  exact ⟨h.b.keep hF (fun e => e.elim hs.nP hs.nm), row_fr h.vn hF (fun j hj e => e.elim (hs.v j hj).2.2.1 (hs.v j hj).2.2.2.1), row_fr h.ve hF (fun j hj e => e.elim (hs.e j hj).2.2.1 (hs.e j hj).2.2.2.1), hp, h.ca.keep hF (fun k hk e => e.elim (fun e => hs.sP (e ▸ hk)) (fun e => hs.sm (e ▸ hk))), h.cu.keep hF (fun e => e.elim (fun e => hs.Pc e.symm) (fun e => hs.mc e.symm)), hs⟩
theorem rs_drop {l : List Ru} (h : RsOk l) (k : Ky) : RsOk (dropR l k) := ⟨Nat.le_trans (List.length_filter_le _ _) h.len, fun r hr => h.ok r (List.mem_filter.1 hr).1, drop_nodup h.uniq k⟩
theorem NvOk.ask {N : Nv} {k : Nat} (h : NvOk N k) (a b : Int) : NvOk (askN N a b) (k + 1) := by
  have h' := h.mono (Nat.le_succ k)
  refine ⟨h'.v, h'.vl, h'.e, h'.el, h'.lt, h'.p, h'.q, fun i j => ?_, h'.now, h'.l, h'.ll, rs_drop h.r _⟩
  show 0 ≤ put2 N.A a.toNat b.toNat (N.A a.toNat b.toNat + 1) i j ∧ put2 N.A a.toNat b.toNat (N.A a.toNat b.toNat + 1) i j ≤ _
  have h1 := h.a i j
  have h2 := h.a a.toNat b.toNat
  unfold put2
  split <;> omega
theorem refE_zero {N : Nv} {a b : Int} {n : Nat} (h : refE N a b n = 0) : lkQ N a b = true ∧ n ≤ 512 ∧ upQ N a b = true ∧ N.L.length ≤ 16382 := by
  unfold refE at h
  by_cases h1 : lkQ N a b = true
  · rw [if_pos h1] at h
    by_cases h2 : 512 < n
    · rw [if_pos h2] at h; omega
    · rw [if_neg h2] at h
      by_cases h3 : upQ N a b = true
      · rw [if_pos h3] at h
        by_cases h4 : 16382 < N.L.length
        · rw [if_pos h4] at h; omega
        · exact ⟨h1, by omega, h3, by omega⟩
      · rw [if_neg h3] at h; omega
  · rw [if_neg h1] at h; omega
set_option maxRecDepth 100000 in
set_option maxHeartbeats 2000000 in
theorem send_no {w : World} {np k : Nat} {D : Nd} {N : Nv} {S : Nat → Prop} (h : NtAt w np D N S) (hk : NvOk N k) (a b : Int) (s : ByteArray) (hr : refE N a b s.size ≠ 0) :
    Calls Try.prog 10 #[pp np, .int .i64 a, .int .i64 b, .string s] w fun e w' => e = .returned (.tuple #[ftV (0, 0, 0), .int .i64 (refE N a b s.size)]) ∧ Below w.heap.size w w' := by
  obtain ⟨W0, hW0⟩ : ∃ W0, w.alloc (.cells #[.int .i64 0, .int .i64 0, .int .i64 0] 33) = W0 := ⟨_, rfl⟩
  have b0 : Below w.heap.size w W0 := by rw [← hW0]; exact (Below.refl _ w).alloc (Nat.le_refl _) _
  have hR : W0.heap[w.heap.size]? = some (.cells #[.int .i64 0, .int .i64 0, .int .i64 0] 33) := by rw [← hW0]; exact heap_alloc_last w _
  have HRf := hidIn (refused_any (h.below b0) hk a b s)
  obtain ⟨c, hc⟩ : ∃ c, refE N a b s.size = c := ⟨_, rfl⟩
  rw [hc] at HRf hr ⊢
  obtain ⟨rb, hrb⟩ : ∃ rb, w.heap.size = rb := ⟨_, rfl⟩
  rw [hrb] at b0 hR ⊢
  have HW := hidIn hW0
  have Hrb := hidIn hrb
  have HB := hidIn b0
  have HR := hidIn hR
  have hs0 : rb < W0.heap.size := block_lt hR
  clear hW0 b0 hR h hk hc hrb
  go_enter Try.func10, Try.ntmps10
  go_upto_region 1 with fail
  rw [HW.out, Hrb.out]
  clear HW Hrb
  go_wp2_with fail
  refine HRf.out.mono ?_
  rintro e w1 ⟨rfl, hb1⟩
  have hR1 := (hb1.block _ hs0).trans HR.out
  have r0 := cell_of_row _ _ 0 _ _ _ hR1
  have r1 := cell_of_row _ _ 1 _ _ _ hR1
  have r2 := cell_of_row _ _ 2 _ _ _ hR1
  have f0 := frozen_new hR1 0
  have f1 := frozen_new hR1 1
  have f2 := frozen_new hR1 2
  simp at r0 r1 r2
  have HB1 := hidIn (HB.out.trans (hb1.mono (by omega)))
  have HR1 := hidIn hR1
  clear hb1 HRf HB HR hR1
  obtain ⟨w3, hw3⟩ : ∃ w3, ((w1.setCell ⟨rb, 0, none⟩ (.int .i64 0)).setCell ⟨rb, 1, none⟩ (.int .i64 0)).setCell ⟨rb, 2, none⟩ (.int .i64 0) = w3 := ⟨_, rfl⟩
  have hR3 : w3.heap[rb]? = some (.cells #[.int .i64 0, .int .i64 0, .int .i64 0] 33) := by rw [← hw3]; exact set_ft HR1.out
  have HB3 : Hid (Below rb w w3) := hidIn (by rw [← hw3]; exact below_ft HB1.out (Nat.le_refl _) _ _ _)
  have HR3 := hidIn hR3
  have HW3 := hidIn hw3
  clear hR3 hw3
  go_wp2_with fail
  rw [HW3.out]
  have g0 := cell_of_row _ _ 0 _ _ _ HR3.out
  have g1 := cell_of_row _ _ 1 _ _ _ HR3.out
  have g2 := cell_of_row _ _ 2 _ _ _ HR3.out
  simp at g0 g1 g2
  exact bodyPost_ret (v := .tuple #[ftV (0, 0, 0), .int .i64 c]) (by simp [results, Try.results10, asAddr, Result.andThen, go_sem, g0, g1, g2]) rfl ⟨rfl, HB3.out⟩
theorem NvOk.put {N : Nv} {k : Nat} (h : NvOk N k) {x : Ar} (hx : (1 ≤ x.1 ∧ x.1 ≤ 24) ∧ (1 ≤ x.2.1 ∧ x.2.1 ≤ 24)) (more : Int) : NvOk (putN N x more) (k + 1) := by
  have h' := h.mono (Nat.le_succ k)
  have hperm := Ca.insL_perm N.L ((x, N.now + (N.lt + more)), ((N.p + 1 : Nat) : Int))
  refine ⟨h'.v, h'.vl, h'.e, h'.el, h'.lt, ?_, h'.q, h'.a, h'.now, fun b hb => ?_, ?_, h'.r⟩
  · show N.p + 1 ≤ _
    have := h.p
    omega
  · rcases List.mem_cons.1 (hperm.mem_iff.1 hb) with rfl | hb
    · exact hx
    · exact h.l b hb
  · have hl : (putN N x more).L.length = N.L.length + 1 := by
      have := hperm.length_eq
      rw [List.length_cons] at this
      exact this
    rw [hl]
    have := h.ll
    omega
set_option maxRecDepth 100000 in
set_option maxHeartbeats 4000000 in
theorem send_ok {w : World} {np k : Nat} {D : Nd} {N : Nv} {S : Nat → Prop} (h : NtAt w np D N S) (hS : ∀ j, S j → j < w.heap.size) (hk : NvOk N k) (hk9 : k ≤ 20000) (a b : Int) (s : ByteArray) (hr : refE N a b s.size = 0) :
    Calls Try.prog 10 #[pp np, .int .i64 a, .int .i64 b, .string s] w fun e w' => e = .returned (.tuple #[ftV (fateN N a b), .int .i64 0]) ∧ Res w w' np D (sendN N a b s) S := by
  obtain ⟨hlk, _, _, _⟩ := refE_zero hr
  have hbd := lkQ_bd hk hlk
  obtain ⟨x, rfl⟩ : ∃ x : Nat, a = x := ⟨a.toNat, by omega⟩
  obtain ⟨y, rfl⟩ : ∃ y : Nat, b = y := ⟨b.toNat, by omega⟩
  obtain ⟨W0, hW0⟩ : ∃ W0, w.alloc (.cells #[.int .i64 0, .int .i64 0, .int .i64 0] 33) = W0 := ⟨_, rfl⟩
  have b0 : Below w.heap.size w W0 := by rw [← hW0]; exact (Below.refl _ w).alloc (Nat.le_refl _) _
  have hR : W0.heap[w.heap.size]? = some (.cells #[.int .i64 0, .int .i64 0, .int .i64 0] 33) := by rw [← hW0]; exact heap_alloc_last w _
  have hRf := refused_any (h.below b0) hk x y s
  rw [hr] at hRf
  have HRf := hidIn hRf
  have hfb := fate_bd hk.r x y
  have HFn : Hid (ftO (findR N.R ((x : Int), (y : Int), N.A x y + 1)) = fateN N x y) := hidIn rfl
  have HAs : Hid (({ N with R := dropR N.R ((x : Int), (y : Int), N.A x y + 1), A := put2 N.A x y (N.A x y + 1) } : Nv) = askN N x y) := hidIn rfl
  have hp : isP x y = true := isP_iff.2 ⟨hbd.1, hbd.2.1, hbd.2.2⟩
  have hac := hk.a x y
  have HAsk : Hid (∀ w1, Below w.heap.size w w1 → Calls Try.prog 24 #[pp D.P, .int .i64 x, .int .i64 y] w1 fun e w' => e = .returned (.tuple #[ftV (fateN N x y), .int .i64 0]) ∧ NtAt w' np D (askN N x y) S ∧ Fr (fun j => j = D.P ∨ j = D.m) w1 w') := hidIn (fun w1 hb1 => by
    refine (fask_yes (h.below hb1).pl hp (by omega)).mono ?_
    rintro e w' ⟨rfl, h1, h2⟩
    exact ⟨rfl, (h.below hb1).replan h1 h2, h2⟩)
  have HPut : Hid (∀ w1 N1 S1 k1 (more : Int), NtAt w1 np D N1 S1 → (∀ j, S1 j → j < w1.heap.size) → NvOk N1 k1 → k1 ≤ 30000 → 0 ≤ more ∧ more ≤ 64 → Calls Try.prog 25 #[pp np, .agg #[.int .i64 (x : Int), .int .i64 (y : Int), .string s], .int .i64 more] w1 fun e w' => (∃ r, e = .returned r) ∧ Res w1 w' np D (putN N1 ((x : Int), (y : Int), s) more) S1) := hidIn (fun w1 N1 S1 k1 more h1 h2 h3 h4 h5 => nput_any h1 h2 h3 h4 ((x : Int), (y : Int), s) h5)
  have HKa := hidIn (hk.ask x y)
  have HSn : Hid (sendN N x y s = if (fateN N x y).1 = 0 then askN N x y else if (fateN N x y).1 = 1 then putN (askN N x y) ((x : Int), (y : Int), s) (fateN N x y).2.1 else putN (putN (askN N x y) ((x : Int), (y : Int), s) (fateN N x y).2.1) ((x : Int), (y : Int), s) (fateN N x y).2.2) := hidIn rfl
  have HKp : Hid (NvOk (putN (askN N x y) ((x : Int), (y : Int), s) (fateN N x y).2.1) (k + 2)) := hidIn ((hk.ask x y).put ⟨hbd.1, hbd.2.1⟩ _)
  obtain ⟨F, hF⟩ : ∃ F, fateN N x y = F := ⟨_, rfl⟩
  obtain ⟨M, hM⟩ : ∃ M, askN N x y = M := ⟨_, rfl⟩
  rw [hF] at HFn HAsk HSn HKp hfb ⊢
  rw [hM] at HAsk HKa HSn HKp
  obtain ⟨c, l, d⟩ := F
  simp only at hfb HSn HKp
  have HH := hidIn h
  have HS := hidIn hS
  have HO := hidIn (fun j (hj : Own np D S j) => h.own_lt hS hj)
  have H4 : Hid (∀ w1, Below w.heap.size w w1 → w1.cell? ⟨np, 4, none⟩ = some (pp D.P)) := hidIn (fun w1 hb1 => (h.below hb1).b.c4)
  obtain ⟨rb, hrb⟩ : ∃ rb, w.heap.size = rb := ⟨_, rfl⟩
  rw [hrb] at b0 hR HAsk H4 HO HS
  have HW := hidIn hW0
  have Hrb := hidIn hrb
  have HB := hidIn b0
  have HR := hidIn hR
  have hs0 : rb < W0.heap.size := block_lt hR
  clear hW0 b0 hR h hk hrb hRf hr hlk hp hac hbd hS hF hM
  go_enter Try.func10, Try.ntmps10
  go_upto_region 1 with fail
  rw [HW.out, Hrb.out]
  clear HW
  go_wp2_with fail
  refine HRf.out.mono ?_
  rintro e w1 ⟨rfl, hb1⟩
  have HR1 := hidIn ((hb1.block _ hs0).trans HR.out)
  have HB1 := hidIn (HB.out.trans (hb1.mono (by omega)))
  have c4 := H4.out w1 HB1.out
  have HA1 := hidIn (HAsk.out w1 HB1.out)
  clear hb1 HRf HB HR HAsk H4
  go_wp2_with fail
  refine HA1.out.mono ?_
  rintro e w2 ⟨rfl, h2, hf2⟩
  have hs2 : rb < w2.heap.size := Nat.lt_of_lt_of_le (block_lt HR1.out) hf2.size
  obtain ⟨W3, hW3⟩ : ∃ W3, w2.alloc (.cells #[.int .i64 c, .int .i64 l, .int .i64 d] 33) = W3 := ⟨_, rfl⟩
  obtain ⟨W4, hW4⟩ : ∃ W4, W3.alloc (.cells #[.int .i64 (x : Int), .int .i64 (y : Int), .string s] 30) = W4 := ⟨_, rfl⟩
  have hb4 : Below w2.heap.size w2 W4 := by rw [← hW4, ← hW3]; exact ((Below.refl _ w2).alloc (Nat.le_refl _) _).alloc (by simp) _
  obtain ⟨fb, hfb2⟩ : ∃ fb, w2.heap.size = fb := ⟨_, rfl⟩
  have hs3 : W3.heap.size = fb + 1 := by rw [← hW3, ← hfb2]; simp
  have hFt : W4.heap[fb]? = some (.cells #[.int .i64 c, .int .i64 l, .int .i64 d] 33) := by
    rw [← hW4, Below.heap_alloc _ _ _ (by omega), ← hW3, ← hfb2]
    exact heap_alloc_last w2 _
  have hAr : W4.heap[fb + 1]? = some (.cells #[.int .i64 (x : Int), .int .i64 (y : Int), .string s] 30) := by
    rw [← hW4, ← hs3]
    exact heap_alloc_last W3 _
  have hRb2 : w2.heap[rb]? = some (.cells #[.int .i64 0, .int .i64 0, .int .i64 0] 33) := (hf2.block rb (block_lt HR1.out) (fun e => by
    rcases e with e | e
    · have := HO.out D.P (.inr (.inl rfl)); omega
    · have := HO.out D.m (.inr (.inr (.inl rfl))); omega)).trans HR1.out
  have HRb4 := hidIn ((hb4.block rb hs2).trans hRb2)
  have HFt := hidIn hFt
  have HAr := hidIn hAr
  have hs4 : fb + 1 < W4.heap.size := block_lt hAr
  have HW3 := hidIn hW3
  have HW4 := hidIn hW4
  have H4 := hidIn (h2.below hb4)
  have HF4 : Hid (Fr (Own np D S) w W4) := hidIn (((Fr.of_below (by rw [Hrb.out]; exact HB1.out)).trans (hf2.mono (fun j _ hj => hj.elim (fun e => .inr (.inl e)) (fun e => .inr (.inr (.inl e)))))).trans (Fr.of_below hb4))
  have HS4 : Hid (∀ j, S j → j < W4.heap.size) := hidIn (fun j hj => by have := HS.out j hj; omega)
  have hs24 := hb4.size
  have Hfb := hidIn hfb2
  rw [hfb2] at hs2
  clear h2 hf2 hb4 hFt hAr hRb2 hW3 hW4 HA1 c4 HR1 hfb2
  go_upto_region 5 with fail
  rw [Hfb.out]
  rw [HW3.out]
  go_upto_region 6 with fail
  rw [HW4.out]
  clear HW3 HW4 hs3
  have HRes0 := hidIn (Res.refl H4.out HS4.out)
  rcases hfb.1 with rfl | rfl | rfl
  · have HR6 := HRb4
    have HFt6 := HFt
    have HRes6 : Hid (Res W4 W4 np D (sendN N x y s) S) := hidIn (by rw [HSn.out]; exact HRes0.out)
    obtain ⟨w7, hw7⟩ : ∃ w7, ((W4.setCell ⟨rb, 0, none⟩ (.int .i64 0)).setCell ⟨rb, 1, none⟩ (.int .i64 l)).setCell ⟨rb, 2, none⟩ (.int .i64 d) = w7 := ⟨_, rfl⟩
    have hR7 : w7.heap[rb]? = some (.cells #[.int .i64 0, .int .i64 l, .int .i64 d] 33) := by rw [← hw7]; exact set_ft HR6.out
    have hF7 : Fr (fun j => j = rb) W4 w7 := by rw [← hw7]; exact fr_ft (S := fun j => j = rb) (Fr.refl _ _) rfl _ _ _
    have HRes7 := hidIn (Res.close HF4.out (fun j hj => by have := HO.out j hj; rw [Hrb.out]; exact this) HRes6.out (T := fun j => j = rb) (fun j hj => ⟨by rw [Hrb.out]; omega, by omega⟩) hF7)
    have HR7 := hidIn hR7
    have HW7 := hidIn hw7
    have t0 := cell_of_row _ _ 0 _ _ _ HFt6.out
    have t1 := cell_of_row _ _ 1 _ _ _ HFt6.out
    have t2 := cell_of_row _ _ 2 _ _ _ HFt6.out
    have r0 := cell_of_row _ _ 0 _ _ _ HR6.out
    have r1 := cell_of_row _ _ 1 _ _ _ HR6.out
    have r2 := cell_of_row _ _ 2 _ _ _ HR6.out
    have f0 := frozen_new HR6.out 0
    have f1 := frozen_new HR6.out 1
    have f2 := frozen_new HR6.out 2
    simp at t0 t1 t2 r0 r1 r2
    clear hR7 hw7 hF7
    go_wp2_with fail
    rw [HW7.out]
    have g0 := cell_of_row _ _ 0 _ _ _ HR7.out
    have g1 := cell_of_row _ _ 1 _ _ _ HR7.out
    have g2 := cell_of_row _ _ 2 _ _ _ HR7.out
    simp at g0 g1 g2
    exact bodyPost_ret (v := .tuple #[ftV (0, l, d), .int .i64 0]) (by simp [results, Try.results10, asAddr, Result.andThen, go_sem, g0, g1, g2]) rfl ⟨rfl, HRes7.out⟩
  · have HP := hidIn (HPut.out W4 M S (k + 1) l H4.out HS4.out HKa.out (by omega) hfb.2.1)
    have t0 := cell_of_row _ _ 0 _ _ _ HFt.out
    have t1 := cell_of_row _ _ 1 _ _ _ HFt.out
    have t2 := cell_of_row _ _ 2 _ _ _ HFt.out
    have a0 := cell_of_row _ _ 0 _ _ _ HAr.out
    have a1 := cell_of_row _ _ 1 _ _ _ HAr.out
    have a2 := cell_of_row _ _ 2 _ _ _ HAr.out
    simp at t0 t1 t2 a0 a1 a2
    go_wp2_with fail
    refine HP.out.mono ?_
    rintro e w6 ⟨⟨r, rfl⟩, hres⟩
    have HRes6 : Hid (Res W4 w6 np D (sendN N x y s) S) := hidIn (by rw [HSn.out]; exact hres)
    have hfr := hres.frame
    have HR6 := hidIn ((hfr.block rb (block_lt HRb4.out) (fun h => by have := HO.out rb h; omega)).trans HRb4.out)
    have HFt6 := hidIn ((hfr.block fb (block_lt HFt.out) (fun h => by have := HO.out fb h; omega)).trans HFt.out)
    clear hres hfr HP t0 t1 t2 a0 a1 a2
    obtain ⟨w7, hw7⟩ : ∃ w7, ((w6.setCell ⟨rb, 0, none⟩ (.int .i64 1)).setCell ⟨rb, 1, none⟩ (.int .i64 l)).setCell ⟨rb, 2, none⟩ (.int .i64 d) = w7 := ⟨_, rfl⟩
    have hR7 : w7.heap[rb]? = some (.cells #[.int .i64 1, .int .i64 l, .int .i64 d] 33) := by rw [← hw7]; exact set_ft HR6.out
    have hF7 : Fr (fun j => j = rb) w6 w7 := by rw [← hw7]; exact fr_ft (S := fun j => j = rb) (Fr.refl _ _) rfl _ _ _
    have HRes7 := hidIn (Res.close HF4.out (fun j hj => by have := HO.out j hj; rw [Hrb.out]; exact this) HRes6.out (T := fun j => j = rb) (fun j hj => ⟨by rw [Hrb.out]; omega, by omega⟩) hF7)
    have HR7 := hidIn hR7
    have HW7 := hidIn hw7
    have t0 := cell_of_row _ _ 0 _ _ _ HFt6.out
    have t1 := cell_of_row _ _ 1 _ _ _ HFt6.out
    have t2 := cell_of_row _ _ 2 _ _ _ HFt6.out
    have r0 := cell_of_row _ _ 0 _ _ _ HR6.out
    have r1 := cell_of_row _ _ 1 _ _ _ HR6.out
    have r2 := cell_of_row _ _ 2 _ _ _ HR6.out
    have f0 := frozen_new HR6.out 0
    have f1 := frozen_new HR6.out 1
    have f2 := frozen_new HR6.out 2
    simp at t0 t1 t2 r0 r1 r2
    clear hR7 hw7 hF7
    go_wp2_with fail
    rw [HW7.out]
    have g0 := cell_of_row _ _ 0 _ _ _ HR7.out
    have g1 := cell_of_row _ _ 1 _ _ _ HR7.out
    have g2 := cell_of_row _ _ 2 _ _ _ HR7.out
    simp at g0 g1 g2
    exact bodyPost_ret (v := .tuple #[ftV (1, l, d), .int .i64 0]) (by simp [results, Try.results10, asAddr, Result.andThen, go_sem, g0, g1, g2]) rfl ⟨rfl, HRes7.out⟩
  · have HP := hidIn (HPut.out W4 M S (k + 1) l H4.out HS4.out HKa.out (by omega) hfb.2.1)
    have t0 := cell_of_row _ _ 0 _ _ _ HFt.out
    have t1 := cell_of_row _ _ 1 _ _ _ HFt.out
    have t2 := cell_of_row _ _ 2 _ _ _ HFt.out
    have a0 := cell_of_row _ _ 0 _ _ _ HAr.out
    have a1 := cell_of_row _ _ 1 _ _ _ HAr.out
    have a2 := cell_of_row _ _ 2 _ _ _ HAr.out
    simp at t0 t1 t2 a0 a1 a2
    go_wp2_with fail
    refine HP.out.mono ?_
    rintro e w5 ⟨⟨r, rfl⟩, hres⟩
    have hfr := hres.frame
    have HRb5 := hidIn ((hfr.block rb (block_lt HRb4.out) (fun h => by have := HO.out rb h; omega)).trans HRb4.out)
    have HFt5 := hidIn ((hfr.block fb (block_lt HFt.out) (fun h => by have := HO.out fb h; omega)).trans HFt.out)
    have HAr5 := hidIn ((hfr.block (fb + 1) (block_lt HAr.out) (fun h => by have := HO.out (fb + 1) h; omega)).trans HAr.out)
    obtain ⟨S5, h5, hS5, hF5⟩ := hres
    have HP2 := hidIn (HPut.out w5 _ S5 (k + 2) d h5 (fun j hj => (hS5 j hj).2) HKp.out (by omega) hfb.2.2)
    have HS5 := hidIn hS5
    have HF5 := hidIn hF5
    clear h5 hS5 hF5 hfr HP t0 t1 t2 a0 a1 a2
    have t0 := cell_of_row _ _ 0 _ _ _ HFt5.out
    have t1 := cell_of_row _ _ 1 _ _ _ HFt5.out
    have t2 := cell_of_row _ _ 2 _ _ _ HFt5.out
    have a0 := cell_of_row _ _ 0 _ _ _ HAr5.out
    have a1 := cell_of_row _ _ 1 _ _ _ HAr5.out
    have a2 := cell_of_row _ _ 2 _ _ _ HAr5.out
    simp at t0 t1 t2 a0 a1 a2
    go_wp2_with fail
    refine HP2.out.mono ?_
    rintro e w6 ⟨⟨r, rfl⟩, hres⟩
    have hres6 := Res.trans (fun j hj => (HS5.out j hj).1) HF5.out hres
    have HRes6 : Hid (Res W4 w6 np D (sendN N x y s) S) := hidIn (by rw [HSn.out]; exact hres6)
    have hfr := hres6.frame
    have HR6 := hidIn ((hfr.block rb (block_lt HRb4.out) (fun h => by have := HO.out rb h; omega)).trans HRb4.out)
    have HFt6 := hidIn ((hfr.block fb (block_lt HFt.out) (fun h => by have := HO.out fb h; omega)).trans HFt.out)
    clear hres hres6 hfr HP2 t0 t1 t2 a0 a1 a2
    obtain ⟨w7, hw7⟩ : ∃ w7, ((w6.setCell ⟨rb, 0, none⟩ (.int .i64 2)).setCell ⟨rb, 1, none⟩ (.int .i64 l)).setCell ⟨rb, 2, none⟩ (.int .i64 d) = w7 := ⟨_, rfl⟩
    have hR7 : w7.heap[rb]? = some (.cells #[.int .i64 2, .int .i64 l, .int .i64 d] 33) := by rw [← hw7]; exact set_ft HR6.out
    have hF7 : Fr (fun j => j = rb) w6 w7 := by rw [← hw7]; exact fr_ft (S := fun j => j = rb) (Fr.refl _ _) rfl _ _ _
    have HRes7 := hidIn (Res.close HF4.out (fun j hj => by have := HO.out j hj; rw [Hrb.out]; exact this) HRes6.out (T := fun j => j = rb) (fun j hj => ⟨by rw [Hrb.out]; omega, by omega⟩) hF7)
    have HR7 := hidIn hR7
    have HW7 := hidIn hw7
    have t0 := cell_of_row _ _ 0 _ _ _ HFt6.out
    have t1 := cell_of_row _ _ 1 _ _ _ HFt6.out
    have t2 := cell_of_row _ _ 2 _ _ _ HFt6.out
    have r0 := cell_of_row _ _ 0 _ _ _ HR6.out
    have r1 := cell_of_row _ _ 1 _ _ _ HR6.out
    have r2 := cell_of_row _ _ 2 _ _ _ HR6.out
    have f0 := frozen_new HR6.out 0
    have f1 := frozen_new HR6.out 1
    have f2 := frozen_new HR6.out 2
    simp at t0 t1 t2 r0 r1 r2
    clear hR7 hw7 hF7
    go_wp2_with fail
    rw [HW7.out]
    have g0 := cell_of_row _ _ 0 _ _ _ HR7.out
    have g1 := cell_of_row _ _ 1 _ _ _ HR7.out
    have g2 := cell_of_row _ _ 2 _ _ _ HR7.out
    simp at g0 g1 g2
    exact bodyPost_ret (v := .tuple #[ftV (2, l, d), .int .i64 0]) (by simp [results, Try.results10, asAddr, Result.andThen, go_sem, g0, g1, g2]) rfl ⟨rfl, HRes7.out⟩
end Go.Proofs.Ytkhfpcnmnnboeaa.Nt
namespace Go.Proofs.Ytkhfpcnmnnboeaa.Ca
open Go.RowKit Go.Shelf

variable {F : Fence} {n : Nat} {P : Program}

/-- The iterator's contract: it hands xs to yield, one by one; J abides new blocks, and holds what the iterator reads. -/
def GivesN (F : Fence) (n : Nat) (P : Program) (gf : Nat) (lb : Array Value) (encs : Nat → Array Value) (T : World → Prop) (xs : List Nat) (w : World) : Prop :=
  ∀ (l : Nat) (J : List Nat → World → Prop) (W : World), Below w.heap.size w W → (∀ s A, J s A → T A) →
    (∀ pre x W1, J pre W1 → (pre ++ [x]) <+: xs → YieldAt F (n - 1) P l (encs x) W1 fun e W' => e = .returned (.bool true) ∧ J (pre ++ [x]) W') →
    J [] W → CallsIn F n P gf (#[.func (.yield l) #[] #[]] ++ lb) W fun e W' => (∃ v, e = .returned v) ∧ J xs W'

/-- What the caller's invariant abides: the turn of one of the three blocks that the loop and the iterator lay first. -/
def Own3 (B : Nat) (I : List Nat → World → Prop) : Prop := ∀ s A A' q, I s A → A.grownBy A' (some q) → B ≤ q → q ≤ B + 1 → I s A'

/-- How a round's body ends: it goes on, the loop's three blocks as they were. -/
def bodyOn (B : Nat) (I : List Nat → World → Prop) (xs : List Nat) (W : World) : Exit → Act → World → Prop
  | .normal, _, W' => (W'.heap[B]? = W.heap[B]? ∧ W'.heap[B + 1]? = W.heap[B + 1]? ∧ W.heap.size ≤ W'.heap.size) ∧ I xs W'
  | _, _, _ => False

theorem wpIn_each {g : Operand} {ps : Array Tmp} {assign body : Code} {Q : Exit → Act → World → Prop} {a : Act} {w : World}
    (hro : F.round = none) (h1 : 1 ≤ n) {gf : Nat} {lb : Array Value} (hg : a.eval g = .func (.func gf) #[] lb) (hFg : F.fn gf) (eg : ∀ args w, (callFunc gf args).run P w = .ok (.enter gf args) w)
    {encs : Nat → Array Value} {T : World → Prop} {xs : List Nat} (hseq : GivesN F (n - 1) P gf lb encs T xs w) (hps : ∀ x, (encs x).size = ps.size)
    (I : List Nat → World → Prop) (hIT : ∀ s A, I s A → T A) (hI : Own3 w.heap.size I) (h0 : I [] w) (a₁ : Nat → Act)
    (hassign : ∀ (l : Nat) (x : Nat) (W : World) (K : Act → World → Prop), K (a₁ x) W →
      assign.wpIn (F.inRound l) (n - 1 - 1) P (Exit.then K (fun _ _ _ => False)) { tmps := (ps.zip (encs x)).foldl (fun t (p, v) => t.setIfInBounds p v) a.tmps, defers := [] } W)
    (hbody : ∀ (l : Nat) (pre : List Nat) (x : Nat) (W : World), I pre W → (pre ++ [x]) <+: xs → w.heap.size + 2 ≤ W.heap.size → body.wpIn (F.inRound l) (n - 1 - 1) P (bodyOn w.heap.size I (pre ++ [x]) W) (a₁ x) W)
    (hdone : ∀ (D : Nat) (W : World), w.heap.size ≤ D → I xs W → W.heap[D]? = some (.deferred (some [])) → Q .normal { a with defers := { target := .collected D, args := #[] } :: a.defers } W) :
    (Code.rangeFunc g ps assign body).wpIn F n P Q a w := by
  refine wpIn_rangeFunc ?_
  intro fn hfn
  rw [hro]
  obtain ⟨lp, hlp⟩ : ∃ lp : LoopState → Option Code → Loop, lp = fun st pe => { state := st, pending := pe, fn, tmps := a.tmps, params := ps, assign, body, defers := w.heap.size } := ⟨_, rfl⟩
  obtain ⟨V, hV⟩ : ∃ V, (w.alloc (.deferred (some []))).alloc (.loop (lp .ready none)) = V := ⟨_, rfl⟩
  have sV : V.heap.size = w.heap.size + 2 := by rw [← hV]; simp
  have bV : Below w.heap.size w V := by rw [← hV]; exact (((Below.refl _ w).alloc (Nat.le_refl _) _).alloc (by simp) _)
  have lV : V.heap[w.heap.size + 1]? = some (.loop (lp .ready none)) := by
    rw [← hV]; have := World.alloc_heap_new (w.alloc (.deferred (some []))) (.loop (lp .ready none)); rwa [World.size_alloc] at this
  have dV : V.heap[w.heap.size]? = some (.deferred (some [])) := by
    rw [← hV]; exact (Below.heap_alloc _ _ _ (by simp)).trans (World.alloc_heap_new w _)
  have gV : w.grownBy V (some w.heap.size) := ⟨bV.os, bV.tape, bV.output, bV.size, fun k hk _ => bV.block k hk⟩
  have iV : I [] V := hI [] w V _ h0 gV (by omega) (by omega)
  refine ⟨w.heap.size + 1, [{ target := .collected w.heap.size, args := #[] }], V, { target := .fn (.func gf) lb, args := #[.func (.yield (w.heap.size + 1)) #[] #[]] }, V, gf,
    #[.func (.yield (w.heap.size + 1)) #[] #[]] ++ lb, V, ?_, ?_, ?_, ?_, fun _ => h1, ?_⟩
  · rw [← hV, hlp]; exact run_enterLoop_outer _ _ _ _ _
  · simp only [resolve, hg]
    simp [go_sem]
  · intro f' hf'; simp [Target.leads] at hf'; subst hf'; exact hFg
  · simp [invoke, go_sem, eg]
  · refine (hseq (w.heap.size + 1) (fun pre W => I pre W ∧ W.heap[w.heap.size + 1]? = some (.loop (lp .ready none)) ∧ W.heap[w.heap.size]? = some (.deferred (some []))) V bV ?_ ?_ ⟨iV, lV, dV⟩).mono ?_
    · exact fun s A h => hIT s A h.1
    · rintro pre x W ⟨hi, hl, hk⟩ hpre
      have hlt : w.heap.size + 1 < W.heap.size := (Array.getElem?_eq_some_iff.1 hl).1
      have hy := run_yield (P := P) (args := encs x) hl (by rw [hlp]; exact hps x)
      rw [hlp] at hy
      refine ⟨fn, _, assign, body, hy, roundIn_of_wpIn hfn (hassign _ x W _ ⟨_, run_beginRound hl (by rw [hlp]), ?_⟩)⟩
      have g2 := grownBy_putObj' W (w.heap.size + 1) (.loop { lp .ready none with state := .busy })
      have l2 : (W.putObj (w.heap.size + 1) (.loop { lp .ready none with state := .busy })).heap[w.heap.size + 1]? = some (.loop { lp .ready none with state := .busy }) := World.putObj_heap_same hlt
      refine wpIn_mono (hbody _ pre x _ (hI _ _ _ _ hi g2 (by omega) (by omega)) hpre (by simp; omega)) ?_
      rintro e a3 W3 hp
      cases e with
      | normal =>
        obtain ⟨⟨k0, k1, ks⟩, hi3⟩ := hp
        have l3 := k1.trans l2
        have d3 : W3.heap[w.heap.size]? = some (.deferred (some [])) := k0.trans ((World.putObj_heap_other (by omega)).trans hk)
        have hr := run_endRound (P := P) none l3
        rw [hlp] at hr
        refine ⟨_, _, hr, rfl, ⟨hI _ _ _ _ hi3 (grownBy_putObj' W3 (w.heap.size + 1) _) (by omega) (by omega), ?_, ?_⟩⟩
        · rw [hlp]; exact World.putObj_heap_same (Array.getElem?_eq_some_iff.1 l3).1
        · exact (World.putObj_heap_other (by omega)).trans d3
      | ret => exact hp.elim
      | exit id => exact hp.elim
      | goto t => exact hp.elim
      | panic ch => exact hp.elim
      | outgrown => exact hp.elim
    · rintro e W2 ⟨⟨v, rfl⟩, hi, hl, hk⟩
      exact ⟨none, _, by have := run_endLoop (P := P) hl (by rw [hlp]; simp); rw [hlp] at this; exact this, hdone _ _ (Nat.le_refl _) (hI _ _ _ _ hi (grownBy_putObj' W2 (w.heap.size + 1) _) (by omega) (by omega)) ((World.putObj_heap_other (by omega)).trans hk)⟩
theorem lIn_append {F : Fence} {n : Nat} {P : Program} {ops : Array Oper} {rest : List Oper} {o : Oper} {a : Act} {w w' : World} {v' : Value} {Q : Exit → Act → World → Prop}
    (hg : o.guard = none) (s x : Operand) (t : TypeId) (hop : o.op = Op.call { callee := Callee.builtin Builtin.append, args := #[s, x], argTypes := #[t, t] })
    (hrun : (Builtin.append_ #[t, t] o.type #[a.eval s, a.eval x]).run P w = .ok v' w') (h : wpListIn F n P ops Q rest (a.put o.dst v') w') : wpListIn F n P ops Q (o :: rest) a w := by
  refine wpListIn_plain hg fun K hK => ?_
  unfold Oper.wpIn
  refine ⟨by simp [Oper.about, hop, resolve, Target.leads, Sem.run_pure], ?_⟩
  rw [Oper.semAt_plain F _ _ (by rw [hop]; intro c hc'; cases hc')]
  simp [execOp, hop, resolve, invoke, builtin, hrun, Result.andThen]
  exact hK _ _ h
theorem grown_set (W : World) (B : Nat) (v : Value) : W.grownBy (W.setCell ⟨B, 0, none⟩ v) (some B) :=
  ⟨rfl, rfl, rfl, by simp, fun k _ hk => Below.heap_setCell W ⟨B, 0, none⟩ v k (fun e => hk (by rw [e]))⟩
abbrev pn (b : Nat) : List Value := [ptr b]
end Go.Proofs.Ytkhfpcnmnnboeaa.Ca
namespace Go.Proofs.Ytkhfpcnmnnboeaa.Ca.A
open Go.RowKit Go.Maps Go.Shelf

attribute [local go_sem] Oper.semAt_some

theorem append_pn {W : World} {base k : Nat} {u : Value} {l : List Nat} (hr : W.ownsRow base 110 1 u k (fl pn l)) (x : Nat) (hk : (k + 1) * 8 ≤ 140737488355328) (hbase : base ≤ W.heap.size) :
    ∃ g cap w6, (Builtin.append_ #[111, 111] 111 #[u, .slice (some ⟨W.heap.size, 0, none⟩) 1 1]).run Try.prog (W.alloc (.cells (pn x).toArray 110)) = .ok (.slice (some ⟨g, 0, none⟩) (k + 1) cap) w6 ∧
      w6.ownsRow base 110 1 (.slice (some ⟨g, 0, none⟩) (k + 1) cap) (k + 1) (fl pn (l ++ [x])) ∧ (u.ownBlock = some g ∨ g = W.heap.size + 1) ∧ W.grownBy w6 u.ownBlock ∧ Below base W w6 :=
  append_one (P := Try.prog) (cs := pn) (T := 111) (fun _ => rfl) (fun _ => by simp [Value.oneCell']) Try.underlying111 infoPtr rfl (by decide) hr x hk (by unfold maxLen; omega) hbase
theorem values_ok (v : Value) (w : World) (a : Option Addr) (n c : Nat) (hv : v = .slice a n c) : Calls Try.prog 74 #[v] w fun e w' => e = .returned (.func (.func 80) #[] #[ptr w.heap.size]) ∧ w' = w.alloc (.cells #[v] 111) := by
  subst hv
  go_enter Try.func74, Try.ntmps74
  go_wp2
  go_ret
  exact ⟨rfl, rfl⟩
set_option maxRecDepth 100000 in
set_option maxHeartbeats 1000000 in
theorem values_gives {w : World} {Bb g n0 : Nat} {ad : Option Addr} {cap : Nat} {xs : List Nat} (hn : 1 ≤ n0) (hB : w.heap[Bb]? = some (.cells #[.slice ad xs.length cap] 111)) (hg : 0 < xs.length → ad = some ⟨g, 0, none⟩) (hlen : xs.length ≤ 100000) :
    GivesN Fence.wide n0 Try.prog 80 #[ptr Bb] (fun b => #[ptr b]) (fun W => ∀ j x, xs[j]? = some x → W.cell? ⟨g, j, none⟩ = some (ptr x)) xs w := by
  intro l J W hBw hT hY h0
  refine callsIn_of_wp Try.func80 rfl trivial ?_ rfl
  simp only [Try.ntmps80, List.size_toArray, List.length_cons, List.length_nil, Nat.reduceAdd, Nat.reduceSub, Array.replicate_succ, Array.replicate_zero, List.push_toArray, List.append_toArray, List.nil_append, List.cons_append]
  have c0 := cell_of_row _ _ 0 _ _ _ ((hBw.block _ (block_lt hB)).trans hB)
  simp at c0
  have HT := hidIn hT
  have HY := hidIn hY
  have Hg := hidIn hg
  clear hB hT hY hg
  gi_wp2
  gi_loopw [7] (fun i wr => ∃ k : Nat, k ≤ xs.length ∧ i = .int .i64 k ∧ Hid (J (xs.take k) wr)) (fun i _ => xs.length - (intOf i).toNat)
  case atStart => exact ⟨0, Nat.zero_le _, rfl, hidIn (by simpa using h0)⟩
  case round =>
    obtain ⟨k, hk, rfl, HR⟩ := hrel
    by_cases hlt : k < xs.length
    · have had := Hg.out (by omega)
      subst had
      obtain ⟨x, hx⟩ : ∃ x, xs[k]? = some x := ⟨xs[k], List.getElem?_eq_getElem hlt⟩
      have x0 := HT.out _ _ HR.out k x hx
      have hpre : (xs.take k ++ [x]) <+: xs := by rw [← take_snoc hx]; exact List.take_prefix _ _
      obtain ⟨fn, tmps, assign, body, hy, hR⟩ := HY.out (xs.take k) x wr HR.out hpre
      have hki : (k : Int) < (xs.length : Int) := by omega
      have hk9 : (k : Int) < 100000 := by omega
      have HX := hidIn hx
      have HRR := hidIn hR
      clear hx hpre hR
      gi_wp2_with fail
      refine HRR.out.mono ?_
      rintro e W3 ⟨rfl, hJ3⟩
      have HJ3 := hidIn hJ3
      clear hJ3 hy HRR x0
      gi_wp2
      go_roundw
      case rel => exact ⟨k + 1, by omega, by go_num, hidIn (by rw [take_snoc HX.out]; exact HJ3.out)⟩
      case measure => simp [intOf]; omega
    · have hki : ¬ ((k : Int) < (xs.length : Int)) := by omega
      have hke : k = xs.length := by omega
      have HJ : Hid (J xs wr) := hidIn (by have := HR.out; rw [hke, List.take_length] at this; exact this)
      clear hke HR
      gi_wp2
      go_end0
      exact ⟨⟨_, rfl⟩, HJ.out⟩
set_option maxRecDepth 100000 in
set_option maxHeartbeats 4000000 in
theorem appendSeq_ok {w : World} {Bb g : Nat} {ad : Option Addr} {cap : Nat} {xs : List Nat} (hB : w.heap[Bb]? = some (.cells #[.slice ad xs.length cap] 111)) (hg : 0 < xs.length → ad = some ⟨g, 0, none⟩) (hlen : xs.length ≤ 100000) (hcl : ∀ j x, xs[j]? = some x → w.cell? ⟨g, j, none⟩ = some (ptr x)) (hgl : g < w.heap.size) :
    Calls Try.prog 84 #[.slice none 0 0, .func (.func 80) #[] #[ptr Bb]] w fun e w' => (∃ v', e = .returned v' ∧ w'.ownsRow w.heap.size 110 1 v' xs.length (fl pn xs)) ∧ Below w.heap.size w w' := by
  obtain ⟨sb, hsb⟩ : ∃ sb, w.heap.size = sb := ⟨_, rfl⟩
  have Hsb := hidIn hsb
  refine (callsIn_wide (n := 5)).1 ?_
  refine callsIn_of_wp_marks Try.func84 rfl trivial ?_ rfl
  simp only [Try.ntmps84, List.size_toArray, List.length_cons, List.length_nil, Nat.reduceAdd, Nat.reduceSub, Array.replicate_succ, Array.replicate_zero, List.push_toArray, List.append_toArray, List.nil_append, List.cons_append]
  have hbB : Below w.heap.size w (w.alloc (.cells #[.slice none 0 0] 111)) := (Below.refl _ w).alloc (Nat.le_refl _) _
  have hz := heap_alloc_last w (.cells #[.slice none 0 0] 111)
  have hsz : (w.alloc (.cells #[.slice none 0 0] 111)).heap.size = sb + 1 := by simp; omega
  have hgv := values_gives (n0 := 4) (w := w.alloc (.cells #[.slice none 0 0] 111)) (by omega) ((hbB.block _ (block_lt hB)).trans hB) hg hlen
  rw [hsb] at hbB hz hgl
  have HV := hidIn hbB
  have HZ := hidIn hz
  have HG := hidIn hgv
  have HS := hidIn hsz
  have HCl := hidIn hcl
  rw [hsb]
  clear hbB hz hgv hsz hB hg hcl
  gi_wp2
  generalize hVd : w.alloc (.cells #[.slice none 0 0] 111) = V at HV HZ HG HS ⊢
  clear hVd
  have sV := HS.out
  refine wpIn_each (T := fun W => ∀ j x, xs[j]? = some x → W.cell? ⟨g, j, none⟩ = some (ptr x)) rfl (by omega) (gf := 80) (lb := #[ptr Bb]) rfl trivial (enters_of Try.func80 (by kernel_rfl) rfl) HG.out (fun _ => rfl)
    (fun pre W => (∃ u, W.heap[sb]? = some (.cells #[u] 111) ∧ W.ownsRow (sb + 3) 110 1 u pre.length (fl pn pre)) ∧ Below sb w W)
    (fun s A h j x hx => (h.2.cell (p := ⟨g, j, none⟩) hgl).trans (HCl.out j x hx)) ?own ⟨⟨_, HZ.out, World.ownsRow_nil _ _ _ _⟩, HV.out⟩
    (fun x => { tmps := #[.slice none 0 0, .func (.func 80) #[] #[ptr Bb], ptr sb, undef, .slice none 0 0, ptr x, .func (.func 80) #[] #[ptr Bb], ptr x, undef, undef, undef, undef, undef], defers := [] }) ?assign ?body ?done
  case own =>
    rintro s A A' q ⟨⟨u, hx, hr⟩, hb⟩ hgr h1 h2
    rw [sV] at h1 h2
    refine ⟨⟨u, (hgr.block sb (block_lt hx) (by simp; omega)).trans hx, hr.kept hgr ?_⟩, hb.grown hgr (by have := hb.size; omega) (fun k e => by cases e; omega)⟩
    rcases hr.2 with ⟨rfl, _⟩ | ⟨g', cap', cur, rfl, hbase, _⟩
    · exact .inl rfl
    · right; simp [Value.ownBlock]; omega
  case assign =>
    intro l x W K hK
    gi_wp2
    exact hK
  case body =>
    rintro l pre x W ⟨⟨u, hx, hr⟩, hb⟩ hpre hlt
    rw [sV] at hlt ⊢
    have hpl : pre.length + 1 ≤ xs.length := by
      have h1 := hpre.length_le
      simpa using h1
    obtain ⟨g6, cap6, w6, hrun, hown, hlie, hgr, hb6⟩ := append_pn hr x (by omega) (by omega)
    have hF6 : Fr (fun k => u.ownBlock = some k) W w6 := ⟨hgr.os, hgr.tape, hgr.output, hgr.size, fun j hj hne => hgr.block j hj (fun e => hne e.symm)⟩
    have hur : ∀ k, u.ownBlock = some k → sb + 3 ≤ k := fun k hk => (hr.lt k hk).1
    have hx6 := (hF6.block sb (block_lt hx) (fun e => by have := hur _ e; omega)).trans hx
    have c2 := cell_of_row _ _ 0 _ _ _ hx
    have c6 := cell_of_row _ _ 0 _ _ _ hx6
    have f6 := frozen_new hx6 0
    simp at c2 c6
    have g6n : sb + 3 ≤ g6 := by
      rcases hlie with e | e
      · exact hur _ e
      · omega
    have HR := hidIn hrun
    have HO := hidIn hown
    have HX6 := hidIn hx6
    have HF6 := hidIn hF6
    have HU := hidIn hur
    have HBl := hidIn hb
    obtain ⟨ua, uc, rfl⟩ := row_shape hr
    clear hrun hown hlie hgr hb6 hF6 hx6 hx hr hb hur hpre
    gi_wp2_with (refine lIn_append rfl _ _ 111 rfl HR.out ?_)
    have hset : ∀ j, j ≠ sb → (w6.setCell ⟨sb, 0, none⟩ (.slice (some ⟨g6, 0, none⟩) (pre.length + 1) cap6)).heap[j]? = w6.heap[j]? := fun j e1 => Below.heap_setCell w6 ⟨sb, 0, none⟩ _ j e1
    have s6 := HF6.out.size
    refine ⟨⟨(hset _ (by omega)).trans (HF6.out.block _ (by omega) (fun e => by have := HU.out _ e; omega)), (hset _ (by omega)).trans (HF6.out.block _ (by omega) (fun e => by have := HU.out _ e; omega)), by simp; exact s6⟩, ⟨_, heap_setCell_same w6 sb 0 _ _ _ HX6.out, ?_⟩, ?_⟩
    · rw [List.length_append]
      exact row_fr (S := fun k => k = sb) HO.out ((Fr.refl (fun k => k = sb) w6).set (p := ⟨sb, 0, none⟩) rfl _) (fun j hj e => by simp [Value.ownBlock] at hj; omega)
    · have hb7 : Below sb W w6 := HF6.out.below (by omega) (fun k hk => by have := HU.out _ hk; omega)
      exact (HBl.out.trans hb7).setCell (p := ⟨sb, 0, none⟩) (Nat.le_refl _) _
  case done =>
    rintro D W hD ⟨⟨u, hx, hr⟩, hb⟩ hK
    rw [sV] at hD
    have c2 := cell_of_row _ _ 0 _ _ _ hx
    simp at c2
    have HR := hidIn hr
    obtain ⟨ua, uc, rfl⟩ := row_shape hr
    clear hr hx
    gi_wp2
    refine ⟨by simp, .inl ⟨_, _, rfl, run_takeDeferred hK, ?_⟩⟩
    have hgw := grownBy_putObj' W D (.deferred none)
    have hFD : Fr (fun k => k = D) W (W.putObj D (.deferred none)) := ⟨hgw.os, hgw.tape, hgw.output, hgw.size, fun k hk hs => hgw.block k hk (fun e => hs (by cases e; rfl))⟩
    refine ⟨_, results_tmp rfl _ _ _, ⟨_, rfl, row_low (row_fr HR.out hFD (fun j hj e => ?_)) (by omega)⟩, hb.trans (hFD.below (by have := hb.size; omega) (fun k hk => by omega))⟩
    obtain ⟨cur, h1⟩ := row_ty HR.out hj
    rw [e, hK] at h1
    cases h1
set_option maxRecDepth 100000 in
theorem collect_ok {w : World} {Bb g : Nat} {ad : Option Addr} {cap : Nat} {xs : List Nat} (hB : w.heap[Bb]? = some (.cells #[.slice ad xs.length cap] 111)) (hg : 0 < xs.length → ad = some ⟨g, 0, none⟩) (hlen : xs.length ≤ 100000) (hcl : ∀ j x, xs[j]? = some x → w.cell? ⟨g, j, none⟩ = some (ptr x)) (hgl : g < w.heap.size) :
    Calls Try.prog 78 #[.func (.func 80) #[] #[ptr Bb]] w fun e w' => (∃ v', e = .returned v' ∧ w'.ownsRow w.heap.size 110 1 v' xs.length (fl pn xs)) ∧ Below w.heap.size w w' := by
  have HA := hidIn (appendSeq_ok hB hg hlen hcl hgl)
  clear hB hg hcl
  go_enter Try.func78, Try.ntmps78
  go_wp2_with fail
  refine HA.out.mono ?_
  rintro e w1 ⟨⟨v', rfl, hr⟩, hb⟩
  have HR := hidIn hr
  have HB := hidIn hb
  clear hr hb
  go_wp2
  go_ret
  exact ⟨⟨_, rfl, HR.out⟩, HB.out⟩
end Go.Proofs.Ytkhfpcnmnnboeaa.Ca.A
