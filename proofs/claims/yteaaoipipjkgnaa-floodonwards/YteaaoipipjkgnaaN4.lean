/- All records of a store, and their stamps. -/
import Derived.Test.YteaaoipipjkgnaaN3
namespace Go.Proofs.Yteaaoipipjkgnaa
open Go.RowKit Go.Maps

/-- All records, rising. -/
def allL (f : Sf) (i : Nat) : List Rc := (List.range i).filterMap fun (j : Nat) => (f ((j : Int) + 1)).map (·.1)
theorem allL_succ (f : Sf) (i : Nat) : allL f (i + 1) = allL f i ++ (if (f ((i : Int) + 1)).isSome = true then [rOf (f ((i : Int) + 1))] else []) := by
  unfold allL
  rw [List.range_succ, List.filterMap_append]
  cases h : f ((i : Int) + 1) <;> simp [rOf, h]
/-- A record that was told: new memory. -/
def FrRec (w w' : World) (x : Rc × Value) : Prop := ∃ a c, x.2 = .slice a x.1.adjs.length c ∧ SlAt ac 2 w' x.2 x.1.adjs ∧ NilOk x.2 ∧ Fresh w w' a
theorem FrRec.fr {w w' w'' : World} {x : Rc × Value} {T : Nat → Prop} (h : FrRec w w' x) (hF : Fr T w' w'') (hT : ∀ g cur, w'.heap[g]? = some (.cells cur 98) → ¬ T g) : FrRec w w'' x := by
  obtain ⟨a, c, h1, h2, h3, h4⟩ := h
  refine ⟨a, c, h1, ?_, h3, fun p hp => ?_⟩
  · rw [h1] at h2 ⊢
    exact h2.fr hF (fun p hp => by
      obtain ⟨g, rfl, _, cur, h5⟩ := h4 p hp
      exact hT g cur h5)
  · obtain ⟨g, h5, h6, cur, h7⟩ := h4 p hp
    exact ⟨g, h5, h6, cur, (hF.block g (block_lt h7) (hT g cur h7)).trans h7⟩
theorem FrRec.keep {w w' w'' : World} {x : Rc × Value} (h : FrRec w w' x) (hb : Below w'.heap.size w' w'') : FrRec w w'' x := h.fr (T := fun _ => False) (Fr.of_below hb) (fun _ _ _ h => h)
theorem FrRec.one {w w' : World} {x : Rc × Value} (h : FrRec w w' x) : x.2.oneCell' = true := by
  obtain ⟨a, c, h1, _⟩ := h
  rw [h1]
  rfl
/-- One record more, and what it leaves. -/
theorem append_recF {W : World} {base k : Nat} {u : Value} {l : List (Rc × Value)} (hr : W.ownsRow base 38 6 u k (fl rcc l)) (x : Rc × Value) (hx : x.2.oneCell' = true) (hk : (k + 1) * 56 ≤ 140737488355328) (hbase : base ≤ W.heap.size) :
    ∃ g cap w6, (Builtin.append_ #[42, 42] 42 #[u, .slice (some ⟨W.heap.size, 0, none⟩) 1 1]).run Try.prog (W.alloc (.cells (rcc x).toArray 38)) = .ok (.slice (some ⟨g, 0, none⟩) (k + 1) cap) w6 ∧
      w6.ownsRow base 38 6 (.slice (some ⟨g, 0, none⟩) (k + 1) cap) (k + 1) (fl rcc (l ++ [x])) ∧ Below base W w6 ∧ Fr (fun j => ∃ cur, W.heap[j]? = some (.cells cur 38)) W w6 := by
  obtain ⟨i0, hi, hz0, hz1, hz2⟩ := info_parts infoRec
  obtain ⟨g, cap, w6, hrun, hown, hgrow, _, _⟩ := run_append_lies (P := Try.prog) (W.alloc (.cells (rcc x).toArray 38)) 42 42 base 38 i0 _ 6 56 Try.underlying42 hi hz0 hz1 hz2 rfl (by decide) u k (fl rcc l) (hr.alloc _) ⟨W.heap.size, 0, none⟩ 1 1 (rcc x) rfl (fun j v hv => by
    rw [Addr.add_mid, Nat.zero_add, cell_of_row _ _ j (rcc x).toArray 38 (0, 0) (heap_alloc_last W _)]
    simpa using hv) (by simp only [rcc, List.mem_cons, List.not_mem_nil, or_false]; rintro u (rfl | rfl | rfl | rfl | rfl | rfl) <;> first | rfl | exact hx) (by omega) (by unfold maxLen; omega) hk (by simp; omega) (W.heap.size + 1) (by simp)
  refine ⟨g, cap, w6, hrun, by rw [fl_snoc]; exact hown, ?_, ?_⟩
  · exact ((Below.refl _ W).alloc hbase _).grown hgrow (by simp; omega) (fun j e => by
      rcases hr.2 with ⟨rfl, _⟩ | ⟨g', cap', cur, rfl, hb, _⟩
      · simp [Value.ownBlock] at e
      · simp [Value.ownBlock] at e; omega)
  · refine ⟨hgrow.os, hgrow.tape, hgrow.output, Nat.le_trans (by simp) hgrow.size, fun j hj hn => ?_⟩
    rw [hgrow.block j (by simp; omega) (fun e => ?_), Below.heap_alloc _ _ _ hj]
    rcases hr.2 with ⟨rfl, _⟩ | ⟨g', cap', cur, rfl, hb, hh, _⟩
    · simp [Value.ownBlock] at e
    · simp [Value.ownBlock] at e
      subst e
      exact hn ⟨cur, hh⟩
theorem tyRA : (38 : TypeId) ≠ 98 := by decide
/-- What All answers. -/
def AllAns (w w' : World) (rs : List Rc) (e : Ending) : Prop := ∃ u L, e = .returned u ∧ w'.ownsRow w.heap.size 38 6 u L.length (fl rcc L) ∧ rcs L = rs ∧ ∀ x ∈ L, FrRec w w' x
set_option maxRecDepth 100000 in
set_option maxHeartbeats 2000000 in
theorem sall_any {S M n : Nat} {f : Sf} {w : World} (h : StAt w S M n f) :
    Calls Try.prog 44 #[ptr S] w fun e w' => AllAns w w' (allL f 24) e ∧ Below w.heap.size w w' := by
  have HS := hidIn h
  clear h
  go_enter Try.func44, Try.ntmps44
  go_wp2_with fail
  go_loopw [3, 4] (fun u i wr => ∃ k : Nat, k ≤ 24 ∧ i = .int .i64 ((k : Int) + 1) ∧ Hid (∃ L, wr.ownsRow w.heap.size 38 6 u L.length (fl rcc L) ∧ rcs L = allL f k ∧ (∀ x ∈ L, FrRec w wr x) ∧ Below w.heap.size w wr ∧ L.length ≤ k)) (fun _ i _ => 25 - (intOf i).toNat)
  case atStart => exact ⟨0, by omega, rfl, hidIn ⟨[], World.ownsRow_nil _ _ _ _, rfl, fun x hx => by simp at hx, Below.refl _ _, Nat.le_refl _⟩⟩
  case round =>
    obtain ⟨k, hk, rfl, HR⟩ := hrel
    by_cases hlt : k < 24
    · have hki : (k : Int) + 1 ≤ 24 := by omega
      obtain ⟨L, hrow, hrs, hfr, hbel, hLk⟩ := HR.out
      clear HR
      have HG := hidIn (sget_any (HS.out.keep hbel) (k := (k : Int) + 1) (wf9 (by omega)))
      have HN := hidIn (allL_succ f k)
      generalize f ((k : Int) + 1) = o at HG HN
      generalize hb : o.isSome = b at HN
      obtain ⟨ua, ucap, rfl⟩ := row_shape hrow
      have HRow := hidIn hrow
      have Hrs := hidIn hrs
      have Hfr := hidIn hfr
      have HBel := hidIn hbel
      have Hb := hidIn hb
      generalize hLl : L.length = Ll at HRow hLk ⊢
      have HLl := hidIn hLl
      clear hrow hrs hfr hbel hb hLl
      go_wp2_with fail
      refine HG.out.mono ?_
      rintro e w3 ⟨⟨a, c, rfl, hs, hn, hf⟩, hb3⟩
      rw [Hb.out]
      generalize hr : rOf o = r at hs hn HN ⊢
      have HFx : Hid (FrRec wr w3 (r, .slice a r.adjs.length c)) := hidIn ⟨a, c, rfl, hs, hn, hf⟩
      have Hb3 := hidIn hb3
      clear hs hn hf hb3 HG hr
      obtain ⟨ro, re, rs, rc, ri, l⟩ := r
      simp only at HFx HN ⊢
      generalize l.length = nl at HFx ⊢
      have bA : Below wr.heap.size wr (w3.alloc (.cells #[.int .i64 ro, .int .u32 re, .int .u32 rs, .int .i64 rc, .bool ri, .slice a nl c] 38)) := Hb3.out.alloc Hb3.out.size _
      have HFy : Hid (FrRec wr (w3.alloc (.cells #[.int .i64 ro, .int .u32 re, .int .u32 rs, .int .i64 rc, .bool ri, .slice a nl c] 38)) (⟨ro, re, rs, rc, ri, l⟩, .slice a nl c)) := hidIn (HFx.out.keep ((Below.refl _ w3).alloc (Nat.le_refl _) _))
      have HbA := hidIn bA
      clear bA
      cases b
      · go_wp2_with fail
        go_roundw
        case rel =>
          refine ⟨k + 1, by omega, by go_num, hidIn ⟨L, ?_, ?_, ?_, ?_, by have := HLl.out; omega⟩⟩
          · rw [HLl.out]; exact row_below HRow.out HbA.out (Nat.le_refl _)
          · rw [HN.out, Hrs.out]; simp
          · exact fun x hx => (Hfr.out x hx).keep HbA.out
          · exact HBel.out.trans (HbA.out.mono HBel.out.size)
        case measure => simp [intOf]; omega
      · obtain ⟨W4, hW4⟩ : ∃ W4, w3.alloc (.cells #[.int .i64 ro, .int .u32 re, .int .u32 rs, .int .i64 rc, .bool ri, .slice a nl c] 38) = W4 := ⟨_, rfl⟩
        have hX : W4.heap[w3.heap.size]? = some (.cells #[.int .i64 ro, .int .u32 re, .int .u32 rs, .int .i64 rc, .bool ri, .slice a nl c] 38) := by rw [← hW4]; exact heap_alloc_last w3 _
        rw [hW4] at HbA HFy
        have x0 := cell_of_row _ _ 0 _ _ _ hX
        have x1 := cell_of_row _ _ 1 _ _ _ hX
        have x2 := cell_of_row _ _ 2 _ _ _ hX
        have x3 := cell_of_row _ _ 3 _ _ _ hX
        have x4 := cell_of_row _ _ 4 _ _ _ hX
        have x5 := cell_of_row _ _ 5 _ _ _ hX
        simp at x0 x1 x2 x3 x4 x5
        obtain ⟨g, gcap, w6, hrun, hown, hb6, hF6⟩ := append_recF (row_below HRow.out HbA.out (Nat.le_refl _)) (⟨ro, re, rs, rc, ri, l⟩, .slice a nl c) rfl (by omega) (Nat.le_trans HBel.out.size HbA.out.size)
        have HRun := hidIn hrun
        have HW := hidIn hW4
        have HO : Hid (∃ L', w6.ownsRow w.heap.size 38 6 (.slice (some ⟨g, 0, none⟩) (Ll + 1) gcap) L'.length (fl rcc L') ∧ rcs L' = allL f (k + 1) ∧ (∀ x ∈ L', FrRec w w6 x) ∧ Below w.heap.size w w6 ∧ L'.length ≤ k + 1) := hidIn (by
          have hno : ∀ (g : Nat) (cur : Array Value), W4.heap[g]? = some (Obj.cells cur 98) → ¬ ∃ cur, W4.heap[g]? = some (Obj.cells cur 38) := fun g cur h ⟨cur', h'⟩ => by
            rw [h] at h'
            simp at h'
          have hLl2 : (L ++ [((⟨ro, re, rs, rc, ri, l⟩ : Rc), Value.slice a nl c)]).length = Ll + 1 := by rw [List.length_append, HLl.out]; rfl
          refine ⟨L ++ [(⟨ro, re, rs, rc, ri, l⟩, .slice a nl c)], by rw [hLl2]; exact hown, ?_, fun x hx => ?_, ?_, by rw [hLl2]; omega⟩
          · rw [HN.out, ← Hrs.out]; simp
          · rcases List.mem_append.1 hx with hx | hx
            · exact ((Hfr.out x hx).keep HbA.out).fr hF6 hno
            · rw [List.mem_singleton.1 hx]
              obtain ⟨a', c', h1, h2, h3, h4⟩ := HFy.out.fr hF6 hno
              exact ⟨a', c', h1, h2, h3, h4.old HBel.out.size⟩
          · exact (HBel.out.trans (HbA.out.mono HBel.out.size)).trans hb6)
        clear hrun hown hb6 hF6 hW4 hX HbA HFy HFx HN Hb3 HRow Hfr Hrs HBel
        go_upto_region 7 with fail
        rw [HW.out]
        clear HW
        go_wp2_with (refine l_append rfl _ _ 42 rfl HRun.out ?_)
        go_roundw
        case rel => exact ⟨k + 1, by omega, by go_num, HO⟩
        case measure => simp [intOf]; omega
    · have hki : ¬ ((k : Int) + 1 ≤ 24) := by omega
      obtain ⟨L, hrow, hrs, hfr, hbel, hLk⟩ := HR.out
      have HO : Hid (∀ v, u3 = v → AllAns w wr (allL f 24) (.returned v) ∧ Below w.heap.size w wr) := hidIn fun v hv => ⟨⟨v, L, rfl, by rw [← hv]; exact hrow, by rw [hrs, show k = 24 from by omega], hfr⟩, hbel⟩
      clear hrow hrs hfr hbel hLk HR
      go_wp2_with fail
      go_ret
      exact HO.out _ rfl
end Go.Proofs.Yteaaoipipjkgnaa
