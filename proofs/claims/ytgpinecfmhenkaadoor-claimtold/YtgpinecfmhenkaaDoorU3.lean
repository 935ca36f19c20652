/- Claims in memory; who claims what, gathered. -/
import Derived.Test.YtgpinecfmhenkaaDoorU2
namespace Go.Proofs.YtgpinecfmhenkaaDoor
open Go.RowKit Go.Maps

theorem crowTy {w : World} {base k size : Nat} {e : TypeId} {u : Value} {xs : List Value} (h : w.ownsRow base e size u k xs) {j : Nat} (hj : u.ownBlock = some j) : ∃ cur, w.heap[j]? = some (Obj.cells cur e) := by
  rcases h.2 with ⟨rfl, _⟩ | ⟨g, cap, cur, rfl, _, hh, _⟩
  · simp [Value.ownBlock] at hj
  · simp [Value.ownBlock] at hj
    subst hj
    exact ⟨cur, hh⟩
/-- A claim, as cells: its id, where its routers lie. -/
abbrev clc (x : Int × List Int × Value) : List Value := [.int .i64 x.1, x.2.2]
abbrev cls (L : List (Int × List Int × Value)) : List (Int × List Int) := L.map fun x => (x.1, x.2.1)
theorem infoClaim : (Tryd.prog.info? 31).map (fun i => (i.zero, i.size, i.bytes)) = some (some (.agg #[.int .i64 0, .slice none 0 0]), 2, 32) := by kernel_rfl
theorem append_clm {W : World} {base k : Nat} {u : Value} {l : List (Int × List Int × Value)} (hr : W.ownsRow base 31 2 u k (fl clc l)) (x : Int × List Int × Value) (hx : x.2.2.oneCell' = true) (hk : (k + 1) * 32 ≤ 140737488355328) (hbase : base ≤ W.heap.size) :
    ∃ g cap w6, (Builtin.append_ #[22, 22] 22 #[u, .slice (some ⟨W.heap.size, 0, none⟩) 1 1]).run Tryd.prog (W.alloc (.cells (clc x).toArray 31)) = .ok (.slice (some ⟨g, 0, none⟩) (k + 1) cap) w6 ∧
      w6.ownsRow base 31 2 (.slice (some ⟨g, 0, none⟩) (k + 1) cap) (k + 1) (fl clc (l ++ [x])) ∧ Below base W w6 ∧ Fr (fun j => u.ownBlock = some j) W w6 := by
  obtain ⟨i0, hi, hz0, hz1, hz2⟩ := info_parts infoClaim
  obtain ⟨g, cap, w6, hrun, hown, hgrow, _, _⟩ := run_append_lies (P := Tryd.prog) (W.alloc (.cells (clc x).toArray 31)) 22 22 base 31 i0 _ 2 32 Tryd.underlying22 hi hz0 hz1 hz2 rfl (by decide) u k (fl clc l) (hr.alloc _) ⟨W.heap.size, 0, none⟩ 1 1 (clc x) rfl (fun j v hv => by
    rw [Addr.add_mid, Nat.zero_add, cell_of_row _ _ j (clc x).toArray 31 (0, 0) (heap_alloc_last W _)]
    simpa using hv) (by simp only [clc, List.mem_cons, List.not_mem_nil, or_false]; rintro u (rfl | rfl) <;> first | rfl | exact hx) (by omega) (by unfold maxLen; omega) hk (by simp; omega) (W.heap.size + 1) (by simp)
  refine ⟨g, cap, w6, hrun, by rw [fl_snoc]; exact hown, ?_, ?_⟩
  · exact ((Below.refl _ W).alloc hbase _).grown hgrow (by simp; omega) (fun j e => by
      rcases hr.2 with ⟨rfl, _⟩ | ⟨g', cap', cur, rfl, hb, _⟩
      · simp [Value.ownBlock] at e
      · simp [Value.ownBlock] at e; omega)
  · refine ⟨hgrow.os, hgrow.tape, hgrow.output, Nat.le_trans (by simp) hgrow.size, fun j hj hn => ?_⟩
    rw [hgrow.block j (by simp; omega) (fun e => hn e.symm), Below.heap_alloc _ _ _ hj]
/-- Claims that a call has made: all in memory of its own. -/
def ClsAns (w w' : World) (T : List (Int × List Int)) (u : Value) : Prop := ∃ L, w'.ownsRow w.heap.size 31 2 u L.length (fl clc L) ∧ cls L = T ∧ ∀ x ∈ L, w'.ownsRow w.heap.size 3 1 x.2.2 x.2.1.length (fl ic x.2.1)
/-- Claims handed in. -/
structure ClsAt (w : World) (u : Value) (L : List (Int × List Int × Value)) : Prop where
  r : SlAt clc 2 w u L
  a : ∀ x ∈ L, SlAt ic 1 w x.2.2 x.2.1 ∧ NilOk x.2.2
theorem ClsAt.keep {w w' : World} {u : Value} {L : List (Int × List Int × Value)} {B : Nat} (h : ClsAt w u L) (hb : Below B w w') (hB : w.heap.size ≤ B) : ClsAt w' u L := ⟨h.r.keep hb hB, fun x hx => ⟨(h.a x hx).1.keep hb hB, (h.a x hx).2⟩⟩
theorem row_nilOk {w : World} {base : Nat} {e : TypeId} {size k : Nat} {v : Value} {xs : List Value} (hr : w.ownsRow base e size v k xs) : NilOk v := by
  rcases hr.2 with ⟨rfl, rfl⟩ | ⟨g', cap', cur, rfl, _⟩
  · exact .inr rfl
  · exact .inl ⟨_, _, _, rfl⟩
theorem ClsAns.at {w w' : World} {T : List (Int × List Int)} {u : Value} (h : ClsAns w w' T u) : ∃ L, ClsAt w' u L ∧ cls L = T := by
  obtain ⟨L, h1, h2, h3⟩ := h
  exact ⟨L, ⟨slAt_of_row (cs := clc) (fun _ => rfl) h1 rfl, fun x hx => ⟨slAt_of_row (cs := ic) (fun _ => rfl) (h3 x hx) rfl, row_nilOk (h3 x hx)⟩⟩, h2⟩
theorem SlAt.clms {w : World} {v : Value} {l : List (Int × List Int × Value)} (h : SlAt clc 2 w v l) : ∃ a cap, v = .slice a l.length cap ∧ l.length ≤ 9223372036854775807 ∧ l.length ≤ cap ∧ (0 < l.length → ∃ bk o, a = some ⟨bk, o, none⟩ ∧ bk < w.heap.size ∧ ∀ j x, l[j]? = some x → w.cell? ⟨bk, o + j * 2, none⟩ = some (.int .i64 x.1) ∧ w.cell? ⟨bk, o + j * 2 + 1, none⟩ = some x.2.2) := by
  obtain ⟨a, cap, rfl, h0, h1, h2⟩ := h
  refine ⟨a, cap, rfl, h0, h1, fun hp => ?_⟩
  obtain ⟨bk, o, rfl, h3, h4⟩ := h2 hp
  exact ⟨bk, o, rfl, h3, fun j z hz => ⟨h4 j z hz 0 _ rfl, h4 j z hz 1 _ rfl⟩⟩
theorem zeroMet (w : World) : (zeroValue 67).run Tryd.prog w = .ok (.agg (mcl no1).toArray) w := by kernel_rfl
theorem makeZ (w : World) : (Instr.makeMap 68 none).run Tryd.prog w = .ok (.map (some w.heap.size)) (w.alloc (.map #[] 0)) := by kernel_rfl
/-- Numbers gathered by numbers. -/
structure GaM (w wr : World) (M n : Nat) (g : Int → List Int) (v : Int → Value) : Prop where
  m : MpZ wr M n (fun k => if (g k).isEmpty then none else some (v k))
  r : ∀ k, wr.ownsRow w.heap.size 3 1 (v k) (g k).length (fl ic (g k))
  z : ∀ k, g k = [] → v k = nilS
  d : ∀ k k' j, k ≠ k' → (v k).ownBlock = some j → (v k').ownBlock ≠ some j
  b : Below w.heap.size w wr
  l : w.heap.size ≤ M
theorem gaM_new {w W : World} (hb : Below w.heap.size w W) : GaM w (W.alloc (.map #[] 0)) W.heap.size 0 (fun _ => []) (fun _ => nilS) :=
  ⟨mpZ_new W, fun _ => World.ownsRow_nil _ _ _ _, fun _ _ => rfl, fun _ _ _ _ h => by simp [Value.ownBlock] at h, hb.alloc hb.size _, hb.size⟩
theorem GaM.fr {w wr w' : World} {M n : Nat} {g : Int → List Int} {v : Int → Value} {T : Nat → Prop} (h : GaM w wr M n g v) (hF : Fr T wr w') (hT : ∀ j, T j → j < wr.heap.size → ∃ (cur : Array Value) (t : TypeId), wr.heap[j]? = some (Obj.cells cur t) ∧ t ≠ 3) (hb : Below w.heap.size w w') : GaM w w' M n g v := by
  refine ⟨h.m.keep hF (fun ht => ?_), fun k => row_fr (h.r k) hF (fun j hj ht => ?_), h.z, h.d, hb, h.l⟩
  · obtain ⟨cur, t, h1, _⟩ := hT _ ht h.m.lt
    obtain ⟨es, cl, h2⟩ := h.m.isMap
    rw [h1] at h2
    cases h2
  · obtain ⟨cur, h1⟩ := crowTy (h.r k) hj
    obtain ⟨cur', t, h2, h3⟩ := hT _ ht (block_lt h1)
    rw [h1] at h2
    simp only [Option.some.injEq, Obj.cells.injEq] at h2
    exact h3 h2.2.1.symm
theorem GaM.keep {w wr w' : World} {M n : Nat} {g : Int → List Int} {v : Int → Value} (h : GaM w wr M n g v) (hb : Below wr.heap.size wr w') : GaM w w' M n g v :=
  h.fr (T := fun _ => False) (Fr.of_below hb) (fun _ h => h.elim) (h.b.trans (hb.mono h.b.size))
/-- A cell of another kind is turned. -/
theorem GaM.set {w wr : World} {M n : Nat} {g : Int → List Int} {v : Int → Value} (h : GaM w wr M n g v) {b : Nat} {cs : Array Value} {t : TypeId} (hb : wr.heap[b]? = some (Obj.cells cs t)) (ht : t ≠ 3) (hl : w.heap.size ≤ b) (k : Nat) (u : Value) : GaM w (wr.setCell ⟨b, k, none⟩ u) M n g v :=
  h.fr (T := fun j => j = b) ((Fr.refl (fun j => j = b) wr).set (p := ⟨b, k, none⟩) rfl _) (fun j hj _ => ⟨cs, t, by rw [hj]; exact hb, ht⟩) (h.b.setCell (p := ⟨b, k, none⟩) hl _)
theorem GaM.look {w wr : World} {M n : Nat} {g : Int → List Int} {v : Int → Value} (h : GaM w wr M n g v) {x : Int} (hx : (Lit.int .i64 x).wf = true) : (Instr.lookup 68 (.map (some M)) (.int .i64 x) false).run Tryd.prog wr = .ok (v x) wr := by
  rw [h.m.look1 hx]
  by_cases hg : g x = []
  · rw [h.z x hg, hg]; rfl
  · have : (g x).isEmpty = false := by simpa using hg
    rw [this]; rfl
def setF {β : Type} (g : Int → β) (c : Int) (y : β) : Int → β := fun k => if k = c then y else g k
theorem setF_same {β : Type} (g : Int → β) (c : Int) (y : β) : setF g c y c = y := by simp [setF]
theorem setF_other {β : Type} (g : Int → β) {c k : Int} (y : β) (h : k ≠ c) : setF g c y k = g k := by simp [setF, h]
theorem GaM.add {w W : World} {M n : Nat} {g : Int → List Int} {v : Int → Value} (h : GaM w W M n g v) (hn : n < 100000) {c : Int} (hc : (Lit.int .i64 c).wf = true) (hl : (g c).length < 100000) (x : Int) :
    ∃ a cap w6 w7, (Builtin.append_ #[29, 29] 29 #[v c, .slice (some ⟨W.heap.size, 0, none⟩) 1 1]).run Tryd.prog (W.alloc (.cells #[.int .i64 x] 3)) = .ok (.slice a ((g c).length + 1) cap) w6 ∧
      (Instr.mapUpdate 68 (.map (some M)) (.int .i64 c) (.slice a ((g c).length + 1) cap)).run Tryd.prog w6 = .ok () w7 ∧ GaM w w7 M (n + 1) (setF g c (g c ++ [x])) (setF v c (.slice a ((g c).length + 1) cap)) ∧ Below w.heap.size W w6 ∧ Below w.heap.size W w7 ∧ ∀ (j : Nat) (cs : Array Value) (t : TypeId), W.heap[j]? = some (Obj.cells cs t) → t ≠ 3 → w6.heap[j]? = some (Obj.cells cs t) ∧ w7.heap[j]? = some (Obj.cells cs t) := by
  obtain ⟨a, cap, w6, hrun, hown, hlie, hgr, hb6⟩ := append_int (h.r c) x (by omega) h.b.size
  have hF6 : Fr (fun j => (v c).ownBlock = some j) W w6 := ⟨hgr.os, hgr.tape, hgr.output, hgr.size, fun j hj hn => hgr.block j hj (fun e => hn e.symm)⟩
  have hty : ∀ j, (v c).ownBlock = some j → ∃ cur, W.heap[j]? = some (Obj.cells cur 3) := fun j hj => crowTy (h.r c) hj
  have hm6 : MpZ w6 M n (fun k => if (g k).isEmpty then none else some (v k)) := h.m.keep hF6 (fun e => by
    obtain ⟨cur, h1⟩ := hty _ e
    obtain ⟨es, cl, h2⟩ := h.m.isMap
    rw [h1] at h2
    cases h2)
  obtain ⟨w7, hput, hm7, hF7⟩ := hm6.put (by omega) hc (.slice (some ⟨a, 0, none⟩) ((g c).length + 1) cap)
  have hb7 : Below w.heap.size w6 w7 := hF7.below (by have := h.b.size; have := hb6.size; omega) (fun j hj => by have := h.l; omega)
  have hk7 : ∀ (j : Nat) (cs : Array Value) (t : TypeId), W.heap[j]? = some (Obj.cells cs t) → t ≠ 3 → w6.heap[j]? = some (Obj.cells cs t) ∧ w7.heap[j]? = some (Obj.cells cs t) := fun j cs t hj ht => by
    have h6 : w6.heap[j]? = some (Obj.cells cs t) := (hF6.block _ (block_lt hj) (fun e => by
      obtain ⟨cur, h1⟩ := hty _ e
      rw [hj] at h1
      simp only [Option.some.injEq, Obj.cells.injEq] at h1
      exact ht h1.2.1)).trans hj
    refine ⟨h6, (hF7.block _ (block_lt h6) (fun e => ?_)).trans h6⟩
    obtain ⟨es, cl, h2⟩ := hm6.isMap
    rw [← e, h6] at h2
    cases h2
  have hmap6 : ∀ (j : Nat) (cur : Array Value), w6.heap[j]? = some (Obj.cells cur 3) → ¬ j = M := fun j cur hj e => by
    obtain ⟨es, cl, h2⟩ := hm6.isMap
    rw [← e, hj] at h2
    cases h2
  refine ⟨_, cap, w6, w7, hrun, hput, ⟨?_, fun k => ?_, fun k hk => ?_, fun k k' j hkk hj => ?_, h.b.trans (hb6.trans hb7), h.l⟩, hb6, hb6.trans hb7, hk7⟩
  · obtain ⟨D, h1, h2⟩ := hm7
    refine ⟨D, h1, fun k hk => ?_⟩
    rw [(h2 k hk).1, (h2 k hk).2]
    dsimp only
    by_cases hkc : k = c
    · subst hkc
      rw [putO_same, setF_same, setF_same]
      have : (g k ++ [x]).isEmpty = false := by simp
      rw [this]
      exact ⟨rfl, rfl⟩
    · rw [putO_other _ _ hkc, setF_other _ _ hkc, setF_other _ _ hkc]
      exact ⟨rfl, rfl⟩
  · by_cases hkc : k = c
    · subst hkc
      rw [setF_same, setF_same, List.length_append, List.length_singleton]
      exact row_fr hown hF7 (fun j hj => by obtain ⟨cur, h1⟩ := crowTy hown hj; exact hmap6 j cur h1)
    · rw [setF_other _ _ hkc, setF_other _ _ hkc]
      have h6 := row_fr (h.r k) hF6 (fun j hj e => h.d k c j hkc hj e)
      exact row_fr h6 hF7 (fun j hj => by obtain ⟨cur, h1⟩ := crowTy h6 hj; exact hmap6 j cur h1)
  · by_cases hkc : k = c
    · subst hkc
      rw [setF_same] at hk
      simp at hk
    · rw [setF_other _ _ hkc] at hk ⊢
      exact h.z k hk
  · have hnew : ∀ i, i ≠ c → (v i).ownBlock ≠ some a := fun i hi e => by
      rcases hlie with h1 | h1
      · exact h.d i c a hi e h1
      · obtain ⟨cur, h2⟩ := crowTy (h.r i) e
        have := block_lt h2
        omega
    by_cases hkc : k = c
    · subst hkc
      rw [setF_same] at hj
      simp [Value.ownBlock] at hj
      subst hj
      rw [setF_other _ _ (fun e => hkk e.symm)]
      exact hnew k' (fun e => hkk e.symm)
    · rw [setF_other _ _ hkc] at hj
      by_cases hkc' : k' = c
      · subst hkc'
        rw [setF_same]
        intro e
        simp [Value.ownBlock] at e
        subst e
        exact hnew k hkc hj
      · rw [setF_other _ _ hkc']
        exact h.d k k' j hkk hj
end Go.Proofs.YtgpinecfmhenkaaDoor
