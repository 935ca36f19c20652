/- A record's copy. -/
import Derived.Test.YteaaoipipjkgnaaN0
import Derived.Laws.CopyRow
import Derived.Laws.MakeOwn
namespace Go.Proofs.Yteaaoipipjkgnaa
open Go.RowKit Go.Maps

theorem l_copy {P : Program} {ops : Array Oper} {rest : List Oper} {o : Oper} {a : Act} {w w' : World} {v' : Value} {Q : Exit → Act → World → Prop}
    (hg : o.guard = none) (s x : Operand) (t : TypeId) (hop : o.op = Op.call { callee := Callee.builtin Builtin.copy, args := #[s, x], argTypes := #[t, t] })
    (hrun : (Builtin.copy_ #[t, t] o.type #[a.eval s, a.eval x]).run P w = .ok v' w') (h : wpList P ops Q rest (a.put o.dst v') w') : wpList P ops Q (o :: rest) a w := by
  refine wpList_plain hg fun K hK => ?_
  unfold Oper.wp
  simp [execOp, hop, resolve, invoke, builtin, hrun, Result.andThen]
  exact hK _ _ h
theorem run_copy_all {P : Program} (w : World) (T ty elem : TypeId) (g n dCap sCap sz : Nat) (a : Addr) (cur : Array Value) (t : TypeId) (cs : List Value)
    (hu : P.underlying T = some (.slice elem)) (hs : (P.info? elem).map (·.size) = some sz)
    (hg : w.heap[g]? = some (.cells cur t (0, 0))) (hn : cs.length = n * sz)
    (hsrc : ∀ j v, cs[j]? = some v → w.cell? (a.add j) = some v) (hfit : cur.size = n * sz) (h1 : ∀ v ∈ cs, v.oneCell' = true) :
    (Builtin.copy_ #[T, T] ty #[.slice (some ⟨g, 0, none⟩) n dCap, .slice (some a) n sCap]).run P w = .ok (goInt n) (w.setRow g cs.toArray) := by
  have hl := run_loadCells_list (P := P) w a cs hsrc
  have hst := run_storeCells_at P g 0 t cs 0 cur w hg (by simp; omega) h1
  have hcs : (cur.toList.take (0 + 0) ++ cs ++ cur.toList.drop (0 + 0 + cs.length)) = cs := by
    simp
    omega
  rw [hcs] at hst
  cases hq : P.info? elem with
  | none => simp [hq] at hs
  | some i =>
    have hi : i.size = sz := by simpa [hq] using hs
    simp [Builtin.copy_, run_underlying hu, Builtin.lenOf, Builtin.firstCells, sizeOf, typeInfo, hq, hi, ← hn, hl, hst]
theorem alloc_setRow (w : World) (cur cs : Array Value) (t : TypeId) : (w.alloc (.cells cur t)).setRow w.heap.size cs = w.alloc (.cells cs t) := by
  have h : (w.alloc (.cells cur t)).heap.modify w.heap.size (fun | .cells _ elem frozen => .cells cs elem frozen | o => o) = (w.alloc (.cells cs t)).heap := by
    apply Array.ext_getElem?
    intro i
    rw [Array.getElem?_modify]
    by_cases hi : i < w.heap.size
    · rw [if_neg (by omega), Below.heap_alloc _ _ _ hi, Below.heap_alloc _ _ _ hi]
    · by_cases he : i = w.heap.size
      · subst he
        rw [if_pos rfl, heap_alloc_last, heap_alloc_last]
        rfl
      · rw [if_neg (by omega), Array.getElem?_eq_none (by rw [World.size_alloc]; omega), Array.getElem?_eq_none (by rw [World.size_alloc]; omega)]
  exact congrArg (fun h => ({ (w.alloc (.cells cur t)) with heap := h } : World)) h
theorem infoAdj9 : (Try.prog.info? 98).map (fun i => (i.zero, i.size, i.bytes)) = some (some (.agg #[.int .i64 0, .int .i64 0]), 2, 16) := by kernel_rfl
theorem make_adj (n : Nat) (hn : n ≤ 1000000) : ∃ cur : Array Value, cur.size = n * 2 ∧ ∀ w, (Instr.makeSlice 36 (.int .i64 n) (.int .i64 n)).run Try.prog w = .ok (.slice (some ⟨w.heap.size, 0, none⟩) n n) (w.alloc (.cells cur 98)) := by
  obtain ⟨i, hi, hz, hs, hb⟩ := info_parts infoAdj9
  refine ⟨madeCells (Value.cells (.agg #[.int .i64 0, .int .i64 0])) (n * i.size), by rw [size_madeCells, hs], fun w => ?_⟩
  have := run_make (P := Try.prog) w 36 98 i _ Try.underlying36 hi hz .i64 .i64 n n (by omega) (Int.le_refl _) (by rw [hb]; omega) (by omega)
  simpa using this
/-- What a copy of a record is. -/
def CpAns (w w' : World) (r : Rc) (e : Ending) : Prop := ∃ a c, e = .returned (recV r (.slice a r.adjs.length c)) ∧ SlAt ac 2 w' (.slice a r.adjs.length c) r.adjs ∧ NilOk (.slice a r.adjs.length c) ∧ ∀ p, a = some p → ∃ g, p = ⟨g, 0, none⟩ ∧ w.heap.size ≤ g ∧ ∃ cur, w'.heap[g]? = some (.cells cur 98)
set_option maxRecDepth 100000 in
set_option maxHeartbeats 2000000 in
theorem copied_any {r : Rc} {va : Value} {w : World} (h : SlAt ac 2 w va r.adjs) (hl : r.adjs.length ≤ 1000) :
    Calls Try.prog 77 #[recV r va] w fun e w' => CpAns w w' r e ∧ Below w.heap.size w w' := by
  have H := hidIn h
  obtain ⟨a, cap, rfl, hq⟩ := h
  clear hq
  obtain ⟨ro, re, rs, rc, ri, l⟩ := r
  simp only at H hl ⊢
  obtain ⟨n, hn⟩ : ∃ n, l.length = n := ⟨_, rfl⟩
  rw [hn] at H hl ⊢
  have Hn := hidIn hn
  clear hn
  by_cases h0 : n = 0
  · subst h0
    go_enter Try.func77, Try.ntmps77
    go_wp2_with fail
    refine bodyPost_ret (v := recV ⟨ro, re, rs, rc, ri, l⟩ (.slice none 0 0)) (by simp [results, Try.results77, asAddr, Result.andThen, go_sem]) rfl ⟨⟨none, 0, by simp only [Hn.out], ?_, ?_, fun p hp => by cases hp⟩, ?_⟩
    · simp only [Hn.out]
      exact ⟨none, 0, by simp only [Hn.out], by rw [Hn.out]; omega, by rw [Hn.out]; omega, fun h => by rw [Hn.out] at h; omega⟩
    · simp only [Hn.out]
      exact .inr rfl
    · exact ((Below.refl _ w).alloc (Nat.le_refl _) _).alloc (by simp) _
  · have hpos : (0 : Int) < (n : Int) := by omega
    obtain ⟨cur, hcur, hmk⟩ := make_adj n (by omega)
    obtain ⟨a', cap', he, hl1, hcap, hat⟩ := H.out
    simp only [Value.slice.injEq, Hn.out] at he
    obtain ⟨rfl, _, rfl⟩ := he
    obtain ⟨bk, o, rfl, hbk, hcell⟩ := hat (by rw [Hn.out]; omega)
    have hfl : (fl ac l).length = n * 2 := by rw [fl_length (cs := ac) (sz := 2) (fun _ => rfl) l, Hn.out]
    have HR : Hid (∀ V, Below w.heap.size w V → (Builtin.copy_ #[36, 36] 3 #[.slice (some ⟨V.heap.size, 0, none⟩) n n, .slice (some ⟨bk, o, none⟩) n cap]).run Try.prog (V.alloc (.cells cur 98)) = .ok (goInt n) (V.alloc (.cells (fl ac l).toArray 98))) := hidIn fun V bV => by
      have bV2 := bV.alloc bV.size (.cells cur 98)
      have hrun := run_copy_all (P := Try.prog) (V.alloc (.cells cur 98)) 36 3 98 V.heap.size n n cap 2 ⟨bk, o, none⟩ cur 98 (fl ac l) Try.underlying36 (by kernel_rfl) (heap_alloc_last V _) hfl (fun j v hv => by
        obtain ⟨j', i, x, h1, h2, rfl, h4⟩ := fl_inv (sz := 2) (fun _ => rfl) l j v hv
        rw [Addr.add_mid, ← Nat.add_assoc]
        exact (bV2.cell (p := ⟨bk, o + j' * 2 + i, none⟩) hbk).trans (hcell j' x h1 i v h4)) hcur (fun v hv => by
        obtain ⟨x, _, hx⟩ := List.mem_flatMap.1 hv
        rcases List.mem_cons.1 hx with rfl | hx
        · rfl
        · rw [List.mem_singleton.1 hx]; rfl)
      rw [hrun, alloc_setRow]
    clear hat hbk hcell hcap hl1 hcur hfl
    obtain ⟨V, hV⟩ : ∃ V, (w.alloc (.cells #[.int .i64 ro, .int .u32 re, .int .u32 rs, .int .i64 rc, .bool ri, .slice (some ⟨w.heap.size + 1 + 1, 0, none⟩) n n] 38)).alloc (.cells #[.int .i64 0, .int .u32 0, .int .u32 0, .int .i64 0, .bool false, .slice none 0 0] 38) = V := ⟨_, rfl⟩
    have hrun := HR.out V (by rw [← hV]; exact ((Below.refl _ w).alloc (Nat.le_refl _) _).alloc (by simp) _)
    have hVs : V.heap.size = w.heap.size + 1 + 1 := by rw [← hV, World.size_alloc, World.size_alloc]
    rw [hVs, ← hV] at hrun
    have Hrun := hidIn hrun
    obtain ⟨F, hF⟩ : ∃ F, fl ac l = F := ⟨_, rfl⟩
    rw [hF] at Hrun
    have HF := hidIn hF
    clear hrun hVs hV HR hF
    go_enter Try.func77, Try.ntmps77
    go_wp2_with (refine l_copy rfl _ _ 36 rfl Hrun.out ?_)
    have hb : ∀ (A B C : Obj), Below w.heap.size w (((w.alloc A).alloc B).alloc C) := fun A B C => (((Below.refl _ w).alloc (Nat.le_refl _) _).alloc (by simp) _).alloc (by simp; omega) _
    refine bodyPost_ret (v := recV ⟨ro, re, rs, rc, ri, l⟩ (.slice (some ⟨w.heap.size + 1 + 1, 0, none⟩) n n)) (by simp [results, Try.results77, asAddr, Result.andThen, go_sem]) rfl ⟨⟨some ⟨w.heap.size + 1 + 1, 0, none⟩, n, by simp only [Hn.out], ?_, .inl ⟨_, _, _, rfl⟩, fun p hp => ?_⟩, hb _ _ _⟩
    · simp only [Hn.out]
      have h1 := heap_alloc_last ((w.alloc (.cells #[.int .i64 ro, .int .u32 re, .int .u32 rs, .int .i64 rc, .bool ri, .slice (some ⟨w.heap.size + 1 + 1, 0, none⟩) n n] 38)).alloc (.cells #[.int .i64 ro, .int .u32 re, .int .u32 rs, .int .i64 rc, .bool ri, .slice (some ⟨w.heap.size + 1 + 1, 0, none⟩) n n] 38)) (.cells F.toArray 98)
      rw [World.size_alloc, World.size_alloc, ← HF.out] at h1
      have h2 := slAt_block (cs := ac) (sz := 2) (l := l) (fun _ => rfl) (T := 98) h1 (by rw [Hn.out]; omega)
      rw [Hn.out] at h2
      rw [HF.out] at h2
      exact h2
    · cases hp
      refine ⟨_, rfl, by omega, F.toArray, ?_⟩
      have h1 := heap_alloc_last ((w.alloc (.cells #[.int .i64 ro, .int .u32 re, .int .u32 rs, .int .i64 rc, .bool ri, .slice (some ⟨w.heap.size + 1 + 1, 0, none⟩) n n] 38)).alloc (.cells #[.int .i64 ro, .int .u32 re, .int .u32 rs, .int .i64 rc, .bool ri, .slice (some ⟨w.heap.size + 1 + 1, 0, none⟩) n n] 38)) (.cells F.toArray 98)
      rw [World.size_alloc, World.size_alloc] at h1
      exact h1
end Go.Proofs.Yteaaoipipjkgnaa
