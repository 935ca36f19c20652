/- telling, its closures. -/
import Derived.Test.YteaaoipipjkgnaaQ1
import Derived.Test.YteaaoipipjkgnaaNU
import Derived.Deep.RegionHeld
namespace Go.Proofs.Yteaaoipipjkgnaa
open Go.RowKit Go.Maps

theorem FlAt.fr {w w' : World} {P O S M n : Nat} {s : Fp} {f : Sf} {ob : Int → Option Nat} {T : Nat → Prop} (h : FlAt w P O S M n s f ob) (hF : Fr T w w') (hP : ¬ T P) (hS : ¬ T S) (hM : ¬ T M) (hO : ¬ T O) (hI : ∀ k b, ob k = some b → ¬ T b) (hA : ∀ j (cur : Array Value), w.heap[j]? = some (Obj.cells cur 98) → ¬ T j) : FlAt w' P O S M n s f ob :=
  ⟨(hF.block _ (block_lt h.p) hP).trans h.p, h.st.fr hF hS hM (fun k r u b hk hu => by obtain ⟨cur, hc⟩ := h.v k r u b hk hu; exact hA b cur hc), h.o.keep hF hO, fun k b hk => by
    obtain ⟨d, h1, h2⟩ := h.i k b hk
    exact ⟨d, h1, h2.keep hF (hI k b hk)⟩, h.j, h.d, h.m, h.ok, fun k r u b hk hu => by
    obtain ⟨cur, hc⟩ := h.v k r u b hk hu
    exact ⟨cur, (hF.block _ (block_lt hc) (hA b cur hc)).trans hc⟩⟩
/-- Blocks that are no map, no flood, no store, no neighbours. -/
theorem FlAt.frT {w w' : World} {P O S M n : Nat} {s : Fp} {f : Sf} {ob : Int → Option Nat} {T : Nat → Prop} (h : FlAt w P O S M n s f ob) (hF : Fr T w w') (hT : ∀ j, T j → j < w.heap.size → ∃ (cur : Array Value) (t : TypeId), w.heap[j]? = some (Obj.cells cur t) ∧ t ≠ 91 ∧ t ≠ 125 ∧ t ≠ 98) : FlAt w' P O S M n s f ob := by
  have hm : ∀ B, (∃ es cl, w.heap[B]? = some (Obj.map es cl)) → ¬ T B := fun B hB ht => by
    obtain ⟨es, cl, hb⟩ := hB
    obtain ⟨cur, t, hc, _⟩ := hT B ht (block_lt hb)
    rw [hb] at hc
    cases hc
  refine h.fr hF (fun ht => ?_) (fun ht => ?_) (hm M h.st.m.isMap) (hm O h.o.isMap) (fun k b hk => hm b (by obtain ⟨d, _, h2⟩ := h.i k b hk; exact h2.isMap)) (fun j cur hj ht => ?_)
  · obtain ⟨cur, t, hc, h1, _⟩ := hT P ht (block_lt h.p)
    rw [h.p] at hc
    simp only [Option.some.injEq, Obj.cells.injEq] at hc
    exact h1 hc.2.1.symm
  · obtain ⟨cur, t, hc, _, h1, _⟩ := hT S ht (block_lt h.st.p)
    rw [h.st.p] at hc
    simp only [Option.some.injEq, Obj.cells.injEq] at hc
    exact h1 hc.2.1.symm
  · obtain ⟨cur', t, hc, _, _, h1⟩ := hT j ht (block_lt hj)
    rw [hj] at hc
    simp only [Option.some.injEq, Obj.cells.injEq] at hc
    exact h1 hc.2.1.symm
theorem FlAt.neP {w : World} {P O S M n : Nat} {s : Fp} {f : Sf} {ob : Int → Option Nat} (h : FlAt w P O S M n s f ob) : S ≠ P ∧ M ≠ P ∧ O ≠ P ∧ (∀ k b, ob k = some b → b ≠ P) ∧ ∀ j (cur : Array Value), w.heap[j]? = some (Obj.cells cur 98) → j ≠ P := by
  refine ⟨fun e => ?_, fun e => ?_, fun e => ?_, fun k b hk e => ?_, fun j cur hj e => ?_⟩
  · have := h.st.p; rw [e, h.p] at this; simp at this
  · obtain ⟨es, cl, hm⟩ := h.st.m.isMap; rw [e, h.p] at hm; cases hm
  · obtain ⟨es, cl, hm⟩ := h.o.isMap; rw [e, h.p] at hm; cases hm
  · obtain ⟨d, _, h2⟩ := h.i k b hk; obtain ⟨es, cl, hm⟩ := h2.isMap; rw [e, h.p] at hm; cases hm
  · rw [e, h.p] at hj; simp at hj
theorem FlAt.neS {w : World} {P O S M n : Nat} {s : Fp} {f : Sf} {ob : Int → Option Nat} (h : FlAt w P O S M n s f ob) : S ≠ O ∧ (∀ k b, ob k = some b → b ≠ S) := by
  refine ⟨fun e => ?_, fun k b hk e => ?_⟩
  · obtain ⟨es, cl, hm⟩ := h.o.isMap; rw [← e, h.st.p] at hm; cases hm
  · obtain ⟨d, _, h2⟩ := h.i k b hk; obtain ⟨es, cl, hm⟩ := h2.isMap; rw [e, h.st.p] at hm; cases hm
/-- The tick that counts. -/
def Fp.tick (s : Fp) (now : Int) : Fp := { s with last := now }
theorem FpOk.tick {s : Fp} (h : FpOk s) {now : Int} (h1 : s.last ≤ now) (h2 : now ≤ 1099511627776) : FpOk (s.tick now) :=
  ⟨h.se, h.ep, h.ag, ⟨by have := h.la.1; show 0 ≤ now; omega, h2⟩, fun k d j t hk hd => by have := h.ti k d j t hk hd; show 0 ≤ t ∧ t ≤ now; omega⟩
/-- A send, as cells. -/
abbrev sdc (x : Int × Rc × Value) : List Value := .int .i64 x.1 :: rcc x.2
theorem infoSend : (Try.prog.info? 81).map (fun i => (i.zero, i.size, i.bytes)) = some (some (.agg #[.int .i64 0, .int .i64 0, .int .u32 0, .int .u32 0, .int .i64 0, .bool false, .slice none 0 0]), 7, 64) := by kernel_rfl
theorem append_snd {W : World} {base k : Nat} {u : Value} {l : List (Int × Rc × Value)} (hr : W.ownsRow base 81 7 u k (fl sdc l)) (x : Int × Rc × Value) (hx : x.2.2.oneCell' = true) (hk : (k + 1) * 64 ≤ 140737488355328) (hbase : base ≤ W.heap.size) :
    ∃ g cap w6, (Builtin.append_ #[61, 61] 61 #[u, .slice (some ⟨W.heap.size, 0, none⟩) 1 1]).run Try.prog (W.alloc (.cells (sdc x).toArray 81)) = .ok (.slice (some ⟨g, 0, none⟩) (k + 1) cap) w6 ∧
      w6.ownsRow base 81 7 (.slice (some ⟨g, 0, none⟩) (k + 1) cap) (k + 1) (fl sdc (l ++ [x])) ∧ Below base W w6 ∧ Fr (fun j => u.ownBlock = some j) W w6 := by
  obtain ⟨i0, hi, hz0, hz1, hz2⟩ := info_parts infoSend
  obtain ⟨g, cap, w6, hrun, hown, hgrow, _, _⟩ := run_append_lies (P := Try.prog) (W.alloc (.cells (sdc x).toArray 81)) 61 61 base 81 i0 _ 7 64 Try.underlying61 hi hz0 hz1 hz2 rfl (by decide) u k (fl sdc l) (hr.alloc _) ⟨W.heap.size, 0, none⟩ 1 1 (sdc x) rfl (fun j v hv => by
    rw [Addr.add_mid, Nat.zero_add, cell_of_row _ _ j (sdc x).toArray 81 (0, 0) (heap_alloc_last W _)]
    simpa using hv) (by simp only [sdc, rcc, List.mem_cons, List.not_mem_nil, or_false]; rintro u (rfl | rfl | rfl | rfl | rfl | rfl | rfl) <;> first | rfl | exact hx) (by omega) (by unfold maxLen; omega) hk (by simp; omega) (W.heap.size + 1) (by simp)
  refine ⟨g, cap, w6, hrun, by rw [fl_snoc]; exact hown, ?_, ?_⟩
  · exact ((Below.refl _ W).alloc hbase _).grown hgrow (by simp; omega) (fun j e => by
      rcases hr.2 with ⟨rfl, _⟩ | ⟨g', cap', cur, rfl, hb, _⟩
      · simp [Value.ownBlock] at e
      · simp [Value.ownBlock] at e; omega)
  · refine ⟨hgrow.os, hgrow.tape, hgrow.output, Nat.le_trans (by simp) hgrow.size, fun j hj hn => ?_⟩
    rw [hgrow.block j (by simp; omega) (fun e => hn e.symm), Below.heap_alloc _ _ _ hj]
abbrev oweF (B : Nat) : Value := .func (.func 79) #[] #[ptr (B + 1), ptr B, ptr (B + 2)]
abbrev toldF (B : Nat) : Value := .func (.func 80) #[] #[ptr (B + 2)]
/-- What has been told so far. -/
structure TlM (w0 w : World) (B P : Nat) (now : Int) (L : List (Int × Rc × Value)) : Prop where
  a : w.heap[B]? = some (.cells #[ptr P] 26)
  b : w.heap[B + 1]? = some (.cells #[.int .u64 now] 39)
  c : ∃ u, w.heap[B + 2]? = some (.cells #[u] 61) ∧ w.ownsRow (B + 3) 81 7 u L.length (fl sdc L)
  r : ∀ x ∈ L, FrRec w0 w x.2
  l : w0.heap.size ≤ B
theorem TlM.keep {w0 w w' : World} {B P : Nat} {now : Int} {L : List (Int × Rc × Value)} (h : TlM w0 w B P now L) (hb : Below w.heap.size w w') : TlM w0 w' B P now L := by
  obtain ⟨u, h1, h2⟩ := h.c
  exact ⟨(hb.block _ (block_lt h.a)).trans h.a, (hb.block _ (block_lt h.b)).trans h.b, ⟨u, (hb.block _ (block_lt h1)).trans h1, row_below h2 hb (Nat.le_refl _)⟩, fun x hx => (h.r x hx).keep hb, h.l⟩
theorem TlM.fr {w0 w w' : World} {B P : Nat} {now : Int} {L : List (Int × Rc × Value)} {T : Nat → Prop} (h : TlM w0 w B P now L) (hF : Fr T w w') (hT : ∀ j, T j → (∃ es cl, w.heap[j]? = some (Obj.map es cl)) ∨ ∃ cs : Array Value, w.heap[j]? = some (Obj.cells cs 91)) : TlM w0 w' B P now L := by
  obtain ⟨u, h1, h2⟩ := h.c
  have hno : ∀ j (cs : Array Value) t, w.heap[j]? = some (Obj.cells cs t) → t ≠ 91 → ¬ T j := fun j cs t hc hne ht => by
    rcases hT j ht with ⟨es, cl, hm⟩ | ⟨cs', hm⟩
    · rw [hc] at hm
      cases hm
    · rw [hc] at hm
      simp only [Option.some.injEq, Obj.cells.injEq] at hm
      exact hne hm.2.1
  refine ⟨(hF.block _ (block_lt h.a) (hno _ _ _ h.a (by decide))).trans h.a, (hF.block _ (block_lt h.b) (hno _ _ _ h.b (by decide))).trans h.b, ⟨u, (hF.block _ (block_lt h1) (hno _ _ _ h1 (by decide))).trans h1, row_fr h2 hF (fun j hj => ?_)⟩, fun x hx => (h.r x hx).fr hF (fun g cur hg => hno g _ _ hg (by decide)), h.l⟩
  obtain ⟨cur, hc⟩ := rowTy h2 hj
  exact hno j _ _ hc (by decide)
set_option maxRecDepth 100000 in
set_option maxHeartbeats 1000000 in
theorem telling_any {P O S M n : Nat} {s : Fp} {f : Sf} {ob : Int → Option Nat} {w : World} {now : Int} (h : FlAt w P O S M n s f ob) (h1 : s.last ≤ now) (h2 : now ≤ 1099511627776) :
    Calls Try.prog 49 #[ptr P, .int .u64 now] w fun e w' => e = .returned (.tuple #[oweF w.heap.size, toldF w.heap.size]) ∧ FlAt w' P O S M n (s.tick now) f ob ∧ TlM w w' w.heap.size P now [] ∧ Fr (fun j => j = P) w w' := by
  obtain ⟨W1, hW1⟩ : ∃ W1, (w.alloc (.cells #[ptr P] 26)).alloc (.cells #[.int .u64 now] 39) = W1 := ⟨_, rfl⟩
  have b1 : Below w.heap.size w W1 := by rw [← hW1]; exact ((Below.refl _ w).alloc (Nat.le_refl _) _).alloc (by simp) _
  have hA : W1.heap[w.heap.size]? = some (.cells #[ptr P] 26) := by rw [← hW1, Below.heap_alloc _ _ _ (by simp)]; exact heap_alloc_last w _
  have hB : W1.heap[w.heap.size + 1]? = some (.cells #[.int .u64 now] 39) := by
    rw [← hW1]
    have := heap_alloc_last (w.alloc (.cells #[ptr P] 26)) (.cells #[.int .u64 now] 39)
    rw [World.size_alloc] at this
    exact this
  have hs1 : W1.heap.size = w.heap.size + 2 := by rw [← hW1]; simp
  have hF1 := h.keep b1
  have hPl : P < w.heap.size := block_lt h.p
  have hne := hF1.neP
  have x3 := cell_of_row _ _ 3 _ _ _ hF1.p
  simp at x3
  have f3 := frozen_new hF1.p 3
  have a0 := cell_of_row _ _ 0 _ _ _ hA
  have a1 := cell_of_row _ _ 0 _ _ _ hB
  simp at a0 a1
  obtain ⟨W2, hW2⟩ : ∃ W2, W1.setCell ⟨P, 3, none⟩ (.int .u64 now) = W2 := ⟨_, rfl⟩
  have hF2 : Fr (fun j => j = P) W1 W2 := by rw [← hW2]; exact (Fr.refl (fun j => j = P) W1).set (p := ⟨P, 3, none⟩) rfl _
  have hs2 : W2.heap.size = w.heap.size + 2 := by rw [← hW2, ← hs1]; simp
  have hP2 : W2.heap[P]? = some (flO (s.tick now) S O) := by
    rw [← hW2]
    have := heap_setCell_same W1 P 3 _ _ (.int .u64 now) hF1.p
    simp at this
    exact this
  have hFl2 : FlAt W2 P O S M n (s.tick now) f ob :=
    ⟨hP2, hF1.st.fr hF2 hne.1 hne.2.1 (fun k r u b hk hu => by obtain ⟨cur, hc⟩ := hF1.v k r u b hk hu; exact hne.2.2.2.2 b cur hc), hF1.o.keep hF2 hne.2.2.1, fun k b hk => by
      obtain ⟨d, e1, e2⟩ := hF1.i k b hk
      exact ⟨d, e1, e2.keep hF2 (hne.2.2.2.1 k b hk)⟩, hF1.j, hF1.d, hF1.m, h.ok.tick h1 h2, fun k r u b hk hu => by
      obtain ⟨cur, hc⟩ := hF1.v k r u b hk hu
      exact ⟨cur, (hF2.block b (block_lt hc) (hne.2.2.2.2 b cur hc)).trans hc⟩⟩
  have b3 : Below W2.heap.size W2 (W2.alloc (.cells #[.slice none 0 0] 61)) := (Below.refl _ W2).alloc (Nat.le_refl _) _
  have HO : Hid (FlAt (W2.alloc (.cells #[.slice none 0 0] 61)) P O S M n (s.tick now) f ob ∧ TlM w (W2.alloc (.cells #[.slice none 0 0] 61)) w.heap.size P now [] ∧ Fr (fun j => j = P) w (W2.alloc (.cells #[.slice none 0 0] 61))) := hidIn (by
    refine ⟨hFl2.keep b3, ⟨?_, ?_, ⟨_, ?_, World.ownsRow_nil _ _ _ _⟩, fun x hx => by simp at hx, Nat.le_refl _⟩, ?_⟩
    · exact (b3.block _ (by omega)).trans ((hF2.block _ (by omega) (by omega)).trans hA)
    · exact (b3.block _ (by omega)).trans ((hF2.block _ (by omega) (by omega)).trans hB)
    · rw [← hs2]
      exact heap_alloc_last W2 _
    · have g1 : Fr (fun j => j = P) w W1 := Fr.of_below b1
      exact (g1.trans hF2).trans (Fr.of_below b3))
  have HW1 := hidIn hW1
  have HW2 := hidIn hW2
  clear hW1 b1 hA hB hF1 hne hW2 hF2 hP2 hFl2 b3 h h1 h2
  go_enter Try.func49, Try.ntmps49
  go_upto_region 1 with fail
  rw [HW1.out]
  clear HW1
  go_upto_region 2 with fail
  rw [HW2.out]
  clear HW2
  go_wp2_with fail
  go_returns
  exact ⟨rfl, HO.out⟩
/-- An origin is owed to a port now. -/
def Fp.owe (s : Fp) (p o now : Int) : Fp := { s with ow := fun k => if k = p then (s.ow p).map (fun d => putO d o now) else s.ow k }
theorem FpOk.owe {s : Fp} (h : FpOk s) {p o now : Int} (h1 : s.last = now) : FpOk (s.owe p o now) :=
  ⟨h.se, h.ep, h.ag, h.la, fun k d j t hk hd => by
    have hla := h.la
    unfold Fp.owe at hk
    simp only at hk
    show 0 ≤ t ∧ t ≤ s.last
    by_cases hkp : k = p
    · rw [if_pos hkp] at hk
      cases hq : s.ow p with
      | none => rw [hq] at hk; cases hk
      | some d0 =>
        rw [hq] at hk
        simp only [Option.map_some, Option.some.injEq] at hk
        rw [← hk] at hd
        unfold putO at hd
        by_cases hjo : j = o
        · rw [if_pos hjo] at hd
          cases hd
          omega
        · rw [if_neg hjo] at hd
          exact h.ti p d0 j t hq hd
    · rw [if_neg hkp] at hk
      exact h.ti k d j t hk hd⟩
/-- What is owed to a port, set anew in memory. -/
theorem FlAt.setI {w w' : World} {P O S M n : Nat} {s s' : Fp} {f : Sf} {ob : Int → Option Nat} {p : Int} {b : Nat} {d' : Int → Option Int} (h : FlAt w P O S M n s f ob) (hb : ob p = some b) (hF : Fr (fun j => j = b) w w') (hm : MpG zU w' b (fun j => (d' j).map (Value.int .u64))) (hs : s'.self = s.self ∧ s'.epoch = s.epoch ∧ s'.again = s.again ∧ s'.last = s.last) (hp : s'.ow p = some d') (ho : ∀ k, k ≠ p → s'.ow k = s.ow k) (hk : FpOk s') : FlAt w' P O S M n s' f ob := by
  have hne := h.neP
  obtain ⟨d, e1, e2⟩ := h.i p b hb
  have hA : ∀ j (cur : Array Value), w.heap[j]? = some (Obj.cells cur 98) → ¬ j = b := fun j cur hj e => by
    obtain ⟨es, cl, hmm⟩ := e2.isMap
    rw [← e, hj] at hmm
    cases hmm
  refine ⟨?_, h.st.fr hF (fun e => h.neS.2 p b hb e.symm) (fun e => (h.m.2 p b hb).1 e.symm) (fun k r u b' hk hu => by obtain ⟨cur, hc⟩ := h.v k r u b' hk hu; exact hA b' cur hc), h.o.keep hF (fun e => (h.m.2 p b hb).2 e.symm), fun k b' hk' => ?_, fun k hk' => ?_, h.d, h.m, hk, fun k r u b' hk' hu => ?_⟩
  · have := (hF.block P (block_lt h.p) (fun e => hne.2.2.2.1 p b hb e.symm)).trans h.p
    unfold flO at this ⊢
    rw [hs.1, hs.2.1, hs.2.2.1, hs.2.2.2]
    exact this
  · by_cases hkp : k = p
    · subst hkp
      rw [hb] at hk'
      cases hk'
      exact ⟨d', hp, hm⟩
    · obtain ⟨dk, g1, g2⟩ := h.i k b' hk'
      exact ⟨dk, by rw [ho k hkp]; exact g1, g2.keep hF (fun e => hkp (h.d k p b' hk' (by rw [e]; exact hb)))⟩
  · rw [ho k (fun e => by rw [e, hb] at hk'; cases hk')]
    exact h.j k hk'
  · obtain ⟨cur, hc⟩ := h.v k r u b' hk' hu
    exact ⟨cur, (hF.block b' (block_lt hc) (hA b' cur hc)).trans hc⟩
theorem map_put (d : Int → Option Int) (o now : Int) : (fun j => (putO d o now j).map (Value.int .u64)) = putO (fun j => (d j).map (Value.int .u64)) o (.int .u64 now) := by
  funext j
  unfold putO
  by_cases h : j = o
  · rw [if_pos h, if_pos h]; rfl
  · rw [if_neg h, if_neg h]
theorem map_del (d : Int → Option Int) (o : Int) : (fun j => (delO d o j).map (Value.int .u64)) = delO (fun j => (d j).map (Value.int .u64)) o := by
  funext j
  unfold delO
  by_cases h : j = o
  · rw [if_pos h, if_pos h]; rfl
  · rw [if_neg h, if_neg h]
/-- All that is no map, no list of sends, and not what is told, is as it was. -/
def OwFr (B : Nat) (w w' : World) : Prop := ∀ (j : Nat) (o : Obj), w.heap[j]? = some o → j ≠ B + 2 → (¬ ∃ es cl, o = Obj.map es cl) → (¬ ∃ cs : Array Value, o = Obj.cells cs 81) → w'.heap[j]? = some o
theorem OwFr.refl (B : Nat) (w : World) : OwFr B w w := fun _ _ h _ _ _ => h
theorem OwFr.trans {B : Nat} {a b c : World} (h : OwFr B a b) (k : OwFr B b c) : OwFr B a c := fun j o hj h1 h2 h3 => k j o (h j o hj h1 h2 h3) h1 h2 h3
theorem OwFr.of_below {B : Nat} {w w' : World} (h : Below w.heap.size w w') : OwFr B w w' := fun j _ hj _ _ _ => (h.block j (block_lt hj)).trans hj
theorem OwFr.of_fr {B : Nat} {w w' : World} {T : Nat → Prop} (hF : Fr T w w') (hT : ∀ j, T j → j < w.heap.size → j = B + 2 ∨ (∃ es cl, w.heap[j]? = some (Obj.map es cl)) ∨ ∃ cs : Array Value, w.heap[j]? = some (Obj.cells cs 81)) : OwFr B w w' := fun j _ hj h1 h2 h3 => (hF.block j (block_lt hj) (fun ht => by
  rcases hT j ht (block_lt hj) with h | ⟨es, cl, h⟩ | ⟨cs, h⟩
  · exact h1 h
  · rw [hj] at h; exact h2 ⟨es, cl, Option.some.inj h⟩
  · rw [hj] at h; exact h3 ⟨cs, Option.some.inj h⟩)).trans hj
set_option maxRecDepth 100000 in
set_option maxHeartbeats 2000000 in
theorem owe_any {P O S M n : Nat} {s : Fp} {f : Sf} {ob : Int → Option Nat} {w0 w : World} {B : Nat} {now : Int} {L : List (Int × Rc × Value)} (h : FlAt w P O S M n s f ob) (ht : TlM w0 w B P now L) {p o : Int} (hp : (s.ow p).isSome = true) (ho : 1 ≤ o ∧ o ≤ 24) (hnow : s.last = now) (hL : L.length ≤ 1000000) :
    Calls Try.prog 79 #[.int .i64 p, .int .i64 o, ptr (B + 1), ptr B, ptr (B + 2)] w fun e w' => (∃ x, e = .returned x) ∧ FlAt w' P O S M n (s.owe p o now) f ob ∧ (∃ v, TlM w0 w' B P now (L ++ [(p, rOf (f o), v)])) ∧ Fr (fun j => (∃ k, ob k = some j) ∨ B + 2 ≤ j) w w' ∧ OwFr B w w' := by
  have hp24 := h.rg hp
  obtain ⟨b, hb⟩ : ∃ b, ob p = some b := by rw [← h.up] at hp; exact Option.isSome_iff_exists.1 hp
  obtain ⟨d, hd, hm⟩ := h.i p b hb
  have hcm : ∀ j (cs : Array Value) t, w.heap[j]? = some (Obj.cells cs t) → ¬ j = b := fun j cs t hj e => by
    obtain ⟨es, cl, hmm⟩ := hm.isMap
    rw [← e, hj] at hmm
    cases hmm
  have HOf : Hid (∀ wq : World, Fr (fun j => j = b) w wq → OwFr B w wq) := hidIn fun wq hq => OwFr.of_fr hq (fun j hj _ => .inr (.inl (by subst hj; exact hm.isMap)))
  have HS0 : Hid (∀ wq : World, Fr (fun j => j = b) w wq → wq.cell? ⟨B, 0, none⟩ = some (ptr P) ∧ wq.cell? ⟨B + 1, 0, none⟩ = some (.int .u64 now) ∧ wq.cell? ⟨P, 5, none⟩ = some (.map (some O)) ∧ (Instr.lookup 89 (.map (some O)) (.int .i64 p) false).run Try.prog wq = .ok (.map (some b)) wq) := hidIn fun wq hq => by
    have e1 := (hq.block _ (block_lt ht.a) (hcm _ _ _ ht.a)).trans ht.a
    have e2 := (hq.block _ (block_lt ht.b) (hcm _ _ _ ht.b)).trans ht.b
    have e3 := (hq.block _ (block_lt h.p) (hcm _ _ _ h.p)).trans h.p
    have c1 := cell_of_row _ _ 0 _ _ _ e1
    have c2 := cell_of_row _ _ 0 _ _ _ e2
    have c3 := cell_of_row _ _ 5 _ _ _ e3
    simp at c1 c2 c3
    have hmo := h.o.keep hq (fun e => (h.m.2 p b hb).2 e.symm)
    have hl := hmo.look1 Try.underlying89 zeroMM (x := p) (wf9 (by omega))
    simp only [hb, Option.map_some, Option.getD_some] at hl
    exact ⟨c1, c2, c3, hl⟩
  have HRun : Hid (∃ w1', (Instr.mapUpdate 99 (.map (some b)) (.int .i64 o) (.int .u64 now)).run Try.prog w.drew = .ok () w1' ∧ FlAt w1' P O S M n (s.owe p o now) f ob ∧ TlM w0 w1' B P now L ∧ Fr (fun j => j = b) w w1') := hidIn (by
    have hdr : Below w.heap.size w w.drew := (Below.refl _ w).drew
    have hm' : MpG zU w.drew b (fun j => (d j).map (Value.int .u64)) := hm.keep (T := fun _ => False) (Fr.of_below hdr) (fun h => h)
    obtain ⟨w1, hrun, hm1, hF1⟩ := hm'.put Try.underlying99 ho.1 ho.2 (.int .u64 now)
    rw [← map_put] at hm1
    have hF2 : Fr (fun j => j = b) w w1 := (Fr.of_below hdr).trans hF1
    have g1 : (s.owe p o now).ow p = some (putO d o now) := by unfold Fp.owe; simp [hd]
    have g2 : ∀ k, k ≠ p → (s.owe p o now).ow k = s.ow k := fun k hk => by unfold Fp.owe; simp [hk]
    have g3 : FlAt w1 P O S M n (s.owe p o now) f ob := FlAt.setI (d' := putO d o now) h hb hF2 hm1 ⟨rfl, rfl, rfl, rfl⟩ g1 g2 (h.ok.owe hnow)
    have g4 : TlM w0 w1 B P now L := ht.fr hF2 (fun j hj => .inl (by subst hj; exact hm.isMap))
    exact ⟨w1, hrun, g3, g4, hF2⟩)
  have Hb := hidIn hb
  have Ho := hidIn ho
  have HBl : Hid (w0.heap.size ≤ B) := hidIn ht.l
  have HBw : Hid (B + 2 < w.heap.size) := hidIn (by obtain ⟨u, h1, _⟩ := ht.c; exact block_lt h1)
  have HnP := hidIn (fun k b' (hk : ob k = some b') => (h.m.2 k b' hk))
  clear h ht hp hd hm hnow hcm
  obtain ⟨w1, hrun, hfl, htl, hF1⟩ := HRun.out
  clear HRun
  have Hfl := hidIn hfl
  have Htl := hidIn htl
  have HF1 := hidIn hF1
  have HRu := hidIn hrun
  have x0 := cell_of_row _ _ 0 _ _ _ htl.a
  have x4 := cell_of_row _ _ 4 _ _ _ hfl.p
  simp at x0 x4
  have HG := hidIn (sget_any hfl.st (k := o) (wf9 (by have := Ho.out; omega)))
  have hrl : (rOf (f o)).adjs.length ≤ 1000 := by have := (hfl.st.u o).2.1; omega
  clear hfl htl hF1 hrun
  go_enter Try.func79, Try.ntmps79
  go_upto_region 0 with fail
  refine wp_region_held_drew (S := fun wx => Fr (fun j => j = b) w wx) (by kernel_rfl) ((Fr.refl _ w).drew) (fun hHeld => ?_)
  refine wpAnyH_take (i := 0) (v := ?_) rfl (by kernel_rfl) (by kernel_rfl) (by kernel_rfl) (fun _ _ _ h => h) (Or.inl ⟨by rfl, ?_⟩) (by assumption) ?_
  rotate_left
  · intro wq hSw
    obtain ⟨z0, _, _, _⟩ := HS0.out wq hSw
    clear hSw
    go_simp
    try (with_reducible rfl)
  refine wpAnyH_take (i := 1) (v := ?_) rfl (by kernel_rfl) (by kernel_rfl) (by kernel_rfl) (fun _ _ _ h => h) (Or.inl ⟨by rfl, ?_⟩) (by assumption) ?_
  rotate_left
  · intro wq hSw
    clear hSw
    go_simp
    try (with_reducible rfl)
  refine wpAnyH_take (i := 2) (v := ?_) rfl (by kernel_rfl) (by kernel_rfl) (by kernel_rfl) (fun _ _ _ h => h) (Or.inl ⟨by rfl, ?_⟩) (by assumption) ?_
  rotate_left
  · intro wq hSw
    clear hSw
    go_simp
    try (with_reducible rfl)
  refine wpAnyH_take (i := 3) (v := ?_) rfl (by kernel_rfl) (by kernel_rfl) (by kernel_rfl) (fun _ _ _ h => h) (Or.inl ⟨by rfl, ?_⟩) (by assumption) ?_
  rotate_left
  · intro wq hSw
    obtain ⟨_, _, z0, _⟩ := HS0.out wq hSw
    clear hSw
    go_simp
    try (with_reducible rfl)
  refine wpAnyH_take (i := 4) (v := ?_) rfl (by kernel_rfl) (by kernel_rfl) (by kernel_rfl) (fun _ _ _ h => h) (Or.inl ⟨by rfl, ?_⟩) (by assumption) ?_
  rotate_left
  · intro wq hSw
    clear hSw
    go_simp
    try (with_reducible rfl)
  refine wpAnyH_take (i := 5) (v := ?_) rfl (by kernel_rfl) (by kernel_rfl) (by kernel_rfl) (fun _ _ _ h => h) (Or.inl ⟨by rfl, ?_⟩) (by assumption) ?_
  rotate_left
  · intro wq hSw
    obtain ⟨_, _, _, z0⟩ := HS0.out wq hSw
    clear hSw
    go_simp
    try (with_reducible rfl)
  refine wpAnyH_take (i := 6) (v := ?_) rfl (by kernel_rfl) (by kernel_rfl) (by kernel_rfl) (fun _ _ _ h => h) (Or.inl ⟨by rfl, ?_⟩) (by assumption) ?_
  rotate_left
  · intro wq hSw
    clear hSw
    go_simp
    try (with_reducible rfl)
  refine wpAnyH_take (i := 7) (v := ?_) rfl (by kernel_rfl) (by kernel_rfl) (by kernel_rfl) (fun _ _ _ h => h) (Or.inl ⟨by rfl, ?_⟩) (by assumption) ?_
  rotate_left
  · intro wq hSw
    obtain ⟨_, z0, _, _⟩ := HS0.out wq hSw
    clear hSw
    go_simp
    try (with_reducible rfl)
  refine wpAnyH_ready (rs := [8]) (by kernel_rfl) (by simp) ?_
  refine AllReadyH.cons (i := 8) rfl ?_ AllReadyH.nil
  have hru := HRu.out
  go_simp
  clear hru
  intro K hK
  refine hK.out _ _ HF1.out (fun _ => ?_)
  clear hK K HRu hHeld HS0
  refine wpAnyH_done (by kernel_rfl) ?_ _
  go_wp2_with fail
  refine HG.out.mono ?_
  rintro e w2 ⟨⟨xa, xc, rfl, hsx, hnx, hfx⟩, hb2⟩
  have Hfl2 := hidIn (Hfl.out.keep hb2)
  have Htl2 := hidIn (Htl.out.keep hb2)
  have hfr : FrRec w0 w2 (rOf (f o), .slice xa (rOf (f o)).adjs.length xc) := ⟨xa, xc, rfl, hsx, hnx, fun q hq => by
    obtain ⟨g, e1, e2, e3⟩ := hfx q hq
    exact ⟨g, e1, by have := HBl.out; have := HBw.out; have := HF1.out.size; omega, e3⟩⟩
  have HFr := hidIn hfr
  have HO2 := hidIn ((HOf.out _ HF1.out).trans (OwFr.of_below (B := B) hb2))
  have HF2 : Hid (Fr (fun j => (∃ k, ob k = some j) ∨ B + 2 ≤ j) w w2) := hidIn ((HF1.out.mono fun k _ hk => .inl ⟨p, by rw [hk]; exact Hb.out⟩).trans (Fr.of_below hb2))
  have HBw2 : Hid (B + 2 < w2.heap.size) := hidIn (Nat.lt_of_lt_of_le HBw.out (Nat.le_trans HF1.out.size hb2.size))
  generalize (f o).isSome = xb
  obtain ⟨xr, hxr⟩ : ∃ xr, rOf (f o) = xr := ⟨_, rfl⟩
  rw [hxr] at HFr hrl ⊢
  obtain ⟨xo, xe, xs, xcl, xi, xl⟩ := xr
  have Hxr := hidIn hxr
  clear hxr
  simp only at HFr hrl ⊢
  obtain ⟨xn, hxn⟩ : ∃ xn, xl.length = xn := ⟨_, rfl⟩
  rw [hxn] at HFr hrl ⊢
  obtain ⟨W3, hW3⟩ : ∃ W3, w2.alloc (.cells #[.int .i64 xo, .int .u32 xe, .int .u32 xs, .int .i64 xcl, .bool xi, .slice xa xn xc] 38) = W3 := ⟨_, rfl⟩
  have b3 : Below w2.heap.size w2 W3 := by rw [← hW3]; exact (Below.refl _ w2).alloc (Nat.le_refl _) _
  have hX3 : W3.heap[w2.heap.size]? = some (.cells #[.int .i64 xo, .int .u32 xe, .int .u32 xs, .int .i64 xcl, .bool xi, .slice xa xn xc] 38) := by rw [← hW3]; exact heap_alloc_last w2 _
  have Hfl3 := hidIn (Hfl2.out.keep b3)
  have Htl3 := hidIn (Htl2.out.keep b3)
  have HFr3 := hidIn (HFr.out.keep b3)
  have HF3 := hidIn (HF2.out.trans (Fr.of_below b3))
  have HO3 := hidIn (HO2.out.trans (OwFr.of_below b3))
  have HBw3 : Hid (B + 2 < W3.heap.size) := hidIn (Nat.lt_of_lt_of_le HBw2.out b3.size)
  obtain ⟨b7, hb7⟩ : ∃ b7, w2.heap.size = b7 := ⟨_, rfl⟩
  rw [hb7] at hX3
  have z0 := cell_of_row _ _ 0 _ _ _ hX3
  have z1 := cell_of_row _ _ 1 _ _ _ hX3
  have z2 := cell_of_row _ _ 2 _ _ _ hX3
  have z3 := cell_of_row _ _ 3 _ _ _ hX3
  have z4 := cell_of_row _ _ 4 _ _ _ hX3
  have z5 := cell_of_row _ _ 5 _ _ _ hX3
  simp at z0 z1 z2 z3 z4 z5
  have HW := hidIn hW3
  clear hsx hnx hfx hb2 hfr hxn hW3 b3 hX3 HG x0 x4 Hfl Htl Hfl2 Htl2 HFr HF1 HF2 HBw2
  go_upto_region 2 with fail
  rw [HW.out]
  clear HW hb7
  obtain ⟨u, hc1, hc2⟩ := Htl3.out.c
  obtain ⟨ua, ucap, rfl⟩ := row_shape hc2
  have y0 := cell_of_row _ _ 0 _ _ _ hc1
  simp at y0
  obtain ⟨g, gcap, w6, hrun, hown, hb6, hF6⟩ := append_snd hc2 (p, ⟨xo, xe, xs, xcl, xi, xl⟩, .slice xa xn xc) rfl (by omega) (by have := HBw3.out; omega)
  have hT6 : ∀ j, (Value.slice ua L.length ucap).ownBlock = some j → ∃ cur : Array Value, W3.heap[j]? = some (Obj.cells cur 81) := fun j hj => rowTy hc2 hj
  have hne2 : ¬ (Value.slice ua L.length ucap).ownBlock = some (B + 2) := fun e => by have := (hc2.lt _ e).1; omega
  have hc6 := (hF6.block (B + 2) (block_lt hc1) hne2).trans hc1
  have y6 := cell_of_row _ _ 0 _ _ _ hc6
  simp at y6
  have f6 := frozen_new hc6 0
  have HRun := hidIn hrun
  obtain ⟨W7, hW7⟩ : ∃ W7, w6.setCell ⟨B + 2, 0, none⟩ (.slice (some ⟨g, 0, none⟩) (L.length + 1) gcap) = W7 := ⟨_, rfl⟩
  have hF7 : Fr (fun j => j = B + 2) w6 W7 := by rw [← hW7]; exact (Fr.refl (fun j => j = B + 2) w6).set (p := ⟨B + 2, 0, none⟩) rfl _
  have hc7 : W7.heap[B + 2]? = some (.cells #[.slice (some ⟨g, 0, none⟩) (L.length + 1) gcap] 61) := by
    rw [← hW7]
    have := heap_setCell_same w6 (B + 2) 0 _ _ (.slice (some ⟨g, 0, none⟩) (L.length + 1) gcap) hc6
    simpa using this
  have hF67 : Fr (fun j => j = B + 2 ∨ (Value.slice ua L.length ucap).ownBlock = some j) W3 W7 := (hF6.mono fun k _ hk => .inr hk).trans (hF7.mono fun k _ hk => .inl hk)
  have HO : Hid (FlAt W7 P O S M n (s.owe p o now) f ob ∧ (∃ v, TlM w0 W7 B P now (L ++ [(p, (⟨xo, xe, xs, xcl, xi, xl⟩ : Rc), v)])) ∧ Fr (fun j => (∃ k, ob k = some j) ∨ B + 2 ≤ j) w W7 ∧ OwFr B w W7) := hidIn (by
    have hT : ∀ j, (j = B + 2 ∨ (Value.slice ua L.length ucap).ownBlock = some j) → j < W3.heap.size → ∃ (cur : Array Value) (t : TypeId), W3.heap[j]? = some (Obj.cells cur t) ∧ t ≠ 91 ∧ t ≠ 125 ∧ t ≠ 98 := fun j hj _ => by
      rcases hj with rfl | hj
      · exact ⟨_, _, hc1, by decide, by decide, by decide⟩
      · obtain ⟨cur, hc⟩ := hT6 j hj
        exact ⟨_, _, hc, by decide, by decide, by decide⟩
    have hA : ∀ g cur, W3.heap[g]? = some (Obj.cells cur 98) → ¬ (g = B + 2 ∨ (Value.slice ua L.length ucap).ownBlock = some g) := fun g cur hg hj => by
      obtain ⟨cur', t, hc, _, _, ht⟩ := hT g hj (block_lt hg)
      rw [hg] at hc
      simp only [Option.some.injEq, Obj.cells.injEq] at hc
      exact ht hc.2.1.symm
    have hlen : (L ++ [(p, (⟨xo, xe, xs, xcl, xi, xl⟩ : Rc), Value.slice xa xn xc)]).length = L.length + 1 := by simp
    refine ⟨Hfl3.out.frT hF67 hT, ⟨.slice xa xn xc, ⟨?_, ?_, ⟨_, hc7, ?_⟩, fun x hx => ?_, Htl3.out.l⟩⟩, HF3.out.trans (hF67.mono fun k _ hk => .inr ?_), HO3.out.trans (OwFr.of_fr hF67 (fun j hj _ => by rcases hj with hj | hj; exact .inl hj; exact .inr (.inr (hT6 j hj))))⟩
    · exact (hF67.block B (block_lt Htl3.out.a) (by rintro (e | e); omega; have := (hc2.lt _ e).1; omega)).trans Htl3.out.a
    · exact (hF67.block (B + 1) (block_lt Htl3.out.b) (by rintro (e | e); omega; have := (hc2.lt _ e).1; omega)).trans Htl3.out.b
    · rw [hlen]
      exact row_fr hown hF7 (fun j hj e => by have := (hown.lt j hj).1; omega)
    · rcases List.mem_append.1 hx with hx | hx
      · exact (Htl3.out.r x hx).fr hF67 hA
      · rw [List.mem_singleton.1 hx]
        exact HFr3.out.fr hF67 hA
    · rcases hk with rfl | hk
      · exact Nat.le_refl _
      · have := (hc2.lt k hk).1; omega)
  have HW7 := hidIn hW7
  clear hc1 hc2 hrun hown hb6 hF6 hT6 hne2 hc6 hW7 hF7 hc7 hF67 Hfl3 Htl3 HFr3 HF3
  generalize L.length = nl at HRun y0 HW7
  go_wp2_with (refine l_append rfl _ _ 61 rfl HRun.out ?_)
  go_returns
  exact ⟨⟨_, rfl⟩, by rw [HW7.out, Hxr.out]; exact HO.out⟩
set_option maxRecDepth 100000 in
theorem told_any {w0 w : World} {B P : Nat} {now : Int} {L : List (Int × Rc × Value)} (h : TlM w0 w B P now L) :
    Calls Try.prog 80 #[ptr (B + 2)] w fun e w' => (∃ u, e = .returned u ∧ w.ownsRow (B + 3) 81 7 u L.length (fl sdc L)) ∧ w' = w := by
  obtain ⟨u, h1, h2⟩ := h.c
  have y0 := cell_of_row _ _ 0 _ _ _ h1
  simp at y0
  have H2 := hidIn h2
  obtain ⟨ua, ucap, rfl⟩ := row_shape h2
  generalize L.length = nl at H2 y0
  clear h h1 h2
  go_enter Try.func80, Try.ntmps80
  go_wp2_with fail
  go_ret
  exact ⟨⟨_, rfl, H2.out⟩, rfl⟩
end Go.Proofs.Yteaaoipipjkgnaa
