/- dandelionlaw01.BitsTells: the walk. -/
import Derived.Test.YtjpnbjfomikhaaaDoorRW
import Derived.Test.YtjpnbjfomikhaaaDoorE4
import Derived.Deep.RegionHeld3
import Derived.Deep.DeepCutAuto
namespace Go.Proofs.YtjpnbjfomikhaaaDoor
open Go.RowKit Go.Shelf

attribute [local go_sem] Oper.semAt_some

/-- The law's bit string and its result's cell stand. -/
structure TB (w V : World) (N : Nat) : Prop where
  v : HasBs V w.heap.size N
  r : Boxed V (w.heap.size + 1) 4 (.bool false)
  b : Below w.heap.size w V
  s : w.heap.size + 2 ≤ V.heap.size
theorem TB.grow {w V V' : World} {N : Nat} (h : TB w V N) (hb : Below V.heap.size V V') : TB w V' N :=
  ⟨h.v.keep hb h.v.lt, (hb.block _ h.r.lt).trans h.r, h.b.trans (hb.mono h.b.size), Nat.le_trans h.s hb.size⟩
theorem TB.alloc {w V : World} {N : Nat} (h : TB w V N) (o : Obj) : TB w (V.alloc o) N := h.grow ((Below.refl _ V).alloc (Nat.le_refl _) o)
abbrev World.putB4 (w : World) (b X : Nat) : World := (((w.setCell ⟨b, 0, none⟩ (.int .u64 (wd X 0))).setCell ⟨b, 1, none⟩ (.int .u64 (wd X 1))).setCell ⟨b, 2, none⟩ (.int .u64 (wd X 2))).setCell ⟨b, 3, none⟩ (.int .u64 (wd X 3))
theorem below_putB4 {B b : Nat} {w : World} (hB : B ≤ b) (X : Nat) : Below B w (World.putB4 w b X) :=
  ((((Below.refl _ w).setCell (p := ⟨b, 0, none⟩) hB _).setCell (p := ⟨b, 1, none⟩) hB _).setCell (p := ⟨b, 2, none⟩) hB _).setCell (p := ⟨b, 3, none⟩) hB _
theorem TB.put {w V : World} {N b : Nat} (h : TB w V N) (hb : w.heap.size + 2 ≤ b) (X : Nat) : TB w (World.putB4 V b X) N := by
  have hp := below_putB4 (w := V) hb X
  exact ⟨h.v.keep hp (by omega), (hp.block _ (by omega)).trans h.r, h.b.trans (hp.mono (by omega)), Nat.le_trans h.s hp.size⟩
theorem HasBs.putAll {w : World} {b N : Nat} (h : HasBs w b N) (X : Nat) : HasBs (World.putB4 w b X) b X := by
  obtain ⟨c0, c1, c2, c3, f0, f1, f2, f3, lt⟩ := h
  refine ⟨?_, ?_, ?_, ?_, ?_, ?_, ?_, ?_, ?_⟩
  all_goals simp [*, go_sem]
theorem HasBs.putOther {w : World} {b c N : Nat} (h : HasBs w b N) (hc : c ≠ b) (X : Nat) : HasBs (World.putB4 w c X) b N := by
  obtain ⟨c0, c1, c2, c3, f0, f1, f2, f3, lt⟩ := h
  refine ⟨?_, ?_, ?_, ?_, ?_, ?_, ?_, ?_, ?_⟩
  all_goals simp [*, go_sem]
theorem lIn_append {F : Fence} {n : Nat} {P : Program} {ops : Array Oper} {rest : List Oper} {o : Oper} {a : Act} {w w' : World} {v' : Value} {Q : Exit → Act → World → Prop}
    (hg : o.guard = none) (s x : Operand) (t : TypeId) (hop : o.op = Op.call { callee := Callee.builtin Builtin.append, args := #[s, x], argTypes := #[t, t] })
    (hrun : (Builtin.append_ #[t, t] o.type #[a.eval s, a.eval x]).run P w = .ok v' w') (h : wpListIn F n P ops Q rest (a.put o.dst v') w') : wpListIn F n P ops Q (o :: rest) a w := by
  refine wpListIn_plain hg fun K hK => ?_
  unfold Oper.wpIn
  refine ⟨by simp [Oper.about, hop, resolve, Target.leads, Sem.run_pure], ?_⟩
  rw [Oper.semAt_plain F _ _ (by rw [hop]; intro c hc'; cases hc')]
  simp [execOp, hop, resolve, invoke, builtin, hrun, Result.andThen]
  exact hK _ _ h
/-- Bits in blocks that stand. -/
theorem bitsAt_same {W W' : World} {base : Nat} {a : Option Addr} {l : List Nat} (h : BitsAt W base a l) (hs : W.heap.size ≤ W'.heap.size) (hk : ∀ k, k < W.heap.size → W'.heap[k]? = W.heap[k]?) : BitsAt W' base a l := by
  intro j m hj
  obtain ⟨g, ha, h1, h2, h3⟩ := h j m hj
  exact ⟨g, ha, h1, Nat.lt_of_lt_of_le h2 hs, by rw [← h3]; simp [World.cell?, hk g h2]⟩
abbrev bob (X : Nat) : Obj := .cells #[.int .u64 (wd X 0), .int .u64 (wd X 1), .int .u64 (wd X 2), .int .u64 (wd X 3)] 24

set_option maxRecDepth 100000 in
set_option maxHeartbeats 8000000 in
theorem tells_walk (N : Nat) (n : Int) (hN : N < 2 ^ 256) (w : World) (ht : Tabs w) :
    Calls Tryd.prog 3 #[bs N, .int .i64 n] w fun e w' => e = .returned (.bool true) ∧ Below w.heap.size w w' := by
  obtain ⟨r1, h11, h12⟩ := has_both N hN n
  obtain ⟨r2, h21, h22⟩ := lowest_both N hN
  obtain ⟨r3, h31, h32⟩ := count_both N
  obtain ⟨r4, h41, h42⟩ := below_both N hN n
  obtain ⟨r5, h51, h52⟩ := text_both N hN
  obtain ⟨M6, x6, h61, h62⟩ := with_both N n
  obtain ⟨M7, x7, h71, h72⟩ := without_both N hN n
  have H11 := hidIn h11
  have H12 := hidIn h12
  have H21 := hidIn h21
  have H22 := hidIn h22
  have H31 := hidIn h31
  have H32 := hidIn h32
  have H41 := hidIn h41
  have H42 := hidIn h42
  have H51 := hidIn h51
  have H52 := hidIn h52
  have H61 := hidIn h61
  have H62 := hidIn h62
  have H71 := hidIn h71
  have H72 := hidIn h72
  have HL := hidIn (list_bits N hN)
  have HRL := hidIn (rlist_slice N)
  have HN := hidIn hN
  have hlen : (lst N).length ≤ 256 := by have := cntTo_le 256 N; rw [← lst_length] at this; exact this
  clear h11 h12 h21 h22 h31 h32 h41 h42 h51 h52 h61 h62 h71 h72 hN
  have q6 := eq_same M6
  have q7 := eq_same M7
  have d1 : (r1 != r1) = false := by simp
  have d2 : (r2 != r2) = false := by simp
  have d3 : (r3 != r3) = false := by simp
  have d4 : (r4 != r4) = false := by simp
  have d5 : (r5.toList != r5.toList) = false := by simp
  have i0 : TB w ((w.alloc (bob N)).alloc (.cells #[.bool false] 4)) N := by
    have hr := Boxed.new (w.alloc (bob N)) 4 (.bool false)
    rw [World.size_alloc] at hr
    exact ⟨(hasBs_new w N).keep (B := w.heap.size + 1) (by go_grown) (Nat.lt_succ_self _), hr, by go_grown, by simp⟩
  have ht0 := ht.keep i0.b
  have k0 := cell_regrown i0.v.c0
  have k1 := cell_regrown i0.v.c1
  have k2 := cell_regrown i0.v.c2
  have k3 := cell_regrown i0.v.c3
  unfold bs
  refine (callsIn_wide (n := 5)).1 ?_
  refine callsIn_of_wp_marks Tryd.func3 rfl trivial ?_ rfl
  simp only [Tryd.ntmps3, List.size_toArray, List.length_cons, List.length_nil, Nat.reduceAdd, Nat.reduceSub, Array.replicate_succ, Array.replicate_zero, List.push_toArray, List.append_toArray, List.nil_append, List.cons_append]
  refine wpIn_wide.2 ?_
  go_wp2_with fail
  refine wp_region_quiet_below (by kernel_rfl) (by kernel_rfl) ?_
  repeat (go_big_quiet_step (first
    | (go_at_call 5; exact Calls.regrown_of (H11.out _))
    | (go_at_call 6; exact Calls.regrown_of (H12.out _))
    | (go_at_call 7; exact Calls.regrown_of (H21.out _ (ht0.keep (below_regrown _ _ _))))
    | (go_at_call 8; exact Calls.regrown_of (H22.out _))
    | (go_at_call 9; exact Calls.regrown_of (H31.out _))
    | (go_at_call 10; exact Calls.regrown_of (H32.out _))
    | (go_at_call 11; exact Calls.regrown_of (H41.out _))
    | (go_at_call 12; exact Calls.regrown_of (H42.out _))
    | (go_at_call 13; exact Calls.regrown_of (H51.out _ (ht0.keep (below_regrown _ _ _))))
    | (go_at_call 14; exact Calls.regrown_of (H52.out _))))
  refine wpQuiet_nil ?_
  intro _ hw'
  obtain ⟨⟨dq, osq⟩, hw''⟩ := hw'
  subst hw''
  have i1 := i0.grow (below_regrown _ dq osq)
  generalize Go.Sort.grow (redrawn _ dq) osq = V1 at i1 ⊢
  clear k0 k1 k2 k3 d1 d2 d3 d4 d5 i0 ht0 H11 H12 H21 H22 H31 H32 H41 H42 H51 H52
  have c0 := i1.v.c0
  have c1 := i1.v.c1
  have c2 := i1.v.c2
  have c3 := i1.v.c3
  go_wp2_with fail
  refine (H61.out _).mono ?_
  rintro e V2 ⟨rfl, hb2⟩
  have i2 := (i1.grow hb2).alloc (bob M6)
  have n2 := hasBs_new V2 M6
  have z2 := (i1.grow hb2).s
  obtain ⟨xb, hxb⟩ : ∃ xb, xb = V2.heap.size := ⟨_, rfl⟩
  clear c0 c1 c2 c3
  have HA := hidIn (And.intro i2 (And.intro n2 z2))
  clear i1 hb2 H61 i2 n2 z2
  go_upto_region 4 with fail
  rw [← hxb] at HA ⊢
  generalize V2.alloc _ = V3 at HA ⊢
  clear hxb
  obtain ⟨i3, n3, z3⟩ := HA.out
  clear HA
  have c0 := i3.v.c0
  have c1 := i3.v.c1
  have c2 := i3.v.c2
  have c3 := i3.v.c3
  go_wp2_with fail
  refine (H62.out _).mono ?_
  rintro e V4 ⟨rfl, hb4⟩
  have i4 := (i3.grow hb4).alloc (bob M6)
  have n4 := (n3.keep hb4 n3.lt).grow (bob M6)
  have p4 := hasBs_new V4 M6
  have z4 : xb < V4.heap.size := (n3.keep hb4 n3.lt).lt
  obtain ⟨yb, hyb⟩ : ∃ yb, yb = V4.heap.size := ⟨_, rfl⟩
  clear c0 c1 c2 c3
  have HA := hidIn (And.intro i4 (And.intro n4 (And.intro p4 z4)))
  clear i3 n3 hb4 H62 i4 n4 p4 z4
  go_upto_region 5 with fail
  rw [← hyb] at HA ⊢
  generalize V4.alloc _ = V5 at HA ⊢
  clear hyb
  obtain ⟨i5, n5, p5, z5⟩ := HA.out
  clear HA
  have a0 := n5.c0
  have a1 := n5.c1
  have a2 := n5.c2
  have a3 := n5.c3
  have b0 := p5.c0
  have b1 := p5.c1
  have b2 := p5.c2
  have b3 := p5.c3
  go_upto_region 7 with fail
  clear a0 a1 a2 a3 b0 b1 b2 b3 q6
  have c0 := i5.v.c0
  have c1 := i5.v.c1
  have c2 := i5.v.c2
  have c3 := i5.v.c3
  go_wp2_with fail
  refine (H71.out _).mono ?_
  rintro e V6 ⟨rfl, hb6⟩
  have i6 := i5.grow hb6
  have n6 := n5.keep hb6 n5.lt
  have p6 := p5.keep hb6 p5.lt
  have i7 := i6.put z3 M7
  have n7 := n6.putAll M7
  have p7 := p6.putOther (show xb ≠ yb by omega) M7
  unfold World.putB4 at i7 n7 p7
  have HA := hidIn (And.intro i7 (And.intro n7 p7))
  obtain ⟨a0, a1, a2, a3, af0, af1, af2, af3, _⟩ := n6
  clear c0 c1 c2 c3
  clear i5 n5 p5 hb6 H71 i6 p6 i7 n7 p7
  go_upto_region 8 with fail
  generalize World.setCell _ _ _ = V7 at HA ⊢
  clear a0 a1 a2 a3 af0 af1 af2 af3
  obtain ⟨i7, n7, p7⟩ := HA.out
  clear HA
  have c0 := i7.v.c0
  have c1 := i7.v.c1
  have c2 := i7.v.c2
  have c3 := i7.v.c3
  go_wp2_with fail
  refine (H72.out _).mono ?_
  rintro e V8 ⟨rfl, hb8⟩
  have i8 := i7.grow hb8
  have n8 := n7.keep hb8 n7.lt
  have p8 := p7.keep hb8 p7.lt
  have i9 := i8.put (show w.heap.size + 2 ≤ yb by omega) M7
  have n9 := n8.putOther (show yb ≠ xb by omega) M7
  have p9 := p8.putAll M7
  unfold World.putB4 at i9 n9 p9
  have HA := hidIn (And.intro i9 (And.intro n9 p9))
  obtain ⟨a0, a1, a2, a3, af0, af1, af2, af3, _⟩ := p8
  clear c0 c1 c2 c3
  clear i7 n7 p7 hb8 H72 i8 n8 i9 n9 p9
  go_upto_region 9 with fail
  generalize World.setCell _ _ _ = V9 at HA ⊢
  clear a0 a1 a2 a3 af0 af1 af2 af3
  obtain ⟨i9, n9, p9⟩ := HA.out
  clear HA
  have a0 := n9.c0
  have a1 := n9.c1
  have a2 := n9.c2
  have a3 := n9.c3
  have b0 := p9.c0
  have b1 := p9.c1
  have b2 := p9.c2
  have b3 := p9.c3
  go_upto_region 11 with fail
  clear a0 a1 a2 a3 b0 b1 b2 b3 q7 n9 p9 z3 z5
  have c0 := i9.v.c0
  have c1 := i9.v.c1
  have c2 := i9.v.c2
  have c3 := i9.v.c3
  go_wp2_with fail
  refine (HRL.out _).mono ?_
  rintro e V10 ⟨wa, wcap, rfl, hat, hb10⟩
  obtain ⟨l, hl⟩ : ∃ l, lst N = l := ⟨_, rfl⟩
  rw [hl] at hat hlen ⊢
  have i10 := (i9.grow hb10).alloc (.cells #[.slice wa l.length wcap] 31)
  have x10 := Boxed.new V10 31 (.slice wa l.length wcap)
  have at10 : BitsAt (V10.alloc (.cells #[.slice wa l.length wcap] 31)) 0 wa l := fun j m hj => by
    obtain ⟨g, h1, _, h3, h4⟩ := (hat.keep ((Below.refl _ V10).alloc (Nat.le_refl _) (.cells #[.slice wa l.length wcap] 31)) (Nat.le_refl _)) j m hj
    exact ⟨g, h1, Nat.zero_le _, h3, h4⟩
  obtain ⟨wb, hwb⟩ : ∃ wb, wb = V10.heap.size := ⟨_, rfl⟩
  have HLE := hidIn hl
  rw [hl] at HL
  clear hl
  clear c0 c1 c2 c3
  have HA := hidIn (And.intro i10 (And.intro x10 at10))
  clear i9 hb10 HRL hat i10 x10 at10
  go_upto_region 12 with fail
  rw [← hwb] at HA ⊢
  generalize V10.alloc _ = V11 at HA ⊢
  clear hwb
  obtain ⟨i11, x11, at11⟩ := HA.out
  clear HA
  have bd : Below V11.heap.size V11 V11.drew := Below.drew (Below.refl _ V11)
  refine wp_region_noPanic ?_
  refine wp_region_held_drew (S := fun wx => TB w wx N ∧ Boxed wx wb 31 (.slice wa l.length wcap) ∧ BitsAt wx 0 wa l) (by kernel_rfl) ⟨i11.grow bd, (bd.block _ x11.lt).trans x11, at11.keep bd (Nat.le_refl _)⟩ (fun hHeld => ?_)
  have hh : TB w V11.drew N ∧ Boxed V11.drew wb 31 (.slice wa l.length wcap) ∧ BitsAt V11.drew 0 wa l := hHeld
  clear i11 x11 at11 bd
  refine wpAnyH_take (i := 0) (v := ?_) rfl (by kernel_rfl) (by kernel_rfl) (by kernel_rfl) (fun _ _ _ h => h) (Or.inl ⟨by rfl, ?_⟩) (by assumption) ?_
  rotate_left
  · intro wq hSw
    have q0 := hSw.1.v.c0
    have q1 := hSw.1.v.c1
    have q2 := hSw.1.v.c2
    have q3 := hSw.1.v.c3
    go_simp
    try (with_reducible rfl)
  refine wpAnyH_take (i := 2) (v := ?_) rfl (by kernel_rfl) (by kernel_rfl) (by kernel_rfl) (fun _ _ _ h => h) (Or.inl ⟨by rfl, ?_⟩) (by assumption) ?_
  rotate_left
  · intro wq hSw
    have q0 := hSw.2.1.cell
    go_simp
    try (with_reducible rfl)
  refine wpAnyH_ready (rs := [1]) (by kernel_rfl) (by simp) ?_
  refine AllReadyH.cons rfl (fun K hK => ?_) AllReadyH.nil
  go_simp
  refine (HL.out _ (ht.keep hh.1.b)).mono ?_
  rintro e V12 ⟨⟨la, lcap, rfl, hla⟩, hb12⟩
  have hg : TB w V12 N ∧ Boxed V12 wb 31 (.slice wa l.length wcap) ∧ BitsAt V12 0 wa l := ⟨hh.1.grow hb12, (hb12.block _ hh.2.1.lt).trans hh.2.1, hh.2.2.keep hb12 (Nat.le_refl _)⟩
  refine hK.out _ _ hg (fun _ => ?_)
  clear hK K
  refine wpAnyH_ready (rs := [3]) (by kernel_rfl) (by simp) ?_
  refine AllReadyH.cons rfl (fun K hK => ?_) AllReadyH.nil
  go_simp
  refine (same_bits hlen hla hg.2.2).mono ?_
  rintro e V13 ⟨rfl, hb13⟩
  have hf : TB w V13 N ∧ Boxed V13 wb 31 (.slice wa l.length wcap) ∧ BitsAt V13 0 wa l := ⟨hg.1.grow hb13, (hb13.block _ hg.2.1.lt).trans hg.2.1, hg.2.2.keep hb13 (Nat.le_refl _)⟩
  refine hK.out _ _ hf (fun _ => ?_)
  clear hK K
  refine wpAnyH_take (i := 4) (v := ?_) rfl (by kernel_rfl) (by kernel_rfl) (by kernel_rfl) (fun _ _ _ h => h) (Or.inl ⟨by rfl, ?_⟩) (by assumption) ?_
  rotate_left
  · intro wq hSw
    clear hSw
    go_simp
    try (with_reducible rfl)
  refine wpAnyH_done (by kernel_rfl) ?_ _
  refine NoPanic.normal ?_
  obtain ⟨i13, x13, at13⟩ := hf
  clear hg hh hb12 hb13 hla HL
  have c0 := i13.v.c0
  have c1 := i13.v.c1
  have c2 := i13.v.c2
  have c3 := i13.v.c3
  go_wp2_with fail
  refine (each_any N _).mono ?_
  rintro e V14 ⟨rfl, hw⟩
  rw [hw]
  clear hw V14
  clear c0 c1 c2 c3
  have hnil : ∀ wq : World, (binOp BinOp.eql 35 (.func (.func 39) #[] #[.pointer (some ⟨V13.heap.size, 0, none⟩)]) Value.nilFunc).run Tryd.prog wq = .ok (.bool false) wq := fun wq => by kernel_rfl
  go_wp2_with fail
  rename_i K hKK
  have hE : ∃ eb, eb = V13.heap.size := ⟨_, rfl⟩
  obtain ⟨eb, hE⟩ := hE
  have sV : ((V13.alloc (bob N)).alloc (.cells #[.slice none 0 0] 31)).heap.size = eb + 2 := by rw [hE]; simp
  have nV : HasBs ((V13.alloc (bob N)).alloc (.cells #[.slice none 0 0] 31)) eb N := by rw [hE]; exact (hasBs_new V13 N).grow _
  have tV : Boxed ((V13.alloc (bob N)).alloc (.cells #[.slice none 0 0] 31)) (eb + 1) 31 (.slice none 0 0) := by
    have := Boxed.new (V13.alloc (bob N)) 31 (.slice none 0 0)
    rw [World.size_alloc, ← hE] at this
    exact this
  have iV := (i13.alloc (bob N)).alloc (.cells #[.slice none 0 0] 31)
  have xV : Boxed ((V13.alloc (bob N)).alloc (.cells #[.slice none 0 0] 31)) wb 31 (.slice wa l.length wcap) := (x13.alloc _).alloc _
  have hwb : wb < eb := by rw [hE]; exact x13.lt
  have hV13 : ∀ k, k < eb → ((V13.alloc (bob N)).alloc (.cells #[.slice none 0 0] 31)).heap[k]? = V13.heap[k]? := fun k hk => by
    rw [hE] at hk
    rw [Below.heap_alloc _ _ _ (by simp; omega), Below.heap_alloc _ _ _ hk]
  have hs13 : w.heap.size + 2 ≤ eb := by rw [hE]; exact i13.s
  have h13 : V13.heap.size = eb := hE.symm
  rw [h13]
  clear i13 x13 hnil hE
  generalize (V13.alloc (bob N)).alloc _ = V at sV nV tV iV xV hV13 ⊢
  obtain ⟨i0, hi, hz0, hz1, hz2⟩ := info_parts linfoInt
  refine (wpIn_wide (n := 5)).1 ?_
  generalize hAct : Act.mk _ _ = a0
  refine wpIn_eachX (T := Tabs) rfl (by omega) (hg := by rw [← hAct]; rfl) (gf := 39) (lb := #[.pointer (some ⟨eb, 0, none⟩)]) trivial (enters_of Tryd.func39 (by kernel_rfl) rfl) (each_givesX N eb 4 HN.out (by omega) V nV) (fun _ => rfl)
    (fun pre W' => (∃ u, Boxed W' (eb + 1) 31 u ∧ W'.ownsRow (eb + 5) 3 1 u pre.length (iv pre)) ∧ (∀ k, k < eb + 2 → k ≠ eb + 1 → W'.heap[k]? = V.heap[k]?) ∧ Below w.heap.size w W')
    (fun _ _ _ => False) (fun _ _ h => ht.keep h.2.2) ?own (fun _ _ _ _ _ h _ _ _ => h) ⟨⟨_, tV, World.ownsRow_nil _ _ _ _⟩, fun _ _ _ => rfl, iV.b⟩
    (fun x a' _ => a' = { tmps := (a0.tmps.setIfInBounds 102 (.int .i64 ((x : Int) + 1))).setIfInBounds 12 (.int .i64 ((x : Int) + 1)), defers := [] }) (fun _ _ _ _ _ h _ _ _ => h) ?assign ?body ?done ?stop
  case own =>
    rintro s A A' q ⟨⟨u, hx, hr⟩, hk, hb⟩ hg g1 g2
    rw [sV] at g1 g2
    refine ⟨⟨u, hx.kept hg (by simp; omega), hr.kept hg ?_⟩, fun k h1 h2 => (hg.block k (Nat.lt_of_lt_of_le h1 (by have := hx.lt; omega)) (by simp; omega)).trans (hk k h1 h2), hb.grown hg hb.size (fun k e => by cases e; omega)⟩
    rcases hr.2 with ⟨rfl, _⟩ | ⟨g, cap, cur, rfl, hbase, _⟩
    · exact .inl rfl
    · right; simp [Value.ownBlock]; omega
  case assign =>
    intro l' pre x W' K' hi' hpre hsz hK'
    subst hAct
    gi_wp2
    have key := hK' _ W' ⟨rfl, rfl, rfl, Nat.le_refl _⟩ hi' rfl
    simpa only [List.setIfInBounds_toArray, List.set_cons_zero, List.set_cons_succ] using key
  case stop => exact fun _ _ _ _ _ _ h _ => h.elim
  case body =>
    rintro l' pre x a' W' ⟨⟨u, hx, hr⟩, hk, hb⟩ rfl hpre hsz
    subst hAct
    simp only [List.setIfInBounds_toArray, List.set_cons_zero, List.set_cons_succ]
    rw [sV] at hsz ⊢
    have hpl : pre.length + 1 ≤ l.length := by
      have h1 := hpre.length_le
      rw [HLE.out] at h1
      simpa using h1
    have hgt : ¬ ((l.length : Int) < (pre.length : Int) + 1) := by omega
    obtain ⟨g, cap, w6, hrun, hown, hx6, hb6⟩ := append_row (P := Tryd.prog) Tryd.underlying31 hi hz0 hz1 hz2 rfl (by decide) hx hr (u := .int .i64 ((x : Int) + 1)) rfl (by omega) (by omega) (by omega)
    have hc := hx.cell
    have c06 := hx6.cell
    have f06 := hx6.frozen
    have y6 : Boxed w6 wb 31 (.slice wa l.length wcap) := (hb6.block wb (by omega)).trans ((hk wb (by omega) (by omega)).trans xV)
    have y7 := y6.other (B' := eb + 1) (by omega) (.slice (some ⟨g, 0, none⟩) (pre.length + 1) cap)
    have cy := y7.cell
    obtain ⟨ua, ucap, rfl⟩ : ∃ ua ucap, u = .slice ua pre.length ucap := by
      rcases hr.2 with ⟨rfl, h0⟩ | ⟨g', cap', cur, rfl, _⟩
      · exact ⟨none, 0, by rw [h0]⟩
      · exact ⟨_, _, rfl⟩
    have HR := hidIn hrun
    have HO := hidIn hown
    have HX := hidIn hx6
    clear hrun hown hx6 hpre
    gi_wp2_with (refine lIn_append rfl _ _ 31 rfl HR.out ?_)
    have s6 := hb6.size
    have hset : ∀ j, j ≠ eb + 1 → (w6.setCell ⟨eb + 1, 0, none⟩ (.slice (some ⟨g, 0, none⟩) (pre.length + 1) cap)).heap[j]? = w6.heap[j]? := fun j e1 => Below.heap_setCell w6 ⟨eb + 1, 0, none⟩ _ j e1
    refine ⟨⟨(hset _ (by omega)).trans (hb6.block _ (by omega)), (hset _ (by omega)).trans (hb6.block _ (by omega)), (hset _ (by omega)).trans (hb6.block _ (by omega)), by simp; exact s6⟩, ⟨⟨_, HX.out.set _, ?_⟩, fun k h1 h2 => (hset _ h2).trans ((hb6.block k (by omega)).trans (hk k h1 h2)), Below.setCell (hb.trans (hb6.mono (by omega))) (p := ⟨eb + 1, 0, none⟩) (show w.heap.size ≤ eb + 1 by omega) _⟩⟩
    have := HO.out.kept (grown_set w6 (eb + 1) (.slice (some ⟨g, 0, none⟩) (pre.length + 1) cap)) (.inr (by have := (HO.out.lt g rfl).1; simp [Value.ownBlock]; omega))
    rw [List.length_append, iv_snoc]
    exact this
  case done =>
    rintro D W' hD ⟨⟨u, hx, hr⟩, hk, hb⟩ hK'
    rw [sV] at hD
    subst hAct
    refine hKK _ _ ?_
    rw [HLE.out] at hr
    obtain ⟨ta, tcap, rfl, hta⟩ := bitsAt_of (l := l) hr
    have xW : Boxed W' wb 31 (.slice wa l.length wcap) := (hk wb (by omega) (by omega)).trans xV
    have rW : Boxed W' (w.heap.size + 1) 4 (.bool false) := (hk _ (by omega) (by omega)).trans iV.r
    have sW := hx.lt
    have atW : BitsAt W' 0 wa l := bitsAt_same at13 (by rw [h13]; omega) (fun k hk' => by rw [h13] at hk'; exact (hk k (by omega) (by omega)).trans (hV13 k hk'))
    have c1 := hx.cell
    have c2 := xW.cell
    have HS := hidIn (same_bits (c := tcap) (d := wcap) hlen hta atW)
    have HD := hidIn hK'
    clear hta atW hr hk at13 hV13 xV tV nV iV hK' hKK
    go_wp2_with fail
    refine HS.out.mono ?_
    rintro e W2 ⟨rfl, hb2⟩
    have hB2 := hb.trans (hb2.mono hb.size)
    have rW2 : Boxed W2 (w.heap.size + 1) 4 (.bool false) := (hb2.block _ rW.lt).trans rW
    have hD2 := (hb2.block D (Array.getElem?_eq_some_iff.1 HD.out).1).trans HD.out
    clear HS HD rW hb2 c1 c2
    go_wp2_with fail
    refine (works_any _ (ht.keep hB2)).mono ?_
    rintro e W3 ⟨rfl, hb3⟩
    have hB3 := hB2.trans (hb3.mono hB2.size)
    have rW3 : Boxed W3 (w.heap.size + 1) 4 (.bool false) := (hb3.block _ rW2.lt).trans rW2
    have hD3 := (hb3.block D (Array.getElem?_eq_some_iff.1 hD2).1).trans hD2
    have c3 := rW3.cell
    have f3 := rW3.frozen
    clear hD2 rW2 hb3
    go_wp2
    have hsetD : (W3.setCell ⟨w.heap.size + 1, 0, none⟩ (.bool true)).heap[D]? = some (.deferred (some [])) := (Below.heap_setCell W3 ⟨w.heap.size + 1, 0, none⟩ _ D (by show D ≠ w.heap.size + 1; omega)).trans hD3
    refine ⟨by simp, .inl ⟨_, _, rfl, run_takeDeferred hsetD, ?_⟩⟩
    have z3 := (rW3.set (.bool true)).kept (grownBy_putObj' _ D (.deferred none)) (by simp; omega)
    have d3 := z3.cell
    exact ⟨.bool true, by simp [results, Tryd.results3, go_sem, d3], rfl, (hB3.setCell (p := ⟨w.heap.size + 1, 0, none⟩) (show w.heap.size ≤ w.heap.size + 1 by omega) _).trans (belowK_b (w := w) (Nat.le_refl _) _ D _ _ (by omega) hsetD rfl rfl)⟩
  end Go.Proofs.YtjpnbjfomikhaaaDoor
