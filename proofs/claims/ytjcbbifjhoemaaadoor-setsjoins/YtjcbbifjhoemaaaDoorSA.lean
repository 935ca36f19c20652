/- sets.withIds. -/
import Derived.Test.YtjcbbifjhoemaaaDoorS7
import Derived.Test.YtjcbbifjhoemaaaDoorE4
namespace Go.Proofs.YtjcbbifjhoemaaaDoor
open Go.RowKit Go.Shelf

attribute [local go_sem] Oper.semAt_some

/-- The two tables that sets reads. -/
structure Tb (w : World) : Prop where
  wid : Wid w
  tab : Tabs w
theorem Tb.lt {w : World} (h : Tb w) : 0 < w.heap.size ∧ 1 < w.heap.size := by
  constructor
  · have h1 := h.wid.t
    unfold Lib.TabIs World.var? at h1
    rw [gWid] at h1
    simp only [Option.bind_some] at h1
    exact Nat.lt_of_not_le (fun hle => by rw [Array.getElem?_eq_none hle] at h1; cases h1)
  · have h1 := h.tab.db
    unfold Lib.TabIs World.var? at h1
    rw [gDb] at h1
    simp only [Option.bind_some] at h1
    exact Nat.lt_of_not_le (fun hle => by rw [Array.getElem?_eq_none hle] at h1; cases h1)
theorem Tb.keep {w w' : World} {c : Nat} (h : Tb w) (hb : Below c w w') (h1 : 0 < c) (h2 : 1 < c) : Tb w' := by
  refine ⟨⟨?_⟩, ⟨?_⟩⟩
  · have := h.wid.t
    unfold Lib.TabIs World.var? at this ⊢
    rw [gWid] at this ⊢
    simp only [Option.bind_some] at this ⊢
    rw [hb.block _ h1]
    exact this
  · have := h.tab.db
    unfold Lib.TabIs World.var? at this ⊢
    rw [gDb] at this ⊢
    simp only [Option.bind_some] at this ⊢
    rw [hb.block _ h2]
    exact this
theorem Tb.on {w w' : World} (h : Tb w) (hb : Below w.heap.size w w') : Tb w' := h.keep hb h.lt.1 h.lt.2
/-- The id of a place. -/
abbrev idN (W s m : Nat) : Value := .int .i64 ((s * W + m + 1 : Nat) : Int)
theorem id_ok {s m W : Nat} (hs : s < 128) (hW : IsW W) (hm : m < W) (hl : s * W + m + 1 ≤ 1024) (w : World) (ht : Wid w) :
    Calls Tryd.prog 33 #[.int .i64 (s : Int), .int .i64 ((m : Int) + 1), .int .i64 (W : Int)] w fun e w' => e = .returned (.tuple #[idN W s m, .int .i64 0]) ∧ w' = w := by
  have h := id_any s ((m : Int) + 1) W w ht
  have e : idV s ((m : Int) + 1) W = .tuple #[idN W s m, .int .i64 0] := by
    have h3 : (s : Int) * (W : Int) + ((m : Int) + 1) = ((s * W + m + 1 : Nat) : Int) := by rw [Int.natCast_add, Int.natCast_add, Int.natCast_mul]; omega
    unfold idV
    rw [if_pos ⟨hW, ⟨by omega, by omega⟩, by omega, by omega⟩, h3, if_pos (by omega)]
  rw [e] at h
  exact h
theorem id_long {s m W : Nat} (hs : s < 128) (hW : IsW W) (hm : m < W) (hl : 1024 < s * W + m + 1) (w : World) (ht : Wid w) :
    Calls Tryd.prog 33 #[.int .i64 (s : Int), .int .i64 ((m : Int) + 1), .int .i64 (W : Int)] w fun e w' => e = .returned (.tuple #[.int .i64 0, .int .i64 3]) ∧ w' = w := by
  have h := id_any s ((m : Int) + 1) W w ht
  have e : idV s ((m : Int) + 1) W = .tuple #[.int .i64 0, .int .i64 3] := by
    have h3 : (s : Int) * (W : Int) + ((m : Int) + 1) = ((s * W + m + 1 : Nat) : Int) := by rw [Int.natCast_add, Int.natCast_add, Int.natCast_mul]; omega
    unfold idV
    rw [if_pos ⟨hW, ⟨by omega, by omega⟩, by omega, by omega⟩, h3, if_neg (by omega)]
  rw [e] at h
  exact h
set_option maxHeartbeats 400000 in
theorem each_fn (N : Nat) (w : World) :
    Calls Tryd.prog 32 #[bs N] w fun e w' => e = .returned (.func (.func 38) #[] #[.pointer (some ⟨w.heap.size, 0, none⟩)]) ∧ w' = w.alloc (.cells #[.int .u64 (wd N 0), .int .u64 (wd N 1), .int .u64 (wd N 2), .int .u64 (wd N 3)] 35) := by
  unfold bs
  go_enter Tryd.func32, Tryd.ntmps32
  go_wp2
  go_ret
  exact ⟨rfl, rfl⟩
theorem infoInt : (Tryd.prog.info? 3).map (fun i => (i.zero, i.size, i.bytes)) = some (some (.int .i64 0), 1, 8) := by kernel_rfl
theorem lIn_append {F : Fence} {n : Nat} {P : Program} {ops : Array Oper} {rest : List Oper} {o : Oper} {a : Act} {w w' : World} {v' : Value} {Q : Exit → Act → World → Prop}
    (hg : o.guard = none) (s x : Operand) (t : TypeId) (hop : o.op = Op.call { callee := Callee.builtin Builtin.append, args := #[s, x], argTypes := #[t, t] })
    (hrun : (Builtin.append_ #[t, t] o.type #[a.eval s, a.eval x]).run P w = .ok v' w') (h : wpListIn F n P ops Q rest (a.put o.dst v') w') : wpListIn F n P ops Q (o :: rest) a w := by
  refine wpListIn_plain hg fun K hK => ?_
  unfold Oper.wpIn
  refine ⟨by simp [Oper.about, hop, resolve, Target.leads, Sem.run_pure], ?_⟩
  rw [Oper.semAt_plain F _ _ (by rw [hop]; intro c hc'; cases hc')]
  simp [execOp, hop, resolve, invoke, builtin, hrun, Result.andThen]
  exact hK _ _ h
/-- A row whose block is old, or lies behind the loop's own. -/
def Apart (u : Value) (B c : Nat) : Prop := ∀ g, u.ownBlock = some g → g < B ∨ c < g
/-- What an append of one number gives. -/
theorem append_int {W : World} {base k B c : Nat} {u x : Value} {xs : List Value} (hr : W.ownsRow base 3 1 u k xs) (hx : x.oneCell' = true) (hk : k < 1000000) (hbase : base ≤ W.heap.size) (ha : Apart u B c) (hc : c < W.heap.size) :
    ∃ g cap w6, (Builtin.append_ #[22, 22] 22 #[u, .slice (some ⟨W.heap.size, 0, none⟩) 1 1]).run Tryd.prog (W.alloc (.cells #[x] 3)) = .ok (.slice (some ⟨g, 0, none⟩) (k + 1) cap) w6 ∧
      w6.ownsRow base 3 1 (.slice (some ⟨g, 0, none⟩) (k + 1) cap) (k + 1) (xs ++ [x]) ∧ Apart (.slice (some ⟨g, 0, none⟩) (k + 1) cap) B c ∧ W.heap.size ≤ w6.heap.size ∧ (∀ j, j < W.heap.size → some j ≠ u.ownBlock → w6.heap[j]? = W.heap[j]?) ∧ Below base W w6 := by
  obtain ⟨i0, hi, hz0, hz1, hz2⟩ := info_parts infoInt
  obtain ⟨g, cap, w6, hrun, hown, hgrow, hlie, _⟩ := run_append_lies (P := Tryd.prog) (W.alloc (.cells #[x] 3)) 22 22 base 3 i0 _ 1 8 Tryd.underlying22 hi hz0 hz1 hz2 rfl (by decide) u k xs (hr.alloc _) ⟨W.heap.size, 0, none⟩ 1 1 [x] rfl (cell_one_new _ _ _) (by simpa using hx) (by omega) (by unfold maxLen; omega) (by omega) (by simp; omega) (W.heap.size + 1) (by simp)
  have hs := hgrow.size
  simp at hs
  refine ⟨g, cap, w6, hrun, hown, ?_, by omega, ?_, row_grows hr hgrow hbase⟩
  · intro g' hg'
    simp [Value.ownBlock] at hg'
    subst hg'
    rcases hlie with h | h
    · exact ha g h
    · right; omega
  · intro j hj hne
    rw [hgrow.block j (by simp; omega) hne]
    exact Below.heap_alloc _ _ _ hj

set_option maxRecDepth 100000 in
set_option maxHeartbeats 2000000 in
theorem withIds_any {v : Value} {W s N base k : Nat} {xs : List Value} (hW : IsW W) (hs : s < 128) (hN : N < 2 ^ 256) (hsub : ∀ m ∈ lst N, m < W) {w : World} (hr : w.ownsRow base 3 1 v k xs) (hk : k ≤ 500000) (hbase : base ≤ w.heap.size)
    (ht : Tb w) (hg1 : 0 < base) (hg2 : 1 < base) :
    Calls Tryd.prog 23 #[v, partV s N, .int .i64 W] w fun e w' =>
      (((∀ m ∈ lst N, s * W + m + 1 ≤ 1024) ∧ ∃ u, e = .returned (.tuple #[u, .int .i64 0]) ∧ w'.ownsRow base 3 1 u (k + (lst N).length) (xs ++ (lst N).map (idN W s))) ∨
        ((∃ m ∈ lst N, 1024 < s * W + m + 1) ∧ e = .returned (.tuple #[.slice none 0 0, .int .i64 3]))) ∧ Below base w w' := by
  have Hr := hidIn hr
  obtain ⟨va, vcap, rfl⟩ := row_shape hr
  refine (callsIn_wide (n := 5)).1 ?_
  refine callsIn_of_wp_marks Tryd.func23 rfl trivial ?_ rfl
  simp only [Tryd.ntmps23, List.size_toArray, List.length_cons, List.length_nil, Nat.reduceAdd, Nat.reduceSub, Array.replicate_succ, Array.replicate_zero, List.push_toArray, List.append_toArray, List.nil_append, List.cons_append]
  clear hr
  gi_wp2_with (refine ⟨trivial, ?_⟩; gi_at_call 32; refine (callsIn_wide.2 (each_fn N _)).mono ?_; rintro e w' ⟨rfl, rfl⟩)
  have sV : ((((((w.alloc (.cells #[.slice va k vcap] 22)).alloc (.cells (pcl s N).toArray 37)).alloc (.cells #[.int .i64 W] 3)).alloc (.cells #[.slice none 0 0] 22)).alloc (.cells #[.int .i64 0] 24)).alloc (.cells #[.int .u64 (wd N 0), .int .u64 (wd N 1), .int .u64 (wd N 2), .int .u64 (wd N 3)] 35)).heap.size = w.heap.size + 6 := by simp
  have bV : Below w.heap.size w ((((((w.alloc (.cells #[.slice va k vcap] 22)).alloc (.cells (pcl s N).toArray 37)).alloc (.cells #[.int .i64 W] 3)).alloc (.cells #[.slice none 0 0] 22)).alloc (.cells #[.int .i64 0] 24)).alloc (.cells #[.int .u64 (wd N 0), .int .u64 (wd N 1), .int .u64 (wd N 2), .int .u64 (wd N 3)] 35)) := by go_grown
  have x0 := (((((Boxed.new w 22 (.slice va k vcap)).alloc (.cells (pcl s N).toArray 37)).alloc (.cells #[.int .i64 W] 3)).alloc (.cells #[.slice none 0 0] 22)).alloc (.cells #[.int .i64 0] 24)).alloc (.cells #[.int .u64 (wd N 0), .int .u64 (wd N 1), .int .u64 (wd N 2), .int .u64 (wd N 3)] 35)
  have x1 := heap_alloc_last (w.alloc (.cells #[.slice va k vcap] 22)) (.cells (pcl s N).toArray 37)
  have x2 := (((Boxed.new ((w.alloc (.cells #[.slice va k vcap] 22)).alloc (.cells (pcl s N).toArray 37)) 3 (.int .i64 W)).alloc (.cells #[.slice none 0 0] 22)).alloc (.cells #[.int .i64 0] 24)).alloc (.cells #[.int .u64 (wd N 0), .int .u64 (wd N 1), .int .u64 (wd N 2), .int .u64 (wd N 3)] 35)
  have x3 := ((Boxed.new (((w.alloc (.cells #[.slice va k vcap] 22)).alloc (.cells (pcl s N).toArray 37)).alloc (.cells #[.int .i64 W] 3)) 22 (.slice none 0 0)).alloc (.cells #[.int .i64 0] 24)).alloc (.cells #[.int .u64 (wd N 0), .int .u64 (wd N 1), .int .u64 (wd N 2), .int .u64 (wd N 3)] 35)
  have x4 := (Boxed.new ((((w.alloc (.cells #[.slice va k vcap] 22)).alloc (.cells (pcl s N).toArray 37)).alloc (.cells #[.int .i64 W] 3)).alloc (.cells #[.slice none 0 0] 22)) 24 (.int .i64 0)).alloc (.cells #[.int .u64 (wd N 0), .int .u64 (wd N 1), .int .u64 (wd N 2), .int .u64 (wd N 3)] 35)
  have x5 := hasBs_new (((((w.alloc (.cells #[.slice va k vcap] 22)).alloc (.cells (pcl s N).toArray 37)).alloc (.cells #[.int .i64 W] 3)).alloc (.cells #[.slice none 0 0] 22)).alloc (.cells #[.int .i64 0] 24)) N
  have x1' : ((((((w.alloc (.cells #[.slice va k vcap] 22)).alloc (.cells (pcl s N).toArray 37)).alloc (.cells #[.int .i64 W] 3)).alloc (.cells #[.slice none 0 0] 22)).alloc (.cells #[.int .i64 0] 24)).alloc (.cells #[.int .u64 (wd N 0), .int .u64 (wd N 1), .int .u64 (wd N 2), .int .u64 (wd N 3)] 35)).heap[w.heap.size + 1]? = some (.cells (pcl s N).toArray 37) := by
    rw [World.size_alloc] at x1
    rw [Below.heap_alloc _ _ _ (by simp), Below.heap_alloc _ _ _ (by simp), Below.heap_alloc _ _ _ (by simp), Below.heap_alloc _ _ _ (by simp)]
    exact x1
  simp only [World.size_alloc, Nat.add_assoc, Nat.reduceAdd] at x0 x2 x3 x4 x5 ⊢
  have hr0 := (((((Hr.out.alloc (.cells #[.slice va k vcap] 22)).alloc (.cells (pcl s N).toArray 37)).alloc (.cells #[.int .i64 W] 3)).alloc (.cells #[.slice none 0 0] 22)).alloc (.cells #[.int .i64 0] 24)).alloc (.cells #[.int .u64 (wd N 0), .int .u64 (wd N 1), .int .u64 (wd N 2), .int .u64 (wd N 3)] 35)
  clear x1
  generalize (((((w.alloc _).alloc _).alloc _).alloc _).alloc _).alloc _ = V at sV bV x0 x1' x2 x3 x4 x5 hr0 ⊢
  have ha0 : Apart (.slice va k vcap) w.heap.size (w.heap.size + 8) := fun g hg => .inl ((Hr.out.lt g hg).2)
  have hlen := hidIn (show (lst N).length ≤ 256 from by have := cntTo_le 256 N; rw [← lst_length] at this; exact this)
  refine wpIn_eachX (T := Tabs) rfl (by omega) (gf := 38) (lb := #[.pointer (some ⟨w.heap.size + 5, 0, none⟩)]) rfl trivial (enters_of Tryd.func38 (by kernel_rfl) rfl) (each_givesX N (w.heap.size + 5) 4 hN (by omega) V x5) (fun _ => rfl)
    (fun pre W' => ((∃ u, Boxed W' w.heap.size 22 u ∧ W'.ownsRow base 3 1 u (k + pre.length) (xs ++ pre.map (idN W s)) ∧ Apart u w.heap.size (w.heap.size + 8)) ∧ W'.heap[w.heap.size + 1]? = some (.cells (pcl s N).toArray 37) ∧ Boxed W' (w.heap.size + 2) 3 (.int .i64 W) ∧ Boxed W' (w.heap.size + 3) 22 (.slice none 0 0) ∧ Boxed W' (w.heap.size + 4) 24 (.int .i64 0)) ∧ Below base w W' ∧ ∀ m ∈ pre, s * W + m + 1 ≤ 1024)
    (fun c pre W' => c = .ret ∧ (Boxed W' (w.heap.size + 3) 22 (.slice none 0 0) ∧ Boxed W' (w.heap.size + 4) 24 (.int .i64 3)) ∧ Below base w W' ∧ ∃ m ∈ pre, 1024 < s * W + m + 1)
    (fun _ _ h => (ht.keep h.2.1 hg1 hg2).tab) ?own ?ownx ⟨⟨⟨_, x0, by simpa using hr0, ha0⟩, x1', x2, x3, x4⟩, bV.mono hbase, by simp⟩
    (fun x a' _ => a' = { tmps := #[.slice va k vcap, partV s N, .int .i64 W, .pointer (some ⟨w.heap.size, 0, none⟩), .pointer (some ⟨w.heap.size + 1, 0, none⟩), .pointer (some ⟨w.heap.size + 2, 0, none⟩), .pointer (some ⟨w.heap.size + 3, 0, none⟩), .pointer (some ⟨w.heap.size + 4, 0, none⟩), .int .i64 ((x : Int) + 1), undef, undef, .pointer (some ⟨w.heap.size + 1, 1, none⟩), bs N, .func (.func 38) #[] #[.pointer (some ⟨w.heap.size + 5, 0, none⟩)], .int .i64 ((x : Int) + 1), undef, undef, undef, undef, undef, undef, undef, undef, undef, undef, undef, undef, undef, undef, undef, undef], defers := [] })
    (fun _ _ _ _ _ h _ _ _ => h) ?assign ?body ?done ?stop
  case own =>
    rintro l A A' q ⟨⟨⟨u, hx, hr, ha⟩, h1, h2, h3, h4⟩, hb, hl⟩ hg g1 g2
    rw [sV] at g1 g2
    refine ⟨⟨⟨u, hx.kept hg (by simp; omega), hr.kept hg ?_, ha⟩, (hg.block _ (Array.getElem?_eq_some_iff.1 h1).1 (by simp; omega)).trans h1, h2.kept hg (by simp; omega), h3.kept hg (by simp; omega), h4.kept hg (by simp; omega)⟩, hb.grown hg (Nat.le_trans hbase hb.size) (fun k e => by cases e; omega), hl⟩
    cases hu : u.ownBlock with
    | none => exact .inl rfl
    | some g => right; have := ha g hu; simp; omega
  case ownx =>
    rintro c l A A' q ⟨hc, ⟨h3, h4⟩, hb, hl⟩ hg g1 g2
    rw [sV] at g1 g2
    exact ⟨hc, ⟨h3.kept hg (by simp; omega), h4.kept hg (by simp; omega)⟩, hb.grown hg (Nat.le_trans hbase hb.size) (fun k e => by cases e; omega), hl⟩
  case assign =>
    intro l pre x W' K hi hpre hsz hK
    gi_wp2
    exact hK _ _ ⟨rfl, rfl, rfl, Nat.le_refl _⟩ hi rfl
  case body =>
    rintro l pre x a' W' ⟨⟨⟨u, hx, hr, ha⟩, h1, h2, h3, h4⟩, hb, hl⟩ rfl hpre hsz
    rw [sV] at hsz ⊢
    have hmem : x ∈ lst N := by
      obtain ⟨t, ht'⟩ := hpre
      rw [← ht']; simp
    have hxW := hsub x hmem
    have hpl : pre.length < 256 := by
      have h5 := hpre.length_le
      have := hlen.out
      simp at h5
      omega
    have htw := (ht.keep hb hg1 hg2).wid
    have c1 := cell_of_row W' (w.heap.size + 1) 0 _ _ _ h1
    have c2 := h2.cell
    have c3 := h3.cell
    have f3 := h3.frozen
    have c4 := h4.cell
    have f4 := h4.frozen
    have hc := hx.cell
    clear hpre hmem
    by_cases hlong : s * W + x + 1 ≤ 1024
    · have Hid1 := hidIn (id_ok hs hW hxW hlong W' htw)
      obtain ⟨ua, ucap, rfl⟩ := row_shape hr
      obtain ⟨g, cap, w6, hrun, hown, ha6, hs6, hk6, hb6⟩ := append_int hr (x := idN W s x) rfl (by omega) (Nat.le_trans hbase (by have := hb.size; omega)) ha (show w.heap.size + 8 < W'.heap.size by omega)
      have hk' : ∀ j, w.heap.size ≤ j → j ≤ w.heap.size + 8 → w6.heap[j]? = W'.heap[j]? := fun j e1 e2 => hk6 j (by omega) (fun e => by have := ha j e.symm; omega)
      have x06 : Boxed w6 w.heap.size 22 (.slice ua (k + pre.length) ucap) := (hk' _ (Nat.le_refl _) (by omega)).trans hx
      have c06 := x06.cell
      have f06 := x06.frozen
      have HR := hidIn hrun
      clear hrun
      gi_wp2_with (first
        | (refine ⟨trivial, ?_⟩; gi_at_call 33; refine (CallsIn.inRound l (callsIn_wide.2 Hid1.out)).mono ?_; rintro e w4 ⟨rfl, rfl⟩)
        | (refine lIn_append rfl _ _ 22 rfl HR.out ?_))
      have hset : ∀ j, w.heap.size < j → (w6.setCell ⟨w.heap.size, 0, none⟩ (.slice (some ⟨g, 0, none⟩) (k + pre.length + 1) cap)).heap[j]? = w6.heap[j]? := fun j e1 => Below.heap_setCell w6 ⟨w.heap.size, 0, none⟩ _ j (by show j ≠ w.heap.size; omega)
      refine ⟨⟨(hset _ (by omega)).trans (hk' _ (by omega) (by omega)), (hset _ (by omega)).trans (hk' _ (by omega) (by omega)), (hset _ (by omega)).trans (hk' _ (by omega) (by omega)), by simp; exact hs6⟩,
        ⟨⟨_, x06.set _, ?_, ha6⟩, (hset _ (by omega)).trans ((hk' _ (by omega) (by omega)).trans h1), (hset _ (by omega)).trans ((hk' _ (by omega) (by omega)).trans h2), (hset _ (by omega)).trans ((hk' _ (by omega) (by omega)).trans h3), (hset _ (by omega)).trans ((hk' _ (by omega) (by omega)).trans h4)⟩,
        Below.setCell (hb.trans hb6) (p := ⟨w.heap.size, 0, none⟩) hbase _, ?_⟩
      · have := hown.kept (grownBy_setCell' w6 w.heap.size (.slice (some ⟨g, 0, none⟩) (k + pre.length + 1) cap)) (by right; have := ha6 g rfl; simp [Value.ownBlock]; omega)
        rw [List.map_append, ← List.append_assoc, List.length_append, List.length_singleton, ← Nat.add_assoc]
        exact this
      · intro m hm
        rcases List.mem_append.1 hm with h | h
        · exact hl m h
        · simp at h; rw [h]; exact hlong
    · have Hid1 := hidIn (id_long hs hW hxW (by omega) W' htw)
      gi_wp2_with (refine ⟨trivial, ?_⟩; gi_at_call 33; refine (CallsIn.inRound l (callsIn_wide.2 Hid1.out)).mono ?_; rintro e w4 ⟨rfl, rfl⟩)
      exact ⟨(Keep3.set _ _ _ (by omega)).trans (Keep3.set _ _ _ (by omega)), rfl, ⟨(h3.set _).other (by omega) _, (h4.other (by omega) _).set _⟩, Below.setCell (hb.setCell (p := ⟨w.heap.size + 3, 0, none⟩) (by show base ≤ w.heap.size + 3; omega) _) (p := ⟨w.heap.size + 4, 0, none⟩) (by show base ≤ w.heap.size + 4; omega) _, x, by simp, by omega⟩
  case done =>
    rintro D W' hD ⟨⟨⟨u, hx, hr, ha⟩, h1, h2, h3, h4⟩, hb, hl⟩ hK
    rw [sV] at hD
    have hc := hx.cell
    have c3 := h3.cell
    have f3 := h3.frozen
    have c4 := h4.cell
    have f4 := h4.frozen
    obtain ⟨ua, ucap, rfl⟩ := row_shape hr
    gi_wp2
    have hK2 := (KeepsOthers.setCell (W'.setCell ⟨w.heap.size + 3, 0, none⟩ (.slice ua (k + (lst N).length) ucap)) ⟨w.heap.size + 4, 0, none⟩ (.int .i64 0)).same D _ ((KeepsOthers.setCell W' ⟨w.heap.size + 3, 0, none⟩ (.slice ua (k + (lst N).length) ucap)).same D _ hK rfl) rfl
    refine ⟨by simp, .inl ⟨_, _, rfl, run_takeDeferred hK2, ?_⟩⟩
    have z3 := ((h3.set (.slice ua (k + (lst N).length) ucap)).other (show w.heap.size + 3 ≠ w.heap.size + 4 by omega) (.int .i64 0)).kept (grownBy_putObj' _ D (.deferred none)) (by simp; omega)
    have z4 := ((h4.other (show w.heap.size + 4 ≠ w.heap.size + 3 by omega) (.slice ua (k + (lst N).length) ucap)).set (.int .i64 0)).kept (grownBy_putObj' _ D (.deferred none)) (by simp; omega)
    have d3 := z3.cell
    have d4 := z4.cell
    have ne : ∀ j, w.heap.size ≤ j → j ≤ w.heap.size + 8 → some j ≠ (Value.slice ua (k + (lst N).length) ucap).ownBlock := fun j e1 e2 e => by have := ha j e.symm; omega
    refine ⟨.tuple #[.slice ua (k + (lst N).length) ucap, .int .i64 0], by simp [results, Tryd.results23, go_sem, d3, d4], .inl ⟨hl, _, rfl, ?_⟩, ?_⟩
    · have r1 := hr.kept (grownBy_setCell' W' (w.heap.size + 3) (.slice ua (k + (lst N).length) ucap)) (.inr (ne (w.heap.size + 3) (by omega) (by omega)).symm)
      have r2 := r1.kept (grownBy_setCell' _ (w.heap.size + 4) (.int .i64 0)) (.inr (ne (w.heap.size + 4) (by omega) (by omega)).symm)
      exact ownsRow_putObj r2 _ hK2 rfl
    · exact (Below.setCell (hb.setCell (p := ⟨w.heap.size + 3, 0, none⟩) (by show base ≤ w.heap.size + 3; omega) _) (p := ⟨w.heap.size + 4, 0, none⟩) (by show base ≤ w.heap.size + 4; omega) _).trans (belowK_b (w := w) hbase _ D _ _ (by omega) hK2 rfl rfl)
  case stop =>
    rintro D c pre W' hD hpre ⟨rfl, ⟨h3, h4⟩, hb, m, hm, hl⟩ hK
    rw [sV] at hD
    have hm' : m ∈ lst N := hpre.subset hm
    gi_wp2
    refine ⟨by simp, .inl ⟨_, _, rfl, run_takeDeferred hK, ?_⟩⟩
    have z3 := h3.kept (grownBy_putObj' W' D (.deferred none)) (by simp; omega)
    have z4 := h4.kept (grownBy_putObj' W' D (.deferred none)) (by simp; omega)
    have d3 := z3.cell
    have d4 := z4.cell
    exact ⟨_, by simp [results, Tryd.results23, go_sem, d3, d4], .inr ⟨⟨m, hm', hl⟩, rfl⟩, hb.trans (belowK_b (w := w) hbase _ D _ _ (by omega) hK rfl rfl)⟩
end Go.Proofs.YtjcbbifjhoemaaaDoor
