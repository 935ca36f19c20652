/- bits.Text: the text of a bit string. -/
import Derived.Test.YtjpnbjfomikhaaaDoorE2
import Derived.Deep.AppendLies
import Derived.Lib.Join
namespace Go.Proofs.YtjpnbjfomikhaaaDoor
open Go.RowKit Go.Shelf

attribute [local go_sem] Oper.semAt_some

set_option maxHeartbeats 400000 in
theorem each_any (N : Nat) (w : World) :
    Calls Tryd.prog 22 #[bs N] w fun e w' => e = .returned (.func (.func 39) #[] #[.pointer (some ⟨w.heap.size, 0, none⟩)]) ∧ w' = w.alloc (.cells #[.int .u64 (wd N 0), .int .u64 (wd N 1), .int .u64 (wd N 2), .int .u64 (wd N 3)] 24) := by
  unfold bs
  go_enter Tryd.func22, Tryd.ntmps22
  go_wp2
  go_ret
  exact ⟨rfl, rfl⟩

/-- A bit's number, as digits. -/
def num (m : Nat) : List UInt8 := Lib.decDigits (m + 1)
theorem itoa_any (m : Nat) (h : m < 256) (w : World) (ht : Tabs w) :
    Calls Tryd.prog 33 #[.int .i64 ((m : Int) + 1)] w fun e w' => e = .returned (.string ⟨(num m).toArray⟩) ∧ Below w.heap.size w w' := by
  refine (Tryd.strconv_Itoa ((m : Int) + 1) (by omega) (by omega) w ht.p10).mono ?_
  rintro e w' ⟨rfl, k, os, rfl⟩
  refine ⟨?_, ?_⟩
  · have : Lib.itoa ((m : Int) + 1) = num m := by
      unfold Lib.itoa num
      rw [if_neg (by omega)]
      congr 1
    rw [this]
  · exact ⟨rfl, rfl, rfl, by simp [Go.Sort.grow], fun j hj => by simp [Go.Sort.grow, Array.getElem?_append, hj]⟩

theorem infoStr : (Tryd.prog.info? 9).map (fun i => (i.zero, i.size, i.bytes)) = some (some (.string ⟨#[]⟩), 1, 16) := by kernel_rfl

/-- The text of the bits. -/
def txt (l : List Nat) : List UInt8 := Lib.join (l.map num) [32]

theorem num_length (m : Nat) (h : m < 256) : (num m).length ≤ 3 := by
  unfold num
  rw [Lib.decDigits]
  split
  · simp
  rw [Lib.decDigits]
  split
  · simp
  rw [Lib.decDigits]
  split
  · simp
  · omega
theorem join_length : ∀ (l : List (List UInt8)) (sep : List UInt8) (c : Nat), (∀ x ∈ l, x.length ≤ c) → (Lib.join l sep).length ≤ l.length * (c + sep.length)
  | [], sep, c, _ => by simp [Lib.join_nil]
  | [x], sep, c, h => by rw [Lib.join_one]; have := h x (by simp); simp; omega
  | x :: y :: r, sep, c, h => by
    have ih := join_length (y :: r) sep c (fun z hz => h z (by simp [hz]))
    have hx := h x (by simp)
    have e : Lib.join (x :: y :: r) sep = x ++ sep ++ Lib.join (y :: r) sep := by simp [Lib.join, List.intercalate, List.intersperse]
    rw [e]
    simp only [List.length_append, List.length_cons, Nat.add_mul, Nat.one_mul] at ih ⊢
    omega
theorem txt_length (l : List Nat) (h : ∀ m ∈ l, m < 256) (hl : l.length ≤ 256) : (txt l).length ≤ 1024 := by
  have := join_length (l.map num) [32] 3 (by intro x hx; obtain ⟨m, hm, rfl⟩ := List.mem_map.1 hx; exact num_length m (h m hm))
  unfold txt
  simp only [List.length_map, List.length_cons, List.length_nil] at this
  omega

set_option maxHeartbeats 400000 in
theorem text_none (w : World) :
    Calls Tryd.prog 13 #[bs 0] w fun e w' => e = .returned (.string ⟨#[45]⟩) ∧ Below w.heap.size w w' := by
  have hq : ∀ w : World, (Op.equalIn 10000 24 (.agg #[.int .u64 (wd 0 0), .int .u64 (wd 0 1), .int .u64 (wd 0 2), .int .u64 (wd 0 3)]) (.agg #[.int .u64 0, .int .u64 0, .int .u64 0, .int .u64 0])).run Tryd.prog w = Result.ok true w := fun w => eq_zero 0 (by decide) w
  unfold bs
  go_enter Tryd.func13, Tryd.ntmps13
  go_wp2
  go_ret
  exact ⟨rfl, by go_grown⟩

theorem grown_none {w w' : World} (h : Below w.heap.size w w') : w.grownBy w' none := ⟨h.os, h.tape, h.output, h.size, fun k hk _ => h.block k hk⟩
theorem row_none {W W' : World} {base : Nat} {e : TypeId} {v : Value} {k : Nat} {xs : List Value} (h : W.ownsRow base e 1 v k xs) (hb : Below W.heap.size W W') : W'.ownsRow base e 1 v k xs :=
  h.kept (grown_none hb) (by cases v.ownBlock <;> simp)
theorem row_far {W : World} {base : Nat} {e : TypeId} {v : Value} {k : Nat} {xs : List Value} (h : W.ownsRow base e 1 v k xs) {b : Nat} (hb : b < base) : some b ≠ v.ownBlock := by
  rcases h.2 with ⟨rfl, _⟩ | ⟨g, cap, cur, rfl, hbase, _⟩
  · simp [Value.ownBlock]
  · simp [Value.ownBlock]; omega
theorem round_end {W w4 w6 : World} {L B base : Nat} (hG : Below W.heap.size W w4) (hb6 : Below base w4 w6) (hBL : B < L) (hL : L + 2 < W.heap.size) (hbase : L + 3 ≤ base) (u : Value) :
    (w6.setCell ⟨B, 0, none⟩ u).heap[L]? = W.heap[L]? ∧ (w6.setCell ⟨B, 0, none⟩ u).heap[L + 1]? = W.heap[L + 1]? ∧ (w6.setCell ⟨B, 0, none⟩ u).heap[L + 2]? = W.heap[L + 2]? ∧ W.heap.size ≤ (w6.setCell ⟨B, 0, none⟩ u).heap.size := by
  have k : ∀ q, L ≤ q → q ≤ L + 2 → (w6.setCell ⟨B, 0, none⟩ u).heap[q]? = W.heap[q]? := fun q h1 h2 => by
    rw [Below.heap_setCell w6 ⟨B, 0, none⟩ u q (by show q ≠ B; omega), hb6.block q (by omega), hG.block q (by omega)]
  refine ⟨k L (by omega) (by omega), k (L + 1) (by omega) (by omega), k (L + 2) (by omega) (by omega), ?_⟩
  have := hb6.size
  have := hG.size
  simp
  omega

/-- An append in a statement that leaves its order open, inside a fence: by its run. -/
theorem stepIn_append {F : Fence} {n : Nat} {P : Program} {ops : Array Oper} {o : Oper} {a : Act} {w w' : World} {v' : Value} {K : Act → World → Prop} {Q : Exit → Act → World → Prop} {E : Prop}
    (hg : o.guard = none) (s x : Operand) (t : TypeId) (hop : o.op = Op.call { callee := Callee.builtin Builtin.append, args := #[s, x], argTypes := #[t, t] })
    (hrun : (Builtin.append_ #[t, t] o.type #[a.eval s, a.eval x]).run P w = .ok v' w') (hK : K (a.put o.dst v') w') :
    if Region.wanted o (yielded ops a.tmps) = true then Oper.wpIn F n P o a w K Q else E := by
  have hw : Region.wanted o (yielded ops a.tmps) = true := by simp [Region.wanted, hg]
  rw [if_pos hw]
  unfold Oper.wpIn
  refine ⟨by simp [Oper.about, hop, resolve, Target.leads, Sem.run_pure], ?_⟩
  rw [Oper.semAt_plain F _ _ (by rw [hop]; intro c hc'; cases hc')]
  simp [execOp, hop, resolve, invoke, builtin, hrun, Result.andThen]
  exact hK

/-- What an append to a row of one's own gives, the box of the slice beside it. -/
theorem append_row {w4 : World} {t e : TypeId} {i : TypeInfo} {z : Value} {bytes : Nat} {P : Program} (h1 : P.underlying t = some (.slice e)) (h2 : P.info? e = some i) (h3 : i.zero = some z) (h4 : i.size = 1) (h5 : i.bytes = bytes) (h6 : z.cells.size = 1) (hby : bytes ≤ 64)
    {B base k : Nat} {v u : Value} {xs : List Value} (hv : Boxed w4 B t v) (hr : w4.ownsRow base e 1 v k xs) (hu : u.oneCell' = true) (hk : k < 1000000) (hB : B < base) (hbase : base ≤ w4.heap.size) :
    ∃ g cap w6, (Builtin.append_ #[t, t] t #[v, .slice (some ⟨w4.heap.size, 0, none⟩) 1 1]).run P (w4.alloc (.cells #[u] e)) = .ok (.slice (some ⟨g, 0, none⟩) (k + 1) cap) w6 ∧
      w6.ownsRow base e 1 (.slice (some ⟨g, 0, none⟩) (k + 1) cap) (k + 1) (xs ++ [u]) ∧ Boxed w6 B t v ∧ Below base w4 w6 := by
  obtain ⟨g, cap, w6, hrun, hown, hgrow, _, _⟩ := run_append_lies (P := P) (w4.alloc (.cells #[u] e)) t t base e i z 1 bytes h1 h2 h3 h4 h5 h6 (by decide) v k xs (hr.alloc _) ⟨w4.heap.size, 0, none⟩ 1 1 [u] rfl (cell_one_new _ _ _) (by simpa using hu) (by omega) (by unfold maxLen; omega) (by have : (k + 1) * bytes ≤ 1000000 * 64 := Nat.mul_le_mul (by omega) hby; omega) (by simp; omega) (w4.heap.size + 1) (by simp)
  refine ⟨g, cap, w6, hrun, hown, (hv.alloc _).kept hgrow (row_far hr hB), ?_⟩
  exact ((Below.refl _ w4).alloc hbase _).grown hgrow (by simp; omega) (fun j e => by
    rcases hr.2 with ⟨rfl, _⟩ | ⟨g', cap', cur, rfl, hb, _⟩
    · simp [Value.ownBlock] at e
    · simp [Value.ownBlock] at e; omega)

set_option maxRecDepth 100000 in
set_option maxHeartbeats 1000000 in
theorem text_some (N : Nat) (hN : N < 2 ^ 256) (hz : N ≠ 0) (w : World) (ht : Tabs w) :
    Calls Tryd.prog 13 #[bs N] w fun e w' => e = .returned (.string ⟨(txt (lst N)).toArray⟩) ∧ Below w.heap.size w w' := by
  have hq : ∀ w : World, (Op.equalIn 10000 24 (.agg #[.int .u64 (wd N 0), .int .u64 (wd N 1), .int .u64 (wd N 2), .int .u64 (wd N 3)]) (.agg #[.int .u64 0, .int .u64 0, .int .u64 0, .int .u64 0])).run Tryd.prog w = Result.ok false w := fun w => by
    have := eq_zero N hN w
    simp only [bs] at this
    rw [this]; simp [hz]
  unfold bs
  obtain ⟨i0, hi, hz0, hz1, hz2⟩ := info_parts infoStr
  refine (callsIn_wide (n := 5)).1 ?_
  refine callsIn_of_wp_marks Tryd.func13 rfl trivial ?_ rfl
  simp only [Tryd.ntmps13, List.size_toArray, List.length_cons, List.length_nil, Nat.reduceAdd, Nat.reduceSub, Array.replicate_succ, Array.replicate_zero, List.push_toArray, List.append_toArray, List.nil_append, List.cons_append]
  gi_wp2_with (refine ⟨trivial, ?_⟩; gi_at_call 22; refine (callsIn_wide.2 (each_any N _)).mono ?_; rintro e w' ⟨rfl, rfl⟩)
  generalize hV : ((w.alloc _).alloc _).alloc _ = V
  have sV : V.heap.size = w.heap.size + 3 := by rw [← hV]; simp
  have bV : Below w.heap.size w V := by rw [← hV]; go_grown
  have nV : HasBs V (w.heap.size + 2) N := by
    have := hasBs_new ((w.alloc (.cells #[.int .u64 (wd N 0), .int .u64 (wd N 1), .int .u64 (wd N 2), .int .u64 (wd N 3)] 24)).alloc (.cells #[.slice none 0 0] 45)) N
    rw [hV] at this
    simpa using this
  have xV : Boxed V (w.heap.size + 1) 45 (.slice none 0 0) := by
    have := (Boxed.new (w.alloc (.cells #[.int .u64 (wd N 0), .int .u64 (wd N 1), .int .u64 (wd N 2), .int .u64 (wd N 3)] 24)) 45 (.slice none 0 0)).alloc (.cells #[.int .u64 (wd N 0), .int .u64 (wd N 1), .int .u64 (wd N 2), .int .u64 (wd N 3)] 24)
    rw [hV] at this
    simpa using this
  clear hV hq
  refine wpIn_each (T := Tabs) rfl (by omega) (gf := 39) (lb := #[.pointer (some ⟨w.heap.size + 1 + 1, 0, none⟩)]) rfl trivial (enters_of Tryd.func39 (by kernel_rfl) rfl) (each_gives N (w.heap.size + 2) 4 hN (by omega) V nV) (fun _ => rfl)
    (fun pre W => (∃ v, Boxed W (w.heap.size + 1) 45 v ∧ W.ownsRow (w.heap.size + 6) 9 1 v pre.length (pre.map fun m => Value.string ⟨(num m).toArray⟩)) ∧ Below w.heap.size w W)
    (fun s A h => ht.keep h.2) ?own ⟨⟨_, xV, World.ownsRow_nil _ _ _ _⟩, bV⟩
    (fun x => { tmps := #[.agg #[.int .u64 (wd N 0), .int .u64 (wd N 1), .int .u64 (wd N 2), .int .u64 (wd N 3)], .pointer (some ⟨w.heap.size, 0, none⟩), .string ⟨#[]⟩, .pointer (some ⟨w.heap.size + 1, 0, none⟩), .int .i64 ((x : Int) + 1), .agg #[.int .u64 (wd N 0), .int .u64 (wd N 1), .int .u64 (wd N 2), .int .u64 (wd N 3)], .agg #[.int .u64 0, .int .u64 0, .int .u64 0, .int .u64 0], .bool false, .agg #[.int .u64 (wd N 0), .int .u64 (wd N 1), .int .u64 (wd N 2), .int .u64 (wd N 3)], .func (.func 39) #[] #[.pointer (some ⟨w.heap.size + 1 + 1, 0, none⟩)], .int .i64 ((x : Int) + 1), undef, undef, undef, undef, undef, undef, undef], defers := [] }) ?assign ?body ?done
  case own =>
    rintro s A A' q ⟨⟨v, hv, hr⟩, hb⟩ hg h1 h2
    rw [sV] at h1 h2
    refine ⟨⟨v, hv.kept hg (by simp; omega), hr.kept hg ?_⟩, hb.grown hg hb.size (fun k e => by cases e; omega)⟩
    rcases hr.2 with ⟨rfl, _⟩ | ⟨g, cap, cur, rfl, hbase, _⟩
    · exact .inl rfl
    · right; simp [Value.ownBlock]; omega
  case assign =>
    intro l x W K hK
    gi_wp2
    exact hK
  case body =>
    rintro l pre x W ⟨⟨v, hv, hrow⟩, hB⟩ hpre hlt
    rw [sV] at hlt ⊢
    have hx : x < 256 := by
      obtain ⟨t, ht'⟩ := hpre
      exact (mem_lst.1 (show x ∈ lst N by rw [← ht']; simp)).1
    have hlen : pre.length < 256 := by
      have h1 := hpre.length_le
      have h2 := cntTo_le 256 N
      rw [← lst_length] at h2
      simp at h1
      omega
    have Ht := hidIn (ht.keep hB)
    have hc := hv.cell
    clear hpre
    have SV := hidIn sV
    clear sV bV nV xV
    gi_wp2
    refine wpIn_region_any (by kernel_rfl) ?_
    change wpAnyIn _ _ _ _ _ _ _ _ _ (World.drew _)
    refine wpAnyIn_ready (rs := [0, 1]) (by kernel_rfl) (by simp) ?_
    refine AllReadyIn.cons rfl (fun K hK => ?_) ?_
    · go_simp
      refine hK _ _ ?_
      clear hK K
      refine wpAnyIn_ready (rs := [1]) (by kernel_rfl) (by simp) ?_
      refine AllReadyIn.cons rfl (fun K hK => ?_) ?_
      · go_simp
        refine hK _ _ ?_
        clear hK K
        refine wpAnyIn_ready (rs := [2]) (by kernel_rfl) (by simp) ?_
        refine AllReadyIn.cons rfl (fun K hK => ?_) ?_
        · go_simp
          gi_wp2_with (refine ⟨trivial, ?_⟩; gi_at_call 33; refine (CallsIn.inRound l (callsIn_wide.2 (itoa_any x hx _ (Ht.out.keep (Below.refl _ W).drew)))).mono ?_; rintro e w4 ⟨rfl, hb4⟩; have HG4 := hidIn (Below.trans (Below.refl _ W).drew hb4); have hv4 := hv.kept (grown_none HG4.out) (by simp); have hc4 := hv4.cell; have hc5 := (hv4.alloc (.cells #[.string ⟨(num x).toArray⟩] 9)).cell; obtain ⟨g, cap, w6, hrun, hown6, hv6, hb6⟩ := append_row (P := Tryd.prog) Tryd.underlying45 hi hz0 hz1 hz2 rfl (by decide) hv4 (row_none hrow HG4.out) (u := .string ⟨(num x).toArray⟩) rfl (by omega) (by omega) (by have := HG4.out.size; omega); have HO6 := hidIn hown6; have HR := hidIn hrun; have hc6 := hv6.cell; have hf6 := hv6.frozen; clear hown6 hrun)
          refine wpAnyIn_ready (rs := [3]) (by kernel_rfl) (by simp) ?_
          refine AllReadyIn.cons rfl (fun K hK => ?_) ?_
          · go_simp
            refine hK _ _ ?_
            clear hK K
            refine wpAnyIn_ready (rs := [4]) (by kernel_rfl) (by simp) ?_
            refine AllReadyIn.cons rfl (fun K hK => ?_) ?_
            · refine stepIn_append rfl (.tmp 11) (.tmp 14) 45 rfl HR.out ?_
              refine hK _ _ ?_
              clear hK K
              simp only [Act.put, List.setIfInBounds_toArray]
              refine wpAnyIn_ready (rs := [5]) (by kernel_rfl) (by simp) ?_
              refine AllReadyIn.cons rfl (fun K hK => ?_) ?_
              · go_simp
                refine hK _ _ ?_
                clear hK K
                refine wpAnyIn_done (by kernel_rfl) ?_ _
                refine ⟨round_end HG4.out hb6 (by omega) hlt (Nat.le_refl _) _, ⟨_, hv6.set _, ?_⟩, ?_⟩
                · have := ownsRow_setCell_below HO6.out (a := ⟨w.heap.size + 1, 0, none⟩) (show w.heap.size + 1 < w.heap.size + 6 by omega) (.slice (some ⟨g, 0, none⟩) (pre.length + 1) cap)
                  simpa using this
                · exact ((hB.trans (HG4.out.mono hB.size)).trans (hb6.mono (by omega))).setCell (p := ⟨w.heap.size + 1, 0, none⟩) (show w.heap.size ≤ w.heap.size + 1 by omega) _
              exact AllReadyIn.nil
            exact AllReadyIn.nil
          exact AllReadyIn.nil
        exact AllReadyIn.nil
      exact AllReadyIn.nil
    refine AllReadyIn.cons rfl (fun K hK => ?_) ?_
    · go_simp
      refine hK _ _ ?_
      clear hK K
      refine wpAnyIn_ready (rs := [0, 2]) (by kernel_rfl) (by simp) ?_
      refine AllReadyIn.cons rfl (fun K hK => ?_) ?_
      · go_simp
        refine hK _ _ ?_
        clear hK K
        refine wpAnyIn_ready (rs := [2]) (by kernel_rfl) (by simp) ?_
        refine AllReadyIn.cons rfl (fun K hK => ?_) ?_
        · go_simp
          gi_wp2_with (refine ⟨trivial, ?_⟩; gi_at_call 33; refine (CallsIn.inRound l (callsIn_wide.2 (itoa_any x hx _ (Ht.out.keep (Below.refl _ W).drew)))).mono ?_; rintro e w4 ⟨rfl, hb4⟩; have HG4 := hidIn (Below.trans (Below.refl _ W).drew hb4); have hv4 := hv.kept (grown_none HG4.out) (by simp); have hc4 := hv4.cell; have hc5 := (hv4.alloc (.cells #[.string ⟨(num x).toArray⟩] 9)).cell; obtain ⟨g, cap, w6, hrun, hown6, hv6, hb6⟩ := append_row (P := Tryd.prog) Tryd.underlying45 hi hz0 hz1 hz2 rfl (by decide) hv4 (row_none hrow HG4.out) (u := .string ⟨(num x).toArray⟩) rfl (by omega) (by omega) (by have := HG4.out.size; omega); have HO6 := hidIn hown6; have HR := hidIn hrun; have hc6 := hv6.cell; have hf6 := hv6.frozen; clear hown6 hrun)
          refine wpAnyIn_ready (rs := [3]) (by kernel_rfl) (by simp) ?_
          refine AllReadyIn.cons rfl (fun K hK => ?_) ?_
          · go_simp
            refine hK _ _ ?_
            clear hK K
            refine wpAnyIn_ready (rs := [4]) (by kernel_rfl) (by simp) ?_
            refine AllReadyIn.cons rfl (fun K hK => ?_) ?_
            · refine stepIn_append rfl (.tmp 11) (.tmp 14) 45 rfl HR.out ?_
              refine hK _ _ ?_
              clear hK K
              simp only [Act.put, List.setIfInBounds_toArray]
              refine wpAnyIn_ready (rs := [5]) (by kernel_rfl) (by simp) ?_
              refine AllReadyIn.cons rfl (fun K hK => ?_) ?_
              · go_simp
                refine hK _ _ ?_
                clear hK K
                refine wpAnyIn_done (by kernel_rfl) ?_ _
                refine ⟨round_end HG4.out hb6 (by omega) hlt (Nat.le_refl _) _, ⟨_, hv6.set _, ?_⟩, ?_⟩
                · have := ownsRow_setCell_below HO6.out (a := ⟨w.heap.size + 1, 0, none⟩) (show w.heap.size + 1 < w.heap.size + 6 by omega) (.slice (some ⟨g, 0, none⟩) (pre.length + 1) cap)
                  simpa using this
                · exact ((hB.trans (HG4.out.mono hB.size)).trans (hb6.mono (by omega))).setCell (p := ⟨w.heap.size + 1, 0, none⟩) (show w.heap.size ≤ w.heap.size + 1 by omega) _
              exact AllReadyIn.nil
            exact AllReadyIn.nil
          exact AllReadyIn.nil
        exact AllReadyIn.nil
      refine AllReadyIn.cons rfl (fun K hK => ?_) ?_
      · go_simp
        gi_wp2_with (refine ⟨trivial, ?_⟩; gi_at_call 33; refine (CallsIn.inRound l (callsIn_wide.2 (itoa_any x hx _ (Ht.out.keep (Below.refl _ W).drew)))).mono ?_; rintro e w4 ⟨rfl, hb4⟩; have HG4 := hidIn (Below.trans (Below.refl _ W).drew hb4); have hv4 := hv.kept (grown_none HG4.out) (by simp); have hc4 := hv4.cell; have hc5 := (hv4.alloc (.cells #[.string ⟨(num x).toArray⟩] 9)).cell; obtain ⟨g, cap, w6, hrun, hown6, hv6, hb6⟩ := append_row (P := Tryd.prog) Tryd.underlying45 hi hz0 hz1 hz2 rfl (by decide) hv4 (row_none hrow HG4.out) (u := .string ⟨(num x).toArray⟩) rfl (by omega) (by omega) (by have := HG4.out.size; omega); have HO6 := hidIn hown6; have HR := hidIn hrun; have hc6 := hv6.cell; have hf6 := hv6.frozen; clear hown6 hrun)
        refine wpAnyIn_ready (rs := [0, 3]) (by kernel_rfl) (by simp) ?_
        refine AllReadyIn.cons rfl (fun K hK => ?_) ?_
        · go_simp
          refine hK _ _ ?_
          clear hK K
          refine wpAnyIn_ready (rs := [3]) (by kernel_rfl) (by simp) ?_
          refine AllReadyIn.cons rfl (fun K hK => ?_) ?_
          · go_simp
            refine hK _ _ ?_
            clear hK K
            refine wpAnyIn_ready (rs := [4]) (by kernel_rfl) (by simp) ?_
            refine AllReadyIn.cons rfl (fun K hK => ?_) ?_
            · refine stepIn_append rfl (.tmp 11) (.tmp 14) 45 rfl HR.out ?_
              refine hK _ _ ?_
              clear hK K
              simp only [Act.put, List.setIfInBounds_toArray]
              refine wpAnyIn_ready (rs := [5]) (by kernel_rfl) (by simp) ?_
              refine AllReadyIn.cons rfl (fun K hK => ?_) ?_
              · go_simp
                refine hK _ _ ?_
                clear hK K
                refine wpAnyIn_done (by kernel_rfl) ?_ _
                refine ⟨round_end HG4.out hb6 (by omega) hlt (Nat.le_refl _) _, ⟨_, hv6.set _, ?_⟩, ?_⟩
                · have := ownsRow_setCell_below HO6.out (a := ⟨w.heap.size + 1, 0, none⟩) (show w.heap.size + 1 < w.heap.size + 6 by omega) (.slice (some ⟨g, 0, none⟩) (pre.length + 1) cap)
                  simpa using this
                · exact ((hB.trans (HG4.out.mono hB.size)).trans (hb6.mono (by omega))).setCell (p := ⟨w.heap.size + 1, 0, none⟩) (show w.heap.size ≤ w.heap.size + 1 by omega) _
              exact AllReadyIn.nil
            exact AllReadyIn.nil
          exact AllReadyIn.nil
        refine AllReadyIn.cons rfl (fun K hK => ?_) ?_
        · go_simp
          refine hK _ _ ?_
          clear hK K
          refine wpAnyIn_ready (rs := [0]) (by kernel_rfl) (by simp) ?_
          refine AllReadyIn.cons rfl (fun K hK => ?_) ?_
          · go_simp
            refine hK _ _ ?_
            clear hK K
            refine wpAnyIn_ready (rs := [4]) (by kernel_rfl) (by simp) ?_
            refine AllReadyIn.cons rfl (fun K hK => ?_) ?_
            · refine stepIn_append rfl (.tmp 11) (.tmp 14) 45 rfl HR.out ?_
              refine hK _ _ ?_
              clear hK K
              simp only [Act.put, List.setIfInBounds_toArray]
              refine wpAnyIn_ready (rs := [5]) (by kernel_rfl) (by simp) ?_
              refine AllReadyIn.cons rfl (fun K hK => ?_) ?_
              · go_simp
                refine hK _ _ ?_
                clear hK K
                refine wpAnyIn_done (by kernel_rfl) ?_ _
                refine ⟨round_end HG4.out hb6 (by omega) hlt (Nat.le_refl _) _, ⟨_, hv6.set _, ?_⟩, ?_⟩
                · have := ownsRow_setCell_below HO6.out (a := ⟨w.heap.size + 1, 0, none⟩) (show w.heap.size + 1 < w.heap.size + 6 by omega) (.slice (some ⟨g, 0, none⟩) (pre.length + 1) cap)
                  simpa using this
                · exact ((hB.trans (HG4.out.mono hB.size)).trans (hb6.mono (by omega))).setCell (p := ⟨w.heap.size + 1, 0, none⟩) (show w.heap.size ≤ w.heap.size + 1 by omega) _
              exact AllReadyIn.nil
            exact AllReadyIn.nil
          exact AllReadyIn.nil
        exact AllReadyIn.nil
      exact AllReadyIn.nil
    exact AllReadyIn.nil
  case done =>
    rintro D W hD ⟨⟨v, hv, hrow⟩, hB⟩ hK
    have hlen : (lst N).length ≤ 256 := by have := cntTo_le 256 N; rw [← lst_length] at this; exact this
    have hpos : 0 < (lst N).length := by
      cases hl : lst N with
      | nil => exact absurd (lst_nil hN hl) hz
      | cons a r => simp
    obtain ⟨g, cap, rfl, hg1, hg2⟩ := hrow.form hpos
    have hJ := Tryd.strings_Join g 0 cap ((lst N).map fun m => ⟨(num m).toArray⟩) ⟨#[32]⟩ W (by
        intro j y hy
        rw [List.getElem?_map] at hy
        cases hj : (lst N)[j]? with
        | none => rw [hj] at hy; cases hy
        | some m =>
          rw [hj] at hy
          have hlt : j < (lst N).length := (List.getElem?_eq_some_iff.1 hj).1
          have := hrow.cellAt j (by omega)
          rw [Nat.zero_add, this, List.getElem?_map, hj]
          simp at hy
          simp [hy]) hg2 (by simp; omega) (by
            rcases hrow.2 with ⟨h, _⟩ | ⟨g', cap', cur, h, _, _, hle, _⟩
            · cases h
            · cases h; simpa using hle) (by
            have h1 : ((lst N).map fun m => (⟨(num m).toArray⟩ : ByteArray)).map (·.data.toList) = (lst N).map num := by simp
            rw [h1]
            have := txt_length (lst N) (fun m hm => (mem_lst.1 hm).1) hlen
            unfold txt at this
            simp only
            omega)
    have h1 : ((lst N).map fun m => (⟨(num m).toArray⟩ : ByteArray)).map (·.data.toList) = (lst N).map num := by simp
    rw [h1, List.length_map] at hJ
    have HJ : Hid (Calls Tryd.prog 34 #[.slice (some ⟨g, 0, none⟩) (lst N).length cap, .string ⟨#[32]⟩] W fun e w' => e = .returned (.string ⟨(txt (lst N)).toArray⟩) ∧ Below W.heap.size W w') := hJ
    clear h1
    have hc := hv.cell
    clear hJ
    gi_wp2_with (refine ⟨trivial, ?_⟩; gi_at_call 34; refine (callsIn_wide.2 HJ.out).mono ?_; rintro e w7 ⟨rfl, hb7⟩)
    have hD7 : w7.heap[D]? = some (.deferred (some [])) := (hb7.block D (Array.getElem?_eq_some_iff.1 hK).1).trans hK
    refine ⟨by simp, .inl ⟨_, _, rfl, run_takeDeferred hD7, ?_⟩⟩
    exact ⟨_, results_tmp rfl _ _ _, rfl, (hB.trans (hb7.mono hB.size)).trans (belowK_b (w := w) (Nat.le_refl _) w7 D _ _ (by rw [sV] at hD; omega) hD7 rfl rfl)⟩
end Go.Proofs.YtjpnbjfomikhaaaDoor
