/- bits.List: the bits, rising, in a row of the call's own. -/
import Derived.Test.YtjpnbjfomikhaaaDoorT1
import Derived.Test.YtjpnbjfomikhaaaDoorW4
import Derived.Laws.MakeOwn
namespace Go.Proofs.YtjpnbjfomikhaaaDoor
open Go.RowKit Go.Shelf

attribute [local go_sem] Oper.semAt_some

theorem linfoInt : (Tryd.prog.info? 3).map (fun i => (i.zero, i.size, i.bytes)) = some (some (.int .i64 0), 1, 8) := by kernel_rfl
/-- Bits as values. -/
def iv (l : List Nat) : List Value := l.map fun m : Nat => Value.int .i64 ((m : Int) + 1)
theorem iv_snoc (l : List Nat) (m : Nat) : iv (l ++ [m]) = iv l ++ [.int .i64 ((m : Int) + 1)] := by simp [iv]
theorem make_ints (c : Nat) (hc : c ≤ 256) (w : World) : (Instr.makeSlice 31 (.int .i64 0) (.int .i64 (c : Int))).run Tryd.prog w = .ok (.slice (some ⟨w.heap.size, 0, none⟩) 0 c) (w.alloc (.cells (madeCells #[.int .i64 0] c) 3)) := by
  obtain ⟨i0, hi, hz0, hz1, hz2⟩ := info_parts linfoInt
  have := run_make (P := Tryd.prog) w 31 3 i0 (.int .i64 0) Tryd.underlying31 hi hz0 .i64 .i64 0 c (Int.le_refl _) (by omega) (by rw [hz2]; omega) (by omega)
  rw [hz1, Nat.mul_one] at this
  simpa [Value.cells] using this

theorem grown_set (W : World) (B : Nat) (v : Value) : W.grownBy (W.setCell ⟨B, 0, none⟩ v) (some B) :=
  ⟨rfl, rfl, rfl, by simp, fun k _ hk => Below.heap_setCell W ⟨B, 0, none⟩ v k (fun e => hk (by rw [e]))⟩

set_option maxRecDepth 100000 in
set_option maxHeartbeats 1000000 in
theorem list_any (N : Nat) (hN : N < 2 ^ 256) (w : World) (ht : Tabs w) :
    Calls Tryd.prog 21 #[bs N] w fun e w' => ∃ v, e = .returned v ∧ w'.ownsRow (w.heap.size + 1) 3 1 v (lst N).length (iv (lst N)) ∧ Below w.heap.size w w' := by
  have hc : cntTo 256 N = (lst N).length := (lst_length N).symm
  have hlen : (lst N).length ≤ 256 := by have := cntTo_le 256 N; rw [hc] at this; exact this
  have hC := count_any N
  rw [hc] at hC
  have HC := hidIn hC
  have hmk := make_ints (lst N).length hlen
  clear hC hc
  obtain ⟨i0, hi, hz0, hz1, hz2⟩ := info_parts linfoInt
  unfold bs
  refine (callsIn_wide (n := 5)).1 ?_
  refine callsIn_of_wp_marks Tryd.func21 rfl trivial ?_ rfl
  simp only [Tryd.ntmps21, List.size_toArray, List.length_cons, List.length_nil, Nat.reduceAdd, Nat.reduceSub, Array.replicate_succ, Array.replicate_zero, List.push_toArray, List.append_toArray, List.nil_append, List.cons_append]
  gi_wp2_with (refine ⟨trivial, ?_⟩; gi_at_call 9; refine (callsIn_wide.2 (HC.out _)).mono ?_; rintro e w1 ⟨rfl, hb1⟩; have hN1 := (hasBs_new w N).keep hb1 (by simp); obtain ⟨c0, c1, c2, c3, _, _, _, _, _⟩ := hN1)
  have hs1 : w.heap.size + 1 ≤ w1.heap.size := by simpa using hb1.size
  have b1 : Below w.heap.size w w1 := ((Below.refl _ w).alloc (Nat.le_refl _) _).trans (hb1.mono (by simp))
  clear hb1 hmk HC c0 c1 c2 c3
  refine ⟨trivial, ?_⟩
  refine (callsIn_wide.2 (each_any N _)).mono ?_
  rintro e w' ⟨rfl, rfl⟩
  generalize hLen : (lst N).length = len at hlen ⊢
  have rV := (World.ownsRow_made (base := w.heap.size + 1) (e := 3) (size := 1) w1 (madeCells #[.int .i64 0] len) len (by omega) (by unfold maxLen; omega) (by rw [size_madeCells, Nat.mul_one]))
  generalize hV : ((w1.alloc _).alloc _).alloc _ = V
  have sV : V.heap.size = w1.heap.size + 3 := by rw [← hV]; simp
  have bV : Below w.heap.size w V := by rw [← hV]; exact ((b1.alloc b1.size _).alloc (by simp; omega) _).alloc (by simp; omega) _
  have nV : HasBs V (w1.heap.size + 2) N := by
    have := hasBs_new ((w1.alloc (.cells (madeCells #[.int .i64 0] len) 3)).alloc (.cells #[.slice (some ⟨w1.heap.size, 0, none⟩) 0 len] 31)) N
    rw [hV] at this
    simpa using this
  have xV : Boxed V (w1.heap.size + 1) 31 (.slice (some ⟨w1.heap.size, 0, none⟩) 0 len) := by
    have := (Boxed.new (w1.alloc (.cells (madeCells #[.int .i64 0] len) 3)) 31 (.slice (some ⟨w1.heap.size, 0, none⟩) 0 len)).alloc (.cells #[.int .u64 (wd N 0), .int .u64 (wd N 1), .int .u64 (wd N 2), .int .u64 (wd N 3)] 24)
    rw [hV] at this
    simpa using this
  have oV : V.ownsRow (w.heap.size + 1) 3 1 (.slice (some ⟨w1.heap.size, 0, none⟩) 0 len) 0 [] := by
    rw [← hV]
    exact (rV.alloc _).alloc _
  clear hV rV
  have HL := hidIn hLen
  clear hLen
  gi_wp2
  refine wpIn_each (T := Tabs) rfl (by omega) (gf := 39) (lb := #[.pointer (some ⟨w1.heap.size + 1 + 1, 0, none⟩)]) rfl trivial (enters_of Tryd.func39 (by kernel_rfl) rfl) (each_gives N (w1.heap.size + 2) 4 hN (by omega) V nV) (fun _ => rfl)
    (fun pre W => (Boxed W (w1.heap.size + 1) 31 (.slice (some ⟨w1.heap.size, 0, none⟩) pre.length len) ∧ W.ownsRow (w.heap.size + 1) 3 1 (.slice (some ⟨w1.heap.size, 0, none⟩) pre.length len) pre.length (iv pre)) ∧ Below w.heap.size w W)
    (fun s A h => ht.keep h.2) ?own ⟨⟨xV, oV⟩, bV⟩
    (fun x => { tmps := #[.agg #[.int .u64 (wd N 0), .int .u64 (wd N 1), .int .u64 (wd N 2), .int .u64 (wd N 3)], .pointer (some ⟨w.heap.size, 0, none⟩), .slice none 0 0, .pointer (some ⟨w1.heap.size + 1, 0, none⟩), .int .i64 ((x : Int) + 1), .agg #[.int .u64 (wd N 0), .int .u64 (wd N 1), .int .u64 (wd N 2), .int .u64 (wd N 3)], .int .i64 (len : Int), .slice (some ⟨w1.heap.size, 0, none⟩) 0 len, .agg #[.int .u64 (wd N 0), .int .u64 (wd N 1), .int .u64 (wd N 2), .int .u64 (wd N 3)], .func (.func 39) #[] #[.pointer (some ⟨w1.heap.size + 1 + 1, 0, none⟩)], .int .i64 ((x : Int) + 1), undef, undef, undef, undef, undef], defers := [] }) ?assign ?body ?done
  case own =>
    rintro s A A' q ⟨⟨hv, hr⟩, hb⟩ hg h1 h2
    rw [sV] at h1 h2
    refine ⟨⟨hv.kept hg (by simp; omega), hr.kept hg (.inr (by simp [Value.ownBlock]; omega))⟩, hb.grown hg hb.size (fun k e => by cases e; omega)⟩
  case assign =>
    intro l x W K hK
    gi_wp2
    exact hK
  case body =>
    rintro l pre x W ⟨⟨hv, hrow⟩, hB⟩ hpre hlt
    rw [sV] at hlt ⊢
    have hfit : pre.length + 1 ≤ len := by
      have h1 := hpre.length_le
      rw [HL.out] at h1
      simpa using h1
    have hc := hv.cell
    have HV := hidIn hv
    have HR := hidIn hrow
    have HBel := hidIn hB
    have SV := hidIn sV
    clear hpre hv hrow hB sV bV nV xV oV
    gi_wp2_with (gi_at_builtin; refine wpListIn_append_fits _ rfl _ _ 31 rfl (w.heap.size + 1) 3 i0 1 Tryd.underlying31 hi hz1 w1.heap.size pre.length len (iv pre) rfl (HR.out.alloc _) ⟨W.heap.size, 0, none⟩ 1 1 [.int .i64 ((x : Int) + 1)] rfl rfl (cell_one_new _ _ _) (by simp [Value.oneCell']) hfit ?_; intro w6 hown6 hg6; have hv6 := (HV.out.alloc (.cells #[.int .i64 ((x : Int) + 1)] 3)).kept hg6 (by simp); have hc6 := hv6.cell; have hf6 := hv6.frozen)
    have hsz : (W.alloc (.cells #[.int .i64 ((x : Int) + 1)] 3)).heap.size = W.heap.size + 1 := by simp
    have k6 : ∀ q, w1.heap.size + 1 < q → q < W.heap.size → (w6.setCell ⟨w1.heap.size + 1, 0, none⟩ (.slice (some ⟨w1.heap.size, 0, none⟩) (pre.length + 1) len)).heap[q]? = W.heap[q]? := by
      intro q h1 h2
      rw [Below.heap_setCell w6 ⟨w1.heap.size + 1, 0, none⟩ _ q (by show q ≠ w1.heap.size + 1; omega), hg6.block q (by rw [hsz]; omega) (by simp; omega)]
      exact Below.heap_alloc _ _ _ h2
    have s6 := hg6.size
    rw [hsz] at s6
    refine ⟨⟨k6 _ (by omega) (by omega), k6 _ (by omega) (by omega), k6 _ (by omega) (by omega), by simp; omega⟩, ⟨?_, ?_⟩, ?_⟩
    · have := hv6.set (.slice (some ⟨w1.heap.size, 0, none⟩) (pre.length + 1) len)
      simpa using this
    · have := hown6.kept (grown_set w6 (w1.heap.size + 1) (.slice (some ⟨w1.heap.size, 0, none⟩) (pre.length + 1) len)) (.inr (by simp [Value.ownBlock]))
      rw [← iv_snoc] at this
      simpa using this
    · exact ((HBel.out.alloc HBel.out.size _).grown hg6 (by rw [hsz]; have := HBel.out.size; omega) (fun j e => by cases e; omega)).setCell (p := ⟨w1.heap.size + 1, 0, none⟩) (show w.heap.size ≤ w1.heap.size + 1 by omega) _
  case done =>
    rintro D W hD ⟨⟨hv, hrow⟩, hB⟩ hK
    have hc := hv.cell
    have HR := hidIn hrow
    clear hrow
    gi_wp2
    refine ⟨by simp, .inl ⟨_, _, rfl, run_takeDeferred hK, ?_⟩⟩
    rw [sV] at hD
    exact ⟨_, results_tmp rfl _ _ _, .slice (some ⟨w1.heap.size, 0, none⟩) (lst N).length len, rfl, HR.out.kept (grownBy_putObj' W D _) (.inr (by simp [Value.ownBlock]; omega)), hB.trans (belowK_b (w := w) (Nat.le_refl _) W D _ _ (by omega) hK rfl rfl)⟩
end Go.Proofs.YtjpnbjfomikhaaaDoor
