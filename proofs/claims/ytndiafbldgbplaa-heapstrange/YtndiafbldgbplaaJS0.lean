/- dandelionlaw05.strange, and the order that HeapStrange makes of it; counts. -/
import Derived.Test.YtndiafbldgbplaaJM
import Derived.Test.YtndiafbldgbplaaJQ
import Derived.Laws.MakeOwn
import Derived.Deep.OwnRows
namespace Go.Proofs.Ytndiafbldgbplaa
open Go.RowKit

/-- What the table answers. -/
def wl (N a b : Nat) : Bool := (bits BinOp.and IntKind.u64 ((N : Int) / 2 ^ ((7 * a + b) % 64)) 1 == 1)
theorem strange_any (N : Nat) (hN : N < 2 ^ 64) (a b : Nat) (ha : a < 8) (hb : b < 8) (w : World) : Calls Try.prog 20 #[.int .u64 (N : Int), .int .i64 (a : Int), .int .i64 (b : Int)] w fun e w' => e = .returned (.bool (wl N a b)) ∧ w' = w := by
  unfold wl
  obtain ⟨n, hn⟩ : ∃ n : Nat, (7 * a + b) % 64 = n := ⟨_, rfl⟩
  have hn' : Int.tmod (7 * (a : Int) + (b : Int)) 64 = (n : Int) := by
    rw [← hn]
    have : (7 * (a : Int) + (b : Int)) = ((7 * a + b : Nat) : Int) := by omega
    rw [this]
    exact (Int.ofNat_tmod (7 * a + b) 64).symm
  have hn64 : n < 64 := by omega
  have hN2 : (N : Int) < 18446744073709551616 := by omega
  rw [hn]
  clear hn
  go_enter Try.func20, Try.ntmps20
  go_wp2
  go_ret
  exact ⟨rfl, rfl⟩
theorem wild_any (N : Nat) (hN : N < 2 ^ 64) (s : Nat) (a b : Int) (ha : 0 ≤ a ∧ a ≤ 255) (hb : 0 ≤ b ∧ b ≤ 255) (w : World) (hw : w.heap[s]? = some (.cells #[.int .u64 (N : Int)] 45)) : Calls Try.prog 19 #[.int .i64 a, .int .i64 b, .pointer (some ⟨s, 0, none⟩)] w fun e w' => e = .returned (.bool (wl N (a.toNat % 8) (b.toNat % 8))) ∧ Below w.heap.size w w' := by
  obtain ⟨x, rfl⟩ := Int.eq_ofNat_of_zero_le ha.1
  obtain ⟨y, rfl⟩ := Int.eq_ofNat_of_zero_le hb.1
  have hr := strange_any N hN (x % 8) (y % 8) (by omega) (by omega) w
  have h1 : Int.tmod (x : Int) 8 = ((x % 8 : Nat) : Int) := (Int.ofNat_tmod x 8).symm
  have h2 : Int.tmod (y : Int) 8 = ((y % 8 : Nat) : Int) := (Int.ofNat_tmod y 8).symm
  simp only [Int.toNat_natCast]
  have HS := hidIn hr
  have c0 := cell_of_row w s 0 _ _ _ hw
  simp at c0
  clear hw hr
  generalize x % 8 = p at *
  generalize y % 8 = q at *
  go_enter Try.func19, Try.ntmps19
  go_wp2_with (go_at_call 20; refine HS.out.mono ?_; rintro e w1 ⟨rfl, hw1⟩; rw [hw1]; clear hw1 w1)
  go_ret
  exact ⟨rfl, Below.refl _ _⟩
/-- The order by a table of bits. -/
def OW (N : Nat) (hN : N < 2 ^ 64) (s : Nat) : In.OrdS where
  f := 19
  caps := #[.pointer (some ⟨s, 0, none⟩)]
  B := s + 1
  I := fun w => w.heap[s]? = some (.cells #[.int .u64 (N : Int)] 45)
  D := fun a => 0 ≤ a ∧ a ≤ 255
  lt := fun a b => wl N (a.toNat % 8) (b.toNat % 8)
  call := fun a b w ha hb hI => wild_any N hN s a b ha hb w hI
  keep := fun w w' hI hb => (hb.block s (Nat.lt_succ_self _)).trans hI
  enter := fun args w => by kernel_rfl
  nil := fun w => by kernel_rfl
/-- Counts in memory. -/
structure HasC (w : World) (b : Nat) (c : Nat → Int) : Prop where
  c : ∀ j, j < 256 → w.cell? ⟨b, j, none⟩ = some (.int .i64 (c j))
  f : ∀ j, w.frozen? ⟨b, j, none⟩ = false
  lt : b < w.heap.size
theorem HasC.block {w w' : World} {b : Nat} {c : Nat → Int} (h : HasC w b c) (hb : w'.heap[b]? = w.heap[b]?) (hs : w.heap.size ≤ w'.heap.size) : HasC w' b c :=
  ⟨fun j hj => (World.cell?_of_block (a := ⟨b, j, none⟩) hb).trans (h.c j hj), fun j => (World.frozen?_of_block (a := ⟨b, j, none⟩) hb).trans (h.f j), Nat.lt_of_lt_of_le h.lt hs⟩
theorem HasC.set {w : World} {b : Nat} {c : Nat → Int} (h : HasC w b c) (s : Nat) (hs : s < 256) (z : Int) : HasC (w.setCell ⟨b, s, none⟩ (.int .i64 z)) b (fun j => if j = s then z else c j) := by
  refine ⟨fun j hj => ?_, fun j => by rw [World.frozen?_setCell]; exact h.f j, by simpa using h.lt⟩
  by_cases e : j = s
  · subst e
    rw [World.cell?_setCell_same' _ _ _ (by rw [h.c j hj]; rfl)]
    simp
  · rw [World.cell?_setCell_other _ _ _ _ (by intro h; have := congrArg Addr.off h; simp at this; exact e this.symm), h.c j hj]
    simp [e]
theorem hasC_made (w : World) : HasC (w.alloc (.cells (madeCells #[.int .i64 0] 256) 3)) w.heap.size (fun _ => 0) := by
  have hh := heap_alloc_new w (.cells (madeCells #[.int .i64 0] 256) 3)
  refine ⟨fun j hj => ?_, fun j => frozen_new hh j, by simp⟩
  rw [cell_of_row _ _ j _ _ _ hh]
  simp [madeCells, hj, Nat.mod_one]
theorem make_counts (W : World) : (Instr.makeSlice 51 (.int .i64 256) (.int .i64 256)).run Try.prog W = .ok (.slice (some ⟨W.heap.size, 0, none⟩) 256 256) (W.alloc (.cells (madeCells #[.int .i64 0] 256) 3)) :=
  run_make_row' (P := Try.prog) 51 3 (.int .i64 0) 8 Try.underlying51 In.infoNum rfl .i64 .i64 256 (by omega) (by omega) W
/-- How often a number stands in a list. -/
def cnt (l : List Int) (j : Nat) : Int := (l.count (j : Int) : Nat)
theorem cnt_snoc (l : List Int) (x j : Nat) : cnt (l ++ [(x : Int)]) j = if j = x then cnt l x + 1 else cnt l j := by
  unfold cnt
  rw [List.count_append, List.count_singleton]
  by_cases e : j = x
  · subst e; simp
  · have : ((x : Int) == (j : Int)) = false := by simp; omega
    simp [e, this]
theorem cnt_le (l : List Int) (j : Nat) : 0 ≤ cnt l j ∧ cnt l j ≤ l.length := by
  unfold cnt
  have := @List.count_le_length _ _ (j : Int) l
  omega
theorem out_perm {α : Type} (lt : α → α → Bool) (es : List (α × Int)) : ∀ k, k ≤ es.length → (outN lt es k ++ (popN lt k es).map Prod.fst).Perm (es.map Prod.fst)
  | 0, _ => by simp [outN, popN]
  | k + 1, h => by
    obtain ⟨a, ha⟩ := popN_head lt (show k < es.length by omega)
    refine List.Perm.trans ?_ (out_perm lt es k (by omega))
    rw [outN_next lt ha, popN, List.append_assoc]
    exact List.Perm.append_left _ (((pop_cons lt ha).map Prod.fst).symm)
theorem sort_perm {α : Type} (lt : α → α → Bool) (l : List α) : (sortL lt l).Perm l := by
  have h := out_perm lt (fillL lt l) l.length (by rw [fillL_length]; exact Nat.le_refl _)
  have h2 : popN lt l.length (fillL lt l) = [] := List.length_eq_zero_iff.1 (by rw [popN_length, fillL_length]; omega)
  rw [h2] at h
  simp only [List.map_nil, List.append_nil] at h
  have h3 := (fill_perm lt l).map Prod.fst
  have h4 : ∀ (l : List α) (s : Nat), (ents s l).map Prod.fst = l := by
    intro l
    induction l with
    | nil => intro s; rfl
    | cons x l ih => intro s; rw [ents, List.map_cons, ih]
  rw [h4] at h3
  exact h.trans h3
end Go.Proofs.Ytndiafbldgbplaa
