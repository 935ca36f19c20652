/- sets.Join: what it answers, and its walk. -/
import Derived.Test.YtjcbbifjhoemaaaDoorSB
namespace Go.Proofs.YtjcbbifjhoemaaaDoor
open Go.RowKit

theorem lt_of_lst {N W m : Nat} (h : bl N ≤ W) (hm : m ∈ lst N) : m < W := by
  have h1 := bl_le.1 h
  have h2 := (mem_lst.1 hm).2
  exact Nat.lt_of_not_le (fun hle => by
    have : N < 2 ^ m := Nat.lt_of_lt_of_le h1 (Nat.pow_le_pow_right (by decide) hle)
    rw [Nat.testBit_lt_two_pow this] at h2
    cases h2)
/-- What has come: a bit string for each set, and which sets were there. -/
abbrev JSt : Type := (Nat → Nat) × (Nat → Bool)
/-- A set is taken. -/
def updT (T : Nat → Bool) (s : Nat) : Nat → Bool := fun i => if i = s then true else T i
/-- One part more. -/
def jstep (W : Nat) (st : JSt) (p : Int × Nat) : Except Int JSt :=
  if 0 ≤ p.1 ∧ p.1 < 128 ∧ bl p.2 ≤ W then
    (if st.2 p.1.toNat = true then .error 7 else if (lst p.2).all (fun m => decide (p.1.toNat * W + m + 1 ≤ 1024)) = true then .ok (upd st.1 p.1.toNat p.2, updT st.2 p.1.toNat) else .error 3)
  else .error 2
def jnext (W : Nat) (r : Except Int JSt) (p : Int × Nat) : Except Int JSt := match r with
  | .ok st => jstep W st p
  | .error e => .error e
def jrun (W : Nat) (ps : List (Int × Nat)) : Except Int JSt := ps.foldl (jnext W) (.ok (none0, fun _ => false))
theorem jrun_snoc (W : Nat) (ps : List (Int × Nat)) (p : Int × Nat) : jrun W (ps ++ [p]) = jnext W (jrun W ps) p := by simp [jrun, List.foldl_append]
theorem jrun_err {W : Nat} {e : Int} (l : List (Int × Nat)) : l.foldl (jnext W) (.error e) = .error e := by
  induction l with
  | nil => rfl
  | cons p l ih => exact ih
theorem jtake_next {ps : List (Int × Nat)} {k : Nat} {p : Int × Nat} (h : ps[k]? = some p) : ps.take (k + 1) = ps.take k ++ [p] := by
  rw [List.take_add_one, h]; rfl
theorem jrun_stop {W k : Nat} {e : Int} {ps : List (Int × Nat)} {p : Int × Nat} {st : JSt} (hk : ps[k]? = some p) (h1 : jrun W (ps.take k) = .ok st) (h2 : jstep W st p = .error e) : jrun W ps = .error e := by
  have h3 : jrun W (ps.take (k + 1)) = .error e := by rw [jtake_next hk, jrun_snoc, h1]; exact h2
  have h4 : ps = ps.take (k + 1) ++ ps.drop (k + 1) := (List.take_append_drop _ _).symm
  rw [h4]
  unfold jrun at h3 ⊢
  rw [List.foldl_append, h3]
  exact jrun_err _
/-- The cells of a part. -/
abbrev prt (p : Int × Nat) : List Value := [.int .i64 p.1, .int .u64 (wd p.2 0), .int .u64 (wd p.2 1), .int .u64 (wd p.2 2), .int .u64 (wd p.2 3)]
/-- Parts in memory. -/
structure PartsIn (w : World) (bk o : Nat) (ps : List (Int × Nat)) : Prop where
  lt : bk < w.heap.size
  len : ps.length ≤ 9223372036854775807
  r : ∀ j p, ps[j]? = some p → w.rangeAt bk (o + j * 5) (prt p)
  bits : ∀ p ∈ ps, p.2 < 2 ^ 256
theorem PartsIn.keep {w w' : World} {bk o : Nat} {ps : List (Int × Nat)} (h : PartsIn w bk o ps) (hb : Below w.heap.size w w') : PartsIn w' bk o ps :=
  ⟨Nat.lt_of_lt_of_le h.lt hb.size, h.len, fun j p hp i v hv => (hb.cell (p := ⟨bk, o + j * 5 + i, none⟩) h.lt).trans (h.r j p hp i v hv), h.bits⟩
/-- The 128 cells of 'taken'. -/
def tl (T : Nat → Bool) : List Value := (List.range 128).map fun i => .bool (T i)
def noneT : Nat → Bool := fun _ => false
theorem tl_len (T : Nat → Bool) : (tl T).length = 128 := by simp [tl]
theorem info_tk : (Tryd.prog.info? 54).map (fun i => (i.zero, i.size)) = some (some (.agg (tl noneT).toArray), 128) := by kernel_rfl
theorem zero_tk (w : World) : (zeroValue 54).run Tryd.prog w = .ok (.agg (tl noneT).toArray) w := (zero_of_info info_tk).1 w
structure HasT (w : World) (b : Nat) (T : Nat → Bool) : Prop where
  c : ∀ j, j < 128 → w.cell? ⟨b, j, none⟩ = some (.bool (T j))
  f : ∀ j, j < 128 → w.frozen? ⟨b, j, none⟩ = false
  lt : b < w.heap.size
theorem tl_get (T : Nat → Bool) (j : Nat) (h : j < 128) : (tl T)[j]? = some (.bool (T j)) := by
  simp only [tl, List.getElem?_map]
  rw [List.getElem?_range h]
  rfl
theorem hasT_new (w : World) (T : Nat → Bool) : HasT (w.alloc (.cells (tl T).toArray 54)) w.heap.size T := by
  have hh := heap_alloc_last w (.cells (tl T).toArray 54)
  refine ⟨fun j hj => ?_, fun j hj => ?_, by simp⟩
  · rw [cell_of_row _ _ j _ _ _ hh]
    have := tl_get T j hj
    simpa using this
  · unfold World.frozen?
    simp only [hh]
    simp
theorem HasT.keep {w w' : World} {b B : Nat} {T : Nat → Bool} (h : HasT w b T) (hb : Below B w w') (hB : b < B) : HasT w' b T :=
  ⟨fun j hj => (hb.cell (p := ⟨b, j, none⟩) hB).trans (h.c j hj), fun j hj => (hb.frozen (p := ⟨b, j, none⟩) hB).trans (h.f j hj), Nat.lt_of_lt_of_le h.lt hb.size⟩
theorem HasT.set {w : World} {b : Nat} {T : Nat → Bool} (h : HasT w b T) (s : Nat) (hs : s < 128) : HasT (w.setCell ⟨b, s, none⟩ (.bool true)) b (updT T s) := by
  refine ⟨fun j hj => ?_, fun j hj => by rw [World.frozen?_setCell]; exact h.f j hj, by simpa using h.lt⟩
  by_cases e : j = s
  · subst e
    rw [World.cell?_setCell_same' _ _ _ (by rw [h.c j hj]; rfl)]
    simp [updT]
  · rw [World.cell?_setCell_other _ _ _ _ (by intro h; cases h; exact e rfl), h.c j hj]
    simp [updT, e]
theorem HasT.other {w : World} {b : Nat} {T : Nat → Bool} (h : HasT w b T) {a : Addr} (ha : a.block ≠ b) (v : Value) : HasT (w.setCell a v) b T := by
  refine ⟨fun j hj => ?_, fun j hj => by rw [World.frozen?_setCell]; exact h.f j hj, by simpa using h.lt⟩
  rw [World.cell?_setCell_other _ _ _ _ (by intro h; cases h; exact ha rfl), h.c j hj]
theorem hasAll_other {w : World} {b : Nat} {f : Nat → Nat} (h : HasAll w b f) {a : Addr} (ha : a.block ≠ b) (v : Value) : HasAll (w.setCell a v) b f := by
  refine ⟨fun j u hv => ?_, fun j hj => ⟨?_, by rw [World.frozen?_setCell]; exact (h.t j hj).2⟩, by simpa using h.lt⟩
  · rw [World.cell?_setCell_other _ _ _ _ (by intro h; cases h; exact ha rfl)]; exact h.r j u hv
  · rw [World.cell?_setCell_other _ _ _ _ (by intro h; cases h; exact ha rfl)]; exact (h.t j hj).1
theorem join_bad (v : Value) (W : Int) (h : ¬ IsW W) (w : World) (ht : Wid w) :
    Calls Tryd.prog 11 #[v, .int .i64 W] w fun e w' => e = .returned (.tuple #[.slice none 0 0, .int .i64 2]) ∧ Below w.heap.size w w' := by
  go_enter Tryd.func11, Tryd.ntmps11
  go_wp2_with (go_at_call 20; refine (wide_no W h _ ht).mono ?_; rintro e w1 ⟨rfl, rfl⟩)
  go_ret2
  exact ⟨rfl, Below.refl _ _⟩
end Go.Proofs.YtjcbbifjhoemaaaDoor
