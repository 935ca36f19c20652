/- Counts of steps, added; a tally in memory. -/
import Derived.Test.YtkkkjpdmjgafoaaG5
namespace Go.Proofs.Ytkkkjpdmjgafoaa
open Go.RowKit

/-- Two numbers together, at most 2^64 - 1. -/
def sadd (a b : Nat) : Nat := if 18446744073709551616 ≤ a + b then 18446744073709551615 else a + b
theorem sadd_lt {a b : Nat} : sadd a b < 18446744073709551616 := by unfold sadd; split <;> omega
theorem wrap_over {a b : Nat} (ha : a < 18446744073709551616) (hb : b < 18446744073709551616) (h : 18446744073709551616 ≤ a + b) : IntKind.u64.wrap ((a : Int) + (b : Int)) = ((a + b - 18446744073709551616 : Nat) : Int) := by
  simp [IntKind.wrap, IntKind.bits, IntKind.signed]
  omega
theorem wrap_in {a b : Nat} (h : ¬ 18446744073709551616 ≤ a + b) : IntKind.u64.wrap ((a : Int) + (b : Int)) = ((a + b : Nat) : Int) := by
  simp [IntKind.wrap, IntKind.bits, IntKind.signed]
  omega
/-- Counts, by their fields' numbers. -/
abbrev Cn := Nat → Nat
def OkC (c : Cn) : Prop := ∀ k, c k < 18446744073709551616
def addC (a b : Cn) : Cn := fun k => sadd (a k) (b k)
theorem addC_ok (a b : Cn) : OkC (addC a b) := fun _ => sadd_lt
def noC : Cn := fun _ => 0
theorem noC_ok : OkC noC := fun _ => by unfold noC; omega
abbrev cL (c : Cn) : List Value := [.int .u64 (c 0), .int .u64 (c 1), .int .u64 (c 2), .int .u64 (c 3), .int .u64 (c 4), .int .u64 (c 5)]
abbrev cV (c : Cn) : Value := .agg #[.int .u64 (c 0), .int .u64 (c 1), .int .u64 (c 2), .int .u64 (c 3), .int .u64 (c 4), .int .u64 (c 5)]
abbrev cO (c : Cn) : Obj := .cells #[.int .u64 (c 0), .int .u64 (c 1), .int .u64 (c 2), .int .u64 (c 3), .int .u64 (c 4), .int .u64 (c 5)] 37
abbrev cV0 : Value := .agg #[.int .u64 0, .int .u64 0, .int .u64 0, .int .u64 0, .int .u64 0, .int .u64 0]
abbrev cO0 : Obj := .cells #[.int .u64 0, .int .u64 0, .int .u64 0, .int .u64 0, .int .u64 0, .int .u64 0] 37
/-- Counts in a block of their own. -/
def setK (w : World) (b : Nat) (c : Cn) : World :=
  (((((w.setCell ⟨b, 0, none⟩ (.int .u64 (c 0))).setCell ⟨b, 1, none⟩ (.int .u64 (c 1))).setCell ⟨b, 2, none⟩ (.int .u64 (c 2))).setCell ⟨b, 3, none⟩ (.int .u64 (c 3))).setCell ⟨b, 4, none⟩ (.int .u64 (c 4))).setCell ⟨b, 5, none⟩ (.int .u64 (c 5))
theorem setK_block {w : World} {b : Nat} {x : Cn} (h : w.heap[b]? = some (cO x)) (c : Cn) : (setK w b c).heap[b]? = some (cO c) := by
  have h0 := heap_setCell_same w b 0 _ _ (.int .u64 (c 0)) h
  have h1 := heap_setCell_same _ b 1 _ _ (.int .u64 (c 1)) h0
  have h2 := heap_setCell_same _ b 2 _ _ (.int .u64 (c 2)) h1
  have h3 := heap_setCell_same _ b 3 _ _ (.int .u64 (c 3)) h2
  have h4 := heap_setCell_same _ b 4 _ _ (.int .u64 (c 4)) h3
  have h5 := heap_setCell_same _ b 5 _ _ (.int .u64 (c 5)) h4
  exact h5
theorem below_setK {B b : Nat} {w0 w : World} (h : Below B w0 w) (hB : B ≤ b) (c : Cn) : Below B w0 (setK w b c) :=
  (((((h.setCell (p := ⟨b, 0, none⟩) hB _).setCell (p := ⟨b, 1, none⟩) hB _).setCell (p := ⟨b, 2, none⟩) hB _).setCell (p := ⟨b, 3, none⟩) hB _).setCell (p := ⟨b, 4, none⟩) hB _).setCell (p := ⟨b, 5, none⟩) hB _
theorem underC : Try.prog.underlying 37 = some (.struct (Try.prog.fieldsOf 37)) := by kernel_rfl
theorem infoC : (Try.prog.info? 37).map (·.size) = some 6 := by kernel_rfl
theorem load_c {w : World} {b : Nat} {c : Cn} (h : w.heap[b]? = some (cO c)) : (loadVar 37 ⟨b, 0, none⟩).run Try.prog w = .ok (cV c) w :=
  run_loadVar_mid w b 0 37 (cL c) (.struct (Try.prog.fieldsOf 37)) (fun j v hv => by
    rw [Nat.zero_add, cell_of_row w b j _ _ _ h, List.getElem?_toArray]
    exact hv) underC rfl infoC
/-- The cells of counts, one behind the other. -/
def tcl (T : Nat → Cn) : List Value := (List.range 150).map fun i => .int .u64 (T (i / 6) (i % 6))
theorem tcl_len (T : Nat → Cn) : (tcl T).length = 150 := by simp [tcl]
theorem tcl_get (T : Nat → Cn) {j : Nat} (h : j < 150) : (tcl T)[j]? = some (.int .u64 (T (j / 6) (j % 6))) := by
  simp only [tcl, List.getElem?_map]; rw [List.getElem?_range h]; rfl
theorem tcl_at (T : Nat → Cn) {r k : Nat} (hr : r < 25) (hk : k < 6) : (tcl T)[r * 6 + k]? = some (.int .u64 (T r k)) := by
  rw [tcl_get T (by omega)]
  have h1 : (r * 6 + k) / 6 = r := by omega
  have h2 : (r * 6 + k) % 6 = k := by omega
  rw [h1, h2]
def putC (T : Nat → Cn) (r : Nat) (c : Cn) : Nat → Cn := fun i => if i = r then c else T i
/-- A tally's block. -/
abbrev tlV (T : Nat → Cn) : List Value := .bool true :: tcl T
def TaAt (w : World) (b : Nat) (T : Nat → Cn) : Prop := Arr w b 62 (tlV T)
theorem TaAt.made {w : World} {b : Nat} {T : Nat → Cn} (h : TaAt w b T) : w.cell? ⟨b, 0, none⟩ = some (.bool true) := Arr.cell h 0
theorem TaAt.cell {w : World} {b : Nat} {T : Nat → Cn} (h : TaAt w b T) {r k : Nat} (hr : r < 25) (hk : k < 6) : w.cell? ⟨b, 1 + r * 6 + k, none⟩ = some (.int .u64 (T r k)) := by
  have := Arr.cell h (1 + r * 6 + k)
  rw [this, show 1 + r * 6 + k = (r * 6 + k) + 1 from by omega, List.getElem?_cons_succ, tcl_at T hr hk]
theorem TaAt.keep {w w' : World} {b B : Nat} {T : Nat → Cn} (h : TaAt w b T) (k : Below B w w') (hB : b < B) : TaAt w' b T := Arr.keep h k hB
theorem TaAt.lt {w : World} {b : Nat} {T : Nat → Cn} (h : TaAt w b T) : b < w.heap.size := Arr.lt h
theorem TaAt.frozen {w : World} {b : Nat} {T : Nat → Cn} (h : TaAt w b T) (j : Nat) : w.frozen? ⟨b, j, none⟩ = false := Arr.frozen h j
/-- A router's counts turned. -/
def setC (w : World) (b r : Nat) (c : Cn) : World :=
  (((((w.setCell ⟨b, 1 + r * 6, none⟩ (.int .u64 (c 0))).setCell ⟨b, 1 + r * 6 + 1, none⟩ (.int .u64 (c 1))).setCell ⟨b, 1 + r * 6 + 2, none⟩ (.int .u64 (c 2))).setCell ⟨b, 1 + r * 6 + 3, none⟩ (.int .u64 (c 3))).setCell ⟨b, 1 + r * 6 + 4, none⟩ (.int .u64 (c 4))).setCell ⟨b, 1 + r * 6 + 5, none⟩ (.int .u64 (c 5))
theorem tcl_put (T : Nat → Cn) {r : Nat} (hr : r < 25) (c : Cn) : ((((((tlV T).set (1 + r * 6) (.int .u64 (c 0))).set (1 + r * 6 + 1) (.int .u64 (c 1))).set (1 + r * 6 + 2) (.int .u64 (c 2))).set (1 + r * 6 + 3) (.int .u64 (c 3))).set (1 + r * 6 + 4) (.int .u64 (c 4))).set (1 + r * 6 + 5) (.int .u64 (c 5)) = tlV (putC T r c) := by
  apply List.ext_getElem?
  intro m
  have hl : (tlV T).length = 151 := by simp [tcl_len]
  simp only [List.getElem?_set, List.length_set, hl]
  cases m with
  | zero => simp
  | succ m =>
    simp only [List.getElem?_cons_succ]
    by_cases hm : m < 150
    · obtain ⟨q, s, hq, hs, rfl⟩ : ∃ q s, q < 25 ∧ s < 6 ∧ m = q * 6 + s := ⟨m / 6, m % 6, by omega, by omega, by omega⟩
      rw [tcl_at _ hq hs, tcl_at _ hq hs]
      by_cases hqn : q = r
      · subst hqn
        have hu : putC T q c q = c := by simp [putC]
        rw [hu]
        match s, hs with
        | 0, _ => rw [if_neg (by omega), if_neg (by omega), if_neg (by omega), if_neg (by omega), if_neg (by omega), if_pos (by omega), if_pos (by omega)]
        | 1, _ => rw [if_neg (by omega), if_neg (by omega), if_neg (by omega), if_neg (by omega), if_pos (by omega), if_pos (by omega)]
        | 2, _ => rw [if_neg (by omega), if_neg (by omega), if_neg (by omega), if_pos (by omega), if_pos (by omega)]
        | 3, _ => rw [if_neg (by omega), if_neg (by omega), if_pos (by omega), if_pos (by omega)]
        | 4, _ => rw [if_neg (by omega), if_pos (by omega), if_pos (by omega)]
        | 5, _ => rw [if_pos (by omega), if_pos (by omega)]
      · have hu : putC T r c q = T q := by simp [putC, hqn]
        rw [hu, if_neg (by omega), if_neg (by omega), if_neg (by omega), if_neg (by omega), if_neg (by omega), if_neg (by omega)]
    · rw [if_neg (by omega), if_neg (by omega), if_neg (by omega), if_neg (by omega), if_neg (by omega), if_neg (by omega), List.getElem?_eq_none (by rw [tcl_len]; omega), List.getElem?_eq_none (by rw [tcl_len]; omega)]
theorem TaAt.set {w : World} {b : Nat} {T : Nat → Cn} (h : TaAt w b T) {r : Nat} (hr : r < 25) (c : Cn) : TaAt (setC w b r c) b (putC T r c) := by
  unfold TaAt setC
  rw [← tcl_put T hr c]
  exact Arr.set (Arr.set (Arr.set (Arr.set (Arr.set (Arr.set h _ _) _ _) _ _) _ _) _ _) _ _
theorem fr_one (w : World) (b o : Nat) (u : Value) : Fr (fun j => j = b) w (w.setCell ⟨b, o, none⟩ u) := (Fr.refl (fun j => j = b) w).set (p := ⟨b, o, none⟩) rfl u
theorem fr_setC (w : World) (b r : Nat) (c : Cn) : Fr (fun j => j = b) w (setC w b r c) :=
  (((((fr_one w b _ _).trans (fr_one _ b _ _)).trans (fr_one _ b _ _)).trans (fr_one _ b _ _)).trans (fr_one _ b _ _)).trans (fr_one _ b _ _)
theorem tcl_one (T : Nat → Cn) : (tcl T).toArray.all (·.oneCell') = true := all_oneCell_toArray (fun v hv => by simp only [tcl, List.mem_map] at hv; obtain ⟨_, _, rfl⟩ := hv; rfl)
def noT : Nat → Cn := fun _ => noC
theorem infoBy : (Try.prog.info? 60).map (fun i => (i.zero, i.size)) = some (some (.agg (tcl noT).toArray), 150) := by kernel_rfl
theorem sizeBy (T : Nat → Cn) : (Try.prog.info? 60).map (·.size) = some (tcl T).length := by rw [(zero_of_info infoBy).2, tcl_len]
theorem underBy : Try.prog.underlying 60 = some (.array 25 37) := by kernel_rfl
theorem infoTa : (Try.prog.info? 62).map (fun i => (i.zero, i.size)) = some (some (.agg (.bool false :: tcl noT).toArray), 151) := by kernel_rfl
end Go.Proofs.Ytkkkjpdmjgafoaa
