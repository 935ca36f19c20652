/- First. -/
import Derived.Test.YtgeoghhajjlofaaGreatDoorV8
import Derived.ArgAppend
namespace Go.Proofs.YtgeoghhajjlofaaGreatDoor
open Go.RowKit

/-- A way in memory, apart from block B; nil: there is none. -/
def WayAt (w : World) (B : Nat) (v : Value) : Option (List Int) → Prop
  | none => v = .slice none 0 0
  | some l => 0 < l.length ∧ l.length ≤ 100000 ∧ ∃ bk o cap, v = .slice (some ⟨bk, o, none⟩) l.length cap ∧ l.length ≤ cap ∧ bk ≠ B ∧ bk < w.heap.size ∧ ∀ j z, l[j]? = some z → w.cell? ⟨bk, o + j, none⟩ = some (.int .i64 z)
theorem WayAt.fr {w w' : World} {B : Nat} {v : Value} {x : Option (List Int)} (h : WayAt w B v x) (hF : Fr (fun k => k = B) w w') : WayAt w' B v x := by
  cases x with
  | none => exact h
  | some l =>
    obtain ⟨h0, h1, bk, o, cap, rfl, hc, hne, hlt, hcell⟩ := h
    refine ⟨h0, h1, bk, o, cap, rfl, hc, hne, Nat.lt_of_lt_of_le hlt hF.size, fun j z hz => ?_⟩
    rw [World.cell?_of_block (a := ⟨bk, o + j, none⟩) (hF.block bk hlt hne)]
    exact hcell j z hz
theorem WayAt.sl {w : World} {B : Nat} {v : Value} {l : List Int} (h : WayAt w B v (some l)) : SlAt ic 1 w v l := by
  obtain ⟨h0, h1, bk, o, cap, rfl, hc, hne, hlt, hcell⟩ := h
  refine ⟨_, cap, rfl, by omega, hc, fun _ => ⟨bk, o, rfl, hlt, fun j z hz i u hu => ?_⟩⟩
  have hi : i = 0 := by
    have := (List.getElem?_eq_some_iff.1 hu).1
    simp at this
    exact this
  subst hi
  simp at hu
  subst hu
  rw [Nat.mul_one, Nat.add_zero]
  exact hcell j z hz
/-- The array of ways. -/
def vcl (vs : Nat → Value) : List Value := (List.range 25).map vs
theorem vcl_len (vs : Nat → Value) : (vcl vs).length = 25 := by simp [vcl]
theorem vcl_get (vs : Nat → Value) {j : Nat} (h : j < 25) : (vcl vs)[j]? = some (vs j) := by
  simp only [vcl, List.getElem?_map]; rw [List.getElem?_range h]; rfl
def putV {α : Type} (c : Nat → α) (i : Nat) (v : α) : Nat → α := fun j => if j = i then v else c j
theorem putV_same {α : Type} (c : Nat → α) (i : Nat) (v : α) : putV c i v i = v := by simp [putV]
theorem putV_other {α : Type} (c : Nat → α) {i j : Nat} (v : α) (h : j ≠ i) : putV c i v j = c j := by simp [putV, h]
theorem vcl_set (vs : Nat → Value) {n : Nat} (_h : n < 25) (v : Value) : (vcl vs).set n v = vcl (putV vs n v) := by
  apply List.ext_getElem?
  intro j
  rw [List.getElem?_set]
  by_cases hj : j < 25
  · rw [vcl_get _ hj, vcl_get _ hj]
    by_cases hn : n = j
    · subst hn; rw [if_pos rfl, if_pos (by rw [vcl_len]; exact hj), putV_same]
    · rw [if_neg hn, putV_other _ _ (fun e => hn e.symm)]
  · rw [List.getElem?_eq_none (by rw [vcl_len]; omega), List.getElem?_eq_none (by rw [vcl_len]; omega), if_neg (by omega)]
/-- The first ways: one edge more. -/
def wayE (f : Nat → Option (List Int)) (e : Ed) : List Int := (f e.1.toNat).getD [] ++ [e.2.1]
def fstE (f : Nat → Option (List Int)) (e : Ed) : Nat → Option (List Int) :=
  match f e.2.1.toNat with
  | none => putV f e.2.1.toNat (some (wayE f e))
  | some l => if cmpL (wayE f e) l < 0 then putV f e.2.1.toNat (some (wayE f e)) else f
def fstT (r : Int) (T : List Ed) : Nat → Option (List Int) := T.foldl fstE (putV (fun _ => none) r.toNat (some [r]))
theorem fstT_snoc (r : Int) (T : List Ed) (e : Ed) : fstT r (T ++ [e]) = fstE (fstT r T) e := by simp [fstT, List.foldl_append]
theorem eq_nil (w : World) : (binOp BinOp.eql 39 (.slice none 0 0) (.slice none 0 0)).run Tryz.prog w = .ok (.bool true) w := by kernel_rfl
theorem eq_some (a : Addr) (n c : Nat) (w : World) : (binOp BinOp.eql 39 (.slice (some a) n c) (.slice none 0 0)).run Tryz.prog w = .ok (.bool false) w := by kernel_rfl
theorem ints_map (l : List Int) : fl ic l = l.map (Value.int .i64) := by
  induction l with
  | nil => rfl
  | cons a l ih => unfold fl at ih ⊢; rw [List.flatMap_cons, ih]; rfl
/-- A number behind a way that is cut at its end: a list of its own. -/
theorem append_cut {W : World} {B : Nat} {v : Value} {x : Option (List Int)} (h : WayAt W B v x) (hB : B < W.heap.size) (y : Int) (hl : (x.getD []).length < 100000) :
    ∃ v' w6, (Builtin.append_ #[39, 39] 39 #[(match v with | .slice a n _ => .slice a n n | u => u), .slice (some ⟨W.heap.size, 0, none⟩) 1 1]).run Tryz.prog (W.alloc (.cells #[.int .i64 y] 3)) = .ok v' w6 ∧ WayAt w6 B v' (some (x.getD [] ++ [y])) ∧ Below W.heap.size W w6 := by
  have bA : Below W.heap.size W (W.alloc (.cells #[.int .i64 y] 3)) := (Below.refl _ W).alloc (Nat.le_refl _) _
  have wrap : ∀ {v' : Value} {w6 : World} {base : Nat} {k : Nat}, W.heap.size ≤ base → k = (x.getD [] ++ [y]).length → w6.ownsRow base 3 1 v' k (fl ic (x.getD [] ++ [y])) → WayAt w6 B v' (some (x.getD [] ++ [y])) := by
    intro v' w6 base k hb hk hr
    rcases hr.2 with ⟨_, h1⟩ | ⟨g, cap, cur, rfl, hg, hh, h1, h2, _⟩
    · rw [h1] at hk; simp at hk
    · refine ⟨by simp, by simp; omega, g, 0, cap, by rw [hk], by omega, by omega, block_lt hh, fun j z hz => ?_⟩
      have := hr.cells (g := g) rfl j (.int .i64 z) (by rw [ints_map, List.getElem?_map, hz]; rfl)
      rw [Addr.add_mid, Nat.zero_add] at this
      rw [Nat.zero_add]
      exact this
  cases x with
  | none =>
    have hv : v = .slice none 0 0 := h
    subst hv
    obtain ⟨g, cap, w6, hrun, hown, _, _, hb6⟩ := append_int (World.ownsRow_nil W W.heap.size 3 1) (l := []) y (by omega) (Nat.le_refl _)
    exact ⟨_, w6, hrun, wrap (Nat.le_refl _) (by simp) hown, hb6⟩
  | some l =>
    obtain ⟨h0, h1, bk, o, cap, rfl, hc, hne, hlt, hcell⟩ := h
    simp only [Option.getD_some] at hl wrap ⊢
    obtain ⟨i0, hi, hz0, hz1, hz2⟩ := info_parts infoInt
    have holds : ∀ j u, (l.map (Value.int .i64))[j]? = some u → (W.alloc (.cells #[.int .i64 y] 3)).cell? ((⟨bk, o, none⟩ : Addr).add j) = some u := by
      intro j u hu
      rw [List.getElem?_map] at hu
      cases hz : l[j]? with
      | none => rw [hz] at hu; cases hu
      | some z =>
        rw [hz] at hu
        cases hu
        rw [Addr.add_mid]
        exact (bA.cell (p := ⟨bk, o + j, none⟩) hlt).trans (hcell j z hz)
    have hnews : ∀ j u, [Value.int .i64 y][j]? = some u → (W.alloc (.cells #[.int .i64 y] 3)).cell? ((⟨W.heap.size, 0, none⟩ : Addr).add j) = some u := by
      intro j u hu
      have hb := heap_alloc_last W (.cells #[.int .i64 y] 3)
      rw [Addr.add_mid, Nat.zero_add, cell_of_row _ _ j _ _ _ hb]
      simpa using hu
    obtain ⟨v', w6, hrun, hown, hg⟩ := run_append_arg_grows (P := Tryz.prog) (w := W.alloc (.cells #[.int .i64 y] 3)) 39 39 3 i0 _ 1 8 Tryz.underlying39 hi hz0 hz1 hz2 rfl (by decide) ⟨bk, o, none⟩ l.length l.length (l.map (Value.int .i64)) (by simp) holds ⟨W.heap.size, 0, none⟩ 1 1 [.int .i64 y] rfl hnews (by omega) (by unfold maxLen; omega) (by omega)
    refine ⟨v', w6, hrun, wrap (base := (W.alloc (.cells #[.int .i64 y] 3)).heap.size) (k := l.length + 1) (by simp) (by simp) (by rw [ints_map, List.map_append]; exact hown), ?_⟩
    exact bA.grown hg bA.size (fun k hk => by cases hk)

/-- No way is long. -/
theorem fstT_len (r : Int) (T : List Ed) : ∀ i l, fstT r T i = some l → l.length ≤ T.length + 1 := by
  have key : ∀ (T : List Ed) (n : Nat) (f : Nat → Option (List Int)), (∀ i l, f i = some l → l.length ≤ n + 1) → ∀ i l, (T.foldl fstE f) i = some l → l.length ≤ n + T.length + 1 := by
    intro T
    induction T with
    | nil => intro n f hf i l h; exact hf i l h
    | cons e T ih =>
      intro n f hf i l h
      have := ih (n + 1) (fstE f e) (fun i l h => ?_) i l h
      · rw [List.length_cons]; omega
      · have hw : (wayE f e).length ≤ n + 2 := by
          unfold wayE
          rw [List.length_append]
          cases hx : f e.1.toNat with
          | none => simp
          | some x => have := hf _ _ hx; simp; omega
        have hput : ∀ l, putV f e.2.1.toNat (some (wayE f e)) i = some l → l.length ≤ n + 1 + 1 := by
          intro l h
          unfold putV at h
          split at h
          · cases h; exact hw
          · have := hf _ _ h; omega
        unfold fstE at h
        cases hz : f e.2.1.toNat with
        | none =>
          rw [hz] at h
          exact hput l h
        | some m =>
          rw [hz] at h
          simp only at h
          by_cases hc : cmpL (wayE f e) m < 0
          · rw [if_pos hc] at h; exact hput l h
          · rw [if_neg hc] at h; have := hf _ _ h; omega
  intro i l h
  have := key T 0 _ (fun i l h => by unfold putV at h; split at h; cases h; simp; cases h) i l h
  omega
end Go.Proofs.YtgeoghhajjlofaaGreatDoor
