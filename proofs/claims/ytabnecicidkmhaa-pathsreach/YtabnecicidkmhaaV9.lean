/- First. -/
import Derived.Test.YtabnecicidkmhaaV8
import Derived.ArgAppend
namespace Go.Proofs.Ytabnecicidkmhaa
open Go.RowKit

/-- A way in memory, apart from block B; nil: there is none. -/
def WayAt (w : World) (B : Nat) (v : Value) : Option (List Int) → Prop
  | none => v = .slice none 0 0
  | some l => 0 < l.length ∧ l.length ≤ 100000 ∧ ∃ bk o cap, v = .slice (some ⟨bk, o, none⟩) l.length cap ∧ l.length ≤ cap ∧ bk ≠ B ∧ bk < w.heap.size ∧ ∀ j z, l[j]? = some z → w.cell? ⟨bk, o + j, none⟩ = some (.int .i64 z)
theorem WayAt.fr {w w' : World} {B : Nat} {v : Value} {x : Option (List Int)} (h : WayAt w B v x) (hF : Fr (fun k => k = B) w w') : WayAt w' B v x := by
  cases x with
  | none => exact h
  | some l =>
    obtain ⟨h0, h1, bk, o, cap, rfl, hc, hne, hlt, hcell⟩ := h
    refine ⟨h0, h1, bk, o, cap, rfl, hc, hne, Nat.lt_of_lt_of_le hlt hF.size, fun j z hz => ?_⟩
    rw [World.cell?_of_block (a := ⟨bk, o + j, none⟩) (hF.block bk hlt hne)]
    exact hcell j z hz
theorem WayAt.sl {w : World} {B : Nat} {v : Value} {l : List Int} (h : WayAt w B v (some l)) : SlAt ic 1 w v l := by
  obtain ⟨h0, h1, bk, o, cap, rfl, hc, hne, hlt, hcell⟩ := h
  refine ⟨_, cap, rfl, by omega, hc, fun _ => ⟨bk, o, rfl, hlt, fun j z hz i u hu => ?_⟩⟩
  have hi : i = 0 := by
    have := (List.getElem?_eq_some_iff.1 hu).1
    simp at this
    exact this
  subst hi
  simp at hu
  subst hu
  rw [Nat.mul_one, Nat.add_zero]
  exact hcell j z hz
/-- The array of ways. -/
def vcl (vs : Nat → Value) : List Value := (List.range 25).map vs
theorem vcl_len (vs : Nat → Value) : (vcl vs).length = 25 := by simp [vcl]
theorem vcl_get (vs : Nat → Value) {j : Nat} (h : j < 25) : (vcl vs)[j]? = some (vs j) := by
  simp only [vcl, List.getElem?_map]; rw [List.getElem?_range h]; rfl
def putV {α : Type} (c : Nat → α) (i : Nat) (v : α) : Nat → α := fun j => if j = i then v else c j
theorem putV_same {α : Type} (c : Nat → α) (i : Nat) (v : α) : putV c i v i = v := by simp [putV]
theorem putV_other {α : Type} (c : Nat → α) {i j : Nat} (v : α) (h : j ≠ i) : putV c i v j = c j := by simp [putV, h]
theorem vcl_set (vs : Nat → Value) {n : Nat} (_h : n < 25) (v : Value) : (vcl vs).set n v = vcl (putV vs n v) := by
  apply List.ext_getElem?
  intro j
  rw [List.getElem?_set]
  by_cases hj : j < 25
  · rw [vcl_get _ hj, vcl_get _ hj]
    by_cases hn : n = j
    · subst hn; rw [if_pos rfl, if_pos (by rw [vcl_len]; exact hj), putV_same]
    · rw [if_neg hn, putV_other _ _ (fun e => hn e.symm)]
  · rw [List.getElem?_eq_none (by rw [vcl_len]; omega), List.getElem?_eq_none (by rw [vcl_len]; omega), if_neg (by omega)]
/-- The first ways: one edge more. -/
def wayE (f : Nat → Option (List Int)) (e : Ed) : List Int := (f e.1.toNat).getD [] ++ [e.2.1]
def fstE (f : Nat → Option (List Int)) (e : Ed) : Nat → Option (List Int) :=
  match f e.2.1.toNat with
  | none => putV f e.2.1.toNat (some (wayE f e))
  | some l => if cmpL (wayE f e) l < 0 then putV f e.2.1.toNat (some (wayE f e)) else f
def fstT (r : Int) (T : List Ed) : Nat → Option (List Int) := T.foldl fstE (putV (fun _ => none) r.toNat (some [r]))
theorem fstT_snoc (r : Int) (T : List Ed) (e : Ed) : fstT r (T ++ [e]) = fstE (fstT r T) e := by simp [fstT, List.foldl_append]
/-- The memory of First. -/
def FsM (w : World) (B : Nat) (f : Nat → Option (List Int)) : Prop := ∃ vs, Arr w B 72 (vcl vs) ∧ ∀ i, i < 25 → WayAt w B (vs i) (f i)
theorem FsM.keep {w w' : World} {B : Nat} {f : Nat → Option (List Int)} (h : FsM w B f) (hb : Below w.heap.size w w') : FsM w' B f := by
  obtain ⟨vs, hA, hW⟩ := h
  exact ⟨vs, hA.keep hb hA.lt, fun i hi => (hW i hi).fr (Fr.of_below hb)⟩
theorem FsM.put {w : World} {B : Nat} {f : Nat → Option (List Int)} {vs : Nat → Value} (hA : Arr w B 72 (vcl vs)) (hW : ∀ i, i < 25 → WayAt w B (vs i) (f i)) {n : Nat} (hn : n < 25) {v : Value} {l : List Int} (hv : WayAt w B v (some l)) : FsM (w.setCell ⟨B, n, none⟩ v) B (putV f n (some l)) := by
  have hF := (Fr.refl (fun k => k = B) w).set (p := ⟨B, n, none⟩) rfl v
  refine ⟨putV vs n v, by rw [← vcl_set vs hn]; exact hA.set n v, fun i hi => ?_⟩
  by_cases h : i = n
  · subst h
    rw [putV_same, putV_same]
    exact hv.fr hF
  · rw [putV_other _ _ h, putV_other _ _ h]
    exact (hW i hi).fr hF
theorem eq_nil (w : World) : (binOp BinOp.eql 22 (.slice none 0 0) (.slice none 0 0)).run Try.prog w = .ok (.bool true) w := by kernel_rfl
theorem eq_some (a : Addr) (n c : Nat) (w : World) : (binOp BinOp.eql 22 (.slice (some a) n c) (.slice none 0 0)).run Try.prog w = .ok (.bool false) w := by kernel_rfl
theorem ints_map (l : List Int) : fl ic l = l.map (Value.int .i64) := by
  induction l with
  | nil => rfl
  | cons a l ih => unfold fl at ih ⊢; rw [List.flatMap_cons, ih]; rfl
/-- A number behind a way that is cut at its end: a list of its own. -/
theorem append_cut {W : World} {B : Nat} {v : Value} {x : Option (List Int)} (h : WayAt W B v x) (hB : B < W.heap.size) (y : Int) (hl : (x.getD []).length < 100000) :
    ∃ v' w6, (Builtin.append_ #[22, 22] 22 #[(match v with | .slice a n _ => .slice a n n | u => u), .slice (some ⟨W.heap.size, 0, none⟩) 1 1]).run Try.prog (W.alloc (.cells #[.int .i64 y] 3)) = .ok v' w6 ∧ WayAt w6 B v' (some (x.getD [] ++ [y])) ∧ Below W.heap.size W w6 := by
  have bA : Below W.heap.size W (W.alloc (.cells #[.int .i64 y] 3)) := (Below.refl _ W).alloc (Nat.le_refl _) _
  have wrap : ∀ {v' : Value} {w6 : World} {base : Nat} {k : Nat}, W.heap.size ≤ base → k = (x.getD [] ++ [y]).length → w6.ownsRow base 3 1 v' k (fl ic (x.getD [] ++ [y])) → WayAt w6 B v' (some (x.getD [] ++ [y])) := by
    intro v' w6 base k hb hk hr
    rcases hr.2 with ⟨_, h1⟩ | ⟨g, cap, cur, rfl, hg, hh, h1, h2, _⟩
    · rw [h1] at hk; simp at hk
    · refine ⟨by simp, by simp; omega, g, 0, cap, by rw [hk], by omega, by omega, block_lt hh, fun j z hz => ?_⟩
      have := hr.cells (g := g) rfl j (.int .i64 z) (by rw [ints_map, List.getElem?_map, hz]; rfl)
      rw [Addr.add_mid, Nat.zero_add] at this
      rw [Nat.zero_add]
      exact this
  cases x with
  | none =>
    have hv : v = .slice none 0 0 := h
    subst hv
    obtain ⟨g, cap, w6, hrun, hown, _, _, hb6⟩ := append_int (World.ownsRow_nil W W.heap.size 3 1) (l := []) y (by omega) (Nat.le_refl _)
    exact ⟨_, w6, hrun, wrap (Nat.le_refl _) (by simp) hown, hb6⟩
  | some l =>
    obtain ⟨h0, h1, bk, o, cap, rfl, hc, hne, hlt, hcell⟩ := h
    simp only [Option.getD_some] at hl wrap ⊢
    obtain ⟨i0, hi, hz0, hz1, hz2⟩ := info_parts infoInt
    have holds : ∀ j u, (l.map (Value.int .i64))[j]? = some u → (W.alloc (.cells #[.int .i64 y] 3)).cell? ((⟨bk, o, none⟩ : Addr).add j) = some u := by
      intro j u hu
      rw [List.getElem?_map] at hu
      cases hz : l[j]? with
      | none => rw [hz] at hu; cases hu
      | some z =>
        rw [hz] at hu
        cases hu
        rw [Addr.add_mid]
        exact (bA.cell (p := ⟨bk, o + j, none⟩) hlt).trans (hcell j z hz)
    have hnews : ∀ j u, [Value.int .i64 y][j]? = some u → (W.alloc (.cells #[.int .i64 y] 3)).cell? ((⟨W.heap.size, 0, none⟩ : Addr).add j) = some u := by
      intro j u hu
      have hb := heap_alloc_last W (.cells #[.int .i64 y] 3)
      rw [Addr.add_mid, Nat.zero_add, cell_of_row _ _ j _ _ _ hb]
      simpa using hu
    obtain ⟨v', w6, hrun, hown, hg⟩ := run_append_arg_grows (P := Try.prog) (w := W.alloc (.cells #[.int .i64 y] 3)) 22 22 3 i0 _ 1 8 Try.underlying22 hi hz0 hz1 hz2 rfl (by decide) ⟨bk, o, none⟩ l.length l.length (l.map (Value.int .i64)) (by simp) holds ⟨W.heap.size, 0, none⟩ 1 1 [.int .i64 y] rfl hnews (by omega) (by unfold maxLen; omega) (by omega)
    refine ⟨v', w6, hrun, wrap (base := (W.alloc (.cells #[.int .i64 y] 3)).heap.size) (k := l.length + 1) (by simp) (by simp) (by rw [ints_map, List.map_append]; exact hown), ?_⟩
    exact bA.grown hg bA.size (fun k hk => by cases hk)

set_option maxRecDepth 100000 in
set_option maxHeartbeats 4000000 in
theorem first1_any {B : Nat} {f : Nat → Option (List Int)} {a b d k : Int} {w : World} (ha : 1 ≤ a ∧ a ≤ 24) (hb : 1 ≤ b ∧ b ≤ 24) (hM : FsM w B f) (hl : ((f a.toNat).getD []).length < 100000) :
    Calls Try.prog 36 #[edV (a, b, d), .int .i64 k, .pointer (some ⟨B, 0, none⟩)] w fun x w' => (∃ v, x = .returned v) ∧ FsM w' B (fstE f (a, b, d)) ∧ Fr (fun k => k = B) w w' := by
  obtain ⟨i, rfl⟩ : ∃ i : Nat, a = (i : Int) := ⟨a.toNat, by omega⟩
  obtain ⟨j, rfl⟩ : ∃ j : Nat, b = (j : Int) := ⟨b.toNat, by omega⟩
  rw [Int.toNat_natCast] at hl
  have hi : i < 25 := by omega
  have hj : j < 25 := by omega
  have hii : (i : Int) < 25 := by omega
  have hji : (j : Int) < 25 := by omega
  obtain ⟨vs, hA, hW⟩ := hM
  obtain ⟨W1, hW1⟩ : ∃ W1, w.alloc (.cells #[.int .i64 (i : Int), .int .i64 (j : Int), .int .i64 d] 54) = W1 := ⟨_, rfl⟩
  have bA : Below w.heap.size w W1 := by rw [← hW1]; exact (Below.refl _ w).alloc (Nat.le_refl _) _
  have hE : W1.heap[w.heap.size]? = some (.cells #[.int .i64 (i : Int), .int .i64 (j : Int), .int .i64 d] 54) := by rw [← hW1]; exact heap_alloc_last w _
  have hA1 := hA.keep bA hA.lt
  have hne : w.heap.size ≠ B := by have := hA.lt; omega
  have HWs : Hid (∀ n, n < 25 → WayAt W1 B (vs n) (f n)) := hidIn fun n hn => (hW n hn).fr (Fr.of_below bA)
  have l0 := cell_of_row _ _ 0 _ _ _ hE
  simp at l0
  have m0 := hA1.cell i
  rw [vcl_get _ hi] at m0
  have HA1 := hidIn hA1
  have HE := hidIn hE
  have HF1 : Hid (Fr (fun k => k = B) w W1) := hidIn (Fr.of_below bA)
  have hwi := HWs.out i hi
  have HApp := hidIn (append_cut (W := W1.drew) (B := B) (hwi.fr ((Fr.refl _ W1).drew)) hA1.lt (j : Int) hl)
  have HW := hidIn hW1
  clear hW1 bA hE hA hA1 hW
  obtain ⟨v6, w6, hrun, hv6, hb6⟩ := HApp.out
  obtain ⟨b6, o6, n6, c6, hv6e⟩ : ∃ b6 o6 n6 c6, v6 = .slice (some ⟨b6, o6, none⟩) n6 c6 := by
    obtain ⟨_, _, b6, o6, c6, h, _⟩ := hv6
    exact ⟨b6, o6, _, c6, h⟩
  subst hv6e
  have HV6 := hidIn hv6
  have hF6 : Fr (fun k => k = B) W1 w6 := ((Fr.refl (fun k => k = B) W1).drew).trans (Fr.of_below hb6)
  have HF6 := hidIn (HF1.out.trans hF6)
  have hA6 : Arr w6 B 72 (vcl vs) := (hb6.block _ HA1.out.lt).trans HA1.out
  have hE6 : w6.heap[w.heap.size]? = some (.cells #[.int .i64 (i : Int), .int .i64 (j : Int), .int .i64 d] 54) := (hb6.block _ (block_lt HE.out)).trans HE.out
  have HW6 : Hid (∀ n, n < 25 → WayAt w6 B (vs n) (f n)) := hidIn fun n hn => (HWs.out n hn).fr hF6
  have HA6 := hidIn hA6
  have HE6 := hidIn hE6
  have HB6 := hidIn hb6
  clear HApp hv6 hF6 hA6 hE6 hb6
  obtain ⟨x, hx⟩ : ∃ x, f i = x := ⟨_, rfl⟩
  rw [hx] at hwi HV6
  have Hx := hidIn hx
  clear hx
  obtain ⟨w60, hw60⟩ : ∃ w60, w.heap.size = w60 := ⟨_, rfl⟩
  have Hw60 := hidIn hw60
  clear hw60
  cases x with
  | none =>
    have hvi : vs i = .slice none 0 0 := hwi
    rw [hvi] at m0 hrun
    simp only at hrun
    clear hwi hvi
    go_enter Try.func36, Try.ntmps36
    go_upto_region 1 with fail
    rw [HW.out]
    clear HW
    generalize w.heap.size = be at *
    go_upto_region 2 with fail
    clear m0 l0
    have hS0 : W1.drew.heap[be]? = some (.cells #[.int .i64 (i : Int), .int .i64 (j : Int), .int .i64 d] 54) := HE.out
    refine wp_region_held_drew (S := fun wx => wx.heap[be]? = some (.cells #[.int .i64 (i : Int), .int .i64 (j : Int), .int .i64 d] 54)) (by kernel_rfl) hS0 (fun hHeld => ?_)
    refine wpAnyH_take (i := 0) (v := ?_) rfl (by kernel_rfl) (by kernel_rfl) (by kernel_rfl) (fun _ _ _ h => h) (Or.inl ⟨by rfl, ?_⟩) (by assumption) ?_
    rotate_left
    · intro wq hSw
      clear hSw
      go_simp
      try (with_reducible rfl)
    refine wpAnyH_take (i := 1) (v := ?_) rfl (by kernel_rfl) (by kernel_rfl) (by kernel_rfl) (fun _ _ _ h => h) (Or.inl ⟨by rfl, ?_⟩) (by assumption) ?_
    rotate_left
    · intro wq hSw
      clear hSw
      go_simp
      try (with_reducible rfl)
    refine wpAnyH_take (i := 2) (v := ?_) rfl (by kernel_rfl) (by kernel_rfl) (by kernel_rfl) (fun _ _ _ h => h) (Or.inl ⟨by rfl, ?_⟩) (by assumption) ?_
    rotate_left
    · intro wq hSw
      clear hSw
      go_simp
      try (with_reducible rfl)
    refine wpAnyH_take (i := 3) (v := ?_) rfl (by kernel_rfl) (by kernel_rfl) (by kernel_rfl) (fun _ _ _ h => h) (Or.inl ⟨by rfl, ?_⟩) (by assumption) ?_
    rotate_left
    · intro wq hSw
      clear hSw
      go_simp
      try (with_reducible rfl)
    refine wpAnyH_take (i := 4) (v := ?_) rfl (by kernel_rfl) (by kernel_rfl) (by kernel_rfl) (fun _ _ _ h => h) (Or.inl ⟨by rfl, ?_⟩) (by assumption) ?_
    rotate_left
    · intro wq hSw
      clear hSw
      go_simp
      try (with_reducible rfl)
    refine wpAnyH_take (i := 5) (v := ?_) rfl (by kernel_rfl) (by kernel_rfl) (by kernel_rfl) (fun _ _ _ h => h) (Or.inl ⟨by rfl, ?_⟩) (by assumption) ?_
    rotate_left
    · intro wq hSw
      clear hSw
      go_simp
      try (with_reducible rfl)
    refine wpAnyH_take (i := 6) (v := ?_) rfl (by kernel_rfl) (by kernel_rfl) (by kernel_rfl) (fun _ _ _ h => h) (Or.inl ⟨by rfl, ?_⟩) (by assumption) ?_
    rotate_left
    · intro wq hSw
      clear hSw
      go_simp
      try (with_reducible rfl)
    refine wpAnyH_take (i := 7) (v := ?_) rfl (by kernel_rfl) (by kernel_rfl) (by kernel_rfl) (fun _ _ _ h => h) (Or.inl ⟨by rfl, ?_⟩) (by assumption) ?_
    rotate_left
    · intro wq hSw
      have z1 := cell_of_row _ _ 1 _ _ _ hSw
      simp at z1
      clear hSw
      go_simp
      try (with_reducible rfl)
    refine wpAnyH_ready (rs := [8]) (by kernel_rfl) (by simp) ?_
    refine AllReadyH.cons rfl (fun K hK => ?_) AllReadyH.nil
    go_simp
    have hS1 : (W1.alloc (Obj.cells #[.int .i64 (j : Int)] 3)).drew.heap[be]? = some (.cells #[.int .i64 (i : Int), .int .i64 (j : Int), .int .i64 d] 54) := (Below.heap_alloc _ _ _ (block_lt HE.out)).trans HE.out
    refine hK.out _ _ hS1 (fun _ => ?_)
    clear hK K
    refine wpAnyH_ready (rs := [9]) (by kernel_rfl) (by simp) ?_
    refine AllReadyH.cons rfl (fun K hK => ?_) AllReadyH.nil
    have hrun' : (Builtin.append_ #[22, 22] 22 #[.slice none 0 0, .slice (some ⟨W1.heap.size, 0, none⟩) 1 1]).run Try.prog ((W1.alloc (Obj.cells #[.int .i64 (j : Int)] 3)).drew) = .ok (.slice (some ⟨b6, o6, none⟩) n6 c6) w6 := hrun
    refine step_append rfl (.tmp 16) (.tmp 19) 22 rfl (by kernel_rfl) (by kernel_rfl) hrun' ?_
    refine hK.out _ _ HE6.out (fun _ => ?_)
    clear hK K hrun hrun'
    refine wpAnyH_ready (rs := [10]) (by kernel_rfl) (by simp) ?_
    refine AllReadyH.cons rfl (fun K hK => ?_) AllReadyH.nil
    go_simp
    refine hK.out _ _ HE6.out (fun _ => ?_)
    clear hK K hS0 hS1 hHeld
    refine wpAnyH_done (by kernel_rfl) ?_ _
    have l1 := cell_of_row _ _ 1 _ _ _ HE6.out
    simp at l1
    have m1 := HA6.out.cell j
    rw [vcl_get _ hj] at m1
    have mf := HA6.out.frozen j
    have hwj := HW6.out j hj
    have hen := eq_nil
    have hes := eq_some
    have HWy : Hid (wayE f ((i : Int), (j : Int), d) = ([] : List Int) ++ [(j : Int)]) := hidIn (by simp [wayE, Hx.out])
    obtain ⟨y, hy⟩ : ∃ y, f j = y := ⟨_, rfl⟩
    rw [hy] at hwj
    have Hy := hidIn hy
    have HPut := hidIn (FsM.put HA6.out HW6.out hj HV6.out)
    have HFP := hidIn (HF6.out.set (p := ⟨B, j, none⟩) rfl (.slice (some ⟨b6, o6, none⟩) n6 c6))
    clear hy
    cases y with
    | none =>
      have hvj : vs j = .slice none 0 0 := hwj
      rw [hvj] at m1
      clear hwj hvj
      go_wp2_with fail
      go_returns
      exact ⟨⟨_, rfl⟩, by simp only [fstE, Int.toNat_natCast, Hy.out, HWy.out]; exact HPut.out, HFP.out⟩
    | some lb =>
      have HCm := hidIn (compare_any HV6.out.sl hwj.sl)
      obtain ⟨_, _, bj, oj, cj, hvj, _⟩ := hwj
      rw [hvj] at m1 HCm
      clear hvj
      go_wp2_with fail
      refine HCm.out.mono ?_
      rintro e w7 ⟨rfl, hw7⟩
      rw [hw7]
      clear hw7 w7 HCm
      obtain ⟨cv, hcv⟩ : ∃ cv, cmpL (Option.getD none [] ++ [(j : Int)]) lb = cv := ⟨_, rfl⟩
      rw [hcv]
      have Hcv : Hid (cmpL (wayE f ((i : Int), (j : Int), d)) lb = cv) := hidIn (by rw [HWy.out]; exact hcv)
      clear hcv
      by_cases hlt : cv < 0
      · go_wp2_with fail
        go_returns
        exact ⟨⟨_, rfl⟩, by rw [show fstE f ((i : Int), (j : Int), d) = putV f j (some (wayE f ((i : Int), (j : Int), d))) from by unfold fstE; simp only [Int.toNat_natCast, Hy.out]; rw [if_pos (by rw [Hcv.out]; exact hlt)], HWy.out]; exact HPut.out, HFP.out⟩
      · go_wp2_with fail
        go_returns
        have hge : ¬ cv < 0 := by omega
        exact ⟨⟨_, rfl⟩, by simp only [fstE, Int.toNat_natCast, Hy.out, Hcv.out, if_neg hge]; exact ⟨vs, HA6.out, HW6.out⟩, HF6.out⟩
  | some la =>
    obtain ⟨h0, h1, bk, ov, vcap, hvi, hvc, _, _, _⟩ := hwi
    rw [hvi] at m0 hrun
    simp only at hrun
    have hvc1 : (la.length : Int) ≤ (vcap : Int) := by omega
    clear hvi
    go_enter Try.func36, Try.ntmps36
    go_upto_region 1 with fail
    rw [HW.out]
    clear HW
    generalize w.heap.size = be at *
    go_upto_region 2 with fail
    clear m0 l0
    have hS0 : W1.drew.heap[be]? = some (.cells #[.int .i64 (i : Int), .int .i64 (j : Int), .int .i64 d] 54) := HE.out
    refine wp_region_held_drew (S := fun wx => wx.heap[be]? = some (.cells #[.int .i64 (i : Int), .int .i64 (j : Int), .int .i64 d] 54)) (by kernel_rfl) hS0 (fun hHeld => ?_)
    refine wpAnyH_take (i := 0) (v := ?_) rfl (by kernel_rfl) (by kernel_rfl) (by kernel_rfl) (fun _ _ _ h => h) (Or.inl ⟨by rfl, ?_⟩) (by assumption) ?_
    rotate_left
    · intro wq hSw
      clear hSw
      go_simp
      try (with_reducible rfl)
    refine wpAnyH_take (i := 1) (v := ?_) rfl (by kernel_rfl) (by kernel_rfl) (by kernel_rfl) (fun _ _ _ h => h) (Or.inl ⟨by rfl, ?_⟩) (by assumption) ?_
    rotate_left
    · intro wq hSw
      clear hSw
      go_simp
      try (with_reducible rfl)
    refine wpAnyH_take (i := 2) (v := ?_) rfl (by kernel_rfl) (by kernel_rfl) (by kernel_rfl) (fun _ _ _ h => h) (Or.inl ⟨by rfl, ?_⟩) (by assumption) ?_
    rotate_left
    · intro wq hSw
      clear hSw
      go_simp
      try (with_reducible rfl)
    refine wpAnyH_take (i := 3) (v := ?_) rfl (by kernel_rfl) (by kernel_rfl) (by kernel_rfl) (fun _ _ _ h => h) (Or.inl ⟨by rfl, ?_⟩) (by assumption) ?_
    rotate_left
    · intro wq hSw
      clear hSw
      go_simp
      try (with_reducible rfl)
    refine wpAnyH_take (i := 4) (v := ?_) rfl (by kernel_rfl) (by kernel_rfl) (by kernel_rfl) (fun _ _ _ h => h) (Or.inl ⟨by rfl, ?_⟩) (by assumption) ?_
    rotate_left
    · intro wq hSw
      clear hSw
      go_simp
      try (with_reducible rfl)
    refine wpAnyH_take (i := 5) (v := ?_) rfl (by kernel_rfl) (by kernel_rfl) (by kernel_rfl) (fun _ _ _ h => h) (Or.inl ⟨by rfl, ?_⟩) (by assumption) ?_
    rotate_left
    · intro wq hSw
      clear hSw
      go_simp
      try (with_reducible rfl)
    refine wpAnyH_take (i := 6) (v := ?_) rfl (by kernel_rfl) (by kernel_rfl) (by kernel_rfl) (fun _ _ _ h => h) (Or.inl ⟨by rfl, ?_⟩) (by assumption) ?_
    rotate_left
    · intro wq hSw
      clear hSw
      go_simp
      try (with_reducible rfl)
    refine wpAnyH_take (i := 7) (v := ?_) rfl (by kernel_rfl) (by kernel_rfl) (by kernel_rfl) (fun _ _ _ h => h) (Or.inl ⟨by rfl, ?_⟩) (by assumption) ?_
    rotate_left
    · intro wq hSw
      have z1 := cell_of_row _ _ 1 _ _ _ hSw
      simp at z1
      clear hSw
      go_simp
      try (with_reducible rfl)
    refine wpAnyH_ready (rs := [8]) (by kernel_rfl) (by simp) ?_
    refine AllReadyH.cons rfl (fun K hK => ?_) AllReadyH.nil
    go_simp
    have hS1 : (W1.alloc (Obj.cells #[.int .i64 (j : Int)] 3)).drew.heap[be]? = some (.cells #[.int .i64 (i : Int), .int .i64 (j : Int), .int .i64 d] 54) := (Below.heap_alloc _ _ _ (block_lt HE.out)).trans HE.out
    refine hK.out _ _ hS1 (fun _ => ?_)
    clear hK K
    refine wpAnyH_ready (rs := [9]) (by kernel_rfl) (by simp) ?_
    refine AllReadyH.cons rfl (fun K hK => ?_) AllReadyH.nil
    have hrun' : (Builtin.append_ #[22, 22] 22 #[.slice (some ⟨bk, ov, none⟩) la.length la.length, .slice (some ⟨W1.heap.size, 0, none⟩) 1 1]).run Try.prog ((W1.alloc (Obj.cells #[.int .i64 (j : Int)] 3)).drew) = .ok (.slice (some ⟨b6, o6, none⟩) n6 c6) w6 := hrun
    refine step_append rfl (.tmp 16) (.tmp 19) 22 rfl (by kernel_rfl) (by kernel_rfl) hrun' ?_
    refine hK.out _ _ HE6.out (fun _ => ?_)
    clear hK K hrun hrun'
    refine wpAnyH_ready (rs := [10]) (by kernel_rfl) (by simp) ?_
    refine AllReadyH.cons rfl (fun K hK => ?_) AllReadyH.nil
    go_simp
    refine hK.out _ _ HE6.out (fun _ => ?_)
    clear hK K hS0 hS1 hHeld
    refine wpAnyH_done (by kernel_rfl) ?_ _
    have l1 := cell_of_row _ _ 1 _ _ _ HE6.out
    simp at l1
    have m1 := HA6.out.cell j
    rw [vcl_get _ hj] at m1
    have mf := HA6.out.frozen j
    have hwj := HW6.out j hj
    have hen := eq_nil
    have hes := eq_some
    have HWy : Hid (wayE f ((i : Int), (j : Int), d) = la ++ [(j : Int)]) := hidIn (by simp [wayE, Hx.out])
    obtain ⟨y, hy⟩ : ∃ y, f j = y := ⟨_, rfl⟩
    rw [hy] at hwj
    have Hy := hidIn hy
    have HPut := hidIn (FsM.put HA6.out HW6.out hj HV6.out)
    have HFP := hidIn (HF6.out.set (p := ⟨B, j, none⟩) rfl (.slice (some ⟨b6, o6, none⟩) n6 c6))
    clear hy
    cases y with
    | none =>
      have hvj : vs j = .slice none 0 0 := hwj
      rw [hvj] at m1
      clear hwj hvj
      go_wp2_with fail
      go_returns
      exact ⟨⟨_, rfl⟩, by simp only [fstE, Int.toNat_natCast, Hy.out, HWy.out]; exact HPut.out, HFP.out⟩
    | some lb =>
      have HCm := hidIn (compare_any HV6.out.sl hwj.sl)
      obtain ⟨_, _, bj, oj, cj, hvj, _⟩ := hwj
      rw [hvj] at m1 HCm
      clear hvj
      go_wp2_with fail
      refine HCm.out.mono ?_
      rintro e w7 ⟨rfl, hw7⟩
      rw [hw7]
      clear hw7 w7 HCm
      obtain ⟨cv, hcv⟩ : ∃ cv, cmpL (Option.getD (some la) [] ++ [(j : Int)]) lb = cv := ⟨_, rfl⟩
      rw [hcv]
      have Hcv : Hid (cmpL (wayE f ((i : Int), (j : Int), d)) lb = cv) := hidIn (by rw [HWy.out]; exact hcv)
      clear hcv
      by_cases hlt : cv < 0
      · go_wp2_with fail
        go_returns
        exact ⟨⟨_, rfl⟩, by rw [show fstE f ((i : Int), (j : Int), d) = putV f j (some (wayE f ((i : Int), (j : Int), d))) from by unfold fstE; simp only [Int.toNat_natCast, Hy.out]; rw [if_pos (by rw [Hcv.out]; exact hlt)], HWy.out]; exact HPut.out, HFP.out⟩
      · go_wp2_with fail
        go_returns
        have hge : ¬ cv < 0 := by omega
        exact ⟨⟨_, rfl⟩, by simp only [fstE, Int.toNat_natCast, Hy.out, Hcv.out, if_neg hge]; exact ⟨vs, HA6.out, HW6.out⟩, HF6.out⟩
theorem enter43 (args : Array Value) (w : World) : (callFunc 36 args).run Try.prog w = .ok (Next.enter 36 args) w := by kernel_rfl
/-- No way is long. -/
theorem fstT_len (r : Int) (T : List Ed) : ∀ i l, fstT r T i = some l → l.length ≤ T.length + 1 := by
  have key : ∀ (T : List Ed) (n : Nat) (f : Nat → Option (List Int)), (∀ i l, f i = some l → l.length ≤ n + 1) → ∀ i l, (T.foldl fstE f) i = some l → l.length ≤ n + T.length + 1 := by
    intro T
    induction T with
    | nil => intro n f hf i l h; exact hf i l h
    | cons e T ih =>
      intro n f hf i l h
      have := ih (n + 1) (fstE f e) (fun i l h => ?_) i l h
      · rw [List.length_cons]; omega
      · have hw : (wayE f e).length ≤ n + 2 := by
          unfold wayE
          rw [List.length_append]
          cases hx : f e.1.toNat with
          | none => simp
          | some x => have := hf _ _ hx; simp; omega
        have hput : ∀ l, putV f e.2.1.toNat (some (wayE f e)) i = some l → l.length ≤ n + 1 + 1 := by
          intro l h
          unfold putV at h
          split at h
          · cases h; exact hw
          · have := hf _ _ h; omega
        unfold fstE at h
        cases hz : f e.2.1.toNat with
        | none =>
          rw [hz] at h
          exact hput l h
        | some m =>
          rw [hz] at h
          simp only at h
          by_cases hc : cmpL (wayE f e) m < 0
          · rw [if_pos hc] at h; exact hput l h
          · rw [if_neg hc] at h; have := hf _ _ h; omega
  intro i l h
  have := key T 0 _ (fun i l h => by unfold putV at h; split at h; cases h; simp; cases h) i l h
  omega
/-- Who keeps the first ways; so much may be told. -/
def firstS {ns : List Int} {es : List Ed} (hok : graphOk ns es = true) (r : Int) (B : Nat) : TellS es r where
  f := 36
  caps := #[.pointer (some ⟨B, 0, none⟩)]
  C := fun k => k = B
  I := fun T w => FsM w B (fstT r T)
  call := fun T e c w hT ht hI => by
    obtain ⟨a, b, d⟩ := e
    have hbd := graphOk_bd hok
    have he := hbd.2.1 _ ht.1
    rw [fstT_snoc]
    refine first1_any (hbd.1 _ he.1) (hbd.1 _ he.2) hI ?_
    cases hx : fstT r T (((a, b, d) : Ed).1).toNat with
    | none => simp
    | some l => have := fstT_len r T _ _ hx; simp; omega
  keep := fun T w w' hI hb => hI.keep hb
  enter := enter43
end Go.Proofs.Ytabnecicidkmhaa
