/- dandelionlaw04.SetsKnown. -/
import Derived.Test.YtpjbfijmlbbipaaDoorSG
namespace Go.Proofs.YtpjbfijmlbbipaaDoor
open Go.RowKit

/-- Five ids. -/
abbrev ob5 : Obj := .cells #[.int .i64 1, .int .i64 9, .int .i64 17, .int .i64 25, .int .i64 33] 3
theorem at5 (w : World) : IdsAt (w.alloc ob5) (.slice (some ⟨w.heap.size, 0, none⟩) 5 5) [1, 9, 17, 25, 33] := by
  refine .inr ⟨w.heap.size, 0, 5, rfl, by simp, by simp, fun j hj => ?_⟩
  rw [Nat.zero_add, cell_of_row _ _ j _ _ _ (heap_alloc_last w ob5)]
  have hj' : j < 5 := hj
  match j, hj' with
  | 0, _ => rfl
  | 1, _ => rfl
  | 2, _ => rfl
  | 3, _ => rfl
  | 4, _ => rfl
theorem all5 : allIds [1, 9, 17, 25, 33] := by intro z hz; simp at hz; omega
theorem n5a : (setsOf (srt 8 [1, 9, 17, 25, 33])).length = 5 := by kernel_rfl
theorem n5b : (setsOf (srt 16 [1, 9, 17, 25, 33])).length = 3 := by kernel_rfl
theorem n0 : (setsOf (srt 8 [])).length = 0 := by kernel_rfl
theorem split5a (w : World) (ht : Wid w) : Calls Tryd.prog 14 #[.slice (some ⟨w.heap.size, 0, none⟩) 5 5, .int .i64 8] (w.alloc ob5) fun e w' => e = .returned (.tuple #[.slice none 0 0, .int .i64 10]) ∧ Below w.heap.size w w' := by
  have b1 : Below w.heap.size w (w.alloc ob5) := (Below.refl _ w).alloc (Nat.le_refl _) _
  refine (split_right (W := 8) (.inl rfl) all5 (at5 w) (ht.keep b1)).mono ?_
  rw [n5a]
  rintro e w' ⟨⟨h, _⟩ | ⟨_, rfl⟩, hb⟩
  · exact absurd h (by decide)
  · exact ⟨rfl, b1.trans (hb.mono (by simp))⟩
theorem split5b (w : World) (ht : Wid w) : Calls Tryd.prog 14 #[.slice (some ⟨w.heap.size, 0, none⟩) 5 5, .int .i64 16] (w.alloc ob5) fun e w' => (∃ a cap, e = .returned (.tuple #[.slice a 3 cap, .int .i64 0])) ∧ Below w.heap.size w w' := by
  have b1 : Below w.heap.size w (w.alloc ob5) := (Below.refl _ w).alloc (Nat.le_refl _) _
  refine (split_right (W := 16) (.inr (.inl rfl)) all5 (at5 w) (ht.keep b1)).mono ?_
  rw [n5b]
  rintro e w' ⟨⟨_, pv, rfl, hr⟩ | ⟨h, _⟩, hb⟩
  · obtain ⟨a, cap, rfl⟩ := row_shape hr
    exact ⟨⟨a, cap, rfl⟩, b1.trans (hb.mono (by simp))⟩
  · exact absurd h (by decide)
theorem split0 (w : World) (ht : Wid w) : Calls Tryd.prog 14 #[.slice none 0 0, .int .i64 8] w fun e w' => (∃ a cap, e = .returned (.tuple #[.slice a 0 cap, .int .i64 0])) ∧ Below w.heap.size w w' := by
  refine (split_right (W := 8) (zs := []) (.inl rfl) allIds_nil (.inl ⟨none, 0, rfl, rfl⟩) ht).mono ?_
  rw [n0]
  rintro e w' ⟨⟨_, pv, rfl, hr⟩ | ⟨h, _⟩, hb⟩
  · obtain ⟨a, cap, rfl⟩ := row_shape hr
    exact ⟨⟨a, cap, rfl⟩, hb⟩
  · exact absurd h (by decide)
/-- A block of parts. -/
abbrev obP (cs : List Value) : Obj := .cells cs.toArray 42
theorem parts2 (w : World) (p q : Int × Nat) (hp : p.2 < 2 ^ 256) (hq : q.2 < 2 ^ 256) : PartsIn (w.alloc (obP (prt p ++ prt q))) w.heap.size 0 [p, q] := by
  have hc := fun j => cell_of_row _ _ j _ _ _ (heap_alloc_last w (obP (prt p ++ prt q)))
  refine ⟨by simp, by simp, fun j x hx i v hv => ?_, by intro x hx; simp at hx; rcases hx with rfl | rfl; exact hp; exact hq⟩
  rw [hc]
  have hi : i < 5 := by have := (List.getElem?_eq_some_iff.1 hv).1; simpa using this
  match j with
  | 0 =>
    simp at hx
    subst hx
    rw [← hv]
    match i, hi with
    | 0, _ => rfl
    | 1, _ => rfl
    | 2, _ => rfl
    | 3, _ => rfl
    | 4, _ => rfl
  | 1 =>
    simp at hx
    subst hx
    rw [← hv]
    match i, hi with
    | 0, _ => rfl
    | 1, _ => rfl
    | 2, _ => rfl
    | 3, _ => rfl
    | 4, _ => rfl
  | j + 2 => simp at hx
theorem parts1 (w : World) (p : Int × Nat) (hp : p.2 < 2 ^ 256) : PartsIn (w.alloc (obP (prt p))) w.heap.size 0 [p] := by
  have hc := fun j => cell_of_row _ _ j _ _ _ (heap_alloc_last w (obP (prt p)))
  refine ⟨by simp, by simp, fun j x hx i v hv => ?_, by intro x hx; simp at hx; subst hx; exact hp⟩
  rw [hc]
  match j with
  | 0 => simp at hx; subst hx; rw [← hv]; simp
  | j + 1 => simp at hx
abbrev jaOb : Obj := .cells #[.int .i64 1, .int .u64 1, .int .u64 0, .int .u64 0, .int .u64 0, .int .i64 0, .int .u64 5, .int .u64 0, .int .u64 0, .int .u64 0] 42
theorem jaEq : obP (prt ((1 : Int), (1 : Nat)) ++ prt ((0 : Int), (5 : Nat))) = jaOb := by kernel_rfl
theorem ja_any (w : World) (ht : Tb w) : Calls Tryd.prog 19 #[.slice (some ⟨w.heap.size, 0, none⟩) 2 2, .int .i64 8] (w.alloc jaOb) fun e w' => (∃ g cap, e = .returned (.tuple #[.slice (some ⟨g, 0, none⟩) 3 cap, .int .i64 0]) ∧ w'.cell? ⟨g, 2, none⟩ = some (.int .i64 9)) ∧ Below w.heap.size w w' := by
  have b1 : Below w.heap.size w (w.alloc jaOb) := (Below.refl _ w).alloc (Nat.le_refl _) _
  have hp : PartsIn (w.alloc jaOb) w.heap.size 0 [((1 : Int), (1 : Nat)), ((0 : Int), (5 : Nat))] := by rw [← jaEq]; exact parts2 w _ _ (by decide) (by decide)
  refine (join_any (W := 8) (cap := 2) (.inl rfl) (ht.on b1) hp).mono ?_
  have hj : jrun 8 [((1 : Int), (1 : Nat)), ((0 : Int), (5 : Nat))] = .ok (upd (upd none0 1 1) 0 5, updT (updT (fun _ => false) 1) 0) := by kernel_rfl
  have hi : idsL 8 (upd (upd none0 1 1) 0 5) (setsOf (upd (upd none0 1 1) 0 5)) = [.int .i64 1, .int .i64 3, .int .i64 9] := by kernel_rfl
  rintro e w' ⟨⟨st, u, h1, rfl, hr⟩ | ⟨c, h1, _⟩, hb⟩
  · rw [hj] at h1
    obtain rfl := Except.ok.inj h1
    simp only at hr
    rw [hi] at hr
    rcases row_plain hr with ⟨_, h0⟩ | ⟨g, cap, rfl, _⟩
    · cases h0
    · exact ⟨⟨g, cap, rfl, row_cell hr rfl⟩, b1.trans (hb.mono (by simp))⟩
  · rw [hj] at h1
    cases h1
abbrev jbOb : Obj := .cells #[.int .i64 0, .int .u64 1, .int .u64 0, .int .u64 0, .int .u64 0, .int .i64 0, .int .u64 2, .int .u64 0, .int .u64 0, .int .u64 0] 42
theorem jbEq : obP (prt ((0 : Int), (1 : Nat)) ++ prt ((0 : Int), (2 : Nat))) = jbOb := by kernel_rfl
theorem jb_any (w : World) (ht : Tb w) : Calls Tryd.prog 19 #[.slice (some ⟨w.heap.size, 0, none⟩) 2 2, .int .i64 8] (w.alloc jbOb) fun e w' => e = .returned (.tuple #[.slice none 0 0, .int .i64 7]) ∧ Below w.heap.size w w' := by
  have b1 : Below w.heap.size w (w.alloc jbOb) := (Below.refl _ w).alloc (Nat.le_refl _) _
  have hp : PartsIn (w.alloc jbOb) w.heap.size 0 [((0 : Int), (1 : Nat)), ((0 : Int), (2 : Nat))] := by rw [← jbEq]; exact parts2 w _ _ (by decide) (by decide)
  refine (join_any (W := 8) (cap := 2) (.inl rfl) (ht.on b1) hp).mono ?_
  have hj : jrun 8 [((0 : Int), (1 : Nat)), ((0 : Int), (2 : Nat))] = .error 7 := by kernel_rfl
  rintro e w' ⟨⟨st, u, h1, _⟩ | ⟨c, h1, rfl⟩, hb⟩
  · rw [hj] at h1
    cases h1
  · rw [hj] at h1
    cases h1
    exact ⟨rfl, b1.trans (hb.mono (by simp))⟩
abbrev jcOb : Obj := .cells #[.int .i64 0, .int .u64 256, .int .u64 0, .int .u64 0, .int .u64 0] 42
theorem jcEq : obP (prt ((0 : Int), (256 : Nat))) = jcOb := by kernel_rfl
theorem jc_any (w : World) (ht : Tb w) : Calls Tryd.prog 19 #[.slice (some ⟨w.heap.size, 0, none⟩) 1 1, .int .i64 8] (w.alloc jcOb) fun e w' => e = .returned (.tuple #[.slice none 0 0, .int .i64 2]) ∧ Below w.heap.size w w' := by
  have b1 : Below w.heap.size w (w.alloc jcOb) := (Below.refl _ w).alloc (Nat.le_refl _) _
  have hp : PartsIn (w.alloc jcOb) w.heap.size 0 [((0 : Int), (256 : Nat))] := by rw [← jcEq]; exact parts1 w _ (by decide)
  refine (join_any (W := 8) (cap := 1) (.inl rfl) (ht.on b1) hp).mono ?_
  have hj : jrun 8 [((0 : Int), (256 : Nat))] = .error 2 := by kernel_rfl
  rintro e w' ⟨⟨st, u, h1, _⟩ | ⟨c, h1, rfl⟩, hb⟩
  · rw [hj] at h1
    cases h1
  · rw [hj] at h1
    cases h1
    exact ⟨rfl, b1.trans (hb.mono (by simp))⟩
theorem idA : idV 0 9 8 = .tuple #[.int .i64 0, .int .i64 2] := by kernel_rfl
theorem idB : idV 4 1 256 = .tuple #[.int .i64 0, .int .i64 3] := by kernel_rfl
theorem idC : idV 3 256 256 = .tuple #[.int .i64 1024, .int .i64 0] := by kernel_rfl
abbrev kIds : Obj := .cells #[.int .i64 8, .int .i64 9, .int .i64 1024, .int .i64 1024] 3
abbrev kWid : Obj := .cells #[.int .i64 8, .int .i64 8, .int .i64 8, .int .i64 256] 3
abbrev kWant : Obj := .cells #[.int .i64 0, .int .i64 8, .int .i64 1, .int .i64 1, .int .i64 127, .int .i64 8, .int .i64 3, .int .i64 256] 22

set_option maxRecDepth 100000 in
set_option maxHeartbeats 4000000 in
theorem known_walk (w : World) (ht : Wid w) (hT : Tabs w) : Calls Tryd.prog 8 #[] w fun e w' => e = .returned (.bool true) ∧ Below w.heap.size w w' := by
  have htb : Tb w := ⟨ht, hT⟩
  go_enter Tryd.func8, Tryd.ntmps8
  go_wp2
  have sV : (((w.alloc kIds).alloc kWid).alloc kWant).heap.size = w.heap.size + 3 := by simp
  have bV : Below w.heap.size w (((w.alloc kIds).alloc kWid).alloc kWant) := by go_grown
  have v0 : (((w.alloc kIds).alloc kWid).alloc kWant).heap[w.heap.size]? = some kIds := by
    rw [Below.heap_alloc _ _ _ (by simp; omega), Below.heap_alloc _ _ _ (by simp)]; exact heap_alloc_last w _
  have v1 : (((w.alloc kIds).alloc kWid).alloc kWant).heap[w.heap.size + 1]? = some kWid := by
    rw [Below.heap_alloc _ _ _ (by simp)]
    have := heap_alloc_last (w.alloc kIds) kWid
    rwa [World.size_alloc] at this
  have v2 : (((w.alloc kIds).alloc kWid).alloc kWant).heap[w.heap.size + 2]? = some kWant := by
    have := heap_alloc_last ((w.alloc kIds).alloc kWid) kWant
    simpa using this
  simp only [Nat.add_assoc, Nat.reduceAdd]
  generalize ((w.alloc kIds).alloc kWid).alloc kWant = V at sV bV v0 v1 v2 ⊢
  go_loopw [4] (fun i wr => ∃ k : Nat, k ≤ 4 ∧ i = .int .i64 k ∧ Below (w.heap.size + 3) V wr ∧ w.heap.size + 3 ≤ wr.heap.size) (fun i _ => 4 - (intOf i).toNat)
  case atStart => exact ⟨0, by omega, rfl, Below.refl _ _, by omega⟩
  case round =>
    obtain ⟨k, hk, rfl, hbel, hsz⟩ := hrel
    have hbw : Below w.heap.size w wr := bV.trans (hbel.mono (by omega))
    have htr := htb.on hbw
    obtain rfl | rfl | rfl | rfl | rfl : k = 0 ∨ k = 1 ∨ k = 2 ∨ k = 3 ∨ k = 4 := by omega
    · have c0 : wr.cell? ⟨w.heap.size, 0, none⟩ = some (.int .i64 8) := (hbel.cell (p := ⟨w.heap.size, 0, none⟩) (show w.heap.size < _ by omega)).trans (cell_of_row V _ 0 _ _ _ v0)
      have c1 : wr.cell? ⟨w.heap.size + 1, 0, none⟩ = some (.int .i64 8) := (hbel.cell (p := ⟨w.heap.size + 1, 0, none⟩) (show w.heap.size + 1 < _ by omega)).trans (cell_of_row V _ 0 _ _ _ v1)
      have c2 : wr.cell? ⟨w.heap.size + 2, 0, none⟩ = some (.int .i64 0) := (hbel.cell (p := ⟨w.heap.size + 2, 0, none⟩) (show w.heap.size + 2 < _ by omega)).trans (cell_of_row V _ 0 _ _ _ v2)
      have c3 : wr.cell? ⟨w.heap.size + 2, 1, none⟩ = some (.int .i64 8) := (hbel.cell (p := ⟨w.heap.size + 2, 1, none⟩) (show w.heap.size + 2 < _ by omega)).trans (cell_of_row V _ 1 _ _ _ v2)
      have hp : Hid (∀ w', Wid w' → Calls Tryd.prog 9 #[.int .i64 8, .int .i64 8] w' fun e w'' => e = .returned (.tuple #[.int .i64 0, .int .i64 8, .int .i64 0]) ∧ Below w'.heap.size w' w'') := hidIn (fun w' h' => place_yes 7 8 (by decide) (.inl rfl) w' h')
      go_wp2
      go_region_with (go_at_call 9; refine (hp.out _ (htr.wid.keep (Below.refl _ _).drew)).mono ?_; rintro e w3 ⟨rfl, hb3⟩; have hb3' : Below wr.heap.size wr w3 := Below.trans (Below.refl _ wr).drew hb3; have d2 := (hb3'.cell (p := ⟨w.heap.size + 2, 0, none⟩) (show w.heap.size + 2 < wr.heap.size by omega)).trans c2; have d3 := (hb3'.cell (p := ⟨w.heap.size + 2, 1, none⟩) (show w.heap.size + 2 < wr.heap.size by omega)).trans c3)
      all_goals
        clear c0 c1 c2 c3
        go_wp2
        go_roundw
        case rel => exact ⟨1, by omega, by go_num, hbel.trans (hb3'.mono (by omega)), by have := hb3'.size; omega⟩
        case measure => simp [intOf]
    · have c0 : wr.cell? ⟨w.heap.size, 1, none⟩ = some (.int .i64 9) := (hbel.cell (p := ⟨w.heap.size, 1, none⟩) (show w.heap.size < _ by omega)).trans (cell_of_row V _ 1 _ _ _ v0)
      have c1 : wr.cell? ⟨w.heap.size + 1, 1, none⟩ = some (.int .i64 8) := (hbel.cell (p := ⟨w.heap.size + 1, 1, none⟩) (show w.heap.size + 1 < _ by omega)).trans (cell_of_row V _ 1 _ _ _ v1)
      have c2 : wr.cell? ⟨w.heap.size + 2, 2, none⟩ = some (.int .i64 1) := (hbel.cell (p := ⟨w.heap.size + 2, 2, none⟩) (show w.heap.size + 2 < _ by omega)).trans (cell_of_row V _ 2 _ _ _ v2)
      have c3 : wr.cell? ⟨w.heap.size + 2, 3, none⟩ = some (.int .i64 1) := (hbel.cell (p := ⟨w.heap.size + 2, 3, none⟩) (show w.heap.size + 2 < _ by omega)).trans (cell_of_row V _ 3 _ _ _ v2)
      have hp : Hid (∀ w', Wid w' → Calls Tryd.prog 9 #[.int .i64 9, .int .i64 8] w' fun e w'' => e = .returned (.tuple #[.int .i64 1, .int .i64 1, .int .i64 0]) ∧ Below w'.heap.size w' w'') := hidIn (fun w' h' => place_yes 8 8 (by decide) (.inl rfl) w' h')
      go_wp2
      go_region_with (go_at_call 9; refine (hp.out _ (htr.wid.keep (Below.refl _ _).drew)).mono ?_; rintro e w3 ⟨rfl, hb3⟩; have hb3' : Below wr.heap.size wr w3 := Below.trans (Below.refl _ wr).drew hb3; have d2 := (hb3'.cell (p := ⟨w.heap.size + 2, 2, none⟩) (show w.heap.size + 2 < wr.heap.size by omega)).trans c2; have d3 := (hb3'.cell (p := ⟨w.heap.size + 2, 3, none⟩) (show w.heap.size + 2 < wr.heap.size by omega)).trans c3)
      all_goals
        clear c0 c1 c2 c3
        go_wp2
        go_roundw
        case rel => exact ⟨2, by omega, by go_num, hbel.trans (hb3'.mono (by omega)), by have := hb3'.size; omega⟩
        case measure => simp [intOf]
    · have c0 : wr.cell? ⟨w.heap.size, 2, none⟩ = some (.int .i64 1024) := (hbel.cell (p := ⟨w.heap.size, 2, none⟩) (show w.heap.size < _ by omega)).trans (cell_of_row V _ 2 _ _ _ v0)
      have c1 : wr.cell? ⟨w.heap.size + 1, 2, none⟩ = some (.int .i64 8) := (hbel.cell (p := ⟨w.heap.size + 1, 2, none⟩) (show w.heap.size + 1 < _ by omega)).trans (cell_of_row V _ 2 _ _ _ v1)
      have c2 : wr.cell? ⟨w.heap.size + 2, 4, none⟩ = some (.int .i64 127) := (hbel.cell (p := ⟨w.heap.size + 2, 4, none⟩) (show w.heap.size + 2 < _ by omega)).trans (cell_of_row V _ 4 _ _ _ v2)
      have c3 : wr.cell? ⟨w.heap.size + 2, 5, none⟩ = some (.int .i64 8) := (hbel.cell (p := ⟨w.heap.size + 2, 5, none⟩) (show w.heap.size + 2 < _ by omega)).trans (cell_of_row V _ 5 _ _ _ v2)
      have hp : Hid (∀ w', Wid w' → Calls Tryd.prog 9 #[.int .i64 1024, .int .i64 8] w' fun e w'' => e = .returned (.tuple #[.int .i64 127, .int .i64 8, .int .i64 0]) ∧ Below w'.heap.size w' w'') := hidIn (fun w' h' => place_yes 1023 8 (by decide) (.inl rfl) w' h')
      go_wp2
      go_region_with (go_at_call 9; refine (hp.out _ (htr.wid.keep (Below.refl _ _).drew)).mono ?_; rintro e w3 ⟨rfl, hb3⟩; have hb3' : Below wr.heap.size wr w3 := Below.trans (Below.refl _ wr).drew hb3; have d2 := (hb3'.cell (p := ⟨w.heap.size + 2, 4, none⟩) (show w.heap.size + 2 < wr.heap.size by omega)).trans c2; have d3 := (hb3'.cell (p := ⟨w.heap.size + 2, 5, none⟩) (show w.heap.size + 2 < wr.heap.size by omega)).trans c3)
      all_goals
        clear c0 c1 c2 c3
        go_wp2
        go_roundw
        case rel => exact ⟨3, by omega, by go_num, hbel.trans (hb3'.mono (by omega)), by have := hb3'.size; omega⟩
        case measure => simp [intOf]
    · have c0 : wr.cell? ⟨w.heap.size, 3, none⟩ = some (.int .i64 1024) := (hbel.cell (p := ⟨w.heap.size, 3, none⟩) (show w.heap.size < _ by omega)).trans (cell_of_row V _ 3 _ _ _ v0)
      have c1 : wr.cell? ⟨w.heap.size + 1, 3, none⟩ = some (.int .i64 256) := (hbel.cell (p := ⟨w.heap.size + 1, 3, none⟩) (show w.heap.size + 1 < _ by omega)).trans (cell_of_row V _ 3 _ _ _ v1)
      have c2 : wr.cell? ⟨w.heap.size + 2, 6, none⟩ = some (.int .i64 3) := (hbel.cell (p := ⟨w.heap.size + 2, 6, none⟩) (show w.heap.size + 2 < _ by omega)).trans (cell_of_row V _ 6 _ _ _ v2)
      have c3 : wr.cell? ⟨w.heap.size + 2, 7, none⟩ = some (.int .i64 256) := (hbel.cell (p := ⟨w.heap.size + 2, 7, none⟩) (show w.heap.size + 2 < _ by omega)).trans (cell_of_row V _ 7 _ _ _ v2)
      have hp : Hid (∀ w', Wid w' → Calls Tryd.prog 9 #[.int .i64 1024, .int .i64 256] w' fun e w'' => e = .returned (.tuple #[.int .i64 3, .int .i64 256, .int .i64 0]) ∧ Below w'.heap.size w' w'') := hidIn (fun w' h' => place_yes 1023 256 (by decide) (.inr (.inr (.inr (.inr (.inr rfl))))) w' h')
      go_wp2
      go_region_with (go_at_call 9; refine (hp.out _ (htr.wid.keep (Below.refl _ _).drew)).mono ?_; rintro e w3 ⟨rfl, hb3⟩; have hb3' : Below wr.heap.size wr w3 := Below.trans (Below.refl _ wr).drew hb3; have d2 := (hb3'.cell (p := ⟨w.heap.size + 2, 6, none⟩) (show w.heap.size + 2 < wr.heap.size by omega)).trans c2; have d3 := (hb3'.cell (p := ⟨w.heap.size + 2, 7, none⟩) (show w.heap.size + 2 < wr.heap.size by omega)).trans c3)
      all_goals
        clear c0 c1 c2 c3
        go_wp2
        go_roundw
        case rel => exact ⟨4, by omega, by go_num, hbel.trans (hb3'.mono (by omega)), by have := hb3'.size; omega⟩
        case measure => simp [intOf]
    · have i1 : ∀ w', Wid w' → Calls Tryd.prog 11 #[.int .i64 0, .int .i64 9, .int .i64 8] w' fun e w'' => e = .returned (.tuple #[.int .i64 0, .int .i64 2]) ∧ w'' = w' := fun w' h' => by rw [← idA]; exact id_any 0 9 8 w' h'
      have i2 : ∀ w', Wid w' → Calls Tryd.prog 11 #[.int .i64 4, .int .i64 1, .int .i64 256] w' fun e w'' => e = .returned (.tuple #[.int .i64 0, .int .i64 3]) ∧ w'' = w' := fun w' h' => by rw [← idB]; exact id_any 4 1 256 w' h'
      have i3 : ∀ w', Wid w' → Calls Tryd.prog 11 #[.int .i64 3, .int .i64 256, .int .i64 256] w' fun e w'' => e = .returned (.tuple #[.int .i64 1024, .int .i64 0]) ∧ w'' = w' := fun w' h' => by rw [← idC]; exact id_any 3 256 256 w' h'
      have I1 := hidIn i1
      have I2 := hidIn i2
      have I3 := hidIn i3
      clear i1 i2 i3
      go_wp2_with fail
      refine (place_no 0 8 (.inr (.inl (by omega))) _ htr.wid).mono ?_
      rintro e w2 ⟨rfl, hw⟩
      rw [hw]
      clear hw w2
      go_wp2_with fail
      refine (place_no 1025 8 (.inr (.inr (by omega))) _ htr.wid).mono ?_
      rintro e w2 ⟨rfl, hw⟩
      rw [hw]
      clear hw w2
      go_wp2_with fail
      refine (place_no 5 24 (.inl (by unfold IsW; omega)) _ htr.wid).mono ?_
      rintro e w2 ⟨rfl, hw⟩
      rw [hw]
      clear hw w2
      go_wp2_with fail
      refine (I1.out _ htr.wid).mono ?_
      rintro e w2 ⟨rfl, hw⟩
      rw [hw]
      clear hw w2
      go_wp2_with fail
      refine (I2.out _ htr.wid).mono ?_
      rintro e w2 ⟨rfl, hw⟩
      rw [hw]
      clear hw w2
      go_wp2_with fail
      refine (I3.out _ htr.wid).mono ?_
      rintro e w2 ⟨rfl, hw⟩
      rw [hw]
      clear hw w2
      go_wp2_with fail
      refine (split5a _ htr.wid).mono ?_
      rintro e w7 ⟨rfl, hb7⟩
      have t7 := htr.on hb7
      go_wp2_with fail
      refine (split5b _ t7.wid).mono ?_
      rintro e w8 ⟨⟨a8, c8, rfl⟩, hb8⟩
      have t8 := t7.on hb8
      go_wp2_with fail
      refine (split0 _ t8.wid).mono ?_
      rintro e w9 ⟨⟨a9, c9, rfl⟩, hb9⟩
      have t9 := t8.on hb9
      go_wp2_with fail
      refine (ja_any _ t9).mono ?_
      rintro e w10 ⟨⟨g, c10, rfl, hc10⟩, hb10⟩
      have t10 := t9.on hb10
      have hg := block_lt_of_cell hc10
      go_wp2_with fail
      refine (jb_any _ t10).mono ?_
      rintro e w11 ⟨rfl, hb11⟩
      have t11 := t10.on hb11
      go_wp2_with fail
      refine (jc_any _ t11).mono ?_
      rintro e w12 ⟨rfl, hb12⟩
      have t12 := t11.on hb12
      go_wp2_with fail
      refine (works_any _ t12.wid).mono ?_
      rintro e w13 ⟨rfl, hb13⟩
      have s11 := hb11.size
      have s12 := hb12.size
      have hc13 := (hb13.cell (p := ⟨g, 2, none⟩) (show g < w12.heap.size by omega)).trans ((hb12.cell (p := ⟨g, 2, none⟩) (show g < w11.heap.size by omega)).trans ((hb11.cell (p := ⟨g, 2, none⟩) (show g < w10.heap.size by omega)).trans hc10))
      go_wp2
      go_ret
      refine ⟨rfl, ?_⟩
      have s7 := hb7.size
      have s8 := hb8.size
      have s9 := hb9.size
      have s10 := hb10.size
      exact ((((((hbw.trans (hb7.mono (by omega))).trans (hb8.mono (by omega))).trans (hb9.mono (by omega))).trans (hb10.mono (by omega))).trans (hb11.mono (by omega))).trans (hb12.mono (by omega))).trans (hb13.mono (by omega))
end Go.Proofs.YtpjbfijmlbbipaaDoor
