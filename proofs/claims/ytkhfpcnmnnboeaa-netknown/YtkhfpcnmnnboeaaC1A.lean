/- A calendar of dandelion/api.Arrive in memory; the order of its things. -/
import Derived.Test.YtkhfpcnmnnboeaaCB
namespace Go.Proofs.Ytkhfpcnmnnboeaa.Ca.A
open Go.RowKit Go.Maps

abbrev Th : Type := Pl (Int × Int × ByteArray)
abbrev entA (e : Th) (i : Int) : Array Value := #[.int .i64 e.1.2.1.1, .int .i64 e.1.2.1.2.1, .string e.1.2.1.2.2, .int .u64 e.1.2.2, .int .i64 e.2, .int .i64 i]
abbrev pc (e : Th) : List Value := [ptr e.1.1]
/-- A calendar's tree in memory: its block, its row of pointers, its things. -/
structure HpC (w : World) (cp : Nat) (v : Value) (mb : Nat) (es : List Th) (p : Int) : Prop where
  blk : w.heap[cp]? = some (.cells #[ptr cp, v, .map (some mb), .int .i64 p] 114)
  row : w.ownsRow 0 110 1 v es.length (fl pc es)
  ent : ∀ (i : Nat) e, es[i]? = some e → w.heap[e.1.1]? = some (.cells (entA e i) 116)
/-- What a call on the tree turns: its row, its things. -/
def ownH (v : Value) (es : List Th) (k : Nat) : Prop := v.ownBlock = some k ∨ ∃ e ∈ es, e.1.1 = k
theorem row_ty {w : World} {base k size : Nat} {e : TypeId} {u : Value} {xs : List Value} (h : w.ownsRow base e size u k xs) {j : Nat} (hj : u.ownBlock = some j) : ∃ cur, w.heap[j]? = some (Obj.cells cur e) := by
  rcases h.2 with ⟨rfl, _⟩ | ⟨g, cap, cur, rfl, _, hh, _⟩
  · simp [Value.ownBlock] at hj
  · simp [Value.ownBlock] at hj
    subst hj
    exact ⟨cur, hh⟩
theorem HpC.lt {w : World} {cp mb : Nat} {v : Value} {es : List Th} {p : Int} (h : HpC w cp v mb es p) : cp < w.heap.size := block_lt h.blk
theorem HpC.own_ty {w : World} {cp mb : Nat} {v : Value} {es : List Th} {p : Int} (h : HpC w cp v mb es p) {k : Nat} (hk : ownH v es k) : ∃ cur t, w.heap[k]? = some (Obj.cells cur t) ∧ t ≠ 114 := by
  rcases hk with hk | ⟨e, he, rfl⟩
  · obtain ⟨cur, h1⟩ := row_ty h.row hk
    exact ⟨cur, _, h1, by decide⟩
  · obtain ⟨i, hi, rfl⟩ := List.getElem_of_mem he
    exact ⟨_, _, h.ent i _ (List.getElem?_eq_getElem hi), by decide⟩
theorem HpC.not_own {w : World} {cp mb : Nat} {v : Value} {es : List Th} {p : Int} (h : HpC w cp v mb es p) : ¬ ownH v es cp := fun hk => by
  obtain ⟨cur, t, h1, h2⟩ := h.own_ty hk
  rw [h.blk] at h1
  simp only [Option.some.injEq, Obj.cells.injEq] at h1
  exact h2 h1.2.1.symm
theorem HpC.own_lt {w : World} {cp mb : Nat} {v : Value} {es : List Th} {p : Int} (h : HpC w cp v mb es p) {k : Nat} (hk : ownH v es k) : k < w.heap.size := by
  obtain ⟨cur, t, h1, _⟩ := h.own_ty hk
  exact block_lt h1
theorem HpC.keep {w w' : World} {cp mb : Nat} {v : Value} {es : List Th} {p : Int} {S : Nat → Prop} (h : HpC w cp v mb es p) (hF : Fr S w w') (h1 : ¬ S cp) (h2 : ∀ k, ownH v es k → ¬ S k) : HpC w' cp v mb es p :=
  ⟨(hF.block _ h.lt h1).trans h.blk, row_fr h.row hF (fun j hj => h2 j (.inl hj)), fun i e he => (hF.block _ (block_lt (h.ent i e he)) (h2 _ (.inr ⟨e, List.mem_of_getElem? he, rfl⟩))).trans (h.ent i e he)⟩
theorem HpC.below {w w' : World} {cp mb : Nat} {v : Value} {es : List Th} {p : Int} (h : HpC w cp v mb es p) (hb : Below w.heap.size w w') : HpC w' cp v mb es p :=
  h.keep (S := fun _ => False) (Fr.of_below hb) (fun h => h) (fun _ _ h => h)
theorem HpC.c {w : World} {cp mb : Nat} {v : Value} {es : List Th} {p : Int} (h : HpC w cp v mb es p) : w.cell? ⟨cp, 0, none⟩ = some (ptr cp) ∧ w.cell? ⟨cp, 1, none⟩ = some v ∧ w.cell? ⟨cp, 2, none⟩ = some (.map (some mb)) ∧ w.cell? ⟨cp, 3, none⟩ = some (.int .i64 p) :=
  ⟨cell_of_row w cp 0 _ _ _ h.blk, cell_of_row w cp 1 _ _ _ h.blk, cell_of_row w cp 2 _ _ _ h.blk, cell_of_row w cp 3 _ _ _ h.blk⟩
theorem HpC.slice {w : World} {cp mb : Nat} {v : Value} {es : List Th} {p : Int} (h : HpC w cp v mb es p) : ∃ a cap, v = .slice a es.length cap ∧ es.length ≤ cap ∧ (0 < es.length → ∃ g, a = some ⟨g, 0, none⟩ ∧ g < w.heap.size ∧ ∀ j, w.frozen? ⟨g, j, none⟩ = false) := by
  rcases h.row.2 with ⟨h0, h1⟩ | ⟨g, cap, cur, rfl, hb, hh, h5, _⟩
  · exact ⟨none, 0, by rw [h0, h1], by omega, fun h => by omega⟩
  · exact ⟨_, cap, rfl, h5, fun _ => ⟨g, rfl, block_lt hh, frozen_new hh⟩⟩
theorem HpC.at {w : World} {cp mb g n cap : Nat} {es : List Th} {p : Int} (h : HpC w cp (.slice (some ⟨g, 0, none⟩) n cap) mb es p) {i : Nat} {e : Th} (he : es[i]? = some e) : w.cell? ⟨g, i, none⟩ = some (ptr e.1.1) := by
  have := h.row.cells (g := g) rfl (i * 1 + 0) (ptr e.1.1) (by rw [fl_get (cs := pc) (sz := 1) (fun _ => rfl) es i 0 e he (by omega)]; rfl)
  rw [Addr.add_mid, Nat.zero_add, Nat.mul_one, Nat.add_zero] at this
  exact this
set_option maxRecDepth 100000 in
set_option maxHeartbeats 4000000 in
theorem order_any {A B : Nat} {a b : Th} {i j : Int} {W : World} (hA : W.heap[A]? = some (.cells (entA a i) 116)) (hB : W.heap[B]? = some (.cells (entA b j) 116)) :
    Calls Try.prog 75 #[ptr A, ptr B] W fun e w' => e = .returned (.int .i64 (cmE a.1.2.2 a.2 b.1.2.2 b.2)) ∧ ∃ q os', w' = Go.Sort.grow (W.drewN q) os' := by
  obtain ⟨⟨a0, ax, a1⟩, a2⟩ := a
  obtain ⟨⟨b0, bx, b1⟩, b2⟩ := b
  have HCl : Hid (∀ wq, Below W.heap.size W wq → wq.cell? ⟨A, 3, none⟩ = some (.int .u64 a1) ∧ wq.cell? ⟨A, 4, none⟩ = some (.int .i64 a2) ∧ wq.cell? ⟨B, 3, none⟩ = some (.int .u64 b1) ∧ wq.cell? ⟨B, 4, none⟩ = some (.int .i64 b2)) := hidIn fun wq h => by
    have j0 := (h.block _ (block_lt hA)).trans hA
    have j1 := (h.block _ (block_lt hB)).trans hB
    exact ⟨cell_of_row _ _ 3 _ _ _ j0, cell_of_row _ _ 4 _ _ _ j0, cell_of_row _ _ 3 _ _ _ j1, cell_of_row _ _ 4 _ _ _ j1⟩
  obtain ⟨c0, hc0⟩ : ∃ c, cmI a1 b1 = c := ⟨_, rfl⟩
  obtain ⟨c1, hc1⟩ : ∃ c, cmI a2 b2 = c := ⟨_, rfl⟩
  have HE : Hid (cmE a1 a2 b1 b2 = orI c0 c1) := hidIn (by unfold cmE; rw [hc0, hc1])
  have Hc0 := hidIn hc0
  have Hc1 := hidIn hc1
  clear hA hB hc0 hc1
  go_enter Try.func75, Try.ntmps75
  go_upto_region 1 with fail
  refine wp_region_held_drew (S := fun wx => Below W.heap.size W wx) (by kernel_rfl) ((Below.refl _ W).drew) (fun hHeld => ?_)
  have hd0 : Below W.heap.size W W.drew := hHeld
  obtain ⟨wd, hwd⟩ : ∃ wd, W.drew = wd := ⟨_, rfl⟩
  rw [hwd] at hd0 ⊢
  have HWd := hidIn hwd
  clear hwd hHeld
  refine wpAnyH_take (i := 0) (v := ptr A) rfl (by kernel_rfl) (by kernel_rfl) (by kernel_rfl) (fun _ _ _ h => h) (Or.inl ⟨by kernel_rfl, fun _ _ => by kernel_rfl⟩) (by assumption) ?_
  refine wpAnyH_take (i := 1) (v := ptr A) rfl (by kernel_rfl) (by kernel_rfl) (by kernel_rfl) (fun _ _ _ h => h) (Or.inl ⟨by kernel_rfl, fun _ _ => by kernel_rfl⟩) (by assumption) ?_
  refine wpAnyH_take (i := 2) (v := .pointer (some ⟨A, 3, none⟩)) rfl (by kernel_rfl) (by kernel_rfl) (by kernel_rfl) (fun _ _ _ h => h) (Or.inl ⟨by kernel_rfl, fun _ _ => by kernel_rfl⟩) (by assumption) ?_
  refine wpAnyH_take (i := 3) (v := .int .u64 a1) rfl (by kernel_rfl) (by kernel_rfl) (by kernel_rfl) (fun _ _ _ h => h) (Or.inl ⟨by kernel_rfl, fun wq hSw => by
      obtain ⟨s0, s1, s2, s3⟩ := HCl.out wq hSw
      go_simp⟩) (by assumption) ?_
  refine wpAnyH_take (i := 4) (v := ptr B) rfl (by kernel_rfl) (by kernel_rfl) (by kernel_rfl) (fun _ _ _ h => h) (Or.inl ⟨by kernel_rfl, fun _ _ => by kernel_rfl⟩) (by assumption) ?_
  refine wpAnyH_take (i := 5) (v := ptr B) rfl (by kernel_rfl) (by kernel_rfl) (by kernel_rfl) (fun _ _ _ h => h) (Or.inl ⟨by kernel_rfl, fun _ _ => by kernel_rfl⟩) (by assumption) ?_
  refine wpAnyH_take (i := 6) (v := .pointer (some ⟨B, 3, none⟩)) rfl (by kernel_rfl) (by kernel_rfl) (by kernel_rfl) (fun _ _ _ h => h) (Or.inl ⟨by kernel_rfl, fun _ _ => by kernel_rfl⟩) (by assumption) ?_
  refine wpAnyH_take (i := 7) (v := .int .u64 b1) rfl (by kernel_rfl) (by kernel_rfl) (by kernel_rfl) (fun _ _ _ h => h) (Or.inl ⟨by kernel_rfl, fun wq hSw => by
      obtain ⟨s0, s1, s2, s3⟩ := HCl.out wq hSw
      go_simp⟩) (by assumption) ?_
  refine wpAnyH_take (i := 9) (v := ptr A) rfl (by kernel_rfl) (by kernel_rfl) (by kernel_rfl) (fun _ _ _ h => h) (Or.inl ⟨by kernel_rfl, fun _ _ => by kernel_rfl⟩) (by assumption) ?_
  refine wpAnyH_take (i := 10) (v := ptr A) rfl (by kernel_rfl) (by kernel_rfl) (by kernel_rfl) (fun _ _ _ h => h) (Or.inl ⟨by kernel_rfl, fun _ _ => by kernel_rfl⟩) (by assumption) ?_
  refine wpAnyH_take (i := 11) (v := .pointer (some ⟨A, 4, none⟩)) rfl (by kernel_rfl) (by kernel_rfl) (by kernel_rfl) (fun _ _ _ h => h) (Or.inl ⟨by kernel_rfl, fun _ _ => by kernel_rfl⟩) (by assumption) ?_
  refine wpAnyH_take (i := 12) (v := .int .i64 a2) rfl (by kernel_rfl) (by kernel_rfl) (by kernel_rfl) (fun _ _ _ h => h) (Or.inl ⟨by kernel_rfl, fun wq hSw => by
      obtain ⟨s0, s1, s2, s3⟩ := HCl.out wq hSw
      go_simp⟩) (by assumption) ?_
  refine wpAnyH_take (i := 13) (v := ptr B) rfl (by kernel_rfl) (by kernel_rfl) (by kernel_rfl) (fun _ _ _ h => h) (Or.inl ⟨by kernel_rfl, fun _ _ => by kernel_rfl⟩) (by assumption) ?_
  refine wpAnyH_take (i := 14) (v := ptr B) rfl (by kernel_rfl) (by kernel_rfl) (by kernel_rfl) (fun _ _ _ h => h) (Or.inl ⟨by kernel_rfl, fun _ _ => by kernel_rfl⟩) (by assumption) ?_
  refine wpAnyH_take (i := 15) (v := .pointer (some ⟨B, 4, none⟩)) rfl (by kernel_rfl) (by kernel_rfl) (by kernel_rfl) (fun _ _ _ h => h) (Or.inl ⟨by kernel_rfl, fun _ _ => by kernel_rfl⟩) (by assumption) ?_
  refine wpAnyH_take (i := 16) (v := .int .i64 b2) rfl (by kernel_rfl) (by kernel_rfl) (by kernel_rfl) (fun _ _ _ h => h) (Or.inl ⟨by kernel_rfl, fun wq hSw => by
      obtain ⟨s0, s1, s2, s3⟩ := HCl.out wq hSw
      go_simp⟩) (by assumption) ?_
  refine wpAnyH_ready (rs := [8]) (by kernel_rfl) (by simp) ?_
  refine AllReadyH.cons (i := 8) rfl ?_ AllReadyH.nil
  go_simp
  intro K hK
  refine (cmpU_any a1 b1 wd).mono ?_
  rintro e w2 ⟨rfl, hw2⟩
  rw [hw2]
  clear hw2 w2
  refine hK.out _ _ hd0 (fun _ => ?_)
  clear hK K
  rw [Hc0.out]
  refine wpAnyH_ready (rs := [17]) (by kernel_rfl) (by simp) ?_
  refine AllReadyH.cons (i := 17) rfl ?_ AllReadyH.nil
  go_simp
  intro K hK
  refine (cmpI_any a2 b2 wd).mono ?_
  rintro e w2 ⟨rfl, hw2⟩
  rw [hw2]
  clear hw2 w2
  refine hK.out _ _ hd0 (fun _ => ?_)
  clear hK K
  rw [Hc1.out]
  refine wpAnyH_ready (rs := [18]) (by kernel_rfl) (by simp) ?_
  refine AllReadyH.cons (i := 18) rfl ?_ AllReadyH.nil
  go_simp
  intro K hK
  have hb3 := hd0.alloc hd0.size (.cells #[.int .i64 c0, .int .i64 c1] 3)
  have hz3 := heap_alloc_last wd (.cells #[.int .i64 c0, .int .i64 c1] 3)
  have HOr := hidIn (cmpOr_any hz3)
  obtain ⟨w3, hw3⟩ : ∃ w3, wd.alloc (.cells #[.int .i64 c0, .int .i64 c1] 3) = w3 := ⟨_, rfl⟩
  rw [hw3] at hb3 HOr ⊢
  have HW3 := hidIn hw3
  refine hK.out _ _ hb3 (fun _ => ?_)
  clear hK K hw3 hz3
  refine wpAnyH_ready (rs := [19]) (by kernel_rfl) (by simp) ?_
  refine AllReadyH.cons (i := 19) rfl ?_ AllReadyH.nil
  go_simp
  intro K hK
  refine HOr.out.mono ?_
  rintro e w4 ⟨rfl, hw4⟩
  rw [hw4]
  clear hw4 w4
  refine hK.out _ _ hb3 (fun _ => ?_)
  clear hK K
  refine wpAnyH_take (i := 20) (v := .int .i64 (orI c0 c1)) rfl (by kernel_rfl) (by kernel_rfl) (by kernel_rfl) (fun _ _ _ h => h) (Or.inl ⟨by kernel_rfl, fun _ _ => by kernel_rfl⟩) (by assumption) ?_
  refine wpAnyH_done (by kernel_rfl) ?_ _
  go_wp2_with fail
  go_ret
  refine ⟨by rw [HE.out]; rfl, 1, #[.cells #[.int .i64 c0, .int .i64 c1] 3], ?_⟩
  rw [← HW3.out, ← HWd.out, Go.Sort.alloc_eq_grow]
  rfl
end Go.Proofs.Ytkhfpcnmnnboeaa.Ca.A
