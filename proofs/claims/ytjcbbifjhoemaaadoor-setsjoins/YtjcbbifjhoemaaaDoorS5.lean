/- sets.Sets. -/
import Derived.Test.YtjcbbifjhoemaaaDoorS4
namespace Go.Proofs.YtjcbbifjhoemaaaDoor
open Go.RowKit Go.Shelf

attribute [local go_sem] Oper.semAt_some

/-- A list of ids in memory. -/
def IdsAt (w : World) (v : Value) (zs : List Int) : Prop :=
  (∃ a cap, v = .slice a 0 cap ∧ zs = []) ∨
  (∃ bk o cap, v = .slice (some ⟨bk, o, none⟩) zs.length cap ∧ bk < w.heap.size ∧ zs.length ≤ 9223372036854775807 ∧ ∀ j, j < zs.length → w.cell? ⟨bk, o + j, none⟩ = some (.int .i64 (zs[j]?.getD 0)))
theorem IdsAt.keep {w w' : World} {v : Value} {zs : List Int} (h : IdsAt w v zs) (hb : Below w.heap.size w w') : IdsAt w' v zs := by
  rcases h with h | ⟨bk, o, cap, rfl, hbk, hl, hc⟩
  · exact .inl h
  · exact .inr ⟨bk, o, cap, rfl, Nat.lt_of_lt_of_le hbk hb.size, hl, fun j hj => (hb.cell (p := ⟨bk, o + j, none⟩) hbk).trans (hc j hj)⟩
theorem allIds_nil : allIds [] := by intro z hz; simp at hz
theorem sorted_yes {zs : List Int} {v : Value} {W : Nat} (hW : IsW W) (hall : allIds zs) {w : World} (hv : IdsAt w v zs) (ht : Wid w) :
    Calls Tryd.prog 13 #[v, .int .i64 W] w fun e w' => e = .returned (srtV (srt W zs) 0) ∧ Below w.heap.size w w' := by
  rcases hv with ⟨a, cap, rfl, rfl⟩ | ⟨bk, o, cap, rfl, hbk, hl, hc⟩
  · exact sorted_nil a cap W hW w ht
  · refine (sorted_all zs bk o cap W hW w ht hl hc hbk).mono ?_
    rintro e w' ⟨⟨_, rfl⟩ | ⟨hno, _⟩, hb⟩
    · exact ⟨rfl, hb⟩
    · exact absurd hall hno
theorem sorted_no {zs : List Int} {v : Value} {W : Nat} (hW : IsW W) (hall : ¬ allIds zs) {w : World} (hv : IdsAt w v zs) (ht : Wid w) :
    Calls Tryd.prog 13 #[v, .int .i64 W] w fun e w' => e = .returned (srtV none0 2) ∧ Below w.heap.size w w' := by
  rcases hv with ⟨a, cap, rfl, rfl⟩ | ⟨bk, o, cap, rfl, hbk, hl, hc⟩
  · exact absurd allIds_nil hall
  · refine (sorted_all zs bk o cap W hW w ht hl hc hbk).mono ?_
    rintro e w' ⟨⟨hy, _⟩ | ⟨_, rfl⟩, hb⟩
    · exact absurd hy hall
    · exact ⟨rfl, hb⟩
theorem lIn_store {F : Fence} {n : Nat} {P : Program} {ops : Array Oper} {rest : List Oper} {o : Oper} {a : Act} {w w' : World} {Q : Exit → Act → World → Prop} (hg : o.guard = none) (ty : TypeId) (x y : Operand) (ho : o.op = .store ty x y)
    (hrun : (Instr.storeAt ty (a.eval x) (a.eval y)).run P w = .ok () w') (h : wpListIn F n P ops Q rest (a.put o.dst undef) w') : wpListIn F n P ops Q (o :: rest) a w := by
  refine wpListIn_plain hg fun K hK => ?_
  unfold Oper.wpIn
  refine ⟨by simp [Oper.about, ho], ?_⟩
  rw [Oper.semAt_plain F _ _ (by rw [ho]; intro c hc; cases hc)]
  simp only [execOp, ho, Sem.run_bind, hrun, Result.andThen_ok]
  exact hK _ _ h
theorem store_new (w : World) (f g : Nat → Nat) : (Instr.storeAt 44 (.pointer (some ⟨w.heap.size, 0, none⟩)) (.agg (cl g).toArray)).run Tryd.prog (w.alloc (.cells (cl f).toArray 44)) = .ok () (w.alloc (.cells (cl g).toArray 44)) :=
  run_storeAt_new w 44 (cl f).toArray (cl g).toArray (by rw [List.size_toArray]; exact size_by g) (by rw [List.size_toArray, List.size_toArray, cl_len, cl_len]) (cl_one g)
theorem upd_lt {f : Nat → Nat} {s N : Nat} (hf : ∀ s, f s < 2 ^ 256) (hN : N < 2 ^ 256) : ∀ i, upd f s N i < 2 ^ 256 := fun i => by unfold upd; split; exact hN; exact hf i
theorem srt_lt {W : Nat} (hW : IsW W) (zs : List Int) : ∀ s, srt W zs s < 2 ^ 256 := by
  have hWb := isW_pos hW
  have : ∀ (l : List Int) (f : Nat → Nat), (∀ s, f s < 2 ^ 256) → ∀ s, l.foldl (addId W) f s < 2 ^ 256 := by
    intro l
    induction l with
    | nil => intro f hf; exact hf
    | cons z l ih =>
      intro f hf
      refine ih _ (upd_lt hf (Nat.or_lt_two_pow (hf _) ?_))
      exact Nat.pow_lt_pow_right (by omega) (by have := Nat.mod_lt (z - 1).toNat (show 0 < W by omega); omega)
  exact this zs none0 (fun _ => by unfold none0; exact Nat.two_pow_pos 256)

set_option maxRecDepth 100000 in
set_option maxHeartbeats 1000000 in
theorem sets_wrong {zs : List Int} {v : Value} {W : Nat} (h : ¬ IsW W ∨ ¬ allIds zs) {w : World} (hv : IdsAt w v zs) (ht : Wid w) :
    Calls Tryd.prog 7 #[v, .int .i64 W] w fun e w' => e = .returned (.tuple #[.int .i64 0, .int .i64 2]) ∧ Below w.heap.size w w' := by
  have hs : Hid (Calls Tryd.prog 13 #[v, .int .i64 W] w fun e w' => e = .returned (srtV none0 2) ∧ Below w.heap.size w w') := hidIn (by
    by_cases hW : IsW W
    · exact sorted_no hW (by rcases h with h | h; exact absurd hW h; exact h) hv ht
    · exact sorted_bad v W hW w ht)
  have hz := zero_by
  refine (callsIn_wide (n := 5)).1 ?_
  refine callsIn_of_wp_marks Tryd.func7 rfl trivial ?_ rfl
  simp only [Tryd.ntmps7, List.size_toArray, List.length_cons, List.length_nil, Nat.reduceAdd, Nat.reduceSub, Array.replicate_succ, Array.replicate_zero, List.push_toArray, List.append_toArray, List.nil_append, List.cons_append]
  gi_wp2_with (first
    | (refine ⟨trivial, ?_⟩; gi_at_call 13; refine (callsIn_wide.2 hs.out).mono ?_; rintro e w1 ⟨rfl, hb1⟩)
    | (refine lIn_store rfl 44 _ _ rfl (store_new _ _ _) ?_))
  exact ⟨_, by simp [results, Tryd.results7, go_sem], rfl, hb1.trans ((Below.refl _ w1).alloc (Nat.le_refl _) _ |>.mono hb1.size)⟩

set_option maxRecDepth 100000 in
set_option maxHeartbeats 1000000 in
theorem sets_yes {zs : List Int} {v : Value} {W : Nat} (hW : IsW W) (hall : allIds zs) {w : World} (hv : IdsAt w v zs) (ht : Wid w) :
    Calls Tryd.prog 7 #[v, .int .i64 W] w fun e w' => e = .returned (.tuple #[.int .i64 ((setsOf (srt W zs)).length : Nat), .int .i64 0]) ∧ Below w.heap.size w w' := by
  have hs := hidIn (sorted_yes hW hall hv ht)
  have hlt := hidIn (srt_lt hW zs)
  generalize srt W zs = f at hs hlt
  have hz := zero_by
  refine (callsIn_wide (n := 5)).1 ?_
  refine callsIn_of_wp_marks Tryd.func7 rfl trivial ?_ rfl
  simp only [Tryd.ntmps7, List.size_toArray, List.length_cons, List.length_nil, Nat.reduceAdd, Nat.reduceSub, Array.replicate_succ, Array.replicate_zero, List.push_toArray, List.append_toArray, List.nil_append, List.cons_append]
  gi_wp2_with (first
    | (refine ⟨trivial, ?_⟩; gi_at_call 13; refine (callsIn_wide.2 hs.out).mono ?_; rintro e w1 ⟨rfl, hb1⟩; have hA1 := (hasAll_new w1 f).keep ((Below.refl _ _).alloc (Nat.le_refl _) (.cells #[.int .i64 0] 3)) (by simp))
    | (refine lIn_store rfl 44 _ _ rfl (store_new _ _ _) ?_)
    | (refine lIn_load rfl 44 _ rfl _ (loadAt_all hA1) ?_)
    | (refine ⟨trivial, ?_⟩; gi_at_call 14; refine (callsIn_wide.2 (parts_any f _)).mono ?_; rintro e w2 ⟨rfl, rfl⟩))
  have hb2 : Below w.heap.size w (((w1.alloc (.cells (cl f).toArray 44)).alloc (.cells #[.int .i64 0] 3)).alloc (.cells (cl f).toArray 44)) := hb1.trans ((((Below.refl _ w1).alloc (Nat.le_refl _) _).alloc (by simp) _).alloc (by simp; omega) _ |>.mono hb1.size)
  have hA2 := hasAll_new ((w1.alloc (.cells (cl f).toArray 44)).alloc (.cells #[.int .i64 0] 3)) f
  have bX := (Boxed.new (w1.alloc (.cells (cl f).toArray 44)) 3 (.int .i64 0)).alloc (.cells (cl f).toArray 44)
  have sV : (((w1.alloc (.cells (cl f).toArray 44)).alloc (.cells #[.int .i64 0] 3)).alloc (.cells (cl f).toArray 44)).heap.size = w1.heap.size + 3 := by simp
  simp only [World.size_alloc] at hA2 bX
  generalize ((w1.alloc _).alloc _).alloc _ = V at hb2 hA2 bX sV ⊢
  have hs1 := hb1.size
  refine wpIn_eachX (T := fun _ => True) rfl (by omega) (gf := 28) (lb := #[.pointer (some ⟨w1.heap.size + 1 + 1, 0, none⟩)]) rfl trivial (enters_of Tryd.func28 (by kernel_rfl) rfl) (parts_gives f hlt.out (w1.heap.size + 1 + 1) 4 (by omega) V hA2) (fun _ => rfl)
    (fun pre W => Boxed W (w1.heap.size + 1) 3 (.int .i64 (pre.length : Nat)) ∧ Below w.heap.size w W) (fun _ _ _ => False) (fun _ _ _ => trivial) ?own (fun _ _ _ _ _ h _ _ _ => h) ⟨bX, hb2⟩
    (fun x a' _ => a' = { tmps := #[v, .int .i64 W, undef, undef, .int .i64 0, .int .i64 0, .pointer (some ⟨w1.heap.size, 0, none⟩), .int .i64 0, .pointer (some ⟨w1.heap.size + 1, 0, none⟩), srtV f 0, v, .int .i64 W, srtV f 0, .agg (cl f).toArray, .int .i64 0, .int .i64 0, .bool false, undef, .agg (cl f).toArray, .func (.func 28) #[] #[.pointer (some ⟨w1.heap.size + 1 + 1, 0, none⟩)], partV x (f x), undef, undef, undef], defers := [] }) (fun _ _ _ _ _ h _ _ _ => h) ?assign ?body ?done (fun _ _ _ _ _ _ h => h.elim)
  case own =>
    rintro s A A' q ⟨hx, hb⟩ hg h1 h2
    rw [sV] at h1 h2
    exact ⟨hx.kept hg (by simp; omega), hb.grown hg hb.size (fun k e => by cases e; omega)⟩
  case assign =>
    intro l pre x W' K hi hpre hsz hK
    gi_wp2
    exact hK _ _ ⟨rfl, rfl, rfl, Nat.le_refl _⟩ hi (by simp)
  case body =>
    rintro l pre x a' W' ⟨hx, hB⟩ rfl hpre hsz
    rw [sV] at hsz ⊢
    have hlen : pre.length < 128 := by
      have h1 := hpre.length_le
      have h2 : (setsOf f).length ≤ 128 := by unfold setsOf upto; have := List.length_filter_le (fun s => decide (f s ≠ 0)) (List.range 128); simpa using this
      simp at h1
      omega
    have hc := hx.cell
    have hf := hx.frozen
    clear hpre hA2 bX
    gi_wp2
    refine ⟨Keep3.set _ _ _ (by omega), ?_, hB.setCell (p := ⟨w1.heap.size + 1, 0, none⟩) (by show w.heap.size ≤ w1.heap.size + 1; omega) _⟩
    have := hx.set (.int .i64 ((pre.length : Int) + 1))
    rw [List.length_append, List.length_singleton]
    exact this
  case done =>
    rintro D W' hD ⟨hx, hB⟩ hK
    have hc := hx.cell
    clear hA2 bX
    gi_wp2
    refine ⟨by simp, .inl ⟨_, _, rfl, run_takeDeferred hK, ?_⟩⟩
    exact ⟨_, by simp [results, Tryd.results7, go_sem], rfl, hB.trans (belowK_b (w := w) (Nat.le_refl _) W' D _ _ (by rw [sV] at hD; omega) hK rfl rfl)⟩
end Go.Proofs.YtjcbbifjhoemaaaDoor
