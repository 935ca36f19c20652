/- GraphKnown. -/
import Derived.Test.YtpifkhcjogilfabGV1
import Derived.Test.YtpifkhcjogilfabGC
import Derived.Test.YtpifkhcjogilfabGX0
namespace Go.Proofs.Ytpifkhcjogilfab
open Go.RowKit

theorem slAt_two {w : World} (A : Obj) {l : List Ed} {T : TypeId} (hn : l.length ≤ 1000) : SlAt ec 3 ((w.alloc A).alloc (.cells (fl ec l).toArray T)) (.slice (some ⟨w.heap.size + 1, 0, none⟩) l.length l.length) l := by
  refine slAt_block (cs := ec) (sz := 3) (T := T) (fun _ => rfl) ?_ hn
  have := heap_alloc_last (w.alloc A) (.cells (fl ec l).toArray T)
  rw [World.size_alloc] at this
  exact this
theorem slAt_one {w : World} (A : Obj) {l : List Int} {T : TypeId} (hn : l.length ≤ 1000) : SlAt ic 1 ((w.alloc (.cells (fl ic l).toArray T)).alloc A) (.slice (some ⟨w.heap.size, 0, none⟩) l.length l.length) l := by
  refine slAt_block (cs := ic) (sz := 1) (T := T) (fun _ => rfl) ?_ hn
  rw [Below.heap_alloc _ _ _ (by simp)]
  exact heap_alloc_last w _
theorem slAt_new {w : World} {l : List Int} {T : TypeId} (hn : l.length ≤ 1000) : SlAt ic 1 (w.alloc (.cells (fl ic l).toArray T)) (.slice (some ⟨w.heap.size, 0, none⟩) l.length l.length) l :=
  slAt_block (cs := ic) (sz := 1) (T := T) (fun _ => rfl) (heap_alloc_last w _) hn
/-- What Of answers, as a graph. -/
theorem OfAns.gr {w w' : World} {ns N : List Int} {ls E : List Ed} {C : Int} {e : Ending} (h : OfAns w ns ls e w') (hC : ofC ns ls = C) (hN : ofN ns ls = N) (hE : ofE ns ls = E) :
    ∃ ua ucap va vcap, e = .returned (.tuple #[grV (.slice ua N.length ucap) (.slice va E.length vcap), .int .i64 C]) ∧ GrAt w' (.slice ua N.length ucap) (.slice va E.length vcap) N E := by
  obtain ⟨ua, ucap, va, vcap, he, hu, hv⟩ := h
  rw [hN, hE, hC] at he
  rw [hN] at hu
  rw [hE] at hv
  exact ⟨ua, ucap, va, vcap, he, grAt_of_rows hu hv⟩
theorem of_at (w : World) (ns : List Int) (ls : List Ed) (C : Int) (N : List Int) (E : List Ed) (h1 : ns.length ≤ 1000) (h2 : ls.length ≤ 1000) (hC : ofC ns ls = C) (hN : ofN ns ls = N) (hE : ofE ns ls = E) :
    Calls Try.prog 9 #[.slice (some ⟨w.heap.size, 0, none⟩) ns.length ns.length, .slice (some ⟨w.heap.size + 1, 0, none⟩) ls.length ls.length] ((w.alloc (.cells (fl ic ns).toArray 3)).alloc (.cells (fl ec ls).toArray 44)) fun e w' =>
      (∃ ua ucap va vcap, e = .returned (.tuple #[grV (.slice ua N.length ucap) (.slice va E.length vcap), .int .i64 C]) ∧ GrAt w' (.slice ua N.length ucap) (.slice va E.length vcap) N E) ∧ Below w.heap.size w w' := by
  refine (of_any (slAt_one _ h1) (slAt_two _ h2)).mono fun e w' h => ⟨h.1.gr hC hN hE, ?_⟩
  have b : Below w.heap.size w ((w.alloc (.cells (fl ic ns).toArray 3)).alloc (.cells (fl ec ls).toArray 44)) := ((Below.refl _ w).alloc (Nat.le_refl _) _).alloc (by simp) _
  exact b.trans (h.2.mono b.size)
theorem of_nil (w : World) (ns : List Int) (C : Int) (h1 : ns.length ≤ 1000) (hC : ofC ns [] = C) (hN : ofN ns [] = []) (hE : ofE ns [] = []) :
    Calls Try.prog 9 #[.slice (some ⟨w.heap.size, 0, none⟩) ns.length ns.length, .slice none 0 0] (w.alloc (.cells (fl ic ns).toArray 3)) fun e w' =>
      (∃ ua ucap va vcap, e = .returned (.tuple #[grV (.slice ua 0 ucap) (.slice va 0 vcap), .int .i64 C]) ∧ GrAt w' (.slice ua 0 ucap) (.slice va 0 vcap) [] []) ∧ Below w.heap.size w w' := by
  refine (of_any (slAt_new h1) (slAt_nil ec 3 _)).mono fun e w' h => ⟨h.1.gr hC hN hE, ?_⟩
  have b : Below w.heap.size w (w.alloc (.cells (fl ic ns).toArray 3)) := (Below.refl _ w).alloc (Nat.le_refl _) _
  exact b.trans (h.2.mono b.size)
theorem make_49 (w : World) : (Instr.makeSlice 45 (.int .i64 49) (.int .i64 49)).run Try.prog w = .ok (.slice (some ⟨w.heap.size, 0, none⟩) 49 49) (w.alloc (.cells (fl ec (List.replicate 49 (0, 0, 0))).toArray 44)) := by kernel_rfl
theorem three_p3 {f : Nat → Bool} (h : IsPart [(1, 2, 5), (2, 1, 7)] 3 f) : markedL f = [3] := by
  have k : IsPart [(1, 2, 5), (2, 1, 7)] 3 (mk1 no1 3) := by
    refine isPart_of (ns := [1, 2, 3]) (by simp) (by simp) (fun i hi => ?_) (by decide) (by decide)
    rcases mk1_iff.1 hi with rfl | hi
    · exact Rch.refl _ _
    · simp [no1] at hi
  rw [h.same k]
  decide
theorem rcs_take (l : List (Rc × Value)) (k : Nat) : rcs (l.take k) = (rcs l).take k := by simp [rcs, List.map_take]
theorem RecsAt.take1 {w : World} {v : Value} {l : List (Rc × Value)} (h : RecsAt w v l) (hl : rcs l = threeR) : ∃ a cap, v = .slice (some a) 3 cap ∧ 1 ≤ cap ∧ RecsAt w (.slice (some a) 1 cap) (l.take 1) := by
  have h3 : l.length = 3 := by have := congrArg List.length hl; simpa [threeR] using this
  obtain ⟨a, cap, rfl, h0, h1, h2⟩ := h.r
  obtain ⟨bk, o, rfl, h4, h5⟩ := h2 (by omega)
  refine ⟨_, cap, by rw [h3], by omega, slAt_take h5 rfl h0 h1 h4 (by omega), fun x hx => h.a x (List.mem_of_mem_take hx)⟩
theorem BothAns.gr {w w' : World} {l : List (Rc × Value)} {N : List Int} {E : List Ed} {e : Ending} (h : BothAns w l e w') (hok : bothOk no1 (rcs l) = true) (hN : bothN (rcs l) = N) (hE : bothE (rcs l) = E) :
    ∃ ua ucap va vcap, e = .returned (.tuple #[grV (.slice ua N.length ucap) (.slice va E.length vcap), .int .i64 0]) ∧ GrAt w' (.slice ua N.length ucap) (.slice va E.length vcap) N E := by
  unfold BothAns at h
  rw [hok, hN, hE] at h
  obtain ⟨_, u, v, rfl, hu, hv⟩ : true = true ∧ _ := by rcases h with h | h; exact h; cases h.1
  obtain ⟨ua, ucap, rfl⟩ := row_shape hu
  obtain ⟨va, vcap, rfl⟩ := row_shape hv
  exact ⟨ua, ucap, va, vcap, rfl, grAt_of_rows hu hv⟩
/-- A graph in a block of its own. -/
def GrBox (w : World) (b : Nat) (vn ve : Value) (N : List Int) (E : List Ed) : Prop := w.heap[b]? = some (.cells #[vn, ve] 25) ∧ GrAt w vn ve N E
theorem GrBox.keep {w w' : World} {b : Nat} {vn ve : Value} {N : List Int} {E : List Ed} (h : GrBox w b vn ve N E) (hb : Below w.heap.size w w') : GrBox w' b vn ve N E := ⟨(hb.block _ (block_lt h.1)).trans h.1, h.2.keep hb (Nat.le_refl _)⟩
theorem grBox_new {w : World} {vn ve : Value} {N : List Int} {E : List Ed} (h : GrAt w vn ve N E) : GrBox (w.alloc (.cells #[vn, ve] 25)) w.heap.size vn ve N E := ⟨heap_alloc_last w _, h.keep ((Below.refl _ w).alloc (Nat.le_refl _) _) (Nat.le_refl _)⟩
theorem two_recs (w : World) : ∀ W, W = ((w.alloc (.cells #[.int .i64 1, .int .u32 1, .int .u32 1, .int .i64 0, .bool false, .slice none 0 0] 38)).alloc (.cells #[.int .i64 1, .int .u32 1, .int .u32 1, .int .i64 0, .bool false, .slice none 0 0] 38)).alloc (.cells #[.int .i64 1, .int .u32 1, .int .u32 1, .int .i64 0, .bool false, .slice none 0 0, .int .i64 1, .int .u32 1, .int .u32 1, .int .i64 0, .bool false, .slice none 0 0] 38) →
    RecsAt W (.slice (some ⟨w.heap.size + 1 + 1, 0, none⟩) 2 2) [(⟨1, 1, 1, 0, false, []⟩, .slice none 0 0), (⟨1, 1, 1, 0, false, []⟩, .slice none 0 0)] ∧ Below w.heap.size w W := by
  rintro W rfl
  refine ⟨⟨?_, ?_⟩, by go_grown⟩
  · refine slAt_block (cs := rcc) (sz := 6) (fun _ => rfl) (T := 38) (l := [(⟨1, 1, 1, 0, false, []⟩, .slice none 0 0), (⟨1, 1, 1, 0, false, []⟩, .slice none 0 0)]) ?_ (by simp)
    have h := heap_alloc_last ((w.alloc (.cells #[.int .i64 1, .int .u32 1, .int .u32 1, .int .i64 0, .bool false, .slice none 0 0] 38)).alloc (.cells #[.int .i64 1, .int .u32 1, .int .u32 1, .int .i64 0, .bool false, .slice none 0 0] 38)) (.cells #[.int .i64 1, .int .u32 1, .int .u32 1, .int .i64 0, .bool false, .slice none 0 0, .int .i64 1, .int .u32 1, .int .u32 1, .int .i64 0, .bool false, .slice none 0 0] 38)
    simp only [World.size_alloc] at h
    exact h
  · intro x hx
    simp only [List.mem_cons, List.not_mem_nil, or_false] at hx
    rcases hx with rfl | rfl <;> exact slAt_nil _ _ _
theorem allocs_old : ∀ (os : List Obj) (w : World) (j : Nat), j < w.heap.size → (os.foldl World.alloc w).heap[j]? = w.heap[j]?
  | [], _, _, _ => rfl
  | o :: os, w, j, h => by
    show (os.foldl World.alloc (w.alloc o)).heap[j]? = _
    rw [allocs_old os _ j (by simp; omega), Below.heap_alloc _ _ _ h]
theorem allocs_get : ∀ (os : List Obj) (w : World) (i : Nat) (o : Obj), os[i]? = some o → (os.foldl World.alloc w).heap[w.heap.size + i]? = some o
  | [], _, _, _, h => by simp at h
  | x :: os, w, 0, o, h => by
    simp at h
    subst h
    show (os.foldl World.alloc (w.alloc x)).heap[w.heap.size]? = _
    rw [allocs_old os _ _ (by simp)]
    exact heap_alloc_last w x
  | x :: os, w, i + 1, o, h => by
    have h1 := allocs_get os (w.alloc x) i o (by simpa using h)
    rw [World.size_alloc] at h1
    show (os.foldl World.alloc (w.alloc x)).heap[w.heap.size + (i + 1)]? = _
    rw [show w.heap.size + (i + 1) = w.heap.size + 1 + i from by omega]
    exact h1
theorem allocs_below : ∀ (os : List Obj) (w : World), Below w.heap.size w (os.foldl World.alloc w)
  | [], w => Below.refl _ w
  | o :: os, w => by
    have h := allocs_below os (w.alloc o)
    rw [World.size_alloc] at h
    exact ((Below.refl _ w).alloc (Nat.le_refl _) o).trans (h.mono (by omega))
def wrongO (s : Nat) : Obj := .cells #[.slice (some ⟨s, 0, none⟩) 2 2, .slice none 0 0, .slice (some ⟨s + 1, 0, none⟩) 1 1, .slice none 0 0, .slice (some ⟨s + 2, 0, none⟩) 2 2, .slice (some ⟨s + 3, 0, none⟩) 1 1, .slice (some ⟨s + 4, 0, none⟩) 2 2, .slice (some ⟨s + 5, 0, none⟩) 1 1, .slice (some ⟨s + 6, 0, none⟩) 2 2, .slice (some ⟨s + 7, 0, none⟩) 2 2, .slice (some ⟨s + 8, 0, none⟩) 2 2, .slice (some ⟨s + 9, 0, none⟩) 2 2] 25
def wrongOs (s : Nat) : List Obj := [.cells (fl ic [2, 1]).toArray 3, .cells (fl ic [25]).toArray 3, .cells (fl ic [1, 2]).toArray 3, .cells (fl ec [(1, 1, 1)]).toArray 47, .cells (fl ic [1, 2]).toArray 3, .cells (fl ec [(1, 2, 1001)]).toArray 47, .cells (fl ic [1, 2]).toArray 3, .cells (fl ec [(2, 1, 1), (1, 2, 1)]).toArray 47, .cells (fl ic [1, 2]).toArray 3, .cells (fl ec [(1, 2, 1), (1, 2, 1)]).toArray 47, wrongO s]
def wrongW (w : World) : World := (wrongOs w.heap.size).foldl World.alloc w
/-- The six graphs that may not be. -/
def wrongL (s : Nat) : List (Value × Value × List Int × List Ed) := [
  (.slice (some ⟨s, 0, none⟩) 2 2, .slice none 0 0, [2, 1], []),
  (.slice (some ⟨s + 1, 0, none⟩) 1 1, .slice none 0 0, [25], []),
  (.slice (some ⟨s + 2, 0, none⟩) 2 2, .slice (some ⟨s + 3, 0, none⟩) 1 1, [1, 2], [(1, 1, 1)]),
  (.slice (some ⟨s + 4, 0, none⟩) 2 2, .slice (some ⟨s + 5, 0, none⟩) 1 1, [1, 2], [(1, 2, 1001)]),
  (.slice (some ⟨s + 6, 0, none⟩) 2 2, .slice (some ⟨s + 7, 0, none⟩) 2 2, [1, 2], [(2, 1, 1), (1, 2, 1)]),
  (.slice (some ⟨s + 8, 0, none⟩) 2 2, .slice (some ⟨s + 9, 0, none⟩) 2 2, [1, 2], [(1, 2, 1), (1, 2, 1)])]
theorem wrong_at (w W : World) (h : W = wrongW w) : W.heap[w.heap.size + 10]? = some (wrongO w.heap.size) ∧ Below w.heap.size w W ∧ ∀ (k : Nat) (x : Value × Value × List Int × List Ed), (wrongL w.heap.size)[k]? = some x → GrAt W x.1 x.2.1 x.2.2.1 x.2.2.2 ∧ graphOk x.2.2.1 x.2.2.2 = false := by
  subst h
  have hg : ∀ i o, (wrongOs w.heap.size)[i]? = some o → (wrongW w).heap[w.heap.size + i]? = some o := fun i o h => allocs_get _ w i o h
  have hI : ∀ i l, (wrongOs w.heap.size)[i]? = some (.cells (fl ic l).toArray 3) → l.length ≤ 1000 → SlAt ic 1 (wrongW w) (.slice (some ⟨w.heap.size + i, 0, none⟩) l.length l.length) l := fun i l h hn => slAt_block (cs := ic) (sz := 1) (fun _ => rfl) (hg i _ h) hn
  have hE : ∀ i l, (wrongOs w.heap.size)[i]? = some (.cells (fl ec l).toArray 47) → l.length ≤ 1000 → SlAt ec 3 (wrongW w) (.slice (some ⟨w.heap.size + i, 0, none⟩) l.length l.length) l := fun i l h hn => slAt_block (cs := ec) (sz := 3) (fun _ => rfl) (hg i _ h) hn
  refine ⟨hg 10 _ rfl, allocs_below _ w, fun k x hx => ?_⟩
  match k, hx with
  | 0, hx => cases hx; exact ⟨⟨hI 0 [2, 1] rfl (by simp), slAt_nil _ _ _⟩, rfl⟩
  | 1, hx => cases hx; exact ⟨⟨hI 1 [25] rfl (by simp), slAt_nil _ _ _⟩, rfl⟩
  | 2, hx => cases hx; exact ⟨⟨hI 2 [1, 2] rfl (by simp), hE 3 [(1, 1, 1)] rfl (by simp)⟩, rfl⟩
  | 3, hx => cases hx; exact ⟨⟨hI 4 [1, 2] rfl (by simp), hE 5 [(1, 2, 1001)] rfl (by simp)⟩, rfl⟩
  | 4, hx => cases hx; exact ⟨⟨hI 6 [1, 2] rfl (by simp), hE 7 [(2, 1, 1), (1, 2, 1)] rfl (by simp)⟩, rfl⟩
  | 5, hx => cases hx; exact ⟨⟨hI 8 [1, 2] rfl (by simp), hE 9 [(1, 2, 1), (1, 2, 1)] rfl (by simp)⟩, rfl⟩
  | k + 6, hx => simp [wrongL] at hx
theorem wrong_cell (s k : Nat) (x : Value × Value × List Int × List Ed) (hx : (wrongL s)[k]? = some x) : (match wrongO s with | .cells cs _ => cs[k * 2]? = some x.1 ∧ cs[k * 2 + 1]? = some x.2.1 | _ => False) := by
  match k, hx with
  | 0, hx => cases hx; exact ⟨rfl, rfl⟩
  | 1, hx => cases hx; exact ⟨rfl, rfl⟩
  | 2, hx => cases hx; exact ⟨rfl, rfl⟩
  | 3, hx => cases hx; exact ⟨rfl, rfl⟩
  | 4, hx => cases hx; exact ⟨rfl, rfl⟩
  | 5, hx => cases hx; exact ⟨rfl, rfl⟩
  | k + 6, hx => simp [wrongL] at hx

set_option maxRecDepth 100000 in
set_option maxHeartbeats 8000000 in
theorem graphKnown_walk (w : World) : Calls Try.prog 3 #[] w fun e w' => e = .returned (.bool true) ∧ Below w.heap.size w w' := by
  go_enter Try.func3, Try.ntmps3
  go_wp2_with fail
  refine (three_any w).mono ?_
  rintro e w1 ⟨⟨v, l, rfl, hR, hl⟩, hb1⟩
  have HC := hidIn (both_any hR)
  have HL := hidIn hl
  clear hR hl
  go_wp2_with fail
  refine HC.out.mono ?_
  rintro e w2 ⟨hans, hb2⟩
  obtain ⟨ua, ucap, va, vcap, rfl, hgr⟩ := hans.gr (N := [1, 2, 3]) (E := [(1, 2, 5), (2, 1, 7)]) (by rw [HL.out]; exact three_ok) (by rw [HL.out]; exact three_n) (by rw [HL.out]; exact three_e)
  simp only [List.length_cons, List.length_nil, Nat.zero_add, Nat.reduceAdd] at hgr ⊢
  have hbx := grBox_new hgr
  have hb3 : Below w.heap.size w (w2.alloc (.cells #[.slice ua 3 ucap, .slice va 2 vcap] 25)) := (hb1.trans (hb2.mono hb1.size)).alloc (Nat.le_trans hb1.size hb2.size) _
  go_upto_region 2 with fail
  clear HC HL hans hgr hb1 hb2
  generalize w2.alloc (.cells #[.slice ua 3 ucap, .slice va 2 vcap] 25) = W3 at *
  generalize w2.heap.size = bg at *
  have HK : Hid (∀ wq, Below W3.heap.size W3 wq → GrBox wq bg (.slice ua 3 ucap) (.slice va 2 vcap) [1, 2, 3] [(1, 2, 5), (2, 1, 7)] ∧ Below w.heap.size w wq) := hidIn fun wq h => ⟨hbx.keep h, hb3.trans (h.mono hb3.size)⟩
  have g0 : W3.cell? ⟨bg, 0, none⟩ = some (.slice ua 3 ucap) := cell_of_row _ _ 0 _ _ _ hbx.1
  have g1 : W3.cell? ⟨bg, 1, none⟩ = some (.slice va 2 vcap) := cell_of_row _ _ 1 _ _ _ hbx.1
  have HP := hidIn (near_any hbx.2 2)
  clear hbx hb3
  go_wp2_with fail
  refine HP.out.mono ?_
  rintro e w4 ⟨hans, hb4⟩
  rw [show (graphOk [1, 2, 3] [(1, 2, 5), (2, 1, 7)] && hasN [1, 2, 3] 2) = true from by decide, show nearL [(1, 2, 5), (2, 1, 7)] 2 = [(1, 7)] from by decide] at hans
  obtain ⟨_, u, rfl, hu⟩ : true = true ∧ _ := by rcases hans with h | h; exact h; cases h.1
  obtain ⟨na, ncap, rfl⟩ := row_shape hu
  have hsn := slAt_of_row (cs := ac) (l := [(1, 7)]) (fun _ => rfl) hu rfl
  simp only [List.length_cons, List.length_nil, Nat.zero_add] at hsn hu ⊢
  have HK2 : Hid (∀ wq, Below w4.heap.size w4 wq → (GrBox wq bg (.slice ua 3 ucap) (.slice va 2 vcap) [1, 2, 3] [(1, 2, 5), (2, 1, 7)] ∧ Below w.heap.size w wq) ∧ SlAt ac 2 wq (.slice na 1 ncap) [(1, 7)]) := hidIn fun wq h => ⟨HK.out wq (hb4.trans (h.mono hb4.size)), hsn.keep h (Nat.le_refl _)⟩
  clear hans hu hsn hb4 g0 g1 HP HK
  obtain ⟨⟨hbx, _⟩, _⟩ := HK2.out w4 (Below.refl _ _)
  have g0 : w4.cell? ⟨bg, 0, none⟩ = some (.slice ua 3 ucap) := cell_of_row _ _ 0 _ _ _ hbx.1
  have g1 : w4.cell? ⟨bg, 1, none⟩ = some (.slice va 2 vcap) := cell_of_row _ _ 1 _ _ _ hbx.1
  have HP := hidIn (part_any hbx.2 3)
  clear hbx
  go_wp2_with fail
  refine HP.out.mono ?_
  rintro e w5 ⟨hans, hb5⟩
  unfold PartAns at hans
  rw [show (graphOk [1, 2, 3] [(1, 2, 5), (2, 1, 7)] && hasN [1, 2, 3] 3) = true from by decide] at hans
  obtain ⟨_, f, u, hf, rfl, hu⟩ : true = true ∧ _ := by rcases hans with h | h; exact h; cases h.1
  rw [three_p3 hf] at hu
  obtain ⟨pa, pcap, rfl⟩ := row_shape hu
  have hsp := slAt_of_row (cs := ic) (l := [3]) (fun _ => rfl) hu rfl
  simp only [List.length_cons, List.length_nil, Nat.zero_add] at hsp hu ⊢
  have HK3 : Hid (∀ wq, Below w5.heap.size w5 wq → ((GrBox wq bg (.slice ua 3 ucap) (.slice va 2 vcap) [1, 2, 3] [(1, 2, 5), (2, 1, 7)] ∧ Below w.heap.size w wq) ∧ SlAt ac 2 wq (.slice na 1 ncap) [(1, 7)]) ∧ SlAt ic 1 wq (.slice pa 1 pcap) [3]) := hidIn fun wq h => ⟨HK2.out wq (hb5.trans (h.mono hb5.size)), hsp.keep h (Nat.le_refl _)⟩
  clear hans hf hu hsp hb5 g0 g1 HP HK2
  obtain ⟨⟨⟨hbx, _⟩, _⟩, _⟩ := HK3.out w5 (Below.refl _ _)
  have g0 : w5.cell? ⟨bg, 0, none⟩ = some (.slice ua 3 ucap) := cell_of_row _ _ 0 _ _ _ hbx.1
  have g1 : w5.cell? ⟨bg, 1, none⟩ = some (.slice va 2 vcap) := cell_of_row _ _ 1 _ _ _ hbx.1
  have HP := hidIn (part_any hbx.2 4)
  clear hbx
  go_wp2_with fail
  refine HP.out.mono ?_
  rintro e w6 ⟨hans, hb6⟩
  unfold PartAns at hans
  rw [show (graphOk [1, 2, 3] [(1, 2, 5), (2, 1, 7)] && hasN [1, 2, 3] 4) = false from by decide] at hans
  obtain ⟨_, rfl⟩ : false = false ∧ _ := by rcases hans with h | h; cases h.1; exact h
  have HK4 : Hid (∀ wq, Below w6.heap.size w6 wq → ((GrBox wq bg (.slice ua 3 ucap) (.slice va 2 vcap) [1, 2, 3] [(1, 2, 5), (2, 1, 7)] ∧ Below w.heap.size w wq) ∧ SlAt ac 2 wq (.slice na 1 ncap) [(1, 7)]) ∧ SlAt ic 1 wq (.slice pa 1 pcap) [3]) := hidIn fun wq h => HK3.out wq (hb6.trans (h.mono hb6.size))
  clear hans hb6 g0 g1 HP HK3
  go_wp2_with fail
  refine (three_any w6).mono ?_
  rintro e w7 ⟨⟨v, l, rfl, hR, hl⟩, hb7⟩
  obtain ⟨va7, vcap7, rfl, hcap7, hR1⟩ := hR.take1 hl
  have hcap7i : (1 : Int) ≤ (vcap7 : Int) := by omega
  have HC := hidIn (both_any hR1)
  have HL : Hid (rcs (l.take 1) = threeR.take 1) := hidIn (by rw [rcs_take, hl])
  have HK5 : Hid (∀ wq, Below w7.heap.size w7 wq → ((GrBox wq bg (.slice ua 3 ucap) (.slice va 2 vcap) [1, 2, 3] [(1, 2, 5), (2, 1, 7)] ∧ Below w.heap.size w wq) ∧ SlAt ac 2 wq (.slice na 1 ncap) [(1, 7)]) ∧ SlAt ic 1 wq (.slice pa 1 pcap) [3]) := hidIn fun wq h => HK4.out wq (hb7.trans (h.mono hb7.size))
  clear hR hl hR1 HK4 hb7
  go_wp2_with fail
  refine HC.out.mono ?_
  rintro e w8 ⟨hans, hb8⟩
  obtain ⟨oa, ocap, ob, obcap, rfl, hgr⟩ := hans.gr (N := [1]) (E := []) (by rw [HL.out]; decide) (by rw [HL.out]; decide) (by rw [HL.out]; decide)
  simp only [List.length_cons, List.length_nil, Nat.zero_add] at hgr ⊢
  have hbx := grBox_new hgr
  have bA : Below w8.heap.size w8 (w8.alloc (.cells #[.slice oa 1 ocap, .slice ob 0 obcap] 25)) := (Below.refl _ w8).alloc (Nat.le_refl _) _
  have hb9 := hb8.trans (bA.mono hb8.size)
  go_upto_region 6 with fail
  clear HC HL hans hgr bA hb8 hcap7 hcap7i
  generalize w8.alloc (.cells #[.slice oa 1 ocap, .slice ob 0 obcap] 25) = W9 at *
  generalize w8.heap.size = bo at *
  have HK6 : Hid (∀ wq, Below W9.heap.size W9 wq → (((GrBox wq bg (.slice ua 3 ucap) (.slice va 2 vcap) [1, 2, 3] [(1, 2, 5), (2, 1, 7)] ∧ Below w.heap.size w wq) ∧ SlAt ac 2 wq (.slice na 1 ncap) [(1, 7)]) ∧ SlAt ic 1 wq (.slice pa 1 pcap) [3]) ∧ GrBox wq bo (.slice oa 1 ocap) (.slice ob 0 obcap) [1] []) := hidIn fun wq h => ⟨HK5.out wq (hb9.trans (h.mono hb9.size)), hbx.keep h⟩
  clear HK5 hbx hb9
  go_wp2_with (go_at_call 8; refine (rec_any _ _ _ _ _).mono ?_; rintro e w1 ⟨rfl, hw1⟩; rw [hw1]; clear hw1 w1)
  obtain ⟨hR2, hbR⟩ := two_recs W9 _ rfl
  refine (both_any hR2).mono ?_
  rintro e w10 ⟨hans, hb10⟩
  unfold BothAns at hans
  rw [show bothOk no1 (rcs [(⟨1, 1, 1, 0, false, []⟩, .slice none 0 0), (⟨1, 1, 1, 0, false, []⟩, .slice none 0 0)]) = false from by decide] at hans
  obtain ⟨_, rfl⟩ : false = false ∧ _ := by rcases hans with h | h; cases h.1; exact h
  have hb11 := (hbR.trans (hb10.mono hbR.size)).alloc (o := .cells #[.slice none 0 0, .slice none 0 0] 25) (Nat.le_trans hbR.size hb10.size)
  go_upto_region 7 with fail
  clear hans hR2 hbR hb10
  generalize w10.alloc (.cells #[.slice none 0 0, .slice none 0 0] 25) = W11 at *
  generalize w10.heap.size = bz at *
  have HK7 : Hid (∀ wq, Below W11.heap.size W11 wq → (((GrBox wq bg (.slice ua 3 ucap) (.slice va 2 vcap) [1, 2, 3] [(1, 2, 5), (2, 1, 7)] ∧ Below w.heap.size w wq) ∧ SlAt ac 2 wq (.slice na 1 ncap) [(1, 7)]) ∧ SlAt ic 1 wq (.slice pa 1 pcap) [3]) ∧ GrBox wq bo (.slice oa 1 ocap) (.slice ob 0 obcap) [1] []) := hidIn fun wq h => HK6.out wq (hb11.trans (h.mono hb11.size))
  clear HK6 hb11
  obtain ⟨⟨⟨⟨_, hbw⟩, hsn⟩, hsp⟩, hbo⟩ := HK7.out W11 (Below.refl _ _)
  obtain ⟨a', cap', he, _, _, hc⟩ := hsn.ads
  simp only [List.length_cons, List.length_nil, Nat.zero_add, Value.slice.injEq, true_and] at he
  obtain ⟨rfl, rfl⟩ := he
  obtain ⟨nb, no', rfl, _, hc⟩ := hc (by simp)
  obtain ⟨n0, n1⟩ := hc 0 (1, 7) rfl
  simp only [Nat.zero_mul, Nat.add_zero] at n0 n1
  obtain ⟨a', cap', he, _, _, hc⟩ := hsp.ints
  simp only [List.length_cons, List.length_nil, Nat.zero_add, Value.slice.injEq, true_and] at he
  obtain ⟨rfl, rfl⟩ := he
  obtain ⟨pb, po, rfl, _, hc⟩ := hc (by simp)
  have p0 := hc 0 3 rfl
  simp only [Nat.add_zero] at p0
  have o0 : W11.cell? ⟨bo, 0, none⟩ = some (.slice oa 1 ocap) := cell_of_row _ _ 0 _ _ _ hbo.1
  have o1 : W11.cell? ⟨bo, 1, none⟩ = some (.slice ob 0 obcap) := cell_of_row _ _ 1 _ _ _ hbo.1
  have heq := eq_adj 1 7 1 7
  simp at heq
  have HBw : Hid (Below w.heap.size w W11) := hidIn hbw
  clear hc hsn hsp hbo hbw HK7
  go_upto_region 9 with fail
  clear n0 n1 p0 o0 o1 heq
  go_wp2_with fail
  refine (of_at W11 [3, 1, 2] [(1, 2, 5), (3, 2, 1)] 0 [1, 2, 3] [(1, 2, 5), (2, 1, 5), (2, 3, 1), (3, 2, 1)] (by decide) (by decide) (by decide) (by decide) (by decide)).mono ?_
  rintro e wq9 ⟨⟨aq9, acq9, bq9', bcq9, rfl, hgr⟩, hbq9⟩
  simp only [List.length_cons, List.length_nil, Nat.zero_add, Nat.reduceAdd] at hgr ⊢
  have bA : Below wq9.heap.size wq9 (wq9.alloc (.cells #[.slice aq9 3 acq9, .slice bq9' 4 bcq9] 25)) := (Below.refl _ wq9).alloc (Nat.le_refl _) _
  have hbn := hbq9.trans (bA.mono hbq9.size)
  have hbx := grBox_new hgr
  go_upto_region 10 with fail
  clear hgr bA hbq9
  generalize wq9.alloc (.cells #[.slice aq9 3 acq9, .slice bq9' 4 bcq9] 25) = V9 at *
  generalize wq9.heap.size = bq9 at *
  have HBn : Hid (∀ wq, Below V9.heap.size V9 wq → GrBox wq bq9 (.slice aq9 3 acq9) (.slice bq9' 4 bcq9) [1, 2, 3] [(1, 2, 5), (2, 1, 5), (2, 3, 1), (3, 2, 1)] ∧ Below w.heap.size w wq) := hidIn fun wq h => ⟨hbx.keep h, HBw.out.trans ((hbn.trans (h.mono hbn.size)).mono HBw.out.size)⟩
  clear hbx hbn HBw
  go_wp2_with fail
  refine (of_at V9 [1, 2] [(1, 2, 5), (2, 1, 6)] 7 [] [] (by decide) (by decide) (by decide) (by decide) (by decide)).mono ?_
  rintro e wq10 ⟨⟨aq10, acq10, bq10', bcq10, rfl, hgr⟩, hbq10⟩
  simp only [List.length_nil] at hgr ⊢
  have bA : Below wq10.heap.size wq10 (wq10.alloc (.cells #[.slice aq10 0 acq10, .slice bq10' 0 bcq10] 25)) := (Below.refl _ wq10).alloc (Nat.le_refl _) _
  have hbn := hbq10.trans (bA.mono hbq10.size)
  go_upto_region 11 with fail
  clear hgr bA hbq10
  generalize wq10.alloc (.cells #[.slice aq10 0 acq10, .slice bq10' 0 bcq10] 25) = V10 at *
  generalize wq10.heap.size = bq10 at *
  have HBn10 : Hid (∀ wq, Below V10.heap.size V10 wq → GrBox wq bq9 (.slice aq9 3 acq9) (.slice bq9' 4 bcq9) [1, 2, 3] [(1, 2, 5), (2, 1, 5), (2, 3, 1), (3, 2, 1)] ∧ Below w.heap.size w wq) := hidIn fun wq h => HBn.out wq (hbn.trans (h.mono hbn.size))
  clear hbn HBn
  go_wp2_with fail
  refine (of_at V10 [1, 2] [(1, 3, 5)] 2 [] [] (by decide) (by decide) (by decide) (by decide) (by decide)).mono ?_
  rintro e wq11 ⟨⟨aq11, acq11, bq11', bcq11, rfl, hgr⟩, hbq11⟩
  simp only [List.length_nil] at hgr ⊢
  have bA : Below wq11.heap.size wq11 (wq11.alloc (.cells #[.slice aq11 0 acq11, .slice bq11' 0 bcq11] 25)) := (Below.refl _ wq11).alloc (Nat.le_refl _) _
  have hbn := hbq11.trans (bA.mono hbq11.size)
  go_upto_region 12 with fail
  clear hgr bA hbq11
  generalize wq11.alloc (.cells #[.slice aq11 0 acq11, .slice bq11' 0 bcq11] 25) = V11 at *
  generalize wq11.heap.size = bq11 at *
  have HBn11 : Hid (∀ wq, Below V11.heap.size V11 wq → GrBox wq bq9 (.slice aq9 3 acq9) (.slice bq9' 4 bcq9) [1, 2, 3] [(1, 2, 5), (2, 1, 5), (2, 3, 1), (3, 2, 1)] ∧ Below w.heap.size w wq) := hidIn fun wq h => HBn10.out wq (hbn.trans (h.mono hbn.size))
  clear hbn HBn10
  go_wp2_with fail
  refine (of_nil V11 [1, 1] 2 (by decide) (by decide) (by decide) (by decide)).mono ?_
  rintro e wq12 ⟨⟨aq12, acq12, bq12', bcq12, rfl, hgr⟩, hbq12⟩
  have bA : Below wq12.heap.size wq12 (wq12.alloc (.cells #[.slice aq12 0 acq12, .slice bq12' 0 bcq12] 25)) := (Below.refl _ wq12).alloc (Nat.le_refl _) _
  have hbn := hbq12.trans (bA.mono hbq12.size)
  go_upto_region 13 with fail
  clear hgr bA hbq12
  generalize wq12.alloc (.cells #[.slice aq12 0 acq12, .slice bq12' 0 bcq12] 25) = V12 at *
  generalize wq12.heap.size = bq12 at *
  have HBn12 : Hid (∀ wq, Below V12.heap.size V12 wq → GrBox wq bq9 (.slice aq9 3 acq9) (.slice bq9' 4 bcq9) [1, 2, 3] [(1, 2, 5), (2, 1, 5), (2, 3, 1), (3, 2, 1)] ∧ Below w.heap.size w wq) := hidIn fun wq h => HBn11.out wq (hbn.trans (h.mono hbn.size))
  clear hbn HBn11
  go_wp2_with fail
  refine (of_at V12 [1, 2] [(1, 2, 0)] 2 [] [] (by decide) (by decide) (by decide) (by decide) (by decide)).mono ?_
  rintro e wq13 ⟨⟨aq13, acq13, bq13', bcq13, rfl, hgr⟩, hbq13⟩
  simp only [List.length_nil] at hgr ⊢
  have bA : Below wq13.heap.size wq13 (wq13.alloc (.cells #[.slice aq13 0 acq13, .slice bq13' 0 bcq13] 25)) := (Below.refl _ wq13).alloc (Nat.le_refl _) _
  have hbn := hbq13.trans (bA.mono hbq13.size)
  go_upto_region 14 with fail
  clear hgr bA hbq13
  generalize wq13.alloc (.cells #[.slice aq13 0 acq13, .slice bq13' 0 bcq13] 25) = V13 at *
  generalize wq13.heap.size = bq13 at *
  have HBn13 : Hid (∀ wq, Below V13.heap.size V13 wq → GrBox wq bq9 (.slice aq9 3 acq9) (.slice bq9' 4 bcq9) [1, 2, 3] [(1, 2, 5), (2, 1, 5), (2, 3, 1), (3, 2, 1)] ∧ Below w.heap.size w wq) := hidIn fun wq h => HBn12.out wq (hbn.trans (h.mono hbn.size))
  clear hbn HBn12
  have hmk := make_49
  go_wp2_with fail
  clear hmk
  refine (of_at V13 [1, 2] (List.replicate 49 (0, 0, 0)) 3 [] [] (by decide) (by decide) (by decide) (by decide) (by decide)).mono ?_
  rintro e wq14 ⟨⟨aq14, acq14, bq14', bcq14, rfl, hgr⟩, hbq14⟩
  simp only [List.length_nil] at hgr ⊢
  have bA : Below wq14.heap.size wq14 (wq14.alloc (.cells #[.slice aq14 0 acq14, .slice bq14' 0 bcq14] 25)) := (Below.refl _ wq14).alloc (Nat.le_refl _) _
  have hbn := hbq14.trans (bA.mono hbq14.size)
  go_upto_region 15 with fail
  clear hgr bA hbq14
  generalize wq14.alloc (.cells #[.slice aq14 0 acq14, .slice bq14' 0 bcq14] 25) = V14 at *
  generalize wq14.heap.size = bq14 at *
  have HBn14 : Hid (∀ wq, Below V14.heap.size V14 wq → GrBox wq bq9 (.slice aq9 3 acq9) (.slice bq9' 4 bcq9) [1, 2, 3] [(1, 2, 5), (2, 1, 5), (2, 3, 1), (3, 2, 1)] ∧ Below w.heap.size w wq) := hidIn fun wq h => HBn13.out wq (hbn.trans (h.mono hbn.size))
  clear hbn HBn13
  obtain ⟨hbx, hbw⟩ := HBn14.out V14 (Below.refl _ _)
  have h0 : V14.cell? ⟨bq9, 0, none⟩ = some (.slice aq9 3 acq9) := cell_of_row _ _ 0 _ _ _ hbx.1
  have h1 : V14.cell? ⟨bq9, 1, none⟩ = some (.slice bq9' 4 bcq9) := cell_of_row _ _ 1 _ _ _ hbx.1
  obtain ⟨a', cap', he, _, _, hc⟩ := hbx.2.e.eds
  simp only [List.length_cons, List.length_nil, Nat.zero_add, Nat.reduceAdd, Value.slice.injEq, true_and] at he
  obtain ⟨rfl, rfl⟩ := he
  obtain ⟨eb, eo, rfl, _, hc⟩ := hc (by simp)
  obtain ⟨e0, e1, e2⟩ := hc 2 (2, 3, 1) rfl
  simp only [Nat.reduceMul] at e0 e1 e2
  have heq := eq_edge 2 3 1 2 3 1
  simp at heq
  clear hc hbx hbw
  go_upto_region 17 with fail
  clear h0 h1 e0 e1 e2 heq
  obtain ⟨W17, hW17⟩ : ∃ W17, wrongW V14 = W17 := ⟨_, rfl⟩
  have HW : Hid (wrongW V14 = W17) := hidIn hW17
  obtain ⟨hwb, hbl, hgs⟩ := wrong_at V14 W17 hW17.symm
  have HK : Hid (∀ wq, Below W17.heap.size W17 wq → (wq.heap[V14.heap.size + 10]? = some (wrongO V14.heap.size) ∧ ∀ (k : Nat) (x : Value × Value × List Int × List Ed), (wrongL V14.heap.size)[k]? = some x → GrAt wq x.1 x.2.1 x.2.2.1 x.2.2.2 ∧ graphOk x.2.2.1 x.2.2.2 = false) ∧ GrBox wq bq9 (.slice aq9 3 acq9) (.slice (some ⟨eb, eo, none⟩) 4 bcq9) [1, 2, 3] [(1, 2, 5), (2, 1, 5), (2, 3, 1), (3, 2, 1)] ∧ Below w.heap.size w wq) := hidIn fun wq h => by
    refine ⟨⟨(h.block _ (block_lt hwb)).trans hwb, fun k x hx => ⟨(hgs k x hx).1.keep h (Nat.le_refl _), (hgs k x hx).2⟩⟩, HBn14.out wq (hbl.trans (h.mono hbl.size))⟩
  clear hW17 hwb hbl hgs HBn14
  go_wp2_with fail
  change Code.wp _ _ _ _ (wrongW V14)
  rw [HW.out]
  clear HW
  generalize hsz : V14.heap.size = s at *
  go_loopw [26] (fun i wr => ∃ k : Nat, k ≤ 6 ∧ i = .int .i64 k ∧ Hid (Below W17.heap.size W17 wr)) (fun i _ => 6 - (intOf i).toNat)
  case atStart => exact ⟨0, by omega, rfl, hidIn (Below.refl _ _)⟩
  case round =>
    obtain ⟨k, hk, rfl, HR⟩ := hrel
    obtain ⟨⟨hbl, hgs⟩, hbx, hbw⟩ := HK.out wr HR.out
    by_cases hlt : k < 6
    · obtain ⟨⟨vn, ve, ns, es⟩, hx⟩ : ∃ x, (wrongL s)[k]? = some x := ⟨(wrongL s)[k]'(by simpa [wrongL] using hlt), List.getElem?_eq_getElem _⟩
      obtain ⟨hg, hno⟩ := hgs k _ hx
      simp only at hg hno
      have c0 : wr.cell? ⟨s + 10, k * 2, none⟩ = some vn := by
        rw [cell_of_row _ _ _ _ _ _ hbl]
        exact (wrong_cell s k _ hx).1
      have c1 : wr.cell? ⟨s + 10, k * 2 + 1, none⟩ = some ve := by
        rw [cell_of_row _ _ _ _ _ _ hbl]
        exact (wrong_cell s k _ hx).2
      have hC := check_any hg
      rw [hno] at hC
      simp only [Bool.false_eq_true, if_false] at hC
      have HC := hidIn hC
      have hki : (k : Int) < 6 := by omega
      clear hC hbl hgs hbx hbw hx hg hno
      go_wp2_with fail
      refine HC.out.mono ?_
      rintro e w3 ⟨rfl, hb3⟩
      have HB3 := hidIn (HR.out.trans (hb3.mono HR.out.size))
      clear hb3 HC c0 c1
      go_wp2_with fail
      go_roundw
      case rel => exact ⟨k + 1, by omega, by go_num, HB3⟩
      case measure => simp [intOf]; omega
    · have hki : ¬ ((k : Int) < 6) := by omega
      clear hbl hgs hbx hbw
      go_wp2_with fail
      refine (works_ok wr).mono ?_
      rintro e w18 ⟨rfl, hb18⟩
      have HB18 := hidIn (HR.out.trans (hb18.mono HR.out.size))
      clear hb18
      have hC := check_any (w := w18) (vn := .slice none 0 0) (ve := .slice none 0 0) (ns := []) (es := []) ⟨slAt_nil _ _ _, slAt_nil _ _ _⟩
      rw [show graphOk [] [] = true from by decide] at hC
      simp only [if_true] at hC
      have HC := hidIn hC
      clear hC
      go_wp2_with fail
      refine HC.out.mono ?_
      rintro e w19 ⟨rfl, hb19⟩
      have HB19 := hidIn (HB18.out.trans (hb19.mono HB18.out.size))
      clear hb19 HC
      obtain ⟨_, hbx, _⟩ := HK.out w19 HB19.out
      have h0 : w19.cell? ⟨bq9, 0, none⟩ = some (.slice aq9 3 acq9) := cell_of_row _ _ 0 _ _ _ hbx.1
      have h1 : w19.cell? ⟨bq9, 1, none⟩ = some (.slice (some ⟨eb, eo, none⟩) 4 bcq9) := cell_of_row _ _ 1 _ _ _ hbx.1
      have hC := check_any hbx.2
      rw [show graphOk [1, 2, 3] [(1, 2, 5), (2, 1, 5), (2, 3, 1), (3, 2, 1)] = true from by decide] at hC
      simp only [if_true] at hC
      have HC := hidIn hC
      clear hC hbx
      go_wp2_with fail
      refine HC.out.mono ?_
      rintro e w20 ⟨rfl, hb20⟩
      have HB20 := hidIn (HB19.out.trans (hb20.mono HB19.out.size))
      clear hb20 HC h0 h1
      obtain ⟨_, _, hbw⟩ := HK.out w20 HB20.out
      go_wp2_with fail
      go_ret
      exact ⟨rfl, hbw⟩
end Go.Proofs.Ytpifkhcjogilfab
