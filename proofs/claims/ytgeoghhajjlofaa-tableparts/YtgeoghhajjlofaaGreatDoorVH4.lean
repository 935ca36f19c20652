/- The heap of things: dropFirst, Len, Peek, Pop. -/
import Derived.Test.YtgeoghhajjlofaaGreatDoorVH3
import Derived.OneCell
namespace Go.Proofs.YtgeoghhajjlofaaGreatDoor.Ad
open Go.RowKit

theorem ecs_take : ∀ (es : List (Th × Int)) (m : Nat), ecs (es.take m) = (ecs es).take (m * 3)
  | [], m => by simp [ecs]
  | e :: l, 0 => by simp [ecs]
  | e :: l, m + 1 => by
    rw [List.take_succ_cons, ecs_cons, ecs_cons, ecs_take l m]
    have h1 : (m + 1) * 3 = m * 3 + 1 + 1 + 1 := by omega
    rw [h1]
    rfl
theorem HpM.cap {w : World} {base hp g n cap : Nat} {es : List (Th × Int)} {p : Int} (h : HpM w base hp (.slice (some ⟨g, 0, none⟩) n cap) es p) : n ≤ cap := by
  rcases h.row.2 with ⟨h3, _⟩ | ⟨g', cap', cur, h3, _, _, h4, _⟩
  · simp at h3
  · simp at h3
    obtain ⟨rfl, rfl, rfl⟩ := h3
    exact h4
theorem HpM.cut {w : World} {base hp g m cap : Nat} {es : List (Th × Int)} {p : Int} (h : HpM w base hp (.slice (some ⟨g, 0, none⟩) (m + 1) cap) es p) (hm : m ≤ es.length) :
    HpM (w.setCell ⟨hp, 1, none⟩ (.slice (some ⟨g, 0, none⟩) m cap)) base hp (.slice (some ⟨g, 0, none⟩) m cap) (es.take m) p := by
  have hne : g ≠ hp := fun e => h.ne (by simp [Value.ownBlock, e])
  refine ⟨heap_setCell_same w hp 1 _ _ _ h.blk, ?_, fun e => hne (by simpa [Value.ownBlock] using e), h.hb⟩
  have hlen : (es.take m).length = m := by rw [List.length_take]; omega
  rw [hlen, ecs_take]
  refine ⟨by rw [List.length_take, ecs_length]; omega, ?_⟩
  rcases h.row.2 with ⟨h3, _⟩ | ⟨g', cap', cur, h3, h4, h5, h6, h7, h8, h9⟩
  · simp at h3
  · simp at h3
    obtain ⟨rfl, h31, rfl⟩ := h3
    refine .inr ⟨g, cap, cur, rfl, h4, (Below.heap_setCell w ⟨hp, 1, none⟩ _ g hne).trans h5, by omega, h7, h8, ?_⟩
    rw [← h9, List.take_take, ← h31]
    congr 1
    omega
set_option maxRecDepth 100000 in
set_option maxHeartbeats 1000000 in
theorem dropFirst_ok {w : World} {base hp : Nat} {v : Value} {es : List (Th × Int)} {p : Int} (h : HpM w base hp v es p) (hl : es.length ≤ 1000) (hn0 : 0 < es.length) :
    Calls Tryz.prog 122 #[.pointer (some ⟨hp, 0, none⟩)] w fun e w' => (∃ r, e = .returned r) ∧ (∃ v', HpM w' base hp v' (popL ltT es) p ∧ v'.ownBlock = v.ownBlock) ∧ Fr (own hp v) w w' := by
  obtain ⟨g, cap, rfl, hg, _, hne⟩ := h.slice hn0
  obtain ⟨m, hm⟩ : ∃ m, es.length = m + 1 := ⟨es.length - 1, by omega⟩
  obtain ⟨z, hz⟩ : ∃ z, es[m]? = some z := ⟨es[m], List.getElem?_eq_getElem (by omega)⟩
  obtain ⟨y, hy⟩ : ∃ y, es[0]? = some y := ⟨es[0], List.getElem?_eq_getElem (by omega)⟩
  have hpop : popL ltT es = sinkF ltT m ((es.set 0 z).take m) 0 := by
    unfold popL
    rw [hm, Nat.add_sub_cancel, hz]
  have hset : (es.set 0 z)[m]? = some z := by
    rw [List.getElem?_set]
    split
    · rename_i e; subst e; simp
    · exact hz
  rw [hpop]
  rw [hm] at h
  obtain ⟨c0, c1, _⟩ := h.c
  have fh := h.f 1
  have hcap := h.cap
  obtain ⟨⟨a0, a1, a2⟩, fz⟩ := h.at hz
  obtain ⟨⟨b0, b1, b2⟩, _⟩ := h.at hy
  have fb0 := fz 0
  have fb1 := fz 1
  have fb2 := fz 2
  simp only [Nat.zero_mul, Nat.zero_add] at b0 b1 b2
  have HX := hidIn h
  have Hz := hidIn hz
  have Hm := hidIn hm
  have Hs := hidIn hset
  have hcm : (m : Int) ≤ (cap : Int) := by omega
  have hm1 : m ≤ 1000 := by omega
  clear h fz hz hy hm hpop hset hl hn0
  go_enter Tryz.func122, Tryz.ntmps122
  go_wp2
  go_region
  have HV : Hid (HpM _ base hp (.slice (some ⟨g, 0, none⟩) (m + 1) cap) (es.set 0 z) p) := hidIn (HX.out.store 0 z).drew
  have HW : Hid (Fr (own hp (.slice (some ⟨g, 0, none⟩) (m + 1) cap)) w _) := hidIn ((own_store (hp := hp) (n := m + 1) (cap := cap) (g := g) (i := 0) (w := w) z).drew)
  simp only [Nat.zero_mul, Nat.zero_add] at HV HW
  generalize World.drew _ = V at HV HW ⊢
  clear c0 c1 a0 a1 a2 b0 b1 b2 fb0 fb1 fb2 HX fh
  have hM := HV.out
  obtain ⟨_, c1, _⟩ := hM.c
  have fh := hM.f 1
  obtain ⟨⟨a0, a1, a2⟩, fz⟩ := hM.at Hs.out
  have fa0 := fz (m * 3)
  have fa1 := fz (m * 3 + 1)
  have fa2 := fz (m * 3 + 2)
  clear hM fz
  have htk : ((es.set 0 z).set m ((0, 0), 0)).take m = (es.set 0 z).take m := by
    rw [List.take_set]
    exact List.set_eq_of_length_le (by rw [List.length_take]; omega)
  have hlm : (((es.set 0 z).set m ((0, 0), 0)).take m).length = m := by rw [List.length_take, List.length_set, List.length_set, Hm.out]; omega
  have hM3 := (HV.out.store m ((0, 0), 0)).cut (show m ≤ ((es.set 0 z).set m ((0, 0), 0)).length by rw [List.length_set, List.length_set, Hm.out]; omega)
  have hS := sink_ok (i := 0) hM3 hlm hm1 (by omega)
  rw [htk] at hS
  simp only [Int.natCast_zero] at hS
  have HS := hidIn hS
  have HF : Hid (Fr (own hp (.slice (some ⟨g, 0, none⟩) (m + 1) cap)) w _) := hidIn ((HW.out.trans (own_store (i := m) ((0, 0), 0))).set (p := ⟨hp, 1, none⟩) (.inl rfl) (.slice (some ⟨g, 0, none⟩) m cap))
  clear hS hM3 hlm htk
  go_wp2_with (go_at_call 133; refine HS.out.mono ?_; rintro e w2 ⟨⟨r, rfl⟩, hM2, hF2⟩)
  go_returns
  exact ⟨⟨_, rfl⟩, ⟨_, hM2, rfl⟩, HF.out.trans hF2⟩
theorem len_ok {w : World} {base hp : Nat} {v : Value} {es : List (Th × Int)} {p : Int} (h : HpM w base hp v es p) :
    Calls Tryz.prog 93 #[.pointer (some ⟨hp, 0, none⟩)] w fun e w' => e = .returned (.int .i64 es.length) ∧ w' = w := by
  obtain ⟨c0, c1, _⟩ := h.c
  obtain ⟨va, vcap, rfl⟩ : ∃ a cap, v = .slice a es.length cap := by
    rcases h.row.2 with ⟨rfl, h1⟩ | ⟨g', cap', cur, rfl, _⟩
    · exact ⟨none, 0, by rw [h1]⟩
    · exact ⟨_, _, rfl⟩
  go_enter Tryz.func93, Tryz.ntmps93
  go_wp2
  go_ret
  exact ⟨rfl, rfl⟩
set_option maxRecDepth 100000 in
set_option maxHeartbeats 1000000 in
theorem peek_none {w : World} {base hp : Nat} {v : Value} {p : Int} (h : HpM w base hp v [] p) :
    Calls Tryz.prog 121 #[.pointer (some ⟨hp, 0, none⟩)] w fun e w' => e = .returned (.tuple #[thV (0, 0), .bool false]) ∧ Below w.heap.size w w' := by
  have HL := hidIn (len_ok (h.below ((Below.refl _ w).alloc (Nat.le_refl _) (.cells #[.int .i64 0, .int .i64 0] 75)) (Nat.le_refl _)))
  go_enter Tryz.func121, Tryz.ntmps121
  go_wp2_with (go_at_call 93; refine HL.out.mono ?_; rintro e w1 ⟨rfl, hw1⟩; rw [hw1]; clear hw1 w1)
  go_returns
  exact ⟨rfl, by go_grown⟩
set_option maxRecDepth 100000 in
set_option maxHeartbeats 1000000 in
theorem peek_ok {w : World} {base hp : Nat} {v : Value} {es : List (Th × Int)} {p : Int} {a : Th × Int} (h : HpM w base hp v es p) (ha : es[0]? = some a) :
    Calls Tryz.prog 121 #[.pointer (some ⟨hp, 0, none⟩)] w fun e w' => e = .returned (.tuple #[thV a.1, .bool true]) ∧ Below w.heap.size w w' := by
  have hn0 := (List.getElem?_eq_some_iff.1 ha).1
  obtain ⟨g, cap, rfl, hg, _, hne⟩ := h.slice hn0
  have HL := hidIn (len_ok (h.below ((Below.refl _ w).alloc (Nat.le_refl _) (.cells #[.int .i64 0, .int .i64 0] 75)) (Nat.le_refl _)))
  obtain ⟨c0, c1, _⟩ := h.c
  have hlt := h.lt
  obtain ⟨⟨a0, a1, a2⟩, _⟩ := h.at ha
  simp only [Nat.zero_mul, Nat.zero_add] at a0 a1 a2
  have hnz : ¬ ((es.length : Int) = 0) := by omega
  have hnp : (0 : Int) < (es.length : Int) := by omega
  go_enter Tryz.func121, Tryz.ntmps121
  go_wp2_with (go_at_call 93; refine HL.out.mono ?_; rintro e w1 ⟨rfl, hw1⟩; rw [hw1]; clear hw1 w1)
  go_returns
  exact ⟨rfl, by go_grown⟩
theorem frozen_new {w : World} {b : Nat} {cs : Array Value} {t : TypeId} (h : w.heap[b]? = some (.cells cs t)) (j : Nat) : w.frozen? ⟨b, j, none⟩ = false := by
  unfold World.frozen?
  simp only [h]
  simp
theorem pair_set {w : World} {b : Nat} {u v : Value} {t : TypeId} (h : w.heap[b]? = some (.cells #[u, v] t)) (x y : Value) : ((w.setCell ⟨b, 0, none⟩ x).setCell ⟨b, 1, none⟩ y).heap[b]? = some (.cells #[x, y] t) :=
  heap_setCell_same _ b 1 _ _ y (heap_setCell_same w b 0 _ _ x h)
theorem block_lt {w : World} {b : Nat} {o : Obj} (h : w.heap[b]? = some o) : b < w.heap.size := (Array.getElem?_eq_some_iff.1 h).1
set_option maxRecDepth 100000 in
set_option maxHeartbeats 1000000 in
theorem pop_none {w : World} {base hp : Nat} {v : Value} {p : Int} (h : HpM w base hp v [] p) :
    Calls Tryz.prog 94 #[.pointer (some ⟨hp, 0, none⟩)] w fun e w' => e = .returned (.tuple #[thV (0, 0), .bool false]) ∧ Below w.heap.size w w' := by
  have b0 : Below w.heap.size w (w.alloc (.cells #[.int .i64 0, .int .i64 0] 75)) := (Below.refl _ w).alloc (Nat.le_refl _) _
  have HP := hidIn (peek_none (h.below b0 (Nat.le_refl _)))
  rw [World.size_alloc] at HP
  have HX := hidIn (heap_alloc_new w (.cells #[.int .i64 0, .int .i64 0] 75))
  have HB := hidIn b0
  clear b0
  go_enter Tryz.func94, Tryz.ntmps94
  go_wp2_with (go_at_call 121; refine HP.out.mono ?_; rintro e w1 ⟨rfl, hb1⟩; have y0 := (hb1.block _ (Nat.lt_succ_self _)).trans HX.out; have d0 := cell_of_row w1 w.heap.size 0 _ _ _ y0; have d1 := cell_of_row w1 w.heap.size 1 _ _ _ y0; have g0 := frozen_new y0 0; have g1 := frozen_new y0 1; have hs1 := block_lt y0; have HY := hidIn y0; clear y0; simp at d0 d1)
  have HZ := hidIn ((((HB.out.trans (hb1.mono (by omega))).setCell (p := ⟨w.heap.size, 0, none⟩) (Nat.le_refl _) (.int .i64 0)).setCell (p := ⟨w.heap.size, 1, none⟩) (Nat.le_refl _) (.int .i64 0)).alloc (by simp; omega) (.cells #[.int .i64 0, .int .i64 0] 75))
  have y1 := (Below.heap_alloc ((w1.setCell ⟨w.heap.size, 0, none⟩ (.int .i64 0)).setCell ⟨w.heap.size, 1, none⟩ (.int .i64 0)) (.cells #[.int .i64 0, .int .i64 0] 75) w.heap.size (by simpa using hs1)).trans (pair_set HY.out (.int .i64 0) (.int .i64 0))
  clear d0 d1 g0 g1 hs1 HY HX HP
  generalize World.alloc (World.setCell _ _ _) _ = V at y1 HZ ⊢
  have d0 := cell_of_row V w.heap.size 0 _ _ _ y1
  have d1 := cell_of_row V w.heap.size 1 _ _ _ y1
  simp at d0 d1
  refine bodyPost_ret (v := .tuple #[thV (0, 0), .bool false]) (by simp [results, Tryz.results94, go_sem, d0, d1]) rfl ⟨rfl, HZ.out⟩
set_option maxRecDepth 100000 in
set_option maxHeartbeats 1000000 in
theorem pop_ok {w : World} {base hp : Nat} {v : Value} {es : List (Th × Int)} {p : Int} {a : Th × Int} (h : HpM w base hp v es p) (hl : es.length ≤ 1000) (ha : es[0]? = some a) :
    Calls Tryz.prog 94 #[.pointer (some ⟨hp, 0, none⟩)] w fun e w' => e = .returned (.tuple #[thV a.1, .bool true]) ∧ (∃ v', HpM w' base hp v' (popL ltT es) p ∧ v'.ownBlock = v.ownBlock) ∧ Fr (own hp v) w w' := by
  have hn0 := (List.getElem?_eq_some_iff.1 ha).1
  have b0 : Below w.heap.size w (w.alloc (.cells #[.int .i64 0, .int .i64 0] 75)) := (Below.refl _ w).alloc (Nat.le_refl _) _
  have HP := hidIn (peek_ok (h.below b0 (Nat.le_refl _)) ha)
  rw [World.size_alloc] at HP
  have HX := hidIn (heap_alloc_new w (.cells #[.int .i64 0, .int .i64 0] 75))
  have HB := hidIn b0
  have HH := hidIn h
  have hlt := h.lt
  have hvl : Hid (∀ k, v.ownBlock = some k → k < w.heap.size) := hidIn fun k hk => (h.row.lt k hk).2
  have HL := hidIn hl
  have HN := hidIn hn0
  clear b0 h hl hn0 ha
  go_enter Tryz.func94, Tryz.ntmps94
  go_wp2_with (go_at_call 121; refine HP.out.mono ?_; rintro e w1 ⟨rfl, hb1⟩)
  go_wp2_with fail
  have y0 := (hb1.block _ (Nat.lt_succ_self _)).trans HX.out
  have hs1 := block_lt y0
  have hM1 := ((HH.out.below HB.out (Nat.le_refl _)).below hb1 (by simp)).below ((Below.refl _ w1).alloc (Nat.le_refl _) (.cells #[.int .i64 a.1.1, .int .i64 a.1.2] 75)) (Nat.le_refl _)
  refine (dropFirst_ok hM1 HL.out HN.out).mono ?_
  rintro e w2 ⟨⟨r, rfl⟩, hM2, hF2⟩
  have n0 : ¬ own hp v w.heap.size := by
    rintro (h | h)
    · omega
    · have := hvl.out _ h; omega
  have n1 : ¬ own hp v w1.heap.size := by
    rintro (h | h)
    · omega
    · have := hvl.out _ h; omega
  have z0 := (hF2.block w.heap.size (by simp; omega) n0).trans ((Below.heap_alloc w1 _ _ hs1).trans y0)
  have z1 := (hF2.block w1.heap.size (by simp) n1).trans (heap_alloc_new w1 _)
  have HZ0 := hidIn z0
  have HM2 := hidIn hM2
  have HF2 := hidIn (Fr.trans (Fr.of_below ((HB.out.trans (hb1.mono (by omega))).alloc (Nat.le_of_lt hs1) (.cells #[.int .i64 a.1.1, .int .i64 a.1.2] 75))) hF2)
  have d0 := cell_of_row w2 w.heap.size 0 _ _ _ z0
  have d1 := cell_of_row w2 w.heap.size 1 _ _ _ z0
  have g0 := frozen_new z0 0
  have g1 := frozen_new z0 1
  have l0 := cell_of_row w2 w1.heap.size 0 _ _ _ z1
  have l1 := cell_of_row w2 w1.heap.size 1 _ _ _ z1
  clear hM1 hM2 hF2 y0 z0 z1 hb1
  simp at d0 d1 l0 l1
  go_wp2
  have HB2 : Hid (Below (w.heap.size) w2 _) := hidIn (((Below.refl w.heap.size w2).setCell (p := ⟨w.heap.size, 0, none⟩) (Nat.le_refl _) (.int .i64 a.1.1)).setCell (p := ⟨w.heap.size, 1, none⟩) (Nat.le_refl _) (.int .i64 a.1.2))
  have y1 := pair_set HZ0.out (.int .i64 a.1.1) (.int .i64 a.1.2)
  have HFz : Hid (Fr (fun k => own hp v k ∨ w.heap.size ≤ k) w _) := hidIn (((HF2.out.mono (T := fun k => own hp v k ∨ w.heap.size ≤ k) (fun k _ hk => .inl hk)).set (p := ⟨w.heap.size, 0, none⟩) (.inr (Nat.le_refl _)) (.int .i64 a.1.1)).set (p := ⟨w.heap.size, 1, none⟩) (.inr (Nat.le_refl _)) (.int .i64 a.1.2))
  have HMz : Hid (∃ v', HpM _ base hp v' (popL ltT es) p ∧ v'.ownBlock = v.ownBlock) := hidIn (by
    obtain ⟨v', h1, h2⟩ := HM2.out
    have n2 : ∀ x y, v'.ownBlock ≠ some (⟨w.heap.size, x, y⟩ : Addr).block := fun x y e => n0 (.inr (h2 ▸ e))
    refine ⟨v', ⟨?_, ownsRow_setCell_other (ownsRow_setCell_other h1.row (n2 0 none) (.int .i64 a.1.1)) (n2 1 none) (.int .i64 a.1.2), h1.ne, h1.hb⟩, h2⟩
    rw [Below.heap_setCell _ _ _ _ (by show hp ≠ w.heap.size; omega), Below.heap_setCell _ _ _ _ (by show hp ≠ w.heap.size; omega)]
    exact h1.blk)
  clear d0 d1 g0 g1 l0 l1 HZ0 HM2 HF2
  generalize World.setCell (World.setCell _ _ _) _ _ = V at y1 HFz HMz HB2 ⊢
  have d0 := cell_of_row V w.heap.size 0 _ _ _ y1
  have d1 := cell_of_row V w.heap.size 1 _ _ _ y1
  simp at d0 d1
  refine bodyPost_ret (v := .tuple #[thV a.1, .bool true]) (by simp [results, Tryz.results94, go_sem, d0, d1]) rfl ⟨rfl, HMz.out, HFz.out.mono fun k hk h => h.elim id (fun h => absurd hk (by omega))⟩
end Go.Proofs.YtgeoghhajjlofaaGreatDoor.Ad
