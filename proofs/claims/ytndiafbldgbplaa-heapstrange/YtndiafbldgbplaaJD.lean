/- The heap of numbers: dropFirst, Len, Peek, Pop. -/
import Derived.Test.YtndiafbldgbplaaJC
namespace Go.Proofs.Ytndiafbldgbplaa.In
open Go.RowKit
variable {O : OrdS}

theorem ecs_take : ∀ (es : List (Int × Int)) (m : Nat), ecs (es.take m) = (ecs es).take (m * 2)
  | [], m => by simp [ecs]
  | e :: l, 0 => by simp [ecs]
  | e :: l, m + 1 => by
    rw [List.take_succ_cons, ecs_cons, ecs_cons, ecs_take l m]
    have h1 : (m + 1) * 2 = m * 2 + 1 + 1 := by omega
    rw [h1]
    rfl
theorem HpM.cap {w : World} {base hp g n cap : Nat} {es : List (Int × Int)} {p : Int} (h : HpM O w base hp (.slice (some ⟨g, 0, none⟩) n cap) es p) : n ≤ cap := by
  rcases h.row.2 with ⟨h3, _⟩ | ⟨g', cap', cur, h3, _, _, h4, _⟩
  · simp at h3
  · simp at h3
    obtain ⟨rfl, rfl, rfl⟩ := h3
    exact h4
theorem HpM.cut {w : World} {base hp g m cap : Nat} {es : List (Int × Int)} {p : Int} (h : HpM O w base hp (.slice (some ⟨g, 0, none⟩) (m + 1) cap) es p) (hm : m ≤ es.length) :
    HpM O (w.setCell ⟨hp, 1, none⟩ (.slice (some ⟨g, 0, none⟩) m cap)) base hp (.slice (some ⟨g, 0, none⟩) m cap) (es.take m) p := by
  have hne : g ≠ hp := fun e => h.ne (by simp [Value.ownBlock, e])
  refine ⟨heap_setCell_same w hp 1 _ _ _ h.blk, ?_, fun e => hne (by simpa [Value.ownBlock] using e), h.hb, h.bB, O.keep _ _ h.inv ((Below.refl _ w).setCell (p := ⟨hp, 1, none⟩) (by have := h.bB; have := h.hb; show _ ≤ hp; omega) _), fun e he => h.dom e (List.mem_of_mem_take he)⟩
  have hlen : (es.take m).length = m := by rw [List.length_take]; omega
  rw [hlen, ecs_take]
  refine ⟨by rw [List.length_take, ecs_length]; omega, ?_⟩
  rcases h.row.2 with ⟨h3, _⟩ | ⟨g', cap', cur, h3, h4, h5, h6, h7, h8, h9⟩
  · simp at h3
  · simp at h3
    obtain ⟨rfl, h31, rfl⟩ := h3
    refine .inr ⟨g, cap, cur, rfl, h4, (Below.heap_setCell w ⟨hp, 1, none⟩ _ g hne).trans h5, by omega, h7, h8, ?_⟩
    rw [← h9, List.take_take, ← h31]
    congr 1
    omega
set_option maxRecDepth 100000 in
set_option maxHeartbeats 1000000 in
theorem dropFirst_ok {w : World} {base hp : Nat} {v : Value} {es : List (Int × Int)} {p : Int} (h : HpM O w base hp v es p) (hl : es.length ≤ 1000) (hn0 : 0 < es.length) (hD0 : O.D 0) :
    Calls Try.prog 31 #[.pointer (some ⟨hp, 0, none⟩)] w fun e w' => (∃ r, e = .returned r) ∧ (∃ v', HpM O w' base hp v' (popL O.lt es) p ∧ v'.ownBlock = v.ownBlock) ∧ Fr (own hp v) w w' := by
  obtain ⟨g, cap, rfl, hg, _, hne⟩ := h.slice hn0
  obtain ⟨m, hm⟩ : ∃ m, es.length = m + 1 := ⟨es.length - 1, by omega⟩
  obtain ⟨z, hz⟩ : ∃ z, es[m]? = some z := ⟨es[m], List.getElem?_eq_getElem (by omega)⟩
  obtain ⟨y, hy⟩ : ∃ y, es[0]? = some y := ⟨es[0], List.getElem?_eq_getElem (by omega)⟩
  have hpop : popL O.lt es = sinkF O.lt m ((es.set 0 z).take m) 0 := by
    unfold popL
    rw [hm, Nat.add_sub_cancel, hz]
  have hset : (es.set 0 z)[m]? = some z := by
    rw [List.getElem?_set]
    split
    · rename_i e; subst e; simp
    · exact hz
  rw [hpop]
  rw [hm] at h
  obtain ⟨c0, c1, _⟩ := h.c
  have fh := h.f 1
  have hcap := h.cap
  obtain ⟨⟨a0, a1⟩, fz⟩ := h.at hz
  obtain ⟨⟨b0, b1⟩, _⟩ := h.at hy
  have fb0 := fz 0
  have fb1 := fz 1
  simp only [Nat.zero_mul, Nat.zero_add] at b0 b1
  have HX := hidIn h
  have Hz := hidIn hz
  have Hm := hidIn hm
  have Hs := hidIn hset
  have HDz := hidIn (HX.out.dom z (List.mem_of_getElem? Hz.out))
  have HD0 := hidIn hD0
  have hcm : (m : Int) ≤ (cap : Int) := by omega
  have hm1 : m ≤ 1000 := by omega
  clear h fz hz hy hm hpop hset hl hn0
  go_enter Try.func31, Try.ntmps31
  go_wp2
  go_region
  have HV : Hid (HpM O _ base hp (.slice (some ⟨g, 0, none⟩) (m + 1) cap) (es.set 0 z) p) := hidIn (HX.out.store 0 z HDz.out).drew
  have HW : Hid (Fr (own hp (.slice (some ⟨g, 0, none⟩) (m + 1) cap)) w _) := hidIn ((own_store (hp := hp) (n := m + 1) (cap := cap) (g := g) (i := 0) (w := w) z).drew)
  simp only [Nat.zero_mul, Nat.zero_add] at HV HW
  generalize World.drew _ = V at HV HW ⊢
  clear c0 c1 a0 a1 b0 b1 fb0 fb1 HX fh
  have hM := HV.out
  obtain ⟨_, c1, _⟩ := hM.c
  have fh := hM.f 1
  obtain ⟨⟨a0, a1⟩, fz⟩ := hM.at Hs.out
  have fa0 := fz (m * 2)
  have fa1 := fz (m * 2 + 1)
  clear hM fz
  have htk : ((es.set 0 z).set m (0, 0)).take m = (es.set 0 z).take m := by
    rw [List.take_set]
    exact List.set_eq_of_length_le (by rw [List.length_take]; omega)
  have hlm : (((es.set 0 z).set m (0, 0)).take m).length = m := by rw [List.length_take, List.length_set, List.length_set, Hm.out]; omega
  have hM3 := (HV.out.store m (0, 0) HD0.out).cut (show m ≤ ((es.set 0 z).set m (0, 0)).length by rw [List.length_set, List.length_set, Hm.out]; omega)
  have hS := sink_ok (i := 0) hM3 hlm hm1 (by omega)
  rw [htk] at hS
  simp only [Int.natCast_zero] at hS
  have HS := hidIn hS
  have HF : Hid (Fr (own hp (.slice (some ⟨g, 0, none⟩) (m + 1) cap)) w _) := hidIn ((HW.out.trans (own_store (i := m) (0, 0))).set (p := ⟨hp, 1, none⟩) (.inl rfl) (.slice (some ⟨g, 0, none⟩) m cap))
  clear hS hM3 hlm htk
  go_wp2_with (go_at_call 35; refine HS.out.mono ?_; rintro e w2 ⟨⟨r, rfl⟩, hM2, hF2⟩)
  go_returns
  exact ⟨⟨_, rfl⟩, ⟨_, hM2, rfl⟩, HF.out.trans hF2⟩
theorem len_ok {w : World} {base hp : Nat} {v : Value} {es : List (Int × Int)} {p : Int} (h : HpM O w base hp v es p) :
    Calls Try.prog 24 #[.pointer (some ⟨hp, 0, none⟩)] w fun e w' => e = .returned (.int .i64 es.length) ∧ w' = w := by
  obtain ⟨c0, c1, _⟩ := h.c
  obtain ⟨va, vcap, rfl⟩ : ∃ a cap, v = .slice a es.length cap := by
    rcases h.row.2 with ⟨rfl, h1⟩ | ⟨g', cap', cur, rfl, _⟩
    · exact ⟨none, 0, by rw [h1]⟩
    · exact ⟨_, _, rfl⟩
  go_enter Try.func24, Try.ntmps24
  go_wp2
  go_ret
  exact ⟨rfl, rfl⟩
theorem peek_none {w : World} {base hp : Nat} {v : Value} {p : Int} (h : HpM O w base hp v [] p) :
    Calls Try.prog 26 #[.pointer (some ⟨hp, 0, none⟩)] w fun e w' => e = .returned (.tuple #[.int .i64 0, .bool false]) ∧ w' = w := by
  have HL := hidIn (len_ok h)
  go_enter Try.func26, Try.ntmps26
  go_wp2_with (go_at_call 24; refine HL.out.mono ?_; rintro e w1 ⟨rfl, hw1⟩; rw [hw1]; clear hw1 w1)
  go_ret2
  exact ⟨rfl, rfl⟩
theorem peek_ok {w : World} {base hp : Nat} {v : Value} {es : List (Int × Int)} {p : Int} {a : Int × Int} (h : HpM O w base hp v es p) (ha : es[0]? = some a) :
    Calls Try.prog 26 #[.pointer (some ⟨hp, 0, none⟩)] w fun e w' => e = .returned (.tuple #[.int .i64 a.1, .bool true]) ∧ w' = w := by
  have hn0 := (List.getElem?_eq_some_iff.1 ha).1
  obtain ⟨g, cap, rfl, hg, _, hne⟩ := h.slice hn0
  have HL := hidIn (len_ok h)
  obtain ⟨c0, c1, _⟩ := h.c
  obtain ⟨⟨a0, a1⟩, _⟩ := h.at ha
  simp only [Nat.zero_mul, Nat.zero_add] at a0 a1
  have hnz : ¬ ((es.length : Int) = 0) := by omega
  have hnp : (0 : Int) < (es.length : Int) := by omega
  go_enter Try.func26, Try.ntmps26
  go_wp2_with (go_at_call 24; refine HL.out.mono ?_; rintro e w1 ⟨rfl, hw1⟩; rw [hw1]; clear hw1 w1)
  go_ret2
  exact ⟨rfl, rfl⟩
theorem pop_none {w : World} {base hp : Nat} {v : Value} {p : Int} (h : HpM O w base hp v [] p) :
    Calls Try.prog 25 #[.pointer (some ⟨hp, 0, none⟩)] w fun e w' => e = .returned (.tuple #[.int .i64 0, .bool false]) ∧ w' = w := by
  have HP := hidIn (peek_none h)
  go_enter Try.func25, Try.ntmps25
  go_wp2_with (go_at_call 26; refine HP.out.mono ?_; rintro e w1 ⟨rfl, hw1⟩; rw [hw1]; clear hw1 w1)
  go_ret2
  exact ⟨rfl, rfl⟩
theorem pop_ok {w : World} {base hp : Nat} {v : Value} {es : List (Int × Int)} {p : Int} {a : Int × Int} (h : HpM O w base hp v es p) (hl : es.length ≤ 1000) (ha : es[0]? = some a) (hD0 : O.D 0) :
    Calls Try.prog 25 #[.pointer (some ⟨hp, 0, none⟩)] w fun e w' => e = .returned (.tuple #[.int .i64 a.1, .bool true]) ∧ (∃ v', HpM O w' base hp v' (popL O.lt es) p ∧ v'.ownBlock = v.ownBlock) ∧ Fr (own hp v) w w' := by
  have HP := hidIn (peek_ok h ha)
  have HQ := hidIn (dropFirst_ok h hl (List.getElem?_eq_some_iff.1 ha).1 hD0)
  go_enter Try.func25, Try.ntmps25
  go_wp2_with (first
    | (go_at_call 26; refine HP.out.mono ?_; rintro e w1 ⟨rfl, hw1⟩; rw [hw1]; clear hw1 w1)
    | (go_at_call 31; refine HQ.out.mono ?_; rintro e w2 ⟨⟨r, rfl⟩, hM2, hF2⟩))
  go_ret2
  exact ⟨rfl, hM2, hF2⟩
end Go.Proofs.Ytndiafbldgbplaa.In
