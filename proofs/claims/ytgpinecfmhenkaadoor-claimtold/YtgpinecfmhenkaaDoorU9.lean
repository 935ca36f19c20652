/- The law's works. -/
import Derived.Test.YtgpinecfmhenkaaDoorU8
namespace Go.Proofs.YtgpinecfmhenkaaDoor
open Go.RowKit

set_option maxRecDepth 100000 in
set_option maxHeartbeats 4000000 in
theorem cworks_any (w : World) : Calls Tryd.prog 13 #[] w fun e w' => e = .returned (.bool true) ∧ Below w.heap.size w w' := by
  go_enter Tryd.func13, Tryd.ntmps13
  go_wp2_with fail
  refine (small_any 1 5 _).mono ?_
  rintro e w1 ⟨rfl, h1⟩
  go_wp2_with fail
  refine (small_any 2 7 _).mono ?_
  rintro e w2 ⟨rfl, hb2⟩
  have h2 := h1.trans (hb2.mono h1.size)
  clear hb2 h1
  go_wp2_with fail
  refine (small_any 3 5 _).mono ?_
  rintro e w3 ⟨rfl, hb3⟩
  have h3 := h2.trans (hb3.mono h2.size)
  clear hb3 h2
  go_wp2_with fail
  refine (small_any 4 0 _).mono ?_
  rintro e w4 ⟨rfl, hb4⟩
  have h4 := h3.trans (hb4.mono h3.size)
  clear hb4 h3
  obtain ⟨W5, hW5⟩ : ∃ W5, w4.alloc (.cells (fl rcc [(smR 1 5, nilS), (smR 2 7, nilS), (smR 3 5, nilS), (smR 4 0, nilS)]).toArray 49) = W5 := ⟨_, rfl⟩
  have hX : W5.heap[w4.heap.size]? = some (.cells (fl rcc [(smR 1 5, nilS), (smR 2 7, nilS), (smR 3 5, nilS), (smR 4 0, nilS)]).toArray 49) := by rw [← hW5]; exact heap_alloc_last w4 _
  have h5 : Below w.heap.size w W5 := by rw [← hW5]; exact h4.alloc h4.size _
  have HAl := hidIn (all_any (recs_blk hX (by decide) (fun x hx => by
    simp only [List.mem_cons, List.not_mem_nil, or_false] at hx
    rcases hx with rfl | rfl | rfl | rfl <;> exact nilAdj W5)) (by decide))
  have HB5 := hidIn h5
  have HW : Hid (w4.alloc (.cells #[.int .i64 1, .int .u32 1, .int .u32 1, .int .i64 5, .bool false, .slice none 0 0, .int .i64 2, .int .u32 1, .int .u32 1, .int .i64 7, .bool false, .slice none 0 0, .int .i64 3, .int .u32 1, .int .u32 1, .int .i64 5, .bool false, .slice none 0 0, .int .i64 4, .int .u32 1, .int .u32 1, .int .i64 0, .bool false, .slice none 0 0] 49) = W5) := hidIn hW5
  clear hX h5 h4 hW5
  go_wp2_with fail
  rw [HW.out]
  refine HAl.out.mono ?_
  rintro e w6 ⟨ha, hb6⟩
  rcases ha with ⟨_, u, rfl, L, hr, hL, hrs⟩ | ⟨ha, _⟩
  rotate_left
  · rw [show rcs [(smR 1 5, nilS), (smR 2 7, nilS), (smR 3 5, nilS), (smR 4 0, nilS)] = wkR from rfl, wk_ok] at ha
    cases ha
  rw [show rcs [(smR 1 5, nilS), (smR 2 7, nilS), (smR 3 5, nilS), (smR 4 0, nilS)] = wkR from rfl, wk_allC] at hL
  have hB6 := HB5.out.trans (hb6.mono HB5.out.size)
  obtain ⟨⟨i1, r1, v1⟩, ⟨i2, r2, v2⟩, rfl⟩ : ∃ x y, L = [x, y] := by
    have : L.length = 2 := by have := congrArg List.length hL; rw [List.length_map] at this; exact this
    match L, this with
    | [x, y], _ => exact ⟨x, y, rfl⟩
  simp only [cls, List.map_cons, List.map_nil, List.cons.injEq, Prod.mk.injEq, and_true] at hL
  obtain ⟨⟨rfl, rfl⟩, rfl, rfl⟩ := hL
  have hT : TAt w6 u [(5, [1, 3]), (7, [2])] := by
    obtain ⟨L', g1, g2⟩ := ClsAns.at (w := W5) (T := [(5, [1, 3]), (7, [2])]) ⟨_, hr, rfl, hrs⟩
    exact ⟨L', g1, g2⟩
  obtain ⟨a1, c1, hv1⟩ := row_shape (hrs _ List.mem_cons_self)
  simp only at hv1
  subst hv1
  obtain ⟨ua, uc, rfl, _, _, hc⟩ := (slAt_of_row (cs := clc) (fun _ => rfl) hr rfl).clms
  obtain ⟨bk, o, rfl, hbk, hcell⟩ := hc (by simp)
  obtain ⟨q0, q1⟩ := hcell 0 _ rfl
  obtain ⟨q2, q3⟩ := hcell 1 _ rfl
  simp only [Nat.zero_mul, Nat.add_zero, Nat.one_mul] at q0 q1 q2 q3
  have HO7 := hidIn (owner_T 7 hT (by decide))
  have HT := hidIn hT
  have HB6 := hidIn hB6
  simp only [List.length_cons, List.length_nil, Nat.zero_add, Nat.reduceAdd] at q0 q1 q2 q3 HO7 HT ⊢
  clear HW HAl HB5 hb6 hr hrs hB6 hc hcell hT
  go_wp2_with fail
  refine HO7.out.mono ?_
  rintro e w7 ⟨h7, hb7⟩
  have HO5 := hidIn (owner_T 5 (HT.out.keep hb7) (by decide))
  have HB7 := hidIn (HB6.out.trans (hb7.mono HB6.out.size))
  rcases h7 with ⟨h7, _⟩ | ⟨_, h7, _⟩ | ⟨_, p, hp, h7⟩
  · exact absurd h7 (by decide)
  · exact absurd h7 (by decide)
  obtain rfl : p = (7, [2]) := by
    have : tOf [(5, [1, 3]), (7, [2])] 7 = some (7, [2]) := by decide
    rw [this] at hp
    exact (Option.some.inj hp).symm
  rcases h7 with ⟨h7, _⟩ | ⟨x, hx, rfl⟩ | ⟨h7, _⟩
  · cases h7
  rotate_left
  · exact absurd h7 (by decide)
  obtain rfl : (2 : Int) = x := by simpa using hx
  clear hx hp hb7 HB6 HO7 q0 q1 q2 q3
  go_wp2_with fail
  refine HO5.out.mono ?_
  rintro e w8 ⟨h8, hb8⟩
  have HB8 := hidIn (HB7.out.trans (hb8.mono HB7.out.size))
  rcases h8 with ⟨h8, _⟩ | ⟨_, h8, _⟩ | ⟨_, p, hp, h8⟩
  · exact absurd h8 (by decide)
  · exact absurd h8 (by decide)
  obtain rfl : p = (5, [1, 3]) := by
    have : tOf [(5, [1, 3]), (7, [2])] 5 = some (5, [1, 3]) := by decide
    rw [this] at hp
    exact (Option.some.inj hp).symm
  rcases h8 with ⟨h8, _⟩ | ⟨x, hx, _⟩ | ⟨_, c, u, rfl, _⟩
  · cases h8
  · simp at hx
  clear hp hb8 HB7 HO5
  go_wp2_with fail
  refine (isC_any c 11 w8).mono ?_
  rintro e w9 ⟨rfl, hb9⟩
  have HB9 := hidIn (HB8.out.trans (hb9.mono HB8.out.size))
  clear hb9
  go_wp2_with fail
  go_ret
  exact ⟨rfl, HB9.out⟩
end Go.Proofs.YtgpinecfmhenkaaDoor
