/- The heap of things: New, Push. -/
import Derived.Test.YtgeoghhajjlofaaGreatDoorVH4
import Derived.Deep.RegionLaw
namespace Go.Proofs.YtgeoghhajjlofaaGreatDoor.Ad
open Go.RowKit

theorem less_nil (w : World) : (binOp BinOp.eql 155 lessV Value.nilFunc).run Tryz.prog w = .ok (.bool false) w := by kernel_rfl
abbrev hpObj : Obj := .cells #[lessV, .slice none 0 0, .int .i64 0] 185
theorem new_ok (w : World) : Calls Tryz.prog 90 #[lessV] w fun e w' => e = .returned (.pointer (some ⟨w.heap.size, 0, none⟩)) ∧ w' = w.alloc hpObj := by
  have hz := less_nil
  go_enter Tryz.func90, Tryz.ntmps90
  go_wp2
  go_ret
  exact ⟨rfl, rfl⟩
theorem hpM_new (w : World) : HpM (w.alloc hpObj) w.heap.size w.heap.size (.slice none 0 0) [] 0 :=
  ⟨heap_alloc_new w _, World.ownsRow_nil _ _ _ _, by simp [Value.ownBlock], Nat.le_refl _⟩
theorem infoEnt : (Tryz.prog.info? 187).map (fun i => (i.zero, i.size, i.bytes)) = some (some (.agg #[.int .i64 0, .int .i64 0, .int .i64 0]), 3, 24) := by kernel_rfl
theorem info_parts {o : Option TypeInfo} {z : Value} {n b : Nat} (h : o.map (fun i => (i.zero, i.size, i.bytes)) = some (some z, n, b)) : ∃ i, o = some i ∧ i.zero = some z ∧ i.size = n ∧ i.bytes = b := by
  cases o with
  | none => cases h
  | some i =>
    simp at h
    exact ⟨i, rfl, h.1, h.2.1, h.2.2⟩
theorem HpM.bump {w : World} {base hp : Nat} {v : Value} {es : List (Th × Int)} {p q : Int} (h : HpM w base hp v es p) : HpM (w.setCell ⟨hp, 2, none⟩ (.int .i64 q)) base hp v es q :=
  ⟨heap_setCell_same w hp 2 _ _ _ h.blk, ownsRow_setCell_other h.row h.ne _, h.ne, h.hb⟩
theorem ecs_snoc (es : List (Th × Int)) (e : Th × Int) : ecs (es ++ [e]) = ecs es ++ ec e := by simp [ecs, List.flatMap_append]
theorem push_step {W w6 : World} {base hp g cap s : Nat} {v : Value} {es : List (Th × Int)} {p : Int} {x : Th}
    (hk : w6.heap[hp]? = some (.cells #[lessV, v, .int .i64 p] 185))
    (ho : w6.ownsRow base 187 3 (.slice (some ⟨g, 0, none⟩) (es.length + 1) cap) (es.length + 1) (ecs es ++ ec (x, p)))
    (hli : v.ownBlock = some g ∨ g = s) (hs : W.heap.size = s) (hh : hp < W.heap.size ∧ some hp ≠ v.ownBlock) (hb : base ≤ hp) :
    HpM (w6.setCell ⟨hp, 1, none⟩ (.slice (some ⟨g, 0, none⟩) (es.length + 1) cap)) base hp (.slice (some ⟨g, 0, none⟩) (es.length + 1) cap) (es ++ [(x, p)]) p := by
  have hne : g ≠ hp := by
    rintro rfl
    rcases hli with h | h
    · exact hh.2 h.symm
    · omega
  refine ⟨heap_setCell_same w6 hp 1 _ _ _ hk, ?_, fun e => hne (by simpa [Value.ownBlock] using e), hb⟩
  rw [List.length_append, List.length_singleton, ecs_snoc]
  exact ownsRow_setCell_other ho (fun e => hne (by simpa [Value.ownBlock] using e)) _
set_option maxRecDepth 100000 in
set_option maxHeartbeats 1000000 in
theorem push_ok {w : World} {base hp : Nat} {v : Value} {es : List (Th × Int)} {p : Int} (x : Th) (h : HpM w base hp v es p) (hl : es.length < 1000) (hp0 : 0 ≤ p) (hp1 : p ≤ 1000) :
    Calls Tryz.prog 92 #[.pointer (some ⟨hp, 0, none⟩), thV x] w fun e w' => e = .returned (.bool true) ∧ (∃ v', HpM w' base hp v' (pushL ltT es x p) (p + 1) ∧ (v'.ownBlock = v.ownBlock ∨ ∀ k, v'.ownBlock = some k → w.heap.size ≤ k)) ∧ Fr (own hp v) w w' := by
  have b0 : Below w.heap.size w (w.alloc (.cells #[.int .i64 x.1, .int .i64 x.2] 75)) := (Below.refl _ w).alloc (Nat.le_refl _) _
  obtain ⟨i0, hi, hz0, hz1, hz2⟩ := info_parts infoEnt
  obtain ⟨c0, c1, c2⟩ := h.c
  have f1 := h.f 1
  have f2 := h.f 2
  have hlt := h.lt
  have HH := hidIn h
  have hz := less_nil
  have HR : Hid ((((w.alloc (.cells #[.int .i64 x.1, .int .i64 x.2] 75)).alloc (.cells #[.int .i64 x.1, .int .i64 x.2, .int .i64 p] 187)).drew).ownsRow base 187 3 v es.length (ecs es)) := hidIn ((h.row.alloc _).alloc _)
  have HC : Hid (∀ j u, (ec (x, p))[j]? = some u → (((w.alloc (.cells #[.int .i64 x.1, .int .i64 x.2] 75)).alloc (.cells #[.int .i64 x.1, .int .i64 x.2, .int .i64 p] 187)).drew).cell? ((⟨w.heap.size + 1, 0, none⟩ : Addr).add j) = some u) := hidIn (World.news_of_block (two_new w _ _ |>.2))
  have HO : Hid (∀ u ∈ ec (x, p), u.oneCell' = true) := hidIn (by simp [Value.oneCell'])
  have HM : Hid (es.length + 1 ≤ maxLen) := hidIn (by unfold maxLen; omega)
  have HN : Hid ((es.length + 1) * 24 ≤ 140737488355328) := hidIn (by omega)
  have HQ : Hid (base ≤ (((w.alloc (.cells #[.int .i64 x.1, .int .i64 x.2] 75)).alloc (.cells #[.int .i64 x.1, .int .i64 x.2, .int .i64 p] 187)).drew).heap.size) := hidIn (by have := h.hb; show base ≤ ((w.alloc _).alloc _).heap.size; simp; omega)
  have HZ : Hid ((((w.alloc (.cells #[.int .i64 x.1, .int .i64 x.2] 75)).alloc (.cells #[.int .i64 x.1, .int .i64 x.2, .int .i64 p] 187)).drew).heap.size = w.heap.size + 2) := hidIn (by show ((w.alloc _).alloc _).heap.size = _; simp)
  have HK : Hid (hp < (((w.alloc (.cells #[.int .i64 x.1, .int .i64 x.2] 75)).alloc (.cells #[.int .i64 x.1, .int .i64 x.2, .int .i64 p] 187)).drew).heap.size ∧ some hp ≠ v.ownBlock) := hidIn ⟨by rw [HZ.out]; omega, fun e => h.ne e.symm⟩
  have HK2 : Hid ((((w.alloc (.cells #[.int .i64 x.1, .int .i64 x.2] 75)).alloc (.cells #[.int .i64 x.1, .int .i64 x.2, .int .i64 p] 187)).drew).heap[hp]? = some (.cells #[lessV, v, .int .i64 p] 185)) := hidIn (by show ((w.alloc _).alloc _).heap[hp]? = _; rw [Below.heap_alloc _ _ _ (by simp; omega), Below.heap_alloc _ _ _ (by omega)]; exact h.blk)
  have HB0 : Hid (Below w.heap.size w (((w.alloc (.cells #[.int .i64 x.1, .int .i64 x.2] 75)).alloc (.cells #[.int .i64 x.1, .int .i64 x.2, .int .i64 p] 187)).drew)) := hidIn ((b0.alloc (by simp) _).drew)
  clear h b0
  go_enter Tryz.func92, Tryz.ntmps92
  go_upto_region 3 with fail
  go_cut [26] (fun _ wx => ∃ g cap, HpM wx base hp (.slice (some ⟨g, 0, none⟩) (es.length + 1) cap) (es ++ [(x, p)]) p ∧ (v.ownBlock = some g ∨ w.heap.size ≤ g) ∧ Fr (own hp v) w wx)
  case first =>
    go_region_law ((refine step_append_lies (P := Tryz.prog) (((w.alloc (.cells #[.int .i64 x.1, .int .i64 x.2] 75)).alloc (.cells #[.int .i64 x.1, .int .i64 x.2, .int .i64 p] 187)).drew) rfl (.tmp 18) (.tmp 25) 183 rfl base 187 i0 _ 3 24 Tryz.underlying183 hi hz0 hz1 hz2 rfl (by decide) v es.length (ecs es) (by simp [Act.eval]) HR.out ⟨w.heap.size + 1, 0, none⟩ 1 1 (ec (x, p)) (by simp [Act.eval]) rfl HC.out HO.out (by decide) HM.out HN.out HQ.out (w.heap.size + 2) HZ.out ?_; intro g cap w6 hown hgrow hlie hg6; have k6 := (hgrow.block hp HK.out.1 HK.out.2).trans HK2.out; have c60 := cell_of_row w6 hp 0 _ _ _ k6; have c61 := cell_of_row w6 hp 1 _ _ _ k6; have c62 := cell_of_row w6 hp 2 _ _ _ k6; have f61 := frozen_new k6 1; have f62 := frozen_new k6 2; have HG := hidIn k6; have HOwn := hidIn hown; have HGr := hidIn hgrow; have HLi := hidIn hlie; clear k6 hown hgrow hlie; simp at c60 c61 c62))
    all_goals (go_wp2_with fail; go_meet)
    all_goals exact ⟨g, cap, push_step HG.out HOwn.out HLi.out HZ.out HK.out HH.out.hb, HLi.out.imp id (fun e => by omega), (Fr.set (Fr.trans (Fr.of_below HB0.out) ⟨HGr.out.os, HGr.out.tape, HGr.out.output, HGr.out.size, fun k hk hs => HGr.out.block k hk (fun e => hs (.inr e.symm))⟩) (p := ⟨hp, 1, none⟩) (.inl rfl) _)⟩
  case rest =>
    obtain ⟨g, cap, hM, hli, hF⟩ := hcut
    clear HR HC HO HM HN HQ HZ HK HK2 HB0 c0 c1 c2 f1 f2 hz HH hi hz0 hz1 hz2
    obtain ⟨_, c1, c2⟩ := hM.c
    have f2 := hM.f 2
    have HS := hidIn (rise_ok (i := es.length) (hM.bump (q := p + 1)) (by simp; omega) (by simp))
    have HF := hidIn (hF.set (p := ⟨hp, 2, none⟩) (.inl rfl) (.int .i64 (p + 1)))
    have HL := hidIn hli
    have HT : Hid (∀ k, own hp (.slice (some ⟨g, 0, none⟩) (es.length + 1) cap) k → k < w.heap.size → own hp v k) := hidIn (by
      rintro k (h | h) hk
      · exact .inl h
      · simp [Value.ownBlock] at h
        subst h
        rcases hli with h | h
        · exact .inr h
        · omega)
    clear hM hF hli
    go_wp2_with (go_at_call 120; refine HS.out.mono ?_; rintro e w2 ⟨⟨r, rfl⟩, hM2, hF2⟩)
    go_ret
    refine ⟨rfl, ⟨_, hM2, ?_⟩, ?_⟩
    · rcases HL.out with h | h
      · exact .inl h.symm
      · exact .inr fun k hk => by simp [Value.ownBlock] at hk; omega
    · have hsz := HF.out.size
      refine ⟨hF2.os.trans HF.out.os, hF2.tape.trans HF.out.tape, hF2.output.trans HF.out.output, Nat.le_trans hsz hF2.size, fun k hk hs => ?_⟩
      exact (hF2.block k (by omega) (fun h => hs (HT.out k h hk))).trans (HF.out.block k hk hs)
end Go.Proofs.YtgeoghhajjlofaaGreatDoor.Ad
