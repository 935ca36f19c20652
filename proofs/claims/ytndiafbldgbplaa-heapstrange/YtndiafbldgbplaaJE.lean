/- The heap of numbers: New, Push. -/
import Derived.Test.YtndiafbldgbplaaJD
namespace Go.Proofs.Ytndiafbldgbplaa.In
open Go.RowKit
variable {O : OrdS}

abbrev hpObj (O : OrdS) : Obj := .cells #[O.fv, .slice none 0 0, .int .i64 0] 59
theorem new_ok (O : OrdS) (w : World) : Calls Try.prog 21 #[O.fv] w fun e w' => e = .returned (.pointer (some ⟨w.heap.size, 0, none⟩)) ∧ w' = w.alloc (hpObj O) := by
  have hz := O.nil
  go_enter Try.func21, Try.ntmps21
  go_wp2
  go_ret
  exact ⟨rfl, rfl⟩
theorem hpM_new (w : World) (hI : O.I w) (hB : O.B ≤ w.heap.size) : HpM O (w.alloc (hpObj O)) w.heap.size w.heap.size (.slice none 0 0) [] 0 :=
  ⟨heap_alloc_new w _, World.ownsRow_nil _ _ _ _, by simp [Value.ownBlock], Nat.le_refl _, hB, O.keep _ _ hI ((Below.refl _ w).alloc hB _), fun e he => by simp at he⟩
theorem infoEnt : (Try.prog.info? 68).map (fun i => (i.zero, i.size, i.bytes)) = some (some (.agg #[.int .i64 0, .int .i64 0]), 2, 16) := by kernel_rfl
theorem HpM.bump {w : World} {base hp : Nat} {v : Value} {es : List (Int × Int)} {p q : Int} (h : HpM O w base hp v es p) : HpM O (w.setCell ⟨hp, 2, none⟩ (.int .i64 q)) base hp v es q :=
  ⟨heap_setCell_same w hp 2 _ _ _ h.blk, ownsRow_setCell_other h.row h.ne _, h.ne, h.hb, h.bB, O.keep _ _ h.inv ((Below.refl _ w).setCell (p := ⟨hp, 2, none⟩) (by have := h.bB; have := h.hb; show _ ≤ hp; omega) _), h.dom⟩
theorem ecs_snoc (es : List (Int × Int)) (e : Int × Int) : ecs (es ++ [e]) = ecs es ++ ec e := by simp [ecs, List.flatMap_append]
theorem push_step {W w6 : World} {base hp g cap s : Nat} {v : Value} {es : List (Int × Int)} {p : Int} {x : Int}
    (hk : w6.heap[hp]? = some (.cells #[O.fv, v, .int .i64 p] 59))
    (ho : w6.ownsRow base 68 2 (.slice (some ⟨g, 0, none⟩) (es.length + 1) cap) (es.length + 1) (ecs es ++ ec (x, p)))
    (hli : v.ownBlock = some g ∨ g = s) (hs : W.heap.size = s) (hh : hp < W.heap.size ∧ some hp ≠ v.ownBlock) (hb : base ≤ hp) (hB : O.B ≤ base) (hI : O.I w6) (hD : ∀ e ∈ es ++ [(x, p)], O.D e.1) :
    HpM O (w6.setCell ⟨hp, 1, none⟩ (.slice (some ⟨g, 0, none⟩) (es.length + 1) cap)) base hp (.slice (some ⟨g, 0, none⟩) (es.length + 1) cap) (es ++ [(x, p)]) p := by
  have hne : g ≠ hp := by
    rintro rfl
    rcases hli with h | h
    · exact hh.2 h.symm
    · omega
  refine ⟨heap_setCell_same w6 hp 1 _ _ _ hk, ?_, fun e => hne (by simpa [Value.ownBlock] using e), hb, hB, O.keep _ _ hI ((Below.refl _ w6).setCell (p := ⟨hp, 1, none⟩) (by show _ ≤ hp; omega) _), hD⟩
  rw [List.length_append, List.length_singleton, ecs_snoc]
  exact ownsRow_setCell_other ho (fun e => hne (by simpa [Value.ownBlock] using e)) _
set_option maxRecDepth 100000 in
set_option maxHeartbeats 1000000 in
theorem push_ok {w : World} {base hp : Nat} {v : Value} {es : List (Int × Int)} {p : Int} (x : Int) (h : HpM O w base hp v es p) (hl : es.length < 1000) (hp0 : 0 ≤ p) (hp1 : p ≤ 1000) (hDx : O.D x) :
    Calls Try.prog 22 #[.pointer (some ⟨hp, 0, none⟩), .int .i64 x] w fun e w' => e = .returned (.bool true) ∧ (∃ v', HpM O w' base hp v' (pushL O.lt es x p) (p + 1) ∧ (v'.ownBlock = v.ownBlock ∨ ∀ k, v'.ownBlock = some k → w.heap.size ≤ k)) ∧ Fr (own hp v) w w' := by
  obtain ⟨i0, hi, hz0, hz1, hz2⟩ := info_parts infoEnt
  obtain ⟨c0, c1, c2⟩ := h.c
  have f1 := h.f 1
  have f2 := h.f 2
  have hlt := h.lt
  have HH := hidIn h
  have hz := O.nil
  have HR : Hid (((w.alloc (.cells #[.int .i64 x, .int .i64 p] 68)).drew).ownsRow base 68 2 v es.length (ecs es)) := hidIn (h.row.alloc _)
  have HC : Hid (∀ j u, (ec (x, p))[j]? = some u → ((w.alloc (.cells #[.int .i64 x, .int .i64 p] 68)).drew).cell? ((⟨w.heap.size, 0, none⟩ : Addr).add j) = some u) := hidIn (World.news_of_block (heap_alloc_new w _))
  have HO : Hid (∀ u ∈ ec (x, p), u.oneCell' = true) := hidIn (by simp [Value.oneCell'])
  have HM : Hid (es.length + 1 ≤ maxLen) := hidIn (by unfold maxLen; omega)
  have HN : Hid ((es.length + 1) * 16 ≤ 140737488355328) := hidIn (by omega)
  have HQ : Hid (base ≤ ((w.alloc (.cells #[.int .i64 x, .int .i64 p] 68)).drew).heap.size) := hidIn (by have := h.hb; show base ≤ (w.alloc _).heap.size; simp; omega)
  have HZ : Hid (((w.alloc (.cells #[.int .i64 x, .int .i64 p] 68)).drew).heap.size = w.heap.size + 1) := hidIn (by show (w.alloc _).heap.size = _; simp)
  have HK : Hid (hp < ((w.alloc (.cells #[.int .i64 x, .int .i64 p] 68)).drew).heap.size ∧ some hp ≠ v.ownBlock) := hidIn ⟨by rw [HZ.out]; omega, fun e => h.ne e.symm⟩
  have HK2 : Hid (((w.alloc (.cells #[.int .i64 x, .int .i64 p] 68)).drew).heap[hp]? = some (.cells #[O.fv, v, .int .i64 p] 59)) := hidIn (by show (w.alloc _).heap[hp]? = _; rw [Below.heap_alloc _ _ _ (by omega)]; exact h.blk)
  have HB0 : Hid (Below w.heap.size w ((w.alloc (.cells #[.int .i64 x, .int .i64 p] 68)).drew)) := hidIn (((Below.refl _ w).alloc (Nat.le_refl _) _).drew)
  have HD : Hid (∀ e ∈ es ++ [(x, p)], O.D e.1) := hidIn fun e he => by
    rcases List.mem_append.1 he with h1 | h1
    · exact h.dom e h1
    · simp at h1; rw [h1]; exact hDx
  have HI : Hid (∀ w6, ((w.alloc (.cells #[.int .i64 x, .int .i64 p] 68)).drew).grownBy w6 v.ownBlock → O.I w6) := hidIn fun w6 hg => O.keep _ _ h.inv (((HB0.out.mono (by have := h.bB; have := h.hb; omega))).grown hg (by have := HQ.out; have := h.bB; omega) (fun k hk => by have := (h.row.lt k hk).1; have := h.bB; omega))
  clear h hDx
  go_enter Try.func22, Try.ntmps22
  go_upto_region 3 with fail
  go_cut [26] (fun _ wx => ∃ g cap, HpM O wx base hp (.slice (some ⟨g, 0, none⟩) (es.length + 1) cap) (es ++ [(x, p)]) p ∧ (v.ownBlock = some g ∨ w.heap.size ≤ g) ∧ Fr (own hp v) w wx)
  case first =>
    go_region_law ((refine step_append_lies (P := Try.prog) ((w.alloc (.cells #[.int .i64 x, .int .i64 p] 68)).drew) rfl (.tmp 18) (.tmp 25) 57 rfl base 68 i0 _ 2 16 Try.underlying57 hi hz0 hz1 hz2 rfl (by decide) v es.length (ecs es) (by simp [Act.eval]) HR.out ⟨w.heap.size, 0, none⟩ 1 1 (ec (x, p)) (by simp [Act.eval]) rfl HC.out HO.out (by decide) HM.out HN.out HQ.out (w.heap.size + 1) HZ.out ?_; intro g cap w6 hown hgrow hlie hg6; have k6 := (hgrow.block hp HK.out.1 HK.out.2).trans HK2.out; have c60 := cell_of_row w6 hp 0 _ _ _ k6; have c61 := cell_of_row w6 hp 1 _ _ _ k6; have c62 := cell_of_row w6 hp 2 _ _ _ k6; have f61 := frozen_new k6 1; have f62 := frozen_new k6 2; have HG := hidIn k6; have HOwn := hidIn hown; have HGr := hidIn hgrow; have HLi := hidIn hlie; clear k6 hown hgrow hlie; simp at c60 c61 c62))
    all_goals (go_wp2_with fail; go_meet)
    all_goals exact ⟨g, cap, push_step HG.out HOwn.out HLi.out HZ.out HK.out HH.out.hb HH.out.bB (HI.out _ HGr.out) HD.out, HLi.out.imp id (fun e => by omega), (Fr.set (Fr.trans (Fr.of_below HB0.out) ⟨HGr.out.os, HGr.out.tape, HGr.out.output, HGr.out.size, fun k hk hs => HGr.out.block k hk (fun e => hs (.inr e.symm))⟩) (p := ⟨hp, 1, none⟩) (.inl rfl) _)⟩
  case rest =>
    obtain ⟨g, cap, hM, hli, hF⟩ := hcut
    clear HR HC HO HM HN HQ HZ HK HK2 HB0 HD HI c0 c1 c2 f1 f2 hz HH hi hz0 hz1 hz2
    obtain ⟨_, c1, c2⟩ := hM.c
    have f2 := hM.f 2
    have HS := hidIn (rise_ok (i := es.length) (hM.bump (q := p + 1)) (by simp; omega) (by simp))
    have HF := hidIn (hF.set (p := ⟨hp, 2, none⟩) (.inl rfl) (.int .i64 (p + 1)))
    have HL := hidIn hli
    have HT : Hid (∀ k, own hp (.slice (some ⟨g, 0, none⟩) (es.length + 1) cap) k → k < w.heap.size → own hp v k) := hidIn (by
      rintro k (h | h) hk
      · exact .inl h
      · simp [Value.ownBlock] at h
        subst h
        rcases hli with h | h
        · exact .inr h
        · omega)
    clear hM hF hli
    go_wp2_with (go_at_call 30; refine HS.out.mono ?_; rintro e w2 ⟨⟨r, rfl⟩, hM2, hF2⟩)
    go_ret
    refine ⟨rfl, ⟨_, hM2, ?_⟩, ?_⟩
    · rcases HL.out with h | h
      · exact .inl h.symm
      · exact .inr fun k hk => by simp [Value.ownBlock] at hk; omega
    · have hsz := HF.out.size
      refine ⟨hF2.os.trans HF.out.os, hF2.tape.trans HF.out.tape, hF2.output.trans HF.out.output, Nat.le_trans hsz hF2.size, fun k hk hs => ?_⟩
      exact (hF2.block k (by omega) (fun h => hs (HT.out k h hk))).trans (HF.out.block k hk hs)
end Go.Proofs.Ytndiafbldgbplaa.In
