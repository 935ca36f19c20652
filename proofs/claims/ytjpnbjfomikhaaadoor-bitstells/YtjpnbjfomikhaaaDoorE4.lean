/- bits.Each: the iterator tells the bits, rising, till a round says 'no more'. -/
import Derived.Test.YtjpnbjfomikhaaaDoorE2
import Derived.Test.YtjpnbjfomikhaaaDoorE3
namespace Go.Proofs.YtjpnbjfomikhaaaDoor
open Go.RowKit Go.Shelf

attribute [local go_sem] Oper.semAt_some

set_option maxRecDepth 100000 in
set_option maxHeartbeats 1000000 in
theorem each_givesX (N Bb n : Nat) (hN : N < 2 ^ 256) (hn : 1 ≤ n) (w : World) (hb : HasBs w Bb N) :
    GivesX Fence.wide n Tryd.prog 39 #[.pointer (some ⟨Bb, 0, none⟩)] (fun m => #[.int .i64 ((m : Int) + 1)]) Tabs (lst N) w := by
  intro l J Jx W hBw hsz hT hJ hY h0
  refine callsIn_of_wp Tryd.func39 rfl trivial ?_ rfl
  simp only [Tryd.ntmps39, List.size_toArray, List.length_cons, List.length_nil, Nat.reduceAdd, Nat.reduceSub, Array.replicate_succ, Array.replicate_zero, List.push_toArray, List.append_toArray, List.nil_append, List.cons_append]
  have hb' := hb.keep hBw hb.lt
  obtain ⟨c0, c1, c2, c3, f0, f1, f2, f3, lt⟩ := hb'
  clear hb hsz
  gi_wp2
  gi_loopw [4] (fun _ wr => ∃ (pre : List Nat) (X : Nat), X < 2 ^ 256 ∧ lst N = pre ++ lst X ∧ HasBs wr W.heap.size X ∧ J pre wr) (fun _ wr => (lst (restOf W.heap.size wr)).length)
  case atStart =>
    refine ⟨[], N, hN, rfl, ?_, ?_⟩
    · exact hasBs_new W N
    · exact hJ [] W _ h0 (grown_below ((Below.refl _ W).alloc (Nat.le_refl _) _) _)
  case round =>
    obtain ⟨pre, X, hX, hl, hB, hJs⟩ := hrel
    have hq := eq_zero X hX
    by_cases hz : X = 0
    · subst hz
      have hq' : ∀ w : World, (Op.equalIn 10000 24 (.agg #[.int .u64 (wd 0 0), .int .u64 (wd 0 1), .int .u64 (wd 0 2), .int .u64 (wd 0 3)]) (.agg #[.int .u64 0, .int .u64 0, .int .u64 0, .int .u64 0])).run Tryd.prog w = Result.ok true w := fun w => hq w
      clear hq
      have HB := hidIn hB
      obtain ⟨c0, c1, c2, c3, f0, f1, f2, f3, lt⟩ := hB
      have HJ : Hid (J (lst N) wr) := by rw [hl, lst_zero, List.append_nil]; exact hJs
      clear hl hJs hX
      gi_wp2
      go_end0
      exact ⟨⟨_, rfl⟩, .inl HJ.out⟩
    · have hq' : ∀ w : World, (Op.equalIn 10000 24 (.agg #[.int .u64 (wd X 0), .int .u64 (wd X 1), .int .u64 (wd X 2), .int .u64 (wd X 3)]) (.agg #[.int .u64 0, .int .u64 0, .int .u64 0, .int .u64 0])).run Tryd.prog w = Result.ok false w := fun w => by rw [hq w]; simp [hz]
      clear hq
      obtain ⟨m, hm⟩ := least_of_ne hX hz
      have hl1 := lst_least hm
      have hlt256 := hm.1
      have HB := hidIn hB
      have HBr := hidIn hB
      have HH := hidIn (show (pre ++ [m]) <+: lst N ∧ lst N = (pre ++ [m]) ++ lst (wo X (2 ^ m)) by rw [hl, hl1]; exact ⟨⟨lst (wo X (2 ^ m)), by simp⟩, by simp⟩)
      have HL := hidIn hl1
      have Ht := hidIn (hT _ _ hJs)
      have Hm := hidIn hm
      obtain ⟨c0, c1, c2, c3, f0, f1, f2, f3, lt⟩ := hB
      clear hl hl1 hz hm
      gi_wp2_with (refine ⟨trivial, ?_⟩; gi_at_call 7; refine (callsIn_wide.2 (lowest_any X m Hm.out _ Ht.out)).mono ?_; rintro e w1 ⟨rfl, hb1⟩; have hJ1 := hJ pre wr w1 hJs (grown_below hb1 _); have HB1 := hidIn (HB.out.keep hb1 lt); clear hJs Ht c0 c1 c2 c3 f0 f1 f2 f3 lt hb1 HB; obtain ⟨fn, tmps, assign, body, hy, hR⟩ := hY pre m w1 hJ1 HH.out.1 HB1.out.lt)
      refine hR.mono ?_
      rintro e W3 (⟨rfl, hJ3, hk3⟩ | ⟨rfl, hJx3⟩)
      · have HB3 := hidIn (HB1.out.at hk3)
        clear hy hR hk3 HB1 hJ1 hq'
        obtain ⟨c0, c1, c2, c3, f0, f1, f2, f3, lt⟩ := HB3.out
        gi_wp2
        gi_region_with (first | (refine ⟨trivial, ?_⟩; gi_at_call 28; refine (callsIn_wide.2 (only_any m hlt256 _)).mono ?_; rintro e w4 ⟨rfl, hb4⟩; have HB4 := hidIn (HasBs.keep (HasBs.keep HB3.out (Below.refl _ W3).drew HB3.out.lt) hb4 HB3.out.lt); have HG4 := hidIn (Below.trans (Below.refl _ W3).drew hb4); obtain ⟨c0', c1', c2', c3', f0', f1', f2', f3', lt'⟩ := HB4.out) | (refine ⟨trivial, ?_⟩; gi_at_call 38; refine (callsIn_wide.2 (wo_any _ _ _)).mono ?_; rintro e w5 ⟨rfl, hb5⟩; have HB5 := hidIn (HasBs.keep HB4.out hb5 HB4.out.lt); have HG5 := hidIn (Below.trans HG4.out (hb5.mono HG4.out.size)); obtain ⟨c0'', c1'', c2'', c3'', f0'', f1'', f2'', f3'', lt''⟩ := HB5.out))
        all_goals
          gi_wp2
          go_roundw
          case rel =>
            have hw := wo_lt (M := 2 ^ m) hX
            exact ⟨pre ++ [m], wo X (2 ^ m), hw, HH.out.2, HB5.out.put _, hJ _ _ _ (hJ _ _ _ hJ3 (grown_below HG5.out _)) (grown_put _ _ _)⟩
          case measure =>
            rw [restOf_eq (wo_lt hX) (HB5.out.put _), restOf_eq hX HBr.out, HL.out]
            simp
      · clear hy hR hq' HB1 hJ1
        gi_wp2
        refine bodyPost_ret (results_none rfl _ _ _) rfl ?_
        exact ⟨⟨_, rfl⟩, .inr ⟨_, HH.out.1, hJx3⟩⟩
end Go.Proofs.YtjpnbjfomikhaaaDoor
