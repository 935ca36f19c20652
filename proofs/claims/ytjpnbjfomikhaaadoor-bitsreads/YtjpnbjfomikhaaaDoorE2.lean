/- bits.Each: the iterator tells the bits, rising. -/
import Derived.Test.YtjpnbjfomikhaaaDoorE1
import Derived.Test.YtjpnbjfomikhaaaDoorQ1
import Derived.Test.YtjpnbjfomikhaaaDoorW5
namespace Go.Proofs.YtjpnbjfomikhaaaDoor
open Go.RowKit Go.Shelf

attribute [local go_sem] Oper.semAt_some

/-- The number that four cells of a block hold, read off the world. -/
def cellNat (w : World) (b o : Nat) : Nat := match w.cell? ⟨b, o, none⟩ with | some (.int _ z) => z.toNat | _ => 0
def restOf (b : Nat) (w : World) : Nat := ofw (cellNat w b 0) (cellNat w b 1) (cellNat w b 2) (cellNat w b 3)
theorem restOf_eq {w : World} {b X : Nat} (hX : X < 2 ^ 256) (h : HasBs w b X) : restOf b w = X := by
  have e : restOf b w = ofw (wd X 0) (wd X 1) (wd X 2) (wd X 3) := by
    unfold restOf cellNat
    simp only [h.c0, h.c1, h.c2, h.c3, Int.toNat_natCast]
  rw [e]
  have b0 := wd_lt X 0
  have b1 := wd_lt X 1
  have b2 := wd_lt X 2
  have b3 := wd_lt X 3
  exact ext_wd (ofw_lt _ _ _ _ b0 b1 b2 b3) hX (wd_ofw0 _ _ _ _ b0) (wd_ofw1 _ _ _ _ b0 b1) (wd_ofw2 _ _ _ _ b0 b1 b2) (wd_ofw3 _ _ _ _ b0 b1 b2 b3)

theorem grown_below {w w' : World} (h : Below w.heap.size w w') (q : Nat) : w.grownBy w' (some q) := ⟨h.os, h.tape, h.output, h.size, fun k hk _ => h.block k hk⟩
theorem grown_put (w : World) (b N : Nat) : w.grownBy (World.putBs w b N) (some b) := by
  have h : ∀ (W : World) (o : Nat) (v : Value), W.grownBy (W.setCell ⟨b, o, none⟩ v) (some b) := fun W o v =>
    ⟨rfl, rfl, rfl, by simp, fun k _ hk => Below.heap_setCell W ⟨b, o, none⟩ v k (fun e => hk (by rw [e]))⟩
  have t : ∀ {A B C : World}, A.grownBy B (some b) → B.grownBy C (some b) → A.grownBy C (some b) := fun h1 h2 =>
    ⟨h2.os.trans h1.os, h2.tape.trans h1.tape, h2.output.trans h1.output, Nat.le_trans h1.size h2.size, fun k hk hn => (h2.block k (Nat.lt_of_lt_of_le hk h1.size) hn).trans (h1.block k hk hn)⟩
  exact t (t (t (h _ 0 _) (h _ 1 _)) (h _ 2 _)) (h _ 3 _)
theorem HasBs.at {w w' : World} {b N : Nat} (h : HasBs w b N) (hk : KeepsAt b w w') : HasBs w' b N :=
  ⟨(World.cell?_of_block (a := ⟨b, 0, none⟩) hk.1).trans h.c0, (World.cell?_of_block (a := ⟨b, 1, none⟩) hk.1).trans h.c1, (World.cell?_of_block (a := ⟨b, 2, none⟩) hk.1).trans h.c2, (World.cell?_of_block (a := ⟨b, 3, none⟩) hk.1).trans h.c3,
   (World.frozen?_of_block (a := ⟨b, 0, none⟩) hk.1).trans h.f0, (World.frozen?_of_block (a := ⟨b, 1, none⟩) hk.1).trans h.f1, (World.frozen?_of_block (a := ⟨b, 2, none⟩) hk.1).trans h.f2, (World.frozen?_of_block (a := ⟨b, 3, none⟩) hk.1).trans h.f3, Nat.lt_of_lt_of_le h.lt hk.2⟩

set_option maxRecDepth 100000 in
set_option maxHeartbeats 1000000 in
theorem each_gives (N Bb n : Nat) (hN : N < 2 ^ 256) (hn : 1 ≤ n) (w : World) (hb : HasBs w Bb N) :
    GivesOwn Fence.wide n Tryd.prog 39 #[.pointer (some ⟨Bb, 0, none⟩)] (fun m => #[.int .i64 ((m : Int) + 1)]) Tabs (lst N) w := by
  intro l J W hBw hsz hT hJ hY h0
  refine callsIn_of_wp Tryd.func39 rfl trivial ?_ rfl
  simp only [Tryd.ntmps39, List.size_toArray, List.length_cons, List.length_nil, Nat.reduceAdd, Nat.reduceSub, Array.replicate_succ, Array.replicate_zero, List.push_toArray, List.append_toArray, List.nil_append, List.cons_append]
  have hb' := hb.keep hBw hb.lt
  obtain ⟨c0, c1, c2, c3, f0, f1, f2, f3, lt⟩ := hb'
  clear hb hsz
  gi_wp2
  gi_loopw [4] (fun _ wr => ∃ (pre : List Nat) (X : Nat), X < 2 ^ 256 ∧ lst N = pre ++ lst X ∧ HasBs wr W.heap.size X ∧ J pre wr) (fun _ wr => (lst (restOf W.heap.size wr)).length)
  case atStart =>
    refine ⟨[], N, hN, rfl, ?_, ?_⟩
    · exact hasBs_new W N
    · exact hJ [] W _ h0 (grown_below ((Below.refl _ W).alloc (Nat.le_refl _) _) _)
  case round =>
    obtain ⟨pre, X, hX, hl, hB, hJs⟩ := hrel
    have hq := eq_zero X hX
    by_cases hz : X = 0
    · subst hz
      have hq' : ∀ w : World, (Op.equalIn 10000 24 (.agg #[.int .u64 (wd 0 0), .int .u64 (wd 0 1), .int .u64 (wd 0 2), .int .u64 (wd 0 3)]) (.agg #[.int .u64 0, .int .u64 0, .int .u64 0, .int .u64 0])).run Tryd.prog w = Result.ok true w := fun w => hq w
      clear hq
      have HB := hidIn hB
      obtain ⟨c0, c1, c2, c3, f0, f1, f2, f3, lt⟩ := hB
      have HJ : Hid (J (lst N) wr) := by rw [hl, lst_zero, List.append_nil]; exact hJs
      clear hl hJs hX
      gi_wp2
      go_end0
      exact ⟨⟨_, rfl⟩, HJ.out⟩
    · have hq' : ∀ w : World, (Op.equalIn 10000 24 (.agg #[.int .u64 (wd X 0), .int .u64 (wd X 1), .int .u64 (wd X 2), .int .u64 (wd X 3)]) (.agg #[.int .u64 0, .int .u64 0, .int .u64 0, .int .u64 0])).run Tryd.prog w = Result.ok false w := fun w => by rw [hq w]; simp [hz]
      clear hq
      obtain ⟨m, hm⟩ := least_of_ne hX hz
      have hl1 := lst_least hm
      have hlt256 := hm.1
      have HB := hidIn hB
      have HBr := hidIn hB
      have HH := hidIn (show (pre ++ [m]) <+: lst N ∧ lst N = (pre ++ [m]) ++ lst (wo X (2 ^ m)) by rw [hl, hl1]; exact ⟨⟨lst (wo X (2 ^ m)), by simp⟩, by simp⟩)
      have HL := hidIn hl1
      have Ht := hidIn (hT _ _ hJs)
      have Hm := hidIn hm
      obtain ⟨c0, c1, c2, c3, f0, f1, f2, f3, lt⟩ := hB
      clear hl hl1 hz hm
      gi_wp2_with (refine ⟨trivial, ?_⟩; gi_at_call 7; refine (callsIn_wide.2 (lowest_any X m Hm.out _ Ht.out)).mono ?_; rintro e w1 ⟨rfl, hb1⟩; have hJ1 := hJ pre wr w1 hJs (grown_below hb1 _); have HB1 := hidIn (HB.out.keep hb1 lt); clear hJs Ht c0 c1 c2 c3 f0 f1 f2 f3 lt hb1 HB; obtain ⟨fn, tmps, assign, body, hy, hR⟩ := hY pre m w1 hJ1 HH.out.1 HB1.out.lt)
      refine hR.mono ?_
      rintro e W3 ⟨rfl, hJ3, hk3⟩
      have HB3 := hidIn (HB1.out.at hk3)
      clear hy hR hk3 HB1 hJ1 hq'
      obtain ⟨c0, c1, c2, c3, f0, f1, f2, f3, lt⟩ := HB3.out
      gi_wp2
      gi_region_with (first | (refine ⟨trivial, ?_⟩; gi_at_call 28; refine (callsIn_wide.2 (only_any m hlt256 _)).mono ?_; rintro e w4 ⟨rfl, hb4⟩; have HB4 := hidIn (HasBs.keep (HasBs.keep HB3.out (Below.refl _ W3).drew HB3.out.lt) hb4 HB3.out.lt); have HG4 := hidIn (Below.trans (Below.refl _ W3).drew hb4); obtain ⟨c0', c1', c2', c3', f0', f1', f2', f3', lt'⟩ := HB4.out) | (refine ⟨trivial, ?_⟩; gi_at_call 38; refine (callsIn_wide.2 (wo_any _ _ _)).mono ?_; rintro e w5 ⟨rfl, hb5⟩; have HB5 := hidIn (HasBs.keep HB4.out hb5 HB4.out.lt); have HG5 := hidIn (Below.trans HG4.out (hb5.mono HG4.out.size)); obtain ⟨c0'', c1'', c2'', c3'', f0'', f1'', f2'', f3'', lt''⟩ := HB5.out))
      all_goals
        gi_wp2
        go_roundw
        case rel =>
          have hw := wo_lt (M := 2 ^ m) hX
          exact ⟨pre ++ [m], wo X (2 ^ m), hw, HH.out.2, HB5.out.put _, hJ _ _ _ (hJ _ _ _ hJ3 (grown_below HG5.out _)) (grown_put _ _ _)⟩
        case measure =>
          rw [restOf_eq (wo_lt hX) (HB5.out.put _), restOf_eq hX HBr.out, HL.out]
          simp
end Go.Proofs.YtjpnbjfomikhaaaDoor
