/- A calendar of dandelion/api.Arrive: Take, Drop. -/
import Derived.Test.YtkhfpcnmnnboeaaC8A
namespace Go.Proofs.Ytkhfpcnmnnboeaa.Ca.A
open Go.RowKit Go.Maps

/-- A thing's cells. -/
abbrev tc (x : (Int × Int × ByteArray)) : List Value := [.int .i64 x.1, .int .i64 x.2.1, .string x.2.2]
theorem infoT : (Try.prog.info? 30).map (fun i => (i.zero, i.size, i.bytes)) = some (some (.agg #[.int .i64 0, .int .i64 0, .string ⟨#[]⟩]), 3, 32) := by kernel_rfl
theorem append_th {W : World} {base k : Nat} {u : Value} {l : List (Int × Int × ByteArray)} (hr : W.ownsRow base 30 3 u k (fl tc l)) (x : (Int × Int × ByteArray)) (hk : (k + 1) * 32 ≤ 140737488355328) (hbase : base ≤ W.heap.size) :
    ∃ g cap w6, (Builtin.append_ #[28, 28] 28 #[u, .slice (some ⟨W.heap.size, 0, none⟩) 1 1]).run Try.prog (W.alloc (.cells (tc x).toArray 30)) = .ok (.slice (some ⟨g, 0, none⟩) (k + 1) cap) w6 ∧
      w6.ownsRow base 30 3 (.slice (some ⟨g, 0, none⟩) (k + 1) cap) (k + 1) (fl tc (l ++ [x])) ∧ (u.ownBlock = some g ∨ g = W.heap.size + 1) ∧ W.grownBy w6 u.ownBlock ∧ Below base W w6 :=
  append_one (P := Try.prog) (cs := tc) (T := 28) (fun _ => rfl) (fun _ => by simp [Value.oneCell']) Try.underlying28 infoT rfl (by decide) hr x hk (by unfold maxLen; omega) hbase
/-- Is something due? -/
def dueB (L : List (Tg (Int × Int × ByteArray))) (now : Int) : Bool := match L with | [] => false | b :: _ => decide (tick b.1 ≤ now)
set_option maxRecDepth 100000 in
theorem due_ok {w : World} {S : Nat → Prop} {cp p c1 c2 : Nat} {L : List (Tg (Int × Int × ByteArray))} {now : Int} (h : Cal w S cp L p) (h1 : w.heap[c1]? = some (.cells #[ptr cp] 72)) (h2 : w.heap[c2]? = some (.cells #[.int .u64 now] 47)) :
    Calls Try.prog 49 #[ptr c1, ptr c2] w fun e w' => e = .returned (.bool (dueB L now)) ∧ w' = w := by
  have x1 := cell_of_row _ _ 0 _ _ _ h1
  have x2 := cell_of_row _ _ 0 _ _ _ h2
  simp at x1 x2
  cases L with
  | nil =>
    have HN := hidIn (next_none h)
    clear h h1 h2
    go_enter Try.func49, Try.ntmps49
    go_wp2_with fail
    refine HN.out.mono ?_
    rintro e w1 ⟨rfl, hw1⟩
    rw [hw1]
    clear hw1 w1
    go_wp2
    go_ret
    exact ⟨rfl, rfl⟩
  | cons b L =>
    have HN := hidIn (next_some h)
    obtain ⟨t, ht⟩ : ∃ t, b.1.2 = t := ⟨_, rfl⟩
    have HE : Hid (dueB (b :: L) now = decide (t ≤ now)) := hidIn (by show decide (b.1.2 ≤ now) = _; rw [ht])
    rw [HE.out]
    rw [ht] at HN
    clear h h1 h2 ht HE
    go_enter Try.func49, Try.ntmps49
    go_wp2_with fail
    refine HN.out.mono ?_
    rintro e w1 ⟨rfl, hw1⟩
    rw [hw1]
    clear hw1 w1
    by_cases hq : t ≤ now
    · go_wp2
      go_ret
      exact ⟨by simp [hq], rfl⟩
    · go_wp2
      go_ret
      exact ⟨by simp, rfl⟩
theorem enterT (args : Array Value) (w : World) : (callFunc 49 args).run Try.prog w = .ok (Next.enter 49 args) w := by kernel_rfl
theorem dropT_head {b : Tg (Int × Int × ByteArray)} {L : List (Tg (Int × Int × ByteArray))} (h : Ord (b :: L)) : dropT (b :: L) b.2 = L := by
  unfold dropT
  rw [List.filter_cons, if_neg (by simp)]
  exact List.filter_eq_self.2 fun x hx => by
    have := ((List.pairwise_cons.1 h).1 x hx).2
    simpa using fun e => this e.symm
/-- Taken out by its ticket. -/
theorem rem_cal {w : World} {S : Nat → Prop} {cp p : Nat} {L : List (Tg (Int × Int × ByteArray))} (h : Cal w S cp L p) (hp : p < 100000) (hl : L.length ≤ 100000) {v : Value} {mb i : Nat} {es : List Th} {f : Int → Option Value} {a : Th}
    (h1 : HpC w cp v mb es p) (h2 : MpE w mb p f) (h3 : MapOk f es) (h4 : IsHp at' es) (h5 : (es.map tg).Perm L) (h6 : S cp) (h7 : S mb) (h8 : ∀ k, ownH v es k → S k) (ha : es[i]? = some a) :
    Calls Try.prog 51 #[ptr cp, ptr a.1.1] w fun e w' => (∃ r, e = .returned r) ∧ Cal w' S cp (dropT L a.2) p ∧ Fr S w w' := by
  have hlen := len_is h5
  have hi := (List.getElem?_eq_some_iff.1 ha).1
  have hmem : tg a ∈ L := h5.mem_iff.1 (List.mem_map.2 ⟨a, List.mem_of_getElem? ha, rfl⟩)
  have hat : 1 ≤ a.2 ∧ a.2 ≤ (p : Int) := h.t _ hmem
  have hperm := remL_perm less ha
  have hpL : L.Perm (tg a :: (remL less es i).map tg) := h5.symm.trans (hperm.map tg)
  refine (remove_ok h1 h2 (by omega) ha (wf9 (by omega))).mono ?_
  rintro e w' ⟨hr, v', g1, g2, g3, g4⟩
  have hown : ∀ k, ownH v' (remL less es i) k → S k := fun k hk => by
    rcases hk with hk | ⟨y, hy, hyk⟩
    · exact h8 k (.inl (g4 ▸ hk))
    · exact h8 k (.inr ⟨y, hperm.mem_iff.2 (List.mem_cons_of_mem _ hy), hyk⟩)
  refine ⟨hr, ⟨⟨v', mb, remL less es i, delO f a.2, g1, g2, h3.del hperm (nd_tg h5 h.o), rem_heap at' h4 hi, dropT_perm h.o hpL, h6, h7, hown⟩, h.o.drop _, fun b hb => h.t b (List.mem_filter.1 hb).1⟩, g3.mono fun k _ hk => ?_⟩
  rcases hk with rfl | rfl | hk
  · exact h6
  · exact h7
  · exact h8 k hk
theorem Cal.rem_first {w : World} {S : Nat → Prop} {cp p : Nat} {b : Tg (Int × Int × ByteArray)} {L : List (Tg (Int × Int × ByteArray))} (h : Cal w S cp (b :: L) p) (hp : p < 100000) (hl : (b :: L).length ≤ 100000) : ∃ g cap n A i, w.cell? ⟨cp, 1, none⟩ = some (.slice (some ⟨g, 0, none⟩) (n + 1) cap) ∧ w.cell? ⟨g, 0, none⟩ = some (ptr A) ∧ w.heap[A]? = some (.cells (entA ((A, b.1), b.2) i) 116) ∧
    ∀ (T : Nat → Prop) w1, Fr T w w1 → (∀ k, S k → ¬ T k) → Calls Try.prog 51 #[ptr cp, ptr A] w1 fun e w' => (∃ r, e = .returned r) ∧ Cal w' S cp L p ∧ Fr S w1 w' := by
  obtain ⟨v, mb, es, f, h1, h2, h3, h4, h5, h6, h7, h8⟩ := h.x
  have hlen := len_is h5
  simp at hlen
  obtain ⟨a, ha⟩ : ∃ a, es[0]? = some a := ⟨es[0], List.getElem?_eq_getElem (by omega)⟩
  obtain ⟨L', hL⟩ := first_is h4 h5 h.o ha
  have hb : b = tg a := by cases hL; rfl
  have hv := h1
  obtain ⟨ad, cap, rfl, _, hg⟩ := h1.slice
  obtain ⟨g, rfl, _⟩ := hg (by omega)
  refine ⟨g, cap, L.length, a.1.1, 0, by rw [h1.c.2.1, hlen], h1.at ha, ?_, fun T w1 hF hT => ?_⟩
  · rw [hb]; exact h1.ent 0 a ha
  · have hr := rem_cal (h.keep hF hT) hp hl (h1.keep hF (hT _ h6) (fun k hk => hT _ (h8 k hk))) (h2.keep hF (hT _ h7)) h3 h4 h5 h6 h7 h8 ha
    have hd : dropT (b :: L) a.2 = L := by have := dropT_head h.o; rw [hb] at this ⊢; exact this
    rw [hd] at hr
    exact hr
def slN (v : Value) : Nat := match v with | .slice _ n _ => n | _ => 0
set_option maxRecDepth 100000 in
set_option maxHeartbeats 4000000 in
theorem take_ok {w : World} {S : Nat → Prop} {cp p : Nat} {L : List (Tg (Int × Int × ByteArray))} {now : Int} (h0 : Cal w S cp L p) (hp : p < 100000) (hl : L.length ≤ 100000) :
    Calls Try.prog 33 #[ptr cp, .int .u64 now] w fun e w' => (∃ u, e = .returned u ∧ w'.ownsRow w.heap.size 30 3 u (dueT L now).length (fl tc ((dueT L now).map fun b => b.1.1))) ∧ Cal w' S cp (restT L now) p ∧ Fr S w w' := by
  have h := h0.mono (T := fun k => S k ∧ k < w.heap.size) (fun k hk hs => ⟨hs, hk⟩)
  obtain ⟨W1, hW1⟩ : ∃ W1, (w.alloc (.cells #[ptr cp] 72)).alloc (.cells #[.int .u64 now] 47) = W1 := ⟨_, rfl⟩
  have hb1 : Below w.heap.size w W1 := by rw [← hW1]; exact ((Below.refl _ w).alloc (Nat.le_refl _) _).alloc (by simp) _
  obtain ⟨q, hq⟩ : ∃ q, w.heap.size = q := ⟨_, rfl⟩
  have hA : W1.heap[q]? = some (.cells #[ptr cp] 72) := by rw [← hW1, ← hq, Below.heap_alloc _ _ _ (by simp)]; exact heap_alloc_last w _
  have hB : W1.heap[q + 1]? = some (.cells #[.int .u64 now] 47) := by
    rw [← hW1, ← hq]
    have := heap_alloc_last (w.alloc (.cells #[ptr cp] 72)) (.cells #[.int .u64 now] 47)
    rwa [World.size_alloc] at this
  have HC := hidIn (h.below hb1)
  have HA := hidIn hA
  have HB := hidIn hB
  have Hb1 := hidIn hb1
  have HW := hidIn hW1
  have Hq := hidIn hq
  have hE := enterT
  rw [hq]
  obtain ⟨D0, R0, hDR⟩ : ∃ D R, dueT L now = D ∧ restT L now = R := ⟨_, _, rfl, rfl⟩
  rw [hDR.1, hDR.2]
  have HDR := hidIn hDR
  have Hdr := hidIn (due_rest L now)
  have HL9 := hidIn hl
  clear hW1 hb1 hA hB h h0 hDR hl
  go_enter Try.func33, Try.ntmps33
  go_upto_region 1 with fail
  try rw [HW.out]
  clear HW hq
  go_wp2_with fail
  go_loopw [6] (fun u wr => ∃ D R, L = D ++ R ∧ (∃ a c, u = .slice a D.length c) ∧ Hid (dueT L now = D ++ dueT R now ∧ restT L now = restT R now ∧ wr.ownsRow q 30 3 u D.length (fl tc (D.map fun b => b.1.1)) ∧ (∀ k, u.ownBlock = some k → k ≠ q ∧ k ≠ q + 1) ∧ Cal wr (fun k => S k ∧ k < q) cp R p ∧ wr.heap[q]? = some (.cells #[ptr cp] 72) ∧ wr.heap[q + 1]? = some (.cells #[.int .u64 now] 47) ∧ Fr S w wr)) (fun u _ => L.length - slN u)
  case atStart =>
    exact ⟨[], L, rfl, ⟨none, 0, rfl⟩, hidIn ⟨rfl, rfl, World.ownsRow_nil _ _ _ _, fun k hk => by simp [Value.ownBlock] at hk, by rw [← Hq.out]; exact HC.out, HA.out, HB.out, Fr.of_below Hb1.out⟩⟩
  case round =>
    obtain ⟨D, R, hLD, ⟨ua, uc, rfl⟩, HR⟩ := hrel
    obtain ⟨r1, r2, r3, r4, r5, r6, r7, r8⟩ := HR.out
    clear HR
    have HDue := hidIn (due_ok r5 r6 r7)
    have HR1 := hidIn r1
    have HR2 := hidIn r2
    have HR3 := hidIn r3
    have HR4 := hidIn r4
    have HR8 := hidIn r8
    have HR6 := hidIn r6
    have HR7 := hidIn r7
    have HR5 := hidIn r5
    have hDl : D.length ≤ 100000 := by have := HL9.out; rw [hLD, List.length_append] at this; omega
    by_cases hdue : dueB R now = true
    · obtain ⟨b, R', rfl⟩ : ∃ b R', R = b :: R' := by
        cases R with
        | nil => cases hdue
        | cons b R' => exact ⟨b, R', rfl⟩
      have hle : tick b.1 ≤ now := by simpa [dueB] using hdue
      have hRl : (b :: R').length ≤ 100000 := by have := HL9.out; rw [hLD, List.length_append] at this; omega
      obtain ⟨g, cap, n, A, i, c1, g0, hAA, hrem⟩ := r5.rem_first hp hRl
      have x0 := cell_of_row _ _ 0 _ _ _ r6
      simp at x0
      have t0 := cell_of_row _ _ 0 _ _ _ hAA
      have t1 := cell_of_row _ _ 1 _ _ _ hAA
      have t2 := cell_of_row _ _ 2 _ _ _ hAA
      simp at t0 t1 t2
      have hn0 : (0 : Int) < (n : Int) + 1 := by omega
      obtain ⟨g6, cap6, w6, hrun, hown, hlie, hgr, hb6⟩ := append_th r3 b.1.1 (by omega) (by have := r8.size; rw [Hq.out] at this; exact this)
      have hF6 : Fr (fun k => (Value.slice ua D.length uc).ownBlock = some k) wr w6 := ⟨hgr.os, hgr.tape, hgr.output, hgr.size, fun j hj hne => hgr.block j hj (fun e => hne e.symm)⟩
      have hold : ∀ k, (Value.slice ua D.length uc).ownBlock = some k → q ≤ k := fun k hk => (r3.lt k hk).1
      have hnT : ∀ k, (S k ∧ k < q) → ¬ (Value.slice ua D.length uc).ownBlock = some k := fun k hk e => by have := hold k e; omega
      have HRem := hidIn (hrem _ _ hF6 hnT)
      have k6 := (hF6.block q (block_lt r6) (fun e => (r4 q e).1 rfl)).trans r6
      have k7 := (hF6.block (q + 1) (block_lt r7) (fun e => (r4 _ e).2 rfl)).trans r7
      have x6 := cell_of_row _ _ 0 _ _ _ k6
      simp at x6
      have HRun := hidIn hrun
      have HO := hidIn hown
      have HLi := hidIn hlie
      have HK6 := hidIn k6
      have HK7 := hidIn k7
      have HF6 : Hid (Fr S w w6) := hidIn ⟨hF6.os.trans HR8.out.os, hF6.tape.trans HR8.out.tape, hF6.output.trans HR8.out.output, Nat.le_trans HR8.out.size hF6.size, fun k hk hs => (hF6.block k (Nat.lt_of_lt_of_le hk HR8.out.size) (fun e => by have := hold k e; have := Hq.out; omega)).trans (HR8.out.block k hk hs)⟩
      have hq1 : q + 1 < wr.heap.size := block_lt r7
      have hold6 : Hid (∀ k, (Value.slice ua D.length uc).ownBlock = some k → q ≤ k) := hidIn hold
      have hdy := due_yes (L := R') (now := now) hle
      have HD2 : Hid (dueT L now = (D ++ [b]) ++ dueT R' now ∧ restT L now = restT R' now) := hidIn ⟨by rw [HR1.out, hdy.1, List.append_assoc]; rfl, by rw [HR2.out, hdy.2]⟩
      rw [hdue] at HDue
      have hwq : wr.heap.size = wr.heap.size := rfl
      clear r1 r2 r3 r4 r5 r6 r7 r8 hrun hown hlie hgr hb6 hF6 hnT k6 k7 hrem hAA hdy hwq HC HA HB
      go_wp2_with (first
        | (go_at_call 49; refine HDue.out.mono ?_; rintro e w1 ⟨rfl, hw1⟩; rw [hw1]; clear hw1 w1)
        | (refine l_append rfl _ _ 28 rfl HRun.out ?_))
      refine HRem.out.mono ?_
      rintro e w7 ⟨⟨r, rfl⟩, hC7, hF7⟩
      have HC7 := hidIn hC7
      have HF7 := hidIn hF7
      have hlD : D.length < L.length := by rw [hLD, List.length_append]; simp
      clear hC7 hF7 HRem HDue x0 x6 c1 g0 t0 t1 t2
      go_wp2
      go_roundw
      case rel =>
        have hg6 : q ≤ g6 ∧ g6 ≠ q ∧ g6 ≠ q + 1 := by
          rcases HLi.out with e | e
          · exact ⟨hold6.out _ e, HR4.out _ e⟩
          · omega
        refine ⟨D ++ [b], R', by rw [hLD]; simp, ⟨_, _, by simp; exact ⟨rfl, rfl⟩⟩, hidIn ⟨HD2.out.1, HD2.out.2, ?_, fun k hk => ?_, HC7.out, ?_, ?_, ?_⟩⟩
        · rw [List.length_append, List.map_append]
          exact row_fr HO.out HF7.out (fun j hj hs => by simp [Value.ownBlock] at hj; omega)
        · simp [Value.ownBlock] at hk
          subst hk
          exact hg6.2
        · exact (HF7.out.block q (block_lt HK6.out) (fun h => by omega)).trans HK6.out
        · exact (HF7.out.block (q + 1) (block_lt HK7.out) (fun h => by omega)).trans HK7.out
        · exact HF6.out.trans (HF7.out.mono (fun k _ h => h.1))
      case measure => simp [slN]; omega
    · have hdf : dueB R now = false := by simpa using hdue
      have hdn : dueT R now = [] ∧ restT R now = R := by
        cases R with
        | nil => exact due_nil now
        | cons b R' => exact due_no (by simpa [dueB] using hdf)
      have hD0 : D0 = D ∧ R0 = R := ⟨by rw [← HDR.out.1, r1, hdn.1, List.append_nil], by rw [← HDR.out.2, r2, hdn.2]⟩
      obtain ⟨rfl, rfl⟩ := hD0
      rw [hdf] at HDue
      clear r1 r2 r3 r4 r5 r6 r7 r8 hdn hdue hdf HC HA HB
      go_wp2_with (go_at_call 49; refine HDue.out.mono ?_; rintro e w1 ⟨rfl, hw1⟩; rw [hw1]; clear hw1 w1)
      go_returns
      exact ⟨⟨_, rfl, HR3.out⟩, HR5.out.mono (fun _ _ h => h.1), HR8.out⟩
end Go.Proofs.Ytkhfpcnmnnboeaa.Ca.A
