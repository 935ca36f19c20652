/- A calendar of [2]string: Take, Drop. Texts beside numbers: the same ticks and tickets. CalendKinds: the walk. -/
import Derived.Test.YtgblfpdhodfmbaaC8P
import Derived.Test.YtgblfpdhodfmbaaCP0
namespace Go.Proofs.Ytgblfpdhodfmbaa.Ca.P
open Go.RowKit Go.Maps

/-- A thing's cells. -/
abbrev tc (_ : Unit) : List Value := [.string ⟨#[97]⟩, .string ⟨#[98]⟩]
theorem infoT : (Try.prog.info? 45).map (fun i => (i.zero, i.size, i.bytes)) = some (some (.agg #[.string ⟨#[]⟩, .string ⟨#[]⟩]), 2, 32) := by kernel_rfl
theorem append_th {W : World} {base k : Nat} {u : Value} {l : List Unit} (hr : W.ownsRow base 45 2 u k (fl tc l)) (x : Unit) (hk : (k + 1) * 32 ≤ 140737488355328) (hbase : base ≤ W.heap.size) :
    ∃ g cap w6, (Builtin.append_ #[52, 52] 52 #[u, .slice (some ⟨W.heap.size, 0, none⟩) 1 1]).run Try.prog (W.alloc (.cells (tc x).toArray 45)) = .ok (.slice (some ⟨g, 0, none⟩) (k + 1) cap) w6 ∧
      w6.ownsRow base 45 2 (.slice (some ⟨g, 0, none⟩) (k + 1) cap) (k + 1) (fl tc (l ++ [x])) ∧ (u.ownBlock = some g ∨ g = W.heap.size + 1) ∧ W.grownBy w6 u.ownBlock ∧ Below base W w6 :=
  append_one (P := Try.prog) (cs := tc) (T := 52) (fun _ => rfl) (fun _ => by simp [Value.oneCell']) Try.underlying52 infoT rfl (by decide) hr x hk (by unfold maxLen; omega) hbase
/-- Is something due? -/
def dueB (L : List (Tg Unit)) (now : Int) : Bool := match L with | [] => false | b :: _ => decide (tick b.1 ≤ now)
set_option maxRecDepth 100000 in
theorem due_ok {w : World} {S : Nat → Prop} {cp p c1 c2 : Nat} {L : List (Tg Unit)} {now : Int} (h : Cal w S cp L p) (h1 : w.heap[c1]? = some (.cells #[ptr cp] 43)) (h2 : w.heap[c2]? = some (.cells #[.int .u64 now] 31)) :
    Calls Try.prog 48 #[ptr c1, ptr c2] w fun e w' => e = .returned (.bool (dueB L now)) ∧ w' = w := by
  have x1 := cell_of_row _ _ 0 _ _ _ h1
  have x2 := cell_of_row _ _ 0 _ _ _ h2
  simp at x1 x2
  cases L with
  | nil =>
    have HN := hidIn (next_none h)
    clear h h1 h2
    go_enter Try.func48, Try.ntmps48
    go_wp2_with fail
    refine HN.out.mono ?_
    rintro e w1 ⟨rfl, hw1⟩
    rw [hw1]
    clear hw1 w1
    go_wp2
    go_ret
    exact ⟨rfl, rfl⟩
  | cons b L =>
    have HN := hidIn (next_some h)
    obtain ⟨t, ht⟩ : ∃ t, b.1.2 = t := ⟨_, rfl⟩
    have HE : Hid (dueB (b :: L) now = decide (t ≤ now)) := hidIn (by show decide (b.1.2 ≤ now) = _; rw [ht])
    rw [HE.out]
    rw [ht] at HN
    clear h h1 h2 ht HE
    go_enter Try.func48, Try.ntmps48
    go_wp2_with fail
    refine HN.out.mono ?_
    rintro e w1 ⟨rfl, hw1⟩
    rw [hw1]
    clear hw1 w1
    by_cases hq : t ≤ now
    · go_wp2
      go_ret
      exact ⟨by simp [hq], rfl⟩
    · go_wp2
      go_ret
      exact ⟨by simp, rfl⟩
theorem enterT (args : Array Value) (w : World) : (callFunc 48 args).run Try.prog w = .ok (Next.enter 48 args) w := by kernel_rfl
theorem dropT_head {b : Tg Unit} {L : List (Tg Unit)} (h : Ord (b :: L)) : dropT (b :: L) b.2 = L := by
  unfold dropT
  rw [List.filter_cons, if_neg (by simp)]
  exact List.filter_eq_self.2 fun x hx => by
    have := ((List.pairwise_cons.1 h).1 x hx).2
    simpa using fun e => this e.symm
/-- Taken out by its ticket. -/
theorem rem_cal {w : World} {S : Nat → Prop} {cp p : Nat} {L : List (Tg Unit)} (h : Cal w S cp L p) (hp : p < 100000) (hl : L.length ≤ 100000) {v : Value} {mb i : Nat} {es : List Th} {f : Int → Option Value} {a : Th}
    (h1 : HpC w cp v mb es p) (h2 : MpE w mb p f) (h3 : MapOk f es) (h4 : IsHp at' es) (h5 : (es.map tg).Perm L) (h6 : S cp) (h7 : S mb) (h8 : ∀ k, ownH v es k → S k) (ha : es[i]? = some a) :
    Calls Try.prog 50 #[ptr cp, ptr a.1.1] w fun e w' => (∃ r, e = .returned r) ∧ Cal w' S cp (dropT L a.2) p ∧ Fr S w w' := by
  have hlen := len_is h5
  have hi := (List.getElem?_eq_some_iff.1 ha).1
  have hmem : tg a ∈ L := h5.mem_iff.1 (List.mem_map.2 ⟨a, List.mem_of_getElem? ha, rfl⟩)
  have hat : 1 ≤ a.2 ∧ a.2 ≤ (p : Int) := h.t _ hmem
  have hperm := remL_perm less ha
  have hpL : L.Perm (tg a :: (remL less es i).map tg) := h5.symm.trans (hperm.map tg)
  refine (remove_ok h1 h2 (by omega) ha (wf9 (by omega))).mono ?_
  rintro e w' ⟨hr, v', g1, g2, g3, g4⟩
  have hown : ∀ k, ownH v' (remL less es i) k → S k := fun k hk => by
    rcases hk with hk | ⟨y, hy, hyk⟩
    · exact h8 k (.inl (g4 ▸ hk))
    · exact h8 k (.inr ⟨y, hperm.mem_iff.2 (List.mem_cons_of_mem _ hy), hyk⟩)
  refine ⟨hr, ⟨⟨v', mb, remL less es i, delO f a.2, g1, g2, h3.del hperm (nd_tg h5 h.o), rem_heap at' h4 hi, dropT_perm h.o hpL, h6, h7, hown⟩, h.o.drop _, fun b hb => h.t b (List.mem_filter.1 hb).1⟩, g3.mono fun k _ hk => ?_⟩
  rcases hk with rfl | rfl | hk
  · exact h6
  · exact h7
  · exact h8 k hk
theorem Cal.rem_first {w : World} {S : Nat → Prop} {cp p : Nat} {b : Tg Unit} {L : List (Tg Unit)} (h : Cal w S cp (b :: L) p) (hp : p < 100000) (hl : (b :: L).length ≤ 100000) : ∃ g cap n A i, w.cell? ⟨cp, 1, none⟩ = some (.slice (some ⟨g, 0, none⟩) (n + 1) cap) ∧ w.cell? ⟨g, 0, none⟩ = some (ptr A) ∧ w.heap[A]? = some (.cells (entA ((A, b.1), b.2) i) 91) ∧
    ∀ (T : Nat → Prop) w1, Fr T w w1 → (∀ k, S k → ¬ T k) → Calls Try.prog 50 #[ptr cp, ptr A] w1 fun e w' => (∃ r, e = .returned r) ∧ Cal w' S cp L p ∧ Fr S w1 w' := by
  obtain ⟨v, mb, es, f, h1, h2, h3, h4, h5, h6, h7, h8⟩ := h.x
  have hlen := len_is h5
  simp at hlen
  obtain ⟨a, ha⟩ : ∃ a, es[0]? = some a := ⟨es[0], List.getElem?_eq_getElem (by omega)⟩
  obtain ⟨L', hL⟩ := first_is h4 h5 h.o ha
  have hb : b = tg a := by cases hL; rfl
  have hv := h1
  obtain ⟨ad, cap, rfl, _, hg⟩ := h1.slice
  obtain ⟨g, rfl, _⟩ := hg (by omega)
  refine ⟨g, cap, L.length, a.1.1, 0, by rw [h1.c.2.1, hlen], h1.at ha, ?_, fun T w1 hF hT => ?_⟩
  · rw [hb]; exact h1.ent 0 a ha
  · have hr := rem_cal (h.keep hF hT) hp hl (h1.keep hF (hT _ h6) (fun k hk => hT _ (h8 k hk))) (h2.keep hF (hT _ h7)) h3 h4 h5 h6 h7 h8 ha
    have hd : dropT (b :: L) a.2 = L := by have := dropT_head h.o; rw [hb] at this ⊢; exact this
    rw [hd] at hr
    exact hr
def slN (v : Value) : Nat := match v with | .slice _ n _ => n | _ => 0
set_option maxRecDepth 100000 in
set_option maxHeartbeats 4000000 in
theorem take_ok {w : World} {S : Nat → Prop} {cp p : Nat} {L : List (Tg Unit)} {now : Int} (h0 : Cal w S cp L p) (hp : p < 100000) (hl : L.length ≤ 100000) :
    Calls Try.prog 22 #[ptr cp, .int .u64 now] w fun e w' => (∃ u, e = .returned u ∧ w'.ownsRow w.heap.size 45 2 u (dueT L now).length (fl tc ((dueT L now).map fun b => b.1.1))) ∧ Cal w' S cp (restT L now) p ∧ Fr S w w' := by
  have h := h0.mono (T := fun k => S k ∧ k < w.heap.size) (fun k hk hs => ⟨hs, hk⟩)
  obtain ⟨W1, hW1⟩ : ∃ W1, (w.alloc (.cells #[ptr cp] 43)).alloc (.cells #[.int .u64 now] 31) = W1 := ⟨_, rfl⟩
  have hb1 : Below w.heap.size w W1 := by rw [← hW1]; exact ((Below.refl _ w).alloc (Nat.le_refl _) _).alloc (by simp) _
  obtain ⟨q, hq⟩ : ∃ q, w.heap.size = q := ⟨_, rfl⟩
  have hA : W1.heap[q]? = some (.cells #[ptr cp] 43) := by rw [← hW1, ← hq, Below.heap_alloc _ _ _ (by simp)]; exact heap_alloc_last w _
  have hB : W1.heap[q + 1]? = some (.cells #[.int .u64 now] 31) := by
    rw [← hW1, ← hq]
    have := heap_alloc_last (w.alloc (.cells #[ptr cp] 43)) (.cells #[.int .u64 now] 31)
    rwa [World.size_alloc] at this
  have HC := hidIn (h.below hb1)
  have HA := hidIn hA
  have HB := hidIn hB
  have Hb1 := hidIn hb1
  have HW := hidIn hW1
  have Hq := hidIn hq
  have hE := enterT
  rw [hq]
  obtain ⟨D0, R0, hDR⟩ : ∃ D R, dueT L now = D ∧ restT L now = R := ⟨_, _, rfl, rfl⟩
  rw [hDR.1, hDR.2]
  have HDR := hidIn hDR
  have Hdr := hidIn (due_rest L now)
  have HL9 := hidIn hl
  clear hW1 hb1 hA hB h h0 hDR hl
  go_enter Try.func22, Try.ntmps22
  go_upto_region 1 with fail
  try rw [HW.out]
  clear HW hq
  go_wp2_with fail
  go_loopw [6] (fun u wr => ∃ D R, L = D ++ R ∧ (∃ a c, u = .slice a D.length c) ∧ Hid (dueT L now = D ++ dueT R now ∧ restT L now = restT R now ∧ wr.ownsRow q 45 2 u D.length (fl tc (D.map fun b => b.1.1)) ∧ (∀ k, u.ownBlock = some k → k ≠ q ∧ k ≠ q + 1) ∧ Cal wr (fun k => S k ∧ k < q) cp R p ∧ wr.heap[q]? = some (.cells #[ptr cp] 43) ∧ wr.heap[q + 1]? = some (.cells #[.int .u64 now] 31) ∧ Fr S w wr)) (fun u _ => L.length - slN u)
  case atStart =>
    exact ⟨[], L, rfl, ⟨none, 0, rfl⟩, hidIn ⟨rfl, rfl, World.ownsRow_nil _ _ _ _, fun k hk => by simp [Value.ownBlock] at hk, by rw [← Hq.out]; exact HC.out, HA.out, HB.out, Fr.of_below Hb1.out⟩⟩
  case round =>
    obtain ⟨D, R, hLD, ⟨ua, uc, rfl⟩, HR⟩ := hrel
    obtain ⟨r1, r2, r3, r4, r5, r6, r7, r8⟩ := HR.out
    clear HR
    have HDue := hidIn (due_ok r5 r6 r7)
    have HR1 := hidIn r1
    have HR2 := hidIn r2
    have HR3 := hidIn r3
    have HR4 := hidIn r4
    have HR8 := hidIn r8
    have HR6 := hidIn r6
    have HR7 := hidIn r7
    have HR5 := hidIn r5
    have hDl : D.length ≤ 100000 := by have := HL9.out; rw [hLD, List.length_append] at this; omega
    by_cases hdue : dueB R now = true
    · obtain ⟨b, R', rfl⟩ : ∃ b R', R = b :: R' := by
        cases R with
        | nil => cases hdue
        | cons b R' => exact ⟨b, R', rfl⟩
      have hle : tick b.1 ≤ now := by simpa [dueB] using hdue
      have hRl : (b :: R').length ≤ 100000 := by have := HL9.out; rw [hLD, List.length_append] at this; omega
      obtain ⟨g, cap, n, A, i, c1, g0, hAA, hrem⟩ := r5.rem_first hp hRl
      have x0 := cell_of_row _ _ 0 _ _ _ r6
      simp at x0
      have t0 := cell_of_row _ _ 0 _ _ _ hAA
      have t1 := cell_of_row _ _ 1 _ _ _ hAA
      simp at t0 t1
      have hn0 : (0 : Int) < (n : Int) + 1 := by omega
      obtain ⟨g6, cap6, w6, hrun, hown, hlie, hgr, hb6⟩ := append_th r3 b.1.1 (by omega) (by have := r8.size; rw [Hq.out] at this; exact this)
      have hF6 : Fr (fun k => (Value.slice ua D.length uc).ownBlock = some k) wr w6 := ⟨hgr.os, hgr.tape, hgr.output, hgr.size, fun j hj hne => hgr.block j hj (fun e => hne e.symm)⟩
      have hold : ∀ k, (Value.slice ua D.length uc).ownBlock = some k → q ≤ k := fun k hk => (r3.lt k hk).1
      have hnT : ∀ k, (S k ∧ k < q) → ¬ (Value.slice ua D.length uc).ownBlock = some k := fun k hk e => by have := hold k e; omega
      have HRem := hidIn (hrem _ _ hF6 hnT)
      have k6 := (hF6.block q (block_lt r6) (fun e => (r4 q e).1 rfl)).trans r6
      have k7 := (hF6.block (q + 1) (block_lt r7) (fun e => (r4 _ e).2 rfl)).trans r7
      have x6 := cell_of_row _ _ 0 _ _ _ k6
      simp at x6
      have HRun := hidIn hrun
      have HO := hidIn hown
      have HLi := hidIn hlie
      have HK6 := hidIn k6
      have HK7 := hidIn k7
      have HF6 : Hid (Fr S w w6) := hidIn ⟨hF6.os.trans HR8.out.os, hF6.tape.trans HR8.out.tape, hF6.output.trans HR8.out.output, Nat.le_trans HR8.out.size hF6.size, fun k hk hs => (hF6.block k (Nat.lt_of_lt_of_le hk HR8.out.size) (fun e => by have := hold k e; have := Hq.out; omega)).trans (HR8.out.block k hk hs)⟩
      have hq1 : q + 1 < wr.heap.size := block_lt r7
      have hold6 : Hid (∀ k, (Value.slice ua D.length uc).ownBlock = some k → q ≤ k) := hidIn hold
      have hdy := due_yes (L := R') (now := now) hle
      have HD2 : Hid (dueT L now = (D ++ [b]) ++ dueT R' now ∧ restT L now = restT R' now) := hidIn ⟨by rw [HR1.out, hdy.1, List.append_assoc]; rfl, by rw [HR2.out, hdy.2]⟩
      rw [hdue] at HDue
      have hwq : wr.heap.size = wr.heap.size := rfl
      clear r1 r2 r3 r4 r5 r6 r7 r8 hrun hown hlie hgr hb6 hF6 hnT k6 k7 hrem hAA hdy hwq HC HA HB
      go_wp2_with (first
        | (go_at_call 48; refine HDue.out.mono ?_; rintro e w1 ⟨rfl, hw1⟩; rw [hw1]; clear hw1 w1)
        | (refine l_append rfl _ _ 52 rfl HRun.out ?_))
      refine HRem.out.mono ?_
      rintro e w7 ⟨⟨r, rfl⟩, hC7, hF7⟩
      have HC7 := hidIn hC7
      have HF7 := hidIn hF7
      have hlD : D.length < L.length := by rw [hLD, List.length_append]; simp
      clear hC7 hF7 HRem HDue x0 x6 c1 g0 t0 t1
      go_wp2
      go_roundw
      case rel =>
        have hg6 : q ≤ g6 ∧ g6 ≠ q ∧ g6 ≠ q + 1 := by
          rcases HLi.out with e | e
          · exact ⟨hold6.out _ e, HR4.out _ e⟩
          · omega
        refine ⟨D ++ [b], R', by rw [hLD]; simp, ⟨_, _, by simp; exact ⟨rfl, rfl⟩⟩, hidIn ⟨HD2.out.1, HD2.out.2, ?_, fun k hk => ?_, HC7.out, ?_, ?_, ?_⟩⟩
        · rw [List.length_append, List.map_append]
          exact row_fr HO.out HF7.out (fun j hj hs => by simp [Value.ownBlock] at hj; omega)
        · simp [Value.ownBlock] at hk
          subst hk
          exact hg6.2
        · exact (HF7.out.block q (block_lt HK6.out) (fun h => by omega)).trans HK6.out
        · exact (HF7.out.block (q + 1) (block_lt HK7.out) (fun h => by omega)).trans HK7.out
        · exact HF6.out.trans (HF7.out.mono (fun k _ h => h.1))
      case measure => simp [slN]; omega
    · have hdf : dueB R now = false := by simpa using hdue
      have hdn : dueT R now = [] ∧ restT R now = R := by
        cases R with
        | nil => exact due_nil now
        | cons b R' => exact due_no (by simpa [dueB] using hdf)
      have hD0 : D0 = D ∧ R0 = R := ⟨by rw [← HDR.out.1, r1, hdn.1, List.append_nil], by rw [← HDR.out.2, r2, hdn.2]⟩
      obtain ⟨rfl, rfl⟩ := hD0
      rw [hdf] at HDue
      clear r1 r2 r3 r4 r5 r6 r7 r8 hdn hdue hdf HC HA HB
      go_wp2_with (go_at_call 48; refine HDue.out.mono ?_; rintro e w1 ⟨rfl, hw1⟩; rw [hw1]; clear hw1 w1)
      go_returns
      exact ⟨⟨_, rfl, HR3.out⟩, HR5.out.mono (fun _ _ h => h.1), HR8.out⟩
end Go.Proofs.Ytgblfpdhodfmbaa.Ca.P
namespace Go.Proofs.Ytgblfpdhodfmbaa.Ca
open Go.RowKit Go.Maps

abbrev toU (e : Tg Int) : Tg Unit := (((), e.1.2), e.2)
theorem insU : ∀ (L : List (Tg Int)) (e : Tg Int), insL (L.map toU) (toU e) = (insL L e).map toU
  | [], e => rfl
  | a :: L, e => by
    rw [List.map_cons, insL_cons, insL_cons]
    by_cases h : tick a.1 ≤ tick e.1
    · have h' : tick (toU a).1 ≤ tick (toU e).1 := h
      rw [if_pos h, if_pos h', insU L e]; rfl
    · have h' : ¬ tick (toU a).1 ≤ tick (toU e).1 := h
      rw [if_neg h, if_neg h']; rfl
theorem dueU : ∀ (L : List (Tg Int)) (now : Int), dueT (L.map toU) now = (dueT L now).map toU ∧ restT (L.map toU) now = (restT L now).map toU
  | [], _ => ⟨rfl, rfl⟩
  | a :: L, now => by
    by_cases h : tick a.1 ≤ now
    · have h' : tick (toU a).1 ≤ now := h
      obtain ⟨h1, h2⟩ := due_yes (L := L) h
      obtain ⟨h3, h4⟩ := due_yes (L := L.map toU) h'
      obtain ⟨h5, h6⟩ := dueU L now
      rw [h1, h2, List.map_cons, h3, h4, h5, h6]
      exact ⟨rfl, rfl⟩
    · have h' : ¬ tick (toU a).1 ≤ now := h
      obtain ⟨h1, h2⟩ := due_no (L := L) h
      obtain ⟨h3, h4⟩ := due_no (L := L.map toU) h'
      rw [h1, h2, List.map_cons, h3, h4]
      exact ⟨rfl, rfl⟩
theorem due_le : ∀ {L : List (Tg Int)} {now : Int} {a : Tg Int}, a ∈ dueT L now → tick a.1 ≤ now
  | [], _, _, h => by simp [dueT] at h
  | b :: L, now, a, h => by
    by_cases hb : tick b.1 ≤ now
    · rw [(due_yes hb).1] at h
      rcases List.mem_cons.1 h with rfl | h
      · exact hb
      · exact due_le h
    · rw [(due_no hb).1] at h
      simp at h
theorem due_mem {L : List (Tg Int)} {now : Int} {a : Tg Int} (h : a ∈ dueT L now) : a ∈ L := (List.takeWhile_sublist _).subset h
theorem rest_mem {L : List (Tg Int)} {now : Int} {a : Tg Int} (h : a ∈ restT L now) : a ∈ L := (List.dropWhile_sublist _).subset h
theorem Ord.due {L : List (Tg Int)} (h : Ord L) (now : Int) : Ord (dueT L now) := List.Pairwise.sublist (List.takeWhile_sublist _) h
theorem rest_ge : ∀ {L : List (Tg Int)} {now : Int}, Ord L → ∀ {a : Tg Int}, a ∈ restT L now → now ≤ tick a.1
  | [], _, _, a, h => by simp [restT] at h
  | b :: L, now, hL, a, h => by
    by_cases hb : tick b.1 ≤ now
    · rw [(due_yes hb).2] at h
      exact rest_ge hL.tail h
    · rw [(due_no hb).2] at h
      rcases List.mem_cons.1 h with rfl | h
      · omega
      · have := ((List.pairwise_cons.1 hL).1 a h).1
        unfold leE at this
        omega
theorem pair_eq (w : World) : (binOp .neq 45 (.agg #[.string ⟨#[97]⟩, .string ⟨#[98]⟩]) (.agg #[.string ⟨#[97]⟩, .string ⟨#[98]⟩])).run Try.prog w = .ok (.bool false) w := by kernel_rfl
/-- Pairs, as cells. -/
theorem sl_pair {w : World} {v : Value} {l : List Unit} (h : SlAt P.tc 2 w v l) : ∃ a cap, v = .slice a l.length cap ∧ (0 < l.length → ∃ bk o, a = some ⟨bk, o, none⟩ ∧ bk < w.heap.size ∧ ∀ j, j < l.length → w.cell? ⟨bk, o + j * 2, none⟩ = some (.string ⟨#[97]⟩) ∧ w.cell? ⟨bk, o + j * 2 + 1, none⟩ = some (.string ⟨#[98]⟩)) := by
  obtain ⟨a, cap, rfl, h1, h2, h3⟩ := h
  refine ⟨a, cap, rfl, fun h0 => ?_⟩
  obtain ⟨bk, o, rfl, hb, hc⟩ := h3 h0
  exact ⟨bk, o, rfl, hb, fun j hj => ⟨hc j () (by rw [List.getElem?_eq_getElem hj]) 0 _ rfl, hc j () (by rw [List.getElem?_eq_getElem hj]) 1 _ rfl⟩⟩
end Go.Proofs.Ytgblfpdhodfmbaa.Ca
namespace Go.Proofs.Ytgblfpdhodfmbaa.Ca
open Go.RowKit Go.Maps

set_option maxRecDepth 100000 in
set_option maxHeartbeats 4000000 in
theorem calendKinds_walk {A : List Int} {va : Value} {w : World} (hA : SlAt u64c 1 w va A) (hAb : ∀ z ∈ A, 0 ≤ z ∧ z ≤ 18446744073709551615) :
    Calls Try.prog 4 #[va] w fun e w' => e = .returned (.bool true) ∧ Below w.heap.size w w' := by
  obtain ⟨pa, ca, rfl, hal, _, hac⟩ := sl_u64 hA
  have HAb := hidIn hAb
  obtain ⟨q, hq⟩ : ∃ q, w.heap.size = q := ⟨_, rfl⟩
  rw [hq]
  have Hq := hidIn hq
  rw [hq] at hac
  have HAc := hidIn hac
  obtain ⟨n, hn⟩ : ∃ n, (if 100 < A.length then 100 else A.length) = n := ⟨_, rfl⟩
  have Hn : Hid (n ≤ 100 ∧ n ≤ A.length) := hidIn (by rw [← hn]; split <;> omega)
  have Hn1 : Hid (100 < A.length → n = 100) := hidIn (fun h => by rw [← hn, if_pos h])
  have Hn2 : Hid (¬ 100 < A.length → n = A.length) := hidIn (fun h => by rw [← hn, if_neg h])
  have N1 := hidIn (I.new_ok w)
  rw [hq] at N1
  clear hA hac hAb hq hn
  go_enter Try.func4, Try.ntmps4
  go_wp2_with fail
  refine N1.out.mono ?_
  rintro e w2 ⟨c, rfl, hC2, hb2⟩
  have C2 := hidIn hC2
  have B2 := hidIn hb2
  have s2 : q ≤ w2.heap.size := by have := hb2.size; have := Hq.out; omega
  have N2 := hidIn (P.new_ok w2)
  clear hC2 hb2 N1
  go_wp2_with fail
  refine N2.out.mono ?_
  rintro e w3 ⟨d, rfl, hD3, hb3⟩
  have D3 := hidIn hD3
  have C3 := hidIn (C2.out.below hb3)
  have B3 := hidIn (B2.out.trans (hb3.mono (by omega)))
  have s3 : w2.heap.size ≤ w3.heap.size := hb3.size
  clear hD3 hb3 N2 B2 C2
  go_upto_region 5 with fail
  go_cut [5] (fun x wx => x = .int .i64 n ∧ wx = w3)
  case first =>
    by_cases h100 : 100 < A.length
    · have h1 : (100 : Int) < (A.length : Int) := by omega
      go_wp2_with fail
      go_meet
      exact ⟨by rw [Hn1.out h100]; rfl, rfl⟩
    · have h1 : ¬ (100 : Int) < (A.length : Int) := by omega
      go_wp2_with fail
      go_meet
      exact ⟨by rw [Hn2.out h100], rfl⟩
  case rest =>
    obtain ⟨rfl, rfl⟩ := hcut
    go_wp2_with fail
    go_loopw [6] (fun i wr => ∃ k : Nat, k ≤ n ∧ i = .int .i64 k ∧ Hid (∃ Sc Sd, I.Cal wr Sc c (filL A k) k ∧ P.Cal wr Sd d ((filL A k).map toU) k ∧ (∀ x, Sc x → ¬ Sd x) ∧ (∀ x, Sc x → q ≤ x ∧ x < wr.heap.size) ∧ (∀ x, Sd x → q ≤ x ∧ x < wr.heap.size) ∧ Below q w wr)) (fun i _ => n - (intOf i).toNat)
    case atStart =>
      refine ⟨0, Nat.zero_le _, rfl, hidIn ⟨_, _, C3.out, D3.out, fun x h1 h2 => by omega, fun x h => by omega, fun x h => by omega, B3.out⟩⟩
    case round =>
      obtain ⟨k, hk, rfl, HR⟩ := hrel
      obtain ⟨Sc, Sd, r1, r2, r3, r4, r5, r6⟩ := HR.out
      clear HR
      by_cases hlt : k < n
      · obtain ⟨bk, o, rfl, hbk, hcell⟩ := HAc.out (by have := Hn.out; omega)
        obtain ⟨x, hx⟩ : ∃ x, A[k]? = some x := ⟨A[k]'(by have := Hn.out; omega), List.getElem?_eq_getElem _⟩
        have x0 := (r6.cell (p := ⟨bk, o + k, none⟩) hbk).trans (hcell k x hx)
        have hF : Hid (filL A (k + 1) = insL (filL A k) ((((k : Nat) : Int), x), ((k + 1 : Nat) : Int))) := hidIn (filL_succ hx)
        have hfl : (filL A k).length = k := filL_length k (by have := Hn.out; omega)
        have hn100 := Hn.out.1
        have P1 : Hid (Calls Try.prog 17 #[ptr c, .int .u64 x, .int .i64 k] wr fun e w' => e = .returned (.int .i64 ((k : Int) + 1)) ∧ I.Cal w' (I.ext Sc wr w') c (insL (filL A k) (((k : Int), x), ((k + 1 : Nat) : Int))) (k + 1) ∧ Fr Sc wr w') := hidIn (I.put_ok (k : Int) x r1 (by omega) (by omega))
        have R1 := hidIn r1
        have R2 := hidIn r2
        have R3 := hidIn r3
        have R4 := hidIn r4
        have R5 := hidIn r5
        have R6 := hidIn r6
        have hki : (k : Int) < (n : Int) := by omega
        have hkA : (k : Int) < (A.length : Int) := by have := Hn.out; omega
        have Hfl := hidIn hfl
        have hsq : q ≤ wr.heap.size := by have := r6.size; have := Hq.out; omega
        clear r1 r2 r3 r4 r5 r6 hcell hx hfl C3 D3 B3
        go_wp2_with fail
        refine P1.out.mono ?_
        rintro e w4 ⟨rfl, hC4, hF4⟩
        have x4 : w4.cell? ⟨bk, o + k, none⟩ = some (.int .u64 x) := by
          have hb4 : Below q wr w4 := hF4.below hsq (fun k hk => (R4.out k hk).1)
          exact (hb4.cell (p := ⟨bk, o + k, none⟩) hbk).trans x0
        have D4 := hidIn (R2.out.keep hF4 (fun x h1 h2 => R3.out x h2 h1))
        have C4 := hidIn hC4
        have F4 := hidIn hF4
        have s4 := hF4.size
        have P2 : Hid (Calls Try.prog 18 #[ptr d, .int .u64 x, .agg #[.string ⟨#[97]⟩, .string ⟨#[98]⟩]] w4 fun e w' => e = .returned (.int .i64 ((k : Int) + 1)) ∧ P.Cal w' (P.ext Sd w4 w') d (insL ((filL A k).map toU) (((), x), ((k + 1 : Nat) : Int))) (k + 1) ∧ Fr Sd w4 w') := hidIn (P.put_ok () x D4.out (by omega) (by rw [List.length_map]; have := Hfl.out; omega))
        clear hC4 hF4 x0 P1 R1 R2
        go_wp2_with fail
        refine P2.out.mono ?_
        rintro e w5 ⟨rfl, hD5, hF5⟩
        have D5 := hidIn hD5
        have F5 := hidIn hF5
        have C5 := hidIn (C4.out.keep hF5 (fun x h1 h2 => by
          rcases h1 with h1 | h1
          · exact R3.out x h1 h2
          · have := R5.out x h2; omega))
        have s5 := hF5.size
        clear hD5 hF5 x4 P2 C4 D4
        go_wp2
        go_roundw
        case rel =>
          refine ⟨k + 1, by omega, by go_num, hidIn ⟨I.ext Sc wr w4, P.ext Sd w4 w5, ?_, ?_, fun x h1 h2 => ?_, fun x h1 => ?_, fun x h1 => ?_, ?_⟩⟩
          · rw [hF.out]; exact C5.out
          · rw [hF.out, ← insU]; exact D5.out
          · rcases h1 with h1 | h1
            · rcases h2 with h2 | h2
              · exact R3.out x h1 h2
              · have := R4.out x h1; omega
            · rcases h2 with h2 | h2
              · have := R5.out x h2; omega
              · omega
          · rcases h1 with h1 | h1
            · have := R4.out x h1; omega
            · omega
          · rcases h1 with h1 | h1
            · have := R5.out x h1; omega
            · omega
          · exact R6.out.trans ((F4.out.below hsq (fun k hk => (R4.out k hk).1)).trans (F5.out.below (by omega) (fun k hk => (R5.out k hk).1)))
        case measure => simp [intOf]; omega
      · have hke : k = n := by omega
        rw [hke] at r1 r2
        have hki : ¬ ((k : Int) < (n : Int)) := by omega
        obtain ⟨L, hL⟩ : ∃ L, filL A n = L := ⟨_, rfl⟩
        have hLl : L.length = n := by rw [← hL]; exact filL_length n Hn.out.2
        have hLm : ∀ a, a ∈ L ↔ ∃ j : Nat, j < n ∧ a.1.1 = (j : Int) ∧ A[j]? = some a.1.2 ∧ a.2 = ((j + 1 : Nat) : Int) := by rw [← hL]; exact filL_mem n Hn.out.2
        rw [hL] at r1 r2
        have hn100 := Hn.out.1
        have HLl := hidIn hLl
        have HLm := hidIn hLm
        have HR1 := hidIn r1
        have HR2 := hidIn r2
        have HR3 := hidIn r3
        have HR4 := hidIn r4
        have HR5 := hidIn r5
        have HR6 := hidIn r6
        obtain ⟨b4, hb4⟩ : ∃ b4, wr.heap.size = b4 := ⟨_, rfl⟩
        have Hb4 := hidIn hb4
        rw [hb4] at HR4 HR5
        have hq4 : q ≤ b4 := by have := r6.size; have := Hq.out; omega
        clear r1 r2 r3 r4 r5 r6 hL hLl hLm hke hk hlt hb4 C3 D3 B3
        go_wp2_with fail
        go_loopw [7, 8] (fun la wa wx => ∃ (j : Nat) (la0 : Int) (R : List (Tg Int)), j + R.length = n ∧ la = .int .u64 la0 ∧ wa = .int .i64 j ∧ Hid (I.Cal wx Sc c R n ∧ P.Cal wx Sd d (R.map toU) n ∧ (∀ a ∈ R, a ∈ L ∧ la0 ≤ a.1.2) ∧ Below q w wx ∧ b4 ≤ wx.heap.size)) (fun _ wa _ => n - (intOf wa).toNat)
        case atStart =>
          exact ⟨0, 0, L, by rw [HLl.out]; omega, rfl, rfl, hidIn ⟨HR1.out, HR2.out, fun a ha => ⟨ha, by
            obtain ⟨j, _, _, h3, _⟩ := (HLm.out a).1 ha
            exact (HAb.out _ (List.mem_of_getElem? h3)).1⟩, HR6.out, by rw [Hb4.out]; exact Nat.le_refl _⟩⟩
        case round =>
          obtain ⟨j, la0, R, hjR, rfl, rfl, HR⟩ := hrel
          obtain ⟨r1, r2, r3, r4, r5⟩ := HR.out
          clear HR HR1 HR2 HR6
          have R5 := hidIn r5
          have LL := hidIn (I.len_ok r1)
          cases R with
          | nil =>
            have LP := hidIn (P.len_ok r2)
            have WK := hidIn (S.works_ok wr)
            have R4 := hidIn r4
            have hjn : j = n := by simpa using hjR
            subst hjn
            clear r1 r2 r3 r4
            go_wp2_with fail
            refine LL.out.mono ?_
            rintro e w4 ⟨rfl, hw4⟩
            rw [hw4]
            clear hw4 w4
            go_wp2_with fail
            refine LP.out.mono ?_
            rintro e w4 ⟨rfl, hw4⟩
            rw [hw4]
            clear hw4 w4
            go_wp2_with fail
            refine WK.out.mono ?_
            rintro e w4 ⟨rfl, hb4⟩
            have B4 := hidIn (R4.out.trans (hb4.mono (by omega)))
            go_wp2
            go_returns
            exact ⟨rfl, B4.out⟩
          | cons b R =>
            have NX := hidIn (I.next_some r1)
            have hlen : (b :: R).length = R.length + 1 := rfl
            have TI := hidIn (I.take_ok (now := b.1.2) r1 (by omega) (by omega))
            obtain ⟨D, hD⟩ : ∃ D, dueT (b :: R) b.1.2 = D := ⟨_, rfl⟩
            obtain ⟨Q, hQ⟩ : ∃ Q, restT (b :: R) b.1.2 = Q := ⟨_, rfl⟩
            have hDb : D = b :: dueT R b.1.2 := by rw [← hD]; exact (due_yes (Int.le_refl _)).1
            have hDQ : D ++ Q = b :: R := by rw [← hD, ← hQ]; exact due_rest _ _
            have hDt : ∀ a ∈ D, a ∈ L ∧ a.1.2 = b.1.2 := fun a ha => by
              rw [← hD] at ha
              have h1 := due_le ha
              have h2 := due_mem ha
              refine ⟨(r3 a h2).1, ?_⟩
              have h1' : a.1.2 ≤ b.1.2 := h1
              rcases List.mem_cons.1 h2 with h3 | h3
              · rw [h3]
              · have h4 := ((List.pairwise_cons.1 r1.o).1 a h3).1
                unfold leE tick at h4
                omega
            have hDo : Ord D := by rw [← hD]; exact r1.o.due _
            have hQm : ∀ a ∈ Q, a ∈ L ∧ b.1.2 ≤ a.1.2 := fun a ha => by
              rw [← hQ] at ha
              exact ⟨(r3 a (rest_mem ha)).1, rest_ge r1.o ha⟩
            have hla : la0 ≤ b.1.2 := (r3 b List.mem_cons_self).2
            rw [hD, hQ] at TI
            have HDt := hidIn hDt
            have HDo := hidIn hDo
            have HQm := hidIn hQm
            have hDl : D.length + Q.length = R.length + 1 := by rw [← List.length_append, hDQ]; rfl
            have hD0 : 0 < D.length := by rw [hDb]; simp
            have hduU := dueU (b :: R) b.1.2
            rw [hD, hQ] at hduU
            have HduU := hidIn hduU
            have R2 := hidIn r2
            have R4 := hidIn r4
            obtain ⟨at0, hat⟩ : ∃ t, b.1.2 = t := ⟨_, rfl⟩
            rw [hat] at NX TI HDt HQm hla HduU
            have hjR' : j + (R.length + 1) = n := hjR
            have hlp : (0 : Int) < ((R.length + 1 : Nat) : Int) := by omega
            rw [hlen] at LL
            clear r1 r2 r3 r4 hD hQ hDb hDQ hDt hDo hQm hduU hat hlen hjR
            obtain ⟨rl, hrl⟩ : ∃ x : Int, ((R.length + 1 : Nat) : Int) = x := ⟨_, rfl⟩
            rw [hrl] at LL hlp
            clear hrl
            go_wp2_with fail
            refine LL.out.mono ?_
            rintro e w4 ⟨rfl, hw4⟩
            rw [hw4]
            clear hw4 w4
            go_wp2_with fail
            refine NX.out.mono ?_
            rintro e w4 ⟨rfl, hw4⟩
            rw [hw4]
            clear hw4 w4 NX LL
            go_wp2_with fail
            refine TI.out.mono ?_
            rintro e w4 ⟨⟨u, rfl, hrow⟩, hC4, hF4⟩
            obtain ⟨ua, uc, rfl⟩ := row_shape hrow
            have s4 : b4 ≤ w4.heap.size := Nat.le_trans r5 hF4.size
            have C4 := hidIn hC4
            have D4 := R2.out.keep hF4 (fun x h1 h2 => HR3.out x h2 h1)
            have Row4 := hidIn (row_low hrow r5)
            have B4 := hidIn (R4.out.trans (hF4.below (by omega) (fun k hk => (HR4.out k hk).1)))
            have TP := hidIn (P.take_ok (now := at0) D4 (by omega) (by rw [List.length_map, List.length_cons]; omega))
            rw [HduU.out.1, HduU.out.2] at TP
            clear hrow hC4 hF4 TI R2 R4
            go_wp2_with fail
            refine TP.out.mono ?_
            rintro e w5 ⟨⟨u, rfl, hrow⟩, hD5, hF5⟩
            have s5 : b4 ≤ w5.heap.size := Nat.le_trans s4 hF5.size
            have C5 := hidIn (C4.out.keep hF5 (fun x h1 h2 => HR3.out x h1 h2))
            have D5 := hidIn hD5
            have rowI := row_fr Row4.out hF5 (fun j hj hs => by have := (Row4.out.lt j hj).1; have := (HR5.out j hs).2; omega)
            have B5 := hidIn (B4.out.trans (hF5.below (by omega) (fun k hk => (HR5.out k hk).1)))
            have hml : (D.map toU).length = D.length := List.length_map _
            obtain ⟨_, _, e1, _, _, hWI⟩ := sl_i64 (slAt_of_row (cs := ic) (l := D.map fun b => b.1.1) (fun _ => rfl) rowI (List.length_map _))
            obtain ⟨pb, pcap, e2, hWP⟩ := sl_pair (slAt_of_row (cs := P.tc) (l := (D.map toU).map fun b => b.1.1) (fun _ => rfl) hrow (List.length_map _))
            have hm2 : ((D.map toU).map fun b => b.1.1).length = D.length := by rw [List.length_map, hml]
            rw [show (D.map fun b => b.1.1).length = D.length from List.length_map _] at e1 hWI
            rw [hm2] at e2 hWP
            simp only [Value.slice.injEq] at e1
            obtain ⟨rfl, _, rfl⟩ := e1
            have HWI := hidIn hWI
            have HWP := hidIn hWP
            have HE2 := hidIn e2
            clear hrow hD5 hF5 hWI hWP rowI TP C4 D4 Row4 B4 hml hm2
            rw [e2]
            clear e2
            have hDi : (D.length : Int) ≠ 0 := by omega
            have hDe : ((D.length : Int) == 0) = false := by simpa using hDi
            have hla2 : ¬ at0 < la0 := by omega
            obtain ⟨dl, hdl⟩ : ∃ dl, D.length = dl := ⟨_, rfl⟩
            rw [hdl] at HWI HWP hDl hD0 hDi hDe ⊢
            have Hdl := hidIn hdl
            clear hdl
            go_wp2_with fail
            go_loopw [13] (fun i wx => ∃ m : Nat, m ≤ dl ∧ i = .int .i64 m ∧ Hid (Below w5.heap.size w5 wx)) (fun i _ => dl - (intOf i).toNat)
            case atStart => exact ⟨0, Nat.zero_le _, rfl, hidIn (Below.refl _ _)⟩
            case round =>
              obtain ⟨m, hm, rfl, HR⟩ := hrel
              by_cases hlt : m < dl
              · have hki : (m : Int) < (dl : Int) := by omega
                obtain ⟨bw, ow, rfl, hbw, hcw⟩ := HWI.out (by omega)
                obtain ⟨bp, op, rfl, hbp, hcp⟩ := HWP.out (by omega)
                obtain ⟨ba, oa, rfl, hba, hca⟩ := HAc.out (by have := Hn.out; omega)
                have hmL : m < D.length := by rw [Hdl.out]; exact hlt
                obtain ⟨a, ha⟩ : ∃ a, D[m]? = some a := ⟨D[m], List.getElem?_eq_getElem hmL⟩
                obtain ⟨haL, hat⟩ := HDt.out a (List.mem_of_getElem? ha)
                obtain ⟨x, hxn, ha1, hAx, ha2⟩ := (HLm.out a).1 haL
                have hth : (D.map fun b => b.1.1)[m]? = some (x : Int) := by rw [List.getElem?_map, ha]; simp [ha1]
                have x0 := cell_regrown ((HR.out.cell (p := ⟨bw, ow + m, none⟩) hbw).trans (hcw m _ hth))
                have hq5 : q ≤ w5.heap.size := by omega
                have hbel : Hid (Below q w wr) := hidIn (B5.out.trans (HR.out.mono hq5))
                rw [hat] at hAx
                have a0 := cell_regrown ((hbel.out.cell (p := ⟨ba, oa + x, none⟩) hba).trans (hca x _ hAx))
                have p0 := cell_regrown ((HR.out.cell (p := ⟨bp, op + m * 2, none⟩) hbp).trans (hcp m hlt).1)
                have p1 := cell_regrown ((HR.out.cell (p := ⟨bp, op + m * 2 + 1, none⟩) hbp).trans (hcp m hlt).2)
                have hx0 : ¬ ((x : Nat) : Int) < 0 := by omega
                have hx1 : decide (((x : Nat) : Int) < 0) = false := decide_eq_false hx0
                have hxn2 : ¬ (n : Int) ≤ (x : Int) := by omega
                have hxn3 : decide ((n : Int) ≤ (x : Int)) = false := decide_eq_false hxn2
                have hxA : (x : Int) < (A.length : Int) := by have := Hn.out; omega
                have hpe := pair_eq
                have hat1 : (at0 == at0) = true := by simp
                cases m with
                | zero =>
                  have hz : ¬ (0 : Int) < 0 := by omega
                  clear hcw hcp hca hth ha haL hat hAx ha1 ha2
                  simp only [Nat.add_zero, Nat.zero_mul] at x0 p0 p1
                  go_upto_region 21 with fail
                  try simp only [List.append]
                  refine wp_region_quiet_below (by kernel_rfl) (by kernel_rfl) ?_
                  repeat (go_big_quiet_step (fail))
                  refine wpQuiet_nil ?_
                  intro _ hw'
                  obtain ⟨⟨dq, osq⟩, hw''⟩ := hw'
                  subst hw''
                  have hbr := hidIn (HR.out.trans ((below_regrown wr dq osq).mono HR.out.size))
                  generalize Go.Sort.grow (redrawn wr dq) osq = U at hbr ⊢
                  clear x0 a0 p0 p1
                  go_wp2
                  go_roundw
                  case rel => exact ⟨1, by omega, by go_num, hbr⟩
                  case measure => simp [intOf]; omega
                | succ m =>
                  obtain ⟨b2, hb⟩ : ∃ b, D[m]? = some b := ⟨D[m], List.getElem?_eq_getElem (by omega)⟩
                  obtain ⟨hbL, hbt⟩ := HDt.out b2 (List.mem_of_getElem? hb)
                  obtain ⟨y, hyn, hb1, hAy, hb2⟩ := (HLm.out b2).1 hbL
                  have hthb : (D.map fun b => b.1.1)[m]? = some (y : Int) := by rw [List.getElem?_map, hb]; simp [hb1]
                  have y0 := cell_regrown ((HR.out.cell (p := ⟨bw, ow + m, none⟩) hbw).trans (hcw m _ hthb))
                  have hyx : (y : Int) < (x : Int) := by
                    have h1 := List.pairwise_iff_getElem.1 HDo.out m (m + 1) (by omega) hmL (by omega)
                    rw [(List.getElem?_eq_some_iff.1 hb).2, (List.getElem?_eq_some_iff.1 ha).2] at h1
                    have h2 := h1.1
                    have h3 := h1.2
                    unfold leE tick at h2
                    omega
                  have hyx2 : ¬ (x : Int) ≤ (y : Int) := by omega
                  have hyx3 : decide ((x : Int) ≤ (y : Int)) = false := decide_eq_false hyx2
                  have hm9 : (m : Int) < 1000 := by have := Hn.out; omega
                  have hz : (0 : Int) < (m : Int) + 1 := by omega
                  have hz2 : decide ((0 : Int) < (m : Int) + 1) = true := decide_eq_true hz
                  clear hcw hcp hca hth ha haL hat hAx ha1 ha2 hb hbL hbt hthb hAy hb1 hb2
                  go_upto_region 21 with fail
                  try simp only [List.append]
                  refine wp_region_quiet_below (by kernel_rfl) (by kernel_rfl) ?_
                  repeat (go_big_quiet_step (fail))
                  refine wpQuiet_nil ?_
                  intro _ hw'
                  obtain ⟨⟨dq, osq⟩, hw''⟩ := hw'
                  subst hw''
                  have hbr := hidIn (HR.out.trans ((below_regrown wr dq osq).mono HR.out.size))
                  generalize Go.Sort.grow (redrawn wr dq) osq = U at hbr ⊢
                  clear x0 a0 p0 p1 y0
                  go_wp2
                  go_roundw
                  case rel => exact ⟨m + 2, by omega, by go_num, hbr⟩
                  case measure => simp [intOf]; omega
              · have hmd : m = dl := by omega
                have hki : ¬ ((m : Int) < (dl : Int)) := by omega
                have hq5 : q ≤ w5.heap.size := by omega
                have hbel : Hid (Below q w wr) := hidIn (B5.out.trans (HR.out.mono hq5))
                have C6 := hidIn (C5.out.below HR.out)
                have D6 := hidIn (D5.out.below HR.out)
                have hjd : (j : Int) + (dl : Int) ≤ 1000 := by have := Hn.out; omega
                have Hmd := hidIn hmd
                have s6 : b4 ≤ wr.heap.size := Nat.le_trans s5 HR.out.size
                clear hmd
                go_wp2
                go_roundw
                case rel => exact ⟨j + dl, at0, Q, by omega, rfl, by go_num, hidIn ⟨C6.out, D6.out, HQm.out, hbel.out, s6⟩⟩
                case measure => simp [intOf]; omega
end Go.Proofs.Ytgblfpdhodfmbaa.Ca
