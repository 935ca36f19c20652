/- Pointers to things of string: slices.Values, Collect. -/
import Derived.Test.YtaldehgggilmdaaC9S
import Derived.Test.YtaldehgggilmdaaCE
namespace Go.Proofs.Ytaldehgggilmdaa.Ca.S
open Go.RowKit Go.Maps Go.Shelf

attribute [local go_sem] Oper.semAt_some

theorem append_pn {W : World} {base k : Nat} {u : Value} {l : List Nat} (hr : W.ownsRow base 51 1 u k (fl pn l)) (x : Nat) (hk : (k + 1) * 8 ≤ 140737488355328) (hbase : base ≤ W.heap.size) :
    ∃ g cap w6, (Builtin.append_ #[41, 41] 41 #[u, .slice (some ⟨W.heap.size, 0, none⟩) 1 1]).run Try.prog (W.alloc (.cells (pn x).toArray 51)) = .ok (.slice (some ⟨g, 0, none⟩) (k + 1) cap) w6 ∧
      w6.ownsRow base 51 1 (.slice (some ⟨g, 0, none⟩) (k + 1) cap) (k + 1) (fl pn (l ++ [x])) ∧ (u.ownBlock = some g ∨ g = W.heap.size + 1) ∧ W.grownBy w6 u.ownBlock ∧ Below base W w6 :=
  append_one (P := Try.prog) (cs := pn) (T := 41) (fun _ => rfl) (fun _ => by simp [Value.oneCell']) Try.underlying41 infoPtr rfl (by decide) hr x hk (by unfold maxLen; omega) hbase
theorem values_ok (v : Value) (w : World) (a : Option Addr) (n c : Nat) (hv : v = .slice a n c) : Calls Try.prog 35 #[v] w fun e w' => e = .returned (.func (.func 41) #[] #[ptr w.heap.size]) ∧ w' = w.alloc (.cells #[v] 41) := by
  subst hv
  go_enter Try.func35, Try.ntmps35
  go_wp2
  go_ret
  exact ⟨rfl, rfl⟩
set_option maxRecDepth 100000 in
set_option maxHeartbeats 1000000 in
theorem values_gives {w : World} {Bb g n0 : Nat} {ad : Option Addr} {cap : Nat} {xs : List Nat} (hn : 1 ≤ n0) (hB : w.heap[Bb]? = some (.cells #[.slice ad xs.length cap] 41)) (hg : 0 < xs.length → ad = some ⟨g, 0, none⟩) (hlen : xs.length ≤ 100000) :
    GivesN Fence.wide n0 Try.prog 41 #[ptr Bb] (fun b => #[ptr b]) (fun W => ∀ j x, xs[j]? = some x → W.cell? ⟨g, j, none⟩ = some (ptr x)) xs w := by
  intro l J W hBw hT hY h0
  refine callsIn_of_wp Try.func41 rfl trivial ?_ rfl
  simp only [Try.ntmps41, List.size_toArray, List.length_cons, List.length_nil, Nat.reduceAdd, Nat.reduceSub, Array.replicate_succ, Array.replicate_zero, List.push_toArray, List.append_toArray, List.nil_append, List.cons_append]
  have c0 := cell_of_row _ _ 0 _ _ _ ((hBw.block _ (block_lt hB)).trans hB)
  simp at c0
  have HT := hidIn hT
  have HY := hidIn hY
  have Hg := hidIn hg
  clear hB hT hY hg
  gi_wp2
  gi_loopw [7] (fun i wr => ∃ k : Nat, k ≤ xs.length ∧ i = .int .i64 k ∧ Hid (J (xs.take k) wr)) (fun i _ => xs.length - (intOf i).toNat)
  case atStart => exact ⟨0, Nat.zero_le _, rfl, hidIn (by simpa using h0)⟩
  case round =>
    obtain ⟨k, hk, rfl, HR⟩ := hrel
    by_cases hlt : k < xs.length
    · have had := Hg.out (by omega)
      subst had
      obtain ⟨x, hx⟩ : ∃ x, xs[k]? = some x := ⟨xs[k], List.getElem?_eq_getElem hlt⟩
      have x0 := HT.out _ _ HR.out k x hx
      have hpre : (xs.take k ++ [x]) <+: xs := by rw [← take_snoc hx]; exact List.take_prefix _ _
      obtain ⟨fn, tmps, assign, body, hy, hR⟩ := HY.out (xs.take k) x wr HR.out hpre
      have hki : (k : Int) < (xs.length : Int) := by omega
      have hk9 : (k : Int) < 100000 := by omega
      have HX := hidIn hx
      have HRR := hidIn hR
      clear hx hpre hR
      gi_wp2_with fail
      refine HRR.out.mono ?_
      rintro e W3 ⟨rfl, hJ3⟩
      have HJ3 := hidIn hJ3
      clear hJ3 hy HRR x0
      gi_wp2
      go_roundw
      case rel => exact ⟨k + 1, by omega, by go_num, hidIn (by rw [take_snoc HX.out]; exact HJ3.out)⟩
      case measure => simp [intOf]; omega
    · have hki : ¬ ((k : Int) < (xs.length : Int)) := by omega
      have hke : k = xs.length := by omega
      have HJ : Hid (J xs wr) := hidIn (by have := HR.out; rw [hke, List.take_length] at this; exact this)
      clear hke HR
      gi_wp2
      go_end0
      exact ⟨⟨_, rfl⟩, HJ.out⟩
set_option maxRecDepth 100000 in
set_option maxHeartbeats 4000000 in
theorem appendSeq_ok {w : World} {Bb g : Nat} {ad : Option Addr} {cap : Nat} {xs : List Nat} (hB : w.heap[Bb]? = some (.cells #[.slice ad xs.length cap] 41)) (hg : 0 < xs.length → ad = some ⟨g, 0, none⟩) (hlen : xs.length ≤ 100000) (hcl : ∀ j x, xs[j]? = some x → w.cell? ⟨g, j, none⟩ = some (ptr x)) (hgl : g < w.heap.size) :
    Calls Try.prog 44 #[.slice none 0 0, .func (.func 41) #[] #[ptr Bb]] w fun e w' => (∃ v', e = .returned v' ∧ w'.ownsRow w.heap.size 51 1 v' xs.length (fl pn xs)) ∧ Below w.heap.size w w' := by
  obtain ⟨sb, hsb⟩ : ∃ sb, w.heap.size = sb := ⟨_, rfl⟩
  have Hsb := hidIn hsb
  refine (callsIn_wide (n := 5)).1 ?_
  refine callsIn_of_wp_marks Try.func44 rfl trivial ?_ rfl
  simp only [Try.ntmps44, List.size_toArray, List.length_cons, List.length_nil, Nat.reduceAdd, Nat.reduceSub, Array.replicate_succ, Array.replicate_zero, List.push_toArray, List.append_toArray, List.nil_append, List.cons_append]
  have hbB : Below w.heap.size w (w.alloc (.cells #[.slice none 0 0] 41)) := (Below.refl _ w).alloc (Nat.le_refl _) _
  have hz := heap_alloc_last w (.cells #[.slice none 0 0] 41)
  have hsz : (w.alloc (.cells #[.slice none 0 0] 41)).heap.size = sb + 1 := by simp; omega
  have hgv := values_gives (n0 := 4) (w := w.alloc (.cells #[.slice none 0 0] 41)) (by omega) ((hbB.block _ (block_lt hB)).trans hB) hg hlen
  rw [hsb] at hbB hz hgl
  have HV := hidIn hbB
  have HZ := hidIn hz
  have HG := hidIn hgv
  have HS := hidIn hsz
  have HCl := hidIn hcl
  rw [hsb]
  clear hbB hz hgv hsz hB hg hcl
  gi_wp2
  generalize hVd : w.alloc (.cells #[.slice none 0 0] 41) = V at HV HZ HG HS ⊢
  clear hVd
  have sV := HS.out
  refine wpIn_each (T := fun W => ∀ j x, xs[j]? = some x → W.cell? ⟨g, j, none⟩ = some (ptr x)) rfl (by omega) (gf := 41) (lb := #[ptr Bb]) rfl trivial (enters_of Try.func41 (by kernel_rfl) rfl) HG.out (fun _ => rfl)
    (fun pre W => (∃ u, W.heap[sb]? = some (.cells #[u] 41) ∧ W.ownsRow (sb + 3) 51 1 u pre.length (fl pn pre)) ∧ Below sb w W)
    (fun s A h j x hx => (h.2.cell (p := ⟨g, j, none⟩) hgl).trans (HCl.out j x hx)) ?own ⟨⟨_, HZ.out, World.ownsRow_nil _ _ _ _⟩, HV.out⟩
    (fun x => { tmps := #[.slice none 0 0, .func (.func 41) #[] #[ptr Bb], ptr sb, undef, .slice none 0 0, ptr x, .func (.func 41) #[] #[ptr Bb], ptr x, undef, undef, undef, undef, undef], defers := [] }) ?assign ?body ?done
  case own =>
    rintro s A A' q ⟨⟨u, hx, hr⟩, hb⟩ hgr h1 h2
    rw [sV] at h1 h2
    refine ⟨⟨u, (hgr.block sb (block_lt hx) (by simp; omega)).trans hx, hr.kept hgr ?_⟩, hb.grown hgr (by have := hb.size; omega) (fun k e => by cases e; omega)⟩
    rcases hr.2 with ⟨rfl, _⟩ | ⟨g', cap', cur, rfl, hbase, _⟩
    · exact .inl rfl
    · right; simp [Value.ownBlock]; omega
  case assign =>
    intro l x W K hK
    gi_wp2
    exact hK
  case body =>
    rintro l pre x W ⟨⟨u, hx, hr⟩, hb⟩ hpre hlt
    rw [sV] at hlt ⊢
    have hpl : pre.length + 1 ≤ xs.length := by
      have h1 := hpre.length_le
      simpa using h1
    obtain ⟨g6, cap6, w6, hrun, hown, hlie, hgr, hb6⟩ := append_pn hr x (by omega) (by omega)
    have hF6 : Fr (fun k => u.ownBlock = some k) W w6 := ⟨hgr.os, hgr.tape, hgr.output, hgr.size, fun j hj hne => hgr.block j hj (fun e => hne e.symm)⟩
    have hur : ∀ k, u.ownBlock = some k → sb + 3 ≤ k := fun k hk => (hr.lt k hk).1
    have hx6 := (hF6.block sb (block_lt hx) (fun e => by have := hur _ e; omega)).trans hx
    have c2 := cell_of_row _ _ 0 _ _ _ hx
    have c6 := cell_of_row _ _ 0 _ _ _ hx6
    have f6 := frozen_new hx6 0
    simp at c2 c6
    have g6n : sb + 3 ≤ g6 := by
      rcases hlie with e | e
      · exact hur _ e
      · omega
    have HR := hidIn hrun
    have HO := hidIn hown
    have HX6 := hidIn hx6
    have HF6 := hidIn hF6
    have HU := hidIn hur
    have HBl := hidIn hb
    obtain ⟨ua, uc, rfl⟩ := row_shape hr
    clear hrun hown hlie hgr hb6 hF6 hx6 hx hr hb hur hpre
    gi_wp2_with (refine lIn_append rfl _ _ 41 rfl HR.out ?_)
    have hset : ∀ j, j ≠ sb → (w6.setCell ⟨sb, 0, none⟩ (.slice (some ⟨g6, 0, none⟩) (pre.length + 1) cap6)).heap[j]? = w6.heap[j]? := fun j e1 => Below.heap_setCell w6 ⟨sb, 0, none⟩ _ j e1
    have s6 := HF6.out.size
    refine ⟨⟨(hset _ (by omega)).trans (HF6.out.block _ (by omega) (fun e => by have := HU.out _ e; omega)), (hset _ (by omega)).trans (HF6.out.block _ (by omega) (fun e => by have := HU.out _ e; omega)), by simp; exact s6⟩, ⟨_, heap_setCell_same w6 sb 0 _ _ _ HX6.out, ?_⟩, ?_⟩
    · rw [List.length_append]
      exact row_fr (S := fun k => k = sb) HO.out ((Fr.refl (fun k => k = sb) w6).set (p := ⟨sb, 0, none⟩) rfl _) (fun j hj e => by simp [Value.ownBlock] at hj; omega)
    · have hb7 : Below sb W w6 := HF6.out.below (by omega) (fun k hk => by have := HU.out _ hk; omega)
      exact (HBl.out.trans hb7).setCell (p := ⟨sb, 0, none⟩) (Nat.le_refl _) _
  case done =>
    rintro D W hD ⟨⟨u, hx, hr⟩, hb⟩ hK
    rw [sV] at hD
    have c2 := cell_of_row _ _ 0 _ _ _ hx
    simp at c2
    have HR := hidIn hr
    obtain ⟨ua, uc, rfl⟩ := row_shape hr
    clear hr hx
    gi_wp2
    refine ⟨by simp, .inl ⟨_, _, rfl, run_takeDeferred hK, ?_⟩⟩
    have hgw := grownBy_putObj' W D (.deferred none)
    have hFD : Fr (fun k => k = D) W (W.putObj D (.deferred none)) := ⟨hgw.os, hgw.tape, hgw.output, hgw.size, fun k hk hs => hgw.block k hk (fun e => hs (by cases e; rfl))⟩
    refine ⟨_, results_tmp rfl _ _ _, ⟨_, rfl, row_low (row_fr HR.out hFD (fun j hj e => ?_)) (by omega)⟩, hb.trans (hFD.below (by have := hb.size; omega) (fun k hk => by omega))⟩
    obtain ⟨cur, h1⟩ := row_ty HR.out hj
    rw [e, hK] at h1
    cases h1
set_option maxRecDepth 100000 in
theorem collect_ok {w : World} {Bb g : Nat} {ad : Option Addr} {cap : Nat} {xs : List Nat} (hB : w.heap[Bb]? = some (.cells #[.slice ad xs.length cap] 41)) (hg : 0 < xs.length → ad = some ⟨g, 0, none⟩) (hlen : xs.length ≤ 100000) (hcl : ∀ j x, xs[j]? = some x → w.cell? ⟨g, j, none⟩ = some (ptr x)) (hgl : g < w.heap.size) :
    Calls Try.prog 39 #[.func (.func 41) #[] #[ptr Bb]] w fun e w' => (∃ v', e = .returned v' ∧ w'.ownsRow w.heap.size 51 1 v' xs.length (fl pn xs)) ∧ Below w.heap.size w w' := by
  have HA := hidIn (appendSeq_ok hB hg hlen hcl hgl)
  clear hB hg hcl
  go_enter Try.func39, Try.ntmps39
  go_wp2_with fail
  refine HA.out.mono ?_
  rintro e w1 ⟨⟨v', rfl, hr⟩, hb⟩
  have HR := hidIn hr
  have HB := hidIn hb
  clear hr hb
  go_wp2
  go_ret
  exact ⟨⟨_, rfl, HR.out⟩, HB.out⟩
end Go.Proofs.Ytaldehgggilmdaa.Ca.S
