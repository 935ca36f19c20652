/- Missing. A store's copy. Two stores that send what is missing, without memory. -/
import Derived.Test.YtpdpdhnllmlfdaaN13
namespace Go.Proofs.Ytpdpdhnllmlfdaa
open Go.RowKit Go.Maps

set_option maxRecDepth 100000 in
set_option maxHeartbeats 2000000 in
theorem smissing_any {S M n : Nat} {f : Sf} {l : List Ed} {v : Value} {w : World} (h : StAt w S M n f) (hv : SlAt sc3 3 w v l) (hB : ∀ y ∈ l, (0 ≤ y.2.1 ∧ y.2.1 < 4294967296) ∧ 0 ≤ y.2.2 ∧ y.2.2 < 4294967296) :
    Calls Try.prog 25 #[ptr S, v] w fun e w' => MisAns w w' f (byS l) e ∧ Below w.heap.size w w' := by
  have HS := hidIn h
  have HT := hidIn (there_any h)
  have HBy := hidIn (byOrigin_any hv hB)
  obtain ⟨aa, cap, rfl, hq⟩ := hv
  clear h hq hB
  go_enter Try.func25, Try.ntmps25
  go_wp2_with fail
  refine HT.out.mono ?_
  rintro e w1 ⟨rfl, h1⟩
  rw [h1]
  clear HT h1 w1
  go_wp2_with fail
  refine HBy.out.mono ?_
  rintro e w2 ⟨h2, hb2⟩
  have HB2 := hidIn hb2
  clear HBy hb2
  have hz := zeroSts
  obtain ⟨G0, hG0⟩ : ∃ G0, (gs no3).toArray = G0 := ⟨_, rfl⟩
  have HA2 : Hid (Arr (w2.alloc (.cells G0 84)) w2.heap.size 84 (gs no3)) := hidIn (by
    show (w2.alloc (.cells G0 84)).heap[w2.heap.size]? = _
    rw [hG0]
    exact heap_alloc_last w2 _)
  have HG0 := hidIn hG0
  rw [hG0] at hz
  clear hG0
  rcases h2 with ⟨g, hg, rfl⟩ | ⟨hno, rfl⟩
  · have Hg := hidIn hg
    clear hg
    go_upto_region 6 with (refine l_storeS rfl _ _ rfl w2.heap.size g no3 rfl rfl HA2.out ?_; intro W3 hWr hWb)
    have HWr := hidIn hWr
    have HB3 : Hid (Below w.heap.size w W3) := hidIn ((HB2.out.alloc HB2.out.size (.cells G0 84)).trans (hWb _ HB2.out.size))
    have HAg := hidIn (against_any (g := g) (HS.out.keep HB3.out))
    clear hWr hWb hz
    go_wp2_with (refine l_loadS rfl _ rfl w2.heap.size g rfl HWr.out ?_)
    refine HAg.out.mono ?_
    rintro e w4 ⟨rfl, hb4⟩
    have HB4 := hidIn (HB3.out.trans (hb4.mono HB3.out.size))
    have HS4 := hidIn (HS.out.keep HB4.out)
    obtain ⟨RA, hRA⟩ : ∃ RA, (rcl (ansF f g)).toArray = RA := ⟨_, rfl⟩
    have HIx : Hid (∀ (k : Nat), k < 25 → ∀ w, (Instr.index 88 (.agg RA) (.int .i64 k)).run Try.prog w = .ok (.int .i64 (ansF f g k)) w) := hidIn fun k hk w => by rw [← hRA]; exact indexAns _ hk w
    rw [hRA]
    clear hRA hb4 HAg HB3 HWr
    go_wp2_with fail
    go_loopw [4, 5, 24] (fun u v q wr => ∃ k : Nat, k ≤ 25 ∧ q = .int .i64 k ∧ Hid (MisM w4 wr f g k u v)) (fun _ _ q _ => 25 - (intOf q).toNat)
    case atStart => exact ⟨0, Nat.zero_le _, rfl, hidIn ⟨[], World.ownsRow_nil _ _ _ _, rfl, fun x hx => by simp at hx, World.ownsRow_nil _ _ _ _, Nat.le_refl _, Nat.le_refl _, Below.refl _ _⟩⟩
    case round =>
      obtain ⟨k, hk, rfl, HR⟩ := hrel
      obtain ⟨a1, c1, a2, c2, rfl, rfl⟩ := HR.out.shape
      by_cases hlt : k < 25
      · have hki : (k : Int) < 25 := by omega
        have hix := HIx.out k hlt
        rcases ansF_vals f g k with ha | ha | ha
        · rw [ha] at hix
          obtain ⟨gg, gcap, w6, hrun, hM⟩ := HR.out.want hlt ha
          have HRun := hidIn hrun
          have HO := hidIn hM
          clear HR hrun hM ha
          generalize (sendL f g k).length = l1 at HO ⊢
          generalize (wantL f g k).length = l2 at HO HRun ⊢
          go_wp2_with (refine l_append rfl _ _ 46 rfl HRun.out ?_)
          go_roundw
          case rel => exact ⟨k + 1, by omega, by go_num, HO⟩
          case measure => simp [intOf]; omega
        · rw [ha] at hix
          have HO := hidIn (HR.out.none ha)
          clear HR ha
          generalize (sendL f g k).length = l1 at HO ⊢
          generalize (wantL f g k).length = l2 at HO ⊢
          go_wp2_with fail
          go_roundw
          case rel => exact ⟨k + 1, by omega, by go_num, HO⟩
          case measure => simp [intOf]; omega
        · rw [ha] at hix
          have hbr : Below w4.heap.size w4 wr := by obtain ⟨_, _, _, _, _, _, _, h⟩ := HR.out; exact h
          have hSr := HS4.out.keep hbr
          have h0 := hSr.slot
          have hSl := hSr.lts.1
          have HL : Hid (∀ wq, Below wr.heap.size wr wq → (Instr.lookup 65 (.map (some M)) (.int .i64 (k : Int)) false).run Try.prog wq = .ok (recV (rOf (f (k : Int))) (uOf (f (k : Int)))) wq) := hidIn fun wq hq => by
            have := (hSr.keep hq).m.look1 (x := (k : Int)) (wf9 (by omega))
            rw [sV_get] at this
            exact this
          obtain ⟨hu, hu16, _⟩ := hSr.u (k : Int)
          have HC := hidIn (copied_any hu (by omega))
          obtain ⟨ua, ucap, hue, _⟩ := hu
          rw [hue] at HL HC
          have Hba := hidIn ha
          have hlw : w4.heap.size ≤ wr.heap.size := hbr.size
          have Hlw := hidIn hlw
          clear hSr hue hu16 hbr ha hlw
          generalize hro : rOf (f (k : Int)) = r at HL HC
          have Hro := hidIn hro
          clear hro
          obtain ⟨ro, re, rs, rc, ri, rl⟩ := r
          simp only at HL HC
          generalize rl.length = nl at HL HC
          go_wp2_with (refine l_look rfl _ _ 65 false rfl (HL.out _ (Below.refl _ _)) ?_)
          refine HC.out.mono ?_
          rintro e w5 ⟨⟨a, c, rfl, hs, hn, hf⟩, hb5⟩
          simp only at hs hn ⊢
          obtain ⟨gg, gcap, w6, hrun, hM⟩ := (HR.out.keep hb5).send hlt Hba.out (x := (⟨ro, re, rs, rc, ri, rl⟩, .slice a rl.length c)) ⟨a, c, rfl, hs, hn, (show Fresh wr w5 a from hf).old Hlw.out⟩ Hro.out.symm
          have HRun := hidIn hrun
          have HO := hidIn hM
          clear HR hrun hM hs hn hf hb5 HC HL h0
          generalize rl.length = nl2 at HRun ⊢
          generalize (sendL f g k).length = l1 at HO HRun ⊢
          generalize (wantL f g k).length = l2 at HO ⊢
          go_wp2_with (refine l_append rfl _ _ 22 rfl HRun.out ?_)
          go_roundw
          case rel => exact ⟨k + 1, by omega, by go_num, HO⟩
          case measure => simp [intOf]; omega
      · have hki : ¬ (k : Int) < 25 := by omega
        obtain rfl : k = 25 := by omega
        have HO : Hid (MisAns w wr f (byS l) (.returned (.tuple #[.slice a1 (sendL f g 25).length c1, .slice a2 (wantL f g 25).length c2, .int .i64 0])) ∧ Below w.heap.size w wr) := hidIn (by
          obtain ⟨L, h1, h2, h3, h4, h5, h6, h7⟩ := HR.out
          refine ⟨.inr ⟨g, _, _, L, Hg.out, rfl, row_low h1 HB4.out.size, h2, fun x hx => ?_, row_low h4 HB4.out.size⟩, HB4.out.trans (h7.mono HB4.out.size)⟩
          obtain ⟨a', c', e1, e2, e3, e4⟩ := h3 x hx
          exact ⟨a', c', e1, e2, e3, e4.old HB4.out.size⟩)
        clear HR
        generalize (sendL f g 25).length = l1 at HO ⊢
        generalize (wantL f g 25).length = l2 at HO ⊢
        go_wp2_with fail
        go_returns
        exact HO.out
  · have Hno := hidIn hno
    clear hno
    go_wp2_with (refine l_storeS rfl _ _ rfl w2.heap.size no3 no3 rfl rfl HA2.out ?_; intro W3 hWr hWb)
    go_returns
    exact ⟨.inl ⟨Hno.out, rfl⟩, (HB2.out.alloc HB2.out.size (.cells G0 84)).trans (hWb _ HB2.out.size)⟩
end Go.Proofs.Ytpdpdhnllmlfdaa
namespace Go.Proofs.Ytpdpdhnllmlfdaa
open Go.RowKit Go.Maps

theorem StAt.org {w : World} {S M n : Nat} {f : Sf} (h : StAt w S M n f) {k : Int} {g : Rc} (hk : fR f k = some g) : recOk g = true ∧ g.origin = k ∧ 0 ≤ g.epoch ∧ 0 ≤ g.seq := by
  unfold fR at hk
  cases h1 : f k with
  | none => rw [h1] at hk; cases hk
  | some p =>
    rw [h1] at hk
    simp at hk
    obtain ⟨r, u⟩ := p
    simp at hk
    subst hk
    obtain ⟨a, b, _, _, c, d⟩ := h.v k r u h1
    exact ⟨a, b, c, d⟩
/-- Records laid by their origins. -/
def layR (F : Rf) (r : Rc) : Rf := putO F r.origin r
theorem lay_all {F : Rf} (hF : ∀ k g, F k = some g → g.origin = k ∧ 1 ≤ k ∧ k ≤ 24) : ∀ n, n ≤ 24 → ∀ k, (allR F n).foldl layR noR9 k = if 1 ≤ k ∧ k ≤ (n : Int) then F k else none
  | 0, _, k => by
    rw [if_neg (by omega)]
    rfl
  | n + 1, hn, k => by
    have he : allR F (n + 1) = allR F n ++ (F ((n : Int) + 1)).toList := by
      unfold allR
      rw [List.range_succ, List.filterMap_append]
      cases hq : F ((n : Int) + 1) <;> simp [hq]
    have ih := lay_all hF n (by omega)
    rw [he, List.foldl_append]
    cases hq : F ((n : Int) + 1) with
    | none =>
      simp only [Option.toList_none, List.foldl_nil]
      rw [ih k]
      by_cases hk : k = (n : Int) + 1
      · rw [hk, if_neg (by omega), if_pos (by omega), hq]
      · by_cases h1 : 1 ≤ k ∧ k ≤ (n : Int)
        · rw [if_pos h1, if_pos (by omega)]
        · rw [if_neg h1, if_neg (by omega)]
    | some g =>
      simp only [Option.toList_some, List.foldl_cons, List.foldl_nil]
      have hg := (hF _ g hq).1
      show putO (List.foldl layR noR9 (allR F n)) g.origin g k = _
      rw [hg]
      by_cases hk : k = (n : Int) + 1
      · rw [hk, putO_same, if_pos (by omega), hq]
      · rw [putO_other _ _ hk, ih k]
        by_cases h1 : 1 ≤ k ∧ k ≤ (n : Int)
        · rw [if_pos h1, if_pos (by omega)]
        · rw [if_neg h1, if_neg (by omega)]
theorem lay_same {w : World} {S M n : Nat} {f : Sf} (h : StAt w S M n f) : (allR (fR f) 24).foldl layR noR9 = fR f := by
  have hF : ∀ k g, fR f k = some g → g.origin = k ∧ 1 ≤ k ∧ k ≤ 24 := fun k g hk => by
    have h1 := h.org hk
    have h2 := recOk_pos h1.1
    omega
  funext k
  rw [lay_all hF 24 (by omega) k]
  by_cases hk : 1 ≤ k ∧ k ≤ ((24 : Nat) : Int)
  · rw [if_pos hk]
  · rw [if_neg hk]
    cases hq : fR f k with
    | none => rfl
    | some g => have := hF k g hq; omega
theorem allR_of {F : Rf} {n : Nat} {g : Rc} (h : g ∈ allR F n) : ∃ k, F k = some g := by
  unfold allR at h
  obtain ⟨j, _, hj⟩ := List.mem_filterMap.1 h
  exact ⟨_, hj⟩
/-- One record laid into the map. -/
theorem StAt.upd {w : World} {S M n : Nat} {f : Sf} (h : StAt w S M n f) (hn : n < 1000000) {r : Rc} {u : Value} (hok : recOk r = true) (hu : SlAt ac 2 w u r.adjs) (hnil : NilOk u) (hp : 0 ≤ r.epoch ∧ 0 ≤ r.seq) :
    ∃ w', (Instr.mapUpdate 65 (.map (some M)) (.int .i64 r.origin) (recV r u)).run Try.prog w = .ok () w' ∧ StAt w' S M (n + 1) (putO f r.origin (r, u)) ∧ Fr (fun k => k = M) w w' := by
  obtain ⟨w6, hrun, hm6, hF6⟩ := h.m.put hn (x := r.origin) (wf9 (by have := (recOk_parts hok).1; omega)) (recV r u)
  have hSM : ¬ S = M := fun e => by
    have h1 := h.p
    obtain ⟨es, cl, hb⟩ := h.m.isMap
    rw [e, hb] at h1
    cases h1
  refine ⟨w6, hrun, ⟨(hF6.block S (block_lt h.p) hSM).trans h.p, ?_, fun k r' u' hk => ?_⟩, hF6⟩
  · have he : putO (sV f) r.origin (recV r u) = sV (putO f r.origin (r, u)) := by
      funext j
      unfold sV putO
      by_cases hj : j = r.origin
      · rw [if_pos hj, if_pos hj]; rfl
      · rw [if_neg hj, if_neg hj]
    rw [← he]
    exact hm6
  · by_cases hj : k = r.origin
    · rw [hj, putO_same] at hk
      simp only [Option.some.injEq, Prod.mk.injEq] at hk
      obtain ⟨rfl, rfl⟩ := hk
      exact ⟨hok, hj.symm, hu.keepM hF6 h.m.isMap (by omega) (fun _ => rfl), hnil, hp⟩
    · rw [putO_other f _ hj] at hk
      obtain ⟨h1, h2, h3, h4⟩ := h.v k r' u' hk
      exact ⟨h1, h2, h3.keepM hF6 h.m.isMap (by omega) (fun _ => rfl), h4⟩
/-- A copy. -/
def CpyAns (w w' : World) (f : Sf) (e : Ending) : Prop := ∃ S' M' f', e = .returned (ptr S') ∧ StAt w' S' M' 24 f' ∧ fR f' = fR f ∧ w.heap.size ≤ S' ∧ w.heap.size ≤ M'
end Go.Proofs.Ytpdpdhnllmlfdaa
namespace Go.Proofs.Ytpdpdhnllmlfdaa
open Go.RowKit Go.Maps

/-- What a store may have. -/
def OkF (F : Rf) : Prop := ∀ k g, F k = some g → recOk g = true ∧ g.origin = k
theorem runR_okF (rs : List Rc) : OkF (runR rs) := fun k g hg => ⟨((runR_is rs k).1 g hg).ok, ((runR_is rs k).1 g hg).org⟩
def stD (o : Option Rc) : Ed := (o.map stOf).getD (0, 0, 0)
theorem allR_succ (F : Rf) (n : Nat) : allR F (n + 1) = allR F n ++ (F ((n : Int) + 1)).toList := by
  unfold allR
  rw [List.range_succ, List.filterMap_append]
  cases hq : F ((n : Int) + 1) <;> simp [hq]
theorem mayS_ok {g : Rc} (h : recOk g = true) : mayS g.origin g.epoch g.seq = true := by
  have := recOk_pos h
  simp [mayS, isR]
  omega
theorem byS_all {F : Rf} (hF : OkF F) : ∀ n, n ≤ 24 → byS ((allR F n).map stOf) = some (fun i => if 1 ≤ i ∧ i ≤ n then stD (F (i : Int)) else (0, 0, 0))
  | 0, _ => by
    show some no3 = _
    congr 1
    funext i
    rw [if_neg (by omega)]
    rfl
  | n + 1, hn => by
    have ih := byS_all hF n (by omega)
    rw [allR_succ, List.map_append]
    unfold byS at ih ⊢
    rw [List.foldl_append, ih]
    cases hq : F ((n : Int) + 1) with
    | none =>
      simp only [Option.toList_none, List.map_nil, List.foldl_nil]
      congr 1
      funext i
      by_cases hi : i = n + 1
      · subst hi
        rw [if_neg (by omega), if_pos (by omega)]
        have : F ((n + 1 : Nat) : Int) = none := by rw [← hq]; congr 1
        rw [this]
        rfl
      · by_cases h1 : 1 ≤ i ∧ i ≤ n
        · rw [if_pos h1, if_pos (by omega)]
        · rw [if_neg h1, if_neg (by omega)]
    | some g =>
      obtain ⟨hok, horg⟩ := hF _ g hq
      simp only [Option.toList_some, List.map_cons, List.map_nil, List.foldl_cons, List.foldl_nil]
      unfold addS
      simp only [Option.bind_some]
      have ht : (stOf g).1.toNat = n + 1 := by show g.origin.toNat = n + 1; omega
      have hc : mayS (stOf g).1 (stOf g).2.1 (stOf g).2.2 = true ∧ (if 1 ≤ (stOf g).1.toNat ∧ (stOf g).1.toNat ≤ n then stD (F (((stOf g).1.toNat : Nat) : Int)) else (0, 0, 0)) = (0, 0, 0) := ⟨mayS_ok hok, by rw [ht, if_neg (by omega)]⟩
      rw [if_pos hc, ht]
      congr 1
      funext i
      unfold upS
      by_cases hi : i = n + 1
      · subst hi
        rw [if_pos rfl, if_pos (by omega)]
        have : F ((n + 1 : Nat) : Int) = some g := by rw [← hq]; congr 1
        rw [this]
        rfl
      · rw [if_neg hi]
        show (if 1 ≤ i ∧ i ≤ n then stD (F (i : Int)) else (0, 0, 0)) = _
        by_cases h1 : 1 ≤ i ∧ i ≤ n
        · rw [if_pos h1, if_pos (by omega)]
        · rw [if_neg h1, if_neg (by omega)]
/-- How one store stands to another at a router. -/
def vsF (A B : Rf) (i : Nat) : Int := newI (gD (A (i : Int))).epoch (gD (A (i : Int))).seq (gD (B (i : Int))).epoch (gD (B (i : Int))).seq
theorem OkF.out {F : Rf} (h : OkF F) {k : Int} (hk : ¬ (1 ≤ k ∧ k ≤ 24)) : F k = none := by
  cases hq : F k with
  | none => rfl
  | some g =>
    obtain ⟨h1, h2⟩ := h k g hq
    have := recOk_pos h1
    omega
theorem ansF_vs {f : Sf} {B : Rf} (hB : OkF B) (i : Nat) : ansF f (fun i => if 1 ≤ i ∧ i ≤ 24 then stD (B (i : Int)) else (0, 0, 0)) i = vsF (fR f) B i := by
  unfold ansF vsF
  simp only
  rw [rOf_fR]
  by_cases hi : 1 ≤ i ∧ i ≤ 24
  · rw [if_pos hi]
    cases hq : B (i : Int) <;> rfl
  · rw [if_neg hi, hB.out (k := (i : Int)) (by omega)]
    rfl
/-- Who is sent, who is wanted. -/
def sndR (A B : Rf) (n : Nat) : List Rc := (List.range n).filterMap fun (i : Nat) => if vsF A B i = 1 then some (gD (A (i : Int))) else none
def wntR (A B : Rf) (n : Nat) : List Int := (List.range n).filterMap fun (i : Nat) => if vsF A B i = -1 then some (i : Int) else none
theorem OkF.nn {F : Rf} (h : OkF F) (k : Int) : 0 ≤ (gD (F k)).epoch ∧ 0 ≤ (gD (F k)).seq := by
  cases hq : F k with
  | none => exact ⟨Int.le_refl _, Int.le_refl _⟩
  | some g =>
    have := recOk_pos (h k g hq).1
    show 0 ≤ g.epoch ∧ 0 ≤ g.seq
    omega
theorem vs_some {A B : Rf} (hA : OkF A) (hB : OkF B) {i : Nat} (h : vsF A B i = 1) : ∃ g, A (i : Int) = some g ∧ recOk g = true ∧ g.origin = (i : Int) ∧ nwR B g = 1 := by
  cases hq : A (i : Int) with
  | none =>
    unfold vsF at h
    rw [hq] at h
    have h1 := (newI_pos 0 0 (gD (B (i : Int))).epoch (gD (B (i : Int))).seq).1 h
    have h2 := hB.nn (i : Int)
    omega
  | some g =>
    obtain ⟨h1, h2⟩ := hA _ g hq
    refine ⟨g, rfl, h1, h2, ?_⟩
    unfold vsF at h
    rw [hq] at h
    unfold nwR
    rw [h2]
    exact h
theorem sndR_mem {A B : Rf} (hA : OkF A) (hB : OkF B) {n : Nat} {g : Rc} (h : g ∈ sndR A B n) : ∃ i, i < n ∧ vsF A B i = 1 ∧ A (i : Int) = some g ∧ recOk g = true ∧ g.origin = (i : Int) ∧ nwR B g = 1 := by
  unfold sndR at h
  obtain ⟨i, hi, hg⟩ := List.mem_filterMap.1 h
  by_cases hv : vsF A B i = 1
  · rw [if_pos hv] at hg
    obtain ⟨g', h1, h2⟩ := vs_some hA hB hv
    rw [h1] at hg
    cases hg
    exact ⟨i, by simpa using hi, hv, h1, h2⟩
  · rw [if_neg hv] at hg
    cases hg
theorem sndR_nd {A B : Rf} (hA : OkF A) (hB : OkF B) : ∀ n, (sndR A B n).Pairwise fun a b => a.origin ≠ b.origin
  | 0 => by simp [sndR]
  | n + 1 => by
    have he : sndR A B (n + 1) = sndR A B n ++ (if vsF A B n = 1 then [gD (A (n : Int))] else []) := by
      unfold sndR
      rw [List.range_succ, List.filterMap_append]
      by_cases h : vsF A B n = 1 <;> simp [h]
    rw [he, List.pairwise_append]
    refine ⟨sndR_nd hA hB n, by split <;> simp, fun a ha b hb => ?_⟩
    obtain ⟨i, hi, _, _, _, h1, _⟩ := sndR_mem hA hB ha
    by_cases hv : vsF A B n = 1
    · rw [if_pos hv, List.mem_singleton] at hb
      obtain ⟨g', h2, _, h3, _⟩ := vs_some hA hB hv
      rw [hb, h2, h1]
      show (i : Int) ≠ g'.origin
      omega
    · rw [if_neg hv] at hb; simp at hb
/-- A store over which records were laid. -/
structure Ov (B F : Rf) (s : List Rc) : Prop where
  out : ∀ j, (∀ x ∈ s, x.origin ≠ j) → F j = B j
  has : ∀ x ∈ s, F x.origin = some x
theorem ov_nil (B : Rf) : Ov B B [] := ⟨fun _ _ => rfl, fun x hx => by simp at hx⟩
theorem Ov.step {B F : Rf} {s : List Rc} {x : Rc} (h : Ov B F s) (hok : recOk x = true) (hn : nwR B x = 1) (hd : ∀ y ∈ s, y.origin ≠ x.origin) : pnR F x = 1 ∧ Ov B (putR F x) (s ++ [x]) := by
  have hF : F x.origin = B x.origin := h.out _ hd
  have hnF : nwR F x = 1 := by unfold nwR; rw [hF]; exact hn
  refine ⟨by unfold pnR; rw [if_pos hok, hnF], ?_⟩
  unfold putR
  rw [if_pos ⟨hok, hnF⟩]
  refine ⟨fun j hj => ?_, fun y hy => ?_⟩
  · rw [putO_other _ _ (fun e => hj x (by simp) e.symm)]
    exact h.out j (fun y hy => hj y (by simp [hy]))
  · rcases List.mem_append.1 hy with hy | hy
    · rw [putO_other _ _ (hd y hy)]; exact h.has y hy
    · rw [List.mem_singleton.1 hy, putO_same]
theorem vs_neg (A B : Rf) (i : Nat) : vsF B A i = - vsF A B i := newI_neg _ _ _ _
theorem wntR_mem {A B : Rf} {n : Nat} {k : Int} (h : k ∈ wntR A B n) : ∃ i : Nat, i < n ∧ k = (i : Int) ∧ vsF A B i = -1 := by
  unfold wntR at h
  obtain ⟨i, hi, hg⟩ := List.mem_filterMap.1 h
  by_cases hv : vsF A B i = -1
  · rw [if_pos hv] at hg
    cases hg
    exact ⟨i, by simpa using hi, rfl, hv⟩
  · rw [if_neg hv] at hg
    cases hg
theorem wntR_nd (A B : Rf) : ∀ n, (wntR A B n).Pairwise fun a b => a ≠ b
  | 0 => by simp [wntR]
  | n + 1 => by
    have he : wntR A B (n + 1) = wntR A B n ++ (if vsF A B n = -1 then [(n : Int)] else []) := by
      unfold wntR
      rw [List.range_succ, List.filterMap_append]
      by_cases h : vsF A B n = -1 <;> simp [h]
    rw [he, List.pairwise_append]
    refine ⟨wntR_nd A B n, by split <;> simp, fun a ha b hb => ?_⟩
    obtain ⟨i, hi, h1, _⟩ := wntR_mem ha
    by_cases hv : vsF A B n = -1
    · rw [if_pos hv, List.mem_singleton] at hb
      omega
    · rw [if_neg hv] at hb; simp at hb
/-- What the wanted one is, with the store that has got what was sent. -/
theorem want_is {A B B' : Rf} (hA : OkF A) (hB : OkF B) (h : Ov B B' (sndR A B 25)) {k : Int} (hk : k ∈ wntR A B 25) : ∃ g, B' k = some g ∧ recOk g = true ∧ g.origin = k ∧ nwR A g = 1 := by
  obtain ⟨i, hi, rfl, hv⟩ := wntR_mem hk
  have h1 : B' (i : Int) = B (i : Int) := h.out _ (fun x hx e => by
    obtain ⟨j, _, hj, _, _, h2, _⟩ := sndR_mem hA hB hx
    have : j = i := by omega
    subst this
    omega)
  obtain ⟨g, h2, h3, h4, h5⟩ := vs_some hB hA (i := i) (by rw [vs_neg]; omega)
  exact ⟨g, by rw [h1, h2], h3, h4, h5⟩
/-- In the end both have the same stamps. -/
theorem whole_same {A B A' B' : Rf} (hA : OkF A) (hB : OkF B) (h : Ov B B' (sndR A B 25)) {s : List Rc} (h' : Ov A A' s) (hs : ∀ g, g ∈ s ↔ ∃ k ∈ wntR A B 25, B' k = some g) (k : Int) : (A' k).map stOf = (B' k).map stOf := by
  by_cases hk : 1 ≤ k ∧ k ≤ 24
  · obtain ⟨i, rfl⟩ : ∃ i : Nat, k = (i : Int) := ⟨k.toNat, by omega⟩
    have hi : i < 25 := by omega
    have hA' : vsF A B i ≠ -1 → A' (i : Int) = A (i : Int) := fun hv => h'.out _ (fun x hx e => by
      obtain ⟨k, hk1, hk2⟩ := (hs x).1 hx
      obtain ⟨g, hg1, _, hg3, _⟩ := want_is hA hB h hk1
      rw [hg1] at hk2
      cases hk2
      obtain ⟨j, _, hj, hj2⟩ := wntR_mem hk1
      have : j = i := by omega
      subst this
      exact hv hj2)
    have hB' : vsF A B i ≠ 1 → B' (i : Int) = B (i : Int) := fun hv => h.out _ (fun x hx e => by
      obtain ⟨j, _, hj, _, _, h2, _⟩ := sndR_mem hA hB hx
      have : j = i := by omega
      subst this
      exact hv hj)
    rcases newI_vals (gD (A (i : Int))).epoch (gD (A (i : Int))).seq (gD (B (i : Int))).epoch (gD (B (i : Int))).seq with hv | hv | hv
    · have hv' : vsF A B i = -1 := hv
      rw [hB' (by omega)]
      obtain ⟨g, h2, h3, h4, h5⟩ := vs_some hB hA (i := i) (by rw [vs_neg]; omega)
      have hm : (i : Int) ∈ wntR A B 25 := by
        unfold wntR
        exact List.mem_filterMap.2 ⟨i, by simpa using hi, by rw [if_pos hv']⟩
      have := h'.has g ((hs g).2 ⟨(i : Int), hm, by rw [hB' (by omega)]; exact h2⟩)
      rw [h4] at this
      rw [this, h2]
    · have hv' : vsF A B i = 0 := hv
      rw [hA' (by omega), hB' (by omega)]
      have hz := (newI_zero _ _ _ _).1 hv
      cases hqa : A (i : Int) with
      | none =>
        cases hqb : B (i : Int) with
        | none => rfl
        | some g =>
          rw [hqa, hqb] at hz
          have := recOk_pos (hB _ g hqb).1
          simp only [gD, Option.getD_none, Option.getD_some, rc0] at hz
          omega
      | some a =>
        cases hqb : B (i : Int) with
        | none =>
          rw [hqa, hqb] at hz
          have := recOk_pos (hA _ a hqa).1
          simp only [gD, Option.getD_none, Option.getD_some, rc0] at hz
          omega
        | some b =>
          rw [hqa, hqb] at hz
          have h1 := (hA _ a hqa).2
          have h2 := (hB _ b hqb).2
          simp only [gD, Option.getD_some] at hz
          simp only [Option.map_some, stOf, Option.some.injEq, Prod.mk.injEq]
          omega
    · have hv' : vsF A B i = 1 := hv
      rw [hA' (by omega)]
      obtain ⟨g, h2, h3, h4, h5⟩ := vs_some hA hB hv'
      have hm : g ∈ sndR A B 25 := by
        unfold sndR
        exact List.mem_filterMap.2 ⟨i, by simpa using hi, by rw [if_pos hv', h2]; rfl⟩
      have := h.has g hm
      rw [h4] at this
      rw [this, h2]
  · have hA' : A' k = A k := h'.out _ (fun x hx e => by
      obtain ⟨k', hk1, hk2⟩ := (hs x).1 hx
      obtain ⟨g, hg1, hg2, hg3, _⟩ := want_is hA hB h hk1
      rw [hg1] at hk2
      cases hk2
      have := recOk_pos hg2
      omega)
    have hB' : B' k = B k := h.out _ (fun x hx e => by
      obtain ⟨j, _, _, _, h1, h2, _⟩ := sndR_mem hA hB hx
      have := recOk_pos h1
      omega)
    rw [hA', hB', hA.out hk, hB.out hk]
theorem send_vs {f : Sf} {B : Rf} (hB : OkF B) : sendL f (fun i => if 1 ≤ i ∧ i ≤ 24 then stD (B (i : Int)) else (0, 0, 0)) 25 = sndR (fR f) B 25 ∧ wantL f (fun i => if 1 ≤ i ∧ i ≤ 24 then stD (B (i : Int)) else (0, 0, 0)) 25 = wntR (fR f) B 25 := by
  unfold sendL wantL sndR wntR
  constructor
  · congr
    funext i
    rw [ansF_vs hB i]
    rfl
  · congr
    funext i
    rw [ansF_vs hB i]
theorem none_left {A B : Rf} (h : ∀ k, (A k).map stOf = (B k).map stOf) : sndR A B 25 = [] ∧ wntR A B 25 = [] := by
  have hv : ∀ i, vsF A B i = 0 := fun i => by
    unfold vsF
    have hi := h (i : Int)
    rw [newI_zero]
    cases hqa : A (i : Int) <;> cases hqb : B (i : Int) <;> rw [hqa, hqb] at hi <;> simp [stOf, gD] at hi ⊢
    omega
  unfold sndR wntR
  constructor
  · apply List.eq_nil_iff_forall_not_mem.2
    intro x hx
    obtain ⟨i, _, hg⟩ := List.mem_filterMap.1 hx
    rw [if_neg (by rw [hv]; omega)] at hg
    cases hg
  · apply List.eq_nil_iff_forall_not_mem.2
    intro x hx
    obtain ⟨i, _, hg⟩ := List.mem_filterMap.1 hx
    rw [if_neg (by rw [hv]; omega)] at hg
    cases hg
end Go.Proofs.Ytpdpdhnllmlfdaa
