/- What is missing. Missing. A store's copy. Two stores that send what is missing, without memory. The document's find: the stamp of an origin; its Get: the record of an origin. The document's Get: the record of an origin. The document's Put as lists (pure): a record laid into records that rise. RecordAgain. RecordBack. The law's own. The document's Same; RecordSame. The document's SameAll of records that are alike. StoreWhole. The law's owned: a record with neighbours of its own, 20 at most. dandelionref02.size, Put. dandelionref02.Take. The document's router, MayStamp, put, take, Newer, EncodeStamp. -/
import Derived.Test.YtpdpdhnllmlfdaaN12
import Derived.Test.YtpdpdhnllmlfdaaX6
import Derived.Test.YtpdpdhnllmlfdaaXE
import Derived.Test.YtpdpdhnllmlfdaaGF
import Derived.Test.YtpdpdhnllmlfdaaK7
import Derived.Test.YtpdpdhnllmlfdaaXO
namespace Go.Proofs.Ytpdpdhnllmlfdaa
open Go.RowKit Go.Maps

def sendL (f : Sf) (g : Nat → Ed) (n : Nat) : List Rc := (List.range n).filterMap fun (i : Nat) => if ansF f g i = 1 then some (rOf (f (i : Int))) else none
def wantL (f : Sf) (g : Nat → Ed) (n : Nat) : List Int := (List.range n).filterMap fun (i : Nat) => if ansF f g i = -1 then some (i : Int) else none
theorem sendL_succ (f : Sf) (g : Nat → Ed) (n : Nat) : sendL f g (n + 1) = sendL f g n ++ (if ansF f g n = 1 then [rOf (f (n : Int))] else []) := by
  unfold sendL
  rw [List.range_succ, List.filterMap_append]
  by_cases h : ansF f g n = 1 <;> simp [h]
theorem wantL_succ (f : Sf) (g : Nat → Ed) (n : Nat) : wantL f g (n + 1) = wantL f g n ++ (if ansF f g n = -1 then [(n : Int)] else []) := by
  unfold wantL
  rw [List.range_succ, List.filterMap_append]
  by_cases h : ansF f g n = -1 <;> simp [h]
theorem ansF_vals (f : Sf) (g : Nat → Ed) (n : Nat) : ansF f g n = -1 ∨ ansF f g n = 0 ∨ ansF f g n = 1 := newI_vals _ _ _ _
theorem row_ty {w : World} {base k size : Nat} {e : TypeId} {u : Value} {xs : List Value} (h : w.ownsRow base e size u k xs) {j : Nat} (hj : u.ownBlock = some j) : ∃ cur, w.heap[j]? = some (Obj.cells cur e) := by
  rcases h.2 with ⟨rfl, _⟩ | ⟨g, cap, cur, rfl, _, hh, _⟩
  · simp [Value.ownBlock] at hj
  · simp [Value.ownBlock] at hj
    subst hj
    exact ⟨cur, hh⟩
theorem infoInt9 : (Try.prog.info? 3).map (fun i => (i.zero, i.size, i.bytes)) = some (some (.int .i64 0), 1, 8) := by kernel_rfl
theorem append_in {W : World} {base k : Nat} {u : Value} {l : List Int} (hr : W.ownsRow base 3 1 u k (fl ic l)) (x : Int) (hk : (k + 1) * 8 ≤ 140737488355328) (hbase : base ≤ W.heap.size) :
    ∃ g cap w6, (Builtin.append_ #[46, 46] 46 #[u, .slice (some ⟨W.heap.size, 0, none⟩) 1 1]).run Try.prog (W.alloc (.cells (ic x).toArray 3)) = .ok (.slice (some ⟨g, 0, none⟩) (k + 1) cap) w6 ∧
      w6.ownsRow base 3 1 (.slice (some ⟨g, 0, none⟩) (k + 1) cap) (k + 1) (fl ic (l ++ [x])) ∧ (u.ownBlock = some g ∨ g = W.heap.size + 1) ∧ W.grownBy w6 u.ownBlock ∧ Below base W w6 :=
  append_one (P := Try.prog) (cs := ic) (T := 46) (fun _ => rfl) (fun _ => by simp [Value.oneCell']) Try.underlying46 infoInt9 rfl (by decide) hr x hk (by unfold maxLen; omega) hbase
theorem indexAns (c : Nat → Int) {k : Nat} (hk : k < 25) (w : World) : (Instr.index 88 (.agg (rcl c).toArray) (.int .i64 k)).run Try.prog w = .ok (.int .i64 (c k)) w := by
  obtain ⟨i0, hi, hz0, hz1, hz2⟩ := info_parts infoInt9
  have hkl : (k : Int) < 25 := by omega
  simp [Instr.index, asIntOf, go_sem, run_underlying underAns, hk]
  rw [rcl_get c hk]
  rfl
/-- What Missing answers. -/
def MisAns (w w' : World) (f : Sf) (o : Option (Nat → Ed)) (e : Ending) : Prop :=
  (o = none ∧ e = .returned (.tuple #[.slice none 0 0, .slice none 0 0, .int .i64 2])) ∨
    ∃ g u v L, o = some g ∧ e = .returned (.tuple #[u, v, .int .i64 0]) ∧ w'.ownsRow w.heap.size 28 6 u L.length (fl rcc L) ∧ rcs L = sendL f g 25 ∧ (∀ x ∈ L, FrRec w w' x) ∧ w'.ownsRow w.heap.size 3 1 v (wantL f g 25).length (fl ic (wantL f g 25))
/-- Amid it. -/
def MisM (w wr : World) (f : Sf) (g : Nat → Ed) (k : Nat) (u v : Value) : Prop :=
  ∃ L, wr.ownsRow w.heap.size 28 6 u L.length (fl rcc L) ∧ rcs L = sendL f g k ∧ (∀ x ∈ L, FrRec w wr x) ∧ wr.ownsRow w.heap.size 3 1 v (wantL f g k).length (fl ic (wantL f g k)) ∧ L.length ≤ k ∧ (wantL f g k).length ≤ k ∧ Below w.heap.size w wr
theorem MisM.keep {w wr w' : World} {f : Sf} {g : Nat → Ed} {k : Nat} {u v : Value} (h : MisM w wr f g k u v) (hb : Below wr.heap.size wr w') : MisM w w' f g k u v := by
  obtain ⟨L, h1, h2, h3, h4, h5, h6, h7⟩ := h
  exact ⟨L, row_below h1 hb (Nat.le_refl _), h2, fun x hx => (h3 x hx).keep hb, row_below h4 hb (Nat.le_refl _), h5, h6, h7.trans (hb.mono h7.size)⟩
theorem MisM.send {w W : World} {f : Sf} {g : Nat → Ed} {k : Nat} {u v : Value} (h : MisM w W f g k u v) (hk : k < 25) (ha : ansF f g k = 1) {x : Rc × Value} (hx : FrRec w W x) (hr : x.1 = rOf (f (k : Int))) :
    ∃ gg cap w6, (Builtin.append_ #[22, 22] 22 #[u, .slice (some ⟨W.heap.size, 0, none⟩) 1 1]).run Try.prog (W.alloc (.cells (rcc x).toArray 28)) = .ok (.slice (some ⟨gg, 0, none⟩) ((sendL f g k).length + 1) cap) w6 ∧ MisM w w6 f g (k + 1) (.slice (some ⟨gg, 0, none⟩) ((sendL f g k).length + 1) cap) v := by
  obtain ⟨L, h1, h2, h3, h4, h5, h6, h7⟩ := h
  obtain ⟨gg, cap, w6, hrun, hown, hb6, hF6⟩ := append_recF h1 x hx.one (by omega) h7.size
  have hLs : (sendL f g k).length = L.length := by rw [← h2, List.length_map]
  rw [hLs]
  have hno : ∀ (j : Nat) (cur : Array Value), W.heap[j]? = some (Obj.cells cur 75) → ¬ ∃ cur, W.heap[j]? = some (Obj.cells cur 28) := fun j cur h ⟨cur', h'⟩ => by
    rw [h] at h'
    simp at h'
  have hno2 : ∀ j, v.ownBlock = some j → ¬ ∃ cur, W.heap[j]? = some (Obj.cells cur 28) := fun j hj ⟨cur', h'⟩ => by
    obtain ⟨cur, h⟩ := row_ty h4 hj
    rw [h] at h'
    simp at h'
  have hl : (L ++ [x]).length = L.length + 1 := by simp
  refine ⟨gg, cap, w6, hrun, L ++ [x], by rw [hl]; exact hown, ?_, fun y hy => ?_, ?_, by rw [hl]; omega, ?_, h7.trans hb6⟩
  · rw [sendL_succ, if_pos ha, ← h2, ← hr]; simp
  · rcases List.mem_append.1 hy with hy | hy
    · exact (h3 y hy).fr hF6 hno
    · rw [List.mem_singleton.1 hy]; exact hx.fr hF6 hno
  · rw [wantL_succ, if_neg (by omega), List.append_nil]
    exact row_fr h4 hF6 hno2
  · rw [wantL_succ, if_neg (by omega), List.append_nil]; omega
theorem MisM.want {w W : World} {f : Sf} {g : Nat → Ed} {k : Nat} {u v : Value} (h : MisM w W f g k u v) (hk : k < 25) (ha : ansF f g k = -1) :
    ∃ gg cap w6, (Builtin.append_ #[46, 46] 46 #[v, .slice (some ⟨W.heap.size, 0, none⟩) 1 1]).run Try.prog (W.alloc (.cells (ic (k : Int)).toArray 3)) = .ok (.slice (some ⟨gg, 0, none⟩) ((wantL f g k).length + 1) cap) w6 ∧ MisM w w6 f g (k + 1) u (.slice (some ⟨gg, 0, none⟩) ((wantL f g k).length + 1) cap) := by
  obtain ⟨L, h1, h2, h3, h4, h5, h6, h7⟩ := h
  obtain ⟨gg, cap, w6, hrun, hown, _, hg6, hb6⟩ := append_in h4 (k : Int) (by omega) h7.size
  have hF6 : Fr (fun j => v.ownBlock = some j) W w6 := ⟨hg6.os, hg6.tape, hg6.output, hg6.size, fun j hj hn => hg6.block j hj (fun e => hn e.symm)⟩
  have hl : (wantL f g (k + 1)) = wantL f g k ++ [(k : Int)] := by rw [wantL_succ, if_pos ha]
  refine ⟨gg, cap, w6, hrun, L, row_fr h1 hF6 (fun j hj hv => ?_), ?_, fun y hy => (h3 y hy).fr hF6 (fun j cur hj hv => ?_), by rw [hl, List.length_append]; exact hown, by omega, by rw [hl, List.length_append]; simp; omega, h7.trans hb6⟩
  · obtain ⟨c1, e1⟩ := row_ty h1 hj
    obtain ⟨c2, e2⟩ := row_ty h4 hv
    rw [e1] at e2
    simp at e2
  · rw [sendL_succ, if_neg (by omega), List.append_nil]; exact h2
  · obtain ⟨c2, e2⟩ := row_ty h4 hv
    rw [hj] at e2
    simp at e2
theorem MisM.none {w W : World} {f : Sf} {g : Nat → Ed} {k : Nat} {u v : Value} (h : MisM w W f g k u v) (ha : ansF f g k = 0) : MisM w W f g (k + 1) u v := by
  obtain ⟨L, h1, h2, h3, h4, h5, h6, h7⟩ := h
  have e1 : sendL f g (k + 1) = sendL f g k := by rw [sendL_succ, if_neg (by omega), List.append_nil]
  have e2 : wantL f g (k + 1) = wantL f g k := by rw [wantL_succ, if_neg (by omega), List.append_nil]
  refine ⟨L, h1, by rw [e1]; exact h2, h3, ?_, by omega, ?_, h7⟩
  · rw [e2]; exact h4
  · rw [e2]; omega
theorem MisM.shape {w W : World} {f : Sf} {g : Nat → Ed} {k : Nat} {u v : Value} (h : MisM w W f g k u v) : ∃ a c b d, u = .slice a (sendL f g k).length c ∧ v = .slice b (wantL f g k).length d := by
  obtain ⟨L, h1, h2, _, h4, _⟩ := h
  obtain ⟨a, c, e1⟩ := row_shape h1
  obtain ⟨b, d, e2⟩ := row_shape h4
  have : (sendL f g k).length = L.length := by rw [← h2, List.length_map]
  exact ⟨a, c, b, d, by rw [this]; exact e1, e2⟩
end Go.Proofs.Ytpdpdhnllmlfdaa
namespace Go.Proofs.Ytpdpdhnllmlfdaa
open Go.RowKit Go.Maps

set_option maxRecDepth 100000 in
set_option maxHeartbeats 2000000 in
theorem smissing_any {S M n : Nat} {f : Sf} {l : List Ed} {v : Value} {w : World} (h : StAt w S M n f) (hv : SlAt sc3 3 w v l) (hB : ∀ y ∈ l, (0 ≤ y.2.1 ∧ y.2.1 < 4294967296) ∧ 0 ≤ y.2.2 ∧ y.2.2 < 4294967296) :
    Calls Try.prog 25 #[ptr S, v] w fun e w' => MisAns w w' f (byS l) e ∧ Below w.heap.size w w' := by
  have HS := hidIn h
  have HT := hidIn (there_any h)
  have HBy := hidIn (byOrigin_any hv hB)
  obtain ⟨aa, cap, rfl, hq⟩ := hv
  clear h hq hB
  go_enter Try.func25, Try.ntmps25
  go_wp2_with fail
  refine HT.out.mono ?_
  rintro e w1 ⟨rfl, h1⟩
  rw [h1]
  clear HT h1 w1
  go_wp2_with fail
  refine HBy.out.mono ?_
  rintro e w2 ⟨h2, hb2⟩
  have HB2 := hidIn hb2
  clear HBy hb2
  have hz := zeroSts
  obtain ⟨G0, hG0⟩ : ∃ G0, (gs no3).toArray = G0 := ⟨_, rfl⟩
  have HA2 : Hid (Arr (w2.alloc (.cells G0 84)) w2.heap.size 84 (gs no3)) := hidIn (by
    show (w2.alloc (.cells G0 84)).heap[w2.heap.size]? = _
    rw [hG0]
    exact heap_alloc_last w2 _)
  have HG0 := hidIn hG0
  rw [hG0] at hz
  clear hG0
  rcases h2 with ⟨g, hg, rfl⟩ | ⟨hno, rfl⟩
  · have Hg := hidIn hg
    clear hg
    go_upto_region 6 with (refine l_storeS rfl _ _ rfl w2.heap.size g no3 rfl rfl HA2.out ?_; intro W3 hWr hWb)
    have HWr := hidIn hWr
    have HB3 : Hid (Below w.heap.size w W3) := hidIn ((HB2.out.alloc HB2.out.size (.cells G0 84)).trans (hWb _ HB2.out.size))
    have HAg := hidIn (against_any (g := g) (HS.out.keep HB3.out))
    clear hWr hWb hz
    go_wp2_with (refine l_loadS rfl _ rfl w2.heap.size g rfl HWr.out ?_)
    refine HAg.out.mono ?_
    rintro e w4 ⟨rfl, hb4⟩
    have HB4 := hidIn (HB3.out.trans (hb4.mono HB3.out.size))
    have HS4 := hidIn (HS.out.keep HB4.out)
    obtain ⟨RA, hRA⟩ : ∃ RA, (rcl (ansF f g)).toArray = RA := ⟨_, rfl⟩
    have HIx : Hid (∀ (k : Nat), k < 25 → ∀ w, (Instr.index 88 (.agg RA) (.int .i64 k)).run Try.prog w = .ok (.int .i64 (ansF f g k)) w) := hidIn fun k hk w => by rw [← hRA]; exact indexAns _ hk w
    rw [hRA]
    clear hRA hb4 HAg HB3 HWr
    go_wp2_with fail
    go_loopw [4, 5, 24] (fun u v q wr => ∃ k : Nat, k ≤ 25 ∧ q = .int .i64 k ∧ Hid (MisM w4 wr f g k u v)) (fun _ _ q _ => 25 - (intOf q).toNat)
    case atStart => exact ⟨0, Nat.zero_le _, rfl, hidIn ⟨[], World.ownsRow_nil _ _ _ _, rfl, fun x hx => by simp at hx, World.ownsRow_nil _ _ _ _, Nat.le_refl _, Nat.le_refl _, Below.refl _ _⟩⟩
    case round =>
      obtain ⟨k, hk, rfl, HR⟩ := hrel
      obtain ⟨a1, c1, a2, c2, rfl, rfl⟩ := HR.out.shape
      by_cases hlt : k < 25
      · have hki : (k : Int) < 25 := by omega
        have hix := HIx.out k hlt
        rcases ansF_vals f g k with ha | ha | ha
        · rw [ha] at hix
          obtain ⟨gg, gcap, w6, hrun, hM⟩ := HR.out.want hlt ha
          have HRun := hidIn hrun
          have HO := hidIn hM
          clear HR hrun hM ha
          generalize (sendL f g k).length = l1 at HO ⊢
          generalize (wantL f g k).length = l2 at HO HRun ⊢
          go_wp2_with (refine l_append rfl _ _ 46 rfl HRun.out ?_)
          go_roundw
          case rel => exact ⟨k + 1, by omega, by go_num, HO⟩
          case measure => simp [intOf]; omega
        · rw [ha] at hix
          have HO := hidIn (HR.out.none ha)
          clear HR ha
          generalize (sendL f g k).length = l1 at HO ⊢
          generalize (wantL f g k).length = l2 at HO ⊢
          go_wp2_with fail
          go_roundw
          case rel => exact ⟨k + 1, by omega, by go_num, HO⟩
          case measure => simp [intOf]; omega
        · rw [ha] at hix
          have hbr : Below w4.heap.size w4 wr := by obtain ⟨_, _, _, _, _, _, _, h⟩ := HR.out; exact h
          have hSr := HS4.out.keep hbr
          have h0 := hSr.slot
          have hSl := hSr.lts.1
          have HL : Hid (∀ wq, Below wr.heap.size wr wq → (Instr.lookup 65 (.map (some M)) (.int .i64 (k : Int)) false).run Try.prog wq = .ok (recV (rOf (f (k : Int))) (uOf (f (k : Int)))) wq) := hidIn fun wq hq => by
            have := (hSr.keep hq).m.look1 (x := (k : Int)) (wf9 (by omega))
            rw [sV_get] at this
            exact this
          obtain ⟨hu, hu16, _⟩ := hSr.u (k : Int)
          have HC := hidIn (copied_any hu (by omega))
          obtain ⟨ua, ucap, hue, _⟩ := hu
          rw [hue] at HL HC
          have Hba := hidIn ha
          have hlw : w4.heap.size ≤ wr.heap.size := hbr.size
          have Hlw := hidIn hlw
          clear hSr hue hu16 hbr ha hlw
          generalize hro : rOf (f (k : Int)) = r at HL HC
          have Hro := hidIn hro
          clear hro
          obtain ⟨ro, re, rs, rc, ri, rl⟩ := r
          simp only at HL HC
          generalize rl.length = nl at HL HC
          go_wp2_with (refine l_look rfl _ _ 65 false rfl (HL.out _ (Below.refl _ _)) ?_)
          refine HC.out.mono ?_
          rintro e w5 ⟨⟨a, c, rfl, hs, hn, hf⟩, hb5⟩
          simp only at hs hn ⊢
          obtain ⟨gg, gcap, w6, hrun, hM⟩ := (HR.out.keep hb5).send hlt Hba.out (x := (⟨ro, re, rs, rc, ri, rl⟩, .slice a rl.length c)) ⟨a, c, rfl, hs, hn, (show Fresh wr w5 a from hf).old Hlw.out⟩ Hro.out.symm
          have HRun := hidIn hrun
          have HO := hidIn hM
          clear HR hrun hM hs hn hf hb5 HC HL h0
          generalize rl.length = nl2 at HRun ⊢
          generalize (sendL f g k).length = l1 at HO HRun ⊢
          generalize (wantL f g k).length = l2 at HO ⊢
          go_wp2_with (refine l_append rfl _ _ 22 rfl HRun.out ?_)
          go_roundw
          case rel => exact ⟨k + 1, by omega, by go_num, HO⟩
          case measure => simp [intOf]; omega
      · have hki : ¬ (k : Int) < 25 := by omega
        obtain rfl : k = 25 := by omega
        have HO : Hid (MisAns w wr f (byS l) (.returned (.tuple #[.slice a1 (sendL f g 25).length c1, .slice a2 (wantL f g 25).length c2, .int .i64 0])) ∧ Below w.heap.size w wr) := hidIn (by
          obtain ⟨L, h1, h2, h3, h4, h5, h6, h7⟩ := HR.out
          refine ⟨.inr ⟨g, _, _, L, Hg.out, rfl, row_low h1 HB4.out.size, h2, fun x hx => ?_, row_low h4 HB4.out.size⟩, HB4.out.trans (h7.mono HB4.out.size)⟩
          obtain ⟨a', c', e1, e2, e3, e4⟩ := h3 x hx
          exact ⟨a', c', e1, e2, e3, e4.old HB4.out.size⟩)
        clear HR
        generalize (sendL f g 25).length = l1 at HO ⊢
        generalize (wantL f g 25).length = l2 at HO ⊢
        go_wp2_with fail
        go_returns
        exact HO.out
  · have Hno := hidIn hno
    clear hno
    go_wp2_with (refine l_storeS rfl _ _ rfl w2.heap.size no3 no3 rfl rfl HA2.out ?_; intro W3 hWr hWb)
    go_returns
    exact ⟨.inl ⟨Hno.out, rfl⟩, (HB2.out.alloc HB2.out.size (.cells G0 84)).trans (hWb _ HB2.out.size)⟩
end Go.Proofs.Ytpdpdhnllmlfdaa
namespace Go.Proofs.Ytpdpdhnllmlfdaa
open Go.RowKit Go.Maps

theorem StAt.org {w : World} {S M n : Nat} {f : Sf} (h : StAt w S M n f) {k : Int} {g : Rc} (hk : fR f k = some g) : recOk g = true ∧ g.origin = k ∧ 0 ≤ g.epoch ∧ 0 ≤ g.seq := by
  unfold fR at hk
  cases h1 : f k with
  | none => rw [h1] at hk; cases hk
  | some p =>
    rw [h1] at hk
    simp at hk
    obtain ⟨r, u⟩ := p
    simp at hk
    subst hk
    obtain ⟨a, b, _, _, c, d⟩ := h.v k r u h1
    exact ⟨a, b, c, d⟩
/-- Records laid by their origins. -/
def layR (F : Rf) (r : Rc) : Rf := putO F r.origin r
theorem lay_all {F : Rf} (hF : ∀ k g, F k = some g → g.origin = k ∧ 1 ≤ k ∧ k ≤ 24) : ∀ n, n ≤ 24 → ∀ k, (allR F n).foldl layR noR9 k = if 1 ≤ k ∧ k ≤ (n : Int) then F k else none
  | 0, _, k => by
    rw [if_neg (by omega)]
    rfl
  | n + 1, hn, k => by
    have he : allR F (n + 1) = allR F n ++ (F ((n : Int) + 1)).toList := by
      unfold allR
      rw [List.range_succ, List.filterMap_append]
      cases hq : F ((n : Int) + 1) <;> simp [hq]
    have ih := lay_all hF n (by omega)
    rw [he, List.foldl_append]
    cases hq : F ((n : Int) + 1) with
    | none =>
      simp only [Option.toList_none, List.foldl_nil]
      rw [ih k]
      by_cases hk : k = (n : Int) + 1
      · rw [hk, if_neg (by omega), if_pos (by omega), hq]
      · by_cases h1 : 1 ≤ k ∧ k ≤ (n : Int)
        · rw [if_pos h1, if_pos (by omega)]
        · rw [if_neg h1, if_neg (by omega)]
    | some g =>
      simp only [Option.toList_some, List.foldl_cons, List.foldl_nil]
      have hg := (hF _ g hq).1
      show putO (List.foldl layR noR9 (allR F n)) g.origin g k = _
      rw [hg]
      by_cases hk : k = (n : Int) + 1
      · rw [hk, putO_same, if_pos (by omega), hq]
      · rw [putO_other _ _ hk, ih k]
        by_cases h1 : 1 ≤ k ∧ k ≤ (n : Int)
        · rw [if_pos h1, if_pos (by omega)]
        · rw [if_neg h1, if_neg (by omega)]
theorem lay_same {w : World} {S M n : Nat} {f : Sf} (h : StAt w S M n f) : (allR (fR f) 24).foldl layR noR9 = fR f := by
  have hF : ∀ k g, fR f k = some g → g.origin = k ∧ 1 ≤ k ∧ k ≤ 24 := fun k g hk => by
    have h1 := h.org hk
    have h2 := recOk_pos h1.1
    omega
  funext k
  rw [lay_all hF 24 (by omega) k]
  by_cases hk : 1 ≤ k ∧ k ≤ ((24 : Nat) : Int)
  · rw [if_pos hk]
  · rw [if_neg hk]
    cases hq : fR f k with
    | none => rfl
    | some g => have := hF k g hq; omega
theorem allR_of {F : Rf} {n : Nat} {g : Rc} (h : g ∈ allR F n) : ∃ k, F k = some g := by
  unfold allR at h
  obtain ⟨j, _, hj⟩ := List.mem_filterMap.1 h
  exact ⟨_, hj⟩
/-- One record laid into the map. -/
theorem StAt.upd {w : World} {S M n : Nat} {f : Sf} (h : StAt w S M n f) (hn : n < 1000000) {r : Rc} {u : Value} (hok : recOk r = true) (hu : SlAt ac 2 w u r.adjs) (hnil : NilOk u) (hp : 0 ≤ r.epoch ∧ 0 ≤ r.seq) :
    ∃ w', (Instr.mapUpdate 65 (.map (some M)) (.int .i64 r.origin) (recV r u)).run Try.prog w = .ok () w' ∧ StAt w' S M (n + 1) (putO f r.origin (r, u)) ∧ Fr (fun k => k = M) w w' := by
  obtain ⟨w6, hrun, hm6, hF6⟩ := h.m.put hn (x := r.origin) (wf9 (by have := (recOk_parts hok).1; omega)) (recV r u)
  have hSM : ¬ S = M := fun e => by
    have h1 := h.p
    obtain ⟨es, cl, hb⟩ := h.m.isMap
    rw [e, hb] at h1
    cases h1
  refine ⟨w6, hrun, ⟨(hF6.block S (block_lt h.p) hSM).trans h.p, ?_, fun k r' u' hk => ?_⟩, hF6⟩
  · have he : putO (sV f) r.origin (recV r u) = sV (putO f r.origin (r, u)) := by
      funext j
      unfold sV putO
      by_cases hj : j = r.origin
      · rw [if_pos hj, if_pos hj]; rfl
      · rw [if_neg hj, if_neg hj]
    rw [← he]
    exact hm6
  · by_cases hj : k = r.origin
    · rw [hj, putO_same] at hk
      simp only [Option.some.injEq, Prod.mk.injEq] at hk
      obtain ⟨rfl, rfl⟩ := hk
      exact ⟨hok, hj.symm, hu.keepM hF6 h.m.isMap (by omega) (fun _ => rfl), hnil, hp⟩
    · rw [putO_other f _ hj] at hk
      obtain ⟨h1, h2, h3, h4⟩ := h.v k r' u' hk
      exact ⟨h1, h2, h3.keepM hF6 h.m.isMap (by omega) (fun _ => rfl), h4⟩
/-- A copy. -/
def CpyAns (w w' : World) (f : Sf) (e : Ending) : Prop := ∃ S' M' f', e = .returned (ptr S') ∧ StAt w' S' M' 24 f' ∧ fR f' = fR f ∧ w.heap.size ≤ S' ∧ w.heap.size ≤ M'
end Go.Proofs.Ytpdpdhnllmlfdaa
namespace Go.Proofs.Ytpdpdhnllmlfdaa
open Go.RowKit Go.Maps

/-- What a store may have. -/
def OkF (F : Rf) : Prop := ∀ k g, F k = some g → recOk g = true ∧ g.origin = k
theorem runR_okF (rs : List Rc) : OkF (runR rs) := fun k g hg => ⟨((runR_is rs k).1 g hg).ok, ((runR_is rs k).1 g hg).org⟩
def stD (o : Option Rc) : Ed := (o.map stOf).getD (0, 0, 0)
theorem allR_succ (F : Rf) (n : Nat) : allR F (n + 1) = allR F n ++ (F ((n : Int) + 1)).toList := by
  unfold allR
  rw [List.range_succ, List.filterMap_append]
  cases hq : F ((n : Int) + 1) <;> simp [hq]
theorem mayS_ok {g : Rc} (h : recOk g = true) : mayS g.origin g.epoch g.seq = true := by
  have := recOk_pos h
  simp [mayS, isR]
  omega
theorem byS_all {F : Rf} (hF : OkF F) : ∀ n, n ≤ 24 → byS ((allR F n).map stOf) = some (fun i => if 1 ≤ i ∧ i ≤ n then stD (F (i : Int)) else (0, 0, 0))
  | 0, _ => by
    show some no3 = _
    congr 1
    funext i
    rw [if_neg (by omega)]
    rfl
  | n + 1, hn => by
    have ih := byS_all hF n (by omega)
    rw [allR_succ, List.map_append]
    unfold byS at ih ⊢
    rw [List.foldl_append, ih]
    cases hq : F ((n : Int) + 1) with
    | none =>
      simp only [Option.toList_none, List.map_nil, List.foldl_nil]
      congr 1
      funext i
      by_cases hi : i = n + 1
      · subst hi
        rw [if_neg (by omega), if_pos (by omega)]
        have : F ((n + 1 : Nat) : Int) = none := by rw [← hq]; congr 1
        rw [this]
        rfl
      · by_cases h1 : 1 ≤ i ∧ i ≤ n
        · rw [if_pos h1, if_pos (by omega)]
        · rw [if_neg h1, if_neg (by omega)]
    | some g =>
      obtain ⟨hok, horg⟩ := hF _ g hq
      simp only [Option.toList_some, List.map_cons, List.map_nil, List.foldl_cons, List.foldl_nil]
      unfold addS
      simp only [Option.bind_some]
      have ht : (stOf g).1.toNat = n + 1 := by show g.origin.toNat = n + 1; omega
      have hc : mayS (stOf g).1 (stOf g).2.1 (stOf g).2.2 = true ∧ (if 1 ≤ (stOf g).1.toNat ∧ (stOf g).1.toNat ≤ n then stD (F (((stOf g).1.toNat : Nat) : Int)) else (0, 0, 0)) = (0, 0, 0) := ⟨mayS_ok hok, by rw [ht, if_neg (by omega)]⟩
      rw [if_pos hc, ht]
      congr 1
      funext i
      unfold upS
      by_cases hi : i = n + 1
      · subst hi
        rw [if_pos rfl, if_pos (by omega)]
        have : F ((n + 1 : Nat) : Int) = some g := by rw [← hq]; congr 1
        rw [this]
        rfl
      · rw [if_neg hi]
        show (if 1 ≤ i ∧ i ≤ n then stD (F (i : Int)) else (0, 0, 0)) = _
        by_cases h1 : 1 ≤ i ∧ i ≤ n
        · rw [if_pos h1, if_pos (by omega)]
        · rw [if_neg h1, if_neg (by omega)]
/-- How one store stands to another at a router. -/
def vsF (A B : Rf) (i : Nat) : Int := newI (gD (A (i : Int))).epoch (gD (A (i : Int))).seq (gD (B (i : Int))).epoch (gD (B (i : Int))).seq
theorem OkF.out {F : Rf} (h : OkF F) {k : Int} (hk : ¬ (1 ≤ k ∧ k ≤ 24)) : F k = none := by
  cases hq : F k with
  | none => rfl
  | some g =>
    obtain ⟨h1, h2⟩ := h k g hq
    have := recOk_pos h1
    omega
theorem ansF_vs {f : Sf} {B : Rf} (hB : OkF B) (i : Nat) : ansF f (fun i => if 1 ≤ i ∧ i ≤ 24 then stD (B (i : Int)) else (0, 0, 0)) i = vsF (fR f) B i := by
  unfold ansF vsF
  simp only
  rw [rOf_fR]
  by_cases hi : 1 ≤ i ∧ i ≤ 24
  · rw [if_pos hi]
    cases hq : B (i : Int) <;> rfl
  · rw [if_neg hi, hB.out (k := (i : Int)) (by omega)]
    rfl
/-- Who is sent, who is wanted. -/
def sndR (A B : Rf) (n : Nat) : List Rc := (List.range n).filterMap fun (i : Nat) => if vsF A B i = 1 then some (gD (A (i : Int))) else none
def wntR (A B : Rf) (n : Nat) : List Int := (List.range n).filterMap fun (i : Nat) => if vsF A B i = -1 then some (i : Int) else none
theorem OkF.nn {F : Rf} (h : OkF F) (k : Int) : 0 ≤ (gD (F k)).epoch ∧ 0 ≤ (gD (F k)).seq := by
  cases hq : F k with
  | none => exact ⟨Int.le_refl _, Int.le_refl _⟩
  | some g =>
    have := recOk_pos (h k g hq).1
    show 0 ≤ g.epoch ∧ 0 ≤ g.seq
    omega
theorem vs_some {A B : Rf} (hA : OkF A) (hB : OkF B) {i : Nat} (h : vsF A B i = 1) : ∃ g, A (i : Int) = some g ∧ recOk g = true ∧ g.origin = (i : Int) ∧ nwR B g = 1 := by
  cases hq : A (i : Int) with
  | none =>
    unfold vsF at h
    rw [hq] at h
    have h1 := (newI_pos 0 0 (gD (B (i : Int))).epoch (gD (B (i : Int))).seq).1 h
    have h2 := hB.nn (i : Int)
    omega
  | some g =>
    obtain ⟨h1, h2⟩ := hA _ g hq
    refine ⟨g, rfl, h1, h2, ?_⟩
    unfold vsF at h
    rw [hq] at h
    unfold nwR
    rw [h2]
    exact h
theorem sndR_mem {A B : Rf} (hA : OkF A) (hB : OkF B) {n : Nat} {g : Rc} (h : g ∈ sndR A B n) : ∃ i, i < n ∧ vsF A B i = 1 ∧ A (i : Int) = some g ∧ recOk g = true ∧ g.origin = (i : Int) ∧ nwR B g = 1 := by
  unfold sndR at h
  obtain ⟨i, hi, hg⟩ := List.mem_filterMap.1 h
  by_cases hv : vsF A B i = 1
  · rw [if_pos hv] at hg
    obtain ⟨g', h1, h2⟩ := vs_some hA hB hv
    rw [h1] at hg
    cases hg
    exact ⟨i, by simpa using hi, hv, h1, h2⟩
  · rw [if_neg hv] at hg
    cases hg
theorem sndR_nd {A B : Rf} (hA : OkF A) (hB : OkF B) : ∀ n, (sndR A B n).Pairwise fun a b => a.origin ≠ b.origin
  | 0 => by simp [sndR]
  | n + 1 => by
    have he : sndR A B (n + 1) = sndR A B n ++ (if vsF A B n = 1 then [gD (A (n : Int))] else []) := by
      unfold sndR
      rw [List.range_succ, List.filterMap_append]
      by_cases h : vsF A B n = 1 <;> simp [h]
    rw [he, List.pairwise_append]
    refine ⟨sndR_nd hA hB n, by split <;> simp, fun a ha b hb => ?_⟩
    obtain ⟨i, hi, _, _, _, h1, _⟩ := sndR_mem hA hB ha
    by_cases hv : vsF A B n = 1
    · rw [if_pos hv, List.mem_singleton] at hb
      obtain ⟨g', h2, _, h3, _⟩ := vs_some hA hB hv
      rw [hb, h2, h1]
      show (i : Int) ≠ g'.origin
      omega
    · rw [if_neg hv] at hb; simp at hb
/-- A store over which records were laid. -/
structure Ov (B F : Rf) (s : List Rc) : Prop where
  out : ∀ j, (∀ x ∈ s, x.origin ≠ j) → F j = B j
  has : ∀ x ∈ s, F x.origin = some x
theorem ov_nil (B : Rf) : Ov B B [] := ⟨fun _ _ => rfl, fun x hx => by simp at hx⟩
theorem Ov.step {B F : Rf} {s : List Rc} {x : Rc} (h : Ov B F s) (hok : recOk x = true) (hn : nwR B x = 1) (hd : ∀ y ∈ s, y.origin ≠ x.origin) : pnR F x = 1 ∧ Ov B (putR F x) (s ++ [x]) := by
  have hF : F x.origin = B x.origin := h.out _ hd
  have hnF : nwR F x = 1 := by unfold nwR; rw [hF]; exact hn
  refine ⟨by unfold pnR; rw [if_pos hok, hnF], ?_⟩
  unfold putR
  rw [if_pos ⟨hok, hnF⟩]
  refine ⟨fun j hj => ?_, fun y hy => ?_⟩
  · rw [putO_other _ _ (fun e => hj x (by simp) e.symm)]
    exact h.out j (fun y hy => hj y (by simp [hy]))
  · rcases List.mem_append.1 hy with hy | hy
    · rw [putO_other _ _ (hd y hy)]; exact h.has y hy
    · rw [List.mem_singleton.1 hy, putO_same]
theorem vs_neg (A B : Rf) (i : Nat) : vsF B A i = - vsF A B i := newI_neg _ _ _ _
theorem wntR_mem {A B : Rf} {n : Nat} {k : Int} (h : k ∈ wntR A B n) : ∃ i : Nat, i < n ∧ k = (i : Int) ∧ vsF A B i = -1 := by
  unfold wntR at h
  obtain ⟨i, hi, hg⟩ := List.mem_filterMap.1 h
  by_cases hv : vsF A B i = -1
  · rw [if_pos hv] at hg
    cases hg
    exact ⟨i, by simpa using hi, rfl, hv⟩
  · rw [if_neg hv] at hg
    cases hg
theorem wntR_nd (A B : Rf) : ∀ n, (wntR A B n).Pairwise fun a b => a ≠ b
  | 0 => by simp [wntR]
  | n + 1 => by
    have he : wntR A B (n + 1) = wntR A B n ++ (if vsF A B n = -1 then [(n : Int)] else []) := by
      unfold wntR
      rw [List.range_succ, List.filterMap_append]
      by_cases h : vsF A B n = -1 <;> simp [h]
    rw [he, List.pairwise_append]
    refine ⟨wntR_nd A B n, by split <;> simp, fun a ha b hb => ?_⟩
    obtain ⟨i, hi, h1, _⟩ := wntR_mem ha
    by_cases hv : vsF A B n = -1
    · rw [if_pos hv, List.mem_singleton] at hb
      omega
    · rw [if_neg hv] at hb; simp at hb
/-- What the wanted one is, with the store that has got what was sent. -/
theorem want_is {A B B' : Rf} (hA : OkF A) (hB : OkF B) (h : Ov B B' (sndR A B 25)) {k : Int} (hk : k ∈ wntR A B 25) : ∃ g, B' k = some g ∧ recOk g = true ∧ g.origin = k ∧ nwR A g = 1 := by
  obtain ⟨i, hi, rfl, hv⟩ := wntR_mem hk
  have h1 : B' (i : Int) = B (i : Int) := h.out _ (fun x hx e => by
    obtain ⟨j, _, hj, _, _, h2, _⟩ := sndR_mem hA hB hx
    have : j = i := by omega
    subst this
    omega)
  obtain ⟨g, h2, h3, h4, h5⟩ := vs_some hB hA (i := i) (by rw [vs_neg]; omega)
  exact ⟨g, by rw [h1, h2], h3, h4, h5⟩
/-- In the end both have the same stamps. -/
theorem whole_same {A B A' B' : Rf} (hA : OkF A) (hB : OkF B) (h : Ov B B' (sndR A B 25)) {s : List Rc} (h' : Ov A A' s) (hs : ∀ g, g ∈ s ↔ ∃ k ∈ wntR A B 25, B' k = some g) (k : Int) : (A' k).map stOf = (B' k).map stOf := by
  by_cases hk : 1 ≤ k ∧ k ≤ 24
  · obtain ⟨i, rfl⟩ : ∃ i : Nat, k = (i : Int) := ⟨k.toNat, by omega⟩
    have hi : i < 25 := by omega
    have hA' : vsF A B i ≠ -1 → A' (i : Int) = A (i : Int) := fun hv => h'.out _ (fun x hx e => by
      obtain ⟨k, hk1, hk2⟩ := (hs x).1 hx
      obtain ⟨g, hg1, _, hg3, _⟩ := want_is hA hB h hk1
      rw [hg1] at hk2
      cases hk2
      obtain ⟨j, _, hj, hj2⟩ := wntR_mem hk1
      have : j = i := by omega
      subst this
      exact hv hj2)
    have hB' : vsF A B i ≠ 1 → B' (i : Int) = B (i : Int) := fun hv => h.out _ (fun x hx e => by
      obtain ⟨j, _, hj, _, _, h2, _⟩ := sndR_mem hA hB hx
      have : j = i := by omega
      subst this
      exact hv hj)
    rcases newI_vals (gD (A (i : Int))).epoch (gD (A (i : Int))).seq (gD (B (i : Int))).epoch (gD (B (i : Int))).seq with hv | hv | hv
    · have hv' : vsF A B i = -1 := hv
      rw [hB' (by omega)]
      obtain ⟨g, h2, h3, h4, h5⟩ := vs_some hB hA (i := i) (by rw [vs_neg]; omega)
      have hm : (i : Int) ∈ wntR A B 25 := by
        unfold wntR
        exact List.mem_filterMap.2 ⟨i, by simpa using hi, by rw [if_pos hv']⟩
      have := h'.has g ((hs g).2 ⟨(i : Int), hm, by rw [hB' (by omega)]; exact h2⟩)
      rw [h4] at this
      rw [this, h2]
    · have hv' : vsF A B i = 0 := hv
      rw [hA' (by omega), hB' (by omega)]
      have hz := (newI_zero _ _ _ _).1 hv
      cases hqa : A (i : Int) with
      | none =>
        cases hqb : B (i : Int) with
        | none => rfl
        | some g =>
          rw [hqa, hqb] at hz
          have := recOk_pos (hB _ g hqb).1
          simp only [gD, Option.getD_none, Option.getD_some, rc0] at hz
          omega
      | some a =>
        cases hqb : B (i : Int) with
        | none =>
          rw [hqa, hqb] at hz
          have := recOk_pos (hA _ a hqa).1
          simp only [gD, Option.getD_none, Option.getD_some, rc0] at hz
          omega
        | some b =>
          rw [hqa, hqb] at hz
          have h1 := (hA _ a hqa).2
          have h2 := (hB _ b hqb).2
          simp only [gD, Option.getD_some] at hz
          simp only [Option.map_some, stOf, Option.some.injEq, Prod.mk.injEq]
          omega
    · have hv' : vsF A B i = 1 := hv
      rw [hA' (by omega)]
      obtain ⟨g, h2, h3, h4, h5⟩ := vs_some hA hB hv'
      have hm : g ∈ sndR A B 25 := by
        unfold sndR
        exact List.mem_filterMap.2 ⟨i, by simpa using hi, by rw [if_pos hv', h2]; rfl⟩
      have := h.has g hm
      rw [h4] at this
      rw [this, h2]
  · have hA' : A' k = A k := h'.out _ (fun x hx e => by
      obtain ⟨k', hk1, hk2⟩ := (hs x).1 hx
      obtain ⟨g, hg1, hg2, hg3, _⟩ := want_is hA hB h hk1
      rw [hg1] at hk2
      cases hk2
      have := recOk_pos hg2
      omega)
    have hB' : B' k = B k := h.out _ (fun x hx e => by
      obtain ⟨j, _, _, _, h1, h2, _⟩ := sndR_mem hA hB hx
      have := recOk_pos h1
      omega)
    rw [hA', hB', hA.out hk, hB.out hk]
theorem send_vs {f : Sf} {B : Rf} (hB : OkF B) : sendL f (fun i => if 1 ≤ i ∧ i ≤ 24 then stD (B (i : Int)) else (0, 0, 0)) 25 = sndR (fR f) B 25 ∧ wantL f (fun i => if 1 ≤ i ∧ i ≤ 24 then stD (B (i : Int)) else (0, 0, 0)) 25 = wntR (fR f) B 25 := by
  unfold sendL wantL sndR wntR
  constructor
  · congr
    funext i
    rw [ansF_vs hB i]
    rfl
  · congr
    funext i
    rw [ansF_vs hB i]
theorem none_left {A B : Rf} (h : ∀ k, (A k).map stOf = (B k).map stOf) : sndR A B 25 = [] ∧ wntR A B 25 = [] := by
  have hv : ∀ i, vsF A B i = 0 := fun i => by
    unfold vsF
    have hi := h (i : Int)
    rw [newI_zero]
    cases hqa : A (i : Int) <;> cases hqb : B (i : Int) <;> rw [hqa, hqb] at hi <;> simp [stOf, gD] at hi ⊢
    omega
  unfold sndR wntR
  constructor
  · apply List.eq_nil_iff_forall_not_mem.2
    intro x hx
    obtain ⟨i, _, hg⟩ := List.mem_filterMap.1 hx
    rw [if_neg (by rw [hv]; omega)] at hg
    cases hg
  · apply List.eq_nil_iff_forall_not_mem.2
    intro x hx
    obtain ⟨i, _, hg⟩ := List.mem_filterMap.1 hx
    rw [if_neg (by rw [hv]; omega)] at hg
    cases hg
end Go.Proofs.Ytpdpdhnllmlfdaa
namespace Go.Proofs.Ytpdpdhnllmlfdaa
open Go.RowKit Go.Maps

def fdS (l : List Ed) (x : Int) : Option Ed := l.find? fun y => y.1 == x
def sD (o : Option Ed) : Ed := o.getD (0, 0, 0)
theorem fdS_no {l : List Ed} {k : Nat} {y : Ed} {x : Int} (h : l[k]? = some y) (hn : ¬ y.1 = x) : fdS (l.drop k) x = fdS (l.drop (k + 1)) x := by
  rw [drop_next h, fdS, List.find?_cons, show (y.1 == x) = false by simpa using hn]
  rfl
theorem fdS_yes {l : List Ed} {k : Nat} {y : Ed} {x : Int} (h : l[k]? = some y) (hn : y.1 = x) : fdS (l.drop k) x = some y := by
  rw [drop_next h, fdS, List.find?_cons, show (y.1 == x) = true by simpa using hn]
theorem fdS_end {l : List Ed} {x : Int} : fdS (l.drop l.length) x = none := by rw [List.drop_length]; rfl
def FdAns (o : Option Ed) (e : Ending) : Prop := e = .returned (.tuple #[stV (sD o).1 (sD o).2.1 (sD o).2.2, .bool o.isSome])
def stZ (w wr : World) : Prop := wr.heap[w.heap.size]? = some (.cells #[.int .i64 0, .int .u32 0, .int .u32 0] 71) ∧ Below w.heap.size w wr
set_option maxRecDepth 100000 in
set_option maxHeartbeats 2000000 in
theorem find_any {l : List Ed} {v : Value} {w : World} (h : SlAt sc3 3 w v l) (x : Int) :
    Calls Try.prog 47 #[v, .int .i64 x] w fun e w' => FdAns (fdS l x) e ∧ Below w.heap.size w w' := by
  have HV := hidIn h
  obtain ⟨a, cap, rfl, hl, hq⟩ := h
  obtain ⟨LL, hLL⟩ : ∃ LL, l.length = LL := ⟨_, rfl⟩
  rw [hLL] at HV hl ⊢
  have HLL := hidIn hLL
  clear hq hLL
  go_enter Try.func47, Try.ntmps47
  go_wp2_with fail
  go_loopw [6] (fun i wr => wr = w.alloc (.cells #[.int .i64 0, .int .u32 0, .int .u32 0] 71) ∧ ∃ k : Nat, k ≤ LL ∧ i = .int .i64 k ∧ Hid (fdS l x = fdS (l.drop k) x)) (fun i _ => LL - (intOf i).toNat)
  case atStart => exact ⟨rfl, 0, Nat.zero_le _, rfl, hidIn (by rw [List.drop_zero])⟩
  case round =>
    obtain ⟨hwr, k, hk, rfl, HE⟩ := hrel
    rw [hwr]
    clear hwr
    by_cases hlt : k < LL
    · obtain ⟨bk, o, rfl, hbk, hcell⟩ := HV.out.sts (by omega)
      obtain ⟨⟨s0, s1, s2⟩, hz⟩ : ∃ z, l[k]? = some z := ⟨l[k]'(by rw [HLL.out]; exact hlt), List.getElem?_eq_getElem _⟩
      obtain ⟨c0, c1, c2⟩ := hcell k _ hz
      simp only at c0 c1 c2
      have hki : (k : Int) < (LL : Int) := by omega
      have HZ := hidIn hz
      clear hcell hz
      by_cases hx : s0 = x
      · have h1 : (s0 == x) = true := by simpa using hx
        have HX := hidIn hx
        clear hx
        have hz : (w.alloc (.cells #[.int .i64 0, .int .u32 0, .int .u32 0] 71)).heap[w.heap.size]? = _ := heap_alloc_last w _
        obtain ⟨W, hW⟩ : ∃ W, w.alloc (.cells #[.int .i64 0, .int .u32 0, .int .u32 0] 71) = W := ⟨_, rfl⟩
        have HBW : Hid (Below w.heap.size w W) := hidIn (by rw [← hW]; exact (Below.refl _ w).alloc (Nat.le_refl _) _)
        rw [hW] at hz ⊢
        clear hW
        replace c0 := (HBW.out.cell (p := ⟨bk, o + k * 3, none⟩) hbk).trans c0
        replace c1 := (HBW.out.cell (p := ⟨bk, o + k * 3 + 1, none⟩) hbk).trans c1
        replace c2 := (HBW.out.cell (p := ⟨bk, o + k * 3 + 2, none⟩) hbk).trans c2
        have z0 := cell_of_row _ _ 0 _ _ _ hz
        have z1 := cell_of_row _ _ 1 _ _ _ hz
        have z2 := cell_of_row _ _ 2 _ _ _ hz
        have y0 := frozen_new hz 0
        have y1 := frozen_new hz 1
        have y2 := frozen_new hz 2
        simp at z0 z1 z2
        clear hz
        go_wp2_with fail
        refine bodyPost_ret (v := .tuple #[stV s0 s1 s2, .bool true]) (by simp [results, Try.results47, asAddr, Result.andThen, go_sem, z0, z1, z2]) rfl ⟨?_, ?_⟩
        · rw [HE.out, fdS_yes HZ.out HX.out]
          rfl
        · exact HBW.out.trans (by go_grown)
      · have h1 : (s0 == x) = false := by simpa using hx
        have HX := hidIn hx
        clear hx
        go_wp2_with fail
        go_roundw
        case rel => exact ⟨trivial, k + 1, by omega, by go_num, hidIn (HE.out.trans (fdS_no HZ.out HX.out))⟩
        case measure => simp [intOf]; omega
    · obtain rfl : k = LL := by omega
      have HN : Hid (fdS l x = none) := hidIn (by rw [HE.out, ← HLL.out]; exact fdS_end)
      clear HE
      have hz : (w.alloc (.cells #[.int .i64 0, .int .u32 0, .int .u32 0] 71)).heap[w.heap.size]? = _ := heap_alloc_last w _
      obtain ⟨W, hW⟩ : ∃ W, w.alloc (.cells #[.int .i64 0, .int .u32 0, .int .u32 0] 71) = W := ⟨_, rfl⟩
      have HBW : Hid (Below w.heap.size w W) := hidIn (by rw [← hW]; exact (Below.refl _ w).alloc (Nat.le_refl _) _)
      rw [hW] at hz ⊢
      clear hW
      have z0 := cell_of_row _ _ 0 _ _ _ hz
      have z1 := cell_of_row _ _ 1 _ _ _ hz
      have z2 := cell_of_row _ _ 2 _ _ _ hz
      have y0 := frozen_new hz 0
      have y1 := frozen_new hz 1
      have y2 := frozen_new hz 2
      simp at z0 z1 z2
      clear hz
      go_wp2_with fail
      refine bodyPost_ret (v := .tuple #[stV 0 0 0, .bool false]) (by simp [results, Try.results47, asAddr, Result.andThen, go_sem, z0, z1, z2]) rfl ⟨?_, ?_⟩
      · rw [HN.out]
        rfl
      · exact HBW.out.trans (by go_grown)
end Go.Proofs.Ytpdpdhnllmlfdaa
namespace Go.Proofs.Ytpdpdhnllmlfdaa
open Go.RowKit Go.Maps

def fdR (l : List (Rc × Value)) (x : Int) : Option (Rc × Value) := l.find? fun y => y.1.origin == x
theorem fdR_no {l : List (Rc × Value)} {k : Nat} {y : Rc × Value} {x : Int} (h : l[k]? = some y) (hn : ¬ y.1.origin = x) : fdR (l.drop k) x = fdR (l.drop (k + 1)) x := by
  rw [drop_next h, fdR, List.find?_cons, show (y.1.origin == x) = false by simpa using hn]
  rfl
theorem fdR_yes {l : List (Rc × Value)} {k : Nat} {y : Rc × Value} {x : Int} (h : l[k]? = some y) (hn : y.1.origin = x) : fdR (l.drop k) x = some y := by
  rw [drop_next h, fdR, List.find?_cons, show (y.1.origin == x) = true by simpa using hn]
theorem fdR_end {l : List (Rc × Value)} {x : Int} : fdR (l.drop l.length) x = none := by rw [List.drop_length]; rfl
def GdAns (o : Option (Rc × Value)) (e : Ending) : Prop := e = .returned (.tuple #[recV (rOf o) (uOf o), .bool o.isSome])
set_option maxRecDepth 100000 in
set_option maxHeartbeats 2000000 in
theorem dget_any {l : List (Rc × Value)} {v : Value} {w : World} (h : RecsAt w v l) (x : Int) :
    Calls Try.prog 16 #[v, .int .i64 x] w fun e w' => GdAns (fdR l x) e ∧ Below w.heap.size w w' := by
  obtain ⟨a, cap, rfl, hl, hcap, hat⟩ := h.r.recs
  have HA := hidIn h.a
  obtain ⟨LL, hLL⟩ : ∃ LL, l.length = LL := ⟨_, rfl⟩
  rw [hLL] at hat hl ⊢
  have Hat := hidIn hat
  have HLL := hidIn hLL
  clear hat hLL h hcap
  go_enter Try.func16, Try.ntmps16
  go_wp2_with fail
  go_loopw [6] (fun i wr => wr = w.alloc (.cells #[.int .i64 0, .int .u32 0, .int .u32 0, .int .i64 0, .bool false, .slice none 0 0] 28) ∧ ∃ k : Nat, k ≤ LL ∧ i = .int .i64 k ∧ Hid (fdR l x = fdR (l.drop k) x)) (fun i _ => LL - (intOf i).toNat)
  case atStart => exact ⟨rfl, 0, Nat.zero_le _, rfl, hidIn (by rw [List.drop_zero])⟩
  case round =>
    obtain ⟨hwr, k, hk, rfl, HE⟩ := hrel
    rw [hwr]
    clear hwr
    by_cases hlt : k < LL
    · obtain ⟨bk, o, rfl, hbk, hcell⟩ := Hat.out (by omega)
      obtain ⟨⟨⟨s0, s1, s2, s3, s4, as'⟩, va⟩, hz⟩ : ∃ z, l[k]? = some z := ⟨l[k]'(by rw [HLL.out]; exact hlt), List.getElem?_eq_getElem _⟩
      have hva := HA.out _ (List.mem_of_getElem? hz)
      simp only at hva
      obtain ⟨aa, acap, rfl, _⟩ := hva
      obtain ⟨an, han⟩ : ∃ an, as'.length = an := ⟨_, rfl⟩
      obtain ⟨c0, c1, c2, c3, c4, c5⟩ := hcell k _ hz
      simp only [han] at c0 c1 c2 c3 c4 c5
      rw [han] at hz
      have Han := hidIn han
      have hki : (k : Int) < (LL : Int) := by omega
      have HZ := hidIn hz
      clear hcell hz han
      by_cases hx : s0 = x
      · have h1 : (s0 == x) = true := by simpa using hx
        have HX := hidIn hx
        clear hx
        have hz : (w.alloc (.cells #[.int .i64 0, .int .u32 0, .int .u32 0, .int .i64 0, .bool false, .slice none 0 0] 28)).heap[w.heap.size]? = _ := heap_alloc_last w _
        obtain ⟨W, hW⟩ : ∃ W, w.alloc (.cells #[.int .i64 0, .int .u32 0, .int .u32 0, .int .i64 0, .bool false, .slice none 0 0] 28) = W := ⟨_, rfl⟩
        have HBW : Hid (Below w.heap.size w W) := hidIn (by rw [← hW]; exact (Below.refl _ w).alloc (Nat.le_refl _) _)
        rw [hW] at hz ⊢
        clear hW
        replace c0 := (HBW.out.cell (p := ⟨bk, o + k * 6, none⟩) hbk).trans c0
        replace c1 := (HBW.out.cell (p := ⟨bk, o + k * 6 + 1, none⟩) hbk).trans c1
        replace c2 := (HBW.out.cell (p := ⟨bk, o + k * 6 + 2, none⟩) hbk).trans c2
        replace c3 := (HBW.out.cell (p := ⟨bk, o + k * 6 + 3, none⟩) hbk).trans c3
        replace c4 := (HBW.out.cell (p := ⟨bk, o + k * 6 + 4, none⟩) hbk).trans c4
        replace c5 := (HBW.out.cell (p := ⟨bk, o + k * 6 + 5, none⟩) hbk).trans c5
        have z0 := cell_of_row _ _ 0 _ _ _ hz
        have z1 := cell_of_row _ _ 1 _ _ _ hz
        have z2 := cell_of_row _ _ 2 _ _ _ hz
        have z3 := cell_of_row _ _ 3 _ _ _ hz
        have z4 := cell_of_row _ _ 4 _ _ _ hz
        have z5 := cell_of_row _ _ 5 _ _ _ hz
        have y0 := frozen_new hz 0
        have y1 := frozen_new hz 1
        have y2 := frozen_new hz 2
        have y3 := frozen_new hz 3
        have y4 := frozen_new hz 4
        have y5 := frozen_new hz 5
        simp at z0 z1 z2 z3 z4 z5
        clear hz
        go_wp2_with fail
        refine bodyPost_ret (v := .tuple #[recV ⟨s0, s1, s2, s3, s4, as'⟩ (.slice aa an acap), .bool true]) (by simp [results, Try.results16, asAddr, Result.andThen, go_sem, z0, z1, z2, z3, z4, z5]) rfl ⟨?_, ?_⟩
        · rw [HE.out, fdR_yes HZ.out HX.out]
          rfl
        · exact HBW.out.trans (by go_grown)
      · have h1 : (s0 == x) = false := by simpa using hx
        have HX := hidIn hx
        clear hx
        go_wp2_with fail
        go_roundw
        case rel => exact ⟨trivial, k + 1, by omega, by go_num, hidIn (HE.out.trans (fdR_no HZ.out HX.out))⟩
        case measure => simp [intOf]; omega
    · obtain rfl : k = LL := by omega
      have HN : Hid (fdR l x = none) := hidIn (by rw [HE.out, ← HLL.out]; exact fdR_end)
      clear HE
      have hz : (w.alloc (.cells #[.int .i64 0, .int .u32 0, .int .u32 0, .int .i64 0, .bool false, .slice none 0 0] 28)).heap[w.heap.size]? = _ := heap_alloc_last w _
      obtain ⟨W, hW⟩ : ∃ W, w.alloc (.cells #[.int .i64 0, .int .u32 0, .int .u32 0, .int .i64 0, .bool false, .slice none 0 0] 28) = W := ⟨_, rfl⟩
      have HBW : Hid (Below w.heap.size w W) := hidIn (by rw [← hW]; exact (Below.refl _ w).alloc (Nat.le_refl _) _)
      rw [hW] at hz ⊢
      clear hW
      have z0 := cell_of_row _ _ 0 _ _ _ hz
      have z1 := cell_of_row _ _ 1 _ _ _ hz
      have z2 := cell_of_row _ _ 2 _ _ _ hz
      have z3 := cell_of_row _ _ 3 _ _ _ hz
      have z4 := cell_of_row _ _ 4 _ _ _ hz
      have z5 := cell_of_row _ _ 5 _ _ _ hz
      have y0 := frozen_new hz 0
      have y1 := frozen_new hz 1
      have y2 := frozen_new hz 2
      have y3 := frozen_new hz 3
      have y4 := frozen_new hz 4
      have y5 := frozen_new hz 5
      simp at z0 z1 z2 z3 z4 z5
      clear hz
      go_wp2_with fail
      refine bodyPost_ret (v := .tuple #[recV rc0 (.slice none 0 0), .bool false]) (by simp [results, Try.results16, asAddr, Result.andThen, go_sem, z0, z1, z2, z3, z4, z5, rc0]) rfl ⟨?_, ?_⟩
      · rw [HN.out]
        rfl
      · exact HBW.out.trans (by go_grown)
end Go.Proofs.Ytpdpdhnllmlfdaa
namespace Go.Proofs.Ytpdpdhnllmlfdaa
open Go.RowKit Go.Maps

/-- A record laid among others: those of its origin go, it stands ahead of the first that is above it. -/
def insR (r : Rc) : List Rc → Bool → List Rc
  | [], b => if b = true then [] else [r]
  | y :: l, b => if y.origin = r.origin then insR r l b else if b = false ∧ r.origin < y.origin then r :: y :: insR r l true else y :: insR r l b
def insP (x : Rc × Value) : List (Rc × Value) → Bool → List (Rc × Value)
  | [], b => if b = true then [] else [x]
  | y :: l, b => if y.1.origin = x.1.origin then insP x l b else if b = false ∧ x.1.origin < y.1.origin then x :: y :: insP x l true else y :: insP x l b
theorem insP_rcs (x : Rc × Value) : ∀ (l : List (Rc × Value)) (b : Bool), rcs (insP x l b) = insR x.1 (rcs l) b
  | [], b => by cases b <;> rfl
  | y :: l, b => by
    show rcs (insP x (y :: l) b) = insR x.1 (y.1 :: rcs l) b
    unfold insP insR
    by_cases h1 : y.1.origin = x.1.origin
    · rw [if_pos h1, if_pos h1]; exact insP_rcs x l b
    · rw [if_neg h1, if_neg h1]
      by_cases h2 : b = false ∧ x.1.origin < y.1.origin
      · rw [if_pos h2, if_pos h2]
        show x.1 :: y.1 :: rcs (insP x l true) = _
        rw [insP_rcs x l true]
      · rw [if_neg h2, if_neg h2]
        show y.1 :: rcs (insP x l b) = _
        rw [insP_rcs x l b]
theorem insP_mem (x : Rc × Value) : ∀ (l : List (Rc × Value)) (b : Bool) (y : Rc × Value), y ∈ insP x l b → y = x ∨ y ∈ l
  | [], b, y, h => by
    cases b
    · exact .inl (by simpa [insP] using h)
    · simp [insP] at h
  | z :: l, b, y, h => by
    unfold insP at h
    by_cases h1 : z.1.origin = x.1.origin
    · rw [if_pos h1] at h
      exact (insP_mem x l b y h).imp id fun h => List.mem_cons_of_mem _ h
    · rw [if_neg h1] at h
      by_cases h2 : b = false ∧ x.1.origin < z.1.origin
      · rw [if_pos h2] at h
        simp only [List.mem_cons] at h ⊢
        rcases h with h | h | h
        · exact .inl h
        · exact .inr (.inl h)
        · exact (insP_mem x l true y h).imp id .inr
      · rw [if_neg h2] at h
        simp only [List.mem_cons] at h ⊢
        rcases h with h | h
        · exact .inr (.inl h)
        · exact (insP_mem x l b y h).imp id .inr
theorem insP_len (x : Rc × Value) : ∀ (l : List (Rc × Value)) (b : Bool), (insP x l b).length ≤ l.length + 1
  | [], b => by cases b <;> simp [insP]
  | z :: l, b => by
    have h3 := insP_len x l b
    have h4 : (insP x l true).length ≤ l.length := insT_len x l
    unfold insP
    split
    · simp; omega
    · split
      · simp; omega
      · simp; omega
where insT_len (x : Rc × Value) : ∀ (l : List (Rc × Value)), (insP x l true).length ≤ l.length
  | [] => by simp [insP]
  | z :: l => by
    have h3 := insT_len x l
    unfold insP
    split
    · simp; omega
    · rw [if_neg (by simp)]
      simp; omega
/-- A stretch of a store's records. -/
def seg (F : Rf) : Nat → Nat → List Rc
  | _, 0 => []
  | s, n + 1 => match F (s : Int) with
    | none => seg F (s + 1) n
    | some g => g :: seg F (s + 1) n
theorem seg_some {F : Rf} {s n : Nat} {g : Rc} (h : F (s : Int) = some g) : seg F s (n + 1) = g :: seg F (s + 1) n := by simp [seg, h]
theorem seg_none {F : Rf} {s n : Nat} (h : F (s : Int) = none) : seg F s (n + 1) = seg F (s + 1) n := by simp [seg, h]
theorem seg_put {F : Rf} {o : Int} {r : Rc} : ∀ (n s : Nat), o < (s : Int) → seg (putO F o r) s n = seg F s n
  | 0, _, _ => rfl
  | n + 1, s, h => by
    have h1 : putO F o r (s : Int) = F (s : Int) := by unfold putO; rw [if_neg (by omega)]
    have h2 := seg_put (F := F) (o := o) (r := r) n (s + 1) (by omega)
    cases h3 : F (s : Int) with
    | none => rw [seg_none h3, seg_none (h1.trans h3), h2]
    | some g => rw [seg_some h3, seg_some (h1.trans h3), h2]
theorem ins_true {F : Rf} (hF : OkF F) {r : Rc} : ∀ (n s : Nat), r.origin < (s : Int) → insR r (seg F s n) true = seg F s n
  | 0, _, _ => rfl
  | n + 1, s, h => by
    have h2 := ins_true hF (r := r) n (s + 1) (by omega)
    cases h3 : F (s : Int) with
    | none => rw [seg_none h3, h2]
    | some g =>
      have h4 := (hF _ _ h3).2
      rw [seg_some h3]
      unfold insR
      rw [if_neg (by omega), if_neg (by simp), h2]
theorem ins_front {F : Rf} (hF : OkF F) {r : Rc} : ∀ (n s : Nat), r.origin < (s : Int) → insR r (seg F s n) false = r :: seg F s n
  | 0, _, _ => rfl
  | n + 1, s, h => by
    cases h3 : F (s : Int) with
    | none => rw [seg_none h3, ins_front hF n (s + 1) (by omega)]
    | some g =>
      have h4 := (hF _ _ h3).2
      rw [seg_some h3]
      unfold insR
      rw [if_neg (by omega), if_pos ⟨rfl, by omega⟩, ins_true hF n (s + 1) (by omega)]
theorem ins_seg {F : Rf} (hF : OkF F) {r : Rc} : ∀ (n s : Nat), (s : Int) ≤ r.origin → r.origin < (s : Int) + (n : Int) → insR r (seg F s n) false = seg (putO F r.origin r) s n
  | 0, s, h1, h2 => by omega
  | n + 1, s, h1, h2 => by
    by_cases he : (s : Int) = r.origin
    · have h5 : putO F r.origin r (s : Int) = some r := by unfold putO; rw [if_pos he]
      rw [seg_some h5, seg_put n (s + 1) (by omega)]
      cases h3 : F (s : Int) with
      | none => rw [seg_none h3, ins_front hF n (s + 1) (by omega)]
      | some g =>
        have h4 := (hF _ _ h3).2
        rw [seg_some h3]
        unfold insR
        rw [if_pos (by omega), ins_front hF n (s + 1) (by omega)]
    · have h5 : putO F r.origin r (s : Int) = F (s : Int) := by unfold putO; rw [if_neg he]
      have h6 := ins_seg hF (r := r) n (s + 1) (by omega) (by omega)
      cases h3 : F (s : Int) with
      | none => rw [seg_none h3, seg_none (h5.trans h3), h6]
      | some g =>
        have h4 := (hF _ _ h3).2
        rw [seg_some h3, seg_some (h5.trans h3)]
        unfold insR
        rw [if_neg (by omega), if_neg (by omega), h6]
theorem seg_snoc (F : Rf) : ∀ (n s : Nat), seg F s (n + 1) = seg F s n ++ (F ((s + n : Nat) : Int)).toList
  | 0, s => by
    cases h : F (s : Int) with
    | none => rw [seg_none h]; simp [seg]
    | some g => rw [seg_some h]; simp [seg]
  | n + 1, s => by
    have h2 := seg_snoc F n (s + 1)
    rw [show s + 1 + n = s + (n + 1) by omega] at h2
    cases h : F (s : Int) with
    | none => rw [seg_none h, seg_none h, h2]
    | some g => rw [seg_some h, seg_some h, h2]; rfl
theorem allR_seg (F : Rf) : ∀ n, allR F n = seg F 1 n
  | 0 => rfl
  | n + 1 => by
    rw [seg_snoc, ← allR_seg F n]
    unfold allR
    rw [List.range_succ, List.filterMap_append]
    congr 1
    rw [show ((1 + n : Nat) : Int) = (n : Int) + 1 by omega]
    cases h : F ((n : Int) + 1) <;> simp [h]
/-- What Put does to the records, rising. -/
theorem insP_all {F : Rf} (hF : OkF F) {x : Rc × Value} (hx : recOk x.1 = true) {l : List (Rc × Value)} (hl : rcs l = allR F 24) : rcs (insP x l false) = allR (putO F x.1.origin x.1) 24 := by
  have h := recOk_pos hx
  rw [insP_rcs, hl, allR_seg, allR_seg]
  exact ins_seg hF 24 1 (by omega) (by omega)
theorem seg_find {F : Rf} (hF : OkF F) : ∀ (n s : Nat) (o : Int), (s : Int) ≤ o → o < (s : Int) + (n : Int) → (seg F s n).find? (fun y => y.origin == o) = F o
  | 0, s, o, h1, h2 => by omega
  | n + 1, s, o, h1, h2 => by
    by_cases he : (s : Int) = o
    · subst he
      cases h3 : F (s : Int) with
      | none =>
        rw [seg_none h3]
        refine List.find?_eq_none.2 fun y hy => ?_
        have := seg_mem hF n (s + 1) y hy
        simp; omega
      | some g => rw [seg_some h3, List.find?_cons, show (g.origin == (s : Int)) = true by simpa using (hF _ _ h3).2]
    · cases h3 : F (s : Int) with
      | none => rw [seg_none h3]; exact seg_find hF n (s + 1) o (by omega) (by omega)
      | some g =>
        rw [seg_some h3, List.find?_cons, show (g.origin == o) = false by have := (hF _ _ h3).2; simp; omega]
        exact seg_find hF n (s + 1) o (by omega) (by omega)
where seg_mem {F : Rf} (hF : OkF F) : ∀ (n s : Nat) (y : Rc), y ∈ seg F s n → (s : Int) ≤ y.origin
  | 0, s, y, h => by simp [seg] at h
  | n + 1, s, y, h => by
    cases h3 : F (s : Int) with
    | none => rw [seg_none h3] at h; have := seg_mem hF n (s + 1) y h; omega
    | some g =>
      rw [seg_some h3] at h
      rcases List.mem_cons.1 h with rfl | h
      · have := (hF _ _ h3).2; omega
      · have := seg_mem hF n (s + 1) y h; omega
/-- What Get finds. -/
theorem fdR_all {F : Rf} (hF : OkF F) {l : List (Rc × Value)} (hl : rcs l = allR F 24) {o : Int} (h1 : 1 ≤ o) (h2 : o ≤ 24) : (fdR l o).map (·.1) = F o := by
  rw [← seg_find hF 24 1 o (by omega) (by omega), ← allR_seg, ← hl]
  unfold fdR rcs
  rw [List.find?_map]
  rfl
end Go.Proofs.Ytpdpdhnllmlfdaa
namespace Go.Proofs.Ytpdpdhnllmlfdaa
open Go.RowKit

theorem deA_yes {b : ByteArray} (h : rdOk b = true) : deA b = (rdR b, 0) := by unfold deA; rw [h]; rfl
theorem deA_no {b : ByteArray} (h : rdOk b = false) : deA b = (zeroR, 4) := by unfold deA; rw [h]; rfl
theorem rdOk_parts {b : ByteArray} (h : rdOk b = true) : 13 + 3 * tkz b 12 1 = b.size ∧ recOk (rdR b) = true := by
  unfold rdOk at h
  simp only [Bool.and_eq_true, decide_eq_true_eq] at h
  exact ⟨h.1, h.2.2⟩
theorem enA_rd {b : ByteArray} (h : rdOk b = true) : enA (rdR b) = (b, 0) := by
  unfold enA
  rw [(rdOk_parts h).2, enc_rd h]
  rfl
theorem dsA_yes {b : ByteArray} (h : stOk b = true) : dsA b = ((((tkz b 0 1 : Nat) : Int), ((tkz b 1 4 : Nat) : Int), ((tkz b 5 4 : Nat) : Int)), 0) := by unfold dsA; rw [h]; rfl
theorem dsA_no {b : ByteArray} (h : stOk b = false) : dsA b = ((0, 0, 0), 4) := by unfold dsA; rw [h]; rfl
theorem stOk_parts {b : ByteArray} (h : stOk b = true) : 9 = b.size ∧ mayS (tkz b 0 1 : Nat) (tkz b 1 4 : Nat) (tkz b 5 4 : Nat) = true := by
  unfold stOk at h
  simpa using h
theorem esA_st {b : ByteArray} (h : stOk b = true) : esA (tkz b 0 1 : Nat) (tkz b 1 4 : Nat) (tkz b 5 4 : Nat) = (b, 0) := by
  unfold esA
  rw [(stOk_parts h).2]
  simp only [Int.toNat_natCast]
  rw [st_rd (stOk_parts h).1]
  rfl
end Go.Proofs.Ytpdpdhnllmlfdaa
namespace Go.Proofs.Ytpdpdhnllmlfdaa
open Go.RowKit

theorem enA_yes {r : Rc} (h : recOk r = true) : enA r = (encS r, 0) := by unfold enA; rw [h]; rfl
theorem enA_no {r : Rc} (h : recOk r = false) : enA r = (⟨#[]⟩, 2) := by unfold enA; rw [h]; rfl
theorem ckN_yes {r : Rc} (h : recOk r = true) : ckN r = 0 := by unfold ckN; rw [h]; rfl
theorem ckN_no {r : Rc} (h : recOk r = false) : ckN r = 2 := by unfold ckN; rw [h]; rfl
theorem deA_enc {r : Rc} (h : recOk r = true) (hb : RcB r) : deA (encS r) = (r, 0) := by rw [deA_yes (enc_ok h hb), (rd_enc h hb).1]
theorem sameB_self (r : Rc) : sameB r r = true := by simp [sameB]
theorem recOk_mayS {r : Rc} (h : recOk r = true) : mayS r.origin r.epoch r.seq = true := by rw [recOk_may] at h; simp only [Bool.and_eq_true] at h; exact h.1
theorem esA_rec {r : Rc} (h : recOk r = true) : esA r.origin r.epoch r.seq = (stS r.origin.toNat r.epoch.toNat r.seq.toNat, 0) := by unfold esA; rw [recOk_mayS h]; rfl
theorem dsA_st {o e q : Int} (h : mayS o e q = true) (he : 0 ≤ e ∧ e < 4294967296) (hq : 0 ≤ q ∧ q < 4294967296) : dsA (stS o.toNat e.toNat q.toNat) = ((o, e, q), 0) := by
  have h1 := (mayS_iff.1 h).1
  obtain ⟨t0, t1, t2⟩ := rd_st (o := o.toNat) (e := e.toNat) (s := q.toNat) (by omega) (by omega) (by omega)
  have e0 : ((o.toNat : Nat) : Int) = o := by omega
  have e1 : ((e.toNat : Nat) : Int) = e := by omega
  have e2 : ((q.toNat : Nat) : Int) = q := by omega
  have hok : stOk (stS o.toNat e.toNat q.toNat) = true := by
    unfold stOk
    rw [t0, t1, t2, e0, e1, e2, h, stS_size]
    rfl
  rw [dsA_yes hok, t0, t1, t2, e0, e1, e2]
/-- A record's own block, what lies behind it, in all worlds behind. -/
structure RkM (w V : World) (r : Rc) (va : Value) : Prop where
  x : V.heap[w.heap.size]? = some (recO r va)
  b : Below w.heap.size w V
theorem RkM.keep {w V V' : World} {r : Rc} {va : Value} (h : RkM w V r va) (hb : Below V.heap.size V V') : RkM w V' r va := ⟨(hb.block _ (block_lt h.x)).trans h.x, h.b.trans (hb.mono h.b.size)⟩
end Go.Proofs.Ytpdpdhnllmlfdaa
namespace Go.Proofs.Ytpdpdhnllmlfdaa
open Go.RowKit

/-- A record in memory of its own. -/
def OwnR (w w' : World) (r : Rc) (e : Ending) : Prop := ∃ g c, e = .returned (recV r (.slice (some ⟨g, 0, none⟩) r.adjs.length c)) ∧ w'.ownsRow w.heap.size 75 2 (.slice (some ⟨g, 0, none⟩) (r.adjs.length + 1) c) (r.adjs.length + 1) (fl ac (r.adjs ++ [(0, 77)]))
end Go.Proofs.Ytpdpdhnllmlfdaa
namespace Go.Proofs.Ytpdpdhnllmlfdaa
open Go.RowKit

set_option maxRecDepth 100000 in
set_option maxHeartbeats 2000000 in
theorem dsame_any {r s : Rc} {va vb : Value} {w : World} (ha : SlAt ac 2 w va r.adjs) (hb : SlAt ac 2 w vb s.adjs) :
    Calls Try.prog 17 #[recV r va, recV s vb] w fun e w' => e = .returned (.bool (sameB r s)) ∧ Below w.heap.size w w' := by
  obtain ⟨W1, hW1⟩ : ∃ W1, (w.alloc (recO r va)).alloc (recO s vb) = W1 := ⟨_, rfl⟩
  have b1 : Below w.heap.size w W1 := by rw [← hW1]; exact ((Below.refl _ w).alloc (Nat.le_refl _) _).alloc (by simp) _
  have hX : W1.heap[w.heap.size]? = some (recO r va) := by rw [← hW1, Below.heap_alloc _ _ _ (by simp)]; exact heap_alloc_last w _
  have hY : W1.heap[w.heap.size + 1]? = some (recO s vb) := by
    rw [← hW1]
    have := heap_alloc_last (w.alloc (recO r va)) (recO s vb)
    rw [World.size_alloc] at this
    exact this
  obtain ⟨aa, acap, rfl, hla, _, hca⟩ := ha.ads
  obtain ⟨ba, bcap, rfl, hlb, _, hcb⟩ := hb.ads
  have Ha := hidIn hca
  have Hb := hidIn hcb
  obtain ⟨res, hres⟩ : ∃ res, sameB r s = res := ⟨_, rfl⟩
  rw [hres]
  have Hres := hidIn hres
  obtain ⟨o1, e1, q1, c1, i1, l1⟩ := r
  obtain ⟨o2, e2, q2, c2, i2, l2⟩ := s
  have HW := hidIn hW1
  have HB1 := hidIn b1
  have HK : Hid (∀ wq, Below W1.heap.size W1 wq → wq.cell? ⟨w.heap.size, 5, none⟩ = some (.slice aa l1.length acap) ∧ wq.cell? ⟨w.heap.size + 1, 5, none⟩ = some (.slice ba l2.length bcap)) := hidIn fun wq h => ⟨cell_of_row _ _ 5 _ _ _ ((h.block _ (block_lt hX)).trans hX), cell_of_row _ _ 5 _ _ _ ((h.block _ (block_lt hY)).trans hY)⟩
  have x0 := cell_of_row _ _ 0 _ _ _ hX
  have y0 := cell_of_row _ _ 0 _ _ _ hY
  have x1 := cell_of_row _ _ 1 _ _ _ hX
  have y1 := cell_of_row _ _ 1 _ _ _ hY
  have x2 := cell_of_row _ _ 2 _ _ _ hX
  have y2 := cell_of_row _ _ 2 _ _ _ hY
  have x3 := cell_of_row _ _ 3 _ _ _ hX
  have y3 := cell_of_row _ _ 3 _ _ _ hY
  have x4 := cell_of_row _ _ 4 _ _ _ hX
  have y4 := cell_of_row _ _ 4 _ _ _ hY
  have x5 := cell_of_row _ _ 5 _ _ _ hX
  have y5 := cell_of_row _ _ 5 _ _ _ hY
  simp at x0 x1 x2 x3 x4 x5 y0 y1 y2 y3 y4 y5
  simp only at Ha Hb hla hlb HW ⊢
  clear hW1 b1 hX hY ha hb hca hcb hres
  go_enter Try.func17, Try.ntmps17
  go_upto_region 1 with fail
  rw [show (w.alloc _).alloc _ = W1 from HW.out]
  clear HW
  by_cases ho : o1 = o2
  case neg =>
    have t : (o1 != o2) = true := by simpa using ho
    have HE : Hid ((o1 == o2) = false) := hidIn (by simpa using ho)
    clear ho
    go_wp2_with fail
    go_returns
    exact ⟨by rw [← Hres.out]; unfold sameB; simp only; rw [HE.out]; simp, HB1.out⟩
  subst ho
  have tno : (o1 != o1) = false := by simp
  by_cases he : e1 = e2
  case neg =>
    have t : (e1 != e2) = true := by simpa using he
    have HE : Hid ((e1 == e2) = false) := hidIn (by simpa using he)
    clear he
    go_wp2_with fail
    go_returns
    exact ⟨by rw [← Hres.out]; unfold sameB; simp only; rw [HE.out]; simp, HB1.out⟩
  subst he
  have tne : (e1 != e1) = false := by simp
  by_cases hq : q1 = q2
  case neg =>
    have t : (q1 != q2) = true := by simpa using hq
    have HE : Hid ((q1 == q2) = false) := hidIn (by simpa using hq)
    clear hq
    go_wp2_with fail
    go_returns
    exact ⟨by rw [← Hres.out]; unfold sameB; simp only; rw [HE.out]; simp, HB1.out⟩
  subst hq
  have tnq : (q1 != q1) = false := by simp
  by_cases hc : c1 = c2
  case neg =>
    have t : (c1 != c2) = true := by simpa using hc
    have HE : Hid ((c1 == c2) = false) := hidIn (by simpa using hc)
    clear hc
    go_wp2_with fail
    go_returns
    exact ⟨by rw [← Hres.out]; unfold sameB; simp only; rw [HE.out]; simp, HB1.out⟩
  subst hc
  have tnc : (c1 != c1) = false := by simp
  by_cases hi : i1 = i2
  case neg =>
    cases i1 <;> cases i2 <;> first | exact absurd rfl hi | skip
    all_goals
      clear hi
      go_wp2_with fail
      go_returns
      exact ⟨by rw [← Hres.out]; simp [sameB], HB1.out⟩
  subst hi
  have tni : (i1 != i1) = false := by simp
  have HEq : Hid (res = decide (l1 = l2)) := hidIn (by rw [← Hres.out]; simp [sameB])
  by_cases hlen : l1.length = l2.length
  case neg =>
    have t : ((l1.length : Int) != (l2.length : Int)) = true := by simp; omega
    have HE : Hid (res = false) := hidIn (by rw [HEq.out]; simp; intro h; exact hlen (by rw [h]))
    clear hlen
    go_wp2_with fail
    go_returns
    exact ⟨by rw [HE.out]; rfl, HB1.out⟩
  obtain ⟨m, hm⟩ : ∃ m, l2.length = m := ⟨_, rfl⟩
  have hlen2 : l1.length = m := by rw [hlen, hm]
  rw [hm] at hlb Hb HK y5
  rw [hlen2] at hla Ha HK x5
  have Hm := hidIn hm
  have HL := hidIn hlen2
  rw [hlen2, hm]
  clear hm hlen2 hlen
  have tl : ((m : Int) != (m : Int)) = false := by simp
  go_wp2_with fail
  clear x0 x1 x2 x3 x4 x5 y0 y1 y2 y3 y4 y5
  go_loopw [5] (fun i wr => ∃ k : Nat, k ≤ m ∧ i = .int .i64 k ∧ Hid (Below W1.heap.size W1 wr ∧ decide (l1 = l2) = decide (l1.drop k = l2.drop k))) (fun i _ => m - (intOf i).toNat)
  case atStart => exact ⟨0, Nat.zero_le _, rfl, hidIn ⟨Below.refl _ _, by rw [List.drop_zero, List.drop_zero]⟩⟩
  case round =>
    obtain ⟨k, hk, rfl, HR⟩ := hrel
    obtain ⟨x5, y5⟩ := HK.out wr HR.out.1
    by_cases hlt : k < m
    · obtain ⟨b1, p1, rfl, hb1, hc1⟩ := Ha.out (by omega)
      obtain ⟨b2, p2, rfl, hb2, hc2⟩ := Hb.out (by omega)
      obtain ⟨⟨u0, u1⟩, hu⟩ : ∃ z, l1[k]? = some z := ⟨l1[k]'(by rw [HL.out]; exact hlt), List.getElem?_eq_getElem _⟩
      obtain ⟨⟨v0, v1⟩, hv⟩ : ∃ z, l2[k]? = some z := ⟨l2[k]'(by rw [Hm.out]; exact hlt), List.getElem?_eq_getElem _⟩
      obtain ⟨g0, g1⟩ := hc1 k _ hu
      obtain ⟨h0, h1⟩ := hc2 k _ hv
      have hbw := HB1.out.trans (HR.out.1.mono HB1.out.size)
      have c0 := (hbw.cell (p := ⟨b1, p1 + k * 2, none⟩) hb1).trans g0
      have c1 := (hbw.cell (p := ⟨b1, p1 + k * 2 + 1, none⟩) hb1).trans g1
      have d0 := (hbw.cell (p := ⟨b2, p2 + k * 2, none⟩) hb2).trans h0
      have d1 := (hbw.cell (p := ⟨b2, p2 + k * 2 + 1, none⟩) hb2).trans h1
      simp only at c0 c1 d0 d1
      have HD : Hid (decide (l1 = l2) = (decide ((u0, u1) = (v0, v1)) && decide (l1.drop (k + 1) = l2.drop (k + 1)))) := hidIn (by rw [HR.out.2, dropEq hu hv])
      have hki : (k : Int) < (m : Int) := by omega
      obtain ⟨qb, hqb⟩ : ∃ qb, (u0 == v0 && u1 == v1) = qb := ⟨_, rfl⟩
      have hq : ∀ w, (Op.equalIn 10000 75 (.agg #[.int .i64 u0, .int .i64 u1]) (.agg #[.int .i64 v0, .int .i64 v1])).run Try.prog w = Result.ok qb w := fun w => by rw [eq_adj, hqb]
      have HQ : Hid (decide ((u0, u1) = (v0, v1)) = qb) := hidIn (by rw [← hqb]; by_cases a1 : u0 = v0 <;> by_cases a2 : u1 = v1 <;> simp [a1, a2])
      have HBr := hidIn HR.out.1
      clear hc1 hc2 hu hv g0 g1 h0 h1 hqb hbw HR
      go_upto_region 6 with fail
      go_quiet (fail)
      clear c0 c1 d0 d1 x5 y5
      generalize hV : World.drewN wr _ = V
      have HBV : Hid (Below W1.heap.size W1 V) := hidIn (by rw [← hV]; exact HBr.out.trans (((Fr.refl (fun _ => False) wr).drewN _).below HBr.out.size (fun _ h => h.elim)))
      clear hV HBr hq
      cases qb
      · go_wp2_with fail
        go_returns
        exact ⟨by rw [HEq.out, HD.out, HQ.out]; rfl, HB1.out.trans (HBV.out.mono HB1.out.size)⟩
      · go_wp2_with fail
        go_roundw
        case rel => exact ⟨k + 1, by omega, by go_num, hidIn ⟨HBV.out, by rw [HD.out, HQ.out]; rfl⟩⟩
        case measure => simp [intOf]; omega
    · have hki : ¬ ((k : Int) < (m : Int)) := by omega
      have HE : Hid (res = true) := hidIn (by rw [HEq.out, HR.out.2, List.drop_eq_nil_of_le (by rw [HL.out]; omega), List.drop_eq_nil_of_le (by rw [Hm.out]; omega)]; rfl)
      go_wp2_with fail
      go_returns
      exact ⟨by rw [HE.out]; rfl, HB1.out.trans (HR.out.1.mono HB1.out.size)⟩
end Go.Proofs.Ytpdpdhnllmlfdaa
namespace Go.Proofs.Ytpdpdhnllmlfdaa
open Go.RowKit Go.Maps

set_option maxRecDepth 100000 in
set_option maxHeartbeats 2000000 in
theorem sameAll_yes {l m : List (Rc × Value)} {v1 v2 : Value} {w : World} (h1 : RecsAt w v1 l) (h2 : RecsAt w v2 m) (he : rcs l = rcs m) :
    Calls Try.prog 11 #[v1, v2] w fun e w' => e = .returned (.bool true) ∧ Below w.heap.size w w' := by
  obtain ⟨a1, cap1, rfl, hl, _, hat1⟩ := h1.r.recs
  obtain ⟨a2, cap2, rfl, _, _, hat2⟩ := h2.r.recs
  have hlen : m.length = l.length := by have := congrArg List.length he; simpa using this.symm
  have HL : Hid (∀ (k : Nat) (x : Rc × Value), l[k]? = some x → ∃ u, m[k]? = some (x.1, u)) := hidIn fun k x hx => by
    have h3 : (rcs l)[k]? = some x.1 := by simp [rcs, hx]
    rw [he] at h3
    simp only [rcs, List.getElem?_map, Option.map_eq_some_iff] at h3
    obtain ⟨⟨y, u⟩, h4, h5⟩ := h3
    exact ⟨u, by rw [h4, ← h5]⟩
  have HA := hidIn h1.a
  have HC := hidIn h2.a
  obtain ⟨LL, hLL⟩ : ∃ LL, l.length = LL := ⟨_, rfl⟩
  rw [hlen] at hat2 ⊢
  rw [hLL] at hat1 hat2 hl ⊢
  have H1 := hidIn hat1
  have H2 := hidIn hat2
  have HLL := hidIn hLL
  clear hat1 hat2 h1 h2 he hlen hLL
  go_enter Try.func11, Try.ntmps11
  go_wp2_with fail
  go_loopw [5] (fun i wr => ∃ k : Nat, k ≤ LL ∧ i = .int .i64 k ∧ Hid (Below w.heap.size w wr)) (fun i _ => LL - (intOf i).toNat)
  case atStart => exact ⟨0, Nat.zero_le _, rfl, hidIn (Below.refl _ _)⟩
  case round =>
    obtain ⟨k, hk, rfl, HB⟩ := hrel
    by_cases hlt : k < LL
    · obtain ⟨b1, o1, rfl, hb1, hc1⟩ := H1.out (by omega)
      obtain ⟨b2, o2, rfl, hb2, hc2⟩ := H2.out (by omega)
      obtain ⟨⟨⟨s0, s1, s2, s3, s4, as'⟩, va⟩, hz⟩ : ∃ z, l[k]? = some z := ⟨l[k]'(by rw [HLL.out]; exact hlt), List.getElem?_eq_getElem _⟩
      obtain ⟨vb, hy⟩ := HL.out k _ hz
      have hva := HA.out _ (List.mem_of_getElem? hz)
      have hvb := HC.out _ (List.mem_of_getElem? hy)
      simp only at hva hvb hy
      have HS : Hid (∀ wq, Below wr.heap.size wr wq → Calls Try.prog 17 #[recV ⟨s0, s1, s2, s3, s4, as'⟩ va, recV ⟨s0, s1, s2, s3, s4, as'⟩ vb] wq fun e w' => e = .returned (.bool true) ∧ Below wq.heap.size wq w') := hidIn fun wq hq => by
        have hb := HB.out.trans (hq.mono HB.out.size)
        have := dsame_any (r := ⟨s0, s1, s2, s3, s4, as'⟩) (s := ⟨s0, s1, s2, s3, s4, as'⟩) (hva.keep hb (Nat.le_refl _)) (hvb.keep hb (Nat.le_refl _))
        rwa [sameB_self] at this
      obtain ⟨aa, acap, rfl, _⟩ := hva
      obtain ⟨ba, bcap, rfl, _⟩ := hvb
      obtain ⟨an, han⟩ : ∃ an, as'.length = an := ⟨_, rfl⟩
      obtain ⟨p0, p1, p2, p3, p4, p5⟩ := hc1 k _ hz
      have c0 := (HB.out.cell (p := ⟨b1, o1 + k * 6, none⟩) hb1).trans p0
      have c1 := (HB.out.cell (p := ⟨b1, o1 + k * 6 + 1, none⟩) hb1).trans p1
      have c2 := (HB.out.cell (p := ⟨b1, o1 + k * 6 + 2, none⟩) hb1).trans p2
      have c3 := (HB.out.cell (p := ⟨b1, o1 + k * 6 + 3, none⟩) hb1).trans p3
      have c4 := (HB.out.cell (p := ⟨b1, o1 + k * 6 + 4, none⟩) hb1).trans p4
      have c5 := (HB.out.cell (p := ⟨b1, o1 + k * 6 + 5, none⟩) hb1).trans p5
      obtain ⟨q0, q1, q2, q3, q4, q5⟩ := hc2 k _ hy
      have d0 := (HB.out.cell (p := ⟨b2, o2 + k * 6, none⟩) hb2).trans q0
      have d1 := (HB.out.cell (p := ⟨b2, o2 + k * 6 + 1, none⟩) hb2).trans q1
      have d2 := (HB.out.cell (p := ⟨b2, o2 + k * 6 + 2, none⟩) hb2).trans q2
      have d3 := (HB.out.cell (p := ⟨b2, o2 + k * 6 + 3, none⟩) hb2).trans q3
      have d4 := (HB.out.cell (p := ⟨b2, o2 + k * 6 + 4, none⟩) hb2).trans q4
      have d5 := (HB.out.cell (p := ⟨b2, o2 + k * 6 + 5, none⟩) hb2).trans q5
      simp only [han] at c0 c1 c2 c3 c4 c5 d0 d1 d2 d3 d4 d5 HS
      have hki : (k : Int) < (LL : Int) := by omega
      have hb1' : b1 < wr.heap.size := Nat.lt_of_lt_of_le hb1 HB.out.size
      have hb2' : b2 < wr.heap.size := Nat.lt_of_lt_of_le hb2 HB.out.size
      clear hc1 hc2 p0 p1 p2 p3 p4 p5 q0 q1 q2 q3 q4 q5 hz hy han
      have kc0 := cell_regrown c0
      have kc1 := cell_regrown c1
      have kc2 := cell_regrown c2
      have kc3 := cell_regrown c3
      have kc4 := cell_regrown c4
      have kc5 := cell_regrown c5
      have kd0 := cell_regrown d0
      have kd1 := cell_regrown d1
      have kd2 := cell_regrown d2
      have kd3 := cell_regrown d3
      have kd4 := cell_regrown d4
      have kd5 := cell_regrown d5
      go_upto_region 6 with fail
      refine wp_region_quiet_below (by kernel_rfl) (by kernel_rfl) ?_
      repeat (go_big_quiet_step (first
        | (go_at_call 17; exact Calls.regrown_of (HS.out _ (below_regrown _ _ _)))))
      refine wpQuiet_nil ?_
      rintro _ ⟨⟨dq, osq⟩, rfl⟩
      have hbr := below_regrown wr dq osq
      generalize Go.Sort.grow (redrawn wr dq) osq = W4 at hbr ⊢
      have HB4 := hidIn (HB.out.trans (hbr.mono HB.out.size))
      clear hbr HS c0 c1 c2 c3 c4 c5 d0 d1 d2 d3 d4 d5 kc0 kc1 kc2 kc3 kc4 kc5 kd0 kd1 kd2 kd3 kd4 kd5
      go_wp2_with fail
      go_roundw
      case rel => exact ⟨k + 1, by omega, by go_num, HB4⟩
      case measure => simp [intOf]; omega
    · obtain rfl : k = LL := by omega
      go_wp2_with fail
      go_ret
      exact ⟨rfl, HB.out⟩
end Go.Proofs.Ytpdpdhnllmlfdaa
namespace Go.Proofs.Ytpdpdhnllmlfdaa
open Go.RowKit Go.Maps

def Bd (F : Rf) : Prop := ∀ k g, F k = some g → g.epoch ≤ 4 ∧ g.seq ≤ 4
theorem bd_ov {B F : Rf} {s : List Rc} (h : Ov B F s) (hB : Bd B) (hs : ∀ x ∈ s, x.epoch ≤ 4 ∧ x.seq ≤ 4) : Bd F := fun k g hk => by
  by_cases he : ∃ x ∈ s, x.origin = k
  · obtain ⟨x, hx, hxk⟩ := he
    have := h.has x hx
    rw [hxk, hk] at this
    cases this
    exact hs _ hx
  · have := h.out k (fun x hx e => he ⟨x, hx, e⟩)
    rw [hk] at this
    exact hB k g this.symm
theorem bd_run {L : List Te} (_hL : TeB L) (t : Bool) : Bd (runR (ordT t L)) := fun k g hk => by
  have h := ((runR_is _ k).1 g hk).mem
  unfold ordT at h
  obtain ⟨x, _, rfl⟩ := List.mem_map.1 h
  show 1 + x.2.1 % 4 ≤ 4 ∧ 1 + x.2.2.1 % 4 ≤ 4
  omega
theorem sts_bd {F : Rf} (hF : OkF F) (hB : Bd F) {y : Ed} (hy : y ∈ (allR F 24).map stOf) : (0 ≤ y.2.1 ∧ y.2.1 < 4294967296) ∧ 0 ≤ y.2.2 ∧ y.2.2 < 4294967296 := by
  obtain ⟨g, hg, rfl⟩ := List.mem_map.1 hy
  obtain ⟨k, hk⟩ := allR_of hg
  have h1 := recOk_pos (hF k g hk).1
  have h2 := hB k g hk
  show (0 ≤ g.epoch ∧ g.epoch < 4294967296) ∧ 0 ≤ g.seq ∧ g.seq < 4294967296
  omega
theorem StAt.okF {w : World} {S M n : Nat} {f : Sf} (h : StAt w S M n f) : OkF (fR f) := fun _ _ hk => ⟨(h.org hk).1, (h.org hk).2.1⟩
theorem StAt.keepM {w w' : World} {S M n M2 : Nat} {f : Sf} (h : StAt w S M n f) (hF : Fr (fun j => j = M2) w w') (hm : ∃ es cl, w.heap[M2]? = some (.map es cl)) (hne : ¬ M = M2) : StAt w' S M n f := by
  have hS : ¬ S = M2 := fun e => by
    obtain ⟨es, cl, hb⟩ := hm
    have := h.p
    rw [e, hb] at this
    cases this
  exact ⟨(hF.block S (block_lt h.p) hS).trans h.p, h.m.keep hF hne, fun k r u hk => by
    obtain ⟨h1, h2, h3, h4⟩ := h.v k r u hk
    exact ⟨h1, h2, h3.keepM hF hm (by omega) (fun _ => rfl), h4⟩⟩
theorem FrRec.keepM {w w' w'' : World} {x : Rc × Value} {M2 : Nat} (h : FrRec w w' x) (hF : Fr (fun j => j = M2) w' w'') (hm : ∃ es cl, w'.heap[M2]? = some (.map es cl)) : FrRec w w'' x :=
  h.fr hF (fun g cur hg e => by
    obtain ⟨es, cl, hb⟩ := hm
    rw [e, hb] at hg
    cases hg)
end Go.Proofs.Ytpdpdhnllmlfdaa
namespace Go.Proofs.Ytpdpdhnllmlfdaa
open Go.RowKit Go.Maps

theorem SlAt.some20 {α : Type} {cs : α → List Value} {sz : Nat} {w : World} {a : Option Addr} {n cap : Nat} {l : List α} (h : SlAt cs sz w (.slice a n cap) l) (k : Nat) : SlAt cs sz w (.slice a (l.take k).length cap) (l.take k) := by
  obtain ⟨a', cap', e, h0, h1, h2⟩ := h
  cases e
  have hk : (l.take k).length ≤ l.length := by rw [List.length_take]; omega
  refine ⟨_, _, rfl, by omega, by omega, fun hp => ?_⟩
  obtain ⟨bk, o, rfl, h3, h4⟩ := h2 (by omega)
  refine ⟨bk, o, rfl, h3, fun j x hx i u hu => h4 j x ?_ i u hu⟩
  rw [List.getElem?_take] at hx
  split at hx
  · exact hx
  · cases hx
def cut20 (r : Rc) : Rc := { r with adjs := r.adjs.take 20 }
set_option maxRecDepth 100000 in
set_option maxHeartbeats 2000000 in
theorem owned_any {r : Rc} {va : Value} {w : World} (hv : SlAt ac 2 w va r.adjs) (hn : NilOk va) :
    Calls Try.prog 6 #[recV r va] w fun e w' => CpAns w w' (cut20 r) e ∧ Below w.heap.size w w' := by
  obtain ⟨W1, hW1⟩ : ∃ W1, (w.alloc (recO r va)).alloc zeroO = W1 := ⟨_, rfl⟩
  have b1 : Below w.heap.size w W1 := by rw [← hW1]; exact ((Below.refl _ w).alloc (Nat.le_refl _) _).alloc (by simp) _
  have hX : W1.heap[w.heap.size]? = some (recO r va) := by rw [← hW1, Below.heap_alloc _ _ _ (by simp)]; exact heap_alloc_last w _
  have hY : W1.heap[w.heap.size + 1]? = some zeroO := by
    rw [← hW1]
    have := heap_alloc_last (w.alloc (recO r va)) zeroO
    rw [World.size_alloc] at this
    exact this
  obtain ⟨aa, acap, rfl, hal, hac, hq⟩ := hv.ads
  have hm20 : (r.adjs.take 20).length ≤ 20 ∧ (r.adjs.take 20).length ≤ r.adjs.length ∧ (if (20 : Int) < (r.adjs.length : Int) then (20 : Int) else (r.adjs.length : Int)) = ((r.adjs.take 20).length : Int) := by
    rw [List.length_take]
    refine ⟨by omega, by omega, ?_⟩
    split <;> omega
  have hv1 := (hv.keep b1 (Nat.le_refl _)).some20 20
  have hnil1 : (∃ a n c, Value.slice aa (r.adjs.take 20).length acap = .slice (some a) n c) ∨ (Value.slice aa (r.adjs.take 20).length acap = .slice none 0 0 ∧ r.adjs.take 20 = []) := by
    rcases hn with ⟨a, n, c, h⟩ | h
    · cases h
      exact .inl ⟨_, _, _, rfl⟩
    · simp at h
      obtain ⟨rfl, h1, rfl⟩ := h
      have : r.adjs = [] := h1
      rw [this]
      exact .inr ⟨rfl, rfl⟩
  obtain ⟨v1, w6, hrun1, hrow1, hb6, _⟩ := append_all (P := Try.prog) (cs := ac) (sz := 2) (T := 26) (fun _ => rfl) (fun _ => by simp [Value.oneCell']) Try.underlying26 infoAdj rfl (by decide) (W := W1) (base := W1.heap.size) (k := 0) (u := .slice none 0 0) (l := []) (World.ownsRow_nil _ _ _ _) hv1 (by have := hm20.1; omega) (by have := hm20.1; unfold maxLen; omega) (Nat.le_refl _) (hnil1.imp id fun h => ⟨h.1, rfl⟩)
  rw [Nat.zero_add, List.nil_append] at hrow1
  have hlt1 : w.heap.size + 1 < W1.heap.size := block_lt hY
  have hX6 := (hb6.block _ (block_lt hX)).trans hX
  have hY6 := (hb6.block _ (block_lt hY)).trans hY
  have hbw := b1.trans (hb6.mono b1.size)
  obtain ⟨xa, xcap, rfl⟩ := row_shape hrow1
  obtain ⟨W7, hW7⟩ : ∃ W7, w6.setCell ⟨w.heap.size, 5, none⟩ (.slice xa (r.adjs.take 20).length xcap) = W7 := ⟨_, rfl⟩
  have hF7 : Fr (fun k => k ≤ w.heap.size + 1) w6 W7 := by rw [← hW7]; exact (Fr.refl (fun k => k ≤ w.heap.size + 1) w6).set (p := ⟨w.heap.size, 5, none⟩) (Nat.le_succ _) _
  have hX7 : W7.heap[w.heap.size]? = some (recO r (.slice xa (r.adjs.take 20).length xcap)) := by
    rw [← hW7]
    have := heap_setCell_same w6 w.heap.size 5 _ _ (.slice xa (r.adjs.take 20).length xcap) hX6
    simpa using this
  have hY7 : W7.heap[w.heap.size + 1]? = some zeroO := by rw [← hW7]; exact (Below.heap_setCell _ _ _ _ (by show w.heap.size + 1 ≠ w.heap.size; omega)).trans hY6
  have hb7 : Below w.heap.size w W7 := by rw [← hW7]; exact hbw.setCell (p := ⟨w.heap.size, 5, none⟩) (Nat.le_refl _) _
  have HR2 := hidIn hrow1
  have HX7 := hidIn hX7
  have HY7 := hidIn hY7
  have HB7 := hidIn hb7
  have HF7 := hidIn hF7
  have HW := hidIn hW1
  have HW7 := hidIn hW7
  have HRun1 := hidIn hrun1
  have Hlt := hidIn hlt1
  obtain ⟨O, E, Q, C, I, L⟩ := r
  have a5 := cell_of_row _ _ 5 _ _ _ hX
  have k5 := cell_of_row _ _ 5 _ _ _ hX6
  simp at a5 k5
  have f5 := frozen_new hX6 5
  simp only at HR2 HX7 HW HW7 HRun1 hal hac hm20 ⊢
  obtain ⟨m, hm⟩ : ∃ m, (L.take 20).length = m := ⟨_, rfl⟩
  obtain ⟨n, hnl⟩ : ∃ n, L.length = n := ⟨_, rfl⟩
  rw [hm] at HX7 HW7 HRun1 hm20 HR2
  rw [hnl] at HW hal hac a5 k5 hm20 ⊢
  obtain ⟨hm1, hm2, hmin⟩ := hm20
  have Hm := hidIn hm
  have hmi : (m : Int) ≤ (acap : Int) := by omega
  have hmn : (m : Int) ≤ (n : Int) := by omega
  clear hW1 b1 hX hY hrun1 hrow1 hb6 hX6 hY6 hbw hW7 hF7 hX7 hY7 hb7 hv hn hnl hq hv1 hnil1 hm hlt1
  go_enter Try.func6, Try.ntmps6
  go_upto_region 1 with fail
  rw [show (w.alloc _).alloc _ = W1 from HW.out]
  clear HW
  go_upto_region 3 with (first | (refine l_append rfl _ _ 26 rfl HRun1.out ?_))
  rw [HW7.out]
  clear HW7 HRun1 a5 k5 f5
  have x0 := cell_of_row _ _ 0 _ _ _ HX7.out
  have x1 := cell_of_row _ _ 1 _ _ _ HX7.out
  have x2 := cell_of_row _ _ 2 _ _ _ HX7.out
  have x3 := cell_of_row _ _ 3 _ _ _ HX7.out
  have x4 := cell_of_row _ _ 4 _ _ _ HX7.out
  have x5 := cell_of_row _ _ 5 _ _ _ HX7.out
  have y0 := cell_of_row _ _ 0 _ _ _ HY7.out
  have y1 := cell_of_row _ _ 1 _ _ _ HY7.out
  have y2 := cell_of_row _ _ 2 _ _ _ HY7.out
  have y3 := cell_of_row _ _ 3 _ _ _ HY7.out
  have y4 := cell_of_row _ _ 4 _ _ _ HY7.out
  have y5 := cell_of_row _ _ 5 _ _ _ HY7.out
  have g0 := frozen_new HY7.out 0
  have g1 := frozen_new HY7.out 1
  have g2 := frozen_new HY7.out 2
  have g3 := frozen_new HY7.out 3
  have g4 := frozen_new HY7.out 4
  have g5 := frozen_new HY7.out 5
  simp at x0 x1 x2 x3 x4 x5 y0 y1 y2 y3 y4 y5
  go_wp2_with fail
  have hV := set6 (.int .i64 O) (.int .u32 E) (.int .u32 Q) (.int .i64 C) (.bool I) (.slice xa m xcap) HY7.out
  have hFV := fr6 (S := fun k => k ≤ w.heap.size + 1) HF7.out (Nat.le_refl _) (.int .i64 O) (.int .u32 E) (.int .u32 Q) (.int .i64 C) (.bool I) (.slice xa m xcap)
  have hF2 := fr6 (S := fun k => k = w.heap.size + 1) (Fr.refl _ W7) rfl (.int .i64 O) (.int .u32 E) (.int .u32 Q) (.int .i64 C) (.bool I) (.slice xa m xcap)
  have HBV := hidIn (HB7.out.trans (hF2.below HB7.out.size (fun k hk => by omega)))
  have HRV := hidIn (row_fr HR2.out hFV (fun j hj e => by have := (HR2.out.lt j hj).1; have := Hlt.out; omega))
  clear hFV hF2
  generalize (((((World.setCell _ _ _).setCell _ _).setCell _ _).setCell _ _).setCell _ _).setCell _ _ = Z at hV HBV HRV ⊢
  clear x0 x1 x2 x3 x4 x5 y0 y1 y2 y3 y4 y5 g0 g1 g2 g3 g4 g5
  have e0 := cell_of_row _ _ 0 _ _ _ hV
  have e1 := cell_of_row _ _ 1 _ _ _ hV
  have e2 := cell_of_row _ _ 2 _ _ _ hV
  have e3 := cell_of_row _ _ 3 _ _ _ hV
  have e4 := cell_of_row _ _ 4 _ _ _ hV
  have e5 := cell_of_row _ _ 5 _ _ _ hV
  simp at e0 e1 e2 e3 e4 e5
  refine bodyPost_ret (v := .agg #[.int .i64 O, .int .u32 E, .int .u32 Q, .int .i64 C, .bool I, .slice xa m xcap]) (by simp [results, Try.results6, asAddr, Result.andThen, go_sem, e0, e1, e2, e3, e4, e5]) rfl ⟨⟨xa, xcap, by show _ = Ending.returned (recV _ (.slice xa (L.take 20).length xcap)); rw [Hm.out]; rfl, ?_, ?_, ?_⟩, HBV.out⟩
  · show SlAt ac 2 Z (.slice xa (L.take 20).length xcap) (L.take 20)
    rw [Hm.out]
    exact slAt_of_row (cs := ac) (fun _ => rfl) HRV.out Hm.out
  · show NilOk (.slice xa (L.take 20).length xcap)
    rw [Hm.out]
    rcases HRV.out.2 with ⟨h, _⟩ | ⟨g', c', cur, h, _⟩
    · exact .inr h
    · exact .inl ⟨_, _, _, h⟩
  · intro p hp
    rcases HRV.out.2 with ⟨h, _⟩ | ⟨g', c', cur, h, h2, h3, _⟩
    · rw [hp] at h; simp at h
    · rw [hp] at h
      simp at h
      exact ⟨g', h.1, by have := Hlt.out; omega, cur, h3⟩
end Go.Proofs.Ytpdpdhnllmlfdaa
namespace Go.Proofs.Ytpdpdhnllmlfdaa.Wi
open Go.RowKit

theorem ext_bytes' {a b : ByteArray} (h : a.data.toList = b.data.toList) : a = b := by
  cases a; cases b; simp at h; simp [h]
theorem str_app (b : ByteArray) (l m : List Int) : b ++ strOfNums l ++ strOfNums m = b ++ strOfNums (l ++ m) := by
  apply ext_bytes'
  simp [strOfNums_data]
theorem str_nil (b : ByteArray) : b ++ strOfNums [] = b := by
  apply ext_bytes'
  simp [strOfNums_data]
theorem conv_one (W : World) (x : Int) (T : TypeId) : (convert 123 9 (.slice (some ⟨W.heap.size, 0, none⟩) 1 1)).run Try.prog (W.alloc (.cells #[.int .u8 x] T)) = .ok (.string (strOfNums [x])) (W.alloc (.cells #[.int .u8 x] T)) := by
  refine run_convert_bytes_arg _ 123 5 Try.underlying123 Try.underlying5 W.heap.size 0 1 1 [x] rfl (fun i hi => ?_) 9 Try.underlying9
  obtain rfl : i = 0 := by omega
  simp

/-- A number laid in n bytes, the highest first. -/
def layD (v : Nat) : Nat → List Int
  | 0 => []
  | m + 1 => ((v / 2 ^ (8 * m) % 256 : Nat) : Int) :: layD v m
theorem layD_len (v n : Nat) : (layD v n).length = n := by
  induction n with
  | zero => rfl
  | succ n ih => simp [layD, ih]
theorem layN_layD (v n : Nat) (hn : n = 1 ∨ n = 2 ∨ n = 4 ∨ n = 8) : layN v n = layD v n := by
  rcases hn with rfl | rfl | rfl | rfl <;> simp [layN, layD, List.range_succ]
end Go.Proofs.Ytpdpdhnllmlfdaa.Wi
namespace Go.Proofs.Ytpdpdhnllmlfdaa.Wi
open Go.RowKit

end Go.Proofs.Ytpdpdhnllmlfdaa.Wi
namespace Go.Proofs.Ytpdpdhnllmlfdaa
open Go.RowKit

theorem drt_any (n : Int) (w : World) : Calls Try.prog 52 #[.int .i64 n] w fun e w' => e = .returned (.bool (isR n)) ∧ w' = w := by
  by_cases h1 : 1 ≤ n
  · by_cases h2 : n ≤ 24
    · go_enter Try.func52, Try.ntmps52
      go_wp2
      go_ret
      exact ⟨by simp [isR, h1, h2], rfl⟩
    · go_enter Try.func52, Try.ntmps52
      go_wp2
      go_ret
      exact ⟨by simp [isR, h1]; omega, rfl⟩
  · go_enter Try.func52, Try.ntmps52
    go_wp2
    go_ret
    exact ⟨by simp [isR]; omega, rfl⟩
set_option maxHeartbeats 1000000 in
theorem dmayS_any (o e s : Int) (w : World) : Calls Try.prog 46 #[stV o e s] w fun r w' => r = .returned (.bool (mayS o e s)) ∧ Below w.heap.size w w' := by
  have hb0 : Below w.heap.size w (w.alloc (stO o e s)) := (Below.refl _ w).alloc (Nat.le_refl _) _
  go_enter Try.func46, Try.ntmps46
  go_wp2_with fail
  refine (drt_any o _).mono ?_
  rintro e' w2 ⟨rfl, hw2⟩
  rw [hw2]
  clear hw2 w2
  obtain ⟨b1, hb1⟩ : ∃ b1, isR o = b1 := ⟨_, rfl⟩
  have Hb1 := hidIn hb1
  rw [hb1]
  clear hb1
  cases b1
  · go_wp2_with fail
    go_ret
    exact ⟨by simp [mayS, Hb1.out], hb0⟩
  by_cases h1 : 0 < e
  · by_cases h2 : 0 < s
    · go_wp2_with fail
      go_ret
      exact ⟨by simp [mayS, Hb1.out, h1, h2], hb0⟩
    · go_wp2_with fail
      go_ret
      exact ⟨by simp [mayS, Hb1.out]; omega, hb0⟩
  · go_wp2_with fail
    go_ret
    exact ⟨by simp [mayS, Hb1.out]; omega, hb0⟩
/-- Numbers laid behind one another. -/
abbrev uc (z : Nat) : List Value := [.int .u64 (z : Nat)]
def putS (ps : List (Nat × Nat)) : ByteArray := ps.foldl (fun s p => s ++ ly p.1 p.2) ⟨#[]⟩
def flP (ps : List (Nat × Nat)) : List Nat := ps.flatMap fun p => [p.1, p.2]
theorem putS_snoc (ps : List (Nat × Nat)) (p : Nat × Nat) : putS (ps ++ [p]) = putS ps ++ ly p.1 p.2 := by simp [putS, List.foldl_append]
theorem flP_get : ∀ (ps : List (Nat × Nat)) (k : Nat) (p : Nat × Nat), ps[k]? = some p → (flP ps)[2 * k]? = some p.1 ∧ (flP ps)[2 * k + 1]? = some p.2
  | [], k, p, h => by simp at h
  | q :: ps, 0, p, h => by simp at h; subst h; exact ⟨rfl, rfl⟩
  | q :: ps, k + 1, p, h => by
    have := flP_get ps k p (by simpa using h)
    have e : flP (q :: ps) = q.1 :: q.2 :: flP ps := by simp [flP]
    rw [e, show 2 * (k + 1) = 2 * k + 1 + 1 from by omega]
    simpa using this
theorem flP_len (ps : List (Nat × Nat)) : (flP ps).length = 2 * ps.length := by
  induction ps with
  | nil => rfl
  | cons q ps ih =>
    have e : flP (q :: ps) = q.1 :: q.2 :: flP ps := by simp [flP]
    rw [e]
    simp [ih]
    omega
theorem putS_size : ∀ (ps : List (Nat × Nat)), (∀ p ∈ ps, NumB p.1 p.2) → ∀ k, (putS (ps.take k)).size ≤ 4 * k := by
  intro ps h k
  induction k with
  | zero => exact Nat.le_refl 0
  | succ k ih =>
    by_cases hk : k < ps.length
    · rw [List.take_succ_eq_append_getElem hk, putS_snoc, app_size, ly_size]
      have := h ps[k] (List.getElem_mem hk)
      unfold NumB at this
      omega
    · rw [List.take_of_length_le (by omega)] at ih ⊢
      omega
set_option maxHeartbeats 1000000 in
theorem dnewer_any (e q f r : Nat) (he : e < 4294967296) (hq : q < 4294967296) (hf : f < 4294967296) (hr : r < 4294967296) (o' p' : Int) (w : World) : Calls Try.prog 35 #[stV o' e q, stV p' f r] w fun x w' => x = .returned (.int .i64 (newI e q f r)) ∧ Below w.heap.size w w' := by
  obtain ⟨res, hres⟩ : ∃ res, newI (e : Int) (q : Int) (f : Int) (r : Int) = res := ⟨_, rfl⟩
  rw [hres]
  have Hres := hidIn hres
  clear hres
  by_cases h1 : (e : Int) * 4294967296 + q < (f : Int) * 4294967296 + r
  · have HV : Hid (res = -1) := hidIn (by rw [← Hres.out]; exact (newI_low _ _ _ _).2 (by omega))
    go_enter Try.func35, Try.ntmps35
    go_wp2_with fail
    go_ret
    exact ⟨by rw [HV.out]; rfl, by go_grown⟩
  by_cases h2 : (f : Int) * 4294967296 + r < (e : Int) * 4294967296 + q
  · have HV : Hid (res = 1) := hidIn (by rw [← Hres.out]; exact (newI_pos _ _ _ _).2 (by omega))
    go_enter Try.func35, Try.ntmps35
    go_wp2_with fail
    go_ret
    exact ⟨by rw [HV.out]; rfl, by go_grown⟩
  · have HV : Hid (res = 0) := hidIn (by rw [← Hres.out]; exact (newI_zero _ _ _ _).2 (by omega))
    go_enter Try.func35, Try.ntmps35
    go_wp2_with fail
    go_ret
    exact ⟨by rw [HV.out]; rfl, by go_grown⟩
end Go.Proofs.Ytpdpdhnllmlfdaa
