/- errors.Is, of a refusal. A claim's one router; who owns an id. Who owns an id. Owner, of claims as they are told; the law's small; works. Free. Ways by ids in a map, as a function (by program out of N0). table.owners. What is told in an order: no edge leads back to where one ahead of it began; so what is gathered at a node is made of what stands at the end. What From has of each node at its end. What From has of each node at its end, in ways: the cost, the fewest and the most hops, the first steps. From's answer, in ways. What Build stands on: live records' claims, rows appended, a range over ids, what is gathered. table.Build, where nothing is wrong. -/
import Derived.Test.YtgeoghhajjlofaaGreatDoorZ2
import Derived.LaidEql
import Derived.Stop.Asserts
import Derived.RowKitTokens
import Derived.Deep.RegionHeld3
import Derived.Test.YtgeoghhajjlofaaGreatDoorZ1
import Derived.Maps.RangeWalk
namespace Go.Proofs.YtgeoghhajjlofaaGreatDoor
open Go.RowKit Go.Extern.Stop Go.Stop Go.Extern

abbrev eno (k : Int) : Value := .iface 30 (.int .i64 k)
def cmpE : Array Value → Sem Value := Extern.ReflectliteType.method fun t => do Rtype.noPackHeld "Comparable" t; pure (.bool (← typeInfo t).comparable)
theorem is_comparable (w : World) : (cmpE #[.agg #[.pointer (some ⟨1, 30, none⟩)]]).run Tryz.prog w = .ok (.bool true) w := by kernel_rfl
end Go.Proofs.YtgeoghhajjlofaaGreatDoor
namespace Go.Proofs.YtgeoghhajjlofaaGreatDoor
open Go.RowKit

theorem isFree_any (id : Int) (a : Option Addr) (n c : Nat) (w : World) : Calls Tryz.prog 67 #[.agg #[.int .i64 id, .slice a n c]] w fun e w' => e = .returned (.bool (n == 1)) ∧ Below w.heap.size w w' := by
  by_cases h : n = 1
  · subst h
    go_enter Tryz.func67, Tryz.ntmps67
    go_wp2
    go_ret
    exact ⟨rfl, by go_grown⟩
  · have h' : ¬ ((n : Int) = 1) := by omega
    have hb : (n == 1) = false := by simpa using h
    have hi : ((n : Int) == 1) = false := by simpa using h'
    rw [hb]
    clear hb h h'
    go_enter Tryz.func67, Tryz.ntmps67
    go_wp2
    go_ret
    exact ⟨rfl, by go_grown⟩
end Go.Proofs.YtgeoghhajjlofaaGreatDoor
namespace Go.Proofs.YtgeoghhajjlofaaGreatDoor
open Go.RowKit

abbrev Cl : Type := Int × List Int × Value
/-- The claim of an id. -/
def clOf (L : List Cl) (id : Int) : Option Cl := L.find? fun x => x.1 == id
theorem find_drop {L : List Cl} {id : Int} {k : Nat} {x : Cl} (hn : ∀ y ∈ L.take k, y.1 ≠ id) (hx : L[k]? = some x) (hi : x.1 = id) : clOf L id = some x := by
  have h : L = L.take k ++ x :: L.drop (k + 1) := by rw [← drop_next hx, List.take_append_drop]
  unfold clOf
  rw [h, List.find?_append, List.find?_eq_none.2 (fun y hy => by simpa using hn y hy), List.find?_cons]
  simp [hi]
theorem find_none {L : List Cl} {id : Int} (hn : ∀ y ∈ L, y.1 ≠ id) : clOf L id = none := List.find?_eq_none.2 (fun y hy => by simpa using hn y hy)
end Go.Proofs.YtgeoghhajjlofaaGreatDoor
namespace Go.Proofs.YtgeoghhajjlofaaGreatDoor
open Go.RowKit

/-- The claim of an id, as it is told. -/
def tOf (T : List (Int × List Int)) (id : Int) : Option (Int × List Int) := T.find? fun p => p.1 == id
theorem clOf_cls (L : List Cl) (id : Int) : (clOf L id).map (fun x => (x.1, x.2.1)) = tOf (cls L) id := by
  unfold clOf tOf cls
  rw [List.find?_map]
  rfl
/-- Claims that stand in memory, as they are told. -/
def TAt (w : World) (u : Value) (T : List (Int × List Int)) : Prop := ∃ L, ClsAt w u L ∧ cls L = T
theorem TAt.keep {w w' : World} {u : Value} {T : List (Int × List Int)} (h : TAt w u T) (hb : Below w.heap.size w w') : TAt w' u T := by
  obtain ⟨L, h1, h2⟩ := h
  exact ⟨L, h1.keep hb (Nat.le_refl _), h2⟩
theorem TAt.shape {w : World} {u : Value} {T : List (Int × List Int)} (h : TAt w u T) : ∃ a c, u = .slice a T.length c := by
  obtain ⟨L, h1, h2⟩ := h
  obtain ⟨a, cap, h3, _⟩ := h1.r
  exact ⟨a, cap, by rw [h3, ← h2, List.length_map]⟩
/-- A record that claims an id. -/
abbrev smR (o id : Int) : Rc := ⟨o, 1, 1, id, false, []⟩
/-- Records out of a block. -/
theorem recs_blk {w : World} {b : Nat} {l : List (Rc × Value)} (h : w.heap[b]? = some (.cells (fl rcc l).toArray 73)) (hn : l.length ≤ 1000) (ha : ∀ x ∈ l, SlAt ac 2 w x.2 x.1.adjs) : RecsAt w (.slice (some ⟨b, 0, none⟩) l.length l.length) l := by
  refine ⟨slAt_of_row (cs := rcc) (sz := 6) (base := 0) (k := l.length) (e := 73) (fun _ => rfl) ⟨fl_length (sz := 6) (cs := rcc) (fun _ => rfl) l, .inr ⟨b, l.length, _, rfl, Nat.zero_le _, h, Nat.le_refl _, by unfold maxLen; omega, by simp [fl_length (sz := 6) (cs := rcc) (fun _ => rfl)], ?_⟩⟩ rfl, ha⟩
  simp only
  rw [List.take_of_length_le]
  rw [fl_length (sz := 6) (cs := rcc) (fun _ => rfl)]
  exact Nat.le_refl _
theorem nilAdj (w : World) : SlAt ac 2 w nilS [] := slAt_of_row (cs := ac) (fun _ => rfl) (World.ownsRow_nil w 0 75 2) rfl
abbrev wkR : List Rc := [smR 1 5, smR 2 7, smR 3 5, smR 4 0]
theorem wk_ok : bothOk no1 wkR = true := by decide
theorem wk_allC : allC wkR = [(5, [1, 3]), (7, [2])] := by
  have h1 : idsL wkR = [5, 7] := crise_ext (idsL_rise _) (by decide) (fun x => by
    rw [mem_idsL]
    constructor
    · rintro ⟨_, h2⟩
      obtain ⟨y, hy⟩ := List.exists_mem_of_ne_nil _ h2
      obtain ⟨r, hr, h3, h4, _⟩ := mem_gat.1 hy
      simp only [wkR, List.mem_cons, List.not_mem_nil, or_false] at hr
      rcases hr with rfl | rfl | rfl | rfl <;> simp at h3 h4 <;> subst h3 <;> simp
    · intro h
      simp only [List.mem_cons, List.not_mem_nil, or_false] at h
      rcases h with rfl | rfl
      · exact ⟨by omega, by decide⟩
      · exact ⟨by omega, by decide⟩)
  unfold allC
  rw [h1]
  show [((5 : Int), rsL (gat wkR 5)), (7, rsL (gat wkR 7))] = _
  rw [show gat wkR 5 = [1, 3] by decide, show gat wkR 7 = [2] by decide, rsL_of (by decide), rsL_of (by decide)]
end Go.Proofs.YtgeoghhajjlofaaGreatDoor
namespace Go.Proofs.YtgeoghhajjlofaaGreatDoor
open Go.RowKit

/-- The claims that have just one router. -/
def freeT (T : List (Int × List Int)) : List (Int × List Int) := T.filter fun p => decide (p.2.length = 1)
theorem freeT_yes (T : List (Int × List Int)) {p : Int × List Int} (h : p.2.length = 1) : freeT (T ++ [p]) = freeT T ++ [p] := by unfold freeT; rw [List.filter_append]; simp [h]
theorem freeT_no (T : List (Int × List Int)) {p : Int × List Int} (h : p.2.length ≠ 1) : freeT (T ++ [p]) = freeT T := by unfold freeT; rw [List.filter_append]; simp [h]
/-- A claim's block is read. -/
def frC (br : Nat) (id : Int) (xa : Option Addr) (xc : Nat) (wx : World) : Prop := wx.cell? ⟨br, 0, none⟩ = some (.int .i64 id) ∧ wx.cell? ⟨br, 1, none⟩ = some (.slice xa 1 xc)
theorem frC_of {br : Nat} {id : Int} {xa : Option Addr} {xc : Nat} {wx : World} (h : wx.heap[br]? = some (.cells #[.int .i64 id, .slice xa 1 xc] 108)) : frC br id xa xc wx := by
  have d0 := cell_of_row _ _ 0 _ _ _ h
  have d1 := cell_of_row _ _ 1 _ _ _ h
  simp at d0 d1
  exact ⟨d0, d1⟩
set_option maxRecDepth 100000 in
set_option maxHeartbeats 4000000 in
theorem free_T {T : List (Int × List Int)} {v : Value} {w : World} (h : TAt w v T) (hl : T.length ≤ 100000) :
    Calls Tryz.prog 43 #[v] w fun e w' => (∃ a c, e = .returned (.slice a (freeT T).length c) ∧ ClsAns w w' (freeT T) (.slice a (freeT T).length c)) ∧ Below w.heap.size w w' := by
  obtain ⟨L, h1, h2⟩ := h
  have hlen : L.length = T.length := by rw [← h2, List.length_map]
  obtain ⟨a, cap, rfl, hn, _, hat⟩ := h1.r.clms
  have Ha := hidIn hat
  have HA := hidIn h1.a
  have H2 := hidIn h2
  obtain ⟨n, hnn⟩ : ∃ n, L.length = n := ⟨_, rfl⟩
  rw [hnn] at hn ⊢
  have Hn := hidIn hnn
  have hn2 : n ≤ 100000 := by omega
  have HTl : Hid (T.length = n) := hidIn (by omega)
  clear hat h1 h2 hnn hlen hl
  go_enter Tryz.func43, Tryz.ntmps43
  go_wp2_with fail
  go_loopw [3, 8] (fun u i wr => ∃ (k : Nat) (F : List Cl) (fn : Nat), k ≤ n ∧ i = .int .i64 k ∧ (∃ a c, u = .slice a fn c) ∧ Hid (Below w.heap.size w wr ∧ wr.ownsRow w.heap.size 108 2 u fn (fl clc F) ∧ F.length = fn ∧ fn ≤ k ∧ cls F = freeT (T.take k) ∧ ∀ x ∈ F, wr.ownsRow w.heap.size 3 1 x.2.2 x.2.1.length (fl ic x.2.1))) (fun _ i _ => n - (intOf i).toNat)
  case atStart => exact ⟨0, [], 0, Nat.zero_le _, rfl, ⟨none, 0, rfl⟩, hidIn ⟨Below.refl _ _, World.ownsRow_nil _ _ _ _, rfl, Nat.le_refl _, rfl, fun _ h => absurd h List.not_mem_nil⟩⟩
  case round =>
    obtain ⟨k, F, fn, hk, rfl, ⟨ua, uc, rfl⟩, HR⟩ := hrel
    obtain ⟨hb, hu, hFl, hfk, hFc, hFr⟩ := HR.out
    clear HR
    by_cases hlt : k < n
    · obtain ⟨bk, o, rfl, hbk, hcell⟩ := Ha.out (by have := Hn.out; omega)
      obtain ⟨⟨id, xs, xv⟩, hz⟩ : ∃ z, L[k]? = some z := ⟨L[k]'(by have := Hn.out; omega), List.getElem?_eq_getElem _⟩
      obtain ⟨q0, q1⟩ := hcell k _ hz
      obtain ⟨hxs, hxn⟩ := HA.out _ (List.mem_of_getElem? hz)
      simp only at q0 q1 hxs hxn
      have hTk : T[k]? = some (id, xs) := by rw [← H2.out, List.getElem?_map, hz]; rfl
      have c0 := (hb.cell (p := ⟨bk, o + k * 2, none⟩) hbk).trans q0
      have c1 := (hb.cell (p := ⟨bk, o + k * 2 + 1, none⟩) hbk).trans q1
      have HXs := hidIn hxs
      have HXn := hidIn hxn
      obtain ⟨xa, xc, hxv, _⟩ := hxs
      subst hxv
      have hki : (k : Int) < (n : Int) := by omega
      obtain ⟨W1, hW1⟩ : ∃ W1, wr.alloc (.cells #[.int .i64 id, .slice xa xs.length xc] 108) = W1 := ⟨_, rfl⟩
      have b1 : Below wr.heap.size wr W1 := by rw [← hW1]; exact (Below.refl _ wr).alloc (Nat.le_refl _) _
      have hX := heap_alloc_last wr (.cells #[.int .i64 id, .slice xa xs.length xc] 108)
      rw [hW1] at hX
      obtain ⟨br, hbr⟩ : ∃ br, wr.heap.size = br := ⟨_, rfl⟩
      rw [hbr] at hX
      have Hne : Hid (∀ j, (Value.slice ua fn uc).ownBlock = some j → ¬ j = br) := hidIn fun j hj e => by have := (hu.lt j hj).2; omega
      have x0 := cell_of_row _ _ 0 _ _ _ hX
      have x1 := cell_of_row _ _ 1 _ _ _ hX
      simp at x0 x1
      have HX1 := hidIn hX
      have HW := hidIn hW1
      have HF := hidIn (isFree_any id xa xs.length xc W1)
      have HT1 := hidIn (take_snoc hTk)
      have HBB := hidIn b1
      have HB := hidIn hb
      have HU := hidIn hu
      have HFl := hidIn hFl
      have HFc := hidIn hFc
      have HFr' := hidIn hFr
      obtain ⟨xn, hxn'⟩ : ∃ xn, xs.length = xn := ⟨_, rfl⟩
      have Hxn := hidIn hxn'
      rw [hxn'] at c1 x1 HW HF HX1 HXs HXn
      clear hcell q0 q1 hxn hX b1 hW1 hz hTk hxn' hb hu hFl hFc hFr
      go_upto_region 5 with fail
      rw [HW.out]
      clear HW c0 c1 hbr
      go_wp2_with fail
      refine HF.out.mono ?_
      rintro e w2 ⟨rfl, hb2⟩
      have hbw2 : Below wr.heap.size wr w2 := HBB.out.trans (hb2.mono HBB.out.size)
      have HB2 := hidIn (HB.out.trans (hbw2.mono HB.out.size))
      have HX2 := hidIn ((hb2.block _ (block_lt HX1.out)).trans HX1.out)
      have HU2 := hidIn (row_below HU.out hbw2 (Nat.le_refl _))
      have HFr : Hid (∀ x ∈ F, w2.ownsRow w.heap.size 3 1 x.2.2 x.2.1.length (fl ic x.2.1)) := hidIn fun x hx => row_below (HFr'.out x hx) hbw2 (Nat.le_refl _)
      clear hb2 hbw2 HF HX1 HBB HB HU HFr' x0 x1
      by_cases hone : xn = 1
      · subst hone
        have HFs : Hid (∀ wq, Below w2.heap.size w2 wq → frC br id xa xc wq) := hidIn fun wq hq => frC_of ((hq.block _ (block_lt HX2.out)).trans HX2.out)
        have HCl : Hid (∀ wq, Below w2.heap.size w2 wq → Calls Tryz.prog 62 #[.slice xa 1 xc] wq fun e w' => (∃ v', e = .returned v' ∧ w'.ownsRow wq.heap.size 3 1 v' 1 (fl ic xs)) ∧ Below wq.heap.size wq w') := hidIn fun wq hq => by
          have := cclone_any (HXs.out.keep (HB2.out.trans (hq.mono HB2.out.size)) (Nat.le_refl _)) HXn.out (by rw [Hxn.out]; omega)
          rw [Hxn.out] at this
          exact this
        go_upto_region 6 with fail
        refine wp_region_held_drew (S := fun wx => frC br id xa xc wx) (by kernel_rfl) (HFs.out _ ((Below.refl _ w2).drew)) (fun hHeld => ?_)
        have hh : Below w2.heap.size w2 w2.drew := (Below.refl _ w2).drew
        refine wpAnyH_take (i := 0) (v := ?_) rfl (by kernel_rfl) (by kernel_rfl) (by kernel_rfl) (fun _ _ _ h => h) (Or.inl ⟨by rfl, ?_⟩) (by assumption) ?_
        rotate_left
        · intro wq hSw
          clear hSw
          go_simp
          try (with_reducible rfl)
        refine wpAnyH_take (i := 1) (v := ?_) rfl (by kernel_rfl) (by kernel_rfl) (by kernel_rfl) (fun _ _ _ h => h) (Or.inl ⟨by rfl, ?_⟩) (by assumption) ?_
        rotate_left
        · intro wq hSw
          clear hSw
          go_simp
          try (with_reducible rfl)
        refine wpAnyH_take (i := 2) (v := ?_) rfl (by kernel_rfl) (by kernel_rfl) (by kernel_rfl) (fun _ _ _ h => h) (Or.inl ⟨by rfl, ?_⟩) (by assumption) ?_
        rotate_left
        · intro wq hSw
          obtain ⟨zz0, zz1⟩ := hSw
          have hSw := zz0
          clear hSw
          go_simp
          try (with_reducible rfl)
        refine wpAnyH_take (i := 3) (v := ?_) rfl (by kernel_rfl) (by kernel_rfl) (by kernel_rfl) (fun _ _ _ h => h) (Or.inl ⟨by rfl, ?_⟩) (by assumption) ?_
        rotate_left
        · intro wq hSw
          clear hSw
          go_simp
          try (with_reducible rfl)
        refine wpAnyH_take (i := 4) (v := ?_) rfl (by kernel_rfl) (by kernel_rfl) (by kernel_rfl) (fun _ _ _ h => h) (Or.inl ⟨by rfl, ?_⟩) (by assumption) ?_
        rotate_left
        · intro wq hSw
          obtain ⟨zz0, zz1⟩ := hSw
          have hSw := zz0
          clear hSw
          go_simp
          try (with_reducible rfl)
        refine wpAnyH_ready (rs := [5]) (by kernel_rfl) (by simp) ?_
        refine AllReadyH.cons (i := 5) rfl (fun K hK => ?_) AllReadyH.nil
        go_simp
        refine (HCl.out _ hh).mono ?_
        rintro e w5 ⟨⟨v', rfl, hr5⟩, hbx⟩
        have h5 : Below w2.heap.size w2 w5 := hh.trans (hbx.mono hh.size)
        obtain ⟨ra, rc, rfl⟩ := row_shape hr5
        refine hK.out _ _ (HFs.out w5 h5) (fun _ => ?_)
        clear hK K
        refine wpAnyH_take (i := 6) (v := ?_) rfl (by kernel_rfl) (by kernel_rfl) (by kernel_rfl) (fun _ _ _ h => h) (Or.inl ⟨by rfl, ?_⟩) (by assumption) ?_
        rotate_left
        · intro wq hSw
          clear hSw
          go_simp
          try (with_reducible rfl)
        refine wpAnyH_ready (rs := [7]) (by kernel_rfl) (by simp) ?_
        refine AllReadyH.cons (i := 7) rfl ?_ AllReadyH.nil
        go_simp
        intro K hK
        have hB5 : Below w.heap.size w w5 := HB2.out.trans (h5.mono HB2.out.size)
        have hu5 := row_below HU2.out h5 (Nat.le_refl _)
        have hr5' := row_low hr5 (Nat.le_trans HB2.out.size hh.size)
        obtain ⟨g, gc, w6, hrun, hown, hb6, hF6⟩ := append_clm hu5 (id, xs, .slice ra 1 rc) rfl (by omega) hB5.size
        have hnI : ∀ {base i : Nat} {x : Value} {zs : List Value}, w5.ownsRow base 3 1 x i zs → w6.ownsRow base 3 1 x i zs := fun {base i x zs} hx => row_fr hx hF6 (fun i hi e => by
          obtain ⟨cur, h1⟩ := crowTy hx hi
          obtain ⟨cur', h2⟩ := crowTy hu5 e
          rw [h1] at h2
          simp only [Option.some.injEq, Obj.cells.injEq] at h2
          exact absurd h2.2.1 (by decide))
        have HO : Hid (Below w.heap.size w w6 ∧ w6.ownsRow w.heap.size 108 2 (.slice (some ⟨g, 0, none⟩) (fn + 1) gc) (fn + 1) (fl clc (F ++ [(id, xs, .slice ra 1 rc)])) ∧ (F ++ [(id, xs, Value.slice ra 1 rc)]).length = fn + 1 ∧ fn + 1 ≤ k + 1 ∧ cls (F ++ [(id, xs, Value.slice ra 1 rc)]) = freeT (T.take (k + 1)) ∧ ∀ x ∈ F ++ [(id, xs, Value.slice ra 1 rc)], w6.ownsRow w.heap.size 3 1 x.2.2 x.2.1.length (fl ic x.2.1)) := hidIn (by
          refine ⟨hB5.trans hb6, hown, by rw [List.length_append, HFl.out]; rfl, by omega, by rw [HT1.out, freeT_yes _ (by simp only; exact Hxn.out), ← HFc.out, cls, List.map_append]; rfl, fun x hx => ?_⟩
          rcases List.mem_append.1 hx with hx | hx
          · exact hnI (row_below (HFr.out x hx) h5 (Nat.le_refl _))
          · rw [List.mem_singleton.1 hx]
            refine hnI ?_
            show w5.ownsRow _ _ 1 (.slice ra 1 rc) xs.length _
            rw [Hxn.out]
            exact hr5')
        have HRun := hidIn hrun
        have h7 : Below w2.heap.size w2 (w5.alloc (.cells #[.int .i64 id, .slice ra 1 rc] 108)) := h5.trans (((Below.refl _ w5).alloc (Nat.le_refl _) _).mono h5.size)
        refine hK.out _ _ (HFs.out _ h7) (fun _ => ?_)
        have hX5 := (h5.block _ (block_lt HX2.out)).trans HX2.out
        have hS6 : frC br id xa xc w6 := frC_of ((hF6.block _ (block_lt hX5) (fun e => Hne.out br e rfl)).trans hX5)
        clear hK K hu5 hr5' hrun hown hb6 hF6 hnI hB5 hr5 hbx h7 hX5
        refine wpAnyH_ready (rs := [8]) (by kernel_rfl) (by simp) ?_
        refine AllReadyH.cons (i := 8) rfl (fun K hK => ?_) AllReadyH.nil
        refine step_append rfl (.tmp 14) (.tmp 21) 103 rfl (by kernel_rfl) (by kernel_rfl) HRun.out ?_
        refine hK.out _ _ hS6 (fun _ => ?_)
        clear hK K
        refine wpAnyH_take (i := 9) (v := ?_) rfl (by kernel_rfl) (by kernel_rfl) (by kernel_rfl) (fun _ _ _ h => h) (Or.inl ⟨by rfl, ?_⟩) (by assumption) ?_
        rotate_left
        · intro wq hSw
          clear hSw
          go_simp
          try (with_reducible rfl)
        refine wpAnyH_done (by kernel_rfl) ?_ _
        go_wp2_with fail
        go_roundw
        case rel => exact ⟨k + 1, _, fn + 1, by omega, by go_num, ⟨_, _, rfl⟩, HO⟩
        case measure => simp [intOf]; omega
      · have hb1 : (xn == 1) = false := by simpa using hone
        rw [hb1]
        have HO : Hid (Below w.heap.size w w2 ∧ w2.ownsRow w.heap.size 108 2 (.slice ua fn uc) fn (fl clc F) ∧ F.length = fn ∧ fn ≤ k + 1 ∧ cls F = freeT (T.take (k + 1)) ∧ ∀ x ∈ F, w2.ownsRow w.heap.size 3 1 x.2.2 x.2.1.length (fl ic x.2.1)) := hidIn ⟨HB2.out, HU2.out, HFl.out, by omega, by rw [HT1.out, freeT_no _ (by simp only; rw [Hxn.out]; exact hone), HFc.out], HFr.out⟩
        clear hb1
        go_wp2_with fail
        go_roundw
        case rel => exact ⟨k + 1, F, fn, by omega, by go_num, ⟨_, _, rfl⟩, HO⟩
        case measure => simp [intOf]; omega
    · have hke : T.take k = T := List.take_of_length_le (by have := HTl.out; omega)
      rw [hke] at hFc
      have hki : ¬ ((k : Int) < (n : Int)) := by omega
      have hfl : (freeT T).length = fn := by rw [← hFc, List.length_map, hFl]
      have HE : Hid ((freeT T).length = fn ∧ ClsAns w wr (freeT T) (.slice ua fn uc) ∧ Below w.heap.size w wr) := hidIn ⟨hfl, ⟨F, by rw [hFl]; exact hu, hFc, hFr⟩, hb⟩
      clear hb hu hFl hfk hFc hFr hke hfl
      go_wp2_with fail
      go_ret
      obtain ⟨e1, e2, e3⟩ := HE.out
      exact ⟨⟨ua, uc, by rw [e1]; rfl, by rw [e1]; exact e2⟩, e3⟩
end Go.Proofs.YtgeoghhajjlofaaGreatDoor
namespace Go.Proofs.YtgeoghhajjlofaaGreatDoor
open Go.RowKit Go.Maps

abbrev noRch : Value := .agg #[.int .i64 0, .int .i64 0, .int .i64 0, .int .i64 0, .slice none 0 0]
/-- What a map has, by keys. -/
def MpC (w : World) (B n : Nat) (f : Int → Option Value) : Prop :=
  ∃ D : DataW Value, w.ownsMap Tryz.prog 3 selfR B n D ∧ ∀ k, (Lit.int .i64 k).wf = true → Maps.has D (.int .i64 k) = (f k).isSome ∧ D.atKey (.int .i64 k) (.held noRch) = .held ((f k).getD noRch)
theorem mpC_new (w : World) : MpC (w.alloc (.map #[] 0)) w.heap.size 0 (fun _ => none) :=
  ⟨.map [], World.ownsMap_made _ _ _ _, fun _ _ => ⟨rfl, rfl⟩⟩
theorem MpC.lt {w : World} {B n : Nat} {f : Int → Option Value} (h : MpC w B n f) : B < w.heap.size := by
  obtain ⟨D, h1, _⟩ := h
  exact h1.lt
theorem MpC.keep {w w' : World} {B n : Nat} {f : Int → Option Value} {T : Nat → Prop} (h : MpC w B n f) (hF : Fr T w w') (hT : ¬ T B) : MpC w' B n f := by
  obtain ⟨D, ⟨es, clock, hb, r⟩, h2⟩ := h
  exact ⟨D, ⟨es, clock, (hF.block B (Array.getElem?_eq_some_iff.1 hb).1 hT).trans hb, r⟩, h2⟩
theorem MpC.mono {w : World} {B n m : Nat} {f : Int → Option Value} (h : MpC w B n f) (hn : n ≤ m) : MpC w B m f := by
  obtain ⟨D, h1, h2⟩ := h
  exact ⟨D, h1.mono hn, h2⟩
theorem MpC.put {w : World} {B n : Nat} {f : Int → Option Value} (h : MpC w B n f) (hn : n < 1000000) {x : Int} (hx : (Lit.int .i64 x).wf = true) (v : Value) :
    ∃ w', (Instr.mapUpdate 61 (.map (some B)) (.int .i64 x) v).run Tryz.prog w = .ok () w' ∧ MpC w' B (n + 1) (putO f x v) ∧ Fr (fun k => k = B) w w' := by
  obtain ⟨D, h1, h2⟩ := h
  obtain ⟨w', hrun, ho, hg⟩ := h1.update (t := 61) keyI9 Tryz.underlying61 (by unfold maxLen; omega) (key_int hx) (d := .held v) (ps := []) rfl
  refine ⟨w', hrun, ⟨_, ho, fun k hk => ?_⟩, ⟨hg.os, hg.tape, hg.output, hg.size, fun k hk hs => hg.block k hk (fun e => hs (Option.some.inj e))⟩⟩
  by_cases hkx : k = x
  · subst hkx
    rw [has_put_same h1.isMap (key_lit k), atKey_put_same h1.isMap (key_lit k), putO_same]
    exact ⟨rfl, rfl⟩
  · have hne : (Lit.int .i64 k) ≠ .int .i64 x := fun h => hkx (by injection h)
    rw [has_put_other hne, atKey_put_other hne, putO_other f v hkx]
    exact h2 k hk
end Go.Proofs.YtgeoghhajjlofaaGreatDoor
namespace Go.Proofs.YtgeoghhajjlofaaGreatDoor
open Go.RowKit Go.Maps

theorem l_put13 {P : Program} {ops : Array Oper} {rest : List Oper} {o : Oper} {a : Act} {w w' : World} {Q : Exit → Act → World → Prop}
    (hg : o.guard = none) (m x v : Operand) (t : TypeId) (hop : o.op = Op.mapUpdate t m x v)
    (hrun : (Instr.mapUpdate t (a.eval m) (a.eval x) (a.eval v)).run P w = .ok () w') (h : wpList P ops Q rest (a.put o.dst undef) w') : wpList P ops Q (o :: rest) a w := by
  refine wpList_plain hg fun K hK => ?_
  unfold Oper.wp
  simp [execOp, hop, hrun, Result.andThen]
  exact hK _ _ h
theorem makeC (w : World) : (Instr.makeMap 61 none).run Tryz.prog w = .ok (.map (some w.heap.size)) (w.alloc (.map #[] 0)) := by kernel_rfl
/-- The first of a node among what is told of nodes. -/
def ofW (W : List Rr) (n : Int) : Option Rr := W.find? fun r => decide (r.node = n)
def liveL (W : List Rr) (l : List (Rc × Value)) : List (Rc × Value) := l.filter fun x => (ofW W x.1.origin).isSome
theorem liveL_yes {W : List Rr} {l : List (Rc × Value)} {x : Rc × Value} (h : (ofW W x.1.origin).isSome = true) : liveL W (l ++ [x]) = liveL W l ++ [x] := by simp [liveL, List.filter_append, h]
theorem liveL_no {W : List Rr} {l : List (Rc × Value)} {x : Rc × Value} (h : (ofW W x.1.origin).isSome = false) : liveL W (l ++ [x]) = liveL W l := by simp [liveL, List.filter_append, h]
theorem liveL_len (W : List Rr) (l : List (Rc × Value)) : (liveL W l).length ≤ l.length := List.length_filter_le _ _
theorem ofW_at {l : List (Rr × Value)} {k : Nat} {x : Rr × Value} {t : Int} (hx : l[k]? = some x) (ht : x.1.node = t) (hb : ∀ y ∈ l.take k, y.1.node ≠ t) : ofW (l.map (·.1)) t = some x.1 := by
  unfold ofW
  obtain ⟨hk, rfl⟩ := List.getElem?_eq_some_iff.1 hx
  have hs0 : l = l.take k ++ l[k] :: l.drop (k + 1) := by rw [← List.drop_eq_getElem_cons hk, List.take_append_drop]
  have hs : l.map (·.1) = (l.take k).map (·.1) ++ l[k].1 :: (l.drop (k + 1)).map (·.1) := (congrArg (List.map (·.1)) hs0).trans (by rw [List.map_append, List.map_cons])
  rw [hs, List.find?_append]
  have h1 : ((l.take k).map (·.1)).find? (fun r => decide (r.node = t)) = none := by
    rw [List.find?_eq_none]
    intro y hy
    obtain ⟨p, hp, rfl⟩ := List.mem_map.1 hy
    simpa using hb p hp
  rw [h1]
  simp [ht]
theorem ofW_no {l : List (Rr × Value)} {t : Int} (h : ∀ y ∈ l, y.1.node ≠ t) : ofW (l.map (·.1)) t = none := by
  unfold ofW
  rw [List.find?_eq_none]
  intro x hx
  obtain ⟨p, hp, rfl⟩ := List.mem_map.1 hx
  simpa using h p hp
theorem ofRow13 {w w' : World} {l : List (Rr × Value)} {t : Int} {e : Ending} (h : OfRow w w' l t e) : ∃ X a n c b, e = .returned (.tuple #[rchV X (.slice a n c), .bool b]) ∧ b = (ofW (l.map (·.1)) t).isSome ∧ (b = true → ofW (l.map (·.1)) t = some X) ∧ ∃ B, w.heap.size ≤ B ∧ w'.ownsRow B 3 1 (.slice a n c) X.next.length (fl ic X.next) := by
  rcases h with ⟨k, x, v, B, h1, h2, h3, h4, h5, h6⟩ | ⟨h1, h2⟩
  · obtain ⟨a, c, rfl⟩ := row_shape h6
    have := ofW_at h1 h2 h3
    exact ⟨x.1, a, _, c, true, h4, by rw [this]; rfl, fun _ => this, B, h5, h6⟩
  · exact ⟨noR, none, 0, 0, false, h2, by rw [ofW_no h1]; rfl, fun h => (by cases h), _, Nat.le_refl _, World.ownsRow_nil _ _ _ _⟩
theorem MpC.blk {w : World} {B n : Nat} {f : Int → Option Value} (h : MpC w B n f) : ∃ es cl, w.heap[B]? = some (.map es cl) := by
  obtain ⟨D, ⟨es, clock, hb, _⟩, _⟩ := h
  exact ⟨es, clock, hb⟩
theorem row_offM {w w' : World} {base k size M : Nat} {e : TypeId} {u : Value} {xs : List Value} (hr : w.ownsRow base e size u k xs) (hF : Fr (fun j => j = M) w w') (hM : ∃ es cl, w.heap[M]? = some (.map es cl)) : w'.ownsRow base e size u k xs :=
  row_fr hr hF fun j hj e => by
    obtain ⟨es, cl, hM⟩ := hM
    rcases hr.2 with ⟨rfl, _⟩ | ⟨g, cap, cur, rfl, _, hg, _⟩
    · simp [Value.ownBlock] at hj
    · simp [Value.ownBlock] at hj
      rw [hj, e, hM] at hg
      cases hg
/-- What is known of ids: the ways to their owners. -/
structure OwM (lo : Nat) (w' : World) (M : Nat) (T : List (Int × List Int)) (W : List Rr) (f : Int → Option Value) : Prop where
  m : MpC w' M T.length f
  v : ∀ id x, f id = some x → ∃ r X a n c, (id, [r]) ∈ T ∧ ofW W r = some X ∧ x = rchV X (.slice a n c) ∧ ∃ B, lo ≤ B ∧ w'.ownsRow B 3 1 (.slice a n c) X.next.length (fl ic X.next)
  d : ∀ p ∈ T, (f p.1).isSome = true
theorem OwM.keep {lo : Nat} {w' w2 : World} {M : Nat} {T : List (Int × List Int)} {W : List Rr} {f : Int → Option Value} (h : OwM lo w' M T W f) (hb : Below w'.heap.size w' w2) : OwM lo w2 M T W f :=
  ⟨h.m.keep (T := fun _ => False) (Fr.of_below hb) (fun e => e), fun id x hx => by
    obtain ⟨r, X, a, n, c, h1, h2, h3, B, h4, h5⟩ := h.v id x hx
    exact ⟨r, X, a, n, c, h1, h2, h3, B, h4, row_below h5 hb (Nat.le_refl _)⟩, h.d⟩
theorem OwM.put {lo : Nat} {w' w2 : World} {M : Nat} {T : List (Int × List Int)} {W : List Rr} {f : Int → Option Value} (h : OwM lo w' M T W f) {id r : Int} {X : Rr} {a : Option Addr} {n c : Nat} (hX : ofW W r = some X) {B : Nat} (hB : lo ≤ B) (hs : w'.ownsRow B 3 1 (.slice a n c) X.next.length (fl ic X.next)) (hm : MpC w2 M (T.length + 1) (putO f id (rchV X (.slice a n c)))) (hF : Fr (fun j => j = M) w' w2) : OwM lo w2 M (T ++ [(id, [r])]) W (putO f id (rchV X (.slice a n c))) := by
  refine ⟨by rw [List.length_append]; exact hm, fun k x hx => ?_, fun p hp => ?_⟩
  · by_cases hk : k = id
    · subst hk
      rw [putO_same] at hx
      cases hx
      exact ⟨r, X, a, n, c, by simp, hX, rfl, B, hB, row_offM hs hF h.m.blk⟩
    · rw [putO_other f _ hk] at hx
      obtain ⟨r', X', a', n', c', h1, h2, h3, B', h4, h5⟩ := h.v k x hx
      exact ⟨r', X', a', n', c', by simp [h1], h2, h3, B', h4, row_offM h5 hF h.m.blk⟩
  · by_cases hk : p.1 = id
    · rw [hk, putO_same]; rfl
    · rw [putO_other f _ hk]
      rcases List.mem_append.1 hp with h1 | h1
      · exact h.d p h1
      · simp at h1; rw [h1] at hk; exact absurd rfl hk
theorem block_lt_of13 {w : World} {p : Addr} {v : Value} (h : w.cell? p = some v) : p.block < w.heap.size := by
  rcases Nat.lt_or_ge p.block w.heap.size with h1 | h1
  · exact h1
  · unfold World.cell? at h
    rw [Array.getElem?_eq_none h1] at h
    cases h
theorem rowI13 {w : World} {base c : Nat} {a : Option Addr} {r : Int} (hr : w.ownsRow base 3 1 (.slice a 1 c) 1 (fl ic [r])) : ∃ g, a = some ⟨g, 0, none⟩ ∧ base ≤ g ∧ w.cell? ⟨g, 0, none⟩ = some (.int .i64 r) ∧ True := by
  rcases hr.2 with ⟨h, _⟩ | ⟨g, cap, cur, h, hb, hg, _⟩
  · cases h
  · simp only [Value.slice.injEq] at h
    obtain ⟨rfl, _, rfl⟩ := h
    have := World.ownsRow.cells hr (g := g) rfl 0 (.int .i64 r) rfl
    rw [Addr.add_mid, Nat.zero_add] at this
    exact ⟨g, rfl, hb, this, trivial⟩
theorem clm13 {w : World} {base n c k : Nat} {a : Option Addr} {L : List (Int × List Int × Value)} {x : Int × List Int × Value} (hr : w.ownsRow base 108 2 (.slice a n c) n (fl clc L)) (hx : L[k]? = some x) (hn : 0 < n) : ∃ b o, a = some ⟨b, o, none⟩ ∧ b < w.heap.size ∧ w.cell? ⟨b, o + k * 2, none⟩ = some (.int .i64 x.1) ∧ w.cell? ⟨b, o + k * 2 + 1, none⟩ = some x.2.2 := by
  rcases hr.2 with ⟨h, h0⟩ | ⟨g, cap, cur, h, hb, hg, _⟩
  · omega
  · simp only [Value.slice.injEq] at h
    obtain ⟨rfl, _, rfl⟩ := h
    have h1 := World.ownsRow.cells hr (g := g) rfl (k * 2) (.int .i64 x.1) (by have := fl_get (cs := clc) (sz := 2) (fun _ => rfl) L k 0 x hx (by omega); rw [Nat.add_zero] at this; rw [this]; rfl)
    have h2 := World.ownsRow.cells hr (g := g) rfl (k * 2 + 1) x.2.2 (by rw [fl_get (cs := clc) (sz := 2) (fun _ => rfl) L k 1 x hx (by omega)]; rfl)
    rw [Addr.add_mid, Nat.zero_add] at h1 h2
    exact ⟨g, 0, rfl, block_lt hg, by rw [Nat.zero_add]; exact h1, by rw [Nat.zero_add]; exact h2⟩
set_option maxRecDepth 100000 in
set_option maxHeartbeats 8000000 in
theorem owners_any {l : List (Rc × Value)} {v : Value} {ws : List (Rr × Value)} {u : Value} {w : World} (h : RecsAt w v l) (hw : RlAt w u ws) (hl : l.length ≤ 1000) (hok : bothOk no1 (rcs (liveL (ws.map (·.1)) l)) = true)
    (hid : ∀ p ∈ freeT (allC (rcs (liveL (ws.map (·.1)) l))), 0 ≤ p.1 ∧ p.1 ≤ 1000000 ∧ ∃ r X, p.2 = [r] ∧ ofW (ws.map (·.1)) r = some X) (hT : (allC (rcs (liveL (ws.map (·.1)) l))).length ≤ 100000) :
    Calls Tryz.prog 18 #[v, u] w fun e w' => (∃ M f, e = .returned (.map (some M)) ∧ w.heap.size ≤ M ∧ OwM w.heap.size w' M (freeT (allC (rcs (liveL (ws.map (·.1)) l)))) (ws.map (·.1)) f) ∧ Below w.heap.size w w' := by
  obtain ⟨va, vc, rfl, hvl, _, hvc⟩ := h.r.recs
  obtain ⟨ua, uc, rfl, _⟩ := hw.s.rchs
  obtain ⟨W, hW⟩ : ∃ W, ws.map (·.1) = W := ⟨_, rfl⟩
  rw [hW] at hok hid hT ⊢
  have HW := hidIn hW
  have Hh := hidIn h
  have Hw := hidIn hw
  have Hvc := hidIn hvc
  have Hok := hidIn hok
  have Hid' := hidIn hid
  have HT := hidIn hT
  obtain ⟨ln, hln⟩ : ∃ ln, l.length = ln := ⟨_, rfl⟩
  obtain ⟨wl, hwl⟩ : ∃ wl, ws.length = wl := ⟨_, rfl⟩
  have Hln := hidIn hln
  rw [hln] at hvl hl Hh ⊢
  rw [hwl] at Hw ⊢
  clear h hw hvc hok hid hT hW hln hwl
  go_enter Tryz.func18, Tryz.ntmps18
  go_wp2_with fail
  go_loopw [5, 19] (fun ov j wr => ∃ (k : Nat) (oa : Option Addr) (oc : Nat), k ≤ ln ∧ j = .int .i64 k ∧ ov = .slice oa (liveL W (l.take k)).length oc ∧ Hid (Below w.heap.size w wr ∧ wr.ownsRow w.heap.size 73 6 (.slice oa (liveL W (l.take k)).length oc) (liveL W (l.take k)).length (fl rcc (liveL W (l.take k))))) (fun _ j _ => ln - (intOf j).toNat)
  case atStart => exact ⟨0, none, 0, Nat.zero_le _, rfl, rfl, hidIn ⟨Below.refl _ _, World.ownsRow_nil _ _ _ _⟩⟩
  case round =>
    obtain ⟨k, oa, oc, hk, rfl, rfl, HM⟩ := hrel
    obtain ⟨hb, hro⟩ := HM.out
    clear HM
    have hlv := liveL_len W (l.take k)
    rw [List.length_take] at hlv
    by_cases hlt : k < ln
    · have hki : (k : Int) < (ln : Int) := by omega
      obtain ⟨bk, o, rfl, hbk, hcell⟩ := Hvc.out (by have := Hln.out; omega)
      obtain ⟨x, hx⟩ : ∃ x, l[k]? = some x := ⟨l[k]'(by have := Hln.out; omega), List.getElem?_eq_getElem _⟩
      obtain ⟨t0, t1, t2, t3, t4, t5⟩ := hcell k x hx
      obtain ⟨xa, xc, hxs, _⟩ := Hh.out.a x (List.mem_of_getElem? hx)
      obtain ⟨xn, hxn⟩ : ∃ xn, x.1.adjs.length = xn := ⟨_, rfl⟩
      rw [hxn] at hxs
      rw [hxs] at t5
      have c0 := (hb.cell (p := ⟨bk, o + k * 6, none⟩) hbk).trans t0
      have c1 := (hb.cell (p := ⟨bk, o + k * 6 + 1, none⟩) hbk).trans t1
      have c2 := (hb.cell (p := ⟨bk, o + k * 6 + 2, none⟩) hbk).trans t2
      have c3 := (hb.cell (p := ⟨bk, o + k * 6 + 3, none⟩) hbk).trans t3
      have c4 := (hb.cell (p := ⟨bk, o + k * 6 + 4, none⟩) hbk).trans t4
      have c5 := (hb.cell (p := ⟨bk, o + k * 6 + 5, none⟩) hbk).trans t5
      have ht := take_snoc hx
      obtain ⟨w3, hw3⟩ : ∃ w3, wr.alloc (.cells #[.int .i64 x.1.origin, .int .u32 x.1.epoch, .int .u32 x.1.seq, .int .i64 x.1.claim, .bool x.1.ing, .slice xa xn xc] 73) = w3 := ⟨_, rfl⟩
      have b3 : Below wr.heap.size wr w3 := by rw [← hw3]; exact (Below.refl _ wr).alloc (Nat.le_refl _) _
      have hz : w3.heap[wr.heap.size]? = some (.cells #[.int .i64 x.1.origin, .int .u32 x.1.epoch, .int .u32 x.1.seq, .int .i64 x.1.claim, .bool x.1.ing, .slice xa xn xc] 73) := by rw [← hw3]; exact heap_alloc_last wr _
      have hB3 := hb.trans (b3.mono hb.size)
      have HO := hidIn (pof_row (t := x.1.origin) (Hw.out.keep hB3 (Nat.le_refl _)))
      obtain ⟨q3, hq3⟩ : ∃ q3, wr.heap.size = q3 := ⟨_, rfl⟩
      rw [hq3] at hz
      have z0 := cell_of_row _ _ 0 _ _ _ hz
      simp at z0
      have HZ := hidIn hz
      have HB3 := hidIn hB3
      have HR3 := hidIn (row_below hro b3 (Nat.le_refl _))
      have HW3 := hidIn hw3
      have Hx := hidIn (And.intro hx (And.intro hxs ht))
      clear hcell hx t0 t1 t2 t3 t4 t5 hb hro hB3 b3 hw3 hz hxs ht hxn hbk
      go_upto_region 5 with fail
      rw [HW3.out]
      clear HW3 hq3 c0 c1 c2 c3 c4 c5
      go_wp2_with fail
      refine HO.out.mono ?_
      rintro e w4 ⟨ho, hb4⟩
      obtain ⟨X, ya, yn, yc, bo, rfl, hbo, _⟩ := ofRow13 ho
      rw [HW.out] at hbo
      have HB4 := hidIn (HB3.out.trans (hb4.mono HB3.out.size))
      have HZ4 := hidIn ((hb4.block _ (block_lt HZ.out)).trans HZ.out)
      have HR4 := hidIn (row_below HR3.out hb4 (Nat.le_refl _))
      obtain ⟨w5, hw5⟩ : ∃ w5, w4.alloc (.cells #[.int .i64 X.node, .int .i64 X.cost, .int .i64 X.least, .int .i64 X.most, .slice ya yn yc] 64) = w5 := ⟨_, rfl⟩
      have b5 : Below w4.heap.size w4 w5 := by rw [← hw5]; exact (Below.refl _ w4).alloc (Nat.le_refl _) _
      have HB5 := hidIn (HB4.out.trans (b5.mono HB4.out.size))
      have hZ5 := (b5.block _ (block_lt HZ4.out)).trans HZ4.out
      have HR5 := hidIn (row_below HR4.out b5 (Nat.le_refl _))
      have HW5 := hidIn hw5
      have Hbo := hidIn hbo
      clear ho hb4 hbo HO HB3 HZ HR3 z0 b5 hw5 HB4 HZ4 HR4
      go_upto_region 6 with fail
      rw [HW5.out]
      clear HW5
      cases bo
      · have HE : Hid (liveL W (l.take (k + 1)) = liveL W (l.take k)) := hidIn (by rw [Hx.out.2.2]; exact liveL_no Hbo.out.symm)
        clear hZ5
        go_wp2_with fail
        go_roundw
        case rel =>
          have h1 := HE.out
          have h2 := HB5.out
          have h3 := HR5.out
          go_light
          exact ⟨k + 1, oa, oc, by omega, by go_num, by rw [h1], hidIn (by rw [h1]; exact ⟨h2, h3⟩)⟩
        case measure => simp [intOf]; omega
      · have HE : Hid (liveL W (l.take (k + 1)) = liveL W (l.take k) ++ [(x.1, .slice xa xn xc)]) := hidIn (by rw [Hx.out.2.2, liveL_yes Hbo.out.symm, ← Hx.out.2.1])
        obtain ⟨g9, gc9, w9, hrun, hown, hb9⟩ := append_rec HR5.out (x.1, .slice xa xn xc) rfl (by omega) HB5.out.size
        have HRun := hidIn hrun
        have HO9 := hidIn (And.intro (HB5.out.trans hb9) hown)
        have z0 := cell_of_row _ _ 0 _ _ _ hZ5
        have z1 := cell_of_row _ _ 1 _ _ _ hZ5
        have z2 := cell_of_row _ _ 2 _ _ _ hZ5
        have z3 := cell_of_row _ _ 3 _ _ _ hZ5
        have z4 := cell_of_row _ _ 4 _ _ _ hZ5
        have z5 := cell_of_row _ _ 5 _ _ _ hZ5
        simp at z0 z1 z2 z3 z4 z5
        clear hrun hown hb9 hZ5
        go_wp2_with (refine l_append rfl _ _ 33 rfl HRun.out ?_)
        go_roundw
        case rel =>
          have h1 := HE.out
          have h2 := HO9.out
          go_light
          exact ⟨k + 1, _, gc9, by omega, by go_num, by rw [h1, List.length_append]; rfl, hidIn (by rw [h1, List.length_append]; exact h2)⟩
        case measure => simp [intOf]; omega
    · have hki : ¬ ((k : Int) < (ln : Int)) := by omega
      rw [List.take_of_length_le (by have := Hln.out; omega)] at hro hlv
      have hRL : RecsAt wr (.slice oa (liveL W l).length oc) (liveL W l) := ⟨slAt_of_row (cs := rcc) (fun _ => rfl) hro rfl, fun x hx => (Hh.out.a x ((List.mem_filter.1 hx).1)).keep hb (Nat.le_refl _)⟩
      rw [List.take_of_length_le (by have := Hln.out; omega)]
      have HAl := hidIn (all_any hRL (by have := liveL_len W l; have := Hln.out; omega))
      have HB := hidIn hb
      obtain ⟨T, hT⟩ : ∃ T, allC (rcs (liveL W l)) = T := ⟨_, rfl⟩
      rw [hT] at Hid' HT
      have HTe := hidIn hT
      generalize (liveL W l).length = lv at HAl ⊢
      clear hro hlv hb hRL hT
      go_wp2_with fail
      refine HAl.out.mono ?_
      rintro e w2 ⟨hA, hb2⟩
      rcases hA with ⟨_, u2, rfl, hC⟩ | ⟨hA, _⟩
      rotate_left
      · exact absurd hA (by rw [Hok.out]; simp)
      rw [HTe.out] at hC
      have hTA : TAt w2 u2 T := hC.at
      obtain ⟨ta, tc, rfl⟩ := hTA.shape
      have HB2 := hidIn (HB.out.trans (hb2.mono HB.out.size))
      have HTA := hidIn hTA
      have hmk := makeC w2
      obtain ⟨w3, hw3⟩ : ∃ w3, w2.alloc (.map #[] 0) = w3 := ⟨_, rfl⟩
      have b3 : Below w2.heap.size w2 w3 := by rw [← hw3]; exact (Below.refl _ w2).alloc (Nat.le_refl _) _
      have hM3 := mpC_new w2
      rw [hw3] at hM3 hmk
      have HB3 := hidIn (HB2.out.trans (b3.mono HB2.out.size))
      have HFr := hidIn (free_T (HTA.out.keep b3) HT.out)
      obtain ⟨M, hMe⟩ : ∃ M, w2.heap.size = M := ⟨_, rfl⟩
      have HMs : Hid (w.heap.size ≤ M) := hidIn (by rw [← hMe]; exact HB2.out.size)
      rw [hMe] at hM3 hmk
      have HM3 := hidIn hM3
      have HMe := hidIn hMe
      clear hC hTA hb2 HAl HB hM3 b3 hw3 hMe
      generalize T.length = tl at HFr ⊢
      go_upto_region 11 with fail
      clear hmk
      go_wp2_with fail
      refine HFr.out.mono ?_
      rintro e w4 ⟨⟨fa, fc, rfl, hC⟩, hb4⟩
      obtain ⟨F, hF⟩ : ∃ F, freeT T = F := ⟨_, rfl⟩
      rw [hF] at hC Hid' ⊢
      obtain ⟨L, hrL, hcL, hrI⟩ := hC
      have hLl : L.length = F.length := by rw [← hcL, List.length_map]
      have HrL := hidIn hrL
      have HrI := hidIn hrI
      have HcL := hidIn hcL
      have HB4 := hidIn (HB3.out.trans (hb4.mono HB3.out.size))
      have HM4 := hidIn (HM3.out.keep (T := fun _ => False) (Fr.of_below hb4) (fun e => e))
      have HM4lt : Hid (M < w4.heap.size) := hidIn HM4.out.lt
      obtain ⟨fl', hfl⟩ : ∃ fl', F.length = fl' := ⟨_, rfl⟩
      rw [hfl] at hLl HrL
      have Hfl := hidIn hfl
      have HLl := hidIn hLl
      have HFe := hidIn hF
      rw [hfl]
      have hf1 : fl' ≤ 1000000 := by
        have := HT.out
        have h9 : F.length ≤ T.length := by rw [← hF]; exact List.length_filter_le _ _
        omega
      clear hrL hrI hcL hb4 HFr HM3 hfl hLl hF HB3
      go_wp2_with fail
      go_loopw [45] (fun j wr => ∃ k : Nat, k ≤ fl' ∧ j = .int .i64 k ∧ Hid (Fr (fun j => j = M) w4 wr ∧ ∃ f, OwM w.heap.size wr M (F.take k) W f)) (fun j _ => fl' - (intOf j).toNat)
      case atStart => exact ⟨0, Nat.zero_le _, rfl, hidIn ⟨Fr.refl _ _, _, by rw [List.take_zero]; exact HM4.out, fun id x hx => by simp at hx, fun p hp => by simp at hp⟩⟩
      case round =>
        obtain ⟨k2, hk2, rfl, HN⟩ := hrel
        obtain ⟨hF2, f, hO⟩ := HN.out
        clear HN
        have hBr := HB4.out.trans (hF2.below HB4.out.size (fun j hj => by rw [hj]; exact HMs.out))
        by_cases hlt2 : k2 < fl'
        rotate_left
        · have hk2i : ¬ ((k2 : Int) < (fl' : Int)) := by omega
          rw [List.take_of_length_le (by have := Hfl.out; omega)] at hO
          have HE := hidIn (And.intro hO hBr)
          clear hF2 hO hBr
          go_wp2_with fail
          go_ret
          exact ⟨⟨M, rfl, HMs.out, f, by rw [HTe.out, HFe.out]; exact HE.out.1⟩, HE.out.2⟩
        have hk2i : (k2 : Int) < (fl' : Int) := by omega
        obtain ⟨⟨i, li, vs⟩, hx⟩ : ∃ x, L[k2]? = some x := ⟨L[k2]'(by have := HLl.out; omega), List.getElem?_eq_getElem _⟩
        have hFk : F[k2]? = some (i, li) := by rw [← HcL.out, List.getElem?_map, hx]; rfl
        obtain ⟨hi0, hi1, r, X, hli, hX⟩ := Hid'.out _ (List.mem_of_getElem? hFk)
        simp only at hi0 hi1 hli
        subst hli
        have hMb := HM4.out.blk
        have hrow := row_offM HrL.out hF2 hMb
        rw [HLl.out] at hrow
        have hrI2 := row_offM (HrI.out _ (List.mem_of_getElem? hx)) hF2 hMb
        simp only [List.length_singleton] at hrI2
        obtain ⟨ia, ic', hvs⟩ := row_shape hrI2
        subst hvs
        obtain ⟨ib, rfl, _, hicell, _⟩ := rowI13 hrI2
        obtain ⟨b1, o1, hfa, hb1, hcl⟩ := clm13 hrow hx (by omega)
        subst hfa
        obtain ⟨c0, c1⟩ := hcl
        have Ht : Hid (F.take (k2 + 1) = F.take k2 ++ [(i, [r])]) := hidIn (take_snoc hFk)
        have HX := hidIn hX
        obtain ⟨w5, hw5⟩ : ∃ w5, wr.alloc (.cells #[.int .i64 i, .slice (some ⟨ib, 0, none⟩) 1 ic'] 108) = w5 := ⟨_, rfl⟩
        have b5 : Below wr.heap.size wr w5 := by rw [← hw5]; exact (Below.refl _ wr).alloc (Nat.le_refl _) _
        have hz : w5.heap[wr.heap.size]? = some (.cells #[.int .i64 i, .slice (some ⟨ib, 0, none⟩) 1 ic'] 108) := by rw [← hw5]; exact heap_alloc_last wr _
        have hB5 := hBr.trans (b5.mono hBr.size)
        have ci := (b5.cell (p := ⟨ib, 0, none⟩) (block_lt_of13 hicell)).trans hicell
        obtain ⟨q5, hq5⟩ : ∃ q5, wr.heap.size = q5 := ⟨_, rfl⟩
        rw [hq5] at hz
        have z0 := cell_of_row _ _ 0 _ _ _ hz
        have z1 := cell_of_row _ _ 1 _ _ _ hz
        simp at z0 z1
        have HOf := hidIn (pof_row (t := r) (Hw.out.keep hB5 (Nat.le_refl _)))
        have HZ := hidIn hz
        have HB5 := hidIn hB5
        have HO5 := hidIn (hO.keep b5)
        have HF5 := hidIn (hF2.trans (Fr.of_below b5))
        have HW5 := hidIn hw5
        clear hx hFk hrow hrI2 hicell hX hw5 hz b5 hB5 hO hF2 hBr
        go_upto_region 14 with fail
        rw [HW5.out]
        clear HW5 hq5 c0 c1
        go_wp2_with fail
        refine HOf.out.mono ?_
        rintro e w6 ⟨ho, hb6⟩
        obtain ⟨Y, ya, yn, yc, bo, rfl, hbo, hYX, BY, hBY, hsY⟩ := ofRow13 ho
        rw [HW.out, HX.out] at hbo hYX
        have hbt : bo = true := hbo
        subst hbt
        obtain rfl : X = Y := Option.some.inj (hYX rfl)
        have HO6 := hidIn (HO5.out.keep hb6)
        have HF6 := hidIn (HF5.out.trans (Fr.of_below hb6))
        have HZ6 := hidIn ((hb6.block _ (block_lt HZ.out)).trans HZ.out)
        obtain ⟨w7, hw7⟩ : ∃ w7, w6.alloc (.cells #[.int .i64 X.node, .int .i64 X.cost, .int .i64 X.least, .int .i64 X.most, .slice ya yn yc] 64) = w7 := ⟨_, rfl⟩
        have b7 : Below w6.heap.size w6 w7 := by rw [← hw7]; exact (Below.refl _ w6).alloc (Nat.le_refl _) _
        have hy7 : w7.heap[w6.heap.size]? = some (.cells #[.int .i64 X.node, .int .i64 X.cost, .int .i64 X.least, .int .i64 X.most, .slice ya yn yc] 64) := by rw [← hw7]; exact heap_alloc_last w6 _
        have hz7 := (b7.block _ (block_lt HZ6.out)).trans HZ6.out
        have hO7 := HO6.out.keep b7
        have hF7 := HF6.out.trans (Fr.of_below b7)
        have hsY7 := row_below hsY b7 (Nat.le_refl _)
        obtain ⟨q7, hq7⟩ : ∃ q7, w6.heap.size = q7 := ⟨_, rfl⟩
        rw [hq7] at hy7
        have y0 := cell_of_row _ _ 0 _ _ _ hy7
        have y1 := cell_of_row _ _ 1 _ _ _ hy7
        have y2 := cell_of_row _ _ 2 _ _ _ hy7
        have y3 := cell_of_row _ _ 3 _ _ _ hy7
        have y4 := cell_of_row _ _ 4 _ _ _ hy7
        have x0 := cell_of_row _ _ 0 _ _ _ hz7
        simp at y0 y1 y2 y3 y4 x0
        obtain ⟨w8, hrun, hm8, hF8⟩ := hO7.m.put (by rw [List.length_take]; omega) (wf9 ⟨hi0, hi1⟩) (rchV X (.slice ya yn yc))
        have HO8 := hidIn (hO7.put HX.out (Nat.le_trans HB5.out.size hBY) hsY7 hm8 hF8)
        have HF8 := hidIn (hF7.trans hF8)
        have HRun := hidIn hrun
        have HW7 := hidIn hw7
        clear ho hb6 hsY hbo hYX hBY hw7 b7 hy7 hz7 hO7 hF7 hsY7 hrun hm8 hF8 z0 z1 ci HOf HO5 HF5 HO6 HF6 HZ HZ6
        go_upto_region 15 with fail
        rw [HW7.out]
        clear HW7 hq7
        go_wp2_with (refine l_put13 rfl _ _ _ 61 rfl HRun.out ?_)
        go_roundw
        case rel =>
          have h1 := Ht.out
          have h2 := HO8.out
          have h3 := HF8.out
          go_light
          exact ⟨k2 + 1, by omega, by go_num, hidIn ⟨h3, _, by rw [h1]; exact h2⟩⟩
        case measure => simp [intOf]; omega
end Go.Proofs.YtgeoghhajjlofaaGreatDoor
namespace Go.Proofs.YtgeoghhajjlofaaGreatDoor

/-- No edge leads to where one ahead of it, or itself, begins. -/
def Topo (T : List Ed) : Prop := ∀ T1 e T2, T = T1 ++ e :: T2 → ∀ f ∈ e :: T2, f.2.1.toNat ≠ e.1.toNat
theorem Topo.init {T : List Ed} {e : Ed} (h : Topo (T ++ [e])) : Topo T := fun T1 x T2 he f hf => h T1 x (T2 ++ [e]) (by rw [he]; simp) f (by
  rcases List.mem_cons.1 hf with h1 | h1
  · rw [h1]; simp
  · simp [h1])
theorem Topo.last {T : List Ed} {e x : Ed} (h : Topo (T ++ [e])) (hx : x ∈ T ++ [e]) : e.2.1.toNat ≠ x.1.toNat := by
  obtain ⟨T1, T2, he⟩ := List.append_of_mem hx
  refine h T1 x T2 he e ?_
  have h1 : (T ++ [e]).getLast? = some e := by simp
  rw [he, List.getLast?_append] at h1
  have h2 : (x :: T2).getLast? = some e := by
    cases hh : (x :: T2).getLast? with
    | none => simp at hh
    | some y => rw [hh] at h1; simpa using h1
  exact List.mem_of_getLast? h2
/-- One step of such a gathering. -/
def stepG {β : Type} (g : β → β → Ed → β) (R : Nat → β) (e : Ed) : Nat → β := putV R e.2.1.toNat (g (R e.2.1.toNat) (R e.1.toNat) e)
theorem topo_fold {β : Type} (g : β → β → Ed → β) (R0 : Nat → β) : ∀ (n : Nat) (T : List Ed), T.length = n → Topo T → ∀ x, (T.foldl (stepG g) R0) x = (T.filter fun e => decide (e.2.1.toNat = x)).foldl (fun acc e => g acc ((T.foldl (stepG g) R0) e.1.toNat) e) (R0 x) := by
  intro n
  induction n with
  | zero => intro T hT _ x; rw [List.length_eq_zero_iff.1 hT]; rfl
  | succ n ih =>
    intro T hT hp x
    obtain ⟨U, e, rfl⟩ : ∃ U e, T = U ++ [e] := by
      rcases List.eq_nil_or_concat T with h | ⟨U, e, h⟩
      · rw [h] at hT; simp at hT
      · exact ⟨U, e, by simpa using h⟩
    have hU : U.length = n := by simpa using hT
    have ihU := ih U hU hp.init
    rw [List.foldl_append, List.foldl_cons, List.foldl_nil]
    have hsame : ∀ y ∈ U ++ [e], stepG g (U.foldl (stepG g) R0) e y.1.toNat = (U.foldl (stepG g) R0) y.1.toNat := fun y hy => by
      unfold stepG
      exact putV_other _ _ (fun h => hp.last hy h.symm)
    have hcongr : ∀ (L : List Ed) (b : β), (∀ y ∈ L, y ∈ U ++ [e]) → L.foldl (fun acc y => g acc (stepG g (U.foldl (stepG g) R0) e y.1.toNat) y) b = L.foldl (fun acc y => g acc ((U.foldl (stepG g) R0) y.1.toNat) y) b := by
      intro L
      induction L with
      | nil => intro b _; rfl
      | cons y L ihL =>
        intro b hL
        rw [List.foldl_cons, List.foldl_cons, hsame y (hL y (by simp))]
        exact ihL _ (fun z hz => hL z (by simp [hz]))
    rw [hcongr _ _ (fun y hy => (List.mem_filter.1 hy).1), List.filter_append]
    by_cases hx : e.2.1.toNat = x
    · subst hx
      rw [show ([e].filter fun f => decide (f.2.1.toNat = e.2.1.toNat)) = [e] from by simp, List.foldl_append, ← ihU]
      show putV _ _ _ _ = _
      rw [putV_same]
      rfl
    · rw [show ([e].filter fun f => decide (f.2.1.toNat = x)) = [] from by simp [hx], List.append_nil, ← ihU]
      show putV _ _ _ _ = _
      rw [putV_other _ _ (fun h => hx h.symm)]
theorem told_mem {es : List Ed} {P : List (Int × Int)} {e : Ed} : ∀ {Q : List (Int × Int)}, e ∈ told es P Q ↔ (∃ n ∈ Q, e.1 = n.1) ∧ e ∈ es ∧ tgt es (cP P) P e = true
  | [] => by simp [told]
  | n :: Q => by
    rw [told, List.mem_append, told_mem (Q := Q), List.mem_filter]
    simp only [Bool.and_eq_true, decide_eq_true_eq, List.mem_cons]
    constructor
    · rintro (⟨h1, h2, h3⟩ | ⟨⟨m, hm, h1⟩, h2⟩)
      · exact ⟨⟨n, .inl rfl, h2⟩, h1, h3⟩
      · exact ⟨⟨m, .inr hm, h1⟩, h2⟩
    · rintro ⟨⟨m, rfl | hm, h1⟩, h2, h3⟩
      · exact .inl ⟨h2, h1, h3⟩
      · exact .inr ⟨⟨m, hm, h1⟩, h2, h3⟩
theorem IsNear.told_sorted {es : List Ed} {r : Int} {P : List (Int × Int)} (h : IsNear es r P) (h0 : ∀ n ∈ P, 0 ≤ n.1) : ∀ Q : List (Int × Int), (∀ n ∈ Q, n ∈ P) → (Q.Pairwise fun a b => a.2 ≤ b.2) → (told es P Q).Pairwise fun e f => Proofs.YtgeoghhajjlofaaGreatDoor.cP P e.1.toNat ≤ Proofs.YtgeoghhajjlofaaGreatDoor.cP P f.1.toNat
  | [], _, _ => by simp [told]
  | n :: Q, hQ, hs => by
    rw [List.pairwise_cons] at hs
    have ih := h.told_sorted h0 Q (fun m hm => hQ m (by simp [hm])) hs.2
    have hn := hQ n (by simp)
    rw [told, List.pairwise_append]
    refine ⟨?_, ih, fun e he f hf => ?_⟩
    · rw [List.pairwise_iff_forall_sublist]
      intro a b hab
      have ha : a ∈ es.filter fun e => decide (e.1 = n.1) && Proofs.YtgeoghhajjlofaaGreatDoor.tgt es (Proofs.YtgeoghhajjlofaaGreatDoor.cP P) P e := hab.subset (by simp)
      have hb : b ∈ es.filter fun e => decide (e.1 = n.1) && Proofs.YtgeoghhajjlofaaGreatDoor.tgt es (Proofs.YtgeoghhajjlofaaGreatDoor.cP P) P e := hab.subset (by simp)
      simp only [List.mem_filter, Bool.and_eq_true, decide_eq_true_eq] at ha hb
      rw [ha.2.1, hb.2.1]
      exact Int.le_refl _
    · simp only [List.mem_filter, Bool.and_eq_true, decide_eq_true_eq] at he
      obtain ⟨⟨m, hm, h1⟩, _⟩ := told_mem.1 hf
      rw [he.2.1, h1, h.cP h0 hn, h.cP h0 (hQ m (by simp [hm]))]
      exact hs.1 m hm
theorem IsNear.topo {es : List Ed} {r : Int} {P : List (Int × Int)} (h : IsNear es r P) (h0 : ∀ n ∈ P, 0 ≤ n.1) (hp : PosE es) : Topo (told es P P) := by
  intro T1 e T2 he f hf
  have hs := h.told_sorted h0 P (fun _ hn => hn) h.ord
  have hle : Proofs.YtgeoghhajjlofaaGreatDoor.cP P e.1.toNat ≤ Proofs.YtgeoghhajjlofaaGreatDoor.cP P f.1.toNat := by
    rcases List.mem_cons.1 hf with h1 | h1
    · rw [h1]; exact Int.le_refl _
    · rw [he, List.pairwise_append, List.pairwise_cons] at hs
      exact hs.2.1.1 f h1
  have hfm : f ∈ told es P P := by rw [he]; simp only [List.mem_append]; exact .inr hf
  obtain ⟨_, hfe, ht⟩ := told_mem.1 hfm
  simp only [Proofs.YtgeoghhajjlofaaGreatDoor.tgt, Bool.and_eq_true, decide_eq_true_eq, List.any_eq_true] at ht
  obtain ⟨_, n, hn, h1, h2⟩ := ht
  have h3 := h.cP h0 hn
  rw [← h1] at h3
  have h4 := hp f hfe
  intro heq
  rw [heq] at h2
  omega
end Go.Proofs.YtgeoghhajjlofaaGreatDoor
namespace Go.Proofs.YtgeoghhajjlofaaGreatDoor

theorem IsNear.at {es : List Ed} {r x d : Int} {P : List (Int × Int)} (h : IsNear es r P) (hd : Ds es r x d) : (x, d) ∈ P := by
  obtain ⟨hh, hw⟩ := hd.1
  obtain ⟨b, hb, h1, h2⟩ := h.mn _ _ _ hw
  have h3 := h.ds hb
  rw [h1] at h3
  have h4 := h3.uniq hd
  have : b = (x, d) := by obtain ⟨b1, b2⟩ := b; simp only at h1 h4; rw [h1, h4]
  rw [← this]
  exact hb
theorem IsNear.told_iff {es : List Ed} {r : Int} {P : List (Int × Int)} (h : IsNear es r P) (h0 : ∀ n ∈ P, 0 ≤ n.1) {e : Ed} : e ∈ told es P P ↔ e ∈ es ∧ ∃ d, Ds es r e.1 d ∧ Ds es r e.2.1 (d + e.2.2) := by
  rw [told_mem]
  constructor
  · rintro ⟨_, h2, h3⟩
    have h4 := h.tgt h0 h3
    exact ⟨h2, _, h4.2.1, by rw [Int.sub_add_cancel]; exact h4.2.2⟩
  · rintro ⟨h1, d, h2, h3⟩
    have h4 := h.at h2
    have h5 := h.at h3
    have h6 := h.cP h0 h5
    simp only at h6
    refine ⟨⟨_, h4, rfl⟩, h1, ?_⟩
    simp only [Proofs.YtgeoghhajjlofaaGreatDoor.tgt, Bool.and_eq_true, decide_eq_true_eq, List.any_eq_true]
    exact ⟨h1, _, h4, rfl, h6.symm⟩
/-- One edge more, at its end. -/
def rchG (r : Int) (C : Nat → Int) (acc was : Rr) (e : Ed) : Rr :=
  let nx := if e.1 = r then [e.2.1] else was.next
  let r1 := if acc.node = 0 then ⟨e.2.1, C e.2.1.toNat, was.least + 1, 0, []⟩ else acc
  ⟨r1.node, r1.cost, min r1.least (was.least + 1), max r1.most (was.most + 1), joinL r1.next nx⟩
theorem rchE_step (r : Int) (C : Nat → Int) : rchE r C = stepG (rchG r C) := by funext R e; rfl
def nxE (r : Int) (was : Rr) (e : Ed) : List Int := if e.1 = r then [e.2.1] else was.next
/-- What is gathered at a node out of the edges that lead there. -/
structure Gath (r : Int) (C : Nat → Int) (R : Nat → Rr) (x : Int) (L : List Ed) (A : Rr) : Prop where
  node : A.node = x
  cost : A.cost = C x.toNat
  l1 : ∀ e ∈ L, A.least ≤ (R e.1.toNat).least + 1
  l2 : ∃ e ∈ L, A.least = (R e.1.toNat).least + 1
  m1 : ∀ e ∈ L, (R e.1.toNat).most + 1 ≤ A.most
  m2 : ∃ e ∈ L, A.most = (R e.1.toNat).most + 1
  np : A.next.Pairwise fun a b => a < b
  nx : ∀ y, y ∈ A.next ↔ ∃ e ∈ L, y ∈ nxE r (R e.1.toNat) e
theorem gath_one {r : Int} {C : Nat → Int} {R : Nat → Rr} {x : Int} {e : Ed} {A : Rr} (hA : A.node = 0) (he : e.2.1 = x) (hm : 0 ≤ (R e.1.toNat).most) : Gath r C R x [e] (rchG r C A (R e.1.toNat) e) := by
  subst he
  unfold rchG
  simp only [hA, if_true]
  refine ⟨rfl, rfl, fun f hf => ?_, ⟨e, by simp, by simp⟩, fun f hf => ?_, ⟨e, by simp, ?_⟩, (joinL_ok _ _).1, fun y => ?_⟩
  · rw [List.mem_singleton.1 hf]; show min _ _ ≤ _; omega
  · rw [List.mem_singleton.1 hf]; show _ ≤ max _ _; omega
  · show max _ _ = _; omega
  · rw [(joinL_ok _ _).2]
    simp [nxE]
theorem Gath.more {r : Int} {C : Nat → Int} {R : Nat → Rr} {x : Int} {L : List Ed} {A : Rr} (h : Gath r C R x L A) (hx : x ≠ 0) (e : Ed) : Gath r C R x (L ++ [e]) (rchG r C A (R e.1.toNat) e) := by
  have hn : ¬ A.node = 0 := by rw [h.node]; exact hx
  unfold rchG
  simp only [hn, if_false]
  obtain ⟨a, ha, hl⟩ := h.l2
  obtain ⟨b, hb, hm⟩ := h.m2
  refine ⟨h.node, h.cost, fun f hf => ?_, ?_, fun f hf => ?_, ?_, (joinL_ok _ _).1, fun y => ?_⟩
  · rcases List.mem_append.1 hf with h1 | h1
    · have := h.l1 f h1; show min _ _ ≤ _; omega
    · rw [List.mem_singleton.1 h1]; show min _ _ ≤ _; omega
  · by_cases hc : A.least ≤ (R e.1.toNat).least + 1
    · exact ⟨a, by simp [ha], by show min _ _ = _; omega⟩
    · exact ⟨e, by simp, by show min _ _ = _; omega⟩
  · rcases List.mem_append.1 hf with h1 | h1
    · have := h.m1 f h1; show _ ≤ max _ _; omega
    · rw [List.mem_singleton.1 h1]; show _ ≤ max _ _; omega
  · by_cases hc : (R e.1.toNat).most + 1 ≤ A.most
    · exact ⟨b, by simp [hb], by show max _ _ = _; omega⟩
    · exact ⟨e, by simp, by show max _ _ = _; omega⟩
  · rw [(joinL_ok _ _).2, h.nx y]
    constructor
    · rintro (⟨f, hf, h1⟩ | h1)
      · exact ⟨f, by simp [hf], h1⟩
      · exact ⟨e, by simp, h1⟩
    · rintro ⟨f, hf, h1⟩
      rcases List.mem_append.1 hf with h2 | h2
      · exact .inl ⟨f, h2, h1⟩
      · rw [List.mem_singleton.1 h2] at h1
        exact .inr h1
theorem gath_all {r : Int} {C : Nat → Int} {R : Nat → Rr} {x : Int} (hx : x ≠ 0) : ∀ (L : List Ed), L ≠ [] → (∀ e ∈ L, e.2.1 = x) → (∀ i, 0 ≤ (R i).most) → Gath r C R x L (L.foldl (fun acc e => rchG r C acc (R e.1.toNat) e) noR) := by
  intro L
  have key : ∀ (n : Nat) (L : List Ed), L.length = n → L ≠ [] → (∀ e ∈ L, e.2.1 = x) → (∀ i, 0 ≤ (R i).most) → Gath r C R x L (L.foldl (fun acc e => rchG r C acc (R e.1.toNat) e) noR) := by
    intro n
    induction n with
    | zero => intro L hl h0; exact absurd (List.length_eq_zero_iff.1 hl) h0
    | succ n ih =>
      intro L hl h0 he hm
      obtain ⟨U, e, rfl⟩ : ∃ U e, L = U ++ [e] := by
        rcases List.eq_nil_or_concat L with h | ⟨U, e, h⟩
        · exact absurd h h0
        · exact ⟨U, e, by simpa using h⟩
      rw [List.foldl_append, List.foldl_cons, List.foldl_nil]
      by_cases hU : U = []
      · subst hU
        exact gath_one rfl (he e (by simp)) (hm _)
      · exact (ih U (by simpa using hl) hU (fun f hf => he f (by simp [hf])) hm).more hx e
  exact key L.length L rfl
/-- The edges on least-cost ways that lead to a node. -/
def Into (es : List Ed) (r x : Int) (e : Ed) : Prop := e ∈ es ∧ e.2.1 = x ∧ ∃ d, Ds es r e.1 d ∧ Ds es r x (d + e.2.2)
theorem Ds.nonneg {es : List Ed} {r x d : Int} (hp : PosE es) (h : Ds es r x d) : 0 ≤ d := by
  obtain ⟨hh, hw⟩ := h.1
  have := (hw.pos hp).1
  omega
theorem ds_root {es : List Ed} {r : Int} (hp : PosE es) : Ds es r r 0 := ⟨⟨0, Wy.refl _ _⟩, fun c h hw => by have := (hw.pos hp).1; omega⟩
theorem into_root {es : List Ed} {r : Int} (hp : PosE es) {e : Ed} : ¬ Into es r r e := by
  rintro ⟨he, _, d, h1, h2⟩
  have h3 := h2.uniq (ds_root hp)
  have h4 := h1.nonneg hp
  have h5 := hp e he
  omega
theorem into_some {es : List Ed} {r x d : Int} (_hp : PosE es) (h : Ds es r x d) (hx : x ≠ r) : ∃ e, Into es r x e := by
  obtain ⟨hh, hw⟩ := h.1
  rcases hw.last with ⟨h1, _⟩ | ⟨e, he, c, h', hw', h1, h2, _⟩
  · exact absurd h1 hx
  · refine ⟨e, he, h1.symm, c, ⟨⟨h', hw'⟩, fun c2 h2' hw2 => ?_⟩, by rw [← h2]; exact h⟩
    have := h.2 _ _ (by rw [h1]; exact hw2.step he)
    omega
/-- What stands at the end: the root alone; a node that is come to by the edges that lead there; nothing of others. -/
theorem fin_all {ns : List Int} {es : List Ed} {r : Int} {P : List (Int × Int)} {C : Nat → Int} (hok : graphOk ns es = true) (hr : r ∈ ns) (h : IsNear es r P) (hn : NdOk P) :
    (rchT r C (told es P P) r.toNat = ⟨r, 0, 0, 0, []⟩) ∧
    (∀ x, x ∈ ns → x ≠ r → (∃ d, Ds es r x d) → ∃ L, L ≠ [] ∧ (∀ e, e ∈ L ↔ Into es r x e) ∧ Gath r C (rchT r C (told es P P)) x L (rchT r C (told es P P) x.toNat)) ∧
    (∀ i : Nat, i < 25 → (∀ d, ¬ Ds es r (i : Int) d) → rchT r C (told es P P) i = noR) := by
  have hp := graphOk_pos hok
  have hbd := graphOk_bd hok
  have h0 : ∀ n ∈ P, 0 ≤ n.1 := fun n h1 => by have := (hn.2 n h1).1; omega
  have htopo := h.topo h0 hp
  have hfold := topo_fold (rchG r C) (putV (fun _ => noR) r.toNat ⟨r, 0, 0, 0, []⟩) _ _ rfl htopo
  rw [← rchE_step] at hfold
  have hfold' : ∀ x, rchT r C (told es P P) x = ((told es P P).filter fun e => decide (e.2.1.toNat = x)).foldl (fun acc e => rchG r C acc (rchT r C (told es P P) e.1.toNat) e) (putV (fun _ => noR) r.toNat ⟨r, 0, 0, 0, []⟩ x) := hfold
  have hmem : ∀ x, x ∈ ns → ∀ e, e ∈ ((told es P P).filter fun e => decide (e.2.1.toNat = x.toNat)) ↔ Into es r x e := fun x hx e => by
    rw [List.mem_filter, h.told_iff h0, decide_eq_true_eq]
    have h2 := hbd.1 x hx
    constructor
    · rintro ⟨⟨h1, d, hd1, hd2⟩, h3⟩
      have h4 := hbd.1 _ (hbd.2.1 e h1).2
      have h5 : e.2.1 = x := by omega
      exact ⟨h1, h5, d, hd1, by rw [← h5]; exact hd2⟩
    · rintro ⟨h1, h3, d, hd1, hd2⟩
      exact ⟨⟨h1, d, hd1, by rw [h3]; exact hd2⟩, by rw [h3]⟩
  have hmost : ∀ i, 0 ≤ (rchT r C (told es P P) i).most := fun i => (rchT_ok r C (told es P P) (fun e he => hbd.1 _ (hbd.2.1 e ((h.told_iff h0).1 he).1).2) i).m0
  refine ⟨?_, fun x hx hxr hd => ?_, fun i hi hno => ?_⟩
  · rw [hfold']
    have : ((told es P P).filter fun e => decide (e.2.1.toNat = r.toNat)) = [] := by
      apply List.eq_nil_iff_forall_not_mem.2
      intro e he
      exact into_root hp ((hmem r hr e).1 he)
    rw [this, List.foldl_nil, putV_same]
  · have hx1 := hbd.1 x hx
    have hr1 := hbd.1 r hr
    obtain ⟨d, hd⟩ := hd
    obtain ⟨e0, he0⟩ := into_some hp hd hxr
    refine ⟨_, fun hnil => ?_, hmem x hx, ?_⟩
    · have := (hmem x hx e0).2 he0
      rw [hnil] at this
      simp at this
    · have h1 := gath_all (r := r) (C := C) (R := rchT r C (told es P P)) (x := x) (by omega) ((told es P P).filter fun e => decide (e.2.1.toNat = x.toNat)) (fun hnil => by
        have := (hmem x hx e0).2 he0
        rw [hnil] at this
        simp at this) (fun e he => ((hmem x hx e).1 he).2.1) hmost
      have h2 := hfold' x.toNat
      rw [putV_other _ _ (show x.toNat ≠ r.toNat by omega)] at h2
      rw [← h2] at h1
      exact h1
  · rw [hfold']
    have h1 : ((told es P P).filter fun e => decide (e.2.1.toNat = i)) = [] := by
      apply List.eq_nil_iff_forall_not_mem.2
      intro e he
      rw [List.mem_filter, h.told_iff h0, decide_eq_true_eq] at he
      obtain ⟨⟨h1, d, _, hd2⟩, h3⟩ := he
      have h4 := hbd.1 _ (hbd.2.1 e h1).2
      have h5 : e.2.1 = (i : Int) := by omega
      rw [h5] at hd2
      exact hno _ hd2
    have h2 : i ≠ r.toNat := fun e => hno 0 (by rw [e]; have := hbd.1 r hr; rw [show ((r.toNat : Nat) : Int) = r by omega]; exact ds_root hp)
    rw [h1, List.foldl_nil, putV_other _ _ h2]
end Go.Proofs.YtgeoghhajjlofaaGreatDoor
namespace Go.Proofs.YtgeoghhajjlofaaGreatDoor

/-- A last step of a least-cost way is among the edges that lead there. -/
theorem into_last {es : List Ed} {r x d c : Int} {h : Nat} {e : Ed} (hd : Ds es r x d) (he : e ∈ es) (hw : Wy es r e.1 c h) (hx : x = e.2.1) (hc : d = c + e.2.2) : Into es r x e ∧ Ds es r e.1 c := by
  have h1 : Ds es r e.1 c := ⟨⟨h, hw⟩, fun c2 h2 hw2 => by
    have := hd.2 _ _ (by rw [hx]; exact hw2.step he)
    omega⟩
  exact ⟨⟨he, hx.symm, c, h1, by rw [← hc]; exact hd⟩, h1⟩
/-- A first step n of a way to x that costs d. -/
def Fs (es : List Ed) (r n x d : Int) : Prop := ∃ e ∈ es, e.1 = r ∧ e.2.1 = n ∧ ∃ h, Wy es n x (d - e.2.2) h
/-- What is right of a node. -/
structure Right (es : List Ed) (r x d : Int) (A : Rr) : Prop where
  node : A.node = x
  cost : A.cost = d
  l0 : 0 ≤ A.least
  m0 : 0 ≤ A.most
  hops : ∀ h, Wy es r x d h → A.least ≤ h ∧ (h : Int) ≤ A.most
  lw : Wy es r x d A.least.toNat
  mw : Wy es r x d A.most.toNat
  np : A.next.Pairwise fun a b => a < b
  root : x = r → A = ⟨r, 0, 0, 0, []⟩
  nx : x ≠ r → ∀ y, y ∈ A.next ↔ Fs es r y x d
theorem fin_right {ns : List Int} {es : List Ed} {r : Int} {P : List (Int × Int)} {C : Nat → Int} (hok : graphOk ns es = true) (hr : r ∈ ns) (h : IsNear es r P) (hn : NdOk P) (hC : ∀ e ∈ told es P P, e ∈ es ∧ Ds es r e.2.1 (C e.2.1.toNat)) :
    ∀ (n : Nat) (x d : Int), d.toNat = n → x ∈ ns → Ds es r x d → Right es r x d (rchT r C (told es P P) x.toNat) := by
  have hp := graphOk_pos hok
  have hbd := graphOk_bd hok
  have h0 : ∀ n ∈ P, 0 ≤ n.1 := fun n h1 => by have := (hn.2 n h1).1; omega
  obtain ⟨hroot, hfin, _⟩ := fin_all (C := C) hok hr h hn
  intro n
  induction n using Nat.strongRecOn with
  | _ n ih =>
  intro x d hdn hx hd
  have hd0 := hd.nonneg hp
  by_cases hxr : x = r
  · subst hxr
    have h1 : d = 0 := hd.uniq (ds_root hp)
    subst h1
    rw [hroot]
    exact ⟨rfl, rfl, Int.le_refl 0, Int.le_refl 0, fun k hw => by have := (hw.pos hp).1; show (0 : Int) ≤ k ∧ (k : Int) ≤ 0; omega, Wy.refl _ _, Wy.refl _ _, by simp, fun _ => rfl, fun hne => absurd rfl hne⟩
  · obtain ⟨L, hL0, hL, hG⟩ := hfin x hx hxr ⟨d, hd⟩
    have hin : ∀ e ∈ L, ∃ d', e ∈ es ∧ e.2.1 = x ∧ Ds es r e.1 d' ∧ d = d' + e.2.2 ∧ Right es r e.1 d' (rchT r C (told es P P) e.1.toNat) := fun e he => by
      obtain ⟨h1, h2, d', h3, h4⟩ := (hL e).1 he
      have h5 := hd.uniq h4
      have h6 := hp e h1
      have h7 := h3.nonneg hp
      exact ⟨d', h1, h2, h3, h5, ih d'.toNat (by omega) e.1 d' rfl (hbd.2.1 e h1).1 h3⟩
    refine ⟨hG.node, ?_, ?_, ?_, fun k hw => ?_, ?_, ?_, hG.np, fun e => absurd e hxr, fun _ y => ?_⟩
    · rw [hG.cost]
      obtain ⟨e, he⟩ := List.exists_mem_of_ne_nil L hL0
      obtain ⟨h1, h2, d', h3, h4⟩ := (hL e).1 he
      have h5 := (hC e ((h.told_iff h0).2 ⟨h1, d', h3, by rw [h2]; exact h4⟩)).2
      rw [h2] at h5
      exact h5.uniq hd
    · obtain ⟨e, he, h1⟩ := hG.l2
      obtain ⟨d', _, _, _, _, hR⟩ := hin e he
      have := hR.l0
      omega
    · obtain ⟨e, he, h1⟩ := hG.m2
      obtain ⟨d', _, _, _, _, hR⟩ := hin e he
      have := hR.m0
      omega
    · rcases hw.last with ⟨h1, _⟩ | ⟨e, he, c', h', hw', h1, h2, h3⟩
      · exact absurd h1 hxr
      · obtain ⟨h4, h5⟩ := into_last hd he hw' h1 h2
        have h6 := (hL e).2 h4
        obtain ⟨d', _, _, h7, _, hR⟩ := hin e h6
        have h8 := h7.uniq h5
        rw [h8] at hR
        have h9 := hR.hops _ hw'
        have := hG.l1 e h6
        have := hG.m1 e h6
        omega
    · obtain ⟨e, he, h1⟩ := hG.l2
      obtain ⟨d', h2, h3, _, h5, hR⟩ := hin e he
      have h6 := hR.lw.step h2
      have := hR.l0
      rw [h3, ← h5, show (rchT r C (told es P P) e.1.toNat).least.toNat + 1 = (rchT r C (told es P P) x.toNat).least.toNat by omega] at h6
      exact h6
    · obtain ⟨e, he, h1⟩ := hG.m2
      obtain ⟨d', h2, h3, _, h5, hR⟩ := hin e he
      have h6 := hR.mw.step h2
      have := hR.m0
      rw [h3, ← h5, show (rchT r C (told es P P) e.1.toNat).most.toNat + 1 = (rchT r C (told es P P) x.toNat).most.toNat by omega] at h6
      exact h6
    · rw [hG.nx y]
      constructor
      · rintro ⟨e, he, hy⟩
        obtain ⟨d', h2, h3, h4, h5, hR⟩ := hin e he
        unfold nxE at hy
        by_cases her : e.1 = r
        · rw [if_pos her, List.mem_singleton] at hy
          have h6 : d' = 0 := by rw [her] at h4; exact h4.uniq (ds_root hp)
          refine ⟨e, h2, her, hy.symm, 0, ?_⟩
          rw [hy, h3, show d - e.2.2 = 0 by omega]
          exact Wy.refl _ _
        · rw [if_neg her] at hy
          obtain ⟨e1, g1, g2, g3, k, g4⟩ := (hR.nx her y).1 hy
          refine ⟨e1, g1, g2, g3, k + 1, ?_⟩
          have g5 := g4.step h2
          rw [h3, show d' - e1.2.2 + e.2.2 = d - e1.2.2 by omega] at g5
          exact g5
      · rintro ⟨e1, g1, g2, g3, k, g4⟩
        have hfirst : Wy es r y e1.2.2 1 := by
          have := Wy.one g1
          rw [g2, g3] at this
          exact this
        have hpe := hp e1 g1
        rcases g4.last with ⟨h1, h2, _⟩ | ⟨e, he, c', h', hw', h1, h2, h3⟩
        · have hI : Into es r x e1 := ⟨g1, by rw [g3, h1], 0, by rw [g2]; exact ds_root hp, by rw [show (0 : Int) + e1.2.2 = d by omega]; exact hd⟩
          refine ⟨e1, (hL e1).2 hI, ?_⟩
          unfold nxE
          rw [if_pos g2, List.mem_singleton, g3]
        · have hw2 := hfirst.trans hw'
          obtain ⟨hI, hDe⟩ := into_last hd he hw2 h1 (by omega)
          have h6 := (hL e).2 hI
          obtain ⟨d', _, _, h7, _, hR⟩ := hin e h6
          have h8 := h7.uniq hDe
          have hc' := (hw'.pos hp).1
          have her : e.1 ≠ r := fun e' => by
            rw [e'] at hDe
            have := hDe.uniq (ds_root hp)
            omega
          refine ⟨e, h6, ?_⟩
          unfold nxE
          rw [if_neg her]
          refine (hR.nx her y).2 ⟨e1, g1, g2, g3, h', ?_⟩
          rw [h8, show e1.2.2 + c' - e1.2.2 = c' by omega]
          exact hw'
end Go.Proofs.YtgeoghhajjlofaaGreatDoor
namespace Go.Proofs.YtgeoghhajjlofaaGreatDoor
open Go.RowKit

/-- What From shall answer. -/
structure IsFrom (ns : List Int) (es : List Ed) (r : Int) (l : List Rr) : Prop where
  rise : l.Pairwise fun a b => a.node < b.node
  right : ∀ p ∈ l, p.node ∈ ns ∧ ∃ d, Ds es r p.node d ∧ Right es r p.node d p
  all : ∀ x d, x ∈ ns → Ds es r x d → ∃ p ∈ l, p.node = x
theorem Ds.node {ns : List Int} {es : List Ed} (hok : graphOk ns es = true) {r x d : Int} (hr : r ∈ ns) (h : Ds es r x d) : x ∈ ns := by
  obtain ⟨hh, hw⟩ := h.1
  exact hw (fun x _ _ => x ∈ ns) hr (fun e he _ _ _ => ((graphOk_bd hok).2.1 e he).2)
theorem outR_mem {R : Nat → Rr} {vs : Nat → Value} {n : Nat} {p : Rr × Value} : p ∈ outR R vs n ↔ ∃ i, i < n ∧ (R i).node ≠ 0 ∧ p = (R i, vs i) := by
  unfold outR
  simp only [List.mem_map, List.mem_filter, List.mem_range, Bool.not_eq_true', decide_eq_false_iff_not]
  constructor
  · rintro ⟨i, ⟨h1, h2⟩, rfl⟩; exact ⟨i, h1, h2, rfl⟩
  · rintro ⟨i, h1, h2, rfl⟩; exact ⟨i, ⟨h1, h2⟩, rfl⟩
theorem outR_rise {R : Nat → Rr} {vs : Nat → Value} (h : ∀ i, i < 25 → (R i).node ≠ 0 → (R i).node = (i : Int)) : ∀ n, n ≤ 25 → (outR R vs n).Pairwise fun a b => a.1.node < b.1.node
  | 0, _ => by simp [outR]
  | n + 1, hn => by
    rw [outR_succ, List.pairwise_append]
    refine ⟨outR_rise h n (by omega), by split <;> simp, fun a ha b hb => ?_⟩
    obtain ⟨i, h1, h2, rfl⟩ := outR_mem.1 ha
    split at hb
    · simp at hb
    · rename_i h3
      rw [List.mem_singleton.1 hb]
      show (R i).node < (R n).node
      rw [h i (by omega) h2, h n (by omega) h3]
      omega
theorem from_is {ns : List Int} {es : List Ed} {r : Int} {P : List (Int × Int)} {C : Nat → Int} (vs : Nat → Value) (hok : graphOk ns es = true) (hr : r ∈ ns) (h : IsNear es r P) (hn : NdOk P) (hC : ∀ e ∈ told es P P, e ∈ es ∧ Ds es r e.2.1 (C e.2.1.toNat)) : IsFrom ns es r ((outR (rchT r C (told es P P)) vs 25).map (·.1)) := by
  have hbd := graphOk_bd hok
  obtain ⟨_, _, hno⟩ := fin_all (C := C) hok hr h hn
  have key : ∀ i, i < 25 → (rchT r C (told es P P) i).node ≠ 0 → (i : Int) ∈ ns ∧ ∃ d, Ds es r (i : Int) d ∧ Right es r (i : Int) d (rchT r C (told es P P) i) := fun i hi h0 => by
    have : ∃ d, Ds es r (i : Int) d := Classical.byContradiction fun hc => h0 (by rw [hno i hi (fun d hd => hc ⟨d, hd⟩)]; rfl)
    obtain ⟨d, hd⟩ := this
    have hm := hd.node hok hr
    have := fin_right hok hr h hn hC _ (i : Int) d rfl hm hd
    rw [show ((i : Int)).toNat = i from rfl] at this
    exact ⟨hm, d, hd, this⟩
  refine ⟨?_, fun p hp => ?_, fun x d hx hd => ?_⟩
  · rw [List.pairwise_map]
    exact outR_rise (fun i hi h0 => (key i hi h0).2.choose_spec.2.node) 25 (Nat.le_refl _)
  · obtain ⟨q, hq, rfl⟩ := List.mem_map.1 hp
    obtain ⟨i, h1, h2, rfl⟩ := outR_mem.1 hq
    obtain ⟨hm, d, hd, hR⟩ := key i h1 h2
    show (rchT r C (told es P P) i).node ∈ ns ∧ _
    rw [hR.node]
    exact ⟨hm, d, hd, hR⟩
  · have hx1 := hbd.1 x hx
    have hR := fin_right hok hr h hn hC _ x d rfl hx hd
    have hn0 : (rchT r C (told es P P) x.toNat).node ≠ 0 := by rw [hR.node]; omega
    exact ⟨_, List.mem_map.2 ⟨_, outR_mem.2 ⟨x.toNat, by omega, hn0, rfl⟩, rfl⟩, hR.node⟩
/-- From's answer. -/
def FromIs (w w' : World) (ns : List Int) (es : List Ed) (r : Int) (e : Ending) : Prop :=
  ∃ (l : List (Rr × Value)) (u : Value) (mid : Nat), e = .returned (.tuple #[u, .int .i64 0]) ∧ w.heap.size ≤ mid ∧ w'.ownsRow mid 64 5 u l.length (fl rwc l) ∧ RlAt w' u l ∧ IsFrom ns es r (l.map (·.1)) ∧ l.length ≤ 25 ∧ (∀ p ∈ l, ∀ k, p.2.ownBlock = some k → w.heap.size ≤ k ∧ k < mid) ∧ ∀ p ∈ l, ∀ a n c, p.2 = .slice (some a) n c → w.heap.size ≤ a.block ∧ ∃ cur, w'.heap[a.block]? = some (.cells cur 3)
theorem from_right {ns : List Int} {es : List Ed} {vn ve : Value} {w : World} (h : GrAt w vn ve ns es) (r : Int) :
    Calls Tryz.prog 17 #[grV vn ve, .int .i64 r] w fun e w' => ((ndAll ns es [r] = false ∧ e = .returned (.tuple #[.slice none 0 0, .int .i64 2])) ∨ (ndAll ns es [r] = true ∧ FromIs w w' ns es r e)) ∧ Below w.heap.size w w' := by
  refine (from_any h r).mono ?_
  rintro e w' ⟨h1 | ⟨h1, P, C, vs, hP, hN, hC, u, mid, B, he, hmid, hrow, hx⟩, hb⟩
  · exact ⟨.inl h1, hb⟩
  · refine ⟨.inr ⟨h1, outR (rchT r C (told es P P)) vs 25, u, mid, he, hmid, hrow, ?_, ?_, outR_len _ _ _, ?_, ?_⟩, hb⟩
    · refine ⟨slAt_of_row (cs := rwc) (fun _ => rfl) hrow rfl, fun p hp => ?_⟩
      obtain ⟨i, hi, _, rfl⟩ := outR_mem.1 hp
      simp only [ndAll, List.all_cons, List.all_nil, Bool.and_true, Bool.and_eq_true] at h1
      have hbd := graphOk_bd h1.1
      have h3 := rchT_ok r C (told es P P) (fun e he => hbd.1 _ (hbd.2.1 e (hC e he).1).2) i
      have h4 := rise_len h3.np h3.nb
      have h5 := (hx i hi).1.sl (by omega)
      exact ⟨h5.1, h5.2, by show (rchT r C (told es P P) i).next.length ≤ _; omega⟩
    · simp only [ndAll, List.all_cons, List.all_nil, Bool.and_true, Bool.and_eq_true] at h1
      exact from_is vs h1.1 (hasN_iff.1 h1.2) hP hN hC
    · intro p hp k hk
      obtain ⟨i, hi, _, rfl⟩ := outR_mem.1 hp
      refine ⟨?_, (hx i hi).2 k hk⟩
      rcases (hx i hi).1 with ⟨_, e⟩ | ⟨g, o, cap, e, _, _, h6, _, _⟩
      · have hk' : (vs i).ownBlock = some k := hk
        rw [e] at hk'
        simp [Value.ownBlock] at hk'
      · have hk' : (vs i).ownBlock = some k := hk
        rw [e] at hk'
        simp [Value.ownBlock] at hk'
        omega
    · intro p hp a n c hk
      obtain ⟨i, hi, _, rfl⟩ := outR_mem.1 hp
      simp only at hk
      rcases (hx i hi).1 with ⟨_, e⟩ | ⟨g, o, cap, e, _, _, h6, h7, _⟩
      · rw [hk] at e
        simp at e
      · rw [hk] at e
        simp only [Value.slice.injEq, Option.some.injEq] at e
        rw [e.1]
        exact ⟨h6, h7⟩
end Go.Proofs.YtgeoghhajjlofaaGreatDoor
namespace Go.Proofs.YtgeoghhajjlofaaGreatDoor
open Go.RowKit Go.Maps

theorem live_ok {W : List Rr} {l : List (Rc × Value)} (h : bothOk no1 (rcs l) = true) : bothOk no1 (rcs (liveL W l)) = true := by
  rw [bothOk_iff] at h ⊢
  obtain ⟨⟨h1, h2⟩, h3⟩ := h
  have hsub : (rcs (liveL W l)).Sublist (rcs l) := List.filter_sublist.map _
  exact ⟨⟨fun r hr => h1 r (hsub.mem hr), h2.sublist hsub⟩, fun r hr => h3 r (hsub.mem hr)⟩
theorem free_live {W : List Rr} {l : List (Rc × Value)} {p : Int × List Int} (hp : p ∈ freeT (allC (rcs (liveL W l)))) : 1 ≤ p.1 ∧ p.1 ≤ 1024 ∧ ∃ r X, p.2 = [r] ∧ ofW W r = some X := by
  unfold freeT allC at hp
  rw [List.mem_filter] at hp
  obtain ⟨h1, h2⟩ := hp
  obtain ⟨id, h3, rfl⟩ := List.mem_map.1 h1
  obtain ⟨h4, _⟩ := mem_idsL.1 h3
  refine ⟨h4.1, h4.2, ?_⟩
  simp only [decide_eq_true_eq] at h2
  obtain ⟨r, hr⟩ := List.length_eq_one_iff.1 h2
  have h5 : r ∈ gat (rcs (liveL W l)) id := ((rsL_ok _).2 r).1 (by rw [hr]; simp)
  obtain ⟨x, hx, _, _, rfl⟩ := mem_gat.1 h5
  obtain ⟨y, hy, rfl⟩ := List.mem_map.1 hx
  have h6 := (List.mem_filter.1 hy).2
  obtain ⟨X, hX⟩ := Option.isSome_iff_exists.1 h6
  exact ⟨_, X, hr, hX⟩
theorem allC_len (rs : List Rc) : (allC rs).length ≤ 1024 := by
  unfold allC idsL
  rw [List.length_map]
  refine Nat.le_trans (List.length_filter_le _ _) ?_
  unfold allI
  simp
theorem infoRow : (Tryz.prog.info? 67).map (fun i => (i.zero, i.size, i.bytes)) = some (some (.agg #[.int .i64 0, .int .i64 0, .int .i64 0, .slice none 0 0]), 4, 48) := by kernel_rfl
/-- One row more. -/
theorem append_rowT {W : World} {base k : Nat} {u : Value} {l : List Rw} (hr : W.ownsRow base 67 4 u k (fl rwcs l)) (x : Rw) (hk : (k + 1) * 48 ≤ 140737488355328) (hbase : base ≤ W.heap.size) :
    ∃ g cap w6, (Builtin.append_ #[60, 60] 60 #[u, .slice (some ⟨W.heap.size, 0, none⟩) 1 1]).run Tryz.prog (W.alloc (.cells (rwcs x).toArray 67)) = .ok (.slice (some ⟨g, 0, none⟩) (k + 1) cap) w6 ∧
      w6.ownsRow base 67 4 (.slice (some ⟨g, 0, none⟩) (k + 1) cap) (k + 1) (fl rwcs (l ++ [x])) ∧ Below base W w6 := by
  obtain ⟨i0, hi, hz0, hz1, hz2⟩ := info_parts infoRow
  obtain ⟨g, cap, w6, hrun, hown, hgrow, _, _⟩ := run_append_lies (P := Tryz.prog) (W.alloc (.cells (rwcs x).toArray 67)) 60 60 base 67 i0 _ 4 48 Tryz.underlying60 hi hz0 hz1 hz2 rfl (by decide) u k (fl rwcs l) (hr.alloc _) ⟨W.heap.size, 0, none⟩ 1 1 (rwcs x) rfl (fun j v hv => by
    rw [Addr.add_mid, Nat.zero_add, cell_of_row _ _ j (rwcs x).toArray 67 (0, 0) (heap_alloc_last W _)]
    simpa using hv) (by simp only [rwcs, List.mem_cons, List.not_mem_nil, or_false]; rintro u (rfl | rfl | rfl | rfl) <;> rfl) (by omega) (by unfold maxLen; omega) hk (by simp; omega) (W.heap.size + 1) (by simp)
  refine ⟨g, cap, w6, hrun, by rw [fl_snoc]; exact hown, ?_⟩
  exact ((Below.refl _ W).alloc hbase _).grown hgrow (by simp; omega) (fun j e => by
    rcases hr.2 with ⟨rfl, _⟩ | ⟨g', cap', cur, rfl, hb, _⟩
    · simp [Value.ownBlock] at e
    · simp [Value.ownBlock] at e; omega)
/-- A range goes on whatever else is turned. -/
theorem ranges_fr {w w' : World} {b r n : Nat} {D : DataW Value} {left : Lit → Bool} {cnt : Nat} {S : Nat → Prop} (h : w.ranges Tryz.prog 3 selfR b r n D left cnt) (hF : Fr S w w') (hb : ¬ S b) (hr : ¬ S r) : w'.ranges Tryz.prog 3 selfR b r n D left cnt := by
  obtain ⟨es, clock, since, seen, c0, h1, h2, h3, h4, h5, h6⟩ := h
  exact ⟨es, clock, since, seen, c0, (hF.block b (block_lt h1) hb).trans h1, h2, h3, h4, (hF.block r (block_lt h5) hr).trans h5, h6⟩
/-- An id with the way to its owner. -/
abbrev Wi' := Int × Rr × Option Addr × Nat × Nat
abbrev wiV (p : Wi') : Value := rchV p.2.1 (.slice p.2.2.1 p.2.2.2.1 p.2.2.2.2)
/-- The entry of an id at a width. -/
def rowW (wd : Nat) (p : Wi') : Rw := ((((p.1.toNat - 1) / wd : Nat) : Int), (((p.1.toNat - 1) % wd : Nat) : Int) + 1, p.2.1.node, p.2.2.1, p.2.2.2.1, p.2.2.2.2)
def rowsW (self : Int) (wd : Nat) (P : List Wi') : List Rw := (P.filter fun p => !decide (p.2.1.node = self)).map (rowW wd)
def ownW (self : Int) (P : List Wi') : Int := P.foldl (fun o p => if p.2.1.node = self then p.1 else o) 0
theorem rowsW_self {self : Int} {wd : Nat} {P : List Wi'} {p : Wi'} (h : p.2.1.node = self) : rowsW self wd (P ++ [p]) = rowsW self wd P ∧ ownW self (P ++ [p]) = p.1 := by
  simp [rowsW, ownW, List.filter_append, List.foldl_append, h]
theorem rowsW_other {self : Int} {wd : Nat} {P : List Wi'} {p : Wi'} (h : p.2.1.node ≠ self) : rowsW self wd (P ++ [p]) = rowsW self wd P ++ [rowW wd p] ∧ ownW self (P ++ [p]) = ownW self P := by
  simp [rowsW, ownW, List.filter_append, List.foldl_append, h]
theorem rowsW_len (self : Int) (wd : Nat) (P : List Wi') : (rowsW self wd P).length ≤ P.length := by
  unfold rowsW
  rw [List.length_map]
  exact List.length_filter_le _ _
theorem nodup_le13 {l : List Int} : ∀ {m : List Int}, l.Nodup → (∀ x ∈ l, x ∈ m) → l.length ≤ m.length := by
  induction l with
  | nil => intro m _ _; simp
  | cons x l ih =>
    intro m hn hm
    rw [List.nodup_cons] at hn
    have hx := hm x List.mem_cons_self
    have := ih (m := m.erase x) hn.2 (fun y hy => (List.mem_erase_of_ne (fun e => hn.1 (by rw [← e]; exact hy))).2 (hm y (List.mem_cons_of_mem _ hy)))
    rw [List.length_erase_of_mem hx] at this
    have : 0 < m.length := List.length_pos_of_mem hx
    rw [List.length_cons]
    omega
/-- As far as a map of ids is gone through. -/
structure Gon (Q : Wi' → Prop) (f : Int → Option Value) (left : Lit → Bool) (P : List Wi') : Prop where
  nd : (P.map (·.1)).Nodup
  fs : ∀ p ∈ P, f p.1 = some (wiV p) ∧ Q p
  all : ∀ id, (Lit.int .i64 id).wf = true → (f id).isSome = true → id ∈ P.map (·.1) ∨ left (.int .i64 id) = true
  no : ∀ p ∈ P, left (.int .i64 p.1) = false
theorem Gon.more {Q : Wi' → Prop} {f : Int → Option Value} {left : Lit → Bool} {P : List Wi'} (h : Gon Q f left P) {p : Wi'} (hp : f p.1 = some (wiV p)) (hQ : Q p) (hl : left (.int .i64 p.1) = true) : Gon Q f (fun z => left z && !z.sameKey (.int .i64 p.1)) (P ++ [p]) := by
  refine ⟨?_, fun q hq => ?_, fun id hw hs => ?_, fun q hq => ?_⟩
  · rw [List.map_append, List.nodup_append]
    refine ⟨h.nd, by simp, fun x hx y hy => ?_⟩
    simp at hy
    subst hy
    intro e
    obtain ⟨q, hq, h1⟩ := List.mem_map.1 hx
    have := h.no q hq
    rw [h1, e, hl] at this
    cases this
  · rcases List.mem_append.1 hq with h1 | h1
    · exact h.fs q h1
    · simp at h1; rw [h1]; exact ⟨hp, hQ⟩
  · by_cases hid : id = p.1
    · left; rw [hid]; simp
    · rcases h.all id hw hs with h1 | h1
      · left; rw [List.map_append]; exact List.mem_append_left _ h1
      · right
        have hne : (Lit.int .i64 id) ≠ .int .i64 p.1 := fun e => hid (by injection e)
        simp [h1, sameKey_ne hne]
  · rcases List.mem_append.1 hq with h1 | h1
    · simp [h.no q h1]
    · simp at h1
      rw [h1]
      simp [WideAt.sameKey_self (key_lit p.1)]
theorem Gon.few {Q : Wi' → Prop} {f : Int → Option Value} {left : Lit → Bool} {P : List Wi'} (h : Gon Q f left P) (hf : ∀ id x, f id = some x → 1 ≤ id ∧ id ≤ 1024) : P.length ≤ 1024 := by
  have h1 := nodup_le13 (m := allI) h.nd (fun x hx => by
    obtain ⟨p, hp, rfl⟩ := List.mem_map.1 hx
    exact mem_allI.2 (hf _ _ (h.fs p hp).1))
  rw [List.length_map] at h1
  have : allI.length = 1024 := by unfold allI; simp
  omega
end Go.Proofs.YtgeoghhajjlofaaGreatDoor
namespace Go.Proofs.YtgeoghhajjlofaaGreatDoor
open Go.RowKit Go.Maps

/-- The ways that Build goes by. -/
def WaysIs (l : List (Rc × Value)) (self : Int) (W : List Rr) : Prop :=
  (ndAll (bothN (rcs l)) (bothE (rcs l)) [self] = false ∧ W = []) ∨ (ndAll (bothN (rcs l)) (bothE (rcs l)) [self] = true ∧ IsFrom (bothN (rcs l)) (bothE (rcs l)) self W)
theorem ways_any {ns : List Int} {es : List Ed} {vn ve : Value} {w : World} (h : GrAt w vn ve ns es) (r : Int) :
    Calls Tryz.prog 17 #[grV vn ve, .int .i64 r] w fun e w' => (∃ ws u x, e = .returned (.tuple #[u, .int .i64 x]) ∧ RlAt w' u ws ∧ ((ndAll ns es [r] = false ∧ ws.map (·.1) = []) ∨ (ndAll ns es [r] = true ∧ IsFrom ns es r (ws.map (·.1))))) ∧ Below w.heap.size w w' := by
  refine (from_right h r).mono fun e w' ⟨h1, hb⟩ => ⟨?_, hb⟩
  rcases h1 with ⟨h1, h2⟩ | ⟨h1, l, u, mid, h2, _, _, h5, h6, _⟩
  · exact ⟨[], _, 2, h2, ⟨slAt_nil _ _ _, fun p hp => by simp at hp⟩, .inl ⟨h1, rfl⟩⟩
  · exact ⟨l, u, 0, h2, h5, .inr ⟨h1, h6⟩⟩
/-- What Build answers. -/
def BldAns (w w' : World) (l : List (Rc × Value)) (self : Int) (wd : Nat) (e : Ending) : Prop :=
  ∃ (W : List Rr) (P : List Wi') (es : List Rw) (u : Value), e = .returned (.tuple #[.agg #[.int .i64 self, .int .i64 wd, .int .i64 (ownW self P), u], .int .i64 0]) ∧ WaysIs l self W ∧ (P.map (·.1)).Nodup ∧ (∀ id, id ∈ P.map (·.1) ↔ id ∈ (freeT (allC (rcs (liveL W l)))).map (·.1)) ∧
    (∀ p ∈ P, ∃ r, (p.1, [r]) ∈ freeT (allC (rcs (liveL W l))) ∧ ofW W r = some p.2.1 ∧ ∃ B, w.heap.size ≤ B ∧ w'.ownsRow B 3 1 (.slice p.2.2.1 p.2.2.2.1 p.2.2.2.2) p.2.1.next.length (fl ic p.2.1.next)) ∧
    es.Perm (rowsW self wd P) ∧ Plc es ∧ ∃ B, w.heap.size ≤ B ∧ w'.ownsRow B 46 4 u es.length (fl rwcs es)
/-- The table while it is gathered. -/
structure BdS (w7 wr : World) (q12 RB : Nat) (sf : Int) (wd : Nat) (P : List Wi') (ra : Option Addr) (rc : Nat) : Prop where
  fr : Fr (fun j => j = q12 ∨ j = RB) w7 wr
  tb : wr.heap[q12]? = some (.cells #[.int .i64 sf, .int .i64 wd, .int .i64 (ownW sf P), .slice none 0 0] 29)
  rw : wr.ownsRow w7.heap.size 67 4 (.slice ra (rowsW sf wd P).length rc) (rowsW sf wd P).length (fl rwcs (rowsW sf wd P))
theorem fr_low {S : Nat → Prop} {a b c : World} (h : Fr S a b) (hb : Below a.heap.size b c) : Fr S a c :=
  ⟨hb.os.trans h.os, hb.tape.trans h.tape, hb.output.trans h.output, Nat.le_trans h.size hb.size, fun k hk hn => (hb.block k hk).trans (h.block k hk hn)⟩
theorem BdS.keep {w7 wr w8 : World} {q12 RB : Nat} {sf : Int} {wd : Nat} {P : List Wi'} {ra : Option Addr} {rc : Nat} (h : BdS w7 wr q12 RB sf wd P ra rc) (hb : Below wr.heap.size wr w8) : BdS w7 w8 q12 RB sf wd P ra rc :=
  ⟨h.fr.trans (Fr.of_below hb), (hb.block _ (block_lt h.tb)).trans h.tb, row_below h.rw hb (Nat.le_refl _)⟩
theorem BdS.next {w7 wr w8 : World} {q12 RB : Nat} {sf : Int} {wd : Nat} {P : List Wi'} {ra : Option Addr} {rc : Nat} (h : BdS w7 wr q12 RB sf wd P ra rc) (hF : Fr (fun j => j = RB) wr w8) (hne : q12 ≠ RB) (hRB : RB < w7.heap.size) : BdS w7 w8 q12 RB sf wd P ra rc :=
  ⟨h.fr.trans (hF.mono fun _ _ e => .inr e), (hF.block _ (block_lt h.tb) hne).trans h.tb, row_fr h.rw hF fun j hj e => by
    rcases h.rw.2 with ⟨h1, _⟩ | ⟨g, cap, cur, h1, hb, _⟩
    · rw [h1] at hj; simp [Value.ownBlock] at hj
    · rw [h1] at hj; simp [Value.ownBlock] at hj; omega⟩
theorem BdS.own {w7 wr : World} {q12 RB : Nat} {sf : Int} {wd : Nat} {P : List Wi'} {ra : Option Addr} {rc : Nat} (h : BdS w7 wr q12 RB sf wd P ra rc) {p : Wi'} (hp : p.2.1.node = sf) (hq : q12 < w7.heap.size) : BdS w7 (wr.setCell ⟨q12, 2, none⟩ (.int .i64 p.1)) q12 RB sf wd (P ++ [p]) ra rc := by
  have hF := (Fr.refl (fun j => j = q12) wr).set (p := ⟨q12, 2, none⟩) rfl (.int .i64 p.1)
  obtain ⟨e1, e2⟩ := rowsW_self (wd := wd) (P := P) hp
  refine ⟨h.fr.trans (hF.mono fun _ _ e => .inl e), ?_, ?_⟩
  · have := heap_setCell_same wr q12 2 _ _ (.int .i64 p.1) h.tb
    rw [e2]
    simpa using this
  · rw [e1]
    refine row_fr h.rw hF fun j hj e => ?_
    rcases h.rw.2 with ⟨h1, _⟩ | ⟨g, cap, cur, h1, hb, _⟩
    · rw [h1] at hj; simp [Value.ownBlock] at hj
    · rw [h1] at hj; simp [Value.ownBlock] at hj; omega
theorem fr_up {B : Nat} {a b : World} (hb : Below B a b) : Fr (fun j => B ≤ j) a b := ⟨hb.os, hb.tape, hb.output, hb.size, fun k _ hn => hb.block k (by omega)⟩
theorem rowW_is (wd k : Nat) (X : Rr) (a : Option Addr) (n c : Nat) : rowW wd ((k : Int) + 1, X, a, n, c) = (((k / wd : Nat) : Int), ((k % wd : Nat) : Int) + 1, X.node, a, n, c) := by
  have h : ((k : Int) + 1).toNat - 1 = k := by omega
  unfold rowW
  simp only [h]
theorem BdS.more {w7 wr w8 : World} {q12 RB : Nat} {sf : Int} {wd : Nat} {P : List Wi'} {ra : Option Addr} {rc : Nat} (h : BdS w7 wr q12 RB sf wd P ra rc) (hb : Below w7.heap.size wr w8) (hq : q12 < w7.heap.size) {p : Wi'} (hp : p.2.1.node ≠ sf) {g gc : Nat} (hr : w8.ownsRow w7.heap.size 67 4 (.slice (some ⟨g, 0, none⟩) ((rowsW sf wd P).length + 1) gc) ((rowsW sf wd P).length + 1) (fl rwcs (rowsW sf wd P ++ [rowW wd p]))) : BdS w7 w8 q12 RB sf wd (P ++ [p]) (some ⟨g, 0, none⟩) gc := by
  obtain ⟨e1, e2⟩ := rowsW_other (wd := wd) (P := P) hp
  refine ⟨fr_low h.fr hb, ?_, ?_⟩
  · rw [e2]; exact (hb.block _ hq).trans h.tb
  · rw [e1, List.length_append]; exact hr
theorem row_offT {w w' : World} {base k size b : Nat} {e e' : TypeId} {u : Value} {xs : List Value} {cs : Array Value} (hr : w.ownsRow base e size u k xs) (hF : Fr (fun j => j = b) w w') (hb : w.heap[b]? = some (.cells cs e')) (hne : e ≠ e') : w'.ownsRow base e size u k xs :=
  row_fr hr hF fun j hj ej => by
    rcases hr.2 with ⟨h1, _⟩ | ⟨g, cap, cur, h1, _, hg, _⟩
    · rw [h1] at hj; simp [Value.ownBlock] at hj
    · rw [h1] at hj; simp [Value.ownBlock] at hj
      rw [hj, ej, hb] at hg
      simp at hg
      exact hne hg.2.symm
theorem set4 {w : World} {b : Nat} {T : TypeId} {c0 c1 c2 c3 : Value} (v0 v1 v2 v3 : Value) (h : w.heap[b]? = some (.cells #[c0, c1, c2, c3] T)) :
    ((((w.setCell ⟨b, 0, none⟩ v0).setCell ⟨b, 1, none⟩ v1).setCell ⟨b, 2, none⟩ v2).setCell ⟨b, 3, none⟩ v3).heap[b]? = some (.cells #[v0, v1, v2, v3] T) := by
  have h1 := heap_setCell_same _ b 3 _ T v3 (heap_setCell_same _ b 2 _ T v2 (heap_setCell_same _ b 1 _ T v1 (heap_setCell_same w b 0 _ T v0 h)))
  simpa using h1
set_option maxRecDepth 100000 in
set_option maxHeartbeats 8000000 in
theorem build_ok {l : List (Rc × Value)} {v : Value} {w : World} (h : RecsAt w v l) (ht : Wid w) {self : Int} (hs : 1 ≤ self ∧ self ≤ 24) {wd : Nat} (hW : IsW wd) (hl : l.length ≤ 1000) (hok : bothOk no1 (rcs l) = true) :
    Calls Tryz.prog 4 #[.int .i64 self, .int .i64 wd, v] w fun e w' => BldAns w w' l self wd e ∧ Below w.heap.size w w' := by
  obtain ⟨va, vc, rfl, hvl, _, _⟩ := h.r.recs
  obtain ⟨W1, hW1⟩ : ∃ W1, w.alloc (.cells #[.int .i64 0, .int .i64 0, .int .i64 0, .slice none 0 0] 29) = W1 := ⟨_, rfl⟩
  have bA : Below w.heap.size w W1 := by rw [← hW1]; exact (Below.refl _ w).alloc (Nat.le_refl _) _
  have hz6 : W1.heap[w.heap.size]? = some (.cells #[.int .i64 0, .int .i64 0, .int .i64 0, .slice none 0 0] 29) := by rw [← hW1]; exact heap_alloc_last w _
  obtain ⟨q6, hq6⟩ : ∃ q6, w.heap.size = q6 := ⟨_, rfl⟩
  rw [hq6] at hz6
  have HBo := hidIn (both_any (h.keep bA (Nat.le_refl _)))
  have Hh := hidIn h
  have Ht := hidIn ht
  have HWd := hidIn hW
  have Hok := hidIn hok
  have HB1 := hidIn bA
  have HZ1 := hidIn hz6
  have HW := hidIn hW1
  have Hq6 := hidIn hq6
  have hs0 : decide (1 ≤ self) = true := by simpa using hs.1
  have hs1 : decide (self ≤ 24) = true := by simpa using hs.2
  obtain ⟨ln, hln⟩ : ∃ ln, l.length = ln := ⟨_, rfl⟩
  have Hln := hidIn hln
  rw [hln] at hvl hl HBo Hh ⊢
  clear h ht hok bA hz6 hW1 hln hs
  go_enter Tryz.func4, Tryz.ntmps4
  go_upto_region 1 with fail
  rw [HW.out]
  clear HW hq6
  go_wp2_with fail
  refine HBo.out.mono ?_
  rintro e w2 ⟨hBA, hb2⟩
  rcases hBA with ⟨_, gu, gv, rfl, hgu, hgv⟩ | ⟨hno, _⟩
  rotate_left
  · exact absurd hno (by rw [Hok.out]; simp)
  have hGr : GrAt w2 gu gv (bothN (rcs l)) (bothE (rcs l)) := ⟨slAt_of_row (cs := ic) (fun _ => rfl) hgu rfl, slAt_of_row (cs := ec) (fun _ => rfl) hgv rfl⟩
  obtain ⟨ga, gc, rfl⟩ := row_shape hgu
  obtain ⟨ha, hc, rfl⟩ := row_shape hgv
  have HB2 := hidIn (HB1.out.trans (hb2.mono HB1.out.size))
  have HZ2 := hidIn ((hb2.block _ (block_lt HZ1.out)).trans HZ1.out)
  obtain ⟨nl, hnl⟩ : ∃ nl, (bothN (rcs l)).length = nl := ⟨_, rfl⟩
  obtain ⟨el, hel⟩ : ∃ el, (bothE (rcs l)).length = el := ⟨_, rfl⟩
  rw [hnl, hel] at hGr
  rw [hnl, hel]
  obtain ⟨w3, hw3⟩ : ∃ w3, w2.alloc (.cells #[.slice ga nl gc, .slice ha el hc] 53) = w3 := ⟨_, rfl⟩
  have b3 : Below w2.heap.size w2 w3 := by rw [← hw3]; exact (Below.refl _ w2).alloc (Nat.le_refl _) _
  have hz8 : w3.heap[w2.heap.size]? = some (.cells #[.slice ga nl gc, .slice ha el hc] 53) := by rw [← hw3]; exact heap_alloc_last w2 _
  obtain ⟨q8, hq8⟩ : ∃ q8, w2.heap.size = q8 := ⟨_, rfl⟩
  rw [hq8] at hz8
  have HB3 := hidIn (HB2.out.trans (b3.mono HB2.out.size))
  have HZ3 := hidIn ((b3.block _ (block_lt HZ2.out)).trans HZ2.out)
  have HG3 := hidIn (hGr.keep b3 (Nat.le_refl _))
  have HFm := hidIn (ways_any HG3.out self)
  have g0 := cell_of_row _ _ 0 _ _ _ hz8
  have g1 := cell_of_row _ _ 1 _ _ _ hz8
  simp at g0 g1
  have HW3 := hidIn hw3
  have HWi := hidIn (wide_yes wd HWd.out w3 (Ht.out.keep HB3.out))
  clear hgu hgv hGr hb2 HBo HB1 HZ1 HB2 HZ2 b3 hw3 hz8 hnl hel
  go_upto_region 2 with fail
  rw [HW3.out]
  clear HW3 hq8
  go_wp2_with fail
  refine (tisR_any self w3).mono ?_
  rintro e w4 ⟨rfl, hw4⟩
  rw [hw4, hs0, hs1]
  clear hw4 w4
  go_wp2_with fail
  refine HWi.out.mono ?_
  rintro e w4 ⟨rfl, hw4⟩
  rw [hw4]
  clear hw4 w4
  go_wp2_with fail
  refine HFm.out.mono ?_
  rintro e w4 ⟨⟨ws, u, x, rfl, hRl, hWs⟩, hb4⟩
  obtain ⟨ua, uc, hus, _⟩ := hRl.s.rchs
  subst hus
  obtain ⟨wl, hwl⟩ : ∃ wl, ws.length = wl := ⟨_, rfl⟩
  rw [hwl] at hRl ⊢
  have HB4 := hidIn (HB3.out.trans (hb4.mono HB3.out.size))
  have HZ4 := hidIn ((hb4.block _ (block_lt HZ3.out)).trans HZ3.out)
  have HWs := hidIn hWs
  obtain ⟨w5, hw5⟩ : ∃ w5, w4.alloc (.cells #[.int .i64 self, .int .i64 wd, .int .i64 0, .slice none 0 0] 29) = w5 := ⟨_, rfl⟩
  have b5 : Below w4.heap.size w4 w5 := by rw [← hw5]; exact (Below.refl _ w4).alloc (Nat.le_refl _) _
  have hz12 : w5.heap[w4.heap.size]? = some (.cells #[.int .i64 self, .int .i64 wd, .int .i64 0, .slice none 0 0] 29) := by rw [← hw5]; exact heap_alloc_last w4 _
  obtain ⟨q12, hq12⟩ : ∃ q12, w4.heap.size = q12 := ⟨_, rfl⟩
  rw [hq12] at hz12
  have HB5 := hidIn (HB4.out.trans (b5.mono HB4.out.size))
  have HZ5 := hidIn ((b5.block _ (block_lt HZ4.out)).trans HZ4.out)
  have H12 := hidIn hz12
  have hqs : q6 < q12 := by rw [← hq12]; exact block_lt HZ4.out
  have HB5s : Hid (w.heap.size ≤ w5.heap.size) := hidIn HB5.out.size
  have HOw := hidIn (owners_any (Hh.out.keep HB5.out (Nat.le_refl _)) (hRl.keep b5 (Nat.le_refl _)) (by rw [Hln.out]; exact hl) (live_ok Hok.out) (fun p hp => by obtain ⟨h1, h2, h3⟩ := free_live hp; exact ⟨by omega, by omega, h3⟩) (by have := allC_len (rcs (liveL (ws.map (·.1)) l)); omega))
  have HW5 := hidIn hw5
  clear hRl hWs hb4 hw5 b5 hz12 HB3 HZ3 HG3 HFm HWi g0 g1 HB4 HZ4 hwl hs0 hs1
  go_upto_region 6 with fail
  rw [HW5.out]
  clear HW5 hq12
  go_wp2_with fail
  refine HOw.out.mono ?_
  rintro e w6 ⟨⟨M, f, rfl, hMs, hO⟩, hb6⟩
  obtain ⟨W, hWe⟩ : ∃ W, ws.map (·.1) = W := ⟨_, rfl⟩
  rw [hWe] at hO
  have HWe := hidIn hWe
  obtain ⟨T, hTe⟩ : ∃ T, freeT (allC (rcs (liveL W l))) = T := ⟨_, rfl⟩
  have HTb : Hid (∀ p ∈ T, 1 ≤ p.1 ∧ p.1 ≤ 1024) := hidIn fun p hp => by rw [← hTe] at hp; obtain ⟨h1, h2, _⟩ := free_live hp; exact ⟨h1, h2⟩
  rw [hTe] at hO
  have HTe := hidIn hTe
  obtain ⟨D, hown, hD⟩ := hO.m
  obtain ⟨n, hn⟩ : ∃ n, T.length = n := ⟨_, rfl⟩
  rw [hn] at hown
  have HOwn := hidIn hown
  have HD := hidIn hD
  have HO := hidIn hO
  have HB6 := hidIn (HB5.out.trans (hb6.mono HB5.out.size))
  have HZ6 := hidIn ((hb6.block _ (block_lt HZ5.out)).trans HZ5.out)
  have H126 := hidIn ((hb6.block _ (block_lt H12.out)).trans H12.out)
  have HMs := hidIn hMs
  have Hlt12 : Hid (q12 < M) := hidIn (Nat.lt_of_lt_of_le (block_lt H12.out) hMs)
  have HMlt := hidIn hO.m.lt
  clear hown hD hO hb6 hMs hWe hTe hn HOw HB5 HZ5 H12
  go_wp2_with (at_range; refine wpList_range_own _ rfl _ 61 rfl 3 64 keyI9 Tryz.underlying61 _ M n D rfl HOwn.out ?_; intro w7 hrg hgr hsz)
  have HRg := hidIn hrg
  have HB7 : Hid (Below w6.heap.size w6 w7) := hidIn ⟨hgr.os, hgr.tape, hgr.output, hgr.size, fun j hj => hgr.block j hj (by simp)⟩
  have H127 := hidIn ((HB7.out.block _ (block_lt H126.out)).trans H126.out)
  clear hrg hgr hsz HOwn
  obtain ⟨Q, hQ⟩ : ∃ Q : Wi' → Prop, Q = fun p => ∃ r, (p.1, [r]) ∈ T ∧ ofW W r = some p.2.1 ∧ ∃ B, w5.heap.size ≤ B ∧ w6.ownsRow B 3 1 (.slice p.2.2.1 p.2.2.2.1 p.2.2.2.2) p.2.1.next.length (fl ic p.2.1.next) := ⟨_, rfl⟩
  have HQ := hidIn hQ
  clear hQ
  go_frame
  have Hq7 : Hid (q12 < w7.heap.size ∧ q12 ≠ w6.heap.size ∧ w6.heap.size < w7.heap.size ∧ M ≠ w6.heap.size ∧ M ≠ q12) := hidIn (by
    have h1 := Hlt12.out
    have h2 := HMlt.out
    have h3 := HB7.out.size
    have h4 := HRg.out.lt
    omega)
  go_loopw [13] (fun rv wr => ∃ (left : Lit → Bool) (cnt : Nat) (P : List Wi') (ra : Option Addr) (rc : Nat), rv = .slice ra (rowsW self wd P).length rc ∧ Hid (wr.ranges Tryz.prog 3 selfR M w6.heap.size n D left cnt ∧ (∀ kl, left kl = true → Maps.has D kl = true) ∧ Gon Q f left P ∧ BdS w7 wr q12 w6.heap.size self wd P ra rc)) (fun _ wr => wr.rangeLeft M w6.heap.size)
  case atStart =>
    refine ⟨_, _, [], none, 0, rfl, hidIn ⟨HRg.out, fun kl h => h, ⟨List.nodup_nil, fun p hp => by simp at hp, fun id hw hs => .inr ?_, fun p hp => by simp at hp⟩, ⟨Fr.refl _ _, H127.out, World.ownsRow_nil _ _ _ _⟩⟩⟩
    rw [(HD.out id hw).1]
    exact hs
  case round =>
    obtain ⟨left, cnt, P, ra, rc, rfl, HI⟩ := hrel
    go_wp2_with (at_next; refine wpList_next_ranges (β := Value) _ rfl _ rfl 3 keyI9 selfR (Value.int .i64) id (fun key kl hkey => by obtain ⟨x, rfl, _⟩ := Maps.keyOf_int_inv Tryz.underlying3 hkey; exact ⟨x, rfl⟩) (fun v y _ => ⟨v, rfl⟩) M w6.heap.size n D left cnt rfl HI.out.1 ?_ ?_)
    · intro _ hl0
      have hall : ∀ id, id ∈ P.map (·.1) ↔ id ∈ T.map (·.1) := fun id => by
        constructor
        · intro h1
          obtain ⟨p, hp, rfl⟩ := List.mem_map.1 h1
          obtain ⟨_, h2⟩ := HI.out.2.2.1.fs p hp
          rw [HQ.out] at h2
          obtain ⟨r, h3, _⟩ := h2
          exact List.mem_map.2 ⟨_, h3, rfl⟩
        · intro h1
          obtain ⟨p, hp, rfl⟩ := List.mem_map.1 h1
          have h2 := HTb.out p hp
          rcases HI.out.2.2.1.all p.1 (wf9 ⟨by omega, by omega⟩) (HO.out.d p hp) with h3 | h3
          · exact h3
          · rw [hl0] at h3; cases h3
      have HAll := hidIn hall
      have HGon := hidIn HI.out.2.2.1
      have HS := hidIn HI.out.2.2.2
      have HRgr := hidIn HI.out.1
      have hpl := HI.out.2.2.1.few (fun id y hy => by obtain ⟨r, _, _, _, _, h1, _⟩ := HO.out.v id y hy; exact HTb.out _ h1)
      have hrl := rowsW_len self wd P
      have HIn := hidIn (inOrder_any HS.out.rw (by omega))
      obtain ⟨rn, hrn⟩ : ∃ rn, (rowsW self wd P).length = rn := ⟨_, rfl⟩
      rw [hrn] at HIn ⊢
      have Hrn := hidIn hrn
      clear hl0 hall HI hpl hrl hrn
      go_wp2_with fail
      refine HIn.out.mono ?_
      rintro e w10 ⟨⟨es, u', rfl, hperm, hplc, hrE⟩, hF10⟩
      obtain ⟨ea, ec, rfl⟩ := row_shape hrE
      have hnb : ∀ j, j < w7.heap.size → ¬ (Value.slice ra rn rc).ownBlock = some j := fun j hj e => by
        have h1 := HS.out.rw
        rw [Hrn.out] at h1
        rcases h1.2 with ⟨h2, _⟩ | ⟨g, cap, cur, h2, hb, _⟩
        · rw [h2] at e; simp [Value.ownBlock] at e
        · rw [h2] at e; simp [Value.ownBlock] at e; omega
      have hq12 := Hq7.out.1
      have tb10 := (hF10.block q12 (Nat.lt_of_lt_of_le hq12 HS.out.fr.size) (hnb q12 hq12)).trans HS.out.tb
      have hq6 : q6 < w6.heap.size := block_lt HZ6.out
      have z7 := (HB7.out.block q6 hq6).trans HZ6.out
      have zr := (HS.out.fr.block q6 (block_lt z7) (by have := Hlt12.out; rintro (h | h) <;> omega)).trans z7
      have z10 := (hF10.block q6 (block_lt zr) (hnb q6 (block_lt z7))).trans zr
      have k3 := cell_of_row _ _ 3 _ _ _ tb10
      simp at k3
      have y3 := frozen_new tb10 3
      have tb11 := heap_setCell_same w10 q12 3 _ _ (.slice ea es.length ec) tb10
      simp at tb11
      have hF11 := (Fr.refl (fun j => j = q12) w10).set (p := ⟨q12, 3, none⟩) rfl (.slice ea es.length ec)
      have z11 := (hF11.block q6 (block_lt z10) (by omega)).trans z10
      have HKI : Hid (∀ B vv k xs, w6.ownsRow B 3 1 vv k xs → (w10.setCell ⟨q12, 3, none⟩ (.slice ea es.length ec)).ownsRow B 3 1 vv k xs) := hidIn fun B vv k xs h1 => by
        have h2 := row_below h1 HB7.out (Nat.le_refl _)
        have h3 : wr.ownsRow B 3 1 vv k xs := row_fr h2 HS.out.fr fun j hj ej => by
          rcases h2.2 with ⟨h4, _⟩ | ⟨g, cap, cur, h4, _, hg, _⟩
          · rw [h4] at hj; simp [Value.ownBlock] at hj
          · rw [h4] at hj; simp [Value.ownBlock] at hj
            rcases ej with ej | ej
            · rw [hj, ej, H127.out] at hg; simp at hg
            · obtain ⟨_, _, _, _, _, _, _, _, _, h5, _⟩ := HRg.out
              rw [hj, ej, h5] at hg; cases hg
        have h4 : w10.ownsRow B 3 1 vv k xs := row_fr h3 hF10 fun j hj ej => by
          have h5 := HS.out.rw
          rw [Hrn.out] at h5
          rcases h5.2 with ⟨h6, _⟩ | ⟨g, cap, cur, h6, _, hg, _⟩
          · rw [h6] at ej; simp [Value.ownBlock] at ej
          · rw [h6] at ej; simp [Value.ownBlock] at ej
            rcases h3.2 with ⟨h7, _⟩ | ⟨g', cap', cur', h7, _, hg', _⟩
            · rw [h7] at hj; simp [Value.ownBlock] at hj
            · rw [h7] at hj; simp [Value.ownBlock] at hj
              rw [hj, ← ej, hg] at hg'
              simp at hg'
        exact row_offT h4 hF11 tb10 (by decide)
      have HEn := hidIn (row_offT hrE hF11 tb10 (by decide))
      have HB10 : Hid (Below w.heap.size w (w10.setCell ⟨q12, 3, none⟩ (.slice ea es.length ec))) := hidIn (by
        have h1 := HB6.out.trans (HB7.out.mono HB6.out.size)
        have h0 := Hq6.out
        have h2 := h1.trans (HS.out.fr.below h1.size (fun j hj => by have := HB6.out.size; have := Hlt12.out; rcases hj with rfl | rfl <;> omega))
        have h3 := h2.trans (hF10.below h2.size (fun j hj => by
          rcases Nat.lt_or_ge j w7.heap.size with h5 | h5
          · exact absurd hj (hnb j h5)
          · have := h1.size; omega))
        exact h3.setCell (p := ⟨q12, 3, none⟩) (by show w.heap.size ≤ q12; omega) _)
      have HPm := hidIn (And.intro hperm hplc)
      have HWrs : Hid (w.heap.size ≤ wr.heap.size) := hidIn (by have h1 := HB6.out.size; have h2 := HB7.out.size; have h3 := HS.out.fr.size; omega)
      obtain ⟨el2, hel2⟩ : ∃ el2, es.length = el2 := ⟨_, rfl⟩
      rw [hel2] at tb11 HKI HEn HB10 z11
      have Hel2 := hidIn hel2
      rw [hel2]
      obtain ⟨w11, hw11⟩ : ∃ w11, w10.setCell ⟨q12, 3, none⟩ (.slice ea el2 ec) = w11 := ⟨_, rfl⟩
      rw [hw11] at tb11 HKI HEn HB10 z11
      have HW11 := hidIn hw11
      have HT11 := hidIn tb11
      have HZ11 := hidIn z11
      clear hperm hplc hrE hF10 hnb hq12 tb10 hq6 z7 zr z10 tb11 hF11 z11 hel2 hw11 HIn
      go_upto_region 15 with fail
      rw [HW11.out]
      clear HW11 k3 y3
      have p0 := cell_of_row _ _ 0 _ _ _ HT11.out
      have p1 := cell_of_row _ _ 1 _ _ _ HT11.out
      have p2 := cell_of_row _ _ 2 _ _ _ HT11.out
      have p3 := cell_of_row _ _ 3 _ _ _ HT11.out
      have z0 := cell_of_row _ _ 0 _ _ _ HZ11.out
      have z1 := cell_of_row _ _ 1 _ _ _ HZ11.out
      have z2 := cell_of_row _ _ 2 _ _ _ HZ11.out
      have z3 := cell_of_row _ _ 3 _ _ _ HZ11.out
      simp at p0 p1 p2 p3 z0 z1 z2 z3
      have y0 := frozen_new HZ11.out 0
      have y1 := frozen_new HZ11.out 1
      have y2 := frozen_new HZ11.out 2
      have y3 := frozen_new HZ11.out 3
      obtain ⟨ow, how⟩ : ∃ ow, ownW self P = ow := ⟨_, rfl⟩
      rw [how] at p2
      have hset := set4 (.int .i64 self) (.int .i64 wd) (.int .i64 ow) (.slice ea el2 ec) HZ11.out
      have hF12 := ((((Fr.refl (fun j => j = q6) w11).set (p := ⟨q6, 0, none⟩) rfl (.int .i64 self)).set (p := ⟨q6, 1, none⟩) rfl (.int .i64 wd)).set (p := ⟨q6, 2, none⟩) rfl (.int .i64 ow)).set (p := ⟨q6, 3, none⟩) rfl (.slice ea el2 ec)
      have HF12 := hidIn (And.intro hset hF12)
      have How := hidIn how
      clear hset hF12 how
      go_wp2_with fail
      obtain ⟨hE1, hF12⟩ := HF12.out
      generalize ((((World.setCell _ _ _).setCell _ _).setCell _ _).setCell _ _) = W9 at hE1 hF12 ⊢
      have e0 := cell_of_row _ _ 0 _ _ _ hE1
      have e1 := cell_of_row _ _ 1 _ _ _ hE1
      have e2 := cell_of_row _ _ 2 _ _ _ hE1
      have e3 := cell_of_row _ _ 3 _ _ _ hE1
      simp at e0 e1 e2 e3
      refine bodyPost_ret (v := .tuple #[.agg #[.int .i64 self, .int .i64 wd, .int .i64 ow, .slice ea el2 ec], .int .i64 0]) (by simp [results, Tryz.results4, asAddr, Result.andThen, go_sem, e0, e1, e2, e3]) rfl ⟨⟨W, P, es, .slice ea el2 ec, by rw [How.out], ?_, HGon.out.nd, ?_, ?_, HPm.out.1, HPm.out.2, wr.heap.size, HWrs.out, ?_⟩, HB10.out.trans (hF12.below HB10.out.size (fun j hj => by have := Hq6.out; omega))⟩
      · have h1 := HWs.out
        rw [HWe.out] at h1
        exact h1
      · intro id
        rw [HTe.out]
        exact HAll.out id
      · intro p hp
        obtain ⟨_, h2⟩ := HGon.out.fs p hp
        rw [HQ.out] at h2
        obtain ⟨r, h3, h4, B, h5, h6⟩ := h2
        rw [HTe.out]
        exact ⟨r, h3, h4, B, Nat.le_trans HB5s.out h5, row_offT (HKI.out _ _ _ _ h6) hF12 HZ11.out (by decide)⟩
      · rw [Hel2.out]
        exact row_offT HEn.out hF12 HZ11.out (by decide)
    · intro x c kl y1 y2 w8 cnt' hkey hlk hv hat hrg hlt hgr hsz hen
      obtain ⟨x', ex, rfl, hwx⟩ := Maps.keyOf_int_inv Tryz.underlying3 hkey
      cases ex
      have hyc : y1 = .held c := by
        have h9 : some ((DataW.held c : DataW Value), ([] : List MemPlace)) = some (y1, y2) := hv
        simp only [Option.some.injEq, Prod.mk.injEq] at h9
        exact h9.1.symm
      have hc : c = (f x).getD noRch := by
        have h1 := (HD.out x hwx).2
        rw [hat, hyc] at h1
        simpa using h1
      have hfx : (f x).isSome = true := by
        have h1 := (HD.out x hwx).1
        rw [HI.out.2.1 _ hlk] at h1
        exact h1.symm
      obtain ⟨xv, hxv⟩ := Option.isSome_iff_exists.1 hfx
      rw [hxv] at hc
      simp only [Option.getD_some] at hc
      obtain ⟨r, X, sa, sn, sc, hmem, hofW, hxe, hrow⟩ := HO.out.v x xv hxv
      rw [hxe] at hxv hc
      subst hc
      have hx1 := HTb.out _ hmem
      simp only at hx1
      obtain ⟨kx, hkx⟩ : ∃ kx : Nat, x = (kx : Int) + 1 := ⟨x.toNat - 1, by omega⟩
      subst hkx
      have hkx : kx < 1024 := by omega
      have hF8 : Fr (fun j => j = w6.heap.size) wr w8 := ⟨hgr.os, hgr.tape, hgr.output, hgr.size, fun j hj hne => hgr.block j hj (fun e => hne (by have := Option.some.inj e; omega))⟩
      have HS8 := hidIn (HI.out.2.2.2.next hF8 Hq7.out.2.1 Hq7.out.2.2.1)
      have HGn := hidIn (HI.out.2.2.1.more (p := ((kx : Int) + 1, X, sa, sn, sc)) hxv (by rw [HQ.out]; exact ⟨r, hmem, hofW, hrow⟩) hlk)
      have HRn := hidIn hrg
      have HLn : Hid (∀ kl, (left kl && !kl.sameKey (.int .i64 ((kx : Int) + 1))) = true → Maps.has D kl = true) := hidIn fun kl h => HI.out.2.1 kl (by simp at h; exact h.1)
      have Hlt : Hid (cnt' < wr.rangeLeft M w6.heap.size) := hidIn (by rw [HI.out.1.left_eq]; exact hlt)
      have HFw : Hid (P.length ≤ 1024) := hidIn (HI.out.2.2.1.few (fun id y hy => by obtain ⟨r, _, _, _, _, h1, _⟩ := HO.out.v id y hy; exact HTb.out _ h1))
      clear hkey hlk hv hat hrg hlt hgr hsz hyc hfx hxv hmem hofW hxe hrow hF8 HI
      obtain ⟨w9, hw9⟩ : ∃ w9, w8.alloc (.cells #[.int .i64 X.node, .int .i64 X.cost, .int .i64 X.least, .int .i64 X.most, .slice sa sn sc] 64) = w9 := ⟨_, rfl⟩
      have b9 : Below w8.heap.size w8 w9 := by rw [← hw9]; exact (Below.refl _ w8).alloc (Nat.le_refl _) _
      have hz : w9.heap[w8.heap.size]? = some (.cells #[.int .i64 X.node, .int .i64 X.cost, .int .i64 X.least, .int .i64 X.most, .slice sa sn sc] 64) := by rw [← hw9]; exact heap_alloc_last w8 _
      have HS9 := hidIn (HS8.out.keep b9)
      have HR9 := hidIn (ranges_fr HRn.out (Fr.of_below (S := fun _ => False) b9) (fun e => e) (fun e => e))
      obtain ⟨q15, hq15⟩ : ∃ q15, w8.heap.size = q15 := ⟨_, rfl⟩
      rw [hq15] at hz
      have HZ9 := hidIn hz
      have z0 := cell_of_row _ _ 0 _ _ _ hz
      simp at z0
      have HW9 := hidIn hw9
      clear hw9 b9 hz HS8 HRn
      go_upto_region 10 with fail
      rw [HW9.out]
      clear HW9 hq15
      by_cases hXs : X.node = self
      · have t1 : (X.node == self) = true := by simpa using hXs
        have k2 := cell_of_row _ _ 2 _ _ _ HS9.out.tb
        simp at k2
        have y2 := frozen_new HS9.out.tb 2
        have HSo := hidIn (HS9.out.own (p := ((kx : Int) + 1, X, sa, sn, sc)) hXs Hq7.out.1)
        have HRo := hidIn (ranges_fr HR9.out ((Fr.refl (fun j => j = q12) w9).set (p := ⟨q12, 2, none⟩) rfl (.int .i64 ((kx : Int) + 1))) (fun e => Hq7.out.2.2.2.2 e) (fun e => Hq7.out.2.1 e.symm))
        have HL1 : Hid ((rowsW self wd (P ++ [((kx : Int) + 1, X, sa, sn, sc)])) = rowsW self wd P) := hidIn (rowsW_self hXs).1
        clear hXs
        go_wp2_with fail
        go_roundw
        case rel =>
          have h1 := HL1.out
          have h2 := HRo.out
          have h3 := HLn.out
          have h4 := HGn.out
          have h5 := HSo.out
          go_light
          exact ⟨_, cnt', P ++ [((kx : Int) + 1, X, sa, sn, sc)], ra, rc, by rw [h1], hidIn ⟨h2, h3, h4, h5⟩⟩
        case measure =>
          rw [HRo.out.left_eq]
          exact Hlt.out
      · have t1 : (X.node == self) = false := by simpa using hXs
        have hBw : Below w.heap.size w w9 := by
          have h1 := HB6.out.trans (HB7.out.mono HB6.out.size)
          refine h1.trans (HS9.out.fr.below h1.size (fun j hj => ?_))
          have h2 := HB6.out.size
          have h3 := block_lt HZ6.out
          have h4 := Hq6.out
          rcases hj with rfl | rfl
          · omega
          · omega
        have HPl := hidIn (place_yes kx wd hkx HWd.out w9 (Ht.out.keep hBw))
        clear hBw
        go_wp2_with fail
        refine HPl.out.mono ?_
        rintro e w10 ⟨rfl, hb10⟩
        have HS10 := hidIn (HS9.out.keep hb10)
        have HR10 := hidIn (ranges_fr HR9.out (Fr.of_below (S := fun _ => False) hb10) (fun e => e) (fun e => e))
        have hz10 := (hb10.block _ (block_lt HZ9.out)).trans HZ9.out
        have z1 := cell_of_row _ _ 0 _ _ _ hz10
        have z5 := cell_of_row _ _ 4 _ _ _ hz10
        simp at z1 z5
        have hrl := rowsW_len self wd P
        have hpl := HFw.out
        obtain ⟨g11, gc11, w11, hrun, hown, hb11⟩ := append_rowT HS10.out.rw (rowW wd ((kx : Int) + 1, X, sa, sn, sc)) (by omega) HS10.out.fr.size
        have HSn := hidIn (HS10.out.more hb11 Hq7.out.1 (p := ((kx : Int) + 1, X, sa, sn, sc)) hXs hown)
        have HRo := hidIn (ranges_fr HR10.out (fr_up hb11) (by have := HMlt.out; have := HB7.out.size; omega) (by have := Hq7.out.2.2.1; omega))
        have HL1 : Hid ((rowsW self wd (P ++ [((kx : Int) + 1, X, sa, sn, sc)])).length = (rowsW self wd P).length + 1) := hidIn (by rw [(rowsW_other (P := P) (wd := wd) (p := ((kx : Int) + 1, X, sa, sn, sc)) hXs).1, List.length_append]; rfl)
        rw [rowW_is] at hrun
        have HRun := hidIn hrun
        clear hXs hb10 hz10 hrun hown hb11 hrl hpl z0
        go_wp2_with (refine l_append rfl _ _ 60 rfl HRun.out ?_)
        go_roundw
        case rel =>
          have h1 := HL1.out
          have h2 := HRo.out
          have h3 := HLn.out
          have h4 := HGn.out
          have h5 := HSn.out
          go_light
          exact ⟨_, cnt', P ++ [((kx : Int) + 1, X, sa, sn, sc)], _, gc11, by rw [h1], hidIn ⟨h2, h3, h4, h5⟩⟩
        case measure =>
          rw [HRo.out.left_eq]
          exact Hlt.out
end Go.Proofs.YtgeoghhajjlofaaGreatDoor
