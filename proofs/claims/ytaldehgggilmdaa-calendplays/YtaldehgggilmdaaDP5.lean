/- The document's calendar: Sift. -/
import Derived.Test.YtaldehgggilmdaaDP4
namespace Go.Proofs.Ytaldehgggilmdaa.Ca.S
open Go.RowKit Go.Maps

theorem append_t1 {W : World} {base k : Nat} {u : Value} {l : List (Tg ByteArray)} (hr : W.ownsRow base 49 3 u k (fl t3 l)) (x : Tg ByteArray) (hk : (k + 1) * 32 ≤ 140737488355328) (hbase : base ≤ W.heap.size) :
    ∃ g cap w6, (Builtin.append_ #[26, 26] 26 #[u, .slice (some ⟨W.heap.size, 0, none⟩) 1 1]).run Try.prog (W.alloc (.cells (t3 x).toArray 49)) = .ok (.slice (some ⟨g, 0, none⟩) (k + 1) cap) w6 ∧
      w6.ownsRow base 49 3 (.slice (some ⟨g, 0, none⟩) (k + 1) cap) (k + 1) (fl t3 (l ++ [x])) ∧ (u.ownBlock = some g ∨ g = W.heap.size + 1) ∧ W.grownBy w6 u.ownBlock ∧ Below base W w6 :=
  append_one (P := Try.prog) (cs := t3) (T := 26) (fun _ => rfl) (fun x u hu => by simp at hu; rcases hu with rfl | rfl | rfl <;> rfl) Try.underlying26 infoTh rfl (by decide) hr x hk (by unfold maxLen; omega) hbase
/-- Amid Sift: what was asked of, what stays. -/
structure SfD (w wr : World) (lv av : Value) (L : List (Tg ByteArray)) (k : Nat) (K : List (Tg ByteArray)) (gone : ByteArray) : Prop where
  b : Below w.heap.size w wr
  a : wr.ownsRow w.heap.size 9 1 av k (fl tc ((L.take k).map fun b => b.1.1))
  l : wr.ownsRow w.heap.size 49 3 lv K.length (fl t3 K)
  k : K = (L.take k).filter fun b => !decide (b.1.1 = gone)
  d : ∀ j, lv.ownBlock = some j → av.ownBlock ≠ some j
set_option maxRecDepth 100000 in
set_option maxHeartbeats 8000000 in
theorem dsift_any {w : World} {S : Nat → Prop} {mp : Nat} {p : Int} {L : List (Tg ByteArray)} {gone : ByteArray} (h0 : RfAt w S mp L p) (hl : L.length ≤ 100000) :
    Calls Try.prog 26 #[ptr mp, .string gone] w fun e w' => (∃ u, e = .returned (.tuple #[.int .i64 ((L.length : Int) - (L.filter fun b => !decide (b.1.1 = gone)).length), u]) ∧ w'.ownsRow w.heap.size 9 1 u L.length (fl tc (L.map fun b => b.1.1))) ∧ RfAt w' (ext S w w') mp (L.filter fun b => !decide (b.1.1 = gone)) p ∧ Fr S w w' := by
  obtain ⟨n, hn⟩ : ∃ n, L.length = n := ⟨_, rfl⟩
  obtain ⟨F, hF⟩ : ∃ F, L.filter (fun b => !decide (b.1.1 = gone)) = F := ⟨_, rfl⟩
  rw [hF]
  rw [hn] at hl ⊢
  have HF := hidIn hF
  have Hn := hidIn hn
  have HR := hidIn h0
  clear h0 hn hF
  go_enter Try.func26, Try.ntmps26
  go_wp2_with fail
  go_loopw [6, 7, 8, 9] (fun lv av nv iv wr => ∃ (k m : Nat) (K : List (Tg ByteArray)), k ≤ n ∧ m + K.length = k ∧ iv = .int .i64 k ∧ nv = .int .i64 m ∧ (∃ a c, av = .slice a k c) ∧ (∃ a c, lv = .slice a K.length c) ∧ Hid (SfD w wr lv av L k K gone)) (fun _ _ _ iv _ => n - (intOf iv).toNat)
  case atStart => exact ⟨0, 0, [], Nat.zero_le _, rfl, rfl, rfl, ⟨none, 0, rfl⟩, ⟨none, 0, rfl⟩, hidIn ⟨Below.refl _ _, World.ownsRow_nil _ _ _ _, World.ownsRow_nil _ _ _ _, rfl, fun j h => by simp [Value.ownBlock] at h⟩⟩
  case round =>
    obtain ⟨k, m, K, hk, hmk, rfl, rfl, ⟨aa, ac, rfl⟩, ⟨la, lc, rfl⟩, HS⟩ := hrel
    obtain ⟨a, cap, m1, m2, m3, mz, m4⟩ := HR.out
    have hB := HS.out.b
    have hmp := block_lt m1
    have n1 := (hB.block mp hmp).trans m1
    have y0 := cell_of_row _ _ 0 _ _ _ n1
    simp at y0
    rw [Hn.out] at y0
    by_cases hlt : k < n
    · have hki : (k : Int) < (n : Int) := by omega
      obtain ⟨b, hb⟩ : ∃ b, L[k]? = some b := ⟨L[k]'(by rw [Hn.out]; omega), List.getElem?_eq_getElem _⟩
      obtain ⟨bk, o, rfl, n5, n6, n7, n8⟩ := m4 (by rw [Hn.out]; omega)
      obtain ⟨x, hx⟩ : ∃ x, b.1.1 = x := ⟨_, rfl⟩
      obtain ⟨bt, hbt⟩ : ∃ t, b.1.2 = t := ⟨_, rfl⟩
      obtain ⟨bi, hbi⟩ : ∃ t, b.2 = t := ⟨_, rfl⟩
      obtain ⟨e1, e2, e3⟩ := n8 k b hb
      have c := fun j => World.cell?_of_block (a := ⟨bk, j, none⟩) (hB.block bk n5)
      have z3 := (c _).trans e3
      rw [hx] at z3
      obtain ⟨g6, cap6, w6, hrun, hown, hlie, hgr, hb6⟩ := append_th HS.out.a x (by omega) hB.size
      have hF6 : Fr (fun j => (Value.slice aa k ac).ownBlock = some j) wr w6 := ⟨hgr.os, hgr.tape, hgr.output, hgr.size, fun j hj hne => hgr.block j hj (fun e => hne e.symm)⟩
      have hB6 := hB.trans hb6
      have n16 := (hB6.block mp hmp).trans m1
      have y06 := cell_of_row _ _ 0 _ _ _ n16
      simp at y06
      rw [Hn.out] at y06
      have c6 := fun j => World.cell?_of_block (a := ⟨bk, j, none⟩) (hB6.block bk n5)
      have z61 := (c6 _).trans e1
      have z62 := (c6 _).trans e2
      have z63 := (c6 _).trans e3
      rw [hbt] at z61
      rw [hbi] at z62
      rw [hx] at z63
      have htk : L.take (k + 1) = L.take k ++ [b] := by rw [List.take_add_one, hb]; rfl
      have hown' : w6.ownsRow w.heap.size 9 1 (.slice (some ⟨g6, 0, none⟩) (k + 1) cap6) (k + 1) (fl tc ((L.take (k + 1)).map fun b => b.1.1)) := by
        rw [htk, List.map_append, List.map_cons, List.map_nil, hx]
        exact hown
      have hlr6 := row_fr HS.out.l hF6 (fun j hj => fun e => HS.out.d j hj e)
      have hd6 : ∀ j, (Value.slice la K.length lc).ownBlock = some j → j ≠ g6 := fun j hj e => by
        subst e
        rcases hlie with h | h
        · exact HS.out.d j hj h
        · have := (HS.out.l.lt j hj).2
          omega
      have hnc : n ≤ cap := by have := Hn.out; omega
      have hkc : (k : Int) ≤ (cap : Int) := by omega
      have hkc1 : (k : Int) + 1 ≤ (cap : Int) := by omega
      have hkn1 : (k : Int) + 1 ≤ (n : Int) := by omega
      have HRun := hidIn hrun
      by_cases hxg : x = gone
      · subst hxg
        have HNew : Hid (SfD w w6 (.slice la K.length lc) (.slice (some ⟨g6, 0, none⟩) (k + 1) cap6) L (k + 1) K x) := hidIn ⟨hB6, hown', hlr6, by rw [htk, List.filter_append, List.filter_cons_of_neg (by simp [hx]), List.filter_nil, List.append_nil]; exact HS.out.k, fun j hj e => hd6 j hj (by simpa [Value.ownBlock] using e.symm)⟩
        clear hrun hown hown' hlr6 hd6 hlie hgr hb6 hF6 hB6 n16 c6 c e1 e2 e3 n8 n1 m1 m4 htk hB z61 z62 HS n5 n6 n7 hb hx hbt hbi
        go_wp2_with (refine l_append rfl _ _ 36 rfl HRun.out ?_)
        go_roundw
        case rel => exact ⟨k + 1, m + 1, K, by omega, by omega, by go_num, by go_num, ⟨_, _, rfl⟩, ⟨_, _, rfl⟩, HNew⟩
        case measure => simp [intOf]; omega
      · have hxf : (x.toList == gone.toList) = false := by rw [txt_eq]; simpa using hxg
        have hxt : ¬ x.toList = gone.toList := by simpa using hxf
        obtain ⟨g8, cap8, w8, hrun8, hown8, hlie8, hgr8, hb8⟩ := append_t1 hlr6 ((x, bt), bi) (by have := Hn.out; omega) hB6.size
        have hF8 : Fr (fun j => (Value.slice la K.length lc).ownBlock = some j) w6 w8 := ⟨hgr8.os, hgr8.tape, hgr8.output, hgr8.size, fun j hj hne => hgr8.block j hj (fun e => hne e.symm)⟩
        have hbx : b = ((x, bt), bi) := by rw [← hx, ← hbt, ← hbi]
        have HNew : Hid (SfD w w8 (.slice (some ⟨g8, 0, none⟩) (K.length + 1) cap8) (.slice (some ⟨g6, 0, none⟩) (k + 1) cap6) L (k + 1) (K ++ [((x, bt), bi)]) gone) := hidIn ⟨hB6.trans hb8, row_fr hown' hF8 (fun j hj e => hd6 j e (by simp [Value.ownBlock] at hj; exact hj.symm)), by rw [List.length_append]; exact hown8, by
            rw [htk, List.filter_append, List.filter_cons_of_pos (by simpa [hx] using hxg), List.filter_nil, ← HS.out.k, hbx], fun j hj e => by
            simp [Value.ownBlock] at hj e
            subst hj
            rcases hlie8 with h | h
            · exact hd6 g8 h e.symm
            · have := (hown.lt g6 rfl).2
              omega⟩
        have HRun8 : Hid ((Builtin.append_ #[26, 26] 26 #[.slice la K.length lc, .slice (some ⟨w6.heap.size, 0, none⟩) 1 1]).run Try.prog (w6.alloc (.cells #[.int .u64 bt, .int .i64 bi, .string x] 49)) = .ok (.slice (some ⟨g8, 0, none⟩) (K.length + 1) cap8) w8) := hidIn hrun8
        clear hrun8 hown8 hlie8 hgr8 hb8 hF8 hrun hown hown' hlr6 hd6 hlie hgr hb6 hF6 hB6 n16 c6 c e1 e2 e3 n8 n1 m1 m4 htk hB HS n5 n6 n7 hb hx hbt hbi hbx
        go_wp2_with (first | refine l_append rfl _ _ 36 rfl HRun.out ?_ | refine l_append rfl _ _ 26 rfl HRun8.out ?_)
        go_roundw
        case rel => exact ⟨k + 1, m, K ++ [((x, bt), bi)], by omega, by rw [List.length_append]; simp; omega, by go_num, by go_num, ⟨_, _, rfl⟩, ⟨some ⟨g8, 0, none⟩, cap8, by rw [List.length_append]; rfl⟩, HNew⟩
        case measure => simp [intOf]; omega
    · have hki : ¬ (k : Int) < (n : Int) := by omega
      obtain rfl : k = n := by omega
      have hKF : K = F := by rw [HS.out.k, ← HF.out, List.take_of_length_le (by rw [Hn.out]; exact Nat.le_refl _)]
      subst hKF
      have f0 := frozen_new n1 0
      have hFs : Fr (fun j => j = mp) wr (wr.setCell ⟨mp, 0, none⟩ (.slice la K.length lc)) := Fr.set (S := fun j => j = mp) (Fr.refl _ wr) (p := ⟨mp, 0, none⟩) rfl _
      have n1e : (wr.setCell ⟨mp, 0, none⟩ (.slice la K.length lc)).heap[mp]? = some (.cells #[.slice la K.length lc, .int .i64 p] 28) := heap_setCell_same _ _ _ _ _ _ n1
      have hw9 := hB.size
      have HFin : Hid ((wr.setCell ⟨mp, 0, none⟩ (.slice la K.length lc)).ownsRow w.heap.size 9 1 (.slice aa k ac) k (fl tc (L.map fun b => b.1.1)) ∧ RfAt (wr.setCell ⟨mp, 0, none⟩ (.slice la K.length lc)) (ext S w (wr.setCell ⟨mp, 0, none⟩ (.slice la K.length lc))) mp K p ∧ Fr S w (wr.setCell ⟨mp, 0, none⟩ (.slice la K.length lc))) := hidIn (by
        refine ⟨?_, ⟨la, lc, n1e, .inl m2, ?_, ?_, fun h9 => ?_⟩, ?_⟩
        · have h := HS.out.a
          rw [List.take_of_length_le (by rw [Hn.out]; exact Nat.le_refl _)] at h
          exact row_fr h hFs (fun j hj e => by have := (h.lt j hj).1; omega)
        · obtain ⟨a', c', he, _, hc, _⟩ := slAt_of_row (cs := t3) (fun _ => rfl) HS.out.l rfl
          simp at he
          omega
        · intro h
          subst h
          rcases HS.out.l.2 with ⟨h, _⟩ | ⟨_, _, _, h, _⟩
          · simp at h
            exact h.2
          · simp at h
        · obtain ⟨a', c', he, _, _, hc⟩ := slAt_of_row (cs := t3) (fun _ => rfl) HS.out.l rfl
          simp at he
          obtain ⟨rfl, rfl⟩ := he
          obtain ⟨b', o', rfl, hbl, h8⟩ := hc h9
          have hge := (HS.out.l.lt b' rfl).1
          have hne : b' ≠ mp := by omega
          have c := fun j => World.cell?_of_block (a := ⟨b', j, none⟩) (hFs.block b' hbl hne)
          exact ⟨b', o', rfl, Nat.lt_of_lt_of_le hbl hFs.size, .inr ⟨by omega, Nat.lt_of_lt_of_le hbl hFs.size⟩, hne, fun j y hy => ⟨(c _).trans (h8 j y hy 0 _ rfl), (c _).trans (h8 j y hy 1 _ rfl), (c _).trans (h8 j y hy 2 _ rfl)⟩⟩
        · exact (Fr.of_below hB).trans (hFs.mono (fun j _ e => by rw [e]; exact m2)))
      have hmi : (m : Int) = (k : Int) - (K.length : Int) := by omega
      clear hFs n1e hw9 hB n1 m1 m4 HS
      go_wp2_with fail
      go_returns
      rw [← hmi]
      exact ⟨⟨_, rfl, HFin.out.1⟩, HFin.out.2⟩
end Go.Proofs.Ytaldehgggilmdaa.Ca.S
