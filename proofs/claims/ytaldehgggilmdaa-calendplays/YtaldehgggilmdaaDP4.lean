/- The document's calendar: Drop. -/
import Derived.Test.YtaldehgggilmdaaDP3
namespace Go.Proofs.Ytaldehgggilmdaa.Ca.S
open Go.RowKit Go.Maps

theorem drop_at {L : List (Tg ByteArray)} (hn : (L.map Prod.snd).Nodup) {i : Nat} {a : Tg ByteArray} (ha : L[i]? = some a) : dropT L a.2 = L.take i ++ L.drop (i + 1) := by
  have hi := (List.getElem?_eq_some_iff.1 ha).1
  have hd : L.drop i = a :: L.drop (i + 1) := by
    rw [List.drop_eq_getElem_cons hi]
    congr 1
    exact (List.getElem?_eq_some_iff.1 ha).2
  have hL : L = L.take i ++ a :: L.drop (i + 1) := by rw [← hd, List.take_append_drop]
  have h2 := hn
  rw [hL, List.map_append, List.map_cons, List.nodup_append, List.nodup_cons] at h2
  unfold dropT
  conv => lhs; rw [hL]
  rw [List.filter_append, List.filter_cons_of_neg (by simp)]
  congr 1
  · rw [List.filter_eq_self]
    intro x hx
    have := h2.2.2 x.2 (List.mem_map.2 ⟨x, hx, rfl⟩) a.2 (by simp)
    simpa using this
  · rw [List.filter_eq_self]
    intro x hx
    have : x.2 ≠ a.2 := fun e => h2.2.1.1 (List.mem_map.2 ⟨x, hx, e⟩)
    simpa using this
set_option maxRecDepth 100000 in
set_option maxHeartbeats 8000000 in
theorem ddrop_any {w : World} {S : Nat → Prop} {mp : Nat} {p t : Int} {L : List (Tg ByteArray)} (h0 : RfAt w S mp L p) (hl : L.length ≤ 100000) (hnd : (L.map Prod.snd).Nodup) :
    Calls Try.prog 14 #[ptr mp, .int .i64 t] w fun e w' => e = .returned (.bool (L.any fun a => a.2 == t)) ∧ RfAt w' (ext S w w') mp (dropT L t) p ∧ Fr S w w' := by
  have HR := hidIn h0
  have Hnd := hidIn hnd
  obtain ⟨n, hn⟩ : ∃ n, L.length = n := ⟨_, rfl⟩
  rw [hn] at hl
  have Hn := hidIn hn
  clear h0 hnd hn
  go_enter Try.func14, Try.ntmps14
  go_wp2_with fail
  go_loopw [5] (fun i wr => ∃ k, k ≤ n ∧ i = .int .i64 k ∧ Hid (Below w.heap.size w wr ∧ ∀ j a, j < k → L[j]? = some a → a.2 ≠ t)) (fun i _ => n - (intOf i).toNat)
  case atStart => exact ⟨0, Nat.zero_le _, rfl, hidIn ⟨Below.refl _ _, fun j a hj => by omega⟩⟩
  case round =>
    obtain ⟨k, hk, rfl, HH⟩ := hrel
    have hR := HR.out.below HH.out.1
    obtain ⟨a, cap, n1, n2, n3, nz, n4⟩ := hR
    have y0 := cell_of_row _ _ 0 _ _ _ n1
    have y1 := cell_of_row _ _ 1 _ _ _ n1
    simp at y0 y1
    rw [Hn.out] at y0
    by_cases hlt : k < n
    · have hki : (k : Int) < (n : Int) := by omega
      obtain ⟨b, hb⟩ : ∃ b, L[k]? = some b := ⟨L[k]'(by rw [Hn.out]; omega), List.getElem?_eq_getElem _⟩
      obtain ⟨bk, o, rfl, n5, n6, n7, n8⟩ := n4 (by rw [Hn.out]; omega)
      have z := (n8 k b hb).2.1
      obtain ⟨bt, hbt⟩ : ∃ t, b.2 = t := ⟨_, rfl⟩
      rw [hbt] at z
      have Hb := hidIn hb
      have Hbt := hidIn hbt
      have hnc : n ≤ cap := by have := Hn.out; omega
      have hkc : (k : Int) ≤ (cap : Int) := by omega
      have hkc1 : (k : Int) + 1 ≤ (cap : Int) := by omega
      have hkn1 : (k : Int) + 1 ≤ (n : Int) := by omega
      by_cases hbq : bt = t
      · subst hbq
        have HAny : Hid ((L.any fun a => a.2 == bt) = true) := hidIn (List.any_eq_true.2 ⟨b, List.mem_of_getElem? Hb.out, by simp [Hbt.out]⟩)
        have hins : dropT L bt = L.take k ++ L.drop (k + 1) := by rw [← Hbt.out]; exact drop_at Hnd.out Hb.out
        have hTk : SlAt t3 3 wr (.slice (some ⟨bk, o, none⟩) k cap) (L.take k) := by
          have hkl : (L.take k).length = k := by rw [List.length_take, Hn.out]; omega
          refine ⟨_, cap, by rw [hkl], by omega, by omega, fun h0 => ⟨bk, o, rfl, n5, fun j y hy i u hu => ?_⟩⟩
          rw [List.getElem?_take] at hy
          split at hy
          · obtain ⟨e1, e2, e3⟩ := n8 j y hy
            match i with
            | 0 => simp at hu; subst hu; exact e1
            | 1 => simp at hu; subst hu; exact e2
            | 2 => simp at hu; subst hu; exact e3
            | i + 3 => simp at hu
          · cases hy
        obtain ⟨v1, w1, hrun1, hrow1, hF1⟩ := append_t3 (W := wr) (base := wr.heap.size) (n := 0) (u := .slice none 0 0) (l := []) (World.ownsRow_nil _ _ _ _) rfl hTk (by rw [List.length_take, Hn.out]; omega) (Nat.le_refl _) (.inl ⟨_, _, _, rfl⟩)
        have hkl : (L.take k).length = k := by rw [List.length_take, Hn.out]; omega
        rw [List.nil_append, Nat.zero_add, hkl] at hrow1
        obtain ⟨a1, cp1, rfl⟩ := row_shape hrow1
        have HRun1 := hidIn hrun1
        have hb1 : Below wr.heap.size wr w1 := ⟨hF1.os, hF1.tape, hF1.output, hF1.size, fun j hj => hF1.block j hj (by simp [Value.ownBlock])⟩
        have n1b := (hb1.block mp (block_lt n1)).trans n1
        have y0b := cell_of_row _ _ 0 _ _ _ n1b
        simp at y0b
        rw [Hn.out] at y0b
        clear hrun1 hTk hF1 n1b n4 nz
        by_cases hcq : cap = k + 1
        · have hDr : SlAt t3 3 wr (.slice (some ⟨bk, o, none⟩) (n - (k + 1)) (cap - (k + 1))) (L.drop (k + 1)) := by
            have hd : L.drop (k + 1) = [] := List.drop_eq_nil_of_le (by rw [Hn.out]; omega)
            rw [hd, show n - (k + 1) = 0 from by omega]
            exact ⟨_, _, rfl, by simp, by simp, fun h => by simp at h⟩
          obtain ⟨v3, w5, hrun3, hrow3, hF3⟩ := append_t3 (W := w1) hrow1 hkl (hDr.keep hb1 (Nat.le_refl _)) (by rw [List.length_drop, Hn.out]; omega) hb1.size (.inl ⟨_, _, _, rfl⟩)
          rw [show k + (L.drop (k + 1)).length = n - 1 from by rw [List.length_drop, Hn.out]; omega, ← hins] at hrow3
          obtain ⟨a3, cp3, rfl⟩ := row_shape hrow3
          have HRun3 := hidIn hrun3
          have hb5 : Below wr.heap.size wr w5 := hb1.trans (hF3.below hb1.size (fun j hj => (hrow1.lt j hj).1))
          have n1d := (hb5.block mp (block_lt n1)).trans n1
          have y0d := cell_of_row _ _ 0 _ _ _ n1d
          have f0d := frozen_new n1d 0
          simp at y0d
          have hFs : Fr (fun j => j = mp) w5 (w5.setCell ⟨mp, 0, none⟩ (.slice a3 (n - 1) cp3)) := Fr.set (S := fun j => j = mp) (Fr.refl _ w5) (p := ⟨mp, 0, none⟩) rfl _
          have n1e : (w5.setCell ⟨mp, 0, none⟩ (.slice a3 (n - 1) cp3)).heap[mp]? = some (.cells #[.slice a3 (n - 1) cp3, .int .i64 p] 28) := heap_setCell_same _ _ _ _ _ _ n1d
          have hlen1 : (dropT L bt).length = n - 1 := by rw [hins]; simp [Hn.out]; omega
          have hw9 : w.heap.size ≤ wr.heap.size := HH.out.1.size
          have hmlt := block_lt n1
          have HFin : Hid (RfAt (w5.setCell ⟨mp, 0, none⟩ (.slice a3 (n - 1) cp3)) (ext S w (w5.setCell ⟨mp, 0, none⟩ (.slice a3 (n - 1) cp3))) mp (dropT L bt) p ∧ Fr S w (w5.setCell ⟨mp, 0, none⟩ (.slice a3 (n - 1) cp3))) := hidIn (by
            refine ⟨⟨a3, cp3, by rw [hlen1]; exact n1e, .inl n2, ?_, ?_, fun h9 => ?_⟩, ?_⟩
            · obtain ⟨a', c', he, _, hc, _⟩ := slAt_of_row (cs := t3) (fun _ => rfl) hrow3 hlen1
              simp at he
              omega
            · intro h
              subst h
              rcases hrow3.2 with ⟨h, _⟩ | ⟨_, _, _, h, _⟩
              · simp at h
                exact h.2
              · simp at h
            · obtain ⟨a', c', he, _, _, hc⟩ := slAt_of_row (cs := t3) (fun _ => rfl) hrow3 hlen1
              simp at he
              obtain ⟨rfl, _, rfl⟩ := he
              obtain ⟨b', o', rfl, hbl, h8⟩ := hc h9
              have hge := (hrow3.lt b' rfl).1
              have hne : b' ≠ mp := by omega
              have c := fun j => World.cell?_of_block (a := ⟨b', j, none⟩) (hFs.block b' hbl hne)
              exact ⟨b', o', rfl, Nat.lt_of_lt_of_le hbl hFs.size, .inr ⟨by omega, Nat.lt_of_lt_of_le hbl hFs.size⟩, hne, fun j y hy => ⟨(c _).trans (h8 j y hy 0 _ rfl), (c _).trans (h8 j y hy 1 _ rfl), (c _).trans (h8 j y hy 2 _ rfl)⟩⟩
            · have hfr : Fr S w w5 := (Fr.of_below HH.out.1).trans (Fr.of_below hb5)
              exact hfr.trans (hFs.mono (fun j _ e => by rw [e]; exact n2)))
          clear hDr hrun3 hrow3 hF3 hins hb5 n1d hFs n1e hlen1 hw9 hrow1 hb1 hkl n1 n2 n3 n5 n6 n7 n8 hb hbt hmlt
          go_upto_region 7 with (refine l_append rfl _ _ 26 rfl HRun1.out ?_)
          go_wp2_with (refine l_append rfl _ _ 26 rfl HRun3.out ?_)
          go_returns
          rw [HAny.out]
          exact ⟨rfl, HFin.out⟩
        · have hcq' : ¬ cap - (k + 1) = 0 := by omega
          have hDr : SlAt t3 3 wr (.slice (some ⟨bk, o + (k + 1) * 3, none⟩) (n - (k + 1)) (cap - (k + 1))) (L.drop (k + 1)) := by
            have hdl : (L.drop (k + 1)).length = n - (k + 1) := by rw [List.length_drop, Hn.out]
            refine ⟨_, _, by rw [hdl], by omega, by omega, fun h0 => ⟨bk, o + (k + 1) * 3, rfl, n5, fun j y hy i u hu => ?_⟩⟩
            rw [List.getElem?_drop] at hy
            obtain ⟨e1, e2, e3⟩ := n8 (k + 1 + j) y hy
            have e : o + (k + 1 + j) * 3 = o + (k + 1) * 3 + j * 3 := by omega
            rw [e] at e1 e2 e3
            match i with
            | 0 => simp at hu; subst hu; exact e1
            | 1 => simp at hu; subst hu; exact e2
            | 2 => simp at hu; subst hu; exact e3
            | i + 3 => simp at hu
          obtain ⟨v3, w5, hrun3, hrow3, hF3⟩ := append_t3 (W := w1) hrow1 hkl (hDr.keep hb1 (Nat.le_refl _)) (by rw [List.length_drop, Hn.out]; omega) hb1.size (.inl ⟨_, _, _, rfl⟩)
          rw [show k + (L.drop (k + 1)).length = n - 1 from by rw [List.length_drop, Hn.out]; omega, ← hins] at hrow3
          obtain ⟨a3, cp3, rfl⟩ := row_shape hrow3
          have HRun3 := hidIn hrun3
          have hb5 : Below wr.heap.size wr w5 := hb1.trans (hF3.below hb1.size (fun j hj => (hrow1.lt j hj).1))
          have n1d := (hb5.block mp (block_lt n1)).trans n1
          have y0d := cell_of_row _ _ 0 _ _ _ n1d
          have f0d := frozen_new n1d 0
          simp at y0d
          have hFs : Fr (fun j => j = mp) w5 (w5.setCell ⟨mp, 0, none⟩ (.slice a3 (n - 1) cp3)) := Fr.set (S := fun j => j = mp) (Fr.refl _ w5) (p := ⟨mp, 0, none⟩) rfl _
          have n1e : (w5.setCell ⟨mp, 0, none⟩ (.slice a3 (n - 1) cp3)).heap[mp]? = some (.cells #[.slice a3 (n - 1) cp3, .int .i64 p] 28) := heap_setCell_same _ _ _ _ _ _ n1d
          have hlen1 : (dropT L bt).length = n - 1 := by rw [hins]; simp [Hn.out]; omega
          have hw9 : w.heap.size ≤ wr.heap.size := HH.out.1.size
          have hmlt := block_lt n1
          have HFin : Hid (RfAt (w5.setCell ⟨mp, 0, none⟩ (.slice a3 (n - 1) cp3)) (ext S w (w5.setCell ⟨mp, 0, none⟩ (.slice a3 (n - 1) cp3))) mp (dropT L bt) p ∧ Fr S w (w5.setCell ⟨mp, 0, none⟩ (.slice a3 (n - 1) cp3))) := hidIn (by
            refine ⟨⟨a3, cp3, by rw [hlen1]; exact n1e, .inl n2, ?_, ?_, fun h9 => ?_⟩, ?_⟩
            · obtain ⟨a', c', he, _, hc, _⟩ := slAt_of_row (cs := t3) (fun _ => rfl) hrow3 hlen1
              simp at he
              omega
            · intro h
              subst h
              rcases hrow3.2 with ⟨h, _⟩ | ⟨_, _, _, h, _⟩
              · simp at h
                exact h.2
              · simp at h
            · obtain ⟨a', c', he, _, _, hc⟩ := slAt_of_row (cs := t3) (fun _ => rfl) hrow3 hlen1
              simp at he
              obtain ⟨rfl, _, rfl⟩ := he
              obtain ⟨b', o', rfl, hbl, h8⟩ := hc h9
              have hge := (hrow3.lt b' rfl).1
              have hne : b' ≠ mp := by omega
              have c := fun j => World.cell?_of_block (a := ⟨b', j, none⟩) (hFs.block b' hbl hne)
              exact ⟨b', o', rfl, Nat.lt_of_lt_of_le hbl hFs.size, .inr ⟨by omega, Nat.lt_of_lt_of_le hbl hFs.size⟩, hne, fun j y hy => ⟨(c _).trans (h8 j y hy 0 _ rfl), (c _).trans (h8 j y hy 1 _ rfl), (c _).trans (h8 j y hy 2 _ rfl)⟩⟩
            · have hfr : Fr S w w5 := (Fr.of_below HH.out.1).trans (Fr.of_below hb5)
              exact hfr.trans (hFs.mono (fun j _ e => by rw [e]; exact n2)))
          clear hDr hrun3 hrow3 hF3 hins hb5 n1d hFs n1e hlen1 hw9 hrow1 hb1 hkl n1 n2 n3 n5 n6 n7 n8 hb hbt hmlt
          go_upto_region 7 with (refine l_append rfl _ _ 26 rfl HRun1.out ?_)
          go_wp2_with (refine l_append rfl _ _ 26 rfl HRun3.out ?_)
          go_returns
          rw [HAny.out]
          exact ⟨rfl, HFin.out⟩
      · have hbf : (bt == t) = false := by simpa using hbq
        have HNo : Hid (∀ j a, j < k + 1 → L[j]? = some a → a.2 ≠ t) := hidIn (fun j a hj ha => by
          by_cases hjk : j = k
          · subst hjk
            rw [Hb.out] at ha
            cases ha
            rw [Hbt.out]
            exact hbq
          · exact HH.out.2 j a (by omega) ha)
        have HB := hidIn HH.out.1
        clear hbq n1 n2 n3 nz n4 n5 n6 n7 n8 HH hb hbt
        go_wp2_with fail
        go_roundw
        case rel => exact ⟨k + 1, by omega, by go_num, hidIn ⟨HB.out, HNo.out⟩⟩
        case measure => simp [intOf]; omega
    · have hki : ¬ (k : Int) < (n : Int) := by omega
      have hno : ∀ a ∈ L, a.2 ≠ t := fun a ha => by
        obtain ⟨i, hi, rfl⟩ := List.getElem_of_mem ha
        exact HH.out.2 i _ (by have := Hn.out; omega) (List.getElem?_eq_getElem hi)
      have HAny : Hid ((L.any fun a => a.2 == t) = false ∧ dropT L t = L) := hidIn ⟨by
        rw [List.any_eq_false]
        intro a ha
        simpa using hno a ha, dropT_none hno⟩
      have HFin : Hid (RfAt wr (ext S w wr) mp L p ∧ Fr S w wr) := hidIn ⟨(HR.out.below HH.out.1).mono (fun _ _ h => .inl h), Fr.of_below HH.out.1⟩
      clear n1 n2 n3 nz n4 HH hno
      go_wp2_with fail
      go_returns
      rw [HAny.out.1, HAny.out.2]
      exact ⟨rfl, HFin.out⟩
end Go.Proofs.Ytaldehgggilmdaa.Ca.S
