/- The document's calendar: Put. -/
import Derived.Test.YtaldehgggilmdaaDP2
namespace Go.Proofs.Ytaldehgggilmdaa.Ca.S
open Go.RowKit Go.Maps

theorem RfAt.bump {w : World} {S : Nat → Prop} {mp : Nat} {L : List (Tg ByteArray)} {p : Int} (q : Int) (h : RfAt w S mp L p) : RfAt (w.setCell ⟨mp, 1, none⟩ (.int .i64 q)) S mp L q := by
  obtain ⟨a, cap, h1, h2, h3, hz, h4⟩ := h
  have hF : Fr (fun k => k = mp) w (w.setCell ⟨mp, 1, none⟩ (.int .i64 q)) := (Fr.refl (fun k => k = mp) w).set (p := ⟨mp, 1, none⟩) rfl _
  refine ⟨a, cap, heap_setCell_same w mp 1 _ _ _ h1, h2, h3, hz, fun h0 => ?_⟩
  obtain ⟨bk, o, rfl, h5, h6, h7, h8⟩ := h4 h0
  refine ⟨bk, o, rfl, Nat.lt_of_lt_of_le h5 hF.size, h6, h7, fun j x hx => ?_⟩
  obtain ⟨e1, e2, e3⟩ := h8 j x hx
  have c := fun j => World.cell?_of_block (a := ⟨bk, j, none⟩) (hF.block bk h5 h7)
  exact ⟨(c _).trans e1, (c _).trans e2, (c _).trans e3⟩
theorem le_tick {a b : Tg ByteArray} (h : leE tick a b) : tick a.1 ≤ tick b.1 := by
  unfold leE at h
  omega
theorem ord_before {L : List (Tg ByteArray)} (h : Ord L) {j : Nat} {c0 : Tg ByteArray} (hc : L[j]? = some c0) {t : Int} (ht : tick c0.1 ≤ t) {c : Tg ByteArray} (hm : c ∈ L.take (j + 1)) : tick c.1 ≤ t := by
  obtain ⟨i, hi, rfl⟩ := List.getElem_of_mem hm
  rw [List.length_take] at hi
  have hj := (List.getElem?_eq_some_iff.1 hc).1
  rw [List.getElem_take]
  by_cases hij : i = j
  · subst hij
    rw [(List.getElem?_eq_some_iff.1 hc).2]
    exact ht
  · have hp := List.pairwise_iff_getElem.1 h i j (by omega) hj (by omega)
    rw [(List.getElem?_eq_some_iff.1 hc).2] at hp
    exact Int.le_trans (le_tick hp.1) ht
set_option maxRecDepth 100000 in
set_option maxHeartbeats 4000000 in
theorem dput_any {w : World} {S : Nat → Prop} {mp : Nat} {p at0 : Int} {x : ByteArray} {L : List (Tg ByteArray)} (h0 : RfAt w S mp L p) (hl : L.length ≤ 100000) (ho : Ord L) (hp : 0 ≤ p ∧ p ≤ 100000) :
    Calls Try.prog 12 #[ptr mp, .int .u64 at0, .string x] w fun e w' => e = .returned (.int .i64 (p + 1)) ∧ RfAt w' (ext S w w') mp (insL L ((x, at0), p + 1)) (p + 1) ∧ Fr S w w' := by
  obtain ⟨W, hW⟩ : ∃ W, w.setCell ⟨mp, 1, none⟩ (.int .i64 (p + 1)) = W := ⟨_, rfl⟩
  have hR : RfAt W S mp L (p + 1) := by rw [← hW]; exact h0.bump _
  obtain ⟨a, cap, m1, m2, m3, mz, m4⟩ := h0
  have hFW : Fr S w W := by rw [← hW]; exact (Fr.refl S w).set (p := ⟨mp, 1, none⟩) m2 _
  have c1 := cell_of_row _ _ 1 _ _ _ m1
  have f1 := frozen_new m1 1
  simp at c1
  have HR := hidIn hR
  have HF := hidIn hFW
  have HW := hidIn hW
  have Ho := hidIn ho
  obtain ⟨a', cap', n1, n2, n3, nz, n4⟩ := hR
  have x0 := cell_of_row _ _ 0 _ _ _ n1
  simp at x0
  clear hW hFW m1 m3 m4 mz ho n1 n3 n4 nz
  obtain ⟨n, hn⟩ : ∃ n, L.length = n := ⟨_, rfl⟩
  rw [hn] at x0 hl
  have Hn := hidIn hn
  clear hn
  go_enter Try.func12, Try.ntmps12
  go_upto_region 2 with fail
  rw [HW.out]
  clear HW c1 f1
  go_wp2_with fail
  go_loopw [7] (fun i wr => ∃ k, k ≤ n ∧ i = .int .i64 k ∧ Hid ((∀ j a, k ≤ j → L[j]? = some a → ¬ tick a.1 ≤ at0) ∧ RfAt wr S mp L (p + 1) ∧ Fr S w wr)) (fun i _ => (intOf i).toNat)
  case atStart => exact ⟨n, Nat.le_refl _, rfl, hidIn ⟨fun j a hj ha => by have := (List.getElem?_eq_some_iff.1 ha).1; have := Hn.out; omega, HR.out, HF.out⟩⟩
  case round =>
    obtain ⟨k, hk, rfl, HH⟩ := hrel
    go_upto_region 3 with fail
    go_cut [35] (fun c wx => ∃ b, c = .bool b ∧ wx = wr ∧ Hid (b = true ↔ ∃ j a, k = j + 1 ∧ L[j]? = some a ∧ at0 < a.1.2))
    case first =>
      have hR := HH.out.2.1
      obtain ⟨a, cap, n1, n2, n3, nz, n4⟩ := hR
      have y0 := cell_of_row _ _ 0 _ _ _ n1
      simp at y0
      rw [Hn.out] at y0
      clear x0
      cases k with
      | zero =>
        go_wp2_with fail
        go_meet
        exact ⟨false, rfl, rfl, hidIn (by simp)⟩
      | succ k =>
        obtain ⟨b, hb⟩ : ∃ b, L[k]? = some b := ⟨L[k]'(by rw [Hn.out]; omega), List.getElem?_eq_getElem _⟩
        obtain ⟨bk, o, rfl, n5, n6, n7, n8⟩ := n4 (by rw [Hn.out]; omega)
        have z := (n8 k b hb).1
        obtain ⟨bt, hbt⟩ : ∃ t, b.1.2 = t := ⟨_, rfl⟩
        rw [hbt] at z
        have hk9 : (k : Int) < (n : Int) := by omega
        have hk8 : (0 : Int) < (k : Int) + 1 := by omega
        have Hb := hidIn hb
        have Hbt := hidIn hbt
        clear n8 n1 n3 nz n4 hb hbt
        by_cases hgt : at0 < bt
        · go_wp2_with fail
          go_meet
          exact ⟨true, rfl, rfl, hidIn (by simp only [true_iff]; exact ⟨k, b, rfl, Hb.out, by rw [Hbt.out]; exact hgt⟩)⟩
        · go_wp2_with fail
          go_meet
          exact ⟨false, rfl, rfl, hidIn (by
            simp only [Bool.false_eq_true, false_iff]
            rintro ⟨j, a, h1, h2, h3⟩
            obtain rfl : k = j := by omega
            rw [Hb.out] at h2
            cases h2
            rw [Hbt.out] at h3
            omega)⟩
    case rest =>
      obtain ⟨b, rfl, hwc, HBb⟩ := hcut
      rw [hwc]
      clear hwc wc
      cases b with
      | true =>
        obtain ⟨j, a, hj, ha, hgt⟩ := HBb.out.1 rfl
        subst hj
        have HN : Hid (∀ i c, j ≤ i → L[i]? = some c → ¬ tick c.1 ≤ at0) := hidIn (fun i c hi hc => by
          by_cases hij : i = j
          · subst hij
            rw [ha] at hc
            cases hc
            show ¬ a.1.2 ≤ at0
            omega
          · exact HH.out.1 i c (by omega) hc)
        have H2 := hidIn HH.out.2
        clear ha hgt HH HBb x0
        go_wp2_with fail
        go_roundw
        case rel => exact ⟨j, by omega, by go_num, hidIn ⟨HN.out, H2.out.1, H2.out.2⟩⟩
        case measure => simp [intOf]
      | false =>
        have hbef : ∀ c ∈ L.take k, tick c.1 ≤ at0 := by
          cases k with
          | zero => simp
          | succ j =>
            obtain ⟨c0, hc0⟩ : ∃ c, L[j]? = some c := ⟨L[j]'(by rw [Hn.out]; omega), List.getElem?_eq_getElem _⟩
            have hle : tick c0.1 ≤ at0 := by
              refine Decidable.byContradiction fun hgt => ?_
              have := HBb.out.2 ⟨j, c0, rfl, hc0, by show at0 < tick c0.1; omega⟩
              cases this
            intro c hc
            exact ord_before Ho.out hc0 hle hc
        have HBef := hidIn hbef
        have HR9 := HH.out.2.1
        obtain ⟨a, cap, n1, n2, n3, nz, n4⟩ := HR9
        have y0 := cell_of_row _ _ 0 _ _ _ n1
        have y1 := cell_of_row _ _ 1 _ _ _ n1
        have f0 := frozen_new n1 0
        simp at y0 y1
        rw [Hn.out] at y0
        clear x0 hbef
        cases a with
        | none =>
          obtain rfl : cap = 0 := nz rfl
          obtain rfl : n = 0 := by have := Hn.out; omega
          obtain rfl : k = 0 := by omega
          have hLn : L = [] := List.length_eq_zero_iff.1 Hn.out
          have hTk : SlAt t3 3 wr (.slice none 0 0) (L.take 0) := by
            rw [hLn]
            exact ⟨_, _, rfl, by simp, by simp, fun h => by simp at h⟩
          obtain ⟨v1, w1, hrun1, hrow1, hF1⟩ := append_t3 (W := wr) (base := wr.heap.size) (n := 0) (u := .slice none 0 0) (l := []) (World.ownsRow_nil _ _ _ _) rfl hTk (by rw [List.length_take, Hn.out]; omega) (Nat.le_refl _) (.inr rfl)
          have hkl : (L.take 0).length = 0 := by rw [List.length_take, Hn.out]; omega
          rw [List.nil_append, Nat.zero_add, hkl] at hrow1
          obtain ⟨a1, cp1, rfl⟩ := row_shape hrow1
          obtain ⟨W2, hW2⟩ : ∃ W2, w1.alloc (.cells #[.int .u64 at0, .int .i64 (p + 1), .string x] 49) = W2 := ⟨_, rfl⟩
          have b2 : Below w1.heap.size w1 W2 := by rw [← hW2]; exact (Below.refl _ w1).alloc (Nat.le_refl _) _
          have hlit : SlAt t3 3 W2 (.slice (some ⟨w1.heap.size, 0, none⟩) 1 1) [((x, at0), p + 1)] := by
            rw [← hW2]
            exact slAt_block (cs := t3) (sz := 3) (fun _ => rfl) (l := [((x, at0), p + 1)]) (heap_alloc_last w1 (.cells #[.int .u64 at0, .int .i64 (p + 1), .string x] 49)) (by simp)
          obtain ⟨v2, w3, hrun2, hrow2, hF2⟩ := append_t3 (W := W2) (row_below hrow1 b2 (Nat.le_refl _)) hkl hlit (by simp) (by have := hF1.size; have := b2.size; omega) (.inl ⟨_, _, _, rfl⟩)
          rw [List.length_singleton] at hrow2
          obtain ⟨a2, cp2, rfl⟩ := row_shape hrow2
          have HRun1 := hidIn hrun1
          have HRun2 : Hid ((Builtin.append_ #[26, 26] 26 #[.slice a1 0 cp1, .slice (some ⟨w1.heap.size, 0, none⟩) 1 1]).run Try.prog (w1.alloc (.cells #[.int .u64 at0, .int .i64 (p + 1), .string x] 49)) = .ok (.slice a2 (0 + 1) cp2) w3) := hidIn (by rw [hW2]; exact hrun2)
          have hb1 : Below wr.heap.size wr w1 := ⟨hF1.os, hF1.tape, hF1.output, hF1.size, fun j hj => hF1.block j hj (by simp [Value.ownBlock])⟩
          have n1b := (hb1.block mp (block_lt n1)).trans n1
          have y1b := cell_of_row _ _ 1 _ _ _ n1b
          simp at y1b
          have hb3 : Below wr.heap.size wr w3 := (hb1.trans (b2.mono hb1.size)).trans (hF2.below (by have := hb1.size; have := b2.size; omega) (fun j hj => (hrow1.lt j hj).1))
          have n1c := (hb3.block mp (block_lt n1)).trans n1
          have y0c := cell_of_row _ _ 0 _ _ _ n1c
          have f0c := frozen_new n1c 0
          simp at y0c
          rw [Hn.out] at y0c
          clear hW2 hrun1 hrun2 hTk hlit n1b n1c
          have hDr : SlAt t3 3 wr (.slice none 0 0) (L.drop 0) := by
            rw [hLn]
            exact ⟨_, _, rfl, by simp, by simp, fun h => by simp at h⟩
          have HLn := hidIn hLn
          clear hLn
          obtain ⟨v3, w5, hrun3, hrow3, hF3⟩ := append_t3 (W := w3) hrow2 (by rw [List.length_append, hkl, List.length_singleton]) (hDr.keep hb3 (Nat.le_refl _)) (by rw [List.length_drop, Hn.out]; omega) (by have := hb3.size; omega) (.inr rfl)
          rw [show 0 + 1 + (L.drop 0).length = 0 + 1 from by rw [List.length_drop, Hn.out]] at hrow3
          have hins : insL L ((x, at0), p + 1) = L.take 0 ++ [((x, at0), p + 1)] ++ L.drop 0 := by
            rw [insL_at (k := 0) (by rw [Hn.out]; omega) HBef.out (fun c hc => HH.out.1 0 c (Nat.le_refl _) hc)]
            simp
          rw [← hins] at hrow3
          obtain ⟨g3, cp3, rfl, _⟩ := hrow3.form (by omega)
          have HRun3 := hidIn hrun3
          have hb5 : Below wr.heap.size wr w5 := hb3.trans (hF3.below (by have := hb3.size; omega) (fun j hj => (hrow2.lt j hj).1))
          have n1d := (hb5.block mp (block_lt n1)).trans n1
          have y0d := cell_of_row _ _ 0 _ _ _ n1d
          have f0d := frozen_new n1d 0
          simp at y0d
          have hFs : Fr (fun j => j = mp) w5 (w5.setCell ⟨mp, 0, none⟩ (.slice (some ⟨g3, 0, none⟩) (0 + 1) cp3)) := Fr.set (S := fun j => j = mp) (Fr.refl _ w5) (p := ⟨mp, 0, none⟩) rfl _
          have hgl := hrow3.lt g3 rfl
          have hne : g3 ≠ mp := by have := block_lt n1; have := hgl.1; omega
          have hmpw : S mp := m2
          have n1e : (w5.setCell ⟨mp, 0, none⟩ (.slice (some ⟨g3, 0, none⟩) (0 + 1) cp3)).heap[mp]? = some (.cells #[.slice (some ⟨g3, 0, none⟩) (0 + 1) cp3, .int .i64 (p + 1)] 28) := heap_setCell_same _ _ _ _ _ _ n1d
          have y1e := cell_of_row _ _ 1 _ _ _ n1e
          simp at y1e
          have hlen1 : (insL L ((x, at0), p + 1)).length = 0 + 1 := by rw [hins]; simp [Hn.out]
          have hw9 : w.heap.size ≤ wr.heap.size := HH.out.2.2.size
          have HFin : Hid (RfAt (w5.setCell ⟨mp, 0, none⟩ (.slice (some ⟨g3, 0, none⟩) (0 + 1) cp3)) (ext S w (w5.setCell ⟨mp, 0, none⟩ (.slice (some ⟨g3, 0, none⟩) (0 + 1) cp3))) mp (insL L ((x, at0), p + 1)) (p + 1) ∧ Fr S w (w5.setCell ⟨mp, 0, none⟩ (.slice (some ⟨g3, 0, none⟩) (0 + 1) cp3))) := hidIn (by
            refine ⟨⟨some ⟨g3, 0, none⟩, cp3, by rw [hlen1]; exact n1e, .inl hmpw, ?_, fun h => (by cases h), fun _ => ⟨g3, 0, rfl, Nat.lt_of_lt_of_le hgl.2 hFs.size, .inr ⟨by have := hgl.1; omega, Nat.lt_of_lt_of_le hgl.2 hFs.size⟩, hne, fun j y hy => ?_⟩⟩, ?_⟩
            · obtain ⟨a', c', he, _, hc, _⟩ := slAt_of_row (cs := t3) (fun _ => rfl) hrow3 hlen1
              simp at he
              omega
            · obtain ⟨a', c', he, _, _, hc⟩ := slAt_of_row (cs := t3) (fun _ => rfl) hrow3 hlen1
              simp at he
              obtain ⟨rfl, _, rfl⟩ := he
              obtain ⟨b', o', he, _, h8⟩ := hc (by omega)
              simp at he
              obtain ⟨rfl, rfl⟩ := he
              have c := fun j => World.cell?_of_block (a := ⟨g3, j, none⟩) (hFs.block g3 hgl.2 hne)
              exact ⟨(c _).trans (h8 j y hy 0 _ rfl), (c _).trans (h8 j y hy 1 _ rfl), (c _).trans (h8 j y hy 2 _ rfl)⟩
            · have hfr : Fr S w w5 := HH.out.2.2.trans (Fr.of_below hb5)
              exact hfr.trans (hFs.mono (fun j _ e => by rw [e]; exact hmpw)))
          clear hDr hrun3 hrow3 hF3 hins hb5 n1d hFs hgl hne hmpw n1e hlen1 hw9 hrow2 hF2 hrow1 hF1 b2 hb1 hb3 hkl
          go_upto_region 7 with (refine l_append rfl _ _ 26 rfl HRun1.out ?_)
          go_upto_region 8 with (refine l_append rfl _ _ 26 rfl HRun2.out ?_)
          go_wp2_with (refine l_append rfl _ _ 26 rfl HRun3.out ?_)
          go_returns
          exact ⟨rfl, HFin.out⟩
        | some ad =>
          have hkc : (k : Int) ≤ (cap : Int) := by have := Hn.out; omega
          have hkc' : k ≤ cap := by have := Hn.out; omega
          have hnc : n ≤ cap := by have := Hn.out; omega
          have hTk : SlAt t3 3 wr (.slice (some ad) k cap) (L.take k) := by
            have hkl : (L.take k).length = k := by rw [List.length_take, Hn.out]; omega
            refine ⟨_, cap, by rw [hkl], by omega, by omega, fun h0 => ?_⟩
            obtain ⟨bk, o, he, n5, n6, n7, n8⟩ := n4 (by rw [Hn.out]; omega)
            refine ⟨bk, o, he, n5, fun j y hy i u hu => ?_⟩
            rw [List.getElem?_take] at hy
            split at hy
            · obtain ⟨e1, e2, e3⟩ := n8 j y hy
              match i with
              | 0 => simp at hu; subst hu; exact e1
              | 1 => simp at hu; subst hu; exact e2
              | 2 => simp at hu; subst hu; exact e3
              | i + 3 => simp at hu
            · cases hy
          obtain ⟨v1, w1, hrun1, hrow1, hF1⟩ := append_t3 (W := wr) (base := wr.heap.size) (n := 0) (u := .slice none 0 0) (l := []) (World.ownsRow_nil _ _ _ _) rfl hTk (by rw [List.length_take, Hn.out]; omega) (Nat.le_refl _) (.inl ⟨_, _, _, rfl⟩)
          have hkl : (L.take k).length = k := by rw [List.length_take, Hn.out]; omega
          rw [List.nil_append, Nat.zero_add, hkl] at hrow1
          obtain ⟨a1, cp1, rfl⟩ := row_shape hrow1
          obtain ⟨W2, hW2⟩ : ∃ W2, w1.alloc (.cells #[.int .u64 at0, .int .i64 (p + 1), .string x] 49) = W2 := ⟨_, rfl⟩
          have b2 : Below w1.heap.size w1 W2 := by rw [← hW2]; exact (Below.refl _ w1).alloc (Nat.le_refl _) _
          have hlit : SlAt t3 3 W2 (.slice (some ⟨w1.heap.size, 0, none⟩) 1 1) [((x, at0), p + 1)] := by
            rw [← hW2]
            exact slAt_block (cs := t3) (sz := 3) (fun _ => rfl) (l := [((x, at0), p + 1)]) (heap_alloc_last w1 (.cells #[.int .u64 at0, .int .i64 (p + 1), .string x] 49)) (by simp)
          obtain ⟨v2, w3, hrun2, hrow2, hF2⟩ := append_t3 (W := W2) (row_below hrow1 b2 (Nat.le_refl _)) hkl hlit (by simp; omega) (by have := hF1.size; have := b2.size; omega) (.inl ⟨_, _, _, rfl⟩)
          rw [List.length_singleton] at hrow2
          obtain ⟨a2, cp2, rfl⟩ := row_shape hrow2
          have HRun1 := hidIn hrun1
          have HRun2 : Hid ((Builtin.append_ #[26, 26] 26 #[.slice a1 k cp1, .slice (some ⟨w1.heap.size, 0, none⟩) 1 1]).run Try.prog (w1.alloc (.cells #[.int .u64 at0, .int .i64 (p + 1), .string x] 49)) = .ok (.slice a2 (k + 1) cp2) w3) := hidIn (by rw [hW2]; exact hrun2)
          have hb1 : Below wr.heap.size wr w1 := ⟨hF1.os, hF1.tape, hF1.output, hF1.size, fun j hj => hF1.block j hj (by simp [Value.ownBlock])⟩
          have n1b := (hb1.block mp (block_lt n1)).trans n1
          have y1b := cell_of_row _ _ 1 _ _ _ n1b
          simp at y1b
          have hb3 : Below wr.heap.size wr w3 := (hb1.trans (b2.mono hb1.size)).trans (hF2.below (by have := hb1.size; have := b2.size; omega) (fun j hj => (hrow1.lt j hj).1))
          have n1c := (hb3.block mp (block_lt n1)).trans n1
          have y0c := cell_of_row _ _ 0 _ _ _ n1c
          have f0c := frozen_new n1c 0
          simp at y0c
          rw [Hn.out] at y0c
          clear hW2 hrun1 hrun2 hTk hlit n1b n1c
          by_cases hcq : cap = k
          · have hDr : SlAt t3 3 wr (.slice (some ad) (n - k) (cap - k)) (L.drop k) := by
              have hd : L.drop k = [] := List.drop_eq_nil_of_le (by rw [Hn.out]; omega)
              rw [hd, show n - k = 0 from by omega]
              exact ⟨_, _, rfl, by simp, by simp, fun h => by simp at h⟩
            obtain ⟨v3, w5, hrun3, hrow3, hF3⟩ := append_t3 (W := w3) hrow2 (by rw [List.length_append, hkl, List.length_singleton]) (hDr.keep hb3 (Nat.le_refl _)) (by rw [List.length_drop, Hn.out]; omega) (by have := hb3.size; omega) (.inl ⟨_, _, _, rfl⟩)
            rw [show k + 1 + (L.drop k).length = n + 1 from by rw [List.length_drop, Hn.out]; omega] at hrow3
            have hins : insL L ((x, at0), p + 1) = L.take k ++ [((x, at0), p + 1)] ++ L.drop k := by
              rw [insL_at (k := k) (by rw [Hn.out]; omega) HBef.out (fun c hc => HH.out.1 k c (Nat.le_refl _) hc)]
              simp
            rw [← hins] at hrow3
            obtain ⟨g3, cp3, rfl, _⟩ := hrow3.form (by omega)
            have HRun3 := hidIn hrun3
            have hb5 : Below wr.heap.size wr w5 := hb3.trans (hF3.below (by have := hb3.size; omega) (fun j hj => (hrow2.lt j hj).1))
            have n1d := (hb5.block mp (block_lt n1)).trans n1
            have y0d := cell_of_row _ _ 0 _ _ _ n1d
            have f0d := frozen_new n1d 0
            simp at y0d
            have hFs : Fr (fun j => j = mp) w5 (w5.setCell ⟨mp, 0, none⟩ (.slice (some ⟨g3, 0, none⟩) (n + 1) cp3)) := Fr.set (S := fun j => j = mp) (Fr.refl _ w5) (p := ⟨mp, 0, none⟩) rfl _
            have hgl := hrow3.lt g3 rfl
            have hne : g3 ≠ mp := by have := block_lt n1; have := hgl.1; omega
            have hmpw : S mp := m2
            have n1e : (w5.setCell ⟨mp, 0, none⟩ (.slice (some ⟨g3, 0, none⟩) (n + 1) cp3)).heap[mp]? = some (.cells #[.slice (some ⟨g3, 0, none⟩) (n + 1) cp3, .int .i64 (p + 1)] 28) := heap_setCell_same _ _ _ _ _ _ n1d
            have y1e := cell_of_row _ _ 1 _ _ _ n1e
            simp at y1e
            have hlen1 : (insL L ((x, at0), p + 1)).length = n + 1 := by rw [hins]; simp [hkl, Hn.out]; omega
            have hw9 : w.heap.size ≤ wr.heap.size := HH.out.2.2.size
            have HFin : Hid (RfAt (w5.setCell ⟨mp, 0, none⟩ (.slice (some ⟨g3, 0, none⟩) (n + 1) cp3)) (ext S w (w5.setCell ⟨mp, 0, none⟩ (.slice (some ⟨g3, 0, none⟩) (n + 1) cp3))) mp (insL L ((x, at0), p + 1)) (p + 1) ∧ Fr S w (w5.setCell ⟨mp, 0, none⟩ (.slice (some ⟨g3, 0, none⟩) (n + 1) cp3))) := hidIn (by
              refine ⟨⟨some ⟨g3, 0, none⟩, cp3, by rw [hlen1]; exact n1e, .inl hmpw, ?_, fun h => (by cases h), fun _ => ⟨g3, 0, rfl, Nat.lt_of_lt_of_le hgl.2 hFs.size, .inr ⟨by have := hgl.1; omega, Nat.lt_of_lt_of_le hgl.2 hFs.size⟩, hne, fun j y hy => ?_⟩⟩, ?_⟩
              · obtain ⟨a', c', he, _, hc, _⟩ := slAt_of_row (cs := t3) (fun _ => rfl) hrow3 hlen1
                simp at he
                omega
              · obtain ⟨a', c', he, _, _, hc⟩ := slAt_of_row (cs := t3) (fun _ => rfl) hrow3 hlen1
                simp at he
                obtain ⟨rfl, _, rfl⟩ := he
                obtain ⟨b', o', he, _, h8⟩ := hc (by omega)
                simp at he
                obtain ⟨rfl, rfl⟩ := he
                have c := fun j => World.cell?_of_block (a := ⟨g3, j, none⟩) (hFs.block g3 hgl.2 hne)
                exact ⟨(c _).trans (h8 j y hy 0 _ rfl), (c _).trans (h8 j y hy 1 _ rfl), (c _).trans (h8 j y hy 2 _ rfl)⟩
              · have hfr : Fr S w w5 := HH.out.2.2.trans (Fr.of_below hb5)
                exact hfr.trans (hFs.mono (fun j _ e => by rw [e]; exact hmpw)))
            clear hDr hrun3 hrow3 hF3 hins hb5 n1d hFs hgl hne hmpw n1e hlen1 hw9 hrow2 hF2 hrow1 hF1 b2 hb1 hb3 hkl
            go_upto_region 7 with (refine l_append rfl _ _ 26 rfl HRun1.out ?_)
            go_upto_region 8 with (refine l_append rfl _ _ 26 rfl HRun2.out ?_)
            go_wp2_with (refine l_append rfl _ _ 26 rfl HRun3.out ?_)
            go_returns
            exact ⟨rfl, HFin.out⟩
          · have hcq' : ¬ cap - k = 0 := by omega
            have hDr : SlAt t3 3 wr (.slice (some (ad.add (k * 3))) (n - k) (cap - k)) (L.drop k) := by
              have hdl : (L.drop k).length = n - k := by rw [List.length_drop, Hn.out]
              refine ⟨_, _, by rw [hdl], by omega, by omega, fun h0 => ?_⟩
              obtain ⟨bk, o, he, n5, n6, n7, n8⟩ := n4 (by rw [Hn.out]; omega)
              simp at he
              subst he
              refine ⟨bk, o + k * 3, by rw [Addr.add_mid], n5, fun j y hy i u hu => ?_⟩
              rw [List.getElem?_drop] at hy
              obtain ⟨e1, e2, e3⟩ := n8 (k + j) y hy
              have e : o + (k + j) * 3 = o + k * 3 + j * 3 := by omega
              rw [e] at e1 e2 e3
              match i with
              | 0 => simp at hu; subst hu; exact e1
              | 1 => simp at hu; subst hu; exact e2
              | 2 => simp at hu; subst hu; exact e3
              | i + 3 => simp at hu
            obtain ⟨v3, w5, hrun3, hrow3, hF3⟩ := append_t3 (W := w3) hrow2 (by rw [List.length_append, hkl, List.length_singleton]) (hDr.keep hb3 (Nat.le_refl _)) (by rw [List.length_drop, Hn.out]; omega) (by have := hb3.size; omega) (.inl ⟨_, _, _, rfl⟩)
            rw [show k + 1 + (L.drop k).length = n + 1 from by rw [List.length_drop, Hn.out]; omega] at hrow3
            have hins : insL L ((x, at0), p + 1) = L.take k ++ [((x, at0), p + 1)] ++ L.drop k := by
              rw [insL_at (k := k) (by rw [Hn.out]; omega) HBef.out (fun c hc => HH.out.1 k c (Nat.le_refl _) hc)]
              simp
            rw [← hins] at hrow3
            obtain ⟨g3, cp3, rfl, _⟩ := hrow3.form (by omega)
            have HRun3 := hidIn hrun3
            have hb5 : Below wr.heap.size wr w5 := hb3.trans (hF3.below (by have := hb3.size; omega) (fun j hj => (hrow2.lt j hj).1))
            have n1d := (hb5.block mp (block_lt n1)).trans n1
            have y0d := cell_of_row _ _ 0 _ _ _ n1d
            have f0d := frozen_new n1d 0
            simp at y0d
            have hFs : Fr (fun j => j = mp) w5 (w5.setCell ⟨mp, 0, none⟩ (.slice (some ⟨g3, 0, none⟩) (n + 1) cp3)) := Fr.set (S := fun j => j = mp) (Fr.refl _ w5) (p := ⟨mp, 0, none⟩) rfl _
            have hgl := hrow3.lt g3 rfl
            have hne : g3 ≠ mp := by have := block_lt n1; have := hgl.1; omega
            have hmpw : S mp := m2
            have n1e : (w5.setCell ⟨mp, 0, none⟩ (.slice (some ⟨g3, 0, none⟩) (n + 1) cp3)).heap[mp]? = some (.cells #[.slice (some ⟨g3, 0, none⟩) (n + 1) cp3, .int .i64 (p + 1)] 28) := heap_setCell_same _ _ _ _ _ _ n1d
            have y1e := cell_of_row _ _ 1 _ _ _ n1e
            simp at y1e
            have hlen1 : (insL L ((x, at0), p + 1)).length = n + 1 := by rw [hins]; simp [hkl, Hn.out]; omega
            have hw9 : w.heap.size ≤ wr.heap.size := HH.out.2.2.size
            have HFin : Hid (RfAt (w5.setCell ⟨mp, 0, none⟩ (.slice (some ⟨g3, 0, none⟩) (n + 1) cp3)) (ext S w (w5.setCell ⟨mp, 0, none⟩ (.slice (some ⟨g3, 0, none⟩) (n + 1) cp3))) mp (insL L ((x, at0), p + 1)) (p + 1) ∧ Fr S w (w5.setCell ⟨mp, 0, none⟩ (.slice (some ⟨g3, 0, none⟩) (n + 1) cp3))) := hidIn (by
              refine ⟨⟨some ⟨g3, 0, none⟩, cp3, by rw [hlen1]; exact n1e, .inl hmpw, ?_, fun h => (by cases h), fun _ => ⟨g3, 0, rfl, Nat.lt_of_lt_of_le hgl.2 hFs.size, .inr ⟨by have := hgl.1; omega, Nat.lt_of_lt_of_le hgl.2 hFs.size⟩, hne, fun j y hy => ?_⟩⟩, ?_⟩
              · obtain ⟨a', c', he, _, hc, _⟩ := slAt_of_row (cs := t3) (fun _ => rfl) hrow3 hlen1
                simp at he
                omega
              · obtain ⟨a', c', he, _, _, hc⟩ := slAt_of_row (cs := t3) (fun _ => rfl) hrow3 hlen1
                simp at he
                obtain ⟨rfl, _, rfl⟩ := he
                obtain ⟨b', o', he, _, h8⟩ := hc (by omega)
                simp at he
                obtain ⟨rfl, rfl⟩ := he
                have c := fun j => World.cell?_of_block (a := ⟨g3, j, none⟩) (hFs.block g3 hgl.2 hne)
                exact ⟨(c _).trans (h8 j y hy 0 _ rfl), (c _).trans (h8 j y hy 1 _ rfl), (c _).trans (h8 j y hy 2 _ rfl)⟩
              · have hfr : Fr S w w5 := HH.out.2.2.trans (Fr.of_below hb5)
                exact hfr.trans (hFs.mono (fun j _ e => by rw [e]; exact hmpw)))
            clear hDr hrun3 hrow3 hF3 hins hb5 n1d hFs hgl hne hmpw n1e hlen1 hw9 hrow2 hF2 hrow1 hF1 b2 hb1 hb3 hkl
            go_upto_region 7 with (refine l_append rfl _ _ 26 rfl HRun1.out ?_)
            go_upto_region 8 with (refine l_append rfl _ _ 26 rfl HRun2.out ?_)
            go_wp2_with (refine l_append rfl _ _ 26 rfl HRun3.out ?_)
            go_returns
            exact ⟨rfl, HFin.out⟩
end Go.Proofs.Ytaldehgggilmdaa.Ca.S
