/- Of the claims that have a router the least one. -/
import Derived.Test.YtgpinecfmhenkaaDoorU8
import Derived.Test.YtgpinecfmhenkaaDoorU5F
import Derived.Test.YtgpinecfmhenkaaDoorShelf2
namespace Go.Proofs.YtgpinecfmhenkaaDoor
open Go.RowKit

theorem ccontains_any {l : List Int} {v : Value} (x : Int) {w : World} (h : SlAt ic 1 w v l) : Calls Tryd.prog 38 #[v, .int .i64 x] w fun e w' => e = .returned (.bool (l.contains x)) ∧ w' = w := by
  obtain ⟨a, cap, rfl, h0, _, hc⟩ := h.ints
  rcases Nat.eq_zero_or_pos l.length with hz | hz
  · have hl : l = [] := List.length_eq_zero_iff.1 hz
    subst hl
    exact Tryd.slices_Contains_int_empty a cap x w
  · obtain ⟨bk, o, rfl, _, hc2⟩ := hc hz
    refine (Tryd.slices_Contains_int bk o l.length cap l x w (Nat.le_refl _) h0 (fun j hj => ?_)).mono ?_
    · rw [hc2 j l[j] (List.getElem?_eq_getElem hj)]
      simp [List.getD_eq_getElem?_getD, List.getElem?_eq_getElem hj]
    · rintro e w' ⟨rfl, rfl⟩
      rw [List.take_length]
      exact ⟨rfl, rfl⟩
/-- One claim more is looked at. -/
def lstQ (acc : Option Cl) (i : Int) : Bool := match acc with | none => true | some x => decide (i < x.1)
def lstC (self : Int) (acc : Option Cl) (c : Cl) : Option Cl := if (c.2.1.contains self && lstQ acc c.1) = true then some c else acc
theorem set2 {w : World} {b : Nat} {u v : Value} {t : TypeId} (h : w.heap[b]? = some (.cells #[u, v] t)) (u' v' : Value) : ((w.setCell ⟨b, 0, none⟩ u').setCell ⟨b, 1, none⟩ v').heap[b]? = some (.cells #[u', v'] t) := by
  have h1 := heap_setCell_same w b 0 _ _ u' h
  simp at h1
  have h2 := heap_setCell_same _ b 1 _ _ v' h1
  simpa using h2
def lstO (L : List Cl) (self : Int) : Option Cl := L.foldl (lstC self) none
theorem lstO_snoc (L : List Cl) (c : Cl) (self : Int) : lstO (L ++ [c]) self = lstC self (lstO L self) c := by unfold lstO; rw [List.foldl_append]; rfl
theorem lstO_mem {self : Int} : ∀ (L : List Cl) (acc : Option Cl) (x : Cl), L.foldl (lstC self) acc = some x → acc = some x ∨ (x ∈ L ∧ x.2.1.contains self = true)
  | [], acc, x, h => .inl h
  | c :: L, acc, x, h => by
    rw [List.foldl_cons] at h
    rcases lstO_mem L _ x h with h1 | ⟨h1, h2⟩
    · unfold lstC at h1
      by_cases hc : (c.2.1.contains self && lstQ acc c.1) = true
      · rw [if_pos hc] at h1
        simp only [Option.some.injEq] at h1
        subst h1
        simp only [Bool.and_eq_true] at hc
        exact .inr ⟨List.mem_cons_self, hc.1⟩
      · rw [if_neg hc] at h1
        exact .inl h1
    · exact .inr ⟨List.mem_cons_of_mem _ h1, h2⟩
theorem lstO_has {L : List Cl} {self : Int} {x : Cl} (h : lstO L self = some x) : x ∈ L ∧ x.2.1.contains self = true := by
  rcases lstO_mem L none x h with h | h
  · cases h
  · exact h
/-- The cells of the least one so far. -/
def lsV (acc : Option Cl) : Int × Value := match acc with | none => (0, nilS) | some x => (x.1, x.2.2)
def lsN (acc : Option Cl) : Nat := match acc with | none => 0 | some x => x.2.1.length
set_option maxRecDepth 100000 in
set_option maxHeartbeats 4000000 in
theorem leastOf_any {L : List Cl} {v : Value} {self : Int} {w : World} (h : ClsAt w v L) :
    Calls Tryd.prog 22 #[v, .int .i64 self] w fun e w' => e = .returned (.agg #[.int .i64 (lsV (lstO L self)).1, (lsV (lstO L self)).2]) ∧ Below w.heap.size w w' := by
  obtain ⟨a, cap, rfl, hn, _, hat⟩ := h.r.clms
  have Ha := hidIn hat
  have HA := hidIn h.a
  obtain ⟨W0, hW0⟩ : ∃ W0, (w.alloc (.cells #[.int .i64 0, .slice none 0 0] 31)).alloc (.cells #[.int .i64 0, .slice none 0 0] 31) = W0 := ⟨_, rfl⟩
  have HI0 : Hid (W0.heap[w.heap.size]? = some (.cells #[.int .i64 0, .slice none 0 0] 31) ∧ W0.heap[w.heap.size + 1]? = some (.cells #[.int .i64 (lsV none).1, (lsV none).2] 31) ∧ Below w.heap.size w W0) := hidIn (by
    rw [← hW0]
    refine ⟨?_, ?_, ((Below.refl _ w).alloc (Nat.le_refl _) _).alloc (by simp) _⟩
    · rw [Below.heap_alloc _ _ _ (by simp)]
      exact heap_alloc_last w _
    · have := heap_alloc_last (w.alloc (.cells #[.int .i64 0, .slice none 0 0] 31)) (.cells #[.int .i64 0, .slice none 0 0] 31)
      rw [World.size_alloc] at this
      exact this)
  have HW := hidIn hW0
  obtain ⟨b0, hb0⟩ : ∃ b0, w.heap.size = b0 := ⟨_, rfl⟩
  have Hb0 := hidIn hb0
  rw [hb0] at HI0
  clear hat h hW0
  go_enter Tryd.func22, Tryd.ntmps22
  go_upto_region 2 with fail
  rw [HW.out]
  clear HW hb0
  go_wp2_with fail
  go_loopw [10] (fun i wr => ∃ k : Nat, k ≤ L.length ∧ i = .int .i64 k ∧ Hid (wr.heap[b0]? = some (.cells #[.int .i64 0, .slice none 0 0] 31) ∧ wr.heap[b0 + 1]? = some (.cells #[.int .i64 (lsV (lstO (L.take k) self)).1, (lsV (lstO (L.take k) self)).2] 31) ∧ Below b0 w wr)) (fun i _ => L.length - (intOf i).toNat)
  case atStart => exact ⟨0, Nat.zero_le _, rfl, hidIn HI0.out⟩
  case round =>
    clear HI0
    obtain ⟨k, hk, rfl, HR⟩ := hrel
    obtain ⟨h0, h1, hb⟩ := HR.out
    clear HR
    by_cases hlt : k < L.length
    · obtain ⟨bk, o, rfl, hbk, hcell⟩ := Ha.out (by omega)
      obtain ⟨⟨x, xs, xv⟩, hz⟩ : ∃ z, L[k]? = some z := ⟨L[k], List.getElem?_eq_getElem hlt⟩
      obtain ⟨q0, q1⟩ := hcell k _ hz
      obtain ⟨hxs, hxn⟩ := HA.out _ (List.mem_of_getElem? hz)
      simp only at q0 q1 hxs hxn
      have hbk' : bk < b0 := by have := Hb0.out; omega
      have c0 := (hb.cell (p := ⟨bk, o + k * 2, none⟩) hbk').trans q0
      have c1 := (hb.cell (p := ⟨bk, o + k * 2 + 1, none⟩) hbk').trans q1
      obtain ⟨xa, xc, hxv⟩ : ∃ xa xc, xv = .slice xa xs.length xc := by
        obtain ⟨xa, xc, h, _⟩ := hxs
        exact ⟨xa, xc, h⟩
      subst hxv
      obtain ⟨ac, hac⟩ : ∃ ac, lstO (L.take k) self = ac := ⟨_, rfl⟩
      have HS : Hid (lstO (L.take (k + 1)) self = lstC self ac (x, xs, .slice xa xs.length xc)) := hidIn (by rw [take_snoc hz, lstO_snoc, hac])
      have hacm : ∀ y, ac = some y → y ∈ L ∧ y.2.1.contains self = true := fun y hy => by
        rw [← hac] at hy
        exact ⟨List.mem_of_mem_take (lstO_has hy).1, (lstO_has hy).2⟩
      have hsh : ∃ la lc, (lsV ac).2 = .slice la (lsN ac) lc := by
        cases ac with
        | none => exact ⟨none, 0, rfl⟩
        | some y =>
          obtain ⟨la, lc, h, _⟩ := (HA.out y (hacm y rfl).1).1
          exact ⟨la, lc, h⟩
      obtain ⟨la, lc, hlv⟩ := hsh
      rw [hac, hlv] at h1
      obtain ⟨W1, hW1⟩ : ∃ W1, wr.alloc (.cells #[.int .i64 x, .slice xa xs.length xc] 31) = W1 := ⟨_, rfl⟩
      have b1 : Below wr.heap.size wr W1 := by rw [← hW1]; exact (Below.refl _ wr).alloc (Nat.le_refl _) _
      have hX := heap_alloc_last wr (.cells #[.int .i64 x, .slice xa xs.length xc] 31)
      rw [hW1] at hX
      obtain ⟨br, hbr⟩ : ∃ br, wr.heap.size = br := ⟨_, rfl⟩
      rw [hbr] at hX
      have hsz := block_lt h1
      have h01 := (b1.block _ (block_lt h0)).trans h0
      have h11 := (b1.block _ hsz).trans h1
      rw [hbr] at hsz
      have x0 := cell_of_row _ _ 0 _ _ _ hX
      have x1 := cell_of_row _ _ 1 _ _ _ hX
      have y0 := cell_of_row _ _ 0 _ _ _ h11
      have y1 := cell_of_row _ _ 1 _ _ _ h11
      have yf0 := frozen_new h11 0
      have yf1 := frozen_new h11 1
      simp at x0 x1 y0 y1
      have hB1 : Below b0 w W1 := hb.trans (b1.mono (by have := hb.size; omega))
      have HCo := hidIn (ccontains_any self (hxs.keep hB1 (by have := Hb0.out; omega)))
      have HB1 := hidIn hB1
      have HW := hidIn hW1
      have hki : (k : Int) < (L.length : Int) := by omega
      have H01 := hidIn h01
      have H11 := hidIn h11
      have HX := hidIn hX
      have Hlv := hidIn hlv
      have Hac := hidIn hacm
      clear hcell q0 q1 hxs hxn hX b1 hB1 hW1 hz hb h0 h1 h01 h11 hlv hacm hac
      go_upto_region 5 with fail
      rw [HW.out]
      clear HW c0 c1 hbr
      go_wp2_with fail
      refine HCo.out.mono ?_
      rintro e w2 ⟨rfl, hw2⟩
      rw [hw2]
      clear hw2 w2 HCo
      obtain ⟨bC, hbC⟩ : ∃ bC, xs.contains self = bC := ⟨_, rfl⟩
      rw [hbC]
      have HbC := hidIn hbC
      clear hbC
      have HP : Hid (W1.heap[b0 + 1]? = some (.cells #[.int .i64 (lsV ac).1, (lsV ac).2] 31)) := hidIn (by rw [Hlv.out]; exact H11.out)
      cases bC
      · have HE : Hid (xs.contains self = false) := HbC
        go_wp2_with fail
        go_roundw
        case rel => exact ⟨k + 1, by omega, by go_num, hidIn ⟨H01.out, by rw [HS.out]; unfold lstC; rw [if_neg (by rw [HE.out]; simp)]; exact HP.out, HB1.out⟩⟩
        case measure => simp [intOf]; omega
      · cases ac with
        | none =>
          simp only [lsV, lsN] at y0 y1
          have HF := hidIn (set2 H11.out (.int .i64 x) (.slice xa xs.length xc))
          have HF0 : Hid (((W1.setCell ⟨b0 + 1, 0, none⟩ (.int .i64 x)).setCell ⟨b0 + 1, 1, none⟩ (.slice xa xs.length xc)).heap[b0]? = some (.cells #[.int .i64 0, .slice none 0 0] 31)) := hidIn (((((Fr.refl (fun j => j = b0 + 1) W1).set (p := ⟨b0 + 1, 0, none⟩) rfl (.int .i64 x)).set (p := ⟨b0 + 1, 1, none⟩) rfl (.slice xa xs.length xc)).block b0 (block_lt H01.out) (by omega)).trans H01.out)
          have HFB : Hid (Below b0 w ((W1.setCell ⟨b0 + 1, 0, none⟩ (.int .i64 x)).setCell ⟨b0 + 1, 1, none⟩ (.slice xa xs.length xc))) := hidIn ((HB1.out.setCell (p := ⟨b0 + 1, 0, none⟩) (Nat.le_succ _) _).setCell (p := ⟨b0 + 1, 1, none⟩) (Nat.le_succ _) _)
          obtain ⟨W2, hW2⟩ : ∃ W2, (W1.setCell ⟨b0 + 1, 0, none⟩ (.int .i64 x)).setCell ⟨b0 + 1, 1, none⟩ (.slice xa xs.length xc) = W2 := ⟨_, rfl⟩
          rw [hW2] at HF HF0 HFB
          have HW2 := hidIn hW2
          clear hW2
          go_wp2_with fail
          rw [HW2.out]
          go_roundw
          case rel => exact ⟨k + 1, by omega, by go_num, hidIn ⟨HF0.out, by rw [HS.out]; unfold lstC; rw [if_pos (by rw [HbC.out]; rfl)]; exact HF.out, HFB.out⟩⟩
          case measure => simp [intOf]; omega
        | some y =>
          have hy := Hac.out y rfl
          have hyl : 0 < y.2.1.length := by
            cases hyy : y.2.1 with
            | nil => rw [hyy] at hy; simp at hy
            | cons p q => simp
          simp only [lsV, lsN] at y0 y1
          obtain ⟨yn, hyn⟩ : ∃ yn, y.2.1.length = yn := ⟨_, rfl⟩
          obtain ⟨yi, hyi⟩ : ∃ yi, y.1 = yi := ⟨_, rfl⟩
          rw [hyn] at y1 hyl
          rw [hyi] at y0
          have Hyi := hidIn hyi
          have hyz : ¬ ((yn : Int) = 0) := by omega
          clear hyn hyi hy
          by_cases hlt2 : x < yi
          · have HQ : Hid (lstQ (some y) x = true) := hidIn (by unfold lstQ; simp only; rw [Hyi.out]; simpa using hlt2)
            have HF := hidIn (set2 H11.out (.int .i64 x) (.slice xa xs.length xc))
            have HF0 : Hid (((W1.setCell ⟨b0 + 1, 0, none⟩ (.int .i64 x)).setCell ⟨b0 + 1, 1, none⟩ (.slice xa xs.length xc)).heap[b0]? = some (.cells #[.int .i64 0, .slice none 0 0] 31)) := hidIn (((((Fr.refl (fun j => j = b0 + 1) W1).set (p := ⟨b0 + 1, 0, none⟩) rfl (.int .i64 x)).set (p := ⟨b0 + 1, 1, none⟩) rfl (.slice xa xs.length xc)).block b0 (block_lt H01.out) (by omega)).trans H01.out)
            have HFB : Hid (Below b0 w ((W1.setCell ⟨b0 + 1, 0, none⟩ (.int .i64 x)).setCell ⟨b0 + 1, 1, none⟩ (.slice xa xs.length xc))) := hidIn ((HB1.out.setCell (p := ⟨b0 + 1, 0, none⟩) (Nat.le_succ _) _).setCell (p := ⟨b0 + 1, 1, none⟩) (Nat.le_succ _) _)
            obtain ⟨W2, hW2⟩ : ∃ W2, (W1.setCell ⟨b0 + 1, 0, none⟩ (.int .i64 x)).setCell ⟨b0 + 1, 1, none⟩ (.slice xa xs.length xc) = W2 := ⟨_, rfl⟩
            rw [hW2] at HF HF0 HFB
            have HW2 := hidIn hW2
            clear hW2
            go_wp2_with fail
            rw [HW2.out]
            go_roundw
            case rel => exact ⟨k + 1, by omega, by go_num, hidIn ⟨HF0.out, by rw [HS.out]; unfold lstC; rw [if_pos (by rw [HbC.out, HQ.out]; rfl)]; exact HF.out, HFB.out⟩⟩
            case measure => simp [intOf]; omega
          · have HQ : Hid (lstQ (some y) x = false) := hidIn (by unfold lstQ; simp only; rw [Hyi.out]; simpa using hlt2)
            have hd : decide (x < yi) = false := by simpa using hlt2
            clear hlt2
            go_wp2_with fail
            go_roundw
            case rel => exact ⟨k + 1, by omega, by go_num, hidIn ⟨H01.out, by rw [HS.out]; unfold lstC; rw [if_neg (by rw [HbC.out, HQ.out]; simp)]; exact HP.out, HB1.out⟩⟩
            case measure => simp [intOf]; omega
    · have hki : ¬ ((k : Int) < (L.length : Int)) := by omega
      rw [List.take_of_length_le (by omega)] at h1
      obtain ⟨li, lv, hlv⟩ : ∃ li lv, lsV (lstO L self) = (li, lv) := ⟨_, _, rfl⟩
      rw [hlv] at h1
      have hc : ∃ la ln lc, lv = .slice la ln lc := by
        cases hac : lstO L self with
        | none =>
          rw [hac] at hlv
          simp only [lsV, Prod.mk.injEq] at hlv
          exact ⟨none, 0, 0, hlv.2.symm⟩
        | some y =>
          rw [hac] at hlv
          simp only [lsV, Prod.mk.injEq] at hlv
          obtain ⟨la, lc, h, _⟩ := (HA.out y (lstO_has hac).1).1
          exact ⟨la, _, lc, by rw [← hlv.2, h]⟩
      obtain ⟨la, ln, lc, rfl⟩ := hc
      have y0 := cell_of_row _ _ 0 _ _ _ h1
      have y1 := cell_of_row _ _ 1 _ _ _ h1
      have z0 := cell_of_row _ _ 0 _ _ _ h0
      have z1 := cell_of_row _ _ 1 _ _ _ h0
      have zf0 := frozen_new h0 0
      have zf1 := frozen_new h0 1
      simp at y0 y1 z0 z1
      have hset := set2 h0 (.int .i64 li) (.slice la ln lc)
      have HFB : Hid (Below b0 w ((wr.setCell ⟨b0, 0, none⟩ (.int .i64 li)).setCell ⟨b0, 1, none⟩ (.slice la ln lc))) := hidIn ((hb.setCell (p := ⟨b0, 0, none⟩) (Nat.le_refl _) _).setCell (p := ⟨b0, 1, none⟩) (Nat.le_refl _) _)
      have e0 := cell_of_row _ _ 0 _ _ _ hset
      have e1 := cell_of_row _ _ 1 _ _ _ hset
      simp at e0 e1
      have HLV := hidIn hlv
      clear h0 h1 hb hset hlv
      go_wp2_with fail
      generalize (wr.setCell ⟨b0, 0, none⟩ (.int .i64 li)).setCell ⟨b0, 1, none⟩ (.slice la ln lc) = V at *
      refine bodyPost_ret (v := .agg #[.int .i64 li, .slice la ln lc]) (by simp [results, Tryd.results22, asAddr, Result.andThen, go_sem, e0, e1]) rfl ⟨by rw [HLV.out], by rw [Hb0.out]; exact HFB.out⟩
end Go.Proofs.YtgpinecfmhenkaaDoor
