/- The document's Join: the walk. -/
import Derived.Test.YtjcbbifjhoemaaaDoorSV
namespace Go.Proofs.YtjcbbifjhoemaaaDoor
open Go.RowKit

/-- What the document's Join answers. -/
def RJoinPost (W : Nat) (ps : List (Int × Nat)) (base : Nat) (e : Ending) (w' : World) : Prop :=
  (∃ st u, jrun W ps = .ok st ∧ e = .returned (.tuple #[u, .int .i64 0]) ∧ w'.ownsRow base 3 1 u (rise W st.1 1024).length ((rise W st.1 1024).map fun z : Int => Value.int .i64 z)) ∨
  (∃ c, jrun W ps = .error c ∧ e = .returned (.tuple #[.slice none 0 0, .int .i64 c]))
theorem rjoin_bad (v : Value) (W : Int) (h : ¬ IsW W) (w : World) :
    Calls Tryd.prog 12 #[v, .int .i64 W] w fun e w' => e = .returned (.tuple #[.slice none 0 0, .int .i64 2]) ∧ Below w.heap.size w w' := by
  go_enter Tryd.func12, Tryd.ntmps12
  go_wp2_with (go_at_call 15; refine (rwidth_no W h _).mono ?_; rintro e w1 ⟨rfl, hw1⟩; rw [hw1]; clear hw1 w1)
  go_ret2
  exact ⟨rfl, Below.refl _ _⟩
/-- No bit from a width on: below it. -/
theorem bl_of_none {N W : Nat} (hN : N < 2 ^ 256) (h : ∀ j, W ≤ j → j < 256 → N.testBit j = false) : bl N ≤ W := by
  apply bl_le.2
  apply Nat.lt_pow_two_of_testBit
  intro j hj
  by_cases h2 : j < 256
  · exact h j hj h2
  · exact Nat.testBit_lt_two_pow (Nat.lt_of_lt_of_le hN (Nat.pow_le_pow_right (by decide) (by omega)))
theorem bl_not {N W j : Nat} (hj : W ≤ j) (h : N.testBit j = true) : ¬ bl N ≤ W := fun hb => by
  rw [Nat.testBit_lt_two_pow (Nat.lt_of_lt_of_le (bl_le.1 hb) (Nat.pow_le_pow_right (by decide) hj))] at h
  cases h
theorem rid_yes {S m W : Nat} (hW : IsW W) (hS : S < 128) (hm : m < W) (hl : S * W + m + 1 ≤ 1024) (w : World) :
    Calls Tryd.prog 26 #[.int .i64 (S : Int), .int .i64 ((m : Int) + 1), .int .i64 (W : Int)] w fun e w' => e = .returned (.tuple #[.int .i64 ((S * W + m + 1 : Nat) : Int), .int .i64 0]) ∧ w' = w := by
  have e : idV S ((m : Int) + 1) W = .tuple #[.int .i64 ((S * W + m + 1 : Nat) : Int), .int .i64 0] := by
    have h3 : (S : Int) * (W : Int) + ((m : Int) + 1) = ((S * W + m + 1 : Nat) : Int) := by rw [Int.natCast_add, Int.natCast_add, Int.natCast_mul]; omega
    unfold idV
    rw [if_pos ⟨hW, ⟨by omega, by omega⟩, by omega, by omega⟩, h3, if_pos (by omega)]
  rw [← e]
  exact rid_any _ _ _ w
theorem rid_long {S m W : Nat} (hW : IsW W) (hS : S < 128) (hm : m < W) (hl : 1024 < S * W + m + 1) (w : World) :
    Calls Tryd.prog 26 #[.int .i64 (S : Int), .int .i64 ((m : Int) + 1), .int .i64 (W : Int)] w fun e w' => e = .returned (.tuple #[.int .i64 0, .int .i64 3]) ∧ w' = w := by
  have e : idV S ((m : Int) + 1) W = .tuple #[.int .i64 0, .int .i64 3] := by
    have h3 : (S : Int) * (W : Int) + ((m : Int) + 1) = ((S * W + m + 1 : Nat) : Int) := by rw [Int.natCast_add, Int.natCast_add, Int.natCast_mul]; omega
    unfold idV
    rw [if_pos ⟨hW, ⟨by omega, by omega⟩, by omega, by omega⟩, h3, if_neg (by omega)]
  rw [← e]
  exact rid_any _ _ _ w
theorem jrun_take {W k : Nat} {ps : List (Int × Nat)} {p : Int × Nat} {st st' : JSt} (hk : ps[k]? = some p) (h1 : jrun W (ps.take k) = .ok st) (h2 : jstep W st p = .ok st') : jrun W (ps.take (k + 1)) = .ok st' := by
  rw [jtake_next hk, jrun_snoc, h1]; exact h2

set_option maxRecDepth 100000 in
set_option maxHeartbeats 4000000 in
theorem rjoin_any {ps : List (Int × Nat)} {v : Value} {W : Nat} (hW : IsW W) {w : World} (hp : PartsAt w v ps) :
    Calls Tryd.prog 12 #[v, .int .i64 W] w fun e w' => RJoinPost W ps w.heap.size e w' ∧ Below w.heap.size w w' := by
  obtain ⟨a, cap, rfl, hlen, ha⟩ := partsG hp
  have Ha := hidIn ha
  clear hp ha
  have hWb := isW_pos hW
  have hmk := make_flags
  go_enter Tryd.func12, Tryd.ntmps12
  go_wp2_with (go_at_call 15; refine (rwidth_yes W hW _).mono ?_; rintro e w1 ⟨rfl, hw1⟩; rw [hw1]; clear hw1 w1)
  have hH0 := hasH_made w 1025
  have b2 : Below w.heap.size w (w.alloc (.cells (madeCells #[.bool false] 1025) 4)) := (Below.refl _ w).alloc (Nat.le_refl _) _
  have hsz0 : w.heap.size + 1 ≤ (w.alloc (.cells (madeCells #[.bool false] 1025) 4)).heap.size := by simp
  clear hmk
  generalize w.alloc (.cells (madeCells #[.bool false] 1025) 4) = W0 at hH0 b2 hsz0 ⊢
  rw [← flg_none W] at hH0
  go_loopw [7] (fun i wr => ∃ (k : Nat) (F : Nat → Nat) (T : Nat → Bool), k ≤ ps.length ∧ i = .int .i64 k ∧ Hid (jrun W (ps.take k) = .ok (F, T)) ∧ HasH wr w.heap.size 1025 (flg W F) ∧ Below w.heap.size w wr ∧ w.heap.size + 1 ≤ wr.heap.size) (fun i _ => ps.length - (intOf i).toNat)
  case atStart => exact ⟨0, none0, fun _ => false, Nat.zero_le _, rfl, hidIn rfl, hH0, b2, hsz0⟩
  case round =>
    obtain ⟨k, F, T, hk, rfl, HJ, hH, hbel, hsz⟩ := hrel
    obtain ⟨wo, hwo⟩ : ∃ wo, wo = wr := ⟨_, rfl⟩
    subst hwo
    by_cases hlt : k < ps.length
    · have hki : (k : Int) < (ps.length : Int) := by omega
      obtain ⟨bk, o, rfl, hp⟩ := Ha.out (by omega)
      obtain ⟨p, hpk⟩ : ∃ p, ps[k]? = some p := ⟨ps[k], List.getElem?_eq_getElem hlt⟩
      have hpN := hidIn (hp.bits p (List.mem_of_getElem? hpk))
      have HP := hidIn hp
      obtain ⟨s, N⟩ := p
      simp only at hpN
      have q0 := (HP.out.keep hbel).r k _ hpk 0 _ rfl
      simp only [Nat.add_zero] at q0
      have Hk := hidIn hpk
      clear hpk hp
      have how := hbel.size
      by_cases hset : 0 ≤ s ∧ s < 128
      · obtain ⟨S, rfl⟩ := Int.eq_ofNat_of_zero_le hset.1
        have hS : S < 128 := by omega
        have hs0 : ¬ (S : Int) < 0 := by omega
        have hs1 : ¬ (128 : Int) ≤ (S : Int) := by omega
        have hw1 : wrap64 ((W : Int) + 1) = (W : Int) + 1 := by unfold wrap64; omega
        go_wp2
        go_loopw [8] (fun n wz => ∃ m : Nat, W ≤ m ∧ m ≤ 256 ∧ n = .int .i64 ((m : Int) + 1) ∧ Hid (∀ j, W ≤ j → j < m → N.testBit j = false) ∧ Below wo.heap.size wo wz) (fun n _ => 257 - (intOf n).toNat)
        case atStart => exact ⟨W, Nat.le_refl _, hWb.2, rfl, hidIn (fun j h1 h2 => by omega), Below.refl _ _⟩
        case round =>
          obtain ⟨m, hm1, hm2, rfl, HB, hbz⟩ := hrel
          by_cases hm3 : m < 256
          · have hpr := (HP.out.keep (hbel.trans (hbz.mono how))).r k _ Hk.out
            have c1 := hpr 1 _ rfl
            have c2 := hpr 2 _ rfl
            have c3 := hpr 3 _ rfl
            have c4 := hpr 4 _ rfl
            simp only at c1 c2 c3 c4
            have hmi : (m : Int) + 1 ≤ 256 := by omega
            clear hpr q0
            cases hb : N.testBit m with
            | true =>
              have Hh := hidIn (fun w' => has4_is hm3 hb w')
              have Hb := hidIn hb
              clear hb
              go_wp2_with (go_at_call 25; refine (Hh.out _).mono ?_; rintro e w3 ⟨rfl, hb3⟩)
              go_ret2
              exact ⟨.inr ⟨2, jrun_stop Hk.out HJ.out (jstep_arg (fun h => bl_not hm1 Hb.out h.2.2)), rfl⟩, hbel.trans ((hbz.trans (hb3.mono hbz.size)).mono how)⟩
            | false =>
              have Hh := hidIn (fun w' => has4_is hm3 hb w')
              have HB2 : Hid (∀ j, W ≤ j → j < m + 1 → N.testBit j = false) := hidIn (fun j h1 h2 => by
                by_cases e : j = m
                · rw [e]; exact hb
                · exact HB.out j h1 (by omega))
              clear hb
              go_wp2_with (go_at_call 25; refine (Hh.out _).mono ?_; rintro e w3 ⟨rfl, hb3⟩)
              go_roundw
              case rel => exact ⟨m + 1, by omega, by omega, by go_num, HB2, hbz.trans (hb3.mono hbz.size)⟩
              case measure => simp [intOf]; omega
          · have hbl := hidIn (bl_of_none hpN.out (fun j h1 h2 => HB.out j h1 (by omega)))
            have hmi : ¬ (m : Int) + 1 ≤ 256 := by omega
            clear HB q0
            go_wp2
            go_loopw [9] (fun i wy => ∃ j : Nat, j ≤ k ∧ i = .int .i64 j ∧ Hid (∀ (j' : Nat) (p' : Int × Nat), j' < j → ps[j']? = some p' → p'.1 ≠ (S : Int)) ∧ Below wo.heap.size wo wy) (fun i _ => k - (intOf i).toNat)
            case atStart => exact ⟨0, Nat.zero_le _, rfl, hidIn (fun j' p' h => by omega), hbz⟩
            case round =>
              obtain ⟨j, hj, rfl, HD, hby⟩ := hrel
              by_cases hjk : j < k
              · obtain ⟨p2, hp2⟩ : ∃ p, ps[j]? = some p := ⟨ps[j], List.getElem?_eq_getElem (by omega)⟩
                have hin := HP.out.keep (hbel.trans (hby.mono how))
                have d0 := hin.r j _ hp2 0 _ rfl
                have g0 := hin.r k _ Hk.out 0 _ rfl
                simp only [Nat.add_zero] at d0 g0
                have H2 := hidIn hp2
                have hji : (j : Int) < (k : Int) := by omega
                have hjl : (j : Int) < (ps.length : Int) := by omega
                obtain ⟨s2, N2⟩ := p2
                clear hin hp2
                simp only at d0
                by_cases he : s2 = (S : Int)
                · subst he
                  have HT : Hid (T S = true) := hidIn (((took_of HJ.out).taken S).2 ⟨_, List.mem_of_getElem? (by rw [List.getElem?_take_of_lt hjk]; exact H2.out), rfl⟩)
                  go_wp2
                  go_region
                  go_wp2
                  go_ret2
                  exact ⟨.inr ⟨7, jrun_stop Hk.out HJ.out (jstep_busy ⟨hset.1, hset.2, hbl.out⟩ (by simpa using HT.out)), rfl⟩, Below.drew (hbel.trans (hby.mono how))⟩
                · have HD2 : Hid (∀ (j' : Nat) (p' : Int × Nat), j' < j + 1 → ps[j']? = some p' → p'.1 ≠ (S : Int)) := hidIn (fun j' p' h1 h2 => by
                    by_cases e : j' = j
                    · rw [e, H2.out] at h2
                      cases h2
                      exact he
                    · exact HD.out j' p' (by omega) h2)
                  go_wp2
                  go_region
                  go_wp2
                  go_roundw
                  case rel => exact ⟨j + 1, by omega, by go_num, HD2, Below.drew hby⟩
                  case measure => simp [intOf]; omega
              · have hji : ¬ (j : Int) < (k : Int) := by omega
                have HT : Hid (T S = false) := hidIn (by
                  cases hT : T S with
                  | false => rfl
                  | true =>
                    obtain ⟨p', hp', e⟩ := ((took_of HJ.out).taken S).1 hT
                    obtain ⟨j', hj', e2⟩ := List.mem_iff_getElem?.1 hp' |>.imp fun j' h => (⟨(List.getElem?_eq_some_iff.1 h).1, h⟩ : j' < (ps.take k).length ∧ _)
                    rw [List.length_take] at hj'
                    rw [List.getElem?_take_of_lt (by omega)] at e2
                    exact absurd e (HD.out j' p' (by omega) e2))
                have HF : Hid (F S = 0) := hidIn ((took_of HJ.out).off S HT.out)
                have hH4 : HasH wr w.heap.size 1025 (flg W (upd F S (N % 2 ^ 0))) := by
                  rw [Nat.pow_zero, Nat.mod_one, upd_same HF.out]
                  exact hH.keep hby (by omega)
                have hb4 := hbel.trans (hby.mono how)
                have hs4 : w.heap.size + 1 ≤ wr.heap.size := Nat.le_trans hsz hby.size
                clear HD hby hbz
                go_wp2
                go_loopw [10] (fun n wx => ∃ q : Nat, q ≤ W ∧ n = .int .i64 ((q : Int) + 1) ∧ HasH wx w.heap.size 1025 (flg W (upd F S (N % 2 ^ q))) ∧ Hid (∀ j, j < q → N.testBit j = true → S * W + j + 1 ≤ 1024) ∧ Below w.heap.size w wx ∧ w.heap.size + 1 ≤ wx.heap.size) (fun n _ => W + 1 - (intOf n).toNat)
                case atStart => exact ⟨0, Nat.zero_le _, rfl, hH4, hidIn (fun j h => by omega), hb4, hs4⟩
                case round =>
                  obtain ⟨q, hq, rfl, hHx, HL, hbx, hsx⟩ := hrel
                  by_cases hqW : q < W
                  · have hpr := (HP.out.keep hbx).r k _ Hk.out
                    have c0 := hpr 0 _ rfl
                    have c1 := hpr 1 _ rfl
                    have c2 := hpr 2 _ rfl
                    have c3 := hpr 3 _ rfl
                    have c4 := hpr 4 _ rfl
                    simp only [Nat.add_zero] at c0 c1 c2 c3 c4
                    have hqi : (q : Int) + 1 ≤ (W : Int) := by omega
                    clear hpr
                    cases hb : N.testBit q with
                    | false =>
                      have Hh := hidIn (fun w' => has4_is (N := N) (show q < 256 by omega) hb w')
                      have HN := hidIn (mod_next_no hb)
                      have HL2 : Hid (∀ j, j < q + 1 → N.testBit j = true → S * W + j + 1 ≤ 1024) := hidIn (fun j h1 h2 => by
                        by_cases e : j = q
                        · rw [e, hb] at h2; cases h2
                        · exact HL.out j (by omega) h2)
                      clear hb
                      go_wp2_with (go_at_call 25; refine (Hh.out _).mono ?_; rintro e w3 ⟨rfl, hb3⟩)
                      go_roundw
                      case rel => exact ⟨q + 1, by omega, by go_num, by rw [HN.out]; exact hHx.keep hb3 hHx.lt, HL2, hbx.trans (hb3.mono hbx.size), Nat.le_trans hsx hb3.size⟩
                      case measure => simp [intOf]; omega
                    | true =>
                      have Hh := hidIn (fun w' => has4_is (N := N) (show q < 256 by omega) hb w')
                      have Hb := hidIn hb
                      by_cases hl : S * W + q + 1 ≤ 1024
                      · have HY := hidIn (flg_yes (S := S) (F := F) hqW hb)
                        have HL2 : Hid (∀ j, j < q + 1 → N.testBit j = true → S * W + j + 1 ≤ 1024) := hidIn (fun j h1 h2 => by
                          by_cases e : j = q
                          · rw [e]; exact hl
                          · exact HL.out j (by omega) h2)
                        have Hid1 := hidIn (fun w' => rid_yes hW hS hqW hl w')
                        clear hb
                        generalize S * W + q + 1 = x at hl HY Hid1
                        have hx1 : (x : Int) < 1025 := by omega
                        have hx2 : x < 1025 := by omega
                        go_wp2_with (first
                          | (go_at_call 25; refine (Hh.out _).mono ?_; rintro e w3 ⟨rfl, hb3⟩; have hH3 := hHx.keep hb3 hHx.lt; have cx := hH3.c x hx2; have fx := hH3.f x hx2; have c0' := (hb3.cell (p := ⟨bk, o + k * 5, none⟩) (Nat.lt_of_lt_of_le HP.out.lt hbx.size)).trans c0)
                          | (go_at_call 26; refine (Hid1.out _).mono ?_; rintro e w4 ⟨rfl, hw4⟩; rw [hw4]; clear hw4 w4))
                        go_roundw
                        case rel => exact ⟨q + 1, by omega, by go_num, by rw [← HY.out]; exact hH3.set x hx2, HL2, (hbx.trans (hb3.mono hbx.size)).setCell (p := ⟨w.heap.size, x, none⟩) (Nat.le_refl _) _, by simp; have := hb3.size; omega⟩
                        case measure => simp [intOf]; omega
                      · have Hid1 := hidIn (fun w' => rid_long hW hS hqW (show 1024 < S * W + q + 1 by omega) w')
                        clear hb
                        go_wp2_with (first
                          | (go_at_call 25; refine (Hh.out _).mono ?_; rintro e w3 ⟨rfl, hb3⟩; have c0' := (hb3.cell (p := ⟨bk, o + k * 5, none⟩) (Nat.lt_of_lt_of_le HP.out.lt hbx.size)).trans c0)
                          | (go_at_call 26; refine (Hid1.out _).mono ?_; rintro e w4 ⟨rfl, hw4⟩; rw [hw4]; clear hw4 w4))
                        go_ret2
                        exact ⟨.inr ⟨3, jrun_stop Hk.out HJ.out (jstep_long (p := ((S : Int), N)) ⟨hset.1, hset.2, hbl.out⟩ (by simpa using HT.out) ⟨q, mem_lst.2 ⟨by omega, Hb.out⟩, by simp; omega⟩), rfl⟩, hbx.trans (hb3.mono hbx.size)⟩
                  · have hqe : q = W := by omega
                    have hqi : ¬ (q : Int) + 1 ≤ (W : Int) := by omega
                    have hHW : HasH wr w.heap.size 1025 (flg W (upd F S N)) := by
                      rw [hqe, Nat.mod_eq_of_lt (bl_le.1 hbl.out)] at hHx
                      exact hHx
                    have HN : Hid (jrun W (ps.take (k + 1)) = .ok (upd F S N, updT T S)) := hidIn (jrun_take Hk.out HJ.out (jstep_ok (p := ((S : Int), N)) (st := (F, T)) ⟨hset.1, hset.2, hbl.out⟩ (by simpa using HT.out) (fun m hm => by
                      have h2 := lt_of_lst hbl.out hm
                      have := HL.out m (by omega) (mem_lst.1 hm).2
                      simpa using this)))
                    clear hHx hqe HL
                    go_wp2
                    go_roundw
                    case rel => exact ⟨k + 1, upd F S N, updT T S, by omega, by go_num, HN, hHW, hbx, hsx⟩
                    case measure => simp [intOf]; omega
      · by_cases hneg : s < 0
        · go_wp2
          go_ret2
          exact ⟨.inr ⟨2, jrun_stop Hk.out HJ.out (jstep_arg (fun h => hset ⟨h.1, h.2.1⟩)), rfl⟩, hbel⟩
        · have hs1 : (128 : Int) ≤ s := by omega
          go_wp2
          go_ret2
          exact ⟨.inr ⟨2, jrun_stop Hk.out HJ.out (jstep_arg (fun h => hset ⟨h.1, h.2.1⟩)), rfl⟩, hbel⟩
    · have hke : k = ps.length := by omega
      have HJ2 : Hid (jrun W ps = .ok (F, T)) := hidIn (by have := HJ.out; rw [hke, List.take_length] at this; exact this)
      have hle : ¬ ((k : Int) < (ps.length : Int)) := by omega
      clear hke
      go_wp2
      go_loopw [13, 14] (fun u id wx => ∃ x : Nat, x ≤ 1024 ∧ id = .int .i64 ((x : Int) + 1) ∧ wx.ownsRow (w.heap.size + 1) 3 1 u (rise W F x).length ((rise W F x).map fun z : Int => Value.int .i64 z) ∧ HasH wx w.heap.size 1025 (flg W F) ∧ Below w.heap.size w wx ∧ w.heap.size + 1 ≤ wx.heap.size) (fun _ id _ => 1025 - (intOf id).toNat)
      case atStart => exact ⟨0, by omega, rfl, World.ownsRow_nil _ _ _ _, hH, hbel, hsz⟩
      case round =>
        obtain ⟨x, hx, rfl, hr, hHx, hbx, hsx⟩ := hrel
        obtain ⟨ua, ucap, rfl⟩ := row_shape hr
        by_cases hx2 : x < 1024
        · have hflag := hHx.c (x + 1) (by omega)
          have hx3 : (x : Int) + 1 ≤ 1024 := by omega
          have hx4 : (x : Int) + 1 < 1025 := by omega
          have hx5 : ((x : Int) + 1).toNat = x + 1 := by omega
          cases hP : flg W F (x + 1) with
          | false =>
            rw [hP] at hflag
            have HC := hidIn (rise_no hP)
            clear hP
            go_wp2
            go_roundw
            case rel => exact ⟨x + 1, by omega, by go_num, by rw [HC.out]; exact hr, hHx, hbx, hsx⟩
            case measure => simp [intOf]; omega
          | true =>
            rw [hP] at hflag
            have HC := hidIn (rise_yes hP)
            clear hP
            have hrl := rise_len_le W F x
            obtain ⟨g, gcap, w6, hrun, hown, _, hs6, _, hb6⟩ := append_int (B := 0) (c := w.heap.size) hr (x := .int .i64 ((x : Int) + 1)) rfl (by omega) hsx (fun g hg => .inr (by have := (hr.lt g hg).1; omega)) (by omega)
            have HR := hidIn hrun
            clear hrun
            go_wp2_with (refine l_append rfl _ _ 22 rfl HR.out ?_)
            go_roundw
            case rel => exact ⟨x + 1, by omega, by go_num, by rw [HC.out, List.length_append, List.map_append]; exact hown, hHx.keep hb6 (by omega), hbx.trans (hb6.mono (by omega)), by omega⟩
            case measure => simp [intOf]; omega
        · have hxe : x = 1024 := by omega
          have hx3 : ¬ (x : Int) + 1 ≤ 1024 := by omega
          subst hxe
          go_wp2
          go_ret2
          exact ⟨.inl ⟨(F, T), _, HJ2.out, rfl, row_less hr (by omega)⟩, hbx⟩
end Go.Proofs.YtjcbbifjhoemaaaDoor
