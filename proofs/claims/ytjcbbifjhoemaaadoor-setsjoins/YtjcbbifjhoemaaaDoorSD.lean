/- sets.Join: the walk. -/
import Derived.Test.YtjcbbifjhoemaaaDoorSC
namespace Go.Proofs.YtjcbbifjhoemaaaDoor
open Go.RowKit

/-- A part in a block. -/
structure HasPt (w : World) (b : Nat) (p : Int × Nat) : Prop where
  c0 : w.cell? ⟨b, 0, none⟩ = some (.int .i64 p.1)
  c1 : w.cell? ⟨b, 1, none⟩ = some (.int .u64 (wd p.2 0))
  c2 : w.cell? ⟨b, 2, none⟩ = some (.int .u64 (wd p.2 1))
  c3 : w.cell? ⟨b, 3, none⟩ = some (.int .u64 (wd p.2 2))
  c4 : w.cell? ⟨b, 4, none⟩ = some (.int .u64 (wd p.2 3))
  lt : b < w.heap.size
theorem HasPt.keep {w w' : World} {b B : Nat} {p : Int × Nat} (h : HasPt w b p) (hb : Below B w w') (hB : b < B) : HasPt w' b p :=
  ⟨(hb.cell (p := ⟨b, 0, none⟩) hB).trans h.c0, (hb.cell (p := ⟨b, 1, none⟩) hB).trans h.c1, (hb.cell (p := ⟨b, 2, none⟩) hB).trans h.c2, (hb.cell (p := ⟨b, 3, none⟩) hB).trans h.c3, (hb.cell (p := ⟨b, 4, none⟩) hB).trans h.c4, Nat.lt_of_lt_of_le h.lt hb.size⟩
theorem hasPt_new (w : World) (p : Int × Nat) : HasPt (w.alloc (.cells (prt p).toArray 37)) w.heap.size p := by
  have hc := fun j => cell_of_row _ _ j _ _ _ (heap_alloc_last w (.cells (prt p).toArray 37))
  exact ⟨hc 0, hc 1, hc 2, hc 3, hc 4, by simp⟩
abbrev obT : Obj := .cells (tl noneT).toArray 54
theorem jstep_arg {W : Nat} {st : JSt} {p : Int × Nat} (h : ¬ (0 ≤ p.1 ∧ p.1 < 128 ∧ bl p.2 ≤ W)) : jstep W st p = .error 2 := by unfold jstep; rw [if_neg h]
theorem jstep_busy {W : Nat} {st : JSt} {p : Int × Nat} (h : 0 ≤ p.1 ∧ p.1 < 128 ∧ bl p.2 ≤ W) (h2 : st.2 p.1.toNat = true) : jstep W st p = .error 7 := by unfold jstep; rw [if_pos h, if_pos h2]
theorem jstep_long {W : Nat} {st : JSt} {p : Int × Nat} (h : 0 ≤ p.1 ∧ p.1 < 128 ∧ bl p.2 ≤ W) (h2 : st.2 p.1.toNat = false) (h3 : ∃ m ∈ lst p.2, 1024 < p.1.toNat * W + m + 1) : jstep W st p = .error 3 := by
  unfold jstep
  rw [if_pos h, if_neg (by simp [h2]), if_neg]
  intro ha
  obtain ⟨m, hm, hl⟩ := h3
  have := List.all_eq_true.1 ha m hm
  simp at this
  omega
theorem jstep_ok {W : Nat} {st : JSt} {p : Int × Nat} (h : 0 ≤ p.1 ∧ p.1 < 128 ∧ bl p.2 ≤ W) (h2 : st.2 p.1.toNat = false) (h3 : ∀ m ∈ lst p.2, p.1.toNat * W + m + 1 ≤ 1024) : jstep W st p = .ok (upd st.1 p.1.toNat p.2, updT st.2 p.1.toNat) := by
  unfold jstep
  rw [if_pos h, if_neg (by simp [h2]), if_pos (List.all_eq_true.2 (fun m hm => decide_eq_true (h3 m hm)))]
/-- What Join answers. -/
def JoinPost (W : Nat) (ps : List (Int × Nat)) (base : Nat) (e : Ending) (w' : World) : Prop :=
  (∃ st u, jrun W ps = .ok st ∧ e = .returned (.tuple #[u, .int .i64 0]) ∧ w'.ownsRow base 3 1 u (idsL W st.1 (setsOf st.1)).length (idsL W st.1 (setsOf st.1))) ∨
  (∃ c, jrun W ps = .error c ∧ e = .returned (.tuple #[.slice none 0 0, .int .i64 c]))

set_option maxRecDepth 100000 in
set_option maxHeartbeats 4000000 in
theorem join_any {ps : List (Int × Nat)} {bk o cap W : Nat} (hW : IsW W) {w : World} (ht : Tb w) (hp : PartsIn w bk o ps) :
    Calls Tryd.prog 11 #[.slice (some ⟨bk, o, none⟩) ps.length cap, .int .i64 W] w fun e w' => JoinPost W ps w.heap.size e w' ∧ Below w.heap.size w w' := by
  have hz := zero_by
  have hz2 := zero_tk
  have hWb := isW_pos hW
  have hlen := hp.len
  have b1 : Below w.heap.size w ((w.alloc ob0).alloc obT) := ((Below.refl _ w).alloc (Nat.le_refl _) _).alloc (by simp) _
  have hA0 := (hasAll_new w none0).keep ((Below.refl (w.heap.size + 1) _).alloc (by simp) obT) (by omega)
  have hT0 := hasT_new (w.alloc ob0) noneT
  rw [World.size_alloc] at hT0
  go_enter Tryd.func11, Tryd.ntmps11
  go_wp2_with (go_at_call 20; refine (wide_yes W hW _ ht.wid).mono ?_; rintro e w1 ⟨rfl, hw1⟩; rw [hw1]; clear hw1 w1)
  go_loopw [17] (fun i wr => ∃ (k : Nat) (F : Nat → Nat) (T : Nat → Bool), k ≤ ps.length ∧ i = .int .i64 k ∧ Hid (jrun W (ps.take k) = .ok (F, T)) ∧ HasAll wr w.heap.size F ∧ HasT wr (w.heap.size + 1) T ∧ Hid (∀ s, F s < 2 ^ 256) ∧ Hid (Fits W F) ∧ Below w.heap.size w wr ∧ w.heap.size + 2 ≤ wr.heap.size) (fun i _ => ps.length - (intOf i).toNat)
  case atStart => exact ⟨0, none0, noneT, Nat.zero_le _, rfl, hidIn rfl, hA0, hT0, hidIn (fun _ => Nat.two_pow_pos 256), hidIn (fun s _ m hm => by rw [show none0 s = 0 from rfl, lst_zero] at hm; simp at hm), b1, by simp⟩
  case round =>
    obtain ⟨k, F, T, hk, rfl, HJ, hA, hT, HF, HX, hbel, hsz⟩ := hrel
    have htr := ht.keep hbel ht.lt.1 ht.lt.2
    by_cases hlt : k < ps.length
    · obtain ⟨p, hpk⟩ : ∃ p, ps[k]? = some p := ⟨ps[k], List.getElem?_eq_getElem hlt⟩
      have hpN := hp.bits p (List.mem_of_getElem? hpk)
      have hpr := (hp.keep hbel).r k p hpk
      have q0 := hpr 0 _ rfl
      have q1 := hpr 1 _ rfl
      have q2 := hpr 2 _ rfl
      have q3 := hpr 3 _ rfl
      have q4 := hpr 4 _ rfl
      simp only [Nat.add_zero] at q0
      have hU := hasPt_new wr p
      have bU : Below wr.heap.size wr (wr.alloc (.cells (prt p).toArray 37)) := (Below.refl _ wr).alloc (Nat.le_refl _) _
      obtain ⟨s, N⟩ := p
      simp only at hpN
      have Hk := hidIn hpk
      clear hpr hpk
      have htU := htr.on bU
      have hAU := hA.keep bU hA.lt
      have hTU := hT.keep bU hT.lt
      obtain ⟨u0, u1, u2, u3, u4, uL⟩ := hU
      simp only at u0 u1 u2 u3 u4
      by_cases hset : 0 ≤ s ∧ s < 128
      · obtain ⟨S, rfl⟩ := Int.eq_ofNat_of_zero_le hset.1
        have hS : S < 128 := by omega
        by_cases hbl : bl N ≤ W
        · have hb' := hidIn (fun w' => below_yes N hpN W (by omega) (by omega) (by omega) w')
          have hsb : ∀ m ∈ lst N, m < W := fun m hm => lt_of_lst hbl hm
          by_cases hTs : T S = true
          · go_wp2_with (first
              | (go_at_call 21; refine (isSet_yes _ hset.1 hset.2 _).mono ?_; rintro e w2 ⟨rfl, rfl⟩)
              | (go_at_call 22; refine (hb'.out _).mono ?_; rintro e w3 ⟨rfl, hb3⟩; have c0 := (hb3.cell (p := ⟨wr.heap.size, 0, none⟩) (show wr.heap.size < _ by simp)).trans u0; have tc := (hTU.keep hb3 hTU.lt).c S hS; rw [hTs] at tc))
            go_ret2
            exact ⟨.inr ⟨7, jrun_stop Hk.out HJ.out (jstep_busy ⟨hset.1, hset.2, hbl⟩ hTs), rfl⟩, hbel.trans ((bU.trans (hb3.mono (by simp))).mono (by omega))⟩
          · have hTf : T S = false := by simpa using hTs
            by_cases hl : ∀ m ∈ lst N, S * W + m + 1 ≤ 1024
            · have Hw : Hid (∀ w', Tb w' → Calls Tryd.prog 23 #[.slice none 0 0, partV S N, .int .i64 W] w' fun e w'' => (∃ ua uk ucap, e = .returned (.tuple #[.slice ua uk ucap, .int .i64 0])) ∧ Below w'.heap.size w' w'') := hidIn (fun w' h' => by
                refine (withIds_any (k := 0) (xs := []) hW hS hpN hsb (World.ownsRow_nil w' w'.heap.size _ _) (by omega) (Nat.le_refl _) h' h'.lt.1 h'.lt.2).mono ?_
                rintro e w'' ⟨⟨_, u, rfl, hr⟩ | ⟨⟨m, hm, hlong⟩, _⟩, hb⟩
                · obtain ⟨ua, ucap, rfl⟩ := row_shape hr
                  exact ⟨⟨_, _, _, rfl⟩, hb⟩
                · exact absurd (hl m hm) (by omega))
              go_wp2_with (first
                | (go_at_call 21; refine (isSet_yes _ hset.1 hset.2 _).mono ?_; rintro e w2 ⟨rfl, rfl⟩)
                | (go_at_call 22; refine (hb'.out _).mono ?_; rintro e w3 ⟨rfl, hb3⟩; have tc := (hTU.keep hb3 hTU.lt).c S hS; rw [hTf] at tc; obtain ⟨v0, v1, v2, v3, v4, vL⟩ := HasPt.keep (p := ((S : Int), N)) ⟨u0, u1, u2, u3, u4, uL⟩ hb3 uL; simp only at v0 v1 v2 v3 v4)
                | (go_at_call 23; refine (Hw.out _ (htU.on hb3)).mono ?_; rintro e w5 ⟨⟨ua, uk, ucap, rfl⟩, hb5⟩; obtain ⟨x0, x1, x2, x3, x4, xL⟩ := HasPt.keep (p := ((S : Int), N)) ⟨v0, v1, v2, v3, v4, vL⟩ hb5 vL; simp only at x0 x1 x2 x3 x4))
              have hA5 := (hAU.keep hb3 hAU.lt).keep hb5 (hAU.keep hb3 hAU.lt).lt
              have hT5 := (hTU.keep hb3 hTU.lt).keep hb5 (hTU.keep hb3 hTU.lt).lt
              have a0 := hA5.one S hS 0 _ rfl
              have a1 := hA5.one S hS 1 _ rfl
              have a2 := hA5.one S hS 2 _ rfl
              have a3 := hA5.one S hS 3 _ rfl
              have g0 := (hA5.t (S * 4) (by omega)).2
              have g1 := (hA5.t (S * 4 + 1) (by omega)).2
              have g2 := (hA5.t (S * 4 + 2) (by omega)).2
              have g3 := (hA5.t (S * 4 + 3) (by omega)).2
              simp only [Nat.add_zero, Nat.zero_add] at a0 g0 g1 g2 g3
              have t0 := hT5.c S hS
              have t1 := hT5.f S hS
              clear tc u0 u1 u2 u3 u4 v0 v1 v2 v3 v4 q0 q1 q2 q3 q4
              go_region
              have hb5' : Below w.heap.size w w5 := hbel.trans (((bU.trans (hb3.mono (by simp))).trans (hb5.mono (Nat.le_trans (by simp) hb3.size))).mono (by omega))
              have hAV : HasAll (((((w5.setCell ⟨w.heap.size, S * 4, none⟩ (.int .u64 (wd N 0))).setCell ⟨w.heap.size, S * 4 + 1, none⟩ (.int .u64 (wd N 1))).setCell ⟨w.heap.size, S * 4 + 2, none⟩ (.int .u64 (wd N 2))).setCell ⟨w.heap.size, S * 4 + 3, none⟩ (.int .u64 (wd N 3))).setCell ⟨w.heap.size + 1, S, none⟩ (.bool true)).drew w.heap.size (upd F S N) := by
                have h1 := hasAll_other (hA5.set S N hS) (a := ⟨w.heap.size + 1, S, none⟩) (show w.heap.size + 1 ≠ w.heap.size by omega) (.bool true)
                exact h1.keep (Below.drew (Below.refl _ _)) h1.lt
              have hTV : HasT (((((w5.setCell ⟨w.heap.size, S * 4, none⟩ (.int .u64 (wd N 0))).setCell ⟨w.heap.size, S * 4 + 1, none⟩ (.int .u64 (wd N 1))).setCell ⟨w.heap.size, S * 4 + 2, none⟩ (.int .u64 (wd N 2))).setCell ⟨w.heap.size, S * 4 + 3, none⟩ (.int .u64 (wd N 3))).setCell ⟨w.heap.size + 1, S, none⟩ (.bool true)).drew (w.heap.size + 1) (updT T S) := by
                have h1 := ((((hT5.other (a := ⟨w.heap.size, S * 4, none⟩) (show w.heap.size ≠ w.heap.size + 1 by omega) (.int .u64 (wd N 0))).other (a := ⟨w.heap.size, S * 4 + 1, none⟩) (show w.heap.size ≠ w.heap.size + 1 by omega) (.int .u64 (wd N 1))).other (a := ⟨w.heap.size, S * 4 + 2, none⟩) (show w.heap.size ≠ w.heap.size + 1 by omega) (.int .u64 (wd N 2))).other (a := ⟨w.heap.size, S * 4 + 3, none⟩) (show w.heap.size ≠ w.heap.size + 1 by omega) (.int .u64 (wd N 3))).set S hS
                exact h1.keep (Below.drew (Below.refl _ _)) h1.lt
              have hBV : Below w.heap.size w (((((w5.setCell ⟨w.heap.size, S * 4, none⟩ (.int .u64 (wd N 0))).setCell ⟨w.heap.size, S * 4 + 1, none⟩ (.int .u64 (wd N 1))).setCell ⟨w.heap.size, S * 4 + 2, none⟩ (.int .u64 (wd N 2))).setCell ⟨w.heap.size, S * 4 + 3, none⟩ (.int .u64 (wd N 3))).setCell ⟨w.heap.size + 1, S, none⟩ (.bool true)).drew :=
                Below.drew (Below.setCell (Below.setCell (Below.setCell (Below.setCell (hb5'.setCell (p := ⟨w.heap.size, S * 4, none⟩) (Nat.le_refl _) _) (p := ⟨w.heap.size, S * 4 + 1, none⟩) (Nat.le_refl _) _) (p := ⟨w.heap.size, S * 4 + 2, none⟩) (Nat.le_refl _) _) (p := ⟨w.heap.size, S * 4 + 3, none⟩) (Nat.le_refl _) _) (p := ⟨w.heap.size + 1, S, none⟩) (Nat.le_succ _) _)
              clear x0 x1 x2 x3 x4 a0 a1 a2 a3 g0 g1 g2 g3 t0 t1 hA5 hT5
              generalize World.drew _ = V at hAV hTV hBV ⊢
              have hLV := hTV.lt
              have HN : Hid (jrun W (ps.take (k + 1)) = .ok (upd F S N, updT T S)) := hidIn (by
                have h2 := jstep_ok (W := W) (st := (F, T)) (p := ((S : Int), N)) ⟨hset.1, hset.2, hbl⟩ (by simpa using hTf) (by simpa using hl)
                rw [jtake_next Hk.out, jrun_snoc, HJ.out]
                exact h2)
              have HF2 := hidIn (upd_lt (s := S) HF.out hpN)
              have HX2 : Hid (Fits W (upd F S N)) := hidIn (fun s hs m hm => by
                unfold upd at hm
                split at hm
                · rename_i e
                  rw [e]
                  exact ⟨hsb m hm, hl m hm⟩
                · exact HX.out s hs m hm)
              go_wp2
              go_roundw
              case rel => exact ⟨k + 1, upd F S N, updT T S, by omega, by go_num, HN, hAV, hTV, HF2, HX2, hBV, by omega⟩
              case measure => simp [intOf]; omega
            · have hl' : ∃ m ∈ lst N, 1024 < S * W + m + 1 := by
                simp only [Classical.not_forall] at hl
                obtain ⟨m, hm, h⟩ := hl
                exact ⟨m, hm, by omega⟩
              have Hw : Hid (∀ w', Tb w' → Calls Tryd.prog 23 #[.slice none 0 0, partV S N, .int .i64 W] w' fun e w'' => e = .returned (.tuple #[.slice none 0 0, .int .i64 3]) ∧ Below w'.heap.size w' w'') := hidIn (fun w' h' => by
                refine (withIds_any (k := 0) (xs := []) hW hS hpN hsb (World.ownsRow_nil w' w'.heap.size _ _) (by omega) (Nat.le_refl _) h' h'.lt.1 h'.lt.2).mono ?_
                rintro e w'' ⟨⟨hok, _⟩ | ⟨_, rfl⟩, hb⟩
                · obtain ⟨m, hm, h⟩ := hl'
                  exact absurd (hok m hm) (by omega)
                · exact ⟨rfl, hb⟩)
              go_wp2_with (first
                | (go_at_call 21; refine (isSet_yes _ hset.1 hset.2 _).mono ?_; rintro e w2 ⟨rfl, rfl⟩)
                | (go_at_call 22; refine (hb'.out _).mono ?_; rintro e w3 ⟨rfl, hb3⟩; have tc := (hTU.keep hb3 hTU.lt).c S hS; rw [hTf] at tc; obtain ⟨v0, v1, v2, v3, v4, vL⟩ := HasPt.keep (p := ((S : Int), N)) ⟨u0, u1, u2, u3, u4, uL⟩ hb3 uL; simp only at v0 v1 v2 v3 v4)
                | (go_at_call 23; refine (Hw.out _ (htU.on hb3)).mono ?_; rintro e w5 ⟨rfl, hb5⟩))
              go_ret2
              exact ⟨.inr ⟨3, jrun_stop Hk.out HJ.out (jstep_long (p := ((S : Int), N)) ⟨hset.1, hset.2, hbl⟩ (by simpa using hTf) (by simpa using hl')), rfl⟩, hbel.trans (((bU.trans (hb3.mono (by simp))).trans (hb5.mono (Nat.le_trans (by simp) hb3.size))).mono (by omega))⟩
        · have hb' := hidIn (fun w' => below_no N hpN W (.inr (.inr (by omega))) w')
          go_wp2_with (first
            | (go_at_call 21; refine (isSet_yes _ hset.1 hset.2 _).mono ?_; rintro e w2 ⟨rfl, rfl⟩)
            | (go_at_call 22; refine (hb'.out _).mono ?_; rintro e w3 ⟨rfl, hb3⟩))
          go_ret2
          exact ⟨.inr ⟨2, jrun_stop Hk.out HJ.out (jstep_arg (fun h => hbl h.2.2)), rfl⟩, hbel.trans ((bU.trans (hb3.mono (by simp))).mono (by omega))⟩
      · have hset' : s < 0 ∨ 128 ≤ s := by omega
        go_wp2_with (go_at_call 21; refine (isSet_no _ hset' _).mono ?_; rintro e w2 ⟨rfl, rfl⟩)
        go_ret2
        exact ⟨.inr ⟨2, jrun_stop Hk.out HJ.out (jstep_arg (fun h => hset ⟨h.1, h.2.1⟩)), rfl⟩, hbel.trans (bU.mono (by omega))⟩
    · have hke : k = ps.length := by omega
      have HJ2 : Hid (jrun W ps = .ok (F, T)) := hidIn (by have := HJ.out; rw [hke, List.take_length] at this; exact this)
      have hle : ¬ ((k : Int) < (ps.length : Int)) := by omega
      have Hl := hidIn (listed_any hW HF.out HX.out htr)
      clear hke
      go_wp2_with (first
        | (refine l_load rfl _ rfl _ _ rfl hA ?_)
        | (go_at_call 24; refine Calls.mono Hl.out ?_; rintro e w3 ⟨⟨u, rfl, hr⟩, hb3⟩))
      go_ret2
      exact ⟨.inl ⟨(F, T), u, HJ2.out, rfl, row_less hr (by omega)⟩, hbel.trans (hb3.mono (by omega))⟩

set_option maxRecDepth 100000 in
set_option maxHeartbeats 1000000 in
theorem join_nil {a : Option Addr} {cap W : Nat} (hW : IsW W) {w : World} (ht : Tb w) :
    Calls Tryd.prog 11 #[.slice a 0 cap, .int .i64 W] w fun e w' => JoinPost W [] w.heap.size e w' ∧ Below w.heap.size w w' := by
  have hz := zero_by
  have hz2 := zero_tk
  have b1 : Below w.heap.size w ((w.alloc ob0).alloc obT) := ((Below.refl _ w).alloc (Nat.le_refl _) _).alloc (by simp) _
  have hA0 := (hasAll_new w none0).keep ((Below.refl (w.heap.size + 1) _).alloc (by simp) obT) (by omega)
  have Hl := hidIn (listed_any (f := none0) hW (fun _ => Nat.two_pow_pos 256) (fun s _ m hm => by rw [show none0 s = 0 from rfl, lst_zero] at hm; simp at hm) (ht.on b1))
  go_enter Tryd.func11, Tryd.ntmps11
  go_wp2_with (go_at_call 20; refine (wide_yes W hW _ ht.wid).mono ?_; rintro e w1 ⟨rfl, hw1⟩; rw [hw1]; clear hw1 w1)
  go_loopw [17] (fun i wr => i = .int .i64 0 ∧ wr = (w.alloc ob0).alloc obT) (fun _ _ => 0)
  case atStart => exact ⟨rfl, rfl⟩
  obtain ⟨rfl, rfl⟩ := hrel
  go_wp2_with (first
    | (refine l_load rfl _ rfl _ _ rfl hA0 ?_)
    | (go_at_call 24; refine Calls.mono Hl.out ?_; rintro e w3 ⟨⟨u, rfl, hr⟩, hb3⟩))
  go_ret2
  exact ⟨.inl ⟨(none0, fun _ => false), u, rfl, rfl, row_less hr (by simp; omega)⟩, b1.trans (hb3.mono (by simp; omega))⟩
end Go.Proofs.YtjcbbifjhoemaaaDoor
