/- CalendPieces: the walk. -/
import Derived.Test.YtgblfpdhodfmbaaCP0
namespace Go.Proofs.Ytgblfpdhodfmbaa.Ca
open Go.RowKit Go.Maps

abbrev thL (L : List (Tg Int)) : List Int := L.map fun b => b.1.1
/-- append of what was taken. -/
theorem append_tk {W : World} {base : Nat} {u v : Value} {l m : List Int} {B : Nat} (hr : W.ownsRow base 3 1 u l.length (fl ic l)) (hv : W.ownsRow B 3 1 v m.length (fl ic m)) (hk : l.length + m.length ≤ 100000) (hbase : base ≤ W.heap.size) :
    ∃ v' w6, (Builtin.append_ #[50, 50] 50 #[u, v]).run Try.prog W = .ok v' w6 ∧ w6.ownsRow base 3 1 v' (l ++ m).length (fl ic (l ++ m)) ∧ Fr (fun k => base ≤ k) W w6 := by
  by_cases h : v = .slice none 0 0
  · subst h
    have hm0 : m = [] := by
      rcases hv.2 with ⟨_, h1⟩ | ⟨g', cap', cur, h1, _⟩
      · exact List.length_eq_zero_iff.1 h1
      · simp at h1
    subst hm0
    obtain ⟨a, c, hs⟩ := row_shape hr
    have hnc : l.length ≤ c := by
      rcases hr.2 with ⟨h1, h2⟩ | ⟨g', cap', cur, h1, _, _, h3, _⟩
      · omega
      · rw [hs] at h1; simp at h1; omega
    exact ⟨u, W, append_nil9 (T := 50) Try.underlying50 infoInt u a l.length c hs hnc W, by simpa using hr, Fr.refl _ _⟩
  · obtain ⟨v', w6, hrun, hown, hb, hgr⟩ := append_all (P := Try.prog) (cs := ic) (T := 50) (fun _ => rfl) (fun _ => by simp [Value.oneCell']) Try.underlying50 infoInt rfl (by decide) hr (slAt_of_row (cs := ic) (fun _ => rfl) hv rfl) (by omega) (by unfold maxLen; omega) hbase (by
      rcases hv.2 with ⟨h1, _⟩ | ⟨g', cap', cur, h1, _⟩
      · exact absurd h1 h
      · exact .inl ⟨_, _, _, h1⟩)
    exact ⟨v', w6, hrun, by rw [List.length_append]; exact hown, ⟨hgr.os, hgr.tape, hgr.output, hgr.size, fun k hk hs => hgr.block k hk (fun e => hs (hr.lt k e.symm).1)⟩⟩
set_option maxRecDepth 100000 in
set_option maxHeartbeats 4000000 in
theorem calendPieces_walk {A C : List Int} {va vc : Value} {w : World} (hA : SlAt u64c 1 w va A) (hAb : ∀ z ∈ A, 0 ≤ z ∧ z ≤ 18446744073709551615) (hC : SlAt u64c 1 w vc C) (hCb : ∀ z ∈ C, 0 ≤ z ∧ z ≤ 18446744073709551615) :
    Calls Try.prog 5 #[va, vc] w fun e w' => e = .returned (.bool true) ∧ Below w.heap.size w w' := by
  obtain ⟨pa, ca, rfl, hal, _, hac⟩ := sl_u64 hA
  obtain ⟨pc, cc, rfl, hcl, _, hcc⟩ := sl_u64 hC
  have HAb := hidIn hAb
  have HCb := hidIn hCb
  obtain ⟨q, hq⟩ : ∃ q, w.heap.size = q := ⟨_, rfl⟩
  rw [hq]
  have Hq := hidIn hq
  rw [hq] at hac hcc
  have HAc := hidIn hac
  have HCc := hidIn hcc
  obtain ⟨n, hn⟩ : ∃ n, (if 100 < A.length then 100 else A.length) = n := ⟨_, rfl⟩
  have Hn : Hid (n ≤ 100 ∧ n ≤ A.length) := hidIn (by rw [← hn]; split <;> omega)
  have Hn1 : Hid (100 < A.length → n = 100) := hidIn (fun h => by rw [← hn, if_pos h])
  have Hn2 : Hid (¬ 100 < A.length → n = A.length) := hidIn (fun h => by rw [← hn, if_neg h])
  have hWk := hidIn (S.works_ok w)
  rw [hq] at hWk
  clear hA hC hac hcc hAb hCb hq hn
  go_enter Try.func5, Try.ntmps5
  go_wp2_with fail
  refine hWk.out.mono ?_
  rintro e w1 ⟨rfl, hb1⟩
  have B1 := hidIn hb1
  have s1 : q ≤ w1.heap.size := by have := hb1.size; have := Hq.out; omega
  have N1 := hidIn (I.new_ok w1)
  clear hb1 hWk
  go_wp2_with fail
  refine N1.out.mono ?_
  rintro e w2 ⟨c, rfl, hC2, hb2⟩
  have C2 := hidIn hC2
  have B2 := hidIn (B1.out.trans (hb2.mono s1))
  have s2 : w1.heap.size ≤ w2.heap.size := hb2.size
  have N2 := hidIn (I.new_ok w2)
  clear hC2 hb2 N1 B1
  go_wp2_with fail
  refine N2.out.mono ?_
  rintro e w3 ⟨d, rfl, hD3, hb3⟩
  have D3 := hidIn hD3
  have C3 := hidIn (C2.out.below hb3)
  have B3 := hidIn (B2.out.trans (hb3.mono (by omega)))
  have s3 : w2.heap.size ≤ w3.heap.size := hb3.size
  clear hD3 hb3 N2 B2 C2
  go_upto_region 4 with fail
  go_cut [7] (fun x wx => x = .int .i64 n ∧ wx = w3)
  case first =>
    by_cases h100 : 100 < A.length
    · have h1 : (100 : Int) < (A.length : Int) := by omega
      go_wp2_with fail
      go_meet
      exact ⟨by rw [Hn1.out h100]; rfl, rfl⟩
    · have h1 : ¬ (100 : Int) < (A.length : Int) := by omega
      go_wp2_with fail
      go_meet
      exact ⟨by rw [Hn2.out h100], rfl⟩
  case rest =>
    obtain ⟨rfl, rfl⟩ := hcut
    go_wp2_with fail
    go_loopw [8] (fun i wr => ∃ k : Nat, k ≤ n ∧ i = .int .i64 k ∧ Hid (∃ Sc Sd, I.Cal wr Sc c (filL A k) k ∧ I.Cal wr Sd d (filL A k) k ∧ (∀ x, Sc x → ¬ Sd x) ∧ (∀ x, Sc x → q ≤ x ∧ x < wr.heap.size) ∧ (∀ x, Sd x → q ≤ x ∧ x < wr.heap.size) ∧ Below q w wr)) (fun i _ => n - (intOf i).toNat)
    case atStart =>
      refine ⟨0, Nat.zero_le _, rfl, hidIn ⟨_, _, C3.out, D3.out, fun x h1 h2 => by omega, fun x h => by omega, fun x h => by omega, B3.out⟩⟩
    case round =>
      obtain ⟨k, hk, rfl, HR⟩ := hrel
      obtain ⟨Sc, Sd, r1, r2, r3, r4, r5, r6⟩ := HR.out
      clear HR
      by_cases hlt : k < n
      · obtain ⟨bk, o, rfl, hbk, hcell⟩ := HAc.out (by have := Hn.out; omega)
        obtain ⟨x, hx⟩ : ∃ x, A[k]? = some x := ⟨A[k]'(by have := Hn.out; omega), List.getElem?_eq_getElem _⟩
        have x0 := (r6.cell (p := ⟨bk, o + k, none⟩) hbk).trans (hcell k x hx)
        have hF : Hid (filL A (k + 1) = insL (filL A k) ((((k : Nat) : Int), x), ((k + 1 : Nat) : Int))) := hidIn (filL_succ hx)
        have hfl : (filL A k).length = k := filL_length k (by have := Hn.out; omega)
        have hn100 := Hn.out.1
        have P1 := hidIn (I.put_ok (k : Int) x r1 (by omega) (by omega))
        have R1 := hidIn r1
        have R2 := hidIn r2
        have R3 := hidIn r3
        have R4 := hidIn r4
        have R5 := hidIn r5
        have R6 := hidIn r6
        have hki : (k : Int) < (n : Int) := by omega
        have hkA : (k : Int) < (A.length : Int) := by have := Hn.out; omega
        have Hfl := hidIn hfl
        have hsq : q ≤ wr.heap.size := by have := r6.size; have := Hq.out; omega
        clear r1 r2 r3 r4 r5 r6 hcell hx hfl C3 D3 B3
        go_wp2_with fail
        refine P1.out.mono ?_
        rintro e w4 ⟨rfl, hC4, hF4⟩
        have x4 : w4.cell? ⟨bk, o + k, none⟩ = some (.int .u64 x) := by
          have hb4 : Below q wr w4 := hF4.below hsq (fun k hk => (R4.out k hk).1)
          exact (hb4.cell (p := ⟨bk, o + k, none⟩) hbk).trans x0
        have D4 := hidIn (R2.out.keep hF4 (fun x h1 h2 => R3.out x h2 h1))
        have C4 := hidIn hC4
        have F4 := hidIn hF4
        have s4 := hF4.size
        have P2 := hidIn (I.put_ok (k : Int) x D4.out (by omega) (by have := Hfl.out; omega))
        clear hC4 hF4 x0 P1 R1 R2
        go_wp2_with fail
        refine P2.out.mono ?_
        rintro e w5 ⟨rfl, hD5, hF5⟩
        have D5 := hidIn hD5
        have F5 := hidIn hF5
        have C5 := hidIn (C4.out.keep hF5 (fun x h1 h2 => by
          rcases h1 with h1 | h1
          · exact R3.out x h1 h2
          · have := R5.out x h2; omega))
        have s5 := hF5.size
        clear hD5 hF5 x4 P2 C4 D4
        go_wp2
        go_roundw
        case rel =>
          refine ⟨k + 1, by omega, by go_num, hidIn ⟨I.ext Sc wr w4, I.ext Sd w4 w5, ?_, ?_, fun x h1 h2 => ?_, fun x h1 => ?_, fun x h1 => ?_, ?_⟩⟩
          · rw [hF.out]; exact C5.out
          · rw [hF.out]; exact D5.out
          · rcases h1 with h1 | h1
            · rcases h2 with h2 | h2
              · exact R3.out x h1 h2
              · have := R4.out x h1; omega
            · rcases h2 with h2 | h2
              · have := R5.out x h2; omega
              · omega
          · rcases h1 with h1 | h1
            · have := R4.out x h1; omega
            · omega
          · rcases h1 with h1 | h1
            · have := R5.out x h1; omega
            · omega
          · exact R6.out.trans ((F4.out.below hsq (fun k hk => (R4.out k hk).1)).trans (F5.out.below (by omega) (fun k hk => (R5.out k hk).1)))
        case measure => simp [intOf]; omega
      · have hke : k = n := by omega
        rw [hke] at r1 r2
        have hki : ¬ ((k : Int) < (n : Int)) := by omega
        obtain ⟨L, hL⟩ : ∃ L, filL A n = L := ⟨_, rfl⟩
        have hLl : L.length = n := by rw [← hL]; exact filL_length n Hn.out.2
        have hLm : ∀ a, a ∈ L ↔ ∃ j : Nat, j < n ∧ a.1.1 = (j : Int) ∧ A[j]? = some a.1.2 ∧ a.2 = ((j + 1 : Nat) : Int) := by rw [← hL]; exact filL_mem n Hn.out.2
        rw [hL] at r1 r2
        have hdue : dueT L 18446744073709551615 = L ∧ restT L 18446744073709551615 = [] := due_all (fun a ha => by
          obtain ⟨j, _, _, h3, _⟩ := (hLm a).1 ha
          exact (HAb.out _ (List.mem_of_getElem? h3)).2)
        have hn100 := Hn.out.1
        have T1 : Hid (Calls Try.prog 21 #[ptr c, .int .u64 18446744073709551615] wr fun e w' => (∃ u, e = .returned u ∧ w'.ownsRow wr.heap.size 3 1 u n (fl ic (thL L))) ∧ I.Cal w' Sc c [] n ∧ Fr Sc wr w') := hidIn (by
          have := I.take_ok (now := 18446744073709551615) r1 (by omega) (by omega)
          rw [hdue.1, hdue.2, hLl] at this
          exact this)
        have HO := hidIn r2.o
        have R2 := hidIn r2
        have R3 := hidIn r3
        have R4 := hidIn r4
        have R5 := hidIn r5
        have R6 := hidIn r6
        have HLl := hidIn hLl
        have HLm := hidIn hLm
        have hsq : q ≤ wr.heap.size := by have := r6.size; have := Hq.out; omega
        clear r1 r2 r3 r4 r5 r6 hL hLl hLm hdue hke hk hlt C3 D3 B3
        go_wp2_with fail
        refine T1.out.mono ?_
        rintro e w4 ⟨⟨u, rfl, hrow⟩, _, hF4⟩
        obtain ⟨ua, uc, rfl⟩ := row_shape hrow
        have Row4 := hidIn hrow
        have D4 := hidIn (R2.out.keep hF4 (fun x h1 h2 => R3.out x h2 h1))
        have B4 := hidIn (R6.out.trans (hF4.below hsq (fun k hk => (R4.out k hk).1)))
        have s4 := hF4.size
        have hb45 : wr.heap.size ≤ w4.heap.size := s4
        obtain ⟨b4, hb4⟩ : ∃ b4, wr.heap.size = b4 := ⟨_, rfl⟩
        rw [hb4] at Row4 hb45 R5 hsq
        obtain ⟨b5, hb5⟩ : ∃ b5, w4.heap.size = b5 := ⟨_, rfl⟩
        rw [hb5] at hb45
        have Hb5 := hidIn hb5
        have R4b : Hid (∀ k, (Value.slice ua n uc).ownBlock = some k → b4 ≤ k ∧ k < b5) := hidIn (fun k hk => by have := hrow.lt k hk; omega)
        clear hrow hF4 T1 R2 R3 R6 R4 hb4 hb5 s4
        go_wp2_with fail
        go_loopw [10, 11, 12] (fun pv nv i wx => ∃ (m : Nat) (P : List Int) (R : List (Tg Int)) (nw : Int), m ≤ 50 ∧ m ≤ C.length ∧ i = .int .i64 m ∧ nv = .int .u64 nw ∧ (∃ a c', pv = .slice a P.length c') ∧ Hid (P ++ thL R = thL L ∧ wx.ownsRow b5 3 1 pv P.length (fl ic P) ∧ I.Cal wx Sd d R n ∧ wx.ownsRow b4 3 1 (.slice ua n uc) n (fl ic (thL L)) ∧ Below q w wx ∧ b5 ≤ wx.heap.size ∧ ∀ a ∈ R, a ∈ L)) (fun _ _ i _ => 50 - (intOf i).toNat)
        case atStart =>
          exact ⟨0, [], L, 0, by omega, Nat.zero_le _, rfl, rfl, ⟨none, 0, rfl⟩, hidIn ⟨rfl, World.ownsRow_nil _ _ _ _, D4.out, Row4.out, B4.out, by rw [Hb5.out]; exact Nat.le_refl _, fun _ h => h⟩⟩
        case round =>
          obtain ⟨m, P, R, nw, hm50, hmC, rfl, rfl, ⟨va, vc', rfl⟩, HR⟩ := hrel
          obtain ⟨r1, r2, r3, r4, r5, r6, r7⟩ := HR.out
          clear HR
          have hPR : P.length + R.length = n := by
            have := congrArg List.length r1
            rw [List.length_append, List.length_map, List.length_map, HLl.out] at this
            exact this
          by_cases hgo : m < C.length ∧ m < 50
          · obtain ⟨hlt, hlt50⟩ := hgo
            have hmi : (m : Int) < (C.length : Int) := by omega
            have hmi50 : (m : Int) < 50 := by omega
            obtain ⟨bk, o, rfl, hbk, hcell⟩ := HCc.out (by omega)
            obtain ⟨z, hz⟩ : ∃ z, C[m]? = some z := ⟨C[m], List.getElem?_eq_getElem hlt⟩
            have z0 := (r5.cell (p := ⟨bk, o + m, none⟩) hbk).trans (hcell m z hz)
            have R1 := hidIn r1
            have R2 := hidIn r2
            have R3 := hidIn r3
            have R4 := hidIn r4
            have R6 := hidIn r5
            have HPR := hidIn hPR
            have R7 := hidIn r7
            clear r1 r2 r3 r4 r5 r7 hcell hz hPR hlt hm50 hmC D4 B4 Row4
            go_upto_region 16 with fail
            go_cut [11] (fun x wz => ∃ nw', x = .int .u64 nw' ∧ wz = wr)
            case first =>
              by_cases hmx : nw < z
              · have hmx2 : ¬ z < nw := by omega
                have hmx3 : nw ≤ z := by omega
                go_wp2_with fail
                go_meet
                exact ⟨_, rfl, rfl⟩
              · have hmx3 : z ≤ nw := by omega
                go_wp2_with fail
                go_meet
                exact ⟨_, rfl, rfl⟩
            case rest =>
              obtain ⟨nw', rfl, hwz⟩ := hcut
              rw [hwz]
              clear hwz z0
              have T2 := hidIn (I.take_ok (now := nw') R3.out (by have := Hn.out; omega) (by have := HPR.out; have := Hn.out; omega))
              go_wp2_with fail
              refine T2.out.mono ?_
              rintro e w6 ⟨⟨u2, rfl, hrow2⟩, hC6, hF6⟩
              have b6 : b5 ≤ w6.heap.size := Nat.le_trans r6 hF6.size
              have p6 := row_fr R2.out hF6 (fun j hj hs => by have := (R2.out.lt j hj).1; have := (R5.out j hs).2; omega)
              have w6r := row_fr R4.out hF6 (fun j hj hs => by have := (R4.out.lt j hj).1; have := (R5.out j hs).2; omega)
              have hdl : (thL (dueT R nw')).length = (dueT R nw').length := List.length_map _
              have hdl2 := take_len (L := R) (now := nw')
              obtain ⟨v', w7, hrun, hown, hF7⟩ := append_tk (m := thL (dueT R nw')) p6 (by rw [hdl]; exact hrow2) (by have := HPR.out; have := Hn.out; omega) b6
              obtain ⟨xa, xc, rfl⟩ := row_shape hown
              have HRun := hidIn hrun
              have HO7 := hidIn hown
              have D7 := hidIn (hC6.keep hF7 (fun x h1 h2 => by have := (R5.out x h1).2; omega))
              have W7 := hidIn (row_fr w6r hF7 (fun j hj hs => by have := (R4b.out j hj).2; omega))
              have B7 := hidIn (R6.out.trans ((hF6.below (by omega) (fun k hk => (R5.out k hk).1)).trans (hF7.below (by omega) (fun k hk => by omega))))
              have s7 : b5 ≤ w7.heap.size := Nat.le_trans b6 hF7.size
              have HP7 : Hid ((P ++ thL (dueT R nw')) ++ thL (restT R nw') = thL L) := hidIn (by
                rw [List.append_assoc]
                show P ++ ((dueT R nw').map _ ++ (restT R nw').map _) = _
                rw [← List.map_append, due_rest]
                exact R1.out)
              clear hrow2 hC6 hF6 p6 w6r hrun hown hF7 T2 hdl hdl2
              go_wp2_with (refine l_append rfl _ _ 50 rfl HRun.out ?_)
              go_roundw
              case rel =>
                have hlen : (P ++ thL (dueT R nw')).length = P.length + (dueT R nw').length := by rw [List.length_append, show (thL (dueT R nw')).length = _ from List.length_map _]
                exact ⟨m + 1, P ++ thL (dueT R nw'), restT R nw', nw', by omega, by omega, by go_num, rfl, ⟨xa, xc, by rw [hlen]⟩, hidIn ⟨HP7.out, by have h := HO7.out; rw [hlen] at h ⊢; exact h, D7.out, W7.out, B7.out, s7, fun a ha => R7.out a ((List.dropWhile_sublist _).subset ha)⟩⟩
              case measure => simp [intOf]; omega
          · have hdue : dueT R 18446744073709551615 = R ∧ restT R 18446744073709551615 = [] := due_all (fun a ha => by
              obtain ⟨j, _, _, h3, _⟩ := (HLm.out a).1 (r7 a ha)
              exact (HAb.out _ (List.mem_of_getElem? h3)).2)
            have T3 : Hid (Calls Try.prog 21 #[ptr d, .int .u64 18446744073709551615] wr fun e w' => (∃ u, e = .returned u ∧ w'.ownsRow wr.heap.size 3 1 u R.length (fl ic (thL R))) ∧ I.Cal w' Sd d [] n ∧ Fr Sd wr w') := hidIn (by
              have := I.take_ok (now := 18446744073709551615) r3 (by omega) (by omega)
              rw [hdue.1, hdue.2] at this
              exact this)
            have R1 := hidIn r1
            have R2 := hidIn r2
            have R4 := hidIn r4
            have R6 := hidIn r5
            have HPR := hidIn hPR
            clear r1 r2 r3 r4 r5 r7 hPR hdue D4 B4 Row4
            go_upto_region 14 with fail
            go_cut [51] (fun x wz => x = .bool false ∧ wz = wr)
            case first =>
              by_cases h1 : m < C.length
              · have h1' : (m : Int) < (C.length : Int) := by omega
                have h2' : ¬ (m : Int) < 50 := by omega
                go_wp2_with fail
                go_meet
                exact ⟨rfl, rfl⟩
              · have h1' : ¬ (m : Int) < (C.length : Int) := by omega
                go_wp2_with fail
                go_meet
                exact ⟨rfl, rfl⟩
            case rest =>
              obtain ⟨rfl, hwz⟩ := hcut
              rw [hwz]
              clear hwz hgo
              go_wp2_with fail
              refine T3.out.mono ?_
              rintro e w6 ⟨⟨u2, rfl, hrow2⟩, _, hF6⟩
              have b6 : b5 ≤ w6.heap.size := Nat.le_trans r6 hF6.size
              have p6 := row_fr R2.out hF6 (fun j hj hs => by have := (R2.out.lt j hj).1; have := (R5.out j hs).2; omega)
              have w6r := row_fr R4.out hF6 (fun j hj hs => by have := (R4.out.lt j hj).1; have := (R5.out j hs).2; omega)
              have hdl : (thL R).length = R.length := List.length_map _
              obtain ⟨v', w7, hrun, hown, hF7⟩ := append_tk (m := thL R) p6 (by rw [hdl]; exact hrow2) (by have := HPR.out; omega) b6
              rw [R1.out, show (thL L).length = n from by rw [show (thL L).length = L.length from List.length_map _]; exact HLl.out] at hown
              obtain ⟨xa, xc, rfl⟩ := row_shape hown
              have w7r := row_fr w6r hF7 (fun j hj hs => by have := (R4b.out j hj).2; omega)
              have HRun := hidIn hrun
              have hln : (thL L).length = n := by rw [show (thL L).length = L.length from List.length_map _]; exact HLl.out
              obtain ⟨_, _, e1, _, _, hW⟩ := sl_i64 (slAt_of_row (cs := ic) (fun _ => rfl) w7r hln)
              obtain ⟨_, _, e2, _, _, hP⟩ := sl_i64 (slAt_of_row (cs := ic) (fun _ => rfl) hown hln)
              rw [hln] at e1 e2 hW hP
              simp only [Value.slice.injEq] at e1 e2
              obtain ⟨rfl, _, rfl⟩ := e1
              obtain ⟨rfl, _, rfl⟩ := e2
              have HW := hidIn hW
              have HP := hidIn hP
              have B7 := hidIn (R6.out.trans ((hF6.below (by omega) (fun k hk => (R5.out k hk).1)).trans (hF7.below (by omega) (fun k hk => by omega))))
              clear hrow2 hF6 p6 w6r hrun hown hF7 T3 hdl w7r hW hP R1 R2 R4 R6
              go_wp2_with (refine l_append rfl _ _ 50 rfl HRun.out ?_)
              go_loopw [13] (fun i wx => ∃ m : Nat, m ≤ n ∧ i = .int .i64 m ∧ Hid (Below w7.heap.size w7 wx)) (fun i _ => n - (intOf i).toNat)
              case atStart => exact ⟨0, Nat.zero_le _, rfl, hidIn (Below.refl _ _)⟩
              case round =>
                obtain ⟨m, hm, rfl, HR⟩ := hrel
                have hq7 : q ≤ w7.heap.size := by have := B7.out.size; have := Hq.out; omega
                have hbel : Hid (Below q w wr) := hidIn (B7.out.trans (HR.out.mono hq7))
                by_cases hlt : m < n
                · have hki : (m : Int) < (n : Int) := by omega
                  obtain ⟨bw, ow, rfl, hbw, hcw⟩ := HW.out (by omega)
                  obtain ⟨bp, op, rfl, hbp, hcp⟩ := HP.out (by omega)
                  have hmL : m < L.length := by rw [HLl.out]; exact hlt
                  obtain ⟨a, ha⟩ : ∃ a, L[m]? = some a := ⟨L[m], List.getElem?_eq_getElem hmL⟩
                  obtain ⟨j, hjn, ha1, hAj, ha2⟩ := (HLm.out a).1 (List.mem_of_getElem? ha)
                  have hth : (thL L)[m]? = some (j : Int) := by rw [show thL L = L.map _ from rfl, List.getElem?_map, ha]; simp [ha1]
                  have x0 := (HR.out.cell (p := ⟨bw, ow + m, none⟩) hbw).trans (hcw m _ hth)
                  have y0 := (HR.out.cell (p := ⟨bp, op + m, none⟩) hbp).trans (hcp m _ hth)
                  have hji : (j : Int) < (n : Int) := by omega
                  cases m with
                  | zero =>
                    clear hcw hcp hth
                    simp only [Nat.add_zero] at x0 y0
                    go_wp2
                    go_roundw
                    case rel => exact ⟨1, by omega, by go_num, HR⟩
                    case measure => simp [intOf]; omega
                  | succ m =>
                    obtain ⟨b, hb⟩ : ∃ b, L[m]? = some b := ⟨L[m], List.getElem?_eq_getElem (by omega)⟩
                    obtain ⟨i, hin, hb1, hAi, hb2⟩ := (HLm.out b).1 (List.mem_of_getElem? hb)
                    have hthb : (thL L)[m]? = some (i : Int) := by rw [show thL L = L.map _ from rfl, List.getElem?_map, hb]; simp [hb1]
                    have z0 := (HR.out.cell (p := ⟨bw, ow + m, none⟩) hbw).trans (hcw m _ hthb)
                    obtain ⟨ba, oa, rfl, hba, hca⟩ := HAc.out (by have := Hn.out; omega)
                    have ai := cell_regrown ((hbel.out.cell (p := ⟨ba, oa + i, none⟩) hba).trans (hca i _ hAi))
                    have aj := cell_regrown ((hbel.out.cell (p := ⟨ba, oa + j, none⟩) hba).trans (hca j _ hAj))
                    have hord : leE tick b a ∧ b.2 ≠ a.2 := by
                      have h1 := List.pairwise_iff_getElem.1 HO.out m (m + 1) (by omega) hmL (by omega)
                      rw [(List.getElem?_eq_some_iff.1 hb).2, (List.getElem?_eq_some_iff.1 ha).2] at h1
                      exact h1
                    have hii : (i : Int) < (A.length : Int) := by have := Hn.out; omega
                    have hjj : (j : Int) < (A.length : Int) := by have := Hn.out; omega
                    obtain ⟨ti, hti⟩ : ∃ t, b.1.2 = t := ⟨_, rfl⟩
                    obtain ⟨tj, htj⟩ : ∃ t, a.1.2 = t := ⟨_, rfl⟩
                    rw [hti] at ai
                    rw [htj] at aj
                    have hrl : ti < tj ∨ (ti = tj ∧ (i : Int) < (j : Int)) := by
                      have h2 := hord.1
                      have h3 := hord.2
                      unfold leE tick at h2
                      omega
                    have hm9 : (m : Int) < 1000 := by have := Hn.out; omega
                    clear hcw hcp hth hthb hca hord hAi hAj ha hb ha1 hb1 ha2 hb2 hti htj
                    rcases hrl with hrl | ⟨rfl, hrl⟩
                    · have g1 : ¬ tj < ti := by omega
                      have g0 : decide (tj < ti) = false := by simpa using g1
                      have g2 : (ti == tj) = false := by simpa using (by omega : ¬ ti = tj)
                      go_wp2_with fail
                      refine wp_region_quiet_below (by kernel_rfl) (by kernel_rfl) ?_
                      repeat (go_big_quiet_step (fail))
                      refine wpQuiet_nil ?_
                      intro _ hw'
                      obtain ⟨⟨dq, osq⟩, hw''⟩ := hw'
                      subst hw''
                      have hbr := hidIn (HR.out.trans ((below_regrown wr dq osq).mono HR.out.size))
                      generalize Go.Sort.grow (redrawn wr dq) osq = U at hbr ⊢
                      clear ai aj
                      go_wp2
                      go_roundw
                      case rel => exact ⟨m + 2, by omega, by go_num, hbr⟩
                      case measure => simp [intOf]; omega
                    · have g3 : ¬ (j : Int) ≤ (i : Int) := by omega
                      go_wp2_with fail
                      refine wp_region_quiet_below (by kernel_rfl) (by kernel_rfl) ?_
                      repeat (go_big_quiet_step (fail))
                      refine wpQuiet_nil ?_
                      intro _ hw'
                      obtain ⟨⟨dq, osq⟩, hw''⟩ := hw'
                      subst hw''
                      have hbr := hidIn (HR.out.trans ((below_regrown wr dq osq).mono HR.out.size))
                      generalize Go.Sort.grow (redrawn wr dq) osq = U at hbr ⊢
                      clear ai aj
                      go_wp2
                      go_roundw
                      case rel => exact ⟨m + 2, by omega, by go_num, hbr⟩
                      case measure => simp [intOf]; omega
                · have hki : ¬ ((m : Int) < (n : Int)) := by omega
                  go_wp2
                  go_returns
                  exact ⟨rfl, hbel.out⟩
end Go.Proofs.Ytgblfpdhodfmbaa.Ca
