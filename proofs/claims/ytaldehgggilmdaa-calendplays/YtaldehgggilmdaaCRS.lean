/- A calendar of string: Sift, where keep turns nothing. -/
import Derived.Test.YtaldehgggilmdaaCYS
import Derived.Test.YtaldehgggilmdaaGF
import Derived.Defers
import Derived.Recover
namespace Go.Proofs.Ytaldehgggilmdaa.Ca.S
open Go.RowKit Go.Maps Go.Sort Go.Shelf

theorem idle_ok (p : Addr) (w : World) : CallsD Try.prog 33 #[.pointer (some p)] .returning w fun e u' w' => e = .returned (.tuple #[]) ∧ u' = .returning ∧ w' = w := by
  refine callsD_of_wpS Try.func33 rfl fun c₀ cs hu => ?_
  apply wpS_seq
  apply wpS_region
  simp [wpOpsS, go_sem, recoverD, hu, Try.ntmps33, Exit.thenS]
  refine wpS_cond (t := false) (by simp [Act.eval, Array.replicate]) ?_
  simp only [Bool.false_eq_true, if_false]
  refine wpS_of_wp (wp_skip ?_)
  cases c₀
  simp_all [bodyPostS, results, Try.results33]
theorem _root_.Go.Proofs.Ytaldehgggilmdaa.Fr.cell9 {S : Nat → Prop} {w w' : World} (hF : Fr S w w') {b j : Nat} (hb : b < w.heap.size) (hS : ¬ S b) : w'.cell? ⟨b, j, none⟩ = w.cell? ⟨b, j, none⟩ := World.cell?_of_block (a := ⟨b, j, none⟩) (hF.block b hb hS)
structure RfS (A : Nat) (tk : Int) (wq : World) : Prop where
  c : wq.cell? ⟨A, 2, none⟩ = some (.int .i64 tk)
/-- The tickets of those that keep does not want. -/
def refT (L : List (Tg ByteArray)) (kp : ByteArray → Bool) : List Int := (L.filter fun a => !kp a.1.1).map fun a => a.2
theorem refT_len (L : List (Tg ByteArray)) (kp : ByteArray → Bool) : (refT L kp).length ≤ L.length := by unfold refT; rw [List.length_map]; exact List.length_filter_le _ _
theorem refT_snoc (L : List (Tg ByteArray)) (a : Tg ByteArray) (kp : ByteArray → Bool) : refT (L ++ [a]) kp = if kp a.1.1 = true then refT L kp else refT L kp ++ [a.2] := by
  unfold refT
  cases h : kp a.1.1 <;> simp [List.filter_append, h]
set_option maxRecDepth 100000 in
set_option maxHeartbeats 4000000 in
theorem refused_ok {w : World} {S : Nat → Prop} {cp p kf : Nat} {lb : Array Value} {L : List (Tg ByteArray)} {kp : ByteArray → Bool} (h : Cal w S cp L p) (hl : L.length ≤ 100000)
    (hK : ∀ (x : ByteArray) W, Calls Try.prog kf (#[.string x] ++ lb) W fun e W' => e = .returned (.bool (kp x)) ∧ W' = W) (hE : ∀ args w, (callFunc kf args).run Try.prog w = .ok (Next.enter kf args) w) :
    Calls Try.prog 30 #[ptr cp, .func (.func kf) #[] lb] w fun e w' => (∃ v', e = .returned v' ∧ w'.ownsRow w.heap.size 3 1 v' (refT L kp).length (fl ic (refT L kp))) ∧ RowKit.Below w.heap.size w w' := by
  obtain ⟨v, mb, es, f, h1, h2, h3, h4, h5, h6, h7, h8⟩ := h.x
  have hes := len_is h5
  obtain ⟨tb, htb⟩ : ∃ tb, w.heap.size = tb := ⟨_, rfl⟩
  obtain ⟨W1, hW1⟩ : ∃ W1, w.alloc (.cells #[.slice none 0 0] 64) = W1 := ⟨_, rfl⟩
  have hb1 : RowKit.Below w.heap.size w W1 := by rw [← hW1]; exact (Below.refl _ w).alloc (Nat.le_refl _) _
  have hT1 : W1.heap[tb]? = some (.cells #[.slice none 0 0] 64) := by rw [← hW1, ← htb]; exact heap_alloc_last w _
  have hH1 := h1.below hb1
  have c1 := hH1.c.2.1
  obtain ⟨ad, cap, rfl, _, _⟩ := h1.slice
  have HV := hidIn (values_ok (.slice ad es.length cap) W1 ad es.length cap rfl)
  obtain ⟨W2, hW2⟩ : ∃ W2, W1.alloc (.cells #[.slice ad es.length cap] 41) = W2 := ⟨_, rfl⟩
  have hb2 : RowKit.Below W1.heap.size W1 W2 := by rw [← hW2]; exact (Below.refl _ W1).alloc (Nat.le_refl _) _
  have hB2 : W2.heap[W1.heap.size]? = some (.cells #[.slice ad es.length cap] 41) := by rw [← hW2]; exact heap_alloc_last W1 _
  have HSo := hidIn (sortedF_ok (hH1.below hb2) h5 h.o (by omega) hB2)
  have HT2 := hidIn ((hb2.block _ (block_lt hT1)).trans hT1)
  have HH2 := hidIn (hH1.below hb2)
  have HB2 := hidIn (hb1.trans (hb2.mono hb1.size))
  have HS2 : Hid (tb + 2 ≤ W2.heap.size) := hidIn (by rw [← hW2, ← hW1]; simp; omega)
  have HW1 := hidIn hW1
  have HW2 := hidIn hW2
  have Htb := hidIn htb
  obtain ⟨n, hn⟩ : ∃ n, es.length = n := ⟨_, rfl⟩
  rw [hn] at c1 HV hW2 HSo HW2 hes
  have HLn : Hid (L.length = n) := hidIn hes.symm
  have Hn := hidIn hn
  have H5 := hidIn h5
  have hmf : ∀ (fn : Fn) (first cap : Array Value) (w : World), (Instr.makeFunc fn first cap).run Try.prog w = .ok (.func fn first cap) w := fun _ _ _ _ => rfl
  have HK := hidIn hK
  rw [htb]
  clear h1 h2 h3 h4 h5 h6 h7 h8 h hb1 hT1 hH1 hb2 hB2 hW1 hW2 hn hK hes
  go_enter_defers Try.func30, Try.ntmps30
  go_upto_region 2 with fail
  try rw [HW1.out]
  clear HW1 htb
  go_wp2_with fail
  refine HV.out.mono ?_
  rintro e w2 ⟨rfl, hw2⟩
  rw [hw2, HW2.out]
  clear hw2 w2 HW2 HV
  go_wp2_with fail
  refine HSo.out.mono ?_
  rintro e w3 ⟨⟨es', a, sc, q1, q2, rfl, q3⟩, hb3⟩
  have Q1 := hidIn q1
  have Q2 := hidIn q2
  have Q3 := hidIn q3
  have HB3 := hidIn hb3
  clear q1 q2 q3 hb3 HSo c1
  go_wp2_with fail
  have hsz3 : tb + 2 ≤ w3.heap.size := by
    have e1 := HB3.out.size
    have e2 : tb + 2 ≤ W2.heap.size := HS2.out
    omega
  obtain ⟨b3, hb3⟩ : ∃ b3, w3.heap.size = b3 := ⟨_, rfl⟩
  rw [hb3] at hsz3
  have Hb3 := hidIn hb3
  have HT3 := hidIn ((HB3.out.block _ (by have := HS2.out; omega)).trans HT2.out)
  have HH3 := hidIn (HH2.out.below HB3.out)
  have hn9 : n ≤ 100000 := by rw [← HLn.out]; exact hl
  clear hb3
  go_loopw [15] (fun i wr => ∃ k : Nat, k ≤ n ∧ i = .int .i64 k ∧ Hid (∃ u, wr.heap[tb]? = some (.cells #[u] 64) ∧ wr.ownsRow b3 3 1 u (refT (L.take k) kp).length (fl ic (refT (L.take k) kp)) ∧ Fr (fun j => j = tb) w3 wr)) (fun i _ => n - (intOf i).toNat)
  case atStart => exact ⟨0, Nat.zero_le _, rfl, hidIn ⟨_, HT3.out, World.ownsRow_nil _ _ _ _, Fr.refl _ _⟩⟩
  case round =>
    obtain ⟨k, hk, rfl, HR⟩ := hrel
    obtain ⟨u, r1, r2, r3⟩ := HR.out
    clear HR
    by_cases hlt : k < n
    · have hki : (k : Int) < (n : Int) := by omega
      have hk9 : (k : Int) < 100000 := by omega
      obtain ⟨gs, rfl, g1, g2, g3⟩ := Q3.out (by omega)
      have hkl : k < es'.length := by rw [Q1.out.length_eq, Hn.out]; exact hlt
      obtain ⟨e, he⟩ : ∃ e, es'[k]? = some e := ⟨es'[k], List.getElem?_eq_getElem hkl⟩
      have hLk : L[k]? = some (tg e) := by rw [← Q2.out, List.getElem?_map, he]; rfl
      have hgt : gs ≠ tb := by have := HS2.out; omega
      have c0 := (r3.cell9 (j := k) g2 hgt).trans (g3 k e he)
      obtain ⟨i, hi, hie⟩ := List.getElem_of_mem (Q1.out.mem_iff.1 (List.mem_of_getElem? he))
      have hent := HH3.out.ent i e (by rw [List.getElem?_eq_getElem hi, hie])
      have het : e.1.1 ≠ tb := fun x => by
        have h9 := HT3.out
        rw [← x, hent] at h9
        simp only [Option.some.injEq, Obj.cells.injEq] at h9
        exact absurd h9.2.1 (by decide)
      have hen := (r3.block _ (block_lt hent) het).trans hent
      have x0 := cell_of_row _ _ 0 _ _ _ hen
      have x2 := cell_of_row _ _ 2 _ _ _ hen
      simp at x0 x2
      have HX := hidIn (HK.out e.1.2.1 wr)
      have hrt := refT_snoc (L.take k) (tg e) kp
      rw [← take_snoc hLk] at hrt
      have Hrt := hidIn hrt
      have hAlt : ∀ A, e.1.1 = A → A < b3 ∧ A ≠ tb := fun A hA => by
        have h8 := block_lt hent
        have h9 := Hb3.out
        rw [hA] at h8
        exact ⟨by omega, by rw [← hA]; exact het⟩
      have R1 := hidIn r1
      have R2 := hidIn r2
      have R3 := hidIn r3
      have hrl : (refT (L.take k) kp).length ≤ k := Nat.le_trans (refT_len _ _) (by rw [List.length_take]; omega)
      obtain ⟨T, hT⟩ : ∃ T, refT (L.take k) kp = T := ⟨_, rfl⟩
      rw [hT] at R2 Hrt hrl
      clear hrt r1 r2 r3 g3 he hLk hi hie hent hen hT
      by_cases hkp : kp e.1.2.1 = true
      · rw [hkp] at HX
        have hE2 : Hid (refT (L.take (k + 1)) kp = T) := hidIn (by rw [Hrt.out, if_pos hkp])
        clear Hrt
        go_wp2_with fail
        refine HX.out.mono ?_
        rintro e9 w9 ⟨rfl, hw9⟩
        rw [hw9]
        clear hw9 w9 HX c0 x0 x2
        go_wp2
        go_roundw
        case rel => exact ⟨k + 1, by omega, by go_num, hidIn ⟨_, R1.out, by rw [hE2.out]; exact R2.out, R3.out⟩⟩
        case measure => simp [intOf]; omega
      · have hkf : kp e.1.2.1 = false := by simpa using hkp
        rw [hkf] at HX
        have hE2 : Hid (refT (L.take (k + 1)) kp = T ++ [e.2]) := hidIn (by rw [Hrt.out, if_neg hkp])
        obtain ⟨A, hA⟩ : ∃ A, e.1.1 = A := ⟨_, rfl⟩
        obtain ⟨tk, htk⟩ : ∃ tk, e.2 = tk := ⟨_, rfl⟩
        rw [hA] at c0 x0 x2 het
        rw [htk] at x2 hE2
        obtain ⟨ua, uc, rfl⟩ := row_shape R2.out
        obtain ⟨wd, hwd⟩ : ∃ wd, wr.drew = wd := ⟨_, rfl⟩
        have hwh : wd.heap = wr.heap := by rw [← hwd]; rfl
        have hFd : Fr (fun j => j = tb) w3 wd := by rw [← hwd]; exact R3.out.drew
        have d1 : wd.heap[tb]? = some (.cells #[.slice ua T.length uc] 64) := by rw [hwh]; exact R1.out
        have d2 := row_heap R2.out hwh
        have dA : wd.cell? ⟨A, 2, none⟩ = some (.int .i64 tk) := by rw [← hwd]; exact x2
        have hsd : b3 ≤ wd.heap.size := by have := hFd.size; have := Hb3.out; omega
        obtain ⟨g6, cap6, w6, hrun, hown, hlie, hgr, hb6⟩ := append_int d2 tk (by omega) hsd
        obtain ⟨wa, hwa⟩ : ∃ wa, wd.alloc (.cells #[.int .i64 tk] 3) = wa := ⟨_, rfl⟩
        have hba : RowKit.Below wd.heap.size wd wa := by rw [← hwa]; exact (Below.refl _ wd).alloc (Nat.le_refl _) _
        have hF6 : Fr (fun j => (Value.slice ua T.length uc).ownBlock = some j) wd w6 := ⟨hgr.os, hgr.tape, hgr.output, hgr.size, fun j hj hne => hgr.block j hj (fun e => hne e.symm)⟩
        have hur : ∀ j, (Value.slice ua T.length uc).ownBlock = some j → b3 ≤ j := fun j hj => (d2.lt j hj).1
        have htb3 : tb < b3 := by omega
        have hT6 := (hF6.block tb (block_lt d1) (fun e => by have := hur _ e; omega)).trans d1
        have hAd : A < wd.heap.size := block_lt_of_cell dA
        have hAb : A < b3 ∧ A ≠ tb := hAlt A hA
        have dA6 : w6.cell? ⟨A, 2, none⟩ = some (.int .i64 tk) := (hF6.cell9 hAd (fun e => by have := hur _ e; omega)).trans dA
        have dAa : wa.cell? ⟨A, 2, none⟩ = some (.int .i64 tk) := (hba.cell (p := ⟨A, 2, none⟩) hAd).trans dA
        obtain ⟨w7, hw7⟩ : ∃ w7, w6.setCell ⟨tb, 0, none⟩ (.slice (some ⟨g6, 0, none⟩) (T.length + 1) cap6) = w7 := ⟨_, rfl⟩
        have hF7 : Fr (fun j => j = tb) w6 w7 := by rw [← hw7]; exact (Fr.refl (fun j => j = tb) w6).set (p := ⟨tb, 0, none⟩) rfl _
        have dA7 : w7.cell? ⟨A, 2, none⟩ = some (.int .i64 tk) := (hF7.cell9 (block_lt_of_cell dA6) hAb.2).trans dA6
        have hg6 : b3 ≤ g6 := by
          rcases hlie with e | e
          · exact hur _ e
          · omega
        have HH7 : Hid (w7.heap[tb]? = some (.cells #[.slice (some ⟨g6, 0, none⟩) (T.length + 1) cap6] 64)) := hidIn (by rw [← hw7]; exact heap_setCell_same w6 tb 0 _ _ _ hT6)
        have HR7 : Hid (w7.ownsRow b3 3 1 (.slice (some ⟨g6, 0, none⟩) (T.length + 1) cap6) (refT (L.take (k + 1)) kp).length (fl ic (refT (L.take (k + 1)) kp))) := hidIn (by
          rw [hE2.out, List.length_append]
          exact row_fr hown hF7 (fun j hj e => by simp [Value.ownBlock] at hj; omega))
        have HF7 : Hid (Fr (fun j => j = tb) w3 w7) := hidIn (Fr.trans ⟨hF6.os.trans hFd.os, hF6.tape.trans hFd.tape, hF6.output.trans hFd.output, Nat.le_trans hFd.size hF6.size, fun j hj hs => (hF6.block j (Nat.lt_of_lt_of_le hj hFd.size) (fun e => by have := hur _ e; have := Hb3.out; omega)).trans (hFd.block j hj hs)⟩ hF7)
        have HRun : Hid ((Builtin.append_ #[64, 64] 64 #[.slice ua T.length uc, .slice (some ⟨wd.heap.size, 0, none⟩) 1 1]).run Try.prog wa = .ok (.slice (some ⟨g6, 0, none⟩) (T.length + 1) cap6) w6) := hidIn (by rw [← hwa]; exact hrun)
        have HC6 := hidIn (cell_of_row _ _ 0 _ _ _ hT6)
        have HZ6 := hidIn (frozen_new hT6 0)
        have HW7 := hidIn hw7
        have HWa := hidIn hwa
        have HWd := hidIn hwd
        have HCd := hidIn (cell_of_row _ _ 0 _ _ _ d1)
        have HCa := hidIn (cell_of_row _ _ 0 _ _ _ ((hba.block _ (block_lt d1)).trans d1))
        have HSd := hidIn (RfS.mk dA)
        have HSa := hidIn (RfS.mk dAa)
        have HS6 := hidIn (RfS.mk dA6)
        have HS7 := hidIn (RfS.mk dA7)
        clear hrun hown hlie hgr hb6 hF6 hur hT6 hF7 dA dAa dA6 dA7 d1 d2 hFd hwh hba hw7 hwa hwd hA htk R1 R2 Hrt hrl hAlt
        go_wp2_with fail
        refine HX.out.mono ?_
        rintro e9 w9 ⟨rfl, hw9⟩
        rw [hw9]
        clear hw9 w9 HX c0 x0
        go_upto_region 6 with fail
        refine wp_region_noPanic ?_
        refine wp_region_held_drew (S := fun wx => RfS A tk wx) (by kernel_rfl) (by rw [HWd.out]; exact HSd.out) (fun hHeld => ?_)
        rw [HWd.out]
        clear hHeld x2
        have hSd := HSd.out
        refine wpAnyH_take (i := 1) (v := ptr A) rfl (by kernel_rfl) (by kernel_rfl) (by kernel_rfl) (fun _ _ _ h => h) (Or.inl ⟨by kernel_rfl, fun _ _ => by kernel_rfl⟩) (by assumption) ?_
        refine wpAnyH_take (i := 2) (v := ptr A) rfl (by kernel_rfl) (by kernel_rfl) (by kernel_rfl) (fun _ _ _ h => h) (Or.inl ⟨by kernel_rfl, fun _ _ => by kernel_rfl⟩) (by assumption) ?_
        refine wpAnyH_take (i := 3) (v := .pointer (some ⟨A, 2, none⟩)) rfl (by kernel_rfl) (by kernel_rfl) (by kernel_rfl) (fun _ _ _ h => h) (Or.inl ⟨by kernel_rfl, fun _ _ => by kernel_rfl⟩) (by assumption) ?_
        refine wpAnyH_take (i := 4) (v := .int .i64 tk) rfl (by kernel_rfl) (by kernel_rfl) (by kernel_rfl) (fun _ _ _ h => h) (Or.inl ⟨by kernel_rfl, fun wq hSw => by
            have s0 := hSw.c
            go_simp⟩) (by assumption) ?_
        refine wpAnyH_ready (rs := [0, 5]) (by kernel_rfl) (by simp) ?_
        refine AllReadyH.cons (i := 0) rfl ?_ (AllReadyH.cons (i := 5) rfl ?_ AllReadyH.nil)
        · have b0 := HCd.out
          go_simp
          intro K hK
          clear b0
          refine hK.out _ _ hSd (fun _ => ?_)
          clear hK K
          refine wpAnyH_ready (rs := [5]) (by kernel_rfl) (by simp) ?_
          refine AllReadyH.cons (i := 5) rfl ?_ AllReadyH.nil
          go_simp
          intro K hK
          rw [HWa.out]
          refine hK.out _ _ HSa.out (fun _ => ?_)
          clear hK K
          refine wpAnyH_ready (rs := [6]) (by kernel_rfl) (by simp) ?_
          refine AllReadyH.cons (i := 6) rfl ?_ AllReadyH.nil
          intro K hK
          refine step_append rfl (.tmp 26) (.tmp 31) 64 rfl (by kernel_rfl) (by kernel_rfl) HRun.out ?_
          refine hK.out _ _ HS6.out (fun _ => ?_)
          clear hK K
          have b0 := HC6.out
          have b1 := HZ6.out
          refine wpAnyH_ready (rs := [7]) (by kernel_rfl) (by simp) ?_
          refine AllReadyH.cons (i := 7) rfl ?_ AllReadyH.nil
          go_simp
          intro K hK
          clear b0 b1
          rw [HW7.out]
          refine hK.out _ _ HS7.out (fun _ => ?_)
          clear hK K
          refine wpAnyH_done (by kernel_rfl) ?_ _
          refine NoPanic.normal ?_
          go_wp2
          go_roundw
          case rel => exact ⟨k + 1, by omega, by go_num, hidIn ⟨_, HH7.out, HR7.out, HF7.out⟩⟩
          case measure => simp [intOf]; omega
        · go_simp
          intro K hK
          rw [HWa.out]
          refine hK.out _ _ HSa.out (fun _ => ?_)
          clear hK K
          have b0 := HCa.out
          refine wpAnyH_ready (rs := [0]) (by kernel_rfl) (by simp) ?_
          refine AllReadyH.cons (i := 0) rfl ?_ AllReadyH.nil
          go_simp
          intro K hK
          clear b0
          refine hK.out _ _ HSa.out (fun _ => ?_)
          clear hK K
          refine wpAnyH_ready (rs := [6]) (by kernel_rfl) (by simp) ?_
          refine AllReadyH.cons (i := 6) rfl ?_ AllReadyH.nil
          intro K hK
          refine step_append rfl (.tmp 26) (.tmp 31) 64 rfl (by kernel_rfl) (by kernel_rfl) HRun.out ?_
          refine hK.out _ _ HS6.out (fun _ => ?_)
          clear hK K
          have b0 := HC6.out
          have b1 := HZ6.out
          refine wpAnyH_ready (rs := [7]) (by kernel_rfl) (by simp) ?_
          refine AllReadyH.cons (i := 7) rfl ?_ AllReadyH.nil
          go_simp
          intro K hK
          clear b0 b1
          rw [HW7.out]
          refine hK.out _ _ HS7.out (fun _ => ?_)
          clear hK K
          refine wpAnyH_done (by kernel_rfl) ?_ _
          refine NoPanic.normal ?_
          go_wp2
          go_roundw
          case rel => exact ⟨k + 1, by omega, by go_num, hidIn ⟨_, HH7.out, HR7.out, HF7.out⟩⟩
          case measure => simp [intOf]; omega
    · have hke : k = n := by omega
      have hki : ¬ ((k : Int) < (n : Int)) := by omega
      have hT9 : refT (L.take k) kp = refT L kp := by rw [hke, ← HLn.out, List.take_length]
      rw [hT9] at r2
      have c9 := cell_of_row _ _ 0 _ _ _ r1
      have f9 := frozen_new r1 0
      simp at c9
      have R1 := hidIn r1
      have R2 := hidIn r2
      have R3 := hidIn r3
      obtain ⟨ua, uc, rfl⟩ := row_shape r2
      clear r1 r2 r3 hT9 hke hk
      go_wp2_with fail
      obtain ⟨wz, hwz⟩ : ∃ wz, wr.setCell ⟨tb, 0, none⟩ (.slice ua (refT L kp).length uc) = wz := ⟨_, rfl⟩
      rw [hwz]
      have hz := heap_setCell_same wr tb 0 _ _ (.slice ua (refT L kp).length uc) R1.out
      rw [hwz] at hz
      have cz := cell_of_row _ _ 0 _ _ _ hz
      have hFz : Fr (fun j => j = tb) wr wz := by rw [← hwz]; exact (Fr.refl (fun j => j = tb) wr).set (p := ⟨tb, 0, none⟩) rfl _
      simp at cz
      refine leaves_cons (f := 33) (args := #[.pointer (some ⟨tb, 0, none⟩)]) (by simp) (by simp [go_sem]) ?_
      refine (idle_ok ⟨tb, 0, none⟩ _).mono ?_
      rintro e u' w'' ⟨rfl, rfl, rfl⟩
      have hrowz : w''.ownsRow tb 3 1 (.slice ua (refT L kp).length uc) (refT L kp).length (fl ic (refT L kp)) := row_low (row_fr R2.out hFz (fun j hj e => by have := (R2.out.lt j hj).1; omega)) (by omega)
      have hbz : RowKit.Below tb w w'' := by
        have e3 := Hb3.out
        have e4 := R3.out.size
        have h8 : RowKit.Below tb w3 wr := R3.out.below (by omega) (fun k hk => Nat.le_of_eq hk.symm)
        have h9 : RowKit.Below tb wr w'' := hFz.below (by omega) (fun k hk => Nat.le_of_eq hk.symm)
        have h10 : RowKit.Below tb w W2 := by rw [← Htb.out]; exact HB2.out
        have h11 : RowKit.Below tb w w3 := h10.trans (HB3.out.mono (by have := HS2.out; omega))
        exact (h11.trans h8).trans h9
      have HFin := hidIn (And.intro hrowz hbz)
      clear hrowz hbz hz hFz hwz c9 f9
      simp [Leaves, settle, results, Try.results30, go_sem, cz]
      exact HFin.out
theorem sl_i64' {w : World} {v : Value} {l : List Int} (h : SlAt ic 1 w v l) : ∃ a cap, v = .slice a l.length cap ∧ l.length ≤ 9223372036854775807 ∧ l.length ≤ cap ∧ (0 < l.length → ∃ bk o, a = some ⟨bk, o, none⟩ ∧ bk < w.heap.size ∧ ∀ j x, l[j]? = some x → w.cell? ⟨bk, o + j, none⟩ = some (.int .i64 x)) := by
  obtain ⟨a, cap, rfl, h1, h2, h3⟩ := h
  refine ⟨a, cap, rfl, h1, h2, fun h0 => ?_⟩
  obtain ⟨bk, o, rfl, hb, hc⟩ := h3 h0
  exact ⟨bk, o, rfl, hb, fun j x hx => by simpa using hc j x hx 0 _ rfl⟩
theorem dropAll (T : List Int) : ∀ L : List (Tg ByteArray), T.foldl dropT L = L.filter fun a => !T.contains a.2 := by
  induction T with
  | nil => intro L; exact (List.filter_eq_self.2 (fun _ _ => by simp)).symm
  | cons t T ih =>
    intro L
    rw [List.foldl_cons, ih]
    unfold dropT
    rw [List.filter_filter]
    congr 1
    funext a
    by_cases h : a.2 = t <;> simp [h]
theorem refused_left {L : List (Tg ByteArray)} (kp : ByteArray → Bool) (hL : Ord L) : (refT L kp).foldl dropT L = L.filter fun a => kp a.1.1 := by
  rw [dropAll]
  refine List.filter_congr fun a ha => ?_
  cases h : kp a.1.1
  · have : a.2 ∈ refT L kp := List.mem_map.2 ⟨a, List.mem_filter.2 ⟨ha, by rw [h]; rfl⟩, rfl⟩
    simpa using this
  · have : ¬ a.2 ∈ refT L kp := fun hm => by
      obtain ⟨b, hb, hbe⟩ := List.mem_map.1 hm
      have hb2 := List.mem_filter.1 hb
      have : b = a := nd_inj hL.nd hb2.1 ha hbe
      rw [this, h] at hb2
      simp at hb2
    simpa using this
set_option maxRecDepth 100000 in
set_option maxHeartbeats 2000000 in
theorem sift_ok {w : World} {S : Nat → Prop} {cp p kf : Nat} {lb : Array Value} {L : List (Tg ByteArray)} {kp : ByteArray → Bool} (h : Cal w S cp L p) (hp : p < 100000) (hl : L.length ≤ 100000)
    (hK : ∀ (x : ByteArray) W, Calls Try.prog kf (#[.string x] ++ lb) W fun e W' => e = .returned (.bool (kp x)) ∧ W' = W) (hE : ∀ args w, (callFunc kf args).run Try.prog w = .ok (Next.enter kf args) w) :
    Calls Try.prog 24 #[ptr cp, .func (.func kf) #[] lb] w fun e w' => e = .returned (.int .i64 (refT L kp).length) ∧ Cal w' S cp (L.filter fun a => kp a.1.1) p ∧ Fr S w w' := by
  have HT := hidIn (there_yes h.self.2.2)
  have HRf := hidIn (refused_ok h hl hK hE)
  have h0 := h.mono (T := fun k => S k ∧ k < w.heap.size) (fun k hk hs => ⟨hs, hk⟩)
  have HC := hidIn h0
  have HLe := hidIn (refused_left kp h.o)
  have HTl := hidIn (refT_len L kp)
  have HTm : Hid (∀ t ∈ refT L kp, 1 ≤ t ∧ t ≤ (p : Int)) := hidIn (fun t ht => by
    obtain ⟨b, hb, rfl⟩ := List.mem_map.1 ht
    exact h.t b (List.mem_filter.1 hb).1)
  obtain ⟨q, hq⟩ : ∃ q, w.heap.size = q := ⟨_, rfl⟩
  rw [hq] at HRf HC
  have Hq := hidIn hq
  obtain ⟨T, hT⟩ : ∃ T, refT L kp = T := ⟨_, rfl⟩
  rw [hT] at HRf HLe HTl HTm ⊢
  have hnf : ∀ wq : World, (binOp BinOp.eql 59 (.func (.func kf) #[] lb) Value.nilFunc).run Try.prog wq = .ok (.bool false) wq := fun wq => by kernel_rfl
  have ht9 : T.length ≤ 100000 := by have := HTl.out; omega
  clear h h0 hK hE hT hq
  go_enter Try.func24, Try.ntmps24
  go_wp2_with fail
  refine HT.out.mono ?_
  rintro e w1 ⟨rfl, hw1⟩
  rw [hw1]
  clear hw1 w1 HT
  go_wp2_with fail
  refine HRf.out.mono ?_
  rintro e w1 ⟨⟨v', rfl, hrow⟩, hb⟩
  obtain ⟨va, vc, rfl⟩ := row_shape hrow
  have HRow := hidIn hrow
  have HB := hidIn hb
  have s1 : q ≤ w1.heap.size := by have := hb.size; have := Hq.out; omega
  have HC1 := hidIn (HC.out.keep (T := fun j => q ≤ j) (by rw [← Hq.out]; exact ⟨hb.os, hb.tape, hb.output, hb.size, fun k hk hs => hb.block k (by have := Hq.out; omega)⟩) (fun k hk hs => by omega))
  obtain ⟨_, _, e1, _, _, hcl⟩ := sl_i64' (slAt_of_row (cs := ic) (fun _ => rfl) hrow rfl)
  simp only [Value.slice.injEq] at e1
  obtain ⟨rfl, _, rfl⟩ := e1
  have HCl := hidIn hcl
  clear hrow hb HRf hcl HC
  go_wp2_with fail
  go_loopw [20] (fun i wr => ∃ k : Nat, k ≤ T.length ∧ i = .int .i64 k ∧ Hid (Cal wr (fun k => S k ∧ k < q) cp ((T.take k).foldl dropT L) p ∧ Fr (fun k => S k ∧ k < q) w1 wr)) (fun i _ => T.length - (intOf i).toNat)
  case atStart => exact ⟨0, Nat.zero_le _, rfl, hidIn ⟨HC1.out, Fr.refl _ _⟩⟩
  case round =>
    obtain ⟨k, hk, rfl, HR⟩ := hrel
    obtain ⟨r1, r2⟩ := HR.out
    clear HR
    by_cases hlt : k < T.length
    · obtain ⟨bk, o, rfl, hbk, hc⟩ := HCl.out (by omega)
      obtain ⟨t, ht⟩ : ∃ t, T[k]? = some t := ⟨T[k], List.getElem?_eq_getElem hlt⟩
      have hbq : q ≤ bk := (HRow.out.lt bk rfl).1
      have x0 := (r2.cell9 (j := o + k) hbk (fun h => by omega)).trans (hc k t ht)
      have hki : (k : Int) < (T.length : Int) := by omega
      have hk9 : (k : Int) < 100000 := by omega
      have htm := HTm.out t (List.mem_of_getElem? ht)
      have hlen : ((T.take k).foldl dropT L).length ≤ 100000 := by rw [dropAll]; exact Nat.le_trans (List.length_filter_le _ _) hl
      have HD := hidIn (drop_ok t (wf9 (by omega)) r1 hp hlen)
      have HN : Hid ((T.take (k + 1)).foldl dropT L = dropT ((T.take k).foldl dropT L) t) := hidIn (by rw [take_snoc ht, List.foldl_append]; rfl)
      have R2 := hidIn r2
      clear hc ht r1 r2
      go_wp2_with fail
      refine HD.out.mono ?_
      rintro e w2 ⟨rfl, hC2, hF2⟩
      have C2 := hidIn hC2
      have F2 := hidIn hF2
      clear hC2 hF2 HD x0
      go_wp2
      go_roundw
      case rel => exact ⟨k + 1, by omega, by go_num, hidIn ⟨by rw [HN.out]; exact C2.out, R2.out.trans F2.out⟩⟩
      case measure => simp [intOf]; omega
    · have hke : k = T.length := by omega
      have hki : ¬ ((k : Int) < (T.length : Int)) := by omega
      rw [hke, List.take_length, HLe.out] at r1
      have R1 := hidIn (r1.mono (T := S) (fun _ _ h => h.1))
      have R2 : Hid (Fr S w wr) := hidIn (by
        have hf : Fr S w w1 := ⟨HB.out.os, HB.out.tape, HB.out.output, HB.out.size, fun k hk hs => HB.out.block k (by have := Hq.out; omega)⟩
        exact hf.trans (r2.mono (fun _ _ h => h.1)))
      clear r1 r2 hke
      go_wp2
      go_returns
      exact ⟨rfl, R1.out, R2.out⟩
end Go.Proofs.Ytaldehgggilmdaa.Ca.S
