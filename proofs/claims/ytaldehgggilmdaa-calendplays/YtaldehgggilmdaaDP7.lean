/- The calendar's refused, where keep appends to what was asked of. -/
import Derived.Test.YtaldehgggilmdaaDP6
namespace Go.Proofs.Ytaldehgggilmdaa.Ca.S
open Go.RowKit Go.Maps Go.Sort Go.Shelf

/-- Those that stay. -/
def keptK (gone x : ByteArray) : Bool := !decide (x = gone)
/-- Amid refused: what is refused, what was asked of. -/
def RfA (w3 wr : World) (tb ab gb b3 : Nat) (L : List (Tg ByteArray)) (k : Nat) (kp : ByteArray → Bool) (gone : ByteArray) : Prop :=
  ∃ u va, wr.heap[tb]? = some (.cells #[u] 64) ∧ wr.ownsRow b3 3 1 u (refT (L.take k) kp).length (fl ic (refT (L.take k) kp)) ∧ Fr (fun j => j = tb ∨ j = ab) w3 wr ∧ AskM wr ab gb b3 va ((L.take k).map fun b => b.1.1) gone ∧ ∀ j, u.ownBlock = some j → va.ownBlock ≠ some j
set_option maxRecDepth 100000 in
set_option maxHeartbeats 4000000 in
theorem refusedA_ok {w : World} {S : Nat → Prop} {cp p ab gb : Nat} {L : List (Tg ByteArray)} {gone : ByteArray} (h : Cal w S cp L p) (hl : L.length ≤ 100000)
    (hA1 : w.heap[ab]? = some (.cells #[.slice none 0 0] 36)) (hA2 : w.heap[gb]? = some (.cells #[.string gone] 9)) :
    Calls Try.prog 30 #[ptr cp, .func (.func 25) #[] #[ptr ab, ptr gb]] w fun e w' => (∃ v', e = .returned v' ∧ w'.ownsRow w.heap.size 3 1 v' (refT L (keptK gone)).length (fl ic (refT L (keptK gone)))) ∧ (∃ va, AskM w' ab gb w.heap.size va (L.map fun b => b.1.1) gone) ∧ Fr (fun j => j = ab) w w' := by
  obtain ⟨kp, hkp9⟩ : ∃ kp, keptK gone = kp := ⟨_, rfl⟩
  rw [hkp9]
  have Hkp := hidIn hkp9
  clear hkp9
  obtain ⟨v, mb, es, f, h1, h2, h3, h4, h5, h6, h7, h8⟩ := h.x
  have hes := len_is h5
  obtain ⟨tb, htb⟩ : ∃ tb, w.heap.size = tb := ⟨_, rfl⟩
  obtain ⟨W1, hW1⟩ : ∃ W1, w.alloc (.cells #[.slice none 0 0] 64) = W1 := ⟨_, rfl⟩
  have hb1 : RowKit.Below w.heap.size w W1 := by rw [← hW1]; exact (Below.refl _ w).alloc (Nat.le_refl _) _
  have hT1 : W1.heap[tb]? = some (.cells #[.slice none 0 0] 64) := by rw [← hW1, ← htb]; exact heap_alloc_last w _
  have hH1 := h1.below hb1
  have c1 := hH1.c.2.1
  obtain ⟨ad, cap, rfl, _, _⟩ := h1.slice
  have HV := hidIn (values_ok (.slice ad es.length cap) W1 ad es.length cap rfl)
  obtain ⟨W2, hW2⟩ : ∃ W2, W1.alloc (.cells #[.slice ad es.length cap] 41) = W2 := ⟨_, rfl⟩
  have hb2 : RowKit.Below W1.heap.size W1 W2 := by rw [← hW2]; exact (Below.refl _ W1).alloc (Nat.le_refl _) _
  have hB2 : W2.heap[W1.heap.size]? = some (.cells #[.slice ad es.length cap] 41) := by rw [← hW2]; exact heap_alloc_last W1 _
  have HSo := hidIn (sortedF_ok (hH1.below hb2) h5 h.o (by omega) hB2)
  have HT2 := hidIn ((hb2.block _ (block_lt hT1)).trans hT1)
  have HH2 := hidIn (hH1.below hb2)
  have HA2 : Hid (W2.heap[ab]? = some (.cells #[.slice none 0 0] 36) ∧ W2.heap[gb]? = some (.cells #[.string gone] 9) ∧ ab < tb ∧ gb < tb) := hidIn (by
    have hbb := hb1.trans (hb2.mono hb1.size)
    exact ⟨(hbb.block _ (block_lt hA1)).trans hA1, (hbb.block _ (block_lt hA2)).trans hA2, by rw [← htb]; exact block_lt hA1, by rw [← htb]; exact block_lt hA2⟩)
  have HB2 := hidIn (hb1.trans (hb2.mono hb1.size))
  have HS2 : Hid (tb + 2 ≤ W2.heap.size) := hidIn (by rw [← hW2, ← hW1]; simp; omega)
  have HW1 := hidIn hW1
  have HW2 := hidIn hW2
  have Htb := hidIn htb
  obtain ⟨n, hn⟩ : ∃ n, es.length = n := ⟨_, rfl⟩
  rw [hn] at c1 HV hW2 HSo HW2 hes
  have HLn : Hid (L.length = n) := hidIn hes.symm
  have Hn := hidIn hn
  have H5 := hidIn h5
  have hmf : ∀ (fn : Fn) (first cap : Array Value) (w : World), (Instr.makeFunc fn first cap).run Try.prog w = .ok (.func fn first cap) w := fun _ _ _ _ => rfl
  have hE : ∀ args w, (callFunc 25 args).run Try.prog w = .ok (Next.enter 25 args) w := fun args w => by kernel_rfl
  rw [htb]
  clear h1 h2 h3 h4 h5 h6 h7 h8 h hb1 hT1 hH1 hb2 hB2 hW1 hW2 hn hes hA1 hA2
  go_enter_defers Try.func30, Try.ntmps30
  go_upto_region 2 with fail
  try rw [HW1.out]
  clear HW1 htb
  go_wp2_with fail
  refine HV.out.mono ?_
  rintro e w2 ⟨rfl, hw2⟩
  rw [hw2, HW2.out]
  clear hw2 w2 HW2 HV
  go_wp2_with fail
  refine HSo.out.mono ?_
  rintro e w3 ⟨⟨es', a, sc, q1, q2, rfl, q3⟩, hb3⟩
  have Q1 := hidIn q1
  have Q2 := hidIn q2
  have Q3 := hidIn q3
  have HB3 := hidIn hb3
  clear q1 q2 q3 hb3 HSo c1
  go_wp2_with fail
  have hsz3 : tb + 2 ≤ w3.heap.size := by
    have e1 := HB3.out.size
    have e2 : tb + 2 ≤ W2.heap.size := HS2.out
    omega
  obtain ⟨b3, hb3⟩ : ∃ b3, w3.heap.size = b3 := ⟨_, rfl⟩
  rw [hb3] at hsz3
  have Hb3 := hidIn hb3
  have HT3 := hidIn ((HB3.out.block _ (by have := HS2.out; omega)).trans HT2.out)
  have HH3 := hidIn (HH2.out.below HB3.out)
  have hn9 : n ≤ 100000 := by rw [← HLn.out]; exact hl
  have HA3 : Hid (AskM w3 ab gb b3 (.slice none 0 0) [] gone ∧ ab < tb ∧ gb < tb) := hidIn (by
    have hs := HS2.out
    obtain ⟨a1, a2, a3, a4⟩ := HA2.out
    exact ⟨⟨(HB3.out.block _ (by omega)).trans a1, (HB3.out.block _ (by omega)).trans a2, World.ownsRow_nil _ _ _ _⟩, a3, a4⟩)
  clear hb3
  go_loopw [15] (fun i wr => ∃ k : Nat, k ≤ n ∧ i = .int .i64 k ∧ Hid (RfA w3 wr tb ab gb b3 L k kp gone)) (fun i _ => n - (intOf i).toNat)
  case atStart => exact ⟨0, Nat.zero_le _, rfl, hidIn ⟨_, _, HT3.out, World.ownsRow_nil _ _ _ _, Fr.refl _ _, HA3.out.1, fun j h => by simp [Value.ownBlock] at h⟩⟩
  case round =>
    obtain ⟨k, hk, rfl, HR⟩ := hrel
    obtain ⟨u, va, r1, r2, r3, ra, rd⟩ := HR.out
    clear HR
    have hab := HA3.out.2.1
    have hgb := HA3.out.2.2
    have htb3 : tb < b3 := by omega
    by_cases hlt : k < n
    · have hki : (k : Int) < (n : Int) := by omega
      have hk9 : (k : Int) < 100000 := by omega
      obtain ⟨gs, rfl, g1, g2, g3⟩ := Q3.out (by omega)
      have hkl : k < es'.length := by rw [Q1.out.length_eq, Hn.out]; exact hlt
      obtain ⟨e, he⟩ : ∃ e, es'[k]? = some e := ⟨es'[k], List.getElem?_eq_getElem hkl⟩
      have hLk : L[k]? = some (tg e) := by rw [← Q2.out, List.getElem?_map, he]; rfl
      have hgt : gs ≠ tb := by have := HS2.out; omega
      have hga : gs ≠ ab := by have := HS2.out; omega
      have c0 := (r3.cell9 (j := k) g2 (fun h => h.elim hgt hga)).trans (g3 k e he)
      obtain ⟨i, hi, hie⟩ := List.getElem_of_mem (Q1.out.mem_iff.1 (List.mem_of_getElem? he))
      have hent := HH3.out.ent i e (by rw [List.getElem?_eq_getElem hi, hie])
      have het : e.1.1 ≠ tb := fun x => by
        have h9 := HT3.out
        rw [← x, hent] at h9
        simp only [Option.some.injEq, Obj.cells.injEq] at h9
        exact absurd h9.2.1 (by decide)
      have hea : e.1.1 ≠ ab := fun x => by
        have h9 := HA3.out.1.c
        rw [← x, hent] at h9
        simp only [Option.some.injEq, Obj.cells.injEq] at h9
        exact absurd h9.2.1 (by decide)
      have hen := (r3.block _ (block_lt hent) (fun h => h.elim het hea)).trans hent
      have x0 := cell_of_row _ _ 0 _ _ _ hen
      have x2 := cell_of_row _ _ 2 _ _ _ hen
      simp at x0 x2
      have hasz : b3 ≤ wr.heap.size := by have := r3.size; have := Hb3.out; omega
      have hkl9 : ((L.take k).map fun b => b.1.1).length ≤ 200000 := by rw [List.length_map, List.length_take]; omega
      have HX := hidIn (keep_ok ra (by omega) (by omega) hkl9 hasz e.1.2.1)
      have hask : (L.take (k + 1)).map (fun b => b.1.1) = (L.take k).map (fun b => b.1.1) ++ [e.1.2.1] := by rw [take_snoc hLk, List.map_append]; rfl
      have Hask := hidIn hask
      rw [show (!decide (e.1.2.1 = gone)) = kp e.1.2.1 from by rw [← Hkp.out]; rfl] at HX
      have hrt := refT_snoc (L.take k) (tg e) kp
      rw [← take_snoc hLk] at hrt
      have Hrt := hidIn hrt
      have hAlt : ∀ A, e.1.1 = A → A < b3 ∧ A ≠ tb ∧ A ≠ ab := fun A hA => by
        have h8 := block_lt hent
        have h9 := Hb3.out
        rw [hA] at h8
        exact ⟨by omega, by rw [← hA]; exact het, by rw [← hA]; exact hea⟩
      have R1 := hidIn r1
      have R2 := hidIn r2
      have R3 := hidIn r3
      have Ra := hidIn ra
      have Rd := hidIn rd
      have HAlt := hidIn hAlt
      have hrl : (refT (L.take k) kp).length ≤ k := Nat.le_trans (refT_len _ _) (by rw [List.length_take]; omega)
      obtain ⟨T, hT⟩ : ∃ T, refT (L.take k) kp = T := ⟨_, rfl⟩
      rw [hT] at R2 Hrt hrl
      clear hrt r1 r2 r3 ra rd g3 he hLk hi hie hent hen hT hask hAlt hkl9 hasz
      by_cases hkp : kp e.1.2.1 = true
      · rw [hkp] at HX
        have hE2 : Hid (refT (L.take (k + 1)) kp = T) := hidIn (by rw [Hrt.out, if_pos hkp])
        clear Hrt
        go_wp2_with fail
        refine HX.out.mono ?_
        rintro e9 w9 ⟨rfl, hw9⟩
        obtain ⟨va9, a1, a2, a3⟩ := hw9
        have hva : ∀ j, va.ownBlock = some j → b3 ≤ j := fun j hj => (Ra.out.r.lt j hj).1
        have hub : ∀ j, u.ownBlock = some j → b3 ≤ j ∧ j < wr.heap.size := fun j hj => R2.out.lt j hj
        have k1 := (a3.block tb (block_lt R1.out) (fun h => h.elim (fun e => by omega) (fun e => by have := hva _ e; omega))).trans R1.out
        have k2 := row_fr R2.out a3 (fun j hj h => h.elim (fun e => by have := (hub j hj).1; omega) (fun e => Rd.out j hj e))
        have k3 : Fr (fun j => j = tb ∨ j = ab) w3 w9 := ⟨a3.os.trans R3.out.os, a3.tape.trans R3.out.tape, a3.output.trans R3.out.output, Nat.le_trans R3.out.size a3.size, fun j hj hs => (a3.block j (Nat.lt_of_lt_of_le hj R3.out.size) (fun h => h.elim (fun e => hs (.inr e)) (fun e => by have := hva _ e; have := Hb3.out; omega))).trans (R3.out.block j hj hs)⟩
        have k4 : ∀ j, u.ownBlock = some j → va9.ownBlock ≠ some j := fun j hj e => by
          rcases a2 j e with h | h
          · exact Rd.out j hj h
          · have := (hub j hj).2
            omega
        rw [← Hask.out] at a1
        have HRel : Hid (RfA w3 w9 tb ab gb b3 L (k + 1) kp gone) := hidIn ⟨u, va9, k1, by rw [hE2.out]; exact k2, k3, a1, k4⟩
        clear k1 k2 k3 k4 a1 a2 a3 hva hub HX c0 x0 x2
        go_wp2
        go_roundw
        case rel => exact ⟨k + 1, by omega, by go_num, HRel⟩
        case measure => simp [intOf]; omega
      · have hkf : kp e.1.2.1 = false := by simpa using hkp
        rw [hkf] at HX
        have hE2 : Hid (refT (L.take (k + 1)) kp = T ++ [e.2]) := hidIn (by rw [Hrt.out, if_neg hkp])
        obtain ⟨A, hA⟩ : ∃ A, e.1.1 = A := ⟨_, rfl⟩
        rw [hA] at c0 x0 x2
        go_wp2_with fail
        refine HX.out.mono ?_
        rintro e9 w9 ⟨rfl, hw9⟩
        obtain ⟨va9, a1, a2, a3⟩ := hw9
        have hva : ∀ j, va.ownBlock = some j → b3 ≤ j := fun j hj => (Ra.out.r.lt j hj).1
        have hub : ∀ j, u.ownBlock = some j → b3 ≤ j ∧ j < wr.heap.size := fun j hj => R2.out.lt j hj
        have k1 := (a3.block tb (block_lt R1.out) (fun h => h.elim (fun e => by omega) (fun e => by have := hva _ e; omega))).trans R1.out
        have k2 := row_fr R2.out a3 (fun j hj h => h.elim (fun e => by have := (hub j hj).1; omega) (fun e => Rd.out j hj e))
        have k3 : Fr (fun j => j = tb ∨ j = ab) w3 w9 := ⟨a3.os.trans R3.out.os, a3.tape.trans R3.out.tape, a3.output.trans R3.out.output, Nat.le_trans R3.out.size a3.size, fun j hj hs => (a3.block j (Nat.lt_of_lt_of_le hj R3.out.size) (fun h => h.elim (fun e => hs (.inr e)) (fun e => by have := hva _ e; have := Hb3.out; omega))).trans (R3.out.block j hj hs)⟩
        have k4 : ∀ j, u.ownBlock = some j → va9.ownBlock ≠ some j := fun j hj e => by
          rcases a2 j e with h | h
          · exact Rd.out j hj h
          · have := (hub j hj).2
            omega
        rw [← Hask.out] at a1
        obtain ⟨tk, htk⟩ : ∃ tk, e.2 = tk := ⟨_, rfl⟩
        have hAl := HAlt.out A hA
        have x29 := (a3.cell9 (j := 2) (block_lt_of_cell x2) (fun h => h.elim hAl.2.2 (fun e => absurd hAl.1 (Nat.not_lt.2 (hva _ e))))).trans x2
        rw [htk] at x29 hE2
        obtain ⟨ua, uc, rfl⟩ := row_shape k2
        obtain ⟨wd, hwd⟩ : ∃ wd, w9.drew = wd := ⟨_, rfl⟩
        have hwh : wd.heap = w9.heap := by rw [← hwd]; rfl
        have hFd : Fr (fun j => j = tb ∨ j = ab) w3 wd := by rw [← hwd]; exact k3.drew
        have hFd0 : Fr (fun _ => False) w9 wd := by rw [← hwd]; exact (Fr.refl _ w9).drew
        have d1 : wd.heap[tb]? = some (.cells #[.slice ua T.length uc] 64) := by rw [hwh]; exact k1
        have d2 := row_heap k2 hwh
        have dA : wd.cell? ⟨A, 2, none⟩ = some (.int .i64 tk) := by rw [← hwd]; exact x29
        have hsd : b3 ≤ wd.heap.size := by have := hFd.size; have := Hb3.out; omega
        obtain ⟨g6, cap6, w6, hrun, hown, hlie, hgr, hb6⟩ := append_int d2 tk (by omega) hsd
        obtain ⟨wa, hwa⟩ : ∃ wa, wd.alloc (.cells #[.int .i64 tk] 3) = wa := ⟨_, rfl⟩
        have hba : RowKit.Below wd.heap.size wd wa := by rw [← hwa]; exact (Below.refl _ wd).alloc (Nat.le_refl _) _
        have hF6 : Fr (fun j => (Value.slice ua T.length uc).ownBlock = some j) wd w6 := ⟨hgr.os, hgr.tape, hgr.output, hgr.size, fun j hj hne => hgr.block j hj (fun e => hne e.symm)⟩
        have hur : ∀ j, (Value.slice ua T.length uc).ownBlock = some j → b3 ≤ j := fun j hj => (d2.lt j hj).1
        have htb3 : tb < b3 := by omega
        have hT6 := (hF6.block tb (block_lt d1) (fun e => by have := hur _ e; omega)).trans d1
        have hAd : A < wd.heap.size := block_lt_of_cell dA
        have hAb : A < b3 ∧ A ≠ tb := ⟨hAl.1, hAl.2.1⟩
        have dA6 : w6.cell? ⟨A, 2, none⟩ = some (.int .i64 tk) := (hF6.cell9 hAd (fun e => by have := hur _ e; omega)).trans dA
        have dAa : wa.cell? ⟨A, 2, none⟩ = some (.int .i64 tk) := (hba.cell (p := ⟨A, 2, none⟩) hAd).trans dA
        obtain ⟨w7, hw7⟩ : ∃ w7, w6.setCell ⟨tb, 0, none⟩ (.slice (some ⟨g6, 0, none⟩) (T.length + 1) cap6) = w7 := ⟨_, rfl⟩
        have hF7 : Fr (fun j => j = tb) w6 w7 := by rw [← hw7]; exact (Fr.refl (fun j => j = tb) w6).set (p := ⟨tb, 0, none⟩) rfl _
        have dA7 : w7.cell? ⟨A, 2, none⟩ = some (.int .i64 tk) := (hF7.cell9 (block_lt_of_cell dA6) hAb.2).trans dA6
        have hg6 : b3 ≤ g6 := by
          rcases hlie with e | e
          · exact hur _ e
          · omega
        have HH7 : Hid (w7.heap[tb]? = some (.cells #[.slice (some ⟨g6, 0, none⟩) (T.length + 1) cap6] 64)) := hidIn (by rw [← hw7]; exact heap_setCell_same w6 tb 0 _ _ _ hT6)
        have HR7 : Hid (w7.ownsRow b3 3 1 (.slice (some ⟨g6, 0, none⟩) (T.length + 1) cap6) (refT (L.take (k + 1)) kp).length (fl ic (refT (L.take (k + 1)) kp))) := hidIn (by
          rw [hE2.out, List.length_append]
          exact row_fr hown hF7 (fun j hj e => by simp [Value.ownBlock] at hj; omega))
        have HF7 : Hid (Fr (fun j => j = tb ∨ j = ab) w3 w7) := hidIn (Fr.trans ⟨hF6.os.trans hFd.os, hF6.tape.trans hFd.tape, hF6.output.trans hFd.output, Nat.le_trans hFd.size hF6.size, fun j hj hs => (hF6.block j (Nat.lt_of_lt_of_le hj hFd.size) (fun e => by have := hur _ e; have := Hb3.out; omega)).trans (hFd.block j hj hs)⟩ (hF7.mono (fun _ _ h => .inl h)))
        have HA7 : Hid (AskM w7 ab gb b3 va9 ((L.take (k + 1)).map fun b => b.1.1) gone) := hidIn (by
          have hv9 : ∀ j, va9.ownBlock = some j → b3 ≤ j := fun j hj => (a1.r.lt j hj).1
          refine ((a1.fr hFd0 (fun h => h) (fun h => h) (fun _ _ h => h)).fr hF6 (fun e => ?_) (fun e => ?_) (fun j hj e => k4 j e hj)).fr hF7 (by omega) (by omega) (fun j hj e => by have := hv9 j hj; omega)
          · have := hur _ e; omega
          · have := hur _ e; omega)
        have HD7 : Hid (∀ j, (Value.slice (some ⟨g6, 0, none⟩) (T.length + 1) cap6).ownBlock = some j → va9.ownBlock ≠ some j) := hidIn (fun j hj e => by
          simp [Value.ownBlock] at hj
          subst hj
          rcases hlie with h | h
          · exact k4 _ h e
          · have h1 := (a1.r.lt _ e).2
            have h2 := congrArg Array.size hwh
            omega)
        have HRun : Hid ((Builtin.append_ #[64, 64] 64 #[.slice ua T.length uc, .slice (some ⟨wd.heap.size, 0, none⟩) 1 1]).run Try.prog wa = .ok (.slice (some ⟨g6, 0, none⟩) (T.length + 1) cap6) w6) := hidIn (by rw [← hwa]; exact hrun)
        have HC6 := hidIn (cell_of_row _ _ 0 _ _ _ hT6)
        have HZ6 := hidIn (frozen_new hT6 0)
        have HW7 := hidIn hw7
        have HWa := hidIn hwa
        have HWd := hidIn hwd
        have HCd := hidIn (cell_of_row _ _ 0 _ _ _ d1)
        have HCa := hidIn (cell_of_row _ _ 0 _ _ _ ((hba.block _ (block_lt d1)).trans d1))
        have HSd := hidIn (RfS.mk dA)
        have HSa := hidIn (RfS.mk dAa)
        have HS6 := hidIn (RfS.mk dA6)
        have HS7 := hidIn (RfS.mk dA7)
        clear hrun hown hlie hgr hb6 hF6 hur hT6 hF7 dA dAa dA6 dA7 d1 d2 hFd hwh hba hw7 hwa hwd hA htk R1 R2 Hrt hrl k1 k2 k3 k4 a1 a2 a3 hva hub hFd0 hAl x29
        clear HX c0 x0 x2
        go_upto_region 6 with fail
        refine wp_region_noPanic ?_
        refine wp_region_held_drew (S := fun wx => RfS A tk wx) (by kernel_rfl) (by rw [HWd.out]; exact HSd.out) (fun hHeld => ?_)
        rw [HWd.out]
        clear hHeld
        have hSd := HSd.out
        refine wpAnyH_take (i := 1) (v := ptr A) rfl (by kernel_rfl) (by kernel_rfl) (by kernel_rfl) (fun _ _ _ h => h) (Or.inl ⟨by kernel_rfl, fun _ _ => by kernel_rfl⟩) (by assumption) ?_
        refine wpAnyH_take (i := 2) (v := ptr A) rfl (by kernel_rfl) (by kernel_rfl) (by kernel_rfl) (fun _ _ _ h => h) (Or.inl ⟨by kernel_rfl, fun _ _ => by kernel_rfl⟩) (by assumption) ?_
        refine wpAnyH_take (i := 3) (v := .pointer (some ⟨A, 2, none⟩)) rfl (by kernel_rfl) (by kernel_rfl) (by kernel_rfl) (fun _ _ _ h => h) (Or.inl ⟨by kernel_rfl, fun _ _ => by kernel_rfl⟩) (by assumption) ?_
        refine wpAnyH_take (i := 4) (v := .int .i64 tk) rfl (by kernel_rfl) (by kernel_rfl) (by kernel_rfl) (fun _ _ _ h => h) (Or.inl ⟨by kernel_rfl, fun wq hSw => by
            have s0 := hSw.c
            go_simp⟩) (by assumption) ?_
        refine wpAnyH_ready (rs := [0, 5]) (by kernel_rfl) (by simp) ?_
        refine AllReadyH.cons (i := 0) rfl ?_ (AllReadyH.cons (i := 5) rfl ?_ AllReadyH.nil)
        · have b0 := HCd.out
          go_simp
          intro K hK
          clear b0
          refine hK.out _ _ hSd (fun _ => ?_)
          clear hK K
          refine wpAnyH_ready (rs := [5]) (by kernel_rfl) (by simp) ?_
          refine AllReadyH.cons (i := 5) rfl ?_ AllReadyH.nil
          go_simp
          intro K hK
          rw [HWa.out]
          refine hK.out _ _ HSa.out (fun _ => ?_)
          clear hK K
          refine wpAnyH_ready (rs := [6]) (by kernel_rfl) (by simp) ?_
          refine AllReadyH.cons (i := 6) rfl ?_ AllReadyH.nil
          intro K hK
          refine step_append rfl (.tmp 26) (.tmp 31) 64 rfl (by kernel_rfl) (by kernel_rfl) HRun.out ?_
          refine hK.out _ _ HS6.out (fun _ => ?_)
          clear hK K
          have b0 := HC6.out
          have b1 := HZ6.out
          refine wpAnyH_ready (rs := [7]) (by kernel_rfl) (by simp) ?_
          refine AllReadyH.cons (i := 7) rfl ?_ AllReadyH.nil
          go_simp
          intro K hK
          clear b0 b1
          rw [HW7.out]
          refine hK.out _ _ HS7.out (fun _ => ?_)
          clear hK K
          refine wpAnyH_done (by kernel_rfl) ?_ _
          refine NoPanic.normal ?_
          go_wp2
          go_roundw
          case rel => exact ⟨k + 1, by omega, by go_num, hidIn ⟨_, _, HH7.out, HR7.out, HF7.out, HA7.out, HD7.out⟩⟩
          case measure => simp [intOf]; omega
        · go_simp
          intro K hK
          rw [HWa.out]
          refine hK.out _ _ HSa.out (fun _ => ?_)
          clear hK K
          have b0 := HCa.out
          refine wpAnyH_ready (rs := [0]) (by kernel_rfl) (by simp) ?_
          refine AllReadyH.cons (i := 0) rfl ?_ AllReadyH.nil
          go_simp
          intro K hK
          clear b0
          refine hK.out _ _ HSa.out (fun _ => ?_)
          clear hK K
          refine wpAnyH_ready (rs := [6]) (by kernel_rfl) (by simp) ?_
          refine AllReadyH.cons (i := 6) rfl ?_ AllReadyH.nil
          intro K hK
          refine step_append rfl (.tmp 26) (.tmp 31) 64 rfl (by kernel_rfl) (by kernel_rfl) HRun.out ?_
          refine hK.out _ _ HS6.out (fun _ => ?_)
          clear hK K
          have b0 := HC6.out
          have b1 := HZ6.out
          refine wpAnyH_ready (rs := [7]) (by kernel_rfl) (by simp) ?_
          refine AllReadyH.cons (i := 7) rfl ?_ AllReadyH.nil
          go_simp
          intro K hK
          clear b0 b1
          rw [HW7.out]
          refine hK.out _ _ HS7.out (fun _ => ?_)
          clear hK K
          refine wpAnyH_done (by kernel_rfl) ?_ _
          refine NoPanic.normal ?_
          go_wp2
          go_roundw
          case rel => exact ⟨k + 1, by omega, by go_num, hidIn ⟨_, _, HH7.out, HR7.out, HF7.out, HA7.out, HD7.out⟩⟩
          case measure => simp [intOf]; omega
    · have hke : k = n := by omega
      have hki : ¬ ((k : Int) < (n : Int)) := by omega
      have hT9 : refT (L.take k) kp = refT L kp := by rw [hke, ← HLn.out, List.take_length]
      rw [hT9] at r2
      have c9 := cell_of_row _ _ 0 _ _ _ r1
      have f9 := frozen_new r1 0
      simp at c9
      have R1 := hidIn r1
      have R2 := hidIn r2
      have R3 := hidIn r3
      obtain ⟨ua, uc, rfl⟩ := row_shape r2
      rw [show L.take k = L from by rw [hke, ← HLn.out, List.take_length]] at ra
      have Ra := hidIn ra
      clear r1 r2 r3 ra rd hT9 hke hk
      go_wp2_with fail
      obtain ⟨wz, hwz⟩ : ∃ wz, wr.setCell ⟨tb, 0, none⟩ (.slice ua (refT L kp).length uc) = wz := ⟨_, rfl⟩
      rw [hwz]
      have hz := heap_setCell_same wr tb 0 _ _ (.slice ua (refT L kp).length uc) R1.out
      rw [hwz] at hz
      have cz := cell_of_row _ _ 0 _ _ _ hz
      have hFz : Fr (fun j => j = tb) wr wz := by rw [← hwz]; exact (Fr.refl (fun j => j = tb) wr).set (p := ⟨tb, 0, none⟩) rfl _
      simp at cz
      refine leaves_cons (f := 33) (args := #[.pointer (some ⟨tb, 0, none⟩)]) (by simp) (by simp [go_sem]) ?_
      refine (idle_ok ⟨tb, 0, none⟩ _).mono ?_
      rintro e u' w'' ⟨rfl, rfl, rfl⟩
      have hrowz : w''.ownsRow tb 3 1 (.slice ua (refT L kp).length uc) (refT L kp).length (fl ic (refT L kp)) := row_low (row_fr R2.out hFz (fun j hj e => by have := (R2.out.lt j hj).1; omega)) (by omega)
      have hbz : (∃ va, AskM w'' ab gb tb va (L.map fun b => b.1.1) gone) ∧ Fr (fun j => j = ab) w w'' := by
        have e3 := Hb3.out
        have e4 := R3.out.size
        refine ⟨⟨va, ?_⟩, ?_⟩
        · have h := Ra.out.fr hFz (by omega) (by omega) (fun j hj e => by have := (Ra.out.r.lt j hj).1; omega)
          exact ⟨h.c, h.g, row_low h.r (by omega)⟩
        · have h10 : RowKit.Below tb w W2 := by rw [← Htb.out]; exact HB2.out
          have h11 : RowKit.Below tb w w3 := h10.trans (HB3.out.mono (by have := HS2.out; omega))
          refine ⟨hFz.os.trans (R3.out.os.trans h11.os), hFz.tape.trans (R3.out.tape.trans h11.tape), hFz.output.trans (R3.out.output.trans h11.output), Nat.le_trans h11.size (Nat.le_trans e4 hFz.size), fun j hj hs => ?_⟩
          have hjt : j < tb := by rw [← Htb.out]; exact hj
          exact (hFz.block j (by omega) (by omega)).trans ((R3.out.block j (by omega) (fun h => h.elim (fun e => by omega) hs)).trans (h11.block j hjt))
      have HFin := hidIn (And.intro hrowz hbz)
      clear hrowz hbz hz hFz hwz c9 f9
      simp [Leaves, settle, results, Try.results30, go_sem, cz]
      exact HFin.out
end Go.Proofs.Ytaldehgggilmdaa.Ca.S
