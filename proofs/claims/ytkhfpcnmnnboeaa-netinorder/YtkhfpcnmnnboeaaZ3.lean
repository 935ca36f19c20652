/- net: New. net: == of messages, fates, neighbours, links; one; the net's calls, where the net lies outside of the law's blocks. net: three routers in a row; works. NetInOrder, in lists: what is on its way, in the order in which it was sent. NetInOrder: the law's walk. NetInOrder: a list of small numbers as an argument. -/
import Derived.Test.YtkhfpcnmnnboeaaZ2
import Derived.Laws.BytesArg
import Derived.Test.YtkhfpcnmnnboeaaGH
namespace Go.Proofs.Ytkhfpcnmnnboeaa.Nt
open Go.RowKit Go.Proofs.Ytkhfpcnmnnboeaa.Fa

theorem rok_all : ∀ (ns : List Int) (f : Nat → Bool), rOk f ns = true → ∀ n ∈ ns, isR n = true
  | [], _, _, n, hn => by simp at hn
  | x :: ns, f, h, n, hn => by
    simp [rOk] at h
    rcases List.mem_cons.1 hn with rfl | hn
    · exact h.1
    · exact rok_all ns _ h.2.2 n hn
theorem rF_zero9 : ∀ (ns : List Int) (f : Nat → Bool), (∀ n ∈ ns, isR n = true) → f 0 = false → rF f ns 0 = false
  | [], _, _, h0 => h0
  | x :: ns, f, h, h0 => by
    show rF (mk1 f x.toNat) ns 0 = false
    refine rF_zero9 ns _ (fun n hn => h n (List.mem_cons_of_mem _ hn)) ?_
    have hx := isR_iff.1 (h x (List.mem_cons_self ..))
    unfold mk1
    rw [if_neg (by omega)]
    exact h0
/-- Both are routers, unlike. -/
def pOk (a b : Nat) : Prop := (1 ≤ a ∧ a ≤ 24) ∧ (1 ≤ b ∧ b ≤ 24) ∧ a ≠ b
theorem lk_bd9 (F : Nat → Bool) : ∀ (ls : List Ed) (c : Nat → Nat → Int), (∀ a b, c a b ≠ 0 → pOk a b) → lkC F c ls = 0 → ∀ a b, lkF c ls a b ≠ 0 → pOk a b
  | [], _, h, _ => h
  | k :: ls, c, h, h0 => by
    cases hk : lkOk F k
    · rw [lkC_bad hk] at h0; omega
    · by_cases hz : c k.1.toNat k.2.1.toNat = 0
      · rw [lkC_on hk hz] at h0
        show ∀ a b, lkF (put4 c k) ls a b ≠ 0 → pOk a b
        refine lk_bd9 F ls _ (fun a b hab => ?_) h0
        obtain ⟨p1, p2, _, _, p3, _⟩ := lkOk_parts hk
        unfold put4 put2 at hab
        by_cases e1 : a = k.2.1.toNat ∧ b = k.1.toNat
        · exact ⟨by omega, by omega, by omega⟩
        · rw [if_neg e1] at hab
          by_cases e2 : a = k.1.toNat ∧ b = k.2.1.toNat
          · exact ⟨by omega, by omega, by omega⟩
          · rw [if_neg e2] at hab
            exact h a b hab
      · rw [lkC_busy hk hz] at h0; omega
theorem of_parts {ns : List Int} {ls : List Ed} (h : ofC ns ls = 0) : rOk no1 ns = true ∧ ls.length ≤ 48 ∧ lkC (rF no1 ns) no2 ls = 0 := by
  unfold ofC at h
  by_cases h1 : rOk no1 ns = true
  · rw [if_pos h1] at h
    by_cases h2 : ls.length ≤ 48
    · rw [if_pos h2] at h
      exact ⟨h1, h2, h⟩
    · rw [if_neg h2] at h; omega
  · rw [if_neg h1] at h; omega
theorem ofN_bd {ns : List Int} {ls : List Ed} (h : ofC ns ls = 0) : (∀ x ∈ ofN ns ls, 1 ≤ x ∧ x ≤ 24) ∧ (ofN ns ls).length ≤ 25 := by
  have hp := of_parts h
  have h0 := rF_zero9 ns no1 (rok_all ns no1 hp.1) rfl
  unfold ofN
  rw [if_pos h]
  unfold markedL
  refine ⟨fun x hx => ?_, ?_⟩
  · obtain ⟨i, hi, rfl⟩ := List.mem_map.1 hx
    obtain ⟨h1, h2⟩ := List.mem_filter.1 hi
    rw [List.mem_range] at h1
    have : i ≠ 0 := fun e => by rw [e, h0] at h2; cases h2
    omega
  · rw [List.length_map]
    exact Nat.le_trans (List.length_filter_le _ _) (by simp)
theorem laidE_mem {c : Nat → Nat → Int} {e : Ed} (h : e ∈ laidE c) : ∃ a b : Nat, e = ((a : Int), (b : Int), c a b) ∧ 0 < c a b := by
  unfold laidE at h
  obtain ⟨a, _, h1⟩ := List.mem_flatMap.1 h
  unfold rowE at h1
  obtain ⟨b, h2, rfl⟩ := List.mem_map.1 h1
  have h3 := (List.mem_filter.1 h2).2
  simp at h3
  exact ⟨a, b, rfl, h3.1⟩
theorem rows_len (c : Nat → Nat → Int) : ∀ l : List Nat, (l.flatMap fun a => rowE c a (List.range 25)).length ≤ l.length * 25
  | [] => by simp
  | a :: l => by
    have h1 : (rowE c a (List.range 25)).length ≤ 25 := by
      unfold rowE
      rw [List.length_map]
      exact Nat.le_trans (List.length_filter_le _ _) (by simp)
    have h2 := rows_len c l
    rw [List.flatMap_cons, List.length_append, List.length_cons]
    omega
theorem ofE_bd {ns : List Int} {ls : List Ed} (h : ofC ns ls = 0) : (∀ x ∈ ofE ns ls, (1 ≤ x.1 ∧ x.1 ≤ 24) ∧ (1 ≤ x.2.1 ∧ x.2.1 ≤ 24) ∧ x.1 ≠ x.2.1) ∧ (ofE ns ls).length ≤ 1000 := by
  have hp := of_parts h
  unfold ofE
  rw [if_pos h]
  refine ⟨fun x hx => ?_, ?_⟩
  · obtain ⟨a, b, rfl, h1⟩ := laidE_mem hx
    obtain ⟨q1, q2, q3⟩ := lk_bd9 _ ls no2 (fun a b hab => absurd rfl hab) hp.2.2 a b (by omega)
    dsimp only
    omega
  · have := rows_len (lkF no2 ls) (List.range 25)
    unfold laidE
    simp at this ⊢
    omega
/-- A new net. -/
def newN (ns : List Int) (ls : List Ed) (R : List Ru) (lt : Int) : Nv := { V := ofN ns ls, E := ofE ns ls, lt := lt, R := R, A := no2, L := [], p := 0, q := 0, C := fun _ => false, st := no1, now := 0 }
theorem new_nvOk {ns : List Int} {ls : List Ed} {R : List Ru} {lt : Int} (h : ofC ns ls = 0) (hl : 1 ≤ lt ∧ lt ≤ 64) (hR : RsOk R) : NvOk (newN ns ls R lt) 0 :=
  ⟨(ofN_bd h).1, (ofN_bd h).2, (ofE_bd h).1, (ofE_bd h).2, hl, Nat.zero_le _, Nat.le_refl _, fun _ _ => ⟨Int.le_refl _, by show (0 : Int) ≤ _; omega⟩, ⟨Int.le_refl _, by show (0 : Int) ≤ _; omega⟩, (fun b hb => nomatch hb), Nat.zero_le _, hR⟩
theorem builtNt (lt : Int) (P m cp cm : Nat) (nv ev : Value) (hn : ∃ a n c, nv = .slice a n c) (he : ∃ a n c, ev = .slice a n c) : Try.prog.built 76 [(1, grV nv ev), (2, .int .i64 lt), (3, pp P), (4, pp cp), (5, .map (some cm))] = some (ntV nilQ ⟨P, m, cp, cm, nv, ev⟩ lt no1 0).toArray := by
  obtain ⟨a, n, c, rfl⟩ := hn
  obtain ⟨a2, n2, c2, rfl⟩ := he
  kernel_rfl
theorem net_made {w5 : World} {B a b P m cp cm : Nat} {nv ev : Value} {ns : List Int} {ls : List Ed} {R : List Ru} {lt : Int} {S : Nat → Prop} (hv : w5.ownsRow B 3 1 nv (ofN ns ls).length (fl ic (ofN ns ls))) (he : w5.ownsRow B 64 3 ev (ofE ns ls).length (fl ec (ofE ns ls)))
    (hva : ∀ j, nv.ownBlock = some j → j < a) (hea : ∀ j, ev.ownBlock = some j → j < a) (hp : PlAt w5 P m R no2) (hBa : B ≤ a) (hP : a ≤ P ∧ P < b) (hm : a ≤ m ∧ m < b) (hca : Ca.A.Cal w5 S cp [] 0) (hS : ∀ j, S j → b ≤ j ∧ j < w5.heap.size) (hcu : MpC w5 cm 0 (fun _ => false)) (hcb : b ≤ cm) (hSc : ¬ S cm) (Z : Nat → Prop) (hZ : ∀ j, Z j → j < B) :
    NetZ ((w5.alloc (.cells (ntV nilQ ⟨P, m, cp, cm, nv, ev⟩ lt no1 0).toArray 76)).setCell ⟨w5.heap.size, 0, none⟩ (pp w5.heap.size)) Z w5.heap.size (newN ns ls R lt) := by
  obtain ⟨W6, hW6⟩ : ∃ W6, w5.alloc (.cells (ntV nilQ ⟨P, m, cp, cm, nv, ev⟩ lt no1 0).toArray 76) = W6 := ⟨_, rfl⟩
  have b6 : Below w5.heap.size w5 W6 := by rw [← hW6]; exact (Below.refl _ w5).alloc (Nat.le_refl _) _
  have hA : Arr W6 w5.heap.size 76 (ntV nilQ ⟨P, m, cp, cm, nv, ev⟩ lt no1 0) := by rw [← hW6]; exact arr_new w5 _ _
  rw [hW6]
  have hb7 : NtB (W6.setCell ⟨w5.heap.size, 0, none⟩ (pp w5.heap.size)) w5.heap.size ⟨P, m, cp, cm, nv, ev⟩ lt no1 0 := hA.set 0 (pp w5.heap.size)
  have hF : Fr (fun j => j = w5.heap.size) w5 (W6.setCell ⟨w5.heap.size, 0, none⟩ (pp w5.heap.size)) := ((Fr.of_below (S := fun j => j = w5.heap.size) b6)).set (p := ⟨w5.heap.size, 0, none⟩) rfl _
  have hPl := hp.b.lt
  have hml := hp.m.lt
  have hcl := hcu.lt
  have hsz := hF.size
  have hne := hp.ne
  refine ⟨⟨⟨P, m, cp, cm, nv, ev⟩, S, ⟨hb7, row_low (row_fr hv hF (fun j hj e => by have := (hv.lt j hj).2; omega)) (Nat.zero_le _), row_low (row_fr he hF (fun j hj e => by have := (he.lt j hj).2; omega)) (Nat.zero_le _), hp.keep hF (by omega) (by omega), hca.keep hF (fun k hk e => by have := hS k hk; omega), hcu.keep hF (by omega), ?_⟩, fun j hj hz => ?_, fun j hj => by have := hS j hj; omega⟩, fun j hz => by have := hZ j hz; omega⟩
  · refine ⟨fun h => by have := hS _ h; omega, fun h => by have := hS _ h; dsimp only at this; omega, fun h => by have := hS _ h; dsimp only at this; omega, hSc, by dsimp only; omega, by dsimp only; omega, by dsimp only; omega, by dsimp only; omega, by dsimp only; omega, fun j hj => ?_, fun j hj => ?_⟩
    · have h1 := hva j hj
      have h2 := (hv.lt j hj).2
      dsimp only
      exact ⟨fun h => by have := hS _ h; omega, by omega, by omega, by omega, by omega⟩
    · have h1 := hea j hj
      have h2 := (he.lt j hj).2
      dsimp only
      exact ⟨fun h => by have := hS _ h; omega, by omega, by omega, by omega, by omega⟩
  · have hz' := hZ j hz
    rcases hj with hj | hj | hj | hj | hj | hj | hj
    · omega
    · dsimp only at hj; omega
    · dsimp only at hj; omega
    · dsimp only at hj; omega
    · have := (hv.lt j hj).1; omega
    · have := (he.lt j hj).1; omega
    · have := hS j hj; omega
/-- What New is refused with. -/
def newE (ns : List Int) (ls : List Ed) (R : List Ru) (lt : Int) : Int := if ofC ns ls = 0 then (if 1 ≤ lt ∧ lt ≤ 64 then (chkR R).2 else 2) else ofC ns ls
/-- What is laid ahead of the net's block stays. -/
structure NwR (gb : Nat) (nv ev : Value) (wq : World) : Prop where
  a : wq.cell? ⟨gb, 0, none⟩ = some nv
  b : wq.cell? ⟨gb, 1, none⟩ = some ev
set_option maxRecDepth 100000 in
set_option maxHeartbeats 4000000 in
theorem new_ok {w : World} {ns : List Int} {ls : List Ed} {R : List Ru} {lt : Int} {v u r : Value} (hv : SlAt ic 1 w v ns) (hu : SlAt ec 3 w u ls) (hr : SlAt ruC 5 w r R) (h0 : ofC ns ls = 0) (hl : 1 ≤ lt ∧ lt ≤ 64) (hc : chkR R = (0, 0)) :
    Calls Try.prog 19 #[v, u, r, .int .i64 lt] w fun e w' => (∃ np, e = .returned (.tuple #[pp np, .int .i64 0]) ∧ ∀ Z : Nat → Prop, (∀ j, Z j → j < w.heap.size) → NetZ w' Z np (newN ns ls R lt)) ∧ Below w.heap.size w w' := by
  have HOf := hidIn (of_any hv hu)
  have HF := hidIn (fun w1 (hb : Below w.heap.size w w1) => fnew_ok (hr.keep hb (Nat.le_refl _)) hc)
  have HN := fun w => hidIn (Ca.A.new_ok w)
  have H0 := hidIn h0
  have hmm : ∀ w : World, (Instr.makeMap 73 none).run Try.prog w = .ok (.map (some w.heap.size)) (w.alloc (.map #[] 0)) := fun w => by kernel_rfl
  obtain ⟨a1, c1, rfl, _⟩ := hv.ints
  obtain ⟨a2, c2, rfl, _⟩ := hu.eds
  obtain ⟨a3, c3, rfl, _⟩ := hr
  clear hv hu h0 hc
  go_enter Try.func19, Try.ntmps19
  go_wp2_with fail
  refine HOf.out.mono ?_
  rintro e w1 ⟨⟨ua, ucap, va, vcap, rfl, hrv, hre⟩, hb1⟩
  rw [H0.out]
  obtain ⟨gb, hgb⟩ : ∃ gb, w1.heap.size = gb := ⟨_, rfl⟩
  obtain ⟨W2, hW2⟩ : ∃ W2, w1.alloc (.cells #[.slice ua (ofN ns ls).length ucap, .slice va (ofE ns ls).length vcap] 57) = W2 := ⟨_, rfl⟩
  have b2 : Below w1.heap.size w1 W2 := by rw [← hW2]; exact (Below.refl _ w1).alloc (Nat.le_refl _) _
  have hG2 : W2.heap[gb]? = some (.cells #[.slice ua (ofN ns ls).length ucap, .slice va (ofE ns ls).length vcap] 57) := by rw [← hW2, ← hgb]; exact heap_alloc_last w1 _
  have Hr1 := hidIn hrv
  have He1 := hidIn hre
  have Hb1 := hidIn hb1
  have Hb2 := hidIn b2
  have HG2 := hidIn hG2
  have HW2 := hidIn hW2
  have Hgb := hidIn hgb
  have HF2 := hidIn (HF.out W2 (hb1.trans (b2.mono hb1.size)))
  have hlt1 : ¬ lt < 1 := by omega
  have hlt2 : ¬ (64 : Int) < lt := by omega
  clear hrv hre hb1 b2 hG2 hW2 hgb HOf HF
  go_upto_region 4 with fail
  rw [Hgb.out]
  try rw [HW2.out]
  go_wp2_with fail
  refine HF2.out.mono ?_
  rintro e w3 ⟨P, m, rfl, hp, hP, hm, hb3⟩
  have hgw : w.heap.size ≤ gb := by have := Hb1.out.size; have := Hgb.out; omega
  have hs2 : W2.heap.size = gb + 1 := by rw [← HW2.out, ← Hgb.out]; simp
  obtain ⟨b3, hb39⟩ : ∃ b, w3.heap.size = b := ⟨_, rfl⟩
  have hPb : gb ≤ P ∧ P < b3 := ⟨by omega, by rw [← hb39]; exact hp.b.lt⟩
  have hmb : gb ≤ m ∧ m < b3 := ⟨by omega, by rw [← hb39]; exact hp.m.lt⟩
  have hsd : w3.drew.heap.size = b3 := hb39
  have HP3 := hidIn hp
  have HB3 : Hid (Below gb w1 w3) := hidIn (by
    have h1 := Hb2.out
    rw [Hgb.out] at h1
    exact h1.trans (hb3.mono (by omega)))
  have hgb3 : gb < b3 := by have := hb3.size; omega
  obtain ⟨NV, hNV⟩ : ∃ v, Value.slice ua (ofN ns ls).length ucap = v := ⟨_, rfl⟩
  obtain ⟨EV, hEV⟩ : ∃ v, Value.slice va (ofE ns ls).length vcap = v := ⟨_, rfl⟩
  have HX : Hid (∀ wq, Below (gb + 1) w3.drew wq → NwR gb NV EV wq) := hidIn (fun wq hq => by
    have h1 := (hb3.block gb (by omega)).trans HG2.out
    have h2 : wq.heap[gb]? = w3.heap[gb]? := hq.block gb (by omega)
    have h3 := h2.trans h1
    rw [hNV, hEV] at h3
    exact ⟨cell_of_row _ _ 0 _ _ _ h3, cell_of_row _ _ 1 _ _ _ h3⟩)
  have Hv := hidIn hNV
  have He := hidIn hEV
  rw [hNV] at Hr1
  rw [hEV] at He1
  clear hp hP hm hb3 HF2
  go_upto_region 9 with fail
  clear hNV hEV
  refine wp_region_held_drew (S := fun wx => NwR gb NV EV wx) (by kernel_rfl) ?_ (fun hHeld => ?_)
  · exact HX.out _ (Below.refl _ _)
  have hd0 : NwR gb NV EV w3.drew := HX.out _ (Below.refl _ _)
  clear hHeld
  refine wpAnyH_take (i := 0) (v := grV NV EV) rfl (by kernel_rfl) (by kernel_rfl) (by kernel_rfl) (fun _ _ _ h => h) (Or.inl ⟨by kernel_rfl, fun wq hSw => by
      obtain ⟨s0, s1⟩ := hSw
      go_simp⟩) (by assumption) ?_
  refine wpAnyH_take (i := 1) (v := .int .i64 lt) rfl (by kernel_rfl) (by kernel_rfl) (by kernel_rfl) (fun _ _ _ h => h) (Or.inl ⟨by kernel_rfl, fun _ _ => by kernel_rfl⟩) (by assumption) ?_
  refine wpAnyH_take (i := 2) (v := pp P) rfl (by kernel_rfl) (by kernel_rfl) (by kernel_rfl) (fun _ _ _ h => h) (Or.inl ⟨by kernel_rfl, fun _ _ => by kernel_rfl⟩) (by assumption) ?_
  refine wpAnyH_ready (rs := [3, 4]) (by kernel_rfl) (by simp) ?_
  refine AllReadyH.cons (i := 3) rfl ?_ (AllReadyH.cons (i := 4) rfl ?_ AllReadyH.nil)
  · go_simp
    intro K hK
    refine (HN _).out.mono ?_
    rintro e w4 ⟨cp, rfl, hca, hb4⟩
    have hx4 : NwR gb NV EV w4 := HX.out w4 (hb4.mono (by rw [hsd]; omega))
    refine hK.out _ _ hx4 (fun _ => ?_)
    clear hK K
    refine wpAnyH_ready (rs := [4]) (by kernel_rfl) (by simp) ?_
    refine AllReadyH.cons (i := 4) rfl ?_ AllReadyH.nil
    go_simp
    intro K hK
    obtain ⟨w5, hw5⟩ : ∃ w5, w4.alloc (.map #[] 0) = w5 := ⟨_, rfl⟩
    have hb5 : Below w4.heap.size w4 w5 := by rw [← hw5]; exact (Below.refl _ w4).alloc (Nat.le_refl _) _
    have hmc : MpC w5 w4.heap.size 0 (fun _ => false) := by rw [← hw5]; exact mpC_new w4
    obtain ⟨cm, hcm⟩ : ∃ cm, w4.heap.size = cm := ⟨_, rfl⟩
    have hca5 := (hca.keep (T := fun _ => False) (Fr.of_below hb5) (fun _ _ h => h)).mono (T := fun k => b3 ≤ k ∧ k < cm) (fun k _ hk => ⟨by have := hk.1; rw [hsd] at this; exact this, by rw [← hcm]; exact hk.2⟩)
    have hs4 : b3 ≤ w4.heap.size := by have := hb4.size; rw [hsd] at this; exact this
    have hb43 : Below b3 w3 w4 := ((Below.refl _ w3).drew).trans (hb4.mono (by rw [hsd]; omega))
    have hbA : Below gb w1 w5 := HB3.out.trans ((hb43.mono (by omega)).trans (hb5.mono (by omega)))
    have hpA : PlAt w5 P m R no2 := (HP3.out.below hb43 hPb.2 hmb.2).below (hb5.mono (by omega)) (by omega) (by omega)
    have hs5 : w4.heap.size < w5.heap.size := hmc.lt
    rw [hcm] at hmc hs5 hs4
    have hx5 : NwR gb NV EV w5 := HX.out w5 ((hb4.mono (by rw [hsd]; omega)).trans (hb5.mono (by omega)))
    have Hcu := hidIn hmc
    have HSc : Hid (∀ j, (b3 ≤ j ∧ j < cm) → b3 ≤ j ∧ j < w5.heap.size) := hidIn (fun j hj => ⟨hj.1, by omega⟩)
    have HSm : Hid (¬ (b3 ≤ cm ∧ cm < cm)) := hidIn (fun h => by omega)
    have HW5 := hidIn hw5
    rw [hw5, hcm]
    refine hK.out _ _ hx5 (fun _ => ?_)
    clear hK K hw5 hca hb4 hb43 hx4 hb5 hmc hcm
    refine wpAnyH_take (i := 5) (v := .agg (ntV nilQ ⟨P, m, cp, cm, NV, EV⟩ lt no1 0).toArray) rfl (by kernel_rfl) (by kernel_rfl) (by kernel_rfl) (fun _ _ _ h => h) (Or.inl ⟨by kernel_rfl, fun _ _ => by kernel_rfl⟩) (by assumption) ?_
    have HFin := hidIn (fun Z hZ => net_made (w5 := w5) (B := w.heap.size) (a := gb) (b := b3) (ns := ns) (ls := ls) (R := R) (lt := lt) (cp := cp) (row_below Hr1.out hbA (Nat.le_of_eq Hgb.out)) (row_below He1.out hbA (Nat.le_of_eq Hgb.out)) (fun j hj => by have := (Hr1.out.lt j hj).2; rw [Hgb.out] at this; exact this) (fun j hj => by have := (He1.out.lt j hj).2; rw [Hgb.out] at this; exact this) hpA hgw hPb hmb hca5 HSc.out Hcu.out hs4 HSm.out Z hZ)
    have hbw : Below w.heap.size w w5 := Hb1.out.trans (hbA.mono hgw)
    obtain ⟨NL, hNL⟩ : ∃ NL, (ntV nilQ ⟨P, m, cp, cm, NV, EV⟩ lt no1 0).toArray = NL := ⟨_, rfl⟩
    obtain ⟨w6, hw6⟩ : ∃ w6, w5.alloc (.cells NL 76) = w6 := ⟨_, rfl⟩
    have hA6 : w6.heap[w5.heap.size]? = some (.cells NL 76) := by rw [← hw6]; exact heap_alloc_last w5 _
    have hx6 : NwR gb NV EV w6 := by
      have hb6 : Below w5.heap.size w5 w6 := by rw [← hw6]; exact (Below.refl _ w5).alloc (Nat.le_refl _) _
      have hsz := hbA.size
      exact ⟨(hb6.cell (p := ⟨gb, 0, none⟩) (by show gb < _; have := block_lt_of_cell hx5.a; exact this)).trans hx5.a, (hb6.cell (p := ⟨gb, 1, none⟩) (by show gb < _; have := block_lt_of_cell hx5.b; exact this)).trans hx5.b⟩
    have hB7 : Below w.heap.size w (w6.setCell ⟨w5.heap.size, 0, none⟩ (pp w5.heap.size)) := by
      rw [← hw6]
      exact (hbw.alloc hbw.size _).setCell (p := ⟨w5.heap.size, 0, none⟩) hbw.size _
    obtain ⟨np, hnp⟩ : ∃ np, w5.heap.size = np := ⟨_, rfl⟩
    rw [hNL] at HFin ⊢
    rw [hw6, hnp] at HFin
    rw [hnp] at hA6 hB7
    have HA6 := hidIn hA6
    have HB7 := hidIn hB7
    have HW6 := hidIn hw6
    have Hnp := hidIn hnp
    have z0 : w6.cell? ⟨np, 0, none⟩ = some nilQ := by
      rw [cell_of_row _ _ 0 _ _ _ hA6, ← hNL]
      rfl
    have zf := frozen_new hA6 0
    clear hbA hpA hca5 hbw hNL hw6 hA6 hB7 hnp
    refine wpAnyH_ready (rs := [6]) (by kernel_rfl) (by simp) ?_
    refine AllReadyH.cons (i := 6) rfl ?_ AllReadyH.nil
    go_simp
    intro K hK
    rw [HW6.out, Hnp.out]
    refine hK.out _ _ hx6 (fun _ => ?_)
    clear hK K
    refine wpAnyH_ready (rs := [7]) (by kernel_rfl) (by simp) ?_
    refine AllReadyH.cons (i := 7) rfl ?_ AllReadyH.nil
    go_simp
    intro K hK
    refine hK.out _ _ hx6 (fun _ => ?_)
    clear hK K
    refine wpAnyH_done (by kernel_rfl) ?_ _
    go_wp2_with fail
    go_returns
    exact ⟨⟨_, rfl, fun Z hZ => HFin.out Z hZ⟩, HB7.out⟩
  · go_simp
    intro K hK
    obtain ⟨w4, hw4⟩ : ∃ w4, (w3.alloc (.map #[] 0)).drew = w4 := ⟨_, rfl⟩
    have hb4 : Below b3 w3 w4 := by rw [← hw4]; exact ((Below.refl _ w3).alloc (by rw [hb39]; omega) _).drew
    have hmc : MpC w4 b3 0 (fun _ => false) := by rw [← hw4, ← hb39]; exact mpC_new w3
    have hs4 : w4.heap.size = b3 + 1 := by rw [← hw4]; simp [World.drew, hb39]
    have hx4 : NwR gb NV EV w4 := by rw [← hw4]; exact HX.out _ (show Below (gb + 1) w3.drew (w3.drew.alloc (.map #[] 0)) from (Below.refl _ w3.drew).alloc (by rw [hsd]; omega) _)
    rw [hw4]
    try rw [hsd]
    refine hK.out _ _ hx4 (fun _ => ?_)
    clear hK K hw4
    refine wpAnyH_ready (rs := [3]) (by kernel_rfl) (by simp) ?_
    refine AllReadyH.cons (i := 3) rfl ?_ AllReadyH.nil
    go_simp
    intro K hK
    refine (HN _).out.mono ?_
    rintro e w5 ⟨cp, rfl, hca, hb5⟩
    obtain ⟨cm, hcm⟩ : ∃ cm, b3 = cm := ⟨_, rfl⟩
    have hx5 : NwR gb NV EV w5 := ⟨(hb5.cell (p := ⟨gb, 0, none⟩) (by show gb < _; omega)).trans hx4.a, (hb5.cell (p := ⟨gb, 1, none⟩) (by show gb < _; omega)).trans hx4.b⟩
    refine hK.out _ _ hx5 (fun _ => ?_)
    clear hK K
    have hbA : Below gb w1 w5 := HB3.out.trans ((hb4.mono (by omega)).trans (hb5.mono (by omega)))
    have hpA : PlAt w5 P m R no2 := (HP3.out.below hb4 hPb.2 hmb.2).below (hb5.mono (by omega)) hPb.2 hmb.2
    have Hcu := hidIn (hmc.below hb5 (by omega))
    have hca5 := hca
    have HSc : Hid (∀ j, (w4.heap.size ≤ j ∧ j < w5.heap.size) → b3 ≤ j ∧ j < w5.heap.size) := hidIn (fun j hj => ⟨by omega, hj.2⟩)
    have HSm : Hid (¬ (w4.heap.size ≤ cm ∧ cm < w5.heap.size)) := hidIn (fun h => by omega)
    rw [hcm] at Hcu ⊢
    have hs4 : b3 ≤ cm := by omega
    clear hca hb4 hb5 hmc
    refine wpAnyH_take (i := 5) (v := .agg (ntV nilQ ⟨P, m, cp, cm, NV, EV⟩ lt no1 0).toArray) rfl (by kernel_rfl) (by kernel_rfl) (by kernel_rfl) (fun _ _ _ h => h) (Or.inl ⟨by kernel_rfl, fun _ _ => by kernel_rfl⟩) (by assumption) ?_
    have HFin := hidIn (fun Z hZ => net_made (w5 := w5) (B := w.heap.size) (a := gb) (b := b3) (ns := ns) (ls := ls) (R := R) (lt := lt) (cp := cp) (row_below Hr1.out hbA (Nat.le_of_eq Hgb.out)) (row_below He1.out hbA (Nat.le_of_eq Hgb.out)) (fun j hj => by have := (Hr1.out.lt j hj).2; rw [Hgb.out] at this; exact this) (fun j hj => by have := (He1.out.lt j hj).2; rw [Hgb.out] at this; exact this) hpA hgw hPb hmb hca5 HSc.out Hcu.out hs4 HSm.out Z hZ)
    have hbw : Below w.heap.size w w5 := Hb1.out.trans (hbA.mono hgw)
    obtain ⟨NL, hNL⟩ : ∃ NL, (ntV nilQ ⟨P, m, cp, cm, NV, EV⟩ lt no1 0).toArray = NL := ⟨_, rfl⟩
    obtain ⟨w6, hw6⟩ : ∃ w6, w5.alloc (.cells NL 76) = w6 := ⟨_, rfl⟩
    have hA6 : w6.heap[w5.heap.size]? = some (.cells NL 76) := by rw [← hw6]; exact heap_alloc_last w5 _
    have hx6 : NwR gb NV EV w6 := by
      have hb6 : Below w5.heap.size w5 w6 := by rw [← hw6]; exact (Below.refl _ w5).alloc (Nat.le_refl _) _
      have hsz := hbA.size
      exact ⟨(hb6.cell (p := ⟨gb, 0, none⟩) (by show gb < _; have := block_lt_of_cell hx5.a; exact this)).trans hx5.a, (hb6.cell (p := ⟨gb, 1, none⟩) (by show gb < _; have := block_lt_of_cell hx5.b; exact this)).trans hx5.b⟩
    have hB7 : Below w.heap.size w (w6.setCell ⟨w5.heap.size, 0, none⟩ (pp w5.heap.size)) := by
      rw [← hw6]
      exact (hbw.alloc hbw.size _).setCell (p := ⟨w5.heap.size, 0, none⟩) hbw.size _
    obtain ⟨np, hnp⟩ : ∃ np, w5.heap.size = np := ⟨_, rfl⟩
    rw [hNL] at HFin ⊢
    rw [hw6, hnp] at HFin
    rw [hnp] at hA6 hB7
    have HA6 := hidIn hA6
    have HB7 := hidIn hB7
    have HW6 := hidIn hw6
    have Hnp := hidIn hnp
    have z0 : w6.cell? ⟨np, 0, none⟩ = some nilQ := by
      rw [cell_of_row _ _ 0 _ _ _ hA6, ← hNL]
      rfl
    have zf := frozen_new hA6 0
    clear hbA hpA hca5 hbw hNL hw6 hA6 hB7 hnp
    refine wpAnyH_ready (rs := [6]) (by kernel_rfl) (by simp) ?_
    refine AllReadyH.cons (i := 6) rfl ?_ AllReadyH.nil
    go_simp
    intro K hK
    rw [HW6.out, Hnp.out]
    refine hK.out _ _ hx6 (fun _ => ?_)
    clear hK K
    refine wpAnyH_ready (rs := [7]) (by kernel_rfl) (by simp) ?_
    refine AllReadyH.cons (i := 7) rfl ?_ AllReadyH.nil
    go_simp
    intro K hK
    refine hK.out _ _ hx6 (fun _ => ?_)
    clear hK K
    refine wpAnyH_done (by kernel_rfl) ?_ _
    go_wp2_with fail
    go_returns
    exact ⟨⟨_, rfl, fun Z hZ => HFin.out Z hZ⟩, HB7.out⟩
end Go.Proofs.Ytkhfpcnmnnboeaa.Nt
namespace Go.Proofs.Ytkhfpcnmnnboeaa.Nt
open Go.RowKit Go.Proofs.Ytkhfpcnmnnboeaa.Fa

theorem eqI (d : Nat) (x y : Int) (w : World) : (Op.equalIn (d + 1) 3 (.int .i64 x) (.int .i64 y)).run Try.prog w = .ok (x == y) w := run_equalIn_int w d _ _ _ x y Try.underlying3
theorem eqS (d : Nat) (x y : ByteArray) (w : World) : (Op.equalIn (d + 1) 9 (.string x) (.string y)).run Try.prog w = .ok (x.toList == y.toList) w := run_equalIn_string w d _ x y Try.underlying9
theorem partFt {x0 x1 x2 : Value} (w : World) : (part 3 #[x0, x1, x2] 0).run Try.prog w = .ok x0 w ∧ (part 3 #[x0, x1, x2] 1).run Try.prog w = .ok x1 w ∧ (part 3 #[x0, x1, x2] 2).run Try.prog w = .ok x2 w := ⟨by kernel_rfl, by kernel_rfl, by kernel_rfl⟩
theorem FtFields : (Try.prog.fieldsOf 33).toList.map (fun f => (f.name == "_", f.type, f.offset)) = [(false, 3, 0), (false, 3, 1), (false, 3, 2)] := by kernel_rfl
theorem FtUnder : Try.prog.underlying 33 = some (.struct (Try.prog.fieldsOf 33)) := by kernel_rfl
theorem FtStood : Try.prog.stoodInHeld 33 = false := by kernel_rfl
theorem eq_Ft (a0 a1 a2 b0 b1 b2 : Int) (w : World) : (Op.equalIn 10000 33 (.agg #[.int .i64 a0, .int .i64 a1, .int .i64 a2]) (.agg #[.int .i64 b0, .int .i64 b1, .int .i64 b2])).run Try.prog w = .ok (a0 == b0 && a1 == b1 && a2 == b2) w := by
  rw [run_equalIn_struct w 9999 _ _ _ FtUnder FtStood]
  have hf := FtFields
  generalize (Try.prog.fieldsOf 33).toList = fs at hf
  obtain ⟨p0, p1, p2⟩ := @partFt (.int .i64 a0) (.int .i64 a1) (.int .i64 a2) w
  obtain ⟨q0, q1, q2⟩ := @partFt (.int .i64 b0) (.int .i64 b1) (.int .i64 b2) w
  obtain ⟨f0, r0, rfl, h0, hf⟩ := List.map_eq_cons_iff.1 hf
  obtain ⟨f1, r1, rfl, h1, hf⟩ := List.map_eq_cons_iff.1 hf
  obtain ⟨f2, r2, rfl, h2, hf⟩ := List.map_eq_cons_iff.1 hf
  obtain rfl := List.map_eq_nil_iff.1 hf
  simp only [Prod.mk.injEq] at h0
  obtain ⟨n0, t0, o0⟩ := h0
  simp only [Prod.mk.injEq] at h1
  obtain ⟨n1, t1, o1⟩ := h1
  simp only [Prod.mk.injEq] at h2
  obtain ⟨n2, t2, o2⟩ := h2
  rw [eqFields_cons 9999 _ _ f0 [f1, f2] (.int .i64 a0) (.int .i64 b0) (a0 == b0) w n0 (by rw [t0, o0]; exact p0) (by rw [t0, o0]; exact q0) (by rw [t0]; exact eqI 9998 a0 b0 w)]
  rw [eqFields_cons 9999 _ _ f1 [f2] (.int .i64 a1) (.int .i64 b1) (a1 == b1) w n1 (by rw [t1, o1]; exact p1) (by rw [t1, o1]; exact q1) (by rw [t1]; exact eqI 9998 a1 b1 w)]
  rw [eqFields_cons 9999 _ _ f2 [] (.int .i64 a2) (.int .i64 b2) (a2 == b2) w n2 (by rw [t2, o2]; exact p2) (by rw [t2, o2]; exact q2) (by rw [t2]; exact eqI 9998 a2 b2 w)]
  cases a0 == b0 <;> cases a1 == b1 <;> cases a2 == b2 <;> simp [Op.eqFields]
theorem partAj {x0 x1 : Value} (w : World) : (part 3 #[x0, x1] 0).run Try.prog w = .ok x0 w ∧ (part 3 #[x0, x1] 1).run Try.prog w = .ok x1 w := ⟨by kernel_rfl, by kernel_rfl⟩
theorem AjFields : (Try.prog.fieldsOf 68).toList.map (fun f => (f.name == "_", f.type, f.offset)) = [(false, 3, 0), (false, 3, 1)] := by kernel_rfl
theorem AjUnder : Try.prog.underlying 68 = some (.struct (Try.prog.fieldsOf 68)) := by kernel_rfl
theorem AjStood : Try.prog.stoodInHeld 68 = false := by kernel_rfl
theorem eq_Aj (a0 a1 b0 b1 : Int) (w : World) : (Op.equalIn 10000 68 (.agg #[.int .i64 a0, .int .i64 a1]) (.agg #[.int .i64 b0, .int .i64 b1])).run Try.prog w = .ok (a0 == b0 && a1 == b1) w := by
  rw [run_equalIn_struct w 9999 _ _ _ AjUnder AjStood]
  have hf := AjFields
  generalize (Try.prog.fieldsOf 68).toList = fs at hf
  obtain ⟨p0, p1⟩ := @partAj (.int .i64 a0) (.int .i64 a1) w
  obtain ⟨q0, q1⟩ := @partAj (.int .i64 b0) (.int .i64 b1) w
  obtain ⟨f0, r0, rfl, h0, hf⟩ := List.map_eq_cons_iff.1 hf
  obtain ⟨f1, r1, rfl, h1, hf⟩ := List.map_eq_cons_iff.1 hf
  obtain rfl := List.map_eq_nil_iff.1 hf
  simp only [Prod.mk.injEq] at h0
  obtain ⟨n0, t0, o0⟩ := h0
  simp only [Prod.mk.injEq] at h1
  obtain ⟨n1, t1, o1⟩ := h1
  rw [eqFields_cons 9999 _ _ f0 [f1] (.int .i64 a0) (.int .i64 b0) (a0 == b0) w n0 (by rw [t0, o0]; exact p0) (by rw [t0, o0]; exact q0) (by rw [t0]; exact eqI 9998 a0 b0 w)]
  rw [eqFields_cons 9999 _ _ f1 [] (.int .i64 a1) (.int .i64 b1) (a1 == b1) w n1 (by rw [t1, o1]; exact p1) (by rw [t1, o1]; exact q1) (by rw [t1]; exact eqI 9998 a1 b1 w)]
  cases a0 == b0 <;> cases a1 == b1 <;> simp [Op.eqFields]
theorem partEd {x0 x1 x2 : Value} (w : World) : (part 3 #[x0, x1, x2] 0).run Try.prog w = .ok x0 w ∧ (part 3 #[x0, x1, x2] 1).run Try.prog w = .ok x1 w ∧ (part 3 #[x0, x1, x2] 2).run Try.prog w = .ok x2 w := ⟨by kernel_rfl, by kernel_rfl, by kernel_rfl⟩
theorem EdFields : (Try.prog.fieldsOf 64).toList.map (fun f => (f.name == "_", f.type, f.offset)) = [(false, 3, 0), (false, 3, 1), (false, 3, 2)] := by kernel_rfl
theorem EdUnder : Try.prog.underlying 64 = some (.struct (Try.prog.fieldsOf 64)) := by kernel_rfl
theorem EdStood : Try.prog.stoodInHeld 64 = false := by kernel_rfl
theorem eq_Ed (a0 a1 a2 b0 b1 b2 : Int) (w : World) : (Op.equalIn 10000 64 (.agg #[.int .i64 a0, .int .i64 a1, .int .i64 a2]) (.agg #[.int .i64 b0, .int .i64 b1, .int .i64 b2])).run Try.prog w = .ok (a0 == b0 && a1 == b1 && a2 == b2) w := by
  rw [run_equalIn_struct w 9999 _ _ _ EdUnder EdStood]
  have hf := EdFields
  generalize (Try.prog.fieldsOf 64).toList = fs at hf
  obtain ⟨p0, p1, p2⟩ := @partEd (.int .i64 a0) (.int .i64 a1) (.int .i64 a2) w
  obtain ⟨q0, q1, q2⟩ := @partEd (.int .i64 b0) (.int .i64 b1) (.int .i64 b2) w
  obtain ⟨f0, r0, rfl, h0, hf⟩ := List.map_eq_cons_iff.1 hf
  obtain ⟨f1, r1, rfl, h1, hf⟩ := List.map_eq_cons_iff.1 hf
  obtain ⟨f2, r2, rfl, h2, hf⟩ := List.map_eq_cons_iff.1 hf
  obtain rfl := List.map_eq_nil_iff.1 hf
  simp only [Prod.mk.injEq] at h0
  obtain ⟨n0, t0, o0⟩ := h0
  simp only [Prod.mk.injEq] at h1
  obtain ⟨n1, t1, o1⟩ := h1
  simp only [Prod.mk.injEq] at h2
  obtain ⟨n2, t2, o2⟩ := h2
  rw [eqFields_cons 9999 _ _ f0 [f1, f2] (.int .i64 a0) (.int .i64 b0) (a0 == b0) w n0 (by rw [t0, o0]; exact p0) (by rw [t0, o0]; exact q0) (by rw [t0]; exact eqI 9998 a0 b0 w)]
  rw [eqFields_cons 9999 _ _ f1 [f2] (.int .i64 a1) (.int .i64 b1) (a1 == b1) w n1 (by rw [t1, o1]; exact p1) (by rw [t1, o1]; exact q1) (by rw [t1]; exact eqI 9998 a1 b1 w)]
  rw [eqFields_cons 9999 _ _ f2 [] (.int .i64 a2) (.int .i64 b2) (a2 == b2) w n2 (by rw [t2, o2]; exact p2) (by rw [t2, o2]; exact q2) (by rw [t2]; exact eqI 9998 a2 b2 w)]
  cases a0 == b0 <;> cases a1 == b1 <;> cases a2 == b2 <;> simp [Op.eqFields]
theorem partAr {x0 x1 x2 : Value} (w : World) : (part 3 #[x0, x1, x2] 0).run Try.prog w = .ok x0 w ∧ (part 3 #[x0, x1, x2] 1).run Try.prog w = .ok x1 w ∧ (part 9 #[x0, x1, x2] 2).run Try.prog w = .ok x2 w := ⟨by kernel_rfl, by kernel_rfl, by kernel_rfl⟩
theorem ArFields : (Try.prog.fieldsOf 30).toList.map (fun f => (f.name == "_", f.type, f.offset)) = [(false, 3, 0), (false, 3, 1), (false, 9, 2)] := by kernel_rfl
theorem ArUnder : Try.prog.underlying 30 = some (.struct (Try.prog.fieldsOf 30)) := by kernel_rfl
theorem ArStood : Try.prog.stoodInHeld 30 = false := by kernel_rfl
theorem eq_Ar (a0 a1 b0 b1 : Int) (a2 b2 : ByteArray) (w : World) : (Op.equalIn 10000 30 (.agg #[.int .i64 a0, .int .i64 a1, .string a2]) (.agg #[.int .i64 b0, .int .i64 b1, .string b2])).run Try.prog w = .ok (a0 == b0 && a1 == b1 && a2.toList == b2.toList) w := by
  rw [run_equalIn_struct w 9999 _ _ _ ArUnder ArStood]
  have hf := ArFields
  generalize (Try.prog.fieldsOf 30).toList = fs at hf
  obtain ⟨p0, p1, p2⟩ := @partAr (.int .i64 a0) (.int .i64 a1) (.string a2) w
  obtain ⟨q0, q1, q2⟩ := @partAr (.int .i64 b0) (.int .i64 b1) (.string b2) w
  obtain ⟨f0, r0, rfl, h0, hf⟩ := List.map_eq_cons_iff.1 hf
  obtain ⟨f1, r1, rfl, h1, hf⟩ := List.map_eq_cons_iff.1 hf
  obtain ⟨f2, r2, rfl, h2, hf⟩ := List.map_eq_cons_iff.1 hf
  obtain rfl := List.map_eq_nil_iff.1 hf
  simp only [Prod.mk.injEq] at h0
  obtain ⟨n0, t0, o0⟩ := h0
  simp only [Prod.mk.injEq] at h1
  obtain ⟨n1, t1, o1⟩ := h1
  simp only [Prod.mk.injEq] at h2
  obtain ⟨n2, t2, o2⟩ := h2
  rw [eqFields_cons 9999 _ _ f0 [f1, f2] (.int .i64 a0) (.int .i64 b0) (a0 == b0) w n0 (by rw [t0, o0]; exact p0) (by rw [t0, o0]; exact q0) (by rw [t0]; exact eqI 9998 a0 b0 w)]
  rw [eqFields_cons 9999 _ _ f1 [f2] (.int .i64 a1) (.int .i64 b1) (a1 == b1) w n1 (by rw [t1, o1]; exact p1) (by rw [t1, o1]; exact q1) (by rw [t1]; exact eqI 9998 a1 b1 w)]
  rw [eqFields_cons 9999 _ _ f2 [] (.string a2) (.string b2) (a2.toList == b2.toList) w n2 (by rw [t2, o2]; exact p2) (by rw [t2, o2]; exact q2) (by rw [t2]; exact eqS 9998 a2 b2 w)]
  cases a0 == b0 <;> cases a1 == b1 <;> cases a2.toList == b2.toList <;> simp [Op.eqFields]
theorem slAt_block {α : Type} {cs : α → List Value} {sz : Nat} (hc : ∀ x, (cs x).length = sz) {w : World} {b cap : Nat} {T : TypeId} {l : List α} (h : w.heap[b]? = some (.cells (fl cs l).toArray T)) (hl : l.length ≤ cap) (hm : cap ≤ 9223372036854775807) : SlAt cs sz w (.slice (some ⟨b, 0, none⟩) l.length cap) l := by
  refine ⟨_, cap, rfl, by omega, hl, fun _ => ⟨b, 0, rfl, block_lt h, fun j x hx i u hu => ?_⟩⟩
  have hi : i < sz := by have := (List.getElem?_eq_some_iff.1 hu).1; rwa [hc] at this
  rw [Nat.zero_add, cell_of_row w b _ _ T _ h, List.getElem?_toArray, fl_get hc l j i x hx hi]
  exact hu
/-- Is it just that message? -/
def oneB (l : List Ar) (a b : Int) (s : ByteArray) : Bool := match l with
  | [x] => x.1 == a && x.2.1 == b && x.2.2.toList == s.toList
  | _ => false
theorem oneB_len {l : List Ar} {a b : Int} {s : ByteArray} (h : l.length ≠ 1) : oneB l a b s = false := by
  match l with
  | [] => rfl
  | [x] => simp at h
  | x :: y :: l => rfl
set_option maxRecDepth 100000 in
theorem one_any {l : List Ar} {v : Value} {w : World} (h : SlAt arC 3 w v l) (a b : Int) (s : ByteArray) :
    Calls Try.prog 22 #[v, .int .i64 a, .int .i64 b, .string s] w fun e w' => e = .returned (.bool (oneB l a b s)) ∧ w' = w := by
  obtain ⟨aa, cap, rfl, hl, hcap, hat⟩ := h
  have hq := fun a0 a1 b0 b1 a2 b2 w => eq_Ar a0 a1 b0 b1 a2 b2 w
  by_cases h1 : l.length = 1
  · obtain ⟨x, rfl⟩ := List.length_eq_one_iff.1 h1
    obtain ⟨bk, o, rfl, hbk, hc⟩ := hat (by simp)
    have c0 := hc 0 x rfl 0 _ rfl
    have c1 := hc 0 x rfl 1 _ rfl
    have c2 := hc 0 x rfl 2 _ rfl
    obtain ⟨x0, x1, x2⟩ := x
    simp at c0 c1 c2
    have HE : Hid (oneB [(x0, x1, x2)] a b s = (x0 == a && x1 == b && x2.toList == s.toList)) := hidIn rfl
    rw [HE.out]
    clear hat hc h1 hl hcap
    simp only [List.length_cons, List.length_nil]
    go_enter Try.func22, Try.ntmps22
    go_wp2_with fail
    go_returns
    exact ⟨rfl, rfl⟩
  · rw [oneB_len h1]
    obtain ⟨n, hn⟩ : ∃ n, l.length = n := ⟨_, rfl⟩
    have h1i : ¬ (n : Int) = 1 := by omega
    have h1b : ((n : Int) == 1) = false := by simpa using h1i
    rw [hn]
    clear hat hl hcap h1 hn
    go_enter Try.func22, Try.ntmps22
    go_wp2_with fail
    go_returns
    exact ⟨rfl, rfl⟩
theorem NetZ.less {w : World} {Z Y : Nat → Prop} {np : Nat} {N : Nv} (h : NetZ w Z np N) (hY : ∀ j, Y j → Z j) : NetZ w Y np N := by
  obtain ⟨⟨D, S, h1, h2, h3⟩, h4⟩ := h
  exact ⟨⟨D, S, h1, fun j hj hy => h2 j hj (hY j hy), h3⟩, fun j hj => h4 j (hY j hj)⟩
def sendF (N : Nv) (a b : Int) (n : Nat) : Ft := if refE N a b n = 0 then fateN N a b else (0, 0, 0)
def sendZ (N : Nv) (a b : Int) (s : ByteArray) : Nv := if refE N a b s.size = 0 then sendN N a b s else N
def cutL (N : Nv) (a b : Int) : List Ar := if cutE N a b = 0 then goneN (cutN N a b true) else []
def cutZ (N : Nv) (a b : Int) : Nv := if cutE N a b = 0 then leftN (cutN N a b true) else N
def mendZ (N : Nv) (a b : Int) : Nv := if mendE N a b = 0 then cutN N a b false else N
def stopL (N : Nv) (r : Int) : List Ar := if stopE N r = 0 then goneN (stopN N r true) else []
def stopZ (N : Nv) (r : Int) : Nv := if stopE N r = 0 then leftN (stopN N r true) else N
def startZ (N : Nv) (r : Int) : Nv := if startE N r = 0 then stopN N r false else N
def nearZ (N : Nv) (r : Int) : List (Int × Int) := if hasN N.V r = true then nearL (eUp N) r else []
theorem NvOk.left {N : Nv} {k : Nat} (h : NvOk N k) : NvOk (leftN N) k :=
  ⟨h.v, h.vl, h.e, h.el, h.lt, h.p, h.q, h.a, h.now, fun b hb => h.l b (List.mem_filter.1 hb).1, Nat.le_trans (List.length_filter_le _ _) h.ll, h.r⟩
theorem NvOk.cut {N : Nv} {k : Nat} (h : NvOk N k) (a b : Int) (v : Bool) : NvOk (cutN N a b v) (k + 1) := by
  have h' := h.mono (Nat.le_succ k)
  refine ⟨h'.v, h'.vl, h'.e, h'.el, h'.lt, h'.p, ?_, h'.a, h'.now, h'.l, h'.ll, h'.r⟩
  have := h.q
  show (if v = true then N.q + 1 else N.q) ≤ _
  split <;> omega
theorem NvOk.tick {N : Nv} {k : Nat} (h : NvOk N k) : NvOk (tickN N) (k + 1) := by
  have h' := h.mono (Nat.le_succ k)
  have hr := Ca.due_rest N.L (N.now + 1)
  refine ⟨h'.v, h'.vl, h'.e, h'.el, h'.lt, h'.p, h'.q, h'.a, ?_, fun b hb => h.l b (by rw [← hr]; exact List.mem_append_right _ hb), ?_, h'.r⟩
  · have := h.now
    show 0 ≤ N.now + 1 ∧ N.now + 1 ≤ _
    omega
  · have h1 := congrArg List.length hr
    rw [List.length_append] at h1
    have := h.ll
    show (Ca.restT N.L (N.now + 1)).length ≤ _
    omega
theorem NvOk.sendZ {N : Nv} {k : Nat} (h : NvOk N k) (a b : Int) (s : ByteArray) : NvOk (sendZ N a b s) (k + 3) := by
  unfold Nt.sendZ
  by_cases hr : refE N a b s.size = 0
  · rw [if_pos hr]
    have hb := lkQ_bd h (refE_zero hr).1
    have h1 := h.ask a b
    have h2 := h1.put (x := (a, b, s)) ⟨hb.1, hb.2.1⟩ (fateN N a b).2.1
    have h3 := h2.put (x := (a, b, s)) ⟨hb.1, hb.2.1⟩ (fateN N a b).2.2
    unfold sendN
    split
    · exact h1.mono (by omega)
    · split
      · exact h2.mono (by omega)
      · exact h3
  · rw [if_neg hr]
    exact h.mono (by omega)
theorem NvOk.cutZ {N : Nv} {k : Nat} (h : NvOk N k) (a b : Int) : NvOk (cutZ N a b) (k + 1) := by
  unfold Nt.cutZ
  split
  · exact (h.cut a b true).left
  · exact h.mono (by omega)
theorem NvOk.mendZ {N : Nv} {k : Nat} (h : NvOk N k) (a b : Int) : NvOk (mendZ N a b) (k + 1) := by
  unfold Nt.mendZ
  split
  · exact h.cut a b false
  · exact h.mono (by omega)
theorem NvOk.stopZ {N : Nv} {k : Nat} (h : NvOk N k) (r : Int) : NvOk (stopZ N r) k := by
  unfold Nt.stopZ
  split
  · exact (h.stop r true).left
  · exact h
theorem NvOk.startZ {N : Nv} {k : Nat} (h : NvOk N k) (r : Int) : NvOk (startZ N r) k := by
  unfold Nt.startZ
  split
  · exact h.stop r false
  · exact h
theorem zsend {w : World} {Z : Nat → Prop} {np k : Nat} {N : Nv} (h : NetZ w Z np N) (hk : NvOk N k) (hk9 : k ≤ 20000) (a b : Int) (s : ByteArray) :
    Calls Try.prog 10 #[pp np, .int .i64 a, .int .i64 b, .string s] w fun e w' => e = .returned (.tuple #[ftV (sendF N a b s.size), .int .i64 (refE N a b s.size)]) ∧ NetZ w' Z np (sendZ N a b s) ∧ Fr (fun j => ¬ Z j) w w' := by
  obtain ⟨⟨D, S, h1, h2, h3⟩, h4⟩ := h
  unfold sendF sendZ
  by_cases hr : refE N a b s.size = 0
  · rw [if_pos hr, if_pos hr, hr]
    refine (send_ok h1 h3 hk hk9 a b s hr).mono ?_
    rintro e w' ⟨rfl, hres⟩
    exact ⟨rfl, NetZ.res h1 h2 h4 hres⟩
  · rw [if_neg hr, if_neg hr]
    refine (send_no h1 hk a b s hr).mono ?_
    rintro e w' ⟨rfl, hb⟩
    exact ⟨rfl, NetZ.below ⟨⟨D, S, h1, h2, h3⟩, h4⟩ hb, Fr.of_below hb⟩
theorem ztick {w : World} {Z : Nat → Prop} {np k : Nat} {N : Nv} (h : NetZ w Z np N) (hk : NvOk N k) (hk9 : k ≤ 20000) :
    Calls Try.prog 16 #[pp np] w fun e w' => (∃ v, e = .returned v ∧ w'.ownsRow w.heap.size 30 3 v (comeN N).length (fl arC (comeN N)) ∧ NetZ w' (fun j => Z j ∨ v.ownBlock = some j) np (tickN N)) ∧ Fr (fun j => ¬ Z j) w w' := by
  obtain ⟨⟨D, S, h1, h2, h3⟩, h4⟩ := h
  refine (tick_any h1 h3 hk (by omega)).mono ?_
  rintro e w' ⟨⟨v, rfl, hrow⟩, hres⟩
  have := NetZ.res0 h1 h3 h2 h4 hres (fun j hj => hrow.lt j hj)
  exact ⟨⟨v, rfl, hrow, this.1⟩, this.2⟩
theorem zcut {w : World} {Z : Nat → Prop} {np k : Nat} {N : Nv} (h : NetZ w Z np N) (hk : NvOk N k) (hk9 : k ≤ 20000) (a b : Int) :
    Calls Try.prog 12 #[pp np, .int .i64 a, .int .i64 b] w fun e w' => (∃ v, e = .returned (.tuple #[v, .int .i64 (cutE N a b)]) ∧ w'.ownsRow w.heap.size 30 3 v (cutL N a b).length (fl arC (cutL N a b)) ∧ NetZ w' (fun j => Z j ∨ v.ownBlock = some j) np (cutZ N a b)) ∧ Fr (fun j => ¬ Z j) w w' := by
  obtain ⟨⟨D, S, h1, h2, h3⟩, h4⟩ := h
  unfold cutL cutZ
  by_cases hr : cutE N a b = 0
  · rw [if_pos hr, if_pos hr, hr]
    refine (cut_ok h1 h3 hk hk9 a b hr).mono ?_
    rintro e w' ⟨⟨v, rfl, hrow⟩, hres⟩
    have := NetZ.res0 h1 h3 h2 h4 hres (fun j hj => hrow.lt j hj)
    exact ⟨⟨v, rfl, hrow, this.1⟩, this.2⟩
  · rw [if_neg hr, if_neg hr]
    refine (cut_no h1 hk a b hr).mono ?_
    rintro e w' ⟨rfl, hb⟩
    exact ⟨⟨_, rfl, World.ownsRow_nil _ _ _ _, (NetZ.below ⟨⟨D, S, h1, h2, h3⟩, h4⟩ hb).less (fun j hj => hj.elim id (fun hj => by simp [Value.ownBlock] at hj))⟩, Fr.of_below hb⟩
theorem zmend {w : World} {Z : Nat → Prop} {np k : Nat} {N : Nv} (h : NetZ w Z np N) (hk : NvOk N k) (a b : Int) :
    Calls Try.prog 13 #[pp np, .int .i64 a, .int .i64 b] w fun e w' => e = .returned (.int .i64 (mendE N a b)) ∧ NetZ w' Z np (mendZ N a b) ∧ Fr (fun j => ¬ Z j) w w' := by
  obtain ⟨⟨D, S, h1, h2, h3⟩, h4⟩ := h
  unfold mendZ
  by_cases hr : mendE N a b = 0
  · rw [if_pos hr, hr]
    refine (mend_ok h1 h3 hk a b hr).mono ?_
    rintro e w' ⟨rfl, hres⟩
    exact ⟨rfl, NetZ.res h1 h2 h4 hres⟩
  · rw [if_neg hr]
    refine (mend_no h1 hk a b hr).mono ?_
    rintro e w' ⟨rfl, hb⟩
    exact ⟨rfl, NetZ.below ⟨⟨D, S, h1, h2, h3⟩, h4⟩ hb, Fr.of_below hb⟩
theorem zstop {w : World} {Z : Nat → Prop} {np k : Nat} {N : Nv} (h : NetZ w Z np N) (hk : NvOk N k) (hk9 : k ≤ 20000) (r : Int) :
    Calls Try.prog 14 #[pp np, .int .i64 r] w fun e w' => (∃ v, e = .returned (.tuple #[v, .int .i64 (stopE N r)]) ∧ w'.ownsRow w.heap.size 30 3 v (stopL N r).length (fl arC (stopL N r)) ∧ NetZ w' (fun j => Z j ∨ v.ownBlock = some j) np (stopZ N r)) ∧ Fr (fun j => ¬ Z j) w w' := by
  obtain ⟨⟨D, S, h1, h2, h3⟩, h4⟩ := h
  unfold stopL stopZ
  by_cases hr : stopE N r = 0
  · rw [if_pos hr, if_pos hr, hr]
    refine (stop_ok h1 h3 hk hk9 r hr).mono ?_
    rintro e w' ⟨⟨v, rfl, hrow⟩, hres⟩
    have := NetZ.res0 h1 h3 h2 h4 hres (fun j hj => hrow.lt j hj)
    exact ⟨⟨v, rfl, hrow, this.1⟩, this.2⟩
  · rw [if_neg hr, if_neg hr]
    refine (stop_no h1 hk r hr).mono ?_
    rintro e w' ⟨rfl, rfl⟩
    exact ⟨⟨_, rfl, World.ownsRow_nil _ _ _ _, NetZ.less ⟨⟨D, S, h1, h2, h3⟩, h4⟩ (fun j hj => hj.elim id (fun hj => by simp [Value.ownBlock] at hj))⟩, Fr.refl _ _⟩
theorem zstart {w : World} {Z : Nat → Prop} {np k : Nat} {N : Nv} (h : NetZ w Z np N) (hk : NvOk N k) (r : Int) :
    Calls Try.prog 15 #[pp np, .int .i64 r] w fun e w' => e = .returned (.int .i64 (startE N r)) ∧ NetZ w' Z np (startZ N r) ∧ Fr (fun j => ¬ Z j) w w' := by
  obtain ⟨⟨D, S, h1, h2, h3⟩, h4⟩ := h
  unfold startZ
  by_cases hr : startE N r = 0
  · rw [if_pos hr, hr]
    refine (start_ok h1 h3 hk r hr).mono ?_
    rintro e w' ⟨rfl, hres⟩
    exact ⟨rfl, NetZ.res h1 h2 h4 hres⟩
  · rw [if_neg hr]
    refine (start_no h1 hk r hr).mono ?_
    rintro e w' ⟨rfl, rfl⟩
    exact ⟨rfl, ⟨⟨D, S, h1, h2, h3⟩, h4⟩, Fr.refl _ _⟩
theorem zup {w : World} {Z : Nat → Prop} {np k : Nat} {N : Nv} (h : NetZ w Z np N) (hk : NvOk N k) (a b : Int) :
    Calls Try.prog 11 #[pp np, .int .i64 a, .int .i64 b] w fun e w' => e = .returned (.bool (lkQ N a b && upQ N a b)) ∧ NetZ w' Z np N ∧ Below w.heap.size w w' := by
  obtain ⟨⟨D, S, h1, h2, h3⟩, h4⟩ := h
  refine (up_any h1 hk a b).mono ?_
  rintro e w' ⟨rfl, hb⟩
  exact ⟨rfl, NetZ.below ⟨⟨D, S, h1, h2, h3⟩, h4⟩ hb, hb⟩
theorem znow {w : World} {Z : Nat → Prop} {np : Nat} {N : Nv} (h : NetZ w Z np N) : Calls Try.prog 18 #[pp np] w fun e w' => e = .returned (.int .u64 N.now) ∧ w' = w := by
  obtain ⟨⟨D, S, h1, h2, h3⟩, h4⟩ := h
  exact now_any h1
theorem zflying {w : World} {Z : Nat → Prop} {np : Nat} {N : Nv} (h : NetZ w Z np N) : Calls Try.prog 17 #[pp np] w fun e w' => e = .returned (.int .i64 N.L.length) ∧ w' = w := by
  obtain ⟨⟨D, S, h1, h2, h3⟩, h4⟩ := h
  exact flying_any h1
theorem znear {w : World} {Z : Nat → Prop} {np k : Nat} {N : Nv} (h : NetZ w Z np N) (hk : NvOk N k) (r : Int) :
    Calls Try.prog 21 #[pp np, .int .i64 r] w fun e w' => (∃ v, e = .returned (.tuple #[v, .int .i64 (noRt N r)]) ∧ w'.ownsRow w.heap.size 68 2 v (nearZ N r).length (fl ac (nearZ N r))) ∧ NetZ w' Z np N ∧ Below w.heap.size w w' := by
  obtain ⟨⟨D, S, h1, h2, h3⟩, h4⟩ := h
  unfold nearZ
  by_cases hr : hasN N.V r = true
  · rw [if_pos hr, noRt_zero hr]
    refine (near_any h1 hk r hr).mono ?_
    rintro e w' ⟨h5, hb⟩
    exact ⟨h5, NetZ.below ⟨⟨D, S, h1, h2, h3⟩, h4⟩ hb, hb⟩
  · have hf : hasN N.V r = false := by simpa using hr
    rw [if_neg hr, noRt_two hf]
    refine (near_no h1 r hf).mono ?_
    rintro e w' ⟨rfl, rfl⟩
    exact ⟨⟨_, rfl, World.ownsRow_nil _ _ _ _⟩, ⟨⟨D, S, h1, h2, h3⟩, h4⟩, Below.refl _ _⟩
theorem zgraph {w : World} {Z : Nat → Prop} {np k : Nat} {N : Nv} (h : NetZ w Z np N) (hk : NvOk N k) :
    Calls Try.prog 20 #[pp np] w fun e w' => (∃ v u, e = .returned (.tuple #[grV v u, .int .i64 0]) ∧ w'.ownsRow w.heap.size 3 1 v (runL N).length (fl ic (runL N)) ∧ w'.ownsRow w.heap.size 64 3 u (eUp N).length (fl ec (eUp N))) ∧ NetZ w' Z np N ∧ Below w.heap.size w w' := by
  obtain ⟨⟨D, S, h1, h2, h3⟩, h4⟩ := h
  refine (graph_any h1 hk).mono ?_
  rintro e w' ⟨h5, hb⟩
  exact ⟨h5, NetZ.below ⟨⟨D, S, h1, h2, h3⟩, h4⟩ hb, hb⟩
end Go.Proofs.Ytkhfpcnmnnboeaa.Nt
namespace Go.Proofs.Ytkhfpcnmnnboeaa.Nt
open Go.RowKit Go.Proofs.Ytkhfpcnmnnboeaa.Fa

def lk3 : List Ed := [(1, 2, 5), (2, 3, 1)]
/-- Three routers in a row. -/
def n3 (R : List Ru) (lt : Int) : Nv := newN [1, 2, 3] lk3 R lt
theorem of3 : ofC [1, 2, 3] lk3 = 0 := by kernel_rfl
theorem of3N : ofN [1, 2, 3] lk3 = [1, 2, 3] := by kernel_rfl
theorem of3E : ofE [1, 2, 3] lk3 = [(1, 2, 5), (2, 1, 5), (2, 3, 1), (3, 2, 1)] := by kernel_rfl
theorem n3_ok {R : List Ru} {lt : Int} (hl : 1 ≤ lt ∧ lt ≤ 64) (hc : chkR R = (0, 0)) : NvOk (n3 R lt) 0 := new_nvOk of3 hl (chk_ok hc).1
theorem fr_low {B : Nat} {w w' : World} (hF : Fr (fun j => ¬ j < B) w w') (hB : B ≤ w.heap.size) : Below B w w' := hF.below hB (fun _ hk => Nat.le_of_not_lt hk)
set_option maxRecDepth 100000 in
theorem three_ok {w : World} {R : List Ru} {lt : Int} {r : Value} (hr : SlAt ruC 5 w r R) (hl : 1 ≤ lt ∧ lt ≤ 64) (hc : chkR R = (0, 0)) :
    Calls Try.prog 8 #[.int .i64 lt, r] w fun e w' => (∃ np, e = .returned (pp np) ∧ ∀ Z : Nat → Prop, (∀ j, Z j → j < w.heap.size) → NetZ w' Z np (n3 R lt)) ∧ Below w.heap.size w w' := by
  obtain ⟨W1, hW1⟩ : ∃ W1, (w.alloc (.cells #[.int .i64 1, .int .i64 2, .int .i64 3] 3)).alloc (.cells #[.int .i64 1, .int .i64 2, .int .i64 5, .int .i64 2, .int .i64 3, .int .i64 1] 52) = W1 := ⟨_, rfl⟩
  have b1 : Below w.heap.size w W1 := by rw [← hW1]; exact ((Below.refl _ w).alloc (Nat.le_refl _) _).alloc (by simp) _
  have hA : W1.heap[w.heap.size]? = some (.cells #[.int .i64 1, .int .i64 2, .int .i64 3] 3) := by rw [← hW1, Below.heap_alloc _ _ _ (by simp)]; exact heap_alloc_last w _
  have hB : W1.heap[w.heap.size + 1]? = some (.cells #[.int .i64 1, .int .i64 2, .int .i64 5, .int .i64 2, .int .i64 3, .int .i64 1] 52) := by
    rw [← hW1]
    have := heap_alloc_last (w.alloc (.cells #[.int .i64 1, .int .i64 2, .int .i64 3] 3)) (.cells #[.int .i64 1, .int .i64 2, .int .i64 5, .int .i64 2, .int .i64 3, .int .i64 1] 52)
    rwa [World.size_alloc] at this
  have s1 := slAt_block (cs := ic) (sz := 1) (l := [1, 2, 3]) (cap := 3) (fun _ => rfl) hA (by decide) (by omega)
  have s2 := slAt_block (cs := ec) (sz := 3) (l := lk3) (cap := 2) (fun _ => rfl) hB (by decide) (by omega)
  have HN := hidIn (new_ok s1 s2 (hr.keep b1 (Nat.le_refl _)) of3 hl hc)
  obtain ⟨ra, rc, rfl, _⟩ := hr
  have HB := hidIn b1
  have HW := hidIn hW1
  clear b1 hA hB s1 s2 hW1 hc
  go_enter Try.func8, Try.ntmps8
  go_wp2_with fail
  rw [HW.out]
  refine HN.out.mono ?_
  rintro e w2 ⟨⟨np, rfl, hZ⟩, hb2⟩
  have HZ := hidIn hZ
  have HB2 := hidIn (HB.out.trans (hb2.mono HB.out.size))
  clear hZ hb2 HN HW
  go_wp2_with fail
  go_returns
  exact ⟨⟨_, rfl, fun Z hZ => HZ.out Z (fun j hj => Nat.lt_of_lt_of_le (hZ j hj) HB.out.size)⟩, HB2.out⟩
/-- What works makes. -/
def k0 : Nv := n3 [] 2
def k1 : Nv := sendZ k0 1 2 ⟨#[97]⟩
def k2 : Nv := tickN k1
def k3 : Nv := tickN k2
theorem k0_facts : refE k0 1 2 (⟨#[97]⟩ : ByteArray).size = 0 ∧ sendF k0 1 2 (⟨#[97]⟩ : ByteArray).size = (1, 0, 0) := ⟨by kernel_rfl, by kernel_rfl⟩
theorem k1_facts : k1.L.length = 1 ∧ comeN k1 = [] := ⟨by kernel_rfl, by kernel_rfl⟩
theorem k2_facts : comeN k2 = [(1, 2, ⟨#[97]⟩)] ∧ k3.L.length = 0 ∧ k3.now = 2 := ⟨by kernel_rfl, by kernel_rfl, by kernel_rfl⟩
set_option maxRecDepth 100000 in
set_option maxHeartbeats 1000000 in
theorem nworks_any (w : World) : Calls Try.prog 7 #[] w fun e w' => e = .returned (.bool true) ∧ Below w.heap.size w w' := by
  have H3 := hidIn (three_ok (w := w) (R := []) (lt := 2) (r := .slice none 0 0) ⟨none, 0, rfl, by simp, Nat.le_refl _, fun h => absurd h (by simp)⟩ (by omega) (by decide))
  have ok0 : NvOk k0 0 := n3_ok (by omega) (by decide)
  have HS := hidIn (fun w1 np (h : NetZ w1 (fun j => j < w.heap.size) np k0) => by
    have := zsend h ok0 (by omega) 1 2 ⟨#[97]⟩
    rw [k0_facts.1, k0_facts.2] at this
    exact this)
  have ok1 : NvOk k1 3 := ok0.sendZ 1 2 _
  have HF1 := hidIn (fun w1 np (h : NetZ w1 (fun j => j < w.heap.size) np k1) => by
    have := zflying h
    rw [k1_facts.1] at this
    exact this)
  have HT1 := hidIn (fun w1 np (h : NetZ w1 (fun j => j < w.heap.size) np k1) => by
    have := ztick h ok1 (by omega)
    rw [k1_facts.2] at this
    exact this)
  have ok2 : NvOk k2 4 := ok1.tick
  have HT2 := hidIn (fun w1 np (h : NetZ w1 (fun j => j < w.heap.size) np k2) => by
    have := ztick h ok2 (by omega)
    rw [k2_facts.1] at this
    exact this)
  have HF3 := hidIn (fun w1 np (h : NetZ w1 (fun j => j < w.heap.size) np k3) => by
    have := zflying h
    rw [k2_facts.2.1] at this
    exact this)
  have HN3 := hidIn (fun w1 np (h : NetZ w1 (fun j => j < w.heap.size) np k3) => by
    have := znow h
    rw [k2_facts.2.2] at this
    exact this)
  have hq := fun a0 a1 a2 b0 b1 b2 w => eq_Ft a0 a1 a2 b0 b1 b2 w
  go_enter Try.func7, Try.ntmps7
  go_wp2_with fail
  refine H3.out.mono ?_
  rintro e w1 ⟨⟨np, rfl, hZ⟩, hb1⟩
  have HZ1 := hidIn (hZ (fun j => j < w.heap.size) (fun j hj => hj))
  have HB1 := hidIn hb1
  have HS1 := hidIn (HS.out w1 np HZ1.out)
  clear hZ hb1 H3 HS
  go_wp2_with fail
  refine HS1.out.mono ?_
  rintro e w2 ⟨rfl, hz2, hf2⟩
  have HZ2 : Hid (NetZ w2 (fun j => j < w.heap.size) np k1) := hidIn hz2
  have HB2 := hidIn (HB1.out.trans (fr_low hf2 HB1.out.size))
  clear hz2 hf2 HS1 HZ1 HB1
  obtain ⟨W3, hW3⟩ : ∃ W3, w2.alloc (.cells #[.int .i64 1, .int .i64 0, .int .i64 0] 33) = W3 := ⟨_, rfl⟩
  have b3 : Below w2.heap.size w2 W3 := by rw [← hW3]; exact (Below.refl _ w2).alloc (Nat.le_refl _) _
  have hX : W3.heap[w2.heap.size]? = some (.cells #[.int .i64 1, .int .i64 0, .int .i64 0] 33) := by rw [← hW3]; exact heap_alloc_last w2 _
  have x0 := cell_of_row _ _ 0 _ _ _ hX
  have x1 := cell_of_row _ _ 1 _ _ _ hX
  have x2 := cell_of_row _ _ 2 _ _ _ hX
  simp at x0 x1 x2
  have HZ3 := hidIn (HZ2.out.below b3)
  have HB3 := hidIn (HB2.out.trans (b3.mono HB2.out.size))
  have HFl := hidIn (HF1.out W3 np HZ3.out)
  have HTk := hidIn (HT1.out W3 np HZ3.out)
  have HW3 := hidIn hW3
  clear b3 hX hW3 HZ2 HB2 HF1 HT1
  go_upto_region 5 with fail
  rw [HW3.out]
  go_wp2_with (go_at_call 17; refine HFl.out.mono ?_; rintro e w9 ⟨rfl, hw9⟩; rw [hw9]; clear hw9 w9)
  refine HTk.out.mono ?_
  rintro e w4 ⟨⟨v, rfl, hrow, hz4⟩, hf4⟩
  have HZ4 : Hid (NetZ w4 (fun j => j < w.heap.size) np k2) := hidIn (hz4.less (fun j hj => .inl hj))
  have HB4 := hidIn (HB3.out.trans (fr_low hf4 HB3.out.size))
  have HTk2 := hidIn (HT2.out w4 np HZ4.out)
  obtain ⟨va, vc, rfl⟩ := row_shape hrow
  clear hrow hz4 hf4 HTk HT2 x0 x1 x2
  go_wp2_with fail
  refine HTk2.out.mono ?_
  rintro e w5 ⟨⟨v, rfl, hrow, hz5⟩, hf5⟩
  have HZ5 : Hid (NetZ w5 (fun j => j < w.heap.size) np k3) := hidIn (hz5.less (fun j hj => .inl hj))
  have HB5 := hidIn (HB4.out.trans (fr_low hf5 HB4.out.size))
  have HO := hidIn (one_any (slAt_of_row (cs := arC) (fun _ => rfl) hrow rfl) 1 2 ⟨#[97]⟩)
  have HE : Hid (oneB [(1, 2, ⟨#[97]⟩)] 1 2 ⟨#[97]⟩ = true) := hidIn (by simp [oneB])
  rw [HE.out] at HO
  have HFl3 := hidIn (HF3.out w5 np HZ5.out)
  have HNw3 := hidIn (HN3.out w5 np HZ5.out)
  obtain ⟨va, vc, rfl⟩ := row_shape hrow
  clear hrow hz5 hf5 HTk2 HF3 HN3
  go_wp2_with (first
    | (go_at_call 22; refine HO.out.mono ?_; rintro e w9 ⟨rfl, hw9⟩; rw [hw9]; clear hw9 w9)
    | (go_at_call 17; refine HFl3.out.mono ?_; rintro e w9 ⟨rfl, hw9⟩; rw [hw9]; clear hw9 w9)
    | (go_at_call 18; refine HNw3.out.mono ?_; rintro e w9 ⟨rfl, hw9⟩; rw [hw9]; clear hw9 w9))
  go_returns
  exact ⟨rfl, HB5.out⟩
end Go.Proofs.Ytkhfpcnmnnboeaa.Nt
namespace Go.Proofs.Ytkhfpcnmnnboeaa.Nt
open Go.RowKit Go.Proofs.Ytkhfpcnmnnboeaa.Fa

/-- The bytes of a message by its number. -/
def bsN (j : Nat) : ByteArray := ⟨#[UInt8.ofNat j]⟩
theorem bsN_size (j : Nat) : (bsN j).size = 1 := rfl
/-- What is on its way of those sent, by their ticks. -/
def entL (W : List Int) (nx : Nat) : List (Ca.Tg Ar) := (W.zipIdx.drop nx).map fun x => (((2, 3, bsN x.2), x.1), ((x.2 + 1 : Nat) : Int))
theorem entL_snoc {W : List Int} {nx : Nat} (h : nx ≤ W.length) (t : Int) : entL (W ++ [t]) nx = entL W nx ++ [(((2, 3, bsN W.length), t), ((W.length + 1 : Nat) : Int))] := by
  unfold entL
  rw [List.zipIdx_append, List.drop_append_of_le_length (by simpa using h), List.map_append]
  simp
theorem entL_drop (W : List Int) (nx k : Nat) : (entL W nx).drop k = entL W (nx + k) := by
  unfold entL
  rw [← List.map_drop, List.drop_drop]
theorem entL_get {W : List Int} {nx r : Nat} {t : Int} (h : W[nx + r]? = some t) : (entL W nx)[r]? = some (((2, 3, bsN (nx + r)), t), ((nx + r + 1 : Nat) : Int)) := by
  unfold entL
  rw [List.getElem?_map, List.getElem?_drop, List.getElem?_zipIdx, h]
  simp
theorem entL_len (W : List Int) (nx : Nat) : (entL W nx).length = W.length - nx := by simp [entL]
theorem tw_all {α : Type} {p : α → Bool} : ∀ {L : List α}, (∀ a ∈ L, p a = true) → L.takeWhile p = L ∧ L.dropWhile p = []
  | [], _ => ⟨rfl, rfl⟩
  | a :: L, h => by
    have ha := h a (List.mem_cons_self ..)
    obtain ⟨h1, h2⟩ := tw_all (L := L) (fun b hb => h b (List.mem_cons_of_mem _ hb))
    rw [List.takeWhile_cons, List.dropWhile_cons, if_pos ha, if_pos ha, h1, h2]
    exact ⟨rfl, rfl⟩
theorem tw_mem {α : Type} {p : α → Bool} : ∀ {L : List α} {a : α}, a ∈ L.takeWhile p → p a = true
  | [], _, h => by simp at h
  | b :: L, a, h => by
    rw [List.takeWhile_cons] at h
    by_cases hb : p b = true
    · rw [if_pos hb] at h
      rcases List.mem_cons.1 h with rfl | h
      · exact hb
      · exact tw_mem h
    · rw [if_neg hb] at h
      cases h
theorem insL_end {L : List (Ca.Tg Ar)} {e : Ca.Tg Ar} (h : ∀ a ∈ L, a.1.2 ≤ e.1.2) : Ca.insL L e = L ++ [e] := by
  unfold Ca.insL
  obtain ⟨h1, h2⟩ := tw_all (L := L) (p := fun a => decide (Ca.tick a.1 ≤ Ca.tick e.1)) (fun a ha => by simpa using h a ha)
  rw [h1, h2]
theorem due_take (L : List (Ca.Tg Ar)) (t : Int) : Ca.dueT L t = L.take (Ca.dueT L t).length ∧ Ca.restT L t = L.drop (Ca.dueT L t).length := by
  have h := Ca.due_rest L t
  constructor
  · have h1 := congrArg (List.take (Ca.dueT L t).length) h
    rw [List.take_left'  rfl] at h1
    exact h1
  · have h1 := congrArg (List.drop (Ca.dueT L t).length) h
    rw [List.drop_left' rfl] at h1
    exact h1
theorem due_mem {L : List (Ca.Tg Ar)} {t : Int} {a : Ca.Tg Ar} (h : a ∈ Ca.dueT L t) : a.1.2 ≤ t := by
  have h1 := tw_mem h
  simpa using h1
theorem rest_mem : ∀ {L : List (Ca.Tg Ar)} {t : Int}, L.Pairwise (fun a b => a.1.2 ≤ b.1.2) → ∀ a ∈ Ca.restT L t, t < a.1.2
  | [], _, _, a, ha => by simp [Ca.restT] at ha
  | x :: L, t, h, a, ha => by
    by_cases hx : Ca.tick x.1 ≤ t
    · rw [(Ca.due_yes (L := L) hx).2] at ha
      exact rest_mem (List.pairwise_cons.1 h).2 a ha
    · rw [(Ca.due_no (L := L) hx).2] at ha
      have hx' : t < x.1.2 := by
        have : ¬ x.1.2 ≤ t := hx
        omega
      rcases List.mem_cons.1 ha with rfl | ha
      · exact hx'
      · have := (List.pairwise_cons.1 h).1 a ha
        omega
theorem entL_pw {W : List Int} (h : W.Pairwise (· ≤ ·)) (nx : Nat) : (entL W nx).Pairwise (fun a b => a.1.2 ≤ b.1.2) := by
  rw [List.pairwise_iff_getElem] at h ⊢
  intro i j hi hj hij
  rw [entL_len] at hi hj
  have h1 := entL_get (W := W) (nx := nx) (r := i) (t := W[nx + i]'(by omega)) (List.getElem?_eq_getElem _)
  have h2 := entL_get (W := W) (nx := nx) (r := j) (t := W[nx + j]'(by omega)) (List.getElem?_eq_getElem _)
  rw [List.getElem?_eq_some_iff] at h1 h2
  obtain ⟨_, h1⟩ := h1
  obtain ⟨_, h2⟩ := h2
  rw [h1, h2]
  exact h (nx + i) (nx + j) (by omega) (by omega) (by omega)
/-- The law's net amid its rounds. -/
structure IO (lt : Int) (i : Nat) (W : List Int) (nx : Nat) (N : Nv) : Prop where
  now : N.now = i
  lq : N.lt = lt
  fl : N.L = entL W nx
  p : N.p = W.length
  le : nx ≤ W.length
  so : W.Pairwise (· ≤ ·)
  lo : ∀ t ∈ W.drop nx, (i : Int) + 1 ≤ t
  hi : ∀ t ∈ W, t ≤ (i : Int) + lt
  E : N.E = ofE [1, 2, 3] lk3
  C : ∀ k, N.C k = false
  st : ∀ k, N.st k = false
  R : N.R = []
theorem IO.start {lt : Int} : IO lt 0 [] 0 (n3 [] lt) :=
  ⟨rfl, rfl, rfl, rfl, Nat.le_refl _, List.Pairwise.nil, fun t ht => by simp at ht, fun t ht => by simp at ht, rfl, fun _ => rfl, fun _ => rfl, rfl⟩
theorem IO.send {lt : Int} {i nx : Nat} {W : List Int} {N : Nv} (h : IO lt i W nx N) (hl : 1 ≤ lt) (hW : W.length ≤ 1000) : refE N 2 3 1 = 0 ∧ sendF N 2 3 1 = (1, 0, 0) ∧ IO lt i (W ++ [(i : Int) + lt]) nx (sendZ N 2 3 (bsN W.length)) := by
  have hlk : lkQ N 2 3 = true := by
    unfold lkQ
    rw [h.E, of3E]
    rfl
  have hup : upQ N 2 3 = true := by
    unfold upQ cutQ
    rw [h.C, h.st, h.st]
    rfl
  have hll : N.L.length ≤ 1000 := by rw [h.fl, entL_len]; omega
  have hr : refE N 2 3 1 = 0 := by
    unfold refE
    rw [if_pos hlk, if_neg (by omega), if_pos hup, if_neg (by omega)]
  have hf : fateN N 2 3 = (1, 0, 0) := by
    unfold fateN
    rw [h.R]
    rfl
  refine ⟨hr, by unfold sendF; rw [if_pos hr, hf], ?_⟩
  have hz : sendZ N 2 3 (bsN W.length) = putN (askN N 2 3) (2, 3, bsN W.length) 0 := by
    unfold sendZ
    rw [if_pos (by rw [bsN_size]; exact hr)]
    unfold sendN
    rw [hf]
    rfl
  rw [hz]
  have hins : Ca.insL N.L (((2, 3, bsN W.length), N.now + (N.lt + 0)), ((N.p + 1 : Nat) : Int)) = entL (W ++ [(i : Int) + lt]) nx := by
    rw [entL_snoc h.le, ← h.fl, h.now, h.lq, h.p, Int.add_zero]
    refine insL_end (fun a ha => ?_)
    rw [h.fl] at ha
    obtain ⟨r, hr, rfl⟩ := List.getElem_of_mem ha
    have hr' := hr
    rw [entL_len] at hr'
    have h1 := entL_get (W := W) (nx := nx) (r := r) (t := W[nx + r]'(by omega)) (List.getElem?_eq_getElem _)
    rw [List.getElem?_eq_some_iff] at h1
    obtain ⟨_, h1⟩ := h1
    rw [h1]
    exact h.hi _ (List.getElem_mem _)
  refine ⟨h.now, h.lq, hins, by show N.p + 1 = _; rw [h.p]; simp, by rw [List.length_append]; have := h.le; omega, ?_, fun t ht => ?_, fun t ht => ?_, h.E, h.C, h.st, by show dropR N.R _ = []; rw [h.R]; rfl⟩
  · rw [List.pairwise_append]
    exact ⟨h.so, List.pairwise_singleton _ _, fun a ha b hb => by rw [List.mem_singleton.1 hb]; exact h.hi a ha⟩
  · rw [List.drop_append_of_le_length h.le] at ht
    rcases List.mem_append.1 ht with ht | ht
    · exact h.lo t ht
    · rw [List.mem_singleton.1 ht]; omega
  · rcases List.mem_append.1 ht with ht | ht
    · exact h.hi t ht
    · rw [List.mem_singleton.1 ht]; exact Int.le_refl _
/-- At a tick those come whose tick it is. -/
theorem IO.tick {lt : Int} {i nx : Nat} {W : List Int} {N : Nv} (h : IO lt i W nx N) : ∃ k, nx + k ≤ W.length ∧ (comeN N).length = k ∧ (∀ r, r < k → (comeN N)[r]? = some (2, 3, bsN (nx + r)) ∧ W[nx + r]? = some ((i : Int) + 1)) ∧ IO lt (i + 1) W (nx + k) (tickN N) := by
  obtain ⟨d1, d2⟩ := due_take N.L (N.now + 1)
  obtain ⟨k, hk⟩ : ∃ k, (Ca.dueT N.L (N.now + 1)).length = k := ⟨_, rfl⟩
  rw [hk] at d1 d2
  have hle := h.le
  have hkl : k ≤ W.length - nx := by
    have h1 := congrArg List.length d1
    rw [hk, List.length_take, h.fl, entL_len] at h1
    omega
  have hcl : (comeN N).length = k := by unfold comeN; rw [List.length_map]; exact hk
  refine ⟨k, by omega, hcl, fun r hr => ?_, ?_⟩
  · have h1 := entL_get (W := W) (nx := nx) (r := r) (t := W[nx + r]'(by omega)) (List.getElem?_eq_getElem _)
    have h2 : (Ca.dueT N.L (N.now + 1))[r]? = some (((2, 3, bsN (nx + r)), W[nx + r]'(by omega)), ((nx + r + 1 : Nat) : Int)) := by
      rw [d1, List.getElem?_take, if_pos hr, h.fl]
      exact h1
    have h3 := due_mem (List.mem_of_getElem? h2)
    rw [h.now] at h3
    have h4 : (i : Int) + 1 ≤ W[nx + r]'(by omega) := h.lo _ (by
      rw [List.mem_iff_getElem?]
      exact ⟨r, by rw [List.getElem?_drop]; exact List.getElem?_eq_getElem _⟩)
    refine ⟨by unfold comeN; rw [List.getElem?_map, h2]; rfl, ?_⟩
    rw [List.getElem?_eq_getElem (by omega)]
    congr 1
    dsimp only at h3
    omega
  · refine ⟨by show N.now + 1 = _; rw [h.now]; omega, h.lq, by show Ca.restT N.L (N.now + 1) = _; rw [d2, h.fl, entL_drop], h.p, by omega, h.so, fun t ht => ?_, fun t ht => by have := h.hi t ht; omega, h.E, h.C, h.st, h.R⟩
    obtain ⟨r, hr⟩ := List.mem_iff_getElem?.1 ht
    rw [List.getElem?_drop] at hr
    have h1 := entL_get (W := W) (nx := nx + k) (r := r) hr
    have h2 := rest_mem (t := N.now + 1) (entL_pw h.so nx) _ (by
      rw [← h.fl, d2, h.fl, entL_drop]
      exact List.mem_of_getElem? h1)
    rw [h.now] at h2
    dsimp only at h2
    omega
end Go.Proofs.Ytkhfpcnmnnboeaa.Nt
namespace Go.Proofs.Ytkhfpcnmnnboeaa.Nt
open Go.RowKit Go.Proofs.Ytkhfpcnmnnboeaa.Fa

abbrev u8C (x : Int) : List Value := [.int .u8 x]
theorem slAt_u8 {w : World} {v : Value} {zs : List Int} (h : SlAt u8C 1 w v zs) : ∃ a cap, v = .slice a zs.length cap ∧ zs.length ≤ 9223372036854775807 ∧ zs.length ≤ cap ∧ (0 < zs.length → ∃ bk o, a = some ⟨bk, o, none⟩ ∧ bk < w.heap.size ∧ ∀ j z, zs[j]? = some z → w.cell? ⟨bk, o + j, none⟩ = some (.int .u8 z)) := by
  obtain ⟨a, cap, rfl, h0, h1, h2⟩ := h
  refine ⟨a, cap, rfl, h0, h1, fun hp => ?_⟩
  obtain ⟨bk, o, rfl, h3, h4⟩ := h2 hp
  refine ⟨bk, o, rfl, h3, fun j z hz => ?_⟩
  have := h4 j z hz 0 _ rfl
  rwa [Nat.mul_one, Nat.add_zero] at this
theorem wrap_s {x : Int} (h : -1000000 ≤ x ∧ x ≤ 1000000) : IntKind.i64.wrap x = x := by
  simp [IntKind.wrap, IntKind.bits, IntKind.signed]
  omega
theorem tmod_bd (a m : Int) (hm : 0 < m) : -m < a.tmod m ∧ a.tmod m < m := by
  have h1 := Int.tmod_lt_of_pos a hm
  have h2 := Int.lt_tmod_of_pos a hm
  omega
theorem NetZ.grow {w w' : World} {Z Y T : Nat → Prop} {np : Nat} {N : Nv} (h : NetZ w Z np N) (hF : Fr T w w') (hT : ∀ j, T j → Z j) (hY : ∀ j, Y j → Z j ∨ (w.heap.size ≤ j ∧ j < w'.heap.size)) : NetZ w' Y np N := by
  obtain ⟨⟨D, S, h1, h2, h3⟩, h4⟩ := h
  refine ⟨⟨D, S, h1.keep hF (fun j hj ht => h2 j hj (hT j ht)), fun j hj hy => ?_, fun j hj => Nat.lt_of_lt_of_le (h3 j hj) hF.size⟩, fun j hj => ?_⟩
  · rcases hY j hy with h | h
    · exact h2 j hj h
    · have := h1.own_lt h3 hj; omega
  · rcases hY j hj with h | h
    · exact Nat.lt_of_lt_of_le (h4 j h) hF.size
    · exact h.2
abbrev wC (x : Int) : List Value := [.int .u64 x]
theorem infoU64 : (Try.prog.info? 47).map (fun i => (i.zero, i.size, i.bytes)) = some (some (.int .u64 0), 1, 8) := by kernel_rfl
theorem append_u64 {W : World} {base k : Nat} {u : Value} {l : List Int} (hr : W.ownsRow base 47 1 u k (fl wC l)) (x : Int) (hk : (k + 1) * 8 ≤ 140737488355328) (hbase : base ≤ W.heap.size) :
    ∃ g cap w6, (Builtin.append_ #[46, 46] 46 #[u, .slice (some ⟨W.heap.size, 0, none⟩) 1 1]).run Try.prog (W.alloc (.cells (wC x).toArray 47)) = .ok (.slice (some ⟨g, 0, none⟩) (k + 1) cap) w6 ∧
      w6.ownsRow base 47 1 (.slice (some ⟨g, 0, none⟩) (k + 1) cap) (k + 1) (fl wC (l ++ [x])) ∧ (u.ownBlock = some g ∨ g = W.heap.size + 1) ∧ W.grownBy w6 u.ownBlock ∧ Below base W w6 :=
  append_one (P := Try.prog) (cs := wC) (T := 46) (fun _ => rfl) (fun _ => by simp [Value.oneCell']) Try.underlying46 infoU64 rfl (by decide) hr x hk (by unfold maxLen; omega) hbase
/-- The law's blocks: what was there, and when. -/
def ZI (B : Nat) (u : Value) (j : Nat) : Prop := j < B ∨ u.ownBlock = some j
/-- The law amid its rounds. -/
structure Lw (w wr : World) (np : Nat) (lt : Int) (n i : Nat) (W : List Int) (nx : Nat) (u : Value) (N : Nv) : Prop where
  io : IO lt i W nx N
  z : NetZ wr (ZI w.heap.size u) np N
  ok : NvOk N (3 * W.length + i)
  r : wr.ownsRow w.heap.size 47 1 u W.length (fl wC W)
  b : Below w.heap.size w wr
  last : ∀ t ∈ W, t ≤ (n : Int) - 1 + lt
theorem conv1 {W : World} {b j : Nat} (h : W.heap[b]? = some (.cells #[.int .u8 (j : Int)] 5)) : (convert 23 9 (.slice (some ⟨b, 0, none⟩) 1 1)).run Try.prog W = .ok (.string (bsN j)) W := by
  have := run_convert_bytes_arg (P := Try.prog) W 23 5 Try.underlying23 Try.underlying5 b 0 1 1 [(j : Int)] rfl (fun i hi => by
    have h0 : i = 0 := by omega
    subst h0
    have := cell_of_row _ _ 0 _ _ _ h
    exact this) 9 Try.underlying9
  exact this
theorem w_u8 {j : Nat} (h : j < 256) : IntKind.u8.wrap (j : Int) = (j : Int) := by
  simp [IntKind.wrap, IntKind.bits, IntKind.signed]
  omega
/-- What the law's comparison reads. -/
structure ChR (kb gb p q j : Nat) (t : Int) (wq : World) : Prop where
  a : wq.cell? ⟨kb, p, none⟩ = some (.int .i64 2)
  b : wq.cell? ⟨kb, p + 1, none⟩ = some (.int .i64 3)
  c : wq.cell? ⟨kb, p + 2, none⟩ = some (.string (bsN j))
  d : wq.cell? ⟨gb, q, none⟩ = some (.int .u64 t)
set_option maxRecDepth 100000 in
set_option maxHeartbeats 8000000 in
theorem netInOrder_any {l : List Int} {v : Value} {w : World} (h : SlAt u8C 1 w v l) (hb : ∀ y ∈ l, 0 ≤ y ∧ y ≤ 255) (hlen : l.length ≤ 1000000000000000) (late : Int) :
    Calls Try.prog 4 #[v, .int .i64 late] w fun e w' => e = .returned (.bool true) ∧ Below w.heap.size w w' := by
  have HW := hidIn (nworks_any w)
  obtain ⟨va, vc, rfl, _, _, hat⟩ := slAt_u8 h
  have HA := hidIn hat
  have Hb := hidIn hb
  obtain ⟨n, hn⟩ : ∃ n, l.length = n := ⟨_, rfl⟩
  rw [hn] at hlen ⊢
  have Hn := hidIn hn
  clear h hat hb hn
  have htm := tmod_bd late 9 (by omega)
  obtain ⟨m, hm⟩ : ∃ m, late.tmod 9 = m := ⟨_, rfl⟩
  rw [hm] at htm
  have hm2 : 0 ≤ (m + 9).tmod 9 ∧ (m + 9).tmod 9 ≤ 8 := by
    have := tmod_bd (m + 9) 9 (by omega)
    have := Int.tmod_nonneg 9 (show (0 : Int) ≤ m + 9 by omega)
    omega
  obtain ⟨q, hq⟩ : ∃ q, (m + 9).tmod 9 = q := ⟨_, rfl⟩
  rw [hq] at hm2
  have hw1 : IntKind.i64.wrap (late.tmod 9) = m := by rw [hm]; exact wrap_s (by omega)
  have hw2 : IntKind.i64.wrap (m + 9) = m + 9 := wrap_s (by omega)
  have hw3 : IntKind.i64.wrap ((m + 9).tmod 9) = q := by rw [hq]; exact wrap_s (by omega)
  obtain ⟨lt, hlt⟩ : ∃ t, 1 + q = t := ⟨_, rfl⟩
  have hl9 : 1 ≤ lt ∧ lt ≤ 9 := by omega
  have hw4 : IntKind.i64.wrap (1 + q) = lt := by rw [hlt]; exact wrap_s (by omega)
  clear htm hm2
  go_enter Try.func4, Try.ntmps4
  go_wp2_with fail
  refine HW.out.mono ?_
  rintro e w1 ⟨rfl, hb1⟩
  have HB1 := hidIn hb1
  clear hb1 HW
  have H3 := hidIn (three_ok (w := w1) (R := []) (lt := lt) (r := .slice none 0 0) ⟨none, 0, rfl, by simp, Nat.le_refl _, fun h => absurd h (by simp)⟩ (by omega) (by decide))
  go_upto_region 4 with fail
  clear hw1 hw2 hw3 hw4 hm hq hlt
  go_wp2_with fail
  refine H3.out.mono ?_
  rintro e w2 ⟨⟨np, rfl, hZ⟩, hb2⟩
  have HZ2 := hidIn (hZ (fun j => j < w.heap.size) (fun j hj => Nat.lt_of_lt_of_le hj HB1.out.size))
  have HB2 := hidIn (HB1.out.trans (hb2.mono HB1.out.size))
  clear hZ hb2 H3 HB1
  have hwn : ∀ z : Int, 0 ≤ z ∧ z ≤ 2000000000000000 → IntKind.i64.wrap z = z := fun z h => by
    simp [IntKind.wrap, IntKind.bits, IntKind.signed]
    omega
  have hn9 : IntKind.i64.wrap ((n : Int) + lt) = (n : Int) + lt := hwn _ (by omega)
  go_wp2_with fail
  go_loopw [6, 7, 8] (fun uv nv iv wr => ∃ (i nx : Nat) (W : List Int), i ≤ 60 ∧ (i : Int) ≤ (n : Int) + lt ∧ iv = .int .i64 i ∧ nv = .int .i64 nx ∧ (∃ a c, uv = .slice a W.length c) ∧ W.length ≤ 200 ∧ nx ≤ W.length ∧ Hid (∃ N, Lw w wr np lt n i W nx uv N)) (fun _ _ iv _ => 60 - (intOf iv).toNat)
  case atStart =>
    refine ⟨0, 0, [], by omega, by omega, rfl, rfl, ⟨none, 0, rfl⟩, Nat.zero_le _, Nat.le_refl _, hidIn ⟨n3 [] lt, IO.start, HZ2.out.less (fun j hj => hj.elim id (fun h => by simp [Value.ownBlock] at h)), n3_ok (by omega) (by decide), World.ownsRow_nil _ _ _ _, HB2.out, fun t ht => by simp at ht⟩⟩
  case round =>
    obtain ⟨i, nx, W, hi60, hin, rfl, rfl, ⟨ua, uc, rfl⟩, hW2, hnx, HR⟩ := hrel
    by_cases hgo : (i : Int) < (n : Int) + lt ∧ i < 60
    · have hg1 : (i : Int) < (n : Int) + lt := hgo.1
      have hg2 : (i : Int) < 60 := by omega
      obtain ⟨N, hL⟩ := HR.out
      have HL := hidIn hL
      clear HR hL hgo
      by_cases hlt : i < n
      · have hli : (i : Int) < (n : Int) := by omega
        obtain ⟨bk, o, rfl, hbk, hc⟩ := HA.out (by rw [Hn.out]; omega)
        obtain ⟨y, hy⟩ : ∃ y, l[i]? = some y := ⟨l[i]'(by rw [Hn.out]; exact hlt), List.getElem?_eq_getElem _⟩
        have hyb := Hb.out y (List.mem_of_getElem? hy)
        have HY := hidIn (hc i y hy)
        obtain ⟨y, rfl⟩ : ∃ z : Nat, y = z := ⟨y.toNat, by omega⟩
        clear hc hy
        go_wp2_with fail
        go_loopw [6, 9] (fun uv kv wr => ∃ (k : Nat) (W : List Int), k ≤ 4 ∧ kv = .int .i64 k ∧ (∃ a c, uv = .slice a W.length c) ∧ W.length ≤ 200 ∧ nx ≤ W.length ∧ Hid (∃ N, Lw w wr np lt n i W nx uv N)) (fun _ kv _ => 4 - (intOf kv).toNat)
        case atStart => exact ⟨0, W, by omega, rfl, ⟨ua, uc, rfl⟩, hW2, hnx, hidIn ⟨N, HL.out⟩⟩
        case round =>
          clear HL hW2 hnx
          obtain ⟨k, W, hk4, rfl, ⟨ua, uc, rfl⟩, hW2, hnx, HR⟩ := hrel
          obtain ⟨N, hL⟩ := HR.out
          have HL := hidIn hL
          have yc := (hL.b.cell (p := ⟨bk, o + i, none⟩) hbk).trans HY.out
          clear HR hL
          by_cases hgo : k < y % 4 ∧ W.length < 200
          · have hg3 : (k : Int) < (y : Int) % 4 := by omega
            have hg4 : (W.length : Int) < 200 := by omega
            obtain ⟨p, hp⟩ : ∃ p, W.length = p := ⟨_, rfl⟩
            rw [hp] at hg4 hgo hW2 hnx ⊢
            have Hp := hidIn hp
            have hw8 := w_u8 (j := p) (by omega)
            obtain ⟨f1, f2, f3⟩ := HL.out.io.send (by omega) (by rw [hp]; omega)
            rw [hp] at f3
            obtain ⟨W1, hW1⟩ : ∃ W1, wr.alloc (.cells #[.int .u8 (p : Int)] 5) = W1 := ⟨_, rfl⟩
            have b1 : Below wr.heap.size wr W1 := by rw [← hW1]; exact (Below.refl _ wr).alloc (Nat.le_refl _) _
            have hA1 : W1.heap[wr.heap.size]? = some (.cells #[.int .u8 (p : Int)] 5) := by rw [← hW1]; exact heap_alloc_last wr _
            have hcv := conv1 hA1
            rw [← hW1] at hcv
            have hz1 := HL.out.z.below b1
            have HSd := hidIn (by
              have := zsend hz1 HL.out.ok (by rw [hp]; omega) 2 3 (bsN p)
              rw [show (bsN p).size = 1 from rfl, f1, f2] at this
              exact this)
            rw [← hW1] at HSd
            have HB1' := hidIn b1
            have HW1 := hidIn hW1
            have HR1 := hidIn (row_below HL.out.r b1 (Nat.le_refl _))
            have F3 := hidIn f3
            clear b1 hA1 hz1 hW1 hp f1 f2 f3
            go_wp2_with fail
            refine HSd.out.mono ?_
            rintro e w4 ⟨rfl, hz4, hf4⟩
            rw [HW1.out] at hf4
            obtain ⟨W5, hW5⟩ : ∃ W5, w4.alloc (.cells #[.int .i64 1, .int .i64 0, .int .i64 0] 33) = W5 := ⟨_, rfl⟩
            have b5 : Below w4.heap.size w4 W5 := by rw [← hW5]; exact (Below.refl _ w4).alloc (Nat.le_refl _) _
            have hr4 := row_fr HR1.out hf4 (fun j hj h => h (.inr hj))
            have hb4 : Below w.heap.size w w4 := (HL.out.b.trans (HB1'.out.mono HL.out.b.size)).trans (hf4.below (Nat.le_trans HL.out.b.size HB1'.out.size) (fun j hj => Nat.le_of_not_lt (fun h => hj (.inl h))))
            have HZ5 := hidIn (hz4.below b5)
            have HR5 := hidIn (row_below hr4 b5 (Nat.le_refl _))
            have HB5 := hidIn (hb4.trans (b5.mono hb4.size))
            have HNw := hidIn (by
              have := znow HZ5.out
              rw [F3.out.now] at this
              exact this)
            obtain ⟨g6, cap6, w6, hrun, hown, hlie, hgr, hb6⟩ := append_u64 HR5.out ((i : Int) + lt) (by rw [Hp.out]; omega) HB5.out.size
            have hF6 : Fr (fun j => (Value.slice ua W.length uc).ownBlock = some j) W5 w6 := ⟨hgr.os, hgr.tape, hgr.output, hgr.size, fun j hj hne => hgr.block j hj (fun e => hne e.symm)⟩
            have hg6 := (hown.lt g6 rfl).2
            rw [Hp.out] at hrun hown hF6 hlie
            have HLw : Hid (Lw w w6 np lt n i (W ++ [(i : Int) + lt]) nx (.slice (some ⟨g6, 0, none⟩) (p + 1) cap6) (sendZ N 2 3 (bsN p))) := hidIn (by
              refine ⟨F3.out, ?_, ?_, ?_, HB5.out.trans (hb6.mono (Nat.le_refl _)), fun t ht => ?_⟩
              · refine HZ5.out.grow hF6 (fun j hj => Or.inr (by rw [Hp.out]; exact hj)) (fun j hj => ?_)
                rcases hj with hj | hj
                · exact .inl (.inl hj)
                · have : j = g6 := by
                    simp [Value.ownBlock] at hj
                    exact hj.symm
                  subst this
                  rcases hlie with h | h
                  · exact .inl (Or.inr (by rw [Hp.out]; exact h))
                  · exact .inr ⟨by omega, hg6⟩
              · have := HL.out.ok.sendZ 2 3 (bsN p)
                rw [List.length_append, Hp.out]
                rw [Hp.out] at this
                exact this.mono (by simp; omega)
              · rw [List.length_append, Hp.out]
                exact hown
              · rcases List.mem_append.1 ht with ht | ht
                · exact HL.out.last t ht
                · rw [List.mem_singleton.1 ht]; omega)
            have hw9 := wrap_u (x := lt) (by omega)
            have hw10 := wrap_u (x := (i : Int) + lt) (by omega)
            have hpl : (W ++ [(i : Int) + lt]).length = p + 1 := by rw [List.length_append, Hp.out]; rfl
            have Hpl := hidIn hpl
            have HRun := hidIn hrun
            have HW5 := hidIn hW5
            clear hz4 hf4 b5 hr4 hb4 hrun hown hlie hgr hb6 hF6 hg6 hW5 HSd hpl
            go_upto_region 17 with fail
            rw [HW5.out]
            clear HW5
            go_wp2_with (first
              | (go_at_call 18; refine HNw.out.mono ?_; rintro e w9 ⟨rfl, hw9⟩; rw [hw9]; clear hw9 w9)
              | (refine l_append rfl _ _ 46 rfl HRun.out ?_))
            go_roundw
            case rel => exact ⟨k + 1, W ++ [(i : Int) + lt], by omega, by go_num, ⟨_, _, by rw [Hpl.out]⟩, by rw [Hpl.out]; omega, by rw [Hpl.out]; omega, hidIn ⟨_, HLw.out⟩⟩
            case measure => simp [intOf]; omega
          · have hcond : (decide ((k : Int) < (y : Int) % 4) && decide ((W.length : Int) < 200)) = false := by
              simp only [Bool.and_eq_false_iff, decide_eq_false_iff_not]
              omega
            by_cases hg3 : (k : Int) < (y : Int) % 4
            · have hg4 : ¬ (W.length : Int) < 200 := by omega
              clear hcond
              have HTk := hidIn (ztick HL.out.z HL.out.ok (by omega))
              obtain ⟨c, hcle, hcl, hcr, hio⟩ := HL.out.io.tick
              have Hio := hidIn hio
              have Hcr := hidIn hcr
              have Hcl := hidIn hcl
              clear hio hcr hcl
              go_wp2_with fail
              refine HTk.out.mono ?_
              rintro e w4 ⟨⟨cv, rfl, hrow, hz4⟩, hf4⟩
              have hS := slAt_of_row (cs := arC) (fun _ => rfl) hrow rfl
              obtain ⟨ca, cc, rfl, _, _, hca⟩ := hS
              rw [Hcl.out] at hrow hca ⊢
              have hr4 := row_fr HL.out.r hf4 (fun j hj h => h (.inr hj))
              have HWr := hidIn (slAt_of_row (cs := wC) (fun _ => rfl) hr4 rfl)
              have HR4 := hidIn hr4
              have HZ4 := hidIn (hz4.less (Y := ZI w.heap.size (.slice ua W.length uc)) (fun j hj => .inl hj))
              have HB4 := hidIn (HL.out.b.trans (hf4.below HL.out.b.size (fun j hj => Nat.le_of_not_lt (fun h => hj (.inl h)))))
              have Hca := hidIn hca
              have HOk := hidIn HL.out.ok.tick
              have HLa := hidIn HL.out.last
              have HNx := hidIn (show (tickN N).now = (i : Int) + 1 from by rw [Hio.out.now]; omega)
              clear hrow hz4 hf4 hca hr4 HTk HL
              go_wp2_with fail
              go_loopw [7, 13] (fun nv kv wr => ∃ r : Nat, r ≤ c ∧ kv = .int .i64 r ∧ nv = .int .i64 ((nx + r : Nat) : Int) ∧ Hid (Below w4.heap.size w4 wr)) (fun _ kv _ => c - (intOf kv).toNat)
              case atStart => exact ⟨0, Nat.zero_le _, rfl, rfl, hidIn (Below.refl _ _)⟩
              case round =>
                obtain ⟨r, hr, rfl, rfl, HBr⟩ := hrel
                by_cases hrl : r < c
                · have hri : (r : Int) < (c : Int) := by omega
                  obtain ⟨j, hj⟩ : ∃ j, nx + r = j := ⟨_, rfl⟩
                  have hj1 : nx + (r + 1) = j + 1 := by omega
                  obtain ⟨p1, p2⟩ := Hcr.out r hrl
                  rw [hj] at p1 p2 ⊢
                  have Hj1 := hidIn hj1
                  have hjW : j < W.length := by omega
                  have hjn : ¬ (W.length : Int) ≤ (j : Int) := by omega
                  have hji : (j : Int) < (W.length : Int) := by omega
                  have hj8 := w_u8 (j := j) (by omega)
                  obtain ⟨kb, ko, rfl, hkb, hkc⟩ := Hca.out (by omega)
                  obtain ⟨wa, wc, we, _, _, hwat⟩ := HWr.out
                  simp only [Value.slice.injEq] at we
                  obtain ⟨rfl, _, rfl⟩ := we
                  obtain ⟨gb, go, rfl, hgb, hgc⟩ := hwat (by omega)
                  have HS : Hid (∀ wq, Below wr.heap.size wr wq → ChR kb gb (ko + r * 3) (go + j) j ((i : Int) + 1) wq) := hidIn (fun wq hq => by
                    have hbq := HBr.out.trans (hq.mono HBr.out.size)
                    have q0 := hkc r _ p1 0 _ rfl
                    have q1 := hkc r _ p1 1 _ rfl
                    have q2 := hkc r _ p1 2 _ rfl
                    have q3 := hgc j _ p2 0 _ rfl
                    rw [Nat.mul_one, Nat.add_zero] at q3
                    exact ⟨(hbq.cell (p := ⟨kb, _, none⟩) hkb).trans q0, (hbq.cell (p := ⟨kb, _, none⟩) hkb).trans q1, (hbq.cell (p := ⟨kb, _, none⟩) hkb).trans q2, (hbq.cell (p := ⟨gb, _, none⟩) hgb).trans q3⟩)
                  have hq4 := fun a0 a1 b0 b1 a2 b2 w => eq_Ar a0 a1 b0 b1 a2 b2 w
                  clear hkc hwat hgc p1 p2 hkb hgb hj hj1
                  go_upto_region 24 with fail
                  obtain ⟨Wd, hWd⟩ : ∃ Wd, wr.drew = Wd := ⟨_, rfl⟩
                  have bd : Below wr.heap.size wr Wd := by rw [← hWd]; exact (Below.refl _ wr).drew
                  obtain ⟨W5, hW5⟩ : ∃ W5, Wd.alloc (.cells #[.int .u8 (j : Int)] 5) = W5 := ⟨_, rfl⟩
                  have b5 : Below Wd.heap.size Wd W5 := by rw [← hW5]; exact (Below.refl _ Wd).alloc (Nat.le_refl _) _
                  have hX5 : W5.heap[Wd.heap.size]? = some (.cells #[.int .u8 (j : Int)] 5) := by rw [← hW5]; exact heap_alloc_last Wd _
                  have bd5 := bd.trans (b5.mono bd.size)
                  obtain ⟨xb, hxb⟩ : ∃ xb, Wd.heap.size = xb := ⟨_, rfl⟩
                  rw [hxb] at hX5
                  have HNw := hidIn (by
                    have := znow (HZ4.out.below (HBr.out.trans (bd5.mono HBr.out.size)))
                    rw [HNx.out] at this
                    exact this)
                  have HCv : Hid (∀ wq, Below W5.heap.size W5 wq → (convert 23 9 (.slice (some ⟨xb, 0, none⟩) 1 1)).run Try.prog wq = .ok (.string (bsN j)) wq) := hidIn (fun wq hq => conv1 ((hq.block _ (block_lt hX5)).trans hX5))
                  have HBd := hidIn bd
                  have HBd5 := hidIn bd5
                  have HW5 := hidIn hW5
                  have HWd := hidIn hWd
                  have Hxb := hidIn hxb
                  clear bd b5 hX5 bd5 hW5 hWd hxb
                  refine wp_region_held_drew (S := fun wx => ChR kb gb (ko + r * 3) (go + j) j ((i : Int) + 1) wx) (by kernel_rfl) ?_ (fun hHeld => ?_)
                  · rw [HWd.out]; exact HS.out _ HBd.out
                  rw [HWd.out]
                  have hd0 := HS.out _ HBd.out
                  clear hHeld
                  refine wpAnyH_take (i := 0) (v := .int .i64 j) rfl (by kernel_rfl) (by kernel_rfl) (by kernel_rfl) (fun _ _ _ h => h) (Or.inl ⟨by kernel_rfl, fun _ _ => by kernel_rfl⟩) (by assumption) ?_
                  refine wpAnyH_take (i := 1) (v := .slice (some ⟨gb, go, none⟩) W.length uc) rfl (by kernel_rfl) (by kernel_rfl) (by kernel_rfl) (fun _ _ _ h => h) (Or.inl ⟨by kernel_rfl, fun _ _ => by kernel_rfl⟩) (by assumption) ?_
                  refine wpAnyH_take (i := 2) (v := .int .i64 W.length) rfl (by kernel_rfl) (by kernel_rfl) (by kernel_rfl) (fun _ _ _ h => h) (Or.inl ⟨by kernel_rfl, fun wq hSw => by
                      skip
                      go_simp⟩) (by assumption) ?_
                  refine wpAnyH_take (i := 3) (v := .bool false) rfl (by kernel_rfl) (by kernel_rfl) (by kernel_rfl) (fun _ _ _ h => h) (Or.inl ⟨by kernel_rfl, fun wq hSw => by
                      skip
                      go_simp⟩) (by assumption) ?_
                  refine wpAnyH_take (i := 4) (v := .bool false) rfl (by kernel_rfl) (by kernel_rfl) (by kernel_rfl) (fun _ _ _ h => h) (Or.inl ⟨by kernel_rfl, fun _ _ => by kernel_rfl⟩) (by assumption) ?_
                  refine wpAnyH_take (i := 5) (v := .slice (some ⟨kb, ko, none⟩) c cc) rfl (by kernel_rfl) (by kernel_rfl) (by kernel_rfl) (fun _ _ _ h => h) (Or.inl ⟨by kernel_rfl, fun _ _ => by kernel_rfl⟩) (by assumption) ?_
                  refine wpAnyH_take (i := 6) (v := .int .i64 r) rfl (by kernel_rfl) (by kernel_rfl) (by kernel_rfl) (fun _ _ _ h => h) (Or.inl ⟨by kernel_rfl, fun _ _ => by kernel_rfl⟩) (by assumption) ?_
                  refine wpAnyH_take (i := 7) (v := .pointer (some ⟨kb, ko + r * 3, none⟩)) rfl (by kernel_rfl) (by kernel_rfl) (by kernel_rfl) (fun _ _ _ h => h) (Or.inl ⟨by kernel_rfl, fun wq hSw => by
                      skip
                      go_simp⟩) (by assumption) ?_
                  refine wpAnyH_take (i := 8) (v := .agg #[.int .i64 2, .int .i64 3, .string (bsN j)]) rfl (by kernel_rfl) (by kernel_rfl) (by kernel_rfl) (fun _ _ _ h => h) (Or.inl ⟨by kernel_rfl, fun wq hSw => by
                      obtain ⟨s0, s1, s2, s3⟩ := hSw
                      go_simp⟩) (by assumption) ?_
                  refine wpAnyH_take (i := 9) (v := .int .i64 j) rfl (by kernel_rfl) (by kernel_rfl) (by kernel_rfl) (fun _ _ _ h => h) (Or.inl ⟨by kernel_rfl, fun _ _ => by kernel_rfl⟩) (by assumption) ?_
                  refine wpAnyH_take (i := 10) (v := .int .u8 j) rfl (by kernel_rfl) (by kernel_rfl) (by kernel_rfl) (fun _ _ _ h => h) (Or.inl ⟨by kernel_rfl, fun wq hSw => by
                      skip
                      go_simp⟩) (by assumption) ?_
                  refine wpAnyH_ready (rs := [11]) (by kernel_rfl) (by simp) ?_
                  refine AllReadyH.cons (i := 11) rfl ?_ AllReadyH.nil
                  go_simp
                  intro K hK
                  rw [HW5.out, Hxb.out]
                  have hd5 := HS.out _ HBd5.out
                  refine hK.out _ _ hd5 (fun _ => ?_)
                  clear hK K
                  have hcv := HCv.out _ (Below.refl _ W5)
                  refine wpAnyH_ready (rs := [12]) (by kernel_rfl) (by simp) ?_
                  refine AllReadyH.cons (i := 12) rfl ?_ AllReadyH.nil
                  go_simp
                  intro K hK
                  refine hK.out _ _ hd5 (fun _ => ?_)
                  clear hK K hcv
                  refine wpAnyH_take (i := 13) (v := .agg #[.int .i64 2, .int .i64 3, .string (bsN j)]) rfl (by kernel_rfl) (by kernel_rfl) (by kernel_rfl) (fun _ _ _ h => h) (Or.inl ⟨by kernel_rfl, fun _ _ => by kernel_rfl⟩) (by assumption) ?_
                  refine wpAnyH_take (i := 14) (v := .bool false) rfl (by kernel_rfl) (by kernel_rfl) (by kernel_rfl) (fun _ _ _ h => h) (Or.inl ⟨by kernel_rfl, fun wq hSw => by
                      skip
                      go_simp⟩) (by assumption) ?_
                  refine wpAnyH_take (i := 15) (v := .bool false) rfl (by kernel_rfl) (by kernel_rfl) (by kernel_rfl) (fun _ _ _ h => h) (Or.inl ⟨by kernel_rfl, fun _ _ => by kernel_rfl⟩) (by assumption) ?_
                  refine wpAnyH_take (i := 16) (v := .bool false) rfl (by kernel_rfl) (by kernel_rfl) (by kernel_rfl) (fun _ _ _ h => h) (Or.inl ⟨by kernel_rfl, fun _ _ => by kernel_rfl⟩) (by assumption) ?_
                  refine wpAnyH_take (i := 17) (v := .slice (some ⟨gb, go, none⟩) W.length uc) rfl (by kernel_rfl) (by kernel_rfl) (by kernel_rfl) (fun _ _ _ h => h) (Or.inl ⟨by kernel_rfl, fun _ _ => by kernel_rfl⟩) (by assumption) ?_
                  refine wpAnyH_take (i := 18) (v := .int .i64 j) rfl (by kernel_rfl) (by kernel_rfl) (by kernel_rfl) (fun _ _ _ h => h) (Or.inl ⟨by kernel_rfl, fun _ _ => by kernel_rfl⟩) (by assumption) ?_
                  refine wpAnyH_take (i := 19) (v := .pointer (some ⟨gb, go + j, none⟩)) rfl (by kernel_rfl) (by kernel_rfl) (by kernel_rfl) (fun _ _ _ h => h) (Or.inl ⟨by kernel_rfl, fun wq hSw => by
                      skip
                      go_simp⟩) (by assumption) ?_
                  refine wpAnyH_take (i := 20) (v := .int .u64 ((i : Int) + 1)) rfl (by kernel_rfl) (by kernel_rfl) (by kernel_rfl) (fun _ _ _ h => h) (Or.inl ⟨by kernel_rfl, fun wq hSw => by
                      obtain ⟨s0, s1, s2, s3⟩ := hSw
                      go_simp⟩) (by assumption) ?_
                  refine wpAnyH_take (i := 21) (v := pp np) rfl (by kernel_rfl) (by kernel_rfl) (by kernel_rfl) (fun _ _ _ h => h) (Or.inl ⟨by kernel_rfl, fun _ _ => by kernel_rfl⟩) (by assumption) ?_
                  refine wpAnyH_ready (rs := [22]) (by kernel_rfl) (by simp) ?_
                  refine AllReadyH.cons (i := 22) rfl ?_ AllReadyH.nil
                  go_simp
                  intro K hK
                  refine HNw.out.mono ?_
                  rintro e w9 ⟨rfl, hw9⟩
                  rw [hw9]
                  clear hw9 w9
                  refine hK.out _ _ hd5 (fun _ => ?_)
                  clear hK K
                  refine wpAnyH_take (i := 23) (v := .bool false) rfl (by kernel_rfl) (by kernel_rfl) (by kernel_rfl) (fun _ _ _ h => h) (Or.inl ⟨by kernel_rfl, fun wq hSw => by
                      skip
                      go_simp⟩) (by assumption) ?_
                  refine wpAnyH_ready (rs := [24]) (by kernel_rfl) (by simp) ?_
                  refine AllReadyH.cons (i := 24) rfl ?_ AllReadyH.nil
                  go_simp
                  intro K hK
                  refine hK.out _ _ hd5 (fun _ => ?_)
                  clear hK K
                  refine wpAnyH_done (by kernel_rfl) ?_ _
                  have HBr5 := hidIn (HBr.out.trans (HBd5.out.mono HBr.out.size))
                  clear hq4 hd0 hd5 HS HNw HCv hjn hj8
                  go_wp2_with fail
                  go_roundw
                  case rel => exact ⟨r + 1, by omega, by go_num, by rw [Hj1.out]; go_num, HBr5⟩
                  case measure => simp [intOf]; omega
                · have hre : r = c := by omega
                  have hri : ¬ (r : Int) < (c : Int) := by omega
                  have HLw : Hid (Lw w wr np lt n (i + 1) W (nx + c) (.slice ua W.length uc) (tickN N)) := hidIn ⟨Hio.out, HZ4.out.below HBr.out, HOk.out, row_below HR4.out HBr.out (Nat.le_refl _), HB4.out.trans (HBr.out.mono HB4.out.size), HLa.out⟩
                  rw [hre]
                  go_wp2_with fail
                  go_roundw
                  case rel => exact ⟨i + 1, nx + c, W, by omega, by omega, by go_num, rfl, ⟨_, _, rfl⟩, hW2, hcle, hidIn ⟨_, HLw.out⟩⟩
                  case measure => simp [intOf]; omega
            · clear hcond
              have HTk := hidIn (ztick HL.out.z HL.out.ok (by omega))
              obtain ⟨c, hcle, hcl, hcr, hio⟩ := HL.out.io.tick
              have Hio := hidIn hio
              have Hcr := hidIn hcr
              have Hcl := hidIn hcl
              clear hio hcr hcl
              go_wp2_with fail
              refine HTk.out.mono ?_
              rintro e w4 ⟨⟨cv, rfl, hrow, hz4⟩, hf4⟩
              have hS := slAt_of_row (cs := arC) (fun _ => rfl) hrow rfl
              obtain ⟨ca, cc, rfl, _, _, hca⟩ := hS
              rw [Hcl.out] at hrow hca ⊢
              have hr4 := row_fr HL.out.r hf4 (fun j hj h => h (.inr hj))
              have HWr := hidIn (slAt_of_row (cs := wC) (fun _ => rfl) hr4 rfl)
              have HR4 := hidIn hr4
              have HZ4 := hidIn (hz4.less (Y := ZI w.heap.size (.slice ua W.length uc)) (fun j hj => .inl hj))
              have HB4 := hidIn (HL.out.b.trans (hf4.below HL.out.b.size (fun j hj => Nat.le_of_not_lt (fun h => hj (.inl h)))))
              have Hca := hidIn hca
              have HOk := hidIn HL.out.ok.tick
              have HLa := hidIn HL.out.last
              have HNx := hidIn (show (tickN N).now = (i : Int) + 1 from by rw [Hio.out.now]; omega)
              clear hrow hz4 hf4 hca hr4 HTk HL
              go_wp2_with fail
              go_loopw [7, 13] (fun nv kv wr => ∃ r : Nat, r ≤ c ∧ kv = .int .i64 r ∧ nv = .int .i64 ((nx + r : Nat) : Int) ∧ Hid (Below w4.heap.size w4 wr)) (fun _ kv _ => c - (intOf kv).toNat)
              case atStart => exact ⟨0, Nat.zero_le _, rfl, rfl, hidIn (Below.refl _ _)⟩
              case round =>
                obtain ⟨r, hr, rfl, rfl, HBr⟩ := hrel
                by_cases hrl : r < c
                · have hri : (r : Int) < (c : Int) := by omega
                  obtain ⟨j, hj⟩ : ∃ j, nx + r = j := ⟨_, rfl⟩
                  have hj1 : nx + (r + 1) = j + 1 := by omega
                  obtain ⟨p1, p2⟩ := Hcr.out r hrl
                  rw [hj] at p1 p2 ⊢
                  have Hj1 := hidIn hj1
                  have hjW : j < W.length := by omega
                  have hjn : ¬ (W.length : Int) ≤ (j : Int) := by omega
                  have hji : (j : Int) < (W.length : Int) := by omega
                  have hj8 := w_u8 (j := j) (by omega)
                  obtain ⟨kb, ko, rfl, hkb, hkc⟩ := Hca.out (by omega)
                  obtain ⟨wa, wc, we, _, _, hwat⟩ := HWr.out
                  simp only [Value.slice.injEq] at we
                  obtain ⟨rfl, _, rfl⟩ := we
                  obtain ⟨gb, go, rfl, hgb, hgc⟩ := hwat (by omega)
                  have HS : Hid (∀ wq, Below wr.heap.size wr wq → ChR kb gb (ko + r * 3) (go + j) j ((i : Int) + 1) wq) := hidIn (fun wq hq => by
                    have hbq := HBr.out.trans (hq.mono HBr.out.size)
                    have q0 := hkc r _ p1 0 _ rfl
                    have q1 := hkc r _ p1 1 _ rfl
                    have q2 := hkc r _ p1 2 _ rfl
                    have q3 := hgc j _ p2 0 _ rfl
                    rw [Nat.mul_one, Nat.add_zero] at q3
                    exact ⟨(hbq.cell (p := ⟨kb, _, none⟩) hkb).trans q0, (hbq.cell (p := ⟨kb, _, none⟩) hkb).trans q1, (hbq.cell (p := ⟨kb, _, none⟩) hkb).trans q2, (hbq.cell (p := ⟨gb, _, none⟩) hgb).trans q3⟩)
                  have hq4 := fun a0 a1 b0 b1 a2 b2 w => eq_Ar a0 a1 b0 b1 a2 b2 w
                  clear hkc hwat hgc p1 p2 hkb hgb hj hj1
                  go_upto_region 24 with fail
                  obtain ⟨Wd, hWd⟩ : ∃ Wd, wr.drew = Wd := ⟨_, rfl⟩
                  have bd : Below wr.heap.size wr Wd := by rw [← hWd]; exact (Below.refl _ wr).drew
                  obtain ⟨W5, hW5⟩ : ∃ W5, Wd.alloc (.cells #[.int .u8 (j : Int)] 5) = W5 := ⟨_, rfl⟩
                  have b5 : Below Wd.heap.size Wd W5 := by rw [← hW5]; exact (Below.refl _ Wd).alloc (Nat.le_refl _) _
                  have hX5 : W5.heap[Wd.heap.size]? = some (.cells #[.int .u8 (j : Int)] 5) := by rw [← hW5]; exact heap_alloc_last Wd _
                  have bd5 := bd.trans (b5.mono bd.size)
                  obtain ⟨xb, hxb⟩ : ∃ xb, Wd.heap.size = xb := ⟨_, rfl⟩
                  rw [hxb] at hX5
                  have HNw := hidIn (by
                    have := znow (HZ4.out.below (HBr.out.trans (bd5.mono HBr.out.size)))
                    rw [HNx.out] at this
                    exact this)
                  have HCv : Hid (∀ wq, Below W5.heap.size W5 wq → (convert 23 9 (.slice (some ⟨xb, 0, none⟩) 1 1)).run Try.prog wq = .ok (.string (bsN j)) wq) := hidIn (fun wq hq => conv1 ((hq.block _ (block_lt hX5)).trans hX5))
                  have HBd := hidIn bd
                  have HBd5 := hidIn bd5
                  have HW5 := hidIn hW5
                  have HWd := hidIn hWd
                  have Hxb := hidIn hxb
                  clear bd b5 hX5 bd5 hW5 hWd hxb
                  refine wp_region_held_drew (S := fun wx => ChR kb gb (ko + r * 3) (go + j) j ((i : Int) + 1) wx) (by kernel_rfl) ?_ (fun hHeld => ?_)
                  · rw [HWd.out]; exact HS.out _ HBd.out
                  rw [HWd.out]
                  have hd0 := HS.out _ HBd.out
                  clear hHeld
                  refine wpAnyH_take (i := 0) (v := .int .i64 j) rfl (by kernel_rfl) (by kernel_rfl) (by kernel_rfl) (fun _ _ _ h => h) (Or.inl ⟨by kernel_rfl, fun _ _ => by kernel_rfl⟩) (by assumption) ?_
                  refine wpAnyH_take (i := 1) (v := .slice (some ⟨gb, go, none⟩) W.length uc) rfl (by kernel_rfl) (by kernel_rfl) (by kernel_rfl) (fun _ _ _ h => h) (Or.inl ⟨by kernel_rfl, fun _ _ => by kernel_rfl⟩) (by assumption) ?_
                  refine wpAnyH_take (i := 2) (v := .int .i64 W.length) rfl (by kernel_rfl) (by kernel_rfl) (by kernel_rfl) (fun _ _ _ h => h) (Or.inl ⟨by kernel_rfl, fun wq hSw => by
                      skip
                      go_simp⟩) (by assumption) ?_
                  refine wpAnyH_take (i := 3) (v := .bool false) rfl (by kernel_rfl) (by kernel_rfl) (by kernel_rfl) (fun _ _ _ h => h) (Or.inl ⟨by kernel_rfl, fun wq hSw => by
                      skip
                      go_simp⟩) (by assumption) ?_
                  refine wpAnyH_take (i := 4) (v := .bool false) rfl (by kernel_rfl) (by kernel_rfl) (by kernel_rfl) (fun _ _ _ h => h) (Or.inl ⟨by kernel_rfl, fun _ _ => by kernel_rfl⟩) (by assumption) ?_
                  refine wpAnyH_take (i := 5) (v := .slice (some ⟨kb, ko, none⟩) c cc) rfl (by kernel_rfl) (by kernel_rfl) (by kernel_rfl) (fun _ _ _ h => h) (Or.inl ⟨by kernel_rfl, fun _ _ => by kernel_rfl⟩) (by assumption) ?_
                  refine wpAnyH_take (i := 6) (v := .int .i64 r) rfl (by kernel_rfl) (by kernel_rfl) (by kernel_rfl) (fun _ _ _ h => h) (Or.inl ⟨by kernel_rfl, fun _ _ => by kernel_rfl⟩) (by assumption) ?_
                  refine wpAnyH_take (i := 7) (v := .pointer (some ⟨kb, ko + r * 3, none⟩)) rfl (by kernel_rfl) (by kernel_rfl) (by kernel_rfl) (fun _ _ _ h => h) (Or.inl ⟨by kernel_rfl, fun wq hSw => by
                      skip
                      go_simp⟩) (by assumption) ?_
                  refine wpAnyH_take (i := 8) (v := .agg #[.int .i64 2, .int .i64 3, .string (bsN j)]) rfl (by kernel_rfl) (by kernel_rfl) (by kernel_rfl) (fun _ _ _ h => h) (Or.inl ⟨by kernel_rfl, fun wq hSw => by
                      obtain ⟨s0, s1, s2, s3⟩ := hSw
                      go_simp⟩) (by assumption) ?_
                  refine wpAnyH_take (i := 9) (v := .int .i64 j) rfl (by kernel_rfl) (by kernel_rfl) (by kernel_rfl) (fun _ _ _ h => h) (Or.inl ⟨by kernel_rfl, fun _ _ => by kernel_rfl⟩) (by assumption) ?_
                  refine wpAnyH_take (i := 10) (v := .int .u8 j) rfl (by kernel_rfl) (by kernel_rfl) (by kernel_rfl) (fun _ _ _ h => h) (Or.inl ⟨by kernel_rfl, fun wq hSw => by
                      skip
                      go_simp⟩) (by assumption) ?_
                  refine wpAnyH_ready (rs := [11]) (by kernel_rfl) (by simp) ?_
                  refine AllReadyH.cons (i := 11) rfl ?_ AllReadyH.nil
                  go_simp
                  intro K hK
                  rw [HW5.out, Hxb.out]
                  have hd5 := HS.out _ HBd5.out
                  refine hK.out _ _ hd5 (fun _ => ?_)
                  clear hK K
                  have hcv := HCv.out _ (Below.refl _ W5)
                  refine wpAnyH_ready (rs := [12]) (by kernel_rfl) (by simp) ?_
                  refine AllReadyH.cons (i := 12) rfl ?_ AllReadyH.nil
                  go_simp
                  intro K hK
                  refine hK.out _ _ hd5 (fun _ => ?_)
                  clear hK K hcv
                  refine wpAnyH_take (i := 13) (v := .agg #[.int .i64 2, .int .i64 3, .string (bsN j)]) rfl (by kernel_rfl) (by kernel_rfl) (by kernel_rfl) (fun _ _ _ h => h) (Or.inl ⟨by kernel_rfl, fun _ _ => by kernel_rfl⟩) (by assumption) ?_
                  refine wpAnyH_take (i := 14) (v := .bool false) rfl (by kernel_rfl) (by kernel_rfl) (by kernel_rfl) (fun _ _ _ h => h) (Or.inl ⟨by kernel_rfl, fun wq hSw => by
                      skip
                      go_simp⟩) (by assumption) ?_
                  refine wpAnyH_take (i := 15) (v := .bool false) rfl (by kernel_rfl) (by kernel_rfl) (by kernel_rfl) (fun _ _ _ h => h) (Or.inl ⟨by kernel_rfl, fun _ _ => by kernel_rfl⟩) (by assumption) ?_
                  refine wpAnyH_take (i := 16) (v := .bool false) rfl (by kernel_rfl) (by kernel_rfl) (by kernel_rfl) (fun _ _ _ h => h) (Or.inl ⟨by kernel_rfl, fun _ _ => by kernel_rfl⟩) (by assumption) ?_
                  refine wpAnyH_take (i := 17) (v := .slice (some ⟨gb, go, none⟩) W.length uc) rfl (by kernel_rfl) (by kernel_rfl) (by kernel_rfl) (fun _ _ _ h => h) (Or.inl ⟨by kernel_rfl, fun _ _ => by kernel_rfl⟩) (by assumption) ?_
                  refine wpAnyH_take (i := 18) (v := .int .i64 j) rfl (by kernel_rfl) (by kernel_rfl) (by kernel_rfl) (fun _ _ _ h => h) (Or.inl ⟨by kernel_rfl, fun _ _ => by kernel_rfl⟩) (by assumption) ?_
                  refine wpAnyH_take (i := 19) (v := .pointer (some ⟨gb, go + j, none⟩)) rfl (by kernel_rfl) (by kernel_rfl) (by kernel_rfl) (fun _ _ _ h => h) (Or.inl ⟨by kernel_rfl, fun wq hSw => by
                      skip
                      go_simp⟩) (by assumption) ?_
                  refine wpAnyH_take (i := 20) (v := .int .u64 ((i : Int) + 1)) rfl (by kernel_rfl) (by kernel_rfl) (by kernel_rfl) (fun _ _ _ h => h) (Or.inl ⟨by kernel_rfl, fun wq hSw => by
                      obtain ⟨s0, s1, s2, s3⟩ := hSw
                      go_simp⟩) (by assumption) ?_
                  refine wpAnyH_take (i := 21) (v := pp np) rfl (by kernel_rfl) (by kernel_rfl) (by kernel_rfl) (fun _ _ _ h => h) (Or.inl ⟨by kernel_rfl, fun _ _ => by kernel_rfl⟩) (by assumption) ?_
                  refine wpAnyH_ready (rs := [22]) (by kernel_rfl) (by simp) ?_
                  refine AllReadyH.cons (i := 22) rfl ?_ AllReadyH.nil
                  go_simp
                  intro K hK
                  refine HNw.out.mono ?_
                  rintro e w9 ⟨rfl, hw9⟩
                  rw [hw9]
                  clear hw9 w9
                  refine hK.out _ _ hd5 (fun _ => ?_)
                  clear hK K
                  refine wpAnyH_take (i := 23) (v := .bool false) rfl (by kernel_rfl) (by kernel_rfl) (by kernel_rfl) (fun _ _ _ h => h) (Or.inl ⟨by kernel_rfl, fun wq hSw => by
                      skip
                      go_simp⟩) (by assumption) ?_
                  refine wpAnyH_ready (rs := [24]) (by kernel_rfl) (by simp) ?_
                  refine AllReadyH.cons (i := 24) rfl ?_ AllReadyH.nil
                  go_simp
                  intro K hK
                  refine hK.out _ _ hd5 (fun _ => ?_)
                  clear hK K
                  refine wpAnyH_done (by kernel_rfl) ?_ _
                  have HBr5 := hidIn (HBr.out.trans (HBd5.out.mono HBr.out.size))
                  clear hq4 hd0 hd5 HS HNw HCv hjn hj8
                  go_wp2_with fail
                  go_roundw
                  case rel => exact ⟨r + 1, by omega, by go_num, by rw [Hj1.out]; go_num, HBr5⟩
                  case measure => simp [intOf]; omega
                · have hre : r = c := by omega
                  have hri : ¬ (r : Int) < (c : Int) := by omega
                  have HLw : Hid (Lw w wr np lt n (i + 1) W (nx + c) (.slice ua W.length uc) (tickN N)) := hidIn ⟨Hio.out, HZ4.out.below HBr.out, HOk.out, row_below HR4.out HBr.out (Nat.le_refl _), HB4.out.trans (HBr.out.mono HB4.out.size), HLa.out⟩
                  rw [hre]
                  go_wp2_with fail
                  go_roundw
                  case rel => exact ⟨i + 1, nx + c, W, by omega, by omega, by go_num, rfl, ⟨_, _, rfl⟩, hW2, hcle, hidIn ⟨_, HLw.out⟩⟩
                  case measure => simp [intOf]; omega
      · have hli : ¬ (i : Int) < (n : Int) := by omega
        have HTk := hidIn (ztick HL.out.z HL.out.ok (by omega))
        obtain ⟨c, hcle, hcl, hcr, hio⟩ := HL.out.io.tick
        have Hio := hidIn hio
        have Hcr := hidIn hcr
        have Hcl := hidIn hcl
        clear hio hcr hcl
        go_wp2_with fail
        refine HTk.out.mono ?_
        rintro e w4 ⟨⟨cv, rfl, hrow, hz4⟩, hf4⟩
        have hS := slAt_of_row (cs := arC) (fun _ => rfl) hrow rfl
        obtain ⟨ca, cc, rfl, _, _, hca⟩ := hS
        rw [Hcl.out] at hrow hca ⊢
        have hr4 := row_fr HL.out.r hf4 (fun j hj h => h (.inr hj))
        have HWr := hidIn (slAt_of_row (cs := wC) (fun _ => rfl) hr4 rfl)
        have HR4 := hidIn hr4
        have HZ4 := hidIn (hz4.less (Y := ZI w.heap.size (.slice ua W.length uc)) (fun j hj => .inl hj))
        have HB4 := hidIn (HL.out.b.trans (hf4.below HL.out.b.size (fun j hj => Nat.le_of_not_lt (fun h => hj (.inl h)))))
        have Hca := hidIn hca
        have HOk := hidIn HL.out.ok.tick
        have HLa := hidIn HL.out.last
        have HNx := hidIn (show (tickN N).now = (i : Int) + 1 from by rw [Hio.out.now]; omega)
        clear hrow hz4 hf4 hca hr4 HTk HL
        go_wp2_with fail
        go_loopw [7, 13] (fun nv kv wr => ∃ r : Nat, r ≤ c ∧ kv = .int .i64 r ∧ nv = .int .i64 ((nx + r : Nat) : Int) ∧ Hid (Below w4.heap.size w4 wr)) (fun _ kv _ => c - (intOf kv).toNat)
        case atStart => exact ⟨0, Nat.zero_le _, rfl, rfl, hidIn (Below.refl _ _)⟩
        case round =>
          obtain ⟨r, hr, rfl, rfl, HBr⟩ := hrel
          by_cases hrl : r < c
          · have hri : (r : Int) < (c : Int) := by omega
            obtain ⟨j, hj⟩ : ∃ j, nx + r = j := ⟨_, rfl⟩
            have hj1 : nx + (r + 1) = j + 1 := by omega
            obtain ⟨p1, p2⟩ := Hcr.out r hrl
            rw [hj] at p1 p2 ⊢
            have Hj1 := hidIn hj1
            have hjW : j < W.length := by omega
            have hjn : ¬ (W.length : Int) ≤ (j : Int) := by omega
            have hji : (j : Int) < (W.length : Int) := by omega
            have hj8 := w_u8 (j := j) (by omega)
            obtain ⟨kb, ko, rfl, hkb, hkc⟩ := Hca.out (by omega)
            obtain ⟨wa, wc, we, _, _, hwat⟩ := HWr.out
            simp only [Value.slice.injEq] at we
            obtain ⟨rfl, _, rfl⟩ := we
            obtain ⟨gb, go, rfl, hgb, hgc⟩ := hwat (by omega)
            have HS : Hid (∀ wq, Below wr.heap.size wr wq → ChR kb gb (ko + r * 3) (go + j) j ((i : Int) + 1) wq) := hidIn (fun wq hq => by
              have hbq := HBr.out.trans (hq.mono HBr.out.size)
              have q0 := hkc r _ p1 0 _ rfl
              have q1 := hkc r _ p1 1 _ rfl
              have q2 := hkc r _ p1 2 _ rfl
              have q3 := hgc j _ p2 0 _ rfl
              rw [Nat.mul_one, Nat.add_zero] at q3
              exact ⟨(hbq.cell (p := ⟨kb, _, none⟩) hkb).trans q0, (hbq.cell (p := ⟨kb, _, none⟩) hkb).trans q1, (hbq.cell (p := ⟨kb, _, none⟩) hkb).trans q2, (hbq.cell (p := ⟨gb, _, none⟩) hgb).trans q3⟩)
            have hq4 := fun a0 a1 b0 b1 a2 b2 w => eq_Ar a0 a1 b0 b1 a2 b2 w
            clear hkc hwat hgc p1 p2 hkb hgb hj hj1
            go_upto_region 24 with fail
            obtain ⟨Wd, hWd⟩ : ∃ Wd, wr.drew = Wd := ⟨_, rfl⟩
            have bd : Below wr.heap.size wr Wd := by rw [← hWd]; exact (Below.refl _ wr).drew
            obtain ⟨W5, hW5⟩ : ∃ W5, Wd.alloc (.cells #[.int .u8 (j : Int)] 5) = W5 := ⟨_, rfl⟩
            have b5 : Below Wd.heap.size Wd W5 := by rw [← hW5]; exact (Below.refl _ Wd).alloc (Nat.le_refl _) _
            have hX5 : W5.heap[Wd.heap.size]? = some (.cells #[.int .u8 (j : Int)] 5) := by rw [← hW5]; exact heap_alloc_last Wd _
            have bd5 := bd.trans (b5.mono bd.size)
            obtain ⟨xb, hxb⟩ : ∃ xb, Wd.heap.size = xb := ⟨_, rfl⟩
            rw [hxb] at hX5
            have HNw := hidIn (by
              have := znow (HZ4.out.below (HBr.out.trans (bd5.mono HBr.out.size)))
              rw [HNx.out] at this
              exact this)
            have HCv : Hid (∀ wq, Below W5.heap.size W5 wq → (convert 23 9 (.slice (some ⟨xb, 0, none⟩) 1 1)).run Try.prog wq = .ok (.string (bsN j)) wq) := hidIn (fun wq hq => conv1 ((hq.block _ (block_lt hX5)).trans hX5))
            have HBd := hidIn bd
            have HBd5 := hidIn bd5
            have HW5 := hidIn hW5
            have HWd := hidIn hWd
            have Hxb := hidIn hxb
            clear bd b5 hX5 bd5 hW5 hWd hxb
            refine wp_region_held_drew (S := fun wx => ChR kb gb (ko + r * 3) (go + j) j ((i : Int) + 1) wx) (by kernel_rfl) ?_ (fun hHeld => ?_)
            · rw [HWd.out]; exact HS.out _ HBd.out
            rw [HWd.out]
            have hd0 := HS.out _ HBd.out
            clear hHeld
            refine wpAnyH_take (i := 0) (v := .int .i64 j) rfl (by kernel_rfl) (by kernel_rfl) (by kernel_rfl) (fun _ _ _ h => h) (Or.inl ⟨by kernel_rfl, fun _ _ => by kernel_rfl⟩) (by assumption) ?_
            refine wpAnyH_take (i := 1) (v := .slice (some ⟨gb, go, none⟩) W.length uc) rfl (by kernel_rfl) (by kernel_rfl) (by kernel_rfl) (fun _ _ _ h => h) (Or.inl ⟨by kernel_rfl, fun _ _ => by kernel_rfl⟩) (by assumption) ?_
            refine wpAnyH_take (i := 2) (v := .int .i64 W.length) rfl (by kernel_rfl) (by kernel_rfl) (by kernel_rfl) (fun _ _ _ h => h) (Or.inl ⟨by kernel_rfl, fun wq hSw => by
                skip
                go_simp⟩) (by assumption) ?_
            refine wpAnyH_take (i := 3) (v := .bool false) rfl (by kernel_rfl) (by kernel_rfl) (by kernel_rfl) (fun _ _ _ h => h) (Or.inl ⟨by kernel_rfl, fun wq hSw => by
                skip
                go_simp⟩) (by assumption) ?_
            refine wpAnyH_take (i := 4) (v := .bool false) rfl (by kernel_rfl) (by kernel_rfl) (by kernel_rfl) (fun _ _ _ h => h) (Or.inl ⟨by kernel_rfl, fun _ _ => by kernel_rfl⟩) (by assumption) ?_
            refine wpAnyH_take (i := 5) (v := .slice (some ⟨kb, ko, none⟩) c cc) rfl (by kernel_rfl) (by kernel_rfl) (by kernel_rfl) (fun _ _ _ h => h) (Or.inl ⟨by kernel_rfl, fun _ _ => by kernel_rfl⟩) (by assumption) ?_
            refine wpAnyH_take (i := 6) (v := .int .i64 r) rfl (by kernel_rfl) (by kernel_rfl) (by kernel_rfl) (fun _ _ _ h => h) (Or.inl ⟨by kernel_rfl, fun _ _ => by kernel_rfl⟩) (by assumption) ?_
            refine wpAnyH_take (i := 7) (v := .pointer (some ⟨kb, ko + r * 3, none⟩)) rfl (by kernel_rfl) (by kernel_rfl) (by kernel_rfl) (fun _ _ _ h => h) (Or.inl ⟨by kernel_rfl, fun wq hSw => by
                skip
                go_simp⟩) (by assumption) ?_
            refine wpAnyH_take (i := 8) (v := .agg #[.int .i64 2, .int .i64 3, .string (bsN j)]) rfl (by kernel_rfl) (by kernel_rfl) (by kernel_rfl) (fun _ _ _ h => h) (Or.inl ⟨by kernel_rfl, fun wq hSw => by
                obtain ⟨s0, s1, s2, s3⟩ := hSw
                go_simp⟩) (by assumption) ?_
            refine wpAnyH_take (i := 9) (v := .int .i64 j) rfl (by kernel_rfl) (by kernel_rfl) (by kernel_rfl) (fun _ _ _ h => h) (Or.inl ⟨by kernel_rfl, fun _ _ => by kernel_rfl⟩) (by assumption) ?_
            refine wpAnyH_take (i := 10) (v := .int .u8 j) rfl (by kernel_rfl) (by kernel_rfl) (by kernel_rfl) (fun _ _ _ h => h) (Or.inl ⟨by kernel_rfl, fun wq hSw => by
                skip
                go_simp⟩) (by assumption) ?_
            refine wpAnyH_ready (rs := [11]) (by kernel_rfl) (by simp) ?_
            refine AllReadyH.cons (i := 11) rfl ?_ AllReadyH.nil
            go_simp
            intro K hK
            rw [HW5.out, Hxb.out]
            have hd5 := HS.out _ HBd5.out
            refine hK.out _ _ hd5 (fun _ => ?_)
            clear hK K
            have hcv := HCv.out _ (Below.refl _ W5)
            refine wpAnyH_ready (rs := [12]) (by kernel_rfl) (by simp) ?_
            refine AllReadyH.cons (i := 12) rfl ?_ AllReadyH.nil
            go_simp
            intro K hK
            refine hK.out _ _ hd5 (fun _ => ?_)
            clear hK K hcv
            refine wpAnyH_take (i := 13) (v := .agg #[.int .i64 2, .int .i64 3, .string (bsN j)]) rfl (by kernel_rfl) (by kernel_rfl) (by kernel_rfl) (fun _ _ _ h => h) (Or.inl ⟨by kernel_rfl, fun _ _ => by kernel_rfl⟩) (by assumption) ?_
            refine wpAnyH_take (i := 14) (v := .bool false) rfl (by kernel_rfl) (by kernel_rfl) (by kernel_rfl) (fun _ _ _ h => h) (Or.inl ⟨by kernel_rfl, fun wq hSw => by
                skip
                go_simp⟩) (by assumption) ?_
            refine wpAnyH_take (i := 15) (v := .bool false) rfl (by kernel_rfl) (by kernel_rfl) (by kernel_rfl) (fun _ _ _ h => h) (Or.inl ⟨by kernel_rfl, fun _ _ => by kernel_rfl⟩) (by assumption) ?_
            refine wpAnyH_take (i := 16) (v := .bool false) rfl (by kernel_rfl) (by kernel_rfl) (by kernel_rfl) (fun _ _ _ h => h) (Or.inl ⟨by kernel_rfl, fun _ _ => by kernel_rfl⟩) (by assumption) ?_
            refine wpAnyH_take (i := 17) (v := .slice (some ⟨gb, go, none⟩) W.length uc) rfl (by kernel_rfl) (by kernel_rfl) (by kernel_rfl) (fun _ _ _ h => h) (Or.inl ⟨by kernel_rfl, fun _ _ => by kernel_rfl⟩) (by assumption) ?_
            refine wpAnyH_take (i := 18) (v := .int .i64 j) rfl (by kernel_rfl) (by kernel_rfl) (by kernel_rfl) (fun _ _ _ h => h) (Or.inl ⟨by kernel_rfl, fun _ _ => by kernel_rfl⟩) (by assumption) ?_
            refine wpAnyH_take (i := 19) (v := .pointer (some ⟨gb, go + j, none⟩)) rfl (by kernel_rfl) (by kernel_rfl) (by kernel_rfl) (fun _ _ _ h => h) (Or.inl ⟨by kernel_rfl, fun wq hSw => by
                skip
                go_simp⟩) (by assumption) ?_
            refine wpAnyH_take (i := 20) (v := .int .u64 ((i : Int) + 1)) rfl (by kernel_rfl) (by kernel_rfl) (by kernel_rfl) (fun _ _ _ h => h) (Or.inl ⟨by kernel_rfl, fun wq hSw => by
                obtain ⟨s0, s1, s2, s3⟩ := hSw
                go_simp⟩) (by assumption) ?_
            refine wpAnyH_take (i := 21) (v := pp np) rfl (by kernel_rfl) (by kernel_rfl) (by kernel_rfl) (fun _ _ _ h => h) (Or.inl ⟨by kernel_rfl, fun _ _ => by kernel_rfl⟩) (by assumption) ?_
            refine wpAnyH_ready (rs := [22]) (by kernel_rfl) (by simp) ?_
            refine AllReadyH.cons (i := 22) rfl ?_ AllReadyH.nil
            go_simp
            intro K hK
            refine HNw.out.mono ?_
            rintro e w9 ⟨rfl, hw9⟩
            rw [hw9]
            clear hw9 w9
            refine hK.out _ _ hd5 (fun _ => ?_)
            clear hK K
            refine wpAnyH_take (i := 23) (v := .bool false) rfl (by kernel_rfl) (by kernel_rfl) (by kernel_rfl) (fun _ _ _ h => h) (Or.inl ⟨by kernel_rfl, fun wq hSw => by
                skip
                go_simp⟩) (by assumption) ?_
            refine wpAnyH_ready (rs := [24]) (by kernel_rfl) (by simp) ?_
            refine AllReadyH.cons (i := 24) rfl ?_ AllReadyH.nil
            go_simp
            intro K hK
            refine hK.out _ _ hd5 (fun _ => ?_)
            clear hK K
            refine wpAnyH_done (by kernel_rfl) ?_ _
            have HBr5 := hidIn (HBr.out.trans (HBd5.out.mono HBr.out.size))
            clear hq4 hd0 hd5 HS HNw HCv hjn hj8
            go_wp2_with fail
            go_roundw
            case rel => exact ⟨r + 1, by omega, by go_num, by rw [Hj1.out]; go_num, HBr5⟩
            case measure => simp [intOf]; omega
          · have hre : r = c := by omega
            have hri : ¬ (r : Int) < (c : Int) := by omega
            have HLw : Hid (Lw w wr np lt n (i + 1) W (nx + c) (.slice ua W.length uc) (tickN N)) := hidIn ⟨Hio.out, HZ4.out.below HBr.out, HOk.out, row_below HR4.out HBr.out (Nat.le_refl _), HB4.out.trans (HBr.out.mono HB4.out.size), HLa.out⟩
            rw [hre]
            go_wp2_with fail
            go_roundw
            case rel => exact ⟨i + 1, nx + c, W, by omega, by omega, by go_num, rfl, ⟨_, _, rfl⟩, hW2, hcle, hidIn ⟨_, HLw.out⟩⟩
            case measure => simp [intOf]; omega
    · obtain ⟨N, hL⟩ := HR.out
      have hfin : (60 : Int) < (n : Int) + lt ∨ (nx = W.length ∧ ¬ (60 : Int) < (n : Int) + lt) := by
        by_cases h60 : (60 : Int) < (n : Int) + lt
        · exact .inl h60
        · refine .inr ⟨?_, h60⟩
          have hie : (i : Int) = (n : Int) + lt := by
            by_cases h1 : (i : Int) < (n : Int) + lt
            · exact absurd ⟨h1, by omega⟩ hgo
            · omega
          by_cases h2 : nx < W.length
          · have h3 := hL.io.lo (W[nx]'h2) (by
              rw [List.mem_iff_getElem?]
              exact ⟨0, by rw [List.getElem?_drop, Nat.add_zero]; exact List.getElem?_eq_getElem _⟩)
            have h4 := hL.last (W[nx]'h2) (List.getElem_mem _)
            omega
          · omega
      have HB9 := hidIn hL.b
      clear hL HR
      by_cases hg1 : (i : Int) < (n : Int) + lt
      · have hg2 : ¬ (i : Int) < 60 := by omega
        clear hgo
        rcases hfin with h60 | ⟨rfl, h60⟩
        · go_wp2_with fail
          go_returns
          exact ⟨by simp, HB9.out⟩
        · go_wp2_with fail
          go_returns
          exact ⟨by simp, HB9.out⟩
      · clear hgo
        rcases hfin with h60 | ⟨rfl, h60⟩
        · go_wp2_with fail
          go_returns
          exact ⟨by simp, HB9.out⟩
        · go_wp2_with fail
          go_returns
          exact ⟨by simp, HB9.out⟩
end Go.Proofs.Ytkhfpcnmnnboeaa.Nt
namespace Go.Proofs.Ytkhfpcnmnnboeaa
open Go.ChangeShapes Go.WideShapes Go.ChangeAt Go.RowKit

section
variable {H : Type} {enc : TypeId × Value → H} {W : World}
theorem ccU8 : Try.prog.cellsOf 5 = 1 := by kernel_rfl
theorem bcU8 : Try.prog.bytesOf 5 = 1 := by kernel_rfl
theorem u8_cells {n : Nat} {cs' : List Value} {x : DataW H × List MemPlace} (h : DataW.trod enc Try.prog W 0 (fun _ => true) true n 5 cs' = some x) : ∃ y : Int, cs' = Nt.u8C y ∧ 0 ≤ y ∧ y ≤ 255 := by
  obtain ⟨o, ho, _, w0⟩ := DataW.trod_int Try.underlying5 h
  exact ⟨o, ho, bounds_u8 w0⟩
set_option maxRecDepth 100000 in
theorem u8s_arg {a : Option Addr} {len cap : Nat} {d : DataW H} {p : List MemPlace} (h : DataW.Trod enc Try.prog W 0 (fun _ => true) true 23 (.slice a len cap) d p) (hw : ∀ n ∈ d.weights Try.prog 23, n ≤ reachBytes) :
    ∃ ls, SlAt Nt.u8C 1 W (.slice a len cap) ls ∧ (∀ y ∈ ls, 0 ≤ y ∧ y ≤ 255) ∧ NilOk (.slice a len cap) ∧ (ls.length + 1) * 1 ≤ 140737488355328 := by
  obtain ⟨fuel, hf⟩ := h
  obtain ⟨ns, hn1, hn2, hG, hn3⟩ := open_sl 0 (cs := Nt.u8C) (sz := 1) (fun _ => rfl) (by omega) Try.underlying23 ccU8 (fun n cs' x h => u8_cells h) (by simpa [Value.cells] using hf)
  exact ⟨ns, hn1, hG, hn2, slice_weight Try.underlying23 bcU8 (by omega) hw (by rcases hn3 with rfl | h; exact .inl rfl; exact .inr h)⟩
end
theorem Nt.netInOrder_walk {l : List Int} {v : Value} {w : World} {late : Int} (h : SlAt Nt.u8C 1 w v l) (hb : ∀ y ∈ l, 0 ≤ y ∧ y ≤ 255) (hlen : l.length ≤ 1000000000000000) (_ : (Lit.int .i64 late).wf = true) :
    Calls Try.prog 4 #[v, .int .i64 late] w fun e w' => e = .returned (.bool true) ∧ Below w.heap.size w w' := Nt.netInOrder_any h hb hlen late
end Go.Proofs.Ytkhfpcnmnnboeaa
