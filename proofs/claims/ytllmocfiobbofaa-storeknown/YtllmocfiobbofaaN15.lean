/- A store's copy. -/
import Derived.Test.YtllmocfiobbofaaN14
namespace Go.Proofs.Ytllmocfiobbofaa
open Go.RowKit Go.Maps

theorem StAt.org {w : World} {S M n : Nat} {f : Sf} (h : StAt w S M n f) {k : Int} {g : Rc} (hk : fR f k = some g) : recOk g = true ∧ g.origin = k ∧ 0 ≤ g.epoch ∧ 0 ≤ g.seq := by
  unfold fR at hk
  cases h1 : f k with
  | none => rw [h1] at hk; cases hk
  | some p =>
    rw [h1] at hk
    simp at hk
    obtain ⟨r, u⟩ := p
    simp at hk
    subst hk
    obtain ⟨a, b, _, _, c, d⟩ := h.v k r u h1
    exact ⟨a, b, c, d⟩
/-- Records laid by their origins. -/
def layR (F : Rf) (r : Rc) : Rf := putO F r.origin r
theorem lay_all {F : Rf} (hF : ∀ k g, F k = some g → g.origin = k ∧ 1 ≤ k ∧ k ≤ 24) : ∀ n, n ≤ 24 → ∀ k, (allR F n).foldl layR noR9 k = if 1 ≤ k ∧ k ≤ (n : Int) then F k else none
  | 0, _, k => by
    rw [if_neg (by omega)]
    rfl
  | n + 1, hn, k => by
    have he : allR F (n + 1) = allR F n ++ (F ((n : Int) + 1)).toList := by
      unfold allR
      rw [List.range_succ, List.filterMap_append]
      cases hq : F ((n : Int) + 1) <;> simp [hq]
    have ih := lay_all hF n (by omega)
    rw [he, List.foldl_append]
    cases hq : F ((n : Int) + 1) with
    | none =>
      simp only [Option.toList_none, List.foldl_nil]
      rw [ih k]
      by_cases hk : k = (n : Int) + 1
      · rw [hk, if_neg (by omega), if_pos (by omega), hq]
      · by_cases h1 : 1 ≤ k ∧ k ≤ (n : Int)
        · rw [if_pos h1, if_pos (by omega)]
        · rw [if_neg h1, if_neg (by omega)]
    | some g =>
      simp only [Option.toList_some, List.foldl_cons, List.foldl_nil]
      have hg := (hF _ g hq).1
      show putO (List.foldl layR noR9 (allR F n)) g.origin g k = _
      rw [hg]
      by_cases hk : k = (n : Int) + 1
      · rw [hk, putO_same, if_pos (by omega), hq]
      · rw [putO_other _ _ hk, ih k]
        by_cases h1 : 1 ≤ k ∧ k ≤ (n : Int)
        · rw [if_pos h1, if_pos (by omega)]
        · rw [if_neg h1, if_neg (by omega)]
theorem lay_same {w : World} {S M n : Nat} {f : Sf} (h : StAt w S M n f) : (allR (fR f) 24).foldl layR noR9 = fR f := by
  have hF : ∀ k g, fR f k = some g → g.origin = k ∧ 1 ≤ k ∧ k ≤ 24 := fun k g hk => by
    have h1 := h.org hk
    have h2 := recOk_pos h1.1
    omega
  funext k
  rw [lay_all hF 24 (by omega) k]
  by_cases hk : 1 ≤ k ∧ k ≤ ((24 : Nat) : Int)
  · rw [if_pos hk]
  · rw [if_neg hk]
    cases hq : fR f k with
    | none => rfl
    | some g => have := hF k g hq; omega
theorem allR_of {F : Rf} {n : Nat} {g : Rc} (h : g ∈ allR F n) : ∃ k, F k = some g := by
  unfold allR at h
  obtain ⟨j, _, hj⟩ := List.mem_filterMap.1 h
  exact ⟨_, hj⟩
/-- One record laid into the map. -/
theorem StAt.upd {w : World} {S M n : Nat} {f : Sf} (h : StAt w S M n f) (hn : n < 1000000) {r : Rc} {u : Value} (hok : recOk r = true) (hu : SlAt ac 2 w u r.adjs) (hnil : NilOk u) (hp : 0 ≤ r.epoch ∧ 0 ≤ r.seq) :
    ∃ w', (Instr.mapUpdate 79 (.map (some M)) (.int .i64 r.origin) (recV r u)).run Try.prog w = .ok () w' ∧ StAt w' S M (n + 1) (putO f r.origin (r, u)) ∧ Fr (fun k => k = M) w w' := by
  obtain ⟨w6, hrun, hm6, hF6⟩ := h.m.put hn (x := r.origin) (wf9 (by have := (recOk_parts hok).1; omega)) (recV r u)
  have hSM : ¬ S = M := fun e => by
    have h1 := h.p
    obtain ⟨es, cl, hb⟩ := h.m.isMap
    rw [e, hb] at h1
    cases h1
  refine ⟨w6, hrun, ⟨(hF6.block S (block_lt h.p) hSM).trans h.p, ?_, fun k r' u' hk => ?_⟩, hF6⟩
  · have he : putO (sV f) r.origin (recV r u) = sV (putO f r.origin (r, u)) := by
      funext j
      unfold sV putO
      by_cases hj : j = r.origin
      · rw [if_pos hj, if_pos hj]; rfl
      · rw [if_neg hj, if_neg hj]
    rw [← he]
    exact hm6
  · by_cases hj : k = r.origin
    · rw [hj, putO_same] at hk
      simp only [Option.some.injEq, Prod.mk.injEq] at hk
      obtain ⟨rfl, rfl⟩ := hk
      exact ⟨hok, hj.symm, hu.keepM hF6 h.m.isMap (by omega) (fun _ => rfl), hnil, hp⟩
    · rw [putO_other f _ hj] at hk
      obtain ⟨h1, h2, h3, h4⟩ := h.v k r' u' hk
      exact ⟨h1, h2, h3.keepM hF6 h.m.isMap (by omega) (fun _ => rfl), h4⟩
/-- A copy. -/
def CpyAns (w w' : World) (f : Sf) (e : Ending) : Prop := ∃ S' M' f', e = .returned (ptr S') ∧ StAt w' S' M' 24 f' ∧ fR f' = fR f ∧ w.heap.size ≤ S' ∧ w.heap.size ≤ M'
set_option maxRecDepth 100000 in
set_option maxHeartbeats 2000000 in
theorem scopy_any {S M n : Nat} {f : Sf} {w : World} (h : StAt w S M n f) :
    Calls Try.prog 36 #[ptr S] w fun e w' => CpyAns w w' f e ∧ Below w.heap.size w w' := by
  have HT := hidIn (there_any h)
  have HS := hidIn h
  have HLs := hidIn (lay_same h)
  clear h
  go_enter Try.func36, Try.ntmps36
  go_wp2_with fail
  refine HT.out.mono ?_
  rintro e w1 ⟨rfl, h1⟩
  rw [h1]
  clear HT h1 w1
  go_wp2_with fail
  refine (snew_any _).mono ?_
  rintro e w2 ⟨⟨S', M', rfl, hn, hS', hM'⟩, hb2⟩
  have HA := hidIn (sall_any (HS.out.keep hb2))
  have Hnew := hidIn hn
  have HB2 := hidIn hb2
  have HSM := hidIn (And.intro hS' hM')
  clear hn hb2 hS' hM'
  go_wp2_with fail
  refine HA.out.mono ?_
  rintro e w3 ⟨⟨u, L, rfl, hrow, hrs, hfr⟩, hb3⟩
  have hL24 : L.length ≤ 24 := by
    have := allL_len f 24
    rw [← hrs, List.length_map] at this
    exact this
  obtain ⟨aa, cap, rfl, hl, _, hat⟩ := (slAt_of_row (cs := rcc) (fun _ => rfl) hrow rfl).recs
  have Hat := hidIn hat
  have Hrs := hidIn hrs
  have HB3 := hidIn (HB2.out.trans (hb3.mono HB2.out.size))
  have Hfr := hidIn hfr
  have Hnew3 := hidIn (Hnew.out.keep hb3)
  have Hrow := hidIn hrow
  obtain ⟨LL, hLL⟩ : ∃ LL, L.length = LL := ⟨_, rfl⟩
  rw [hLL] at Hat hL24 ⊢
  have HLL := hidIn hLL
  clear hat hrs hb3 hfr hrow hl HA hLL Hnew HB2
  go_wp2_with fail
  go_loopw [13] (fun i wr => ∃ k : Nat, k ≤ LL ∧ i = .int .i64 k ∧ Hid (∃ f', StAt wr S' M' k f' ∧ fR f' = ((rcs L).take k).foldl layR noR9 ∧ Fr (fun j => j = M') w3 wr)) (fun i _ => LL - (intOf i).toNat)
  case atStart => exact ⟨0, Nat.zero_le _, rfl, hidIn ⟨_, Hnew3.out, by rw [List.take_zero]; rfl, Fr.refl _ _⟩⟩
  case round =>
    obtain ⟨k, hk, rfl, HR⟩ := hrel
    by_cases hlt : k < LL
    · have hki : (k : Int) < (LL : Int) := by omega
      obtain ⟨f', h1, h2, h3⟩ := HR.out
      obtain ⟨x, hx⟩ : ∃ x, L[k]? = some x := ⟨L[k]'(by rw [HLL.out]; exact hlt), List.getElem?_eq_getElem _⟩
      obtain ⟨bk, o, rfl, hbk, hcell⟩ := Hat.out (by omega)
      obtain ⟨q0, q1, q2, q3, q4, q5⟩ := hcell k x hx
      have hxm := List.mem_of_getElem? hx
      obtain ⟨xa, xc, hxv, hxs, hxn, _⟩ := Hfr.out x hxm
      have hxo : recOk x.1 = true ∧ 0 ≤ x.1.epoch ∧ 0 ≤ x.1.seq := by
        have hm : x.1 ∈ allR (fR f) 24 := by rw [← allL_fR, ← Hrs.out]; exact List.mem_map.2 ⟨x, hxm, rfl⟩
        obtain ⟨kk, hkk⟩ := allR_of hm
        have := HS.out.org hkk
        exact ⟨this.1, this.2.2⟩
      have hmap := Hnew3.out.m.isMap
      have hbM : ¬ bk = M' := fun e => by
        obtain ⟨cur, hc⟩ := row_ty (j := bk) Hrow.out rfl
        obtain ⟨es, cl, hm⟩ := hmap
        rw [e, hm] at hc
        cases hc
      have hbb := h3.block bk hbk hbM
      rw [hxv] at q5
      have p0 := (World.cell?_of_block (a := ⟨bk, o + k * 6, none⟩) hbb).trans q0
      have p1 := (World.cell?_of_block (a := ⟨bk, o + k * 6 + 1, none⟩) hbb).trans q1
      have p2 := (World.cell?_of_block (a := ⟨bk, o + k * 6 + 2, none⟩) hbb).trans q2
      have p3 := (World.cell?_of_block (a := ⟨bk, o + k * 6 + 3, none⟩) hbb).trans q3
      have p4 := (World.cell?_of_block (a := ⟨bk, o + k * 6 + 4, none⟩) hbb).trans q4
      have p5 := (World.cell?_of_block (a := ⟨bk, o + k * 6 + 5, none⟩) hbb).trans q5
      have hxs' := hxs.keepM h3 hmap (by omega) (fun _ => rfl)
      rw [hxv] at hxs' hxn
      have HT : Hid ((rcs L).take (k + 1) = (rcs L).take k ++ [x.1]) := hidIn (by
        rw [List.take_add_one]
        congr 1
        rw [List.getElem?_map, hx]
        rfl)
      generalize x.1 = r at p0 p1 p2 p3 p4 p5 HT hxs' hxn hxo
      obtain ⟨nl, hnl⟩ : ∃ nl, r.adjs.length = nl := ⟨_, rfl⟩
      rw [hnl] at p5 hxs' hxn
      obtain ⟨W4, hW4⟩ : ∃ W4, wr.alloc (.cells #[.int .i64 r.origin, .int .u32 r.epoch, .int .u32 r.seq, .int .i64 r.claim, .bool r.ing, .slice xa nl xc] 28) = W4 := ⟨_, rfl⟩
      have b4 : Below wr.heap.size wr W4 := by rw [← hW4]; exact (Below.refl _ wr).alloc (Nat.le_refl _) _
      have HX : Hid (W4.heap[wr.heap.size]? = some (.cells #[.int .i64 r.origin, .int .u32 r.epoch, .int .u32 r.seq, .int .i64 r.claim, .bool r.ing, .slice xa nl xc] 28)) := hidIn (by rw [← hW4]; exact heap_alloc_last wr _)
      have HS4 := hidIn (h1.keep b4)
      obtain ⟨w6, hrun, hst6, hF6⟩ := StAt.upd (w := W4.drew) (S := S') (M := M') (n := k) (f := f') (h1.keep b4.drew) (by omega) hxo.1 (u := .slice xa nl xc) (hxs'.keep b4.drew (Nat.le_refl _)) hxn hxo.2
      have hF4 : Fr (fun j => j = M') w3 W4 := h3.trans (Fr.of_below b4)
      have HO : Hid (∃ f', StAt w6 S' M' (k + 1) f' ∧ fR f' = ((rcs L).take (k + 1)).foldl layR noR9 ∧ Fr (fun j => j = M') w3 w6) := hidIn ⟨_, hst6, by rw [fR_put, h2, HT.out, List.foldl_append]; rfl, hF4.drew.trans hF6⟩
      have HSM4 : Hid (¬ S' = M') := hidIn fun e => by
        have h1 := HS4.out.p
        obtain ⟨es, cl, hb⟩ := HS4.out.m.isMap
        rw [e, hb] at h1
        cases h1
      obtain ⟨b5, hb5⟩ : ∃ b5, wr.heap.size = b5 := ⟨_, rfl⟩
      rw [hb5] at HX
      have Hne : Hid (¬ b5 = M') := hidIn (by have := h1.lts.2; omega)
      have HW := hidIn hW4
      have HRun := hidIn hrun
      have hS6 : Fr (fun j => j = M') W4 w6 := (Fr.refl _ W4).drew.trans hF6
      have HS6 := hidIn hS6
      clear HR h1 h2 h3 hx hcell q0 q1 q2 q3 q4 q5 hxv hxs hxs' hxn hxm hxo hmap hbM hbb hbk b4 hW4 hrun hst6 hF6 hF4 hnl HT hS6
      go_upto_region 7 with fail
      rw [HW.out]
      clear HW hb5 p0 p1 p2 p3 p4 p5
      refine wp_region_held_drew (S := fun wx => Fr (fun j => j = M') W4 wx) (by kernel_rfl) ((Fr.refl _ W4).drew) (fun hHeld => ?_)
      refine wpAnyH_take (i := 0) (v := ?_) rfl (by kernel_rfl) (by kernel_rfl) (by kernel_rfl) (fun _ _ _ h => h) (Or.inl ⟨by rfl, ?_⟩) (by assumption) ?_
      rotate_left
      · intro wq hSw
        clear hSw
        go_simp
        try (with_reducible rfl)
      refine wpAnyH_take (i := 1) (v := ?_) rfl (by kernel_rfl) (by kernel_rfl) (by kernel_rfl) (fun _ _ _ h => h) (Or.inl ⟨by rfl, ?_⟩) (by assumption) ?_
      rotate_left
      · intro wq hSw
        clear hSw
        go_simp
        try (with_reducible rfl)
      refine wpAnyH_take (i := 2) (v := ?_) rfl (by kernel_rfl) (by kernel_rfl) (by kernel_rfl) (fun _ _ _ h => h) (Or.inl ⟨by rfl, ?_⟩) (by assumption) ?_
      rotate_left
      · intro wq hSw
        clear hSw
        go_simp
        try (with_reducible rfl)
      refine wpAnyH_take (i := 3) (v := ?_) rfl (by kernel_rfl) (by kernel_rfl) (by kernel_rfl) (fun _ _ _ h => h) (Or.inl ⟨by rfl, ?_⟩) (by assumption) ?_
      rotate_left
      · intro wq hSw
        have hq := (hSw.block S' (block_lt HS4.out.p) HSM4.out).trans HS4.out.p
        have z0 := cell_of_row _ _ 0 _ _ _ hq
        simp at z0
        clear hq
        clear hSw
        go_simp
        try (with_reducible rfl)
      refine wpAnyH_take (i := 4) (v := ?_) rfl (by kernel_rfl) (by kernel_rfl) (by kernel_rfl) (fun _ _ _ h => h) (Or.inl ⟨by rfl, ?_⟩) (by assumption) ?_
      rotate_left
      · intro wq hSw
        clear hSw
        go_simp
        try (with_reducible rfl)
      refine wpAnyH_take (i := 5) (v := ?_) rfl (by kernel_rfl) (by kernel_rfl) (by kernel_rfl) (fun _ _ _ h => h) (Or.inl ⟨by rfl, ?_⟩) (by assumption) ?_
      rotate_left
      · intro wq hSw
        have hq := (hSw.block b5 (block_lt HX.out) Hne.out).trans HX.out
        have z0 := cell_of_row _ _ 0 _ _ _ hq
        have z1 := cell_of_row _ _ 1 _ _ _ hq
        have z2 := cell_of_row _ _ 2 _ _ _ hq
        have z3 := cell_of_row _ _ 3 _ _ _ hq
        have z4 := cell_of_row _ _ 4 _ _ _ hq
        have z5 := cell_of_row _ _ 5 _ _ _ hq
        simp at z0 z1 z2 z3 z4 z5
        clear hq
        clear hSw
        go_simp
        try (with_reducible rfl)
      refine wpAnyH_take (i := 6) (v := ?_) rfl (by kernel_rfl) (by kernel_rfl) (by kernel_rfl) (fun _ _ _ h => h) (Or.inl ⟨by rfl, ?_⟩) (by assumption) ?_
      rotate_left
      · intro wq hSw
        have hq := (hSw.block b5 (block_lt HX.out) Hne.out).trans HX.out
        have z0 := cell_of_row _ _ 0 _ _ _ hq
        have z1 := cell_of_row _ _ 1 _ _ _ hq
        have z2 := cell_of_row _ _ 2 _ _ _ hq
        have z3 := cell_of_row _ _ 3 _ _ _ hq
        have z4 := cell_of_row _ _ 4 _ _ _ hq
        have z5 := cell_of_row _ _ 5 _ _ _ hq
        simp at z0 z1 z2 z3 z4 z5
        clear hq
        clear hSw
        go_simp
        try (with_reducible rfl)
      refine wpAnyH_ready (rs := [7]) (by kernel_rfl) (by simp) ?_
      refine AllReadyH.cons rfl (fun K hK => ?_) AllReadyH.nil
      have hr := HRun.out
      go_simp
      refine hK.out _ _ HS6.out (fun _ => ?_)
      clear hK K
      refine wpAnyH_done (by kernel_rfl) ?_ _
      go_wp2_with fail
      go_roundw
      case rel => exact ⟨k + 1, by omega, by go_num, HO⟩
      case measure => simp [intOf]; omega
    · have hki : ¬ ((k : Int) < (LL : Int)) := by omega
      obtain ⟨f', h1, h2, h3⟩ := HR.out
      have HO : Hid (StAt wr S' M' 24 f' ∧ fR f' = fR f ∧ Below w.heap.size w wr) := hidIn ⟨h1.mono (by omega), by rw [h2, List.take_of_length_le (by rw [List.length_map, HLL.out]; omega), Hrs.out, allL_fR, HLs.out], HB3.out.trans (h3.below HB3.out.size (fun j hj => by rw [hj]; exact HSM.out.2))⟩
      clear HR h1 h2 h3
      go_wp2_with fail
      go_ret
      exact ⟨⟨S', M', f', rfl, HO.out.1, HO.out.2.1, HSM.out⟩, HO.out.2.2⟩
end Go.Proofs.Ytllmocfiobbofaa
