/- The law's cut. -/
import Derived.Test.YtnhlonapbohaeaaUC
import Derived.Deep.RegionHeld3
namespace Go.Proofs.Ytnhlonapbohaeaa
open Go.RowKit

/-- Claims, 40 at most, of 30 routers at most. -/
def cutT (T : List (Int × List Int)) : List (Int × List Int) := (T.take 40).map fun p => (p.1, p.2.take 30)
theorem cutT_len (T : List (Int × List Int)) : (cutT T).length ≤ 40 := by unfold cutT; rw [List.length_map, List.length_take]; omega
theorem cutT_mem {T : List (Int × List Int)} {p : Int × List Int} (h : p ∈ cutT T) : p.2.length ≤ 30 ∧ ∃ q ∈ T, p.1 = q.1 ∧ ∀ z ∈ p.2, z ∈ q.2 := by
  unfold cutT at h
  obtain ⟨q, hq, rfl⟩ := List.mem_map.1 h
  exact ⟨by simp; omega, q, List.mem_of_mem_take hq, rfl, fun z hz => List.mem_of_mem_take hz⟩
set_option maxRecDepth 100000 in
set_option maxHeartbeats 4000000 in
theorem cut_any {L : List Cl} {v : Value} {w : World} (h : ClsAt w v L) :
    Calls Try.prog 11 #[v] w fun e w' => (∃ a c, e = .returned (.slice a (cutT (cls L)).length c) ∧ ClsAns w w' (cutT (cls L)) (.slice a (cutT (cls L)).length c)) ∧ Below w.heap.size w w' := by
  obtain ⟨a, cap, rfl, hn, _, hat⟩ := h.r.clms
  have Ha := hidIn hat
  have HA := hidIn h.a
  obtain ⟨n, hnn⟩ : ∃ n, L.length = n := ⟨_, rfl⟩
  rw [hnn] at hn ⊢
  have Hn := hidIn hnn
  clear hat h hnn
  go_enter Try.func11, Try.ntmps11
  go_wp2_with fail
  go_loopw [3, 4] (fun u i wr => ∃ (k : Nat) (F : List Cl), k ≤ n ∧ k ≤ 40 ∧ i = .int .i64 k ∧ (∃ a c, u = .slice a k c) ∧ Hid (Below w.heap.size w wr ∧ wr.ownsRow w.heap.size 33 2 u k (fl clc F) ∧ F.length = k ∧ cls F = ((cls L).take k).map (fun p => (p.1, p.2.take 30)) ∧ ∀ x ∈ F, wr.ownsRow w.heap.size 3 1 x.2.2 x.2.1.length (fl ic x.2.1))) (fun _ i _ => n - (intOf i).toNat)
  case atStart => exact ⟨0, [], Nat.zero_le _, Nat.zero_le _, rfl, ⟨none, 0, rfl⟩, hidIn ⟨Below.refl _ _, World.ownsRow_nil _ _ _ _, rfl, rfl, fun _ h => absurd h List.not_mem_nil⟩⟩
  case round =>
    obtain ⟨k, F, hk, hk40, rfl, ⟨ua, uc, rfl⟩, HR⟩ := hrel
    obtain ⟨hb, hu, hFl, hFc, hFr⟩ := HR.out
    clear HR
    by_cases hlt : k < n ∧ k < 40
    · have hki : (k : Int) < (n : Int) := by omega
      have hk4 : (k : Int) < 40 := by omega
      obtain ⟨bk, o, rfl, hbk, hcell⟩ := Ha.out (by have := Hn.out; omega)
      obtain ⟨⟨id, xs, xv⟩, hz⟩ : ∃ z, L[k]? = some z := ⟨L[k]'(by have := Hn.out; omega), List.getElem?_eq_getElem _⟩
      obtain ⟨q0, q1⟩ := hcell k _ hz
      obtain ⟨hxs, hxn⟩ := HA.out _ (List.mem_of_getElem? hz)
      simp only at q0 q1 hxs hxn
      have hTk : (cls L)[k]? = some (id, xs) := by rw [List.getElem?_map, hz]; rfl
      have HT1 : Hid (((cls L).take (k + 1)).map (fun p => (p.1, p.2.take 30)) = ((cls L).take k).map (fun p => (p.1, p.2.take 30)) ++ [(id, xs.take 30)]) := hidIn (by rw [take_snoc hTk, List.map_append]; rfl)
      have c0 := (hb.cell (p := ⟨bk, o + k * 2, none⟩) hbk).trans q0
      have c1 := (hb.cell (p := ⟨bk, o + k * 2 + 1, none⟩) hbk).trans q1
      obtain ⟨xa, xc, hxv, hxl, hxc, _⟩ := hxs.ints
      subst hxv
      have hcut := hxs.cut 30
      have hml : (xs.take 30).length = min xs.length 30 := by rw [List.length_take]; omega
      have hcl : (xs.take 30).length ≤ 30 := List.length_take_le _ _
      have hnil : (∃ a n c, Value.slice xa (xs.take 30).length xc = .slice (some a) n c) ∨ (Value.slice xa (xs.take 30).length xc = .slice none 0 0 ∧ nilS = .slice none 0 0) := by
        rcases hxn with ⟨p, nn, cc, he⟩ | he
        · simp only [Value.slice.injEq] at he
          rw [he.1]
          exact .inl ⟨_, _, _, rfl⟩
        · simp only [Value.slice.injEq] at he
          obtain ⟨rfl, h0, rfl⟩ := he
          have : (xs.take 30).length = 0 := by omega
          rw [this]
          exact .inr ⟨rfl, rfl⟩
      have hdr : Below wr.heap.size wr wr.drew := (Below.refl _ wr).drew
      have hcd := (hcut.keep hb (Nat.le_refl _)).keep hdr (Nat.le_refl _)
      obtain ⟨v', w6, hrun, hown, hb6, _⟩ := append_allI (l := []) (World.ownsRow_nil wr.drew wr.heap.size 3 1) hcd (by omega) hdr.size hnil
      rw [Nat.zero_add] at hown
      obtain ⟨a6, c6, rfl⟩ := row_shape hown
      rw [List.nil_append] at hown
      have hB6 : Below wr.heap.size wr w6 := hdr.trans hb6
      have hu6 := row_below hu hB6 (Nat.le_refl _)
      have hbw6 := hb.trans (hB6.mono hb.size)
      obtain ⟨g, gc, w7, hrun7, hown7, hb7, hF7⟩ := append_clm hu6 (id, xs.take 30, .slice a6 (xs.take 30).length c6) rfl (by omega) hbw6.size
      have hnI : ∀ {base i : Nat} {x : Value} {zs : List Value}, w6.ownsRow base 3 1 x i zs → w7.ownsRow base 3 1 x i zs := fun {base i x zs} hx => row_fr hx hF7 (fun i hi e => by
        obtain ⟨cur, h1⟩ := crowTy hx hi
        obtain ⟨cur', h2⟩ := crowTy hu6 e
        rw [h1] at h2
        simp only [Option.some.injEq, Obj.cells.injEq] at h2
        exact absurd h2.2.1 (by decide))
      have HO : Hid (Below w.heap.size w w7 ∧ w7.ownsRow w.heap.size 33 2 (.slice (some ⟨g, 0, none⟩) (k + 1) gc) (k + 1) (fl clc (F ++ [(id, xs.take 30, .slice a6 (xs.take 30).length c6)])) ∧ (F ++ [(id, xs.take 30, Value.slice a6 (xs.take 30).length c6)]).length = k + 1 ∧ cls (F ++ [(id, xs.take 30, Value.slice a6 (xs.take 30).length c6)]) = ((cls L).take (k + 1)).map (fun p => (p.1, p.2.take 30)) ∧ ∀ x ∈ F ++ [(id, xs.take 30, Value.slice a6 (xs.take 30).length c6)], w7.ownsRow w.heap.size 3 1 x.2.2 x.2.1.length (fl ic x.2.1)) := hidIn (by
        refine ⟨hbw6.trans hb7, hown7, by rw [List.length_append, hFl]; rfl, by rw [HT1.out, ← hFc, cls, List.map_append]; rfl, fun x hx => ?_⟩
        rcases List.mem_append.1 hx with hx | hx
        · exact hnI (row_below (hFr x hx) hB6 (Nat.le_refl _))
        · rw [List.mem_singleton.1 hx]
          exact hnI (row_low hown hb.size))
      have e0 := (hB6.cell (p := ⟨bk, o + k * 2, none⟩) (Nat.lt_of_lt_of_le hbk hb.size)).trans c0
      have HRd : Hid (∀ wq, Below wr.heap.size wr wq → wq.cell? ⟨bk, o + k * 2, none⟩ = some (.int .i64 id) ∧ wq.cell? ⟨bk, o + k * 2 + 1, none⟩ = some (.slice xa xs.length xc)) := hidIn fun wq hq => ⟨(hq.cell (p := ⟨bk, o + k * 2, none⟩) (Nat.lt_of_lt_of_le hbk hb.size)).trans c0, (hq.cell (p := ⟨bk, o + k * 2 + 1, none⟩) (Nat.lt_of_lt_of_le hbk hb.size)).trans c1⟩
      obtain ⟨m, hm⟩ : ∃ m, (xs.take 30).length = m := ⟨_, rfl⟩
      rw [hm] at hrun hrun7 HO hml
      obtain ⟨xl, hxl'⟩ : ∃ xl, xs.length = xl := ⟨_, rfl⟩
      rw [hxl'] at HRd hml hxc hxl
      have hmin : min (xl : Int) 30 = (m : Int) := by omega
      have hmc : (m : Int) ≤ (xc : Int) := by omega
      have HRun := hidIn hrun
      have HRun7 := hidIn hrun7
      have HB6 := hidIn hB6
      clear hcell q0 q1 hxs hxn hz hTk hcut hml hcl hnil hcd hrun hown hb6 hB6 hu6 hbw6 hrun7 hown7 hb7 hF7 hnI hb hu hFl hFc hFr hm hxl' hdr c0 c1
      go_upto_region 6 with fail
      refine wp_region_held_drew (S := fun wx => Below wr.heap.size wr wx) (by kernel_rfl) ((Below.refl _ wr).drew) (fun hHeld => ?_)
      have hh : Below wr.heap.size wr wr.drew := hHeld
      refine wpAnyH_take (i := 0) (v := ?_) rfl (by kernel_rfl) (by kernel_rfl) (by kernel_rfl) (fun _ _ _ h => h) (Or.inl ⟨by rfl, ?_⟩) (by assumption) ?_
      rotate_left
      · intro wq hSw
        clear hSw
        go_simp
        try (with_reducible rfl)
      refine wpAnyH_take (i := 1) (v := ?_) rfl (by kernel_rfl) (by kernel_rfl) (by kernel_rfl) (fun _ _ _ h => h) (Or.inl ⟨by rfl, ?_⟩) (by assumption) ?_
      rotate_left
      · intro wq hSw
        clear hSw
        go_simp
        try (with_reducible rfl)
      refine wpAnyH_take (i := 2) (v := ?_) rfl (by kernel_rfl) (by kernel_rfl) (by kernel_rfl) (fun _ _ _ h => h) (Or.inl ⟨by rfl, ?_⟩) (by assumption) ?_
      rotate_left
      · intro wq hSw
        clear hSw
        go_simp
        try (with_reducible rfl)
      refine wpAnyH_take (i := 3) (v := ?_) rfl (by kernel_rfl) (by kernel_rfl) (by kernel_rfl) (fun _ _ _ h => h) (Or.inl ⟨by rfl, ?_⟩) (by assumption) ?_
      rotate_left
      · intro wq hSw
        clear hSw
        go_simp
        try (with_reducible rfl)
      refine wpAnyH_take (i := 4) (v := ?_) rfl (by kernel_rfl) (by kernel_rfl) (by kernel_rfl) (fun _ _ _ h => h) (Or.inl ⟨by rfl, ?_⟩) (by assumption) ?_
      rotate_left
      · intro wq hSw
        clear hSw
        go_simp
        try (with_reducible rfl)
      refine wpAnyH_take (i := 5) (v := ?_) rfl (by kernel_rfl) (by kernel_rfl) (by kernel_rfl) (fun _ _ _ h => h) (Or.inl ⟨by rfl, ?_⟩) (by assumption) ?_
      rotate_left
      · intro wq hSw
        obtain ⟨zz0, zz1⟩ := HRd.out wq hSw
        clear hSw
        go_simp
        try (with_reducible rfl)
      refine wpAnyH_take (i := 6) (v := ?_) rfl (by kernel_rfl) (by kernel_rfl) (by kernel_rfl) (fun _ _ _ h => h) (Or.inl ⟨by rfl, ?_⟩) (by assumption) ?_
      rotate_left
      · intro wq hSw
        clear hSw
        go_simp
        try (with_reducible rfl)
      refine wpAnyH_take (i := 7) (v := ?_) rfl (by kernel_rfl) (by kernel_rfl) (by kernel_rfl) (fun _ _ _ h => h) (Or.inl ⟨by rfl, ?_⟩) (by assumption) ?_
      rotate_left
      · intro wq hSw
        clear hSw
        go_simp
        try (with_reducible rfl)
      refine wpAnyH_take (i := 8) (v := ?_) rfl (by kernel_rfl) (by kernel_rfl) (by kernel_rfl) (fun _ _ _ h => h) (Or.inl ⟨by rfl, ?_⟩) (by assumption) ?_
      rotate_left
      · intro wq hSw
        clear hSw
        go_simp
        try (with_reducible rfl)
      refine wpAnyH_take (i := 9) (v := ?_) rfl (by kernel_rfl) (by kernel_rfl) (by kernel_rfl) (fun _ _ _ h => h) (Or.inl ⟨by rfl, ?_⟩) (by assumption) ?_
      rotate_left
      · intro wq hSw
        clear hSw
        go_simp
        try (with_reducible rfl)
      refine wpAnyH_take (i := 10) (v := ?_) rfl (by kernel_rfl) (by kernel_rfl) (by kernel_rfl) (fun _ _ _ h => h) (Or.inl ⟨by rfl, ?_⟩) (by assumption) ?_
      rotate_left
      · intro wq hSw
        obtain ⟨zz0, zz1⟩ := HRd.out wq hSw
        clear hSw
        go_simp
        try (with_reducible rfl)
      refine wpAnyH_take (i := 11) (v := ?_) rfl (by kernel_rfl) (by kernel_rfl) (by kernel_rfl) (fun _ _ _ h => h) (Or.inl ⟨by rfl, ?_⟩) (by assumption) ?_
      rotate_left
      · intro wq hSw
        clear hSw
        go_simp
        try (with_reducible rfl)
      refine wpAnyH_take (i := 12) (v := ?_) rfl (by kernel_rfl) (by kernel_rfl) (by kernel_rfl) (fun _ _ _ h => h) (Or.inl ⟨by rfl, ?_⟩) (by assumption) ?_
      rotate_left
      · intro wq hSw
        clear hSw
        go_simp
        try (with_reducible rfl)
      refine wpAnyH_take (i := 13) (v := ?_) rfl (by kernel_rfl) (by kernel_rfl) (by kernel_rfl) (fun _ _ _ h => h) (Or.inl ⟨by rfl, ?_⟩) (by assumption) ?_
      rotate_left
      · intro wq hSw
        clear hSw
        go_simp
        try (with_reducible rfl)
      refine wpAnyH_ready (rs := [14]) (by kernel_rfl) (by simp) ?_
      refine AllReadyH.cons (i := 14) rfl (fun K hK => ?_) AllReadyH.nil
      refine step_append rfl (.tmp 16) (.tmp 29) 30 rfl (by kernel_rfl) (by kernel_rfl) HRun.out ?_
      refine hK.out _ _ HB6.out (fun _ => ?_)
      clear hK K
      refine wpAnyH_take (i := 15) (v := ?_) rfl (by kernel_rfl) (by kernel_rfl) (by kernel_rfl) (fun _ _ _ h => h) (Or.inl ⟨by rfl, ?_⟩) (by assumption) ?_
      rotate_left
      · intro wq hSw
        clear hSw
        go_simp
        try (with_reducible rfl)
      refine wpAnyH_done (by kernel_rfl) ?_ _
      clear hh hHeld HRd
      go_wp2_with (refine l_append rfl _ _ 23 rfl HRun7.out ?_)
      go_roundw
      case rel => exact ⟨k + 1, _, by omega, by omega, by go_num, ⟨_, _, rfl⟩, HO⟩
      case measure => simp [intOf]; omega
    · have hke : (cls L).take k = (cls L).take 40 := by
        have hl : (cls L).length = n := by rw [List.length_map, Hn.out]
        by_cases h40 : k = 40
        · rw [h40]
        · rw [List.take_of_length_le (by omega), List.take_of_length_le (by omega)]
      rw [hke] at hFc
      have hcl : (cutT (cls L)).length = k := by show (((cls L).take 40).map _).length = k; rw [← hFc, List.length_map, hFl]
      have HE : Hid ((cutT (cls L)).length = k ∧ ClsAns w wr (cutT (cls L)) (.slice ua k uc) ∧ Below w.heap.size w wr) := hidIn ⟨hcl, ⟨F, by rw [hFl]; exact hu, hFc, hFr⟩, hb⟩
      clear hb hu hFl hFc hFr hke hcl
      by_cases hkn : k < n
      · have hki : (k : Int) < (n : Int) := by omega
        have hk4 : ¬ ((k : Int) < 40) := by omega
        clear hlt
        go_wp2_with fail
        go_ret
        obtain ⟨e1, e2, e3⟩ := HE.out
        exact ⟨⟨ua, uc, by rw [e1]; rfl, by rw [e1]; exact e2⟩, e3⟩
      · have hki : ¬ ((k : Int) < (n : Int)) := by omega
        clear hlt
        go_wp2_with fail
        go_ret
        obtain ⟨e1, e2, e3⟩ := HE.out
        exact ⟨⟨ua, uc, by rw [e1]; rfl, by rw [e1]; exact e2⟩, e3⟩
end Go.Proofs.Ytnhlonapbohaeaa
