/- A calendar of dandelion/api.Arrive: New, isThere, add. -/
import Derived.Test.YtkhfpcnmnnboeaaC4A
namespace Go.Proofs.Ytkhfpcnmnnboeaa.Ca.A
open Go.RowKit Go.Maps

theorem infoPtr : (Try.prog.info? 110).map (fun i => (i.zero, i.size, i.bytes)) = some (some (.pointer none), 1, 8) := by kernel_rfl
theorem zeroPtr (w : World) : (zeroValue 110).run Try.prog w = .ok nilP w := by kernel_rfl
theorem makeM (w : World) : (Instr.makeMap 112 none).run Try.prog w = .ok (.map (some w.heap.size)) (w.alloc (.map #[] 0)) := by kernel_rfl
theorem append_ptr {W : World} {k : Nat} {u : Value} {l : List Th} (hr : W.ownsRow 0 110 1 u k (fl pc l)) (x : Th) (hk : (k + 1) * 8 ≤ 140737488355328) :
    ∃ g cap w6, (Builtin.append_ #[111, 111] 111 #[u, .slice (some ⟨W.heap.size, 0, none⟩) 1 1]).run Try.prog (W.alloc (.cells (pc x).toArray 110)) = .ok (.slice (some ⟨g, 0, none⟩) (k + 1) cap) w6 ∧
      w6.ownsRow 0 110 1 (.slice (some ⟨g, 0, none⟩) (k + 1) cap) (k + 1) (fl pc (l ++ [x])) ∧ (u.ownBlock = some g ∨ g = W.heap.size + 1) ∧ W.grownBy w6 u.ownBlock ∧ Below 0 W w6 :=
  append_one (P := Try.prog) (cs := pc) (T := 111) (fun _ => rfl) (fun _ => by simp [Value.oneCell']) Try.underlying111 infoPtr rfl (by decide) hr x hk (by unfold maxLen; omega) (Nat.zero_le _)
theorem eqIn (b d : Nat) (w : World) : (Op.equalIn (d + 1) 72 (ptr b) (ptr b)).run Try.prog w = .ok true w := by
  simp [Op.equalIn, run_underlying Try.underlying72, sameAddr]
theorem eqP (b : Nat) (w : World) : (binOp BinOp.eql 72 (ptr b) (ptr b)).run Try.prog w = .ok (.bool true) w := by
  have h : (Op.equal 72 (ptr b) (ptr b)).run Try.prog w = .ok true w := eqIn b 9999 w
  simp only [binOp]
  simp [h]
set_option maxRecDepth 100000 in
theorem there_yes {cp : Nat} {w : World} (h : w.cell? ⟨cp, 0, none⟩ = some (ptr cp)) : Calls Try.prog 52 #[ptr cp] w fun e w' => e = .returned (.bool true) ∧ w' = w := by
  have he := eqP cp w
  go_enter Try.func52, Try.ntmps52
  go_wp2
  go_ret
  exact ⟨rfl, rfl⟩
/-- What a map tells of a tree. -/
def MapOk (f : Int → Option Value) (es : List Th) : Prop := (∀ e ∈ es, f e.2 = some (ptr e.1.1)) ∧ ∀ k x, f k = some x → ∃ e ∈ es, e.2 = k ∧ x = ptr e.1.1
theorem MapOk.perm {f : Int → Option Value} {es fs : List Th} (h : MapOk f es) (hp : es.Perm fs) : MapOk f fs :=
  ⟨fun e he => h.1 e (hp.mem_iff.2 he), fun k x hk => by obtain ⟨e, he, r⟩ := h.2 k x hk; exact ⟨e, hp.mem_iff.1 he, r⟩⟩
theorem MapOk.put {f : Int → Option Value} {es : List Th} (h : MapOk f es) {e : Th} (hn : ∀ x ∈ es, x.2 ≠ e.2) : MapOk (putO f e.2 (ptr e.1.1)) (es ++ [e]) := by
  refine ⟨fun x hx => ?_, fun k x hk => ?_⟩
  · rcases List.mem_append.1 hx with hx | hx
    · rw [putO_other f _ (hn x hx)]; exact h.1 x hx
    · rw [List.mem_singleton.1 hx, putO_same]
  · by_cases hke : k = e.2
    · subst hke
      rw [putO_same] at hk
      cases hk
      exact ⟨e, by simp, rfl, rfl⟩
    · rw [putO_other f _ hke] at hk
      obtain ⟨y, hy, r⟩ := h.2 k x hk
      exact ⟨y, List.mem_append_left _ hy, r⟩
theorem MapOk.del {f : Int → Option Value} {es fs : List Th} {e : Th} (h : MapOk f es) (hp : es.Perm (e :: fs)) (hn : (es.map Prod.snd).Nodup) : MapOk (delO f e.2) fs := by
  have hnd := (hp.map Prod.snd).nodup_iff.1 hn
  rw [List.map_cons, List.nodup_cons] at hnd
  refine ⟨fun x hx => ?_, fun k x hk => ?_⟩
  · have hne : x.2 ≠ e.2 := fun he => hnd.1 (List.mem_map.2 ⟨x, hx, he⟩)
    rw [delO_other f hne]
    exact h.1 x (hp.mem_iff.2 (List.mem_cons_of_mem _ hx))
  · by_cases hke : k = e.2
    · subst hke; rw [delO_same] at hk; cases hk
    · rw [delO_other f hke] at hk
      obtain ⟨y, hy, h1, h2⟩ := h.2 k x hk
      rcases List.mem_cons.1 (hp.mem_iff.1 hy) with rfl | hy
      · exact absurd h1.symm hke
      · exact ⟨y, hy, h1, h2⟩
set_option maxRecDepth 100000 in
set_option maxHeartbeats 2000000 in
theorem add_ok {w : World} {cp mb n X : Nat} {v : Value} {es : List Th} {p : Int} {f : Int → Option Value} {x : (Int × Int × ByteArray)} {at0 t0 : Int} (h : HpC w cp v mb es p) (hm : MpE w mb n f) (hn : n < 100000) (hl : es.length < 100000)
    (hX : w.heap[X]? = some (.cells (entA ((X, x, at0), t0) es.length) 116)) (hXo : ¬ ownH v es X) (ht : (Lit.int .i64 t0).wf = true) :
    Calls Try.prog 60 #[ptr cp, ptr X] w fun e w' => (∃ r, e = .returned r) ∧ ∃ v', HpC w' cp v' mb (es ++ [((X, x, at0), t0)]) p ∧ MpE w' mb (n + 1) (putO f t0 (ptr X)) ∧ Fr (fun k => k = cp ∨ k = mb ∨ v.ownBlock = some k) w w' ∧ (∀ k, v'.ownBlock = some k → v.ownBlock = some k ∨ (w.heap.size ≤ k ∧ k < w'.heap.size)) := by
  obtain ⟨g, cap, w6, hrun, hown, hlie, hgr, hb6⟩ := append_ptr h.row ((X, x, at0), t0) (by omega)
  have hs6 : w.heap.size ≤ w6.heap.size := hgr.size
  have hF6 : Fr (fun k => v.ownBlock = some k) w w6 := ⟨hgr.os, hgr.tape, hgr.output, hgr.size, fun j hj hne => hgr.block j hj (fun e => hne e.symm)⟩
  have hcl := h.lt
  have hcv : v.ownBlock ≠ some cp := fun e => h.not_own (.inl e)
  have hk6 := (hF6.block cp hcl hcv).trans h.blk
  have hm6 : w6.cell? ⟨cp, 1, none⟩ = some v := cell_of_row _ _ 1 _ _ _ hk6
  have hf6 := frozen_new hk6 1
  obtain ⟨es', cl', hmap⟩ := hm.isMap
  have hmc : mb ≠ cp := fun e => by rw [e, h.blk] at hmap; cases hmap
  have hmv : v.ownBlock ≠ some mb := fun e => by obtain ⟨cur, h1⟩ := row_ty h.row e; rw [h1] at hmap; cases hmap
  have hXl := block_lt hX
  have hXc : X ≠ cp := fun e => by
    rw [e, h.blk] at hX
    simp only [Option.some.injEq, Obj.cells.injEq] at hX
    exact absurd hX.2.1 (by decide)
  have hXm : X ≠ mb := fun e => by rw [e, hmap] at hX; cases hX
  have hgn : g ≠ cp := by rcases hlie with e | e; exact fun e' => hcv (e' ▸ e); omega
  have hgX : g ≠ X := by rcases hlie with e | e; exact fun e' => hXo (.inl (e' ▸ e)); omega
  have hgm : g ≠ mb := by rcases hlie with e | e; exact fun e' => hmv (e' ▸ e); have := hm.lt; omega
  obtain ⟨U, hU⟩ : ∃ U, w6.setCell ⟨cp, 1, none⟩ (.slice (some ⟨g, 0, none⟩) (es.length + 1) cap) = U := ⟨_, rfl⟩
  have hUo : ∀ k, k ≠ cp → U.heap[k]? = w6.heap[k]? := fun k hk => by rw [← hU]; exact Below.heap_setCell _ _ _ _ hk
  have hUc : U.heap[cp]? = some (.cells #[ptr cp, .slice (some ⟨g, 0, none⟩) (es.length + 1) cap, .map (some mb), .int .i64 p] 114) := by rw [← hU]; exact heap_setCell_same w6 cp 1 _ _ _ hk6
  have hFU : Fr (fun k => k = cp ∨ v.ownBlock = some k) w U := by rw [← hU]; exact (hF6.mono (fun _ _ h => .inr h)).set (p := ⟨cp, 1, none⟩) (.inl rfl) _
  have hUX : U.heap[X]? = some (.cells (entA ((X, x, at0), t0) es.length) 116) := (hFU.block X hXl (fun e => by rcases e with e | e; exact hXc e; exact hXo (.inl e))).trans hX
  have hMU : MpE U mb n f := hm.keep hFU (fun e => by rcases e with e | e; exact hmc e; exact hmv e)
  have hHU : HpC U cp (.slice (some ⟨g, 0, none⟩) (es.length + 1) cap) mb (es ++ [((X, x, at0), t0)]) p := by
    refine ⟨hUc, ?_, fun i e he => ?_⟩
    · rw [List.length_append]
      have := row_fr hown (S := fun k => k = cp) (w' := U) (by rw [← hU]; exact (Fr.refl (fun k => k = cp) w6).set (p := ⟨cp, 1, none⟩) rfl _) (fun j hj e => by simp [Value.ownBlock] at hj; exact hgn (hj.trans e))
      exact this
    · by_cases hi : i < es.length
      · rw [List.getElem?_append_left hi] at he
        have h1 := h.ent i e he
        refine (hFU.block _ (block_lt h1) (fun e' => ?_)).trans h1
        rcases e' with e' | e'
        · exact h.cp_ne (.inr ⟨e, List.mem_of_getElem? he, rfl⟩) e'.symm
        · obtain ⟨cur, h2⟩ := row_ty h.row e'
          rw [h1] at h2
          simp only [Option.some.injEq, Obj.cells.injEq] at h2
          exact absurd h2.2.1 (by decide)
      · have hil := (List.getElem?_eq_some_iff.1 he).1
        simp at hil
        obtain rfl : i = es.length := by omega
        rw [List.getElem?_append_right (Nat.le_refl _), Nat.sub_self] at he
        simp at he
        subst he
        exact hUX
  obtain ⟨W7, hrun7, hM7, hF7⟩ := (show MpE U.drew mb n f from hMU).put (T := 112) Try.underlying112 (by omega) ht (ptr X)
  have HCl : Hid (∀ wq, Fr (fun k => k = mb) U wq → wq.cell? ⟨cp, 2, none⟩ = some (.map (some mb)) ∧ wq.cell? ⟨X, 4, none⟩ = some (.int .i64 t0)) := hidIn fun wq hF => by
    have j0 := (hF.block cp (block_lt hUc) (fun e => hmc e.symm)).trans hUc
    have j1 := (hF.block X (block_lt hUX) hXm).trans hUX
    exact ⟨cell_of_row _ _ 2 _ _ _ j0, cell_of_row _ _ 4 _ _ _ j1⟩
  have HFin : Hid (HpC W7 cp (.slice (some ⟨g, 0, none⟩) (es.length + 1) cap) mb (es ++ [((X, x, at0), t0)]) p ∧ Fr (fun k => k = cp ∨ k = mb ∨ v.ownBlock = some k) w W7 ∧ g < W7.heap.size) := hidIn (by
    have hF7' : Fr (fun k => k = mb) U W7 := ⟨hF7.os, hF7.tape, hF7.output, hF7.size, hF7.block⟩
    refine ⟨hHU.keep hF7' (fun e => hmc e.symm) (fun k hk e => ?_), (hFU.mono (fun k _ hk => by rcases hk with hk | hk; exact .inl hk; exact .inr (.inr hk))).trans (hF7'.mono (fun k _ hk => .inr (.inl hk))), ?_⟩
    · obtain ⟨cur, t, h1, _⟩ := hHU.own_ty hk
      obtain ⟨es2, cl2, h2⟩ := hMU.isMap
      rw [e, h2] at h1
      cases h1
    · exact Nat.lt_of_lt_of_le (hHU.own_lt (k := g) (.inl rfl)) hF7'.size)
  have HM7 := hidIn hM7
  have HRun := hidIn hrun
  have HU := hidIn hU
  have HR7 := hidIn hrun7
  have HF7 := hidIn hF7
  have HLi := hidIn hlie
  have c1 := h.c.2.1
  have k6 := hm6
  clear hrun hown hlie hgr hb6 hs6 hF6 hk6 hmap hmc hmv hXl hXc hXm hgn hgX hgm hU hUo hUc hFU hUX hMU hHU hrun7 hM7 hF7 h hm hX hXo hcv hcl hm6
  generalize es.length = len at *
  go_enter Try.func60, Try.ntmps60
  go_upto_region 1 with (refine l_append rfl _ _ 111 rfl HRun.out ?_)
  rw [HU.out]
  refine wp_region_held_drew (S := fun wx => Fr (fun k => k = mb) U wx) (by kernel_rfl) ((Fr.refl _ U).drew) (fun hHeld => ?_)
  have hd0 : Fr (fun k => k = mb) U U.drew := hHeld
  clear hHeld
  refine wpAnyH_take (i := 0) (v := ptr cp) rfl (by kernel_rfl) (by kernel_rfl) (by kernel_rfl) (fun _ _ _ h => h) (Or.inl ⟨by kernel_rfl, fun _ _ => by kernel_rfl⟩) (by assumption) ?_
  refine wpAnyH_take (i := 1) (v := ptr cp) rfl (by kernel_rfl) (by kernel_rfl) (by kernel_rfl) (fun _ _ _ h => h) (Or.inl ⟨by kernel_rfl, fun _ _ => by kernel_rfl⟩) (by assumption) ?_
  refine wpAnyH_take (i := 2) (v := .pointer (some ⟨cp, 2, none⟩)) rfl (by kernel_rfl) (by kernel_rfl) (by kernel_rfl) (fun _ _ _ h => h) (Or.inl ⟨by kernel_rfl, fun _ _ => by kernel_rfl⟩) (by assumption) ?_
  refine wpAnyH_take (i := 3) (v := .map (some mb)) rfl (by kernel_rfl) (by kernel_rfl) (by kernel_rfl) (fun _ _ _ h => h) (Or.inl ⟨by kernel_rfl, fun wq hSw => by
      obtain ⟨s0, s1⟩ := HCl.out wq hSw
      go_simp⟩) (by assumption) ?_
  refine wpAnyH_take (i := 4) (v := ptr X) rfl (by kernel_rfl) (by kernel_rfl) (by kernel_rfl) (fun _ _ _ h => h) (Or.inl ⟨by kernel_rfl, fun _ _ => by kernel_rfl⟩) (by assumption) ?_
  refine wpAnyH_take (i := 5) (v := ptr X) rfl (by kernel_rfl) (by kernel_rfl) (by kernel_rfl) (fun _ _ _ h => h) (Or.inl ⟨by kernel_rfl, fun _ _ => by kernel_rfl⟩) (by assumption) ?_
  refine wpAnyH_take (i := 6) (v := .pointer (some ⟨X, 4, none⟩)) rfl (by kernel_rfl) (by kernel_rfl) (by kernel_rfl) (fun _ _ _ h => h) (Or.inl ⟨by kernel_rfl, fun _ _ => by kernel_rfl⟩) (by assumption) ?_
  refine wpAnyH_take (i := 7) (v := .int .i64 t0) rfl (by kernel_rfl) (by kernel_rfl) (by kernel_rfl) (fun _ _ _ h => h) (Or.inl ⟨by kernel_rfl, fun wq hSw => by
      obtain ⟨s0, s1⟩ := HCl.out wq hSw
      go_simp⟩) (by assumption) ?_
  refine wpAnyH_take (i := 8) (v := ptr X) rfl (by kernel_rfl) (by kernel_rfl) (by kernel_rfl) (fun _ _ _ h => h) (Or.inl ⟨by kernel_rfl, fun _ _ => by kernel_rfl⟩) (by assumption) ?_
  have hr7 := HR7.out
  refine wpAnyH_ready (rs := [9]) (by kernel_rfl) (by simp) ?_
  refine AllReadyH.cons (i := 9) rfl ?_ AllReadyH.nil
  go_simp
  intro K hK
  clear hr7
  refine hK.out _ _ (hd0.trans HF7.out) (fun _ => ?_)
  clear hK K
  refine wpAnyH_done (by kernel_rfl) ?_ _
  go_wp2_with fail
  go_returns
  refine ⟨⟨_, rfl⟩, _, HFin.out.1, HM7.out, HFin.out.2.1, fun k hk => ?_⟩
  simp [Value.ownBlock] at hk
  subst hk
  rcases HLi.out with e | e
  · exact .inl e
  · exact .inr ⟨by omega, HFin.out.2.2⟩
end Go.Proofs.Ytkhfpcnmnnboeaa.Ca.A
