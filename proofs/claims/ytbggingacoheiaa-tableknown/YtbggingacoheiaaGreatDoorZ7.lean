/- table.entriesMayBe, Check. slices.MinFunc, first, Choose; the document's Best, Choose. table.Check, taken. table.Find, Next. The walks of And, Or, AndNot, only: what each call hands back, in whatever world; what was there stands as it stood. The walks of only, isBit. Plain numbers: a bit string of 256 bits as one number, its four words, and what And, Or, AndNot make of it. The contracts of And, Or, AndNot, only, over one number a bit string. A bit string in a block; bits.Of. Two bit strings compared. bits.Has, With, Without. table.Mask. table.Mask: the walk. -/
import Derived.Test.YtbggingacoheiaaGreatDoorZ6
import Derived.Test.YtbggingacoheiaaGreatDoorRows
import Derived.WalkKit
import Derived.WalkSpells
import Derived.WalkLawsBesides
import Derived.Handy
import Derived.Laws.BitsAllLaws
import Derived.Deep.RegionHeld3
import Derived.Deep.LoopGhost
import Derived.ChangeKeysEq
import Derived.Lib.QuietBelow
import Derived.BigQuiet
import Derived.BigRegion
import Derived.Deep.RegionWith
import Derived.Deep.QuietTactic
namespace Go.Proofs.YtbggingacoheiaaGreatDoor
open Go.RowKit

theorem drop_getT {es : List En} {k : Nat} {x : En} (h : es[k]? = some x) : (toT es).drop k = toE x :: (toT es).drop (k + 1) := drop_next (toT_get h)
/-- The entry ahead of the one at k. -/
def prevT (T : List Et) (k : Nat) : Option Et := if k = 0 then none else T[k - 1]?
theorem prevT_succ {T : List Et} {k : Nat} {x : Et} (h : T[k]? = some x) : prevT T (k + 1) = some x := by
  unfold prevT
  rw [if_neg (by omega), Nat.add_sub_cancel, h]
/-- The entries at a place. -/
theorem thoseAt_any {es : List En} {ua : Option Addr} {un uc qa : Nat} {S B : Int} {w : World} (h : EnAt w (.slice ua un uc) es) (hn : es.length ≤ 100000) (k0 : w.cell? ⟨qa, 0, none⟩ = some (.int .i64 S)) (k1 : w.cell? ⟨qa + 1, 0, none⟩ = some (.int .i64 B)) (self wd own : Int) :
    Calls Tryz.prog 63 #[tbV self wd own (.slice ua un uc), atF qa] w fun e w' => ThAns w w' (es.filter fun x => atB S B (toE x)) e ∧ Below w.heap.size w w' :=
  those_any h hn ⟨100, atC qa, fun x => atB S B (toE x), enter_at, fun x _ _ hbw => at1_any ((hbw.cell (p := ⟨qa, 0, none⟩) (block_lt_of_cell k0)).trans k0) ((hbw.cell (p := ⟨qa + 1, 0, none⟩) (block_lt_of_cell k1)).trans k1) x⟩ self wd own
theorem filter_toT (es : List En) (p : Et → Bool) : ((toT es).filter p).isEmpty = decide ((es.filter fun x => p (toE x)).length = 0) := by
  rw [toT, List.filter_map, List.isEmpty_map]
  show (es.filter fun x => p (toE x)).isEmpty = _
  cases es.filter fun x => p (toE x) <;> rfl
set_option maxRecDepth 100000 in
set_option maxHeartbeats 4000000 in
theorem entriesMay_any {es : List En} {u : Value} {w : World} (h : EnAt w u es) (ht : Wid w) (self own : Int) {wd : Nat} (hW : IsW wd) (ho : 0 ≤ own ∧ own ≤ 1024) :
    Calls Tryz.prog 57 #[tbV self wd own u] w fun e w' => e = .returned (.bool (esB self wd own (toT es))) ∧ Below w.heap.size w w' := by
  obtain ⟨ua, uc, rfl, hul, _, _⟩ := h.op
  obtain ⟨W1, hW1⟩ : ∃ W1, w.alloc (tbO self wd own (.slice ua es.length uc)) = W1 := ⟨_, rfl⟩
  have hb : Below w.heap.size w W1 := by rw [← hW1]; exact (Below.refl _ w).alloc (Nat.le_refl _) _
  have hA : W1.heap[w.heap.size]? = some (tbO self wd own (.slice ua es.length uc)) := by rw [← hW1]; exact heap_alloc_last w _
  obtain ⟨q, hq⟩ : ∃ q, w.heap.size = q := ⟨_, rfl⟩
  rw [hq] at hA
  have HE1 := hidIn (h.keep hb (Nat.le_refl _))
  obtain ⟨ln, hln⟩ : ∃ ln, es.length = ln := ⟨_, rfl⟩
  rw [hln] at hul hA hW1 HE1
  have Hln := hidIn hln
  have HB := hidIn hb
  have HA := hidIn hA
  have HWd := hidIn hW
  have Ho := hidIn ho
  have Ht := hidIn (ht.keep hb)
  have t3 := cell_of_row _ _ 3 _ _ _ hA
  simp at t3
  obtain ⟨r, hr⟩ : ∃ r, esB self wd own (toT es) = r := ⟨_, rfl⟩
  rw [hr]
  have HR := hidIn hr
  have HW := hidIn hW1
  rw [hln]
  clear hb hA hr hW1 h ht hln ho hW
  go_enter Tryz.func57, Tryz.ntmps57
  go_upto_region 1 with fail
  rw [HW.out]
  clear HW hq
  by_cases hlen : ln ≤ 24
  rotate_left
  · have hli : 24 < (ln : Int) := by omega
    have HE : Hid (r = false) := hidIn (by rw [← HR.out]; unfold esB; rw [List.length_map, Hln.out, decide_eq_false hlen]; rfl)
    clear hlen
    go_wp2_with fail
    go_ret
    exact ⟨by rw [HE.out]; rfl, HB.out⟩
  have hli : ¬ 24 < (ln : Int) := by omega
  have HRE : Hid (r = (entsB self wd none (toT es) && ((toT es).filter (atB (opS own wd) (opB own wd))).isEmpty)) := hidIn (by rw [← HR.out]; unfold esB; rw [List.length_map, Hln.out, decide_eq_true hlen]; rfl)
  obtain ⟨pz, hpz⟩ : ∃ pz, entsB self wd none (toT es) = pz := ⟨_, rfl⟩
  rw [hpz] at HRE
  have Hpz := hidIn hpz
  clear HR hpz
  go_wp2_with fail
  clear t3
  go_loopw [15] (fun i wr => ∃ k : Nat, k ≤ ln ∧ i = .int .i64 k ∧ Hid (Below W1.heap.size W1 wr ∧ pz = entsB self wd (prevT (toT es) k) ((toT es).drop k))) (fun i _ => ln - (intOf i).toNat)
  case atStart => exact ⟨0, Nat.zero_le _, rfl, hidIn ⟨Below.refl _ _, by rw [List.drop_zero]; exact Hpz.out.symm⟩⟩
  case round =>
    clear Hpz
    obtain ⟨k, hk, rfl, HI⟩ := hrel
    obtain ⟨hbr, hpz⟩ := HI.out
    clear HI
    by_cases hlt : k < ln
    · have hki : (k : Int) < (ln : Int) := by omega
      obtain ⟨_, _, he, _, _, hcl⟩ := (HE1.out.keep hbr (Nat.le_refl _)).op
      simp only [Value.slice.injEq] at he
      obtain ⟨hua, hxx, hyy⟩ := he
      subst hua
      clear hxx hyy
      obtain ⟨bk, o, rfl, hbk, hcell⟩ := hcl (by have := Hln.out; omega)
      obtain ⟨x, hx⟩ : ∃ x, es[k]? = some x := ⟨es[k]'(by have := Hln.out; omega), List.getElem?_eq_getElem _⟩
      obtain ⟨e0, e1, e2, e3, hxs, hx5⟩ := hcell k x hx
      clear hx5
      obtain ⟨w3, hw3⟩ : ∃ w3, wr.alloc (enO x.1.1 x.1.2.1 x.1.2.2.1 (rwS x.1)) = w3 := ⟨_, rfl⟩
      have b3 : Below wr.heap.size wr w3 := by rw [← hw3]; exact (Below.refl _ wr).alloc (Nat.le_refl _) _
      have hz : w3.heap[wr.heap.size]? = some (enO x.1.1 x.1.2.1 x.1.2.2.1 (rwS x.1)) := by rw [← hw3]; exact heap_alloc_last wr _
      have hB3 := hbr.trans (b3.mono hbr.size)
      have HCE : Hid (∀ d os, Calls Tryz.prog 98 #[tbV self wd own (.slice (some ⟨bk, o, none⟩) ln uc), enV x.1] (Go.Sort.grow (redrawn w3 d) os) fun e w' => e = .returned (.bool (enB self wd (toE x))) ∧ Below (Go.Sort.grow (redrawn w3 d) os).heap.size (Go.Sort.grow (redrawn w3 d) os) w') := hidIn fun d os => entryMay_any ((hxs.keep b3 (Nat.le_refl _)).keep (below_regrown w3 d os) (Nat.le_refl _)) self wd own _ _ _
      have hA3 := (hB3.block _ (block_lt HA.out)).trans HA.out
      have HNx : Hid (pz = (enB self wd (toE x) && ((match prevT (toT es) k with | none => true | some y => plB y (toE x)) && entsB self wd (some (toE x)) ((toT es).drop (k + 1))))) := hidIn (by rw [hpz, drop_getT hx]; rfl)
      have HPr := hidIn (prevT_succ (toT_get hx))
      obtain ⟨qx, hqx⟩ : ∃ qx, enB self wd (toE x) = qx := ⟨_, rfl⟩
      rw [hqx] at HCE HNx
      obtain ⟨q3, hq3⟩ : ∃ q3, wr.heap.size = q3 := ⟨_, rfl⟩
      rw [hq3] at hz
      have y0 := cell_of_row _ _ 0 _ _ _ hz
      have y1 := cell_of_row _ _ 1 _ _ _ hz
      have y2 := cell_of_row _ _ 2 _ _ _ hz
      have y3 := cell_of_row _ _ 3 _ _ _ hz
      have d0 := cell_of_row _ _ 0 _ _ _ hA3
      have d1 := cell_of_row _ _ 1 _ _ _ hA3
      have d2 := cell_of_row _ _ 2 _ _ _ hA3
      have d3 := cell_of_row _ _ 3 _ _ _ hA3
      have HW3 := hidIn hw3
      have HB3 := hidIn hB3
      have HPv : Hid (∀ k' p, k = k' + 1 → es[k']? = some p → w3.cell? ⟨bk, o + k' * 4, none⟩ = some (.int .i64 p.1.1) ∧ w3.cell? ⟨bk, o + k' * 4 + 1, none⟩ = some (.int .i64 p.1.2.1) ∧ w3.cell? ⟨bk, o + k' * 4 + 2, none⟩ = some (.int .i64 p.1.2.2.1) ∧ w3.cell? ⟨bk, o + k' * 4 + 3, none⟩ = some (rwS p.1) ∧ prevT (toT es) k = some (toE p)) := hidIn fun k' p hk' hp => by
        obtain ⟨c0, c1, c2, c3, _, _⟩ := hcell k' p hp
        exact ⟨(b3.cell (p := ⟨bk, o + k' * 4, none⟩) hbk).trans c0, (b3.cell (p := ⟨bk, o + k' * 4 + 1, none⟩) hbk).trans c1, (b3.cell (p := ⟨bk, o + k' * 4 + 2, none⟩) hbk).trans c2, (b3.cell (p := ⟨bk, o + k' * 4 + 3, none⟩) hbk).trans c3, by rw [hk']; exact prevT_succ (toT_get hp)⟩
      obtain ⟨⟨x0, x1, x2, x3, x4, x5⟩, xn⟩ := x
      simp only at e0 e1 e2 e3 HW3 y0 y1 y2 y3 HCE
      simp at y0 y1 y2 y3 d0 d1 d2 d3
      have z0 := cell_regrown y0
      have z1 := cell_regrown y1
      have z2 := cell_regrown y2
      have z3 := cell_regrown y3
      have a0 := cell_regrown d0
      have a1 := cell_regrown d1
      have a2 := cell_regrown d2
      have a3 := cell_regrown d3
      clear hcell hcl hx hxs b3 hB3 hz hA3 hpz hbk hw3 hqx hbr y0 y1 y2 y3 d0 d1 d2 d3
      go_upto_region 6 with fail
      rw [HW3.out]
      clear HW3 hq3 e0 e1 e2 e3
      cases qx
      · have HE : Hid (r = false) := hidIn (by rw [HRE.out, HNx.out]; rfl)
        refine wp_region_quiet_below (by kernel_rfl) (by kernel_rfl) ?_
        repeat (go_big_quiet_step (first | (go_at_call 98; exact Calls.regrown_of (HCE.out _ _))))
        refine wpQuiet_nil ?_
        intro _ hw'
        obtain ⟨⟨dq, osq⟩, hw''⟩ := hw'
        subst hw''
        have HRy := hidIn (HB3.out.trans ((below_regrown w3 dq osq).mono HB3.out.size))
        generalize Go.Sort.grow (redrawn w3 dq) osq = wy at HRy ⊢
        clear z0 z1 z2 z3 a0 a1 a2 a3 HCE
        have HBy := hidIn (HB.out.trans (HRy.out.mono HB.out.size))
        go_wp2_with fail
        go_ret
        exact ⟨by rw [HE.out]; rfl, HBy.out⟩
      by_cases hk0 : k = 0
      · have hkd : decide (0 < (k : Int)) = false := by simp; omega
        have hkd' : decide (0 < k) = false := by simp; omega
        have HF : Hid (pz = entsB self wd (some (toE ((x0, x1, x2, x3, x4, x5), xn))) ((toT es).drop (k + 1))) := hidIn (by rw [HNx.out, show prevT (toT es) k = none by rw [hk0]; rfl]; rfl)
        clear hk0
        refine wp_region_quiet_below (by kernel_rfl) (by kernel_rfl) ?_
        repeat (go_big_quiet_step (first | (go_at_call 98; exact Calls.regrown_of (HCE.out _ _))))
        refine wpQuiet_nil ?_
        intro _ hw'
        obtain ⟨⟨dq, osq⟩, hw''⟩ := hw'
        subst hw''
        have HRy := hidIn (HB3.out.trans ((below_regrown w3 dq osq).mono HB3.out.size))
        generalize Go.Sort.grow (redrawn w3 dq) osq = wy at HRy ⊢
        clear z0 z1 z2 z3 a0 a1 a2 a3 HCE
        go_wp2_with fail
        go_roundw
        case rel => exact ⟨k + 1, by omega, by go_num, hidIn ⟨HRy.out, by rw [HPr.out]; exact HF.out⟩⟩
        case measure => simp [intOf]; omega
      · obtain ⟨k', hk'⟩ : ∃ k', k = k' + 1 := ⟨k - 1, by omega⟩
        have hkd : decide (0 < (k : Int)) = true := by simp; omega
        have hkd' : decide (0 < k) = true := by simp; omega
        obtain ⟨p, hp⟩ : ∃ p, es[k']? = some p := ⟨es[k']'(by have := Hln.out; omega), List.getElem?_eq_getElem _⟩
        obtain ⟨p0, p1, p2, p3, hpv⟩ := HPv.out k' p hk' hp
        obtain ⟨⟨v0, v1, v2, v3, v4, v5⟩, vn⟩ := p
        simp only at p0 p1 p2 p3 hpv
        have g0 := cell_regrown p0
        have g1 := cell_regrown p1
        have g2 := cell_regrown p2
        have g3 := cell_regrown p3
        have hwr : IntKind.i64.wrap ((k : Int) - 1) = (k' : Int) := by rw [IntKind.wrap_i64]; omega
        have hk'n : (k' : Int) < (ln : Int) := by omega
        obtain ⟨cr, hcr⟩ : ∃ cr, cmR (v0, v1, v2, v3, v4, v5) (x0, x1, x2, x3, x4, x5) = cr := ⟨_, rfl⟩
        have hpl := cmR_plB (v0, v1, v2, v3, v4, v5) (x0, x1, x2, x3, x4, x5) vn xn
        rw [hcr] at hpl
        have HCC : Hid (∀ d os, Calls Tryz.prog 91 #[enV (v0, v1, v2, v3, v4, v5), enV (x0, x1, x2, x3, x4, x5)] (Go.Sort.grow (redrawn w3 d) os) fun e w' => e = .returned (.int .i64 cr) ∧ Below (Go.Sort.grow (redrawn w3 d) os).heap.size (Go.Sort.grow (redrawn w3 d) os) w') := hidIn fun d os => (rcomp_any (v0, v1, v2, v3, v4, v5) (x0, x1, x2, x3, x4, x5) _).mono fun e w' ⟨h1, q, os', h2⟩ => ⟨by rw [h1, hcr], by rw [h2]; exact Go.Lib.below_grow _ _ (Nat.le_refl _) q os'⟩
        obtain ⟨pb, hpb⟩ : ∃ pb, plB (toE (((v0, v1, v2, v3, v4, v5), vn) : En)) (toE ((x0, x1, x2, x3, x4, x5), xn)) = pb := ⟨_, rfl⟩
        rw [hpb] at hpl
        have HNx2 : Hid (pz = (pb && entsB self wd (some (toE ((x0, x1, x2, x3, x4, x5), xn))) ((toT es).drop (k + 1)))) := hidIn (by rw [HNx.out, hpv, ← hpb]; rfl)
        clear hk0 hp hpv p0 p1 p2 p3 hcr hpb hk'
        cases pb
        · have hcd : decide (0 ≤ cr) = true := by rw [hpl]; rfl
          have HE : Hid (r = false) := hidIn (by rw [HRE.out, HNx2.out]; rfl)
          clear hpl
          refine wp_region_quiet_below (by kernel_rfl) (by kernel_rfl) ?_
          repeat (go_big_quiet_step (first | (go_at_call 98; exact Calls.regrown_of (HCE.out _ _)) | (go_at_call 91; exact Calls.regrown_of (HCC.out _ _))))
          refine wpQuiet_nil ?_
          intro _ hw'
          obtain ⟨⟨dq, osq⟩, hw''⟩ := hw'
          subst hw''
          have HRy := hidIn (HB3.out.trans ((below_regrown w3 dq osq).mono HB3.out.size))
          generalize Go.Sort.grow (redrawn w3 dq) osq = wy at HRy ⊢
          clear z0 z1 z2 z3 a0 a1 a2 a3 HCE
          clear g0 g1 g2 g3 HCC
          have HBy := hidIn (HB.out.trans (HRy.out.mono HB.out.size))
          go_wp2_with fail
          go_ret
          exact ⟨by rw [HE.out]; rfl, HBy.out⟩
        · have hcd : decide (0 ≤ cr) = false := by rw [hpl]; rfl
          have HF : Hid (pz = entsB self wd (some (toE ((x0, x1, x2, x3, x4, x5), xn))) ((toT es).drop (k + 1))) := hidIn (by rw [HNx2.out]; rfl)
          clear hpl
          refine wp_region_quiet_below (by kernel_rfl) (by kernel_rfl) ?_
          repeat (go_big_quiet_step (first | (go_at_call 98; exact Calls.regrown_of (HCE.out _ _)) | (go_at_call 91; exact Calls.regrown_of (HCC.out _ _))))
          refine wpQuiet_nil ?_
          intro _ hw'
          obtain ⟨⟨dq, osq⟩, hw''⟩ := hw'
          subst hw''
          have HRy := hidIn (HB3.out.trans ((below_regrown w3 dq osq).mono HB3.out.size))
          generalize Go.Sort.grow (redrawn w3 dq) osq = wy at HRy ⊢
          clear z0 z1 z2 z3 a0 a1 a2 a3 HCE
          clear g0 g1 g2 g3 HCC
          go_wp2_with fail
          go_roundw
          case rel => exact ⟨k + 1, by omega, by go_num, hidIn ⟨HRy.out, by rw [HPr.out]; exact HF.out⟩⟩
          case measure => simp [intOf]; omega
    · have hki : ¬ ((k : Int) < (ln : Int)) := by omega
      have HF : Hid (r = ((toT es).filter (atB (opS own wd) (opB own wd))).isEmpty) := hidIn (by
        rw [HRE.out, hpz, List.drop_eq_nil_of_le (by rw [List.length_map]; have := Hln.out; omega)]
        rfl)
      have HBr := hidIn hbr
      have hA2 := (hbr.block _ (block_lt HA.out)).trans HA.out
      have d0 := cell_of_row _ _ 0 _ _ _ hA2
      have d1 := cell_of_row _ _ 1 _ _ _ hA2
      have d2 := cell_of_row _ _ 2 _ _ _ hA2
      have d3 := cell_of_row _ _ 3 _ _ _ hA2
      simp at d0 d1 d2 d3
      have hq2 := block_lt hA2
      obtain ⟨S, hS⟩ : ∃ S, opS own wd = S := ⟨_, rfl⟩
      obtain ⟨B, hB⟩ : ∃ B, opB own wd = B := ⟨_, rfl⟩
      rw [hS, hB] at HF
      have HPl : Hid (Calls Tryz.prog 43 #[.int .i64 own, .int .i64 wd] wr fun e w' => (∃ c, e = .returned (.tuple #[.int .i64 S, .int .i64 B, .int .i64 c])) ∧ Below wr.heap.size wr w') := hidIn (by
        have hT := Ht.out.keep hbr
        by_cases h0 : own = 0
        · refine (place_no own wd (.inr (.inl (by omega))) wr hT).mono fun e w' ⟨h1, h2⟩ => ⟨⟨2, ?_⟩, by rw [h2]; exact Below.refl _ _⟩
          rw [h1, ← hS, ← hB, h0]
          rfl
        · obtain ⟨kk, rfl⟩ : ∃ kk : Nat, own = (kk : Int) + 1 := ⟨(own - 1).toNat, by have := Ho.out; omega⟩
          refine (place_yes kk wd (by have := Ho.out; omega) HWd.out wr hT).mono fun e w' ⟨h1, h2⟩ => ⟨⟨0, ?_⟩, h2⟩
          rw [h1, ← hS, ← hB, opS_pos.1, opS_pos.2])
      clear hbr hpz HRE hA2 hS hB
      go_wp2_with fail
      refine HPl.out.mono ?_
      rintro e wy ⟨⟨c, rfl⟩, hby⟩
      have HBy := hidIn (HBr.out.trans (hby.mono HBr.out.size))
      have HCl : Hid (∀ wq, Below wy.heap.size wy wq → wq.cell? ⟨q, 0, none⟩ = some (.int .i64 self) ∧ wq.cell? ⟨q, 1, none⟩ = some (.int .i64 wd) ∧ wq.cell? ⟨q, 2, none⟩ = some (.int .i64 own) ∧ wq.cell? ⟨q, 3, none⟩ = some (.slice ua ln uc)) := hidIn fun wq h => by
        have hq3 := Nat.lt_of_lt_of_le hq2 hby.size
        exact ⟨(h.cell (p := ⟨q, 0, none⟩) hq3).trans ((hby.cell (p := ⟨q, 0, none⟩) hq2).trans d0), (h.cell (p := ⟨q, 1, none⟩) hq3).trans ((hby.cell (p := ⟨q, 1, none⟩) hq2).trans d1), (h.cell (p := ⟨q, 2, none⟩) hq3).trans ((hby.cell (p := ⟨q, 2, none⟩) hq2).trans d2), (h.cell (p := ⟨q, 3, none⟩) hq3).trans ((hby.cell (p := ⟨q, 3, none⟩) hq2).trans d3)⟩
      clear hby HPl d0 d1 d2 d3 hq2
      go_upto_region 10 with fail
      refine wp_region_held_drew (S := fun wx => Below wy.heap.size wy wx) (by kernel_rfl) ((Below.refl _ wy).drew) (fun hHeld => ?_)
      have hd0 : Below wy.heap.size wy wy.drew := hHeld
      obtain ⟨wn, hwn⟩ : ∃ wn, wy.drew = wn := ⟨_, rfl⟩
      rw [hwn] at hd0 ⊢
      clear hwn hHeld
      refine wpAnyH_take (i := 0) (v := tbV self wd own (.slice ua ln uc)) rfl (by kernel_rfl) (by kernel_rfl) (by kernel_rfl) (fun _ _ _ h => h) (Or.inl ⟨by kernel_rfl, fun wq hSw => by
        obtain ⟨u0, u1, u2, u3⟩ := HCl.out wq hSw
        go_simp⟩) (by assumption) ?_
      refine wpAnyH_take (i := 1) (v := .int .i64 S) rfl (by kernel_rfl) (by kernel_rfl) (by kernel_rfl) (fun _ _ _ h => h) (Or.inl ⟨by kernel_rfl, fun _ _ => by kernel_rfl⟩) (by assumption) ?_
      refine wpAnyH_take (i := 2) (v := .int .i64 B) rfl (by kernel_rfl) (by kernel_rfl) (by kernel_rfl) (fun _ _ _ h => h) (Or.inl ⟨by kernel_rfl, fun _ _ => by kernel_rfl⟩) (by assumption) ?_
      refine wpAnyH_ready (rs := [3]) (by kernel_rfl) (by simp) ?_
      refine AllReadyH.cons (i := 3) rfl ?_ AllReadyH.nil
      go_simp
      intro K hK
      refine (at_any S B wn).mono ?_
      rintro e w4 ⟨rfl, hw4⟩
      have hb4 : Below wy.heap.size wy w4 := by rw [hw4]; exact (hd0.alloc hd0.size _).alloc (by rw [World.size_alloc]; exact Nat.le_succ_of_le hd0.size) _
      have k0 : w4.cell? ⟨wn.heap.size, 0, none⟩ = some (.int .i64 S) := by
        have h1 : w4.heap[wn.heap.size]? = some (.cells #[.int .i64 S] 3) := by rw [hw4, Below.heap_alloc _ _ _ (by simp)]; exact heap_alloc_last wn _
        have := cell_of_row _ _ 0 _ _ _ h1
        simpa using this
      have k1 : w4.cell? ⟨wn.heap.size + 1, 0, none⟩ = some (.int .i64 B) := by
        have h1 : w4.heap[wn.heap.size + 1]? = some (.cells #[.int .i64 B] 3) := by
          rw [hw4]
          have := heap_alloc_last (wn.alloc (.cells #[.int .i64 S] 3)) (.cells #[.int .i64 B] 3)
          rwa [World.size_alloc] at this
        have := cell_of_row _ _ 0 _ _ _ h1
        simpa using this
      refine hK.out _ _ hb4 (fun _ => ?_)
      clear hK K hw4
      obtain ⟨qa, hqa⟩ : ∃ qa, wn.heap.size = qa := ⟨_, rfl⟩
      rw [hqa] at k0 k1 ⊢
      clear hqa
      have hE4 : EnAt w4 (.slice ua ln uc) es := HE1.out.keep (HBy.out.trans (hb4.mono HBy.out.size)) (Nat.le_refl _)
      have HTh := hidIn (thoseAt_any hE4 (by have := Hln.out; omega) k0 k1 self wd own)
      have HB4 := hidIn hb4
      clear hE4 k0 k1 hd0
      refine wpAnyH_ready (rs := [4]) (by kernel_rfl) (by simp) ?_
      refine AllReadyH.cons (i := 4) rfl ?_ AllReadyH.nil
      go_simp
      intro K hK
      refine HTh.out.mono ?_
      rintro e w5 ⟨⟨fa, fc, rfl, _⟩, hb5⟩
      have hb5' := hb4.trans (hb5.mono hb4.size)
      have HB5 := hidIn (HBy.out.trans (hb5'.mono HBy.out.size))
      refine hK.out _ _ hb5' (fun _ => ?_)
      clear hK K HTh hb5 hb4
      obtain ⟨fl', hfl⟩ : ∃ fl', (es.filter fun x => atB S B (toE x)).length = fl' := ⟨_, rfl⟩
      have HG : Hid (r = decide (fl' = 0)) := hidIn (by rw [HF.out, filter_toT, hfl])
      rw [hfl]
      clear hfl
      by_cases h0 : fl' = 0
      · have hz : ((fl' : Int) == 0) = true := by rw [h0]; rfl
        have HE : Hid (r = true) := hidIn (by rw [HG.out, decide_eq_true h0])
        clear h0
        refine wpAnyH_take (i := 5) (v := .int .i64 fl') rfl (by kernel_rfl) (by kernel_rfl) (by kernel_rfl) (fun _ _ _ h => h) (Or.inl ⟨by kernel_rfl, fun _ _ => by kernel_rfl⟩) (by assumption) ?_
        refine wpAnyH_take (i := 6) (v := .bool true) rfl (by kernel_rfl) (by kernel_rfl) (by kernel_rfl) (fun _ _ _ h => h) (Or.inl ⟨by kernel_rfl, fun _ _ => by go_simp⟩) (by assumption) ?_
        refine wpAnyH_take (i := 7) (v := .bool true) rfl (by kernel_rfl) (by kernel_rfl) (by kernel_rfl) (fun _ _ _ h => h) (Or.inl ⟨by kernel_rfl, fun _ _ => by kernel_rfl⟩) (by assumption) ?_
        refine wpAnyH_done (by kernel_rfl) ?_ _
        have HBe := hidIn (HB.out.trans (HB5.out.mono HB.out.size))
        go_wp2_with fail
        go_ret
        exact ⟨by rw [HE.out]; rfl, HBe.out⟩
      · have hz : ((fl' : Int) == 0) = false := by simp; omega
        have HE : Hid (r = false) := hidIn (by rw [HG.out, decide_eq_false h0])
        clear h0
        refine wpAnyH_take (i := 5) (v := .int .i64 fl') rfl (by kernel_rfl) (by kernel_rfl) (by kernel_rfl) (fun _ _ _ h => h) (Or.inl ⟨by kernel_rfl, fun _ _ => by kernel_rfl⟩) (by assumption) ?_
        refine wpAnyH_take (i := 6) (v := .bool false) rfl (by kernel_rfl) (by kernel_rfl) (by kernel_rfl) (fun _ _ _ h => h) (Or.inl ⟨by kernel_rfl, fun _ _ => by go_simp⟩) (by assumption) ?_
        refine wpAnyH_take (i := 7) (v := .bool false) rfl (by kernel_rfl) (by kernel_rfl) (by kernel_rfl) (fun _ _ _ h => h) (Or.inl ⟨by kernel_rfl, fun _ _ => by kernel_rfl⟩) (by assumption) ?_
        refine wpAnyH_done (by kernel_rfl) ?_ _
        have HBe := hidIn (HB.out.trans (HB5.out.mono HB.out.size))
        go_wp2_with fail
        go_ret
        exact ⟨by rw [HE.out]; rfl, HBe.out⟩
end Go.Proofs.YtbggingacoheiaaGreatDoor
namespace Go.Proofs.YtbggingacoheiaaGreatDoor
open Go.RowKit

theorem cmpN_neg (x y : Nat) : decide (cmpN x y < 0) = decide (x < y) := by
  unfold cmpN
  by_cases h : x < y
  · simp [h]
  · by_cases h2 : y < x <;> simp [h, h2]
theorem take_ne {l : List Int} {k : Nat} (h : 0 < k) (hl : 0 < l.length) : l.take k ≠ [] := fun e => by
  have := congrArg List.length e
  rw [List.length_take, List.length_nil] at this
  omega
theorem best_one (r : Int → Nat) {l : List Int} {x : Int} (h : l[0]? = some x) : best r (l.take 1) = x := by
  cases l with
  | nil => simp at h
  | cons y l => simp at h; subst h; rfl
theorem best_next (r : Int → Nat) {l : List Int} {k : Nat} {x : Int} (hk : 0 < k) (h : l[k]? = some x) : best r (l.take (k + 1)) = if r (best r (l.take k)) < r x then x else best r (l.take k) := by
  rw [take_snoc h, best_snoc r (take_ne hk (by have := (List.getElem?_eq_some_iff.1 h).1; omega))]
set_option maxRecDepth 100000 in
set_option maxHeartbeats 1000000 in
theorem minF_any {e : Nat} (he : e < 4294967296) {l : List Int} {v : Value} {B : Nat} {w : World} (h : SlAt ic 1 w v l) (h0 : 0 < l.length) (hc : w.cell? ⟨B, 0, none⟩ = some (rkF e)) :
    Calls Tryz.prog 167 #[v, gfF B] w fun r w' => r = .returned (.int .i64 (best (mix e) l)) ∧ ∃ q, w' = w.drewN q := by
  obtain ⟨a, cap, rfl, hl, _, hat⟩ := h.ints
  obtain ⟨bk, o, rfl, hbk, hcell⟩ := hat h0
  have HR := hidIn (fun q x y => less_any he (w := w.drewN q) (B := B) hc x y)
  generalize mix e = r at *
  obtain ⟨ln, hln⟩ : ∃ ln, l.length = ln := ⟨_, rfl⟩
  have Hln := hidIn hln
  rw [hln] at hl h0 ⊢
  obtain ⟨x0, hx0⟩ : ∃ x, l[0]? = some x := ⟨l[0]'(by omega), List.getElem?_eq_getElem _⟩
  have c00 := hcell 0 x0 hx0
  rw [Nat.add_zero] at c00
  have H0 := hidIn (best_one r hx0)
  have HCl := hidIn hcell
  have hn1 : ¬ (ln : Int) < 1 := by omega
  obtain ⟨b, hb⟩ : ∃ b, best r l = b := ⟨_, rfl⟩
  have HB := hidIn hb
  rw [hb]
  clear h hat hln hx0 hcell hb hc
  go_enter Tryz.func167, Tryz.ntmps167
  go_wp2_with fail
  go_loopw [5, 6] (fun m i wr => ∃ k q : Nat, 0 < k ∧ k ≤ ln ∧ i = .int .i64 k ∧ m = .int .i64 (best r (l.take k)) ∧ wr = w.drewN q) (fun _ i _ => ln - (intOf i).toNat)
  case atStart => exact ⟨1, 0, by omega, by omega, rfl, by rw [H0.out], rfl⟩
  case round =>
    clear c00
    obtain ⟨k, q, hk0, hk, rfl, rfl, rfl⟩ := hrel
    by_cases hlt : k < ln
    · obtain ⟨x, hx⟩ : ∃ x, l[k]? = some x := ⟨l[k]'(by have := Hln.out; omega), List.getElem?_eq_getElem _⟩
      have c0 := HCl.out k x hx
      have hki : (k : Int) < (ln : Int) := by omega
      have hbn := best_next r hk0 hx
      obtain ⟨m, hm⟩ : ∃ m, best r (l.take k) = m := ⟨_, rfl⟩
      rw [hm] at hbn ⊢
      have hneg := cmpN_neg (r m) (r x)
      have hL := HR.out q x m
      generalize cmpN (r m) (r x) = cr at hneg hL
      by_cases hlr : r m < r x
      · have HE : Hid (best r (l.take (k + 1)) = x) := hidIn (by rw [hbn, if_pos hlr])
        have hcr : cr < 0 := by have : decide (cr < 0) = true := by rw [hneg]; simpa using hlr
                                simpa using this
        have HL := hidIn hL
        clear hbn hm hneg hL hx hlr
        go_wp2_with fail
        refine HL.out.mono ?_
        rintro e1 w1 ⟨rfl, q1, hw1⟩
        rw [hw1]
        clear hw1 w1 HL
        go_wp2_with fail
        go_roundw
        case rel => exact ⟨k + 1, q + q1, by omega, by omega, by go_num, by rw [HE.out], by first | rfl | rw [World.drewN_drewN]⟩
        case measure => simp [intOf]; omega
      · have HE : Hid (best r (l.take (k + 1)) = m) := hidIn (by rw [hbn, if_neg hlr])
        have hcr : ¬ cr < 0 := by have : decide (cr < 0) = false := by rw [hneg]; simpa using hlr
                                  simpa using this
        have HL := hidIn hL
        clear hbn hm hneg hL hx hlr
        go_wp2_with fail
        refine HL.out.mono ?_
        rintro e1 w1 ⟨rfl, q1, hw1⟩
        rw [hw1]
        clear hw1 w1 HL
        go_wp2_with fail
        go_roundw
        case rel => exact ⟨k + 1, q + q1, by omega, by omega, by go_num, by rw [HE.out], by first | rfl | rw [World.drewN_drewN]⟩
        case measure => simp [intOf]; omega
    · have hki : ¬ ((k : Int) < (ln : Int)) := by omega
      have HE : best r (l.take k) = b := by rw [List.take_of_length_le (by have := Hln.out; omega)]; exact HB.out
      rw [HE]
      clear HE
      go_wp2_with fail
      go_ret
      exact ⟨rfl, q, rfl⟩
set_option maxRecDepth 100000 in
theorem pfirst_any {e : Nat} (he : e < 4294967296) {l : List Int} {v : Value} {w : World} (h : SlAt ic 1 w v l) (h0 : 0 < l.length) :
    Calls Tryz.prog 129 #[.int .u32 e, v] w fun r w' => r = .returned (.int .i64 (best (mix e) l)) ∧ Below w.heap.size w w' := by
  have HG := hidIn (great_any e w)
  have hb : Below w.heap.size w (w.alloc (.cells #[rkF e] 207)) := (Below.refl _ w).alloc (Nat.le_refl _) _
  have hcell : (w.alloc (.cells #[rkF e] 207)).cell? ⟨w.heap.size, 0, none⟩ = some (rkF e) := cell_of_row _ _ 0 _ _ _ (heap_alloc_last w _)
  have HM := hidIn (minF_any he (h.keep hb (Nat.le_refl _)) h0 hcell)
  have HB := hidIn hb
  obtain ⟨a, cap, rfl, _⟩ := h
  generalize best (mix e) l = b at *
  generalize l.length = ln at *
  clear hb hcell
  go_enter Tryz.func129, Tryz.ntmps129
  go_wp2_with fail
  refine HG.out.mono ?_
  rintro x w1 ⟨rfl, hw1⟩
  rw [hw1]
  clear hw1 w1 HG
  generalize World.alloc _ _ = W at HM HB ⊢
  go_wp2_with fail
  refine HM.out.mono ?_
  rintro x w1 ⟨rfl, q, hw1⟩
  rw [hw1]
  clear hw1 w1 HM
  go_wp2_with fail
  go_ret
  exact ⟨rfl, below_drewN HB.out _⟩
/-- What Choose answers. -/
def chN (e : Nat) (l : List Int) : Int := if nbOk l = true ∧ l ≠ [] then best (mix e) l else 0
def chE (l : List Int) : Int := if nbOk l = true then (if l = [] then 6 else 0) else 2
theorem ch_no {l : List Int} (e : Nat) (h : nbOk l = false) : chN e l = 0 ∧ chE l = 2 := by simp [chN, chE, h]
theorem ch_nil {l : List Int} (e : Nat) (h : nbOk l = true) (h0 : l.length = 0) : chN e l = 0 ∧ chE l = 6 := by
  have := List.length_eq_zero_iff.1 h0
  subst this
  simp [chN, chE, h]
theorem ch_yes {l : List Int} (e : Nat) (h : nbOk l = true) (h0 : 0 < l.length) : chN e l = best (mix e) l ∧ chE l = 0 := by
  have : l ≠ [] := fun e => by rw [e] at h0; simp at h0
  simp [chN, chE, h, this]
set_option maxRecDepth 100000 in
theorem choose_any {e : Nat} (he : e < 4294967296) {l : List Int} {v : Value} {w : World} (h : SlAt ic 1 w v l) :
    Calls Tryz.prog 101 #[.int .u32 e, v] w fun r w' => r = .returned (.tuple #[.int .i64 (chN e l), .int .i64 (chE l)]) ∧ Below w.heap.size w w' := by
  have HN := hidIn (areNb_any h)
  have HF := hidIn (fun h0 => pfirst_any he h h0)
  obtain ⟨a, cap, rfl, _⟩ := h
  obtain ⟨bq, hbq⟩ : ∃ bq, nbOk l = bq := ⟨_, rfl⟩
  rw [hbq] at HN
  cases bq
  · have HE := hidIn (ch_no e hbq)
    generalize l.length = ln at *
    generalize chN e l = c1 at *
    generalize chE l = c2 at *
    clear hbq HF
    go_enter Tryz.func101, Tryz.ntmps101
    go_wp2_with fail
    refine HN.out.mono ?_
    rintro x w1 ⟨rfl, hw1⟩
    rw [hw1]
    clear hw1 w1 HN
    go_wp2_with fail
    go_ret2
    exact ⟨by rw [HE.out.1, HE.out.2]; rfl, Below.refl _ _⟩
  · by_cases h0 : l.length = 0
    · have HE := hidIn (ch_nil e hbq h0)
      have hz : ((l.length : Int) == 0) = true := by rw [h0]; rfl
      generalize l.length = ln at *
      generalize chN e l = c1 at *
      generalize chE l = c2 at *
      clear hbq HF h0
      go_enter Tryz.func101, Tryz.ntmps101
      go_wp2_with fail
      refine HN.out.mono ?_
      rintro x w1 ⟨rfl, hw1⟩
      rw [hw1]
      clear hw1 w1 HN
      go_wp2_with fail
      go_ret2
      exact ⟨by rw [HE.out.1, HE.out.2]; rfl, Below.refl _ _⟩
    · have HE := hidIn (ch_yes e hbq (by omega))
      have hz : ((l.length : Int) == 0) = false := by simp; intro h; exact h0 (by rw [h]; rfl)
      have HF' := hidIn (HF.out (by omega))
      clear hbq HF h0
      generalize l.length = ln at *
      generalize chN e l = c1 at *
      generalize chE l = c2 at *
      generalize best (mix e) l = b at *
      go_enter Tryz.func101, Tryz.ntmps101
      go_wp2_with fail
      refine HN.out.mono ?_
      rintro x w1 ⟨rfl, hw1⟩
      rw [hw1]
      clear hw1 w1 HN
      go_wp2_with fail
      refine HF'.out.mono ?_
      rintro x w1 ⟨rfl, hb1⟩
      have HB := hidIn hb1
      clear hb1 HF'
      go_wp2_with fail
      go_ret2
      exact ⟨by rw [HE.out.1, HE.out.2]; rfl, HB.out⟩
end Go.Proofs.YtbggingacoheiaaGreatDoor
namespace Go.Proofs.YtbggingacoheiaaGreatDoor
open Go.RowKit

def wB (W : Int) : Bool := decide (W = 8 ∨ W = 16 ∨ W = 32 ∨ W = 64 ∨ W = 128 ∨ W = 256)
/-- May a table be? -/
def tbB (sf width own : Int) (T : List Et) : Bool := (decide (1 ≤ sf) && decide (sf ≤ 24)) && (wB width && (decide (0 ≤ own) && (decide (own ≤ 1024) && esB sf width own T)))
theorem wB_iff {W : Int} : wB W = true ↔ IsW W := by unfold wB IsW; rw [decide_eq_true_eq]
theorem tbB_iff {sf width own : Int} {T : List Et} : tbB sf width own T = true ↔ TbOk sf width own T := by
  unfold tbB
  simp only [Bool.and_eq_true, decide_eq_true_eq, wB_iff]
  constructor
  · rintro ⟨h1, h2, h3, h4, h5⟩; exact ⟨h1, h2, ⟨h3, h4⟩, h5⟩
  · rintro ⟨h1, h2, ⟨h3, h4⟩, h5⟩; exact ⟨h1, h2, h3, h4, h5⟩
def ckT (b : Bool) : Int := if b = true then 0 else 2
set_option maxRecDepth 100000 in
set_option maxHeartbeats 4000000 in
theorem tcheck_any {es : List En} {u : Value} {w : World} (h : EnAt w u es) (ht : Wid w) (self width own : Int) :
    Calls Tryz.prog 16 #[tbV self width own u] w fun e w' => e = .returned (.int .i64 (ckT (tbB self width own (toT es)))) ∧ Below w.heap.size w w' := by
  obtain ⟨ua, uc, rfl, hul, _, _⟩ := h.op
  obtain ⟨W1, hW1⟩ : ∃ W1, w.alloc (tbO self width own (.slice ua es.length uc)) = W1 := ⟨_, rfl⟩
  have hb : Below w.heap.size w W1 := by rw [← hW1]; exact (Below.refl _ w).alloc (Nat.le_refl _) _
  have hA : W1.heap[w.heap.size]? = some (tbO self width own (.slice ua es.length uc)) := by rw [← hW1]; exact heap_alloc_last w _
  obtain ⟨q, hq⟩ : ∃ q, w.heap.size = q := ⟨_, rfl⟩
  rw [hq] at hA
  have HE1 := hidIn (h.keep hb (Nat.le_refl _))
  have Ht := hidIn (ht.keep hb)
  have HB := hidIn hb
  obtain ⟨T, hT⟩ : ∃ T, toT es = T := ⟨_, rfl⟩
  obtain ⟨ln, hln⟩ : ∃ ln, es.length = ln := ⟨_, rfl⟩
  rw [hln] at hul hA hW1 HE1 ⊢
  have d0 := cell_of_row _ _ 0 _ _ _ hA
  have d1 := cell_of_row _ _ 1 _ _ _ hA
  have d2 := cell_of_row _ _ 2 _ _ _ hA
  have d3 := cell_of_row _ _ 3 _ _ _ hA
  simp at d0 d1 d2 d3
  obtain ⟨r, hr⟩ : ∃ r, ckT (tbB self width own (toT es)) = r := ⟨_, rfl⟩
  have hr' : r = ckT ((decide (1 ≤ self) && decide (self ≤ 24)) && (wB width && (decide (0 ≤ own) && (decide (own ≤ 1024) && esB self width own T)))) := by rw [← hr, ← hT]; rfl
  rw [hr]
  have HR := hidIn hr'
  have HT := hidIn hT
  have HW := hidIn hW1
  clear hb hA hr hr' hT hW1 h ht hln
  obtain ⟨p0, hp0⟩ : ∃ p, (decide (1 ≤ self) && decide (self ≤ 24)) = p := ⟨_, rfl⟩
  have HS : Hid (Calls Tryz.prog 40 #[.int .i64 self] W1 fun e w' => e = .returned (.bool p0) ∧ w' = W1) := hidIn (by rw [← hp0]; exact tisR_any self W1)
  obtain ⟨p1, hp1⟩ : ∃ p, wB width = p := ⟨_, rfl⟩
  have HWi : Hid (Calls Tryz.prog 41 #[.int .i64 width] W1 fun e w' => e = .returned (.bool p1) ∧ w' = W1) := hidIn (by
    cases hp : p1 with
    | true => exact wide_yes width (wB_iff.1 (hp1.trans hp)) W1 Ht.out
    | false => exact wide_no width (fun hw => by rw [wB_iff.2 hw, hp] at hp1; cases hp1) W1 Ht.out)
  have HWd : Hid (p1 = true → IsW width) := hidIn fun h => wB_iff.1 (hp1.trans h)
  rw [hp0, hp1] at HR
  clear hp0 hp1
  go_enter Tryz.func16, Tryz.ntmps16
  go_upto_region 1 with fail
  rw [HW.out]
  clear HW hq
  go_wp2_with fail
  refine HS.out.mono ?_
  rintro e w1 ⟨rfl, hw1⟩
  rw [hw1]
  clear hw1 w1 HS
  cases p0
  · have HE : Hid (r = 2) := hidIn (by rw [HR.out]; rfl)
    go_wp2_with fail
    go_ret
    exact ⟨by rw [HE.out]; rfl, HB.out⟩
  go_wp2_with fail
  refine HWi.out.mono ?_
  rintro e w1 ⟨rfl, hw1⟩
  rw [hw1]
  clear hw1 w1 HWi
  cases p1
  · have HE : Hid (r = 2) := hidIn (by rw [HR.out]; rfl)
    go_wp2_with fail
    go_ret
    exact ⟨by rw [HE.out]; rfl, HB.out⟩
  obtain ⟨wd, rfl⟩ : ∃ wd : Nat, width = (wd : Int) := ⟨width.toNat, by have := HWd.out rfl; unfold IsW at this; omega⟩
  by_cases h2 : own < 0
  · have HE : Hid (r = 2) := hidIn (by rw [HR.out, decide_eq_false (show ¬ 0 ≤ own by omega)]; rfl)
    go_wp2_with fail
    go_ret
    exact ⟨by rw [HE.out]; rfl, HB.out⟩
  by_cases h3 : 1024 < own
  · have HE : Hid (r = 2) := hidIn (by rw [HR.out, decide_eq_false (show ¬ own ≤ 1024 by omega)]; simp [ckT])
    go_wp2_with fail
    go_ret
    exact ⟨by rw [HE.out]; rfl, HB.out⟩
  obtain ⟨p4, hp4⟩ : ∃ p, esB self wd own T = p := ⟨_, rfl⟩
  have HEn : Hid (Calls Tryz.prog 57 #[tbV self wd own (.slice ua ln uc)] W1 fun e w' => e = .returned (.bool p4) ∧ Below W1.heap.size W1 w') := hidIn (by rw [← hp4, ← HT.out]; exact entriesMay_any HE1.out Ht.out self own (HWd.out rfl) (by omega))
  have HE : Hid (r = ckT p4) := hidIn (by rw [HR.out, decide_eq_true (show 0 ≤ own by omega), decide_eq_true (show own ≤ 1024 by omega), hp4]; rfl)
  clear HR hp4 HWd
  go_wp2_with fail
  refine HEn.out.mono ?_
  rintro e w1 ⟨rfl, hb1⟩
  have HB1 := hidIn (HB.out.trans (hb1.mono HB.out.size))
  clear hb1 HEn
  cases p4
  · go_wp2_with fail
    go_ret
    exact ⟨by rw [HE.out]; rfl, HB1.out⟩
  · go_wp2_with fail
    go_ret
    exact ⟨by rw [HE.out]; rfl, HB1.out⟩
set_option maxRecDepth 100000 in
theorem taken_any {e : Nat} (he : e < 4294967296) {x : En} {w : World} (hx : SlAt ic 1 w (rwS x.1) x.2) :
    Calls Tryz.prog 66 #[enV x.1, .int .u32 e] w fun r w' => r = .returned (.int .i64 (chN e x.2)) ∧ Below w.heap.size w w' := by
  obtain ⟨⟨a0, a1, a2, a3, a4, a5⟩, an⟩ := x
  simp only at hx
  obtain ⟨W1, hW1⟩ : ∃ W1, w.alloc (enO a0 a1 a2 (.slice a3 a4 a5)) = W1 := ⟨_, rfl⟩
  have hb : Below w.heap.size w W1 := by rw [← hW1]; exact (Below.refl _ w).alloc (Nat.le_refl _) _
  have hA : W1.heap[w.heap.size]? = some (enO a0 a1 a2 (.slice a3 a4 a5)) := by rw [← hW1]; exact heap_alloc_last w _
  obtain ⟨q, hq⟩ : ∃ q, w.heap.size = q := ⟨_, rfl⟩
  rw [hq] at hA
  have HCh := hidIn (choose_any he (hx.keep hb (Nat.le_refl _)))
  have HB := hidIn hb
  have t3 := cell_of_row _ _ 3 _ _ _ hA
  simp at t3
  have HW := hidIn hW1
  show Calls _ _ _ w fun r w' => r = .returned (.int .i64 (chN e an)) ∧ _
  obtain ⟨c0, hc0⟩ : ∃ c, chN e an = c := ⟨_, rfl⟩
  obtain ⟨c1, hc1⟩ : ∃ c, chE an = c := ⟨_, rfl⟩
  rw [hc0, hc1] at HCh
  rw [hc0]
  clear hx hb hA hW1 hc0 hc1
  go_enter Tryz.func66, Tryz.ntmps66
  go_upto_region 1 with fail
  rw [HW.out]
  clear HW hq
  go_wp2_with fail
  refine HCh.out.mono ?_
  rintro r w2 ⟨rfl, hb2⟩
  have HB2 := hidIn (HB.out.trans (hb2.mono HB.out.size))
  clear hb2 HCh
  go_wp2_with fail
  go_ret
  exact ⟨rfl, HB2.out⟩
end Go.Proofs.YtbggingacoheiaaGreatDoor
namespace Go.Proofs.YtbggingacoheiaaGreatDoor
open Go.RowKit

abbrev entZ : Value := .agg #[.int .i64 0, .int .i64 0, .int .i64 0, .slice none 0 0]
theorem zeroEnt (w : World) : (zeroValue 34).run Tryz.prog w = .ok entZ w := by kernel_rfl
/-- The entry of a place. -/
def fdE (ok : Bool) (es : List En) (s b : Int) : Option En := if ok = true then es.find? (fun x => atB s b (toE x)) else none
def FdAns (w w' : World) (o : Option En) (e : Ending) : Prop := (o = none ∧ e = .returned (.tuple #[entZ, .bool false])) ∨
  ∃ x a c, o = some x ∧ e = .returned (.tuple #[.agg #[.int .i64 x.1.1, .int .i64 x.1.2.1, .int .i64 x.1.2.2.1, .slice a x.2.length c], .bool true]) ∧ w'.ownsRow w.heap.size 3 1 (.slice a x.2.length c) x.2.length (fl ic x.2)
theorem slAt_nil_ok {w : World} {a : Option Addr} {n c : Nat} {l : List Int} (h : SlAt ic 1 w (.slice a n c) l) (h0 : 0 < l.length) : NilOk (.slice a n c) := by
  obtain ⟨a', c', he, _, _, h1⟩ := h
  obtain ⟨bk, o, h2, _⟩ := h1 h0
  simp only [Value.slice.injEq] at he
  exact .inl ⟨_, _, _, by rw [he.1, h2]⟩
set_option maxRecDepth 100000 in
set_option maxHeartbeats 8000000 in
theorem tfind_any {es : List En} {u : Value} {w : World} (h : EnAt w u es) (ht : Wid w) (self width own s b : Int) :
    Calls Tryz.prog 19 #[tbV self width own u, .int .i64 s, .int .i64 b] w fun e w' => FdAns w w' (fdE (tbB self width own (toT es)) es s b) e ∧ Below w.heap.size w w' := by
  obtain ⟨ua, uc, rfl, hul, _, _⟩ := h.op
  obtain ⟨ln, hln⟩ : ∃ ln, es.length = ln := ⟨_, rfl⟩
  rw [hln] at h hul ⊢
  obtain ⟨W1, hW1⟩ : ∃ W1, (w.alloc (tbO self width own (.slice ua ln uc))).alloc (enO 0 0 0 (.slice none 0 0)) = W1 := ⟨_, rfl⟩
  have hb : Below w.heap.size w W1 := by rw [← hW1]; exact ((Below.refl _ w).alloc (Nat.le_refl _) _).alloc (by simp) _
  have hA : W1.heap[w.heap.size]? = some (tbO self width own (.slice ua ln uc)) := by rw [← hW1, Below.heap_alloc _ _ _ (by simp)]; exact heap_alloc_last w _
  have hZ : W1.heap[w.heap.size + 1]? = some (enO 0 0 0 (.slice none 0 0)) := by
    rw [← hW1]
    have := heap_alloc_last (w.alloc (tbO self width own (.slice ua ln uc))) (enO 0 0 0 (.slice none 0 0))
    rwa [World.size_alloc] at this
  obtain ⟨q, hq⟩ : ∃ q, w.heap.size = q := ⟨_, rfl⟩
  rw [hq] at hA hZ
  have HE1 := hidIn (h.keep hb (Nat.le_refl _))
  have HCk := hidIn (tcheck_any (h.keep hb (Nat.le_refl _)) (ht.keep hb) self width own)
  have HB := hidIn hb
  have Hq := hidIn hq
  obtain ⟨ok, hok⟩ : ∃ ok, tbB self width own (toT es) = ok := ⟨_, rfl⟩
  rw [hok] at HCk ⊢
  have Hln := hidIn hln
  have Hok : Hid (ok = true → TbOk self width own (toT es)) := hidIn fun h => tbB_iff.1 (hok.trans h)
  have d0 := cell_of_row _ _ 0 _ _ _ hA
  have d1 := cell_of_row _ _ 1 _ _ _ hA
  have d2 := cell_of_row _ _ 2 _ _ _ hA
  have d3 := cell_of_row _ _ 3 _ _ _ hA
  simp at d0 d1 d2 d3
  have HA := hidIn hA
  have HZ := hidIn hZ
  have HW := hidIn hW1
  have zt := zeroEnt
  clear hb hA hZ hok hW1 h ht hln
  go_enter Tryz.func19, Tryz.ntmps19
  go_upto_region 1 with fail
  rw [HW.out]
  clear HW hq
  go_wp2_with fail
  refine HCk.out.mono ?_
  rintro e w2 ⟨rfl, hb2⟩
  have HB2 := hidIn hb2
  have hZ2 := (hb2.block _ (block_lt HZ.out)).trans HZ.out
  have hA2 := (hb2.block _ (block_lt HA.out)).trans HA.out
  clear hb2 HCk d0 d1 d2 d3
  cases ok
  · have z0 := cell_of_row _ _ 0 _ _ _ hZ2
    have z1 := cell_of_row _ _ 1 _ _ _ hZ2
    have z2 := cell_of_row _ _ 2 _ _ _ hZ2
    have z3 := cell_of_row _ _ 3 _ _ _ hZ2
    simp at z0 z1 z2 z3
    have y0 := frozen_new hZ2 0
    have y1 := frozen_new hZ2 1
    have y2 := frozen_new hZ2 2
    have y3 := frozen_new hZ2 3
    have hE1 := set4 (.int .i64 0) (.int .i64 0) (.int .i64 0) (.slice none 0 0) hZ2
    have hc2 := HB.out.trans (HB2.out.mono HB.out.size)
    have hF := ((((Fr.refl (fun j => j = q + 1) w2).set (p := ⟨q + 1, 0, none⟩) rfl (.int .i64 0)).set (p := ⟨q + 1, 1, none⟩) rfl (.int .i64 0)).set (p := ⟨q + 1, 2, none⟩) rfl (.int .i64 0)).set (p := ⟨q + 1, 3, none⟩) rfl (.slice none 0 0)
    have HE := hidIn (And.intro hE1 (hc2.trans (hF.below hc2.size (fun j hj => by have := Hq.out; omega))))
    clear hE1 hc2 hF hA2 hZ2
    go_wp2_with fail
    obtain ⟨hE1, hE2⟩ := HE.out
    generalize ((((World.setCell _ _ _).setCell _ _).setCell _ _).setCell _ _) = W9 at hE1 hE2 ⊢
    have e0 := cell_of_row _ _ 0 _ _ _ hE1
    have e1 := cell_of_row _ _ 1 _ _ _ hE1
    have e2 := cell_of_row _ _ 2 _ _ _ hE1
    have e3 := cell_of_row _ _ 3 _ _ _ hE1
    simp at e0 e1 e2 e3
    exact bodyPost_ret (v := .tuple #[entZ, .bool false]) (by simp [results, Tryz.results19, asAddr, Result.andThen, go_sem, e0, e1, e2, e3]) rfl ⟨.inl ⟨rfl, rfl⟩, hE2⟩
  have HOk := hidIn (Hok.out rfl)
  clear Hok
  have HCl : Hid (∀ wq, Below w2.heap.size w2 wq → wq.cell? ⟨q, 0, none⟩ = some (.int .i64 self) ∧ wq.cell? ⟨q, 1, none⟩ = some (.int .i64 width) ∧ wq.cell? ⟨q, 2, none⟩ = some (.int .i64 own) ∧ wq.cell? ⟨q, 3, none⟩ = some (.slice ua ln uc)) := hidIn fun wq h => by
    have j0 := (h.block _ (block_lt hA2)).trans hA2
    exact ⟨cell_of_row _ _ 0 _ _ _ j0, cell_of_row _ _ 1 _ _ _ j0, cell_of_row _ _ 2 _ _ _ j0, cell_of_row _ _ 3 _ _ _ j0⟩
  have HZ2 := hidIn hZ2
  clear hA2 hZ2
  go_upto_region 3 with fail
  go_cut [8] (fun x wx => ∃ a c, x = .slice a (es.filter fun x => atB s b (toE x)).length c ∧ Hid (Below w2.heap.size w2 wx ∧ wx.ownsRow w2.heap.size 34 4 (.slice a (es.filter fun x => atB s b (toE x)).length c) (es.filter fun x => atB s b (toE x)).length (fl rwcs ((es.filter fun x => atB s b (toE x)).map (·.1)))))
  case first =>
    refine wp_region_held_drew (S := fun wx => Below w2.heap.size w2 wx) (by kernel_rfl) ((Below.refl _ w2).drew) (fun hHeld => ?_)
    have hd0 : Below w2.heap.size w2 w2.drew := hHeld
    obtain ⟨wn, hwn⟩ : ∃ wn, w2.drew = wn := ⟨_, rfl⟩
    rw [hwn] at hd0 ⊢
    clear hwn hHeld
    refine wpAnyH_take (i := 0) (v := tbV self width own (.slice ua ln uc)) rfl (by kernel_rfl) (by kernel_rfl) (by kernel_rfl) (fun _ _ _ h => h) (Or.inl ⟨by kernel_rfl, fun wq hSw => by
      obtain ⟨u0, u1, u2, u3⟩ := HCl.out wq hSw
      go_simp⟩) (by assumption) ?_
    refine wpAnyH_take (i := 1) (v := .int .i64 s) rfl (by kernel_rfl) (by kernel_rfl) (by kernel_rfl) (fun _ _ _ h => h) (Or.inl ⟨by kernel_rfl, fun _ _ => by kernel_rfl⟩) (by assumption) ?_
    refine wpAnyH_take (i := 2) (v := .int .i64 b) rfl (by kernel_rfl) (by kernel_rfl) (by kernel_rfl) (fun _ _ _ h => h) (Or.inl ⟨by kernel_rfl, fun _ _ => by kernel_rfl⟩) (by assumption) ?_
    refine wpAnyH_ready (rs := [3]) (by kernel_rfl) (by simp) ?_
    refine AllReadyH.cons (i := 3) rfl ?_ AllReadyH.nil
    go_simp
    intro K hK
    refine (at_any s b wn).mono ?_
    rintro e w4 ⟨rfl, hw4⟩
    have hb4 : Below w2.heap.size w2 w4 := by rw [hw4]; exact (hd0.alloc hd0.size _).alloc (by rw [World.size_alloc]; exact Nat.le_succ_of_le hd0.size) _
    have k0 : w4.cell? ⟨wn.heap.size, 0, none⟩ = some (.int .i64 s) := by
      have h1 : w4.heap[wn.heap.size]? = some (.cells #[.int .i64 s] 3) := by rw [hw4, Below.heap_alloc _ _ _ (by simp)]; exact heap_alloc_last wn _
      have := cell_of_row _ _ 0 _ _ _ h1
      simpa using this
    have k1 : w4.cell? ⟨wn.heap.size + 1, 0, none⟩ = some (.int .i64 b) := by
      have h1 : w4.heap[wn.heap.size + 1]? = some (.cells #[.int .i64 b] 3) := by
        rw [hw4]
        have := heap_alloc_last (wn.alloc (.cells #[.int .i64 s] 3)) (.cells #[.int .i64 b] 3)
        rwa [World.size_alloc] at this
      have := cell_of_row _ _ 0 _ _ _ h1
      simpa using this
    refine hK.out _ _ hb4 (fun _ => ?_)
    clear hK K hw4
    obtain ⟨qa, hqa⟩ : ∃ qa, wn.heap.size = qa := ⟨_, rfl⟩
    rw [hqa] at k0 k1 ⊢
    clear hqa
    have hE4 : EnAt w4 (.slice ua ln uc) es := (HE1.out.keep HB2.out (Nat.le_refl _)).keep hb4 (Nat.le_refl _)
    have HTh := hidIn (thoseAt_any hE4 (by have := HOk.out.parts.1; rw [List.length_map] at this; omega) k0 k1 self width own)
    clear hE4 k0 k1 hd0
    refine wpAnyH_ready (rs := [4]) (by kernel_rfl) (by simp) ?_
    refine AllReadyH.cons (i := 4) rfl ?_ AllReadyH.nil
    go_simp
    intro K hK
    refine HTh.out.mono ?_
    rintro e w5 ⟨⟨fa, fc, rfl, hrow⟩, hb5⟩
    have hb5' := hb4.trans (hb5.mono hb4.size)
    refine hK.out _ _ hb5' (fun _ => ?_)
    clear hK K HTh hb5
    refine wpAnyH_take (i := 5) (v := .slice fa (es.filter fun x => atB s b (toE x)).length fc) rfl (by kernel_rfl) (by kernel_rfl) (by kernel_rfl) (fun _ _ _ h => h) (Or.inl ⟨by kernel_rfl, fun _ _ => by kernel_rfl⟩) (by assumption) ?_
    refine wpAnyH_done (by kernel_rfl) ?_ _
    go_wp2_with fail
    go_meet
    exact ⟨_, _, rfl, hidIn ⟨hb5', row_low hrow hb4.size⟩⟩
  case rest =>
    obtain ⟨fa, fc, rfl, HM⟩ := hcut
    obtain ⟨hbc, hrow⟩ := HM.out
    obtain ⟨FL, hFL⟩ : ∃ FL, (es.filter fun x => atB s b (toE x)) = FL := ⟨_, rfl⟩
    have HFd : Hid (fdE true es s b = FL.head?) := hidIn (by unfold fdE; rw [if_pos rfl, ← hFL, List.head?_filter])
    have HFm : Hid (∀ x ∈ FL, x ∈ es) := hidIn fun x hx => by rw [← hFL] at hx; exact (List.mem_filter.1 hx).1
    rw [hFL] at hrow ⊢
    have hZc := (hbc.block _ (block_lt HZ2.out)).trans HZ2.out
    have hBc := HB2.out.trans (hbc.mono HB2.out.size)
    have hcw := HB.out.trans (hBc.mono HB.out.size)
    have HEc := hidIn (HE1.out.keep hBc (Nat.le_refl _))
    clear HM hFL HCl hbc
    cases FL with
    | nil =>
      have z0 := cell_of_row _ _ 0 _ _ _ hZc
      have z1 := cell_of_row _ _ 1 _ _ _ hZc
      have z2 := cell_of_row _ _ 2 _ _ _ hZc
      have z3 := cell_of_row _ _ 3 _ _ _ hZc
      simp at z0 z1 z2 z3
      have y0 := frozen_new hZc 0
      have y1 := frozen_new hZc 1
      have y2 := frozen_new hZc 2
      have y3 := frozen_new hZc 3
      have hE1 := set4 (.int .i64 0) (.int .i64 0) (.int .i64 0) (.slice none 0 0) hZc
      have hF := ((((Fr.refl (fun j => j = q + 1) wc).set (p := ⟨q + 1, 0, none⟩) rfl (.int .i64 0)).set (p := ⟨q + 1, 1, none⟩) rfl (.int .i64 0)).set (p := ⟨q + 1, 2, none⟩) rfl (.int .i64 0)).set (p := ⟨q + 1, 3, none⟩) rfl (.slice none 0 0)
      have HE := hidIn (And.intro hE1 (hcw.trans (hF.below hcw.size (fun j hj => by have := Hq.out; omega))))
      have hn0 : (((([] : List En).length : Nat) : Int) == 0) = true := rfl
      clear hE1 hF hZc hBc hcw hrow
      simp only [List.length_nil]
      go_wp2_with fail
      obtain ⟨hE1, hE2⟩ := HE.out
      generalize ((((World.setCell _ _ _).setCell _ _).setCell _ _).setCell _ _) = W9 at hE1 hE2 ⊢
      have e0 := cell_of_row _ _ 0 _ _ _ hE1
      have e1 := cell_of_row _ _ 1 _ _ _ hE1
      have e2 := cell_of_row _ _ 2 _ _ _ hE1
      have e3 := cell_of_row _ _ 3 _ _ _ hE1
      simp at e0 e1 e2 e3
      exact bodyPost_ret (v := .tuple #[entZ, .bool false]) (by simp [results, Tryz.results19, asAddr, Result.andThen, go_sem, e0, e1, e2, e3]) rfl ⟨.inl ⟨HFd.out, rfl⟩, hE2⟩
    | cons x rest =>
      have hxe := HFm.out x (by simp)
      have hxs := HEc.out.n x hxe
      have hok := HOk.out.parts.2.1 (toE x) (List.mem_map.2 ⟨x, hxe, rfl⟩)
      have hx0 : 1 ≤ x.2.length ∧ x.2.length ≤ 16 := (nxOk_ok.1 (enB_ok.1 hok).2.2.2.2).2.2
      obtain ⟨a', c', he, _, _, hcl⟩ := (slAt_of_row (cs := rwcs) (fun _ => rfl) hrow (List.length_map _)).rws
      obtain ⟨bk, o, h1, hbk, hcell⟩ := hcl (by simp)
      simp only [Value.slice.injEq] at he
      obtain ⟨hea, hxx, hyy⟩ := he
      rw [h1] at hea
      subst hea
      clear hxx hyy
      obtain ⟨e0, e1, e2, e3⟩ := hcell 0 x.1 rfl
      rw [Nat.zero_mul, Nat.add_zero] at e0 e1 e2 e3
      obtain ⟨W3, hW3⟩ : ∃ W3, wc.alloc (enO x.1.1 x.1.2.1 x.1.2.2.1 (rwS x.1)) = W3 := ⟨_, rfl⟩
      have b3 : Below wc.heap.size wc W3 := by rw [← hW3]; exact (Below.refl _ wc).alloc (Nat.le_refl _) _
      have hz3 : W3.heap[wc.heap.size]? = some (enO x.1.1 x.1.2.1 x.1.2.2.1 (rwS x.1)) := by rw [← hW3]; exact heap_alloc_last wc _
      obtain ⟨⟨x0, x1, x2, x3, x4, x5⟩, xn⟩ := x
      simp only at e0 e1 e2 e3 hW3 hz3 hxs hx0
      have HCn := hidIn (clone_any (hxs.keep b3 (Nat.le_refl _)) (slAt_nil_ok (hxs.keep b3 (Nat.le_refl _)) (by omega)) (by omega))
      obtain ⟨q3, hq3⟩ : ∃ q3, wc.heap.size = q3 := ⟨_, rfl⟩
      have hqq : q + 1 < q3 := by rw [← hq3]; exact block_lt hZc
      rw [hq3] at hz3
      have t3 := cell_of_row _ _ 3 _ _ _ hz3
      simp at t3
      have hcw3 := hcw.trans (b3.mono hcw.size)
      have HW3 := hidIn hW3
      have HZ3 := hidIn hz3
      have HZc := hidIn ((b3.block _ (block_lt hZc)).trans hZc)
      have Hc3 := hidIn hcw3
      have hn1 : (((rest.length : Int) + 1) == 0) = false := by simp; omega
      have hn2 : (((rest.length + 1 : Nat) : Int) == 0) = false := by simp; omega
      have hlt0 : (0 : Int) < (rest.length : Int) + 1 := by omega
      clear hcl hcell hrow h1 hbk hZc hBc hcw b3 hW3 hz3 hxs hok hxe hcw3
      simp only [List.length_cons]
      go_upto_region 7 with fail
      rw [HW3.out]
      clear HW3 hq3 e0 e1 e2 e3
      go_wp2_with fail
      refine HCn.out.mono ?_
      rintro e w5 ⟨⟨v', rfl, hrw⟩, hb5⟩
      obtain ⟨na, nc, rfl⟩ := row_shape hrw
      have hz5 := (hb5.block _ (block_lt HZ3.out)).trans HZ3.out
      have hZ5 := (hb5.block _ (block_lt HZc.out)).trans HZc.out
      have hc5 := Hc3.out.trans (hb5.mono Hc3.out.size)
      have s3 := cell_of_row _ _ 3 _ _ _ hz5
      simp at s3
      have f3 := frozen_new hz5 3
      have hz6 := heap_setCell_same w5 q3 3 _ _ (.slice na xn.length nc) hz5
      simp at hz6
      have hZ6 := (Below.heap_setCell w5 ⟨q3, 3, none⟩ (.slice na xn.length nc) (q + 1) (by show q + 1 ≠ q3; omega)).trans hZ5
      have hF6 := (Fr.refl (fun j => j = q3 ∨ j = q + 1) w5).set (p := ⟨q3, 3, none⟩) (.inl rfl) (.slice na xn.length nc)
      have Hrw := hidIn hrw
      have Hc5 := hidIn hc5
      have Hsz : Hid (q3 < W3.heap.size ∧ q + 1 < q3 ∧ w.heap.size ≤ q ∧ w.heap.size ≤ W3.heap.size) := hidIn ⟨block_lt HZ3.out, hqq, Nat.le_of_eq Hq.out, Hc3.out.size⟩
      clear hb5 hz5 hZ5 hc5 hrw HCn t3
      go_upto_region 8 with fail
      generalize World.setCell _ _ _ = W6 at hz6 hZ6 hF6 ⊢
      have g0 := cell_of_row _ _ 0 _ _ _ hz6
      have g1 := cell_of_row _ _ 1 _ _ _ hz6
      have g2 := cell_of_row _ _ 2 _ _ _ hz6
      have g3 := cell_of_row _ _ 3 _ _ _ hz6
      have z0 := cell_of_row _ _ 0 _ _ _ hZ6
      have z1 := cell_of_row _ _ 1 _ _ _ hZ6
      have z2 := cell_of_row _ _ 2 _ _ _ hZ6
      have z3 := cell_of_row _ _ 3 _ _ _ hZ6
      simp at g0 g1 g2 g3 z0 z1 z2 z3
      have y0 := frozen_new hZ6 0
      have y1 := frozen_new hZ6 1
      have y2 := frozen_new hZ6 2
      have y3 := frozen_new hZ6 3
      have hE1 := set4 (.int .i64 x0) (.int .i64 x1) (.int .i64 x2) (.slice na xn.length nc) hZ6
      have hF := (((hF6.set (p := ⟨q + 1, 0, none⟩) (.inr rfl) (.int .i64 x0)).set (p := ⟨q + 1, 1, none⟩) (.inr rfl) (.int .i64 x1)).set (p := ⟨q + 1, 2, none⟩) (.inr rfl) (.int .i64 x2)).set (p := ⟨q + 1, 3, none⟩) (.inr rfl) (.slice na xn.length nc)
      have HE := hidIn (And.intro hE1 hF)
      clear hE1 hF hF6 hz6 hZ6 s3 f3
      go_wp2_with fail
      obtain ⟨hE1, hF⟩ := HE.out
      generalize ((((World.setCell _ _ _).setCell _ _).setCell _ _).setCell _ _) = W9 at hE1 hF ⊢
      have r0 := cell_of_row _ _ 0 _ _ _ hE1
      have r1 := cell_of_row _ _ 1 _ _ _ hE1
      have r2 := cell_of_row _ _ 2 _ _ _ hE1
      have r3 := cell_of_row _ _ 3 _ _ _ hE1
      simp at r0 r1 r2 r3
      have hsz := Hsz.out
      refine bodyPost_ret (v := .tuple #[.agg #[.int .i64 x0, .int .i64 x1, .int .i64 x2, .slice na xn.length nc], .bool true]) (by simp [results, Tryz.results19, asAddr, Result.andThen, go_sem, r0, r1, r2, r3]) rfl ⟨.inr ⟨((x0, x1, x2, x3, x4, x5), xn), na, nc, HFd.out, rfl, ?_⟩, ?_⟩
      · exact row_low (row_fr Hrw.out hF fun j hj e => by have := (Hrw.out.lt j hj).1; omega) hsz.2.2.2
      · exact Hc5.out.trans (hF.below Hc5.out.size fun k hk => by omega)
/-- What Next answers. -/
def nxN (e : Nat) (o : Option En) : Int := match o with | none => 0 | some x => chN e x.2
set_option maxRecDepth 100000 in
set_option maxHeartbeats 4000000 in
theorem tnext_any {e : Nat} (he : e < 4294967296) {es : List En} {u : Value} {w : World} (h : EnAt w u es) (ht : Wid w) (self width own s b : Int) :
    Calls Tryz.prog 22 #[tbV self width own u, .int .i64 s, .int .i64 b, .int .u32 e] w fun r w' => r = .returned (.tuple #[.int .i64 (nxN e (fdE (tbB self width own (toT es)) es s b)), .bool (fdE (tbB self width own (toT es)) es s b).isSome]) ∧ Below w.heap.size w w' := by
  obtain ⟨ua, uc, rfl, hul, _, _⟩ := h.op
  obtain ⟨ln, hln⟩ : ∃ ln, es.length = ln := ⟨_, rfl⟩
  rw [hln] at h hul ⊢
  obtain ⟨W1, hW1⟩ : ∃ W1, w.alloc (tbO self width own (.slice ua ln uc)) = W1 := ⟨_, rfl⟩
  have hb : Below w.heap.size w W1 := by rw [← hW1]; exact (Below.refl _ w).alloc (Nat.le_refl _) _
  have hA : W1.heap[w.heap.size]? = some (tbO self width own (.slice ua ln uc)) := by rw [← hW1]; exact heap_alloc_last w _
  obtain ⟨q, hq⟩ : ∃ q, w.heap.size = q := ⟨_, rfl⟩
  rw [hq] at hA
  have HFd := hidIn (tfind_any (h.keep hb (Nat.le_refl _)) (ht.keep hb) self width own s b)
  have HB := hidIn hb
  obtain ⟨O, hO⟩ : ∃ O, fdE (tbB self width own (toT es)) es s b = O := ⟨_, rfl⟩
  rw [hO] at HFd ⊢
  have d0 := cell_of_row _ _ 0 _ _ _ hA
  have d1 := cell_of_row _ _ 1 _ _ _ hA
  have d2 := cell_of_row _ _ 2 _ _ _ hA
  have d3 := cell_of_row _ _ 3 _ _ _ hA
  simp at d0 d1 d2 d3
  have HW := hidIn hW1
  clear hb hA hO hW1 h ht hln
  go_enter Tryz.func22, Tryz.ntmps22
  go_upto_region 1 with fail
  rw [HW.out]
  clear HW hq
  go_wp2_with fail
  refine HFd.out.mono ?_
  rintro r w2 ⟨hF, hb2⟩
  have HB2 := hidIn (HB.out.trans (hb2.mono HB.out.size))
  rcases hF with ⟨rfl, rfl⟩ | ⟨x, a, c, rfl, rfl, hrow⟩
  · clear hb2 HFd
    go_wp2_with fail
    go_ret2
    exact ⟨rfl, HB2.out.alloc HB2.out.size _⟩
  · obtain ⟨w3, hw3⟩ : ∃ w3, w2.alloc (enO x.1.1 x.1.2.1 x.1.2.2.1 (.slice a x.2.length c)) = w3 := ⟨_, rfl⟩
    have b3 : Below w2.heap.size w2 w3 := by rw [← hw3]; exact (Below.refl _ w2).alloc (Nat.le_refl _) _
    have hz3 : w3.heap[w2.heap.size]? = some (enO x.1.1 x.1.2.1 x.1.2.2.1 (.slice a x.2.length c)) := by rw [← hw3]; exact heap_alloc_last w2 _
    have hs : SlAt ic 1 w3 (.slice a x.2.length c) x.2 := (slAt_of_row (cs := ic) (fun _ => rfl) hrow rfl).keep b3 (Nat.le_refl _)
    have HTk := hidIn (taken_any he (x := ((x.1.1, x.1.2.1, x.1.2.2.1, a, x.2.length, c), x.2)) hs)
    obtain ⟨⟨x0, x1, x2, x3, x4, x5⟩, xn⟩ := x
    simp only at hw3 hz3 HTk
    obtain ⟨q3, hq3⟩ : ∃ q3, w2.heap.size = q3 := ⟨_, rfl⟩
    rw [hq3] at hz3
    have t0 := cell_of_row _ _ 0 _ _ _ hz3
    have t1 := cell_of_row _ _ 1 _ _ _ hz3
    have t2 := cell_of_row _ _ 2 _ _ _ hz3
    have t3 := cell_of_row _ _ 3 _ _ _ hz3
    simp at t0 t1 t2 t3
    have HB3 := hidIn (HB2.out.trans (b3.mono HB2.out.size))
    have HW3 := hidIn hw3
    obtain ⟨nx, hnx⟩ : ∃ nx, chN e xn = nx := ⟨_, rfl⟩
    have HN : Hid (nxN e (some ((x0, x1, x2, x3, x4, x5), xn)) = nx) := hidIn hnx
    rw [hnx] at HTk
    clear hb2 HFd hrow hw3 b3 hz3 hs hnx d0 d1 d2 d3
    go_upto_region 2 with fail
    rw [HW3.out]
    clear HW3 hq3
    go_wp2_with fail
    refine HTk.out.mono ?_
    rintro r w4 ⟨rfl, hb4⟩
    have HB4 := hidIn (HB3.out.trans (hb4.mono HB3.out.size))
    clear hb4 HTk
    go_wp2_with fail
    go_ret2
    exact ⟨by rw [HN.out]; rfl, HB4.out⟩
end Go.Proofs.YtbggingacoheiaaGreatDoor
namespace Go.Proofs.YtbggingacoheiaaGreatDoor.Bi
open Go.RowKit

theorem ix0 (x0 x1 x2 x3 : Value) (w : World) : (Instr.index 49 (.agg #[x0, x1, x2, x3]) (.int .i64 0)).run Tryz.prog w = .ok x0 w := by kernel_rfl
theorem ix1 (x0 x1 x2 x3 : Value) (w : World) : (Instr.index 49 (.agg #[x0, x1, x2, x3]) (.int .i64 1)).run Tryz.prog w = .ok x1 w := by kernel_rfl
theorem ix2 (x0 x1 x2 x3 : Value) (w : World) : (Instr.index 49 (.agg #[x0, x1, x2, x3]) (.int .i64 2)).run Tryz.prog w = .ok x2 w := by kernel_rfl
theorem ix3 (x0 x1 x2 x3 : Value) (w : World) : (Instr.index 49 (.agg #[x0, x1, x2, x3]) (.int .i64 3)).run Tryz.prog w = .ok x3 w := by kernel_rfl


set_option maxHeartbeats 400000 in
theorem and_walk (x0 x1 x2 x3 y0 y1 y2 y3 : Int) (w : World) :
    Calls Tryz.prog 30 #[.agg #[.int .u64 x0, .int .u64 x1, .int .u64 x2, .int .u64 x3], .agg #[.int .u64 y0, .int .u64 y1, .int .u64 y2, .int .u64 y3]] w fun e w' =>
      e = .returned (.agg #[.int .u64 (bits .and .u64 x0 y0), .int .u64 (bits .and .u64 x1 y1), .int .u64 (bits .and .u64 x2 y2), .int .u64 (bits .and .u64 x3 y3)]) ∧ Below w.heap.size w w' := by
  have i0 := ix0 (.int .u64 y0) (.int .u64 y1) (.int .u64 y2) (.int .u64 y3)
  have i1 := ix1 (.int .u64 y0) (.int .u64 y1) (.int .u64 y2) (.int .u64 y3)
  have i2 := ix2 (.int .u64 y0) (.int .u64 y1) (.int .u64 y2) (.int .u64 y3)
  have i3 := ix3 (.int .u64 y0) (.int .u64 y1) (.int .u64 y2) (.int .u64 y3)
  go_enter Tryz.func30, Tryz.ntmps30
  go_wp2
  go_rounds 5
  go_returns
  exact ⟨rfl, by go_grown⟩

set_option maxHeartbeats 400000 in
theorem or_walk (x0 x1 x2 x3 y0 y1 y2 y3 : Int) (w : World) :
    Calls Tryz.prog 31 #[.agg #[.int .u64 x0, .int .u64 x1, .int .u64 x2, .int .u64 x3], .agg #[.int .u64 y0, .int .u64 y1, .int .u64 y2, .int .u64 y3]] w fun e w' =>
      e = .returned (.agg #[.int .u64 (bits .or .u64 x0 y0), .int .u64 (bits .or .u64 x1 y1), .int .u64 (bits .or .u64 x2 y2), .int .u64 (bits .or .u64 x3 y3)]) ∧ Below w.heap.size w w' := by
  have i0 := ix0 (.int .u64 y0) (.int .u64 y1) (.int .u64 y2) (.int .u64 y3)
  have i1 := ix1 (.int .u64 y0) (.int .u64 y1) (.int .u64 y2) (.int .u64 y3)
  have i2 := ix2 (.int .u64 y0) (.int .u64 y1) (.int .u64 y2) (.int .u64 y3)
  have i3 := ix3 (.int .u64 y0) (.int .u64 y1) (.int .u64 y2) (.int .u64 y3)
  go_enter Tryz.func31, Tryz.ntmps31
  go_wp2
  go_rounds 5
  go_returns
  exact ⟨rfl, by go_grown⟩

set_option maxHeartbeats 400000 in
theorem andNot_walk (x0 x1 x2 x3 y0 y1 y2 y3 : Int) (w : World) :
    Calls Tryz.prog 77 #[.agg #[.int .u64 x0, .int .u64 x1, .int .u64 x2, .int .u64 x3], .agg #[.int .u64 y0, .int .u64 y1, .int .u64 y2, .int .u64 y3]] w fun e w' =>
      e = .returned (.agg #[.int .u64 (bits .andNot .u64 x0 y0), .int .u64 (bits .andNot .u64 x1 y1), .int .u64 (bits .andNot .u64 x2 y2), .int .u64 (bits .andNot .u64 x3 y3)]) ∧ Below w.heap.size w w' := by
  have i0 := ix0 (.int .u64 y0) (.int .u64 y1) (.int .u64 y2) (.int .u64 y3)
  have i1 := ix1 (.int .u64 y0) (.int .u64 y1) (.int .u64 y2) (.int .u64 y3)
  have i2 := ix2 (.int .u64 y0) (.int .u64 y1) (.int .u64 y2) (.int .u64 y3)
  have i3 := ix3 (.int .u64 y0) (.int .u64 y1) (.int .u64 y2) (.int .u64 y3)
  go_enter Tryz.func77, Tryz.ntmps77
  go_wp2
  go_rounds 5
  go_returns
  exact ⟨rfl, by go_grown⟩

end Go.Proofs.YtbggingacoheiaaGreatDoor.Bi
namespace Go.Proofs.YtbggingacoheiaaGreatDoor.Bi
open Go.RowKit

set_option maxHeartbeats 400000 in
theorem isBit_yes (n : Int) (h1 : 1 ≤ n) (h2 : n ≤ 256) (w : World) :
    Calls Tryz.prog 75 #[.int .i64 n] w fun e w' => e = .returned (.bool true) ∧ w' = w := by
  go_enter Tryz.func75, Tryz.ntmps75
  go_wp2
  go_ret
  exact ⟨rfl, rfl⟩

set_option maxHeartbeats 400000 in
theorem isBit_no (n : Int) (h : n < 1 ∨ 256 < n) (w : World) :
    Calls Tryz.prog 75 #[.int .i64 n] w fun e w' => e = .returned (.bool false) ∧ w' = w := by
  by_cases h1 : n < 1
  · go_enter Tryz.func75, Tryz.ntmps75
    go_wp2
    go_ret
    exact ⟨rfl, rfl⟩
  · have h2 : 256 < n := by omega
    have h3 : 1 ≤ n := by omega
    have h4 : decide (n ≤ 256) = false := by simp; omega
    clear h h1
    go_enter Tryz.func75, Tryz.ntmps75
    go_wp2
    go_ret
    exact ⟨rfl, rfl⟩

set_option maxHeartbeats 400000 in
theorem only_walk0 (m : Nat) (q : m / 64 = 0) (w : World) :
    Calls Tryz.prog 76 #[.int .i64 ((m : Int) + 1)] w fun e w' => e = .returned (.agg #[.int .u64 (IntKind.u64.wrap (2 ^ (m % 64))), .int .u64 0, .int .u64 0, .int .u64 0]) ∧ Below w.heap.size w w' := by
  have hb : m < 256 := by omega
  go_enter Tryz.func76, Tryz.ntmps76
  go_wp2
  go_returns
  exact ⟨rfl, by go_grown⟩

set_option maxHeartbeats 400000 in
theorem only_walk1 (m : Nat) (q : m / 64 = 1) (w : World) :
    Calls Tryz.prog 76 #[.int .i64 ((m : Int) + 1)] w fun e w' => e = .returned (.agg #[.int .u64 0, .int .u64 (IntKind.u64.wrap (2 ^ (m % 64))), .int .u64 0, .int .u64 0]) ∧ Below w.heap.size w w' := by
  have hb : m < 256 := by omega
  go_enter Tryz.func76, Tryz.ntmps76
  go_wp2
  go_returns
  exact ⟨rfl, by go_grown⟩

set_option maxHeartbeats 400000 in
theorem only_walk2 (m : Nat) (q : m / 64 = 2) (w : World) :
    Calls Tryz.prog 76 #[.int .i64 ((m : Int) + 1)] w fun e w' => e = .returned (.agg #[.int .u64 0, .int .u64 0, .int .u64 (IntKind.u64.wrap (2 ^ (m % 64))), .int .u64 0]) ∧ Below w.heap.size w w' := by
  have hb : m < 256 := by omega
  go_enter Tryz.func76, Tryz.ntmps76
  go_wp2
  go_returns
  exact ⟨rfl, by go_grown⟩

set_option maxHeartbeats 400000 in
theorem only_walk3 (m : Nat) (q : m / 64 = 3) (w : World) :
    Calls Tryz.prog 76 #[.int .i64 ((m : Int) + 1)] w fun e w' => e = .returned (.agg #[.int .u64 0, .int .u64 0, .int .u64 0, .int .u64 (IntKind.u64.wrap (2 ^ (m % 64)))]) ∧ Below w.heap.size w w' := by
  have hb : m < 256 := by omega
  go_enter Tryz.func76, Tryz.ntmps76
  go_wp2
  go_returns
  exact ⟨rfl, by go_grown⟩

end Go.Proofs.YtbggingacoheiaaGreatDoor.Bi
namespace Go.Proofs.YtbggingacoheiaaGreatDoor.Bi
open Go

/-- The word i of a number. -/
def wd (N i : Nat) : Nat := N / 2 ^ (64 * i) % 2 ^ 64
/-- The number of four words. -/
def ofw (a b c d : Nat) : Nat := a + 2 ^ 64 * b + 2 ^ 128 * c + 2 ^ 192 * d
/-- N without M's bits. -/
def wo (N M : Nat) : Nat := N ^^^ (N &&& M)

theorem wd_lt (N i : Nat) : wd N i < 18446744073709551616 := by
  unfold wd; exact Nat.mod_lt _ (by decide)
theorem testBit_wd (N i j : Nat) : (wd N i).testBit j = (decide (j < 64) && N.testBit (64 * i + j)) := by
  unfold wd; rw [Nat.testBit_mod_two_pow, Nat.testBit_div_two_pow, Nat.add_comm]
theorem testBit_wo (N M j : Nat) : (wo N M).testBit j = (N.testBit j && !M.testBit j) := by
  unfold wo; rw [Nat.testBit_xor, Nat.testBit_and]; cases N.testBit j <;> cases M.testBit j <;> rfl
theorem wd_and (N M i : Nat) : wd (N &&& M) i = wd N i &&& wd M i := by
  apply Nat.eq_of_testBit_eq; intro j
  rw [testBit_wd, Nat.testBit_and, Nat.testBit_and, testBit_wd, testBit_wd]
  cases decide (j < 64) <;> simp
theorem wd_or (N M i : Nat) : wd (N ||| M) i = wd N i ||| wd M i := by
  apply Nat.eq_of_testBit_eq; intro j
  rw [testBit_wd, Nat.testBit_or, Nat.testBit_or, testBit_wd, testBit_wd]
  cases decide (j < 64) <;> simp
theorem wd_wo (N M i : Nat) : wd (wo N M) i = wd N i &&& (18446744073709551615 - wd M i) := by
  apply Nat.eq_of_testBit_eq; intro j
  have e : 18446744073709551615 - wd M i = 2 ^ 64 - (wd M i + 1) := by have := wd_lt M i; omega
  rw [testBit_wd, testBit_wo, Nat.testBit_and, testBit_wd, e, Nat.testBit_two_pow_sub_succ (wd_lt M i), testBit_wd]
  cases decide (j < 64) <;> simp
theorem wd_ofw0 (a b c d : Nat) (ha : a < 18446744073709551616) : wd (ofw a b c d) 0 = a := by unfold wd ofw; omega
theorem wd_ofw1 (a b c d : Nat) (ha : a < 18446744073709551616) (hb : b < 18446744073709551616) : wd (ofw a b c d) 1 = b := by unfold wd ofw; omega
theorem wd_ofw2 (a b c d : Nat) (ha : a < 18446744073709551616) (hb : b < 18446744073709551616) (hc : c < 18446744073709551616) : wd (ofw a b c d) 2 = c := by unfold wd ofw; omega
theorem wd_ofw3 (a b c d : Nat) (ha : a < 18446744073709551616) (hb : b < 18446744073709551616) (hc : c < 18446744073709551616) (hd : d < 18446744073709551616) : wd (ofw a b c d) 3 = d := by unfold wd ofw; omega
theorem ofw_lt (a b c d : Nat) (ha : a < 18446744073709551616) (hb : b < 18446744073709551616) (hc : c < 18446744073709551616) (hd : d < 18446744073709551616) : ofw a b c d < 2 ^ 256 := by unfold ofw; omega

theorem ext_bits {N M : Nat} (hN : N < 2 ^ 256) (hM : M < 2 ^ 256) (h : ∀ j, j < 256 → N.testBit j = M.testBit j) : N = M := by
  apply Nat.eq_of_testBit_eq; intro j
  by_cases hj : j < 256
  · exact h j hj
  · have h1 : N < 2 ^ j := Nat.lt_of_lt_of_le hN (Nat.pow_le_pow_right (by decide) (by omega))
    have h2 : M < 2 ^ j := Nat.lt_of_lt_of_le hM (Nat.pow_le_pow_right (by decide) (by omega))
    rw [Nat.testBit_lt_two_pow h1, Nat.testBit_lt_two_pow h2]
theorem testBit_of_wd (N j : Nat) : N.testBit j = (wd N (j / 64)).testBit (j % 64) := by
  have h : 64 * (j / 64) + j % 64 = j := by omega
  rw [testBit_wd, h]; simp [Nat.mod_lt]
theorem ext_wd {N M : Nat} (hN : N < 2 ^ 256) (hM : M < 2 ^ 256) (h0 : wd N 0 = wd M 0) (h1 : wd N 1 = wd M 1) (h2 : wd N 2 = wd M 2) (h3 : wd N 3 = wd M 3) : N = M := by
  apply ext_bits hN hM; intro j hj
  rw [testBit_of_wd N, testBit_of_wd M]
  have hc : j / 64 = 0 ∨ j / 64 = 1 ∨ j / 64 = 2 ∨ j / 64 = 3 := by omega
  rcases hc with e | e | e | e <;> rw [e] <;> simp [*]
theorem wd_zero (i : Nat) : wd 0 i = 0 := by unfold wd; simp
theorem and_lt {N M : Nat} (hN : N < 2 ^ 256) : N &&& M < 2 ^ 256 := Nat.lt_of_le_of_lt Nat.and_le_left hN
theorem or_lt {N M : Nat} (hN : N < 2 ^ 256) (hM : M < 2 ^ 256) : N ||| M < 2 ^ 256 := Nat.or_lt_two_pow hN hM
theorem wo_lt {N M : Nat} (hN : N < 2 ^ 256) : wo N M < 2 ^ 256 := by
  unfold wo; exact Nat.xor_lt_two_pow hN (and_lt hN)

/-- The model's words. -/
theorem bits_and (N M i : Nat) : bits .and .u64 (wd N i : Int) (wd M i : Int) = (wd (N &&& M) i : Int) := by
  rw [u64_and_nat _ _ (wd_lt N i) (wd_lt M i), wd_and]
theorem bits_or (N M i : Nat) : bits .or .u64 (wd N i : Int) (wd M i : Int) = (wd (N ||| M) i : Int) := by
  rw [u64_or_nat _ _ (wd_lt N i) (wd_lt M i), wd_or]
theorem bits_wo (N M i : Nat) : bits .andNot .u64 (wd N i : Int) (wd M i : Int) = (wd (wo N M) i : Int) := by
  rw [u64_andNot_nat _ _ (wd_lt N i) (wd_lt M i), wd_wo]

/-- The number with the one bit m. -/
theorem wrap_pow (m : Nat) : IntKind.u64.wrap ((2 : Int) ^ (m % 64)) = (2 ^ (m % 64) : Nat) := by
  have h : 2 ^ (m % 64) < 2 ^ 64 := Nat.pow_lt_pow_right (by decide) (Nat.mod_lt _ (by decide))
  rw [IntKind.wrap_u64, show ((2 : Int) ^ (m % 64)) = ((2 ^ (m % 64) : Nat) : Int) from by simp]
  generalize 2 ^ (m % 64) = x at h
  omega
theorem wd_pow (m i : Nat) : wd (2 ^ m) i = if m / 64 = i then 2 ^ (m % 64) else 0 := by
  apply Nat.eq_of_testBit_eq; intro j
  rw [testBit_wd, Nat.testBit_two_pow]
  by_cases h : m / 64 = i
  · rw [if_pos h, Nat.testBit_two_pow]
    by_cases hj : j < 64
    · have : (m = 64 * i + j) ↔ (m % 64 = j) := by omega
      simp [hj, this]
    · have : ¬ (m % 64 = j) := by omega
      simp [hj, this]
  · rw [if_neg h]
    by_cases hj : j < 64
    · have : ¬ (m = 64 * i + j) := by omega
      simp [this]
    · simp [hj]
theorem pow_lt {m : Nat} (h : m < 256) : 2 ^ m < 2 ^ 256 := Nat.pow_lt_pow_right (by decide) h
end Go.Proofs.YtbggingacoheiaaGreatDoor.Bi
namespace Go.Proofs.YtbggingacoheiaaGreatDoor.Bi
open Go.RowKit

/-- A bit string as a value. -/
abbrev bs (N : Nat) : Value := .agg #[.int .u64 (wd N 0), .int .u64 (wd N 1), .int .u64 (wd N 2), .int .u64 (wd N 3)]

theorem and_any (N M : Nat) (w : World) : Calls Tryz.prog 30 #[bs N, bs M] w fun e w' => e = .returned (bs (N &&& M)) ∧ Below w.heap.size w w' := by
  refine (and_walk _ _ _ _ _ _ _ _ w).mono ?_
  rintro e w' ⟨rfl, hb⟩
  refine ⟨?_, hb⟩
  simp only [bs, bits_and]
theorem or_any (N M : Nat) (w : World) : Calls Tryz.prog 31 #[bs N, bs M] w fun e w' => e = .returned (bs (N ||| M)) ∧ Below w.heap.size w w' := by
  refine (or_walk _ _ _ _ _ _ _ _ w).mono ?_
  rintro e w' ⟨rfl, hb⟩
  refine ⟨?_, hb⟩
  simp only [bs, bits_or]
theorem wo_any (N M : Nat) (w : World) : Calls Tryz.prog 77 #[bs N, bs M] w fun e w' => e = .returned (bs (wo N M)) ∧ Below w.heap.size w w' := by
  refine (andNot_walk _ _ _ _ _ _ _ _ w).mono ?_
  rintro e w' ⟨rfl, hb⟩
  refine ⟨?_, hb⟩
  simp only [bs, bits_wo]
theorem only_any (m : Nat) (h : m < 256) (w : World) : Calls Tryz.prog 76 #[.int .i64 ((m : Int) + 1)] w fun e w' => e = .returned (bs (2 ^ m)) ∧ Below w.heap.size w w' := by
  have hc : m / 64 = 0 ∨ m / 64 = 1 ∨ m / 64 = 2 ∨ m / 64 = 3 := by omega
  rcases hc with q | q | q | q
  · refine (only_walk0 m q w).mono ?_
    rintro e w' ⟨rfl, hb⟩
    refine ⟨?_, hb⟩
    simp [bs, wd_pow, q, wrap_pow]
  · refine (only_walk1 m q w).mono ?_
    rintro e w' ⟨rfl, hb⟩
    refine ⟨?_, hb⟩
    simp [bs, wd_pow, q, wrap_pow]
  · refine (only_walk2 m q w).mono ?_
    rintro e w' ⟨rfl, hb⟩
    refine ⟨?_, hb⟩
    simp [bs, wd_pow, q, wrap_pow]
  · refine (only_walk3 m q w).mono ?_
    rintro e w' ⟨rfl, hb⟩
    refine ⟨?_, hb⟩
    simp [bs, wd_pow, q, wrap_pow]
end Go.Proofs.YtbggingacoheiaaGreatDoor.Bi
namespace Go.Proofs.YtbggingacoheiaaGreatDoor.Bi
open Go.RowKit

/-- The block b holds N's four words, and may be written. -/
structure HasBs (W : World) (b N : Nat) : Prop where
  c0 : W.cell? ⟨b, 0, none⟩ = some (.int .u64 (wd N 0))
  c1 : W.cell? ⟨b, 1, none⟩ = some (.int .u64 (wd N 1))
  c2 : W.cell? ⟨b, 2, none⟩ = some (.int .u64 (wd N 2))
  c3 : W.cell? ⟨b, 3, none⟩ = some (.int .u64 (wd N 3))
  f0 : W.frozen? ⟨b, 0, none⟩ = false
  f1 : W.frozen? ⟨b, 1, none⟩ = false
  f2 : W.frozen? ⟨b, 2, none⟩ = false
  f3 : W.frozen? ⟨b, 3, none⟩ = false
  lt : b < W.heap.size

theorem HasBs.keep {W W' : World} {b N B : Nat} (h : HasBs W b N) (hb : Below B W W') (hB : b < B) : HasBs W' b N :=
  ⟨(hb.cell (p := ⟨b, 0, none⟩) hB).trans h.c0, (hb.cell (p := ⟨b, 1, none⟩) hB).trans h.c1, (hb.cell (p := ⟨b, 2, none⟩) hB).trans h.c2, (hb.cell (p := ⟨b, 3, none⟩) hB).trans h.c3,
    (hb.frozen (p := ⟨b, 0, none⟩) hB).trans h.f0, (hb.frozen (p := ⟨b, 1, none⟩) hB).trans h.f1, (hb.frozen (p := ⟨b, 2, none⟩) hB).trans h.f2, (hb.frozen (p := ⟨b, 3, none⟩) hB).trans h.f3, Nat.lt_of_lt_of_le h.lt hb.size⟩

/-- The four stores of a whole bit string. -/
abbrev World.putBs (W : World) (b N : Nat) : World :=
  (((W.setCell ⟨b, 0, none⟩ (.int .u64 (wd N 0))).setCell ⟨b, 1, none⟩ (.int .u64 (wd N 1))).setCell ⟨b, 2, none⟩ (.int .u64 (wd N 2))).setCell ⟨b, 3, none⟩ (.int .u64 (wd N 3))

theorem HasBs.put {W : World} {b M : Nat} (h : HasBs W b M) (N : Nat) : HasBs (World.putBs W b N) b N := by
  obtain ⟨c0, c1, c2, c3, f0, f1, f2, f3, lt⟩ := h
  refine ⟨?_, ?_, ?_, ?_, ?_, ?_, ?_, ?_, ?_⟩
  all_goals simp [*, go_sem]
theorem below_put {B b N : Nat} {W0 W : World} (h : Below B W0 W) (hB : B ≤ b) : Below B W0 (World.putBs W b N) :=
  (((h.setCell (p := ⟨b, 0, none⟩) hB _).setCell (p := ⟨b, 1, none⟩) hB _).setCell (p := ⟨b, 2, none⟩) hB _).setCell (p := ⟨b, 3, none⟩) hB _
theorem hasBs_new (W : World) (N : Nat) : HasBs (W.alloc (.cells #[.int .u64 (wd N 0), .int .u64 (wd N 1), .int .u64 (wd N 2), .int .u64 (wd N 3)] 49)) W.heap.size N := by
  refine ⟨?_, ?_, ?_, ?_, ?_, ?_, ?_, ?_, ?_⟩
  all_goals simp [go_sem]

/-- What stands while a statement that reads the block b goes on: its words, and all that lay below b. -/
abbrev Held (W0 : World) (b X : Nat) (w : World) : Prop :=
  w.cell? ⟨b, 0, none⟩ = some (.int .u64 (wd X 0)) ∧ w.cell? ⟨b, 1, none⟩ = some (.int .u64 (wd X 1)) ∧ w.cell? ⟨b, 2, none⟩ = some (.int .u64 (wd X 2)) ∧ w.cell? ⟨b, 3, none⟩ = some (.int .u64 (wd X 3)) ∧
  w.frozen? ⟨b, 0, none⟩ = false ∧ w.frozen? ⟨b, 1, none⟩ = false ∧ w.frozen? ⟨b, 2, none⟩ = false ∧ w.frozen? ⟨b, 3, none⟩ = false ∧ b < w.heap.size ∧ Below b W0 w
theorem Held.of {W0 W : World} {b X : Nat} (h : HasBs W b X) (hb : Below b W0 W) : Held W0 b X W := ⟨h.c0, h.c1, h.c2, h.c3, h.f0, h.f1, h.f2, h.f3, h.lt, hb⟩
theorem Held.has {W0 W : World} {b X : Nat} (h : Held W0 b X W) : HasBs W b X ∧ Below b W0 W := by
  obtain ⟨c0, c1, c2, c3, f0, f1, f2, f3, lt, hb⟩ := h
  exact ⟨⟨c0, c1, c2, c3, f0, f1, f2, f3, lt⟩, hb⟩
theorem Held.keep {W0 W W' : World} {b X : Nat} (h : Held W0 b X W) (hb : Below W.heap.size W W') : Held W0 b X W' := by
  obtain ⟨h1, h2⟩ := h.has
  exact Held.of (h1.keep hb h1.lt) (h2.trans (hb.mono (Nat.le_of_lt h1.lt)))
theorem Held.drew {W0 W : World} {b X : Nat} (h : Held W0 b X W) : Held W0 b X W.drew := h.keep (Below.refl _ W).drew

theorem hidIn {p : Prop} (h : p) : Hid p := h

/-- The number of a list of bits. -/
def ofl (zs : List Int) : Nat := zs.foldl (fun a z => a ||| 2 ^ (z - 1).toNat) 0
/-- Are all bits? -/
def allBits (zs : List Int) : Prop := ∀ z ∈ zs, 1 ≤ z ∧ z ≤ 256
theorem ofl_snoc (zs : List Int) (z : Int) : ofl (zs ++ [z]) = ofl zs ||| 2 ^ (z - 1).toNat := by simp [ofl]

end Go.Proofs.YtbggingacoheiaaGreatDoor.Bi
namespace Go.Proofs.YtbggingacoheiaaGreatDoor.Bi
open Go.RowKit
theorem infoU : (Tryz.prog.info? 47).map (·.size) = some 1 := by kernel_rfl
theorem cellsU : Tryz.prog.cellsOf 47 = 1 := by kernel_rfl
theorem partU0 (x0 x1 x2 x3 : Value) (w : World) : (part 47 #[x0, x1, x2, x3] (0 * 1)).run Tryz.prog w = .ok x0 w := by kernel_rfl
theorem partU1 (x0 x1 x2 x3 : Value) (w : World) : (part 47 #[x0, x1, x2, x3] (1 * 1)).run Tryz.prog w = .ok x1 w := by kernel_rfl
theorem partU2 (x0 x1 x2 x3 : Value) (w : World) : (part 47 #[x0, x1, x2, x3] (2 * 1)).run Tryz.prog w = .ok x2 w := by kernel_rfl
theorem partU3 (x0 x1 x2 x3 : Value) (w : World) : (part 47 #[x0, x1, x2, x3] (3 * 1)).run Tryz.prog w = .ok x3 w := by kernel_rfl
theorem range4 : List.range 4 = [0, 1, 2, 3] := rfl
theorem eqInt (x y : Int) (w : World) : (Op.equalIn 9999 47 (.int .u64 x) (.int .u64 y)).run Tryz.prog w = .ok (x == y) w := run_equalIn_int w 9998 _ _ _ x y Tryz.underlying47

/-- '==' of two bit strings, as the model reckons it. -/
theorem eq_bits (x0 x1 x2 x3 y0 y1 y2 y3 : Int) (w : World) :
   (Op.equalIn 10000 49 (.agg #[.int .u64 x0, .int .u64 x1, .int .u64 x2, .int .u64 x3]) (.agg #[.int .u64 y0, .int .u64 y1, .int .u64 y2, .int .u64 y3])).run Tryz.prog w = Result.ok (x0 == y0 && (x1 == y1 && (x2 == y2 && x3 == y3))) w := by
  obtain ⟨i, hi⟩ : ∃ i, Tryz.prog.info? 47 = some i := by
    have := infoU
    cases h : Tryz.prog.info? 47 with
    | none => rw [h] at this; cases this
    | some i => exact ⟨i, rfl⟩
  rw [run_equalIn_array w 9999 _ _ Tryz.underlying49 hi, cellsU, range4]
  simp only [Op.eqItems, Sem.run_bind, Sem.run_ite, Sem.run_pure, partU0, partU1, partU2, partU3, Result.andThen_ok, eqInt]
  cases x0 == y0 <;> cases x1 == y1 <;> cases x2 == y2 <;> cases x3 == y3 <;> rfl
/-- Of two numbers' bit strings. -/
theorem eq_bs (N M : Nat) (hN : N < 2 ^ 256) (hM : M < 2 ^ 256) (w : World) : (Op.equalIn 10000 49 (bs N) (bs M)).run Tryz.prog w = Result.ok (N == M) w := by
  rw [eq_bits]
  congr 1
  rw [Bool.eq_iff_iff]
  simp only [Bool.and_eq_true, beq_iff_eq]
  constructor
  · rintro ⟨h0, h1, h2, h3⟩
    exact ext_wd hN hM (by omega) (by omega) (by omega) (by omega)
  · rintro rfl
    exact ⟨rfl, rfl, rfl, rfl⟩
theorem eq_zero (N : Nat) (hN : N < 2 ^ 256) (w : World) : (Op.equalIn 10000 49 (bs N) (.agg #[.int .u64 0, .int .u64 0, .int .u64 0, .int .u64 0])).run Tryz.prog w = Result.ok (N == 0) w := by
  have := eq_bs N 0 hN (by decide) w
  simp only [bs, wd_zero] at this ⊢
  exact this
end Go.Proofs.YtbggingacoheiaaGreatDoor.Bi
namespace Go.Proofs.YtbggingacoheiaaGreatDoor.Bi
open Go.RowKit

theorem and_pow (N m : Nat) : (N &&& 2 ^ m = 0) = (N.testBit m = false) := by
  apply propext
  constructor
  · intro h
    have := congrArg (fun x => x.testBit m) h
    simpa [Nat.testBit_and, Nat.testBit_two_pow] using this
  · intro h
    apply Nat.eq_of_testBit_eq
    intro j
    rw [Nat.testBit_and, Nat.testBit_two_pow]
    by_cases e : m = j
    · subst e; simp [h]
    · simp [e]

set_option maxHeartbeats 400000 in
theorem has_no (N : Nat) (n : Int) (h : n < 1 ∨ 256 < n) (w : World) :
    Calls Tryz.prog 32 #[bs N, .int .i64 n] w fun e w' => e = .returned (.bool false) ∧ Below w.heap.size w w' := by
  unfold bs
  go_enter Tryz.func32, Tryz.ntmps32
  go_wp2
  generalize hV : w.alloc _ = V
  have bV : Below w.heap.size w V := by rw [← hV]; go_grown
  have nV : HasBs V w.heap.size N := by rw [← hV]; exact hasBs_new w N
  clear hV
  have k0 := cell_regrown nV.c0
  have k1 := cell_regrown nV.c1
  have k2 := cell_regrown nV.c2
  have k3 := cell_regrown nV.c3
  refine wp_region_quiet_below (by kernel_rfl) (by kernel_rfl) ?_
  repeat (go_big_quiet_step (first
    | (go_at_call 75; exact Calls.regrown_of ((isBit_no n h _).mono (fun e w' he => ⟨he.1, by rw [he.2]; exact Below.refl _ _⟩)))))
  refine wpQuiet_nil ?_
  intro _ hw'
  obtain ⟨⟨dq, osq⟩, hw''⟩ := hw'
  subst hw''
  go_wp2
  go_ret
  exact ⟨rfl, bV.trans ((below_regrown V dq osq).mono bV.size)⟩
set_option maxRecDepth 100000 in
set_option maxHeartbeats 400000 in
theorem has_yes (N : Nat) (hN : N < 2 ^ 256) (m : Nat) (hm : m < 256) (w : World) :
    Calls Tryz.prog 32 #[bs N, .int .i64 ((m : Int) + 1)] w fun e w' => e = .returned (.bool (N.testBit m)) ∧ Below w.heap.size w w' := by
  have hq : ∀ w : World, (Op.equalIn 10000 49 (.agg #[.int .u64 (wd (N &&& 2 ^ m) 0), .int .u64 (wd (N &&& 2 ^ m) 1), .int .u64 (wd (N &&& 2 ^ m) 2), .int .u64 (wd (N &&& 2 ^ m) 3)]) (.agg #[.int .u64 0, .int .u64 0, .int .u64 0, .int .u64 0])).run Tryz.prog w = Result.ok (!N.testBit m) w := fun w => by
    have := eq_zero (N &&& 2 ^ m) (and_lt hN) w
    simp only [bs] at this
    rw [this, show (N &&& 2 ^ m == 0) = !N.testBit m from by rw [Bool.eq_iff_iff]; simp [and_pow]]
  unfold bs
  go_enter Tryz.func32, Tryz.ntmps32
  go_wp2
  generalize hV : w.alloc _ = V
  have bV : Below w.heap.size w V := by rw [← hV]; go_grown
  have nV : HasBs V w.heap.size N := by rw [← hV]; exact hasBs_new w N
  clear hV
  have k0 := cell_regrown nV.c0
  have k1 := cell_regrown nV.c1
  have k2 := cell_regrown nV.c2
  have k3 := cell_regrown nV.c3
  refine wp_region_quiet_below (by kernel_rfl) (by kernel_rfl) ?_
  repeat (go_big_quiet_step (first
    | (go_at_call 75; exact Calls.regrown_of ((isBit_yes ((m : Int) + 1) (by omega) (by omega) _).mono (fun e w' he => ⟨he.1, by rw [he.2]; exact Below.refl _ _⟩)))
    | (go_at_call 76; exact Calls.regrown_of (only_any m hm _))
    | (go_at_call 30; exact Calls.regrown_of (and_any N (2 ^ m) _))))
  refine wpQuiet_nil ?_
  intro _ hw'
  obtain ⟨⟨dq, osq⟩, hw''⟩ := hw'
  subst hw''
  go_wp2
  go_ret
  exact ⟨by simp, bV.trans ((below_regrown V dq osq).mono bV.size)⟩

set_option maxHeartbeats 400000 in
theorem with_no (N : Nat) (n : Int) (h : n < 1 ∨ 256 < n) (w : World) :
    Calls Tryz.prog 70 #[bs N, .int .i64 n] w fun e w' => e = .returned (.tuple #[bs 0, .int .i64 2]) ∧ Below w.heap.size w w' := by
  have H := hidIn h
  clear h
  unfold bs
  go_enter Tryz.func70, Tryz.ntmps70
  go_wp2_with (go_at_call 75; refine (isBit_no _ H.out _).mono ?_; rintro e w1 ⟨rfl, rfl⟩)
  go_returns
  exact ⟨by simp only [wd_zero]; rfl, by go_grown⟩
set_option maxHeartbeats 400000 in
theorem without_no (N : Nat) (n : Int) (h : n < 1 ∨ 256 < n) (w : World) :
    Calls Tryz.prog 33 #[bs N, .int .i64 n] w fun e w' => e = .returned (.tuple #[bs 0, .int .i64 2]) ∧ Below w.heap.size w w' := by
  have H := hidIn h
  clear h
  unfold bs
  go_enter Tryz.func33, Tryz.ntmps33
  go_wp2_with (go_at_call 75; refine (isBit_no _ H.out _).mono ?_; rintro e w1 ⟨rfl, rfl⟩)
  go_returns
  exact ⟨by simp only [wd_zero]; rfl, by go_grown⟩
theorem HasBs.grow {W : World} {b N : Nat} (h : HasBs W b N) (o : Obj) : HasBs (W.alloc o) b N := h.keep (Below.alloc (Below.refl _ W) (Nat.le_refl _) o) h.lt
set_option maxRecDepth 100000 in
set_option maxHeartbeats 1000000 in
theorem with_yes (N m : Nat) (hm : m < 256) (w : World) :
    Calls Tryz.prog 70 #[bs N, .int .i64 ((m : Int) + 1)] w fun e w' => e = .returned (.tuple #[bs (N ||| 2 ^ m), .int .i64 0]) ∧ Below w.heap.size w w' := by
  unfold bs
  go_enter Tryz.func70, Tryz.ntmps70
  go_wp2_with (go_at_call 75; refine (isBit_yes _ (by omega) (by omega) _).mono ?_; rintro e w1 ⟨rfl, rfl⟩)
  have rV := hasBs_new (w.alloc (.cells #[.int .u64 (wd N 0), .int .u64 (wd N 1), .int .u64 (wd N 2), .int .u64 (wd N 3)] 49)) 0
  have nV := HasBs.grow (hasBs_new w N) (.cells #[.int .u64 0, .int .u64 0, .int .u64 0, .int .u64 0] 49)
  have bV : Below w.heap.size w ((w.alloc (.cells #[.int .u64 (wd N 0), .int .u64 (wd N 1), .int .u64 (wd N 2), .int .u64 (wd N 3)] 49)).alloc (.cells #[.int .u64 0, .int .u64 0, .int .u64 0, .int .u64 0] 49)) := by go_grown
  simp only [World.size_alloc, wd_zero] at rV nV
  have rV' : HasBs ((w.alloc (.cells #[.int .u64 (wd N 0), .int .u64 (wd N 1), .int .u64 (wd N 2), .int .u64 (wd N 3)] 49)).alloc (.cells #[.int .u64 0, .int .u64 0, .int .u64 0, .int .u64 0] 49)) (w.heap.size + 1) 0 := by simpa [wd_zero] using rV
  clear rV
  generalize (w.alloc _).alloc _ = V at rV' nV bV ⊢
  have NV := hidIn nV
  have RV := hidIn rV'
  obtain ⟨c0, c1, c2, c3, _, _, _, _, _⟩ := nV
  clear rV'
  go_region_with (first | (go_at_call 76; refine (only_any m hm _).mono ?_; rintro e w1 ⟨rfl, hb1⟩; have HG := hidIn (Below.trans (Below.refl _ V).drew hb1); obtain ⟨c0', c1', c2', c3', _, _, _, _, _⟩ := NV.out.keep HG.out NV.out.lt) | (go_at_call 31; refine (or_any _ _ _).mono ?_; rintro e w2 ⟨rfl, hb2⟩; have HG2 := hidIn (Below.trans HG.out (hb2.mono HG.out.size)); have HR2 := hidIn (RV.out.keep HG2.out RV.out.lt); obtain ⟨d0, d1, d2, d3, g0, g1, g2, g3, _⟩ := HR2.out))
  all_goals
    go_wp2
    refine bodyPost_ret (v := .tuple #[bs (N ||| 2 ^ m), .int .i64 0]) (by simp [results, Tryz.results70, go_sem, d0, d1, d2, d3]) rfl ⟨rfl, ?_⟩
    exact below_put (bV.trans (HG2.out.mono bV.size)) (Nat.le_succ _)
set_option maxRecDepth 100000 in
set_option maxHeartbeats 1000000 in
theorem without_yes (N m : Nat) (hm : m < 256) (w : World) :
    Calls Tryz.prog 33 #[bs N, .int .i64 ((m : Int) + 1)] w fun e w' => e = .returned (.tuple #[bs (wo N (2 ^ m)), .int .i64 0]) ∧ Below w.heap.size w w' := by
  unfold bs
  go_enter Tryz.func33, Tryz.ntmps33
  go_wp2_with (go_at_call 75; refine (isBit_yes _ (by omega) (by omega) _).mono ?_; rintro e w1 ⟨rfl, rfl⟩)
  have rV := hasBs_new (w.alloc (.cells #[.int .u64 (wd N 0), .int .u64 (wd N 1), .int .u64 (wd N 2), .int .u64 (wd N 3)] 49)) 0
  have nV := HasBs.grow (hasBs_new w N) (.cells #[.int .u64 0, .int .u64 0, .int .u64 0, .int .u64 0] 49)
  have bV : Below w.heap.size w ((w.alloc (.cells #[.int .u64 (wd N 0), .int .u64 (wd N 1), .int .u64 (wd N 2), .int .u64 (wd N 3)] 49)).alloc (.cells #[.int .u64 0, .int .u64 0, .int .u64 0, .int .u64 0] 49)) := by go_grown
  simp only [World.size_alloc, wd_zero] at rV nV
  have rV' : HasBs ((w.alloc (.cells #[.int .u64 (wd N 0), .int .u64 (wd N 1), .int .u64 (wd N 2), .int .u64 (wd N 3)] 49)).alloc (.cells #[.int .u64 0, .int .u64 0, .int .u64 0, .int .u64 0] 49)) (w.heap.size + 1) 0 := by simpa [wd_zero] using rV
  clear rV
  generalize (w.alloc _).alloc _ = V at rV' nV bV ⊢
  have NV := hidIn nV
  have RV := hidIn rV'
  obtain ⟨c0, c1, c2, c3, _, _, _, _, _⟩ := nV
  clear rV'
  go_region_with (first | (go_at_call 76; refine (only_any m hm _).mono ?_; rintro e w1 ⟨rfl, hb1⟩; have HG := hidIn (Below.trans (Below.refl _ V).drew hb1); obtain ⟨c0', c1', c2', c3', _, _, _, _, _⟩ := NV.out.keep HG.out NV.out.lt) | (go_at_call 77; refine (wo_any _ _ _).mono ?_; rintro e w2 ⟨rfl, hb2⟩; have HG2 := hidIn (Below.trans HG.out (hb2.mono HG.out.size)); have HR2 := hidIn (RV.out.keep HG2.out RV.out.lt); obtain ⟨d0, d1, d2, d3, g0, g1, g2, g3, _⟩ := HR2.out))
  all_goals
    go_wp2
    refine bodyPost_ret (v := .tuple #[bs (wo N (2 ^ m)), .int .i64 0]) (by simp [results, Tryz.results33, go_sem, d0, d1, d2, d3]) rfl ⟨rfl, ?_⟩
    exact below_put (bV.trans (HG2.out.mono bV.size)) (Nat.le_succ _)
end Go.Proofs.YtbggingacoheiaaGreatDoor.Bi
namespace Go.Proofs.YtbggingacoheiaaGreatDoor
open Go.RowKit

/-- Does an entry take the neighbour? -/
def mkP (e : Nat) (s t : Int) (x : En) : Bool := decide (x.1.1 = s) && decide (chN e x.2 = t)
abbrev mkC (B : Nat) : Array Value := #[.pointer (some ⟨B, 0, none⟩), .pointer (some ⟨B + 1, 0, none⟩), .pointer (some ⟨B + 1 + 1, 0, none⟩)]
abbrev mkF (B : Nat) : Value := .func (.func 69) #[] (mkC B)
theorem enter_mk (args : Array Value) (w : World) : (callFunc 69 args).run Tryz.prog w = .ok (.enter 69 args) w := by kernel_rfl
set_option maxRecDepth 100000 in
set_option maxHeartbeats 2000000 in
theorem mask1_any {e : Nat} (he : e < 4294967296) {s t : Int} {B : Nat} {w : World} (h0 : w.cell? ⟨B, 0, none⟩ = some (.int .i64 s)) (h1 : w.cell? ⟨B + 1, 0, none⟩ = some (.int .u32 e)) (h2 : w.cell? ⟨B + 1 + 1, 0, none⟩ = some (.int .i64 t)) {x : En} (hx : SlAt ic 1 w (rwS x.1) x.2) :
    Calls Tryz.prog 69 (#[enV x.1] ++ mkC B) w fun r w' => r = .returned (.bool (mkP e s t x)) ∧ Below w.heap.size w w' := by
  obtain ⟨⟨a0, a1, a2, a3, a4, a5⟩, an⟩ := x
  simp only at hx
  have hlt0 := block_lt_of_cell h0
  have hlt1 := block_lt_of_cell h1
  have hlt2 := block_lt_of_cell h2
  simp only at hlt0 hlt1 hlt2
  obtain ⟨W1, hW1⟩ : ∃ W1, w.alloc (enO a0 a1 a2 (.slice a3 a4 a5)) = W1 := ⟨_, rfl⟩
  have hb : Below w.heap.size w W1 := by rw [← hW1]; exact (Below.refl _ w).alloc (Nat.le_refl _) _
  have hA : W1.heap[w.heap.size]? = some (enO a0 a1 a2 (.slice a3 a4 a5)) := by rw [← hW1]; exact heap_alloc_last w _
  obtain ⟨q, hq⟩ : ∃ q, w.heap.size = q := ⟨_, rfl⟩
  have HB := hidIn hb
  have HTk : Hid (∀ d os, Calls Tryz.prog 66 #[enV (a0, a1, a2, a3, a4, a5), .int .u32 e] (Go.Sort.grow (redrawn W1 d) os) fun r w' => r = .returned (.int .i64 (chN e an)) ∧ Below (Go.Sort.grow (redrawn W1 d) os).heap.size (Go.Sort.grow (redrawn W1 d) os) w') := hidIn fun d os => taken_any he (x := ((a0, a1, a2, a3, a4, a5), an)) ((hx.keep hb (Nat.le_refl _)).keep (below_regrown W1 d os) (Nat.le_refl _))
  have k0 := cell_regrown ((hb.cell (p := ⟨B, 0, none⟩) hlt0).trans h0)
  have k1 := cell_regrown ((hb.cell (p := ⟨B + 1, 0, none⟩) hlt1).trans h1)
  have k2 := cell_regrown ((hb.cell (p := ⟨B + 1 + 1, 0, none⟩) hlt2).trans h2)
  rw [hq] at hA
  have t0 := cell_of_row _ _ 0 _ _ _ hA
  have t1 := cell_of_row _ _ 1 _ _ _ hA
  have t2 := cell_of_row _ _ 2 _ _ _ hA
  have t3 := cell_of_row _ _ 3 _ _ _ hA
  simp at t0 t1 t2 t3
  have g0 := cell_regrown t0
  have g1 := cell_regrown t1
  have g2 := cell_regrown t2
  have g3 := cell_regrown t3
  obtain ⟨c, hc⟩ : ∃ c, chN e an = c := ⟨_, rfl⟩
  obtain ⟨r, hr⟩ : ∃ r, mkP e s t (((a0, a1, a2, a3, a4, a5), an) : En) = r := ⟨_, rfl⟩
  have hr' : r = (decide (a0 = s) && decide (c = t)) := by rw [← hr, ← hc]; rfl
  rw [hr]
  rw [hc] at HTk
  have HR := hidIn hr'
  have HW := hidIn hW1
  clear hb hA hr hr' hW1 h0 h1 h2 hlt0 hlt1 hlt2 hx hc t0 t1 t2 t3
  show Calls Tryz.prog 69 #[enV (a0, a1, a2, a3, a4, a5), .pointer (some ⟨B, 0, none⟩), .pointer (some ⟨B + 1, 0, none⟩), .pointer (some ⟨B + 1 + 1, 0, none⟩)] w _
  go_enter Tryz.func69, Tryz.ntmps69
  go_upto_region 1 with fail
  rw [HW.out]
  clear HW hq
  by_cases j0 : a0 = s
  rotate_left
  · have d0 : (a0 == s) = false := by simpa using j0
    have HE : Hid (r = false) := hidIn (by rw [HR.out, decide_eq_false j0]; rfl)
    clear j0
    refine wp_region_quiet_below (by kernel_rfl) (by kernel_rfl) ?_
    repeat (go_big_quiet_step (first | (go_at_call 66; exact Calls.regrown_of (HTk.out _ _))))
    refine wpQuiet_nil ?_
    intro _ hw'
    obtain ⟨⟨dq, osq⟩, hw''⟩ := hw'
    subst hw''
    have HRy := hidIn (HB.out.trans ((below_regrown W1 dq osq).mono HB.out.size))
    generalize Go.Sort.grow (redrawn W1 dq) osq = wy at HRy ⊢
    go_wp2_with fail
    go_ret
    exact ⟨by rw [HE.out]; rfl, HRy.out⟩
  have d0 : (a0 == s) = true := by simpa using j0
  by_cases j1 : c = t
  · have d1 : (c == t) = true := by simpa using j1
    have HE : Hid (r = true) := hidIn (by rw [HR.out, decide_eq_true j0, decide_eq_true j1]; rfl)
    clear j0 j1
    refine wp_region_quiet_below (by kernel_rfl) (by kernel_rfl) ?_
    repeat (go_big_quiet_step (first | (go_at_call 66; exact Calls.regrown_of (HTk.out _ _))))
    refine wpQuiet_nil ?_
    intro _ hw'
    obtain ⟨⟨dq, osq⟩, hw''⟩ := hw'
    subst hw''
    have HRy := hidIn (HB.out.trans ((below_regrown W1 dq osq).mono HB.out.size))
    generalize Go.Sort.grow (redrawn W1 dq) osq = wy at HRy ⊢
    go_wp2_with fail
    go_ret
    exact ⟨by rw [HE.out]; rfl, HRy.out⟩
  · have d1 : (c == t) = false := by simpa using j1
    have HE : Hid (r = false) := hidIn (by rw [HR.out, decide_eq_false j1]; simp)
    clear j0 j1
    refine wp_region_quiet_below (by kernel_rfl) (by kernel_rfl) ?_
    repeat (go_big_quiet_step (first | (go_at_call 66; exact Calls.regrown_of (HTk.out _ _))))
    refine wpQuiet_nil ?_
    intro _ hw'
    obtain ⟨⟨dq, osq⟩, hw''⟩ := hw'
    subst hw''
    have HRy := hidIn (HB.out.trans ((below_regrown W1 dq osq).mono HB.out.size))
    generalize Go.Sort.grow (redrawn W1 dq) osq = wy at HRy ⊢
    go_wp2_with fail
    go_ret
    exact ⟨by rw [HE.out]; rfl, HRy.out⟩
/-- The entries that take a neighbour. -/
theorem thoseMk_any {e : Nat} (he : e < 4294967296) {es : List En} {ua : Option Addr} {un uc qa : Nat} {s t : Int} {w : World} (h : EnAt w (.slice ua un uc) es) (hn : es.length ≤ 100000) (k0 : w.cell? ⟨qa, 0, none⟩ = some (.int .i64 s)) (k1 : w.cell? ⟨qa + 1, 0, none⟩ = some (.int .u32 e)) (k2 : w.cell? ⟨qa + 1 + 1, 0, none⟩ = some (.int .i64 t)) (self wd own : Int) :
    Calls Tryz.prog 63 #[tbV self wd own (.slice ua un uc), mkF qa] w fun r w' => ThAns w w' (es.filter (mkP e s t)) r ∧ Below w.heap.size w w' :=
  those_any h hn ⟨69, mkC qa, mkP e s t, enter_mk, fun x hx _ hbw => mask1_any he ((hbw.cell (p := ⟨qa, 0, none⟩) (block_lt_of_cell k0)).trans k0) ((hbw.cell (p := ⟨qa + 1, 0, none⟩) (block_lt_of_cell k1)).trans k1) ((hbw.cell (p := ⟨qa + 1 + 1, 0, none⟩) (block_lt_of_cell k2)).trans k2) ((h.n x hx).keep hbw (Nat.le_refl _))⟩ self wd own
end Go.Proofs.YtbggingacoheiaaGreatDoor
namespace Go.Proofs.YtbggingacoheiaaGreatDoor
open Go.RowKit

/-- The bits of entries. -/
def bitsN (L : List En) : Nat := L.foldl (fun N x => N ||| 2 ^ (x.1.2.1 - 1).toNat) 0
theorem bitsN_snoc (L : List En) (x : En) : bitsN (L ++ [x]) = bitsN L ||| 2 ^ (x.1.2.1 - 1).toNat := by simp [bitsN, List.foldl_append]
def mkOk (ok : Bool) (s t : Int) : Bool := ok && ((decide (0 ≤ s) && decide (s < 128)) && (decide (1 ≤ t) && decide (t ≤ 24)))
def mkN (ok : Bool) (e : Nat) (s t : Int) (es : List En) : Nat := if mkOk ok s t = true then bitsN (es.filter (mkP e s t)) else 0
theorem zeroBits (w : World) : (zeroValue 49).run Tryz.prog w = .ok (.agg #[.int .u64 0, .int .u64 0, .int .u64 0, .int .u64 0]) w := by kernel_rfl
theorem bs_zero : Bi.bs 0 = .agg #[.int .u64 0, .int .u64 0, .int .u64 0, .int .u64 0] := by
  unfold Bi.bs
  simp only [Bi.wd_zero]
  rfl
abbrev zO : Obj := .cells #[.int .u64 0, .int .u64 0, .int .u64 0, .int .u64 0] 49
theorem hasBs_zero {w : World} {b : Nat} (h : w.heap[b]? = some zO) : Bi.HasBs w b 0 := by
  refine ⟨?_, ?_, ?_, ?_, frozen_new h 0, frozen_new h 1, frozen_new h 2, frozen_new h 3, block_lt h⟩
  all_goals rw [Bi.wd_zero]
  · have := cell_of_row _ _ 0 _ _ _ h; simpa using this
  · have := cell_of_row _ _ 1 _ _ _ h; simpa using this
  · have := cell_of_row _ _ 2 _ _ _ h; simpa using this
  · have := cell_of_row _ _ 3 _ _ _ h; simpa using this
/-- Mask's blocks: the table, the set, the entropy, the neighbour, the answer. -/
theorem five_new (w : World) (A B C D E : Obj) : ∃ W, ((((w.alloc A).alloc B).alloc C).alloc D).alloc E = W ∧ Below w.heap.size w W ∧ W.heap[w.heap.size]? = some A ∧ W.heap[w.heap.size + 1]? = some B ∧ W.heap[w.heap.size + 1 + 1]? = some C ∧ W.heap[w.heap.size + 1 + 1 + 1]? = some D ∧ W.heap[w.heap.size + 1 + 1 + 1 + 1]? = some E := by
  refine ⟨_, rfl, ?_, ?_, ?_, ?_, ?_, ?_⟩
  · exact (((((Below.refl _ w).alloc (Nat.le_refl _) _).alloc (by simp) _).alloc (by simp <;> omega) _).alloc (by simp <;> omega) _).alloc (by simp <;> omega) _
  · rw [Below.heap_alloc _ _ _ (by simp <;> omega), Below.heap_alloc _ _ _ (by simp <;> omega), Below.heap_alloc _ _ _ (by simp <;> omega), Below.heap_alloc _ _ _ (by simp)]
    exact heap_alloc_last w A
  · rw [Below.heap_alloc _ _ _ (by simp <;> omega), Below.heap_alloc _ _ _ (by simp <;> omega), Below.heap_alloc _ _ _ (by simp)]
    have := heap_alloc_last (w.alloc A) B
    rwa [World.size_alloc] at this
  · rw [Below.heap_alloc _ _ _ (by simp <;> omega), Below.heap_alloc _ _ _ (by simp)]
    have := heap_alloc_last ((w.alloc A).alloc B) C
    rwa [World.size_alloc, World.size_alloc] at this
  · rw [Below.heap_alloc _ _ _ (by simp)]
    have := heap_alloc_last (((w.alloc A).alloc B).alloc C) D
    rwa [World.size_alloc, World.size_alloc, World.size_alloc] at this
  · have := heap_alloc_last ((((w.alloc A).alloc B).alloc C).alloc D) E
    rwa [World.size_alloc, World.size_alloc, World.size_alloc, World.size_alloc] at this
set_option maxRecDepth 100000 in
set_option maxHeartbeats 8000000 in
theorem tmask_any {e : Nat} (he : e < 4294967296) {es : List En} {u : Value} {w : World} (h : EnAt w u es) (ht : Wid w) (self width own s t : Int) :
    Calls Tryz.prog 24 #[tbV self width own u, .int .i64 s, .int .u32 e, .int .i64 t] w fun r w' => r = .returned (.tuple #[Bi.bs (mkN (tbB self width own (toT es)) e s t es), .int .i64 (ckT (mkOk (tbB self width own (toT es)) s t))]) ∧ Below w.heap.size w w' := by
  obtain ⟨ua, uc, rfl, hul, _, _⟩ := h.op
  obtain ⟨ln, hln⟩ : ∃ ln, es.length = ln := ⟨_, rfl⟩
  rw [hln] at h hul ⊢
  obtain ⟨W1, hW1, hb, hA, hB1, hB2, hB3, hZ⟩ := five_new w (tbO self width own (.slice ua ln uc)) (.cells #[.int .i64 s] 3) (.cells #[.int .u32 e] 37) (.cells #[.int .i64 t] 3) zO
  obtain ⟨q, hq⟩ : ∃ q, w.heap.size = q := ⟨_, rfl⟩
  rw [hq] at hA hB1 hB2 hB3 hZ
  have HE1 := hidIn (h.keep hb (Nat.le_refl _))
  have HCk := hidIn (tcheck_any (h.keep hb (Nat.le_refl _)) (ht.keep hb) self width own)
  have HB := hidIn hb
  have Hq := hidIn hq
  obtain ⟨ok, hok⟩ : ∃ ok, tbB self width own (toT es) = ok := ⟨_, rfl⟩
  rw [hok] at HCk ⊢
  have Hln := hidIn hln
  have Hok : Hid (ok = true → TbOk self width own (toT es)) := hidIn fun h => tbB_iff.1 (hok.trans h)
  obtain ⟨MN, hMN⟩ : ∃ MN, mkN ok e s t es = MN := ⟨_, rfl⟩
  obtain ⟨mo, hmo⟩ : ∃ mo, mkOk ok s t = mo := ⟨_, rfl⟩
  have HMN : Hid (MN = if mo = true then bitsN (es.filter (mkP e s t)) else 0) := hidIn (by rw [← hMN, ← hmo]; rfl)
  have Hmo : Hid (mo = (ok && ((decide (0 ≤ s) && decide (s < 128)) && (decide (1 ≤ t) && decide (t ≤ 24))))) := hidIn (by rw [← hmo]; rfl)
  rw [hMN, hmo]
  have d0 := cell_of_row _ _ 0 _ _ _ hA
  have d1 := cell_of_row _ _ 1 _ _ _ hA
  have d2 := cell_of_row _ _ 2 _ _ _ hA
  have d3 := cell_of_row _ _ 3 _ _ _ hA
  simp at d0 d1 d2 d3
  have HA := hidIn hA
  have HZ := hidIn hZ
  have Hs : Hid (W1.cell? ⟨q + 1, 0, none⟩ = some (.int .i64 s) ∧ W1.cell? ⟨q + 1 + 1, 0, none⟩ = some (.int .u32 e) ∧ W1.cell? ⟨q + 1 + 1 + 1, 0, none⟩ = some (.int .i64 t) ∧ q + 1 + 1 + 1 + 1 < W1.heap.size) := hidIn ⟨by have := cell_of_row _ _ 0 _ _ _ hB1; simpa using this, by have := cell_of_row _ _ 0 _ _ _ hB2; simpa using this, by have := cell_of_row _ _ 0 _ _ _ hB3; simpa using this, block_lt hZ⟩
  have HW := hidIn hW1
  have zt := zeroBits
  obtain ⟨p0, hp0⟩ : ∃ p, (decide (0 ≤ s) && decide (s < 128)) = p := ⟨_, rfl⟩
  obtain ⟨p1, hp1⟩ : ∃ p, (decide (1 ≤ t) && decide (t ≤ 24)) = p := ⟨_, rfl⟩
  have HS : Hid (∀ w', Calls Tryz.prog 68 #[.int .i64 s] w' fun e w'' => e = .returned (.bool p0) ∧ w'' = w') := hidIn fun w' => by rw [← hp0]; exact tisS_any s w'
  have HO : Hid (∀ w', Calls Tryz.prog 40 #[.int .i64 t] w' fun e w'' => e = .returned (.bool p1) ∧ w'' = w') := hidIn fun w' => by rw [← hp1]; exact tisR_any t w'
  rw [hp0, hp1] at Hmo
  clear hb hA hB1 hB2 hB3 hZ hok hW1 h ht hln hMN hmo hp0 hp1
  go_enter Tryz.func24, Tryz.ntmps24
  go_upto_region 1 with fail
  rw [HW.out]
  clear HW hq
  go_wp2_with fail
  refine HCk.out.mono ?_
  rintro r w2 ⟨rfl, hb2⟩
  have HB2 := hidIn hb2
  have hZ2 := (hb2.block _ (block_lt HZ.out)).trans HZ.out
  have hA2 := (hb2.block _ (block_lt HA.out)).trans HA.out
  have k0 := (hb2.cell (p := ⟨q + 1, 0, none⟩) (by have := Hs.out.2.2.2; show q + 1 < _; omega)).trans Hs.out.1
  have k1 := (hb2.cell (p := ⟨q + 1 + 1, 0, none⟩) (by have := Hs.out.2.2.2; show q + 1 + 1 < _; omega)).trans Hs.out.2.1
  have k2 := (hb2.cell (p := ⟨q + 1 + 1 + 1, 0, none⟩) (by have := Hs.out.2.2.2; show q + 1 + 1 + 1 < _; omega)).trans Hs.out.2.2.1
  have hbz := hasBs_zero hZ2
  obtain ⟨z0, z1, z2, z3, y0, y1, y2, y3, yl⟩ := hbz
  simp only [Bi.wd_zero, Int.natCast_zero] at z0 z1 z2 z3
  have HZ2 := hidIn hZ2
  have HA2 := hidIn hA2
  have hc2 := HB.out.trans (HB2.out.mono HB.out.size)
  have HBad0 : Hid (Bi.HasBs (Bi.World.putBs w2 (q + 1 + 1 + 1 + 1) 0) (q + 1 + 1 + 1 + 1) 0 ∧ Below w.heap.size w (Bi.World.putBs w2 (q + 1 + 1 + 1 + 1) 0)) := hidIn ⟨(hasBs_zero hZ2).put 0, Bi.below_put hc2 (by have := Hq.out; omega)⟩
  have Hc2 := hidIn hc2
  clear hb2 HCk d0 d1 d2 d3 hZ2 hA2 hc2
  have HBad : Hid (Bi.HasBs ((((w2.setCell ⟨q + 1 + 1 + 1 + 1, 0, none⟩ (.int .u64 0)).setCell ⟨q + 1 + 1 + 1 + 1, 1, none⟩ (.int .u64 0)).setCell ⟨q + 1 + 1 + 1 + 1, 2, none⟩ (.int .u64 0)).setCell ⟨q + 1 + 1 + 1 + 1, 3, none⟩ (.int .u64 0)) (q + 1 + 1 + 1 + 1) 0 ∧ Below w.heap.size w ((((w2.setCell ⟨q + 1 + 1 + 1 + 1, 0, none⟩ (.int .u64 0)).setCell ⟨q + 1 + 1 + 1 + 1, 1, none⟩ (.int .u64 0)).setCell ⟨q + 1 + 1 + 1 + 1, 2, none⟩ (.int .u64 0)).setCell ⟨q + 1 + 1 + 1 + 1, 3, none⟩ (.int .u64 0))) := hidIn (by
    have := HBad0.out
    simp only [Bi.World.putBs, Bi.wd_zero, Int.natCast_zero] at this
    exact this)
  clear HBad0
  cases ok
  · have HM0 : Hid (MN = 0 ∧ mo = false) := hidIn (by
      have h1 : mo = false := by rw [Hmo.out]; rfl
      exact ⟨by rw [HMN.out, h1]; rfl, h1⟩)
    go_wp2_with fail
    obtain ⟨hE1, hE2⟩ := HBad.out
    generalize (((World.setCell _ _ _).setCell _ _).setCell _ _).setCell _ _ = W9 at hE1 hE2 ⊢
    obtain ⟨r0, r1, r2, r3, _, _, _, _, _⟩ := hE1
    simp only [Bi.wd_zero, Int.natCast_zero] at r0 r1 r2 r3
    exact bodyPost_ret (v := .tuple #[.agg #[.int .u64 0, .int .u64 0, .int .u64 0, .int .u64 0], .int .i64 2]) (by simp [results, Tryz.results24, asAddr, Result.andThen, go_sem, r0, r1, r2, r3]) rfl ⟨by rw [HM0.out.1, HM0.out.2, bs_zero]; rfl, hE2⟩
  go_wp2_with fail
  refine (HS.out w2).mono ?_
  rintro r w3 ⟨rfl, hw3⟩
  rw [hw3]
  clear hw3 w3 HS
  cases p0
  · have HM0 : Hid (MN = 0 ∧ mo = false) := hidIn (by
      have h1 : mo = false := by rw [Hmo.out]; rfl
      exact ⟨by rw [HMN.out, h1]; rfl, h1⟩)
    go_wp2_with fail
    obtain ⟨hE1, hE2⟩ := HBad.out
    generalize (((World.setCell _ _ _).setCell _ _).setCell _ _).setCell _ _ = W9 at hE1 hE2 ⊢
    obtain ⟨r0, r1, r2, r3, _, _, _, _, _⟩ := hE1
    simp only [Bi.wd_zero, Int.natCast_zero] at r0 r1 r2 r3
    exact bodyPost_ret (v := .tuple #[.agg #[.int .u64 0, .int .u64 0, .int .u64 0, .int .u64 0], .int .i64 2]) (by simp [results, Tryz.results24, asAddr, Result.andThen, go_sem, r0, r1, r2, r3]) rfl ⟨by rw [HM0.out.1, HM0.out.2, bs_zero]; rfl, hE2⟩
  go_wp2_with fail
  refine (HO.out w2).mono ?_
  rintro r w3 ⟨rfl, hw3⟩
  rw [hw3]
  clear hw3 w3 HO
  cases p1
  · have HM0 : Hid (MN = 0 ∧ mo = false) := hidIn (by
      have h1 : mo = false := by rw [Hmo.out]; rfl
      exact ⟨by rw [HMN.out, h1]; rfl, h1⟩)
    go_wp2_with fail
    obtain ⟨hE1, hE2⟩ := HBad.out
    generalize (((World.setCell _ _ _).setCell _ _).setCell _ _).setCell _ _ = W9 at hE1 hE2 ⊢
    obtain ⟨r0, r1, r2, r3, _, _, _, _, _⟩ := hE1
    simp only [Bi.wd_zero, Int.natCast_zero] at r0 r1 r2 r3
    exact bodyPost_ret (v := .tuple #[.agg #[.int .u64 0, .int .u64 0, .int .u64 0, .int .u64 0], .int .i64 2]) (by simp [results, Tryz.results24, asAddr, Result.andThen, go_sem, r0, r1, r2, r3]) rfl ⟨by rw [HM0.out.1, HM0.out.2, bs_zero]; rfl, hE2⟩
  have HM1 : Hid (MN = bitsN (es.filter (mkP e s t)) ∧ mo = true) := hidIn (by
    have h1 : mo = true := by rw [Hmo.out]; rfl
    exact ⟨by rw [HMN.out, h1]; rfl, h1⟩)
  have HOk := hidIn (Hok.out (by trivial))
  obtain ⟨W3, hW3⟩ : ∃ W3, w2.alloc zO = W3 := ⟨_, rfl⟩
  have b3 : Below w2.heap.size w2 W3 := by rw [← hW3]; exact (Below.refl _ w2).alloc (Nat.le_refl _) _
  have hz3 : W3.heap[w2.heap.size]? = some zO := by rw [← hW3]; exact heap_alloc_last w2 _
  have hs3 : W3.heap.size = w2.heap.size + 1 := by rw [← hW3, World.size_alloc]
  obtain ⟨q3, hq3⟩ : ∃ q3, w2.heap.size = q3 := ⟨_, rfl⟩
  rw [hq3] at hz3 hs3
  have hA3 := (b3.block _ (block_lt HA2.out)).trans HA2.out
  have d0 := cell_of_row _ _ 0 _ _ _ hA3
  have d1 := cell_of_row _ _ 1 _ _ _ hA3
  have d2 := cell_of_row _ _ 2 _ _ _ hA3
  have d3 := cell_of_row _ _ 3 _ _ _ hA3
  simp at d0 d1 d2 d3
  have hE3 := (HE1.out.keep HB2.out (Nat.le_refl _)).keep b3 (Nat.le_refl _)
  have HTh := hidIn (thoseMk_any he hE3 (by have := HOk.out.parts.1; rw [List.length_map] at this; omega) ((b3.cell (p := ⟨q + 1, 0, none⟩) (block_lt_of_cell k0)).trans k0) ((b3.cell (p := ⟨q + 1 + 1, 0, none⟩) (block_lt_of_cell k1)).trans k1) ((b3.cell (p := ⟨q + 1 + 1 + 1, 0, none⟩) (block_lt_of_cell k2)).trans k2) self width own)
  have HZ3 := hidIn ((b3.block _ (block_lt HZ2.out)).trans HZ2.out)
  have Hm3 := hidIn hz3
  have Hqq : Hid (q + 1 + 1 + 1 + 1 < q3 ∧ q3 < W3.heap.size ∧ w.heap.size ≤ q) := hidIn ⟨by rw [← hq3]; exact block_lt HZ2.out, by omega, Nat.le_of_eq Hq.out⟩
  have Hc3 := hidIn (Hc2.out.trans (b3.mono Hc2.out.size))
  have HW3 := hidIn hW3
  have HFb : Hid (∀ x ∈ es.filter (mkP e s t), 1 ≤ x.1.2.1 ∧ x.1.2.1 ≤ 256) := hidIn fun x hx => by
    have h1 := (enB_ok.1 (HOk.out.parts.2.1 (toE x) (List.mem_map.2 ⟨x, (List.mem_filter.1 hx).1, rfl⟩))).2.1
    have h2 := HOk.out.w
    unfold IsW at h2
    show 1 ≤ x.1.2.1 ∧ x.1.2.1 ≤ 256
    have h3 : 1 ≤ x.1.2.1 ∧ x.1.2.1 ≤ width := h1
    omega
  obtain ⟨FL, hFL⟩ : ∃ FL, es.filter (mkP e s t) = FL := ⟨_, rfl⟩
  have hFn : FL.length ≤ 24 := by
    rw [← hFL]
    have h1 := HOk.out.parts.1
    rw [List.length_map] at h1
    exact Nat.le_trans (List.length_filter_le _ _) h1
  rw [hFL] at HTh HM1 HFb
  clear hFL b3 hz3 hs3 hA3 hE3 hW3 k0 k1 k2 z0 z1 z2 z3 y0 y1 y2 y3 yl HBad
  go_upto_region 4 with fail
  rw [HW3.out]
  clear HW3 hq3
  go_wp2_with fail
  refine HTh.out.mono ?_
  rintro r w5 ⟨⟨fa, fc, rfl, hrow⟩, hb5⟩
  have hm5 : Bi.HasBs w5 q3 (bitsN []) := (hasBs_zero Hm3.out).keep hb5 Hqq.out.2.1
  have hZ5 := (hb5.block _ (block_lt HZ3.out)).trans HZ3.out
  have Hc5 := hidIn (Hc3.out.trans (hb5.mono Hc3.out.size))
  have HRow := hidIn hrow
  have HM5 := hidIn hm5
  have HZ5 := hidIn hZ5
  have Hs5 : Hid (W3.heap.size ≤ w5.heap.size) := hidIn hb5.size
  obtain ⟨n, hn⟩ : ∃ n, FL.length = n := ⟨_, rfl⟩
  have Hn := hidIn hn
  rw [hn] at hFn HRow ⊢
  clear hm5 hZ5 hrow hb5 HTh hn d0 d1 d2 d3
  go_wp2_with fail
  go_loopw [31] (fun i wz => ∃ k : Nat, k ≤ n ∧ i = .int .i64 k ∧ Hid (Fr (fun j => j = q3) w5 wz ∧ Bi.HasBs wz q3 (bitsN (FL.take k)))) (fun i _ => n - (intOf i).toNat)
  case atStart => exact ⟨0, Nat.zero_le _, rfl, hidIn ⟨Fr.refl _ _, HM5.out⟩⟩
  case round =>
    clear HM5
    obtain ⟨k, hk, rfl, HI⟩ := hrel
    obtain ⟨hF, hM⟩ := HI.out
    clear HI
    by_cases hlt : k < n
    · have hki : (k : Int) < (n : Int) := by omega
      have hrz := row_fr HRow.out hF fun j hj e => by have := (HRow.out.lt j hj).1; have := Hqq.out.2.1; omega
      obtain ⟨a', c', hee, _, _, hcl⟩ := (slAt_of_row (cs := rwcs) (fun _ => rfl) hrz (by rw [List.length_map]; exact Hn.out)).rws
      obtain ⟨bk, o, h1, hbk, hcell⟩ := hcl (by rw [List.length_map]; have := Hn.out; omega)
      simp only [Value.slice.injEq] at hee
      obtain ⟨hea, hxx, hyy⟩ := hee
      rw [h1] at hea
      subst hea
      clear hxx hyy h1
      obtain ⟨x, hx⟩ : ∃ x, FL[k]? = some x := ⟨FL[k]'(by have := Hn.out; omega), List.getElem?_eq_getElem _⟩
      obtain ⟨e0, e1, e2, e3⟩ := hcell k x.1 (by rw [List.getElem?_map, hx]; rfl)
      have hxb := HFb.out x (List.mem_of_getElem? hx)
      have HTk : Hid (bitsN (FL.take (k + 1)) = bitsN (FL.take k) ||| 2 ^ (x.1.2.1 - 1).toNat) := hidIn (by rw [take_snoc hx, bitsN_snoc])
      obtain ⟨⟨x0, x1, x2, x3, x4, x5⟩, xn⟩ := x
      simp only at e0 e1 e2 e3 hxb HTk
      obtain ⟨m, rfl⟩ : ∃ m : Nat, x1 = (m : Int) + 1 := ⟨(x1 - 1).toNat, by omega⟩
      rw [show ((m : Int) + 1 - 1).toNat = m by omega] at HTk
      obtain ⟨NN, hNN⟩ : ∃ NN, bitsN (FL.take k) = NN := ⟨_, rfl⟩
      rw [hNN] at hM HTk
      obtain ⟨W6, hW6⟩ : ∃ W6, wr.alloc (enO x0 ((m : Int) + 1) x2 (.slice x3 x4 x5)) = W6 := ⟨_, rfl⟩
      have b6 : Below wr.heap.size wr W6 := by rw [← hW6]; exact (Below.refl _ wr).alloc (Nat.le_refl _) _
      have hz6 : W6.heap[wr.heap.size]? = some (enO x0 ((m : Int) + 1) x2 (.slice x3 x4 x5)) := by rw [← hW6]; exact heap_alloc_last wr _
      obtain ⟨q6, hq6⟩ : ∃ q6, wr.heap.size = q6 := ⟨_, rfl⟩
      rw [hq6] at hz6
      have hM6 := hM.keep b6 hM.lt
      have t1 := cell_of_row _ _ 1 _ _ _ hz6
      simp at t1
      have HWi := hidIn (Bi.with_yes NN m (by omega) W6)
      have HM6 := hidIn hM6
      obtain ⟨c0, c1, c2, c3, _, _, _, _, _⟩ := hM6
      have HF6 := hidIn (hF.trans (Fr.of_below b6))
      have HW6 := hidIn hW6
      clear hrz hcl hcell hx hbk hF hM hW6 b6 hz6 hNN hxb
      go_upto_region 7 with fail
      rw [HW6.out]
      clear HW6 hq6 e0 e1 e2 e3
      go_wp2_with fail
      refine HWi.out.mono ?_
      rintro r w7 ⟨rfl, hb7⟩
      have hM7 := HM6.out.keep hb7 HM6.out.lt
      have hF7 := HF6.out.trans (Fr.of_below hb7)
      have HN7 : Hid (Bi.HasBs (Bi.World.putBs w7 q3 (NN ||| 2 ^ m)) q3 (bitsN (FL.take (k + 1))) ∧ Fr (fun j => j = q3) w5 (Bi.World.putBs w7 q3 (NN ||| 2 ^ m))) := hidIn ⟨by rw [HTk.out]; exact hM7.put _, (((hF7.set (p := ⟨q3, 0, none⟩) rfl _).set (p := ⟨q3, 1, none⟩) rfl _).set (p := ⟨q3, 2, none⟩) rfl _).set (p := ⟨q3, 3, none⟩) rfl _⟩
      obtain ⟨g0, g1, g2, g3, g4, g5, g6, g7, g8⟩ := hM7
      clear hb7 hF7 HWi c0 c1 c2 c3 t1
      go_wp2_with fail
      go_roundw
      case rel => exact ⟨k + 1, by omega, by go_num, hidIn ⟨HN7.out.2, HN7.out.1⟩⟩
      case measure => simp [intOf]; omega
    · have hki : ¬ ((k : Int) < (n : Int)) := by omega
      rw [List.take_of_length_le (by have := Hn.out; omega), ← HM1.out.1] at hM
      have hq8 := Hqq.out
      have hZr := (hF.block _ (Nat.lt_of_lt_of_le (by omega : q + 1 + 1 + 1 + 1 < W3.heap.size) Hs5.out) (by show ¬ q + 1 + 1 + 1 + 1 = q3; omega)).trans HZ5.out
      have hb8 := (hasBs_zero hZr)
      have HE : Hid (Bi.HasBs (Bi.World.putBs wr (q + 1 + 1 + 1 + 1) MN) (q + 1 + 1 + 1 + 1) MN ∧ Below w.heap.size w (Bi.World.putBs wr (q + 1 + 1 + 1 + 1) MN)) := hidIn ⟨hb8.put MN, Bi.below_put (Hc5.out.trans (hF.below Hc5.out.size fun j hj => by omega)) (by omega)⟩
      obtain ⟨c0, c1, c2, c3, _, _, _, _, _⟩ := hM
      obtain ⟨g0, g1, g2, g3, g4, g5, g6, g7, g8⟩ := hb8
      clear hF hZr
      go_wp2_with fail
      obtain ⟨hE1, hE2⟩ := HE.out
      dsimp only [Bi.World.putBs] at hE1 hE2
      generalize (((World.setCell _ _ _).setCell _ _).setCell _ _).setCell _ _ = W9 at hE1 hE2 ⊢
      obtain ⟨r0, r1, r2, r3, _, _, _, _, _⟩ := hE1
      exact bodyPost_ret (v := .tuple #[Bi.bs MN, .int .i64 0]) (by simp [results, Tryz.results24, asAddr, Result.andThen, go_sem, r0, r1, r2, r3]) rfl ⟨by rw [HM1.out.2]; rfl, hE2⟩
end Go.Proofs.YtbggingacoheiaaGreatDoor
