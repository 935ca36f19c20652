/- Spread. -/
import Derived.Test.YtcgndpenalcpeaaD5
import Derived.Test.YtcgndpenalcpeaaDS
namespace Go.Proofs.Ytcgndpenalcpeaa
open Go.RowKit

/-- The cells of an array of 25 numbers. -/
def acl (g : Nat → Int) : List Value := (List.range 25).map fun i => .int .i64 (g i)
theorem acl_len (g : Nat → Int) : (acl g).length = 25 := by simp [acl]
theorem acl_get (g : Nat → Int) {j : Nat} (h : j < 25) : (acl g)[j]? = some (.int .i64 (g j)) := by
  simp only [acl, List.getElem?_map]; rw [List.getElem?_range h]; rfl
theorem acl_set (g f : Nat → Int) {n : Nat} {v : Int} (hv : f n = v) (ho : ∀ j, j ≠ n → f j = g j) : (acl g).set n (.int .i64 v) = acl f := by
  apply List.ext_getElem?
  intro j
  rw [List.getElem?_set]
  by_cases hj : j < 25
  · rw [acl_get _ hj, acl_get _ hj]
    by_cases hn : n = j
    · subst hn; rw [if_pos rfl, if_pos (by rw [acl_len]; exact hj), hv]
    · rw [if_neg hn, ho j (fun e => hn e.symm)]
  · rw [List.getElem?_eq_none (by rw [acl_len]; omega), List.getElem?_eq_none (by rw [acl_len]; omega), acl_len]
    by_cases hn : n = j
    · rw [if_pos hn, if_neg (by omega)]
    · rw [if_neg hn]
/-- A block holds just these numbers. -/
def ArrI (w : World) (b : Nat) (g : Nat → Int) : Prop := w.heap[b]? = some (.cells (acl g).toArray 49)
theorem ArrI.cell {w : World} {b : Nat} {g : Nat → Int} (h : ArrI w b g) {j : Nat} (hj : j < 25) : w.cell? ⟨b, j, none⟩ = some (.int .i64 (g j)) := by
  rw [cell_of_row w b j _ _ _ h, List.getElem?_toArray, acl_get g hj]
theorem ArrI.keep {w w' : World} {b B : Nat} {g : Nat → Int} (h : ArrI w b g) (k : Below B w w') (hB : b < B) : ArrI w' b g := (k.block b hB).trans h
theorem ArrI.set {w : World} {b : Nat} {g f : Nat → Int} (h : ArrI w b g) {n : Nat} {v : Int} (hv : f n = v) (ho : ∀ j, j ≠ n → f j = g j) : ArrI (w.setCell ⟨b, n, none⟩ (.int .i64 v)) b f := by
  have := heap_setCell_same w b n _ _ (.int .i64 v) h
  unfold ArrI
  rw [this, ← acl_set g f hv ho]
  simp
theorem below_set {B : Nat} {w V : World} (h : Below B w V) {p : Addr} (hp : B ≤ p.block) (u : Value) : Below B w (V.setCell p u) :=
  ⟨h.os, h.tape, h.output, by simpa [World.setCell] using h.size, fun k hk => (Below.heap_setCell _ _ _ _ (by omega)).trans (h.block k hk)⟩
set_option maxRecDepth 100000 in
set_option maxHeartbeats 2000000 in
theorem spread_any {l : List Int} {v : Value} {w : World} (h : SlAt ic 1 w v l) (n : Int) (hnw : n < 9223372036854775808) :
    Calls Try.prog 17 #[v, .int .i64 n] w fun r w' => ∃ a cap, r = .returned (.tuple #[.slice a (spL l n).length cap, .int .i64 (spE l n)]) ∧ w'.ownsRow w.heap.size 3 1 (.slice a (spL l n).length cap) (spL l n).length (fl ic (spL l n)) ∧ Below w.heap.size w w' := by
  have HN := hidIn (areNb_any h)
  have HSl := hidIn h
  obtain ⟨a, cap, rfl, hjunk⟩ := h
  clear hjunk
  by_cases hbad : nbOk l = true ∧ 0 ≤ n
  · obtain ⟨hnb, h0⟩ := hbad
    rw [hnb] at HN
    have hn0 : ¬ n < 0 := by omega
    by_cases h4 : n ≤ 4096
    · obtain ⟨N, hNn⟩ : ∃ N : Nat, n = N := ⟨n.toNat, by omega⟩
      have HE := hidIn (sp_yes N hnb (by omega))
      rw [← hNn] at HE
      have HNn := hidIn hNn
      have hg4 : ¬ (4096 : Int) < n := by omega
      clear hNn h4
      by_cases hz : l.length = 0
      · have hl0 : l = [] := List.length_eq_zero_iff.1 hz
        rw [HE.out.1, HE.out.2, spr_nil hz N]
        subst hl0
        simp only [List.length_nil] at HN ⊢
        clear hz hnb HE HSl
        go_enter Try.func17, Try.ntmps17
        go_wp2_with fail
        refine HN.out.mono ?_
        rintro x w1 ⟨rfl, hw1⟩
        rw [hw1]
        clear hw1 w1 HN
        go_wp2_with fail
        go_ret2
        exact ⟨none, 0, rfl, World.ownsRow_nil _ _ _ _, Below.refl _ _⟩
      · have hzb : ((l.length : Int) == 0) = false := by rw [beq_eq_false_iff_ne]; omega
        have hne : l ≠ [] := fun e => hz (by rw [e]; rfl)
        have HNb := hidIn (fun k => nb_in hnb (best_ok (mix k) hne).1)
        have HIn := hidIn (fun x (hx : x ∈ l) => nb_in hnb hx)
        have hN : N ≤ 4096 := by have := HNn.out; omega
        have hwn : IntKind.u32.wrap n = (N : Int) := by have := HNn.out; rw [IntKind.wrap_u32]; omega
        rw [HE.out.1, HE.out.2]
        obtain ⟨ln, hln⟩ : ∃ ln, l.length = ln := ⟨_, rfl⟩
        have h24 := nb_len hnb
        rw [hln] at hzb HN HSl h24 ⊢
        have Hln := hidIn hln
        have Hpos : Hid (0 < l.length) := hidIn (by omega)
        have HA0 : Hid (ArrI (w.alloc (.cells #[.int .i64 0, .int .i64 0, .int .i64 0, .int .i64 0, .int .i64 0, .int .i64 0, .int .i64 0, .int .i64 0, .int .i64 0, .int .i64 0, .int .i64 0, .int .i64 0, .int .i64 0, .int .i64 0, .int .i64 0, .int .i64 0, .int .i64 0, .int .i64 0, .int .i64 0, .int .i64 0, .int .i64 0, .int .i64 0, .int .i64 0, .int .i64 0, .int .i64 0] 49)) w.heap.size fun j => ((cntE l 0 (j : Int) : Nat) : Int)) := hidIn (heap_alloc_last w _)
        have HBA := hidIn ((Below.refl w.heap.size w).alloc (Nat.le_refl _) (.cells #[.int .i64 0, .int .i64 0, .int .i64 0, .int .i64 0, .int .i64 0, .int .i64 0, .int .i64 0, .int .i64 0, .int .i64 0, .int .i64 0, .int .i64 0, .int .i64 0, .int .i64 0, .int .i64 0, .int .i64 0, .int .i64 0, .int .i64 0, .int .i64 0, .int .i64 0, .int .i64 0, .int .i64 0, .int .i64 0, .int .i64 0, .int .i64 0, .int .i64 0] 49))
        clear hz hnb hne hln
        go_enter Try.func17, Try.ntmps17
        go_wp2_with fail
        refine HN.out.mono ?_
        rintro x w1 ⟨rfl, hw1⟩
        rw [hw1]
        clear hw1 w1 HN
        go_wp2_with fail
        generalize World.alloc _ _ = W1 at HA0 HBA ⊢
        go_loopw [25] (fun i wr => ∃ k : Nat, k ≤ N ∧ i = .int .u32 k ∧ Hid (Below w.heap.size w wr ∧ ArrI wr w.heap.size fun j => ((cntE l k (j : Int) : Nat) : Int))) (fun i _ => N - (intOf i).toNat)
        case atStart => exact ⟨0, Nat.zero_le _, rfl, hidIn ⟨HBA.out, HA0.out⟩⟩
        case round =>
          clear HA0 HBA
          obtain ⟨k, hk, rfl, HR⟩ := hrel
          by_cases hlt : k < N
          · have hki : (k : Int) < (N : Int) := by omega
            have HFi := hidIn (first_any (e := k) (by omega) (HSl.out.keep HR.out.1 (Nat.le_refl _)) Hpos.out)
            have hb := HNb.out k
            obtain ⟨b, hbb⟩ : ∃ b : Nat, best (mix k) l = (b : Int) := ⟨(best (mix k) l).toNat, by omega⟩
            rw [hbb] at HFi hb
            have HN1 := hidIn (fun x => cntE_succ l k x)
            have HLe := hidIn (fun x => cntE_le l k x)
            rw [hbb] at HN1
            clear hbb
            go_wp2_with fail
            refine HFi.out.mono ?_
            rintro x w2 ⟨rfl, hb2⟩
            have hA2 := HR.out.2.keep hb2 (block_lt HR.out.2)
            have c0 := hA2.cell (j := b) (by omega)
            have f0 := frozen_new hA2 b
            have hcb := HLe.out (b : Int)
            obtain ⟨c, hc⟩ : ∃ c : Nat, cntE l k (b : Int) = c := ⟨_, rfl⟩
            rw [hc] at c0 hcb
            have hb0 : (0 : Int) ≤ (b : Int) := by omega
            have hb25 : (b : Int) < 25 := by omega
            have HA3 : Hid (ArrI (w2.setCell ⟨w.heap.size, b, none⟩ (.int .i64 ((c : Int) + 1))) w.heap.size fun j => ((cntE l (k + 1) (j : Int) : Nat) : Int)) := hidIn (hA2.set (by
              rw [HN1.out, if_pos rfl, hc]; omega) (fun j hj => by rw [HN1.out, if_neg (by omega), Nat.add_zero]))
            have HB3 := hidIn (below_set (HR.out.1.trans (hb2.mono HR.out.1.size)) (p := ⟨w.heap.size, b, none⟩) (Nat.le_refl _) (.int .i64 ((c : Int) + 1)))
            clear hb2 hA2 hb hc HFi HLe HN1 HR
            go_wp2_with fail
            go_roundw
            case rel => exact ⟨k + 1, by omega, by go_num, hidIn ⟨HB3.out, HA3.out⟩⟩
            case measure => simp [intOf]; omega
          · have hki : ¬ (k : Int) < (N : Int) := by omega
            have hkN : k = N := by omega
            rw [hkN] at HR
            generalize wr = w5 at *
            clear hlt hk hkN
            go_wp2_with fail
            go_loopw [8, 38] (fun u i wz => ∃ p : Nat, p ≤ ln ∧ i = .int .i64 p ∧ (∃ a c, u = .slice a p c) ∧ Hid (Below w5.heap.size w5 wz ∧ wz.ownsRow w5.heap.size 3 1 u p (fl ic ((sprL l N).take p)))) (fun _ i _ => ln - (intOf i).toNat)
            case atStart => exact ⟨0, Nat.zero_le _, rfl, ⟨none, 0, rfl⟩, hidIn ⟨Below.refl _ _, by rw [List.take_zero]; exact World.ownsRow_nil _ _ _ _⟩⟩
            case round =>
              obtain ⟨p, hp, rfl, ⟨ua, uc, rfl⟩, HZ⟩ := hrel
              by_cases hpl : p < ln
              · obtain ⟨hb3, hr3⟩ := HZ.out
                obtain ⟨hb1, hA⟩ := HR.out
                obtain ⟨a5, c5, he5, _, _, hat⟩ := HSl.out.ints
                obtain ⟨bk, o, rfl, hbk, hcell⟩ := hat Hpos.out
                simp only [Value.slice.injEq] at he5
                obtain ⟨rfl, h5a, h5b⟩ := he5
                obtain ⟨x, hx⟩ : ∃ x, l[p]? = some x := ⟨l[p]'(by have := Hln.out; omega), List.getElem?_eq_getElem _⟩
                have hxi := HIn.out x (List.mem_of_getElem? hx)
                obtain ⟨b, rfl⟩ : ∃ b : Nat, x = (b : Int) := ⟨x.toNat, by omega⟩
                have c0 := ((hb1.trans (hb3.mono hb1.size)).cell (p := ⟨bk, o + p, none⟩) hbk).trans (hcell p _ hx)
                have c1 := (hA.keep hb3 (block_lt hA)).cell (j := b) (by omega)
                have hb0 : (0 : Int) ≤ (b : Int) := by omega
                have hb25 : (b : Int) < 25 := by omega
                have hpi : (p : Int) < (ln : Int) := by omega
                have hs1 : (sprL l N)[p]? = some ((cntE l N (b : Int) : Nat) : Int) := by simp [sprL, hx]
                generalize cntE l N (b : Int) = c at c1 hs1
                obtain ⟨g, gc, w6, hrun, hown, _, hgr, hb6⟩ := append_int hr3 (c : Int) (by omega) hb3.size
                have HO : Hid (Below w5.heap.size w5 w6 ∧ w6.ownsRow w5.heap.size 3 1 (.slice (some ⟨g, 0, none⟩) (p + 1) gc) (p + 1) (fl ic ((sprL l N).take (p + 1)))) := hidIn ⟨hb3.trans hb6, by rw [take_snoc hs1]; exact hown⟩
                · have HRun := hidIn hrun
                  clear hb3 hr3 hb1 hA hat hcell h5a h5b hx hxi hs1 hrun hown hgr hb6 HZ
                  go_wp2_with (refine l_append rfl _ _ 23 rfl HRun.out ?_)
                  go_roundw
                  case rel => exact ⟨p + 1, by omega, by go_num, ⟨_, gc, rfl⟩, HO⟩
                  case measure => simp [intOf]; omega
              · have hpi : ¬ (p : Int) < (ln : Int) := by omega
                have hpe : p = ln := by omega
                have HE2 : Hid ((sprL l N).length = p ∧ (sprL l N).take p = sprL l N) := hidIn (by
                  have h1 : (sprL l N).length = p := by rw [spr_len, hpe]; exact Hln.out
                  exact ⟨h1, List.take_of_length_le (by omega)⟩)
                have HR2 := hidIn (HR.out.1)
                clear hpe HR
                go_wp2_with fail
                go_ret2
                refine ⟨ua, uc, by rw [HE2.out.1]; rfl, ?_, HR2.out.trans (HZ.out.1.mono HR2.out.size)⟩
                rw [HE2.out.1]
                have := row_low HZ.out.2 HR2.out.size
                rw [HE2.out.2] at this
                exact this
    · have HE := hidIn (sp_long hnb h0 h4)
      have hg4 : (4096 : Int) < n := by omega
      rw [HE.out.1, HE.out.2]
      generalize l.length = ln at *
      clear hnb
      go_enter Try.func17, Try.ntmps17
      go_wp2_with fail
      refine HN.out.mono ?_
      rintro x w1 ⟨rfl, hw1⟩
      rw [hw1]
      clear hw1 w1 HN
      go_wp2_with fail
      go_ret2
      exact ⟨none, 0, rfl, World.ownsRow_nil _ _ _ _, Below.refl _ _⟩
  · have HE := hidIn (sp_no hbad)
    rw [HE.out.1, HE.out.2]
    obtain ⟨bq, hbq⟩ : ∃ bq, nbOk l = bq := ⟨_, rfl⟩
    rw [hbq] at HN hbad
    generalize l.length = ln at *
    clear hbq
    cases bq
    · clear hbad
      go_enter Try.func17, Try.ntmps17
      go_wp2_with fail
      refine HN.out.mono ?_
      rintro x w1 ⟨rfl, hw1⟩
      rw [hw1]
      clear hw1 w1 HN
      go_wp2_with fail
      go_ret2
      exact ⟨none, 0, rfl, World.ownsRow_nil _ _ _ _, Below.refl _ _⟩
    · have hn0 : n < 0 := by simpa using hbad
      clear hbad
      go_enter Try.func17, Try.ntmps17
      go_wp2_with fail
      refine HN.out.mono ?_
      rintro x w1 ⟨rfl, hw1⟩
      rw [hw1]
      clear hw1 w1 HN
      go_wp2_with fail
      go_ret2
      exact ⟨none, 0, rfl, World.ownsRow_nil _ _ _ _, Below.refl _ _⟩
end Go.Proofs.Ytcgndpenalcpeaa
