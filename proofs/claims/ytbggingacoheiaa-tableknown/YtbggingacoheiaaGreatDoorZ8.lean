/- table.Neighbours. table.Build, where something is wrong. TableKnown: the walk. The law's world of seven routers, as lists; no order of records changes what Build answers (pure). The law's world in memory: the walk. Arguments of the table's laws: links of three small numbers, seven small numbers; the widths out of a row's list. -/
import Derived.Test.YtbggingacoheiaaGreatDoorZ7
import Derived.Test.YtbggingacoheiaaGreatDoorZ2
import Derived.Test.YtbggingacoheiaaGreatDoorZ3
import Derived.Test.YtbggingacoheiaaGreatDoorZ5
import Derived.Test.YtbggingacoheiaaGreatDoorV9
import Derived.Deep.RegionLaw
import Derived.Test.YtbggingacoheiaaGreatDoorGH
import Derived.Test.YtbggingacoheiaaGreatDoorRows
namespace Go.Proofs.YtbggingacoheiaaGreatDoor
open Go.RowKit

def nbP (s : Int) (x : En) : Bool := decide (x.1.1 = s)
abbrev nbC (B : Nat) : Array Value := #[.pointer (some ⟨B, 0, none⟩)]
abbrev nbF (B : Nat) : Value := .func (.func 72) #[] (nbC B)
theorem enter_nb (args : Array Value) (w : World) : (callFunc 72 args).run Tryz.prog w = .ok (.enter 72 args) w := by kernel_rfl
set_option maxRecDepth 100000 in
theorem nb1_any {s : Int} {B : Nat} {w : World} (h0 : w.cell? ⟨B, 0, none⟩ = some (.int .i64 s)) (x : En) :
    Calls Tryz.prog 72 (#[enV x.1] ++ nbC B) w fun r w' => r = .returned (.bool (nbP s x)) ∧ Below w.heap.size w w' := by
  obtain ⟨⟨a0, a1, a2, a3, a4, a5⟩, an⟩ := x
  have hlt0 := block_lt_of_cell h0
  simp only at hlt0
  obtain ⟨W1, hW1⟩ : ∃ W1, w.alloc (enO a0 a1 a2 (.slice a3 a4 a5)) = W1 := ⟨_, rfl⟩
  have hb : Below w.heap.size w W1 := by rw [← hW1]; exact (Below.refl _ w).alloc (Nat.le_refl _) _
  have hA : W1.heap[w.heap.size]? = some (enO a0 a1 a2 (.slice a3 a4 a5)) := by rw [← hW1]; exact heap_alloc_last w _
  obtain ⟨q, hq⟩ : ∃ q, w.heap.size = q := ⟨_, rfl⟩
  have HB := hidIn hb
  have k0 := (hb.cell (p := ⟨B, 0, none⟩) hlt0).trans h0
  rw [hq] at hA
  have t0 := cell_of_row _ _ 0 _ _ _ hA
  simp at t0
  obtain ⟨r, hr⟩ : ∃ r, nbP s (((a0, a1, a2, a3, a4, a5), an) : En) = r := ⟨_, rfl⟩
  have hr' : (a0 == s) = r := by rw [← hr]; unfold nbP; simp only; exact (Bool.beq_eq_decide_eq _ _)
  rw [hr]
  have HW := hidIn hW1
  clear hb hA hr hW1 h0 hlt0
  show Calls Tryz.prog 72 #[enV (a0, a1, a2, a3, a4, a5), .pointer (some ⟨B, 0, none⟩)] w _
  go_enter Tryz.func72, Tryz.ntmps72
  go_upto_region 1 with fail
  rw [HW.out]
  clear HW hq
  go_wp2_with fail
  go_ret
  exact ⟨rfl, HB.out⟩
theorem thoseNb_any {es : List En} {ua : Option Addr} {un uc qa : Nat} {s : Int} {w : World} (h : EnAt w (.slice ua un uc) es) (hn : es.length ≤ 100000) (k0 : w.cell? ⟨qa, 0, none⟩ = some (.int .i64 s)) (self wd own : Int) :
    Calls Tryz.prog 63 #[tbV self wd own (.slice ua un uc), nbF qa] w fun r w' => ThAns w w' (es.filter (nbP s)) r ∧ Below w.heap.size w w' :=
  those_any h hn ⟨72, nbC qa, nbP s, enter_nb, fun x _ _ hbw => nb1_any ((hbw.cell (p := ⟨qa, 0, none⟩) (block_lt_of_cell k0)).trans k0) x⟩ self wd own
/-- What Neighbours answers. -/
def nbOk13 (ok : Bool) (s : Int) : Bool := ok && (decide (0 ≤ s) && decide (s < 128))
def nbL (e : Nat) (s : Int) (es : List En) : List Int := (es.filter (nbP s)).map fun x => chN e x.2
def NbAns (w w' : World) (ok : Bool) (L : List Int) (r : Ending) : Prop := (ok = false ∧ r = .returned (.tuple #[.slice none 0 0, .int .i64 2])) ∨
  (ok = true ∧ ∃ a c, r = .returned (.tuple #[.slice a (rsL L).length c, .int .i64 0]) ∧ w'.ownsRow w.heap.size 3 1 (.slice a (rsL L).length c) (rsL L).length (fl ic (rsL L)))
set_option maxRecDepth 100000 in
set_option maxHeartbeats 8000000 in
theorem tnb_any {e : Nat} (he : e < 4294967296) {es : List En} {u : Value} {w : World} (h : EnAt w u es) (ht : Wid w) (self width own s : Int) :
    Calls Tryz.prog 26 #[tbV self width own u, .int .i64 s, .int .u32 e] w fun r w' => NbAns w w' (nbOk13 (tbB self width own (toT es)) s) (nbL e s es) r ∧ Below w.heap.size w w' := by
  obtain ⟨ua, uc, rfl, hul, _, _⟩ := h.op
  obtain ⟨ln, hln⟩ : ∃ ln, es.length = ln := ⟨_, rfl⟩
  rw [hln] at h hul ⊢
  obtain ⟨W1, hW1⟩ : ∃ W1, (w.alloc (tbO self width own (.slice ua ln uc))).alloc (.cells #[.int .i64 s] 3) = W1 := ⟨_, rfl⟩
  have hb : Below w.heap.size w W1 := by rw [← hW1]; exact ((Below.refl _ w).alloc (Nat.le_refl _) _).alloc (by simp) _
  have hA : W1.heap[w.heap.size]? = some (tbO self width own (.slice ua ln uc)) := by rw [← hW1, Below.heap_alloc _ _ _ (by simp)]; exact heap_alloc_last w _
  have hB1 : W1.heap[w.heap.size + 1]? = some (.cells #[.int .i64 s] 3) := by
    rw [← hW1]
    have := heap_alloc_last (w.alloc (tbO self width own (.slice ua ln uc))) (.cells #[.int .i64 s] 3)
    rwa [World.size_alloc] at this
  obtain ⟨q, hq⟩ : ∃ q, w.heap.size = q := ⟨_, rfl⟩
  rw [hq] at hA hB1
  have HE1 := hidIn (h.keep hb (Nat.le_refl _))
  have HCk := hidIn (tcheck_any (h.keep hb (Nat.le_refl _)) (ht.keep hb) self width own)
  have HB := hidIn hb
  obtain ⟨ok, hok⟩ : ∃ ok, tbB self width own (toT es) = ok := ⟨_, rfl⟩
  rw [hok] at HCk ⊢
  have Hln := hidIn hln
  have Hok : Hid (ok = true → TbOk self width own (toT es)) := hidIn fun h => tbB_iff.1 (hok.trans h)
  obtain ⟨mo, hmo⟩ : ∃ mo, nbOk13 ok s = mo := ⟨_, rfl⟩
  have Hmo : Hid (mo = (ok && (decide (0 ≤ s) && decide (s < 128)))) := hidIn (by rw [← hmo]; rfl)
  rw [hmo]
  have d0 := cell_of_row _ _ 0 _ _ _ hA
  have d1 := cell_of_row _ _ 1 _ _ _ hA
  have d2 := cell_of_row _ _ 2 _ _ _ hA
  have d3 := cell_of_row _ _ 3 _ _ _ hA
  have ds := cell_of_row _ _ 0 _ _ _ hB1
  simp at d0 d1 d2 d3 ds
  have HA := hidIn hA
  have Hds := hidIn ds
  have HW := hidIn hW1
  obtain ⟨p0, hp0⟩ : ∃ p, (decide (0 ≤ s) && decide (s < 128)) = p := ⟨_, rfl⟩
  have HS : Hid (∀ w', Calls Tryz.prog 68 #[.int .i64 s] w' fun e w'' => e = .returned (.bool p0) ∧ w'' = w') := hidIn fun w' => by rw [← hp0]; exact tisS_any s w'
  rw [hp0] at Hmo
  clear hb hA hB1 hok hW1 h ht hln hmo hp0
  go_enter Tryz.func26, Tryz.ntmps26
  go_upto_region 1 with fail
  rw [HW.out]
  clear HW hq
  go_wp2_with fail
  refine HCk.out.mono ?_
  rintro r w2 ⟨rfl, hb2⟩
  have HB2 := hidIn hb2
  have hA2 := (hb2.block _ (block_lt HA.out)).trans HA.out
  have k0 := (hb2.cell (p := ⟨q + 1, 0, none⟩) (block_lt_of_cell Hds.out)).trans Hds.out
  have Hc2 := hidIn (HB.out.trans (HB2.out.mono HB.out.size))
  clear hb2 HCk d0 d1 d2 d3 ds Hds
  cases ok
  · have HM0 : Hid (mo = false) := hidIn (by rw [Hmo.out]; rfl)
    go_wp2_with fail
    go_ret2
    exact ⟨.inl ⟨HM0.out, rfl⟩, Hc2.out⟩
  go_wp2_with fail
  refine (HS.out w2).mono ?_
  rintro r w3 ⟨rfl, hw3⟩
  rw [hw3]
  clear hw3 w3 HS
  cases p0
  · have HM0 : Hid (mo = false) := hidIn (by rw [Hmo.out]; rfl)
    go_wp2_with fail
    go_ret2
    exact ⟨.inl ⟨HM0.out, rfl⟩, Hc2.out⟩
  have HM1 : Hid (mo = true) := hidIn (by rw [Hmo.out]; rfl)
  have HOk := hidIn (Hok.out (by trivial))
  have d0 := cell_of_row _ _ 0 _ _ _ hA2
  have d1 := cell_of_row _ _ 1 _ _ _ hA2
  have d2 := cell_of_row _ _ 2 _ _ _ hA2
  have d3 := cell_of_row _ _ 3 _ _ _ hA2
  simp at d0 d1 d2 d3
  have hE2 := HE1.out.keep HB2.out (Nat.le_refl _)
  have HTh := hidIn (thoseNb_any hE2 (by have := HOk.out.parts.1; rw [List.length_map] at this; omega) k0 self width own)
  obtain ⟨FL, hFL⟩ : ∃ FL, es.filter (nbP s) = FL := ⟨_, rfl⟩
  have hFn : FL.length ≤ 24 := by
    rw [← hFL]
    have h1 := HOk.out.parts.1
    rw [List.length_map] at h1
    exact Nat.le_trans (List.length_filter_le _ _) h1
  have HFm : Hid (∀ x ∈ FL, SlAt ic 1 w2 (rwS x.1) x.2) := hidIn fun x hx => hE2.n x (by rw [← hFL] at hx; exact (List.mem_filter.1 hx).1)
  have HLs : Hid (nbL e s es = FL.map fun x => chN e x.2) := hidIn (by unfold nbL; rw [hFL])
  obtain ⟨LL, hLL⟩ : ∃ LL, nbL e s es = LL := ⟨_, rfl⟩
  rw [hLL] at HLs
  rw [hFL] at HTh
  have HLL := hidIn hLL
  clear hFL hA2 hE2 k0 hLL
  go_wp2_with fail
  refine HTh.out.mono ?_
  rintro r w5 ⟨⟨fa, fc, rfl, hrow⟩, hb5⟩
  have HRow := hidIn hrow
  have HB5 := hidIn hb5
  have Hc5 := hidIn (Hc2.out.trans (hb5.mono Hc2.out.size))
  obtain ⟨n, hn⟩ : ∃ n, FL.length = n := ⟨_, rfl⟩
  have Hn := hidIn hn
  rw [hn] at hFn HRow ⊢
  clear hrow hb5 HTh hn d0 d1 d2 d3
  go_wp2_with fail
  go_loopw [8, 23] (fun ov i wz => ∃ (k : Nat) (oa : Option Addr) (oc : Nat), k ≤ n ∧ i = .int .i64 k ∧ ov = .slice oa k oc ∧ Hid (Below w5.heap.size w5 wz ∧ wz.ownsRow w5.heap.size 3 1 (.slice oa k oc) k (fl ic ((FL.take k).map fun x => chN e x.2)))) (fun _ i _ => n - (intOf i).toNat)
  case atStart => exact ⟨0, none, 0, Nat.zero_le _, rfl, rfl, hidIn ⟨Below.refl _ _, World.ownsRow_nil _ _ _ _⟩⟩
  case round =>
    obtain ⟨k, oa, oc, hk, rfl, rfl, HI⟩ := hrel
    obtain ⟨hbz, hoz⟩ := HI.out
    clear HI
    by_cases hlt : k < n
    · have hki : (k : Int) < (n : Int) := by omega
      obtain ⟨a', c', hee, _, _, hcl⟩ := (slAt_of_row (cs := rwcs) (fun _ => rfl) (row_below HRow.out hbz (Nat.le_refl _)) (by rw [List.length_map]; exact Hn.out)).rws
      obtain ⟨bk, o, h1, hbk, hcell⟩ := hcl (by rw [List.length_map]; have := Hn.out; omega)
      simp only [Value.slice.injEq] at hee
      obtain ⟨hea, hxx, hyy⟩ := hee
      rw [h1] at hea
      subst hea
      clear hxx hyy h1
      obtain ⟨x, hx⟩ : ∃ x, FL[k]? = some x := ⟨FL[k]'(by have := Hn.out; omega), List.getElem?_eq_getElem _⟩
      obtain ⟨e0, e1, e2, e3⟩ := hcell k x.1 (by rw [List.getElem?_map, hx]; rfl)
      have hxs := HFm.out x (List.mem_of_getElem? hx)
      obtain ⟨W6, hW6⟩ : ∃ W6, wr.alloc (enO x.1.1 x.1.2.1 x.1.2.2.1 (rwS x.1)) = W6 := ⟨_, rfl⟩
      have b6 : Below wr.heap.size wr W6 := by rw [← hW6]; exact (Below.refl _ wr).alloc (Nat.le_refl _) _
      have hz6 : W6.heap[wr.heap.size]? = some (enO x.1.1 x.1.2.1 x.1.2.2.1 (rwS x.1)) := by rw [← hW6]; exact heap_alloc_last wr _
      have c6 := hbz.trans (b6.mono hbz.size)
      have HTk := hidIn (taken_any he ((hxs.keep HB5.out (Nat.le_refl _)).keep c6 (Nat.le_refl _)))
      have HTs : Hid (((FL.take (k + 1)).map fun x => chN e x.2) = ((FL.take k).map fun x => chN e x.2) ++ [chN e x.2]) := hidIn (by rw [take_snoc hx, List.map_append]; rfl)
      obtain ⟨⟨x0, x1, x2, x3, x4, x5⟩, xn⟩ := x
      simp only at e0 e1 e2 e3 hW6 hz6 HTk HTs
      obtain ⟨c, hc⟩ : ∃ c, chN e xn = c := ⟨_, rfl⟩
      rw [hc] at HTk HTs
      obtain ⟨q6, hq6⟩ : ∃ q6, wr.heap.size = q6 := ⟨_, rfl⟩
      rw [hq6] at hz6
      have t0 := cell_of_row _ _ 0 _ _ _ hz6
      have t1 := cell_of_row _ _ 1 _ _ _ hz6
      have t2 := cell_of_row _ _ 2 _ _ _ hz6
      have t3 := cell_of_row _ _ 3 _ _ _ hz6
      simp at t0 t1 t2 t3
      have Ho6 := hidIn (row_below hoz b6 (Nat.le_refl _))
      have H6 := hidIn c6
      have HW6 := hidIn hW6
      clear hcl hcell hx hxs hbk hbz hoz hW6 b6 hz6 c6 hc
      go_upto_region 7 with fail
      rw [HW6.out]
      clear HW6 hq6 e0 e1 e2 e3
      go_wp2_with fail
      refine HTk.out.mono ?_
      rintro r w7 ⟨rfl, hb7⟩
      have c7 := H6.out.trans (hb7.mono H6.out.size)
      obtain ⟨g9, gc9, w9, hrun, hown, _, _, hb9⟩ := append_int (row_below Ho6.out hb7 (Nat.le_refl _)) c (by omega) c7.size
      have HRun := hidIn hrun
      have HO : Hid (Below w5.heap.size w5 w9 ∧ w9.ownsRow w5.heap.size 3 1 (.slice (some ⟨g9, 0, none⟩) (k + 1) gc9) (k + 1) (fl ic ((FL.take (k + 1)).map fun x => chN e x.2))) := hidIn (by rw [HTs.out]; exact ⟨c7.trans hb9, hown⟩)
      clear hb7 c7 hrun hown hb9 HTk t0 t1 t2 t3
      go_wp2_with (refine l_append rfl _ _ 32 rfl HRun.out ?_)
      go_roundw
      case rel => exact ⟨k + 1, _, gc9, by omega, by go_num, rfl, HO⟩
      case measure => simp [intOf]; omega
    · have hki : ¬ ((k : Int) < (n : Int)) := by omega
      have hkn : k = n := by omega
      subst hkn
      rw [List.take_of_length_le (by have := Hn.out; omega), ← HLs.out] at hoz
      have hlk : LL.length = k := by rw [HLs.out, List.length_map]; exact Hn.out
      have Hcz := hidIn (Hc5.out.trans (hbz.mono Hc5.out.size))
      have hB5 : w.heap.size ≤ w5.heap.size := Hc5.out.size
      have hrow2 := row_low hoz hB5
      obtain ⟨jj, hjj⟩ : ∃ jj, rsL LL = jj := ⟨_, rfl⟩
      have HJ : Hid (jj = Lib.compact (LL.mergeSort fun x y => decide (x ≤ y))) := hidIn (by rw [← hjj]; rfl)
      have HAns : Hid (∀ w9 a c, w9.ownsRow w.heap.size 3 1 (.slice a jj.length c) jj.length (fl ic jj) → NbAns w w9 mo (nbL e s es) (.returned (.tuple #[.slice a jj.length c, .int .i64 0]))) := hidIn fun w9 a c h9 => .inr ⟨HM1.out, a, c, by rw [HLL.out, hjj], by rw [HLL.out, hjj]; exact h9⟩
      clear hjj hoz hbz hB5
      subst hlk
      rcases hrow2.2 with ⟨h1, h0⟩ | ⟨g, cap', cur, hu, hg, hh, h1, h2, h3, h4⟩
      · have hl0 : LL = [] := List.length_eq_zero_iff.1 h0
        simp at h1
        obtain ⟨rfl, h1b, rfl⟩ := h1
        have HJ0 : Hid (jj = []) := hidIn (by rw [HJ.out, hl0]; simp [Lib.compact, Lib.compactUpTo])
        have HS := hidIn (Tryz.slices_Sort_int_none none 0 wr)
        have HCp := hidIn (Tryz.slices_Compact_int_empty none 0 wr)
        have HA0 := hidIn (HAns.out wr none 0 (by rw [HJ0.out]; exact World.ownsRow_nil _ _ _ _))
        rw [HJ0.out] at HA0
        rw [h0]
        clear h0 hrow2 hl0 h1b HAns
        go_wp2_with fail
        refine HS.out.mono ?_
        rintro r w3 ⟨rfl, hw3⟩
        rw [hw3]
        clear hw3 w3 HS
        go_wp2_with fail
        refine HCp.out.mono ?_
        rintro r w3 ⟨rfl, hw3⟩
        rw [hw3]
        clear hw3 w3 HCp
        go_wp2_with fail
        go_ret2
        exact ⟨HA0.out, Hcz.out⟩
      · simp at hu
        obtain ⟨rfl, rfl⟩ := hu
        obtain ⟨ts, hts⟩ : ∃ ts, (LL.mergeSort fun x y => decide (x ≤ y)) = ts := ⟨_, rfl⟩
        have htl : ts.length = LL.length := by rw [← hts, List.length_mergeSort]
        have htake : cur.toList.take LL.length = LL.map (Value.int .i64) := by rw [Nat.mul_one, cints_map] at h4; exact h4
        have hS := Tryz.slices_Sort_int g 0 oc LL wr (holds_of_blockI hh htake) (block_lt hh) (by omega)
        rw [hts] at hS HJ
        have HS := hidIn hS
        have HT : Hid (∀ n os, (Sort.grow (Sort.putRow (Value.int .i64) (Sort.ahead wr n) g 0 ts.toArray) os).ownsRow w.heap.size 3 1 (.slice (some ⟨g, 0, none⟩) LL.length oc) LL.length (ts.map (Value.int .i64)) ∧ Below w.heap.size w (Sort.grow (Sort.putRow (Value.int .i64) (Sort.ahead wr n) g 0 ts.toArray) os)) := hidIn fun n os => ⟨ownsRow_sortedI htl hg hh h1 h2 h3, Hcz.out.grown (grownBy_sortedI _) Hcz.out.size (fun k hk => by cases hk; exact hg)⟩
        clear hS hts hrow2
        go_wp2_with fail
        refine HS.out.mono ?_
        rintro r w3 ⟨rfl, n, os, hw3⟩
        have h3' := HT.out n os
        rw [← hw3] at h3'
        obtain ⟨hrow3, hb3⟩ := h3'
        clear hw3 HS HT
        rw [← htl] at hrow3 ⊢
        have hcap3 : ts.length ≤ oc := by omega
        obtain ⟨cur3, hh3, ht3⟩ : ∃ cur3, w3.heap[g]? = some (.cells cur3 3 (0, 0)) ∧ cur3.toList.take ts.length = ts.map (Value.int .i64) := by
          rcases hrow3.2 with ⟨h, _⟩ | ⟨g', cap', cur3, h, _, hh3, _, _, _, h5⟩
          · simp at h
          · simp at h
            obtain ⟨rfl, _⟩ := h
            exact ⟨cur3, hh3, by rw [Nat.mul_one] at h5; exact h5⟩
        have HCp := hidIn (Tryz.slices_Compact_int g 0 oc ts w3 (holds_of_blockI hh3 ht3) (by omega) hcap3)
        have hcl := ccompact_len ts
        have HR3 : Hid (∀ q, (Sort.putRow (Value.int .i64) (Sort.ahead w3 q) g 0 (Lib.compact ts ++ List.replicate (ts.length - (Lib.compact ts).length) 0).toArray).ownsRow w.heap.size 3 1 (.slice (some ⟨g, 0, none⟩) (Lib.compact ts).length oc) (Lib.compact ts).length (fl ic (Lib.compact ts)) ∧ Below w.heap.size w (Sort.putRow (Value.int .i64) (Sort.ahead w3 q) g 0 (Lib.compact ts ++ List.replicate (ts.length - (Lib.compact ts).length) 0).toArray)) := hidIn fun q => by
          refine ⟨?_, Lib.below_putRow hb3 hg⟩
          have := Lib.ownsRow_putRow (q := q) (k := (Lib.compact ts).length) (ys := Lib.compact ts ++ List.replicate (ts.length - (Lib.compact ts).length) 0) hrow3 (by simp; omega) hcl
          rw [List.take_left] at this
          rw [cints_map]
          exact this
        clear hrow3 hb3 hh3 ht3 htl hcl
        go_wp2_with fail
        refine HCp.out.mono ?_
        rintro r w4 ⟨rfl, q, hw4⟩
        have h4' := HR3.out q
        rw [← hw4] at h4'
        have H4 := hidIn h4'
        clear hw4 HR3 HCp h4'
        have HA1 := hidIn (HAns.out w4 (some ⟨g, 0, none⟩) oc (by rw [HJ.out]; exact H4.out.1))
        rw [HJ.out] at HA1
        clear HAns
        go_wp2_with fail
        go_ret2
        exact ⟨HA1.out, H4.out.2⟩
end Go.Proofs.YtbggingacoheiaaGreatDoor
namespace Go.Proofs.YtbggingacoheiaaGreatDoor
open Go.RowKit Go.Maps

abbrev tabZ : Value := .agg #[.int .i64 0, .int .i64 0, .int .i64 0, .slice none 0 0]
theorem zeroTab (w : World) : (zeroValue 26).run Tryz.prog w = .ok tabZ w := by kernel_rfl
set_option maxRecDepth 100000 in
set_option maxHeartbeats 8000000 in
theorem build_no {l : List (Rc × Value)} {v : Value} {w : World} (h : RecsAt w v l) (ht : Wid w) (self width : Int) (hno : ¬ (1 ≤ self ∧ self ≤ 24) ∨ ¬ IsW width ∨ bothOk no1 (rcs l) = false) :
    Calls Tryz.prog 10 #[.int .i64 self, .int .i64 width, v] w fun e w' => e = .returned (.tuple #[tabZ, .int .i64 2]) ∧ Below w.heap.size w w' := by
  obtain ⟨va, vc, rfl, hvl, _, _⟩ := h.r.recs
  obtain ⟨W1, hW1⟩ : ∃ W1, w.alloc (.cells #[.int .i64 0, .int .i64 0, .int .i64 0, .slice none 0 0] 26) = W1 := ⟨_, rfl⟩
  have bA : Below w.heap.size w W1 := by rw [← hW1]; exact (Below.refl _ w).alloc (Nat.le_refl _) _
  have hz6 : W1.heap[w.heap.size]? = some (.cells #[.int .i64 0, .int .i64 0, .int .i64 0, .slice none 0 0] 26) := by rw [← hW1]; exact heap_alloc_last w _
  obtain ⟨q6, hq6⟩ : ∃ q6, w.heap.size = q6 := ⟨_, rfl⟩
  rw [hq6] at hz6
  have HBo := hidIn (both_any (h.keep bA (Nat.le_refl _)))
  have Ht := hidIn ht
  have HB1 := hidIn bA
  have HZ1 := hidIn hz6
  have HW := hidIn hW1
  have Hq6 := hidIn hq6
  have Hno := hidIn hno
  generalize l.length = ln at HBo ⊢ hvl
  clear h ht bA hz6 hW1 hno
  go_enter Tryz.func10, Tryz.ntmps10
  go_upto_region 1 with fail
  rw [HW.out]
  clear HW hq6
  go_wp2_with fail
  refine HBo.out.mono ?_
  rintro e w2 ⟨hBA, hb2⟩
  have key : ∃ ga gn gc ha hn hc er, e = .returned (.tuple #[grV (.slice ga gn gc) (.slice ha hn hc), .int .i64 er]) ∧ ((bothOk no1 (rcs l) = true ∧ er = 0) ∨ (bothOk no1 (rcs l) = false ∧ er = 2)) := by
    rcases hBA with ⟨h1, gu, gv, h2, h3, h4⟩ | ⟨h1, h2⟩
    · obtain ⟨ga, gc, rfl⟩ := row_shape h3
      obtain ⟨ha, hc, rfl⟩ := row_shape h4
      exact ⟨_, _, _, _, _, _, 0, h2, .inl ⟨h1, rfl⟩⟩
    · exact ⟨_, _, _, _, _, _, 2, h2, .inr ⟨h1, rfl⟩⟩
  obtain ⟨ga, gn, gc, ha, hn, hc, er, rfl, her⟩ := key
  have HEr := hidIn her
  have HB2 := hidIn (HB1.out.trans (hb2.mono HB1.out.size))
  have HZ2 := hidIn ((hb2.block _ (block_lt HZ1.out)).trans HZ1.out)
  obtain ⟨w3, hw3⟩ : ∃ w3, w2.alloc (.cells #[.slice ga gn gc, .slice ha hn hc] 67) = w3 := ⟨_, rfl⟩
  have b3 : Below w2.heap.size w2 w3 := by rw [← hw3]; exact (Below.refl _ w2).alloc (Nat.le_refl _) _
  have HB3 := hidIn (HB2.out.trans (b3.mono HB2.out.size))
  have HZ3 := hidIn ((b3.block _ (block_lt HZ2.out)).trans HZ2.out)
  have HW3 := hidIn hw3
  have hset := set4 (.int .i64 0) (.int .i64 0) (.int .i64 0) (.slice none 0 0) HZ3.out
  have hF := ((((Fr.refl (fun j => j = q6) w3).set (p := ⟨q6, 0, none⟩) rfl (.int .i64 0)).set (p := ⟨q6, 1, none⟩) rfl (.int .i64 0)).set (p := ⟨q6, 2, none⟩) rfl (.int .i64 0)).set (p := ⟨q6, 3, none⟩) rfl (.slice none 0 0)
  have HE := hidIn (And.intro hset (HB3.out.trans (hF.below HB3.out.size (fun j hj => by have := Hq6.out; omega))))
  have z0 := cell_of_row _ _ 0 _ _ _ HZ3.out
  have z1 := cell_of_row _ _ 1 _ _ _ HZ3.out
  have z2 := cell_of_row _ _ 2 _ _ _ HZ3.out
  have z3 := cell_of_row _ _ 3 _ _ _ HZ3.out
  simp at z0 z1 z2 z3
  have y0 := frozen_new HZ3.out 0
  have y1 := frozen_new HZ3.out 1
  have y2 := frozen_new HZ3.out 2
  have y3 := frozen_new HZ3.out 3
  have zt := zeroTab
  clear hBA hb2 her b3 hw3 hset hF HBo HB1 HZ1 HB2 HZ2
  go_upto_region 2 with fail
  rw [HW3.out]
  clear HW3
  by_cases hs : 1 ≤ self ∧ self ≤ 24
  rotate_left
  · have hb : (decide (1 ≤ self) && decide (self ≤ 24)) = false := by
      rcases Classical.em (1 ≤ self) with h1 | h1
      · rw [decide_eq_true h1, decide_eq_false (fun h2 => hs ⟨h1, h2⟩)]; rfl
      · rw [decide_eq_false h1]; rfl
    clear hs
    go_wp2_with fail
    refine (tisR_any self w3).mono ?_
    rintro e w4 ⟨rfl, hw4⟩
    rw [hw4, hb]
    clear hw4 w4 hb
    go_wp2_with fail
    obtain ⟨hE1, hE2⟩ := HE.out
    generalize ((((World.setCell _ _ _).setCell _ _).setCell _ _).setCell _ _) = W9 at hE1 hE2 ⊢
    have e0 := cell_of_row _ _ 0 _ _ _ hE1
    have e1 := cell_of_row _ _ 1 _ _ _ hE1
    have e2 := cell_of_row _ _ 2 _ _ _ hE1
    have e3 := cell_of_row _ _ 3 _ _ _ hE1
    simp at e0 e1 e2 e3
    exact bodyPost_ret (v := .tuple #[tabZ, .int .i64 2]) (by simp [results, Tryz.results10, asAddr, Result.andThen, go_sem, e0, e1, e2, e3]) rfl ⟨rfl, hE2⟩
  have hb : (decide (1 ≤ self) && decide (self ≤ 24)) = true := by rw [decide_eq_true hs.1, decide_eq_true hs.2]; rfl
  have Hs := hidIn hs
  clear hs
  by_cases hW : IsW width
  rotate_left
  · have HWi := hidIn (wide_no width hW w3 (Ht.out.keep HB3.out))
    clear hW
    go_wp2_with fail
    refine (tisR_any self w3).mono ?_
    rintro e w4 ⟨rfl, hw4⟩
    rw [hw4, hb]
    clear hw4 w4 hb
    go_wp2_with fail
    refine HWi.out.mono ?_
    rintro e w4 ⟨rfl, hw4⟩
    rw [hw4]
    clear hw4 w4
    go_wp2_with fail
    obtain ⟨hE1, hE2⟩ := HE.out
    generalize ((((World.setCell _ _ _).setCell _ _).setCell _ _).setCell _ _) = W9 at hE1 hE2 ⊢
    have e0 := cell_of_row _ _ 0 _ _ _ hE1
    have e1 := cell_of_row _ _ 1 _ _ _ hE1
    have e2 := cell_of_row _ _ 2 _ _ _ hE1
    have e3 := cell_of_row _ _ 3 _ _ _ hE1
    simp at e0 e1 e2 e3
    exact bodyPost_ret (v := .tuple #[tabZ, .int .i64 2]) (by simp [results, Tryz.results10, asAddr, Result.andThen, go_sem, e0, e1, e2, e3]) rfl ⟨rfl, hE2⟩
  · have HWi := hidIn (wide_yes width hW w3 (Ht.out.keep HB3.out))
    have her : er = 2 := by
      rcases Hno.out with h1 | h1 | h1
      · exact absurd Hs.out h1
      · exact absurd hW h1
      · rcases HEr.out with ⟨h2, _⟩ | ⟨_, h2⟩
        · rw [h1] at h2; cases h2
        · exact h2
    subst her
    clear hW
    go_wp2_with fail
    refine (tisR_any self w3).mono ?_
    rintro e w4 ⟨rfl, hw4⟩
    rw [hw4, hb]
    clear hw4 w4 hb
    go_wp2_with fail
    refine HWi.out.mono ?_
    rintro e w4 ⟨rfl, hw4⟩
    rw [hw4]
    clear hw4 w4
    go_wp2_with fail
    obtain ⟨hE1, hE2⟩ := HE.out
    generalize ((((World.setCell _ _ _).setCell _ _).setCell _ _).setCell _ _) = W9 at hE1 hE2 ⊢
    have e0 := cell_of_row _ _ 0 _ _ _ hE1
    have e1 := cell_of_row _ _ 1 _ _ _ hE1
    have e2 := cell_of_row _ _ 2 _ _ _ hE1
    have e3 := cell_of_row _ _ 3 _ _ _ hE1
    simp at e0 e1 e2 e3
    exact bodyPost_ret (v := .tuple #[tabZ, .int .i64 2]) (by simp [results, Tryz.results10, asAddr, Result.andThen, go_sem, e0, e1, e2, e3]) rfl ⟨rfl, hE2⟩
end Go.Proofs.YtbggingacoheiaaGreatDoor
namespace Go.Proofs.YtbggingacoheiaaGreatDoor
open Go.RowKit

theorem rw_blk {w : World} {b : Nat} {T : TypeId} {l : List Rw} (h : w.heap[b]? = some (.cells (fl rwcs l).toArray T)) (hn : l.length ≤ 1000) : SlAt rwcs 4 w (.slice (some ⟨b, 0, none⟩) l.length l.length) l := by
  refine slAt_of_row (cs := rwcs) (sz := 4) (base := 0) (k := l.length) (e := T) (fun _ => rfl) ⟨fl_length (sz := 4) (cs := rwcs) (fun _ => rfl) l, .inr ⟨b, l.length, _, rfl, Nat.zero_le _, h, Nat.le_refl _, by unfold maxLen; omega, by simp [fl_length (sz := 4) (cs := rwcs) (fun _ => rfl)], ?_⟩⟩ rfl
  simp only
  rw [List.take_of_length_le]
  rw [fl_length (sz := 4) (cs := rwcs) (fun _ => rfl)]
  exact Nat.le_refl _
theorem one_blk {w : World} {b : Nat} {x : Int} (h : w.heap[b]? = some (.cells #[.int .i64 x] 3)) : SlAt ic 1 w (.slice (some ⟨b, 0, none⟩) 1 1) [x] :=
  slAt_of_row (cs := ic) (sz := 1) (base := 0) (k := 1) (e := 3) (fun _ => rfl) ⟨rfl, .inr ⟨b, 1, _, rfl, Nat.zero_le _, h, Nat.le_refl _, by unfold maxLen; omega, rfl, rfl⟩⟩ rfl
theorem en_blk {w : World} {b : Nat} {x : En} (h : w.heap[b]? = some (.cells #[.int .i64 x.1.1, .int .i64 x.1.2.1, .int .i64 x.1.2.2.1, rwS x.1] 34)) (hx : SlAt ic 1 w (rwS x.1) x.2) : EnAt w (.slice (some ⟨b, 0, none⟩) 1 1) [x] :=
  ⟨rw_blk (l := [x.1]) h (by simp), fun y hy => by rw [List.mem_singleton.1 hy]; exact hx⟩
theorem nil_en (w : World) : EnAt w (.slice none 0 0) [] := ⟨slAt_of_row (cs := rwcs) (fun _ => rfl) (World.ownsRow_nil w 0 34 4) rfl, fun _ hx => absurd hx List.not_mem_nil⟩
theorem nil_ints (w : World) : SlAt ic 1 w (.slice none 0 0) [] := slAt_of_row (cs := ic) (fun _ => rfl) (World.ownsRow_nil w 0 3 1) rfl
theorem nil_recs (w : World) : RecsAt w (.slice none 0 0) [] := ⟨slAt_of_row (cs := rcc) (fun _ => rfl) (World.ownsRow_nil w 0 76 6) rfl, fun _ hx => absurd hx List.not_mem_nil⟩
theorem kn_ok3 : tbB 1 8 0 [(0, 1, 4, [2, 3]), (0, 3, 3, [3]), (1, 1, 2, [2])] = true := by decide +kernel
theorem kn_bad : tbB 0 8 0 [] = false ∧ tbB 1 24 0 [] = false ∧ tbB 1 8 1025 [] = false ∧ tbB 1 8 1 [(0, 1, 2, [2])] = false ∧ tbB 1 8 0 [(0, 1, 1, [2])] = false ∧ tbB 1 8 0 [(0, 1, 2, [])] = false ∧ tbB 1 8 0 [(0, 9, 2, [2])] = false ∧ tbB 1 8 0 [(0, 1, 2, [1])] = false := by decide +kernel
theorem kn_good : tbB 1 8 0 [] = true := by decide +kernel
theorem kn_ch : chN 77 [2] = 2 := by decide +kernel
theorem kn_rs : rsL [] = [] := rsL_nil
set_option maxRecDepth 100000 in
set_option maxHeartbeats 16000000 in
theorem tableKnown_walk (w : World) (ht : Wid w) : Calls Tryz.prog 8 #[] w fun e w' => e = .returned (.bool true) ∧ Below w.heap.size w w' := by
  have HT0 := hidIn ht
  have HB0 : Hid (Below w.heap.size w w) := hidIn (Below.refl _ _)
  clear ht
  go_enter Tryz.func8, Tryz.ntmps8
  go_wp2_with fail
  refine (example_any 3 w).mono ?_
  rintro e xa ⟨⟨v, l, rfl, hR, hl, hn⟩, hb⟩
  have hbl := hb
  have HT1 := hidIn (HT0.out.keep hbl)
  have HB1 := hidIn (HB0.out.trans (hbl.mono HB0.out.size))
  clear hbl HT0 HB0 
  clear hb
  have HBd : Hid (Calls Tryz.prog 10 #[.int .i64 1, .int .i64 8, v] xa fun e w' => BldAns xa w' l 1 8 e ∧ Below xa.heap.size xa w') := hidIn (build_ok hR HT1.out (self := 1) (by omega) (wd := 8) (by unfold IsW; omega) (by omega) (by rw [hl]; exact exR_ok.1))
  obtain ⟨va, vc, rfl, _⟩ := hR.r.recs
  have Hl := hidIn hl
  generalize l.length = ln at hn HBd ⊢
  clear hR hl hn
  go_wp2_with fail
  refine HBd.out.mono ?_
  rintro e ya ⟨hA, hb⟩
  obtain ⟨u, rfl, hE⟩ := ex3_ans Hl.out hA
  obtain ⟨esa, hTa, hAt⟩ := hE.at
  obtain ⟨uaa, uca, rfl, _⟩ := hAt.op
  have hbl := hb
  have HT2 := hidIn (HT1.out.keep hbl)
  have HB2 := hidIn (HB1.out.trans (hbl.mono HB1.out.size))
  clear hbl HT1 HB1 
  have Ea2 := hidIn hAt
  have Htoa := hidIn hTa
  clear hb hA hE hAt HBd Hl hTa
  obtain ⟨tna, htna⟩ : ∃ n, esa.length = n := ⟨_, rfl⟩
  have Htna := hidIn htna
  rw [htna] at Ea2 ⊢
  clear htna
  obtain ⟨v3, hal⟩ : ∃ v, ya.alloc (tbO 1 8 0 (.slice uaa tna uca)) = v := ⟨_, rfl⟩
  have hbe : Below ya.heap.size ya v3 := by rw [← hal]; exact (Below.refl _ ya).alloc (Nat.le_refl _) _
  have hzz : v3.heap[ya.heap.size]? = some (tbO 1 8 0 (.slice uaa tna uca)) := by rw [← hal]; exact heap_alloc_last ya _
  obtain ⟨qTa, hqq⟩ : ∃ q, ya.heap.size = q := ⟨_, rfl⟩
  rw [hqq] at hzz
  have Hal := hidIn hal
  clear hal
  have hbl := hbe
  have HT3 := hidIn (HT2.out.keep hbl)
  have HB3 := hidIn (HB2.out.trans (hbl.mono HB2.out.size))
  have Ea3 := hidIn (Ea2.out.keep hbl (Nat.le_refl _))
  clear hbl HT2 HB2 Ea2
  have Ta3 := hidIn hzz
  clear hzz hbe
  go_upto_region 2 with fail
  rw [Hal.out]
  clear Hal hqq
  go_wp2_with fail
  refine (example_any 1 v3).mono ?_
  rintro e xb ⟨⟨v, l, rfl, hR, hl, hn⟩, hb⟩
  have hbl := hb
  have HT4 := hidIn (HT3.out.keep hbl)
  have HB4 := hidIn (HB3.out.trans (hbl.mono HB3.out.size))
  have Ea4 := hidIn (Ea3.out.keep hbl (Nat.le_refl _))
  have Ta4 := hidIn ((hbl.block _ (block_lt Ta3.out)).trans Ta3.out)
  clear hbl HT3 HB3 Ea3 Ta3
  clear hb
  have HBd : Hid (Calls Tryz.prog 10 #[.int .i64 1, .int .i64 8, v] xb fun e w' => BldAns xb w' l 1 8 e ∧ Below xb.heap.size xb w') := hidIn (build_ok hR HT4.out (self := 1) (by omega) (wd := 8) (by unfold IsW; omega) (by omega) (by rw [hl]; exact exR_ok.2))
  obtain ⟨va, vc, rfl, _⟩ := hR.r.recs
  have Hl := hidIn hl
  generalize l.length = ln at hn HBd ⊢
  clear hR hl hn
  go_wp2_with fail
  refine HBd.out.mono ?_
  rintro e yb ⟨hA, hb⟩
  obtain ⟨u, rfl, hE⟩ := ex1_ans Hl.out hA
  obtain ⟨esb, hTb, hAt⟩ := hE.at
  obtain ⟨uab, ucb, rfl, _⟩ := hAt.op
  have hbl := hb
  have HT5 := hidIn (HT4.out.keep hbl)
  have HB5 := hidIn (HB4.out.trans (hbl.mono HB4.out.size))
  have Ea5 := hidIn (Ea4.out.keep hbl (Nat.le_refl _))
  have Ta5 := hidIn ((hbl.block _ (block_lt Ta4.out)).trans Ta4.out)
  clear hbl HT4 HB4 Ea4 Ta4
  have Eb5 := hidIn hAt
  have Htob := hidIn hTb
  clear hb hA hE hAt HBd Hl hTb
  obtain ⟨tnb, htnb⟩ : ∃ n, esb.length = n := ⟨_, rfl⟩
  have Htnb := hidIn htnb
  rw [htnb] at Eb5 ⊢
  clear htnb
  obtain ⟨v6, hal⟩ : ∃ v, yb.alloc (tbO 1 8 0 (.slice uab tnb ucb)) = v := ⟨_, rfl⟩
  have hbe : Below yb.heap.size yb v6 := by rw [← hal]; exact (Below.refl _ yb).alloc (Nat.le_refl _) _
  have hzz : v6.heap[yb.heap.size]? = some (tbO 1 8 0 (.slice uab tnb ucb)) := by rw [← hal]; exact heap_alloc_last yb _
  obtain ⟨qTb, hqq⟩ : ∃ q, yb.heap.size = q := ⟨_, rfl⟩
  rw [hqq] at hzz
  have Hal := hidIn hal
  clear hal
  have hbl := hbe
  have HT6 := hidIn (HT5.out.keep hbl)
  have HB6 := hidIn (HB5.out.trans (hbl.mono HB5.out.size))
  have Ea6 := hidIn (Ea5.out.keep hbl (Nat.le_refl _))
  have Ta6 := hidIn ((hbl.block _ (block_lt Ta5.out)).trans Ta5.out)
  have Eb6 := hidIn (Eb5.out.keep hbl (Nat.le_refl _))
  clear hbl HT5 HB5 Ea5 Ta5 Eb5
  have Tb6 := hidIn hzz
  clear hzz hbe
  go_upto_region 3 with fail
  rw [Hal.out]
  clear Hal hqq
  go_wp2_with fail
  refine (example_any 3 v6).mono ?_
  rintro e xc ⟨⟨v, l, rfl, hR, hl, hn⟩, hb⟩
  have hbl := hb
  have HT7 := hidIn (HT6.out.keep hbl)
  have HB7 := hidIn (HB6.out.trans (hbl.mono HB6.out.size))
  have Ea7 := hidIn (Ea6.out.keep hbl (Nat.le_refl _))
  have Ta7 := hidIn ((hbl.block _ (block_lt Ta6.out)).trans Ta6.out)
  have Eb7 := hidIn (Eb6.out.keep hbl (Nat.le_refl _))
  have Tb7 := hidIn ((hbl.block _ (block_lt Tb6.out)).trans Tb6.out)
  clear hbl HT6 HB6 Ea6 Ta6 Eb6 Tb6
  clear hb
  have HBd : Hid (Calls Tryz.prog 10 #[.int .i64 5, .int .i64 8, v] xc fun e w' => BldAns xc w' l 5 8 e ∧ Below xc.heap.size xc w') := hidIn (build_ok hR HT7.out (self := 5) (by omega) (wd := 8) (by unfold IsW; omega) (by omega) (by rw [hl]; exact exR_ok.1))
  obtain ⟨va, vc, rfl, _⟩ := hR.r.recs
  have Hl := hidIn hl
  generalize l.length = ln at hn HBd ⊢
  clear hR hl hn
  go_wp2_with fail
  refine HBd.out.mono ?_
  rintro e yc ⟨hA, hb⟩
  obtain ⟨u, rfl, hE⟩ := ex5_ans Hl.out hA
  obtain ⟨esc, hTc, hAt⟩ := hE.at
  obtain ⟨uac, ucc, rfl, _⟩ := hAt.op
  have hbl := hb
  have HT8 := hidIn (HT7.out.keep hbl)
  have HB8 := hidIn (HB7.out.trans (hbl.mono HB7.out.size))
  have Ea8 := hidIn (Ea7.out.keep hbl (Nat.le_refl _))
  have Ta8 := hidIn ((hbl.block _ (block_lt Ta7.out)).trans Ta7.out)
  have Eb8 := hidIn (Eb7.out.keep hbl (Nat.le_refl _))
  have Tb8 := hidIn ((hbl.block _ (block_lt Tb7.out)).trans Tb7.out)
  clear hbl HT7 HB7 Ea7 Ta7 Eb7 Tb7
  have Ec8 := hidIn hAt
  have Htoc := hidIn hTc
  clear hb hA hE hAt HBd Hl hTc
  obtain ⟨tnc, htnc⟩ : ∃ n, esc.length = n := ⟨_, rfl⟩
  have Htnc := hidIn htnc
  rw [htnc] at Ec8 ⊢
  clear htnc
  obtain ⟨v9, hal⟩ : ∃ v, yc.alloc (tbO 5 8 0 (.slice uac tnc ucc)) = v := ⟨_, rfl⟩
  have hbe : Below yc.heap.size yc v9 := by rw [← hal]; exact (Below.refl _ yc).alloc (Nat.le_refl _) _
  have hzz : v9.heap[yc.heap.size]? = some (tbO 5 8 0 (.slice uac tnc ucc)) := by rw [← hal]; exact heap_alloc_last yc _
  obtain ⟨qTc, hqq⟩ : ∃ q, yc.heap.size = q := ⟨_, rfl⟩
  rw [hqq] at hzz
  have Hal := hidIn hal
  clear hal
  have hbl := hbe
  have HT9 := hidIn (HT8.out.keep hbl)
  have HB9 := hidIn (HB8.out.trans (hbl.mono HB8.out.size))
  have Ea9 := hidIn (Ea8.out.keep hbl (Nat.le_refl _))
  have Ta9 := hidIn ((hbl.block _ (block_lt Ta8.out)).trans Ta8.out)
  have Eb9 := hidIn (Eb8.out.keep hbl (Nat.le_refl _))
  have Tb9 := hidIn ((hbl.block _ (block_lt Tb8.out)).trans Tb8.out)
  have Ec9 := hidIn (Ec8.out.keep hbl (Nat.le_refl _))
  clear hbl HT8 HB8 Ea8 Ta8 Eb8 Tb8 Ec8
  have Tc9 := hidIn hzz
  clear hzz hbe
  go_upto_region 4 with fail
  rw [Hal.out]
  clear Hal hqq
  have HBd : Hid (Calls Tryz.prog 10 #[.int .i64 0, .int .i64 8, .slice none 0 0] v9 fun e w' => e = .returned (.tuple #[tabZ, .int .i64 2]) ∧ Below v9.heap.size v9 w') := hidIn (build_no (nil_recs _) HT9.out 0 8 (.inl (by omega)))
  go_wp2_with fail
  refine HBd.out.mono ?_
  rintro e yd ⟨rfl, hb⟩
  have hbl := hb
  have HT10 := hidIn (HT9.out.keep hbl)
  have HB10 := hidIn (HB9.out.trans (hbl.mono HB9.out.size))
  have Ea10 := hidIn (Ea9.out.keep hbl (Nat.le_refl _))
  have Ta10 := hidIn ((hbl.block _ (block_lt Ta9.out)).trans Ta9.out)
  have Eb10 := hidIn (Eb9.out.keep hbl (Nat.le_refl _))
  have Tb10 := hidIn ((hbl.block _ (block_lt Tb9.out)).trans Tb9.out)
  have Ec10 := hidIn (Ec9.out.keep hbl (Nat.le_refl _))
  have Tc10 := hidIn ((hbl.block _ (block_lt Tc9.out)).trans Tc9.out)
  clear hbl HT9 HB9 Ea9 Ta9 Eb9 Tb9 Ec9 Tc9
  clear hb HBd
  obtain ⟨v11, hal⟩ : ∃ v, yd.alloc (.cells #[.int .i64 0, .int .i64 0, .int .i64 0, .slice none 0 0] 26) = v := ⟨_, rfl⟩
  have hbe : Below yd.heap.size yd v11 := by rw [← hal]; exact (Below.refl _ yd).alloc (Nat.le_refl _) _
  have hzz : v11.heap[yd.heap.size]? = some (.cells #[.int .i64 0, .int .i64 0, .int .i64 0, .slice none 0 0] 26) := by rw [← hal]; exact heap_alloc_last yd _
  obtain ⟨qZd, hqq⟩ : ∃ q, yd.heap.size = q := ⟨_, rfl⟩
  rw [hqq] at hzz
  have Hal := hidIn hal
  clear hal
  have hbl := hbe
  have HT11 := hidIn (HT10.out.keep hbl)
  have HB11 := hidIn (HB10.out.trans (hbl.mono HB10.out.size))
  have Ea11 := hidIn (Ea10.out.keep hbl (Nat.le_refl _))
  have Ta11 := hidIn ((hbl.block _ (block_lt Ta10.out)).trans Ta10.out)
  have Eb11 := hidIn (Eb10.out.keep hbl (Nat.le_refl _))
  have Tb11 := hidIn ((hbl.block _ (block_lt Tb10.out)).trans Tb10.out)
  have Ec11 := hidIn (Ec10.out.keep hbl (Nat.le_refl _))
  have Tc11 := hidIn ((hbl.block _ (block_lt Tc10.out)).trans Tc10.out)
  clear hbl HT10 HB10 Ea10 Ta10 Eb10 Tb10 Ec10 Tc10
  have Zd11 := hidIn hzz
  clear hzz hbe
  go_upto_region 5 with fail
  rw [Hal.out]
  clear Hal hqq
  have HBd : Hid (Calls Tryz.prog 10 #[.int .i64 1, .int .i64 24, .slice none 0 0] v11 fun e w' => e = .returned (.tuple #[tabZ, .int .i64 2]) ∧ Below v11.heap.size v11 w') := hidIn (build_no (nil_recs _) HT11.out 1 24 (.inr (.inl (by unfold IsW; omega))))
  go_wp2_with fail
  refine HBd.out.mono ?_
  rintro e yf ⟨rfl, hb⟩
  have hbl := hb
  have HT12 := hidIn (HT11.out.keep hbl)
  have HB12 := hidIn (HB11.out.trans (hbl.mono HB11.out.size))
  have Ea12 := hidIn (Ea11.out.keep hbl (Nat.le_refl _))
  have Ta12 := hidIn ((hbl.block _ (block_lt Ta11.out)).trans Ta11.out)
  have Eb12 := hidIn (Eb11.out.keep hbl (Nat.le_refl _))
  have Tb12 := hidIn ((hbl.block _ (block_lt Tb11.out)).trans Tb11.out)
  have Ec12 := hidIn (Ec11.out.keep hbl (Nat.le_refl _))
  have Tc12 := hidIn ((hbl.block _ (block_lt Tc11.out)).trans Tc11.out)
  have Zd12 := hidIn ((hbl.block _ (block_lt Zd11.out)).trans Zd11.out)
  clear hbl HT11 HB11 Ea11 Ta11 Eb11 Tb11 Ec11 Tc11 Zd11
  clear hb HBd
  obtain ⟨v13, hal⟩ : ∃ v, yf.alloc (.cells #[.int .i64 0, .int .i64 0, .int .i64 0, .slice none 0 0] 26) = v := ⟨_, rfl⟩
  have hbe : Below yf.heap.size yf v13 := by rw [← hal]; exact (Below.refl _ yf).alloc (Nat.le_refl _) _
  have hzz : v13.heap[yf.heap.size]? = some (.cells #[.int .i64 0, .int .i64 0, .int .i64 0, .slice none 0 0] 26) := by rw [← hal]; exact heap_alloc_last yf _
  obtain ⟨qZf, hqq⟩ : ∃ q, yf.heap.size = q := ⟨_, rfl⟩
  rw [hqq] at hzz
  have Hal := hidIn hal
  clear hal
  have hbl := hbe
  have HT13 := hidIn (HT12.out.keep hbl)
  have HB13 := hidIn (HB12.out.trans (hbl.mono HB12.out.size))
  have Ea13 := hidIn (Ea12.out.keep hbl (Nat.le_refl _))
  have Ta13 := hidIn ((hbl.block _ (block_lt Ta12.out)).trans Ta12.out)
  have Eb13 := hidIn (Eb12.out.keep hbl (Nat.le_refl _))
  have Tb13 := hidIn ((hbl.block _ (block_lt Tb12.out)).trans Tb12.out)
  have Ec13 := hidIn (Ec12.out.keep hbl (Nat.le_refl _))
  have Tc13 := hidIn ((hbl.block _ (block_lt Tc12.out)).trans Tc12.out)
  have Zd13 := hidIn ((hbl.block _ (block_lt Zd12.out)).trans Zd12.out)
  clear hbl HT12 HB12 Ea12 Ta12 Eb12 Tb12 Ec12 Tc12 Zd12
  have Zf13 := hidIn hzz
  clear hzz hbe
  go_upto_region 6 with fail
  rw [Hal.out]
  clear Hal hqq
  have hlb : esb.length = 1 := by have := congrArg List.length Htob.out; rw [List.length_map] at this; exact this
  have hlc : esc.length = 0 := by have := congrArg List.length Htoc.out; rw [List.length_map] at this; exact this
  obtain rfl : tnb = 1 := by rw [← Htnb.out, hlb]
  obtain rfl : tnc = 0 := by rw [← Htnc.out, hlc]
  obtain ⟨xb, rfl⟩ : ∃ x, esb = [x] := by
    match esb, hlb with
    | [x], _ => exact ⟨x, rfl⟩
  have htb := Htob.out
  simp only [toT, List.map_cons, List.map_nil, List.cons.injEq, Prod.mk.injEq, and_true] at htb
  obtain ⟨_, _, hcE, _, _, hcl⟩ := Eb13.out.op
  simp only [Value.slice.injEq] at hcE
  obtain ⟨hea, hxx, hyy⟩ := hcE
  subst hea
  clear hxx hyy
  obtain ⟨bb, ob, rfl, hbb, hcell⟩ := hcl (by simp)
  obtain ⟨_, _, ew, _, _, _⟩ := hcell 0 xb rfl
  rw [Nat.zero_mul, Nat.add_zero, htb.2.2.1] at ew
  have c1 := cell_of_row _ _ 3 _ _ _ Tb13.out
  have c2 := cell_of_row _ _ 3 _ _ _ Tc13.out
  have c3 := cell_of_row _ _ 0 _ _ _ Tc13.out
  simp at c1 c2 c3
  clear hcl hcell hbb htb hlb hlc
  go_upto_region 8 with fail
  clear c1 c2 c3 ew
  have hla : esa.length = 3 := by have := congrArg List.length Htoa.out; rw [List.length_map] at this; exact this
  obtain rfl : tna = 3 := by rw [← Htna.out, hla]
  obtain ⟨xa, xb', xc, rfl⟩ : ∃ x y z, esa = [x, y, z] := by
    match esa, hla with
    | [x, y, z], _ => exact ⟨x, y, z, rfl⟩
  have hta := Htoa.out
  simp only [toT, List.map_cons, List.map_nil, List.cons.injEq, Prod.mk.injEq, and_true] at hta
  obtain ⟨⟨xa0, xa1, xa2, xa3, xa4, xa5⟩, xan⟩ := xa
  obtain ⟨⟨xb0, xb1, xb2, xb3, xb4, xb5⟩, xbn⟩ := xb'
  obtain ⟨⟨xc0, xc1, xc2, xc3, xc4, xc5⟩, xcn⟩ := xc
  simp only at hta
  obtain ⟨⟨rfl, rfl, rfl, rfl⟩, ⟨rfl, rfl, rfl, rfl⟩, rfl, rfl, rfl, rfl⟩ := hta
  have Hok3 : Hid (tbB 1 8 0 (toT [((0, 1, 4, xa3, xa4, xa5), [2, 3]), ((0, 3, 3, xb3, xb4, xb5), [3]), ((1, 1, 2, xc3, xc4, xc5), [2])]) = true) := hidIn kn_ok3
  clear hla
  have d0 := cell_of_row _ _ 0 _ _ _ Ta13.out
  have d1 := cell_of_row _ _ 1 _ _ _ Ta13.out
  have d2 := cell_of_row _ _ 2 _ _ _ Ta13.out
  have d3 := cell_of_row _ _ 3 _ _ _ Ta13.out
  simp at d0 d1 d2 d3
  have HCa := hidIn (tfind_any Ea13.out HT13.out 1 8 0 0 3)
  go_wp2_with fail
  refine HCa.out.mono ?_
  rintro e za ⟨hF, hb⟩
  rw [Hok3.out] at hF
  rcases hF with ⟨h1, _⟩ | ⟨x, fa, fc, h1, rfl, _⟩
  · cases h1
  obtain rfl := Option.some.inj (h1.symm.trans rfl : some x = some ((0, 3, 3, xb3, xb4, xb5), [3]))
  clear h1
  have hbl := hb
  have HT14 := hidIn (HT13.out.keep hbl)
  have HB14 := hidIn (HB13.out.trans (hbl.mono HB13.out.size))
  have Ea14 := hidIn (Ea13.out.keep hbl (Nat.le_refl _))
  have Ta14 := hidIn ((hbl.block _ (block_lt Ta13.out)).trans Ta13.out)
  have Eb14 := hidIn (Eb13.out.keep hbl (Nat.le_refl _))
  have Tb14 := hidIn ((hbl.block _ (block_lt Tb13.out)).trans Tb13.out)
  have Ec14 := hidIn (Ec13.out.keep hbl (Nat.le_refl _))
  have Tc14 := hidIn ((hbl.block _ (block_lt Tc13.out)).trans Tc13.out)
  have Zd14 := hidIn ((hbl.block _ (block_lt Zd13.out)).trans Zd13.out)
  have Zf14 := hidIn ((hbl.block _ (block_lt Zf13.out)).trans Zf13.out)
  clear hbl HT13 HB13 Ea13 Ta13 Eb13 Tb13 Ec13 Tc13 Zd13 Zf13
  clear hb HCa d0 d1 d2 d3
  obtain ⟨v15, hal⟩ : ∃ v, za.alloc (enO 0 3 3 (.slice fa 1 fc)) = v := ⟨_, rfl⟩
  have hbe : Below za.heap.size za v15 := by rw [← hal]; exact (Below.refl _ za).alloc (Nat.le_refl _) _
  have hzz : v15.heap[za.heap.size]? = some (enO 0 3 3 (.slice fa 1 fc)) := by rw [← hal]; exact heap_alloc_last za _
  obtain ⟨qF, hqq⟩ : ∃ q, za.heap.size = q := ⟨_, rfl⟩
  rw [hqq] at hzz
  have Hal := hidIn hal
  clear hal
  have hbl := hbe
  have HT15 := hidIn (HT14.out.keep hbl)
  have HB15 := hidIn (HB14.out.trans (hbl.mono HB14.out.size))
  have Ea15 := hidIn (Ea14.out.keep hbl (Nat.le_refl _))
  have Ta15 := hidIn ((hbl.block _ (block_lt Ta14.out)).trans Ta14.out)
  have Eb15 := hidIn (Eb14.out.keep hbl (Nat.le_refl _))
  have Tb15 := hidIn ((hbl.block _ (block_lt Tb14.out)).trans Tb14.out)
  have Ec15 := hidIn (Ec14.out.keep hbl (Nat.le_refl _))
  have Tc15 := hidIn ((hbl.block _ (block_lt Tc14.out)).trans Tc14.out)
  have Zd15 := hidIn ((hbl.block _ (block_lt Zd14.out)).trans Zd14.out)
  have Zf15 := hidIn ((hbl.block _ (block_lt Zf14.out)).trans Zf14.out)
  clear hbl HT14 HB14 Ea14 Ta14 Eb14 Tb14 Ec14 Tc14 Zd14 Zf14
  have F15 := hidIn hzz
  clear hzz hbe
  go_upto_region 9 with fail
  rw [Hal.out]
  clear Hal hqq
  have d0 := cell_of_row _ _ 0 _ _ _ Ta15.out
  have d1 := cell_of_row _ _ 1 _ _ _ Ta15.out
  have d2 := cell_of_row _ _ 2 _ _ _ Ta15.out
  have d3 := cell_of_row _ _ 3 _ _ _ Ta15.out
  simp at d0 d1 d2 d3
  have HCa := hidIn (tfind_any Ea15.out HT15.out 1 8 0 0 2)
  go_wp2_with fail
  refine HCa.out.mono ?_
  rintro e zb ⟨hF, hb⟩
  rw [Hok3.out] at hF
  rcases hF with ⟨_, rfl⟩ | ⟨x, _, _, h1, _, _⟩
  rotate_left
  · cases h1
  have hbl := hb
  have HT16 := hidIn (HT15.out.keep hbl)
  have HB16 := hidIn (HB15.out.trans (hbl.mono HB15.out.size))
  have Ea16 := hidIn (Ea15.out.keep hbl (Nat.le_refl _))
  have Ta16 := hidIn ((hbl.block _ (block_lt Ta15.out)).trans Ta15.out)
  have Eb16 := hidIn (Eb15.out.keep hbl (Nat.le_refl _))
  have Tb16 := hidIn ((hbl.block _ (block_lt Tb15.out)).trans Tb15.out)
  have Ec16 := hidIn (Ec15.out.keep hbl (Nat.le_refl _))
  have Tc16 := hidIn ((hbl.block _ (block_lt Tc15.out)).trans Tc15.out)
  have Zd16 := hidIn ((hbl.block _ (block_lt Zd15.out)).trans Zd15.out)
  have Zf16 := hidIn ((hbl.block _ (block_lt Zf15.out)).trans Zf15.out)
  have F16 := hidIn ((hbl.block _ (block_lt F15.out)).trans F15.out)
  clear hbl HT15 HB15 Ea15 Ta15 Eb15 Tb15 Ec15 Tc15 Zd15 Zf15 F15
  clear hb HCa d0 d1 d2 d3
  obtain ⟨v17, hal⟩ : ∃ v, zb.alloc (enO 0 0 0 (.slice none 0 0)) = v := ⟨_, rfl⟩
  have hbe : Below zb.heap.size zb v17 := by rw [← hal]; exact (Below.refl _ zb).alloc (Nat.le_refl _) _
  have hzz : v17.heap[zb.heap.size]? = some (enO 0 0 0 (.slice none 0 0)) := by rw [← hal]; exact heap_alloc_last zb _
  obtain ⟨qG, hqq⟩ : ∃ q, zb.heap.size = q := ⟨_, rfl⟩
  rw [hqq] at hzz
  have Hal := hidIn hal
  clear hal
  have hbl := hbe
  have HT17 := hidIn (HT16.out.keep hbl)
  have HB17 := hidIn (HB16.out.trans (hbl.mono HB16.out.size))
  have Ea17 := hidIn (Ea16.out.keep hbl (Nat.le_refl _))
  have Ta17 := hidIn ((hbl.block _ (block_lt Ta16.out)).trans Ta16.out)
  have Eb17 := hidIn (Eb16.out.keep hbl (Nat.le_refl _))
  have Tb17 := hidIn ((hbl.block _ (block_lt Tb16.out)).trans Tb16.out)
  have Ec17 := hidIn (Ec16.out.keep hbl (Nat.le_refl _))
  have Tc17 := hidIn ((hbl.block _ (block_lt Tc16.out)).trans Tc16.out)
  have Zd17 := hidIn ((hbl.block _ (block_lt Zd16.out)).trans Zd16.out)
  have Zf17 := hidIn ((hbl.block _ (block_lt Zf16.out)).trans Zf16.out)
  have F17 := hidIn ((hbl.block _ (block_lt F16.out)).trans F16.out)
  clear hbl HT16 HB16 Ea16 Ta16 Eb16 Tb16 Ec16 Tc16 Zd16 Zf16 F16
  have G17 := hidIn hzz
  clear hzz hbe
  go_upto_region 10 with fail
  rw [Hal.out]
  clear Hal hqq
  have d0 := cell_of_row _ _ 0 _ _ _ Ta17.out
  have d1 := cell_of_row _ _ 1 _ _ _ Ta17.out
  have d2 := cell_of_row _ _ 2 _ _ _ Ta17.out
  have d3 := cell_of_row _ _ 3 _ _ _ Ta17.out
  simp at d0 d1 d2 d3
  have HCa := hidIn ((tnext_any (e := 77) (by omega) Ea17.out HT17.out 1 8 0 1 1))
  go_wp2_with fail
  refine HCa.out.mono ?_
  rintro e zc ⟨hF, hb⟩
  rw [Hok3.out] at hF
  have hF' : e = .returned (.tuple #[.int .i64 2, .bool true]) := hF.trans (by rw [show nxN 77 (fdE true [((0, 1, 4, xa3, xa4, xa5), [2, 3]), ((0, 3, 3, xb3, xb4, xb5), [3]), ((1, 1, 2, xc3, xc4, xc5), [2])] 1 1) = 2 from kn_ch]; rfl)
  subst hF'
  clear hF
  have hbl := hb
  have HT18 := hidIn (HT17.out.keep hbl)
  have HB18 := hidIn (HB17.out.trans (hbl.mono HB17.out.size))
  have Ea18 := hidIn (Ea17.out.keep hbl (Nat.le_refl _))
  have Ta18 := hidIn ((hbl.block _ (block_lt Ta17.out)).trans Ta17.out)
  have Eb18 := hidIn (Eb17.out.keep hbl (Nat.le_refl _))
  have Tb18 := hidIn ((hbl.block _ (block_lt Tb17.out)).trans Tb17.out)
  have Ec18 := hidIn (Ec17.out.keep hbl (Nat.le_refl _))
  have Tc18 := hidIn ((hbl.block _ (block_lt Tc17.out)).trans Tc17.out)
  have Zd18 := hidIn ((hbl.block _ (block_lt Zd17.out)).trans Zd17.out)
  have Zf18 := hidIn ((hbl.block _ (block_lt Zf17.out)).trans Zf17.out)
  have F18 := hidIn ((hbl.block _ (block_lt F17.out)).trans F17.out)
  have G18 := hidIn ((hbl.block _ (block_lt G17.out)).trans G17.out)
  clear hbl HT17 HB17 Ea17 Ta17 Eb17 Tb17 Ec17 Tc17 Zd17 Zf17 F17 G17
  clear hb HCa d0 d1 d2 d3
  go_upto_region 11 with fail
  have d0 := cell_of_row _ _ 0 _ _ _ Ta18.out
  have d1 := cell_of_row _ _ 1 _ _ _ Ta18.out
  have d2 := cell_of_row _ _ 2 _ _ _ Ta18.out
  have d3 := cell_of_row _ _ 3 _ _ _ Ta18.out
  simp at d0 d1 d2 d3
  have HCa := hidIn ((tnb_any (e := 0) (by omega) Ea18.out HT18.out 1 8 0 5))
  go_wp2_with fail
  refine HCa.out.mono ?_
  rintro e zd ⟨hF, hb⟩
  rw [Hok3.out] at hF
  rcases hF with ⟨h1, _⟩ | ⟨_, na, nc, rfl, _⟩
  · cases h1
  have hrs : (rsL (nbL 0 5 [((0, 1, 4, xa3, xa4, xa5), [2, 3]), ((0, 3, 3, xb3, xb4, xb5), [3]), ((1, 1, 2, xc3, xc4, xc5), [2])])).length = 0 := by rw [show nbL 0 5 [((0, 1, 4, xa3, xa4, xa5), [2, 3]), ((0, 3, 3, xb3, xb4, xb5), [3]), ((1, 1, 2, xc3, xc4, xc5), [2])] = [] from rfl, kn_rs]; rfl
  rw [hrs]
  clear hrs
  have hbl := hb
  have HT19 := hidIn (HT18.out.keep hbl)
  have HB19 := hidIn (HB18.out.trans (hbl.mono HB18.out.size))
  have Ea19 := hidIn (Ea18.out.keep hbl (Nat.le_refl _))
  have Ta19 := hidIn ((hbl.block _ (block_lt Ta18.out)).trans Ta18.out)
  have Eb19 := hidIn (Eb18.out.keep hbl (Nat.le_refl _))
  have Tb19 := hidIn ((hbl.block _ (block_lt Tb18.out)).trans Tb18.out)
  have Ec19 := hidIn (Ec18.out.keep hbl (Nat.le_refl _))
  have Tc19 := hidIn ((hbl.block _ (block_lt Tc18.out)).trans Tc18.out)
  have Zd19 := hidIn ((hbl.block _ (block_lt Zd18.out)).trans Zd18.out)
  have Zf19 := hidIn ((hbl.block _ (block_lt Zf18.out)).trans Zf18.out)
  have F19 := hidIn ((hbl.block _ (block_lt F18.out)).trans F18.out)
  have G19 := hidIn ((hbl.block _ (block_lt G18.out)).trans G18.out)
  clear hbl HT18 HB18 Ea18 Ta18 Eb18 Tb18 Ec18 Tc18 Zd18 Zf18 F18 G18
  clear hb HCa d0 d1 d2 d3
  go_upto_region 12 with fail
  have d0 := cell_of_row _ _ 0 _ _ _ Ta19.out
  have d1 := cell_of_row _ _ 1 _ _ _ Ta19.out
  have d2 := cell_of_row _ _ 2 _ _ _ Ta19.out
  have d3 := cell_of_row _ _ 3 _ _ _ Ta19.out
  simp at d0 d1 d2 d3
  have HCa := hidIn ((tmask_any (e := 0) (by omega) Ea19.out HT19.out 1 8 0 0 25))
  go_wp2_with fail
  refine HCa.out.mono ?_
  rintro e ze ⟨hF, hb⟩
  rw [Hok3.out, show ckT (mkOk true 0 25) = 2 from rfl] at hF
  subst hF
  generalize mkN true 0 0 25 _ = M1
  have hbl := hb
  have HT20 := hidIn (HT19.out.keep hbl)
  have HB20 := hidIn (HB19.out.trans (hbl.mono HB19.out.size))
  have Ea20 := hidIn (Ea19.out.keep hbl (Nat.le_refl _))
  have Ta20 := hidIn ((hbl.block _ (block_lt Ta19.out)).trans Ta19.out)
  have Eb20 := hidIn (Eb19.out.keep hbl (Nat.le_refl _))
  have Tb20 := hidIn ((hbl.block _ (block_lt Tb19.out)).trans Tb19.out)
  have Ec20 := hidIn (Ec19.out.keep hbl (Nat.le_refl _))
  have Tc20 := hidIn ((hbl.block _ (block_lt Tc19.out)).trans Tc19.out)
  have Zd20 := hidIn ((hbl.block _ (block_lt Zd19.out)).trans Zd19.out)
  have Zf20 := hidIn ((hbl.block _ (block_lt Zf19.out)).trans Zf19.out)
  have F20 := hidIn ((hbl.block _ (block_lt F19.out)).trans F19.out)
  have G20 := hidIn ((hbl.block _ (block_lt G19.out)).trans G19.out)
  clear hbl HT19 HB19 Ea19 Ta19 Eb19 Tb19 Ec19 Tc19 Zd19 Zf19 F19 G19
  clear hb HCa d0 d1 d2 d3
  go_upto_region 13 with fail
  have d0 := cell_of_row _ _ 0 _ _ _ Ta20.out
  have d1 := cell_of_row _ _ 1 _ _ _ Ta20.out
  have d2 := cell_of_row _ _ 2 _ _ _ Ta20.out
  have d3 := cell_of_row _ _ 3 _ _ _ Ta20.out
  simp at d0 d1 d2 d3
  have HCa := hidIn ((tmask_any (e := 0) (by omega) Ea20.out HT20.out 1 8 0 128 1))
  go_wp2_with fail
  refine HCa.out.mono ?_
  rintro e zf ⟨hF, hb⟩
  rw [Hok3.out, show ckT (mkOk true 128 1) = 2 from rfl] at hF
  subst hF
  generalize mkN true 0 128 1 _ = M2
  have hbl := hb
  have HT21 := hidIn (HT20.out.keep hbl)
  have HB21 := hidIn (HB20.out.trans (hbl.mono HB20.out.size))
  have Ea21 := hidIn (Ea20.out.keep hbl (Nat.le_refl _))
  have Ta21 := hidIn ((hbl.block _ (block_lt Ta20.out)).trans Ta20.out)
  have Eb21 := hidIn (Eb20.out.keep hbl (Nat.le_refl _))
  have Tb21 := hidIn ((hbl.block _ (block_lt Tb20.out)).trans Tb20.out)
  have Ec21 := hidIn (Ec20.out.keep hbl (Nat.le_refl _))
  have Tc21 := hidIn ((hbl.block _ (block_lt Tc20.out)).trans Tc20.out)
  have Zd21 := hidIn ((hbl.block _ (block_lt Zd20.out)).trans Zd20.out)
  have Zf21 := hidIn ((hbl.block _ (block_lt Zf20.out)).trans Zf20.out)
  have F21 := hidIn ((hbl.block _ (block_lt F20.out)).trans F20.out)
  have G21 := hidIn ((hbl.block _ (block_lt G20.out)).trans G20.out)
  clear hbl HT20 HB20 Ea20 Ta20 Eb20 Tb20 Ec20 Tc20 Zd20 Zf20 F20 G20
  clear hb HCa d0 d1 d2 d3
  go_upto_region 14 with fail
  have f2 := cell_of_row _ _ 2 _ _ _ F21.out
  simp at f2
  go_upto_region 16 with fail
  clear f2
  obtain ⟨q, hq⟩ : ∃ q, zf.heap.size = q := ⟨_, rfl⟩
  obtain ⟨V1, hV1⟩ : ∃ V, zf.alloc (.cells #[.int .i64 2] 3) = V := ⟨_, rfl⟩
  have s1 : V1.heap.size = q + 1 := by rw [← hV1, World.size_alloc, hq]
  have b1 : Below zf.heap.size zf V1 := by rw [← hV1]; exact (Below.refl _ zf).alloc (Nat.le_refl _) _
  have z1 : V1.heap[q]? = some (.cells #[.int .i64 2] 3) := by rw [← hV1, ← hq]; exact heap_alloc_last zf _
  obtain ⟨V2, hV2⟩ : ∃ V, V1.alloc (enO 0 1 2 (.slice (some ⟨q, 0, none⟩) 1 1)) = V := ⟨_, rfl⟩
  have s2 : V2.heap.size = q + 1 + 1 := by rw [← hV2, World.size_alloc, s1]
  have b2 : Below V1.heap.size V1 V2 := by rw [← hV2]; exact (Below.refl _ V1).alloc (Nat.le_refl _) _
  have z2 : V2.heap[q + 1]? = some (enO 0 1 2 (.slice (some ⟨q, 0, none⟩) 1 1)) := by rw [← hV2, ← s1]; exact heap_alloc_last V1 _
  obtain ⟨V3, hV3⟩ : ∃ V, V2.alloc (.cells #[.int .i64 2] 3) = V := ⟨_, rfl⟩
  have s3 : V3.heap.size = q + 1 + 1 + 1 := by rw [← hV3, World.size_alloc, s2]
  have b3 : Below V2.heap.size V2 V3 := by rw [← hV3]; exact (Below.refl _ V2).alloc (Nat.le_refl _) _
  have z3 : V3.heap[q + 1 + 1]? = some (.cells #[.int .i64 2] 3) := by rw [← hV3, ← s2]; exact heap_alloc_last V2 _
  obtain ⟨V4, hV4⟩ : ∃ V, V3.alloc (enO 0 1 1 (.slice (some ⟨q + 1 + 1, 0, none⟩) 1 1)) = V := ⟨_, rfl⟩
  have s4 : V4.heap.size = q + 1 + 1 + 1 + 1 := by rw [← hV4, World.size_alloc, s3]
  have b4 : Below V3.heap.size V3 V4 := by rw [← hV4]; exact (Below.refl _ V3).alloc (Nat.le_refl _) _
  have z4 : V4.heap[q + 1 + 1 + 1]? = some (enO 0 1 1 (.slice (some ⟨q + 1 + 1, 0, none⟩) 1 1)) := by rw [← hV4, ← s3]; exact heap_alloc_last V3 _
  obtain ⟨V5, hV5⟩ : ∃ V, V4.alloc (enO 0 1 2 (.slice none 0 0)) = V := ⟨_, rfl⟩
  have s5 : V5.heap.size = q + 1 + 1 + 1 + 1 + 1 := by rw [← hV5, World.size_alloc, s4]
  have b5 : Below V4.heap.size V4 V5 := by rw [← hV5]; exact (Below.refl _ V4).alloc (Nat.le_refl _) _
  have z5 : V5.heap[q + 1 + 1 + 1 + 1]? = some (enO 0 1 2 (.slice none 0 0)) := by rw [← hV5, ← s4]; exact heap_alloc_last V4 _
  obtain ⟨V6, hV6⟩ : ∃ V, V5.alloc (.cells #[.int .i64 2] 3) = V := ⟨_, rfl⟩
  have s6 : V6.heap.size = q + 1 + 1 + 1 + 1 + 1 + 1 := by rw [← hV6, World.size_alloc, s5]
  have b6 : Below V5.heap.size V5 V6 := by rw [← hV6]; exact (Below.refl _ V5).alloc (Nat.le_refl _) _
  have z6 : V6.heap[q + 1 + 1 + 1 + 1 + 1]? = some (.cells #[.int .i64 2] 3) := by rw [← hV6, ← s5]; exact heap_alloc_last V5 _
  obtain ⟨V7, hV7⟩ : ∃ V, V6.alloc (enO 0 9 2 (.slice (some ⟨q + 1 + 1 + 1 + 1 + 1, 0, none⟩) 1 1)) = V := ⟨_, rfl⟩
  have s7 : V7.heap.size = q + 1 + 1 + 1 + 1 + 1 + 1 + 1 := by rw [← hV7, World.size_alloc, s6]
  have b7 : Below V6.heap.size V6 V7 := by rw [← hV7]; exact (Below.refl _ V6).alloc (Nat.le_refl _) _
  have z7 : V7.heap[q + 1 + 1 + 1 + 1 + 1 + 1]? = some (enO 0 9 2 (.slice (some ⟨q + 1 + 1 + 1 + 1 + 1, 0, none⟩) 1 1)) := by rw [← hV7, ← s6]; exact heap_alloc_last V6 _
  obtain ⟨V8, hV8⟩ : ∃ V, V7.alloc (.cells #[.int .i64 1] 3) = V := ⟨_, rfl⟩
  have s8 : V8.heap.size = q + 1 + 1 + 1 + 1 + 1 + 1 + 1 + 1 := by rw [← hV8, World.size_alloc, s7]
  have b8 : Below V7.heap.size V7 V8 := by rw [← hV8]; exact (Below.refl _ V7).alloc (Nat.le_refl _) _
  have z8 : V8.heap[q + 1 + 1 + 1 + 1 + 1 + 1 + 1]? = some (.cells #[.int .i64 1] 3) := by rw [← hV8, ← s7]; exact heap_alloc_last V7 _
  obtain ⟨V9, hV9⟩ : ∃ V, V8.alloc (enO 0 1 2 (.slice (some ⟨q + 1 + 1 + 1 + 1 + 1 + 1 + 1, 0, none⟩) 1 1)) = V := ⟨_, rfl⟩
  have s9 : V9.heap.size = q + 1 + 1 + 1 + 1 + 1 + 1 + 1 + 1 + 1 := by rw [← hV9, World.size_alloc, s8]
  have b9 : Below V8.heap.size V8 V9 := by rw [← hV9]; exact (Below.refl _ V8).alloc (Nat.le_refl _) _
  have z9 : V9.heap[q + 1 + 1 + 1 + 1 + 1 + 1 + 1 + 1]? = some (enO 0 1 2 (.slice (some ⟨q + 1 + 1 + 1 + 1 + 1 + 1 + 1, 0, none⟩) 1 1)) := by rw [← hV9, ← s8]; exact heap_alloc_last V8 _
  obtain ⟨V10, hV10⟩ : ∃ V, V9.alloc (.cells #[.int .i64 0, .int .i64 8, .int .i64 0, .slice none 0 0, .int .i64 1, .int .i64 24, .int .i64 0, .slice none 0 0, .int .i64 1, .int .i64 8, .int .i64 1025, .slice none 0 0, .int .i64 1, .int .i64 8, .int .i64 1, .slice (some ⟨q + 1, 0, none⟩) 1 1, .int .i64 1, .int .i64 8, .int .i64 0, .slice (some ⟨q + 1 + 1 + 1, 0, none⟩) 1 1, .int .i64 1, .int .i64 8, .int .i64 0, .slice (some ⟨q + 1 + 1 + 1 + 1, 0, none⟩) 1 1, .int .i64 1, .int .i64 8, .int .i64 0, .slice (some ⟨q + 1 + 1 + 1 + 1 + 1 + 1, 0, none⟩) 1 1, .int .i64 1, .int .i64 8, .int .i64 0, .slice (some ⟨q + 1 + 1 + 1 + 1 + 1 + 1 + 1 + 1, 0, none⟩) 1 1] 26) = V := ⟨_, rfl⟩
  have s10 : V10.heap.size = q + 1 + 1 + 1 + 1 + 1 + 1 + 1 + 1 + 1 + 1 := by rw [← hV10, World.size_alloc, s9]
  have b10 : Below V9.heap.size V9 V10 := by rw [← hV10]; exact (Below.refl _ V9).alloc (Nat.le_refl _) _
  have z10 : V10.heap[q + 1 + 1 + 1 + 1 + 1 + 1 + 1 + 1 + 1]? = some (.cells #[.int .i64 0, .int .i64 8, .int .i64 0, .slice none 0 0, .int .i64 1, .int .i64 24, .int .i64 0, .slice none 0 0, .int .i64 1, .int .i64 8, .int .i64 1025, .slice none 0 0, .int .i64 1, .int .i64 8, .int .i64 1, .slice (some ⟨q + 1, 0, none⟩) 1 1, .int .i64 1, .int .i64 8, .int .i64 0, .slice (some ⟨q + 1 + 1 + 1, 0, none⟩) 1 1, .int .i64 1, .int .i64 8, .int .i64 0, .slice (some ⟨q + 1 + 1 + 1 + 1, 0, none⟩) 1 1, .int .i64 1, .int .i64 8, .int .i64 0, .slice (some ⟨q + 1 + 1 + 1 + 1 + 1 + 1, 0, none⟩) 1 1, .int .i64 1, .int .i64 8, .int .i64 0, .slice (some ⟨q + 1 + 1 + 1 + 1 + 1 + 1 + 1 + 1, 0, none⟩) 1 1] 26) := by rw [← hV10, ← s9]; exact heap_alloc_last V9 _
  have hE3 : EnAt V10 (.slice (some ⟨q + 1, 0, none⟩) 1 1) [((0, 1, 2, some ⟨q, 0, none⟩, 1, 1), [2])] := ((((((((en_blk (x := ((0, 1, 2, some ⟨q, 0, none⟩, 1, 1), [2])) z2 ((one_blk z1).keep b2 (Nat.le_refl _))).keep b3 (Nat.le_refl _)).keep b4 (Nat.le_refl _)).keep b5 (Nat.le_refl _)).keep b6 (Nat.le_refl _)).keep b7 (Nat.le_refl _)).keep b8 (Nat.le_refl _)).keep b9 (Nat.le_refl _)).keep b10 (Nat.le_refl _)
  have hE4 : EnAt V10 (.slice (some ⟨q + 1 + 1 + 1, 0, none⟩) 1 1) [((0, 1, 1, some ⟨q + 1 + 1, 0, none⟩, 1, 1), [2])] := ((((((en_blk (x := ((0, 1, 1, some ⟨q + 1 + 1, 0, none⟩, 1, 1), [2])) z4 ((one_blk z3).keep b4 (Nat.le_refl _))).keep b5 (Nat.le_refl _)).keep b6 (Nat.le_refl _)).keep b7 (Nat.le_refl _)).keep b8 (Nat.le_refl _)).keep b9 (Nat.le_refl _)).keep b10 (Nat.le_refl _)
  have hE5 : EnAt V10 (.slice (some ⟨q + 1 + 1 + 1 + 1, 0, none⟩) 1 1) [((0, 1, 2, none, 0, 0), [])] := (((((en_blk (x := ((0, 1, 2, none, 0, 0), [])) z5 (nil_ints _)).keep b6 (Nat.le_refl _)).keep b7 (Nat.le_refl _)).keep b8 (Nat.le_refl _)).keep b9 (Nat.le_refl _)).keep b10 (Nat.le_refl _)
  have hE6 : EnAt V10 (.slice (some ⟨q + 1 + 1 + 1 + 1 + 1 + 1, 0, none⟩) 1 1) [((0, 9, 2, some ⟨q + 1 + 1 + 1 + 1 + 1, 0, none⟩, 1, 1), [2])] := (((en_blk (x := ((0, 9, 2, some ⟨q + 1 + 1 + 1 + 1 + 1, 0, none⟩, 1, 1), [2])) z7 ((one_blk z6).keep b7 (Nat.le_refl _))).keep b8 (Nat.le_refl _)).keep b9 (Nat.le_refl _)).keep b10 (Nat.le_refl _)
  have hE7 : EnAt V10 (.slice (some ⟨q + 1 + 1 + 1 + 1 + 1 + 1 + 1 + 1, 0, none⟩) 1 1) [((0, 1, 2, some ⟨q + 1 + 1 + 1 + 1 + 1 + 1 + 1, 0, none⟩, 1, 1), [1])] := (en_blk (x := ((0, 1, 2, some ⟨q + 1 + 1 + 1 + 1 + 1 + 1 + 1, 0, none⟩, 1, 1), [1])) z9 ((one_blk z8).keep b9 (Nat.le_refl _))).keep b10 (Nat.le_refl _)
  obtain ⟨BL, hBL⟩ : ∃ BL : List Rw, [(0, 8, 0, none, 0, 0), (1, 24, 0, none, 0, 0), (1, 8, 1025, none, 0, 0), (1, 8, 1, some ⟨q + 1, 0, none⟩, 1, 1), (1, 8, 0, some ⟨q + 1 + 1 + 1, 0, none⟩, 1, 1), (1, 8, 0, some ⟨q + 1 + 1 + 1 + 1, 0, none⟩, 1, 1), (1, 8, 0, some ⟨q + 1 + 1 + 1 + 1 + 1 + 1, 0, none⟩, 1, 1), (1, 8, 0, some ⟨q + 1 + 1 + 1 + 1 + 1 + 1 + 1 + 1, 0, none⟩, 1, 1)] = BL := ⟨_, rfl⟩
  have hSB : SlAt rwcs 4 V10 (.slice (some ⟨q + 1 + 1 + 1 + 1 + 1 + 1 + 1 + 1 + 1, 0, none⟩) 8 8) BL := by rw [← hBL]; exact rw_blk (l := [(0, 8, 0, none, 0, 0), (1, 24, 0, none, 0, 0), (1, 8, 1025, none, 0, 0), (1, 8, 1, some ⟨q + 1, 0, none⟩, 1, 1), (1, 8, 0, some ⟨q + 1 + 1 + 1, 0, none⟩, 1, 1), (1, 8, 0, some ⟨q + 1 + 1 + 1 + 1, 0, none⟩, 1, 1), (1, 8, 0, some ⟨q + 1 + 1 + 1 + 1 + 1 + 1, 0, none⟩, 1, 1), (1, 8, 0, some ⟨q + 1 + 1 + 1 + 1 + 1 + 1 + 1 + 1, 0, none⟩, 1, 1)]) z10 (by simp)
  have HEn : Hid (∀ x ∈ BL, ∃ es, EnAt V10 (rwS x) es ∧ tbB x.1 x.2.1 x.2.2.1 (toT es) = false) := hidIn (by
    obtain ⟨k0, k1, k2, k3, k4, k5, k6, k7⟩ := kn_bad
    intro x hx
    rw [← hBL] at hx
    simp only [List.mem_cons, List.not_mem_nil, or_false] at hx
    rcases hx with rfl | rfl | rfl | rfl | rfl | rfl | rfl | rfl
    · exact ⟨_, nil_en _, k0⟩
    · exact ⟨_, nil_en _, k1⟩
    · exact ⟨_, nil_en _, k2⟩
    · exact ⟨_, hE3, k3⟩
    · exact ⟨_, hE4, k4⟩
    · exact ⟨_, hE5, k5⟩
    · exact ⟨_, hE6, k6⟩
    · exact ⟨_, hE7, k7⟩)
  have hcb := b1
  replace hcb := hcb.trans (b2.mono hcb.size)
  replace hcb := hcb.trans (b3.mono hcb.size)
  replace hcb := hcb.trans (b4.mono hcb.size)
  replace hcb := hcb.trans (b5.mono hcb.size)
  replace hcb := hcb.trans (b6.mono hcb.size)
  replace hcb := hcb.trans (b7.mono hcb.size)
  replace hcb := hcb.trans (b8.mono hcb.size)
  replace hcb := hcb.trans (b9.mono hcb.size)
  replace hcb := hcb.trans (b10.mono hcb.size)
  have hbl := hcb
  have HT22 := hidIn (HT21.out.keep hbl)
  have HB22 := hidIn (HB21.out.trans (hbl.mono HB21.out.size))
  have Ea22 := hidIn (Ea21.out.keep hbl (Nat.le_refl _))
  have Ta22 := hidIn ((hbl.block _ (block_lt Ta21.out)).trans Ta21.out)
  have Eb22 := hidIn (Eb21.out.keep hbl (Nat.le_refl _))
  have Tb22 := hidIn ((hbl.block _ (block_lt Tb21.out)).trans Tb21.out)
  have Ec22 := hidIn (Ec21.out.keep hbl (Nat.le_refl _))
  have Tc22 := hidIn ((hbl.block _ (block_lt Tc21.out)).trans Tc21.out)
  have Zd22 := hidIn ((hbl.block _ (block_lt Zd21.out)).trans Zd21.out)
  have Zf22 := hidIn ((hbl.block _ (block_lt Zf21.out)).trans Zf21.out)
  have F22 := hidIn ((hbl.block _ (block_lt F21.out)).trans F21.out)
  have G22 := hidIn ((hbl.block _ (block_lt G21.out)).trans G21.out)
  clear hbl HT21 HB21 Ea21 Ta21 Eb21 Tb21 Ec21 Tc21 Zd21 Zf21 F21 G21
  have HSB := hidIn hSB
  have HBL : Hid (BL.length = 8) := hidIn (by rw [← hBL]; rfl)
  have Hq := hidIn hq
  have Hv1 := hidIn hV1
  have Hv2 := hidIn hV2
  have Hv3 := hidIn hV3
  have Hv4 := hidIn hV4
  have Hv5 := hidIn hV5
  have Hv6 := hidIn hV6
  have Hv7 := hidIn hV7
  have Hv8 := hidIn hV8
  have Hv9 := hidIn hV9
  have Hv10 := hidIn hV10
  clear hBL hSB hcb hq hV1 s1 b1 z1 hV2 s2 b2 z2 hV3 s3 b3 z3 hV4 s4 b4 z4 hV5 s5 b5 z5 hV6 s6 b6 z6 hV7 s7 b7 z7 hV8 s8 b8 z8 hV9 s9 b9 z9 hV10 s10 b10 z10 hE3 hE4 hE5 hE6 hE7
  go_upto_region 17 with fail
  rw [Hq.out, Hv1.out, Hv2.out, Hv3.out, Hv4.out, Hv5.out, Hv6.out, Hv7.out, Hv8.out, Hv9.out, Hv10.out]
  clear Hq Hv1 Hv2 Hv3 Hv4 Hv5 Hv6 Hv7 Hv8 Hv9 Hv10
  go_wp2_with fail
  go_loopw [19] (fun i wz => ∃ k : Nat, k ≤ 8 ∧ i = .int .i64 k ∧ Hid (Below V10.heap.size V10 wz)) (fun i _ => 8 - (intOf i).toNat)
  case atStart => exact ⟨0, by omega, rfl, hidIn (Below.refl _ _)⟩
  case round =>
    obtain ⟨k, hk, rfl, HR⟩ := hrel
    by_cases hlt : k < 8
    · have hki : (k : Int) < 8 := by omega
      obtain ⟨x, hx⟩ : ∃ x, BL[k]? = some x := ⟨BL[k]'(by have := HBL.out; omega), List.getElem?_eq_getElem _⟩
      obtain ⟨es, hE, hno⟩ := HEn.out x (List.mem_of_getElem? hx)
      obtain ⟨a', c', hee, _, _, hcl⟩ := (HSB.out.keep HR.out (Nat.le_refl _)).rws
      obtain ⟨bk, oo, h1, hbk, hcell⟩ := hcl (by have := HBL.out; omega)
      simp only [Value.slice.injEq] at hee
      obtain ⟨hea, hxx, hyy⟩ := hee
      rw [h1, Option.some.injEq, Addr.mk.injEq] at hea
      obtain ⟨rfl, rfl, _⟩ := hea
      clear hxx hyy h1
      obtain ⟨e0, e1, e2, e3⟩ := hcell k x hx
      simp only [Nat.zero_add] at e0 e1 e2 e3
      have hEr := hE.keep HR.out (Nat.le_refl _)
      have hTr := HT22.out.keep HR.out
      have HFi := hidIn (tfind_any hEr hTr x.1 x.2.1 x.2.2.1 0 1)
      rw [hno] at HFi
      obtain ⟨x0, x1, x2, x3, x4, x5⟩ := x
      simp only at e0 e1 e2 e3 HFi hEr hno
      have HEr := hidIn hEr
      have Hno := hidIn hno
      have HTr := hidIn hTr
      clear hcl hcell hx hE hEr hno hTr hbk
      go_wp2_with fail
      refine HFi.out.mono ?_
      rintro e w6 ⟨hF, hb6⟩
      rcases hF with ⟨_, rfl⟩ | ⟨x, _, _, h1, _, _⟩
      rotate_left
      · cases h1
      obtain ⟨W7, hW7⟩ : ∃ W7, w6.alloc (enO 0 0 0 (.slice none 0 0)) = W7 := ⟨_, rfl⟩
      have b7 : Below w6.heap.size w6 W7 := by rw [← hW7]; exact (Below.refl _ w6).alloc (Nat.le_refl _) _
      have c7 := hb6.trans (b7.mono hb6.size)
      have HCk := hidIn (tcheck_any (HEr.out.keep c7 (Nat.le_refl _)) (HTr.out.keep c7) x0 x1 x2)
      rw [Hno.out] at HCk
      have g0 := (c7.cell (block_lt_of_cell e0)).trans e0
      have g1 := (c7.cell (block_lt_of_cell e1)).trans e1
      have g2 := (c7.cell (block_lt_of_cell e2)).trans e2
      have g3 := (c7.cell (block_lt_of_cell e3)).trans e3
      have HB7 := hidIn (HR.out.trans (c7.mono HR.out.size))
      have HW7 := hidIn hW7
      clear hb6 hW7 b7 c7 HFi e0 e1 e2 e3
      go_upto_region 21 with fail
      rw [HW7.out]
      clear HW7
      go_wp2_with fail
      refine HCk.out.mono ?_
      rintro e w8 ⟨rfl, hb8⟩
      have HB8 := hidIn (HB7.out.trans (hb8.mono HB7.out.size))
      clear hb8 HCk g0 g1 g2 g3
      go_wp2_with fail
      go_roundw
      case rel => exact ⟨k + 1, by omega, by go_num, HB8⟩
      case measure => simp [intOf]; omega
    · have hki : ¬ (k : Int) < 8 := by omega
      have HTr := hidIn (HT22.out.keep HR.out)
      have HBr := hidIn (HB22.out.trans (HR.out.mono HB22.out.size))
      have HCk := hidIn (tcheck_any (nil_en wr) HTr.out 1 8 0)
      rw [show tbB 1 8 0 (toT []) = true from kn_good] at HCk
      go_wp2_with fail
      refine HCk.out.mono ?_
      rintro e w8 ⟨rfl, hb8⟩
      have HB8 := hidIn (HBr.out.trans (hb8.mono HBr.out.size))
      have HT8 := hidIn (HTr.out.keep hb8)
      clear hb8 HCk
      go_wp2_with fail
      refine (tworks_any w8 HT8.out).mono ?_
      rintro e w9 ⟨rfl, hb9⟩
      have HB9 := hidIn (HB8.out.trans (hb9.mono HB8.out.size))
      clear hb9
      go_wp2_with fail
      go_ret
      exact ⟨rfl, HB9.out⟩
end Go.Proofs.YtbggingacoheiaaGreatDoor
namespace Go.Proofs.YtbggingacoheiaaGreatDoor

/-- One link more in the table of costs. -/
def wLk (c : Nat → Int) (x : Ed) : Nat → Int :=
  if x.1.toNat % 7 ≠ x.2.1.toNat % 7 then putV (putV c (8 * (x.1.toNat % 7) + x.2.1.toNat % 7) (1 + x.2.2 % 4)) (8 * (x.2.1.toNat % 7) + x.1.toNat % 7) (1 + x.2.2 % 4) else c
def wTb (L : List Ed) : Nat → Int := L.foldl wLk (fun _ => 0)
theorem wTb_snoc (L : List Ed) (x : Ed) : wTb (L ++ [x]) = wLk (wTb L) x := by simp [wTb, List.foldl_append]
structure WtOk (c : Nat → Int) : Prop where
  bd : ∀ i, 0 ≤ c i ∧ c i ≤ 4
  sy : ∀ a b, a < 8 → b < 8 → c (8 * a + b) = c (8 * b + a)
  di : ∀ a, a < 8 → c (8 * a + a) = 0
theorem wLk_ok {c : Nat → Int} {x : Ed} (h : WtOk c) : WtOk (wLk c x) := by
  have ha := Nat.mod_lt x.1.toNat (show 0 < 7 by decide)
  have hb := Nat.mod_lt x.2.1.toNat (show 0 < 7 by decide)
  unfold wLk
  generalize x.1.toNat % 7 = a at *
  generalize x.2.1.toNat % 7 = b at *
  by_cases hc : a ≠ b
  · rw [if_pos hc]
    have hv : 0 ≤ 1 + x.2.2 % 4 ∧ 1 + x.2.2 % 4 ≤ 4 := by omega
    generalize 1 + x.2.2 % 4 = v at *
    refine ⟨fun i => ?_, fun p q hp hq => ?_, fun p hp => ?_⟩
    · unfold putV
      have := h.bd i
      split
      · exact hv
      · split
        · exact hv
        · exact this
    · have h1 := h.sy p q hp hq
      unfold putV
      by_cases e1 : p = a ∧ q = b
      · obtain ⟨rfl, rfl⟩ := e1
        simp
      · by_cases e2 : p = b ∧ q = a
        · obtain ⟨rfl, rfl⟩ := e2
          simp
        · rw [if_neg (by omega), if_neg (by omega), if_neg (by omega), if_neg (by omega)]
          exact h1
    · unfold putV
      rw [if_neg (by omega), if_neg (by omega)]
      exact h.di p hp
  · rw [if_neg hc]
    exact h
theorem wTb_ok (L : List Ed) : WtOk (wTb L) := by
  have key : ∀ (L : List Ed) (c : Nat → Int), WtOk c → WtOk (L.foldl wLk c) := by
    intro L
    induction L with
    | nil => intro c h; exact h
    | cons x L ih => intro c h; exact ih _ (wLk_ok h)
  exact key L _ ⟨fun _ => by omega, fun _ _ _ _ => rfl, fun _ _ => rfl⟩
/-- The neighbours of a router; its record; all records. -/
def wAd (c : Nat → Int) (a m : Nat) : List (Int × Int) := ((List.range m).filter fun b => decide (0 < c (8 * a + b))).map fun b : Nat => ((b : Int) + 1, c (8 * a + b))
def wRc (c : Nat → Int) (C : Nat → Int) (a : Nat) : Rc := ⟨(a : Int) + 1, 1, 1, C a, false, wAd c a 7⟩
def wRs (c : Nat → Int) (C : Nat → Int) (n : Nat) : List Rc := (List.range n).map (wRc c C)
theorem wAd_succ (c : Nat → Int) (a m : Nat) : wAd c a (m + 1) = wAd c a m ++ (if 0 < c (8 * a + m) then [((m : Int) + 1, c (8 * a + m))] else []) := by
  unfold wAd
  rw [List.range_succ, List.filter_append, List.map_append]
  by_cases h : 0 < c (8 * a + m) <;> simp [h]
theorem wAd_mem {c : Nat → Int} {a m : Nat} {x : Int × Int} : x ∈ wAd c a m ↔ ∃ b, b < m ∧ 0 < c (8 * a + b) ∧ x = ((b : Int) + 1, c (8 * a + b)) := by
  unfold wAd
  simp only [List.mem_map, List.mem_filter, List.mem_range, decide_eq_true_eq]
  constructor
  · rintro ⟨b, ⟨h1, h2⟩, rfl⟩; exact ⟨b, h1, h2, rfl⟩
  · rintro ⟨b, h1, h2, rfl⟩; exact ⟨b, ⟨h1, h2⟩, rfl⟩
theorem wAd_len (c : Nat → Int) (a m : Nat) : (wAd c a m).length ≤ m := by
  unfold wAd
  rw [List.length_map]
  exact Nat.le_trans (List.length_filter_le _ _) (by simp)
theorem wAd_rise (c : Nat → Int) (a m : Nat) : (wAd c a m).Pairwise fun x y => x.1 < y.1 := by
  unfold wAd
  rw [List.pairwise_map]
  refine (List.pairwise_lt_range.filter _).imp fun h => ?_
  show ((_ : Nat) : Int) + 1 < ((_ : Nat) : Int) + 1
  omega
theorem adjsOk_of {o : Int} : ∀ (l : List (Int × Int)) (last : Int), l.Pairwise (fun x y => x.1 < y.1) → (∀ x ∈ l, 1 ≤ x.1 ∧ x.1 ≤ 24 ∧ x.1 ≠ o ∧ last < x.1 ∧ 1 ≤ x.2 ∧ x.2 ≤ 1000) → adjsOk o last l = true
  | [], _, _, _ => rfl
  | x :: l, last, hp, h => by
    rw [List.pairwise_cons] at hp
    have hx := h x (by simp)
    simp only [adjsOk, adjOk, Bool.and_eq_true, isR_iff, isC_iff, Bool.not_eq_true', decide_eq_false_iff_not, decide_eq_true_eq]
    refine ⟨⟨⟨hx.1, hx.2.1⟩, hx.2.2.1, hx.2.2.2.1, hx.2.2.2.2⟩, adjsOk_of l x.1 hp.2 fun y hy => ?_⟩
    have hy' := h y (by simp [hy])
    exact ⟨hy'.1, hy'.2.1, hy'.2.2.1, hp.1 y hy, hy'.2.2.2.2⟩
theorem wRc_ok {c C : Nat → Int} (hc : WtOk c) (hC : ∀ i, i < 7 → 0 ≤ C i ∧ C i ≤ 1024) {a : Nat} (ha : a < 7) : recOk (wRc c C a) = true := by
  have h1 := wAd_len c a 7
  have h2 := hC a ha
  show recOk ⟨(a : Int) + 1, 1, 1, C a, false, wAd c a 7⟩ = true
  simp only [recOk, isR_iff, Bool.and_eq_true, decide_eq_true_eq]
  refine ⟨⟨by omega, by omega⟩, by omega, by omega, h2.1, h2.2, by omega, adjsOk_of _ _ (wAd_rise c a 7) fun x hx => ?_⟩
  obtain ⟨b, h3, h4, rfl⟩ := wAd_mem.1 hx
  have h5 := hc.bd (8 * a + b)
  refine ⟨by simp only; omega, by simp only; omega, ?_, by simp only; omega, by simp only; omega, by simp only; omega⟩
  intro e
  simp only at e
  have hab : b = a := by omega
  subst hab
  have := hc.di b (by omega)
  omega
theorem wRs_mem {c C : Nat → Int} {n : Nat} {r : Rc} : r ∈ wRs c C n ↔ ∃ a, a < n ∧ r = wRc c C a := by
  unfold wRs
  simp only [List.mem_map, List.mem_range]
  constructor
  · rintro ⟨a, h, rfl⟩; exact ⟨a, h, rfl⟩
  · rintro ⟨a, h, rfl⟩; exact ⟨a, h, rfl⟩
theorem wRs_succ (c C : Nat → Int) (n : Nat) : wRs c C (n + 1) = wRs c C n ++ [wRc c C n] := by simp [wRs, List.range_succ]
theorem wRs_unl {c C : Nat → Int} (hc : WtOk c) (hC : ∀ i, i < 7 → 0 ≤ C i ∧ C i ≤ 1024) : Unl (wRs c C 7) := by
  refine ⟨fun r hr => ?_, ?_⟩
  · obtain ⟨a, ha, rfl⟩ := wRs_mem.1 hr
    exact wRc_ok hc hC ha
  · unfold wRs
    rw [List.pairwise_map]
    refine List.pairwise_lt_range.imp fun h => ?_
    show ((_ : Nat) : Int).toNat + 1 ≠ _
    simp only [wRc]
    omega
/-- A record of a router that nobody names. -/
abbrev far20 (self : Int) : Rc := ⟨20, 1, 1, 5, false, [(self, 1)]⟩
def turnR (self : Int) (rs : List Rc) : List Rc := rs.reverse ++ [far20 self]
theorem turn_unl {rs : List Rc} {self : Int} (h : Unl rs) (hs : 1 ≤ self ∧ self ≤ 7) (ho : ∀ r ∈ rs, r.origin ≤ 7) : Unl (turnR self rs) := by
  have h' := h.reverse
  refine ⟨fun r hr => ?_, ?_⟩
  · rcases List.mem_append.1 hr with hr | hr
    · exact h'.1 r hr
    · rw [List.mem_singleton.1 hr]
      simp only [recOk, isR_iff, Bool.and_eq_true, decide_eq_true_eq]
      refine ⟨by omega, by omega, by omega, by omega, by omega, by simp, adjsOk_of _ _ (by simp) fun x hx => ?_⟩
      rw [List.mem_singleton.1 hx]
      simp only
      omega
  · refine List.pairwise_append.2 ⟨h'.2, by simp, fun a ha b hb => ?_⟩
    rw [List.mem_singleton.1 hb]
    have h1 := ho a (List.mem_reverse.1 ha)
    have h2 := (recOk_parts (h'.1 a ha)).1
    show a.origin.toNat ≠ (20 : Int).toNat
    omega
theorem laidE_same {c d : Nat → Nat → Int} (h : ∀ a b, (0 < c a b ∧ 0 < c b a ↔ 0 < d a b ∧ 0 < d b a) ∧ (0 < c a b → 0 < c b a → c a b = d a b)) : laidE c = laidE d := by
  unfold laidE
  have : ∀ a, rowE c a (List.range 25) = rowE d a (List.range 25) := fun a => by
    unfold rowE
    have hf : ((List.range 25).filter fun b => decide (0 < c a b) && decide (0 < c b a)) = (List.range 25).filter fun b => decide (0 < d a b) && decide (0 < d b a) := List.filter_congr fun b _ => by
      have := (h a b).1
      rw [← Bool.decide_and, ← Bool.decide_and, decide_eq_decide]
      exact this
    rw [← hf]
    refine List.map_congr_left fun b hb => ?_
    simp only [List.mem_filter, Bool.and_eq_true, decide_eq_true_eq] at hb
    rw [(h a b).2 hb.2.1 hb.2.2]
  simp only [this]
/-- The edges are the same: nobody names 20. -/
theorem turn_E {rs : List Rc} {self : Int} (h : Unl rs) (hs : 1 ≤ self ∧ self ≤ 7) (ho : ∀ r ∈ rs, r.origin ≤ 7) (hn : ∀ r ∈ rs, ∀ x ∈ r.adjs, x.1 ≤ 7) : bothE (turnR self rs) = bothE rs := by
  have k1 := isCost_of h
  have k2 := isCost_of (turn_unl h hs ho)
  have hmem : ∀ r, r ∈ turnR self rs ↔ r ∈ rs ∨ r = far20 self := fun r => by unfold turnR; simp
  unfold bothE
  refine (laidE_same fun a b => ?_).symm
  have hpos := isCost_pos k1 h
  have hpos2 := isCost_pos k2 (turn_unl h hs ho)
  generalize costL no2 rs = c at *
  generalize costL no2 (turnR self rs) = d at *
  have e1 : ∀ i j, c i j ≠ 0 → d i j = c i j := fun i j hne => by
    obtain ⟨r, hr, x, hx, rfl, rfl⟩ := k1.from' i j hne
    rw [k1.at' r hr x hx, k2.at' r ((hmem r).2 (.inl hr)) x hx]
  have e2 : ∀ i j, d i j ≠ 0 → c i j ≠ 0 ∨ (i = 20 ∧ j = self.toNat) := fun i j hne => by
    obtain ⟨r, hr, x, hx, h1, h2⟩ := k2.from' i j hne
    rcases (hmem r).1 hr with hr | rfl
    · left
      have := k1.at' r hr x hx
      rw [h1, h2] at this
      rw [this]
      have := recOk_adj (h.1 r hr) hx
      omega
    · right
      rw [List.mem_singleton.1 hx] at h2
      exact ⟨h1.symm, h2.symm⟩
  have e3 : ∀ i j, c i j ≠ 0 → i ≤ 7 ∧ j ≤ 7 := fun i j hne => by
    obtain ⟨r, hr, x, hx, rfl, rfl⟩ := k1.from' i j hne
    have := ho r hr
    have := hn r hr x hx
    omega
  have p1 := hpos a b
  have p2 := hpos b a
  have q1 := hpos2 a b
  have q2 := hpos2 b a
  refine ⟨⟨fun ⟨g1, g2⟩ => ?_, fun ⟨g1, g2⟩ => ?_⟩, fun g1 g2 => ?_⟩
  · rw [e1 a b (by omega), e1 b a (by omega)]; exact ⟨g1, g2⟩
  · have r1 := e2 a b (by omega)
    have r2 := e2 b a (by omega)
    rcases r1 with r1 | r1
    · rcases r2 with r2 | r2
      · rw [← e1 a b r1, ← e1 b a r2]; exact ⟨g1, g2⟩
      · have := e3 a b r1; omega
    · rcases r2 with r2 | r2
      · have := e3 b a r2; omega
      · omega
  · rw [e1 a b (by omega)]
theorem bothN_mem {rs : List Rc} (h : Unl rs) {x : Int} : x ∈ bothN rs ↔ ∃ r ∈ rs, r.origin = x := by
  unfold bothN markedL
  constructor
  · intro h1
    obtain ⟨i, hi, rfl⟩ := List.mem_map.1 h1
    rcases (thereL_iff rs no1 i).1 (List.mem_filter.1 hi).2 with h2 | ⟨r, hr, h2⟩
    · cases h2
    · have := (recOk_parts (h.1 r hr)).1
      exact ⟨r, hr, by omega⟩
  · rintro ⟨r, hr, rfl⟩
    have := (recOk_parts (h.1 r hr)).1
    exact List.mem_map.2 ⟨r.origin.toNat, List.mem_filter.2 ⟨List.mem_range.2 (by omega), (thereL_iff rs no1 _).2 (.inr ⟨r, hr, rfl⟩)⟩, by omega⟩
theorem IsFrom.widen {ns ns' : List Int} {es : List Ed} {r : Int} {W : List Rr} (h : IsFrom ns es r W) (h1 : ∀ x ∈ ns, x ∈ ns') (h2 : ∀ x d, x ∈ ns' → Ds es r x d → x ∈ ns) : IsFrom ns' es r W :=
  ⟨h.rise, fun p hp => ⟨h1 _ (h.right p hp).1, (h.right p hp).2⟩, fun x d hx hd => h.all x d (h2 x d hx hd) hd⟩
theorem allC_eqv {rs rs' : List Rc} (h : ∀ r, r ∈ rs ↔ r ∈ rs') : allC rs = allC rs' := by
  have hg : ∀ id x, x ∈ gat rs id ↔ x ∈ gat rs' id := fun id x => by rw [mem_gat, mem_gat]; simp only [h]
  have hn : ∀ id, gat rs id ≠ [] ↔ gat rs' id ≠ [] := fun id => by
    constructor
    · intro hne e
      obtain ⟨x, hx⟩ := List.exists_mem_of_ne_nil _ hne
      have := (hg id x).1 hx
      rw [e] at this
      cases this
    · intro hne e
      obtain ⟨x, hx⟩ := List.exists_mem_of_ne_nil _ hne
      have := (hg id x).2 hx
      rw [e] at this
      cases this
  have hi : idsL rs = idsL rs' := crise_ext (idsL_rise _) (idsL_rise _) (fun x => by rw [mem_idsL, mem_idsL, hn])
  unfold allC
  rw [hi]
  exact List.map_congr_left fun id _ => by rw [rsL_same (hg id)]
/-- Where self has a record, the ways are From's. -/
theorem WaysIs.from {l : List (Rc × Value)} {self : Int} {W : List Rr} (h : WaysIs l self W) (hu : Unl (rcs l)) (hs : ∃ r ∈ rcs l, r.origin = self) : self ∈ bothN (rcs l) ∧ graphOk (bothN (rcs l)) (bothE (rcs l)) = true ∧ IsFrom (bothN (rcs l)) (bothE (rcs l)) self W := by
  have hm := (bothN_mem hu).2 hs
  have hg := both_may hu
  refine ⟨hm, hg, ?_⟩
  rcases h with ⟨h1, _⟩ | ⟨_, h1⟩
  · unfold ndAll at h1
    rw [hg] at h1
    simp only [List.all_cons, List.all_nil, Bool.and_true, Bool.true_and] at h1
    rw [hasN_iff.2 hm] at h1
    cases h1
  · exact h1
/-- The ways, and what is claimed by those that they come to, hang on no order, and on nobody that is not come to. -/
theorem turn_same {l l' : List (Rc × Value)} {rs : List Rc} {self : Int} {W W' : List Rr} (e1 : rcs l = rs) (e2 : rcs l' = turnR self rs) (h : Unl rs) (hs : 1 ≤ self ∧ self ≤ 7) (hso : ∃ r ∈ rs, r.origin = self) (ho : ∀ r ∈ rs, r.origin ≤ 7) (hn : ∀ r ∈ rs, ∀ x ∈ r.adjs, x.1 ≤ 7) (hW : WaysIs l self W) (hW' : WaysIs l' self W') :
    W = W' ∧ allC ((rcs l).filter fun x => (ofW W x.origin).isSome) = allC ((rcs l').filter fun x => (ofW W' x.origin).isSome) := by
  have hmem : ∀ r, r ∈ turnR self rs ↔ r ∈ rs ∨ r = far20 self := fun r => by unfold turnR; simp
  have hu' := turn_unl h hs ho
  obtain ⟨hm, hg, hF⟩ := hW.from (by rw [e1]; exact h) (by rw [e1]; exact hso)
  obtain ⟨_, _, hF'⟩ := hW'.from (by rw [e2]; exact hu') (by rw [e2]; obtain ⟨r, hr, h1⟩ := hso; exact ⟨r, (hmem r).2 (.inl hr), h1⟩)
  rw [e1] at hm hg hF
  rw [e2, turn_E h hs ho hn] at hF'
  have hWW : W = W' := by
    refine (hF.widen (ns' := bothN (turnR self rs)) (fun x hx => ?_) (fun x d hx hd => ?_)).uniq hF'
    · obtain ⟨r, hr, h1⟩ := (bothN_mem h).1 hx
      exact (bothN_mem hu').2 ⟨r, (hmem r).2 (.inl hr), h1⟩
    · exact hd.node hg hm
  refine ⟨hWW, ?_⟩
  rw [← hWW, e1, e2]
  refine allC_eqv fun r => ?_
  rw [List.mem_filter, List.mem_filter, hmem]
  constructor
  · rintro ⟨h1, h2⟩; exact ⟨.inl h1, h2⟩
  · rintro ⟨h1 | rfl, h2⟩
    · exact ⟨h1, h2⟩
    · exfalso
      obtain ⟨X, hX⟩ := Option.isSome_iff_exists.1 h2
      have h3 := ofW_node hX
      have h4 := (hF.right X (List.mem_of_find?_eq_some hX)).1
      rw [h3] at h4
      obtain ⟨r, hr, h5⟩ := (bothN_mem h).1 h4
      have := ho r hr
      have e20 : r.origin = 20 := h5
      omega
end Go.Proofs.YtbggingacoheiaaGreatDoor
namespace Go.Proofs.YtbggingacoheiaaGreatDoor
open Go.RowKit

abbrev lc13 (x : Ed) : List Value := [.int .u8 x.1, .int .u8 x.2.1, .int .u8 x.2.2]
theorem SlAt.lk13 {w : World} {v : Value} {l : List Ed} (h : SlAt lc13 3 w v l) : ∃ a cap, v = .slice a l.length cap ∧ l.length ≤ 9223372036854775807 ∧ l.length ≤ cap ∧ (0 < l.length → ∃ bk o, a = some ⟨bk, o, none⟩ ∧ bk < w.heap.size ∧ ∀ j x, l[j]? = some x → w.cell? ⟨bk, o + j * 3, none⟩ = some (.int .u8 x.1) ∧ w.cell? ⟨bk, o + j * 3 + 1, none⟩ = some (.int .u8 x.2.1) ∧ w.cell? ⟨bk, o + j * 3 + 2, none⟩ = some (.int .u8 x.2.2)) := by
  obtain ⟨a, cap, rfl, hl, hc, h⟩ := h
  refine ⟨a, cap, rfl, hl, hc, fun h0 => ?_⟩
  obtain ⟨bk, o, rfl, hb, h⟩ := h h0
  exact ⟨bk, o, rfl, hb, fun j x hx => ⟨h j x hx 0 _ rfl, h j x hx 1 _ rfl, h j x hx 2 _ rfl⟩⟩
def LkB13 (L : List Ed) : Prop := ∀ x ∈ L, (0 ≤ x.1 ∧ x.1 ≤ 255) ∧ (0 ≤ x.2.1 ∧ x.2.1 ≤ 255) ∧ 0 ≤ x.2.2 ∧ x.2.2 ≤ 255
/-- The table of costs in memory. -/
def tc8 (c : Nat → Int) : List Value := (List.range 64).map fun i => .int .i64 (c i)
theorem tc8_len (c : Nat → Int) : (tc8 c).length = 64 := by simp [tc8]
theorem tc8_get (c : Nat → Int) {n : Nat} (h : n < 64) : (tc8 c)[n]? = some (.int .i64 (c n)) := by simp [tc8, List.getElem?_range h]
theorem tc8_set (c : Nat → Int) {n : Nat} (_h : n < 64) (v : Int) : (tc8 c).set n (.int .i64 v) = tc8 (putV c n v) := by
  apply List.ext_getElem?
  intro j
  rw [List.getElem?_set]
  by_cases hj : j < 64
  · rw [tc8_get _ hj, tc8_get _ hj, tc8_len]
    unfold putV
    by_cases hn : n = j
    · rw [if_pos hn, if_pos (by omega), if_pos hn.symm]
    · rw [if_neg hn, if_neg (fun h => hn h.symm)]
  · rw [List.getElem?_eq_none (by rw [tc8_len]; omega), List.getElem?_eq_none (by rw [tc8_len]; omega), tc8_len]
    by_cases hn : n = j
    · omega
    · rw [if_neg hn]
theorem make_t8 (w : World) : (Instr.makeSlice 32 (.int .i64 64) (.int .i64 64)).run Tryz.prog w = .ok (.slice (some ⟨w.heap.size, 0, none⟩) 64 64) (w.alloc (.cells (tc8 fun _ => 0).toArray 3)) := by kernel_rfl
theorem append_recT {W : World} {base k : Nat} {u : Value} {l : List (Rc × Value)} (hr : W.ownsRow base 76 6 u k (fl rcc l)) (x : Rc × Value) (hx : x.2.oneCell' = true) (hk : (k + 1) * 56 ≤ 140737488355328) (hbase : base ≤ W.heap.size) :
    ∃ g cap w6, (Builtin.append_ #[22, 22] 22 #[u, .slice (some ⟨W.heap.size, 0, none⟩) 1 1]).run Tryz.prog (W.alloc (.cells (rcc x).toArray 76)) = .ok (.slice (some ⟨g, 0, none⟩) (k + 1) cap) w6 ∧
      w6.ownsRow base 76 6 (.slice (some ⟨g, 0, none⟩) (k + 1) cap) (k + 1) (fl rcc (l ++ [x])) ∧ Below base W w6 ∧ Fr (fun j => ∃ cur, W.heap[j]? = some (.cells cur 76)) W w6 := by
  obtain ⟨i0, hi, hz0, hz1, hz2⟩ := info_parts infoRec
  obtain ⟨g, cap, w6, hrun, hown, hgrow, _, _⟩ := run_append_lies (P := Tryz.prog) (W.alloc (.cells (rcc x).toArray 76)) 22 22 base 76 i0 _ 6 56 Tryz.underlying22 hi hz0 hz1 hz2 rfl (by decide) u k (fl rcc l) (hr.alloc _) ⟨W.heap.size, 0, none⟩ 1 1 (rcc x) rfl (fun j v hv => by
    rw [Addr.add_mid, Nat.zero_add, cell_of_row _ _ j (rcc x).toArray 76 (0, 0) (heap_alloc_last W _)]
    simpa using hv) (by simp only [rcc, List.mem_cons, List.not_mem_nil, or_false]; rintro u (rfl | rfl | rfl | rfl | rfl | rfl) <;> first | rfl | exact hx) (by omega) (by unfold maxLen; omega) hk (by simp; omega) (W.heap.size + 1) (by simp)
  refine ⟨g, cap, w6, hrun, by rw [fl_snoc]; exact hown, ?_, ?_⟩
  · exact ((Below.refl _ W).alloc hbase _).grown hgrow (by simp; omega) (fun j e => by
      rcases hr.2 with ⟨rfl, _⟩ | ⟨g', cap', cur, rfl, hb, _⟩
      · simp [Value.ownBlock] at e
      · simp [Value.ownBlock] at e; omega)
  · refine ⟨hgrow.os, hgrow.tape, hgrow.output, Nat.le_trans (by simp) hgrow.size, fun j hj hn => ?_⟩
    rw [hgrow.block j (by simp; omega) (fun e => ?_), Below.heap_alloc _ _ _ hj]
    rcases hr.2 with ⟨rfl, _⟩ | ⟨g', cap', cur, rfl, hb, hh, _⟩
    · simp [Value.ownBlock] at e
    · simp [Value.ownBlock] at e
      subst e
      exact hn ⟨cur, hh⟩
/-- Records with neighbours of their own. -/
structure RwAt (B : Nat) (w : World) (u : Value) (l : List (Rc × Value)) : Prop where
  r : w.ownsRow B 76 6 u l.length (fl rcc l)
  a : ∀ x ∈ l, w.ownsRow B 83 2 x.2 x.1.adjs.length (fl ac x.1.adjs)
theorem RwAt.recs {B : Nat} {w : World} {u : Value} {l : List (Rc × Value)} (h : RwAt B w u l) : RecsAt w u l := ⟨slAt_of_row (cs := rcc) (fun _ => rfl) h.r rfl, fun x hx => slAt_of_row (cs := ac) (fun _ => rfl) (h.a x hx) rfl⟩
theorem RwAt.keep {B : Nat} {w w' : World} {u : Value} {l : List (Rc × Value)} (h : RwAt B w u l) (hb : Below w.heap.size w w') : RwAt B w' u l := ⟨row_below h.r hb (Nat.le_refl _), fun x hx => row_below (h.a x hx) hb (Nat.le_refl _)⟩
theorem RwAt.low {B C : Nat} {w : World} {u : Value} {l : List (Rc × Value)} (h : RwAt B w u l) (hb : C ≤ B) : RwAt C w u l := ⟨row_low h.r hb, fun x hx => row_low (h.a x hx) hb⟩
theorem row_offR {w w' : World} {base k size : Nat} {u : Value} {xs : List Value} (hr : w.ownsRow base 83 size u k xs) (hF : Fr (fun j => ∃ cur, w.heap[j]? = some (.cells cur 76)) w w') : w'.ownsRow base 83 size u k xs :=
  row_fr hr hF fun j hj ⟨cur, ej⟩ => by
    rcases hr.2 with ⟨h1, _⟩ | ⟨g, cap, cur', h1, _, hg, _⟩
    · rw [h1] at hj; simp [Value.ownBlock] at hj
    · rw [h1] at hj; simp [Value.ownBlock] at hj
      rw [hj, ej] at hg
      simp at hg
theorem row_one {w : World} {base k size : Nat} {e : TypeId} {u : Value} {xs : List Value} (hr : w.ownsRow base e size u k xs) : u.oneCell' = true := by
  rcases hr.2 with ⟨rfl, _⟩ | ⟨g, cap, cur, rfl, _⟩ <;> rfl
/-- One record more. -/
theorem RwAt.more {B : Nat} {w : World} {u : Value} {l : List (Rc × Value)} (h : RwAt B w u l) {x : Rc × Value} (hx : w.ownsRow B 83 2 x.2 x.1.adjs.length (fl ac x.1.adjs)) (hl : l.length ≤ 1000) (hB : B ≤ w.heap.size) :
    ∃ g cap w6, (Builtin.append_ #[22, 22] 22 #[u, .slice (some ⟨w.heap.size, 0, none⟩) 1 1]).run Tryz.prog (w.alloc (.cells (rcc x).toArray 76)) = .ok (.slice (some ⟨g, 0, none⟩) (l.length + 1) cap) w6 ∧
      RwAt B w6 (.slice (some ⟨g, 0, none⟩) (l.length + 1) cap) (l ++ [x]) ∧ Below B w w6 := by
  obtain ⟨g, cap, w6, h1, h2, h3, h4⟩ := append_recT h.r x (row_one hx) (by omega) hB
  refine ⟨g, cap, w6, h1, ⟨by rw [List.length_append]; exact h2, fun y hy => ?_⟩, h3⟩
  rcases List.mem_append.1 hy with hy | hy
  · exact row_offR (h.a y hy) h4
  · rw [List.mem_singleton.1 hy]; exact row_offR hx h4
/-- The world's blocks: the claims, the table. -/
structure WoM (w wr : World) (vs : List Value) (c : Nat → Int) : Prop where
  k : Arr wr w.heap.size 57 vs
  t : Arr wr (w.heap.size + 1) 3 (tc8 c)
  b : Below w.heap.size w wr
theorem WoM.drewN {w wr : World} {vs : List Value} {c : Nat → Int} (h : WoM w wr vs c) (n : Nat) : WoM w (wr.drewN n) vs c := ⟨h.k, h.t, ⟨h.b.os, h.b.tape, h.b.output, h.b.size, h.b.block⟩⟩
theorem WoM.put {w wr : World} {vs : List Value} {c : Nat → Int} (h : WoM w wr vs c) {i : Nat} (hi : i < 64) (v : Int) : WoM w (wr.setCell ⟨w.heap.size + 1, i, none⟩ (.int .i64 v)) vs (putV c i v) :=
  ⟨h.k.other (by show w.heap.size ≠ w.heap.size + 1; omega) _, by rw [← tc8_set c hi]; exact h.t.set i _, h.b.setCell (p := ⟨w.heap.size + 1, i, none⟩) (Nat.le_succ _) _⟩
theorem WoM.keep {w wr wz : World} {vs : List Value} {c : Nat → Int} (h : WoM w wr vs c) {B : Nat} (hb : Below B wr wz) (hB : w.heap.size + 2 ≤ B) : WoM w wz vs c :=
  ⟨h.k.keep hb (by omega), h.t.keep hb (by omega), h.b.trans (hb.mono (by omega))⟩
/-- One router's record while it is gathered. -/
structure RgM (wr wz : World) (gb : Nat) (r : Rc) (s : Value) : Prop where
  g : wz.heap[gb]? = some (recO r s)
  a : wz.ownsRow (gb + 1) 83 2 s r.adjs.length (fl ac r.adjs)
  b : Below gb wr wz
theorem RgM.add {wr wz : World} {gb : Nat} {r : Rc} {s : Value} (h : RgM wr wz gb r s) (x : Int × Int) (hl : r.adjs.length ≤ 1000) :
    ∃ g cap w6, (Builtin.append_ #[74, 74] 74 #[s, .slice (some ⟨wz.heap.size, 0, none⟩) 1 1]).run Tryz.prog (wz.alloc (.cells (ac x).toArray 83)) = .ok (.slice (some ⟨g, 0, none⟩) (r.adjs.length + 1) cap) w6 ∧
      w6.cell? ⟨gb, 5, none⟩ = some s ∧ w6.frozen? ⟨gb, 5, none⟩ = false ∧ Below (gb + 1) wz w6 ∧ RgM wr (w6.setCell ⟨gb, 5, none⟩ (.slice (some ⟨g, 0, none⟩) (r.adjs.length + 1) cap)) gb { r with adjs := r.adjs ++ [x] } (.slice (some ⟨g, 0, none⟩) (r.adjs.length + 1) cap) := by
  have hs := block_lt h.g
  obtain ⟨g, cap, w6, hrun, hown, _, _, hb⟩ := append_adj h.a x (by omega) (by omega)
  have hg6 : w6.heap[gb]? = some (recO r s) := (hb.block _ (Nat.lt_succ_self _)).trans h.g
  have hF := (Fr.refl (fun k => k = gb) w6).set (p := ⟨gb, 5, none⟩) rfl (.slice (some ⟨g, 0, none⟩) (r.adjs.length + 1) cap)
  refine ⟨g, cap, w6, hrun, cell_of_row _ _ 5 _ _ _ hg6, frozen_new hg6 5, hb, ?_, ?_, ?_⟩
  · have := heap_setCell_same w6 gb 5 _ _ (.slice (some ⟨g, 0, none⟩) (r.adjs.length + 1) cap) hg6
    simpa using this
  · rw [List.length_append]
    exact row_fr hown hF (fun j hj e => by have := (hown.lt j hj).1; omega)
  · exact (h.b.trans (hb.mono (by omega))).setCell (p := ⟨gb, 5, none⟩) (Nat.le_refl _) _
theorem RgM.drew {wr wz : World} {gb : Nat} {r : Rc} {s : Value} (h : RgM wr wz gb r s) : RgM wr wz.drew gb r s := ⟨h.g, row_fr h.a (Fr.refl (fun _ => False) wz).drew (fun _ _ h => h), h.b.drew⟩
/-- Seven claims. -/
abbrev c7 (cs : List Int) : List Value := cs.map fun x => .int .u8 x
/-- What world answers. -/
def WldAns (w w' : World) (rs : List Rc) (e : Ending) : Prop := ∃ u l, e = .returned u ∧ rcs l = rs ∧ RwAt w.heap.size w' u l
set_option maxRecDepth 100000 in
set_option maxHeartbeats 8000000 in
theorem world_any {L : List Ed} {v : Value} {cs : List Int} {w : World} (h : SlAt lc13 3 w v L) (hL : LkB13 L) (hc : cs.length = 7) (hcb : ∀ x ∈ cs, 0 ≤ x ∧ x ≤ 255) :
    Calls Tryz.prog 29 #[v, .agg (c7 cs).toArray] w fun e w' => WldAns w w' (wRs (wTb (L.take 12)) (fun i => cs.getD i 0 % 20) 7) e ∧ Below w.heap.size w w' := by
  obtain ⟨la, lcap, rfl, hll, _, hlc⟩ := h.lk13
  have Hlc := hidIn hlc
  have HL := hidIn hL
  clear hlc h hL
  have hmk := make_t8
  obtain ⟨W1, hW1⟩ : ∃ W1, (w.alloc (.cells (c7 cs).toArray 57)).alloc (.cells (tc8 fun _ => 0).toArray 3) = W1 := ⟨_, rfl⟩
  have HM0 : Hid (WoM w W1 (c7 cs) (wTb [])) := hidIn (by
    rw [← hW1]
    refine ⟨?_, ?_, ((Below.refl _ w).alloc (Nat.le_refl _) _).alloc (by simp) _⟩
    · show (World.heap _)[w.heap.size]? = _
      rw [Below.heap_alloc _ _ _ (by simp)]
      exact heap_alloc_last w _
    · have := heap_alloc_last (w.alloc (.cells (c7 cs).toArray 57)) (.cells (tc8 fun _ => 0).toArray 3)
      rw [World.size_alloc] at this
      exact this)
  obtain ⟨x0, x1, x2, x3, x4, x5, x6, rfl⟩ : ∃ x0 x1 x2 x3 x4 x5 x6, cs = [x0, x1, x2, x3, x4, x5, x6] := by
    match cs, hc with
    | [x0, x1, x2, x3, x4, x5, x6], _ => exact ⟨x0, x1, x2, x3, x4, x5, x6, rfl⟩
  obtain ⟨cs, hcs⟩ : ∃ cs, [x0, x1, x2, x3, x4, x5, x6] = cs := ⟨_, rfl⟩
  rw [hcs] at HM0
  have HW : Hid ((w.alloc (.cells #[.int .u8 x0, .int .u8 x1, .int .u8 x2, .int .u8 x3, .int .u8 x4, .int .u8 x5, .int .u8 x6] 57)).alloc (.cells (tc8 fun _ => 0).toArray 3) = W1) := hidIn hW1
  have Hcb : Hid (∀ x ∈ cs, 0 ≤ x ∧ x ≤ 255) := hidIn (by rw [← hcs]; exact hcb)
  have Hcl : Hid (cs.length = 7) := hidIn (by rw [← hcs]; rfl)
  have Hcs := hidIn hcs
  clear hW1 hc hcb hcs
  go_enter Tryz.func29, Tryz.ntmps29
  go_upto_region 2 with fail
  rw [HW.out]
  clear HW hmk
  go_wp2_with fail
  go_loopw [6] (fun i wr => ∃ k : Nat, k ≤ 12 ∧ k ≤ L.length ∧ i = .int .i64 k ∧ Hid (WoM w wr (c7 cs) (wTb (L.take k)))) (fun i _ => 12 - (intOf i).toNat)
  case atStart => exact ⟨0, by omega, Nat.zero_le _, rfl, HM0⟩
  case round =>
    clear HM0
    obtain ⟨k, hk12, hk, rfl, HR⟩ := hrel
    by_cases hlt : k < L.length ∧ k < 12
    · obtain ⟨hlt, hlt12⟩ := hlt
      obtain ⟨bk, o, rfl, hbk, hcell⟩ := Hlc.out (by omega)
      obtain ⟨⟨x, y, z⟩, hx⟩ : ∃ z, L[k]? = some z := ⟨L[k], List.getElem?_eq_getElem hlt⟩
      obtain ⟨q0, q1, q2⟩ := hcell k _ hx
      have c0 := (HR.out.b.cell (p := ⟨bk, o + k * 3, none⟩) hbk).trans q0
      have c1 := (HR.out.b.cell (p := ⟨bk, o + k * 3 + 1, none⟩) hbk).trans q1
      have c2 := (HR.out.b.cell (p := ⟨bk, o + k * 3 + 2, none⟩) hbk).trans q2
      simp only at c0 c1 c2
      obtain ⟨⟨hx0, hx1⟩, ⟨hy0, hy1⟩, hz0, hz1⟩ := HL.out _ (List.mem_of_getElem? hx)
      simp only at hx0 hx1 hy0 hy1 hz0 hz1
      obtain ⟨X, rfl⟩ : ∃ X : Nat, x = (X : Int) := ⟨x.toNat, by omega⟩
      obtain ⟨Y, rfl⟩ : ∃ Y : Nat, y = (Y : Int) := ⟨y.toNat, by omega⟩
      obtain ⟨Z, rfl⟩ : ∃ Z : Nat, z = (Z : Int) := ⟨z.toNat, by omega⟩
      have HT : Hid (wTb (L.take (k + 1)) = wLk (wTb (L.take k)) ((X : Int), (Y : Int), (Z : Int))) := hidIn (by rw [take_snoc hx, wTb_snoc])
      obtain ⟨C, hC⟩ : ∃ C, wTb (L.take k) = C := ⟨_, rfl⟩
      rw [hC] at HR HT
      clear hC hx hcell q0 q1 q2
      obtain ⟨a, ha⟩ : ∃ a, X % 7 = a := ⟨_, rfl⟩
      obtain ⟨b, hb⟩ : ∃ b, Y % 7 = b := ⟨_, rfl⟩
      have han : a < 7 := by omega
      have hbn : b < 7 := by omega
      have mX : (X : Int).tmod 7 = (a : Int) := by rw [← ha, Int.tmod_eq_emod_of_nonneg (by omega)]; rfl
      have mY : (Y : Int).tmod 7 = (b : Int) := by rw [← hb, Int.tmod_eq_emod_of_nonneg (by omega)]; rfl
      have HT2 : Hid (wTb (L.take (k + 1)) = if a ≠ b then putV (putV C (8 * a + b) (1 + (Z : Int) % 4)) (8 * b + a) (1 + (Z : Int) % 4) else C) := hidIn (by rw [HT.out]; unfold wLk; simp only [Int.toNat_natCast]; rw [ha, hb])
      have hki : (k : Int) < (L.length : Int) := by omega
      have hki2 : (k : Int) < 12 := by omega
      clear HT ha hb hx0 hy0 hz0 hx1 hy1
      go_upto_region 5 with fail
      go_quiet (fail)
      clear c0 c1 mX mY
      generalize hV : World.drewN wr _ = V
      have hM : WoM w V (c7 cs) C := by rw [← hV]; exact HR.out.drewN _
      have e2 : V.cell? ⟨bk, o + k * 3 + 2, none⟩ = some (.int .u8 (Z : Int)) := by rw [← hV]; exact c2
      have HM := hidIn hM
      have t0 := hM.t.cell (8 * a + b)
      rw [tc8_get _ (by omega)] at t0
      have tf0 := hM.t.frozen (8 * a + b)
      have hbw : bk ≠ w.heap.size + 1 := by omega
      have hai : (a : Int) < 7 := by omega
      have hbi : (b : Int) < 7 := by omega
      clear hV hM HR c2
      by_cases hab : a = b
      · have hd : ((a : Int) != (b : Int)) = false := by rw [hab]; simp
        have HE : Hid (wTb (L.take (k + 1)) = C) := hidIn (by rw [HT2.out, if_neg (fun h => h hab)])
        clear hab t0 tf0 e2
        go_wp2_with fail
        go_roundw
        case rel => exact ⟨k + 1, by omega, by omega, by go_num, hidIn (by rw [HE.out]; exact HM.out)⟩
        case measure => simp [intOf]; omega
      have hd : ((a : Int) != (b : Int)) = true := by simp; omega
      have HE : Hid (wTb (L.take (k + 1)) = putV (putV C (8 * a + b) (1 + (Z : Int) % 4)) (8 * b + a) (1 + (Z : Int) % 4)) := hidIn (by rw [HT2.out, if_pos hab])
      obtain ⟨z, hz⟩ : ∃ z, Z % 4 = z := ⟨_, rfl⟩
      have hz5 : z < 4 := by omega
      have mZ : (Z : Int).tmod 4 = (z : Int) := by rw [← hz, Int.tmod_eq_emod_of_nonneg (by omega)]; rfl
      have HZ : Hid (1 + (Z : Int) % 4 = 1 + (z : Int)) := hidIn (by rw [← hz]; rfl)
      rw [HZ.out] at HE
      clear hz hz1
      have h64 : 8 * a + b < 64 := by omega
      have h64' : 8 * b + a < 64 := by omega
      have hi64 : 8 * (a : Int) + (b : Int) < 64 := by omega
      have hi64' : 8 * (b : Int) + (a : Int) < 64 := by omega
      go_upto_region 7 with fail
      go_upto_region 8 with fail
      have hM2 := HM.out.put h64 (1 + (z : Int))
      generalize World.setCell _ _ _ = V2 at hM2 ⊢
      have HM2 := hidIn hM2
      have s0 := hM2.t.cell (8 * a + b)
      rw [tc8_get _ h64, putV_same] at s0
      have s1 := hM2.t.cell (8 * b + a)
      rw [tc8_get _ h64'] at s1
      have sf1 := hM2.t.frozen (8 * b + a)
      clear hM2 t0 tf0 e2 mZ HM
      go_wp2_with fail
      go_roundw
      case rel => exact ⟨k + 1, by omega, by omega, by go_num, hidIn (by rw [HE.out]; exact HM2.out.put h64' _)⟩
      case measure => simp [intOf]; omega
    · have hni : ¬ ((k : Int) < (L.length : Int) ∧ (k : Int) < 12) := by omega
      have HT : Hid (WoM w wr (c7 cs) (wTb (L.take 12))) := hidIn (by
        have := HR.out
        rw [show L.take k = L.take 12 from by
          by_cases h : k = 12
          · rw [h]
          · rw [List.take_of_length_le (by omega), List.take_of_length_le (by omega)]] at this
        exact this)
      clear HR
      have HCok : Hid (WtOk (wTb (L.take 12))) := hidIn (wTb_ok _)
      obtain ⟨C, hC⟩ : ∃ C, wTb (L.take 12) = C := ⟨_, rfl⟩
      rw [hC] at HT HCok
      have HC12 := hidIn hC
      clear hC
      go_upto_region 3 with fail
      go_cut [21] (fun c wx => c = .bool false ∧ wx = wr)
      case first =>
        by_cases h1 : k < L.length
        · have h1i : (k : Int) < (L.length : Int) := by omega
          have h2i : ¬ (k : Int) < 12 := by omega
          clear hlt hni
          go_wp2_with fail
          go_meet
          exact ⟨rfl, rfl⟩
        · have h1i : ¬ (k : Int) < (L.length : Int) := by omega
          clear hlt hni
          go_wp2_with fail
          go_meet
          exact ⟨rfl, rfl⟩
      case rest =>
        obtain ⟨rfl, hwc⟩ := hcut
        rw [hwc]
        clear hwc wc hlt hni
        obtain ⟨f, hf⟩ : ∃ f : Nat → Int, (fun i => cs.getD i 0 % 20) = f := ⟨_, rfl⟩
        have Hf := hidIn hf
        clear hf
        go_wp2_with fail
        go_loopw [9, 10] (fun ov i wz => ∃ (a : Nat) (oa : Option Addr) (oc : Nat), a ≤ 7 ∧ i = .int .i64 a ∧ ov = .slice oa a oc ∧ Hid (∃ l : List (Rc × Value), l.length = a ∧ rcs l = wRs C f a ∧ WoM w wz (c7 cs) C ∧ RwAt (w.heap.size + 2) wz (.slice oa a oc) l)) (fun _ i _ => 7 - (intOf i).toNat)
        case atStart => exact ⟨0, none, 0, by omega, rfl, rfl, hidIn ⟨[], rfl, rfl, HT.out, ⟨World.ownsRow_nil _ _ _ _, fun _ hx => absurd hx List.not_mem_nil⟩⟩⟩
        case round =>
          clear HT
          obtain ⟨a, oa, oc, ha, rfl, rfl, HR⟩ := hrel
          obtain ⟨l, hla, hrs, hM, hRw⟩ := HR.out
          clear HR
          by_cases hlt : a < 7
          · have hai : (a : Int) < 7 := by omega
            obtain ⟨x, hx⟩ : ∃ x, cs[a]? = some x := ⟨cs[a]'(by have := Hcl.out; omega), List.getElem?_eq_getElem _⟩
            obtain ⟨hx0, hx1⟩ := Hcb.out x (List.mem_of_getElem? hx)
            obtain ⟨X, rfl⟩ : ∃ X : Nat, x = (X : Int) := ⟨x.toNat, by omega⟩
            have k0 := hM.k.cell a
            rw [List.getElem?_map, hx] at k0
            simp only [Option.map_some] at k0
            obtain ⟨xr, hxr⟩ : ∃ xr, X % 20 = xr := ⟨_, rfl⟩
            have hxr20 : xr < 20 := by omega
            have mX : (X : Int).tmod 20 = (xr : Int) := by rw [← hxr, Int.tmod_eq_emod_of_nonneg (by omega)]; rfl
            have HF : Hid (f a = (xr : Int)) := hidIn (by rw [← Hf.out]; simp only [List.getD_eq_getElem?_getD, hx, Option.getD_some]; omega)
            obtain ⟨W2, hW2⟩ : ∃ W2, wr.alloc (.cells #[.int .i64 ((a : Int) + 1), .int .u32 1, .int .u32 1, .int .i64 (xr : Int), .bool false, .slice none 0 0] 76) = W2 := ⟨_, rfl⟩
            obtain ⟨gb, hgb⟩ : ∃ gb, wr.heap.size = gb := ⟨_, rfl⟩
            have HG0 : Hid (RgM wr W2 gb ⟨(a : Int) + 1, 1, 1, (xr : Int), false, wAd C a 0⟩ (.slice none 0 0)) := hidIn (by
              refine ⟨by rw [← hW2, ← hgb]; exact heap_alloc_last wr _, World.ownsRow_nil _ _ _ _, by rw [← hW2, ← hgb]; exact (Below.refl _ wr).alloc (Nat.le_refl _) _⟩)
            have HM := hidIn hM
            have HRw := hidIn hRw
            have Hrs := hidIn hrs
            have Hla := hidIn hla
            have Hgb := hidIn hgb
            have Hgw : Hid (w.heap.size + 2 ≤ gb) := hidIn (by rw [← hgb]; have := hM.t.lt; omega)
            have HW2 := hidIn hW2
            have hkw : w.heap.size < wr.heap.size := by have := hM.t.lt; omega
            clear hW2 hgb hM hRw hx hxr hx0 hx1 hrs hla
            go_upto_region 14 with fail
            rw [HW2.out, Hgb.out]
            clear HW2 hkw k0 mX
            go_wp2_with fail
            go_loopw [12] (fun i wz => ∃ b : Nat, b ≤ 7 ∧ i = .int .i64 b ∧ Hid (∃ s, RgM wr wz gb ⟨(a : Int) + 1, 1, 1, (xr : Int), false, wAd C a b⟩ s)) (fun i _ => 7 - (intOf i).toNat)
            case atStart => exact ⟨0, by omega, rfl, hidIn ⟨_, HG0.out⟩⟩
            case round =>
              clear HG0
              obtain ⟨b, hb, rfl, HR⟩ := hrel
              obtain ⟨s, hG⟩ := HR.out
              clear HR
              by_cases hlt2 : b < 7
              · have hbi : (b : Int) < 7 := by omega
                have h64 : 8 * a + b < 64 := by omega
                have hi64 : 8 * (a : Int) + (b : Int) < 64 := by omega
                have hT := HM.out.t.keep hG.b (show w.heap.size + 1 < gb by have := Hgw.out; omega)
                have t0 := hT.cell (8 * a + b)
                rw [tc8_get _ h64] at t0
                have hrl := wAd_len C a b
                have HRS := hidIn (wAd_succ C a b)
                have HG := hidIn hG
                have hgs := block_lt hG.g
                have hts := hT.lt
                have d5 := cell_of_row _ _ 5 _ _ _ hG.g
                simp at d5
                clear hG hT
                obtain ⟨cv, hcv⟩ : ∃ cv, C (8 * a + b) = cv := ⟨_, rfl⟩
                rw [hcv] at t0 HRS
                clear hcv
                by_cases hc : 0 < cv
                · rw [if_pos hc] at HRS
                  obtain ⟨g2, cap2, w7, hrun, k1, k2, kt, h3⟩ := HG.out.drew.add ((b : Int) + 1, cv) (by simp only; omega)
                  have HRun := hidIn hrun
                  have H3 := hidIn h3
                  have hT7 := cell_regrown t0
                  have t7 : w7.cell? ⟨w.heap.size + 1, 8 * a + b, none⟩ = some (.int .i64 cv) := (kt.cell (p := ⟨w.heap.size + 1, 8 * a + b, none⟩) (show w.heap.size + 1 < gb + 1 by have := Hgw.out; omega)).trans t0
                  clear hrun h3 kt hT7
                  go_upto_region 18 with fail
                  have hw1 : IntKind.i64.wrap (8 * (a : Int)) = 8 * (a : Int) := by rw [IntKind.wrap_i64]; omega
                  have hw2 : IntKind.i64.wrap (8 * (a : Int) + (b : Int)) = 8 * (a : Int) + (b : Int) := by rw [IntKind.wrap_i64]; omega
                  have hw4 : IntKind.i64.wrap ((b : Int) + 1) = (b : Int) + 1 := by rw [IntKind.wrap_i64]; omega
                  have hw5 : (8 * (a : Int) + (b : Int)).toNat = 8 * a + b := by omega
                  have hw6 : 0 ≤ 8 * (a : Int) + (b : Int) := by omega
                  go_region_law ((refine step_append rfl (.tmp 93) (.tmp 104) 74 rfl (by kernel_rfl) (by kernel_rfl) HRun.out ?_))
                  all_goals
                    go_wp2_with fail
                    go_roundw
                    case rel => exact ⟨b + 1, by omega, by go_num, hidIn ⟨_, by rw [HRS.out]; exact H3.out⟩⟩
                    case measure => simp [intOf]; omega
                · rw [if_neg hc, List.append_nil] at HRS
                  clear d5
                  go_wp2_with fail
                  go_roundw
                  case rel => exact ⟨b + 1, by omega, by go_num, hidIn ⟨s, by rw [HRS.out]; exact HG.out⟩⟩
                  case measure => simp [intOf]; omega
              · have hbi : ¬ (b : Int) < 7 := by omega
                have hb7 : b = 7 := by omega
                rw [hb7] at hG
                clear hb7
                obtain ⟨sa, sc, rfl⟩ := row_shape hG.a
                have hM3 := HM.out.keep hG.b Hgw.out
                have hRw3 : RwAt (w.heap.size + 2) wr (.slice oa a oc) l := by
                  have hbz := hG.b
                  rw [← Hgb.out] at hbz
                  exact HRw.out.keep hbz
                have hsz : gb < wr.heap.size := block_lt hG.g
                have d0 := cell_of_row _ _ 0 _ _ _ hG.g
                have d1 := cell_of_row _ _ 1 _ _ _ hG.g
                have d2 := cell_of_row _ _ 2 _ _ _ hG.g
                have d3 := cell_of_row _ _ 3 _ _ _ hG.g
                have d4 := cell_of_row _ _ 4 _ _ _ hG.g
                have d5 := cell_of_row _ _ 5 _ _ _ hG.g
                simp at d0 d1 d2 d3 d4 d5
                obtain ⟨ad, had⟩ : ∃ ad, wAd C a 7 = ad := ⟨_, rfl⟩
                have HRc : Hid (wRc C f a = ⟨(a : Int) + 1, 1, 1, (xr : Int), false, ad⟩) := hidIn (by unfold wRc; rw [HF.out, had])
                rw [had] at hG d5
                clear had
                have hla := Hla.out
                rw [← hla] at hRw3
                obtain ⟨g9, gc9, w9, hrun, hR9, hb9⟩ := hRw3.more (x := (⟨(a : Int) + 1, 1, 1, (xr : Int), false, ad⟩, .slice sa ad.length sc)) (row_low hG.a (by have := Hgw.out; omega)) (by omega) (by have := Hgw.out; omega)
                rw [hla] at hrun hR9
                have HM9 := hidIn (hM3.keep hb9 (Nat.le_refl _))
                have HRun := hidIn hrun
                have HR9 := hidIn hR9
                have HRs : Hid (rcs (l ++ [(⟨(a : Int) + 1, 1, 1, (xr : Int), false, ad⟩, .slice sa ad.length sc)]) = wRs C f (a + 1)) := hidIn (by rw [wRs_succ, ← Hrs.out, HRc.out]; simp [rcs])
                have HL9 : Hid ((l ++ [((⟨(a : Int) + 1, 1, 1, (xr : Int), false, ad⟩ : Rc), (.slice sa ad.length sc : Value))]).length = a + 1) := hidIn (by rw [List.length_append, hla]; rfl)
                clear hM3 hRw3 hrun hR9 hb9 hG hla
                go_wp2_with (refine l_append rfl _ _ 22 rfl HRun.out ?_)
                go_roundw
                case rel => exact ⟨a + 1, by omega, by go_num, _, gc9, ⟨rfl, rfl, rfl⟩, hidIn ⟨_, HL9.out, HRs.out, HM9.out, HR9.out⟩⟩
                case measure => simp [intOf]; omega
          · have hai : ¬ (a : Int) < 7 := by omega
            have ha7 : a = 7 := by omega
            have HE : Hid (WldAns w wr (wRs (wTb (L.take 12)) (fun i => [x0, x1, x2, x3, x4, x5, x6].getD i 0 % 20) 7) (.returned (.slice oa a oc)) ∧ Below w.heap.size w wr) := hidIn (by
              refine ⟨⟨_, l, rfl, ?_, hRw.low (by omega)⟩, hM.b⟩
              rw [HC12.out, Hcs.out, hrs, ← Hf.out, ha7])
            clear ha7 hM hRw hrs hla
            go_wp2_with fail
            go_ret
            exact HE.out
end Go.Proofs.YtbggingacoheiaaGreatDoor
namespace Go.Proofs.YtbggingacoheiaaGreatDoor
open Go.ChangeShapes Go.WideShapes Go.ChangeAt Go.RowKit

theorem gWidT13 : (Tryz.prog.globals[0]?).map (·.type) = some 161 := by kernel_rfl
theorem laid_tab13 {W : World} {name : String} {k : IntKind} {zs : List Int} {rest : List (String × DataW Unit)} {g : Nat} {t e : TypeId} {n : Nat} {ps : List MemPlace} {P : Program}
    (hg : P.globalNamed name = some g) (hty : (P.globals[g]?).map (·.type) = some t) (ht : P.underlying t = some (.array n e)) (he : P.underlying e = some (.int k)) (hce : P.cellsOf e = 1) (hct : P.cellsOf t = n)
    (h : DataW.LaidVars P W ((name, Lib.tabData k zs) :: rest) ps) : Lib.TabIs P W name k zs := by
  obtain ⟨g', t', cs, fuel, p, q, hg', ht', hvar, hd, _, _⟩ := h
  obtain rfl := Option.some.inj (hg.symm.trans hg')
  obtain rfl := Option.some.inj (hty.symm.trans ht')
  unfold Lib.TabIs
  rw [hvar, ← Lib.cells_of_tab ht he hce hct hd]
theorem wid_row {w : World} {rest : List (String × DataW Unit)} (h : laidMet Tryz.prog (("dandelion/header.widths", Rows.laid_dandelion_header_widths) :: rest) w) : Wid w := by
  obtain ⟨ps, h, _⟩ := h
  exact ⟨laid_tab13 gWid gWidT13 Tryz.underlying161 Tryz.underlying3 (by kernel_rfl) (by kernel_rfl) h⟩
section
variable {H : Type} {enc : TypeId × Value → H} {W : World}
theorem cU13 : Tryz.prog.cellsOf 5 = 1 := by kernel_rfl
theorem cLk13 : Tryz.prog.cellsOf 119 = 3 := by kernel_rfl
theorem bLk13 : Tryz.prog.bytesOf 119 = 3 := by kernel_rfl
theorem lk13F : Tryz.prog.underlying 119 = some (.struct #[(Tryz.prog.fieldsOf 119)[0]!, (Tryz.prog.fieldsOf 119)[1]!, (Tryz.prog.fieldsOf 119)[2]!]) := by kernel_rfl
theorem lk13F' : (((Tryz.prog.fieldsOf 119)[0]!).type = 5 ∧ ((Tryz.prog.fieldsOf 119)[0]!).offset = 0) ∧ (((Tryz.prog.fieldsOf 119)[1]!).type = 5 ∧ ((Tryz.prog.fieldsOf 119)[1]!).offset = 1) ∧ ((Tryz.prog.fieldsOf 119)[2]!).type = 5 ∧ ((Tryz.prog.fieldsOf 119)[2]!).offset = 2 := ⟨⟨by kernel_rfl, by kernel_rfl⟩, ⟨by kernel_rfl, by kernel_rfl⟩, by kernel_rfl, by kernel_rfl⟩
set_option maxRecDepth 100000 in
theorem lk13_cells {n : Nat} {cs' : List Value} {x : DataW H × List MemPlace} (h : DataW.trod enc Tryz.prog W 0 (fun _ => true) true n 119 cs' = some x) : ∃ y : Ed, cs' = lc13 y ∧ (0 ≤ y.1 ∧ y.1 ≤ 255) ∧ (0 ≤ y.2.1 ∧ y.2.1 ≤ 255) ∧ 0 ≤ y.2.2 ∧ y.2.2 ≤ 255 := by
  obtain ⟨y0, y1, y2, k, _, hlen, h0, h1, h2⟩ := Deep.trod_struct3 lk13F h
  obtain ⟨⟨a0, b0⟩, ⟨a1, b1⟩, a2, b2⟩ := lk13F'
  rw [cLk13] at hlen
  match cs', hlen with
  | [v0, v1, v2], _ =>
    rw [a0, b0, cU13] at h0
    rw [a1, b1, cU13] at h1
    rw [a2, b2, cU13] at h2
    obtain ⟨p, hp, _, wp⟩ := DataW.trod_int Tryz.underlying5 h0
    obtain ⟨q, hq, _, wq⟩ := DataW.trod_int Tryz.underlying5 h1
    obtain ⟨r, hr, _, wr⟩ := DataW.trod_int Tryz.underlying5 h2
    simp at hp hq hr
    exact ⟨(p, q, r), by rw [hp, hq, hr], bounds_u8 wp, bounds_u8 wq, bounds_u8 wr⟩
set_option maxRecDepth 100000 in
theorem lk13_arg {a : Option Addr} {len cap : Nat} {d : DataW H} {p : List MemPlace} (h : DataW.Trod enc Tryz.prog W 0 (fun _ => true) true 56 (.slice a len cap) d p) (hw : ∀ n ∈ d.weights Tryz.prog 56, n ≤ reachBytes) :
    ∃ ls, SlAt lc13 3 W (.slice a len cap) ls ∧ LkB13 ls ∧ NilOk (.slice a len cap) ∧ (ls.length + 1) * 3 ≤ 140737488355328 := by
  obtain ⟨fuel, hf⟩ := h
  obtain ⟨ns, hn1, hn2, hG, hn3⟩ := open_sl (0, 0, 0) (cs := lc13) (sz := 3) (fun _ => rfl) (by omega) Tryz.underlying56 cLk13 (fun n cs' x h => lk13_cells h) (by simpa [Value.cells] using hf)
  exact ⟨ns, hn1, hG, hn2, slice_weight Tryz.underlying56 bLk13 (by omega) hw (by rcases hn3 with rfl | h; exact .inl rfl; exact .inr h)⟩
end
theorem cells713 : Tryz.prog.cellsOf 57 = 7 := by kernel_rfl
theorem seven13 {α : Type} {cs : Array α} (h : cs.size = 7) : ∃ c0 c1 c2 c3 c4 c5 c6, cs = #[c0, c1, c2, c3, c4, c5, c6] := by
  obtain ⟨l⟩ := cs
  match l, h with
  | [c0, c1, c2, c3, c4, c5, c6], _ => exact ⟨c0, c1, c2, c3, c4, c5, c6, rfl⟩
set_option maxRecDepth 100000 in
theorem open_seven13 {H : Type} {enc : TypeId × Value → H} {W : World} {base : Nat} {v : Value} {d : DataW H} {p : List MemPlace}
    (hval : Value.okWide Tryz.prog W .any base 57 v) (h : DataW.Trod enc Tryz.prog W 0 (fun _ => true) true 57 v d p) :
    ∃ ks : List Int, ks.length = 7 ∧ (∀ x ∈ ks, (Lit.int .u8 x).wf = true) ∧ v = .agg (c7 ks).toArray ∧ d = .agg (ks.map fun x => .lit (.int .u8 x)) ∧ p = [] := by
  obtain ⟨cs, rfl, hsz, _⟩ : ∃ cs, v = .agg cs ∧ cs.size = Tryz.prog.cellsOf 57 ∧ Row.okWide Tryz.prog W .any base 57 cs := by
    simpa [Value.okWide, Tryz.underlying57] using hval
  rw [cells713] at hsz
  obtain ⟨c0, c1, c2, c3, c4, c5, c6, rfl⟩ := seven13 hsz
  obtain ⟨fuel, hf⟩ := h
  cases fuel with
  | zero => simp [DataW.trod] at hf
  | succ n =>
    have hf' : DataW.trod enc Tryz.prog W 0 (fun _ => true) true (n + 1) 57 [c0, c1, c2, c3, c4, c5, c6] = some (d, p) := hf
    unfold DataW.trod at hf'
    rw [Tryz.underlying57] at hf'
    simp [show List.range 7 = [0, 1, 2, 3, 4, 5, 6] from rfl, cU13, cells713] at hf'
    cases h0 : DataW.trod enc Tryz.prog W 0 (fun _ => true) true n 5 [c0] with
    | none => simp [h0] at hf'
    | some y0 =>
      cases h1 : DataW.trod enc Tryz.prog W 0 (fun _ => true) true n 5 [c1] with
      | none => simp [h0, h1] at hf'
      | some y1 =>
        cases h2 : DataW.trod enc Tryz.prog W 0 (fun _ => true) true n 5 [c2] with
        | none => simp [h0, h1, h2] at hf'
        | some y2 =>
          cases h3 : DataW.trod enc Tryz.prog W 0 (fun _ => true) true n 5 [c3] with
          | none => simp [h0, h1, h2, h3] at hf'
          | some y3 =>
            cases h4 : DataW.trod enc Tryz.prog W 0 (fun _ => true) true n 5 [c4] with
            | none => simp [h0, h1, h2, h3, h4] at hf'
            | some y4 =>
              cases h5 : DataW.trod enc Tryz.prog W 0 (fun _ => true) true n 5 [c5] with
              | none => simp [h0, h1, h2, h3, h4, h5] at hf'
              | some y5 =>
                cases h6 : DataW.trod enc Tryz.prog W 0 (fun _ => true) true n 5 [c6] with
                | none => simp [h0, h1, h2, h3, h4, h5, h6] at hf'
                | some y6 =>
                  simp [h0, h1, h2, h3, h4, h5, h6] at hf'
                  obtain ⟨a0, e0, rfl, w0⟩ := DataW.trod_int Tryz.underlying5 h0
                  obtain ⟨a1, e1, rfl, w1⟩ := DataW.trod_int Tryz.underlying5 h1
                  obtain ⟨a2, e2, rfl, w2⟩ := DataW.trod_int Tryz.underlying5 h2
                  obtain ⟨a3, e3, rfl, w3⟩ := DataW.trod_int Tryz.underlying5 h3
                  obtain ⟨a4, e4, rfl, w4⟩ := DataW.trod_int Tryz.underlying5 h4
                  obtain ⟨a5, e5, rfl, w5⟩ := DataW.trod_int Tryz.underlying5 h5
                  obtain ⟨a6, e6, rfl, w6⟩ := DataW.trod_int Tryz.underlying5 h6
                  simp at e0 e1 e2 e3 e4 e5 e6
                  subst e0 e1 e2 e3 e4 e5 e6
                  refine ⟨[a0, a1, a2, a3, a4, a5, a6], rfl, fun x hx => ?_, rfl, hf'.1.symm, hf'.2.symm⟩
                  simp only [List.mem_cons, List.not_mem_nil, or_false] at hx
                  rcases hx with rfl | rfl | rfl | rfl | rfl | rfl | rfl
                  · exact w0
                  · exact w1
                  · exact w2
                  · exact w3
                  · exact w4
                  · exact w5
                  · exact w6
set_option maxRecDepth 100000 in
theorem shut_seven13 {H : Type} {enc : TypeId × Value → H} {W : World} {sp : Nat → Bool} {ks : List Int} (hl : ks.length = 7) (hk : ∀ x ∈ ks, (Lit.int .u8 x).wf = true) :
    DataW.Trod enc Tryz.prog W 0 sp true 57 (.agg (c7 ks).toArray) (.agg (ks.map fun x => .lit (.int .u8 x))) [] := by
  match ks, hl with
  | [c0, c1, c2, c3, c4, c5, c6], _ =>
    simp only [List.mem_cons, List.not_mem_nil, or_false, forall_eq_or_imp, forall_eq] at hk
    obtain ⟨w0, w1, w2, w3, w4, w5, w6⟩ := hk
    exact ⟨2, by simp [DataW.trod, Value.cells, Tryz.underlying57, Tryz.underlying5, cells713, cU13, w0, w1, w2, w3, w4, w5, w6, show List.range 7 = [0, 1, 2, 3, 4, 5, 6] from rfl]⟩
end Go.Proofs.YtbggingacoheiaaGreatDoor
