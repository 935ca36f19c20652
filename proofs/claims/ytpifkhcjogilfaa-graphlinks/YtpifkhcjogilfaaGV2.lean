/- The document's Of. -/
import Derived.Test.YtpifkhcjogilfaaGV1
import Derived.Test.YtpifkhcjogilfaaGVQ
import Derived.Test.YtpifkhcjogilfaaGU2
import Derived.Test.YtpifkhcjogilfaaGX0
namespace Go.Proofs.Ytpifkhcjogilfaa
open Go.RowKit

/-- The graph in its block, nodes and edges so far. -/
structure OuM (B : Nat) (w3 wr : World) (u v : Value) (N : List Int) (L : List Ed) : Prop where
  g : wr.heap[B]? = some (.cells #[u, v] 25)
  rn : wr.ownsRow (B + 1) 3 1 u N.length (fl ic N)
  re : wr.ownsRow (B + 1) 45 3 v L.length (fl ec L)
  ne : ∀ j, u.ownBlock = some j → v.ownBlock = some j → False
  b : Below B w3 wr
theorem fr_grown {w w' : World} {r : Option Nat} (h : w.grownBy w' r) : Fr (fun k => r = some k) w w' := ⟨h.os, h.tape, h.output, h.size, fun k hk hs => h.block k hk (fun e => hs e.symm)⟩
theorem OuM.node {B : Nat} {w3 wr w6 : World} {u v : Value} {N : List Int} {L : List Ed} {g cap : Nat} {n : Int} (h : OuM B w3 wr u v N L)
    (hown : w6.ownsRow (B + 1) 3 1 (.slice (some ⟨g, 0, none⟩) (N.length + 1) cap) (N.length + 1) (fl ic (N ++ [n]))) (hg : u.ownBlock = some g ∨ g = wr.heap.size + 1) (hgr : wr.grownBy w6 u.ownBlock) (hb : Below (B + 1) wr w6) :
    OuM B w3 (w6.setCell ⟨B, 0, none⟩ (.slice (some ⟨g, 0, none⟩) (N.length + 1) cap)) (.slice (some ⟨g, 0, none⟩) (N.length + 1) cap) v (N ++ [n]) L := by
  have hF := fr_grown hgr
  have hg6 := (hb.block _ (Nat.lt_succ_self _)).trans h.g
  have hre := row_fr h.re hF (fun j hj e => h.ne j e hj)
  refine ⟨heap_setCell_same _ _ _ _ _ _ hg6, ?_, ?_, ?_, (h.b.trans (hb.mono (Nat.le_succ _))).setCell (p := ⟨B, 0, none⟩) (Nat.le_refl _) _⟩
  · have h5 := row_fr hown ((Fr.refl (fun k => k = B) w6).set (p := ⟨B, 0, none⟩) rfl (.slice (some ⟨g, 0, none⟩) (N.length + 1) cap)) (fun j hj e => by have := (hown.lt j hj).1; omega)
    rw [List.length_append]
    exact h5
  · exact row_fr hre ((Fr.refl (fun k => k = B) w6).set (p := ⟨B, 0, none⟩) rfl (.slice (some ⟨g, 0, none⟩) (N.length + 1) cap)) (fun j hj e => by have := (hre.lt j hj).1; omega)
  · intro j hj hv
    simp [Value.ownBlock] at hj
    subst hj
    rcases hg with e | e
    · exact h.ne _ e hv
    · have := (h.re.lt _ hv).2
      omega
theorem OuM.edge {B : Nat} {w3 wr w6 : World} {u v : Value} {N : List Int} {L : List Ed} {g cap : Nat} {n : Ed} (h : OuM B w3 wr u v N L)
    (hown : w6.ownsRow (B + 1) 45 3 (.slice (some ⟨g, 0, none⟩) (L.length + 1) cap) (L.length + 1) (fl ec (L ++ [n]))) (hg : v.ownBlock = some g ∨ g = wr.heap.size + 1) (hgr : wr.grownBy w6 v.ownBlock) (hb : Below (B + 1) wr w6) :
    OuM B w3 (w6.setCell ⟨B, 1, none⟩ (.slice (some ⟨g, 0, none⟩) (L.length + 1) cap)) u (.slice (some ⟨g, 0, none⟩) (L.length + 1) cap) N (L ++ [n]) := by
  have hF := fr_grown hgr
  have hg6 := (hb.block _ (Nat.lt_succ_self _)).trans h.g
  have hrn := row_fr h.rn hF (fun j hj e => h.ne j hj e)
  refine ⟨heap_setCell_same _ _ _ _ _ _ hg6, ?_, ?_, ?_, (h.b.trans (hb.mono (Nat.le_succ _))).setCell (p := ⟨B, 1, none⟩) (Nat.le_refl _) _⟩
  · exact row_fr hrn ((Fr.refl (fun k => k = B) w6).set (p := ⟨B, 1, none⟩) rfl (.slice (some ⟨g, 0, none⟩) (L.length + 1) cap)) (fun j hj e => by have := (hrn.lt j hj).1; omega)
  · have h5 := row_fr hown ((Fr.refl (fun k => k = B) w6).set (p := ⟨B, 1, none⟩) rfl (.slice (some ⟨g, 0, none⟩) (L.length + 1) cap)) (fun j hj e => by have := (hown.lt j hj).1; omega)
    rw [List.length_append]
    exact h5
  · intro j hj hv
    simp [Value.ownBlock] at hv
    subst hv
    rcases hg with e | e
    · exact h.ne _ hj e
    · have := (h.rn.lt _ hj).2
      omega
theorem OuM.drew {B : Nat} {w3 wr : World} {u v : Value} {N : List Int} {L : List Ed} (h : OuM B w3 wr u v N L) : OuM B w3 wr.drew u v N L :=
  ⟨h.g, row_fr h.rn ((Fr.refl (fun _ => False) wr).drew) (fun _ _ h => h), row_fr h.re ((Fr.refl (fun _ => False) wr).drew) (fun _ _ h => h), h.ne, h.b.drew⟩
/-- No link of the pair ahead. -/
def NoPr (ls : List Ed) (x y : Int) : Prop := ∀ k ∈ ls, prE k x y = false
theorem NoPr.snoc {ls : List Ed} {x y : Int} {e : Ed} (h : NoPr ls x y) (he : prE e x y = false) : NoPr (ls ++ [e]) x y := by
  intro k hk
  rcases List.mem_append.1 hk with hk | hk
  · exact h k hk
  · rw [List.mem_singleton.1 hk]; exact he

theorem busy_out {ns : List Int} {ls rest : List Ed} {F : Nat → Bool} {x y c : Int} {e : Ed} {l0 : List Ed} (h : ofC ns ls = lkC F (lkF no2 l0) ((x, y, c) :: rest)) (hk : lkOk F (x, y, c) = true) (hlk : IsLk F l0 (lkF no2 l0)) (hm : e ∈ l0) (he : prE e x y = true) : ofC ns ls = 7 := by
  obtain ⟨⟨hx1, hx2⟩, ⟨hy1, hy2⟩, _⟩ := lkOk_parts hk
  simp only at hx1 hx2 hy1 hy2
  obtain ⟨p, rfl⟩ : ∃ p : Nat, x = (p : Int) := ⟨x.toNat, by omega⟩
  obtain ⟨q, rfl⟩ : ∃ q : Nat, y = (q : Int) := ⟨y.toNat, by omega⟩
  rw [h, lkC_busy hk]
  intro h0
  have := (hlk.free p q).1 (by simpa using h0) e hm
  rw [he] at this
  cases this

set_option maxRecDepth 100000 in
set_option maxHeartbeats 8000000 in
theorem rof_any {ns : List Int} {ls : List Ed} {v u : Value} {w : World} (hv : SlAt ic 1 w v ns) (hu : SlAt ec 3 w u ls) :
    Calls Try.prog 25 #[v, u] w fun e w' => OfAns w ns ls e w' ∧ Below w.heap.size w w' := by
  have Hv := hidIn hv
  obtain ⟨a, cap, rfl, hl, hcap, hat⟩ := hv.ints
  obtain ⟨a2, cap2, rfl, hl2, hcap2, hat2⟩ := hu.eds
  have Ha := hidIn hat
  have Ha2 := hidIn hat2
  clear hat hat2 hv hu
  obtain ⟨W0, hW0⟩ : ∃ W0, w.alloc nilG = W0 := ⟨_, rfl⟩
  have HR0 : Hid (Below w.heap.size w W0 ∧ W0.heap[w.heap.size]? = some nilG) := hidIn (by rw [← hW0]; exact ⟨(Below.refl _ w).alloc (Nat.le_refl _) _, heap_alloc_last w _⟩)
  have HW := hidIn hW0
  clear hW0
  go_enter Try.func25, Try.ntmps25
  go_upto_region 1 with fail
  rw [HW.out]
  clear HW
  go_wp2_with fail
  go_loopw [6] (fun i wr => ∃ (k : Nat), k ≤ ns.length ∧ i = .int .i64 k ∧ Hid (Below w.heap.size w wr ∧ wr.heap[w.heap.size]? = some nilG ∧ allR (ns.take k) ∧ rOk no1 ns = rOk (rF no1 (ns.take k)) (ns.drop k))) (fun i _ => ns.length - (intOf i).toNat)
  case atStart => exact ⟨0, Nat.zero_le _, rfl, hidIn ⟨HR0.out.1, HR0.out.2, (fun n hn => by simp at hn), by rw [List.drop_zero]; rfl⟩⟩
  case round =>
    clear HR0
    obtain ⟨k, hk, rfl, HR⟩ := hrel
    obtain ⟨hB, hG, hall, hrest⟩ := HR.out
    clear HR
    by_cases hlt : k < ns.length
    · obtain ⟨bk, o, rfl, hbk, hcell⟩ := Ha.out (by omega)
      obtain ⟨z, hx⟩ : ∃ z, ns[k]? = some z := ⟨ns[k], List.getElem?_eq_getElem hlt⟩
      have c0 := (hB.cell (p := ⟨bk, o + k, none⟩) hbk).trans (hcell k z hx)
      have HN : Hid (rOk no1 ns = (isR z && (!rF no1 (ns.take k) z.toNat && rOk (mk1 (rF no1 (ns.take k)) z.toNat) (ns.drop (k + 1))))) := hidIn (by rw [hrest, rOk_drop hx])
      have HT : Hid (rF no1 (ns.take (k + 1)) = mk1 (rF no1 (ns.take k)) z.toNat) := hidIn (by rw [take_snoc hx, rF_snoc])
      have HTk : Hid (ns.take (k + 1) = ns.take k ++ [z]) := hidIn (take_snoc hx)
      have HAll := hidIn hall
      have hki : (k : Int) < (ns.length : Int) := by omega
      obtain ⟨b1, hb1⟩ : ∃ b1, isR z = b1 := ⟨_, rfl⟩
      have HRt : Hid (∀ d os, Calls Try.prog 35 #[.int .i64 z] (Go.Sort.grow (redrawn wr d) os) fun e w' => e = .returned (.bool b1) ∧ Below (Go.Sort.grow (redrawn wr d) os).heap.size (Go.Sort.grow (redrawn wr d) os) w') := hidIn fun d os => by rw [← hb1]; exact rrouter_any z _
      have Hb1 := hidIn hb1
      have r0 := cell_regrown c0
      have HB := hidIn hB
      have HG := hidIn hG
      obtain ⟨b2, hb2⟩ : ∃ b2, hasN (ns.take k) z = b2 := ⟨_, rfl⟩
      have HHs : Hid (∀ d os, Calls Try.prog 30 #[.slice (some ⟨bk, o, none⟩) k cap, .int .i64 z] (Go.Sort.grow (redrawn wr d) os) fun e w' => e = .returned (.bool b2) ∧ Below (Go.Sort.grow (redrawn wr d) os).heap.size (Go.Sort.grow (redrawn wr d) os) w') := hidIn fun d os => by
        rw [← hb2]
        have hbq := hB.trans ((below_regrown wr d os).mono hB.size)
        have hsl : SlAt ic 1 (Go.Sort.grow (redrawn wr d) os) (.slice (some ⟨bk, o, none⟩) k cap) (ns.take k) := by
          obtain ⟨a', cap', he, h1, h2, h3⟩ := Hv.out.keep hbq (Nat.le_refl _)
          simp only [Value.slice.injEq, true_and] at he
          obtain ⟨rfl, rfl⟩ := he
          obtain ⟨bk', o', he, hb', hc'⟩ := h3 (by omega)
          simp only [Option.some.injEq, Addr.mk.injEq, and_true] at he
          obtain ⟨rfl, rfl⟩ := he
          exact slAt_take hc' rfl h1 h2 hb' hk
        exact (rhas_any hsl z).mono (fun e w' h => ⟨h.1, by rw [h.2]; exact Below.refl _ _⟩)
      have Hb2 := hidIn hb2
      have hkc : (k : Int) ≤ (cap : Int) := by omega
      have h0k : (0 : Int) ≤ (k : Int) := by omega
      clear hb1 hb2 hx hB hG hall hrest hcell
      cases b1
      · go_upto_region 4 with fail
        clear c0
        refine wp_region_quiet_below (by kernel_rfl) (by kernel_rfl) ?_
        repeat (go_big_quiet_step (first | (go_at_call 35; exact Calls.regrown_of (HRt.out _ _)) | (go_at_call 30; exact Calls.regrown_of (HHs.out _ _))))
        refine wpQuiet_nil ?_
        intro _ hw'
        obtain ⟨⟨dq, osq⟩, hw''⟩ := hw'
        subst hw''
        have HB4 := hidIn (HB.out.trans ((below_regrown wr dq osq).mono HB.out.size))
        have HG4 := hidIn (((below_regrown wr dq osq).block _ (block_lt HG.out)).trans HG.out)
        clear r0 HRt HHs
        generalize Go.Sort.grow (redrawn wr dq) osq = W4 at HB4 HG4 ⊢
        have HB := HB4
        have g0 : W4.cell? ⟨w.heap.size, 0, none⟩ = some (.slice none 0 0) := cell_of_row _ _ 0 _ _ _ HG4.out
        have g1 : W4.cell? ⟨w.heap.size, 1, none⟩ = some (.slice none 0 0) := cell_of_row _ _ 1 _ _ _ HG4.out
        have gf0 := frozen_new HG4.out 0
        have gf1 := frozen_new HG4.out 1
        go_wp2_with fail
        have e0 : ((W4.setCell ⟨w.heap.size, 0, none⟩ (.slice none 0 0)).setCell ⟨w.heap.size, 1, none⟩ (.slice none 0 0)).cell? ⟨w.heap.size, 0, none⟩ = some (.slice none 0 0) := by simp [go_sem, g0]
        have e1 : ((W4.setCell ⟨w.heap.size, 0, none⟩ (.slice none 0 0)).setCell ⟨w.heap.size, 1, none⟩ (.slice none 0 0)).cell? ⟨w.heap.size, 1, none⟩ = some (.slice none 0 0) := by simp [go_sem, g1]
        have HB3 : Hid (Below w.heap.size w ((W4.setCell ⟨w.heap.size, 0, none⟩ (.slice none 0 0)).setCell ⟨w.heap.size, 1, none⟩ (.slice none 0 0))) := hidIn ((HB.out.setCell (p := ⟨w.heap.size, 0, none⟩) (Nat.le_refl _) _).setCell (p := ⟨w.heap.size, 1, none⟩) (Nat.le_refl _) _)
        generalize (W4.setCell ⟨w.heap.size, 0, none⟩ (.slice none 0 0)).setCell ⟨w.heap.size, 1, none⟩ (.slice none 0 0) = V at *
        exact bodyPost_ret (v := .tuple #[grV (.slice none 0 0) (.slice none 0 0), .int .i64 2]) (by simp [results, Try.results25, asAddr, Result.andThen, go_sem, e0, e1]) rfl ⟨ofAns_no (by unfold ofC; rw [HN.out, Hb1.out]; rfl) (by decide), HB3.out⟩
      · cases b2
        · go_upto_region 4 with fail
          clear c0
          refine wp_region_quiet_below (by kernel_rfl) (by kernel_rfl) ?_
          repeat (go_big_quiet_step (first | (go_at_call 35; exact Calls.regrown_of (HRt.out _ _)) | (go_at_call 30; exact Calls.regrown_of (HHs.out _ _))))
          refine wpQuiet_nil ?_
          intro _ hw'
          obtain ⟨⟨dq, osq⟩, hw''⟩ := hw'
          subst hw''
          have HB4 := hidIn (HB.out.trans ((below_regrown wr dq osq).mono HB.out.size))
          have HG4 := hidIn (((below_regrown wr dq osq).block _ (block_lt HG.out)).trans HG.out)
          clear r0 HRt HHs
          generalize Go.Sort.grow (redrawn wr dq) osq = W4 at HB4 HG4 ⊢
          go_wp2_with fail
          go_roundw
          case rel => exact ⟨k + 1, by omega, by go_num, hidIn ⟨HB4.out, HG4.out, by rw [HTk.out]; exact allR_snoc HAll.out Hb1.out, by rw [HN.out, HT.out, Hb1.out, rF_has HAll.out Hb1.out, Hb2.out]; rfl⟩⟩
          case measure => simp [intOf]; omega
        · go_upto_region 4 with fail
          clear c0
          refine wp_region_quiet_below (by kernel_rfl) (by kernel_rfl) ?_
          repeat (go_big_quiet_step (first | (go_at_call 35; exact Calls.regrown_of (HRt.out _ _)) | (go_at_call 30; exact Calls.regrown_of (HHs.out _ _))))
          refine wpQuiet_nil ?_
          intro _ hw'
          obtain ⟨⟨dq, osq⟩, hw''⟩ := hw'
          subst hw''
          have HB4 := hidIn (HB.out.trans ((below_regrown wr dq osq).mono HB.out.size))
          have HG4 := hidIn (((below_regrown wr dq osq).block _ (block_lt HG.out)).trans HG.out)
          clear r0 HRt HHs
          generalize Go.Sort.grow (redrawn wr dq) osq = W4 at HB4 HG4 ⊢
          have HB := HB4
          have g0 : W4.cell? ⟨w.heap.size, 0, none⟩ = some (.slice none 0 0) := cell_of_row _ _ 0 _ _ _ HG4.out
          have g1 : W4.cell? ⟨w.heap.size, 1, none⟩ = some (.slice none 0 0) := cell_of_row _ _ 1 _ _ _ HG4.out
          have gf0 := frozen_new HG4.out 0
          have gf1 := frozen_new HG4.out 1
          go_wp2_with fail
          have e0 : ((W4.setCell ⟨w.heap.size, 0, none⟩ (.slice none 0 0)).setCell ⟨w.heap.size, 1, none⟩ (.slice none 0 0)).cell? ⟨w.heap.size, 0, none⟩ = some (.slice none 0 0) := by simp [go_sem, g0]
          have e1 : ((W4.setCell ⟨w.heap.size, 0, none⟩ (.slice none 0 0)).setCell ⟨w.heap.size, 1, none⟩ (.slice none 0 0)).cell? ⟨w.heap.size, 1, none⟩ = some (.slice none 0 0) := by simp [go_sem, g1]
          have HB3 : Hid (Below w.heap.size w ((W4.setCell ⟨w.heap.size, 0, none⟩ (.slice none 0 0)).setCell ⟨w.heap.size, 1, none⟩ (.slice none 0 0))) := hidIn ((HB.out.setCell (p := ⟨w.heap.size, 0, none⟩) (Nat.le_refl _) _).setCell (p := ⟨w.heap.size, 1, none⟩) (Nat.le_refl _) _)
          generalize (W4.setCell ⟨w.heap.size, 0, none⟩ (.slice none 0 0)).setCell ⟨w.heap.size, 1, none⟩ (.slice none 0 0) = V at *
          exact bodyPost_ret (v := .tuple #[grV (.slice none 0 0) (.slice none 0 0), .int .i64 2]) (by simp [results, Try.results25, asAddr, Result.andThen, go_sem, e0, e1]) rfl ⟨ofAns_no (by unfold ofC; rw [HN.out, Hb1.out, rF_has HAll.out Hb1.out, Hb2.out]; rfl) (by decide), HB3.out⟩
    · have hki : ¬ ((k : Int) < (ns.length : Int)) := by omega
      rw [List.take_of_length_le (by omega)] at hall hrest
      rw [List.drop_eq_nil_of_le (by omega)] at hrest
      have HOk : Hid (rOk no1 ns = true) := hidIn (by rw [hrest]; rfl)
      have HAll := hidIn hall
      have HB := hidIn hB
      clear hrest hall hB
      by_cases h48 : ls.length ≤ 48
      case neg =>
        have h48i : (48 : Int) < (ls.length : Int) := by omega
        have H48 := hidIn h48
        clear h48
        have g0 : wr.cell? ⟨w.heap.size, 0, none⟩ = some (.slice none 0 0) := cell_of_row _ _ 0 _ _ _ hG
        have g1 : wr.cell? ⟨w.heap.size, 1, none⟩ = some (.slice none 0 0) := cell_of_row _ _ 1 _ _ _ hG
        have gf0 := frozen_new hG 0
        have gf1 := frozen_new hG 1
        go_wp2_with fail
        have e0 : ((wr.setCell ⟨w.heap.size, 0, none⟩ (.slice none 0 0)).setCell ⟨w.heap.size, 1, none⟩ (.slice none 0 0)).cell? ⟨w.heap.size, 0, none⟩ = some (.slice none 0 0) := by simp [go_sem, g0]
        have e1 : ((wr.setCell ⟨w.heap.size, 0, none⟩ (.slice none 0 0)).setCell ⟨w.heap.size, 1, none⟩ (.slice none 0 0)).cell? ⟨w.heap.size, 1, none⟩ = some (.slice none 0 0) := by simp [go_sem, g1]
        have HB3 : Hid (Below w.heap.size w ((wr.setCell ⟨w.heap.size, 0, none⟩ (.slice none 0 0)).setCell ⟨w.heap.size, 1, none⟩ (.slice none 0 0))) := hidIn ((HB.out.setCell (p := ⟨w.heap.size, 0, none⟩) (Nat.le_refl _) _).setCell (p := ⟨w.heap.size, 1, none⟩) (Nat.le_refl _) _)
        generalize (wr.setCell ⟨w.heap.size, 0, none⟩ (.slice none 0 0)).setCell ⟨w.heap.size, 1, none⟩ (.slice none 0 0) = V at *
        exact bodyPost_ret (v := .tuple #[grV (.slice none 0 0) (.slice none 0 0), .int .i64 3]) (by simp [results, Try.results25, asAddr, Result.andThen, go_sem, e0, e1]) rfl ⟨ofAns_no (by unfold ofC; rw [HOk.out, if_pos rfl, if_neg H48.out]) (by decide), HB3.out⟩
      have h48i : ¬ ((48 : Int) < (ls.length : Int)) := by omega
      have HC : Hid (ofC ns ls = lkC (rF no1 ns) no2 ls) := hidIn (by unfold ofC; rw [HOk.out, if_pos rfl, if_pos h48])
      have HG := hidIn hG
      clear hG hlt
      go_wp2_with fail
      go_loopw [7] (fun i wr => ∃ (k : Nat), k ≤ ls.length ∧ i = .int .i64 k ∧ Hid (Below w.heap.size w wr ∧ wr.heap[w.heap.size]? = some nilG ∧ IsLk (rF no1 ns) (ls.take k) (lkF no2 (ls.take k)) ∧ ofC ns ls = lkC (rF no1 ns) (lkF no2 (ls.take k)) (ls.drop k))) (fun i _ => ls.length - (intOf i).toNat)
      case atStart => exact ⟨0, Nat.zero_le _, rfl, hidIn ⟨HB.out, HG.out, isLk_nil _, by rw [List.drop_zero]; exact HC.out⟩⟩
      case round =>
        clear HB HG HC hki hk
        obtain ⟨i, hi, rfl, HR⟩ := hrel
        obtain ⟨hB, hG, hlk, hrest⟩ := HR.out
        clear HR
        by_cases hlt : i < ls.length
        · obtain ⟨bk, o, rfl, hbk, hcell⟩ := Ha2.out (by omega)
          obtain ⟨⟨x, y, cc⟩, hx⟩ : ∃ z, ls[i]? = some z := ⟨ls[i], List.getElem?_eq_getElem hlt⟩
          obtain ⟨q0, q1, q2⟩ := hcell i _ hx
          have c0 := (hB.cell (p := ⟨bk, o + i * 3, none⟩) hbk).trans q0
          have c1 := (hB.cell (p := ⟨bk, o + i * 3 + 1, none⟩) hbk).trans q1
          have c2 := (hB.cell (p := ⟨bk, o + i * 3 + 2, none⟩) hbk).trans q2
          simp only at c0 c1 c2
          have HN : Hid (ofC ns ls = lkC (rF no1 ns) (lkF no2 (ls.take i)) ((x, y, cc) :: ls.drop (i + 1))) := hidIn (by rw [hrest, drop_next hx])
          have HT : Hid (lkF no2 (ls.take (i + 1)) = put4 (lkF no2 (ls.take i)) (x, y, cc)) := hidIn (by rw [take_snoc hx, lkF_snoc])
          have HTk : Hid (ls.take (i + 1) = ls.take i ++ [(x, y, cc)]) := hidIn (take_snoc hx)
          have HLk := hidIn hlk
          have Hcell := hidIn hcell
          have hii : (i : Int) < (ls.length : Int) := by omega
          obtain ⟨W1, hW1⟩ : ∃ W1, wr.alloc (.cells #[.int .i64 x, .int .i64 y, .int .i64 cc] 51) = W1 := ⟨_, rfl⟩
          have bA : Below wr.heap.size wr W1 := by rw [← hW1]; exact (Below.refl _ wr).alloc (Nat.le_refl _) _
          have hXB : W1.heap[wr.heap.size]? = some (.cells #[.int .i64 x, .int .i64 y, .int .i64 cc] 51) := by rw [← hW1]; exact heap_alloc_last wr _
          have l0 := cell_of_row _ _ 0 _ _ _ hXB
          have l1 := cell_of_row _ _ 1 _ _ _ hXB
          have l2 := cell_of_row _ _ 2 _ _ _ hXB
          simp at l0 l1 l2
          have hG1 := (bA.block _ (block_lt hG)).trans hG
          have hB1 := hB.trans (bA.mono hB.size)
          have hS := Hv.out.keep hB1 (Nat.le_refl _)
          have HXB := hidIn hXB
          have HG := hidIn hG1
          have HB := hidIn hB1
          have HSl := hidIn hS
          have HW := hidIn hW1
          clear hcell hx hrest q0 q1 q2 bA hXB hW1 hlk hG hB hG1 hB1 hS
          go_upto_region 12 with fail
          rw [HW.out]
          clear HW c0 c1 c2
          generalize wr.heap.size = bx at *
          have HOkE := hidIn (lkOk_has HAll.out x y cc)
          by_cases hxy : x = y
          · have hq : (x == y) = true := by simpa using hxy
            have Hxy := hidIn hxy
            clear hxy
            have g0 : W1.cell? ⟨w.heap.size, 0, none⟩ = some (.slice none 0 0) := cell_of_row _ _ 0 _ _ _ HG.out
            have g1 : W1.cell? ⟨w.heap.size, 1, none⟩ = some (.slice none 0 0) := cell_of_row _ _ 1 _ _ _ HG.out
            have gf0 := frozen_new HG.out 0
            have gf1 := frozen_new HG.out 1
            go_wp2_with fail
            have e0 : ((W1.setCell ⟨w.heap.size, 0, none⟩ (.slice none 0 0)).setCell ⟨w.heap.size, 1, none⟩ (.slice none 0 0)).cell? ⟨w.heap.size, 0, none⟩ = some (.slice none 0 0) := by simp [go_sem, g0]
            have e1 : ((W1.setCell ⟨w.heap.size, 0, none⟩ (.slice none 0 0)).setCell ⟨w.heap.size, 1, none⟩ (.slice none 0 0)).cell? ⟨w.heap.size, 1, none⟩ = some (.slice none 0 0) := by simp [go_sem, g1]
            have HB3 : Hid (Below w.heap.size w ((W1.setCell ⟨w.heap.size, 0, none⟩ (.slice none 0 0)).setCell ⟨w.heap.size, 1, none⟩ (.slice none 0 0))) := hidIn ((HB.out.setCell (p := ⟨w.heap.size, 0, none⟩) (Nat.le_refl _) _).setCell (p := ⟨w.heap.size, 1, none⟩) (Nat.le_refl _) _)
            generalize (W1.setCell ⟨w.heap.size, 0, none⟩ (.slice none 0 0)).setCell ⟨w.heap.size, 1, none⟩ (.slice none 0 0) = V at *
            exact bodyPost_ret (v := .tuple #[grV (.slice none 0 0) (.slice none 0 0), .int .i64 2]) (by simp [results, Try.results25, asAddr, Result.andThen, go_sem, e0, e1]) rfl ⟨ofAns_no (by rw [HN.out, lkC_bad (by rw [HOkE.out, Hxy.out]; simp)]) (by decide), HB3.out⟩
          have hq : (x == y) = false := by simpa using hxy
          have Hxy := hidIn hxy
          clear hxy
          go_wp2_with fail
          refine (rhas_any HSl.out x).mono ?_
          rintro e w5 ⟨rfl, hw5⟩
          rw [hw5]
          clear hw5 w5
          obtain ⟨b1, hb1⟩ : ∃ b1, hasN ns x = b1 := ⟨_, rfl⟩
          have Hb1 := hidIn hb1
          rw [hb1]
          clear hb1
          cases b1
          · have g0 : W1.cell? ⟨w.heap.size, 0, none⟩ = some (.slice none 0 0) := cell_of_row _ _ 0 _ _ _ HG.out
            have g1 : W1.cell? ⟨w.heap.size, 1, none⟩ = some (.slice none 0 0) := cell_of_row _ _ 1 _ _ _ HG.out
            have gf0 := frozen_new HG.out 0
            have gf1 := frozen_new HG.out 1
            go_wp2_with fail
            have e0 : ((W1.setCell ⟨w.heap.size, 0, none⟩ (.slice none 0 0)).setCell ⟨w.heap.size, 1, none⟩ (.slice none 0 0)).cell? ⟨w.heap.size, 0, none⟩ = some (.slice none 0 0) := by simp [go_sem, g0]
            have e1 : ((W1.setCell ⟨w.heap.size, 0, none⟩ (.slice none 0 0)).setCell ⟨w.heap.size, 1, none⟩ (.slice none 0 0)).cell? ⟨w.heap.size, 1, none⟩ = some (.slice none 0 0) := by simp [go_sem, g1]
            have HB3 : Hid (Below w.heap.size w ((W1.setCell ⟨w.heap.size, 0, none⟩ (.slice none 0 0)).setCell ⟨w.heap.size, 1, none⟩ (.slice none 0 0))) := hidIn ((HB.out.setCell (p := ⟨w.heap.size, 0, none⟩) (Nat.le_refl _) _).setCell (p := ⟨w.heap.size, 1, none⟩) (Nat.le_refl _) _)
            generalize (W1.setCell ⟨w.heap.size, 0, none⟩ (.slice none 0 0)).setCell ⟨w.heap.size, 1, none⟩ (.slice none 0 0) = V at *
            exact bodyPost_ret (v := .tuple #[grV (.slice none 0 0) (.slice none 0 0), .int .i64 2]) (by simp [results, Try.results25, asAddr, Result.andThen, go_sem, e0, e1]) rfl ⟨ofAns_no (by rw [HN.out, lkC_bad (by rw [HOkE.out, Hb1.out]; simp)]) (by decide), HB3.out⟩
          go_wp2_with fail
          refine (rhas_any HSl.out y).mono ?_
          rintro e w5 ⟨rfl, hw5⟩
          rw [hw5]
          clear hw5 w5
          obtain ⟨b2, hb2⟩ : ∃ b2, hasN ns y = b2 := ⟨_, rfl⟩
          have Hb2 := hidIn hb2
          rw [hb2]
          clear hb2
          cases b2
          · have g0 : W1.cell? ⟨w.heap.size, 0, none⟩ = some (.slice none 0 0) := cell_of_row _ _ 0 _ _ _ HG.out
            have g1 : W1.cell? ⟨w.heap.size, 1, none⟩ = some (.slice none 0 0) := cell_of_row _ _ 1 _ _ _ HG.out
            have gf0 := frozen_new HG.out 0
            have gf1 := frozen_new HG.out 1
            go_wp2_with fail
            have e0 : ((W1.setCell ⟨w.heap.size, 0, none⟩ (.slice none 0 0)).setCell ⟨w.heap.size, 1, none⟩ (.slice none 0 0)).cell? ⟨w.heap.size, 0, none⟩ = some (.slice none 0 0) := by simp [go_sem, g0]
            have e1 : ((W1.setCell ⟨w.heap.size, 0, none⟩ (.slice none 0 0)).setCell ⟨w.heap.size, 1, none⟩ (.slice none 0 0)).cell? ⟨w.heap.size, 1, none⟩ = some (.slice none 0 0) := by simp [go_sem, g1]
            have HB3 : Hid (Below w.heap.size w ((W1.setCell ⟨w.heap.size, 0, none⟩ (.slice none 0 0)).setCell ⟨w.heap.size, 1, none⟩ (.slice none 0 0))) := hidIn ((HB.out.setCell (p := ⟨w.heap.size, 0, none⟩) (Nat.le_refl _) _).setCell (p := ⟨w.heap.size, 1, none⟩) (Nat.le_refl _) _)
            generalize (W1.setCell ⟨w.heap.size, 0, none⟩ (.slice none 0 0)).setCell ⟨w.heap.size, 1, none⟩ (.slice none 0 0) = V at *
            exact bodyPost_ret (v := .tuple #[grV (.slice none 0 0) (.slice none 0 0), .int .i64 2]) (by simp [results, Try.results25, asAddr, Result.andThen, go_sem, e0, e1]) rfl ⟨ofAns_no (by rw [HN.out, lkC_bad (by rw [HOkE.out, Hb2.out]; simp)]) (by decide), HB3.out⟩
          by_cases hc1 : cc < 1
          · have Hc1 := hidIn hc1
            have g0 : W1.cell? ⟨w.heap.size, 0, none⟩ = some (.slice none 0 0) := cell_of_row _ _ 0 _ _ _ HG.out
            have g1 : W1.cell? ⟨w.heap.size, 1, none⟩ = some (.slice none 0 0) := cell_of_row _ _ 1 _ _ _ HG.out
            have gf0 := frozen_new HG.out 0
            have gf1 := frozen_new HG.out 1
            go_wp2_with fail
            have e0 : ((W1.setCell ⟨w.heap.size, 0, none⟩ (.slice none 0 0)).setCell ⟨w.heap.size, 1, none⟩ (.slice none 0 0)).cell? ⟨w.heap.size, 0, none⟩ = some (.slice none 0 0) := by simp [go_sem, g0]
            have e1 : ((W1.setCell ⟨w.heap.size, 0, none⟩ (.slice none 0 0)).setCell ⟨w.heap.size, 1, none⟩ (.slice none 0 0)).cell? ⟨w.heap.size, 1, none⟩ = some (.slice none 0 0) := by simp [go_sem, g1]
            have HB3 : Hid (Below w.heap.size w ((W1.setCell ⟨w.heap.size, 0, none⟩ (.slice none 0 0)).setCell ⟨w.heap.size, 1, none⟩ (.slice none 0 0))) := hidIn ((HB.out.setCell (p := ⟨w.heap.size, 0, none⟩) (Nat.le_refl _) _).setCell (p := ⟨w.heap.size, 1, none⟩) (Nat.le_refl _) _)
            generalize (W1.setCell ⟨w.heap.size, 0, none⟩ (.slice none 0 0)).setCell ⟨w.heap.size, 1, none⟩ (.slice none 0 0) = V at *
            exact bodyPost_ret (v := .tuple #[grV (.slice none 0 0) (.slice none 0 0), .int .i64 2]) (by simp [results, Try.results25, asAddr, Result.andThen, go_sem, e0, e1]) rfl ⟨ofAns_no (by rw [HN.out, lkC_bad (by rw [HOkE.out]; have h1 : isC cc = false := Bool.eq_false_iff.2 (fun h => by have := isC_iff.1 h; have := Hc1.out; omega); simp [h1])]) (by decide), HB3.out⟩
          by_cases hc2 : 1000 < cc
          · have Hc2 := hidIn hc2
            have g0 : W1.cell? ⟨w.heap.size, 0, none⟩ = some (.slice none 0 0) := cell_of_row _ _ 0 _ _ _ HG.out
            have g1 : W1.cell? ⟨w.heap.size, 1, none⟩ = some (.slice none 0 0) := cell_of_row _ _ 1 _ _ _ HG.out
            have gf0 := frozen_new HG.out 0
            have gf1 := frozen_new HG.out 1
            go_wp2_with fail
            have e0 : ((W1.setCell ⟨w.heap.size, 0, none⟩ (.slice none 0 0)).setCell ⟨w.heap.size, 1, none⟩ (.slice none 0 0)).cell? ⟨w.heap.size, 0, none⟩ = some (.slice none 0 0) := by simp [go_sem, g0]
            have e1 : ((W1.setCell ⟨w.heap.size, 0, none⟩ (.slice none 0 0)).setCell ⟨w.heap.size, 1, none⟩ (.slice none 0 0)).cell? ⟨w.heap.size, 1, none⟩ = some (.slice none 0 0) := by simp [go_sem, g1]
            have HB3 : Hid (Below w.heap.size w ((W1.setCell ⟨w.heap.size, 0, none⟩ (.slice none 0 0)).setCell ⟨w.heap.size, 1, none⟩ (.slice none 0 0))) := hidIn ((HB.out.setCell (p := ⟨w.heap.size, 0, none⟩) (Nat.le_refl _) _).setCell (p := ⟨w.heap.size, 1, none⟩) (Nat.le_refl _) _)
            generalize (W1.setCell ⟨w.heap.size, 0, none⟩ (.slice none 0 0)).setCell ⟨w.heap.size, 1, none⟩ (.slice none 0 0) = V at *
            exact bodyPost_ret (v := .tuple #[grV (.slice none 0 0) (.slice none 0 0), .int .i64 2]) (by simp [results, Try.results25, asAddr, Result.andThen, go_sem, e0, e1]) rfl ⟨ofAns_no (by rw [HN.out, lkC_bad (by rw [HOkE.out]; have h1 : isC cc = false := Bool.eq_false_iff.2 (fun h => by have := isC_iff.1 h; have := Hc2.out; omega); simp [h1])]) (by decide), HB3.out⟩
          have HLkOk : Hid (lkOk (rF no1 ns) (x, y, cc) = true) := hidIn (by rw [HOkE.out, Hb1.out, Hb2.out, isC_iff.2 ⟨by omega, by omega⟩]; simpa using Hxy.out)
          go_wp2_with fail
          clear l0 l1 l2 hc1 hc2
          go_loopw [9] (fun i' wz => ∃ (k : Nat), k ≤ i ∧ i' = .int .i64 k ∧ Hid (Below W1.heap.size W1 wz ∧ NoPr (ls.take k) x y)) (fun i' _ => i - (intOf i').toNat)
          case atStart => exact ⟨0, Nat.zero_le _, rfl, hidIn ⟨Below.refl _ _, fun e he => by simp at he⟩⟩
          case round =>
            obtain ⟨k, hk, rfl, HR⟩ := hrel
            obtain ⟨hBz, hno⟩ := HR.out
            have HBz := hidIn hBz
            have HNo := hidIn hno
            have hXz := (hBz.block _ (block_lt HXB.out)).trans HXB.out
            have hGz := (hBz.block _ (block_lt HG.out)).trans HG.out
            have hBwz := HB.out.trans (hBz.mono HB.out.size)
            clear HR hno
            by_cases hlt2 : k < i
            · obtain ⟨⟨p, q, c'⟩, hz⟩ : ∃ z, ls[k]? = some z := ⟨ls[k], List.getElem?_eq_getElem (by omega)⟩
              obtain ⟨q0, q1, _⟩ := Hcell.out k _ hz
              have d0 := (hBwz.cell (p := ⟨bk, o + k * 3, none⟩) hbk).trans q0
              have d1 := (hBwz.cell (p := ⟨bk, o + k * 3 + 1, none⟩) hbk).trans q1
              simp only at d0 d1
              have HZ : Hid (ls.take (k + 1) = ls.take k ++ [(p, q, c')]) := hidIn (take_snoc hz)
              have HM : Hid ((p, q, c') ∈ ls.take i) := hidIn (by
                have h1 : (ls.take i)[k]? = some (p, q, c') := by rw [List.getElem?_take, if_pos hlt2]; exact hz
                exact List.mem_of_getElem? h1)
              have x0 := cell_of_row _ _ 0 _ _ _ hXz
              have x1 := cell_of_row _ _ 1 _ _ _ hXz
              simp at x0 x1
              have hki : (k : Int) < (i : Int) := by omega
              have hkl : (k : Int) < (ls.length : Int) := by omega
              have HGz := hidIn hGz
              have HBwz := hidIn hBwz
              clear hXz hGz q0 q1 hz hBz hBwz hlt
              by_cases e1 : p = x
              · have t1 : (p == x) = true := by simpa using e1
                by_cases e2 : q = y
                · have t2 : (q == y) = true := by simpa using e2
                  have HE : Hid (prE (p, q, c') x y = true) := hidIn (by simp [prE, e1, e2])
                  clear e1 e2
                  go_upto_region 17 with fail
                  go_quiet (fail)
                  clear d0 d1 x0 x1
                  generalize hV : World.drewN wr _ = V0
                  have HB4 : Hid (Below w.heap.size w V0) := hidIn (by rw [← hV]; exact ⟨HBwz.out.os, HBwz.out.tape, HBwz.out.output, HBwz.out.size, HBwz.out.block⟩)
                  have HBz4 : Hid (Below W1.heap.size W1 V0) := hidIn (by rw [← hV]; exact ⟨HBz.out.os, HBz.out.tape, HBz.out.output, HBz.out.size, HBz.out.block⟩)
                  have HG4 : Hid (V0.heap[w.heap.size]? = some nilG) := hidIn (by rw [← hV]; exact HGz.out)
                  clear hV
                  have HB := HB4
                  have g0 : V0.cell? ⟨w.heap.size, 0, none⟩ = some (.slice none 0 0) := cell_of_row _ _ 0 _ _ _ HG4.out
                  have g1 : V0.cell? ⟨w.heap.size, 1, none⟩ = some (.slice none 0 0) := cell_of_row _ _ 1 _ _ _ HG4.out
                  have gf0 := frozen_new HG4.out 0
                  have gf1 := frozen_new HG4.out 1
                  go_wp2_with fail
                  have e0 : ((V0.setCell ⟨w.heap.size, 0, none⟩ (.slice none 0 0)).setCell ⟨w.heap.size, 1, none⟩ (.slice none 0 0)).cell? ⟨w.heap.size, 0, none⟩ = some (.slice none 0 0) := by simp [go_sem, g0]
                  have e1 : ((V0.setCell ⟨w.heap.size, 0, none⟩ (.slice none 0 0)).setCell ⟨w.heap.size, 1, none⟩ (.slice none 0 0)).cell? ⟨w.heap.size, 1, none⟩ = some (.slice none 0 0) := by simp [go_sem, g1]
                  have HB3 : Hid (Below w.heap.size w ((V0.setCell ⟨w.heap.size, 0, none⟩ (.slice none 0 0)).setCell ⟨w.heap.size, 1, none⟩ (.slice none 0 0))) := hidIn ((HB.out.setCell (p := ⟨w.heap.size, 0, none⟩) (Nat.le_refl _) _).setCell (p := ⟨w.heap.size, 1, none⟩) (Nat.le_refl _) _)
                  generalize (V0.setCell ⟨w.heap.size, 0, none⟩ (.slice none 0 0)).setCell ⟨w.heap.size, 1, none⟩ (.slice none 0 0) = V at *
                  exact bodyPost_ret (v := .tuple #[grV (.slice none 0 0) (.slice none 0 0), .int .i64 7]) (by simp [results, Try.results25, asAddr, Result.andThen, go_sem, e0, e1]) rfl ⟨ofAns_no (busy_out HN.out HLkOk.out HLk.out HM.out HE.out) (by decide), HB3.out⟩
                · have t2 : (q == y) = false := by simpa using e2
                  have t3 : (p == y) = false := by rw [e1]; exact hq
                  have HE : Hid (prE (p, q, c') x y = false) := hidIn (by have := Hxy.out; simp [prE, e1, e2]; intro h; exact fun h2 => this h2)
                  clear e1 e2
                  go_upto_region 17 with fail
                  go_quiet (fail)
                  clear d0 d1 x0 x1
                  generalize hV : World.drewN wr _ = V0
                  have HB4 : Hid (Below w.heap.size w V0) := hidIn (by rw [← hV]; exact ⟨HBwz.out.os, HBwz.out.tape, HBwz.out.output, HBwz.out.size, HBwz.out.block⟩)
                  have HBz4 : Hid (Below W1.heap.size W1 V0) := hidIn (by rw [← hV]; exact ⟨HBz.out.os, HBz.out.tape, HBz.out.output, HBz.out.size, HBz.out.block⟩)
                  have HG4 : Hid (V0.heap[w.heap.size]? = some nilG) := hidIn (by rw [← hV]; exact HGz.out)
                  clear hV
                  go_wp2_with fail
                  go_roundw
                  case rel => exact ⟨k + 1, by omega, by go_num, hidIn ⟨HBz4.out, by rw [HZ.out]; exact HNo.out.snoc HE.out⟩⟩
                  case measure => simp [intOf]; omega
              · have t1 : (p == x) = false := by simpa using e1
                by_cases e3 : p = y
                · have t3 : (p == y) = true := by simpa using e3
                  by_cases e4 : q = x
                  · have t4 : (q == x) = true := by simpa using e4
                    have HE : Hid (prE (p, q, c') x y = true) := hidIn (by simp [prE, e3, e4])
                    clear e1 e3 e4
                    go_upto_region 17 with fail
                    go_quiet (fail)
                    clear d0 d1 x0 x1
                    generalize hV : World.drewN wr _ = V0
                    have HB4 : Hid (Below w.heap.size w V0) := hidIn (by rw [← hV]; exact ⟨HBwz.out.os, HBwz.out.tape, HBwz.out.output, HBwz.out.size, HBwz.out.block⟩)
                    have HBz4 : Hid (Below W1.heap.size W1 V0) := hidIn (by rw [← hV]; exact ⟨HBz.out.os, HBz.out.tape, HBz.out.output, HBz.out.size, HBz.out.block⟩)
                    have HG4 : Hid (V0.heap[w.heap.size]? = some nilG) := hidIn (by rw [← hV]; exact HGz.out)
                    clear hV
                    have HB := HB4
                    have g0 : V0.cell? ⟨w.heap.size, 0, none⟩ = some (.slice none 0 0) := cell_of_row _ _ 0 _ _ _ HG4.out
                    have g1 : V0.cell? ⟨w.heap.size, 1, none⟩ = some (.slice none 0 0) := cell_of_row _ _ 1 _ _ _ HG4.out
                    have gf0 := frozen_new HG4.out 0
                    have gf1 := frozen_new HG4.out 1
                    go_wp2_with fail
                    have e0 : ((V0.setCell ⟨w.heap.size, 0, none⟩ (.slice none 0 0)).setCell ⟨w.heap.size, 1, none⟩ (.slice none 0 0)).cell? ⟨w.heap.size, 0, none⟩ = some (.slice none 0 0) := by simp [go_sem, g0]
                    have e1 : ((V0.setCell ⟨w.heap.size, 0, none⟩ (.slice none 0 0)).setCell ⟨w.heap.size, 1, none⟩ (.slice none 0 0)).cell? ⟨w.heap.size, 1, none⟩ = some (.slice none 0 0) := by simp [go_sem, g1]
                    have HB3 : Hid (Below w.heap.size w ((V0.setCell ⟨w.heap.size, 0, none⟩ (.slice none 0 0)).setCell ⟨w.heap.size, 1, none⟩ (.slice none 0 0))) := hidIn ((HB.out.setCell (p := ⟨w.heap.size, 0, none⟩) (Nat.le_refl _) _).setCell (p := ⟨w.heap.size, 1, none⟩) (Nat.le_refl _) _)
                    generalize (V0.setCell ⟨w.heap.size, 0, none⟩ (.slice none 0 0)).setCell ⟨w.heap.size, 1, none⟩ (.slice none 0 0) = V at *
                    exact bodyPost_ret (v := .tuple #[grV (.slice none 0 0) (.slice none 0 0), .int .i64 7]) (by simp [results, Try.results25, asAddr, Result.andThen, go_sem, e0, e1]) rfl ⟨ofAns_no (busy_out HN.out HLkOk.out HLk.out HM.out HE.out) (by decide), HB3.out⟩
                  · have t4 : (q == x) = false := by simpa using e4
                    have HE : Hid (prE (p, q, c') x y = false) := hidIn (by simp [prE, e1, e4])
                    clear e1 e3 e4
                    go_upto_region 17 with fail
                    go_quiet (fail)
                    clear d0 d1 x0 x1
                    generalize hV : World.drewN wr _ = V0
                    have HB4 : Hid (Below w.heap.size w V0) := hidIn (by rw [← hV]; exact ⟨HBwz.out.os, HBwz.out.tape, HBwz.out.output, HBwz.out.size, HBwz.out.block⟩)
                    have HBz4 : Hid (Below W1.heap.size W1 V0) := hidIn (by rw [← hV]; exact ⟨HBz.out.os, HBz.out.tape, HBz.out.output, HBz.out.size, HBz.out.block⟩)
                    have HG4 : Hid (V0.heap[w.heap.size]? = some nilG) := hidIn (by rw [← hV]; exact HGz.out)
                    clear hV
                    go_wp2_with fail
                    go_roundw
                    case rel => exact ⟨k + 1, by omega, by go_num, hidIn ⟨HBz4.out, by rw [HZ.out]; exact HNo.out.snoc HE.out⟩⟩
                    case measure => simp [intOf]; omega
                · have t3 : (p == y) = false := by simpa using e3
                  have HE : Hid (prE (p, q, c') x y = false) := hidIn (by simp [prE, e1, e3])
                  clear e1 e3
                  go_upto_region 17 with fail
                  go_quiet (fail)
                  clear d0 d1 x0 x1
                  generalize hV : World.drewN wr _ = V0
                  have HB4 : Hid (Below w.heap.size w V0) := hidIn (by rw [← hV]; exact ⟨HBwz.out.os, HBwz.out.tape, HBwz.out.output, HBwz.out.size, HBwz.out.block⟩)
                  have HBz4 : Hid (Below W1.heap.size W1 V0) := hidIn (by rw [← hV]; exact ⟨HBz.out.os, HBz.out.tape, HBz.out.output, HBz.out.size, HBz.out.block⟩)
                  have HG4 : Hid (V0.heap[w.heap.size]? = some nilG) := hidIn (by rw [← hV]; exact HGz.out)
                  clear hV
                  go_wp2_with fail
                  go_roundw
                  case rel => exact ⟨k + 1, by omega, by go_num, hidIn ⟨HBz4.out, by rw [HZ.out]; exact HNo.out.snoc HE.out⟩⟩
                  case measure => simp [intOf]; omega
            · have hki : ¬ ((k : Int) < (i : Int)) := by omega
              have hke : k = i := by omega
              obtain ⟨⟨hx1, hx2⟩, ⟨hy1, hy2⟩, _⟩ := lkOk_parts HLkOk.out
              simp only at hx1 hx2 hy1 hy2
              have HNx : Hid (IsLk (rF no1 ns) (ls.take (i + 1)) (lkF no2 (ls.take (i + 1))) ∧ ofC ns ls = lkC (rF no1 ns) (lkF no2 (ls.take (i + 1))) (ls.drop (i + 1))) := hidIn (by
                obtain ⟨p, rfl⟩ : ∃ p : Nat, x = (p : Int) := ⟨x.toNat, by omega⟩
                obtain ⟨q, rfl⟩ : ∃ q : Nat, y = (q : Int) := ⟨y.toNat, by omega⟩
                have h0 : lkF no2 (ls.take i) p q = 0 := (HLk.out.free p q).2 (by have := HNo.out; rw [hke] at this; exact this)
                rw [HTk.out, lkF_snoc]
                exact ⟨HLk.out.snoc HLkOk.out h0, by rw [HN.out, lkC_on HLkOk.out (by simpa using h0)]⟩)
              have HGz := hidIn hGz
              have HBwz := hidIn hBwz
              clear hx1 hx2 hy1 hy2 hXz hGz hBz hBwz
              go_wp2_with fail
              go_roundw
              case rel => exact ⟨i + 1, by omega, by go_num, hidIn ⟨HBwz.out, HGz.out, HNx.out.1, HNx.out.2⟩⟩
              case measure => simp [intOf]; omega
        · have hii : ¬ ((i : Int) < (ls.length : Int)) := by omega
          rw [List.take_of_length_le (by omega)] at hlk hrest
          rw [List.drop_eq_nil_of_le (by omega)] at hrest
          have HO : Hid (ofC ns ls = 0) := hidIn (by rw [hrest]; rfl)
          have HLk := hidIn hlk
          have HB := hidIn hB
          have HG := hidIn hG
          have hGlt := block_lt hG
          have HF0 : Hid (rF no1 ns 0 = false) := hidIn (rF_zero HAll.out)
          clear hlk hrest hB hG hlt
          obtain ⟨B, hBs⟩ : ∃ B, wr.heap.size = B := ⟨_, rfl⟩
          obtain ⟨W3, hW3⟩ : ∃ W3, wr.alloc nilG = W3 := ⟨_, rfl⟩
          have HO0 : Hid (OuM B wr W3 (.slice none 0 0) (.slice none 0 0) (markN (rF no1 ns) 1) (outP (rF no1 ns) ls 1)) := hidIn (by
            rw [markN_one HF0.out, outP_one HF0.out, ← hW3, ← hBs]
            exact ⟨heap_alloc_last wr _, World.ownsRow_nil _ _ _ _, World.ownsRow_nil _ _ _ _, fun j hj => by simp [Value.ownBlock] at hj, by go_grown⟩)
          have HW := hidIn hW3
          clear hW3
          go_upto_region 20 with fail
          rw [HW.out]
          clear HW
          have HBs := hidIn hBs
          have hBlt : w.heap.size < B := by rw [← hBs]; exact hGlt
          have hBwl : w.heap.size ≤ B := by omega
          clear hBs hGlt
          obtain ⟨F, hF⟩ : ∃ F, rF no1 ns = F := ⟨_, rfl⟩
          have HF := hidIn hF
          rw [hF] at HLk HF0 HO0
          clear hF hii hi
          generalize wr = w3 at *
          go_wp2_with fail
          go_loopw [11] (fun i wz => ∃ (n : Nat), 1 ≤ n ∧ n ≤ 25 ∧ i = .int .i64 n ∧ Hid (∃ u v, OuM B w3 wz u v (markN F n) (outP F ls n))) (fun i _ => 25 - (intOf i).toNat)
          case atStart => exact ⟨1, Nat.le_refl _, by omega, rfl, hidIn ⟨_, _, HO0.out⟩⟩
          case round =>
            clear HO0
            obtain ⟨n, hn1, hn, rfl, HR⟩ := hrel
            obtain ⟨u0, v0, hM0⟩ := HR.out
            clear HR
            by_cases hlt : n < 25
            · have hni : (n : Int) ≤ 24 := by omega
              have hS := Hv.out.keep (HB.out.trans (hM0.b.mono hBwl)) (Nat.le_refl _)
              have HSl := hidIn hS
              have HM0 := hidIn hM0
              clear hS hM0
              go_wp2_with fail
              refine (rhas_any HSl.out (n : Int)).mono ?_
              rintro e w5 ⟨rfl, hw5⟩
              rw [hw5]
              clear hw5 w5
              have HFn : Hid (F n = hasN ns (n : Int)) := hidIn (by rw [← HF.out]; have := rF_has HAll.out (z := (n : Int)) (isR_iff.2 ⟨by omega, by omega⟩); rw [Int.toNat_natCast] at this; exact this)
              obtain ⟨b1, hb1⟩ : ∃ b1, hasN ns (n : Int) = b1 := ⟨_, rfl⟩
              have Hb1 := hidIn hb1
              rw [hb1]
              clear hb1
              cases b1
              · go_wp2_with fail
                go_roundw
                case rel => exact ⟨n + 1, by omega, by omega, by go_num, hidIn ⟨u0, v0, by rw [markN_succ, outP_succ, HFn.out, Hb1.out]; simpa using HM0.out⟩⟩
                case measure => simp [intOf]; omega
              have hle0 : (markN F n).length ≤ 25 := Nat.le_trans (markN_len F n) hn
              have hM := HM0.out
              obtain ⟨g, gcap, w6, hrun, hown, hgb, hgrow, hb6⟩ := append_int hM.rn (n : Int) (by omega) (by have := block_lt hM.g; omega)
              have hg6 := (hb6.block _ (Nat.lt_succ_self _)).trans hM.g
              have HM1 := hidIn (hM.node hown hgb hgrow hb6)
              have HRun := hidIn hrun
              have d0 := cell_of_row _ _ 0 _ _ _ hM.g
              have k0 := cell_of_row _ _ 0 _ _ _ hg6
              have f0 := frozen_new hg6 0
              simp at d0 k0
              clear hrun hown hgb hgrow hb6 hM hg6 HM0 HSl
              obtain ⟨N1, hN1⟩ : ∃ N1, markN F n ++ [(n : Int)] = N1 := ⟨_, rfl⟩
              have HN1 := hidIn hN1
              rw [hN1] at HM1
              clear hN1
              obtain ⟨ln, hln⟩ : ∃ ln, (markN F n).length = ln := ⟨_, rfl⟩
              rw [hln] at HRun HM1 hle0
              clear hln
              go_wp2_with (refine l_append rfl _ _ 22 rfl HRun.out ?_)
              clear d0 k0 f0 HRun
              generalize w6.setCell ⟨B, 0, none⟩ _ = wn at HM1 ⊢
              obtain ⟨u1, hu1⟩ : ∃ u1, Value.slice (some ⟨g, 0, none⟩) (ln + 1) gcap = u1 := ⟨_, rfl⟩
              rw [hu1] at HM1
              clear hu1
              go_loopw [12] (fun i wz => ∃ (m : Nat), 1 ≤ m ∧ m ≤ 25 ∧ i = .int .i64 m ∧ Hid (∃ v, OuM B w3 wz u1 v N1 (outP F ls n ++ rowP ls (n : Int) m))) (fun i _ => 25 - (intOf i).toNat)
              case atStart => exact ⟨1, Nat.le_refl _, by omega, rfl, hidIn ⟨v0, by rw [rowP_one HLk.out HF0.out, List.append_nil]; exact HM1.out⟩⟩
              case round =>
                clear HM1
                obtain ⟨m, hm1, hm, rfl, HR⟩ := hrel
                obtain ⟨v1, hM1⟩ := HR.out
                clear HR
                have HM1 := hidIn hM1
                clear hM1
                by_cases hlt2 : m < 25
                · have hmi : (m : Int) ≤ 24 := by omega
                  go_wp2_with fail
                  go_loopw [13] (fun i wz => ∃ (k : Nat), k ≤ ls.length ∧ i = .int .i64 k ∧ Hid (∃ v, OuM B w3 wz u1 v N1 (outP F ls n ++ rowP ls (n : Int) m ++ pick2 (ls.take k) (n : Int) (m : Int)))) (fun i _ => ls.length - (intOf i).toNat)
                  case atStart => exact ⟨0, Nat.zero_le _, rfl, hidIn ⟨v1, by simpa [pick2] using HM1.out⟩⟩
                  case round =>
                    clear HM1
                    obtain ⟨j, hj, rfl, HR⟩ := hrel
                    obtain ⟨v, hM⟩ := HR.out
                    clear HR
                    by_cases hlt3 : j < ls.length
                    · obtain ⟨bk, o, rfl, hbk, hcell⟩ := Ha2.out (by omega)
                      obtain ⟨⟨p, q, c'⟩, hz⟩ : ∃ z, ls[j]? = some z := ⟨ls[j], List.getElem?_eq_getElem hlt3⟩
                      obtain ⟨q0, q1, q2⟩ := hcell j _ hz
                      simp only at q0 q1 q2
                      have HCq : Hid (∀ wq, Below B w3 wq → wq.cell? ⟨bk, o + j * 3 + 2, none⟩ = some (.int .i64 c')) := hidIn fun wq h => ((HB.out.trans (h.mono hBwl)).cell (p := ⟨bk, o + j * 3 + 2, none⟩) hbk).trans q2
                      have hBq := HB.out.trans (hM.b.mono hBwl)
                      have c0 := (hBq.cell (p := ⟨bk, o + j * 3, none⟩) hbk).trans q0
                      have c1 := (hBq.cell (p := ⟨bk, o + j * 3 + 1, none⟩) hbk).trans q1
                      have HT : Hid (ls.take (j + 1) = ls.take j ++ [(p, q, c')]) := hidIn (take_snoc hz)
                      have hji : (j : Int) < (ls.length : Int) := by omega
                      have hle : (outP F ls n ++ rowP ls (n : Int) m ++ pick2 (ls.take j) (n : Int) (m : Int)).length ≤ 40000 := by
                        rw [List.length_append, List.length_append]
                        have h1 := outP_len F ls n
                        have h2 := rowP_len ls (n : Int) m
                        have h3 := pick2_len (ls.take j) (n : Int) (m : Int)
                        rw [List.length_take] at h3
                        have h4 : n * (25 * ls.length) ≤ 25 * (25 * 48) := Nat.mul_le_mul hn (by omega)
                        have h5 : m * ls.length ≤ 25 * 48 := Nat.mul_le_mul hm (by omega)
                        omega
                      obtain ⟨L, hL⟩ : ∃ L, outP F ls n ++ rowP ls (n : Int) m ++ pick2 (ls.take j) (n : Int) (m : Int) = L := ⟨_, rfl⟩
                      rw [hL] at hM hle
                      have HL := hidIn hL
                      have HM := hidIn hM
                      clear hcell hz q0 q1 q2 hBq hL hM
                      obtain ⟨bb, hbb⟩ : ∃ bb, prE (p, q, c') (n : Int) (m : Int) = bb := ⟨_, rfl⟩
                      have Hbb := hidIn hbb
                      clear hbb
                      go_upto_region 31 with fail
                      go_cut [182] (fun x1 wx => x1 = .bool bb ∧ wx = wr)
                      case first =>
                        clear HM HCq HT HL hle
                        by_cases e1 : p = (n : Int)
                        · have t1 : (p == (n : Int)) = true := by simpa using e1
                          by_cases e2 : q = (m : Int)
                          · have t2 : (q == (m : Int)) = true := by simpa using e2
                            have HE : Hid (true = bb) := hidIn (by rw [← Hbb.out]; simp [prE, e1, e2])
                            clear e1 e2
                            go_wp2_with fail
                            go_meet
                            exact ⟨by rw [HE.out], rfl⟩
                          · have t2 : (q == (m : Int)) = false := by simpa using e2
                            by_cases e3 : q = (n : Int)
                            · have t3 : (q == (n : Int)) = true := by simpa using e3
                              by_cases e4 : p = (m : Int)
                              · have t4 : (p == (m : Int)) = true := by simpa using e4
                                have HE : Hid (true = bb) := hidIn (by rw [← Hbb.out]; simp [prE, e3, e4])
                                clear e1 e2 e3 e4
                                go_wp2_with fail
                                go_meet
                                exact ⟨by rw [HE.out], rfl⟩
                              · have t4 : (p == (m : Int)) = false := by simpa using e4
                                have HE : Hid (false = bb) := hidIn (by rw [← Hbb.out]; simp [prE, e2, e4])
                                clear e1 e2 e3 e4
                                go_wp2_with fail
                                go_meet
                                exact ⟨by rw [HE.out], rfl⟩
                            · have t3 : (q == (n : Int)) = false := by simpa using e3
                              have HE : Hid (false = bb) := hidIn (by rw [← Hbb.out]; simp [prE, e2, e3])
                              clear e1 e2 e3
                              go_wp2_with fail
                              go_meet
                              exact ⟨by rw [HE.out], rfl⟩
                        · have t1 : (p == (n : Int)) = false := by simpa using e1
                          by_cases e3 : q = (n : Int)
                          · have t3 : (q == (n : Int)) = true := by simpa using e3
                            by_cases e4 : p = (m : Int)
                            · have t4 : (p == (m : Int)) = true := by simpa using e4
                              have HE : Hid (true = bb) := hidIn (by rw [← Hbb.out]; simp [prE, e3, e4])
                              clear e1 e3 e4
                              go_wp2_with fail
                              go_meet
                              exact ⟨by rw [HE.out], rfl⟩
                            · have t4 : (p == (m : Int)) = false := by simpa using e4
                              have HE : Hid (false = bb) := hidIn (by rw [← Hbb.out]; simp [prE, e1, e4])
                              clear e1 e3 e4
                              go_wp2_with fail
                              go_meet
                              exact ⟨by rw [HE.out], rfl⟩
                          · have t3 : (q == (n : Int)) = false := by simpa using e3
                            have HE : Hid (false = bb) := hidIn (by rw [← Hbb.out]; simp [prE, e1, e3])
                            clear e1 e3
                            go_wp2_with fail
                            go_meet
                            exact ⟨by rw [HE.out], rfl⟩
                      case rest =>
                        obtain ⟨rfl, hwx⟩ := hcut
                        rw [hwx]
                        clear hwx
                        have HE := Hbb
                        clear Hbb c0 c1
                        cases bb
                        · go_wp2_with fail
                          go_roundw
                          case rel => exact ⟨j + 1, by omega, by go_num, hidIn ⟨v, by rw [HT.out, pick2_no HE.out, HL.out]; exact HM.out⟩⟩
                          case measure => simp [intOf]; omega
                        · go_upto_region 32 with fail
                          have hM := HM.out.drew
                          have hMg := hM.g
                          have d1 : wr.drew.cell? ⟨B, 1, none⟩ = some v := cell_of_row _ _ 1 _ _ _ hMg
                          refine wp_region_held_drew (S := fun wx => Below B w3 wx) (by kernel_rfl) hM.b (fun hHeld => ?_)
                          have hh : Below B w3 wr.drew := hHeld
                          refine wpAnyH_take (i := 0) (v := ?_) rfl (by kernel_rfl) (by kernel_rfl) (by kernel_rfl) (fun _ _ _ h => h) (Or.inl ⟨by rfl, ?_⟩) (by assumption) ?_
                          rotate_left
                          · intro wq hSw
                            clear hSw
                            go_simp
                            try (with_reducible rfl)
                          refine wpAnyH_take (i := 2) (v := ?_) rfl (by kernel_rfl) (by kernel_rfl) (by kernel_rfl) (fun _ _ _ h => h) (Or.inl ⟨by rfl, ?_⟩) (by assumption) ?_
                          rotate_left
                          · intro wq hSw
                            clear hSw
                            go_simp
                            try (with_reducible rfl)
                          refine wpAnyH_take (i := 3) (v := ?_) rfl (by kernel_rfl) (by kernel_rfl) (by kernel_rfl) (fun _ _ _ h => h) (Or.inl ⟨by rfl, ?_⟩) (by assumption) ?_
                          rotate_left
                          · intro wq hSw
                            clear hSw
                            go_simp
                            try (with_reducible rfl)
                          refine wpAnyH_take (i := 4) (v := ?_) rfl (by kernel_rfl) (by kernel_rfl) (by kernel_rfl) (fun _ _ _ h => h) (Or.inl ⟨by rfl, ?_⟩) (by assumption) ?_
                          rotate_left
                          · intro wq hSw
                            clear hSw
                            go_simp
                            try (with_reducible rfl)
                          refine wpAnyH_take (i := 5) (v := ?_) rfl (by kernel_rfl) (by kernel_rfl) (by kernel_rfl) (fun _ _ _ h => h) (Or.inl ⟨by rfl, ?_⟩) (by assumption) ?_
                          rotate_left
                          · intro wq hSw
                            clear hSw
                            go_simp
                            try (with_reducible rfl)
                          refine wpAnyH_take (i := 6) (v := ?_) rfl (by kernel_rfl) (by kernel_rfl) (by kernel_rfl) (fun _ _ _ h => h) (Or.inl ⟨by rfl, ?_⟩) (by assumption) ?_
                          rotate_left
                          · intro wq hSw
                            clear hSw
                            go_simp
                            try (with_reducible rfl)
                          refine wpAnyH_take (i := 7) (v := ?_) rfl (by kernel_rfl) (by kernel_rfl) (by kernel_rfl) (fun _ _ _ h => h) (Or.inl ⟨by rfl, ?_⟩) (by assumption) ?_
                          rotate_left
                          · intro wq hSw
                            clear hSw
                            go_simp
                            try (with_reducible rfl)
                          refine wpAnyH_take (i := 8) (v := ?_) rfl (by kernel_rfl) (by kernel_rfl) (by kernel_rfl) (fun _ _ _ h => h) (Or.inl ⟨by rfl, ?_⟩) (by assumption) ?_
                          rotate_left
                          · intro wq hSw
                            have z1 := HCq.out wq hSw
                            clear hSw
                            go_simp
                            try (with_reducible rfl)
                          refine wpAnyH_take (i := 9) (v := ?_) rfl (by kernel_rfl) (by kernel_rfl) (by kernel_rfl) (fun _ _ _ h => h) (Or.inl ⟨by rfl, ?_⟩) (by assumption) ?_
                          rotate_left
                          · intro wq hSw
                            clear hSw
                            go_simp
                            try (with_reducible rfl)
                          obtain ⟨g, gcap, w6, hrun, hown, hgb, hgrow, hb6⟩ := append_edge hM.re ((n : Int), (m : Int), c') (by omega) (by have := block_lt hMg; omega)
                          have hg6 := (hb6.block _ (Nat.lt_succ_self _)).trans hMg
                          have HM6 := hidIn (hM.edge hown hgb hgrow hb6)
                          have k1 := cell_of_row _ _ 1 _ _ _ hg6
                          have kf1 := frozen_new hg6 1
                          simp at k1
                          have h6 : Below B w3 w6 := hh.trans (hb6.mono (Nat.le_succ _))
                          have bA : Below B w3 (wr.alloc (Obj.cells #[.int .i64 (n : Int), .int .i64 (m : Int), .int .i64 c'] 45)).drew := (HM.out.b.alloc (by have := block_lt hMg; exact Nat.le_of_lt this) _).drew
                          have hrun' : (Builtin.append_ #[23, 23] 23 #[v, .slice (some ⟨wr.heap.size, 0, none⟩) 1 1]).run Try.prog ((wr.alloc (Obj.cells #[.int .i64 (n : Int), .int .i64 (m : Int), .int .i64 c'] 45)).drew) = .ok (.slice (some ⟨g, 0, none⟩) (L.length + 1) gcap) w6 := hrun
                          have d1' : (wr.alloc (Obj.cells #[.int .i64 (n : Int), .int .i64 (m : Int), .int .i64 c'] 45)).drew.cell? ⟨B, 1, none⟩ = some v := cell_of_row _ _ 1 _ _ _ ((Below.heap_alloc _ _ _ (block_lt hMg)).trans hMg)
                          have HRun := hidIn hrun'
                          clear hrun hrun' hown hgb hgrow hb6 hg6 hM hMg
                          refine wpAnyH_ready (rs := [1, 10]) (by kernel_rfl) (by simp) ?_
                          refine AllReadyH.cons rfl (fun K hK => ?_) (AllReadyH.cons rfl (fun K hK => ?_) AllReadyH.nil)
                          · go_simp
                            refine hK.out _ _ hh (fun _ => ?_)
                            clear hK K
                            refine wpAnyH_ready (rs := [10]) (by kernel_rfl) (by simp) ?_
                            refine AllReadyH.cons rfl (fun K hK => ?_) AllReadyH.nil
                            go_simp
                            refine hK.out _ _ bA (fun _ => ?_)
                            clear hK K
                            refine wpAnyH_ready (rs := [11]) (by kernel_rfl) (by simp) ?_
                            refine AllReadyH.cons rfl (fun K hK => ?_) AllReadyH.nil
                            refine step_append rfl (.tmp 184) (.tmp 193) 23 rfl (by kernel_rfl) (by kernel_rfl) HRun.out ?_
                            refine hK.out _ _ h6 (fun _ => ?_)
                            clear hK K HRun d1 d1' bA
                            refine wpAnyH_take (i := 12) (v := ?_) rfl (by kernel_rfl) (by kernel_rfl) (by kernel_rfl) (fun _ _ _ h => h) (Or.inl ⟨by rfl, ?_⟩) (by assumption) ?_
                            rotate_left
                            · intro wq hSw
                              clear hSw
                              go_simp
                              try (with_reducible rfl)
                            refine wpAnyH_ready (rs := [13]) (by kernel_rfl) (by simp) ?_
                            refine AllReadyH.cons rfl (fun K hK => ?_) AllReadyH.nil
                            go_simp
                            refine hK.out _ _ HM6.out.b (fun _ => ?_)
                            clear hK K k1 kf1
                            refine wpAnyH_done (by kernel_rfl) ?_ _
                            generalize w6.setCell ⟨B, 1, none⟩ _ = V6 at HM6 ⊢
                            go_wp2_with fail
                            go_roundw
                            case rel => exact ⟨j + 1, by omega, by go_num, hidIn ⟨_, by rw [HT.out, pick2_yes HE.out, ← List.append_assoc, HL.out]; exact HM6.out⟩⟩
                            case measure => simp [intOf]; omega
                          · go_simp
                            refine hK.out _ _ bA (fun _ => ?_)
                            clear hK K
                            refine wpAnyH_ready (rs := [1]) (by kernel_rfl) (by simp) ?_
                            refine AllReadyH.cons rfl (fun K hK => ?_) AllReadyH.nil
                            go_simp
                            refine hK.out _ _ bA (fun _ => ?_)
                            clear hK K
                            refine wpAnyH_ready (rs := [11]) (by kernel_rfl) (by simp) ?_
                            refine AllReadyH.cons rfl (fun K hK => ?_) AllReadyH.nil
                            refine step_append rfl (.tmp 184) (.tmp 193) 23 rfl (by kernel_rfl) (by kernel_rfl) HRun.out ?_
                            refine hK.out _ _ h6 (fun _ => ?_)
                            clear hK K HRun d1 d1' bA
                            refine wpAnyH_take (i := 12) (v := ?_) rfl (by kernel_rfl) (by kernel_rfl) (by kernel_rfl) (fun _ _ _ h => h) (Or.inl ⟨by rfl, ?_⟩) (by assumption) ?_
                            rotate_left
                            · intro wq hSw
                              clear hSw
                              go_simp
                              try (with_reducible rfl)
                            refine wpAnyH_ready (rs := [13]) (by kernel_rfl) (by simp) ?_
                            refine AllReadyH.cons rfl (fun K hK => ?_) AllReadyH.nil
                            go_simp
                            refine hK.out _ _ HM6.out.b (fun _ => ?_)
                            clear hK K k1 kf1
                            refine wpAnyH_done (by kernel_rfl) ?_ _
                            generalize w6.setCell ⟨B, 1, none⟩ _ = V6 at HM6 ⊢
                            go_wp2_with fail
                            go_roundw
                            case rel => exact ⟨j + 1, by omega, by go_num, hidIn ⟨_, by rw [HT.out, pick2_yes HE.out, ← List.append_assoc, HL.out]; exact HM6.out⟩⟩
                            case measure => simp [intOf]; omega
                    · have hji : ¬ ((j : Int) < (ls.length : Int)) := by omega
                      have HM : Hid (OuM B w3 wr u1 v N1 (outP F ls n ++ rowP ls (n : Int) (m + 1))) := hidIn (by rw [rowP_succ, ← List.append_assoc]; rw [List.take_of_length_le (by omega)] at hM; exact hM)
                      clear hM
                      go_wp2_with fail
                      go_roundw
                      case rel => exact ⟨m + 1, by omega, by omega, by go_num, hidIn ⟨v, HM.out⟩⟩
                      case measure => simp [intOf]; omega
                · have hmi : ¬ ((m : Int) ≤ 24) := by omega
                  have hme : m = 25 := by omega
                  have HM : Hid (OuM B w3 wr u1 v1 (markN F (n + 1)) (outP F ls (n + 1))) := hidIn (by
                    rw [markN_succ, outP_succ, HFn.out, Hb1.out, if_pos rfl, if_pos rfl, HN1.out]
                    have := HM1.out
                    rw [hme] at this
                    exact this)
                  clear HM1
                  go_wp2_with fail
                  go_roundw
                  case rel => exact ⟨n + 1, by omega, by omega, by go_num, hidIn ⟨u1, v1, HM.out⟩⟩
                  case measure => simp [intOf]; omega
            · have hni : ¬ ((n : Int) ≤ 24) := by omega
              have hne : n = 25 := by omega
              rw [hne, show markN F 25 = markedL F from rfl, outP_laid HLk.out] at hM0
              obtain ⟨ua, ucap, rfl⟩ := row_shape hM0.rn
              obtain ⟨va, vcap, rfl⟩ := row_shape hM0.re
              have d0 := cell_of_row _ _ 0 _ _ _ hM0.g
              have d1 := cell_of_row _ _ 1 _ _ _ hM0.g
              simp at d0 d1
              have hR : wr.heap[w.heap.size]? = some nilG := (hM0.b.block _ hBlt).trans HG.out
              have r0 : wr.cell? ⟨w.heap.size, 0, none⟩ = some (.slice none 0 0) := cell_of_row _ _ 0 _ _ _ hR
              have r1 : wr.cell? ⟨w.heap.size, 1, none⟩ = some (.slice none 0 0) := cell_of_row _ _ 1 _ _ _ hR
              have f0 := frozen_new hR 0
              have f1 := frozen_new hR 1
              have HBw : Hid (Below w.heap.size w wr) := hidIn (HB.out.trans (hM0.b.mono hBwl))
              have HRn := hidIn hM0.rn
              have HRe := hidIn hM0.re
              clear hM0 hR
              obtain ⟨un, hun⟩ : ∃ un, (markedL F).length = un := ⟨_, rfl⟩
              obtain ⟨vn, hvn⟩ : ∃ vn, (laidE (lkF no2 ls)).length = vn := ⟨_, rfl⟩
              rw [hun] at d0 HRn
              rw [hvn] at d1 HRe
              have HUn := hidIn hun
              have HVn := hidIn hvn
              clear hun hvn
              go_wp2_with fail
              have e0 : ((wr.setCell ⟨w.heap.size, 0, none⟩ (.slice ua un ucap)).setCell ⟨w.heap.size, 1, none⟩ (.slice va vn vcap)).cell? ⟨w.heap.size, 0, none⟩ = some (.slice ua un ucap) := by simp [go_sem, r0]
              have e1 : ((wr.setCell ⟨w.heap.size, 0, none⟩ (.slice ua un ucap)).setCell ⟨w.heap.size, 1, none⟩ (.slice va vn vcap)).cell? ⟨w.heap.size, 1, none⟩ = some (.slice va vn vcap) := by simp [go_sem, r1]
              have HFr : Hid (Fr (fun k => k = w.heap.size) wr ((wr.setCell ⟨w.heap.size, 0, none⟩ (.slice ua un ucap)).setCell ⟨w.heap.size, 1, none⟩ (.slice va vn vcap))) := hidIn (((Fr.refl (fun k => k = w.heap.size) wr).set (p := ⟨w.heap.size, 0, none⟩) rfl _).set (p := ⟨w.heap.size, 1, none⟩) rfl _)
              generalize (wr.setCell ⟨w.heap.size, 0, none⟩ (.slice ua un ucap)).setCell ⟨w.heap.size, 1, none⟩ (.slice va vn vcap) = V at *
              refine bodyPost_ret (v := .tuple #[grV (.slice ua un ucap) (.slice va vn vcap), .int .i64 0]) (by simp [results, Try.results25, asAddr, Result.andThen, go_sem, e0, e1]) rfl ⟨?_, ?_⟩
              · unfold OfAns ofN ofE
                rw [HO.out, if_pos rfl, if_pos rfl, HF.out, HUn.out, HVn.out]
                exact ⟨ua, ucap, va, vcap, rfl, row_low (row_fr HRn.out HFr.out (fun j hj e => by have := (HRn.out.lt j hj).1; omega)) (by omega), row_low (row_fr HRe.out HFr.out (fun j hj e => by have := (HRe.out.lt j hj).1; omega)) (by omega)⟩
              · exact HBw.out.trans (HFr.out.below HBw.out.size (fun k hk => by omega))
end Go.Proofs.Ytpifkhcjogilfaa
