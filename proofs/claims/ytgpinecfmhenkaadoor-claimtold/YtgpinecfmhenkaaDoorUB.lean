/- The law's records. -/
import Derived.Test.YtgpinecfmhenkaaDoorU9
import Derived.Test.YtgpinecfmhenkaaDoorUA
namespace Go.Proofs.YtgpinecfmhenkaaDoor
open Go.RowKit

def rcO (ids : List Int) (n : Nat) (turned : Bool) (i : Nat) : Rc := smR (((if turned then n - 1 - i else i : Nat) : Int) + 1) (ids.getD (if turned then n - 1 - i else i) 0 % 12)
/-- Records of claims of the routers 1, 2, .., in some order. -/
def recsL (ids : List Int) (turned : Bool) : List Rc := (List.range (min ids.length 24)).map (rcO ids (min ids.length 24) turned)
abbrev withN (l : List Rc) : List (Rc × Value) := l.map fun r => (r, nilS)
theorem rcs_withN (l : List Rc) : rcs (withN l) = l := by unfold rcs withN; rw [List.map_map]; exact List.map_id l
theorem recs_row {w : World} {base k : Nat} {u : Value} {l : List Rc} (h : w.ownsRow base 49 6 u k (fl rcc (withN l))) (hk : l.length = k) (ha : ∀ r ∈ l, r.adjs = []) : RecsAt w u (withN l) :=
  ⟨slAt_of_row (cs := rcc) (fun _ => rfl) h (by rw [List.length_map, hk]), fun x hx => by
    obtain ⟨r, hr, rfl⟩ := List.mem_map.1 hx
    show SlAt ac 2 w nilS r.adjs
    rw [ha r hr]
    exact nilAdj w⟩
theorem recsL_adj {ids : List Int} {t : Bool} {r : Rc} (h : r ∈ recsL ids t) : r.adjs = [] := by
  obtain ⟨i, _, rfl⟩ := List.mem_map.1 h
  rfl
theorem SlAt.bytes {w : World} {v : Value} {zs : List Int} (h : SlAt uc8 1 w v zs) : ∃ a cap, v = .slice a zs.length cap ∧ zs.length ≤ 9223372036854775807 ∧ zs.length ≤ cap ∧ (0 < zs.length → ∃ bk o, a = some ⟨bk, o, none⟩ ∧ bk < w.heap.size ∧ ∀ j z, zs[j]? = some z → w.cell? ⟨bk, o + j, none⟩ = some (.int .u8 z)) := by
  obtain ⟨a, cap, rfl, h0, hc, h1⟩ := h
  refine ⟨a, cap, rfl, h0, hc, fun hp => ?_⟩
  obtain ⟨bk, o, rfl, h2, h3⟩ := h1 hp
  exact ⟨bk, o, rfl, h2, fun j z hz => by have := h3 j z hz 0 _ rfl; rw [Nat.mul_one, Nat.add_zero] at this; exact this⟩
set_option maxRecDepth 100000 in
set_option maxHeartbeats 2000000 in
theorem records_any {ids : List Int} {v : Value} {w : World} (h : SlAt uc8 1 w v ids) (hb : ∀ y ∈ ids, 0 ≤ y ∧ y ≤ 255) (turned : Bool) :
    Calls Tryd.prog 14 #[v, .bool turned] w fun e w' => (∃ a c, e = .returned (.slice a (recsL ids turned).length c) ∧ w'.ownsRow w.heap.size 49 6 (.slice a (recsL ids turned).length c) (recsL ids turned).length (fl rcc (withN (recsL ids turned)))) ∧ Below w.heap.size w w' := by
  obtain ⟨a, cap, rfl, hl, _, hat⟩ := h.bytes
  have Ha := hidIn hat
  have HBy := hidIn hb
  obtain ⟨ln, hln⟩ : ∃ ln, ids.length = ln := ⟨_, rfl⟩
  obtain ⟨n, hn⟩ : ∃ n, min ln 24 = n := ⟨_, rfl⟩
  have hmin : min (ln : Int) 24 = (n : Int) := by omega
  have Hn := hidIn hn
  have Hln := hidIn hln
  have hn24 : n ≤ 24 := by omega
  have hnl : n ≤ ln := by omega
  rw [hln] at hl ⊢
  clear hat h hb hn hln
  cases turned
  · have hlen : (recsL ids false).length = n := by unfold recsL; rw [List.length_map, List.length_range, Hln.out, Hn.out]
    rw [hlen]
    have Hlen := hidIn hlen
    clear hlen
    go_enter Tryd.func14, Tryd.ntmps14
    go_upto_region 3 with fail
    clear hmin
    go_wp2_with fail
    go_loopw [5, 7] (fun u i wr => ∃ k : Nat, k ≤ n ∧ i = .int .i64 k ∧ (∃ a c, u = .slice a k c) ∧ Hid (Below w.heap.size w wr ∧ wr.ownsRow w.heap.size 49 6 u k (fl rcc (withN ((recsL ids false).take k))))) (fun _ i _ => n - (intOf i).toNat)
    case atStart => exact ⟨0, Nat.zero_le _, rfl, ⟨none, 0, rfl⟩, hidIn ⟨Below.refl _ _, World.ownsRow_nil _ _ _ _⟩⟩
    case round =>
      obtain ⟨k, hk, rfl, ⟨ua, uc, rfl⟩, HR⟩ := hrel
      obtain ⟨hb, hr⟩ := HR.out
      clear HR
      by_cases hlt : k < n
      · obtain ⟨bk, o, rfl, hbk, hcell⟩ := Ha.out (by have := Hln.out; omega)
        obtain ⟨m, hm⟩ : ∃ m, k = m := ⟨_, rfl⟩
        have hml : m < ln := by omega
        obtain ⟨z, hz⟩ : ∃ z, ids[m]? = some z := ⟨ids[m]'(by have := Hln.out; omega), List.getElem?_eq_getElem _⟩
        obtain ⟨hz0, hz1⟩ := HBy.out z (List.mem_of_getElem? hz)
        have c0 := (hb.cell (p := ⟨bk, o + m, none⟩) hbk).trans (hcell m z hz)
        have hmi : (k : Int) = (m : Int) := by omega
        obtain ⟨y, hy⟩ : ∃ y, z % 12 = y := ⟨_, rfl⟩
        have ht : z.tmod 12 = y := by rw [Int.tmod_eq_emod_of_nonneg hz0]; exact hy
        have hy0 : 0 ≤ y := by omega
        have hy1 : y < 12 := by omega
        have HX : Hid ((recsL ids false).take (k + 1) = (recsL ids false).take k ++ [smR ((m : Int) + 1) y]) := hidIn (by
          rw [take_snoc (x := smR ((m : Int) + 1) y)]
          unfold recsL
          rw [List.getElem?_map, Hln.out, Hn.out, List.getElem?_range hlt]
          simp only [Option.map_some, rcO, Bool.false_eq_true, if_false, hm]
          rw [List.getD_eq_getElem?_getD, hz]
          simp only [Option.getD_some, hy])
        have hmb : m < 24 := by omega
        have hki : (k : Int) < (n : Int) := by omega
        have HB := hidIn hb
        have HR := hidIn hr
        clear hcell hz hb hr hm hy
        go_wp2_with fail
        refine (small_any ((m : Int) + 1) y _).mono ?_
        rintro e w2 ⟨rfl, hb2⟩
        have hr2 := row_below HR.out hb2 (Nat.le_refl _)
        have hB2 := HB.out.trans (hb2.mono HB.out.size)
        obtain ⟨g, gc, w6, hrun, hown, hb6⟩ := append_rec hr2 (smR ((m : Int) + 1) y, nilS) rfl (by omega) hB2.size
        have HRun := hidIn hrun
        have HO : Hid (Below w.heap.size w w6 ∧ w6.ownsRow w.heap.size 49 6 (.slice (some ⟨g, 0, none⟩) (k + 1) gc) (k + 1) (fl rcc (withN ((recsL ids false).take (k + 1))))) := hidIn ⟨hB2.trans hb6, by rw [HX.out, withN, List.map_append]; exact hown⟩
        clear hr2 hB2 hrun hown hb6 hb2 HB HR c0
        go_wp2_with (refine l_append rfl _ _ 42 rfl HRun.out ?_)
        go_roundw
        case rel => exact ⟨k + 1, by omega, by go_num, ⟨_, _, rfl⟩, HO⟩
        case measure => simp [intOf]; omega
      · have hke : k = n := by omega
        have hki : ¬ ((k : Int) < (n : Int)) := by omega
        have HE : Hid (wr.ownsRow w.heap.size 49 6 (.slice ua k uc) k (fl rcc (withN (recsL ids false))) ∧ k = n ∧ Below w.heap.size w wr) := hidIn ⟨by rw [List.take_of_length_le (by rw [Hlen.out]; omega)] at hr; exact hr, hke, hb⟩
        clear hb hr hke
        go_wp2_with fail
        go_ret
        obtain ⟨h1, h2, h3⟩ := HE.out
        rw [h2] at h1
        exact ⟨⟨ua, uc, by rw [h2]; rfl, h1⟩, h3⟩
  · have hlen : (recsL ids true).length = n := by unfold recsL; rw [List.length_map, List.length_range, Hln.out, Hn.out]
    rw [hlen]
    have Hlen := hidIn hlen
    clear hlen
    go_enter Tryd.func14, Tryd.ntmps14
    go_upto_region 3 with fail
    clear hmin
    go_wp2_with fail
    go_loopw [5, 7] (fun u i wr => ∃ k : Nat, k ≤ n ∧ i = .int .i64 k ∧ (∃ a c, u = .slice a k c) ∧ Hid (Below w.heap.size w wr ∧ wr.ownsRow w.heap.size 49 6 u k (fl rcc (withN ((recsL ids true).take k))))) (fun _ i _ => n - (intOf i).toNat)
    case atStart => exact ⟨0, Nat.zero_le _, rfl, ⟨none, 0, rfl⟩, hidIn ⟨Below.refl _ _, World.ownsRow_nil _ _ _ _⟩⟩
    case round =>
      obtain ⟨k, hk, rfl, ⟨ua, uc, rfl⟩, HR⟩ := hrel
      obtain ⟨hb, hr⟩ := HR.out
      clear HR
      by_cases hlt : k < n
      · obtain ⟨bk, o, rfl, hbk, hcell⟩ := Ha.out (by have := Hln.out; omega)
        obtain ⟨m, hm⟩ : ∃ m, n - 1 - k = m := ⟨_, rfl⟩
        have hml : m < ln := by omega
        obtain ⟨z, hz⟩ : ∃ z, ids[m]? = some z := ⟨ids[m]'(by have := Hln.out; omega), List.getElem?_eq_getElem _⟩
        obtain ⟨hz0, hz1⟩ := HBy.out z (List.mem_of_getElem? hz)
        have c0 := (hb.cell (p := ⟨bk, o + m, none⟩) hbk).trans (hcell m z hz)
        have hmi : (n : Int) - 1 - (k : Int) = (m : Int) := by omega
        obtain ⟨y, hy⟩ : ∃ y, z % 12 = y := ⟨_, rfl⟩
        have ht : z.tmod 12 = y := by rw [Int.tmod_eq_emod_of_nonneg hz0]; exact hy
        have hy0 : 0 ≤ y := by omega
        have hy1 : y < 12 := by omega
        have HX : Hid ((recsL ids true).take (k + 1) = (recsL ids true).take k ++ [smR ((m : Int) + 1) y]) := hidIn (by
          rw [take_snoc (x := smR ((m : Int) + 1) y)]
          unfold recsL
          rw [List.getElem?_map, Hln.out, Hn.out, List.getElem?_range hlt]
          simp only [Option.map_some, rcO, if_true, hm]
          rw [List.getD_eq_getElem?_getD, hz]
          simp only [Option.getD_some, hy])
        have hmb : m < 24 := by omega
        have hki : (k : Int) < (n : Int) := by omega
        have HB := hidIn hb
        have HR := hidIn hr
        clear hcell hz hb hr hm hy
        go_wp2_with fail
        refine (small_any ((m : Int) + 1) y _).mono ?_
        rintro e w2 ⟨rfl, hb2⟩
        have hr2 := row_below HR.out hb2 (Nat.le_refl _)
        have hB2 := HB.out.trans (hb2.mono HB.out.size)
        obtain ⟨g, gc, w6, hrun, hown, hb6⟩ := append_rec hr2 (smR ((m : Int) + 1) y, nilS) rfl (by omega) hB2.size
        have HRun := hidIn hrun
        have HO : Hid (Below w.heap.size w w6 ∧ w6.ownsRow w.heap.size 49 6 (.slice (some ⟨g, 0, none⟩) (k + 1) gc) (k + 1) (fl rcc (withN ((recsL ids true).take (k + 1))))) := hidIn ⟨hB2.trans hb6, by rw [HX.out, withN, List.map_append]; exact hown⟩
        clear hr2 hB2 hrun hown hb6 hb2 HB HR c0
        go_wp2_with (refine l_append rfl _ _ 42 rfl HRun.out ?_)
        go_roundw
        case rel => exact ⟨k + 1, by omega, by go_num, ⟨_, _, rfl⟩, HO⟩
        case measure => simp [intOf]; omega
      · have hke : k = n := by omega
        have hki : ¬ ((k : Int) < (n : Int)) := by omega
        have HE : Hid (wr.ownsRow w.heap.size 49 6 (.slice ua k uc) k (fl rcc (withN (recsL ids true))) ∧ k = n ∧ Below w.heap.size w wr) := hidIn ⟨by rw [List.take_of_length_le (by rw [Hlen.out]; omega)] at hr; exact hr, hke, hb⟩
        clear hb hr hke
        go_wp2_with fail
        go_ret
        obtain ⟨h1, h2, h3⟩ := HE.out
        rw [h2] at h1
        exact ⟨⟨ua, uc, by rw [h2]; rfl, h1⟩, h3⟩
end Go.Proofs.YtgpinecfmhenkaaDoor
