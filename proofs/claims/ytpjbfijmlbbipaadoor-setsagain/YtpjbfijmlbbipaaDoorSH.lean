/- dandelionlaw04.SetsAgain: the walk. -/
import Derived.Test.YtpjbfijmlbbipaaDoorSG
namespace Go.Proofs.YtpjbfijmlbbipaaDoor
open Go.RowKit

/-- The law's ids. -/
def idz (us : List Nat) : List Nat := (us.take 100).map fun u => u % 1024 + 1
theorem idz_len (us : List Nat) : (idz us).length = min us.length 100 := by simp [idz]; omega
theorem idz_ids (us : List Nat) : allIds ((idz us).map fun x : Nat => (x : Int)) := by
  intro z hz
  obtain ⟨x, hx, rfl⟩ := List.mem_map.1 hz
  unfold idz at hx
  obtain ⟨u, _, rfl⟩ := List.mem_map.1 hx
  have := Nat.mod_lt u (show 0 < 1024 by decide)
  omega
theorem idz_get {us : List Nat} {k : Nat} (h : k < min us.length 100) : (idz us)[k]? = some (us[k]?.getD 0 % 1024 + 1) := by
  unfold idz
  rw [List.getElem?_map, List.getElem?_take_of_lt (by omega), List.getElem?_eq_getElem (show k < us.length by omega)]
  rfl
theorem idz_next {us : List Nat} {k : Nat} (h : k < min us.length 100) : (idz us).take (k + 1) = (idz us).take k ++ [us[k]?.getD 0 % 1024 + 1] := by
  rw [List.take_add_one, idz_get h]; rfl
/-- Numbers of 16 bits as an argument. -/
structure U16s (w : World) (a : Option Addr) (cap : Nat) (us : List Nat) : Prop where
  cap : us.length ≤ cap
  len : us.length ≤ 9223372036854775807
  at_ : 0 < us.length → ∃ bk o, a = some ⟨bk, o, none⟩ ∧ bk < w.heap.size ∧ ∀ j, j < us.length → w.cell? ⟨bk, o + j, none⟩ = some (.int .u16 ((us[j]?.getD 0 : Nat) : Int))
  lt : ∀ u ∈ us, u < 65536

/-- The law's ids, as the program's numbers. -/
abbrev idsI (us : List Nat) : List Int := (idz us).map fun x : Nat => (x : Int)
theorem flag_in (us : List Nat) (x : Nat) : decide (x + 1 ∈ idz us) = inIds (idsI us) x := by
  unfold inIds
  rw [Bool.eq_iff_iff]
  simp only [decide_eq_true_eq]
  constructor
  · intro h; exact List.mem_map.2 ⟨x + 1, h, rfl⟩
  · intro h
    obtain ⟨y, hy, e⟩ := List.mem_map.1 h
    have : y = x + 1 := by omega
    rw [← this]; exact hy
/-- How many ids are below. -/
def cnt (zs : List Int) (x : Nat) : Nat := ((List.range x).filter (inIds zs)).length
theorem cnt_yes {zs : List Int} {x : Nat} (h : inIds zs x = true) : cnt zs (x + 1) = cnt zs x + 1 := by unfold cnt; rw [rise_len, if_pos h]
theorem cnt_no {zs : List Int} {x : Nat} (h : inIds zs x = false) : cnt zs (x + 1) = cnt zs x := by unfold cnt; rw [rise_len, if_neg (by simp [h])]; rfl
theorem cnt_all (zs : List Int) : cnt zs 1024 = (rising zs).length := rfl
/-- What Join gives back, of what Split gives. -/
theorem join_back {us : List Nat} {W : Nat} (hW : IsW W) {w : World} {v : Value} (ht : Tb w) (hp : PartsAt w v (prts (srt W (idsI us)) (setsOf (srt W (idsI us))))) :
    Calls Tryd.prog 19 #[v, .int .i64 W] w fun e w' => (∃ ba bcap, e = .returned (.tuple #[.slice ba (rising (idsI us)).length bcap, .int .i64 0]) ∧ (∀ j y, (rising (idsI us))[j]? = some y → ∃ g, ba = some ⟨g, 0, none⟩ ∧ w'.cell? ⟨g, j, none⟩ = some (.int .i64 ((y + 1 : Nat) : Int)))) ∧ Below w.heap.size w w' := by
  refine (join_of hW ht hp).mono ?_
  obtain ⟨T, hT⟩ := jrun_split hW (idz_ids us)
  have hI := (idsL_cut W (srt W (idsI us))).trans (ids_rise hW (idz_ids us))
  rintro e w' ⟨⟨st, u, h1, rfl, hr⟩ | ⟨c, h1, _⟩, hb⟩
  · rw [hT] at h1
    obtain rfl := Except.ok.inj h1
    simp only at hr
    rw [hI, List.length_map] at hr
    obtain ⟨ba, bcap, rfl⟩ := row_shape hr
    refine ⟨⟨ba, bcap, rfl, fun j y hy => ?_⟩, hb⟩
    rcases row_plain hr with ⟨h, h0⟩ | ⟨g, cap', h, _⟩
    · have := (List.getElem?_eq_some_iff.1 hy).1
      omega
    · cases h
      refine ⟨g, rfl, row_cell hr ?_⟩
      rw [List.getElem?_map, hy]
      rfl
  · rw [hT] at h1
    cases h1
theorem grownBy_setCell (W : World) (b o : Nat) (v : Value) : W.grownBy (W.setCell ⟨b, o, none⟩ v) (some b) :=
  ⟨rfl, rfl, rfl, by simp, fun k _ hk => Below.heap_setCell W ⟨b, o, none⟩ v k (fun e => hk (by rw [e]))⟩
theorem id_nums {U : Nat} (hU : U < 65536) : ∃ r x : Nat, x = U % 1024 + 1 ∧ 1 ≤ x ∧ x < 1025 ∧ wrap64 (U : Int) = (U : Int) ∧ (U : Int).tmod 1024 = (r : Int) ∧ wrap64 (1 + (r : Int)) = (x : Int) := by
  have h := Nat.mod_lt U (show 0 < 1024 by decide)
  refine ⟨U % 1024, U % 1024 + 1, rfl, by omega, by omega, by unfold wrap64; omega, ?_, by unfold wrap64; omega⟩
  rw [Int.tmod_eq_emod_of_nonneg (by omega)]
  simp
set_option maxRecDepth 100000 in
set_option maxHeartbeats 4000000 in
theorem again_walk (us : List Nat) (a : Option Addr) (cap kk : Nat) (w : World) (ht : Tb w) (hu : U16s w a cap us) :
    Calls Tryd.prog 7 #[.slice a us.length cap, .int .u8 kk] w fun e w' => e = .returned (.bool true) ∧ Below w.heap.size w w' := by
  have hmin : min (us.length : Int) 100 = ((min us.length 100 : Nat) : Int) := by omega
  have hadd : Option.map (fun x => x.add 0) a = a := by
    cases a with
    | none => rfl
    | some x => simp [Addr.add]
  have hmc : min us.length 100 ≤ cap := by have := hu.cap; omega
  have hmk := make_flags
  have hm100 : min us.length 100 ≤ 100 := by omega
  have Hm := hidIn (rfl : min us.length 100 = min us.length 100)
  generalize hmm : min us.length 100 = m at hmin hmc hm100
  have HM := hidIn hmm
  clear hmm Hm
  go_enter Tryd.func7, Tryd.ntmps7
  go_wp2_with (go_at_call 13; refine (works_any _ ht.wid).mono ?_; rintro e w1 ⟨rfl, hb1⟩)
  have hH0 := hasH_made w1 1025
  have b2 : Below w.heap.size w (w1.alloc (.cells (madeCells #[.bool false] 1025) 4)) := hb1.trans ((Below.refl _ w1).alloc (Nat.le_refl _) _ |>.mono hb1.size)
  have hs1 := hb1.size
  have hsz0 : w1.heap.size + 1 ≤ (w1.alloc (.cells (madeCells #[.bool false] 1025) 4)).heap.size := by simp
  clear hmk hadd
  generalize w1.alloc (.cells (madeCells #[.bool false] 1025) 4) = W0 at hH0 b2 hsz0 ⊢
  have hH1 : HasH W0 w1.heap.size 1025 (fun j => decide (j ∈ (idz us).take 0)) := by
    have h : noneT = fun j => decide (j ∈ (idz us).take 0) := by funext j; simp [noneT]
    rw [← h]; exact hH0
  clear hH0
  go_loopw [5, 7] (fun u i wr => ∃ k : Nat, k ≤ m ∧ i = .int .i64 k ∧ wr.ownsRow (w1.heap.size + 1) 3 1 u k (((idz us).take k).map fun x : Nat => Value.int .i64 (x : Int)) ∧ Apart u 0 w1.heap.size ∧ HasH wr w1.heap.size 1025 (fun j => decide (j ∈ (idz us).take k)) ∧ Below w.heap.size w wr ∧ w1.heap.size + 1 ≤ wr.heap.size) (fun _ i _ => m - (intOf i).toNat)
  case atStart => exact ⟨0, Nat.zero_le _, rfl, World.ownsRow_nil _ _ _ _, (fun g hg => by simp [Value.ownBlock] at hg), hH1, b2, hsz0⟩
  case round =>
    obtain ⟨k, hk, rfl, hr, hap, hH, hbel, hsz⟩ := hrel
    obtain ⟨ua, ucap, rfl⟩ := row_shape hr
    by_cases hlt : k < m
    · have hkm : k < min us.length 100 := by rw [HM.out]; exact hlt
      obtain ⟨bk, o, rfl, hbk, hcell⟩ := hu.at_ (by omega)
      have hcu := (hbel.cell (p := ⟨bk, o + k, none⟩) hbk).trans (hcell k (by omega))
      have hU : us[k]?.getD 0 < 65536 := by
        rw [List.getElem?_eq_getElem (show k < us.length by omega)]
        exact hu.lt _ (List.getElem_mem _)
      have HN := idz_next hkm
      generalize us[k]?.getD 0 = U at hcu hU HN
      obtain ⟨r, x, hx, hx1, hx2, e0, e1, e2⟩ := id_nums hU
      rw [← hx] at HN
      have Hx := hidIn hx
      have HN := hidIn HN
      clear hx
      obtain ⟨g, gcap, w6, hrun, hown, ha6, hs6, hk6, hb6⟩ := append_int hr (x := .int .i64 (x : Int)) rfl (by omega) hsz hap (show w1.heap.size < wr.heap.size by omega)
      have hH6 : HasH w6 w1.heap.size 1025 (fun j => decide (j ∈ (idz us).take k)) := hH.keep hb6 (by omega)
      have hc6 := hH6.c x hx2
      have hf6 := hH6.f x hx2
      have HR := hidIn hrun
      clear hrun hcell hkm
      have HB := hidIn (And.intro hx1 hx2)
      clear hU hx1 hx2
      go_upto_region 10 with fail
      rw [e2]
      clear e0 e1 e2 hcu
      go_upto_region 11 with (refine l_append rfl _ _ 30 rfl HR.out ?_)
      have hx2 := HB.out.2
      go_wp2
      go_roundw
      case rel =>
        refine ⟨k + 1, by omega, by go_num, ?_, ha6, ?_, Below.setCell (hbel.trans (hb6.mono (by omega))) (p := ⟨w1.heap.size, x, none⟩) hs1 _, by simp; omega⟩
        · have := hown.kept (grownBy_setCell w6 w1.heap.size x (.bool true)) (.inr (by have := ha6 g rfl; simp [Value.ownBlock]; omega))
          rw [HN.out, List.map_append]
          exact this
        · rw [HN.out, ← updT_mem]
          exact hH6.set x hx2
      case measure => simp [intOf]; omega
    · have hke : k = m := by omega
      have HTk : Hid ((idz us).take k = idz us) := hidIn (by rw [hke, List.take_of_length_le (by rw [idz_len, HM.out]; exact Nat.le_refl _)])
      have htr := ht.keep hbel ht.lt.1 ht.lt.2
      have hids : IdsAt wr (.slice ua k ucap) (idsI us) := idsAt_of_row (by have := hr; rw [HTk.out] at this; rw [List.map_map]; exact this) (by omega)
      have hW := lw_is kk
      have Hw := hidIn (width_any kk)
      generalize lw kk = W at hW Hw
      have hWb := isW_pos hW
      obtain ⟨n1, hn1⟩ : ∃ n, (setsOf (srt W (idsI us))).length = n := ⟨_, rfl⟩
      obtain ⟨n2, hn2⟩ : ∃ n, (setsOf (srt (2 * W) (idsI us))).length = n := ⟨_, rfl⟩
      have hhalf := sets_half hWb.1 (idz_ids us)
      rw [hn1, hn2] at hhalf
      have hn128 := setsOf_len (srt W (idsI us))
      rw [hn1] at hn128
      have HS1 : Hid (∀ w', IdsAt w' (.slice ua k ucap) (idsI us) → Wid w' → Calls Tryd.prog 16 #[.slice ua k ucap, .int .i64 W] w' fun e w'' => e = .returned (.tuple #[.int .i64 (n1 : Nat), .int .i64 0]) ∧ Below w'.heap.size w' w'') := hidIn (fun w' h1 h2 => by
        have := sets_yes hW (idz_ids us) h1 h2
        rw [hn1] at this
        exact this)
      have HS2 : Hid (W < 256 → ∀ w', IdsAt w' (.slice ua k ucap) (idsI us) → Wid w' → Calls Tryd.prog 16 #[.slice ua k ucap, .int .i64 (2 * (W : Int))] w' fun e w'' => e = .returned (.tuple #[.int .i64 (n2 : Nat), .int .i64 0]) ∧ Below w'.heap.size w' w'') := hidIn (fun hlt w' h1 h2 => by
        have := sets_yes (W := 2 * W) (by unfold IsW at hW ⊢; omega) (idz_ids us) h1 h2
        rw [hn2, Int.natCast_mul] at this
        exact this)
      have Hn1 := hidIn hn1
      have hle : ¬ ((k : Int) < (m : Int)) := by omega
      clear hn1 hn2 hke
      by_cases h256 : W < 256
      · have w2 : wrap64 (2 * (W : Int)) = ((2 * W : Nat) : Int) := by unfold wrap64; omega
        have w3 : wrap64 (2 * (n2 : Int)) = 2 * (n2 : Int) := by unfold wrap64; omega
        have g1 : ¬ (n1 : Int) < (n2 : Int) := by omega
        have g2 : ¬ 2 * (n2 : Int) < (n1 : Int) := by omega
        have g3 : (W : Int) < 256 := by omega
        go_upto_region 17 with (first
          | (go_at_call 21; refine (Hw.out _).mono ?_; rintro e w3 ⟨rfl, hw3⟩; rw [hw3]; clear hw3 w3)
          | (go_at_call 16; refine (HS1.out _ hids htr.wid).mono ?_; rintro e wA ⟨rfl, hbA⟩))
        have hidsA := hids.keep hbA
        have htA := htr.on hbA
        have HS3 := hidIn (HS2.out h256)
        go_upto_region 20 with (go_at_call 16; refine (HS3.out _ hidsA htA.wid).mono ?_; rintro e wB ⟨rfl, hbB0⟩)
        have hbB : Below wr.heap.size wr wB := hbA.trans (hbB0.mono hbA.size)
        have htB := htA.on hbB0
        clear w2 w3 g1 g2 g3
        have hidsB := hids.keep hbB
        by_cases h4 : n1 ≤ 4
        · have HSp : Hid (Calls Tryd.prog 14 #[.slice ua k ucap, .int .i64 W] wB fun e w' => (∃ pa pcap, e = .returned (.tuple #[.slice pa n1 pcap, .int .i64 0]) ∧ PartsAt w' (.slice pa n1 pcap) (prts (srt W (idsI us)) (setsOf (srt W (idsI us))))) ∧ Below wB.heap.size wB w') := hidIn (by
            refine (split_right hW (idz_ids us) hidsB htB.wid).mono ?_
            rintro e w' ⟨⟨_, pv, rfl, hr⟩ | ⟨h, _⟩, hb⟩
            · rw [Hn1.out] at hr
              obtain ⟨pa, pcap, rfl⟩ := row_shape hr
              exact ⟨⟨pa, pcap, rfl, partsAt_of_row (srt_lt hW _) hr Hn1.out (by omega)⟩, hb⟩
            · rw [Hn1.out] at h; omega)
          have h4' : ¬ (4 : Int) < (n1 : Int) := by omega
          go_upto_region 26 with (first
            | (go_at_call 14; refine Calls.mono HSp.out ?_; rintro e wC ⟨⟨pa, pcap, rfl, hpC⟩, hbC⟩; have htC := htB.on hbC)
            | (go_at_call 19; refine (join_back hW htC hpC).mono ?_; rintro e wD ⟨⟨ba, bcap, rfl, hback⟩, hbD⟩))
          have hbT : Below wr.heap.size wr wD := (hbB.trans (hbC.mono hbB.size)).trans (hbD.mono (Nat.le_trans hbB.size hbC.size))
          have hHD := hH.keep hbT hH.lt
          have hlenb := rising_len (idsI us)
          go_wp2
          go_loopw [18, 19] (fun at_ id wz => wz = wD ∧ ∃ x : Nat, x ≤ 1024 ∧ id = .int .i64 ((x : Int) + 1) ∧ at_ = .int .i64 (cnt (idsI us) x : Nat)) (fun _ id _ => 1025 - (intOf id).toNat)
          case atStart => exact ⟨rfl, 0, by omega, rfl, rfl⟩
          case round =>
            obtain ⟨rfl, x, hx, rfl, rfl⟩ := hrel
            by_cases hx2 : x < 1024
            · have hflag := hHD.c (x + 1) (by omega)
              have hfe : decide (x + 1 ∈ (idz us).take k) = inIds (idsI us) x := by rw [HTk.out]; exact flag_in us x
              rw [hfe] at hflag
              have hx3 : (x : Int) + 1 ≤ 1024 := by omega
              have hx4 : (x : Int) + 1 < 1025 := by omega
              have hx5 : ((x : Int) + 1).toNat = x + 1 := by omega
              cases hP : inIds (idsI us) x with
              | false =>
                rw [hP] at hflag
                have HC := hidIn (cnt_no hP)
                clear hP hfe
                go_wp2
                go_roundw
                case rel => exact ⟨trivial, x + 1, by omega, by go_num, by rw [HC.out]⟩
                case measure => simp [intOf]; omega
              | true =>
                rw [hP] at hflag
                have hat := rise_at (P := inIds (idsI us)) hx2 hP
                obtain ⟨g, rfl, hcb⟩ := hback _ _ hat
                have hcl : cnt (idsI us) x < (rising (idsI us)).length := rise_lt (P := inIds (idsI us)) hx2 hP
                have HC := hidIn (cnt_yes hP)
                have hcb' := hcb
                rw [show ((x + 1 : Nat) : Int) = (x : Int) + 1 from rfl] at hcb'
                change World.cell? _ ⟨g, cnt (idsI us) x, none⟩ = _ at hcb'
                have hcl' : ¬ (((rising (idsI us)).length : Int) ≤ (cnt (idsI us) x : Int)) := by omega
                clear hP hfe hcb hat
                go_wp2
                go_roundw
                case rel => exact ⟨trivial, x + 1, by omega, by go_num, by rw [HC.out]; go_num⟩
                case measure => simp [intOf]; omega
            · have hxe : x = 1024 := by omega
              subst hxe
              rw [cnt_all]
              go_wp2
              go_ret
              exact ⟨by simp, hbel.trans (hbT.mono (by omega))⟩
        · have HSp : Hid (Calls Tryd.prog 14 #[.slice ua k ucap, .int .i64 W] wB fun e w' => e = .returned (.tuple #[.slice none 0 0, .int .i64 10]) ∧ Below wB.heap.size wB w') := hidIn (by
            refine (split_right hW (idz_ids us) hidsB htB.wid).mono ?_
            rintro e w' ⟨⟨h, _⟩ | ⟨_, rfl⟩, hb⟩
            · rw [Hn1.out] at h; omega
            · exact ⟨rfl, hb⟩)
          have h4' : (4 : Int) < (n1 : Int) := by omega
          go_wp2_with (go_at_call 14; refine Calls.mono HSp.out ?_; rintro e wC ⟨rfl, hbC⟩)
          go_ret
          exact ⟨rfl, hbel.trans ((hbB.trans (hbC.mono hbB.size)).mono (by omega))⟩
      · have g3 : ¬ (W : Int) < 256 := by omega
        go_upto_region 20 with (first
          | (go_at_call 21; refine (Hw.out _).mono ?_; rintro e w3 ⟨rfl, hw3⟩; rw [hw3]; clear hw3 w3)
          | (go_at_call 16; refine (HS1.out _ hids htr.wid).mono ?_; rintro e wB ⟨rfl, hbB⟩))
        have htB := htr.on hbB
        clear g3
        have hidsB := hids.keep hbB
        by_cases h4 : n1 ≤ 4
        · have HSp : Hid (Calls Tryd.prog 14 #[.slice ua k ucap, .int .i64 W] wB fun e w' => (∃ pa pcap, e = .returned (.tuple #[.slice pa n1 pcap, .int .i64 0]) ∧ PartsAt w' (.slice pa n1 pcap) (prts (srt W (idsI us)) (setsOf (srt W (idsI us))))) ∧ Below wB.heap.size wB w') := hidIn (by
            refine (split_right hW (idz_ids us) hidsB htB.wid).mono ?_
            rintro e w' ⟨⟨_, pv, rfl, hr⟩ | ⟨h, _⟩, hb⟩
            · rw [Hn1.out] at hr
              obtain ⟨pa, pcap, rfl⟩ := row_shape hr
              exact ⟨⟨pa, pcap, rfl, partsAt_of_row (srt_lt hW _) hr Hn1.out (by omega)⟩, hb⟩
            · rw [Hn1.out] at h; omega)
          have h4' : ¬ (4 : Int) < (n1 : Int) := by omega
          go_upto_region 26 with (first
            | (go_at_call 14; refine Calls.mono HSp.out ?_; rintro e wC ⟨⟨pa, pcap, rfl, hpC⟩, hbC⟩; have htC := htB.on hbC)
            | (go_at_call 19; refine (join_back hW htC hpC).mono ?_; rintro e wD ⟨⟨ba, bcap, rfl, hback⟩, hbD⟩))
          have hbT : Below wr.heap.size wr wD := (hbB.trans (hbC.mono hbB.size)).trans (hbD.mono (Nat.le_trans hbB.size hbC.size))
          have hHD := hH.keep hbT hH.lt
          have hlenb := rising_len (idsI us)
          go_wp2
          go_loopw [18, 19] (fun at_ id wz => wz = wD ∧ ∃ x : Nat, x ≤ 1024 ∧ id = .int .i64 ((x : Int) + 1) ∧ at_ = .int .i64 (cnt (idsI us) x : Nat)) (fun _ id _ => 1025 - (intOf id).toNat)
          case atStart => exact ⟨rfl, 0, by omega, rfl, rfl⟩
          case round =>
            obtain ⟨rfl, x, hx, rfl, rfl⟩ := hrel
            by_cases hx2 : x < 1024
            · have hflag := hHD.c (x + 1) (by omega)
              have hfe : decide (x + 1 ∈ (idz us).take k) = inIds (idsI us) x := by rw [HTk.out]; exact flag_in us x
              rw [hfe] at hflag
              have hx3 : (x : Int) + 1 ≤ 1024 := by omega
              have hx4 : (x : Int) + 1 < 1025 := by omega
              have hx5 : ((x : Int) + 1).toNat = x + 1 := by omega
              cases hP : inIds (idsI us) x with
              | false =>
                rw [hP] at hflag
                have HC := hidIn (cnt_no hP)
                clear hP hfe
                go_wp2
                go_roundw
                case rel => exact ⟨trivial, x + 1, by omega, by go_num, by rw [HC.out]⟩
                case measure => simp [intOf]; omega
              | true =>
                rw [hP] at hflag
                have hat := rise_at (P := inIds (idsI us)) hx2 hP
                obtain ⟨g, rfl, hcb⟩ := hback _ _ hat
                have hcl : cnt (idsI us) x < (rising (idsI us)).length := rise_lt (P := inIds (idsI us)) hx2 hP
                have HC := hidIn (cnt_yes hP)
                have hcb' := hcb
                rw [show ((x + 1 : Nat) : Int) = (x : Int) + 1 from rfl] at hcb'
                change World.cell? _ ⟨g, cnt (idsI us) x, none⟩ = _ at hcb'
                have hcl' : ¬ (((rising (idsI us)).length : Int) ≤ (cnt (idsI us) x : Int)) := by omega
                clear hP hfe hcb hat
                go_wp2
                go_roundw
                case rel => exact ⟨trivial, x + 1, by omega, by go_num, by rw [HC.out]; go_num⟩
                case measure => simp [intOf]; omega
            · have hxe : x = 1024 := by omega
              subst hxe
              rw [cnt_all]
              go_wp2
              go_ret
              exact ⟨by simp, hbel.trans (hbT.mono (by omega))⟩
        · have HSp : Hid (Calls Tryd.prog 14 #[.slice ua k ucap, .int .i64 W] wB fun e w' => e = .returned (.tuple #[.slice none 0 0, .int .i64 10]) ∧ Below wB.heap.size wB w') := hidIn (by
            refine (split_right hW (idz_ids us) hidsB htB.wid).mono ?_
            rintro e w' ⟨⟨h, _⟩ | ⟨_, rfl⟩, hb⟩
            · rw [Hn1.out] at h; omega
            · exact ⟨rfl, hb⟩)
          have h4' : (4 : Int) < (n1 : Int) := by omega
          go_wp2_with (go_at_call 14; refine Calls.mono HSp.out ?_; rintro e wC ⟨rfl, hbC⟩)
          go_ret
          exact ⟨rfl, hbel.trans ((hbB.trans (hbC.mono hbB.size)).mono (by omega))⟩
end Go.Proofs.YtpjbfijmlbbipaaDoor
