/- The document's Both, ad lists. The document's Unlike, cost. The document's Both. The document's Near. The document's Part. The document's Live. StorePlays. -/
import Derived.Test.YtpdpdhnllmlfdaaGQ
import Derived.Test.YtpdpdhnllmlfdaaZ3
import Derived.Test.YtpdpdhnllmlfdaaGH
import Derived.Test.YtpdpdhnllmlfdaaZ2
import Derived.Test.YtpdpdhnllmlfdaaGE
namespace Go.Proofs.Ytpdpdhnllmlfdaa

/-- What a record of an origin tells of a neighbour. -/
def costF : List Rc → Int → Int → Int
  | [], _, _ => 0
  | r :: rs, a, b => if r.origin = a then (match r.adjs.find? fun x => decide (x.1 = b) with | some x => x.2 | none => costF rs a b) else costF rs a b
theorem costF_cons_ne {r : Rc} {rs : List Rc} {a b : Int} (h : r.origin ≠ a) : costF (r :: rs) a b = costF rs a b := by simp [costF, h]

def pickN (rs : List Rc) (n : Int) : List Int := (rs.filter fun r => decide (r.origin = n)).map fun _ => n
theorem pickN_yes {rs : List Rc} {r : Rc} {n : Int} (h : r.origin = n) : pickN (rs ++ [r]) n = pickN rs n ++ [n] := by simp [pickN, List.filter_append, h]
theorem pickN_no {rs : List Rc} {r : Rc} {n : Int} (h : r.origin ≠ n) : pickN (rs ++ [r]) n = pickN rs n := by simp [pickN, List.filter_append, h]
theorem pickN_len (rs : List Rc) (n : Int) : (pickN rs n).length ≤ rs.length := by unfold pickN; rw [List.length_map]; exact List.length_filter_le _ _
theorem pickN_none {rs : List Rc} {n : Int} (h : ∀ r ∈ rs, r.origin ≠ n) : pickN rs n = [] := by
  unfold pickN
  rw [List.map_eq_nil_iff, List.filter_eq_nil_iff]
  intro r hr
  simpa using h r hr
theorem Unl.tail {r : Rc} {rs : List Rc} (h : Unl (r :: rs)) : Unl rs := ⟨fun x hx => h.1 x (by simp [hx]), (List.pairwise_cons.1 h.2).2⟩
theorem Unl.ne {r x : Rc} {rs : List Rc} (h : Unl (r :: rs)) (hx : x ∈ rs) : r.origin ≠ x.origin := fun e => (List.pairwise_cons.1 h.2).1 x hx (by rw [e])
theorem pickN_one : ∀ {rs : List Rc} {r : Rc}, Unl rs → r ∈ rs → pickN rs r.origin = [r.origin]
  | [], r, _, h => by simp at h
  | q :: rs, r, hu, h => by
    rcases List.mem_cons.1 h with rfl | h
    · have := pickN_none (rs := rs) (n := r.origin) fun x hx e => hu.ne hx e.symm
      unfold pickN at this ⊢
      rw [List.filter_cons]
      simp only [decide_true, if_true, List.map_cons, this]
    · have h1 := pickN_one hu.tail h
      have h2 := hu.ne h
      unfold pickN at h1 ⊢
      rw [List.filter_cons]
      simp only [decide_eq_true_eq, h2, if_false]
      exact h1
theorem pickN_there {rs : List Rc} (hu : Unl rs) (n : Nat) : pickN rs (n : Int) = if thereL no1 rs n = true then [(n : Int)] else [] := by
  by_cases h : thereL no1 rs n = true
  · rw [if_pos h]
    rcases (thereL_iff rs no1 n).1 h with h | ⟨r, hr, e⟩
    · simp [no1] at h
    · have h1 := (recOk_parts (hu.1 r hr)).1
      have h2 : r.origin = (n : Int) := by omega
      rw [← h2]
      exact pickN_one hu hr
  · rw [if_neg h]
    refine pickN_none fun r hr e => h ((thereL_iff rs no1 n).2 (.inr ⟨r, hr, by omega⟩))
def outN (rs : List Rc) (n : Nat) : List Int := (List.range n).flatMap fun (m : Nat) => pickN rs (m : Int)
theorem outN_succ (rs : List Rc) (n : Nat) : outN rs (n + 1) = outN rs n ++ pickN rs (n : Int) := by simp [outN, List.range_succ, List.flatMap_append]
theorem outN_len (rs : List Rc) : ∀ n, (outN rs n).length ≤ n * rs.length
  | 0 => by simp [outN]
  | n + 1 => by
    rw [outN_succ, List.length_append, Nat.succ_mul]
    have h1 := outN_len rs n
    have h2 := pickN_len rs n
    omega
theorem outN_one {rs : List Rc} (hu : Unl rs) : outN rs 1 = [] := by
  rw [outN_succ]
  show [] ++ pickN rs _ = []
  rw [List.nil_append]
  exact pickN_none fun r hr e => by have := (recOk_parts (hu.1 r hr)).1; omega
theorem flat_if (f : Nat → Bool) : ∀ l : List Nat, (l.flatMap fun m => if f m = true then [(m : Int)] else []) = (l.filter f).map fun (i : Nat) => (i : Int)
  | [] => rfl
  | x :: l => by
    rw [List.flatMap_cons, flat_if f l, List.filter_cons]
    by_cases h : f x = true <;> simp [h]
theorem outN_both {rs : List Rc} (hu : Unl rs) : outN rs 25 = bothN rs := by
  unfold outN bothN markedL
  rw [← flat_if]
  congr 1
  funext m
  exact pickN_there hu m
theorem unl_len {rs : List Rc} (hu : Unl rs) : rs.length ≤ 25 := by
  rw [← bothN_len hu]
  unfold bothN markedL
  rw [List.length_map]
  exact Nat.le_trans (List.length_filter_le _ _) (by simp)
def rowI (c : Int → Int → Int) (a : Int) (l : List Int) : List Ed := (l.filter fun b => decide (0 < c a b) && decide (0 < c b a)).map fun b => (a, b, c a b)
def outI (c : Int → Int → Int) (ns l : List Int) : List Ed := l.flatMap fun a => rowI c a ns
theorem rowI_yes {c : Int → Int → Int} {a b : Int} {l : List Int} (h1 : 0 < c a b) (h2 : 0 < c b a) : rowI c a (l ++ [b]) = rowI c a l ++ [(a, b, c a b)] := by simp [rowI, List.filter_append, h1, h2]
theorem rowI_no {c : Int → Int → Int} {a b : Int} {l : List Int} (h : ¬ (0 < c a b ∧ 0 < c b a)) : rowI c a (l ++ [b]) = rowI c a l := by
  have : (decide (0 < c a b) && decide (0 < c b a)) = false := by simpa using h
  simp only [rowI, List.filter_append, List.filter_cons, this, List.filter_nil]
  simp
theorem rowI_len (c : Int → Int → Int) (a : Int) (l : List Int) : (rowI c a l).length ≤ l.length := by unfold rowI; rw [List.length_map]; exact List.length_filter_le _ _
theorem outI_snoc (c : Int → Int → Int) (ns l : List Int) (a : Int) : outI c ns (l ++ [a]) = outI c ns l ++ rowI c a ns := by simp [outI, List.flatMap_append]
theorem outI_len (c : Int → Int → Int) (ns : List Int) : ∀ l : List Int, (outI c ns l).length ≤ l.length * ns.length
  | [] => by simp [outI]
  | a :: l => by
    have h1 := outI_len c ns l
    have h2 := rowI_len c a ns
    unfold outI at h1 ⊢
    rw [List.flatMap_cons, List.length_append, List.length_cons, Nat.succ_mul]
    omega
theorem find_adj : ∀ {ad : List (Int × Int)} {o last : Int} {x : Int × Int}, adjsOk o last ad = true → x ∈ ad → (ad.find? fun y => decide (y.1 = x.1)) = some x
  | [], _, _, _, _, h => by simp at h
  | a :: ad, o, last, x, hk, h => by
    have hk' := hk
    simp only [adjsOk, Bool.and_eq_true] at hk
    rcases List.mem_cons.1 h with rfl | h
    · simp
    · have h1 := adjsOk_all o ad a.1 hk.2 x h
      have h2 : ¬ a.1 = x.1 := by omega
      rw [List.find?_cons]
      simp only [h2, decide_false]
      exact find_adj hk.2 h
theorem costF_at : ∀ {rs : List Rc}, Unl rs → ∀ r ∈ rs, ∀ x ∈ r.adjs, costF rs r.origin x.1 = x.2
  | [], _, r, hr, _, _ => by simp at hr
  | q :: rs, hu, r, hr, x, hx => by
    rcases List.mem_cons.1 hr with rfl | hr
    · unfold costF
      rw [if_pos rfl, find_adj (recOk_parts (hu.1 r (by simp))).2.2 hx]
    · rw [costF_cons_ne (hu.ne hr)]
      exact costF_at hu.tail r hr x hx
theorem costF_from : ∀ {rs : List Rc} {a b : Int}, costF rs a b ≠ 0 → ∃ r ∈ rs, ∃ x ∈ r.adjs, r.origin = a ∧ x.1 = b
  | [], _, _, h => absurd rfl h
  | q :: rs, a, b, h => by
    unfold costF at h
    by_cases h1 : q.origin = a
    · rw [if_pos h1] at h
      cases h2 : q.adjs.find? fun x => decide (x.1 = b) with
      | some x => exact ⟨q, by simp, x, List.mem_of_find?_eq_some h2, h1, by have := List.find?_some h2; simpa using this⟩
      | none =>
        rw [h2] at h
        obtain ⟨r, hr, x, hx, e⟩ := costF_from h
        exact ⟨r, by simp [hr], x, hx, e⟩
    · rw [if_neg h1] at h
      obtain ⟨r, hr, x, hx, e⟩ := costF_from h
      exact ⟨r, by simp [hr], x, hx, e⟩
theorem isCost_F {rs : List Rc} (hu : Unl rs) : IsCost rs fun i j => costF rs (i : Int) (j : Int) := by
  refine ⟨fun r hr x hx => ?_, fun i j h => ?_⟩
  · have h1 := (recOk_parts (hu.1 r hr)).1
    have h2 := recOk_adj (hu.1 r hr) hx
    show costF rs (r.origin.toNat : Int) (x.1.toNat : Int) = x.2
    rw [Int.toNat_of_nonneg (by omega), Int.toNat_of_nonneg (by omega)]
    exact costF_at hu r hr x hx
  · obtain ⟨r, hr, x, hx, e1, e2⟩ := costF_from h
    exact ⟨r, hr, x, hx, by omega, by omega⟩
theorem flat_filter {α : Type} (f : Nat → Bool) (g : Nat → List α) (h : ∀ a, f a = false → g a = []) : ∀ l : List Nat, (l.filter f).flatMap g = l.flatMap g
  | [] => rfl
  | x :: l => by
    rw [List.filter_cons, List.flatMap_cons]
    by_cases hx : f x = true
    · rw [if_pos hx, List.flatMap_cons, flat_filter f g h l]
    · rw [if_neg hx, flat_filter f g h l, h x (by simpa using hx)]; rfl
theorem rowI_cast (c : Int → Int → Int) (a : Nat) : ∀ l : List Nat, rowI c (a : Int) (l.map fun (i : Nat) => (i : Int)) = rowE (fun i j => c (i : Int) (j : Int)) a l
  | [] => rfl
  | x :: l => by
    have h := rowI_cast c a l
    unfold rowI rowE at h ⊢
    rw [List.map_cons, List.filter_cons, List.filter_cons]
    by_cases hx : (decide (0 < c (a : Int) (x : Int)) && decide (0 < c (x : Int) (a : Int))) = true
    · rw [if_pos hx, if_pos hx, List.map_cons, List.map_cons, h]
    · rw [if_neg hx, if_neg hx, h]
theorem rowE_filter {c : Nat → Nat → Int} {f : Nat → Bool} {a : Nat} (h : ∀ b, 0 < c b a → f b = true) (l : List Nat) : rowE c a (l.filter f) = rowE c a l := by
  unfold rowE
  rw [List.filter_filter]
  congr 1
  refine List.filter_congr fun b _ => ?_
  by_cases h2 : 0 < c b a
  · simp [h b h2]
  · simp [h2]
theorem rowE_none {c : Nat → Nat → Int} {a : Nat} (h : ∀ b, ¬ 0 < c a b) (l : List Nat) : rowE c a l = [] := by
  unfold rowE
  rw [List.map_eq_nil_iff, List.filter_eq_nil_iff]
  intro b _
  simp [h b]
theorem outI_both {rs : List Rc} (hu : Unl rs) : outI (costF rs) (bothN rs) (bothN rs) = bothE rs := by
  have hc := isCost_F hu
  have hp := isCost_pos hc hu
  have h1 : bothE rs = laidE fun i j => costF rs (i : Int) (j : Int) := laidE_congr ((isCost_of hu).same hc fun _ => Iff.rfl)
  rw [h1]
  unfold outI laidE
  have h2 : ∀ a : Nat, rowI (costF rs) (a : Int) (bothN rs) = rowE (fun i j => costF rs (i : Int) (j : Int)) a (List.range 25) := fun a => by
    unfold bothN markedL
    rw [rowI_cast, rowE_filter]
    intro b hb
    rcases hp b a with h | h
    · rw [h] at hb; omega
    · exact h.2.2.2.2.2.2.2
  have h3 : (bothN rs).flatMap (fun a => rowI (costF rs) a (bothN rs)) = ((List.range 25).filter (thereL no1 rs)).flatMap fun (a : Nat) => rowI (costF rs) (a : Int) (bothN rs) := by
    show (((List.range 25).filter (thereL no1 rs)).map fun (i : Nat) => (i : Int)).flatMap (fun a => rowI (costF rs) a (bothN rs)) = _
    rw [List.flatMap_map]
  rw [h3]
  have h4 : (fun a : Nat => rowI (costF rs) (a : Int) (bothN rs)) = fun a => rowE (fun i j => costF rs (i : Int) (j : Int)) a (List.range 25) := funext h2
  rw [h4]
  refine flat_filter _ _ (fun a ha => rowE_none (fun b hb => ?_) _) _
  rcases hp a b with h | h
  · rw [h] at hb; omega
  · rw [h.2.2.2.2.2.2.2] at ha; cases ha
end Go.Proofs.Ytpdpdhnllmlfdaa
namespace Go.Proofs.Ytpdpdhnllmlfdaa
open Go.RowKit

theorem unl_snoc {rs : List Rc} {r : Rc} (h : Unl rs) (hr : recOk r = true) (hd : ∀ x ∈ rs, x.origin ≠ r.origin) : Unl (rs ++ [r]) := by
  refine ⟨fun x hx => ?_, ?_⟩
  · rcases List.mem_append.1 hx with hx | hx
    · exact h.1 x hx
    · simp at hx; rw [hx]; exact hr
  · rw [List.pairwise_append]
    refine ⟨h.2, by simp, fun x hx y hy e => ?_⟩
    simp at hy
    subst hy
    have h1 := (recOk_parts (h.1 x hx)).1
    have h2 := (recOk_parts hr).1
    exact hd x hx (by omega)
theorem unl_not1 {rs : List Rc} {r : Rc} (hm : r ∈ rs) (hr : recOk r = false) : bothOk no1 rs = false := by
  cases hb : bothOk no1 rs with
  | false => rfl
  | true => have := (both_unl.1 hb).1 r hm; rw [hr] at this; cases this
theorem pair_ne {rs : List Rc} {i j : Nat} {a b : Rc} (hu : Unl rs) (h1 : rs[i]? = some a) (h2 : rs[j]? = some b) (h3 : i < j) : a.origin.toNat ≠ b.origin.toNat := by
  obtain ⟨hi, e1⟩ := List.getElem?_eq_some_iff.1 h1
  obtain ⟨hj, e2⟩ := List.getElem?_eq_some_iff.1 h2
  have h := List.pairwise_iff_getElem.1 hu.2 i j hi hj h3
  rw [e1, e2] at h
  exact h
theorem unl_not2 {rs : List Rc} {i j : Nat} {a b : Rc} (h1 : rs[i]? = some a) (h2 : rs[j]? = some b) (h3 : i < j) (he : a.origin = b.origin) : bothOk no1 rs = false := by
  cases hb : bothOk no1 rs with
  | false => rfl
  | true => exact absurd (by rw [he]) (pair_ne (both_unl.1 hb) h1 h2 h3)

set_option maxRecDepth 100000 in
set_option maxHeartbeats 2000000 in
theorem unlike_any {l : List (Rc × Value)} {v : Value} {w : World} (hR : RecsAt w v l) (hg : ∀ y ∈ l, RecG w y) :
    Calls Try.prog 38 #[v] w fun e w' => e = .returned (.bool (bothOk no1 (rcs l))) ∧ Below w.heap.size w w' := by
  obtain ⟨a, cap, rfl, hl, hcap, hat⟩ := hR.r.recs
  have Ha := hidIn hat
  have HG := hidIn hg
  clear hat hR hg
  go_enter Try.func38, Try.ntmps38
  go_wp2
  go_loopw [3] (fun i wr => ∃ k : Nat, k ≤ l.length ∧ i = .int .i64 k ∧ Hid (Unl (rcs (l.take k)) ∧ Below w.heap.size w wr)) (fun i _ => l.length - (intOf i).toNat)
  case atStart => exact ⟨0, Nat.zero_le _, rfl, hidIn ⟨⟨by simp, by simp⟩, Below.refl _ _⟩⟩
  case round =>
    obtain ⟨k, hk, rfl, HR⟩ := hrel
    obtain ⟨hU, hbel⟩ := HR.out
    have HU := hidIn hU
    have HB := hidIn hbel
    clear HR hU hbel
    by_cases hlt : k < l.length
    · obtain ⟨bk, o, rfl, hbk, hcell⟩ := Ha.out (by omega)
      obtain ⟨⟨⟨orig, epo, sq, cl, ig, as'⟩, va⟩, hz⟩ : ∃ z, l[k]? = some z := ⟨l[k], List.getElem?_eq_getElem hlt⟩
      obtain ⟨hva, _, hep, hse⟩ := HG.out _ (List.mem_of_getElem? hz)
      simp only at hva hep hse
      obtain ⟨aa, acap, rfl, hal, _, _⟩ := hva.ads
      obtain ⟨q0, q1, q2, q3, q4, q5⟩ := hcell k _ hz
      have c0 := (HB.out.cell (p := ⟨bk, o + k * 6, none⟩) hbk).trans q0
      have c1 := (HB.out.cell (p := ⟨bk, o + k * 6 + 1, none⟩) hbk).trans q1
      have c2 := (HB.out.cell (p := ⟨bk, o + k * 6 + 2, none⟩) hbk).trans q2
      have c3 := (HB.out.cell (p := ⟨bk, o + k * 6 + 3, none⟩) hbk).trans q3
      have c4 := (HB.out.cell (p := ⟨bk, o + k * 6 + 4, none⟩) hbk).trans q4
      have c5 := (HB.out.cell (p := ⟨bk, o + k * 6 + 5, none⟩) hbk).trans q5
      simp only at c0 c1 c2 c3 c4 c5
      have HM := hidIn (mayrec_any (r := ⟨orig, epo, sq, cl, ig, as'⟩) (hva.keep HB.out (Nat.le_refl _)) hep hse)
      have Hz : Hid ((rcs l)[k]? = some ⟨orig, epo, sq, cl, ig, as'⟩) := hidIn (by rw [rcs, List.getElem?_map, hz]; rfl)
      have HT : Hid (rcs (l.take (k + 1)) = rcs (l.take k) ++ [⟨orig, epo, sq, cl, ig, as'⟩]) := hidIn (by rw [take_snoc hz]; simp [rcs])
      have HC : Hid (∀ j x, l[j]? = some x → w.cell? ⟨bk, o + j * 6, none⟩ = some (.int .i64 x.1.origin)) := hidIn fun j x hx => (hcell j x hx).1
      have hki : (k : Int) < (l.length : Int) := by omega
      clear hcell q0 q1 q2 q3 q4 q5 hz hva hep hse
      go_wp2_with fail
      refine HM.out.mono ?_
      rintro e w2 ⟨rfl, hb2⟩
      have HB2 := hidIn (HB.out.trans (hb2.mono HB.out.size))
      have d0 := (hb2.cell (p := ⟨bk, o + k * 6, none⟩) (Nat.lt_of_lt_of_le hbk HB.out.size)).trans c0
      clear hb2 HM c0 c1 c2 c3 c4 c5
      obtain ⟨b1, hb1⟩ : ∃ b1, recOk ⟨orig, epo, sq, cl, ig, as'⟩ = b1 := ⟨_, rfl⟩
      have Hb1 := hidIn hb1
      rw [hb1]
      clear hb1
      cases b1
      · go_wp2_with fail
        go_returns
        exact ⟨by rw [unl_not1 (List.mem_of_getElem? Hz.out) Hb1.out]; rfl, HB2.out⟩
      · have HO : Hid (w.cell? ⟨bk, o + k * 6, none⟩ = some (.int .i64 orig)) := hidIn ((HB2.out.cell (p := ⟨bk, o + k * 6, none⟩) hbk).symm.trans d0)
        clear d0
        go_wp2_with fail
        go_loopw [4] (fun i wr => ∃ j : Nat, j ≤ k ∧ i = .int .i64 j ∧ Hid ((∀ x ∈ rcs (l.take j), x.origin ≠ orig) ∧ Below w.heap.size w wr)) (fun i _ => k - (intOf i).toNat)
        case atStart => exact ⟨0, Nat.zero_le _, rfl, hidIn ⟨by simp, HB2.out⟩⟩
        case round =>
          obtain ⟨j, hj, rfl, HR⟩ := hrel
          obtain ⟨hd, hbel⟩ := HR.out
          have HD := hidIn hd
          have HB3 := hidIn hbel
          clear HR hd hbel
          by_cases hlt2 : j < k
          · obtain ⟨⟨rj, vj⟩, hzj⟩ : ∃ z, l[j]? = some z := ⟨l[j]'(by omega), List.getElem?_eq_getElem _⟩
            have e0 := (HB3.out.cell (p := ⟨bk, o + j * 6, none⟩) hbk).trans (HC.out j _ hzj)
            have e1 := (HB3.out.cell (p := ⟨bk, o + k * 6, none⟩) hbk).trans HO.out
            simp only at e0
            have hji : (j : Int) < (k : Int) := by omega
            have hji2 : (j : Int) < (l.length : Int) := by omega
            have Hzj : Hid ((rcs l)[j]? = some rj) := hidIn (by rw [rcs, List.getElem?_map, hzj]; rfl)
            have HTj : Hid (rcs (l.take (j + 1)) = rcs (l.take j) ++ [rj]) := hidIn (by rw [take_snoc hzj]; simp [rcs])
            clear hzj
            obtain ⟨oj, hoj⟩ : ∃ oj, rj.origin = oj := ⟨_, rfl⟩
            rw [hoj] at e0
            have Hoj := hidIn hoj
            clear hoj
            by_cases heq : oj = orig
            · have hq : (oj == orig) = true := by simpa using heq
              have He := hidIn heq
              clear heq
              go_upto_region 9 with fail
              go_quiet (fail)
              go_wp2_with fail
              go_returns
              exact ⟨by rw [unl_not2 Hzj.out Hz.out hlt2 (by rw [Hoj.out, He.out])]; rfl, below_drewN HB3.out _⟩
            · have hq : (oj == orig) = false := by simpa using heq
              have He := hidIn heq
              clear heq
              go_upto_region 9 with fail
              go_quiet (fail)
              go_wp2_with fail
              go_roundw
              case rel =>
                refine ⟨j + 1, by omega, by go_num, hidIn ⟨fun x hx => ?_, below_drewN HB3.out _⟩⟩
                rw [HTj.out] at hx
                rcases List.mem_append.1 hx with hx | hx
                · exact HD.out x hx
                · simp at hx; rw [hx, Hoj.out]; exact He.out
              case measure => simp [intOf]; omega
          · have hji : ¬ ((j : Int) < (k : Int)) := by omega
            obtain rfl : j = k := by omega
            go_wp2_with fail
            go_roundw
            case rel => exact ⟨j + 1, by omega, by go_num, hidIn ⟨by rw [HT.out]; exact unl_snoc HU.out Hb1.out HD.out, HB3.out⟩⟩
            case measure => simp [intOf]; omega
    · have hki : ¬ ((k : Int) < (l.length : Int)) := by omega
      have HOk : Hid (bothOk no1 (rcs l) = true) := hidIn (by have := HU.out; rw [List.take_of_length_le (by omega)] at this; exact both_unl.2 this)
      go_wp2_with fail
      go_returns
      exact ⟨by rw [HOk.out]; rfl, HB.out⟩
/-- What is left to look at. -/
def costM (r : Rc) (rs : List Rc) (a b : Int) (j : Nat) : Int := if r.origin = a then (match (r.adjs.drop j).find? fun x => decide (x.1 = b) with | some x => x.2 | none => costF rs a b) else costF rs a b
theorem costM_end {r : Rc} {rs : List Rc} {a b : Int} {j : Nat} (h : r.adjs.length ≤ j) : costM r rs a b j = costF rs a b := by
  unfold costM
  rw [List.drop_eq_nil_of_le h]
  by_cases h : r.origin = a <;> simp [h]
theorem costM_no {r : Rc} {rs : List Rc} {a b : Int} {j : Nat} {x : Int × Int} (h : r.adjs[j]? = some x) (hn : ¬ (r.origin = a ∧ x.1 = b)) : costM r rs a b j = costM r rs a b (j + 1) := by
  unfold costM
  rw [drop_next h]
  by_cases h1 : r.origin = a
  · have h2 : ¬ x.1 = b := fun e => hn ⟨h1, e⟩
    simp [h1, h2]
  · simp [h1]
theorem costM_yes {r : Rc} {rs : List Rc} {a b : Int} {j : Nat} {x : Int × Int} (h : r.adjs[j]? = some x) (h1 : r.origin = a) (h2 : x.1 = b) : costM r rs a b j = x.2 := by
  unfold costM
  rw [drop_next h]
  simp [h1, h2]

set_option maxRecDepth 100000 in
set_option maxHeartbeats 2000000 in
theorem cost_any {l : List (Rc × Value)} {v : Value} {w : World} (hR : RecsAt w v l) (x y : Int) :
    Calls Try.prog 39 #[v, .int .i64 x, .int .i64 y] w fun e w' => e = .returned (.int .i64 (costF (rcs l) x y)) ∧ w' = w := by
  obtain ⟨a, cap, rfl, hl, hcap, hat⟩ := hR.r.recs
  have Ha := hidIn hat
  have HA := hidIn hR.a
  clear hat hR
  go_enter Try.func39, Try.ntmps39
  go_wp2
  go_loopw [7] (fun i wr => wr = w ∧ ∃ k : Nat, k ≤ l.length ∧ i = .int .i64 k ∧ Hid (costF (rcs l) x y = costF (rcs (l.drop k)) x y)) (fun i _ => l.length - (intOf i).toNat)
  case atStart => exact ⟨rfl, 0, Nat.zero_le _, rfl, hidIn (by rw [List.drop_zero])⟩
  case round =>
    obtain ⟨hwr, k, hk, rfl, HE⟩ := hrel
    rw [hwr]
    clear hwr
    by_cases hlt : k < l.length
    · obtain ⟨bk, o, rfl, hbk, hcell⟩ := Ha.out (by omega)
      obtain ⟨⟨⟨orig, epo, sq, cl, ig, as'⟩, va⟩, hz⟩ : ∃ z, l[k]? = some z := ⟨l[k], List.getElem?_eq_getElem hlt⟩
      have hva := HA.out _ (List.mem_of_getElem? hz)
      simp only at hva
      obtain ⟨aa, acap, rfl, hal, _, haat⟩ := hva.ads
      have HV := hidIn haat
      obtain ⟨c0, _, _, _, _, c5⟩ := hcell k _ hz
      simp only at c0 c5
      have hki : (k : Int) < (l.length : Int) := by omega
      have HS : Hid (costF (rcs l) x y = costM ⟨orig, epo, sq, cl, ig, as'⟩ (rcs (l.drop (k + 1))) x y 0) := hidIn (by rw [HE.out, drop_next hz]; rfl)
      clear hcell hz hva haat
      obtain ⟨rest, hrest⟩ : ∃ rest, rcs (l.drop (k + 1)) = rest := ⟨_, rfl⟩
      rw [hrest] at HS
      have Hrest := hidIn hrest
      clear hrest
      go_wp2_with fail
      go_loopw [8] (fun i wr => wr = w ∧ ∃ j : Nat, j ≤ as'.length ∧ i = .int .i64 j ∧ Hid (costF (rcs l) x y = costM ⟨orig, epo, sq, cl, ig, as'⟩ rest x y j)) (fun i _ => as'.length - (intOf i).toNat)
      case atStart => exact ⟨rfl, 0, Nat.zero_le _, rfl, HS⟩
      case round =>
        obtain ⟨hwr, j, hj, rfl, HE2⟩ := hrel
        rw [hwr]
        clear hwr
        by_cases hlt2 : j < as'.length
        · obtain ⟨bk2, o2, rfl, hbk2, hcell2⟩ := HV.out (by omega)
          obtain ⟨⟨p, q⟩, hzj⟩ : ∃ z, as'[j]? = some z := ⟨as'[j], List.getElem?_eq_getElem hlt2⟩
          obtain ⟨d0, d1⟩ := hcell2 j _ hzj
          simp only at d0 d1
          have hji : (j : Int) < (as'.length : Int) := by omega
          have Hzj : Hid ((Rc.mk orig epo sq cl ig as').adjs[j]? = some (p, q)) := hidIn hzj
          clear hcell2 hzj
          by_cases hox : orig = x
          · have h1 : (orig == x) = true := by simpa using hox
            have Hox := hidIn hox
            clear hox
            by_cases hpy : p = y
            · have h2 : (p == y) = true := by simpa using hpy
              have Hpy := hidIn hpy
              clear hpy
              go_wp2_with fail
              go_returns
              exact ⟨by rw [HE2.out, costM_yes Hzj.out Hox.out Hpy.out]; rfl, rfl⟩
            · have h2 : (p == y) = false := by simpa using hpy
              have Hpy := hidIn hpy
              clear hpy
              go_wp2_with fail
              go_roundw
              case rel => exact ⟨trivial, j + 1, by omega, by go_num, hidIn (by rw [HE2.out, costM_no Hzj.out (fun h => Hpy.out h.2)])⟩
              case measure => simp [intOf]; omega
          · have h1 : (orig == x) = false := by simpa using hox
            have Hox := hidIn hox
            clear hox
            go_wp2_with fail
            go_roundw
            case rel => exact ⟨trivial, j + 1, by omega, by go_num, hidIn (by rw [HE2.out, costM_no Hzj.out (fun h => Hox.out h.1)])⟩
            case measure => simp [intOf]; omega
        · have hji : ¬ ((j : Int) < (as'.length : Int)) := by omega
          have HE3 : Hid (costF (rcs l) x y = costF rest x y) := hidIn (by rw [HE2.out, costM_end (show (Rc.mk orig epo sq cl ig as').adjs.length ≤ j by show as'.length ≤ j; omega)])
          go_wp2_with fail
          go_roundw
          case rel => exact ⟨trivial, k + 1, by omega, by go_num, hidIn (by rw [Hrest.out]; exact HE3.out)⟩
          case measure => simp [intOf]; omega
    · have hki : ¬ ((k : Int) < (l.length : Int)) := by omega
      have HT : Hid (costF (rcs l) x y = 0) := hidIn (by rw [HE.out, List.drop_eq_nil_of_le (by omega)]; rfl)
      go_wp2_with fail
      go_returns
      exact ⟨by rw [HT.out]; rfl, rfl⟩
end Go.Proofs.Ytpdpdhnllmlfdaa
namespace Go.Proofs.Ytpdpdhnllmlfdaa
open Go.RowKit

/-- The graph in its block: its nodes so far. -/
structure NdM (w1 wr : World) (u : Value) (L : List Int) : Prop where
  g : wr.heap[w1.heap.size]? = some (.cells #[u, .slice none 0 0] 49)
  r : wr.ownsRow (w1.heap.size + 1) 3 1 u L.length (fl ic L)
  b : Below w1.heap.size w1 wr
/-- The graph in its block: its edges so far. -/
structure EbM (w3 wr : World) (B : Nat) (u v : Value) (L : List Ed) : Prop where
  g : wr.heap[B]? = some (.cells #[u, v] 49)
  r : wr.ownsRow w3.heap.size 79 3 v L.length (fl ec L)
  f : Fr (fun k => k = B) w3 wr
theorem EbM.drewN {w3 wr : World} {B : Nat} {u v : Value} {L : List Ed} (h : EbM w3 wr B u v L) (n : Nat) : EbM w3 (wr.drewN n) B u v L :=
  ⟨h.g, row_fr h.r ((Fr.refl (fun _ => False) wr).drewN n) (fun _ _ h => h), h.f.drewN n⟩

set_option maxRecDepth 100000 in
set_option maxHeartbeats 4000000 in
theorem rboth_any {l : List (Rc × Value)} {v : Value} {w : World} (hR : RecsAt w v l) (hg : ∀ y ∈ l, RecG w y) :
    Calls Try.prog 19 #[v] w fun e w' => BothAns w l e w' ∧ Below w.heap.size w w' := by
  have HR0 := hidIn hR
  obtain ⟨a, cap, rfl, hl, hcap, hat⟩ := hR.r.recs
  have Ha := hidIn hat
  obtain ⟨W0, hW0⟩ : ∃ W0, w.alloc nilG = W0 := ⟨_, rfl⟩
  have bA : Below w.heap.size w W0 := by rw [← hW0]; exact (Below.refl _ w).alloc (Nat.le_refl _) _
  have hGB : W0.heap[w.heap.size]? = some nilG := by rw [← hW0]; exact heap_alloc_last w _
  have hlt0 := block_lt hGB
  obtain ⟨b1, hb1⟩ : ∃ b1, bothOk no1 (rcs l) = b1 := ⟨_, rfl⟩
  have Hb1 := hidIn hb1
  have HC : Hid (Calls Try.prog 38 #[.slice a l.length cap] W0 fun e w' => e = .returned (.bool b1) ∧ Below W0.heap.size W0 w') := hidIn (by rw [← hb1]; exact unlike_any (hR.keep bA (Nat.le_refl _)) fun y hy => ⟨(hg y hy).1.keep bA (Nat.le_refl _), (hg y hy).2⟩)
  have HW := hidIn hW0
  clear hW0 hat hR hg hb1
  go_enter Try.func19, Try.ntmps19
  go_upto_region 1 with fail
  rw [HW.out]
  clear HW
  go_wp2_with fail
  refine HC.out.mono ?_
  rintro e w2 ⟨rfl, hb2⟩
  have hg2 : w2.heap[w.heap.size]? = some nilG := (hb2.block _ hlt0).trans hGB
  have HB2 := hidIn (bA.trans (hb2.mono bA.size))
  clear HC bA hb2 hGB hlt0
  cases b1
  · have g0 : w2.cell? ⟨w.heap.size, 0, none⟩ = some (.slice none 0 0) := cell_of_row _ _ 0 _ _ _ hg2
    have g1 : w2.cell? ⟨w.heap.size, 1, none⟩ = some (.slice none 0 0) := cell_of_row _ _ 1 _ _ _ hg2
    have gf0 := frozen_new hg2 0
    have gf1 := frozen_new hg2 1
    clear hg2
    go_wp2_with fail
    have e0 : ((w2.setCell ⟨w.heap.size, 0, none⟩ (.slice none 0 0)).setCell ⟨w.heap.size, 1, none⟩ (.slice none 0 0)).cell? ⟨w.heap.size, 0, none⟩ = some (.slice none 0 0) := by simp [go_sem, g0]
    have e1 : ((w2.setCell ⟨w.heap.size, 0, none⟩ (.slice none 0 0)).setCell ⟨w.heap.size, 1, none⟩ (.slice none 0 0)).cell? ⟨w.heap.size, 1, none⟩ = some (.slice none 0 0) := by simp [go_sem, g1]
    have HB3 : Hid (Below w.heap.size w ((w2.setCell ⟨w.heap.size, 0, none⟩ (.slice none 0 0)).setCell ⟨w.heap.size, 1, none⟩ (.slice none 0 0))) := hidIn ((HB2.out.setCell (p := ⟨w.heap.size, 0, none⟩) (Nat.le_refl _) _).setCell (p := ⟨w.heap.size, 1, none⟩) (Nat.le_refl _) _)
    generalize (w2.setCell ⟨w.heap.size, 0, none⟩ (.slice none 0 0)).setCell ⟨w.heap.size, 1, none⟩ (.slice none 0 0) = V at *
    exact bodyPost_ret (v := .tuple #[grV (.slice none 0 0) (.slice none 0 0), .int .i64 2]) (by simp [results, Try.results19, asAddr, Result.andThen, go_sem, e0, e1]) rfl ⟨.inr ⟨Hb1.out, rfl⟩, HB3.out⟩
  have hu : Unl (rcs l) := both_unl.1 Hb1.out
  have hlen := unl_len hu
  rw [rcs, List.length_map] at hlen
  have Hu := hidIn hu
  have Hg2 := hidIn hg2
  have hB0 := block_lt hg2
  obtain ⟨W3, hW3⟩ : ∃ W3, w2.alloc nilG = W3 := ⟨_, rfl⟩
  have HN0 : Hid (NdM w2 W3 (.slice none 0 0) (outN (rcs l) 1)) := hidIn (by
    rw [outN_one hu, ← hW3]
    exact ⟨heap_alloc_last w2 _, World.ownsRow_nil _ _ _ _, by go_grown⟩)
  have HW := hidIn hW3
  clear hu hg2 hW3
  go_upto_region 4 with fail
  rw [HW.out]
  clear HW
  go_wp2_with fail
  go_loopw [5] (fun i wr => ∃ (n : Nat), 1 ≤ n ∧ n ≤ 25 ∧ i = .int .i64 n ∧ Hid (∃ u, NdM w2 wr u (outN (rcs l) n))) (fun i _ => 25 - (intOf i).toNat)
  case atStart => exact ⟨1, Nat.le_refl _, by omega, rfl, hidIn ⟨_, HN0.out⟩⟩
  case round =>
    clear HN0
    obtain ⟨n, hn1, hn, rfl, HR⟩ := hrel
    by_cases hlt : n < 25
    · have hni : (n : Int) ≤ 24 := by omega
      obtain ⟨u0, hM0⟩ := HR.out
      have HM0 := hidIn hM0
      clear HR hM0
      generalize wr = wo at *
      go_wp2_with fail
      go_loopw [6] (fun i wz => ∃ (k : Nat), k ≤ l.length ∧ i = .int .i64 k ∧ Hid (∃ u, NdM w2 wz u (outN (rcs l) n ++ pickN (rcs (l.take k)) (n : Int)))) (fun i _ => l.length - (intOf i).toNat)
      case atStart => exact ⟨0, Nat.zero_le _, rfl, hidIn ⟨u0, by simpa [pickN, rcs] using HM0.out⟩⟩
      case round =>
        clear HM0
        obtain ⟨k, hk, rfl, HR⟩ := hrel
        obtain ⟨u, hM⟩ := HR.out
        clear HR
        by_cases hlt2 : k < l.length
        · obtain ⟨bk, o, rfl, hbk, hcell⟩ := Ha.out (by omega)
          obtain ⟨⟨rk, vk⟩, hz⟩ : ∃ z, l[k]? = some z := ⟨l[k], List.getElem?_eq_getElem hlt2⟩
          have c0 := ((HB2.out.trans (hM.b.mono HB2.out.size)).cell (p := ⟨bk, o + k * 6, none⟩) hbk).trans (hcell k _ hz).1
          simp only at c0
          have HT : Hid (rcs (l.take (k + 1)) = rcs (l.take k) ++ [rk]) := hidIn (by rw [take_snoc hz]; simp [rcs])
          have hki : (k : Int) < (l.length : Int) := by omega
          have hle : (outN (rcs l) n ++ pickN (rcs (l.take k)) (n : Int)).length ≤ 700 := by
            rw [List.length_append]
            have h3 := outN_len (rcs l) n
            have h4 := pickN_len (rcs (l.take k)) n
            have h5 : n * (rcs l).length ≤ 25 * 25 := Nat.mul_le_mul hn (by rw [rcs, List.length_map]; exact hlen)
            have h6 : (rcs (l.take k)).length ≤ 25 := by rw [rcs, List.length_map, List.length_take]; omega
            omega
          obtain ⟨ok, hok⟩ : ∃ ok, rk.origin = ok := ⟨_, rfl⟩
          rw [hok] at c0
          have Hok := hidIn hok
          clear hok hcell hz
          by_cases heq : ok = (n : Int)
          · subst heq
            have HE : Hid (pickN (rcs (l.take (k + 1))) (n : Int) = pickN (rcs (l.take k)) (n : Int) ++ [(n : Int)]) := hidIn (by rw [HT.out, pickN_yes Hok.out])
            obtain ⟨g, gcap, w6, hrun, hown, _, _, hb6⟩ := append_int hM.r (n : Int) (by omega) (by have := block_lt hM.g; omega)
            have hg6 := (hb6.block _ (Nat.lt_succ_self _)).trans hM.g
            have HRun := hidIn hrun
            have HO := hidIn hown
            have HB6 := hidIn (hM.b.trans (hb6.mono (Nat.le_succ _)))
            have d0 := cell_of_row _ _ 0 _ _ _ hM.g
            have k0 := cell_of_row _ _ 0 _ _ _ hg6
            have f0 := frozen_new hg6 0
            simp at d0 k0
            have HG6 := hidIn hg6
            clear hrun hown hb6 hM hg6
            obtain ⟨L, hL⟩ : ∃ L, outN (rcs l) n ++ pickN (rcs (l.take k)) (n : Int) = L := ⟨_, rfl⟩
            have HL := hidIn hL
            rw [hL] at HRun HO hle
            clear hL
            go_wp2_with (refine l_append rfl _ _ 46 rfl HRun.out ?_)
            go_roundw
            case rel =>
              refine ⟨k + 1, by omega, by go_num, hidIn ⟨_, ⟨heap_setCell_same _ _ _ _ _ _ HG6.out, ?_, HB6.out.setCell (p := ⟨w2.heap.size, 0, none⟩) (Nat.le_refl _) _⟩⟩⟩
              have h5 := row_fr HO.out ((Fr.refl (fun k => k = w2.heap.size) w6).set (p := ⟨w2.heap.size, 0, none⟩) rfl (.slice (some ⟨g, 0, none⟩) (L.length + 1) gcap)) (fun j hj e => by have := (HO.out.lt j hj).1; omega)
              rw [HE.out, ← List.append_assoc, HL.out, List.length_append]
              exact h5
            case measure => simp [intOf]; omega
          · have hq : (ok == (n : Int)) = false := by simpa using heq
            have HE : Hid (pickN (rcs (l.take (k + 1))) (n : Int) = pickN (rcs (l.take k)) (n : Int)) := hidIn (by rw [HT.out, pickN_no (by rw [Hok.out]; exact heq)])
            have HM := hidIn hM
            clear hM heq
            go_wp2_with fail
            go_roundw
            case rel => exact ⟨k + 1, by omega, by go_num, hidIn ⟨u, by rw [HE.out]; exact HM.out⟩⟩
            case measure => simp [intOf]; omega
        · have hki : ¬ ((k : Int) < (l.length : Int)) := by omega
          have HM : Hid (NdM w2 wr u (outN (rcs l) (n + 1))) := hidIn (by rw [outN_succ]; rw [List.take_of_length_le (by omega)] at hM; exact hM)
          clear hM
          go_wp2_with fail
          go_roundw
          case rel => exact ⟨n + 1, by omega, by omega, by go_num, hidIn ⟨u, HM.out⟩⟩
          case measure => simp [intOf]; omega
    · have hni : ¬ ((n : Int) ≤ 24) := by omega
      obtain ⟨u, hM⟩ := HR.out
      have hne : n = 25 := by omega
      rw [hne, outN_both Hu.out] at hM
      clear HR
      obtain ⟨ua, ucap, rfl⟩ := row_shape hM.r
      obtain ⟨ns, hns⟩ : ∃ ns, bothN (rcs l) = ns := ⟨_, rfl⟩
      have hnl : ns.length ≤ 25 := by rw [← hns, bothN_len Hu.out, rcs, List.length_map]; exact hlen
      rw [hns] at hM
      have Hns := hidIn hns
      have HN := hidIn hM
      have hB3 := block_lt hM.g
      have HE0 : Hid (EbM wr wr w2.heap.size (.slice ua ns.length ucap) (.slice none 0 0) []) := hidIn ⟨hM.g, World.ownsRow_nil _ _ _ _, Fr.refl _ _⟩
      clear hM hns hlt
      generalize wr = w3 at *
      go_wp2_with fail
      go_loopw [7] (fun i wz => ∃ (k : Nat), k ≤ ns.length ∧ i = .int .i64 k ∧ Hid (∃ v, EbM w3 wz w2.heap.size (.slice ua ns.length ucap) v (outI (costF (rcs l)) ns (ns.take k)))) (fun i _ => ns.length - (intOf i).toNat)
      case atStart => exact ⟨0, Nat.zero_le _, rfl, hidIn ⟨_, HE0.out⟩⟩
      case round =>
        clear HE0
        obtain ⟨i, hi, rfl, HR⟩ := hrel
        obtain ⟨v0, hM0⟩ := HR.out
        clear HR
        have d0 := cell_of_row _ _ 0 _ _ _ hM0.g
        simp at d0
        have HM0 := hidIn hM0
        clear hM0
        by_cases hlt : i < ns.length
        · have hii : (i : Int) < (ns.length : Int) := by omega
          obtain ⟨x, hx⟩ : ∃ x, ns[i]? = some x := ⟨ns[i], List.getElem?_eq_getElem hlt⟩
          have HX := hidIn hx
          clear hx
          generalize wr = wo at *
          go_wp2_with fail
          clear d0
          go_loopw [8] (fun i' wz => ∃ (k : Nat), k ≤ ns.length ∧ i' = .int .i64 k ∧ Hid (∃ v, EbM w3 wz w2.heap.size (.slice ua ns.length ucap) v (outI (costF (rcs l)) ns (ns.take i) ++ rowI (costF (rcs l)) x (ns.take k)))) (fun i' _ => ns.length - (intOf i').toNat)
          case atStart => exact ⟨0, Nat.zero_le _, rfl, hidIn ⟨v0, by simpa [rowI] using HM0.out⟩⟩
          case round =>
            clear HM0
            obtain ⟨k, hk, rfl, HR⟩ := hrel
            obtain ⟨v, hM⟩ := HR.out
            clear HR
            have d0 := cell_of_row _ _ 0 _ _ _ hM.g
            simp at d0
            by_cases hlt2 : k < ns.length
            · have hki : (k : Int) < (ns.length : Int) := by omega
              obtain ⟨y, hy⟩ : ∃ y, ns[k]? = some y := ⟨ns[k], List.getElem?_eq_getElem hlt2⟩
              have HY := hidIn hy
              obtain ⟨a', cap', he, _, _, hcell⟩ := (show SlAt ic 1 wr (.slice ua ns.length ucap) ns from slAt_of_row (cs := ic) (fun _ => rfl) (row_fr HN.out.r hM.f (fun j hj e => by have := (HN.out.r.lt j hj).1; omega)) rfl).ints
              simp only [Value.slice.injEq, true_and] at he
              obtain ⟨rfl, rfl⟩ := he
              obtain ⟨bk, o, rfl, hbk, hcell⟩ := hcell (by omega)
              have n1 := hcell i x HX.out
              have n2 := hcell k y hy
              have HM := hidIn hM
              clear hcell hy hM
              go_upto_region 18 with fail
              go_quiet (fail)
              clear n1 n2 d0
              generalize hV : World.drewN wr _ = V
              have hM : EbM w3 V w2.heap.size (.slice (some ⟨bk, o, none⟩) ns.length ucap) v (outI (costF (rcs l)) ns (ns.take i) ++ rowI (costF (rcs l)) x (ns.take k)) := by rw [← hV]; exact HM.out.drewN _
              clear hV HM hbk
              have HRV : Hid (RecsAt V (.slice a l.length cap) l) := hidIn (HR0.out.keep ((HB2.out.trans (HN.out.b.mono HB2.out.size)).trans ((hM.f.below (Nat.le_of_lt hB3) (fun k hk => by omega)).mono (Nat.le_of_lt hB0))) (Nat.le_refl _))
              have HM := hidIn hM
              clear hM
              go_wp2_with fail
              refine (cost_any HRV.out x y).mono ?_
              rintro e w5 ⟨rfl, hw5⟩
              rw [hw5]
              clear hw5 w5
              obtain ⟨c1, hc1⟩ : ∃ c1, costF (rcs l) x y = c1 := ⟨_, rfl⟩
              have Hc1 := hidIn hc1
              rw [hc1]
              clear hc1
              by_cases h1 : 0 < c1
              · go_wp2_with fail
                refine (cost_any HRV.out y x).mono ?_
                rintro e w5 ⟨rfl, hw5⟩
                rw [hw5]
                clear hw5 w5
                obtain ⟨c2, hc2⟩ : ∃ c2, costF (rcs l) y x = c2 := ⟨_, rfl⟩
                have Hc2 := hidIn hc2
                rw [hc2]
                clear hc2
                by_cases h2 : 0 < c2
                · have HE : Hid (rowI (costF (rcs l)) x (ns.take (k + 1)) = rowI (costF (rcs l)) x (ns.take k) ++ [(x, y, c1)]) := hidIn (by rw [take_snoc HY.out, rowI_yes (by rw [Hc1.out]; exact h1) (by rw [Hc2.out]; exact h2), Hc1.out])
                  have hle : (outI (costF (rcs l)) ns (ns.take i) ++ rowI (costF (rcs l)) x (ns.take k)).length ≤ 700 := by
                    rw [List.length_append]
                    have h3 := outI_len (costF (rcs l)) ns (ns.take i)
                    have h4 := rowI_len (costF (rcs l)) x (ns.take k)
                    rw [List.length_take] at h3 h4
                    have h5 : min i ns.length * ns.length ≤ 25 * 25 := Nat.mul_le_mul (by omega) hnl
                    omega
                  have hM := HM.out
                  obtain ⟨g, gcap, w6, hrun, hown, _, _, hb6⟩ := append_edge hM.r (x, y, c1) (by omega) hM.f.size
                  have hg6 := (hb6.block _ hB3).trans hM.g
                  have HF6 : Hid (Fr (fun k => k = w2.heap.size) w3 w6) := hidIn ⟨hb6.os.trans hM.f.os, hb6.tape.trans hM.f.tape, hb6.output.trans hM.f.output, Nat.le_trans hM.f.size hb6.size, fun k hk hs => (hb6.block k hk).trans (hM.f.block k hk hs)⟩
                  have HRun := hidIn hrun
                  have HO := hidIn hown
                  have d1 := cell_of_row _ _ 1 _ _ _ hM.g
                  have k1 := cell_of_row _ _ 1 _ _ _ hg6
                  have f1 := frozen_new hg6 1
                  simp at d1 k1
                  have HG6 := hidIn hg6
                  clear hrun hown hb6 hM hg6 HM
                  obtain ⟨L, hL⟩ : ∃ L, outI (costF (rcs l)) ns (ns.take i) ++ rowI (costF (rcs l)) x (ns.take k) = L := ⟨_, rfl⟩
                  have HL := hidIn hL
                  rw [hL] at HRun HO hle
                  clear hL
                  go_wp2_with (refine l_append rfl _ _ 47 rfl HRun.out ?_)
                  go_roundw
                  case rel =>
                    refine ⟨k + 1, by omega, by go_num, hidIn ⟨_, ⟨heap_setCell_same _ _ _ _ _ _ HG6.out, ?_, HF6.out.set (p := ⟨w2.heap.size, 1, none⟩) rfl _⟩⟩⟩
                    have h5 := row_fr HO.out ((Fr.refl (fun k => k = w2.heap.size) w6).set (p := ⟨w2.heap.size, 1, none⟩) rfl (.slice (some ⟨g, 0, none⟩) (L.length + 1) gcap)) (fun j hj e => by have := (HO.out.lt j hj).1; omega)
                    rw [HE.out, ← List.append_assoc, HL.out, List.length_append]
                    exact h5
                  case measure => simp [intOf]; omega
                · have HE : Hid (rowI (costF (rcs l)) x (ns.take (k + 1)) = rowI (costF (rcs l)) x (ns.take k)) := hidIn (by rw [take_snoc HY.out, rowI_no (by rw [Hc1.out, Hc2.out]; omega)])
                  go_wp2_with fail
                  go_roundw
                  case rel => exact ⟨k + 1, by omega, by go_num, hidIn ⟨v, by rw [HE.out]; exact HM.out⟩⟩
                  case measure => simp [intOf]; omega
              · have HE : Hid (rowI (costF (rcs l)) x (ns.take (k + 1)) = rowI (costF (rcs l)) x (ns.take k)) := hidIn (by rw [take_snoc HY.out, rowI_no (by rw [Hc1.out]; omega)])
                go_wp2_with fail
                go_roundw
                case rel => exact ⟨k + 1, by omega, by go_num, hidIn ⟨v, by rw [HE.out]; exact HM.out⟩⟩
                case measure => simp [intOf]; omega
            · have hki : ¬ ((k : Int) < (ns.length : Int)) := by omega
              have HM : Hid (EbM w3 wr w2.heap.size (.slice ua ns.length ucap) v (outI (costF (rcs l)) ns (ns.take (i + 1)))) := hidIn (by rw [take_snoc HX.out, outI_snoc]; rw [List.take_of_length_le (show ns.length ≤ k by omega)] at hM; exact hM)
              clear hM
              go_wp2_with fail
              go_roundw
              case rel => exact ⟨i + 1, by omega, by go_num, hidIn ⟨v, HM.out⟩⟩
              case measure => simp [intOf]; omega
        · have hii : ¬ ((i : Int) < (ns.length : Int)) := by omega
          have hM := HM0.out
          rw [List.take_of_length_le (by omega)] at hM
          have HE : Hid (bothE (rcs l) = outI (costF (rcs l)) ns ns) := hidIn (by rw [← Hns.out]; exact (outI_both Hu.out).symm)
          obtain ⟨va, vcap, rfl⟩ := row_shape hM.r
          have d1 := cell_of_row _ _ 1 _ _ _ hM.g
          simp at d1
          have hR : wr.heap[w.heap.size]? = some nilG := (hM.f.block _ (by omega) (by omega)).trans ((HN.out.b.block _ hB0).trans Hg2.out)
          have r0 : wr.cell? ⟨w.heap.size, 0, none⟩ = some (.slice none 0 0) := cell_of_row _ _ 0 _ _ _ hR
          have r1 : wr.cell? ⟨w.heap.size, 1, none⟩ = some (.slice none 0 0) := cell_of_row _ _ 1 _ _ _ hR
          have f0 := frozen_new hR 0
          have f1 := frozen_new hR 1
          have HBw : Hid (Below w.heap.size w wr) := hidIn ((HB2.out.trans (HN.out.b.mono HB2.out.size)).trans ((hM.f.below (Nat.le_of_lt hB3) (fun k hk => by omega)).mono (Nat.le_of_lt hB0)))
          have HRn := hidIn (row_fr HN.out.r hM.f (fun j hj e => by have := (HN.out.r.lt j hj).1; omega))
          have HRe := hidIn hM.r
          clear HM0 hM hR
          obtain ⟨vn, hvn⟩ : ∃ vn, (outI (costF (rcs l)) ns ns).length = vn := ⟨_, rfl⟩
          rw [hvn] at d1 HRe
          have HVn := hidIn hvn
          clear hvn
          go_wp2_with fail
          have e0 : ((wr.setCell ⟨w.heap.size, 0, none⟩ (.slice ua ns.length ucap)).setCell ⟨w.heap.size, 1, none⟩ (.slice va vn vcap)).cell? ⟨w.heap.size, 0, none⟩ = some (.slice ua ns.length ucap) := by simp [go_sem, r0]
          have e1 : ((wr.setCell ⟨w.heap.size, 0, none⟩ (.slice ua ns.length ucap)).setCell ⟨w.heap.size, 1, none⟩ (.slice va vn vcap)).cell? ⟨w.heap.size, 1, none⟩ = some (.slice va vn vcap) := by simp [go_sem, r1]
          have HF : Hid (Fr (fun k => k = w.heap.size) wr ((wr.setCell ⟨w.heap.size, 0, none⟩ (.slice ua ns.length ucap)).setCell ⟨w.heap.size, 1, none⟩ (.slice va vn vcap))) := hidIn (((Fr.refl (fun k => k = w.heap.size) wr).set (p := ⟨w.heap.size, 0, none⟩) rfl _).set (p := ⟨w.heap.size, 1, none⟩) rfl _)
          generalize (wr.setCell ⟨w.heap.size, 0, none⟩ (.slice ua ns.length ucap)).setCell ⟨w.heap.size, 1, none⟩ (.slice va vn vcap) = V at *
          refine bodyPost_ret (v := .tuple #[grV (.slice ua ns.length ucap) (.slice va vn vcap), .int .i64 0]) (by simp [results, Try.results19, asAddr, Result.andThen, go_sem, e0, e1]) rfl ⟨.inl ⟨Hb1.out, _, _, rfl, ?_, ?_⟩, ?_⟩
          · rw [Hns.out]
            exact row_low (row_fr HRn.out HF.out (fun j hj e => by have := (HRn.out.lt j hj).1; omega)) (by omega)
          · rw [HE.out, HVn.out]
            exact row_low (row_fr HRe.out HF.out (fun j hj e => by have := (HRe.out.lt j hj).1; omega)) (by omega)
          · exact HBw.out.trans (HF.out.below HBw.out.size (fun k hk => by omega))
end Go.Proofs.Ytpdpdhnllmlfdaa
namespace Go.Proofs.Ytpdpdhnllmlfdaa
open Go.RowKit

end Go.Proofs.Ytpdpdhnllmlfdaa
namespace Go.Proofs.Ytpdpdhnllmlfdaa
open Go.RowKit

/-- What is marked after some rounds. -/
structure RInv (ns : List Int) (es : List Ed) (n : Int) (f : Nat → Bool) (r : Nat) : Prop where
  so : ∀ i, f i = true → Rch es n (i : Int)
  nn : f n.toNat = true
  mem : ∀ i, f i = true → (i : Int) ∈ ns
  go : (∀ e ∈ es, f e.1.toNat = true → f e.2.1.toNat = true) ∨ r + 1 ≤ cnt f
structure RMid (ns : List Int) (es : List Ed) (n : Int) (f g : Nat → Bool) (k : Nat) : Prop where
  so : ∀ i, g i = true → Rch es n (i : Int)
  nn : g n.toNat = true
  mem : ∀ i, g i = true → (i : Int) ∈ ns
  go : (g = f ∧ ∀ e ∈ es.take k, f e.1.toNat = true → f e.2.1.toNat = true) ∨ ((¬ ∀ e ∈ es, f e.1.toNat = true → f e.2.1.toNat = true) ∧ cnt f + 1 ≤ cnt g)
theorem cnt_mk1 (f : Nat → Bool) {i : Nat} (hi : i < 25) (h : f i = false) : cnt (mk1 f i) = cnt f + 1 := by
  have h1 := unm_mk1 h hi
  have h2 := cnt_unm f
  have h3 := cnt_unm (mk1 f i)
  omega
theorem mk1_again {f : Nat → Bool} {i : Nat} (h : f i = true) : mk1 f i = f := by
  funext j
  unfold mk1
  by_cases hj : j = i
  · rw [if_pos hj, hj, h]
  · rw [if_neg hj]
theorem RInv.start {ns : List Int} {es : List Ed} {n : Int} {f : Nat → Bool} {r : Nat} (h : RInv ns es n f r) : RMid ns es n f f 0 := ⟨h.so, h.nn, h.mem, .inl ⟨rfl, by simp⟩⟩
theorem RMid.no {ns : List Int} {es : List Ed} {n : Int} {f g : Nat → Bool} {k : Nat} {e : Ed} (h : RMid ns es n f g k) (he : es[k]? = some e) (hg : g e.1.toNat = false) : RMid ns es n f g (k + 1) := by
  refine ⟨h.so, h.nn, h.mem, ?_⟩
  rcases h.go with ⟨h1, h2⟩ | h1
  · refine .inl ⟨h1, fun x hx hf => ?_⟩
    rw [take_snoc he] at hx
    rcases List.mem_append.1 hx with hx | hx
    · exact h2 x hx hf
    · simp at hx
      rw [hx, ← h1, hg] at hf
      cases hf
  · exact .inr h1
theorem RMid.yes {ns : List Int} {es : List Ed} {n : Int} {f g : Nat → Bool} {k : Nat} {e : Ed} (hb : ∀ z ∈ ns, 1 ≤ z ∧ z ≤ 24) (hed : ∀ e ∈ es, e.1 ∈ ns ∧ e.2.1 ∈ ns) (h : RMid ns es n f g k) (he : es[k]? = some e) (hg : g e.1.toNat = true) : RMid ns es n f (mk1 g e.2.1.toNat) (k + 1) := by
  have hm := List.mem_of_getElem? he
  have h3 := hed e hm
  have b1 := hb _ h3.1
  have b2 := hb _ h3.2
  by_cases hy : g e.2.1.toNat = true
  · rw [mk1_again hy]
    refine ⟨h.so, h.nn, h.mem, ?_⟩
    rcases h.go with ⟨h1, h2⟩ | h1
    · refine .inl ⟨h1, fun x hx hf => ?_⟩
      rw [take_snoc he] at hx
      rcases List.mem_append.1 hx with hx | hx
      · exact h2 x hx hf
      · simp at hx
        rw [hx, ← h1]
        exact hy
    · exact .inr h1
  · have hy' : g e.2.1.toNat = false := by simpa using hy
    have hc := cnt_mk1 g (show e.2.1.toNat < 25 by omega) hy'
    refine ⟨fun i hi => ?_, mk1_iff.2 (.inr h.nn), fun i hi => ?_, .inr ?_⟩
    · rcases mk1_iff.1 hi with rfl | hi
      · have h5 := h.so _ hg
        rw [Int.toNat_of_nonneg (by omega)] at h5 ⊢
        exact h5.step hm
      · exact h.so i hi
    · rcases mk1_iff.1 hi with rfl | hi
      · rw [Int.toNat_of_nonneg (by omega)]
        exact h3.2
      · exact h.mem i hi
    · rcases h.go with ⟨h1, _⟩ | ⟨h1, h2⟩
      · refine ⟨fun hall => ?_, by rw [hc, h1]; exact Nat.le_refl _⟩
        have := hall e hm (by rw [← h1]; exact hg)
        rw [← h1, hy'] at this
        cases this
      · exact ⟨h1, by omega⟩
theorem RMid.stop {ns : List Int} {es : List Ed} {n : Int} {f g : Nat → Bool} {r k : Nat} (h : RInv ns es n f r) (hm : RMid ns es n f g k) (hk : es.length ≤ k) : RInv ns es n g (r + 1) := by
  refine ⟨hm.so, hm.nn, hm.mem, ?_⟩
  rcases hm.go with ⟨h1, h2⟩ | ⟨h1, h2⟩
  · left
    rw [h1]
    rw [List.take_of_length_le hk] at h2
    exact h2
  · right
    rcases h.go with h3 | h3
    · exact absurd h3 h1
    · omega
theorem RInv.part {ns : List Int} {es : List Ed} {n : Int} {f : Nat → Bool} (hn : n ∈ ns) (hed : ∀ e ∈ es, e.1 ∈ ns ∧ e.2.1 ∈ ns) (h : RInv ns es n f ns.length) : IsPart es n f := by
  refine isPart_of hn hed h.so h.nn ?_
  rcases h.go with h1 | h1
  · exact h1
  · exfalso
    have h2 := count_tos (ns.map fun x => (x, (0 : Int))) (List.range 25) List.nodup_range
    rw [List.length_map] at h2
    have h3 : cnt f ≤ ((List.range 25).filter fun b => (ns.map fun x => (x, (0 : Int))).any fun x => decide (x.1.toNat = b)).length := by
      refine filter_len _ fun b _ hb => ?_
      rw [List.any_eq_true]
      exact ⟨((b : Int), 0), List.mem_map.2 ⟨(b : Int), h.mem b hb, rfl⟩, by simp⟩
    omega
theorem rInv_one {ns : List Int} {es : List Ed} {n : Int} (hb : ∀ z ∈ ns, 1 ≤ z ∧ z ≤ 24) (hn : n ∈ ns) : RInv ns es n (mk1 no1 n.toNat) 0 := by
  have h1 := hb n hn
  refine ⟨fun i hi => ?_, mk1_same _ _, fun i hi => ?_, .inr ?_⟩
  · rcases mk1_iff.1 hi with rfl | h
    · rw [Int.toNat_of_nonneg (by omega)]; exact Rch.refl _ _
    · simp [no1] at h
  · rcases mk1_iff.1 hi with rfl | h
    · rw [Int.toNat_of_nonneg (by omega)]; exact hn
    · simp [no1] at h
  · rw [cnt_mk1 no1 (show n.toNat < 25 by omega) rfl]
    omega
theorem make_met (w : World) : (Instr.makeSlice 108 (.int .i64 25) (.int .i64 25)).run Try.prog w = .ok (.slice (some ⟨w.heap.size, 0, none⟩) 25 25) (w.alloc (.cells (mcl no1).toArray 4)) := by kernel_rfl

set_option maxRecDepth 100000 in
set_option maxHeartbeats 2000000 in
theorem rpart_any {ns : List Int} {es : List Ed} {vn ve : Value} {w : World} (h : GrAt w vn ve ns es) (n : Int) :
    Calls Try.prog 43 #[grV vn ve, .int .i64 n] w fun e w' => PartAns w ns es n e w' ∧ Below w.heap.size w w' := by
  have Hgr := hidIn h
  obtain ⟨ea, eca, rfl, hel, _, hea⟩ := h.e.eds
  have Hea := hidIn hea
  clear h hea
  obtain ⟨na, nca, hvn, hnl, _⟩ := Hgr.out.n
  subst hvn
  obtain ⟨W1, hW1⟩ : ∃ W1, w.alloc (.cells #[.slice na ns.length nca, .slice ea es.length eca] 49) = W1 := ⟨_, rfl⟩
  have bA : Below w.heap.size w W1 := by rw [← hW1]; exact (Below.refl _ w).alloc (Nat.le_refl _) _
  have hGB : W1.heap[w.heap.size]? = some (.cells #[.slice na ns.length nca, .slice ea es.length eca] 49) := by rw [← hW1]; exact heap_alloc_last w _
  have hlt0 := block_lt hGB
  have HF : Hid (∀ wq, Below W1.heap.size W1 wq → (wq.cell? ⟨w.heap.size, 0, none⟩ = some (.slice na ns.length nca) ∧ wq.cell? ⟨w.heap.size, 1, none⟩ = some (.slice ea es.length eca)) ∧ Below w.heap.size w wq) := hidIn fun wq h => by
    have j0 := (h.block _ hlt0).trans hGB
    exact ⟨⟨cell_of_row _ _ 0 _ _ _ j0, cell_of_row _ _ 1 _ _ _ j0⟩, bA.trans (h.mono bA.size)⟩
  have HW := hidIn hW1
  clear hW1 bA hGB
  obtain ⟨⟨f0, f1⟩, hbw1⟩ := HF.out W1 (Below.refl _ _)
  obtain ⟨b1, hb1⟩ : ∃ b1, graphOk ns es = b1 := ⟨_, rfl⟩
  have Hb1 := hidIn hb1
  have HC : Hid (Calls Try.prog 61 #[grV (.slice na ns.length nca) (.slice ea es.length eca)] W1 fun e w' => e = .returned (.int .i64 (if b1 = true then 0 else 2)) ∧ Below W1.heap.size W1 w') := hidIn (by rw [← hb1]; exact gcheck_any (Hgr.out.keep hbw1 (Nat.le_refl _)))
  clear hb1
  go_enter Try.func43, Try.ntmps43
  go_upto_region 1 with fail
  rw [HW.out]
  clear HW
  go_wp2_with fail
  refine HC.out.mono ?_
  rintro e w2 ⟨rfl, hb2⟩
  have HB2 := hidIn hb2
  clear hb2 HC f0 f1 hbw1
  obtain ⟨⟨f0, f1⟩, hbw2⟩ := HF.out w2 HB2.out
  cases b1
  · simp only [Bool.false_eq_true, if_false]
    go_wp2_with fail
    go_ret2
    exact ⟨.inr ⟨by rw [Hb1.out]; rfl, rfl⟩, hbw2⟩
  simp only [if_true]
  go_wp2_with fail
  refine (rhas_any (Hgr.out.n.keep hbw2 (Nat.le_refl _)) n).mono ?_
  rintro e w3 ⟨rfl, hw3⟩
  rw [hw3]
  clear hw3 w3
  obtain ⟨b2, hb2⟩ : ∃ b2, hasN ns n = b2 := ⟨_, rfl⟩
  have Hb2 := hidIn hb2
  rw [hb2]
  clear hb2
  cases b2
  · go_wp2_with fail
    go_ret2
    exact ⟨.inr ⟨by rw [Hb1.out, Hb2.out]; rfl, rfl⟩, hbw2⟩
  obtain ⟨hbd, hed, h384⟩ := graphOk_bd Hb1.out
  have hn := hasN_iff.1 Hb2.out
  obtain ⟨m, rfl⟩ : ∃ m : Nat, n = (m : Int) := ⟨n.toNat, by have := hbd n hn; omega⟩
  have hmb := hbd _ hn
  have hm : m < 25 := by omega
  have hmi : (m : Int) < 25 := by omega
  have Hbd := hidIn hbd
  have Hed := hidIn hed
  have HI0 := hidIn (rInv_one (es := es) hbd hn)
  rw [Int.toNat_natCast] at HI0
  have Hn := hidIn hn
  clear hbd hed hn
  have hmk := make_met
  have hA3 := arr_new w2 4 (mcl no1)
  have bA3 : Below w2.heap.size w2 (w2.alloc (.cells (mcl no1).toArray 4)) := (Below.refl _ w2).alloc (Nat.le_refl _) _
  have HB3 := hidIn (HB2.out.trans (bA3.mono HB2.out.size))
  clear bA3 f0 f1 hbw2
  go_upto_region 4 with fail
  generalize w2.alloc (.cells (mcl no1).toArray 4) = W3 at *
  have hbm : W1.heap.size ≤ w2.heap.size := HB2.out.size
  generalize w2.heap.size = bm at *
  have mc := hA3.cell m
  rw [mcl_get _ hm] at mc
  have mf := hA3.frozen m
  have HA4 : Hid (Arr (W3.setCell ⟨bm, m, none⟩ (.bool true)) bm 4 (mcl (mk1 no1 m))) := hidIn (by rw [← mcl_set no1 hm]; exact hA3.set m _)
  have HB4 : Hid (Below W1.heap.size W1 (W3.setCell ⟨bm, m, none⟩ (.bool true))) := hidIn (HB3.out.setCell (p := ⟨bm, m, none⟩) hbm _)
  clear hA3 hmk
  go_upto_region 5 with fail
  generalize W3.setCell ⟨bm, m, none⟩ (.bool true) = W4 at *
  clear mc mf HB3
  go_wp2_with fail
  go_loopw [7] (fun i wr => ∃ r : Nat, r ≤ ns.length ∧ i = .int .i64 r ∧ Hid (∃ f, Arr wr bm 4 (mcl f) ∧ RInv ns es (m : Int) f r ∧ Below W1.heap.size W1 wr)) (fun i _ => ns.length - (intOf i).toNat)
  case atStart => exact ⟨0, Nat.zero_le _, rfl, hidIn ⟨_, HA4.out, HI0.out, HB4.out⟩⟩
  case round =>
    obtain ⟨r, hr, rfl, HR⟩ := hrel
    obtain ⟨f, hA, hI, hbel⟩ := HR.out
    clear HR HA4 HB4 HI0
    obtain ⟨⟨f0, f1⟩, hbw⟩ := HF.out wr hbel
    by_cases hlt : r < ns.length
    · have hri : (r : Int) < (ns.length : Int) := by omega
      have HA := hidIn hA
      have HI := hidIn hI
      have HB := hidIn hbel
      clear hA hI hbel
      generalize hwo : wr = wo at *
      clear hwo
      go_wp2_with fail
      clear f0 f1 hbw
      go_loopw [8] (fun i wr => ∃ k : Nat, k ≤ es.length ∧ i = .int .i64 k ∧ Hid (∃ g, Arr wr bm 4 (mcl g) ∧ RMid ns es (m : Int) f g k ∧ Below W1.heap.size W1 wr)) (fun i _ => es.length - (intOf i).toNat)
      case atStart => exact ⟨0, Nat.zero_le _, rfl, hidIn ⟨f, HA.out, HI.out.start, HB.out⟩⟩
      case round =>
        obtain ⟨k, hk, rfl, HR⟩ := hrel
        obtain ⟨g, hA, hM, hbel⟩ := HR.out
        clear HR
        obtain ⟨⟨f0, f1⟩, hbw⟩ := HF.out wr hbel
        by_cases hlt2 : k < es.length
        · obtain ⟨bk, o, rfl, hbk, hcell⟩ := Hea.out (by omega)
          obtain ⟨⟨x, y, c⟩, hz⟩ : ∃ z, es[k]? = some z := ⟨es[k], List.getElem?_eq_getElem hlt2⟩
          have hxy := Hed.out _ (List.mem_of_getElem? hz)
          simp only at hxy
          have hxb := Hbd.out _ hxy.1
          have hyb := Hbd.out _ hxy.2
          obtain ⟨p, rfl⟩ : ∃ p : Nat, x = (p : Int) := ⟨x.toNat, by omega⟩
          obtain ⟨q, rfl⟩ : ∃ q : Nat, y = (q : Int) := ⟨y.toNat, by omega⟩
          have hp : p < 25 := by omega
          have hq : q < 25 := by omega
          have hpi : (p : Int) < 25 := by omega
          have hqi : (q : Int) < 25 := by omega
          obtain ⟨q0, q1, q2⟩ := hcell k _ hz
          have c0 := (hbw.cell (p := ⟨bk, o + k * 3, none⟩) hbk).trans q0
          have c1 := (hbw.cell (p := ⟨bk, o + k * 3 + 1, none⟩) hbk).trans q1
          simp only at c0 c1
          have mc := hA.cell p
          rw [mcl_get _ hp] at mc
          have mq := hA.cell q
          rw [mcl_get _ hq] at mq
          have mf := hA.frozen q
          have hki : (k : Int) < (es.length : Int) := by omega
          have Hz := hidIn hz
          have HA2 := hidIn hA
          have HM := hidIn hM
          have HB2' := hidIn hbel
          clear hcell q0 q1 q2 hz hxy hxb hyb hA hM hbel hbw
          obtain ⟨b2, hb2⟩ : ∃ b2, g p = b2 := ⟨_, rfl⟩
          have Hg := hidIn hb2
          rw [hb2] at mc
          clear hb2
          cases b2
          · go_wp2_with fail
            go_roundw
            case rel => exact ⟨k + 1, by omega, by go_num, hidIn ⟨g, HA2.out, HM.out.no Hz.out (by simpa using Hg.out), HB2'.out⟩⟩
            case measure => simp [intOf]; omega
          · go_wp2_with fail
            go_roundw
            case rel =>
              have h7 := HM.out.yes Hbd.out Hed.out Hz.out (by simpa using Hg.out)
              simp only [Int.toNat_natCast] at h7
              exact ⟨k + 1, by omega, by go_num, hidIn ⟨mk1 g q, by rw [← mcl_set g hq]; exact HA2.out.set q _, h7, HB2'.out.setCell (p := ⟨bm, q, none⟩) hbm _⟩⟩
            case measure => simp [intOf]; omega
        · have hki : ¬ ((k : Int) < (es.length : Int)) := by omega
          have HA2 := hidIn hA
          have HI2 := hidIn (hM.stop HI.out (by omega))
          have HB2' := hidIn hbel
          clear hA hM hbel hbw
          go_wp2_with fail
          go_roundw
          case rel => exact ⟨r + 1, by omega, by go_num, hidIn ⟨g, HA2.out, HI2.out, HB2'.out⟩⟩
          case measure => simp [intOf]; omega
    · have hri : ¬ ((r : Int) < (ns.length : Int)) := by omega
      obtain rfl : r = ns.length := by omega
      have HP := hidIn (hI.part Hn.out Hed.out)
      have Hf0 : Hid (f 0 = false) := hidIn (by
        cases h0 : f 0 with
        | false => rfl
        | true => have := Hbd.out _ (hI.mem 0 h0); simp at this)
      have HA := hidIn hA
      have HB := hidIn hbel
      clear hA hI hbel hbw
      generalize hwo : wr = wo at *
      clear hwo
      go_wp2_with fail
      clear f0 f1
      go_loopw [9, 10] (fun u i wr => ∃ k : Nat, k ≤ 24 ∧ i = .int .i64 ((k : Int) + 1) ∧ Hid (wr.ownsRow wo.heap.size 3 1 u (upTo f (k + 1)).length (fl ic (upTo f (k + 1))) ∧ Arr wr bm 4 (mcl f) ∧ Below W1.heap.size W1 wr ∧ wo.heap.size ≤ wr.heap.size)) (fun _ i _ => 25 - (intOf i).toNat)
      case atStart =>
        refine ⟨0, by omega, rfl, hidIn ⟨?_, HA.out, HB.out, Nat.le_refl _⟩⟩
        rw [upTo_no Hf0.out]
        exact World.ownsRow_nil _ _ _ _
      case round =>
        obtain ⟨k, hk, rfl, HR⟩ := hrel
        obtain ⟨hrow, hA, hbel, hsz⟩ := HR.out
        clear HR
        obtain ⟨ua, ucap, rfl⟩ := row_shape hrow
        by_cases hlt2 : k < 24
        · have hki : (k : Int) + 1 ≤ 24 := by omega
          have hki2 : (k : Int) + 1 < 25 := by omega
          have mc := hA.cell (k + 1)
          rw [mcl_get _ (by omega)] at mc
          have hle := upTo_len f (k + 1)
          obtain ⟨b2, hb2⟩ : ∃ b2, f (k + 1) = b2 := ⟨_, rfl⟩
          rw [hb2] at mc
          cases b2
          · have HU := hidIn (upTo_no hb2)
            have HRow := hidIn hrow
            have HA2 := hidIn hA
            have HB3 := hidIn hbel
            clear hrow hA hbel hb2
            go_wp2_with fail
            go_roundw
            case rel => exact ⟨k + 1, by omega, by go_num, hidIn ⟨by rw [HU.out]; exact HRow.out, HA2.out, HB3.out, hsz⟩⟩
            case measure => simp [intOf]; omega
          · have HU := hidIn (upTo_yes hb2)
            obtain ⟨g, gcap, w6, hrun, hown, _, _, hb6⟩ := append_int hrow ((k + 1 : Nat) : Int) (by omega) hsz
            have e1 : ((k + 1 : Nat) : Int) = (k : Int) + 1 := by omega
            rw [e1] at hrun
            have HRun := hidIn hrun
            have HO := hidIn hown
            have HA6 := hidIn (hA.keep hb6 (by have := HA.out.lt; omega))
            have HB6 := hidIn (hbel.trans (hb6.mono HB.out.size))
            have HS6 := hidIn (Nat.le_trans hsz hb6.size)
            clear hrun hown hrow hA hbel hb6 hb2 e1
            obtain ⟨L, hL⟩ : ∃ L, upTo f (k + 1) = L := ⟨_, rfl⟩
            have HLL := hidIn hL
            rw [hL] at HRun HO hle ⊢
            clear hL
            go_wp2_with (refine l_append rfl _ _ 46 rfl HRun.out ?_)
            go_roundw
            case rel =>
              refine ⟨k + 1, by omega, by go_num, hidIn ⟨?_, HA6.out, HB6.out, HS6.out⟩⟩
              rw [HU.out, HLL.out, List.length_append]
              exact HO.out
            case measure => simp [intOf]; omega
        · have hke : k = 24 := by omega
          have hki : ¬ ((k : Int) + 1 ≤ 24) := by omega
          rw [hke] at hrow
          have HRow : Hid (wr.ownsRow w.heap.size 3 1 (.slice ua (upTo f (k + 1)).length ucap) (markedL f).length (fl ic (markedL f))) := hidIn (by
            have h7 := row_low hrow (show w.heap.size ≤ wo.heap.size by have := HB.out.size; omega)
            rw [hke]
            exact h7)
          have HBW := hidIn (HF.out wr hbel).2
          clear hrow hA hbel hke
          go_wp2_with fail
          go_returns
          exact ⟨.inl ⟨by rw [Hb1.out, Hb2.out]; rfl, f, _, HP.out, rfl, HRow.out⟩, HBW.out⟩
end Go.Proofs.Ytpdpdhnllmlfdaa
namespace Go.Proofs.Ytpdpdhnllmlfdaa
open Go.RowKit Go.Maps

theorem bothN_not {F : Rf} (hF : OkF F) {r : Int} (h : F r = none) : hasN (bothN (allR F 24)) r = false := by
  cases hq : hasN (bothN (allR F 24)) r with
  | false => rfl
  | true =>
    rw [hasN_iff] at hq
    unfold bothN at hq
    rw [mem_markedL] at hq
    obtain ⟨i, h1, h2, h3⟩ := hq
    rw [thereL_iff] at h2
    rcases h2 with h2 | ⟨g, hg, hi⟩
    · cases h2
    · unfold allR at hg
      obtain ⟨j, _, hj⟩ := List.mem_filterMap.1 hg
      have h4 := hF _ _ hj
      have h5 : r = (j : Int) + 1 := by omega
      rw [h5, hj] at h
      cases h
/-- What the document's Live answers. -/
def DlAns (w w' : World) (F : Rf) (root : Int) (e : Ending) : Prop :=
  ((F root).isSome = false ∧ e = .returned (.slice none 0 0)) ∨
    ((F root).isSome = true ∧ ∃ p u O, IsPart (bothE (allR F 24)) root p ∧ e = .returned u ∧ w'.ownsRow w.heap.size 28 6 u O.length (fl rcc O) ∧ rcs O = (markedL p).map (fun k => gD (F k)) ∧ ∀ x ∈ O, SlAt ac 2 w x.2 x.1.adjs)
set_option maxRecDepth 100000 in
set_option maxHeartbeats 4000000 in
theorem dlive_any {F : Rf} (hF : OkF F) {L : List (Rc × Value)} {v : Value} {w : World} (hR : RecsAt w v L) (hG : ∀ y ∈ L, RecG w y) (hL : rcs L = allR F 24) (hb : bothOk no1 (allR F 24) = true) (hgo : graphOk (bothN (allR F 24)) (bothE (allR F 24)) = true) (root : Int) :
    Calls Try.prog 24 #[v, .int .i64 root] w fun e w' => DlAns w w' F root e ∧ Below w.heap.size w w' := by
  have HBo := hidIn (rboth_any hR hG)
  have HG : Hid (∀ (x : Int) wq, Below w.heap.size w wq → Calls Try.prog 16 #[v, .int .i64 x] wq fun e w' => GdAns (fdR L x) e ∧ Below wq.heap.size wq w') := hidIn fun x wq hq => dget_any (hR.keep hq (Nat.le_refl _)) x
  have HA : Hid (∀ x, SlAt ac 2 w (uOf (fdR L x)) (rOf (fdR L x)).adjs) := hidIn fun x => by
    cases h : fdR L x with
    | none => exact slAt_of_row (cs := ac) (fun _ => rfl) (World.ownsRow_nil w 0 75 2) rfl
    | some y => exact hR.a y (List.mem_of_find?_eq_some h)
  have HFd : Hid (∀ x : Int, 1 ≤ x → x ≤ 24 → rOf (fdR L x) = gD (F x)) := hidIn fun x h1 h2 => by
    show gD ((fdR L x).map (·.1)) = gD (F x)
    rw [fdR_all hF hL h1 h2]
  have Hhas : Hid ((F root).isSome = true → hasN (bothN (allR F 24)) root = true) := hidIn fun hs => bothN_has (fun k g hg => by have h1 := hF k g hg; have h2 := recOk_pos h1.1; omega) hs
  have Hnot : Hid ((F root).isSome = false → hasN (bothN (allR F 24)) root = false) := hidIn fun hs => bothN_not hF (by cases h : F root with | none => rfl | some y => rw [h] at hs; cases hs)
  have Hgo := hidIn hgo
  have Hrl := hidIn hL
  have Hb := hidIn hb
  obtain ⟨va, lcap, rfl, _, _, _⟩ := hR.r.recs
  generalize L.length = LN at HBo HG ⊢
  clear hR hG hL hb hgo
  go_enter Try.func24, Try.ntmps24
  go_wp2_with fail
  refine HBo.out.mono ?_
  rintro e w2 ⟨h2, hb2⟩
  unfold BothAns at h2
  rw [Hrl.out] at h2
  rcases h2 with ⟨_, gu, gv, rfl, hru, hrv⟩ | ⟨h2, _⟩
  case inr =>
    rw [Hb.out] at h2
    cases h2
  have HGA : Hid (GrAt w2 gu gv (bothN (allR F 24)) (bothE (allR F 24))) := hidIn ⟨slAt_of_row (cs := ic) (fun _ => rfl) hru rfl, slAt_of_row (cs := ec) (fun _ => rfl) hrv rfl⟩
  obtain ⟨ga, gcap, rfl⟩ := row_shape hru
  obtain ⟨gb, gcap2, rfl⟩ := row_shape hrv
  have HB2 := hidIn hb2
  generalize (bothN (allR F 24)).length = NN at HGA ⊢
  generalize (bothE (allR F 24)).length = EE at HGA ⊢
  clear hru hrv hb2 HBo
  obtain ⟨W3, hW3⟩ : ∃ W3, w2.alloc (.cells #[.slice ga NN gcap, .slice gb EE gcap2] 49) = W3 := ⟨_, rfl⟩
  have b3 : Below w2.heap.size w2 W3 := by rw [← hW3]; exact (Below.refl _ w2).alloc (Nat.le_refl _) _
  have hX3 : W3.heap[w2.heap.size]? = some (.cells #[.slice ga NN gcap, .slice gb EE gcap2] 49) := by rw [← hW3]; exact heap_alloc_last w2 _
  have HPt := hidIn (rpart_any (HGA.out.keep b3 (Nat.le_refl _)) root)
  have HB3 := hidIn (HB2.out.trans (b3.mono HB2.out.size))
  have HW := hidIn hW3
  obtain ⟨b6, hb6⟩ : ∃ b6, w2.heap.size = b6 := ⟨_, rfl⟩
  rw [hb6] at hX3
  have x0 := cell_of_row _ _ 0 _ _ _ hX3
  have x1 := cell_of_row _ _ 1 _ _ _ hX3
  simp at x0 x1
  clear b3 hW3 HGA HB2 hX3
  go_upto_region 2 with fail
  rw [HW.out]
  clear HW hb6
  go_wp2_with fail
  refine HPt.out.mono ?_
  rintro e w5 ⟨h5, hb5⟩
  have HB5 := hidIn (HB3.out.trans (hb5.mono HB3.out.size))
  clear hb5 x0 x1 HB3 HPt
  rcases h5 with ⟨h5, p, up, hp, rfl, hrp⟩ | ⟨h5, rfl⟩
  · have Hsm : Hid ((F root).isSome = true) := hidIn (by
      cases hs : (F root).isSome with
      | true => rfl
      | false => rw [Hnot.out hs] at h5; simp at h5)
    obtain ⟨pa, pcap, rfl, hpl, _, hpc⟩ := (slAt_of_row (cs := ic) (fun _ => rfl) hrp rfl).ints
    have Hpc := hidIn hpc
    have Hp := hidIn hp
    have Hpm : Hid (∀ z ∈ markedL p, 1 ≤ z ∧ z ≤ 24) := hidIn fun z hz => by
      have h6 : root ∈ bothN (allR F 24) := hasN_iff.1 (Hhas.out Hsm.out)
      have h7 := part_mem h6 (graphOk_bd Hgo.out).2.1 hp hz
      exact (graphOk_bd Hgo.out).1 z h7
    have hm25 := markedL_len p
    obtain ⟨ML, hML⟩ : ∃ ML, (markedL p).length = ML := ⟨_, rfl⟩
    have HML := hidIn hML
    rw [hML] at Hpc hm25 hpl ⊢
    clear hrp hpc hp hML h5
    go_wp2_with fail
    go_loopw [8, 9] (fun u q wr => ∃ k : Nat, k ≤ ML ∧ q = .int .i64 k ∧ Hid (∃ O, wr.ownsRow w5.heap.size 28 6 u O.length (fl rcc O) ∧ rcs O = ((markedL p).take k).map (fun k => gD (F k)) ∧ (∀ x ∈ O, SlAt ac 2 w x.2 x.1.adjs) ∧ O.length = k ∧ Below w5.heap.size w5 wr)) (fun _ q _ => ML - (intOf q).toNat)
    case atStart => exact ⟨0, Nat.zero_le _, rfl, hidIn ⟨[], World.ownsRow_nil _ _ _ _, rfl, fun x hx => by simp at hx, rfl, Below.refl _ _⟩⟩
    case round =>
      obtain ⟨k, hk, rfl, HR2⟩ := hrel
      obtain ⟨O, hrow, hrs, hfr, hLk, hbel⟩ := HR2.out
      obtain ⟨oa, ocap, rfl⟩ := row_shape hrow
      rw [hLk] at hrow ⊢
      have Hrow := hidIn hrow
      have Hrs := hidIn hrs
      have Hfr := hidIn hfr
      have HBel := hidIn hbel
      have HLk := hidIn hLk
      clear HR2 hrow hrs hfr hbel hLk
      by_cases hlt : k < ML
      · have hki : (k : Int) < (ML : Int) := by omega
        obtain ⟨z, hz⟩ : ∃ z, (markedL p)[k]? = some z := ⟨(markedL p)[k]'(by rw [HML.out]; exact hlt), List.getElem?_eq_getElem _⟩
        have hz24 := Hpm.out z (List.mem_of_getElem? hz)
        obtain ⟨bk, o, rfl, hbk, hcell⟩ := Hpc.out (by omega)
        have p0 := (HBel.out.cell (p := ⟨bk, o + k, none⟩) hbk).trans (hcell k z hz)
        have HT : Hid (((markedL p).take (k + 1)).map (fun k => gD (F k)) = ((markedL p).take k).map (fun k => gD (F k)) ++ [gD (F z)]) := hidIn (by rw [List.take_add_one, hz]; simp)
        have Hro := hidIn (HFd.out z hz24.1 hz24.2)
        have Hu := hidIn (HA.out z)
        clear hz hz24 hcell hbk
        go_wp2_with fail
        refine (HG.out z wr (HB5.out.trans (HBel.out.mono HB5.out.size))).mono ?_
        rintro e w6 ⟨h6, hb6⟩
        unfold GdAns at h6
        subst h6
        obtain ⟨r, hr⟩ : ∃ r, rOf (fdR L z) = r := ⟨_, rfl⟩
        obtain ⟨uv, huv⟩ : ∃ uv, uOf (fdR L z) = uv := ⟨_, rfl⟩
        rw [hr, huv] at Hu
        rw [hr] at Hro
        rw [hr, huv]
        generalize (fdR L z).isSome = is
        clear hr huv
        obtain ⟨ua, ucap, rfl, _⟩ := id Hu.out
        obtain ⟨ro, re, rs, rc, ri, rl⟩ := r
        simp only at Hu Hro ⊢
        obtain ⟨rn, hrn⟩ : ∃ rn, rl.length = rn := ⟨_, rfl⟩
        rw [hrn] at Hu ⊢
        clear hrn
        obtain ⟨W7, hW7⟩ : ∃ W7, w6.alloc (.cells #[.int .i64 ro, .int .u32 re, .int .u32 rs, .int .i64 rc, .bool ri, .slice ua rn ucap] 28) = W7 := ⟨_, rfl⟩
        have b7 : Below w6.heap.size w6 W7 := by rw [← hW7]; exact (Below.refl _ w6).alloc (Nat.le_refl _) _
        have hX7 : W7.heap[w6.heap.size]? = some (.cells #[.int .i64 ro, .int .u32 re, .int .u32 rs, .int .i64 rc, .bool ri, .slice ua rn ucap] 28) := by rw [← hW7]; exact heap_alloc_last w6 _
        obtain ⟨b10, hb10⟩ : ∃ b10, w6.heap.size = b10 := ⟨_, rfl⟩
        rw [hb10] at hX7
        have x0 := cell_of_row _ _ 0 _ _ _ hX7
        have x1 := cell_of_row _ _ 1 _ _ _ hX7
        have x2 := cell_of_row _ _ 2 _ _ _ hX7
        have x3 := cell_of_row _ _ 3 _ _ _ hX7
        have x4 := cell_of_row _ _ 4 _ _ _ hX7
        have x5 := cell_of_row _ _ 5 _ _ _ hX7
        simp at x0 x1 x2 x3 x4 x5
        have hb67 := hb6.trans (b7.mono hb6.size)
        have HBel7 := HBel.out.trans (hb67.mono HBel.out.size)
        obtain ⟨gg, gcap3, w8, hrun, hown, hb8, _⟩ := append_recF (row_below Hrow.out hb67 (Nat.le_refl _)) (⟨ro, re, rs, rc, ri, rl⟩, .slice ua rn ucap) rfl (by omega) HBel7.size
        have HRun := hidIn hrun
        have HO : Hid (∃ O, w8.ownsRow w5.heap.size 28 6 (.slice (some ⟨gg, 0, none⟩) (k + 1) gcap3) O.length (fl rcc O) ∧ rcs O = ((markedL p).take (k + 1)).map (fun k => gD (F k)) ∧ (∀ x ∈ O, SlAt ac 2 w x.2 x.1.adjs) ∧ O.length = k + 1 ∧ Below w5.heap.size w5 w8) := hidIn (by
          have hl2 : (O ++ [((⟨ro, re, rs, rc, ri, rl⟩ : Rc), Value.slice ua rn ucap)]).length = k + 1 := by rw [List.length_append, HLk.out]; rfl
          refine ⟨O ++ [(⟨ro, re, rs, rc, ri, rl⟩, .slice ua rn ucap)], by rw [hl2]; exact hown, by rw [HT.out, ← Hrs.out, ← Hro.out]; simp, fun x hx => ?_, hl2, HBel7.trans hb8⟩
          rcases List.mem_append.1 hx with hx | hx
          · exact Hfr.out x hx
          · rw [List.mem_singleton.1 hx]
            exact Hu.out)
        have HW := hidIn hW7
        clear hrun hown hb8 HBel7 hb67 hb6 b7 hW7 hX7 p0
        go_upto_region 12 with fail
        rw [HW.out]
        clear HW hb10
        go_wp2_with (refine l_append rfl _ _ 22 rfl HRun.out ?_)
        go_roundw
        case rel => exact ⟨k + 1, by omega, by go_num, HO⟩
        case measure => simp [intOf]; omega
      · have hki : ¬ (k : Int) < (ML : Int) := by omega
        have HO : Hid (DlAns w wr F root (.returned (.slice oa k ocap)) ∧ Below w.heap.size w wr) := hidIn (by
          refine ⟨.inr ⟨Hsm.out, p, _, O, Hp.out, rfl, by rw [HLk.out]; exact row_low Hrow.out HB5.out.size, ?_, Hfr.out⟩, HB5.out.trans (HBel.out.mono HB5.out.size)⟩
          have := Hrs.out
          rwa [List.take_of_length_le (by have := HML.out; omega)] at this)
        clear Hrow Hrs Hfr HBel HLk
        go_wp2_with fail
        go_ret
        exact HO.out
  · have HO : Hid (DlAns w w5 F root (.returned (.slice none 0 0))) := hidIn (by
      refine .inl ⟨?_, rfl⟩
      cases hs : (F root).isSome with
      | false => rfl
      | true =>
        rw [Hgo.out, Hhas.out hs] at h5
        cases h5)
    clear h5
    go_wp2_with fail
    go_ret
    exact ⟨HO.out, HB5.out⟩
end Go.Proofs.Ytpdpdhnllmlfdaa
namespace Go.Proofs.Ytpdpdhnllmlfdaa
open Go.RowKit Go.Maps

/-- The store and the document's list, nothing of which is nil by half. -/
def Bes2 (wr : World) (S M n : Nat) (u : Value) (f : Sf) (L : List (Rc × Value)) : Prop := Besd wr S M n u f L ∧ ∀ y ∈ L, NilOk y.2
theorem Bes2.keep {w w' : World} {S M n : Nat} {u : Value} {f : Sf} {L : List (Rc × Value)} (h : Bes2 w S M n u f L) (hb : Below w.heap.size w w') : Bes2 w' S M n u f L := ⟨h.1.keep hb, h.2⟩
theorem Bes2.recG {w : World} {S M n : Nat} {u : Value} {f : Sf} {L : List (Rc × Value)} (h : Bes2 w S M n u f L) : ∀ y ∈ L, RecG w y := fun y hy => ⟨h.1.r.a y hy, h.2 y hy, (h.1.u y hy).1, (h.1.u y hy).2.2.1⟩
theorem cut20_len (r : Rc) : (cut20 r).adjs.length ≤ 20 := by show (r.adjs.take 20).length ≤ 20; rw [List.length_take]; omega
set_option maxRecDepth 100000 in
set_option maxHeartbeats 8000000 in
theorem storePlays_walk {l : List (Rc × Value)} {v : Value} {root : Int} {w : World} (hR : RecsAt w v l) (hg : ∀ y ∈ l, RecB w y) (hk : (Lit.int .i64 root).wf = true) :
    Calls Try.prog 3 #[v, .int .i64 root] w fun e w' => e = .returned (.bool true) ∧ Below w.heap.size w w' := by
  obtain ⟨va, lcap, rfl, hl, _, hat⟩ := hR.r.recs
  obtain ⟨LL, hLL⟩ : ∃ LL, l.length = LL := ⟨_, rfl⟩
  rw [hLL] at hat hl ⊢
  have Hat := hidIn hat
  have Hg := hidIn hg
  have HLL := hidIn hLL
  have Hk := hidIn hk
  clear hat hg hLL hR hk
  go_enter Try.func3, Try.ntmps3
  go_wp2_with fail
  refine (snew_any _).mono ?_
  rintro e w1 ⟨⟨S, M, rfl, h1, hS, hM⟩, hb1⟩
  have H1 := hidIn h1
  have HB1 := hidIn hb1
  have HSM := hidIn (And.intro hS hM)
  clear h1 hb1 hS hM
  go_wp2_with fail
  go_loopw [6, 7] (fun u i wr => ∃ k : Nat, k ≤ LL ∧ k ≤ 30 ∧ i = .int .i64 k ∧ Hid (∃ f L, Bes2 wr S M k u f L ∧ Below w.heap.size w wr)) (fun _ i _ => LL - (intOf i).toNat)
  case atStart => exact ⟨0, Nat.zero_le _, by omega, rfl, hidIn ⟨_, [], ⟨⟨H1.out, ⟨slAt_of_row (cs := rcc) (fun _ => rfl) (World.ownsRow_nil w1 0 28 6) rfl, fun x hx => by simp at hx⟩, by rfl, fun x hx => by simp at hx⟩, fun x hx => by simp at hx⟩, HB1.out⟩⟩
  case round =>
    clear H1 HB1
    obtain ⟨k, hk, hk30, rfl, HR⟩ := hrel
    by_cases hlt : k < LL ∧ k < 30
    · have hki : (k : Int) < (LL : Int) := by omega
      have hk3 : (k : Int) < 30 := by omega
      obtain ⟨f, L, hbs, hbel⟩ := HR.out
      obtain ⟨ua, ucap, hue, _⟩ := hbs.1.r.r
      obtain ⟨bk, o, rfl, hbk, hcell⟩ := Hat.out (by omega)
      obtain ⟨⟨⟨s0, s1, s2, s3, s4, as'⟩, va⟩, hz⟩ : ∃ z, l[k]? = some z := ⟨l[k]'(by rw [HLL.out]; exact hlt.1), List.getElem?_eq_getElem _⟩
      obtain ⟨⟨hva, hvn, hp1, hp2⟩, hp3, hp4, hwf⟩ := Hg.out _ (List.mem_of_getElem? hz)
      simp only at hva hvn hp1 hp2 hp3 hp4 hwf
      have HCell : Hid (∀ wq, Below w.heap.size w wq → wq.cell? ⟨bk, o + k * 6, none⟩ = some (.int .i64 s0) ∧ wq.cell? ⟨bk, o + k * 6 + 1, none⟩ = some (.int .u32 s1) ∧ wq.cell? ⟨bk, o + k * 6 + 2, none⟩ = some (.int .u32 s2) ∧ wq.cell? ⟨bk, o + k * 6 + 3, none⟩ = some (.int .i64 s3) ∧ wq.cell? ⟨bk, o + k * 6 + 4, none⟩ = some (.bool s4) ∧ wq.cell? ⟨bk, o + k * 6 + 5, none⟩ = some va) := hidIn fun wq hq => by
        obtain ⟨p0, p1, p2, p3, p4, p5⟩ := hcell k _ hz
        exact ⟨(hq.cell (p := ⟨bk, o + k * 6, none⟩) hbk).trans p0, (hq.cell (p := ⟨bk, o + k * 6 + 1, none⟩) hbk).trans p1, (hq.cell (p := ⟨bk, o + k * 6 + 2, none⟩) hbk).trans p2, (hq.cell (p := ⟨bk, o + k * 6 + 3, none⟩) hbk).trans p3, (hq.cell (p := ⟨bk, o + k * 6 + 4, none⟩) hbk).trans p4, (hq.cell (p := ⟨bk, o + k * 6 + 5, none⟩) hbk).trans p5⟩
      have HOw : Hid (∀ wq, Below w.heap.size w wq → Calls Try.prog 6 #[recV ⟨s0, s1, s2, s3, s4, as'⟩ va] wq fun e w' => CpAns wq w' (cut20 ⟨s0, s1, s2, s3, s4, as'⟩) e ∧ Below wq.heap.size wq w') := hidIn fun wq hq => owned_any (r := ⟨s0, s1, s2, s3, s4, as'⟩) (hva.keep hq (Nat.le_refl _)) hvn
      have HU : Hid (U32 (cut20 ⟨s0, s1, s2, s3, s4, as'⟩)) := hidIn ⟨hp1, hp3, hp2, hp4⟩
      have HL20 := hidIn (cut20_len ⟨s0, s1, s2, s3, s4, as'⟩)
      obtain ⟨aa, acap, rfl, _⟩ := hva
      rw [hue] at hbs ⊢
      have Hbs := hidIn hbs
      have HBel := hidIn hbel
      have Hwf := hidIn hwf
      generalize as'.length = an at HCell HOw
      obtain ⟨r, hr⟩ : ∃ r, cut20 ⟨s0, s1, s2, s3, s4, as'⟩ = r := ⟨_, rfl⟩
      rw [hr] at HOw HU HL20
      clear hbs hbel HR hcell hz hvn hp1 hp2 hp3 hp4 hbk hue hr hwf
      generalize L.length = nl at Hbs ⊢
      obtain ⟨p0, p1, p2, p3, p4, p5⟩ := HCell.out _ HBel.out
      go_wp2_with fail
      refine (HOw.out _ HBel.out).mono ?_
      rintro e w1 ⟨⟨a1, c1, rfl, hs1, hn1, hf1⟩, hb1⟩
      obtain ⟨ro, re, rs, rc, ri, rl⟩ := r
      simp only at hs1 HL20 ⊢
      have hsp := SpOk.of hs1 hf1 (by have := HL20.out; omega)
      obtain ⟨rn, hrn⟩ : ∃ rn, rl.length = rn := ⟨_, rfl⟩
      rw [hrn] at hs1 hsp ⊢
      have Hrn := hidIn hrn
      obtain ⟨W2, hW2⟩ : ∃ W2, w1.alloc (.cells #[.int .i64 ro, .int .u32 re, .int .u32 rs, .int .i64 rc, .bool ri, .slice a1 rn c1] 28) = W2 := ⟨_, rfl⟩
      have hb2 : Below w1.heap.size w1 W2 := by rw [← hW2]; exact (Below.refl _ w1).alloc (Nat.le_refl _) _
      have hX2 : W2.heap[w1.heap.size]? = some (.cells #[.int .i64 ro, .int .u32 re, .int .u32 rs, .int .i64 rc, .bool ri, .slice a1 rn c1] 28) := by rw [← hW2]; exact heap_alloc_last w1 _
      have b02 := hb1.trans (hb2.mono hb1.size)
      have HPu : Hid (Calls Try.prog 7 #[ptr S, .agg #[.int .i64 ro, .int .u32 re, .int .u32 rs, .int .i64 rc, .bool ri, .slice a1 rn c1]] W2 fun e w' => PutAns W2 w' S M k f ⟨ro, re, rs, rc, ri, rl⟩ e) := hidIn (sput_any (r := ⟨ro, re, rs, rc, ri, rl⟩) (Hbs.out.1.s.keep b02) (by omega) (hs1.keep hb2 (Nat.le_refl _)) ⟨HU.out.1, HU.out.2.2.1⟩)
      obtain ⟨b8, hb8⟩ : ∃ b8, w1.heap.size = b8 := ⟨_, rfl⟩
      rw [hb8] at hX2
      have x0 := cell_of_row _ _ 0 _ _ _ hX2
      have x1 := cell_of_row _ _ 1 _ _ _ hX2
      have x2 := cell_of_row _ _ 2 _ _ _ hX2
      have x3 := cell_of_row _ _ 3 _ _ _ hX2
      have x4 := cell_of_row _ _ 4 _ _ _ hX2
      have x5 := cell_of_row _ _ 5 _ _ _ hX2
      simp at x0 x1 x2 x3 x4 x5
      have HX2 := hidIn hX2
      have HW := hidIn hW2
      have Hb1 := hidIn hb1
      have Hb2 := hidIn hb2
      have Hf1 : Hid (Fresh wr w1 a1) := hidIn hf1
      have Hsp := hidIn (hsp.keepB hb2)
      clear hs1 hn1 hf1 hb1 hsp hrn hW2 hb2 hX2 b02 p0 p1 p2 p3 p4 p5
      go_upto_region 9 with fail
      rw [HW.out]
      clear HW
      go_wp2_with fail
      refine HPu.out.mono ?_
      rintro e w3 h3
      have he3 := h3.1
      subst he3
      have hX3 := (h3.2.1.block b8 (block_lt HX2.out) (fun e => by
        obtain ⟨es, cl, hm⟩ := (Hbs.out.1.s.keep (Hb1.out.trans (Hb2.out.mono Hb1.out.size))).m.isMap
        rw [← e, HX2.out] at hm
        cases hm)).trans HX2.out
      have HSp3 : Hid (SpOk w3 a1 rn) := hidIn (by
        refine ⟨Hsp.out.1, fun hp => ?_⟩
        obtain ⟨g, cur, e1, e2, e3⟩ := Hsp.out.2 hp
        refine ⟨g, cur, e1, (h3.2.1.block g (block_lt e2) (fun e => ?_)).trans e2, e3⟩
        obtain ⟨es, cl, hm⟩ := (Hbs.out.1.s.keep (Hb1.out.trans (Hb2.out.mono Hb1.out.size))).m.isMap
        rw [← e, e2] at hm
        cases hm)
      have H3 := hidIn h3
      have y0 := cell_of_row _ _ 0 _ _ _ hX3
      have y1 := cell_of_row _ _ 1 _ _ _ hX3
      have y2 := cell_of_row _ _ 2 _ _ _ hX3
      have y3 := cell_of_row _ _ 3 _ _ _ hX3
      have y4 := cell_of_row _ _ 4 _ _ _ hX3
      have y5 := cell_of_row _ _ 5 _ _ _ hX3
      simp at y0 y1 y2 y3 y4 y5
      have HSpo := hidIn (spoil_any (r := ⟨ro, re, rs, rc, ri, rl⟩) (c := c1) HSp3.out)
      rw [putN_fR] at *
      generalize hpn : pnR (fR f) ⟨ro, re, rs, rc, ri, rl⟩ = pn at *
      obtain ⟨ck, hck⟩ : ∃ ck, ckN ⟨ro, re, rs, rc, ri, rl⟩ = ck := ⟨_, rfl⟩
      rw [hck]
      have Hck := hidIn (And.intro hpn hck)
      clear h3 hX3 x0 x1 x2 x3 x4 x5 HX2 HPu Hsp hpn hck HSp3
      go_wp2_with fail
      refine HSpo.out.mono ?_
      rintro e w4 ⟨⟨e4, rfl⟩, h4⟩
      obtain ⟨f', hst4, hf4, hfr4⟩ := put_spoil Hbs.out.1.s Hb1.out Hb2.out Hf1.out H3.out h4
      have HB4 := hidIn (HBel.out.trans (hfr4.below HBel.out.size (fun j hj => by have := HSM.out.2; have := HBel.out.size; omega)))
      have Hs4 := hidIn hst4
      have He4 := hidIn hf4
      have Hr4 := hidIn (Hbs.out.1.r.frM hfr4 Hbs.out.1.s.m.isMap)
      have Hrest := hidIn (And.intro Hbs.out.1.a (And.intro Hbs.out.1.u (And.intro Hbs.out.1.s.okF (And.intro Hbs.out.1.len Hbs.out.2))))
      clear h4 hst4 hf4 hfr4 HSpo H3 Hb1 Hb2 Hf1 Hbs HBel y0 y1 y2 y3 y4 y5 hb8
      obtain ⟨p0, p1, p2, p3, p4, p5⟩ := HCell.out _ HB4.out
      go_wp2_with fail
      refine (HOw.out _ HB4.out).mono ?_
      rintro e w5 ⟨⟨a5, c5, rfl, hsl5, hnl5, _⟩, hb5⟩
      have HB5 := hidIn (HB4.out.trans (hb5.mono HB4.out.size))
      have Hs5 := hidIn (Hs4.out.keep hb5)
      have Hr5 := hidIn (Hr4.out.keep hb5 (Nat.le_refl _))
      simp only at hsl5 hnl5 ⊢
      rw [Hrn.out] at hsl5 hnl5 ⊢
      have Hv5 : Hid (SlAt ac 2 w5 (.slice a5 rn c5) rl) := hidIn hsl5
      have Hn5 := hidIn hnl5
      have HD := hidIn (dput9_any (r := ⟨ro, re, rs, rc, ri, rl⟩) Hr5.out hsl5 HU.out Hrest.out.2.1 Hrest.out.2.2.2.1)
      clear hsl5 hnl5 hb5 Hs4 Hr4 HB4 p0 p1 p2 p3 p4 p5
      go_wp2_with fail
      refine HD.out.mono ?_
      rintro e w6 ⟨h6, hb6⟩
      obtain ⟨u', m6, L', rfl, hm6, hbs6, hL6⟩ := put_both Hs5.out He4.out Hr5.out Hrest.out.1 Hrest.out.2.1 Hrest.out.2.2.1 Hv5.out HU.out h6 hb6
      rw [Hck.out.1] at hm6
      subst hm6
      rw [Hck.out.2]
      have HB6 := hidIn (HB5.out.trans (hb6.mono HB5.out.size))
      have hbs62 : Bes2 w6 S M (k + 1) u' f' L' := ⟨hbs6, by
        rcases hL6 with ⟨_, rfl⟩ | ⟨rfl, _⟩
        · exact Hrest.out.2.2.2.2
        · intro y hy
          rcases insP_mem _ _ _ _ hy with rfl | hy
          · exact Hn5.out
          · exact Hrest.out.2.2.2.2 y hy⟩
      obtain ⟨ua', ucap', hue', _⟩ := id hbs6.r.r
      rw [hue'] at hbs62 ⊢
      have Hbs6 := hidIn hbs62
      have hL24 := hbs6.len
      clear h6 hb6 hbs6 hbs62 hL6 HD Hs5 Hr5 Hv5 Hn5 Hrest HB5 hue' He4
      obtain ⟨nl', hnl'⟩ : ∃ nl', L'.length = nl' := ⟨_, rfl⟩
      rw [hnl'] at Hbs6 hL24 ⊢
      clear hnl'
      have HAll := hidIn (sall_any Hbs6.out.1.s)
      rw [allL_fR] at HAll
      go_wp2_with fail
      refine HAll.out.mono ?_
      rintro e w7 ⟨⟨u7, L7, rfl, hr7, hl7, hf7⟩, hb7⟩
      have HTd : Hid (ToldM w6 w7 u7 L7) := hidIn ⟨hr7, fun x hx => by
        obtain ⟨a, c, e1, e2, _, e4⟩ := hf7 x hx
        rw [e1] at e2
        have h9 : x.1.adjs.length ≤ 1000 := by
          have h8 : x.1 ∈ allR (fR f') 24 := by rw [← hl7]; exact List.mem_map_of_mem hx
          obtain ⟨kk, hkk⟩ := allR_of h8
          have := (recOk_parts (Hbs6.out.1.s.okF kk _ hkk).1).2.1
          omega
        exact ⟨a, c, e1, SpOk.of e2 e4 h9, fun p hp => by obtain ⟨g, rfl, hg, _⟩ := e4 p hp; exact hg⟩, hb7⟩
      have HRec7 : Hid (RecsAt w7 u7 L7) := hidIn ⟨slAt_of_row (cs := rcc) (fun _ => rfl) hr7 rfl, fun x hx => by obtain ⟨_, _, _, e2, _⟩ := hf7 x hx; exact e2⟩
      have HSa := hidIn (sameAll_yes HRec7.out (Hbs6.out.1.r.keep hb7 (Nat.le_refl _)) (by rw [hl7]; exact Hbs6.out.1.a.symm))
      obtain ⟨ca, ccap, rfl⟩ := row_shape hr7
      have h725 : L7.length ≤ 24 := by
        have h8 : (rcs L7).length = L7.length := List.length_map _
        rw [← h8, hl7]
        exact allL_len f' 24
      obtain ⟨n7, hn7⟩ : ∃ n7, L7.length = n7 := ⟨_, rfl⟩
      have Hn7 := hidIn hn7
      rw [hn7] at HTd HSa h725 ⊢
      have Hb67 := hidIn hb7
      clear hr7 hl7 hf7 hb7 HAll HRec7 hn7
      go_wp2_with fail
      refine HSa.out.mono ?_
      rintro e w8 ⟨rfl, hb8⟩
      have HTd8 := hidIn (HTd.out.keep hb8)
      have HSt := hidIn (sstamps_any (Hbs6.out.1.s.keep HTd8.out.2.2))
      rw [allL_fR] at HSt
      clear HSa HTd hb8 Hb67
      go_wp2_with fail
      refine HSt.out.mono ?_
      rintro e w9 ⟨⟨u9, rfl, hr9⟩, hb9⟩
      have HTd9 := hidIn (HTd8.out.keep hb9)
      have HSl9 := hidIn (slAt_of_row (cs := sc3) (fun _ => rfl) hr9 rfl)
      obtain ⟨da, dcap, rfl⟩ := row_shape hr9
      have HDs := hidIn (dstamps9_any (Hbs6.out.1.r.keep HTd9.out.2.2 (Nat.le_refl _)) (by have := Hbs6.out.1.len; omega))
      rw [Hbs6.out.1.a] at HDs
      obtain ⟨TT, hTT⟩ : ∃ TT, (allR (fR f') 24).map stOf = TT := ⟨_, rfl⟩
      rw [hTT] at HSl9 HDs ⊢
      generalize TT.length = tl at HSl9 ⊢
      clear hr9 hb9 HTd8 HSt hTT
      go_wp2_with fail
      refine HDs.out.mono ?_
      rintro e w10 ⟨⟨u10, rfl, hr10⟩, hb10⟩
      have HTd10 := hidIn (HTd9.out.keep hb10)
      have HSm := hidIn (sameStamps_yes (HSl9.out.keep hb10 (Nat.le_refl _)) (slAt_of_row (cs := sc3) (fun _ => rfl) hr10 rfl))
      obtain ⟨fa, fcap, rfl⟩ := row_shape hr10
      generalize TT.length = tl2 at HSm ⊢
      clear hr10 hb10 HTd9 HSl9 HDs
      go_wp2_with fail
      refine HSm.out.mono ?_
      rintro e w11 ⟨rfl, hb11⟩
      have HTd11 := hidIn (HTd10.out.keep hb11)
      clear hb11 HTd10 HSm
      go_wp2_with fail
      go_loopw [14] (fun q wr => ∃ j : Nat, j ≤ n7 ∧ q = .int .i64 j ∧ Hid (ToldM w6 wr (.slice ca n7 ccap) L7)) (fun q _ => n7 - (intOf q).toNat)
      case atStart => exact ⟨0, Nat.zero_le _, rfl, HTd11⟩
      case round =>
        clear HTd11
        obtain ⟨j, hj, rfl, HI⟩ := hrel
        by_cases hjk : j < n7
        · have hji : (j : Int) < (n7 : Int) := by omega
          obtain ⟨x, hx⟩ : ∃ x, L7[j]? = some x := ⟨L7[j]'(by rw [Hn7.out]; exact hjk), List.getElem?_eq_getElem _⟩
          obtain ⟨a', cap', he', _, _, hat'⟩ := (slAt_of_row (cs := rcc) (fun _ => rfl) HI.out.1 rfl).recs
          simp only [Value.slice.injEq] at he'
          obtain ⟨rfl, hn', rfl⟩ := he'
          obtain ⟨bq, oq, rfl, hbq, hcq⟩ := hat' (by omega)
          obtain ⟨q0, q1, q2, q3, q4, q5⟩ := hcq j x hx
          obtain ⟨xa, xc, e1, e2, e3⟩ := HI.out.2.1 x (List.mem_of_getElem? hx)
          rw [e1] at q5
          have HSpo := hidIn (spoil_any (r := x.1) (c := xc) e2)
          have He3 := hidIn e3
          obtain ⟨⟨t0, t1, t2, t3, t4, tl'⟩, xv⟩ := x
          simp only at q0 q1 q2 q3 q4 q5 HSpo
          generalize tl'.length = tn at q5 HSpo
          clear hx hat' hcq e1 e2 e3 hn'
          go_wp2_with fail
          refine HSpo.out.mono ?_
          rintro e wq ⟨⟨eq, rfl⟩, hq⟩
          have HO := hidIn (HI.out.spl hq He3.out)
          clear hq HSpo q0 q1 q2 q3 q4 q5 HI He3
          go_wp2_with fail
          go_roundw
          case rel => exact ⟨j + 1, by omega, by go_num, HO⟩
          case measure => simp [intOf]; omega
        · have hji : ¬ (j : Int) < (n7 : Int) := by omega
          obtain ⟨w12, rfl⟩ : ∃ w12, w12 = wr := ⟨_, rfl⟩
          have Hb612 := hidIn HI.out.2.2
          have HB12 := hidIn (HB6.out.trans (Hb612.out.mono HB6.out.size))
          have Hbs12 := hidIn (Hbs6.out.keep Hb612.out)
          clear HI
          obtain ⟨p0, _, _, _, _, _⟩ := HCell.out _ HB12.out
          have HGt := hidIn (sget_any Hbs12.out.1.s Hwf.out)
          have Hfd := hidIn (fdR_any Hbs12.out.1.s.okF Hbs12.out.1.a s0)
          go_wp2_with fail
          refine HGt.out.mono ?_
          rintro e w13 ⟨⟨xa, xc, rfl, hsx, hnx, hfx⟩, hb13⟩
          have Hro : Hid (rOf (fdR L' s0) = rOf (f' s0) ∧ (fdR L' s0).isSome = (f' s0).isSome) := hidIn (by
            have h9 := Hfd.out
            have h8 : fR f' s0 = (f' s0).map (·.1) := rfl
            rw [h8] at h9
            refine ⟨?_, ?_⟩
            · show ((fdR L' s0).map (·.1)).getD rc0 = ((f' s0).map (·.1)).getD rc0
              rw [h9]
            · have := congrArg Option.isSome h9
              simpa using this)
          have hxl : (rOf (f' s0)).adjs.length ≤ 1000 := by have := (Hbs12.out.1.s.u s0).2.1; omega
          have hspx := SpOk.of hsx hfx hxl
          have hfxb : ∀ p, xa = some p → w12.heap.size ≤ p.block := fun p hp => by obtain ⟨g, rfl, hg, _⟩ := hfx p hp; exact hg
          obtain ⟨xr, hxr⟩ : ∃ xr, rOf (f' s0) = xr := ⟨_, rfl⟩
          rw [hxr] at hsx hspx Hro ⊢
          generalize (f' s0).isSome = xb at Hro ⊢
          obtain ⟨xo, xe, xs, xcl, xi, xl⟩ := xr
          simp only at hsx hspx ⊢
          obtain ⟨xn, hxn⟩ : ∃ xn, xl.length = xn := ⟨_, rfl⟩
          rw [hxn] at hsx hspx ⊢
          obtain ⟨W14, hW14⟩ : ∃ W14, w13.alloc (.cells #[.int .i64 xo, .int .u32 xe, .int .u32 xs, .int .i64 xcl, .bool xi, .slice xa xn xc] 28) = W14 := ⟨_, rfl⟩
          have hb14 : Below w13.heap.size w13 W14 := by rw [← hW14]; exact (Below.refl _ w13).alloc (Nat.le_refl _) _
          have hX14 : W14.heap[w13.heap.size]? = some (.cells #[.int .i64 xo, .int .u32 xe, .int .u32 xs, .int .i64 xcl, .bool xi, .slice xa xn xc] 28) := by rw [← hW14]; exact heap_alloc_last w13 _
          have b1214 := hb13.trans (hb14.mono hb13.size)
          have HB14 := hidIn (HB12.out.trans (b1214.mono HB12.out.size))
          have Hbs14 := hidIn (Hbs12.out.keep b1214)
          have Hsx14 : Hid (SlAt ac 2 W14 (.slice xa xn xc) xl) := hidIn (hsx.keep hb14 (Nat.le_refl _))
          have Hsp14 := hidIn (hspx.keepB hb14)
          have Hfxb := hidIn hfxb
          have Hb12 := hidIn b1214
          obtain ⟨b15, hb15⟩ : ∃ b15, w13.heap.size = b15 := ⟨_, rfl⟩
          rw [hb15] at hX14
          have HX14 := hidIn hX14
          have HW := hidIn hW14
          clear hsx hnx hfx hb13 hxl hspx hfxb hxr hxn hW14 hb14 hX14 b1214 HGt p0 Hbs12 HB12
          go_upto_region 24 with fail
          rw [HW.out]
          clear HW hb15
          obtain ⟨p0, _, _, _, _, _⟩ := HCell.out _ HB14.out
          have HGd := hidIn (dget_any Hbs14.out.1.r s0)
          go_wp2_with fail
          refine HGd.out.mono ?_
          rintro e w15 ⟨h15, hb15⟩
          unfold GdAns at h15
          subst h15
          have hyS : SlAt ac 2 w15 (uOf (fdR L' s0)) (rOf (fdR L' s0)).adjs := by
            cases hq : fdR L' s0 with
            | none => exact slAt_of_row (cs := ac) (fun _ => rfl) (World.ownsRow_nil w15 0 75 2) rfl
            | some y => exact (Hbs14.out.1.r.a y (List.mem_of_find?_eq_some hq)).keep hb15 (Nat.le_refl _)
          rw [Hro.out.1] at hyS ⊢
          rw [Hro.out.2]
          generalize uOf (fdR L' s0) = yv at hyS ⊢
          obtain ⟨ya, yc, rfl, _⟩ := id hyS
          simp only at hyS ⊢
          obtain ⟨yn, hyn⟩ : ∃ yn, xl.length = yn := ⟨_, rfl⟩
          rw [hyn] at hyS ⊢
          obtain ⟨W16, hW16⟩ : ∃ W16, w15.alloc (.cells #[.int .i64 xo, .int .u32 xe, .int .u32 xs, .int .i64 xcl, .bool xi, .slice ya yn yc] 28) = W16 := ⟨_, rfl⟩
          have hb16 : Below w15.heap.size w15 W16 := by rw [← hW16]; exact (Below.refl _ w15).alloc (Nat.le_refl _) _
          have hX16 : W16.heap[w15.heap.size]? = some (.cells #[.int .i64 xo, .int .u32 xe, .int .u32 xs, .int .i64 xcl, .bool xi, .slice ya yn yc] 28) := by rw [← hW16]; exact heap_alloc_last w15 _
          have b1416 := hb15.trans (hb16.mono hb15.size)
          have HX16 := hidIn ((b1416.block _ (block_lt HX14.out)).trans HX14.out)
          have Hsp16 := hidIn (Hsp14.out.keepB b1416)
          have HSame : Hid (Calls Try.prog 17 #[.agg #[.int .i64 xo, .int .u32 xe, .int .u32 xs, .int .i64 xcl, .bool xi, .slice xa xn xc], .agg #[.int .i64 xo, .int .u32 xe, .int .u32 xs, .int .i64 xcl, .bool xi, .slice ya yn yc]] W16 fun e w' => e = .returned (.bool true) ∧ Below W16.heap.size W16 w') := hidIn (by
            have := dsame_any (r := ⟨xo, xe, xs, xcl, xi, xl⟩) (s := ⟨xo, xe, xs, xcl, xi, xl⟩) (Hsx14.out.keep b1416 (Nat.le_refl _)) (hyS.keep hb16 (Nat.le_refl _))
            rwa [sameB_self] at this)
          have Hb1216 := hidIn (Hb12.out.trans (b1416.mono Hb12.out.size))
          obtain ⟨b17, hb17⟩ : ∃ b17, w15.heap.size = b17 := ⟨_, rfl⟩
          rw [hb17] at hX16
          have z0 := cell_of_row _ _ 0 _ _ _ hX16
          have z1 := cell_of_row _ _ 1 _ _ _ hX16
          have z2 := cell_of_row _ _ 2 _ _ _ hX16
          have z3 := cell_of_row _ _ 3 _ _ _ hX16
          have z4 := cell_of_row _ _ 4 _ _ _ hX16
          have z5 := cell_of_row _ _ 5 _ _ _ hX16
          simp at z0 z1 z2 z3 z4 z5
          have x0 := cell_of_row _ _ 0 _ _ _ HX16.out
          have x1 := cell_of_row _ _ 1 _ _ _ HX16.out
          have x2 := cell_of_row _ _ 2 _ _ _ HX16.out
          have x3 := cell_of_row _ _ 3 _ _ _ HX16.out
          have x4 := cell_of_row _ _ 4 _ _ _ HX16.out
          have x5 := cell_of_row _ _ 5 _ _ _ HX16.out
          simp at x0 x1 x2 x3 x4 x5
          have HW := hidIn hW16
          clear hyS hyn hW16 hb16 hX16 b1416 hb15 HGd p0 Hsx14 Hsp14 HX14 Hb12 HB14 Hbs14
          go_upto_region 25 with fail
          rw [HW.out]
          clear HW hb17
          cases xb
          all_goals
            go_wp2_with fail
            refine HSame.out.mono ?_
            rintro e w17 ⟨rfl, hb17⟩
            have hX17 := (hb17.block _ (block_lt HX16.out)).trans HX16.out
            have v0 := cell_of_row _ _ 0 _ _ _ hX17
            have v1 := cell_of_row _ _ 1 _ _ _ hX17
            have v2 := cell_of_row _ _ 2 _ _ _ hX17
            have v3 := cell_of_row _ _ 3 _ _ _ hX17
            have v4 := cell_of_row _ _ 4 _ _ _ hX17
            have v5 := cell_of_row _ _ 5 _ _ _ hX17
            simp at v0 v1 v2 v3 v4 v5
            have HSpo := hidIn (spoil_any (r := ⟨xo, xe, xs, xcl, xi, xl⟩) (c := xc) (Hsp16.out.keepB hb17))
            have Hb1217 := hidIn (Hb1216.out.trans (hb17.mono Hb1216.out.size))
            clear x0 x1 x2 x3 x4 x5 z0 z1 z2 z3 z4 z5 hX17 hb17 HSame HX16 Hsp16 Hb1216
            go_wp2_with fail
            refine HSpo.out.mono ?_
            rintro e w18 ⟨⟨e18, rfl⟩, h18⟩
            have hb1218 : Below w12.heap.size w12 w18 := Hb1217.out.trans (h18.1.below Hb1217.out.size (fun j hj => by obtain ⟨_, p, hp, rfl⟩ := hj; exact Hfxb.out p hp))
            have hb618 := Hb612.out.trans (hb1218.mono Hb612.out.size)
            have HO : Hid (∃ f L, Bes2 w18 S M (k + 1) (.slice ua' nl' ucap') f L ∧ Below w.heap.size w w18) := hidIn ⟨f', L', Hbs6.out.keep hb618, HB6.out.trans (hb618.mono HB6.out.size)⟩
            clear h18 hb1218 hb618 HSpo Hb1217 v0 v1 v2 v3 v4 v5
            go_wp2_with fail
            go_roundw
            case rel => exact ⟨k + 1, by omega, by omega, by go_num, HO⟩
            case measure => simp [intOf]; omega
    · obtain ⟨f, L, hbs, hbel⟩ := HR.out
      obtain ⟨ua, ucap, hue, _⟩ := hbs.1.r.r
      obtain ⟨wa, rfl⟩ : ∃ wa, wa = wr := ⟨_, rfl⟩
      rw [hue] at hbs ⊢
      have HOk := hidIn hbs.1.s.okF
      have Hbs := hidIn hbs
      have HBel := hidIn hbel
      have HUn := hidIn (unl_all hbs.1.s)
      have HRL := hidIn hbs.1.a
      have HGr := hidIn (sgraph_any hbs.1.s)
      clear hbs hbel HR hue
      generalize L.length = nl at Hbs ⊢
      by_cases hA : (k : Int) < (LL : Int)
      all_goals
        first
          | (have hB : ¬ (k : Int) < 30 := by omega)
          | skip
        go_wp2_with fail
        refine HGr.out.mono ?_
        rintro e w2 ⟨⟨gu, gv, rfl, hru, hrv⟩, hb2⟩
        have hGA : GrAt w2 gu gv (bothN (allR (fR f) 24)) (bothE (allR (fR f) 24)) := ⟨slAt_of_row (cs := ic) (fun _ => rfl) hru rfl, slAt_of_row (cs := ec) (fun _ => rfl) hrv rfl⟩
        obtain ⟨ga, gcap, rfl⟩ := row_shape hru
        obtain ⟨gb, gcap2, rfl⟩ := row_shape hrv
        obtain ⟨NN, hNN⟩ : ∃ NN, (bothN (allR (fR f) 24)).length = NN := ⟨_, rfl⟩
        obtain ⟨EE, hEE⟩ : ∃ EE, (bothE (allR (fR f) 24)).length = EE := ⟨_, rfl⟩
        rw [hNN, hEE] at hGA ⊢
        obtain ⟨W3, hW3⟩ : ∃ W3, w2.alloc (.cells #[.slice ga NN gcap, .slice gb EE gcap2] 49) = W3 := ⟨_, rfl⟩
        have b3 : Below w2.heap.size w2 W3 := by rw [← hW3]; exact (Below.refl _ w2).alloc (Nat.le_refl _) _
        have hX3 : W3.heap[w2.heap.size]? = some (.cells #[.slice ga NN gcap, .slice gb EE gcap2] 49) := by rw [← hW3]; exact heap_alloc_last w2 _
        have b03 := hb2.trans (b3.mono hb2.size)
        have HGA3 := hidIn (hGA.keep b3 (Nat.le_refl _))
        have Hbs3 := hidIn (Hbs.out.keep b03)
        have HB3 := hidIn (HBel.out.trans (b03.mono HBel.out.size))
        have HBo := hidIn (rboth_any Hbs3.out.1.r Hbs3.out.recG)
        obtain ⟨b19, hb19⟩ : ∃ b19, w2.heap.size = b19 := ⟨_, rfl⟩
        rw [hb19] at hX3
        have HX3 := hidIn hX3
        have HW := hidIn hW3
        have HNE := hidIn (And.intro hNN hEE)
        clear hru hrv hb2 hGA hW3 b3 hX3 b03 HGr hNN hEE
        go_upto_region 29 with fail
        rw [HW.out]
        clear HW hb19
        go_wp2_with fail
        refine HBo.out.mono ?_
        rintro e w4 ⟨h4, hb4⟩
        unfold BothAns at h4
        rw [HRL.out] at h4
        rcases h4 with ⟨_, hu2, hv2, rfl, hru, hrv⟩ | ⟨h4, _⟩
        case inr =>
          rw [both_unl.2 HUn.out] at h4
          cases h4
        have hGB : GrAt w4 hu2 hv2 (bothN (allR (fR f) 24)) (bothE (allR (fR f) 24)) := ⟨slAt_of_row (cs := ic) (fun _ => rfl) hru rfl, slAt_of_row (cs := ec) (fun _ => rfl) hrv rfl⟩
        obtain ⟨ha, hcap, rfl⟩ := row_shape hru
        obtain ⟨hb, hcap2, rfl⟩ := row_shape hrv
        rw [HNE.out.1, HNE.out.2] at hGB ⊢
        obtain ⟨W5, hW5⟩ : ∃ W5, w4.alloc (.cells #[.slice ha NN hcap, .slice hb EE hcap2] 49) = W5 := ⟨_, rfl⟩
        have b5 : Below w4.heap.size w4 W5 := by rw [← hW5]; exact (Below.refl _ w4).alloc (Nat.le_refl _) _
        have hX5 : W5.heap[w4.heap.size]? = some (.cells #[.slice ha NN hcap, .slice hb EE hcap2] 49) := by rw [← hW5]; exact heap_alloc_last w4 _
        have b35 := hb4.trans (b5.mono hb4.size)
        have hX35 := (b35.block _ (block_lt HX3.out)).trans HX3.out
        have HSg : Hid (Calls Try.prog 20 #[.agg #[.slice ga NN gcap, .slice gb EE gcap2], .agg #[.slice ha NN hcap, .slice hb EE hcap2]] W5 fun e w' => e = .returned (.bool true) ∧ Below W5.heap.size W5 w') := hidIn (by
          have := rsame_any (HGA3.out.keep b35 (Nat.le_refl _)) (hGB.keep b5 (Nat.le_refl _))
          rwa [show sameG (bothN (allR (fR f) 24)) (bothN (allR (fR f) 24)) (bothE (allR (fR f) 24)) (bothE (allR (fR f) 24)) = true by simp [sameG]] at this)
        have Hbs5 := hidIn (Hbs3.out.keep b35)
        have HB5 := hidIn (HB3.out.trans (b35.mono HB3.out.size))
        obtain ⟨b21, hb21⟩ : ∃ b21, w4.heap.size = b21 := ⟨_, rfl⟩
        rw [hb21] at hX5
        have x0 := cell_of_row _ _ 0 _ _ _ hX5
        have x1 := cell_of_row _ _ 1 _ _ _ hX5
        have z0 := cell_of_row _ _ 0 _ _ _ hX35
        have z1 := cell_of_row _ _ 1 _ _ _ hX35
        simp at x0 x1 z0 z1
        have HW := hidIn hW5
        clear hru hrv hb4 hGB hW5 b5 hX5 b35 hX35 HBo HX3 HGA3 Hbs3 HB3
        go_upto_region 30 with fail
        rw [HW.out]
        clear HW hb21
        go_wp2_with fail
        refine HSg.out.mono ?_
        rintro e w6 ⟨rfl, hb6⟩
        have Hbs6 := hidIn (Hbs5.out.keep hb6)
        have HB6 := hidIn (HB5.out.trans (hb6.mono HB5.out.size))
        have HLv := hidIn (slive_any Hbs6.out.1.s Hk.out)
        clear hb6 x0 x1 z0 z1 HSg Hbs5 HB5
        go_wp2_with fail
        refine HLv.out.mono ?_
        rintro e w7 ⟨h7, hb7⟩
        have Hbs7 := hidIn (Hbs6.out.keep hb7)
        have HB7 := hidIn (HB6.out.trans (hb7.mono HB6.out.size))
        clear hb7 HLv Hbs6 HB6
        have HRo := hidIn (rrouter_any root)
        rcases h7 with ⟨hr, rfl⟩ | ⟨hr, hsm, rfl⟩ | ⟨hr, hsm, p, u, L7, hp, rfl, hrow, hrs, hfr⟩
        · go_wp2_with fail
          refine (HRo.out _).mono ?_
          rintro e w8 ⟨rfl, hb8⟩
          have HB8 := hidIn (HB7.out.trans (hb8.mono HB7.out.size))
          rw [hr]
          clear hb8 HB7
          go_wp2_with fail
          refine (sworks_any _).mono ?_
          rintro e wz ⟨rfl, hbz⟩
          have HBz := hidIn (HB8.out.trans (hbz.mono HB8.out.size))
          clear hbz HB8
          go_wp2_with fail
          go_ret
          exact ⟨rfl, HBz.out⟩
        · have Hsm : Hid ((fR f root).isSome = false) := hidIn (by unfold fR; rw [Option.isSome_map]; exact hsm)
          go_wp2_with fail
          refine (HRo.out _).mono ?_
          rintro e w8 ⟨rfl, hb8⟩
          have HB8 := hidIn (HB7.out.trans (hb8.mono HB7.out.size))
          have Hbs8 := hidIn (Hbs7.out.keep hb8)
          have HDl := hidIn (dlive_any HOk.out Hbs8.out.1.r Hbs8.out.recG HRL.out (both_unl.2 HUn.out) (both_may HUn.out) root)
          rw [hr]
          clear hb8 HB7 Hbs7 hsm
          go_wp2_with fail
          refine HDl.out.mono ?_
          rintro e w9 ⟨h9, hb9⟩
          rcases h9 with ⟨_, rfl⟩ | ⟨h9, _⟩
          case inr =>
            rw [Hsm.out] at h9
            cases h9
          have HB9 := hidIn (HB8.out.trans (hb9.mono HB8.out.size))
          have HSa := hidIn (sameAll_yes (w := w9) (v1 := .slice none 0 0) (v2 := .slice none 0 0) (l := []) (m := []) ⟨slAt_of_row (cs := rcc) (fun _ => rfl) (World.ownsRow_nil w9 0 28 6) rfl, fun x hx => by simp at hx⟩ ⟨slAt_of_row (cs := rcc) (fun _ => rfl) (World.ownsRow_nil w9 0 28 6) rfl, fun x hx => by simp at hx⟩ rfl)
          clear hb9 HB8 HDl Hbs8
          go_wp2_with fail
          refine HSa.out.mono ?_
          rintro e w10 ⟨rfl, hb10⟩
          have HB10 := hidIn (HB9.out.trans (hb10.mono HB9.out.size))
          clear hb10 HB9 HSa
          go_wp2_with fail
          refine (sworks_any _).mono ?_
          rintro e wz ⟨rfl, hbz⟩
          have HBz := hidIn (HB10.out.trans (hbz.mono HB10.out.size))
          clear hbz HB10
          go_wp2_with fail
          go_ret
          exact ⟨rfl, HBz.out⟩
        · have Hsm : Hid ((fR f root).isSome = true) := hidIn (by unfold fR; rw [Option.isSome_map]; exact hsm)
          have HR7 : Hid (RecsAt w7 u L7) := hidIn ⟨slAt_of_row (cs := rcc) (fun _ => rfl) hrow rfl, fun x hx => by obtain ⟨_, _, _, e2, _⟩ := hfr x hx; exact e2⟩
          obtain ⟨ua7, ucap7, rfl⟩ := row_shape hrow
          have Hrs := hidIn hrs
          have Hp := hidIn hp
          clear hrow hrs hfr hp hsm
          generalize L7.length = n7 at HR7 ⊢
          go_wp2_with fail
          refine (HRo.out _).mono ?_
          rintro e w8 ⟨rfl, hb8⟩
          have HB8 := hidIn (HB7.out.trans (hb8.mono HB7.out.size))
          have Hbs8 := hidIn (Hbs7.out.keep hb8)
          have HR8 := hidIn (HR7.out.keep hb8 (Nat.le_refl _))
          have HDl := hidIn (dlive_any HOk.out Hbs8.out.1.r Hbs8.out.recG HRL.out (both_unl.2 HUn.out) (both_may HUn.out) root)
          rw [hr]
          clear hb8 HB7 Hbs7 HR7
          go_wp2_with fail
          refine HDl.out.mono ?_
          rintro e w9 ⟨h9, hb9⟩
          rcases h9 with ⟨h9, _⟩ | ⟨_, p2, u2, O, hp2, rfl, hrow2, hrs2, hsl2⟩
          · rw [Hsm.out] at h9
            cases h9
          have HB9 := hidIn (HB8.out.trans (hb9.mono HB8.out.size))
          have HSa := hidIn (sameAll_yes (HR8.out.keep hb9 (Nat.le_refl _)) (m := O) (v2 := u2) ⟨slAt_of_row (cs := rcc) (fun _ => rfl) hrow2 rfl, fun x hx => (hsl2 x hx).keep hb9 (Nat.le_refl _)⟩ (by rw [Hrs.out, hrs2, IsPart.same Hp.out hp2]; rfl))
          obtain ⟨oa, ocap, rfl⟩ := row_shape hrow2
          generalize O.length = on at HSa ⊢
          clear hb9 HB8 HDl Hbs8 HR8 hrow2 hrs2 hsl2 hp2
          go_wp2_with fail
          refine HSa.out.mono ?_
          rintro e w10 ⟨rfl, hb10⟩
          have HB10 := hidIn (HB9.out.trans (hb10.mono HB9.out.size))
          clear hb10 HB9 HSa
          go_wp2_with fail
          refine (sworks_any _).mono ?_
          rintro e wz ⟨rfl, hbz⟩
          have HBz := hidIn (HB10.out.trans (hbz.mono HB10.out.size))
          clear hbz HB10
          go_wp2_with fail
          go_ret
          exact ⟨rfl, HBz.out⟩
end Go.Proofs.Ytpdpdhnllmlfdaa
