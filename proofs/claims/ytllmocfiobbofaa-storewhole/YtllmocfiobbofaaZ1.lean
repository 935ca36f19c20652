/- Two stores that send what is missing, without memory. StoreWhole. Records and stamps as arguments. Small numbers of four, stamps, as arguments. -/
import Derived.Test.YtllmocfiobbofaaN15
import Derived.Test.YtllmocfiobbofaaX1
import Derived.Test.YtllmocfiobbofaaGH
import Derived.Test.YtllmocfiobbofaaN8
namespace Go.Proofs.Ytllmocfiobbofaa
open Go.RowKit Go.Maps

/-- What a store may have. -/
def OkF (F : Rf) : Prop := ∀ k g, F k = some g → recOk g = true ∧ g.origin = k
theorem runR_okF (rs : List Rc) : OkF (runR rs) := fun k g hg => ⟨((runR_is rs k).1 g hg).ok, ((runR_is rs k).1 g hg).org⟩
def stD (o : Option Rc) : Ed := (o.map stOf).getD (0, 0, 0)
theorem allR_succ (F : Rf) (n : Nat) : allR F (n + 1) = allR F n ++ (F ((n : Int) + 1)).toList := by
  unfold allR
  rw [List.range_succ, List.filterMap_append]
  cases hq : F ((n : Int) + 1) <;> simp [hq]
theorem mayS_ok {g : Rc} (h : recOk g = true) : mayS g.origin g.epoch g.seq = true := by
  have := recOk_pos h
  simp [mayS, isR]
  omega
theorem byS_all {F : Rf} (hF : OkF F) : ∀ n, n ≤ 24 → byS ((allR F n).map stOf) = some (fun i => if 1 ≤ i ∧ i ≤ n then stD (F (i : Int)) else (0, 0, 0))
  | 0, _ => by
    show some no3 = _
    congr 1
    funext i
    rw [if_neg (by omega)]
    rfl
  | n + 1, hn => by
    have ih := byS_all hF n (by omega)
    rw [allR_succ, List.map_append]
    unfold byS at ih ⊢
    rw [List.foldl_append, ih]
    cases hq : F ((n : Int) + 1) with
    | none =>
      simp only [Option.toList_none, List.map_nil, List.foldl_nil]
      congr 1
      funext i
      by_cases hi : i = n + 1
      · subst hi
        rw [if_neg (by omega), if_pos (by omega)]
        have : F ((n + 1 : Nat) : Int) = none := by rw [← hq]; congr 1
        rw [this]
        rfl
      · by_cases h1 : 1 ≤ i ∧ i ≤ n
        · rw [if_pos h1, if_pos (by omega)]
        · rw [if_neg h1, if_neg (by omega)]
    | some g =>
      obtain ⟨hok, horg⟩ := hF _ g hq
      simp only [Option.toList_some, List.map_cons, List.map_nil, List.foldl_cons, List.foldl_nil]
      unfold addS
      simp only [Option.bind_some]
      have ht : (stOf g).1.toNat = n + 1 := by show g.origin.toNat = n + 1; omega
      have hc : mayS (stOf g).1 (stOf g).2.1 (stOf g).2.2 = true ∧ (if 1 ≤ (stOf g).1.toNat ∧ (stOf g).1.toNat ≤ n then stD (F (((stOf g).1.toNat : Nat) : Int)) else (0, 0, 0)) = (0, 0, 0) := ⟨mayS_ok hok, by rw [ht, if_neg (by omega)]⟩
      rw [if_pos hc, ht]
      congr 1
      funext i
      unfold upS
      by_cases hi : i = n + 1
      · subst hi
        rw [if_pos rfl, if_pos (by omega)]
        have : F ((n + 1 : Nat) : Int) = some g := by rw [← hq]; congr 1
        rw [this]
        rfl
      · rw [if_neg hi]
        show (if 1 ≤ i ∧ i ≤ n then stD (F (i : Int)) else (0, 0, 0)) = _
        by_cases h1 : 1 ≤ i ∧ i ≤ n
        · rw [if_pos h1, if_pos (by omega)]
        · rw [if_neg h1, if_neg (by omega)]
/-- How one store stands to another at a router. -/
def vsF (A B : Rf) (i : Nat) : Int := newI (gD (A (i : Int))).epoch (gD (A (i : Int))).seq (gD (B (i : Int))).epoch (gD (B (i : Int))).seq
theorem OkF.out {F : Rf} (h : OkF F) {k : Int} (hk : ¬ (1 ≤ k ∧ k ≤ 24)) : F k = none := by
  cases hq : F k with
  | none => rfl
  | some g =>
    obtain ⟨h1, h2⟩ := h k g hq
    have := recOk_pos h1
    omega
theorem ansF_vs {f : Sf} {B : Rf} (hB : OkF B) (i : Nat) : ansF f (fun i => if 1 ≤ i ∧ i ≤ 24 then stD (B (i : Int)) else (0, 0, 0)) i = vsF (fR f) B i := by
  unfold ansF vsF
  simp only
  rw [rOf_fR]
  by_cases hi : 1 ≤ i ∧ i ≤ 24
  · rw [if_pos hi]
    cases hq : B (i : Int) <;> rfl
  · rw [if_neg hi, hB.out (k := (i : Int)) (by omega)]
    rfl
/-- Who is sent, who is wanted. -/
def sndR (A B : Rf) (n : Nat) : List Rc := (List.range n).filterMap fun (i : Nat) => if vsF A B i = 1 then some (gD (A (i : Int))) else none
def wntR (A B : Rf) (n : Nat) : List Int := (List.range n).filterMap fun (i : Nat) => if vsF A B i = -1 then some (i : Int) else none
theorem OkF.nn {F : Rf} (h : OkF F) (k : Int) : 0 ≤ (gD (F k)).epoch ∧ 0 ≤ (gD (F k)).seq := by
  cases hq : F k with
  | none => exact ⟨Int.le_refl _, Int.le_refl _⟩
  | some g =>
    have := recOk_pos (h k g hq).1
    show 0 ≤ g.epoch ∧ 0 ≤ g.seq
    omega
theorem vs_some {A B : Rf} (hA : OkF A) (hB : OkF B) {i : Nat} (h : vsF A B i = 1) : ∃ g, A (i : Int) = some g ∧ recOk g = true ∧ g.origin = (i : Int) ∧ nwR B g = 1 := by
  cases hq : A (i : Int) with
  | none =>
    unfold vsF at h
    rw [hq] at h
    have h1 := (newI_pos 0 0 (gD (B (i : Int))).epoch (gD (B (i : Int))).seq).1 h
    have h2 := hB.nn (i : Int)
    omega
  | some g =>
    obtain ⟨h1, h2⟩ := hA _ g hq
    refine ⟨g, rfl, h1, h2, ?_⟩
    unfold vsF at h
    rw [hq] at h
    unfold nwR
    rw [h2]
    exact h
theorem sndR_mem {A B : Rf} (hA : OkF A) (hB : OkF B) {n : Nat} {g : Rc} (h : g ∈ sndR A B n) : ∃ i, i < n ∧ vsF A B i = 1 ∧ A (i : Int) = some g ∧ recOk g = true ∧ g.origin = (i : Int) ∧ nwR B g = 1 := by
  unfold sndR at h
  obtain ⟨i, hi, hg⟩ := List.mem_filterMap.1 h
  by_cases hv : vsF A B i = 1
  · rw [if_pos hv] at hg
    obtain ⟨g', h1, h2⟩ := vs_some hA hB hv
    rw [h1] at hg
    cases hg
    exact ⟨i, by simpa using hi, hv, h1, h2⟩
  · rw [if_neg hv] at hg
    cases hg
theorem sndR_nd {A B : Rf} (hA : OkF A) (hB : OkF B) : ∀ n, (sndR A B n).Pairwise fun a b => a.origin ≠ b.origin
  | 0 => by simp [sndR]
  | n + 1 => by
    have he : sndR A B (n + 1) = sndR A B n ++ (if vsF A B n = 1 then [gD (A (n : Int))] else []) := by
      unfold sndR
      rw [List.range_succ, List.filterMap_append]
      by_cases h : vsF A B n = 1 <;> simp [h]
    rw [he, List.pairwise_append]
    refine ⟨sndR_nd hA hB n, by split <;> simp, fun a ha b hb => ?_⟩
    obtain ⟨i, hi, _, _, _, h1, _⟩ := sndR_mem hA hB ha
    by_cases hv : vsF A B n = 1
    · rw [if_pos hv, List.mem_singleton] at hb
      obtain ⟨g', h2, _, h3, _⟩ := vs_some hA hB hv
      rw [hb, h2, h1]
      show (i : Int) ≠ g'.origin
      omega
    · rw [if_neg hv] at hb; simp at hb
/-- A store over which records were laid. -/
structure Ov (B F : Rf) (s : List Rc) : Prop where
  out : ∀ j, (∀ x ∈ s, x.origin ≠ j) → F j = B j
  has : ∀ x ∈ s, F x.origin = some x
theorem ov_nil (B : Rf) : Ov B B [] := ⟨fun _ _ => rfl, fun x hx => by simp at hx⟩
theorem Ov.step {B F : Rf} {s : List Rc} {x : Rc} (h : Ov B F s) (hok : recOk x = true) (hn : nwR B x = 1) (hd : ∀ y ∈ s, y.origin ≠ x.origin) : pnR F x = 1 ∧ Ov B (putR F x) (s ++ [x]) := by
  have hF : F x.origin = B x.origin := h.out _ hd
  have hnF : nwR F x = 1 := by unfold nwR; rw [hF]; exact hn
  refine ⟨by unfold pnR; rw [if_pos hok, hnF], ?_⟩
  unfold putR
  rw [if_pos ⟨hok, hnF⟩]
  refine ⟨fun j hj => ?_, fun y hy => ?_⟩
  · rw [putO_other _ _ (fun e => hj x (by simp) e.symm)]
    exact h.out j (fun y hy => hj y (by simp [hy]))
  · rcases List.mem_append.1 hy with hy | hy
    · rw [putO_other _ _ (hd y hy)]; exact h.has y hy
    · rw [List.mem_singleton.1 hy, putO_same]
theorem vs_neg (A B : Rf) (i : Nat) : vsF B A i = - vsF A B i := newI_neg _ _ _ _
theorem wntR_mem {A B : Rf} {n : Nat} {k : Int} (h : k ∈ wntR A B n) : ∃ i : Nat, i < n ∧ k = (i : Int) ∧ vsF A B i = -1 := by
  unfold wntR at h
  obtain ⟨i, hi, hg⟩ := List.mem_filterMap.1 h
  by_cases hv : vsF A B i = -1
  · rw [if_pos hv] at hg
    cases hg
    exact ⟨i, by simpa using hi, rfl, hv⟩
  · rw [if_neg hv] at hg
    cases hg
theorem wntR_nd (A B : Rf) : ∀ n, (wntR A B n).Pairwise fun a b => a ≠ b
  | 0 => by simp [wntR]
  | n + 1 => by
    have he : wntR A B (n + 1) = wntR A B n ++ (if vsF A B n = -1 then [(n : Int)] else []) := by
      unfold wntR
      rw [List.range_succ, List.filterMap_append]
      by_cases h : vsF A B n = -1 <;> simp [h]
    rw [he, List.pairwise_append]
    refine ⟨wntR_nd A B n, by split <;> simp, fun a ha b hb => ?_⟩
    obtain ⟨i, hi, h1, _⟩ := wntR_mem ha
    by_cases hv : vsF A B n = -1
    · rw [if_pos hv, List.mem_singleton] at hb
      omega
    · rw [if_neg hv] at hb; simp at hb
/-- What the wanted one is, with the store that has got what was sent. -/
theorem want_is {A B B' : Rf} (hA : OkF A) (hB : OkF B) (h : Ov B B' (sndR A B 25)) {k : Int} (hk : k ∈ wntR A B 25) : ∃ g, B' k = some g ∧ recOk g = true ∧ g.origin = k ∧ nwR A g = 1 := by
  obtain ⟨i, hi, rfl, hv⟩ := wntR_mem hk
  have h1 : B' (i : Int) = B (i : Int) := h.out _ (fun x hx e => by
    obtain ⟨j, _, hj, _, _, h2, _⟩ := sndR_mem hA hB hx
    have : j = i := by omega
    subst this
    omega)
  obtain ⟨g, h2, h3, h4, h5⟩ := vs_some hB hA (i := i) (by rw [vs_neg]; omega)
  exact ⟨g, by rw [h1, h2], h3, h4, h5⟩
/-- In the end both have the same stamps. -/
theorem whole_same {A B A' B' : Rf} (hA : OkF A) (hB : OkF B) (h : Ov B B' (sndR A B 25)) {s : List Rc} (h' : Ov A A' s) (hs : ∀ g, g ∈ s ↔ ∃ k ∈ wntR A B 25, B' k = some g) (k : Int) : (A' k).map stOf = (B' k).map stOf := by
  by_cases hk : 1 ≤ k ∧ k ≤ 24
  · obtain ⟨i, rfl⟩ : ∃ i : Nat, k = (i : Int) := ⟨k.toNat, by omega⟩
    have hi : i < 25 := by omega
    have hA' : vsF A B i ≠ -1 → A' (i : Int) = A (i : Int) := fun hv => h'.out _ (fun x hx e => by
      obtain ⟨k, hk1, hk2⟩ := (hs x).1 hx
      obtain ⟨g, hg1, _, hg3, _⟩ := want_is hA hB h hk1
      rw [hg1] at hk2
      cases hk2
      obtain ⟨j, _, hj, hj2⟩ := wntR_mem hk1
      have : j = i := by omega
      subst this
      exact hv hj2)
    have hB' : vsF A B i ≠ 1 → B' (i : Int) = B (i : Int) := fun hv => h.out _ (fun x hx e => by
      obtain ⟨j, _, hj, _, _, h2, _⟩ := sndR_mem hA hB hx
      have : j = i := by omega
      subst this
      exact hv hj)
    rcases newI_vals (gD (A (i : Int))).epoch (gD (A (i : Int))).seq (gD (B (i : Int))).epoch (gD (B (i : Int))).seq with hv | hv | hv
    · have hv' : vsF A B i = -1 := hv
      rw [hB' (by omega)]
      obtain ⟨g, h2, h3, h4, h5⟩ := vs_some hB hA (i := i) (by rw [vs_neg]; omega)
      have hm : (i : Int) ∈ wntR A B 25 := by
        unfold wntR
        exact List.mem_filterMap.2 ⟨i, by simpa using hi, by rw [if_pos hv']⟩
      have := h'.has g ((hs g).2 ⟨(i : Int), hm, by rw [hB' (by omega)]; exact h2⟩)
      rw [h4] at this
      rw [this, h2]
    · have hv' : vsF A B i = 0 := hv
      rw [hA' (by omega), hB' (by omega)]
      have hz := (newI_zero _ _ _ _).1 hv
      cases hqa : A (i : Int) with
      | none =>
        cases hqb : B (i : Int) with
        | none => rfl
        | some g =>
          rw [hqa, hqb] at hz
          have := recOk_pos (hB _ g hqb).1
          simp only [gD, Option.getD_none, Option.getD_some, rc0] at hz
          omega
      | some a =>
        cases hqb : B (i : Int) with
        | none =>
          rw [hqa, hqb] at hz
          have := recOk_pos (hA _ a hqa).1
          simp only [gD, Option.getD_none, Option.getD_some, rc0] at hz
          omega
        | some b =>
          rw [hqa, hqb] at hz
          have h1 := (hA _ a hqa).2
          have h2 := (hB _ b hqb).2
          simp only [gD, Option.getD_some] at hz
          simp only [Option.map_some, stOf, Option.some.injEq, Prod.mk.injEq]
          omega
    · have hv' : vsF A B i = 1 := hv
      rw [hA' (by omega)]
      obtain ⟨g, h2, h3, h4, h5⟩ := vs_some hA hB hv'
      have hm : g ∈ sndR A B 25 := by
        unfold sndR
        exact List.mem_filterMap.2 ⟨i, by simpa using hi, by rw [if_pos hv', h2]; rfl⟩
      have := h.has g hm
      rw [h4] at this
      rw [this, h2]
  · have hA' : A' k = A k := h'.out _ (fun x hx e => by
      obtain ⟨k', hk1, hk2⟩ := (hs x).1 hx
      obtain ⟨g, hg1, hg2, hg3, _⟩ := want_is hA hB h hk1
      rw [hg1] at hk2
      cases hk2
      have := recOk_pos hg2
      omega)
    have hB' : B' k = B k := h.out _ (fun x hx e => by
      obtain ⟨j, _, _, _, h1, h2, _⟩ := sndR_mem hA hB hx
      have := recOk_pos h1
      omega)
    rw [hA', hB', hA.out hk, hB.out hk]
theorem send_vs {f : Sf} {B : Rf} (hB : OkF B) : sendL f (fun i => if 1 ≤ i ∧ i ≤ 24 then stD (B (i : Int)) else (0, 0, 0)) 25 = sndR (fR f) B 25 ∧ wantL f (fun i => if 1 ≤ i ∧ i ≤ 24 then stD (B (i : Int)) else (0, 0, 0)) 25 = wntR (fR f) B 25 := by
  unfold sendL wantL sndR wntR
  constructor
  · congr
    funext i
    rw [ansF_vs hB i]
    rfl
  · congr
    funext i
    rw [ansF_vs hB i]
theorem none_left {A B : Rf} (h : ∀ k, (A k).map stOf = (B k).map stOf) : sndR A B 25 = [] ∧ wntR A B 25 = [] := by
  have hv : ∀ i, vsF A B i = 0 := fun i => by
    unfold vsF
    have hi := h (i : Int)
    rw [newI_zero]
    cases hqa : A (i : Int) <;> cases hqb : B (i : Int) <;> rw [hqa, hqb] at hi <;> simp [stOf, gD] at hi ⊢
    omega
  unfold sndR wntR
  constructor
  · apply List.eq_nil_iff_forall_not_mem.2
    intro x hx
    obtain ⟨i, _, hg⟩ := List.mem_filterMap.1 hx
    rw [if_neg (by rw [hv]; omega)] at hg
    cases hg
  · apply List.eq_nil_iff_forall_not_mem.2
    intro x hx
    obtain ⟨i, _, hg⟩ := List.mem_filterMap.1 hx
    rw [if_neg (by rw [hv]; omega)] at hg
    cases hg
end Go.Proofs.Ytllmocfiobbofaa
namespace Go.Proofs.Ytllmocfiobbofaa
open Go.RowKit Go.Maps

def Bd (F : Rf) : Prop := ∀ k g, F k = some g → g.epoch ≤ 4 ∧ g.seq ≤ 4
theorem bd_ov {B F : Rf} {s : List Rc} (h : Ov B F s) (hB : Bd B) (hs : ∀ x ∈ s, x.epoch ≤ 4 ∧ x.seq ≤ 4) : Bd F := fun k g hk => by
  by_cases he : ∃ x ∈ s, x.origin = k
  · obtain ⟨x, hx, hxk⟩ := he
    have := h.has x hx
    rw [hxk, hk] at this
    cases this
    exact hs _ hx
  · have := h.out k (fun x hx e => he ⟨x, hx, e⟩)
    rw [hk] at this
    exact hB k g this.symm
theorem bd_run {L : List Te} (_hL : TeB L) (t : Bool) : Bd (runR (ordT t L)) := fun k g hk => by
  have h := ((runR_is _ k).1 g hk).mem
  unfold ordT at h
  obtain ⟨x, _, rfl⟩ := List.mem_map.1 h
  show 1 + x.2.1 % 4 ≤ 4 ∧ 1 + x.2.2.1 % 4 ≤ 4
  omega
theorem sts_bd {F : Rf} (hF : OkF F) (hB : Bd F) {y : Ed} (hy : y ∈ (allR F 24).map stOf) : (0 ≤ y.2.1 ∧ y.2.1 < 4294967296) ∧ 0 ≤ y.2.2 ∧ y.2.2 < 4294967296 := by
  obtain ⟨g, hg, rfl⟩ := List.mem_map.1 hy
  obtain ⟨k, hk⟩ := allR_of hg
  have h1 := recOk_pos (hF k g hk).1
  have h2 := hB k g hk
  show (0 ≤ g.epoch ∧ g.epoch < 4294967296) ∧ 0 ≤ g.seq ∧ g.seq < 4294967296
  omega
theorem StAt.okF {w : World} {S M n : Nat} {f : Sf} (h : StAt w S M n f) : OkF (fR f) := fun _ _ hk => ⟨(h.org hk).1, (h.org hk).2.1⟩
theorem StAt.keepM {w w' : World} {S M n M2 : Nat} {f : Sf} (h : StAt w S M n f) (hF : Fr (fun j => j = M2) w w') (hm : ∃ es cl, w.heap[M2]? = some (.map es cl)) (hne : ¬ M = M2) : StAt w' S M n f := by
  have hS : ¬ S = M2 := fun e => by
    obtain ⟨es, cl, hb⟩ := hm
    have := h.p
    rw [e, hb] at this
    cases this
  exact ⟨(hF.block S (block_lt h.p) hS).trans h.p, h.m.keep hF hne, fun k r u hk => by
    obtain ⟨h1, h2, h3, h4⟩ := h.v k r u hk
    exact ⟨h1, h2, h3.keepM hF hm (by omega) (fun _ => rfl), h4⟩⟩
theorem FrRec.keepM {w w' w'' : World} {x : Rc × Value} {M2 : Nat} (h : FrRec w w' x) (hF : Fr (fun j => j = M2) w' w'') (hm : ∃ es cl, w'.heap[M2]? = some (.map es cl)) : FrRec w w'' x :=
  h.fr hF (fun g cur hg e => by
    obtain ⟨es, cl, hb⟩ := hm
    rw [e, hb] at hg
    cases hg)
set_option maxRecDepth 100000 in
set_option maxHeartbeats 8000000 in
theorem storeWhole_walk {L1 L2 : List Te} {v1 v2 : Value} {w : World} (h1 : SlAt te4 4 w v1 L1) (hB1 : TeB L1) (h2 : SlAt te4 4 w v2 L2) (hB2 : TeB L2) :
    Calls Try.prog 6 #[v1, v2] w fun e w' => e = .returned (.bool true) ∧ Below w.heap.size w w' := by
  have HF1 := hidIn (fun wq (hq : Below w.heap.size w wq) => filled_any (t := false) (h1.keep hq (Nat.le_refl _)) hB1)
  have HF2 := hidIn (fun wq (hq : Below w.heap.size w wq) => filled_any (t := false) (h2.keep hq (Nat.le_refl _)) hB2)
  obtain ⟨aa1, cap1, rfl, hq1⟩ := h1
  obtain ⟨aa2, cap2, rfl, hq2⟩ := h2
  have HbA := hidIn (bd_run (L := L1.take 40) (fun x hx => hB1 x (List.mem_of_mem_take hx)) false)
  have HbB := hidIn (bd_run (L := L2.take 40) (fun x hx => hB2 x (List.mem_of_mem_take hx)) false)
  generalize ordT false (L1.take 40) = O1 at HF1 HbA
  generalize ordT false (L2.take 40) = O2 at HF2 HbB
  have HoA := hidIn (runR_okF O1)
  have HoB := hidIn (runR_okF O2)
  clear hq1 hq2 hB1 hB2
  go_enter Try.func6, Try.ntmps6
  go_wp2_with fail
  refine (HF1.out w (Below.refl _ _)).mono ?_
  rintro e w2 ⟨⟨Sa, Ma, fa, rfl, hsa, hfa, _, hma⟩, hb2⟩
  have Hsa := hidIn hsa
  have HB2 := hidIn hb2
  have Hfa := hidIn hfa
  have Hma := hidIn hma
  clear hsa hfa hma hb2
  go_wp2_with fail
  refine (HF2.out w2 HB2.out).mono ?_
  rintro e w3 ⟨⟨Sb, Mb, fb, rfl, hsb, hfb, _, hmb⟩, hb3⟩
  have HMM : Hid (¬ Ma = Mb) := hidIn (by have := Hsa.out.lts.2; omega)
  have Hsa3 := hidIn (Hsa.out.keep hb3)
  have Hsb3 := hidIn hsb
  have Hfb := hidIn hfb
  have HB3 := hidIn (HB2.out.trans (hb3.mono HB2.out.size))
  have Hmb : Hid (w.heap.size ≤ Mb) := hidIn (Nat.le_trans HB2.out.size hmb)
  clear hsb hfb hmb hb3 Hsa HB2 HF2
  have HCp := hidIn (scopy_any Hsa3.out)
  go_wp2_with fail
  refine HCp.out.mono ?_
  rintro e w4 ⟨⟨Sw, Mw, fw, rfl, hsw, hfw, _, hmw⟩, hb4⟩
  have HMw : Hid (¬ Mw = Mb ∧ ¬ Mw = Ma) := hidIn (by have := Hsa3.out.lts.2; have := Hsb3.out.lts.2; omega)
  have Hsa4 := hidIn (Hsa3.out.keep hb4)
  have Hsb4 := hidIn (Hsb3.out.keep hb4)
  have Hsw4 := hidIn hsw
  have Hfw : Hid (fR fw = runR O1) := hidIn (hfw.trans Hfa.out)
  have HB4 := hidIn (HB3.out.trans (hb4.mono HB3.out.size))
  clear hsw hfw hmw hb4 Hsa3 Hsb3 HB3 HCp
  have HSt := hidIn (sstamps_any Hsb4.out)
  rw [allL_fR, Hfb.out] at HSt
  go_wp2_with fail
  refine HSt.out.mono ?_
  rintro e w5 ⟨⟨ut, rfl, hrt⟩, hb5⟩
  have Hsa5 := hidIn (Hsa4.out.keep hb5)
  have Hsb5 := hidIn (Hsb4.out.keep hb5)
  have Hsw5 := hidIn (Hsw4.out.keep hb5)
  have HB5 := hidIn (HB4.out.trans (hb5.mono HB4.out.size))
  have HMi := hidIn (smissing_any Hsa5.out (slAt_of_row (cs := sc3) (fun _ => rfl) hrt rfl) (fun y hy => sts_bd HoB.out HbB.out hy))
  rw [byS_all HoB.out 24 (Nat.le_refl _)] at HMi
  obtain ⟨ta, tcap, rfl⟩ := row_shape hrt
  clear hrt hb5 Hsa4 Hsb4 Hsw4 HB4 HSt
  generalize ((allR (runR O2) 24).map stOf).length = tl at HMi ⊢
  go_wp2_with fail
  refine HMi.out.mono ?_
  rintro e w6 ⟨h6, hb6⟩
  rcases h6 with ⟨h6, _⟩ | ⟨g, uS, vW, L, hg, rfl, hrS, hrs, hfr, hrW⟩
  · cases h6
  cases hg
  rw [(send_vs HoB.out).1, Hfa.out] at hrs
  rw [(send_vs HoB.out).2, Hfa.out] at hrW
  have Hsa6 := hidIn (Hsa5.out.keep hb6)
  have Hsb6 := hidIn (Hsb5.out.keep hb6)
  have Hsw6 := hidIn (Hsw5.out.keep hb6)
  have HB6 := hidIn (HB5.out.trans (hb6.mono HB5.out.size))
  obtain ⟨sa, scap, rfl, hsl, _, hsat⟩ := (slAt_of_row (cs := rcc) (fun _ => rfl) hrS rfl).recs
  obtain ⟨wa, wcap, rfl, hwl, _, hwat⟩ := (slAt_of_row (cs := ic) (fun _ => rfl) hrW rfl).ints
  have HtS := hidIn (fun j hj => row_ty (j := j) hrS hj)
  have HtW := hidIn (fun j hj => row_ty (j := j) hrW hj)
  have Hsat := hidIn hsat
  have Hwat := hidIn hwat
  have Hrs := hidIn hrs
  have Hfr := hidIn hfr
  clear hrS hrW hsat hwat hrs hfr hb6 Hsa5 Hsb5 Hsw5 HB5 HMi
  obtain ⟨SL, hSL⟩ : ∃ SL, L.length = SL := ⟨_, rfl⟩
  obtain ⟨WL, hWL⟩ : ∃ WL, (wntR (runR O1) (runR O2) 25).length = WL := ⟨_, rfl⟩
  have HSL := hidIn hSL
  have HWL := hidIn hWL
  rw [hSL] at Hsat hsl HtS ⊢
  rw [hWL] at Hwat hwl HtW ⊢
  have hS25 : SL ≤ 25 := by
    rw [← hSL, ← List.length_map (f := (·.1)), show L.map (·.1) = _ from Hrs.out]
    unfold sndR
    exact Nat.le_trans (List.length_filterMap_le _ _) (by simp)
  have hW25 : WL ≤ 25 := by
    rw [← hWL]
    unfold wntR
    exact Nat.le_trans (List.length_filterMap_le _ _) (by simp)
  clear hSL hWL
  go_wp2_with fail
  go_loopw [11] (fun q wr => ∃ k : Nat, k ≤ SL ∧ q = .int .i64 k ∧ Hid (∃ fb', StAt wr Sb Mb (40 + k) fb' ∧ Ov (runR O2) (fR fb') ((sndR (runR O1) (runR O2) 25).take k) ∧ Fr (fun j => j = Mb) w6 wr)) (fun q _ => SL - (intOf q).toNat)
  case atStart => exact ⟨0, Nat.zero_le _, rfl, hidIn ⟨fb, Hsb6.out, by rw [List.take_zero, Hfb.out]; exact ov_nil _, Fr.refl _ _⟩⟩
  case round =>
    obtain ⟨k, hk, rfl, HR⟩ := hrel
    by_cases hlt : k < SL
    · have hki : (k : Int) < (SL : Int) := by omega
      obtain ⟨fb', g1, g2, g3⟩ := HR.out
      obtain ⟨x, hx⟩ : ∃ x, L[k]? = some x := ⟨L[k]'(by rw [HSL.out]; exact hlt), List.getElem?_eq_getElem _⟩
      obtain ⟨bk, o, rfl, hbk, hcell⟩ := Hsat.out (by omega)
      obtain ⟨q0, q1, q2, q3, q4, q5⟩ := hcell k x hx
      have hxm := List.mem_of_getElem? hx
      obtain ⟨xa, xc, hxv, hxs, _⟩ := (Hfr.out x hxm).keepM g3 Hsb6.out.m.isMap
      have hbb := g3.block bk hbk (fun e => by
        obtain ⟨cur, hc⟩ := HtS.out bk rfl
        obtain ⟨es, cl, hm⟩ := Hsb6.out.m.isMap
        rw [e, hm] at hc
        cases hc)
      rw [hxv] at q5 hxs
      have p0 := (World.cell?_of_block (a := ⟨bk, o + k * 6, none⟩) hbb).trans q0
      have p1 := (World.cell?_of_block (a := ⟨bk, o + k * 6 + 1, none⟩) hbb).trans q1
      have p2 := (World.cell?_of_block (a := ⟨bk, o + k * 6 + 2, none⟩) hbb).trans q2
      have p3 := (World.cell?_of_block (a := ⟨bk, o + k * 6 + 3, none⟩) hbb).trans q3
      have p4 := (World.cell?_of_block (a := ⟨bk, o + k * 6 + 4, none⟩) hbb).trans q4
      have p5 := (World.cell?_of_block (a := ⟨bk, o + k * 6 + 5, none⟩) hbb).trans q5
      have hsk : (sndR (runR O1) (runR O2) 25)[k]? = some x.1 := by rw [← Hrs.out, List.getElem?_map, hx]; rfl
      obtain ⟨_, _, _, _, hok, _, hnw⟩ := sndR_mem HoA.out HoB.out (List.mem_of_getElem? hsk)
      have hdis : ∀ y ∈ (sndR (runR O1) (runR O2) 25).take k, y.origin ≠ x.1.origin := fun y hy => by
        obtain ⟨j, hj⟩ := List.getElem?_of_mem hy
        rw [List.getElem?_take] at hj
        split at hj
        · rename_i hjk
          have hp := List.pairwise_iff_getElem.1 (sndR_nd HoA.out HoB.out 25) j k (List.getElem?_eq_some_iff.1 hj).1 (List.getElem?_eq_some_iff.1 hsk).1 hjk
          rw [(List.getElem?_eq_some_iff.1 hj).2, (List.getElem?_eq_some_iff.1 hsk).2] at hp
          exact hp
        · cases hj
      obtain ⟨hpn, hov⟩ := g2.step hok hnw hdis
      have HT : Hid ((sndR (runR O1) (runR O2) 25).take (k + 1) = (sndR (runR O1) (runR O2) 25).take k ++ [x.1]) := hidIn (by rw [List.take_add_one, hsk]; rfl)
      have HP := hidIn (sputP g1 (by omega) hxs (by have := recOk_pos hok; omega))
      have hck : ckN x.1 = 0 := by unfold ckN; rw [if_pos hok]
      rw [hpn, hck] at HP
      have Hov := hidIn hov
      have Hg3 := hidIn g3
      clear hcell q0 q1 q2 q3 q4 q5 hx hxm hxv hxs hbb hbk hsk hok hnw hdis hpn hov hck g1 g2 g3 HR
      generalize x.1 = r at p0 p1 p2 p3 p4 p5 HT HP Hov
      generalize r.adjs.length = nl at p5 HP
      go_wp2_with fail
      refine HP.out.mono ?_
      rintro e w7 ⟨rfl, ⟨f7, s7, e7⟩, hf7⟩
      have HO : Hid (∃ fb', StAt w7 Sb Mb (40 + (k + 1)) fb' ∧ Ov (runR O2) (fR fb') ((sndR (runR O1) (runR O2) 25).take (k + 1)) ∧ Fr (fun j => j = Mb) w6 w7) := hidIn ⟨f7, s7, by rw [HT.out, e7]; exact Hov.out, Hg3.out.trans hf7⟩
      clear s7 e7 hf7 HP HT Hov Hg3 p0 p1 p2 p3 p4 p5
      go_wp2_with fail
      go_roundw
      case rel => exact ⟨k + 1, by omega, by go_num, HO⟩
      case measure => simp [intOf]; omega
    · have hki : ¬ (k : Int) < (SL : Int) := by omega
      obtain ⟨fb', g1, g2, g3⟩ := HR.out
      rw [List.take_of_length_le (by have := HSL.out; rw [← Hrs.out, List.length_map]; omega)] at g2
      obtain ⟨w7, rfl⟩ : ∃ w7, w7 = wr := ⟨_, rfl⟩
      have Hsb7 := hidIn g1
      have Hov := hidIn g2
      have Hsa7 := hidIn (Hsa6.out.keepM g3 Hsb6.out.m.isMap HMM.out)
      have Hsw7 := hidIn (Hsw6.out.keepM g3 Hsb6.out.m.isMap HMw.out.1)
      have HB7 := hidIn (HB6.out.trans (g3.below HB6.out.size (fun j hj => by rw [hj]; exact Hmb.out)))
      have Hg3 := hidIn g3
      clear g1 g2 g3 HR
      obtain ⟨wl, hwl'⟩ : ∃ wl, (wntR (runR O1) (runR O2) 25).map (fun k => gD (fR fb' k)) = wl := ⟨_, rfl⟩
      have HwlL : Hid (wl.length = WL) := hidIn (by rw [← hwl', List.length_map, HWL.out])
      have HwlE : Hid (∀ j z, (wntR (runR O1) (runR O2) 25)[j]? = some z → ∃ g, fR fb' z = some g ∧ recOk g = true ∧ g.origin = z ∧ nwR (runR O1) g = 1 ∧ wl[j]? = some g) := hidIn fun j z hz => by
        obtain ⟨g, h1, h2, h3, h4⟩ := want_is HoA.out HoB.out Hov.out (List.mem_of_getElem? hz)
        refine ⟨g, h1, h2, h3, h4, ?_⟩
        rw [← hwl', List.getElem?_map, hz]
        show some (gD (fR fb' z)) = some g
        rw [h1]
        rfl
      have HwlM : Hid (∀ g, g ∈ wl ↔ ∃ k ∈ wntR (runR O1) (runR O2) 25, fR fb' k = some g) := hidIn fun g => by
        rw [← hwl', List.mem_map]
        constructor
        · rintro ⟨k, hk, rfl⟩
          obtain ⟨g, h1, _⟩ := want_is HoA.out HoB.out Hov.out hk
          exact ⟨k, hk, by rw [h1]; rfl⟩
        · rintro ⟨k, hk, h1⟩
          exact ⟨k, hk, by rw [h1]; rfl⟩
      clear hwl'
      go_wp2_with fail
      go_loopw [14] (fun q wr => ∃ k : Nat, k ≤ WL ∧ q = .int .i64 k ∧ Hid (∃ fa', StAt wr Sa Ma (40 + k) fa' ∧ Ov (runR O1) (fR fa') (wl.take k) ∧ Fr (fun j => j = Ma) w7 wr)) (fun q _ => WL - (intOf q).toNat)
      case atStart => exact ⟨0, Nat.zero_le _, rfl, hidIn ⟨fa, Hsa7.out, by rw [List.take_zero, Hfa.out]; exact ov_nil _, Fr.refl _ _⟩⟩
      case round =>
        obtain ⟨i, hi, rfl, HR⟩ := hrel
        by_cases hlt2 : i < WL
        · have hii : (i : Int) < (WL : Int) := by omega
          obtain ⟨fa', g1, g2, g3⟩ := HR.out
          obtain ⟨z, hz⟩ : ∃ z, (wntR (runR O1) (runR O2) 25)[i]? = some z := ⟨(wntR (runR O1) (runR O2) 25)[i]'(by rw [HWL.out]; exact hlt2), List.getElem?_eq_getElem _⟩
          obtain ⟨g, hg1, hg2, hg3, hg4, hg5⟩ := HwlE.out i z hz
          obtain ⟨bk, o, rfl, hbk, hcell⟩ := Hwat.out (by omega)
          have hbb1 := Hg3.out.block bk hbk (fun e => by
            obtain ⟨cur, hc⟩ := HtW.out bk rfl
            obtain ⟨es, cl, hm⟩ := Hsb6.out.m.isMap
            rw [e, hm] at hc
            cases hc)
          have hbb2 := g3.block bk (Nat.lt_of_lt_of_le hbk Hg3.out.size) (fun e => by
            obtain ⟨cur, hc⟩ := HtW.out bk rfl
            obtain ⟨es, cl, hm⟩ := Hsa7.out.m.isMap
            rw [← e, hbb1, hc] at hm
            cases hm)
          have p0 := (World.cell?_of_block (a := ⟨bk, o + i, none⟩) (hbb2.trans hbb1)).trans (hcell i z hz)
          have hsb := Hsb7.out.keepM g3 Hsa7.out.m.isMap (fun e => HMM.out e.symm)
          have hpos := recOk_pos hg2
          have hGet := sget_any hsb (k := z) (wf9 (by omega))
          obtain ⟨e1, e2⟩ := fR_some hg1
          have HGet : Hid (Calls Try.prog 18 #[ptr Sb, .int .i64 z] wr fun e w' => (∃ a c, e = .returned (.tuple #[recV g (.slice a g.adjs.length c), .bool true]) ∧ SlAt ac 2 w' (.slice a g.adjs.length c) g.adjs) ∧ Below wr.heap.size wr w') := hidIn (hGet.mono fun e w' h => by
            obtain ⟨⟨a, c, h1, h2, _⟩, h3⟩ := h
            rw [e1, e2] at h1
            rw [e1] at h2
            exact ⟨⟨a, c, h1, h2⟩, h3⟩)
          have hdis : ∀ y ∈ wl.take i, y.origin ≠ g.origin := fun y hy => by
            obtain ⟨j, hj⟩ := List.getElem?_of_mem hy
            rw [List.getElem?_take] at hj
            split at hj
            · rename_i hji
              have hjl : j < (wntR (runR O1) (runR O2) 25).length := by rw [HWL.out]; omega
              obtain ⟨g', _, _, hg3', _, hg5'⟩ := HwlE.out j _ (List.getElem?_eq_getElem hjl)
              rw [hg5'] at hj
              cases hj
              have hp := List.pairwise_iff_getElem.1 (wntR_nd (runR O1) (runR O2) 25) j i hjl (List.getElem?_eq_some_iff.1 hz).1 hji
              rw [(List.getElem?_eq_some_iff.1 hz).2] at hp
              rw [hg3', hg3]
              exact hp
            · cases hj
          obtain ⟨hpn, hov⟩ := g2.step hg2 hg4 hdis
          have HT : Hid (wl.take (i + 1) = wl.take i ++ [g]) := hidIn (by rw [List.take_add_one, hg5]; rfl)
          have hck : ckN g = 0 := by unfold ckN; rw [if_pos hg2]
          have Hpc := hidIn (And.intro hpn hck)
          have Hov2 := hidIn hov
          have Hg4 := hidIn g3
          have Hsa := hidIn g1
          have Hpos := hidIn hpos
          clear hcell hz hg1 hg2 hg3 hg4 hg5 hbb1 hbb2 hbk hsb hpos hGet e1 e2 hdis hpn hov hck g1 g2 g3 HR
          generalize g.adjs.length = gl at HGet
          go_wp2_with fail
          refine HGet.out.mono ?_
          rintro e w8 ⟨⟨a, c, rfl, hsl8⟩, hb8⟩
          obtain ⟨W9, hW9⟩ : ∃ W9, w8.alloc (.cells #[.int .i64 g.origin, .int .u32 g.epoch, .int .u32 g.seq, .int .i64 g.claim, .bool g.ing, .slice a gl c] 28) = W9 := ⟨_, rfl⟩
          have b9 : Below w8.heap.size w8 W9 := by rw [← hW9]; exact (Below.refl _ w8).alloc (Nat.le_refl _) _
          have hX : W9.heap[w8.heap.size]? = some (.cells #[.int .i64 g.origin, .int .u32 g.epoch, .int .u32 g.seq, .int .i64 g.claim, .bool g.ing, .slice a gl c] 28) := by rw [← hW9]; exact heap_alloc_last w8 _
          have b89 := hb8.trans (b9.mono hb8.size)
          have HP := hidIn (sputP (Hsa.out.keep b89) (by omega) (hsl8.keep b9 (Nat.le_refl _)) (by have := Hpos.out; omega))
          rw [Hpc.out.1, Hpc.out.2] at HP
          have Hb89 := hidIn b89
          have HW := hidIn hW9
          obtain ⟨b15, hb15⟩ : ∃ b15, w8.heap.size = b15 := ⟨_, rfl⟩
          rw [hb15] at hX
          have x0 := cell_of_row _ _ 0 _ _ _ hX
          have x1 := cell_of_row _ _ 1 _ _ _ hX
          have x2 := cell_of_row _ _ 2 _ _ _ hX
          have x3 := cell_of_row _ _ 3 _ _ _ hX
          have x4 := cell_of_row _ _ 4 _ _ _ hX
          have x5 := cell_of_row _ _ 5 _ _ _ hX
          simp at x0 x1 x2 x3 x4 x5
          clear hsl8 hb8 hW9 b9 hX b89 HGet p0 Hsa
          go_upto_region 18 with fail
          rw [HW.out]
          clear HW hb15
          go_wp2_with fail
          refine HP.out.mono ?_
          rintro e w10 ⟨rfl, ⟨f10, s10, e10⟩, hf10⟩
          have HO : Hid (∃ fa', StAt w10 Sa Ma (40 + (i + 1)) fa' ∧ Ov (runR O1) (fR fa') (wl.take (i + 1)) ∧ Fr (fun j => j = Ma) w7 w10) := hidIn ⟨f10, s10, by rw [HT.out, e10]; exact Hov2.out, (Hg4.out.trans (Fr.of_below Hb89.out)).trans hf10⟩
          clear s10 e10 hf10 HP HT Hov2 Hg4 Hb89 x0 x1 x2 x3 x4 x5
          go_wp2_with fail
          go_roundw
          case rel => exact ⟨i + 1, by omega, by go_num, HO⟩
          case measure => simp [intOf]; omega
        · have hii : ¬ (i : Int) < (WL : Int) := by omega
          obtain ⟨fa', g1, g2, g3⟩ := HR.out
          rw [List.take_of_length_le (by have := HwlL.out; omega)] at g2
          obtain ⟨w8, rfl⟩ : ∃ w8, w8 = wr := ⟨_, rfl⟩
          have hsame := whole_same HoA.out HoB.out Hov.out g2 HwlM.out
          have Hsa8 := hidIn g1
          have Hsb8 := hidIn (Hsb7.out.keepM g3 Hsa7.out.m.isMap (fun e => HMM.out e.symm))
          have Hsw8 := hidIn (Hsw7.out.keepM g3 Hsa7.out.m.isMap HMw.out.2)
          have HB8 := hidIn (HB7.out.trans (g3.below HB7.out.size (fun j hj => by rw [hj]; exact Hma.out)))
          have HbB' : Hid (Bd (fR fb')) := hidIn (bd_ov Hov.out HbB.out (fun x hx => by
            obtain ⟨j, _, _, hA, _⟩ := sndR_mem HoA.out HoB.out hx
            exact HbA.out _ _ hA))
          have HoB' := hidIn Hsb8.out.okF
          have Hsame := hidIn hsame
          have HT1 : Hid ((allL fa' 24).map stOf = (allR (fR fb') 24).map stOf) := hidIn (by rw [allL_fR]; exact allR_stamps hsame 24)
          clear g1 g2 g3 HR hsame Hsat Hwat HtS HtW Hrs Hfr HSL HWL Hsb7 Hsa7 Hsw7 HwlL HwlE HwlM Hov Hg3 Hsa6 Hsb6 Hsw6 HB6 HB7 hsl
          obtain ⟨T, hT⟩ : ∃ T, (allR (fR fb') 24).map stOf = T := ⟨_, rfl⟩
          rw [hT] at HT1
          have HTT := hidIn hT
          have HSa := hidIn (sstamps_any Hsa8.out)
          rw [HT1.out] at HSa
          have hT24 : T.length ≤ 24 := by rw [← hT, List.length_map]; exact allL_len fb' 24
          clear hT
          go_wp2_with fail
          refine HSa.out.mono ?_
          rintro e w9 ⟨⟨ux, rfl, hrx⟩, hb9⟩
          have HSb := hidIn (sstamps_any (Hsb8.out.keep hb9))
          rw [allL_fR, HTT.out] at HSb
          obtain ⟨xa, xcap, rfl⟩ := row_shape hrx
          have Hrx := hidIn (slAt_of_row (cs := sc3) (fun _ => rfl) hrx rfl)
          have HB9 := hidIn (HB8.out.trans (hb9.mono HB8.out.size))
          have Hb89 := hidIn hb9
          clear hrx hb9 HSa
          obtain ⟨TL, hTL⟩ : ∃ TL, T.length = TL := ⟨_, rfl⟩
          have HTL := hidIn hTL
          rw [hTL] at hT24 Hrx ⊢
          go_wp2_with fail
          refine HSb.out.mono ?_
          rintro e w10 ⟨⟨uy, rfl, hry⟩, hb10⟩
          rw [hTL] at hry
          obtain ⟨ya, ycap, rfl⟩ := row_shape hry
          have Hry := hidIn (slAt_of_row (cs := sc3) (fun _ => rfl) hry hTL)
          have Hrx10 := hidIn (Hrx.out.keep hb10 (Nat.le_refl _))
          have HB10 := hidIn (HB9.out.trans (hb10.mono HB9.out.size))
          have Hb810 := hidIn (Hb89.out.trans (hb10.mono Hb89.out.size))
          have Hcx := hidIn Hrx10.out.sts
          have Hcy := hidIn Hry.out.sts
          clear hry hb10 HSb HB9 Hb89 hTL Hrx
          go_wp2_with fail
          go_loopw [21] (fun q wr => ∃ j : Nat, j ≤ TL ∧ q = .int .i64 j ∧ Hid (Below w10.heap.size w10 wr)) (fun q _ => TL - (intOf q).toNat)
          case atStart => exact ⟨0, Nat.zero_le _, rfl, hidIn (Below.refl _ _)⟩
          case round =>
            obtain ⟨j, hj, rfl, HI⟩ := hrel
            by_cases hjk : j < TL
            · have hji : (j : Int) < (TL : Int) := by omega
              obtain ⟨b1, o1, rfl, hb1, hc1⟩ := Hcx.out (by omega)
              obtain ⟨b2, o2, rfl, hb2, hc2⟩ := Hcy.out (by omega)
              obtain ⟨y, hy⟩ : ∃ y, T[j]? = some y := ⟨T[j]'(by rw [HTL.out]; exact hjk), List.getElem?_eq_getElem _⟩
              obtain ⟨p0, p1, p2⟩ := hc1 j y hy
              obtain ⟨q0, q1, q2⟩ := hc2 j y hy
              have x0 := (HI.out.cell (p := ⟨b1, o1 + j * 3, none⟩) hb1).trans p0
              have x1 := (HI.out.cell (p := ⟨b1, o1 + j * 3 + 1, none⟩) hb1).trans p1
              have x2 := (HI.out.cell (p := ⟨b1, o1 + j * 3 + 2, none⟩) hb1).trans p2
              have z0 := (HI.out.cell (p := ⟨b2, o2 + j * 3, none⟩) hb2).trans q0
              have z1 := (HI.out.cell (p := ⟨b2, o2 + j * 3 + 1, none⟩) hb2).trans q1
              have z2 := (HI.out.cell (p := ⟨b2, o2 + j * 3 + 2, none⟩) hb2).trans q2
              have heq : ∀ w, (Op.equalIn 10000 72 (.agg #[.int .i64 y.1, .int .u32 y.2.1, .int .u32 y.2.2]) (.agg #[.int .i64 y.1, .int .u32 y.2.1, .int .u32 y.2.2])).run Try.prog w = Result.ok true w := fun w => (eqSt y y w).trans (by simp)
              clear p0 p1 p2 q0 q1 q2 hc1 hc2 hy
              go_upto_region 27 with fail
              go_quiet (fail)
              generalize hV : World.drewN wr _ = V
              have HBV : Hid (Below w10.heap.size w10 V) := hidIn (by rw [← hV]; exact HI.out.trans (((Fr.refl (fun _ => False) wr).drewN _).below HI.out.size (fun _ h => h.elim)))
              clear hV HI x0 x1 x2 z0 z1 z2 heq
              go_wp2_with fail
              go_roundw
              case rel => exact ⟨j + 1, by omega, by go_num, HBV⟩
              case measure => simp [intOf]; omega
            · have hji : ¬ (j : Int) < (TL : Int) := by omega
              obtain ⟨w11, rfl⟩ : ∃ w11, w11 = wr := ⟨_, rfl⟩
              have b811 := Hb810.out.trans (HI.out.mono Hb810.out.size)
              have hmis := smissing_any (Hsa8.out.keep b811) (Hry.out.keep HI.out (Nat.le_refl _)) (fun y hy => sts_bd HoB'.out HbB'.out (by rw [HTT.out]; exact hy))
              rw [← HTT.out, byS_all HoB'.out 24 (Nat.le_refl _)] at hmis
              have HMi := hidIn hmis
              have Hb811 := hidIn b811
              have HB11 := hidIn (HB8.out.trans (b811.mono HB8.out.size))
              clear hmis b811 HI
              go_wp2_with fail
              refine HMi.out.mono ?_
              rintro e w12 ⟨h12, hb12⟩
              rcases h12 with ⟨h12, _⟩ | ⟨g, uS, vW, L', hg, rfl, hrS, hrs', _, hrW⟩
              · cases h12
              cases hg
              rw [(send_vs HoB'.out).1, (none_left Hsame.out).1] at hrs'
              rw [(send_vs HoB'.out).2, (none_left Hsame.out).2] at hrW
              have hL0 : L'.length = 0 := by
                have := congrArg List.length hrs'
                simpa using this
              rw [hL0] at hrS
              obtain ⟨sa', scap', rfl⟩ := row_shape hrS
              obtain ⟨wa', wcap', rfl⟩ := row_shape hrW
              have Hb812 := hidIn (Hb811.out.trans (hb12.mono Hb811.out.size))
              have HB12 := hidIn (HB8.out.trans (Hb812.out.mono HB8.out.size))
              clear hrS hrW hrs' hL0 hb12 HMi HB11 Hb811
              simp only [List.length_nil]
              go_wp2_with fail
              refine (HF1.out w12 HB12.out).mono ?_
              rintro e w13 ⟨⟨So, Mo, fo, rfl, hso, hfo, _, _⟩, hb13⟩
              have Hb813 := hidIn (Hb812.out.trans (hb13.mono Hb812.out.size))
              have HB13 := hidIn (HB12.out.trans (hb13.mono HB12.out.size))
              have HSw := hidIn (sstamps_any (Hsw8.out.keep Hb813.out))
              obtain ⟨TA, hTA⟩ : ∃ TA, (allR (runR O1) 24).map stOf = TA := ⟨_, rfl⟩
              rw [allL_fR, Hfw.out, hTA] at HSw
              have Hso := hidIn hso
              have Hfo := hidIn hfo
              have HTA := hidIn hTA
              have hTA24 : TA.length ≤ 24 := by rw [← hTA, List.length_map, ← Hfa.out]; exact allL_len fa 24
              obtain ⟨AL, hAL⟩ : ∃ AL, TA.length = AL := ⟨_, rfl⟩
              have HAL := hidIn hAL
              rw [hAL] at hTA24
              clear hso hfo hb13 hTA
              go_wp2_with fail
              refine HSw.out.mono ?_
              rintro e w14 ⟨⟨uf, rfl, hrf⟩, hb14⟩
              rw [hAL] at hrf
              obtain ⟨fa1, fcap, rfl⟩ := row_shape hrf
              have Hrf := hidIn (slAt_of_row (cs := sc3) (fun _ => rfl) hrf hAL)
              have HSo := hidIn (sstamps_any (Hso.out.keep hb14))
              rw [allL_fR, Hfo.out, HTA.out] at HSo
              have HB14 := hidIn (HB13.out.trans (hb14.mono HB13.out.size))
              clear hrf hb14 HSw
              go_wp2_with fail
              refine HSo.out.mono ?_
              rintro e w15 ⟨⟨uz, rfl, hrz⟩, hb15⟩
              rw [hAL] at hrz
              obtain ⟨za, zcap, rfl⟩ := row_shape hrz
              have Hcz := hidIn (slAt_of_row (cs := sc3) (fun _ => rfl) hrz hAL).sts
              have Hcf := hidIn (Hrf.out.keep hb15 (Nat.le_refl _)).sts
              have HB15 := hidIn (HB14.out.trans (hb15.mono HB14.out.size))
              clear hrz hb15 HSo hAL
              go_wp2_with fail
              go_loopw [25] (fun q wr => ∃ j : Nat, j ≤ AL ∧ q = .int .i64 j ∧ Hid (Below w15.heap.size w15 wr)) (fun q _ => AL - (intOf q).toNat)
              case atStart => exact ⟨0, Nat.zero_le _, rfl, hidIn (Below.refl _ _)⟩
              case round =>
                obtain ⟨j, hj, rfl, HI⟩ := hrel
                by_cases hjk : j < AL
                · have hji : (j : Int) < (AL : Int) := by omega
                  have hji2 : decide ((AL : Int) ≤ (j : Int)) = false := by simp; omega
                  have hji3 : ¬ (AL : Int) ≤ (j : Int) := by omega
                  have hji4 : decide (AL ≤ j) = false := by simp; omega
                  obtain ⟨b1, o1, rfl, hb1, hc1⟩ := Hcz.out (by omega)
                  obtain ⟨b2, o2, rfl, hb2, hc2⟩ := Hcf.out (by omega)
                  obtain ⟨y, hy⟩ : ∃ y, TA[j]? = some y := ⟨TA[j]'(by rw [HAL.out]; exact hjk), List.getElem?_eq_getElem _⟩
                  obtain ⟨p0, p1, p2⟩ := hc1 j y hy
                  obtain ⟨q0, q1, q2⟩ := hc2 j y hy
                  have x0 := (HI.out.cell (p := ⟨b1, o1 + j * 3, none⟩) hb1).trans p0
                  have x1 := (HI.out.cell (p := ⟨b1, o1 + j * 3 + 1, none⟩) hb1).trans p1
                  have x2 := (HI.out.cell (p := ⟨b1, o1 + j * 3 + 2, none⟩) hb1).trans p2
                  have z0 := (HI.out.cell (p := ⟨b2, o2 + j * 3, none⟩) hb2).trans q0
                  have z1 := (HI.out.cell (p := ⟨b2, o2 + j * 3 + 1, none⟩) hb2).trans q1
                  have z2 := (HI.out.cell (p := ⟨b2, o2 + j * 3 + 2, none⟩) hb2).trans q2
                  have heq : ∀ w, (Op.equalIn 10000 72 (.agg #[.int .i64 y.1, .int .u32 y.2.1, .int .u32 y.2.2]) (.agg #[.int .i64 y.1, .int .u32 y.2.1, .int .u32 y.2.2])).run Try.prog w = Result.ok true w := fun w => (eqSt y y w).trans (by simp)
                  clear p0 p1 p2 q0 q1 q2 hc1 hc2 hy
                  go_upto_region 37 with fail
                  go_quiet (fail)
                  generalize hV : World.drewN wr _ = V
                  have HBV : Hid (Below w15.heap.size w15 V) := hidIn (by rw [← hV]; exact HI.out.trans (((Fr.refl (fun _ => False) wr).drewN _).below HI.out.size (fun _ h => h.elim)))
                  clear hV HI x0 x1 x2 z0 z1 z2 heq
                  go_wp2_with fail
                  go_roundw
                  case rel => exact ⟨j + 1, by omega, by go_num, HBV⟩
                  case measure => simp [intOf]; omega
                · have hji : ¬ (j : Int) < (AL : Int) := by omega
                  have HBo := hidIn (HB15.out.trans (HI.out.mono HB15.out.size))
                  clear HI
                  go_wp2_with fail
                  refine (sworks_any _).mono ?_
                  rintro e wz ⟨rfl, hbz⟩
                  have HBz := hidIn (HBo.out.trans (hbz.mono HBo.out.size))
                  clear hbz HBo
                  go_wp2_with fail
                  go_ret
                  exact ⟨rfl, HBz.out⟩
end Go.Proofs.Ytllmocfiobbofaa
namespace Go.Proofs.Ytllmocfiobbofaa
open Go.ChangeShapes Go.WideShapes Go.ChangeAt Go.RowKit

section
variable {H : Type} {enc : TypeId × Value → H} {W : World}
theorem six {α : Type} {cs : Array α} (h : cs.size = 6) : ∃ c0 c1 c2 c3 c4 c5, cs = #[c0, c1, c2, c3, c4, c5] := by
  obtain ⟨l⟩ := cs
  match l, h with
  | [a, b, c, d, e, f], _ => exact ⟨a, b, c, d, e, f, rfl⟩
theorem bAdj : Try.prog.bytesOf 78 = 16 := by kernel_rfl
theorem cStamp : Try.prog.cellsOf 72 = 3 := by kernel_rfl
theorem stampF : Try.prog.underlying 72 = some (.struct #[(Try.prog.fieldsOf 72)[0]!, (Try.prog.fieldsOf 72)[1]!, (Try.prog.fieldsOf 72)[2]!]) := by kernel_rfl
theorem stampF' : ((Try.prog.fieldsOf 72)[0]!).type = 3 ∧ ((Try.prog.fieldsOf 72)[1]!).type = 25 ∧ ((Try.prog.fieldsOf 72)[2]!).type = 25 := ⟨by kernel_rfl, by kernel_rfl, by kernel_rfl⟩
set_option maxRecDepth 100000 in
/-- A stamp as an argument. -/
theorem stamp_arg {r : Reach} {b0 : Nat} {v : Value} {d : DataW H} {p : List MemPlace} (hv : Value.okWide Try.prog W r b0 72 v) (h : DataW.Trod enc Try.prog W 0 (fun _ => true) true 72 v d p) :
    ∃ o e q : Int, v = stV o e q ∧ (0 ≤ e ∧ e < 4294967296) ∧ (0 ≤ q ∧ q < 4294967296) := by
  obtain ⟨v0, v1, v2, y0, y1, y2, m, rfl, _, _, h0, h1, h2⟩ := Joins.open_agg3 stampF (by kernel_rfl) cStamp hv h
  rw [stampF'.1] at h0
  rw [stampF'.2.1] at h1
  rw [stampF'.2.2] at h2
  obtain ⟨o, ho, _⟩ := DataW.trod_int Try.underlying3 h0
  obtain ⟨e, he, _, we⟩ := DataW.trod_int Try.underlying25 h1
  obtain ⟨q, hq, _, wq⟩ := DataW.trod_int Try.underlying25 h2
  simp at ho he hq
  have b1 := bounds_u32 we
  have b2 := bounds_u32 wq
  exact ⟨o, e, q, by rw [ho, he, hq], by omega, by omega⟩
set_option maxRecDepth 100000 in
/-- A record as an argument. -/
theorem rec_arg {r : Reach} {b0 : Nat} {v : Value} {d : DataW H} {p : List MemPlace} (hv : Value.okWide Try.prog W r b0 28 v) (h : DataW.Trod enc Try.prog W 0 (fun _ => true) true 28 v d p) (hw : ∀ n ∈ d.weights Try.prog 28, n ≤ reachBytes) :
    ∃ (y : Rc) (va : Value), v = recV y va ∧ SlAt ac 2 W va y.adjs ∧ NilOk va ∧ RcB y ∧ (y.adjs.length + 1) * 16 ≤ 140737488355328 := by
  obtain ⟨cs, rfl, hsz⟩ := okWide_struct recF hv
  rw [cRec] at hsz
  obtain ⟨v0, v1, v2, v3, v4, v5, rfl⟩ := six hsz
  obtain ⟨fuel, hf⟩ := h
  obtain ⟨xs, k, _, hx, hlen, hxl, hfd⟩ := DataW.trod_struct recF hf
  match xs, hxl with
  | [z0, z1, z2, z3, z4, z5], _ =>
    have g0 := hfd 0 ((Try.prog.fieldsOf 28)[0]!) rfl
    have g1 := hfd 1 ((Try.prog.fieldsOf 28)[1]!) rfl
    have g2 := hfd 2 ((Try.prog.fieldsOf 28)[2]!) rfl
    have g3 := hfd 3 ((Try.prog.fieldsOf 28)[3]!) rfl
    have g4 := hfd 4 ((Try.prog.fieldsOf 28)[4]!) rfl
    have g5 := hfd 5 ((Try.prog.fieldsOf 28)[5]!) rfl
    rw [(recF' 0 (by omega)).1, (recF' 0 (by omega)).2] at g0
    rw [(recF' 1 (by omega)).1, (recF' 1 (by omega)).2] at g1
    rw [(recF' 2 (by omega)).1, (recF' 2 (by omega)).2] at g2
    rw [(recF' 3 (by omega)).1, (recF' 3 (by omega)).2] at g3
    rw [(recF' 4 (by omega)).1, (recF' 4 (by omega)).2] at g4
    rw [(recF' 5 (by omega)).1, (recF' 5 (by omega)).2] at g5
    simp [cInt, cU32, cBool, cAdjs, Value.cells] at g0 g1 g2 g3 g4 g5
    obtain ⟨o, ho, _⟩ := DataW.trod_int Try.underlying3 g0
    obtain ⟨e, he, _, wfe⟩ := DataW.trod_int Try.underlying25 g1
    obtain ⟨s, hs, _, wfs⟩ := DataW.trod_int Try.underlying25 g2
    obtain ⟨c, hc, _⟩ := DataW.trod_int Try.underlying3 g3
    obtain ⟨b, hb, _⟩ := DataW.trod_bool Try.underlying4 g4
    obtain ⟨l, hl, hn, _, hll⟩ := open_sl (0, 0) (cs := ac) (sz := 2) (fun _ => rfl) (by omega) Try.underlying26 cAdj (fun n cs' x h => adj_cells h) g5
    simp at ho he hs hc hb
    have b1 := bounds_u32 wfe
    have b2 := bounds_u32 wfs
    refine ⟨⟨o, e, s, c, b, l⟩, v5, by simp [ho, he, hs, hc, hb], hl, hn, ⟨by show 0 ≤ e; omega, by show e < _; omega, by show 0 ≤ s; omega, by show s < _; omega⟩, ?_⟩
    simp only [Prod.mk.injEq] at hx
    have hd := hx.1
    refine slice_weight (d := z5.1) Try.underlying26 bAdj (by omega) (fun n hn => hw n ?_) (by rcases hll with rfl | h; exact .inl rfl; exact .inr h)
    rw [hd]
    simp only [DataW.weights, recF, List.map_cons, List.map_nil, DataW.weightsEach, (recF' 0 (by omega)).1, (recF' 1 (by omega)).1, (recF' 2 (by omega)).1, (recF' 3 (by omega)).1, (recF' 4 (by omega)).1, (recF' 5 (by omega)).1, List.append_nil, List.mem_append]
    simp [hn]
end
end Go.Proofs.Ytllmocfiobbofaa
namespace Go.Proofs.Ytllmocfiobbofaa
open Go.ChangeShapes Go.WideShapes Go.ChangeAt Go.RowKit

section
variable {H : Type} {enc : TypeId × Value → H} {W : World}
theorem cU8' : Try.prog.cellsOf 5 = 1 := by kernel_rfl
theorem cTe : Try.prog.cellsOf 69 = 4 := by kernel_rfl
theorem bTe : Try.prog.bytesOf 69 = 4 := by kernel_rfl
theorem bSt : Try.prog.bytesOf 72 = 16 := by kernel_rfl
theorem teF : Try.prog.underlying 69 = some (.struct #[(Try.prog.fieldsOf 69)[0]!, (Try.prog.fieldsOf 69)[1]!, (Try.prog.fieldsOf 69)[2]!, (Try.prog.fieldsOf 69)[3]!]) := by kernel_rfl
theorem teF' (i : Nat) (hi : i < 4) : ((Try.prog.fieldsOf 69)[i]!).type = 5 ∧ ((Try.prog.fieldsOf 69)[i]!).offset = i := by
  match i, hi with
  | 0, _ => exact ⟨by kernel_rfl, by kernel_rfl⟩
  | 1, _ => exact ⟨by kernel_rfl, by kernel_rfl⟩
  | 2, _ => exact ⟨by kernel_rfl, by kernel_rfl⟩
  | 3, _ => exact ⟨by kernel_rfl, by kernel_rfl⟩
set_option maxRecDepth 100000 in
theorem te_cells {n : Nat} {cs' : List Value} {x : DataW H × List MemPlace} (h : DataW.trod enc Try.prog W 0 (fun _ => true) true n 69 cs' = some x) : ∃ y : Te, cs' = te4 y ∧ (0 ≤ y.1 ∧ y.1 ≤ 255) ∧ (0 ≤ y.2.1 ∧ y.2.1 ≤ 255) ∧ (0 ≤ y.2.2.1 ∧ y.2.2.1 ≤ 255) ∧ 0 ≤ y.2.2.2 ∧ y.2.2.2 ≤ 255 := by
  obtain ⟨xs, k, _, _, hlen, hxl, hf⟩ := DataW.trod_struct teF h
  rw [cTe] at hlen
  match cs', hlen with
  | [v0, v1, v2, v3], _ =>
    match xs, hxl with
    | [z0, z1, z2, z3], _ =>
      have g0 := hf 0 ((Try.prog.fieldsOf 69)[0]!) rfl
      have g1 := hf 1 ((Try.prog.fieldsOf 69)[1]!) rfl
      have g2 := hf 2 ((Try.prog.fieldsOf 69)[2]!) rfl
      have g3 := hf 3 ((Try.prog.fieldsOf 69)[3]!) rfl
      rw [(teF' 0 (by omega)).1, (teF' 0 (by omega)).2] at g0
      rw [(teF' 1 (by omega)).1, (teF' 1 (by omega)).2] at g1
      rw [(teF' 2 (by omega)).1, (teF' 2 (by omega)).2] at g2
      rw [(teF' 3 (by omega)).1, (teF' 3 (by omega)).2] at g3
      simp [cU8'] at g0 g1 g2 g3
      obtain ⟨o, ho, _, w0⟩ := DataW.trod_int Try.underlying5 g0
      obtain ⟨e, he, _, w1⟩ := DataW.trod_int Try.underlying5 g1
      obtain ⟨s, hs, _, w2⟩ := DataW.trod_int Try.underlying5 g2
      obtain ⟨c, hc, _, w3⟩ := DataW.trod_int Try.underlying5 g3
      simp at ho he hs hc
      exact ⟨(o, e, s, c), by simp [te4, ho, he, hs, hc], bounds_u8 w0, bounds_u8 w1, bounds_u8 w2, bounds_u8 w3⟩
set_option maxRecDepth 100000 in
theorem te_arg {a : Option Addr} {len cap : Nat} {d : DataW H} {p : List MemPlace} (h : DataW.Trod enc Try.prog W 0 (fun _ => true) true 65 (.slice a len cap) d p) (hw : ∀ n ∈ d.weights Try.prog 65, n ≤ reachBytes) :
    ∃ ls, SlAt te4 4 W (.slice a len cap) ls ∧ TeB ls ∧ NilOk (.slice a len cap) ∧ (ls.length + 1) * 4 ≤ 140737488355328 := by
  obtain ⟨fuel, hf⟩ := h
  obtain ⟨ns, hn1, hn2, hG, hn3⟩ := open_sl (0, 0, 0, 0) (cs := te4) (sz := 4) (fun _ => rfl) (by omega) Try.underlying65 cTe (fun n cs' x h => te_cells h) (by simpa [Value.cells] using hf)
  exact ⟨ns, hn1, hG, hn2, slice_weight Try.underlying65 bTe (by omega) hw (by rcases hn3 with rfl | h; exact .inl rfl; exact .inr h)⟩
theorem stF2 : (((Try.prog.fieldsOf 72)[0]!).type = 3 ∧ ((Try.prog.fieldsOf 72)[0]!).offset = 0) ∧ (((Try.prog.fieldsOf 72)[1]!).type = 25 ∧ ((Try.prog.fieldsOf 72)[1]!).offset = 1) ∧ ((Try.prog.fieldsOf 72)[2]!).type = 25 ∧ ((Try.prog.fieldsOf 72)[2]!).offset = 2 := ⟨⟨by kernel_rfl, by kernel_rfl⟩, ⟨by kernel_rfl, by kernel_rfl⟩, by kernel_rfl, by kernel_rfl⟩
set_option maxRecDepth 100000 in
theorem st_cells {n : Nat} {cs' : List Value} {x : DataW H × List MemPlace} (h : DataW.trod enc Try.prog W 0 (fun _ => true) true n 72 cs' = some x) : ∃ y : Ed, cs' = sc3 y ∧ (0 ≤ y.2.1 ∧ y.2.1 < 4294967296) ∧ 0 ≤ y.2.2 ∧ y.2.2 < 4294967296 := by
  obtain ⟨y0, y1, y2, k, _, hlen, h0, h1, h2⟩ := Deep.trod_struct3 stampF h
  obtain ⟨⟨a0, b0⟩, ⟨a1, b1⟩, a2, b2⟩ := stF2
  rw [cStamp] at hlen
  match cs', hlen with
  | [v0, v1, v2], _ =>
    rw [a0, b0, cInt] at h0
    rw [a1, b1, cU32] at h1
    rw [a2, b2, cU32] at h2
    obtain ⟨p, hp, _, wp⟩ := DataW.trod_int Try.underlying3 h0
    obtain ⟨q, hq, _, wq⟩ := DataW.trod_int Try.underlying25 h1
    obtain ⟨r, hr, _, wr⟩ := DataW.trod_int Try.underlying25 h2
    simp at hp hq hr
    have b1 := bounds_u32 wq
    have b2 := bounds_u32 wr
    exact ⟨(p, q, r), by rw [hp, hq, hr], by simp only; omega, by simp only; omega⟩
set_option maxRecDepth 100000 in
theorem st_arg {a : Option Addr} {len cap : Nat} {d : DataW H} {p : List MemPlace} (h : DataW.Trod enc Try.prog W 0 (fun _ => true) true 39 (.slice a len cap) d p) (hw : ∀ n ∈ d.weights Try.prog 39, n ≤ reachBytes) :
    ∃ ls, SlAt sc3 3 W (.slice a len cap) ls ∧ (∀ y ∈ ls, (0 ≤ y.2.1 ∧ y.2.1 < 4294967296) ∧ 0 ≤ y.2.2 ∧ y.2.2 < 4294967296) ∧ NilOk (.slice a len cap) ∧ (ls.length + 1) * 16 ≤ 140737488355328 := by
  obtain ⟨fuel, hf⟩ := h
  obtain ⟨ns, hn1, hn2, hG, hn3⟩ := open_sl (0, 0, 0) (cs := sc3) (sz := 3) (fun _ => rfl) (by omega) Try.underlying39 cStamp (fun n cs' x h => st_cells h) (by simpa [Value.cells] using hf)
  exact ⟨ns, hn1, hG, hn2, slice_weight Try.underlying39 bSt (by omega) hw (by rcases hn3 with rfl | h; exact .inl rfl; exact .inr h)⟩
end
end Go.Proofs.Ytllmocfiobbofaa
