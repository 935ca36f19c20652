/- What Count has of each node at its end: as many ways as those ahead of it have, together. -/
import Derived.Test.YtgjnljcphcmmeaaVQ3
namespace Go.Proofs.Ytgjnljcphcmmeaa

theorem edgesOk_rise {ns : List Int} : ∀ (es : List Ed) (last : Ed), edgesOk ns last es = true → (∀ e ∈ es, risesE last e = true) ∧ es.Pairwise fun a b => risesE a b = true
  | [], _, _ => by simp
  | a :: es, last, h => by
    simp only [edgesOk, edgeOk, Bool.and_eq_true] at h
    obtain ⟨h1, h2⟩ := edgesOk_rise es a h.2
    have hl : risesE last a = true := h.1.2.2.2.2
    have tr : ∀ x y z : Ed, risesE x y = true → risesE y z = true → risesE x z = true := fun x y z g1 g2 => by
      simp only [risesE, Bool.or_eq_true, Bool.and_eq_true, decide_eq_true_eq] at g1 g2 ⊢
      omega
    refine ⟨fun e he => ?_, List.pairwise_cons.2 ⟨h1, h2⟩⟩
    rcases List.mem_cons.1 he with rfl | he
    · exact hl
    · exact tr _ _ _ hl (h1 e he)
theorem graphOk_nodup {ns : List Int} {es : List Ed} (h : graphOk ns es = true) : es.Nodup := by
  simp only [graphOk, Bool.and_eq_true] at h
  exact (edgesOk_rise es _ h.2.2).2.imp (fun {a b} hr e => by
    subst e
    simp [risesE] at hr)
theorem told_nodup {es : List Ed} (hd : es.Nodup) (P : List (Int × Int)) : ∀ Q : List (Int × Int), (Q.map (·.1)).Nodup → (told es P Q).Nodup
  | [], _ => by simp [told]
  | n :: Q, hq => by
    rw [List.map_cons, List.nodup_cons] at hq
    rw [told, List.nodup_append]
    refine ⟨hd.filter _, told_nodup hd P Q hq.2, fun a ha b hb e => ?_⟩
    subst e
    simp only [List.mem_filter, Bool.and_eq_true, decide_eq_true_eq] at ha
    obtain ⟨⟨m, hm, h1⟩, _⟩ := told_mem.1 hb
    exact hq.1 (List.mem_map.2 ⟨m, hm, by rw [← h1, ha.2.1]⟩)
def two64 : Nat := 18446744073709551616
def cntG (acc was : Nat) (_ : Ed) : Nat := (acc + was) % 18446744073709551616
theorem cntE_step : cntE = stepG cntG := by funext c e; rfl
theorem fold_sum (N : Nat → Nat) : ∀ (L : List Ed) (a : Nat), a < 18446744073709551616 → L.foldl (fun acc e => cntG acc (N e.1.toNat) e) a = (a + (L.map fun e => N e.1.toNat).sum) % 18446744073709551616
  | [], a, h => by simp; omega
  | e :: L, a, h => by
    rw [List.foldl_cons, fold_sum N L _ (by unfold cntG; omega), List.map_cons, List.sum_cons]
    unfold cntG
    omega
theorem perm_into {ns : List Int} {es : List Ed} {r : Int} {P : List (Int × Int)} (hok : graphOk ns es = true) (h : IsNear es r P) (hn : NdOk P) (x : Int) (hx : x ∈ ns) (I : Ed → Bool) (hI : ∀ e, e ∈ es → (I e = true ↔ Into es r x e)) : ((told es P P).filter fun e => decide (e.2.1.toNat = x.toNat)).Perm (es.filter I) := by
  have hbd := graphOk_bd hok
  have h0 : ∀ n ∈ P, 0 ≤ n.1 := fun n h1 => by have := (hn.2 n h1).1; omega
  have hd := graphOk_nodup hok
  rw [List.perm_ext_iff_of_nodup ((told_nodup hd P P h.nd).filter _) (hd.filter _)]
  intro e
  rw [List.mem_filter, List.mem_filter, h.told_iff h0, decide_eq_true_eq]
  have h2 := hbd.1 x hx
  constructor
  · rintro ⟨⟨h1, d, hd1, hd2⟩, h3⟩
    have h4 := hbd.1 _ (hbd.2.1 e h1).2
    have h5 : e.2.1 = x := by omega
    exact ⟨h1, (hI e h1).2 ⟨h1, h5, d, hd1, by rw [← h5]; exact hd2⟩⟩
  · rintro ⟨h1, h3⟩
    obtain ⟨_, h4, d, hd1, hd2⟩ := (hI e h1).1 h3
    exact ⟨⟨h1, d, hd1, by rw [h4]; exact hd2⟩, by rw [h4]⟩
/-- As many ways as those ahead have together. -/
theorem cnt_all {ns : List Int} {es : List Ed} {r : Int} {P : List (Int × Int)} (hok : graphOk ns es = true) (hr : r ∈ ns) (h : IsNear es r P) (hn : NdOk P) (x : Int) (hx : x ∈ ns) (I : Ed → Bool) (hI : ∀ e, e ∈ es → (I e = true ↔ Into es r x e)) :
    cntT r (told es P P) x.toNat = ((if x = r then 1 else 0) + ((es.filter I).map fun e => cntT r (told es P P) e.1.toNat).sum) % 18446744073709551616 := by
  have hp := graphOk_pos hok
  have hbd := graphOk_bd hok
  have h0 : ∀ n ∈ P, 0 ≤ n.1 := fun n h1 => by have := (hn.2 n h1).1; omega
  have hfold := topo_fold cntG (putV (fun _ => 0) r.toNat 1) _ _ rfl (h.topo h0 hp) x.toNat
  have h1 := hbd.1 x hx
  have h2 := hbd.1 r hr
  have hcnt : ∀ y, (told es P P).foldl (stepG cntG) (putV (fun _ => 0) r.toNat 1) y = cntT r (told es P P) y := fun y => by unfold cntT; rw [cntE_step]; rfl
  rw [hcnt] at hfold
  rw [hfold]
  have hi : putV (fun _ => 0) r.toNat 1 x.toNat = (if x = r then 1 else 0 : Nat) := by
    unfold putV
    by_cases e : x = r
    · rw [if_pos (by rw [e]), if_pos e]
    · rw [if_neg (by omega), if_neg e]
  rw [hi]
  have hf : ∀ (L : List Ed) (a : Nat), L.foldl (fun acc e => cntG acc ((told es P P).foldl (stepG cntG) (putV (fun _ => 0) r.toNat 1) e.1.toNat) e) a = L.foldl (fun acc e => cntG acc (cntT r (told es P P) e.1.toNat) e) a := fun L a => by
    congr
  rw [hf, fold_sum _ _ _ (by split <;> omega), ((perm_into hok h hn x hx I hI).map _).sum_nat]
end Go.Proofs.Ytgjnljcphcmmeaa
