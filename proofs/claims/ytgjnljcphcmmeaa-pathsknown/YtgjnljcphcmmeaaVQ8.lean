/- Count never runs over: what it has is above 0 just where there is a way. -/
import Derived.Test.YtgjnljcphcmmeaaVQ7
namespace Go.Proofs.Ytgjnljcphcmmeaa

theorem cnt_row (y : Int) : ∀ (F : List Ed) (c : Nat → Nat), (∀ e ∈ F, e.1 = y ∧ e.2.1.toNat ≠ y.toNat) → (F.Pairwise fun a b => a.2.1.toNat ≠ b.2.1.toNat) →
    (F.foldl cntE c) y.toNat = c y.toNat ∧ (∀ j, (F.foldl cntE c) j ≤ c j + c y.toNat) ∧ ∀ j, (∀ e ∈ F, e.2.1.toNat ≠ j) → (F.foldl cntE c) j = c j
  | [], c, _, _ => ⟨rfl, fun j => by simp, fun j _ => rfl⟩
  | e :: F, c, h, hp => by
    rw [List.pairwise_cons] at hp
    have he := h e (by simp)
    have hy : cntE c e y.toNat = c y.toNat := by unfold cntE putN; rw [if_neg (fun q => he.2 q.symm)]
    obtain ⟨h1, h2, h3⟩ := cnt_row y F (cntE c e) (fun f hf => h f (by simp [hf])) hp.2
    rw [List.foldl_cons]
    refine ⟨by rw [h1, hy], fun j => ?_, fun j hj => ?_⟩
    · by_cases hj : j = e.2.1.toNat
      · have h4 := h3 j (fun f hf q => hp.1 f hf (by rw [q, hj]))
        rw [h4]
        unfold cntE putN
        rw [if_pos hj, he.1, hj]
        exact Nat.mod_le _ _
      · have h4 := h2 j
        have h5 : cntE c e j = c j := by unfold cntE putN; rw [if_neg hj]
        rw [hy, h5] at h4
        exact h4
    · have h4 := h3 j (fun f hf => hj f (by simp [hf]))
      rw [h4]
      unfold cntE putN
      rw [if_neg (fun q => hj e (by simp) q.symm)]
theorem cnt_bound {ns : List Int} {es : List Ed} (hok : graphOk ns es = true) (hp : PosE es) (P : List (Int × Int)) (hne : ∀ e ∈ es, e.1 ≠ e.2.1) : ∀ (Q : List (Int × Int)) (c : Nat → Nat) (B : Nat), (∀ j, c j ≤ B) → ∀ j, ((told es P Q).foldl cntE c) j ≤ B * 2 ^ Q.length
  | [], c, B, h, j => by simpa [told] using h j
  | n :: Q, c, B, h, j => by
    have hbd := graphOk_bd hok
    have hr : es.Pairwise fun a b => risesE a b = true := by
      simp only [graphOk, Bool.and_eq_true] at hok
      exact (edgesOk_rise es _ hok.2.2).2
    rw [told, List.foldl_append]
    have hrow := cnt_row n.1 (es.filter fun e => decide (e.1 = n.1) && tgt es (cP P) P e) c (fun e he => by
      simp only [List.mem_filter, Bool.and_eq_true, decide_eq_true_eq] at he
      refine ⟨he.2.1, fun q => hne e he.1 ?_⟩
      have h1 := hbd.1 _ (hbd.2.1 e he.1).1
      have h2 := hbd.1 _ (hbd.2.1 e he.1).2
      rw [he.2.1] at h1 ⊢
      omega) (by
      have hf := hr.filter fun e => decide (e.1 = n.1) && tgt es (cP P) P e
      refine (List.pairwise_iff_forall_sublist.2 fun {a b} hab => ?_)
      have ha : a ∈ es.filter fun e => decide (e.1 = n.1) && tgt es (cP P) P e := hab.subset (by simp)
      have hb : b ∈ es.filter fun e => decide (e.1 = n.1) && tgt es (cP P) P e := hab.subset (by simp)
      have h3 := List.pairwise_iff_forall_sublist.1 hf hab
      simp only [List.mem_filter, Bool.and_eq_true, decide_eq_true_eq] at ha hb
      simp only [risesE, Bool.or_eq_true, Bool.and_eq_true, decide_eq_true_eq] at h3
      have h4 := hbd.1 _ (hbd.2.1 a ha.1).2
      have h5 := hbd.1 _ (hbd.2.1 b hb.1).2
      omega)
    have h6 := cnt_bound hok hp P hne Q ((es.filter fun e => decide (e.1 = n.1) && tgt es (cP P) P e).foldl cntE c) (B * 2) (fun i => by
      have := hrow.2.1 i
      have := h i
      have := h n.1.toNat
      omega) j
    rw [List.length_cons, Nat.pow_succ, Nat.mul_comm (2 ^ Q.length), ← Nat.mul_assoc]
    exact h6
theorem graphOk_ne {ns : List Int} {es : List Ed} (h : graphOk ns es = true) : ∀ e ∈ es, e.1 ≠ e.2.1 := by
  simp only [graphOk, Bool.and_eq_true] at h
  have key : ∀ (es : List Ed) (last : Ed), edgesOk ns last es = true → ∀ e ∈ es, e.1 ≠ e.2.1 := by
    intro es
    induction es with
    | nil => intro _ _ e he; simp at he
    | cons a es ih =>
      intro last h e he
      simp only [edgesOk, edgeOk, Bool.and_eq_true] at h
      rcases List.mem_cons.1 he with rfl | he
      · simpa using h.1.2.2.1
      · exact ih a h.2 e he
  exact key es _ h.2.2
theorem sum_le {F : Ed → Nat} {B : Nat} : ∀ {es : List Ed}, (∀ e ∈ es, F e ≤ B) → (es.map F).sum ≤ es.length * B
  | [], _ => by simp
  | e :: es, h => by
    rw [List.map_cons, List.sum_cons, List.length_cons, Nat.succ_mul]
    have h1 := h e (by simp)
    have h2 := sum_le (es := es) (F := F) (fun f hf => h f (by simp [hf]))
    omega
theorem sum_ge {F : Ed → Nat} : ∀ {es : List Ed} {e : Ed}, e ∈ es → F e ≤ (es.map F).sum
  | a :: es, e, h => by
    rw [List.map_cons, List.sum_cons]
    rcases List.mem_cons.1 h with rfl | h
    · omega
    · have := sum_ge (F := F) h; omega
open Classical in
theorem cnt_pos {ns : List Int} {es : List Ed} {r : Int} {P : List (Int × Int)} (hok : graphOk ns es = true) (hr : r ∈ ns) (h : IsNear es r P) (hn : NdOk P) :
    ∀ (n : Nat) (x d : Int), d.toNat = n → x ∈ ns → Ds es r x d → 0 < cntT r (told es P P) x.toNat := by
  have hp := graphOk_pos hok
  have hbd := graphOk_bd hok
  have hB : ∀ j, cntT r (told es P P) j ≤ 33554432 := fun j => by
    have h1 := cnt_bound hok hp P (graphOk_ne hok) P (putN (fun _ => 0) r.toNat 1) 1 (fun i => by unfold putN; split <;> simp) j
    have h2 : (2 : Nat) ^ P.length ≤ 2 ^ 25 := Nat.pow_le_pow_right (by omega) hn.1
    have h3 : (2 : Nat) ^ 25 = 33554432 := by decide
    have h4 : cntT r (told es P P) j ≤ 1 * 2 ^ P.length := h1
    omega
  intro n
  induction n using Nat.strongRecOn with
  | _ n ih =>
  intro x d hdn hx hd
  have hI : ∀ e, e ∈ es → (decide (Into es r x e) = true ↔ Into es r x e) := fun e _ => decide_eq_true_iff
  have hc := cnt_all hok hr h hn x hx (fun e => decide (Into es r x e)) hI
  have hs := sum_le (es := es.filter fun e => decide (Into es r x e)) (F := fun e => cntT r (told es P P) e.1.toNat) (fun e _ => hB _)
  have hl : (es.filter fun e => decide (Into es r x e)).length ≤ 384 := Nat.le_trans (List.length_filter_le _ _) hbd.2.2
  have hm : (es.filter fun e => decide (Into es r x e)).length * 33554432 ≤ 384 * 33554432 := Nat.mul_le_mul_right _ hl
  by_cases hxr : x = r
  · rw [if_pos hxr] at hc
    omega
  · rw [if_neg hxr] at hc
    obtain ⟨e, he⟩ := into_some hp hd hxr
    have hge := sum_ge (F := fun e => cntT r (told es P P) e.1.toNat) (es := es.filter fun e => decide (Into es r x e)) (e := e) (List.mem_filter.2 ⟨he.1, decide_eq_true_iff.2 he⟩)
    obtain ⟨h1, h2, d', h3, h4⟩ := he
    have h5 := hd.uniq h4
    have h6 := hp e h1
    have h7 := h3.nonneg hp
    have h8 := ih d'.toNat (by omega) e.1 d' rfl (hbd.2.1 e h1).1 h3
    omega
/-- Where there is no way, it has none. -/
theorem cnt_none {ns : List Int} {es : List Ed} {r : Int} {P : List (Int × Int)} (hok : graphOk ns es = true) (hr : r ∈ ns) (h : IsNear es r P) (hn : NdOk P) {x : Int} (hx : x ∈ ns) (hno : ∀ d, ¬ Ds es r x d) : cntT r (told es P P) x.toNat = 0 := by
  have hc := cnt_all hok hr h hn x hx (fun _ => false) (fun e _ => ⟨fun hf => by simp at hf, fun hI => absurd hI.2.2.choose_spec.2 (hno _)⟩)
  have hxr : x ≠ r := fun e => hno 0 (by rw [e]; exact ds_root (graphOk_pos hok))
  rw [if_neg hxr] at hc
  rw [hc, show (es.filter fun _ => false) = [] from by simp]
  rfl
end Go.Proofs.Ytgjnljcphcmmeaa
