/- How many ways of so many hops and such a cost there are; the same, turned round. Count has at its end how many least-cost ways there are. Count never runs over: what it has is above 0 just where there is a way. The document's Count, as functions: by rising costs. Of: the first one of a list that has the node. From's answer, in ways. What the document's From tells of a node, as functions. The document's Count. -/
import Derived.Test.YtabnecicidkmhaaZ1
import Derived.Test.YtabnecicidkmhaaVQ5
import Derived.Test.YtabnecicidkmhaaV13
import Derived.Test.YtabnecicidkmhaaVQ3
import Derived.Deep.RegionHeld3
namespace Go.Proofs.Ytabnecicidkmhaa

def wh (es : List Ed) (a : Int) : Nat → Int → Int → Nat
  | 0, x, c => if x = a ∧ c = 0 then 1 else 0
  | h + 1, x, c => (es.map fun e => if e.2.1 = x then wh es a h e.1 (c - e.2.2) else 0).sum
theorem sum_add (es : List Ed) (F G : Ed → Nat) : (es.map fun e => F e + G e).sum = (es.map F).sum + (es.map G).sum := by
  induction es with
  | nil => rfl
  | cons e es ih => simp only [List.map_cons, List.sum_cons, ih]; omega
theorem sum_swap (fs : List Ed) (G : Ed → Ed → Nat) : ∀ es : List Ed, (es.map fun e => (fs.map fun f => G e f).sum).sum = (fs.map fun f => (es.map fun e => G e f).sum).sum
  | [] => by
    have : ∀ fs : List Ed, (fs.map fun _ => 0).sum = 0 := fun fs => by induction fs with | nil => rfl | cons f fs ih => rw [List.map_cons, List.sum_cons, ih]
    simp only [List.map_nil, List.sum_nil]
    exact (this fs).symm
  | e :: es => by
    simp only [List.map_cons, List.sum_cons]
    rw [sum_swap fs G es, sum_add]
theorem sum_if (es : List Ed) (p : Prop) [Decidable p] (F : Ed → Nat) : (if p then (es.map F).sum else 0) = (es.map fun e => if p then F e else 0).sum := by
  by_cases h : p
  · simp only [h, if_true]
  · simp only [h, if_false]
    induction es with
    | nil => rfl
    | cons e es ih => rw [List.map_cons, List.sum_cons, ← ih]
theorem sum_congr {es : List Ed} {F G : Ed → Nat} (h : ∀ e ∈ es, F e = G e) : (es.map F).sum = (es.map G).sum := by
  rw [List.map_congr_left h]
theorem wh_first (es : List Ed) : ∀ (h : Nat) (a x c : Int), wh es a (h + 1) x c = (es.map fun e => if e.1 = a then wh es e.2.1 h x (c - e.2.2) else 0).sum
  | 0, a, x, c => by
    refine sum_congr fun e _ => ?_
    simp only [wh]
    by_cases h1 : e.2.1 = x <;> by_cases h2 : e.1 = a <;> simp [h1, h2]
    intro h3
    exact absurd h3.symm h1
  | h + 1, a, x, c => by
    have h1 : wh es a (h + 2) x c = (es.map fun e => (es.map fun f => if e.2.1 = x then (if f.1 = a then wh es f.2.1 h e.1 (c - e.2.2 - f.2.2) else 0) else 0).sum).sum := by
      refine sum_congr fun e _ => ?_
      rw [wh_first es h a e.1 (c - e.2.2), sum_if]
    have h2 : (es.map fun f => if f.1 = a then wh es f.2.1 (h + 1) x (c - f.2.2) else 0).sum = (es.map fun f => (es.map fun e => if f.1 = a then (if e.2.1 = x then wh es f.2.1 h e.1 (c - f.2.2 - e.2.2) else 0) else 0).sum).sum := by
      refine sum_congr fun f _ => ?_
      rw [← sum_if]
      rfl
    rw [h1, h2, sum_swap]
    refine sum_congr fun f _ => sum_congr fun e _ => ?_
    by_cases g1 : e.2.1 = x <;> by_cases g2 : f.1 = a <;> simp [g1, g2]
    congr 1
    omega
def turnE (e : Ed) : Ed := (e.2.1, e.1, e.2.2)
theorem turn_perm {es : List Ed} (hd : es.Nodup) (hs : BothW es) : (es.map turnE).Perm es := by
  have hinj : (es.map turnE).Nodup := by
    refine List.Pairwise.map _ ?_ hd
    intro a b hab e
    apply hab
    obtain ⟨a1, a2, a3⟩ := a
    obtain ⟨b1, b2, b3⟩ := b
    simp only [turnE, Prod.mk.injEq] at e ⊢
    exact ⟨e.2.1, e.1, e.2.2⟩
  rw [List.perm_ext_iff_of_nodup hinj hd]
  intro e
  constructor
  · intro h
    obtain ⟨f, hf, rfl⟩ := List.mem_map.1 h
    exact hs f hf
  · intro h
    exact List.mem_map.2 ⟨_, hs e h, rfl⟩
theorem wh_turn {es : List Ed} (hd : es.Nodup) (hs : BothW es) : ∀ (h : Nat) (a x c : Int), wh es a h x c = wh es x h a c
  | 0, a, x, c => by
    simp only [wh]
    by_cases e : x = a
    · subst e; rfl
    · rw [if_neg (fun h => e h.1), if_neg (fun h => e h.1.symm)]
  | h + 1, a, x, c => by
    rw [wh_first es h x a c]
    show (es.map fun e => if e.2.1 = x then wh es a h e.1 (c - e.2.2) else 0).sum = _
    rw [← ((turn_perm hd hs).map fun e => if e.2.1 = x then wh es a h e.1 (c - e.2.2) else 0).sum_nat, List.map_map]
    refine sum_congr fun e _ => ?_
    show (if e.1 = x then wh es a h e.2.1 (c - e.2.2) else 0) = _
    rw [wh_turn hd hs h a e.2.1]
/-- Where there are such ways, there is one. -/
theorem wh_wy {es : List Ed} {a : Int} : ∀ {h : Nat} {x c : Int}, 0 < wh es a h x c → Wy es a x c h
  | 0, x, c, hw => by
    simp only [wh] at hw
    split at hw
    · rename_i h1
      rw [h1.1, h1.2]
      exact Wy.refl _ _
    · omega
  | h + 1, x, c, hw => by
    have : ∃ e ∈ es, e.2.1 = x ∧ 0 < wh es a h e.1 (c - e.2.2) := Classical.byContradiction fun hno => by
      have h0 : wh es a (h + 1) x c = (es.map fun _ => 0).sum := sum_congr fun e he => by
        by_cases h1 : e.2.1 = x
        · rw [if_pos h1]
          exact Nat.eq_zero_of_not_pos fun h2 => hno ⟨e, he, h1, h2⟩
        · rw [if_neg h1]
      have hz : (es.map fun _ => 0).sum = 0 := by
        clear h0 hw hno
        induction es with
        | nil => rfl
        | cons e es ih => rw [List.map_cons, List.sum_cons, ih]
      omega
    obtain ⟨e, he, h1, h2⟩ := this
    have h3 := (wh_wy h2).step he
    rw [h1, Int.sub_add_cancel] at h3
    exact h3
end Go.Proofs.Ytabnecicidkmhaa
namespace Go.Proofs.Ytabnecicidkmhaa

/-- How many ways cost d. -/
def waysN (es : List Ed) (r x d : Int) : Nat := ((List.range (d.toNat + 1)).map fun h => wh es r h x d).sum
theorem sumN_zero {F : Nat → Nat} : ∀ {l : List Nat}, (∀ h ∈ l, F h = 0) → (l.map F).sum = 0
  | [], _ => rfl
  | h :: l, hz => by rw [List.map_cons, List.sum_cons, hz h (by simp), sumN_zero (l := l) (fun k hk => hz k (by simp [hk]))]
theorem sumN_swap (es : List Ed) (G : Nat → Ed → Nat) : ∀ l : List Nat, (l.map fun h => (es.map fun e => G h e).sum).sum = (es.map fun e => (l.map fun h => G h e).sum).sum
  | [] => by
    simp only [List.map_nil, List.sum_nil]
    induction es with
    | nil => rfl
    | cons e es ih =>
      rw [List.map_cons, List.sum_cons, ← ih]
      rfl
  | h :: l => by
    simp only [List.map_cons, List.sum_cons]
    rw [sumN_swap es G l, sum_add]
/-- More hops than the cost: none. -/
theorem wh_far {es : List Ed} (hp : PosE es) {r x c : Int} {h : Nat} (hc : c < h) : wh es r h x c = 0 :=
  Nat.eq_zero_of_not_pos fun h0 => by have := ((wh_wy h0).pos hp).1; omega
theorem range_more (F : Nat → Nat) (n : Nat) : ∀ m, (∀ h, n ≤ h → F h = 0) → ((List.range (n + m)).map F).sum = ((List.range n).map F).sum
  | 0, _ => rfl
  | m + 1, hz => by
    rw [← Nat.add_assoc, List.range_succ, List.map_append, List.sum_append, range_more F n m hz]
    simp [hz (n + m) (by omega)]
theorem sum_filter (I : Ed → Bool) (F : Ed → Nat) : ∀ es : List Ed, ((es.filter I).map F).sum = (es.map fun e => if I e = true then F e else 0).sum
  | [] => rfl
  | e :: es => by
    by_cases h : I e = true
    · rw [List.filter_cons_of_pos h, List.map_cons, List.sum_cons, sum_filter I F es, List.map_cons, List.sum_cons, if_pos h]
    · rw [List.filter_cons_of_neg h, sum_filter I F es, List.map_cons, List.sum_cons, if_neg h, Nat.zero_add]
theorem sum_mod (F : Ed → Nat) (M a : Nat) : ∀ es : List Ed, (a + (es.map fun e => F e % M).sum) % M = (a + (es.map F).sum) % M := by
  intro es
  induction es generalizing a with
  | nil => rfl
  | cons e es ih =>
    simp only [List.map_cons, List.sum_cons]
    have h1 : (a + F e % M) % M = (a + F e) % M := Nat.add_mod_mod _ _ _
    rw [← Nat.add_assoc, ← Nat.add_assoc, ih (a + F e % M), Nat.add_mod (a + F e % M), h1, ← Nat.add_mod]
theorem waysN_step {ns : List Int} {es : List Ed} {r x d : Int} (hok : graphOk ns es = true) (hd : Ds es r x d) (I : Ed → Bool) (hI : ∀ e, e ∈ es → (I e = true ↔ Into es r x e)) :
    waysN es r x d = (if x = r then 1 else 0) + ((es.filter I).map fun e => waysN es r e.1 (d - e.2.2)).sum := by
  have hp := graphOk_pos hok
  have hd0 := hd.nonneg hp
  unfold waysN
  rw [List.range_succ_eq_map, List.map_cons, List.sum_cons, List.map_map]
  have h1 : wh es r 0 x d = if x = r then 1 else 0 := by
    simp only [wh]
    by_cases e : x = r
    · subst e
      rw [if_pos ⟨rfl, hd.uniq (ds_root hp)⟩, if_pos rfl]
    · rw [if_neg (fun h => e h.1), if_neg e]
  rw [h1]
  congr 1
  have h2 : ((List.range d.toNat).map ((fun h => wh es r h x d) ∘ Nat.succ)).sum = ((List.range d.toNat).map fun h => (es.map fun e => if e.2.1 = x then wh es r h e.1 (d - e.2.2) else 0).sum).sum := rfl
  rw [h2, sumN_swap, sum_filter]
  refine sum_congr fun e he => ?_
  by_cases hin : I e = true
  · rw [if_pos hin]
    obtain ⟨_, h3, d', h4, h5⟩ := (hI e he).1 hin
    have h6 := hd.uniq h5
    have h7 := hp e he
    have h8 := h4.nonneg hp
    simp only [h3, if_true]
    obtain ⟨m, hm⟩ : ∃ m, d.toNat = ((d - e.2.2).toNat + 1) + m := ⟨d.toNat - ((d - e.2.2).toNat + 1), by omega⟩
    rw [hm]
    exact range_more _ _ m (fun h hh => wh_far hp (by omega))
  · rw [if_neg hin]
    refine sumN_zero fun h _ => ?_
    by_cases h3 : e.2.1 = x
    · rw [if_pos h3]
      refine Nat.eq_zero_of_not_pos fun h0 => hin ((hI e he).2 ?_)
      exact (into_last hd he (wh_wy h0) h3.symm (by omega)).1
    · rw [if_neg h3]
open Classical in
theorem cnt_ways {ns : List Int} {es : List Ed} {r : Int} {P : List (Int × Int)} (hok : graphOk ns es = true) (hr : r ∈ ns) (h : IsNear es r P) (hn : NdOk P) :
    ∀ (n : Nat) (x d : Int), d.toNat = n → x ∈ ns → Ds es r x d → cntT r (told es P P) x.toNat = waysN es r x d % 18446744073709551616 := by
  have hp := graphOk_pos hok
  have hbd := graphOk_bd hok
  intro n
  induction n using Nat.strongRecOn with
  | _ n ih =>
  intro x d hdn hx hd
  have hI : ∀ e, e ∈ es → (decide (Into es r x e) = true ↔ Into es r x e) := fun e _ => decide_eq_true_iff
  rw [cnt_all hok hr h hn x hx (fun e => decide (Into es r x e)) hI, waysN_step hok hd (fun e => decide (Into es r x e)) hI]
  rw [← sum_mod (fun e => waysN es r e.1 (d - e.2.2))]
  congr 2
  refine sum_congr fun e he => ?_
  rw [List.mem_filter, decide_eq_true_iff] at he
  obtain ⟨h1, h2, d', h3, h4⟩ := he.2
  have h5 := hd.uniq h4
  have h6 := hp e h1
  have h7 := h3.nonneg hp
  rw [show d - e.2.2 = d' by omega]
  exact ih d'.toNat (by omega) e.1 d' rfl (hbd.2.1 e h1).1 h3
/-- As many ways back. -/
theorem waysN_turn {es : List Ed} (hd : es.Nodup) (hs : BothW es) (a x d : Int) : waysN es a x d = waysN es x a d := by
  unfold waysN
  congr 1
  exact List.map_congr_left fun h _ => wh_turn hd hs h a x d
end Go.Proofs.Ytabnecicidkmhaa
namespace Go.Proofs.Ytabnecicidkmhaa

theorem cnt_row (y : Int) : ∀ (F : List Ed) (c : Nat → Nat), (∀ e ∈ F, e.1 = y ∧ e.2.1.toNat ≠ y.toNat) → (F.Pairwise fun a b => a.2.1.toNat ≠ b.2.1.toNat) →
    (F.foldl cntE c) y.toNat = c y.toNat ∧ (∀ j, (F.foldl cntE c) j ≤ c j + c y.toNat) ∧ ∀ j, (∀ e ∈ F, e.2.1.toNat ≠ j) → (F.foldl cntE c) j = c j
  | [], c, _, _ => ⟨rfl, fun j => by simp, fun j _ => rfl⟩
  | e :: F, c, h, hp => by
    rw [List.pairwise_cons] at hp
    have he := h e (by simp)
    have hy : cntE c e y.toNat = c y.toNat := by unfold cntE putN; rw [if_neg (fun q => he.2 q.symm)]
    obtain ⟨h1, h2, h3⟩ := cnt_row y F (cntE c e) (fun f hf => h f (by simp [hf])) hp.2
    rw [List.foldl_cons]
    refine ⟨by rw [h1, hy], fun j => ?_, fun j hj => ?_⟩
    · by_cases hj : j = e.2.1.toNat
      · have h4 := h3 j (fun f hf q => hp.1 f hf (by rw [q, hj]))
        rw [h4]
        unfold cntE putN
        rw [if_pos hj, he.1, hj]
        exact Nat.mod_le _ _
      · have h4 := h2 j
        have h5 : cntE c e j = c j := by unfold cntE putN; rw [if_neg hj]
        rw [hy, h5] at h4
        exact h4
    · have h4 := h3 j (fun f hf => hj f (by simp [hf]))
      rw [h4]
      unfold cntE putN
      rw [if_neg (fun q => hj e (by simp) q.symm)]
theorem cnt_bound {ns : List Int} {es : List Ed} (hok : graphOk ns es = true) (hp : PosE es) (P : List (Int × Int)) (hne : ∀ e ∈ es, e.1 ≠ e.2.1) : ∀ (Q : List (Int × Int)) (c : Nat → Nat) (B : Nat), (∀ j, c j ≤ B) → ∀ j, ((told es P Q).foldl cntE c) j ≤ B * 2 ^ Q.length
  | [], c, B, h, j => by simpa [told] using h j
  | n :: Q, c, B, h, j => by
    have hbd := graphOk_bd hok
    have hr : es.Pairwise fun a b => risesE a b = true := by
      simp only [graphOk, Bool.and_eq_true] at hok
      exact (edgesOk_rise es _ hok.2.2).2
    rw [told, List.foldl_append]
    have hrow := cnt_row n.1 (es.filter fun e => decide (e.1 = n.1) && tgt es (cP P) P e) c (fun e he => by
      simp only [List.mem_filter, Bool.and_eq_true, decide_eq_true_eq] at he
      refine ⟨he.2.1, fun q => hne e he.1 ?_⟩
      have h1 := hbd.1 _ (hbd.2.1 e he.1).1
      have h2 := hbd.1 _ (hbd.2.1 e he.1).2
      rw [he.2.1] at h1 ⊢
      omega) (by
      have hf := hr.filter fun e => decide (e.1 = n.1) && tgt es (cP P) P e
      refine (List.pairwise_iff_forall_sublist.2 fun {a b} hab => ?_)
      have ha : a ∈ es.filter fun e => decide (e.1 = n.1) && tgt es (cP P) P e := hab.subset (by simp)
      have hb : b ∈ es.filter fun e => decide (e.1 = n.1) && tgt es (cP P) P e := hab.subset (by simp)
      have h3 := List.pairwise_iff_forall_sublist.1 hf hab
      simp only [List.mem_filter, Bool.and_eq_true, decide_eq_true_eq] at ha hb
      simp only [risesE, Bool.or_eq_true, Bool.and_eq_true, decide_eq_true_eq] at h3
      have h4 := hbd.1 _ (hbd.2.1 a ha.1).2
      have h5 := hbd.1 _ (hbd.2.1 b hb.1).2
      omega)
    have h6 := cnt_bound hok hp P hne Q ((es.filter fun e => decide (e.1 = n.1) && tgt es (cP P) P e).foldl cntE c) (B * 2) (fun i => by
      have := hrow.2.1 i
      have := h i
      have := h n.1.toNat
      omega) j
    rw [List.length_cons, Nat.pow_succ, Nat.mul_comm (2 ^ Q.length), ← Nat.mul_assoc]
    exact h6
theorem graphOk_ne {ns : List Int} {es : List Ed} (h : graphOk ns es = true) : ∀ e ∈ es, e.1 ≠ e.2.1 := by
  simp only [graphOk, Bool.and_eq_true] at h
  have key : ∀ (es : List Ed) (last : Ed), edgesOk ns last es = true → ∀ e ∈ es, e.1 ≠ e.2.1 := by
    intro es
    induction es with
    | nil => intro _ _ e he; simp at he
    | cons a es ih =>
      intro last h e he
      simp only [edgesOk, edgeOk, Bool.and_eq_true] at h
      rcases List.mem_cons.1 he with rfl | he
      · simpa using h.1.2.2.1
      · exact ih a h.2 e he
  exact key es _ h.2.2
theorem sum_le {F : Ed → Nat} {B : Nat} : ∀ {es : List Ed}, (∀ e ∈ es, F e ≤ B) → (es.map F).sum ≤ es.length * B
  | [], _ => by simp
  | e :: es, h => by
    rw [List.map_cons, List.sum_cons, List.length_cons, Nat.succ_mul]
    have h1 := h e (by simp)
    have h2 := sum_le (es := es) (F := F) (fun f hf => h f (by simp [hf]))
    omega
theorem sum_ge {F : Ed → Nat} : ∀ {es : List Ed} {e : Ed}, e ∈ es → F e ≤ (es.map F).sum
  | a :: es, e, h => by
    rw [List.map_cons, List.sum_cons]
    rcases List.mem_cons.1 h with rfl | h
    · omega
    · have := sum_ge (F := F) h; omega
open Classical in
theorem cnt_pos {ns : List Int} {es : List Ed} {r : Int} {P : List (Int × Int)} (hok : graphOk ns es = true) (hr : r ∈ ns) (h : IsNear es r P) (hn : NdOk P) :
    ∀ (n : Nat) (x d : Int), d.toNat = n → x ∈ ns → Ds es r x d → 0 < cntT r (told es P P) x.toNat := by
  have hp := graphOk_pos hok
  have hbd := graphOk_bd hok
  have hB : ∀ j, cntT r (told es P P) j ≤ 33554432 := fun j => by
    have h1 := cnt_bound hok hp P (graphOk_ne hok) P (putN (fun _ => 0) r.toNat 1) 1 (fun i => by unfold putN; split <;> simp) j
    have h2 : (2 : Nat) ^ P.length ≤ 2 ^ 25 := Nat.pow_le_pow_right (by omega) hn.1
    have h3 : (2 : Nat) ^ 25 = 33554432 := by decide
    have h4 : cntT r (told es P P) j ≤ 1 * 2 ^ P.length := h1
    omega
  intro n
  induction n using Nat.strongRecOn with
  | _ n ih =>
  intro x d hdn hx hd
  have hI : ∀ e, e ∈ es → (decide (Into es r x e) = true ↔ Into es r x e) := fun e _ => decide_eq_true_iff
  have hc := cnt_all hok hr h hn x hx (fun e => decide (Into es r x e)) hI
  have hs := sum_le (es := es.filter fun e => decide (Into es r x e)) (F := fun e => cntT r (told es P P) e.1.toNat) (fun e _ => hB _)
  have hl : (es.filter fun e => decide (Into es r x e)).length ≤ 384 := Nat.le_trans (List.length_filter_le _ _) hbd.2.2
  have hm : (es.filter fun e => decide (Into es r x e)).length * 33554432 ≤ 384 * 33554432 := Nat.mul_le_mul_right _ hl
  by_cases hxr : x = r
  · rw [if_pos hxr] at hc
    omega
  · rw [if_neg hxr] at hc
    obtain ⟨e, he⟩ := into_some hp hd hxr
    have hge := sum_ge (F := fun e => cntT r (told es P P) e.1.toNat) (es := es.filter fun e => decide (Into es r x e)) (e := e) (List.mem_filter.2 ⟨he.1, decide_eq_true_iff.2 he⟩)
    obtain ⟨h1, h2, d', h3, h4⟩ := he
    have h5 := hd.uniq h4
    have h6 := hp e h1
    have h7 := h3.nonneg hp
    have h8 := ih d'.toNat (by omega) e.1 d' rfl (hbd.2.1 e h1).1 h3
    omega
/-- Where there is no way, it has none. -/
theorem cnt_none {ns : List Int} {es : List Ed} {r : Int} {P : List (Int × Int)} (hok : graphOk ns es = true) (hr : r ∈ ns) (h : IsNear es r P) (hn : NdOk P) {x : Int} (hx : x ∈ ns) (hno : ∀ d, ¬ Ds es r x d) : cntT r (told es P P) x.toNat = 0 := by
  have hc := cnt_all hok hr h hn x hx (fun _ => false) (fun e _ => ⟨fun hf => by simp at hf, fun hI => absurd hI.2.2.choose_spec.2 (hno _)⟩)
  have hxr : x ≠ r := fun e => hno 0 (by rw [e]; exact ds_root (graphOk_pos hok))
  rw [if_neg hxr] at hc
  rw [hc, show (es.filter fun _ => false) = [] from by simp]
  rfl
end Go.Proofs.Ytabnecicidkmhaa
namespace Go.Proofs.Ytabnecicidkmhaa

def m64 : Nat := 18446744073709551616
/-- How many least-cost ways there are, by costs. -/
def wN (es : List Ed) (r : Int) (D : Int → Int) (x : Int) : Nat := if D x < farC then waysN es r x (D x) % m64 else 0
/-- What stands when all costs up to c are done. -/
def cntO (es : List Ed) (r : Int) (D : Int → Int) (c : Int) : Int → Nat := fun x => if D x ≤ c then wN es r D x else 0
/-- What stands amid the cost c: the first nodes are done. -/
def cntN (es : List Ed) (r : Int) (D : Int → Int) (c : Int) (done : List Int) : Int → Nat := fun x => if D x < c ∨ (D x = c ∧ x ∈ done) then wN es r D x else 0
/-- What is added up for a node, edge by edge. -/
def addE (D : Int → Int) (N : Int → Nat) (x : Int) (L : List Ed) : Nat := L.foldl (fun s e => if e.2.1 = x ∧ tgI D e = true then (s + N e.1) % m64 else s) 0
theorem addE_snoc (D : Int → Int) (N : Int → Nat) (x : Int) (L : List Ed) (e : Ed) : addE D N x (L ++ [e]) = if e.2.1 = x ∧ tgI D e = true then (addE D N x L + N e.1) % m64 else addE D N x L := by
  unfold addE
  rw [List.foldl_append]
  rfl
theorem addE_sum (D : Int → Int) (N : Int → Nat) (x : Int) : ∀ L : List Ed, addE D N x L = ((L.filter fun e => decide (e.2.1 = x) && tgI D e).map fun e => N e.1).sum % m64 := by
  have key : ∀ (L : List Ed) (s : Nat), s < m64 → L.foldl (fun s e => if e.2.1 = x ∧ tgI D e = true then (s + N e.1) % m64 else s) s = (s + ((L.filter fun e => decide (e.2.1 = x) && tgI D e).map fun e => N e.1).sum) % m64 := fun L => by
    induction L with
    | nil => intro s hs; simp [Nat.mod_eq_of_lt hs]
    | cons e L ih =>
      intro s hs
      rw [List.foldl_cons]
      by_cases h : e.2.1 = x ∧ tgI D e = true
      · rw [if_pos h, ih _ (Nat.mod_lt _ (by decide)), List.filter_cons_of_pos (by simp [h.1, h.2]), List.map_cons, List.sum_cons, Nat.mod_add_mod, Nat.add_assoc]
      · rw [if_neg h, ih s hs, List.filter_cons_of_neg (by
          intro h2
          simp only [Bool.and_eq_true, decide_eq_true_eq] at h2
          exact h h2)]
  intro L
  have := key L 0 (by decide)
  rw [Nat.zero_add] at this
  exact this
theorem bf_d {ns : List Int} {es : List Ed} (hok : graphOk ns es = true) {r : Int} (hr : r ∈ ns) {x : Int} (h : bfN es r ns.length x < farC) : Ds es r x (bfN es r ns.length x) ∧ 0 ≤ bfN es r ns.length x ∧ bfN es r ns.length x ≤ 24000 := by
  rcases bf_all hok hr x with ⟨d, h1, h2, h3, h4⟩ | ⟨_, h2⟩
  · rw [h2]
    have := graphOk_n24 hok
    exact ⟨h1, h3, by omega⟩
  · rw [h2] at h; exact absurd h (Int.lt_irrefl _)
theorem bf_zero {ns : List Int} {es : List Ed} (hok : graphOk ns es = true) {r : Int} (hr : r ∈ ns) (x : Int) : bfN es r ns.length x ≤ 0 ↔ x = r := by
  have hp := graphOk_pos hok
  constructor
  · intro h
    obtain ⟨h1, h2, _⟩ := bf_d hok hr (x := x) (by unfold farC; omega)
    obtain ⟨k, hk⟩ := h1.1
    have := (hk.pos hp).1
    exact (hk.zero (by omega)).1
  · rintro rfl
    have hd := ds_root (es := es) (r := x) hp
    rcases bf_all hok hr x with ⟨d, h1, h2, _⟩ | ⟨h1, _⟩
    · rw [h2, h1.uniq hd]; exact Int.le_refl _
    · exact absurd hd (h1 0)
/-- The start: one way to the root. -/
theorem cnt_start {ns : List Int} {es : List Ed} (hok : graphOk ns es = true) {r : Int} (hr : r ∈ ns) (x : Int) : cntO es r (bfN es r ns.length) 0 x = if x = r then 1 else 0 := by
  unfold cntO
  by_cases hx : x = r
  · have h0 := (bf_zero hok hr x).2 hx
    rw [if_pos h0, if_pos hx]
    obtain ⟨h1, h2, h3⟩ := bf_d hok hr (x := x) (by unfold farC; omega)
    have hz : bfN es r ns.length x = 0 := by omega
    unfold wN
    rw [if_pos (by rw [hz]; decide), hz]
    unfold waysN
    simp [wh, hx, m64]
  · rw [if_neg (fun h => hx ((bf_zero hok hr x).1 h)), if_neg hx]
/-- A node's edges, added up. -/
theorem cnt_node {ns : List Int} {es : List Ed} (hok : graphOk ns es = true) {r : Int} (hr : r ∈ ns) {x c : Int} {done : List Int} (hc : 1 ≤ c) (hc2 : c ≤ 24000) (hx : bfN es r ns.length x = c) : addE (bfN es r ns.length) (cntN es r (bfN es r ns.length) c done) x es = wN es r (bfN es r ns.length) x := by
  have hp := graphOk_pos hok
  obtain ⟨hd, _, _⟩ := bf_d hok hr (x := x) (by unfold farC; omega)
  have hxr : x ≠ r := fun e => by
    have := (bf_zero hok hr x).2 e
    omega
  rw [addE_sum]
  have hI : ∀ e, e ∈ es → ((fun e : Ed => decide (e.2.1 = x) && tgI (bfN es r ns.length) e) e = true ↔ Into es r x e) := fun e he => by
    simp only [Bool.and_eq_true, decide_eq_true_eq]
    constructor
    · rintro ⟨h1, h2⟩
      subst h1
      exact (tg_into hok hr he hd).1 h2
    · intro h1
      have h2 := h1.2.1
      subst h2
      exact ⟨rfl, (tg_into hok hr he hd).2 h1⟩
  unfold wN
  rw [if_pos (by unfold farC; omega), waysN_step hok hd _ hI, if_neg hxr]
  have hm := sum_mod (fun e => waysN es r e.1 (bfN es r ns.length x - e.2.2)) m64 0 (es.filter fun e => decide (e.2.1 = x) && tgI (bfN es r ns.length) e)
  simp only [Nat.zero_add] at hm ⊢
  rw [← hm]
  congr 1
  refine sum_congr fun e he => ?_
  obtain ⟨he1, he2⟩ := List.mem_filter.1 he
  obtain ⟨_, h2, d', h3, h4⟩ := (hI e he1).1 he2
  have h5 := h4.uniq hd
  have hpe := hp e he1
  have hde : bfN es r ns.length e.1 = d' := by
    rcases bf_all hok hr e.1 with ⟨d'', k1, k2, _⟩ | ⟨k1, _⟩
    · rw [k2]; exact k1.uniq h3
    · exact absurd h3 (k1 d')
  have hlt : bfN es r ns.length e.1 < c := by rw [hde]; omega
  unfold cntN
  rw [if_pos (.inl hlt)]
  unfold wN
  rw [if_pos (by unfold farC; omega), hde]
  congr 1
  rw [show bfN es r ns.length x - e.2.2 = d' by omega]
theorem cntN_nil (es : List Ed) (r : Int) (D : Int → Int) (c x : Int) : cntN es r D c [] x = cntO es r D (c - 1) x := by
  unfold cntN cntO
  by_cases h : D x < c
  · rw [if_pos (.inl h), if_pos (by omega)]
  · rw [if_neg (by simp; omega), if_neg (by omega)]
theorem cntN_all {es : List Ed} {r : Int} {D : Int → Int} {c : Int} {ns : List Int} {x : Int} (hx : x ∈ ns) : cntN es r D c ns x = cntO es r D c x := by
  unfold cntN cntO
  by_cases h : D x ≤ c
  · rw [if_pos (by by_cases h2 : D x = c; exact .inr ⟨h2, hx⟩; exact .inl (by omega)), if_pos h]
  · rw [if_neg (by intro e; rcases e with e | e <;> omega), if_neg h]
/-- A node more is done, of another cost: nothing turns. -/
theorem cntN_skip {es : List Ed} {r : Int} {D : Int → Int} {c : Int} {done : List Int} {z : Int} (hz : D z ≠ c) (x : Int) : cntN es r D c (done ++ [z]) x = cntN es r D c done x := by
  unfold cntN
  by_cases h : D x < c ∨ (D x = c ∧ x ∈ done)
  · rw [if_pos h, if_pos (by rcases h with h | h; exact .inl h; exact .inr ⟨h.1, List.mem_append.2 (.inl h.2)⟩)]
  · rw [if_neg h, if_neg (fun e => h (by
      rcases e with e | ⟨e1, e2⟩
      · exact .inl e
      · rcases List.mem_append.1 e2 with e2 | e2
        · exact .inr ⟨e1, e2⟩
        · rw [List.mem_singleton.1 e2] at e1; exact absurd e1 hz))]
theorem cntN_more {es : List Ed} {r : Int} {D : Int → Int} {c : Int} {done : List Int} {z : Int} (hz : D z = c) (x : Int) : cntN es r D c (done ++ [z]) x = if x = z then wN es r D z else cntN es r D c done x := by
  unfold cntN
  by_cases hx : x = z
  · rw [if_pos hx, hx, if_pos (.inr ⟨hz, by simp⟩)]
  · rw [if_neg hx]
    by_cases h : D x < c ∨ (D x = c ∧ x ∈ done)
    · rw [if_pos h, if_pos (by rcases h with h | h; exact .inl h; exact .inr ⟨h.1, List.mem_append.2 (.inl h.2)⟩)]
    · rw [if_neg h, if_neg (fun e => h (by
        rcases e with e | ⟨e1, e2⟩
        · exact .inl e
        · rcases List.mem_append.1 e2 with e2 | e2
          · exact .inr ⟨e1, e2⟩
          · exact absurd (List.mem_singleton.1 e2) hx))]
/-- What the program's Count tells is what stands at the end. -/
theorem cnt_end {ns : List Int} {es : List Ed} {r : Int} {P : List (Int × Int)} (hok : graphOk ns es = true) (hr : r ∈ ns) (h : IsNear es r P) (hn : NdOk P) {x : Int} (hx : x ∈ ns) {c : Int} (hc : c ≤ 24000) (hcx : bfN es r ns.length x ≤ c ∨ c = 24000) : cntO es r (bfN es r ns.length) c x = cntT r (told es P P) x.toNat := by
  unfold cntO
  rcases bf_all hok hr x with ⟨d, h1, h2, h3, h4⟩ | ⟨h1, h2⟩
  · have := graphOk_n24 hok
    rw [if_pos (by rw [h2] at hcx ⊢; omega), cnt_ways hok hr h hn d.toNat x d rfl hx h1]
    unfold wN
    rw [if_pos (by rw [h2]; unfold farC; omega), h2]
    rfl
  · rw [if_neg (by rw [h2]; unfold farC; omega), cnt_none hok hr h hn hx h1]
end Go.Proofs.Ytabnecicidkmhaa
namespace Go.Proofs.Ytabnecicidkmhaa
open Go.RowKit

theorem SlAt.rchs {w : World} {v : Value} {l : List (Rr × Value)} (h : SlAt rwc 5 w v l) : ∃ a cap, v = .slice a l.length cap ∧ l.length ≤ 9223372036854775807 ∧ l.length ≤ cap ∧ (0 < l.length → ∃ bk o, a = some ⟨bk, o, none⟩ ∧ bk < w.heap.size ∧ ∀ j x, l[j]? = some x → w.cell? ⟨bk, o + j * 5, none⟩ = some (.int .i64 x.1.node) ∧ w.cell? ⟨bk, o + j * 5 + 1, none⟩ = some (.int .i64 x.1.cost) ∧ w.cell? ⟨bk, o + j * 5 + 2, none⟩ = some (.int .i64 x.1.least) ∧ w.cell? ⟨bk, o + j * 5 + 3, none⟩ = some (.int .i64 x.1.most) ∧ w.cell? ⟨bk, o + j * 5 + 4, none⟩ = some x.2) := by
  obtain ⟨a, cap, rfl, hl, hc, h⟩ := h
  refine ⟨a, cap, rfl, hl, hc, fun h0 => ?_⟩
  obtain ⟨bk, o, rfl, hb, h⟩ := h h0
  exact ⟨bk, o, rfl, hb, fun j x hx => ⟨h j x hx 0 _ rfl, h j x hx 1 _ rfl, h j x hx 2 _ rfl, h j x hx 3 _ rfl, h j x hx 4 _ rfl⟩⟩
theorem SlAt.shape {w : World} {v : Value} {l : List Int} (h : SlAt ic 1 w v l) : ∃ a cap, v = .slice a l.length cap := by
  obtain ⟨a, cap, rfl, _⟩ := h
  exact ⟨a, cap, rfl⟩
/-- A copy. -/
theorem clone_any {w : World} {v : Value} {l : List Int} (h : SlAt ic 1 w v l) (hn : NilOk v) (hl : l.length * 8 ≤ 140737488355328) :
    Calls Try.prog 30 #[v] w fun e w' => (∃ v', e = .returned v' ∧ w'.ownsRow w.heap.size 3 1 v' l.length (fl ic l)) ∧ Below w.heap.size w w' := by
  obtain ⟨a, cap, rfl, _, _, hc⟩ := h.ints
  rcases hn with ⟨p, n, c, he⟩ | he
  · simp only [Value.slice.injEq] at he
    obtain ⟨rfl, rfl, rfl⟩ := he
    by_cases h0 : 0 < l.length
    · obtain ⟨bk, o, hp, hb, hc2⟩ := hc h0
      simp only [Option.some.injEq] at hp
      subst hp
      refine (Try.slices_Clone_int bk o l.length cap l w (Nat.le_refl _) hl (fun j hj => ?_)).mono ?_
      · rw [hc2 j l[j] (List.getElem?_eq_getElem hj)]
        simp [List.getD_eq_getElem?_getD, List.getElem?_eq_getElem hj]
      · rintro e w' ⟨v', rfl, hr, _, hb'⟩
        rw [List.take_length, ← ints_map] at hr
        exact ⟨⟨v', rfl, hr⟩, hb'⟩
    · have hl0 : l = [] := List.length_eq_zero_iff.1 (by omega)
      subst hl0
      refine (Try.slices_Clone_int_zero p cap w).mono ?_
      rintro e w' ⟨v', rfl, hr, _, hb'⟩
      exact ⟨⟨v', rfl, hr⟩, hb'⟩
  · simp only [Value.slice.injEq] at he
    obtain ⟨rfl, h0, rfl⟩ := he
    have hl0 : l = [] := List.length_eq_zero_iff.1 h0
    subst hl0
    refine (Try.slices_Clone_int_nil 0 0 w).mono ?_
    rintro e w' ⟨rfl, rfl⟩
    exact ⟨⟨_, rfl, World.ownsRow_nil _ _ _ _⟩, Below.refl _ _⟩
abbrev rchV (x : Rr) (v : Value) : Value := .agg #[.int .i64 x.node, .int .i64 x.cost, .int .i64 x.least, .int .i64 x.most, v]
theorem of1_any {x : Rr} {a : Option Addr} {n c tb : Nat} {t : Int} {w : World} (h : w.heap[tb]? = some (.cells #[.int .i64 t] 3)) :
    Calls Try.prog 29 #[rchV x (.slice a n c), .pointer (some ⟨tb, 0, none⟩)] w fun e w' => e = .returned (.bool (x.node == t)) ∧ Below w.heap.size w w' := by
  obtain ⟨W1, hW1⟩ : ∃ W1, w.alloc (.cells #[.int .i64 x.node, .int .i64 x.cost, .int .i64 x.least, .int .i64 x.most, .slice a n c] 34) = W1 := ⟨_, rfl⟩
  have bA : Below w.heap.size w W1 := by rw [← hW1]; exact (Below.refl _ w).alloc (Nat.le_refl _) _
  have hX : W1.heap[w.heap.size]? = some (.cells #[.int .i64 x.node, .int .i64 x.cost, .int .i64 x.least, .int .i64 x.most, .slice a n c] 34) := by rw [← hW1]; exact heap_alloc_last w _
  have t0 := cell_of_row _ _ 0 _ _ _ ((bA.block _ (block_lt h)).trans h)
  have x0 := cell_of_row _ _ 0 _ _ _ hX
  simp at t0 x0
  have HB := hidIn bA
  have HW := hidIn hW1
  clear hW1 bA hX h
  go_enter Try.func29, Try.ntmps29
  go_upto_region 1 with fail
  rw [HW.out]
  clear HW
  go_wp2_with fail
  go_returns
  exact ⟨rfl, HB.out⟩
theorem enter37 (args : Array Value) (w : World) : (callFunc 29 args).run Try.prog w = .ok (Next.enter 29 args) w := by kernel_rfl
theorem indexF_any {l : List (Rr × Value)} {v : Value} {tb : Nat} {t : Int} {w0 w : World} (h : SlAt rwc 5 w0 v l) (hs : ∀ p ∈ l, ∃ a cap, p.2 = .slice a p.1.next.length cap) (hb : Below w0.heap.size w0 w) (ht : w.heap[tb]? = some (.cells #[.int .i64 t] 3)) :
    Calls Try.prog 28 #[v, .func (.func 29) #[] #[.pointer (some ⟨tb, 0, none⟩)]] w fun e w' =>
      ((∃ k x, l[k]? = some x ∧ x.1.node = t ∧ (∀ y ∈ l.take k, y.1.node ≠ t) ∧ e = .returned (.int .i64 (k : Nat))) ∨ ((∀ y ∈ l, y.1.node ≠ t) ∧ e = .returned (.int .i64 (-1)))) ∧ Below w.heap.size w w' := by
  obtain ⟨aa, ca, rfl, hla, _, hca⟩ := h.rchs
  have Hc := hidIn hca
  have Hs := hidIn hs
  have Hb := hidIn hb
  have Ht := hidIn ht
  have hE := enter37
  clear hca hs h hb ht
  go_enter Try.func28, Try.ntmps28
  go_wp2_with fail
  go_loopw [8] (fun i wr => ∃ k : Nat, k ≤ l.length ∧ i = .int .i64 k ∧ Hid (Below w.heap.size w wr ∧ ∀ y ∈ l.take k, y.1.node ≠ t)) (fun i _ => l.length - (intOf i).toNat)
  case atStart => exact ⟨0, Nat.zero_le _, rfl, hidIn ⟨Below.refl _ _, fun y hy => by simp at hy⟩⟩
  case round =>
    obtain ⟨k, hk, rfl, HR⟩ := hrel
    by_cases hlt : k < l.length
    · obtain ⟨bk, o, rfl, hbk, hc⟩ := Hc.out (by omega)
      obtain ⟨⟨x, xv⟩, hx⟩ : ∃ z, l[k]? = some z := ⟨l[k], List.getElem?_eq_getElem hlt⟩
      obtain ⟨va, vcap, hxv⟩ := Hs.out _ (List.mem_of_getElem? hx)
      simp only at hxv
      subst hxv
      have hbw := Hb.out.trans (HR.out.1.mono Hb.out.size)
      obtain ⟨q0, q1, q2, q3, q4⟩ := hc k _ hx
      have c0 := (hbw.cell (p := ⟨bk, o + k * 5, none⟩) hbk).trans q0
      have c1 := (hbw.cell (p := ⟨bk, o + k * 5 + 1, none⟩) hbk).trans q1
      have c2 := (hbw.cell (p := ⟨bk, o + k * 5 + 2, none⟩) hbk).trans q2
      have c3 := (hbw.cell (p := ⟨bk, o + k * 5 + 3, none⟩) hbk).trans q3
      have c4 := (hbw.cell (p := ⟨bk, o + k * 5 + 4, none⟩) hbk).trans q4
      simp only at c0 c1 c2 c3 c4
      have hki : (k : Int) < (l.length : Int) := by omega
      have HX := hidIn hx
      have HC := hidIn (of1_any (x := x) (a := va) (n := x.next.length) (c := vcap) ((HR.out.1.block _ (block_lt Ht.out)).trans Ht.out))
      clear hx hbw q0 q1 q2 q3 q4 hc
      go_wp2_with fail
      refine HC.out.mono ?_
      rintro e w3 ⟨rfl, hb3⟩
      have HB3 := hidIn (HR.out.1.trans (hb3.mono HR.out.1.size))
      clear hb3 HC c0 c1 c2 c3 c4
      by_cases hxt : x.node = t
      · have hbt : (x.node == t) = true := by simpa using hxt
        have HXt := hidIn hxt
        rw [hbt]
        clear hbt hxt
        go_wp2_with fail
        go_returns
        exact ⟨.inl ⟨k, _, HX.out, HXt.out, HR.out.2, rfl⟩, HB3.out⟩
      · have hbt : (x.node == t) = false := by simpa using hxt
        have HXt := hidIn hxt
        rw [hbt]
        clear hbt hxt
        go_wp2_with fail
        go_roundw
        case rel =>
          refine ⟨k + 1, by omega, by go_num, hidIn ⟨HB3.out, fun y hy => ?_⟩⟩
          rw [take_snoc HX.out] at hy
          rcases List.mem_append.1 hy with h1 | h1
          · exact HR.out.2 y h1
          · rw [List.mem_singleton.1 h1]
            exact HXt.out
        case measure => simp [intOf]; omega
    · have hk2 : k = l.length := by omega
      subst hk2
      have hni : ¬ ((l.length : Int) < (l.length : Int)) := by omega
      have HN : Hid (∀ y ∈ l, y.1.node ≠ t) := hidIn (by have := HR.out.2; rw [List.take_length] at this; exact this)
      go_wp2_with fail
      go_ret
      exact ⟨.inr ⟨fun a b h => HN.out _ h, rfl⟩, HR.out.1⟩
/-- What lies in a list of what is told. -/
structure RlAt (w : World) (v : Value) (l : List (Rr × Value)) : Prop where
  s : SlAt rwc 5 w v l
  n : ∀ p ∈ l, SlAt ic 1 w p.2 p.1.next ∧ NilOk p.2 ∧ p.1.next.length ≤ 10000
theorem RlAt.keep {w w' : World} {v : Value} {l : List (Rr × Value)} {B : Nat} (h : RlAt w v l) (hb : Below B w w') (hB : w.heap.size ≤ B) : RlAt w' v l :=
  ⟨h.s.keep hb hB, fun p hp => ⟨(h.n p hp).1.keep hb hB, (h.n p hp).2⟩⟩
theorem zeroRch (w : World) : (zeroValue 34).run Try.prog w = .ok (.agg #[.int .i64 0, .int .i64 0, .int .i64 0, .int .i64 0, .slice none 0 0]) w := (zero_of_info (by kernel_rfl : (Try.prog.info? 34).map (fun i => (i.zero, i.size)) = some (some (.agg #[.int .i64 0, .int .i64 0, .int .i64 0, .int .i64 0, .slice none 0 0]), 5))).1 w
theorem set5 {w : World} {b : Nat} {T : TypeId} {c0 c1 c2 c3 c4 : Value} (v0 v1 v2 v3 v4 : Value) (h : w.heap[b]? = some (.cells #[c0, c1, c2, c3, c4] T)) :
    (((((w.setCell ⟨b, 0, none⟩ v0).setCell ⟨b, 1, none⟩ v1).setCell ⟨b, 2, none⟩ v2).setCell ⟨b, 3, none⟩ v3).setCell ⟨b, 4, none⟩ v4).heap[b]? = some (.cells #[v0, v1, v2, v3, v4] T) := by
  have h1 := heap_setCell_same _ b 4 _ T v4 (heap_setCell_same _ b 3 _ T v3 (heap_setCell_same _ b 2 _ T v2 (heap_setCell_same _ b 1 _ T v1 (heap_setCell_same w b 0 _ T v0 h))))
  simpa using h1
theorem below5 {w w' : World} {B b : Nat} (v0 v1 v2 v3 v4 : Value) (h : Below B w w') (hb : B ≤ b) :
    Below B w (((((w'.setCell ⟨b, 0, none⟩ v0).setCell ⟨b, 1, none⟩ v1).setCell ⟨b, 2, none⟩ v2).setCell ⟨b, 3, none⟩ v3).setCell ⟨b, 4, none⟩ v4) :=
  ((((h.setCell (p := ⟨b, 0, none⟩) hb _).setCell (p := ⟨b, 1, none⟩) hb _).setCell (p := ⟨b, 2, none⟩) hb _).setCell (p := ⟨b, 3, none⟩) hb _).setCell (p := ⟨b, 4, none⟩) hb _
/-- What Of answers. -/
def OfAns (w' : World) (l : List (Rr × Value)) (t : Int) (e : Ending) : Prop :=
  (∃ k x v, l[k]? = some x ∧ x.1.node = t ∧ (∀ y ∈ l.take k, y.1.node ≠ t) ∧ e = .returned (.tuple #[rchV x.1 v, .bool true]) ∧ SlAt ic 1 w' v x.1.next ∧ NilOk v) ∨
  ((∀ y ∈ l, y.1.node ≠ t) ∧ e = .returned (.tuple #[rchV noR (.slice none 0 0), .bool false]))
theorem pof_any {l : List (Rr × Value)} {v : Value} {t : Int} {w : World} (h : RlAt w v l) :
    Calls Try.prog 10 #[v, .int .i64 t] w fun e w' => OfAns w' l t e ∧ Below w.heap.size w w' := by
  have HR := hidIn h
  obtain ⟨aa, ca, rfl, hla, _, hca⟩ := h.s.rchs
  have Hc := hidIn hca
  obtain ⟨W1, hW1⟩ : ∃ W1, (w.alloc (.cells #[.int .i64 t] 3)).alloc (.cells #[.int .i64 0, .int .i64 0, .int .i64 0, .int .i64 0, .slice none 0 0] 34) = W1 := ⟨_, rfl⟩
  have bA : Below w.heap.size w W1 := by rw [← hW1]; exact ((Below.refl _ w).alloc (Nat.le_refl _) _).alloc (by simp) _
  have hT : W1.heap[w.heap.size]? = some (.cells #[.int .i64 t] 3) := by rw [← hW1, Below.heap_alloc _ _ _ (by simp)]; exact heap_alloc_last w _
  have hX : W1.heap[w.heap.size + 1]? = some (.cells #[.int .i64 0, .int .i64 0, .int .i64 0, .int .i64 0, .slice none 0 0] 34) := by
    rw [← hW1]
    have := heap_alloc_last (w.alloc (.cells #[.int .i64 t] 3)) (.cells #[.int .i64 0, .int .i64 0, .int .i64 0, .int .i64 0, .slice none 0 0] 34)
    rw [World.size_alloc] at this
    exact this
  have HI := hidIn (indexF_any h.s (fun p hp => (h.n p hp).1.shape) bA hT)
  have hz := zeroRch
  have HB := hidIn bA
  have HX := hidIn hX
  have HW := hidIn hW1
  clear h hca hW1 bA hT hX
  go_enter Try.func10, Try.ntmps10
  go_upto_region 1 with fail
  rw [HW.out]
  clear HW
  go_wp2_with fail
  refine HI.out.mono ?_
  rintro e w2 ⟨h2, hb2⟩
  have HX2 := hidIn ((hb2.block _ (block_lt HX.out)).trans HX.out)
  have HB2 := hidIn (HB.out.trans (hb2.mono HB.out.size))
  clear hb2 HI
  have x0 := cell_of_row _ _ 0 _ _ _ HX2.out
  have x1 := cell_of_row _ _ 1 _ _ _ HX2.out
  have x2 := cell_of_row _ _ 2 _ _ _ HX2.out
  have x3 := cell_of_row _ _ 3 _ _ _ HX2.out
  have x4 := cell_of_row _ _ 4 _ _ _ HX2.out
  simp at x0 x1 x2 x3 x4
  have f0 := frozen_new HX2.out 0
  have f1 := frozen_new HX2.out 1
  have f2 := frozen_new HX2.out 2
  have f3 := frozen_new HX2.out 3
  have f4 := frozen_new HX2.out 4
  rcases h2 with ⟨k, ⟨x, xv⟩, hx, hxt, hbe, rfl⟩ | ⟨hno, rfl⟩
  rotate_left
  · have HN := hidIn hno
    clear hno
    go_wp2_with fail
    have hV := set5 (.int .i64 0) (.int .i64 0) (.int .i64 0) (.int .i64 0) (.slice none 0 0) HX2.out
    have HBV := hidIn (below5 (b := w.heap.size + 1) (.int .i64 0) (.int .i64 0) (.int .i64 0) (.int .i64 0) (.slice none 0 0) HB2.out (by omega))
    generalize ((((w2.setCell _ _).setCell _ _).setCell _ _).setCell _ _).setCell _ _ = V at hV HBV ⊢
    clear x0 x1 x2 x3 x4 f0 f1 f2 f3 f4
    have e0 := cell_of_row _ _ 0 _ _ _ hV
    have e1 := cell_of_row _ _ 1 _ _ _ hV
    have e2 := cell_of_row _ _ 2 _ _ _ hV
    have e3 := cell_of_row _ _ 3 _ _ _ hV
    have e4 := cell_of_row _ _ 4 _ _ _ hV
    simp at e0 e1 e2 e3 e4
    exact bodyPost_ret (v := .tuple #[rchV noR (.slice none 0 0), .bool false]) (by simp [results, Try.results10, asAddr, Result.andThen, go_sem, e0, e1, e2, e3, e4, noR]) rfl ⟨.inr ⟨HN.out, rfl⟩, HBV.out⟩
  · obtain ⟨hs, hn, hl⟩ := HR.out.n _ (List.mem_of_getElem? hx)
    obtain ⟨va, vcap, hxv⟩ := hs.shape
    simp only at hs hn hl hxv
    subst hxv
    have hkl : k < l.length := (List.getElem?_eq_some_iff.1 hx).1
    have hki : (k : Int) < (l.length : Int) := by omega
    have hk0 : ¬ ((k : Int) < 0) := by omega
    obtain ⟨bk, o, rfl, hbk, hc⟩ := Hc.out (by omega)
    obtain ⟨q0, q1, q2, q3, q4⟩ := hc k _ hx
    have c0 := (HB2.out.cell (p := ⟨bk, o + k * 5, none⟩) hbk).trans q0
    have c1 := (HB2.out.cell (p := ⟨bk, o + k * 5 + 1, none⟩) hbk).trans q1
    have c2 := (HB2.out.cell (p := ⟨bk, o + k * 5 + 2, none⟩) hbk).trans q2
    have c3 := (HB2.out.cell (p := ⟨bk, o + k * 5 + 3, none⟩) hbk).trans q3
    have c4 := (HB2.out.cell (p := ⟨bk, o + k * 5 + 4, none⟩) hbk).trans q4
    simp only at c0 c1 c2 c3 c4
    obtain ⟨V3, hV3⟩ : ∃ V3, w2.alloc (.cells #[.int .i64 x.node, .int .i64 x.cost, .int .i64 x.least, .int .i64 x.most, .slice va x.next.length vcap] 34) = V3 := ⟨_, rfl⟩
    have b3 : Below w2.heap.size w2 V3 := by rw [← hV3]; exact (Below.refl _ w2).alloc (Nat.le_refl _) _
    have hY : V3.heap[w2.heap.size]? = some (.cells #[.int .i64 x.node, .int .i64 x.cost, .int .i64 x.least, .int .i64 x.most, .slice va x.next.length vcap] 34) := by rw [← hV3]; exact heap_alloc_last w2 _
    have hw2 : w.heap.size + 1 < w2.heap.size := block_lt HX2.out
    have HXB := hidIn (And.intro hx (And.intro hxt hbe))
    have HB3 := hidIn (HB2.out.trans (b3.mono HB2.out.size))
    have HX3 := hidIn ((b3.block _ hw2).trans HX2.out)
    have HCl := hidIn (clone_any (hs.keep HB3.out (Nat.le_refl _)) hn (by omega))
    have HY := hidIn hY
    have y4 := cell_of_row _ _ 4 _ _ _ hY
    simp at y4
    have HW := hidIn hV3
    clear hx hxt hbe hc q0 q1 q2 q3 q4 hV3 b3 hY hs hn x0 x1 x2 x3 x4 f0 f1 f2 f3 f4
    go_upto_region 5 with fail
    rw [HW.out]
    clear HW c0 c1 c2 c3 c4
    go_wp2_with fail
    refine HCl.out.mono ?_
    rintro e w4 ⟨⟨v', rfl, hrow⟩, hb4⟩
    obtain ⟨ra, rcap, rfl⟩ := row_shape hrow
    have hY4 := (hb4.block _ (block_lt HY.out)).trans HY.out
    have hX4 := (hb4.block _ (block_lt HX3.out)).trans HX3.out
    have f4 := frozen_new hY4 4
    have y4' := cell_of_row _ _ 4 _ _ _ hY4
    simp at y4'
    have HB4 := hidIn (HB3.out.trans (hb4.mono HB3.out.size))
    have hys : w2.heap.size < V3.heap.size := block_lt HY.out
    have HRow := hidIn hrow
    have HY4 := hidIn hY4
    have HX4 := hidIn hX4
    clear hrow hb4 HCl y4 hY4 hX4
    go_upto_region 6 with fail
    have hY5 := heap_setCell_same _ w2.heap.size 4 _ _ (.slice ra x.next.length rcap) HY4.out
    simp at hY5
    have hX5 := (Below.heap_setCell w4 ⟨w2.heap.size, 4, none⟩ (.slice ra x.next.length rcap) (w.heap.size + 1) (by show w.heap.size + 1 ≠ w2.heap.size; omega)).trans HX4.out
    have HB5 := hidIn (HB4.out.setCell (p := ⟨w2.heap.size, 4, none⟩) (by show w.heap.size ≤ w2.heap.size; omega) (.slice ra x.next.length rcap))
    have HF5 : Hid (Fr (fun k => k < V3.heap.size) w4 (w4.setCell ⟨w2.heap.size, 4, none⟩ (.slice ra x.next.length rcap))) := hidIn ((Fr.refl _ w4).set (p := ⟨w2.heap.size, 4, none⟩) hys _)
    generalize w4.setCell ⟨w2.heap.size, 4, none⟩ (.slice ra x.next.length rcap) = W5 at hY5 hX5 HB5 HF5 ⊢
    clear y4' f4 HY4 HX4
    have y0 := cell_of_row _ _ 0 _ _ _ hY5
    have y1 := cell_of_row _ _ 1 _ _ _ hY5
    have y2 := cell_of_row _ _ 2 _ _ _ hY5
    have y3 := cell_of_row _ _ 3 _ _ _ hY5
    have y4 := cell_of_row _ _ 4 _ _ _ hY5
    have x0 := cell_of_row _ _ 0 _ _ _ hX5
    have x1 := cell_of_row _ _ 1 _ _ _ hX5
    have x2 := cell_of_row _ _ 2 _ _ _ hX5
    have x3 := cell_of_row _ _ 3 _ _ _ hX5
    have x4 := cell_of_row _ _ 4 _ _ _ hX5
    simp at x0 x1 x2 x3 x4 y0 y1 y2 y3 y4
    have f0 := frozen_new hX5 0
    have f1 := frozen_new hX5 1
    have f2 := frozen_new hX5 2
    have f3 := frozen_new hX5 3
    have f4 := frozen_new hX5 4
    have HX5 := hidIn hX5
    clear hX5 hY5
    go_wp2_with fail
    have hV := set5 (.int .i64 x.node) (.int .i64 x.cost) (.int .i64 x.least) (.int .i64 x.most) (.slice ra x.next.length rcap) HX5.out
    have HBV := hidIn (below5 (b := w.heap.size + 1) (.int .i64 x.node) (.int .i64 x.cost) (.int .i64 x.least) (.int .i64 x.most) (.slice ra x.next.length rcap) HB5.out (by omega))
    have hc1 : w.heap.size + 1 < V3.heap.size := by omega
    have HFV := hidIn (((((HF5.out.set (p := ⟨w.heap.size + 1, 0, none⟩) hc1 (.int .i64 x.node)).set (p := ⟨w.heap.size + 1, 1, none⟩) hc1 (.int .i64 x.cost)).set (p := ⟨w.heap.size + 1, 2, none⟩) hc1 (.int .i64 x.least)).set (p := ⟨w.heap.size + 1, 3, none⟩) hc1 (.int .i64 x.most)).set (p := ⟨w.heap.size + 1, 4, none⟩) hc1 (.slice ra x.next.length rcap))
    generalize ((((W5.setCell _ _).setCell _ _).setCell _ _).setCell _ _).setCell _ _ = V at hV HBV HFV ⊢
    clear x0 x1 x2 x3 x4 f0 f1 f2 f3 f4
    have e0 := cell_of_row _ _ 0 _ _ _ hV
    have e1 := cell_of_row _ _ 1 _ _ _ hV
    have e2 := cell_of_row _ _ 2 _ _ _ hV
    have e3 := cell_of_row _ _ 3 _ _ _ hV
    have e4 := cell_of_row _ _ 4 _ _ _ hV
    simp at e0 e1 e2 e3 e4
    have hrow := row_fr HRow.out HFV.out (fun j hj e => by have := (HRow.out.lt j hj).1; have e' : j < V3.heap.size := e; omega)
    refine bodyPost_ret (v := .tuple #[rchV x (.slice ra x.next.length rcap), .bool true]) (by simp [results, Try.results10, asAddr, Result.andThen, go_sem, e0, e1, e2, e3, e4]) rfl ⟨.inl ⟨k, _, _, HXB.out.1, HXB.out.2.1, HXB.out.2.2, rfl, slAt_of_row (cs := ic) (fun _ => rfl) hrow rfl, ?_⟩, HBV.out⟩
    rcases hrow.2 with ⟨h1, _⟩ | ⟨g, cap, cur, h1, _⟩
    · exact .inr h1
    · exact .inl ⟨_, _, _, h1⟩
end Go.Proofs.Ytabnecicidkmhaa
namespace Go.Proofs.Ytabnecicidkmhaa
open Go.RowKit

/-- What From shall answer. -/
structure IsFrom (ns : List Int) (es : List Ed) (r : Int) (l : List Rr) : Prop where
  rise : l.Pairwise fun a b => a.node < b.node
  right : ∀ p ∈ l, p.node ∈ ns ∧ ∃ d, Ds es r p.node d ∧ Right es r p.node d p
  all : ∀ x d, x ∈ ns → Ds es r x d → ∃ p ∈ l, p.node = x
theorem Ds.node {ns : List Int} {es : List Ed} (hok : graphOk ns es = true) {r x d : Int} (hr : r ∈ ns) (h : Ds es r x d) : x ∈ ns := by
  obtain ⟨hh, hw⟩ := h.1
  exact hw (fun x _ _ => x ∈ ns) hr (fun e he _ _ _ => ((graphOk_bd hok).2.1 e he).2)
theorem outR_mem {R : Nat → Rr} {vs : Nat → Value} {n : Nat} {p : Rr × Value} : p ∈ outR R vs n ↔ ∃ i, i < n ∧ (R i).node ≠ 0 ∧ p = (R i, vs i) := by
  unfold outR
  simp only [List.mem_map, List.mem_filter, List.mem_range, Bool.not_eq_true', decide_eq_false_iff_not]
  constructor
  · rintro ⟨i, ⟨h1, h2⟩, rfl⟩; exact ⟨i, h1, h2, rfl⟩
  · rintro ⟨i, h1, h2, rfl⟩; exact ⟨i, ⟨h1, h2⟩, rfl⟩
theorem outR_rise {R : Nat → Rr} {vs : Nat → Value} (h : ∀ i, i < 25 → (R i).node ≠ 0 → (R i).node = (i : Int)) : ∀ n, n ≤ 25 → (outR R vs n).Pairwise fun a b => a.1.node < b.1.node
  | 0, _ => by simp [outR]
  | n + 1, hn => by
    rw [outR_succ, List.pairwise_append]
    refine ⟨outR_rise h n (by omega), by split <;> simp, fun a ha b hb => ?_⟩
    obtain ⟨i, h1, h2, rfl⟩ := outR_mem.1 ha
    split at hb
    · simp at hb
    · rename_i h3
      rw [List.mem_singleton.1 hb]
      show (R i).node < (R n).node
      rw [h i (by omega) h2, h n (by omega) h3]
      omega
theorem from_is {ns : List Int} {es : List Ed} {r : Int} {P : List (Int × Int)} {C : Nat → Int} (vs : Nat → Value) (hok : graphOk ns es = true) (hr : r ∈ ns) (h : IsNear es r P) (hn : NdOk P) (hC : ∀ e ∈ told es P P, e ∈ es ∧ Ds es r e.2.1 (C e.2.1.toNat)) : IsFrom ns es r ((outR (rchT r C (told es P P)) vs 25).map (·.1)) := by
  have hbd := graphOk_bd hok
  obtain ⟨_, _, hno⟩ := fin_all (C := C) hok hr h hn
  have key : ∀ i, i < 25 → (rchT r C (told es P P) i).node ≠ 0 → (i : Int) ∈ ns ∧ ∃ d, Ds es r (i : Int) d ∧ Right es r (i : Int) d (rchT r C (told es P P) i) := fun i hi h0 => by
    have : ∃ d, Ds es r (i : Int) d := Classical.byContradiction fun hc => h0 (by rw [hno i hi (fun d hd => hc ⟨d, hd⟩)]; rfl)
    obtain ⟨d, hd⟩ := this
    have hm := hd.node hok hr
    have := fin_right hok hr h hn hC _ (i : Int) d rfl hm hd
    rw [show ((i : Int)).toNat = i from rfl] at this
    exact ⟨hm, d, hd, this⟩
  refine ⟨?_, fun p hp => ?_, fun x d hx hd => ?_⟩
  · rw [List.pairwise_map]
    exact outR_rise (fun i hi h0 => (key i hi h0).2.choose_spec.2.node) 25 (Nat.le_refl _)
  · obtain ⟨q, hq, rfl⟩ := List.mem_map.1 hp
    obtain ⟨i, h1, h2, rfl⟩ := outR_mem.1 hq
    obtain ⟨hm, d, hd, hR⟩ := key i h1 h2
    show (rchT r C (told es P P) i).node ∈ ns ∧ _
    rw [hR.node]
    exact ⟨hm, d, hd, hR⟩
  · have hx1 := hbd.1 x hx
    have hR := fin_right hok hr h hn hC _ x d rfl hx hd
    have hn0 : (rchT r C (told es P P) x.toNat).node ≠ 0 := by rw [hR.node]; omega
    exact ⟨_, List.mem_map.2 ⟨_, outR_mem.2 ⟨x.toNat, by omega, hn0, rfl⟩, rfl⟩, hR.node⟩
/-- From's answer. -/
def FromIs (w w' : World) (ns : List Int) (es : List Ed) (r : Int) (e : Ending) : Prop :=
  ∃ (l : List (Rr × Value)) (u : Value) (mid : Nat), e = .returned (.tuple #[u, .int .i64 0]) ∧ w.heap.size ≤ mid ∧ w'.ownsRow mid 34 5 u l.length (fl rwc l) ∧ RlAt w' u l ∧ IsFrom ns es r (l.map (·.1)) ∧ l.length ≤ 25 ∧ (∀ p ∈ l, ∀ k, p.2.ownBlock = some k → w.heap.size ≤ k ∧ k < mid) ∧ ∀ p ∈ l, ∀ a n c, p.2 = .slice (some a) n c → w.heap.size ≤ a.block ∧ ∃ cur, w'.heap[a.block]? = some (.cells cur 3)
theorem from_right {ns : List Int} {es : List Ed} {vn ve : Value} {w : World} (h : GrAt w vn ve ns es) (r : Int) :
    Calls Try.prog 6 #[grV vn ve, .int .i64 r] w fun e w' => ((ndAll ns es [r] = false ∧ e = .returned (.tuple #[.slice none 0 0, .int .i64 2])) ∨ (ndAll ns es [r] = true ∧ FromIs w w' ns es r e)) ∧ Below w.heap.size w w' := by
  refine (from_any h r).mono ?_
  rintro e w' ⟨h1 | ⟨h1, P, C, vs, hP, hN, hC, u, mid, B, he, hmid, hrow, hx⟩, hb⟩
  · exact ⟨.inl h1, hb⟩
  · refine ⟨.inr ⟨h1, outR (rchT r C (told es P P)) vs 25, u, mid, he, hmid, hrow, ?_, ?_, outR_len _ _ _, ?_, ?_⟩, hb⟩
    · refine ⟨slAt_of_row (cs := rwc) (fun _ => rfl) hrow rfl, fun p hp => ?_⟩
      obtain ⟨i, hi, _, rfl⟩ := outR_mem.1 hp
      simp only [ndAll, List.all_cons, List.all_nil, Bool.and_true, Bool.and_eq_true] at h1
      have hbd := graphOk_bd h1.1
      have h3 := rchT_ok r C (told es P P) (fun e he => hbd.1 _ (hbd.2.1 e (hC e he).1).2) i
      have h4 := rise_len h3.np h3.nb
      have h5 := (hx i hi).1.sl (by omega)
      exact ⟨h5.1, h5.2, by show (rchT r C (told es P P) i).next.length ≤ _; omega⟩
    · simp only [ndAll, List.all_cons, List.all_nil, Bool.and_true, Bool.and_eq_true] at h1
      exact from_is vs h1.1 (hasN_iff.1 h1.2) hP hN hC
    · intro p hp k hk
      obtain ⟨i, hi, _, rfl⟩ := outR_mem.1 hp
      refine ⟨?_, (hx i hi).2 k hk⟩
      rcases (hx i hi).1 with ⟨_, e⟩ | ⟨g, o, cap, e, _, _, h6, _, _⟩
      · have hk' : (vs i).ownBlock = some k := hk
        rw [e] at hk'
        simp [Value.ownBlock] at hk'
      · have hk' : (vs i).ownBlock = some k := hk
        rw [e] at hk'
        simp [Value.ownBlock] at hk'
        omega
    · intro p hp a n c hk
      obtain ⟨i, hi, _, rfl⟩ := outR_mem.1 hp
      simp only at hk
      rcases (hx i hi).1 with ⟨_, e⟩ | ⟨g, o, cap, e, _, _, h6, h7, _⟩
      · rw [hk] at e
        simp at e
      · rw [hk] at e
        simp only [Value.slice.injEq, Option.some.injEq] at e
        rw [e.1]
        exact ⟨h6, h7⟩
end Go.Proofs.Ytabnecicidkmhaa
namespace Go.Proofs.Ytabnecicidkmhaa

/-- A number laid ahead of the first greater one. -/
def inL7 (n : Int) : List Int → List Int
  | [] => [n]
  | x :: l => if n < x then n :: x :: l else x :: inL7 n l
theorem inL7_mem {n y : Int} : ∀ {l : List Int}, y ∈ inL7 n l ↔ y = n ∨ y ∈ l
  | [] => by simp [inL7]
  | x :: l => by
    unfold inL7
    split
    · simp
    · rw [List.mem_cons, inL7_mem, List.mem_cons]
      constructor
      · rintro (h | h | h)
        · exact .inr (.inl h)
        · exact .inl h
        · exact .inr (.inr h)
      · rintro (h | h | h)
        · exact .inr (.inl h)
        · exact .inl h
        · exact .inr (.inr h)
theorem inL7_rise {n : Int} : ∀ {l : List Int}, (l.Pairwise fun a b => a < b) → n ∉ l → (inL7 n l).Pairwise fun a b => a < b
  | [], _, _ => by simp [inL7]
  | x :: l, h, hn => by
    obtain ⟨h1, h2⟩ := List.pairwise_cons.1 h
    unfold inL7
    split
    · rename_i hlt
      refine List.pairwise_cons.2 ⟨fun y hy => ?_, h⟩
      rcases List.mem_cons.1 hy with rfl | hy
      · exact hlt
      · have := h1 y hy; omega
    · rename_i hlt
      refine List.pairwise_cons.2 ⟨fun y hy => ?_, inL7_rise h2 (fun h => hn (List.mem_cons_of_mem _ h))⟩
      rcases inL7_mem.1 hy with rfl | hy
      · have : y ≠ x := fun e => hn (by rw [e]; exact List.mem_cons_self)
        omega
      · exact h1 y hy
theorem inL7_put {n : Int} {s : List Int} : ∀ {p : List Int}, (∃ y ∈ p, n < y) → inL7 n (p ++ s) = inL7 n p ++ s
  | [], h => by obtain ⟨y, h, _⟩ := h; simp at h
  | x :: p, h => by
    show (if n < x then n :: x :: (p ++ s) else x :: inL7 n (p ++ s)) = (if n < x then n :: x :: p else x :: inL7 n p) ++ s
    split
    · rfl
    · rename_i hlt
      rw [inL7_put (by
        obtain ⟨y, h1, h2⟩ := h
        rcases List.mem_cons.1 h1 with rfl | h1
        · exact absurd h2 hlt
        · exact ⟨y, h1, h2⟩)]
      rfl
theorem inL7_no {n : Int} {s : List Int} : ∀ {p : List Int}, (∀ y ∈ p, ¬ n < y) → inL7 n (p ++ s) = p ++ inL7 n s
  | [], _ => rfl
  | x :: p, h => by
    show (if n < x then n :: x :: (p ++ s) else x :: inL7 n (p ++ s)) = _
    rw [if_neg (h x List.mem_cons_self), inL7_no (fun y hy => h y (List.mem_cons_of_mem _ hy))]
    rfl
theorem inL7_len {n : Int} : ∀ {l : List Int}, (inL7 n l).length = l.length + 1
  | [] => rfl
  | x :: l => by
    unfold inL7
    split
    · rfl
    · rw [List.length_cons, inL7_len]; rfl
/-- A list with a number more, rising, once. -/
def withL (l : List Int) (n : Int) : List Int := if n ∈ l then l else inL7 n l
theorem withL_mem {l : List Int} {n y : Int} : y ∈ withL l n ↔ y ∈ l ∨ y = n := by
  unfold withL
  split
  · rename_i h
    exact ⟨.inl, fun h' => h'.elim id (fun e => e ▸ h)⟩
  · rw [inL7_mem]; exact Or.comm
theorem withL_rise {l : List Int} {n : Int} (h : l.Pairwise fun a b => a < b) : (withL l n).Pairwise fun a b => a < b := by
  unfold withL
  split
  · exact h
  · rename_i hn; exact inL7_rise h hn
theorem withF_mem {y : Int} : ∀ {m l : List Int}, y ∈ m.foldl withL l ↔ y ∈ l ∨ y ∈ m
  | [], l => by simp
  | n :: m, l => by
    rw [List.foldl_cons, withF_mem, withL_mem, List.mem_cons]
    exact or_assoc
theorem withF_rise : ∀ {m l : List Int}, (l.Pairwise fun a b => a < b) → (m.foldl withL l).Pairwise fun a b => a < b
  | [], _, h => h
  | n :: m, l, h => by rw [List.foldl_cons]; exact withF_rise (withL_rise h)
theorem withL_len {l : List Int} {n : Int} : (withL l n).length ≤ l.length + 1 := by
  unfold withL
  split
  · omega
  · rw [inL7_len]; omega
/-- What is gathered at a node out of the edges L that lead there. -/
structure Gth (r : Int) (K : Int → Rr) (x d : Int) (L : List Ed) (A : Rr) : Prop where
  node : A.node = x
  cost : A.cost = d
  l1 : ∀ e ∈ L, A.least ≤ (K e.1).least + 1
  l2 : ∃ e ∈ L, A.least = (K e.1).least + 1
  m1 : ∀ e ∈ L, (K e.1).most + 1 ≤ A.most
  m2 : ∃ e ∈ L, A.most = (K e.1).most + 1
  np : A.next.Pairwise fun a b => a < b
  nx : ∀ y, y ∈ A.next ↔ ∃ e ∈ L, y ∈ nxE r (K e.1) e
theorem gth_right {ns : List Int} {es : List Ed} {r : Int} {K : Int → Rr} {x d : Int} {L : List Ed} {A : Rr} (hok : graphOk ns es = true) (hd : Ds es r x d) (hxr : x ≠ r) (hL : ∀ e, e ∈ L ↔ Into es r x e) (hK : ∀ e d', e ∈ es → Ds es r e.1 d' → d' < d → Right es r e.1 d' (K e.1)) (hG : Gth r K x d L A) : Right es r x d A := by
  have hp := graphOk_pos hok
  have hin : ∀ e ∈ L, ∃ d', e ∈ es ∧ e.2.1 = x ∧ Ds es r e.1 d' ∧ d = d' + e.2.2 ∧ Right es r e.1 d' (K e.1) := fun e he => by
    obtain ⟨h1, h2, d', h3, h4⟩ := (hL e).1 he
    have h5 := hd.uniq h4
    have h6 := hp e h1
    exact ⟨d', h1, h2, h3, h5, hK e d' h1 h3 (by omega)⟩
  refine ⟨hG.node, hG.cost, ?_, ?_, fun k hw => ?_, ?_, ?_, hG.np, fun e => absurd e hxr, fun _ y => ?_⟩
  · obtain ⟨e, he, h1⟩ := hG.l2
    obtain ⟨d', _, _, _, _, hR⟩ := hin e he
    have := hR.l0
    omega
  · obtain ⟨e, he, h1⟩ := hG.m2
    obtain ⟨d', _, _, _, _, hR⟩ := hin e he
    have := hR.m0
    omega
  · rcases hw.last with ⟨h1, _⟩ | ⟨e, he, c', h', hw', h1, h2, h3⟩
    · exact absurd h1 hxr
    · obtain ⟨h4, h5⟩ := into_last hd he hw' h1 h2
      have h6 := (hL e).2 h4
      obtain ⟨d', _, _, h7, _, hR⟩ := hin e h6
      have h8 := h7.uniq h5
      rw [h8] at hR
      have h9 := hR.hops _ hw'
      have := hG.l1 e h6
      have := hG.m1 e h6
      omega
  · obtain ⟨e, he, h1⟩ := hG.l2
    obtain ⟨d', h2, h3, _, h5, hR⟩ := hin e he
    have h6 := hR.lw.step h2
    have := hR.l0
    rw [h3, ← h5, show (K e.1).least.toNat + 1 = A.least.toNat by omega] at h6
    exact h6
  · obtain ⟨e, he, h1⟩ := hG.m2
    obtain ⟨d', h2, h3, _, h5, hR⟩ := hin e he
    have h6 := hR.mw.step h2
    have := hR.m0
    rw [h3, ← h5, show (K e.1).most.toNat + 1 = A.most.toNat by omega] at h6
    exact h6
  · rw [hG.nx y]
    constructor
    · rintro ⟨e, he, hy⟩
      obtain ⟨d', h2, h3, h4, h5, hR⟩ := hin e he
      unfold nxE at hy
      by_cases her : e.1 = r
      · rw [if_pos her, List.mem_singleton] at hy
        have h6 : d' = 0 := by rw [her] at h4; exact h4.uniq (ds_root hp)
        refine ⟨e, h2, her, hy.symm, 0, ?_⟩
        rw [hy, h3, show d - e.2.2 = 0 by omega]
        exact Wy.refl _ _
      · rw [if_neg her] at hy
        obtain ⟨e1, g1, g2, g3, k, g4⟩ := (hR.nx her y).1 hy
        refine ⟨e1, g1, g2, g3, k + 1, ?_⟩
        have g5 := g4.step h2
        rw [h3, show d' - e1.2.2 + e.2.2 = d - e1.2.2 by omega] at g5
        exact g5
    · rintro ⟨e1, g1, g2, g3, k, g4⟩
      have hfirst : Wy es r y e1.2.2 1 := by
        have := Wy.one g1
        rw [g2, g3] at this
        exact this
      have hpe := hp e1 g1
      rcases g4.last with ⟨h1, h2, _⟩ | ⟨e, he, c', h', hw', h1, h2, h3⟩
      · have hI : Into es r x e1 := ⟨g1, by rw [g3, h1], 0, by rw [g2]; exact ds_root hp, by rw [show (0 : Int) + e1.2.2 = d by omega]; exact hd⟩
        refine ⟨e1, (hL e1).2 hI, ?_⟩
        unfold nxE
        rw [if_pos g2, List.mem_singleton, g3]
      · have hw2 := hfirst.trans hw'
        obtain ⟨hI, hDe⟩ := into_last hd he hw2 h1 (by omega)
        have h6 := (hL e).2 hI
        obtain ⟨d', _, _, h7, _, hR⟩ := hin e h6
        have h8 := h7.uniq hDe
        have hc' := (hw'.pos hp).1
        have her : e.1 ≠ r := fun e' => by
          rw [e'] at hDe
          have := hDe.uniq (ds_root hp)
          omega
        refine ⟨e, h6, ?_⟩
        unfold nxE
        rw [if_neg her]
        refine (hR.nx her y).2 ⟨e1, g1, g2, g3, h', ?_⟩
        rw [h8, show e1.2.2 + c' - e1.2.2 = c' by omega]
        exact hw'
/-- What is right of a node is so once. -/
theorem Right.uniq {es : List Ed} {r x d : Int} {A B : Rr} (h : Right es r x d A) (k : Right es r x d B) : A = B := by
  by_cases hx : x = r
  · rw [h.root hx, k.root hx]
  · have h1 := (h.hops _ k.lw).1
    have h2 := (k.hops _ h.lw).1
    have h3 := (h.hops _ k.mw).2
    have h4 := (k.hops _ h.mw).2
    have := h.l0
    have := k.l0
    have := h.m0
    have := k.m0
    have h5 : A.next = B.next := rise_ext7 h.np k.np (fun y => by rw [h.nx hx y, k.nx hx y])
    obtain ⟨a1, a2, a3, a4, a5⟩ := A
    obtain ⟨b1, b2, b3, b4, b5⟩ := B
    have h6 := h.node
    have h7 := k.node
    have h8 := h.cost
    have h9 := k.cost
    simp only at *
    rw [Rr.mk.injEq]
    exact ⟨by omega, by omega, by omega, by omega, h5⟩
where rise_ext7 : ∀ {l m : List Int}, (l.Pairwise fun a b => a < b) → (m.Pairwise fun a b => a < b) → (∀ y, y ∈ l ↔ y ∈ m) → l = m
  | [], [], _, _, _ => rfl
  | [], y :: m, _, _, h => absurd ((h y).2 List.mem_cons_self) (by simp)
  | x :: l, [], _, _, h => absurd ((h x).1 List.mem_cons_self) (by simp)
  | x :: l, y :: m, h1, h2, h => by
    obtain ⟨p1, p2⟩ := List.pairwise_cons.1 h1
    obtain ⟨q1, q2⟩ := List.pairwise_cons.1 h2
    have hxy : x = y := by
      rcases List.mem_cons.1 ((h x).1 List.mem_cons_self) with e | e
      · exact e
      · rcases List.mem_cons.1 ((h y).2 List.mem_cons_self) with e' | e'
        · exact e'.symm
        · have := q1 x e; have := p1 y e'; omega
    subst hxy
    rw [rise_ext7 p2 q2 (fun z => by
      constructor
      · intro hz
        rcases List.mem_cons.1 ((h z).1 (List.mem_cons_of_mem _ hz)) with e | e
        · have := p1 z hz; omega
        · exact e
      · intro hz
        rcases List.mem_cons.1 ((h z).2 (List.mem_cons_of_mem _ hz)) with e | e
        · have := q1 z hz; omega
        · exact e)]
/-- Two lists that From may answer are one. -/
theorem IsFrom.uniq {ns : List Int} {es : List Ed} {r : Int} {l m : List Rr} (h : IsFrom ns es r l) (k : IsFrom ns es r m) : l = m :=
  go l m h.rise k.rise (fun p hp => by
    obtain ⟨h1, d, h2, h3⟩ := h.right p hp
    obtain ⟨q, hq, h4⟩ := k.all _ d h1 h2
    obtain ⟨_, d2, h5, h6⟩ := k.right q hq
    rw [h4] at h5 h6
    rw [h5.uniq h2] at h6
    rw [h3.uniq h6]
    exact hq) (fun p hp => by
    obtain ⟨h1, d, h2, h3⟩ := k.right p hp
    obtain ⟨q, hq, h4⟩ := h.all _ d h1 h2
    obtain ⟨_, d2, h5, h6⟩ := h.right q hq
    rw [h4] at h5 h6
    rw [h5.uniq h2] at h6
    rw [h3.uniq h6]
    exact hq)
where go : ∀ l m : List Rr, (l.Pairwise fun a b => a.node < b.node) → (m.Pairwise fun a b => a.node < b.node) → (∀ p ∈ l, p ∈ m) → (∀ p ∈ m, p ∈ l) → l = m
  | [], [], _, _, _, _ => rfl
  | [], y :: m, _, _, _, h => absurd (h y List.mem_cons_self) (by simp)
  | x :: l, [], _, _, h, _ => absurd (h x List.mem_cons_self) (by simp)
  | x :: l, y :: m, h1, h2, h3, h4 => by
    obtain ⟨p1, p2⟩ := List.pairwise_cons.1 h1
    obtain ⟨q1, q2⟩ := List.pairwise_cons.1 h2
    have hxy : x = y := by
      rcases List.mem_cons.1 (h3 x List.mem_cons_self) with e | e
      · exact e
      · rcases List.mem_cons.1 (h4 y List.mem_cons_self) with e' | e'
        · exact e'.symm
        · have := q1 x e; have := p1 y e'; omega
    subst hxy
    rw [go l m p2 q2 (fun z hz => by
      rcases List.mem_cons.1 (h3 z (List.mem_cons_of_mem _ hz)) with e | e
      · have := p1 z hz; rw [e] at this; omega
      · exact e) (fun z hz => by
      rcases List.mem_cons.1 (h4 z (List.mem_cons_of_mem _ hz)) with e | e
      · have := q1 z hz; rw [e] at this; omega
      · exact e)]
/-- One edge more, at the node x. -/
def selE (x : Int) (D : Int → Int) (e : Ed) : Bool := decide (e.2.1 = x) && tgI D e
def addO (r x : Int) (K : Rr) (fst : Bool) (A : Rr) (e : Ed) : Rr :=
  ⟨A.node, A.cost, if fst = true ∨ K.least + 1 < A.least then K.least + 1 else A.least, if fst = true ∨ A.most < K.most + 1 then K.most + 1 else A.most, K.next.foldl withL (if e.1 = r then withL A.next x else A.next)⟩
def oneE (r x : Int) (D : Int → Int) (K : Int → Rr) (s : Bool × Rr) (e : Ed) : Bool × Rr :=
  if selE x D e = true then (false, addO r x (K e.1) s.1 s.2 e) else s
def oneS (x : Int) (D : Int → Int) : Bool × Rr := (true, ⟨x, D x, 0, 0, []⟩)
def oneF (r x : Int) (D : Int → Int) (K : Int → Rr) (L : List Ed) : Bool × Rr := L.foldl (oneE r x D K) (oneS x D)
def oneR (r x : Int) (D : Int → Int) (K : Int → Rr) (es : List Ed) : Rr := if x = r then ⟨x, D x, 0, 0, []⟩ else (oneF r x D K es).2
def OneI (r x : Int) (D : Int → Int) (K : Int → Rr) (L : List Ed) (s : Bool × Rr) : Prop := (L = [] ∧ s = oneS x D) ∨ (L ≠ [] ∧ s.1 = false ∧ Gth r K x (D x) L s.2)
theorem addO_nx {r x : Int} {K : Rr} {fst : Bool} {A : Rr} {e : Ed} (he : e.2.1 = x) (hr : e.1 = r → K.next = []) {y : Int} : y ∈ (addO r x K fst A e).next ↔ y ∈ A.next ∨ y ∈ nxE r K e := by
  unfold addO nxE
  simp only
  rw [withF_mem]
  split
  · rename_i h
    rw [hr h, withL_mem, he]
    simp
  · rfl
theorem one_step {r x : Int} {D : Int → Int} {K : Int → Rr} {L : List Ed} {s : Bool × Rr} (h : OneI r x D K L s) (e : Ed) (hr : e.1 = r → (K e.1).next = []) : OneI r x D K (L ++ if selE x D e = true then [e] else []) (oneE r x D K s e) := by
  unfold oneE
  by_cases hs : selE x D e = true
  · rw [if_pos hs, if_pos hs]
    have hex : e.2.1 = x := by unfold selE at hs; simp only [Bool.and_eq_true, decide_eq_true_eq] at hs; exact hs.1
    refine .inr ⟨by simp, rfl, ?_⟩
    rcases h with ⟨rfl, rfl⟩ | ⟨h0, h1, hG⟩
    · have he1 : ∀ f ∈ [] ++ [e], f = e := fun f hf => by simpa using hf
      refine ⟨rfl, rfl, fun f hf => ?_, ⟨e, by simp, ?_⟩, fun f hf => ?_, ⟨e, by simp, ?_⟩, ?_, fun y => ?_⟩
      · rw [he1 f hf]; simp [addO, oneS]
      · simp [addO, oneS]
      · rw [he1 f hf]; simp [addO, oneS]
      · simp [addO, oneS]
      · exact withF_rise (by split; exact withL_rise List.Pairwise.nil; exact List.Pairwise.nil)
      · rw [addO_nx hex hr]; simp [oneS]
    · have hm : ∀ f, f ∈ L ++ [e] ↔ f ∈ L ∨ f = e := fun f => by simp
      refine ⟨hG.node, hG.cost, fun f hf => ?_, ?_, fun f hf => ?_, ?_, ?_, fun y => ?_⟩
      · show (if s.1 = true ∨ (K e.1).least + 1 < s.2.least then (K e.1).least + 1 else s.2.least) ≤ _
        rw [h1]
        rcases (hm f).1 hf with hf | rfl
        · have := hG.l1 f hf; split <;> rename_i hc <;> simp at hc <;> omega
        · split <;> rename_i hc <;> simp at hc <;> omega
      · show ∃ f ∈ L ++ [e], (if s.1 = true ∨ (K e.1).least + 1 < s.2.least then (K e.1).least + 1 else s.2.least) = _
        rw [h1]
        split
        · exact ⟨e, by simp, rfl⟩
        · obtain ⟨f, hf, h2⟩ := hG.l2
          exact ⟨f, by simp [hf], h2⟩
      · show _ ≤ (if s.1 = true ∨ s.2.most < (K e.1).most + 1 then (K e.1).most + 1 else s.2.most)
        rw [h1]
        rcases (hm f).1 hf with hf | rfl
        · have := hG.m1 f hf; split <;> rename_i hc <;> simp at hc <;> omega
        · split <;> rename_i hc <;> simp at hc <;> omega
      · show ∃ f ∈ L ++ [e], (if s.1 = true ∨ s.2.most < (K e.1).most + 1 then (K e.1).most + 1 else s.2.most) = _
        rw [h1]
        split
        · exact ⟨e, by simp, rfl⟩
        · obtain ⟨f, hf, h2⟩ := hG.m2
          exact ⟨f, by simp [hf], h2⟩
      · exact withF_rise (by split; exact withL_rise hG.np; exact hG.np)
      · rw [addO_nx hex hr, hG.nx y]
        constructor
        · rintro (⟨f, hf, h2⟩ | h2)
          · exact ⟨f, by simp [hf], h2⟩
          · exact ⟨e, by simp, h2⟩
        · rintro ⟨f, hf, h2⟩
          rcases (hm f).1 hf with hf | rfl
          · exact .inl ⟨f, hf, h2⟩
          · exact .inr h2
  · rw [if_neg hs, if_neg hs, List.append_nil]
    exact h
theorem one_fold {r x : Int} {D : Int → Int} {K : Int → Rr} : ∀ (p L : List Ed) (s : Bool × Rr), OneI r x D K L s → (∀ e ∈ p, e.1 = r → (K e.1).next = []) → OneI r x D K (L ++ p.filter (selE x D)) (p.foldl (oneE r x D K) s)
  | [], L, s, h, _ => by simpa using h
  | e :: p, L, s, h, hr => by
    have h1 := one_step h e (hr e List.mem_cons_self)
    have h2 := one_fold p _ _ h1 (fun f hf => hr f (List.mem_cons_of_mem _ hf))
    rw [List.foldl_cons]
    rw [List.filter_cons]
    by_cases hs : selE x D e = true
    · rw [if_pos hs] at h2 ⊢
      rwa [List.append_assoc] at h2
    · rw [if_neg hs, List.append_nil] at h2
      rw [if_neg hs]
      exact h2
/-- A node of which all cheaper ones are known. -/
theorem one_right {ns : List Int} {es : List Ed} {r x d : Int} {K : Int → Rr} (hok : graphOk ns es = true) (hr : r ∈ ns) (hx : x ∈ ns) (hd : Ds es r x d) (hK : ∀ y d', y ∈ ns → Ds es r y d' → d' < d → Right es r y d' (K y)) (hKr : (K r).next = []) : Right es r x d (oneR r x (bfN es r ns.length) K es) := by
  have hp := graphOk_pos hok
  have hD : bfN es r ns.length x = d := by
    rcases bf_all hok hr x with ⟨d1, h1, h2, _⟩ | ⟨h1, _⟩
    · rw [h2]; exact h1.uniq hd
    · exact absurd hd (h1 d)
  unfold oneR
  by_cases hxr : x = r
  · rw [if_pos hxr, hD]
    subst hxr
    have h1 : d = 0 := hd.uniq (ds_root hp)
    subst h1
    exact ⟨rfl, rfl, Int.le_refl 0, Int.le_refl 0, fun k hw => by have := (hw.pos hp).1; show (0 : Int) ≤ k ∧ (k : Int) ≤ 0; omega, Wy.refl _ _, Wy.refl _ _, by simp, fun _ => rfl, fun hne => absurd rfl hne⟩
  · rw [if_neg hxr]
    have h1 := one_fold (r := r) (x := x) (D := bfN es r ns.length) (K := K) es [] (oneS x (bfN es r ns.length)) (.inl ⟨rfl, rfl⟩) (fun e _ he => by rw [he]; exact hKr)
    rw [List.nil_append] at h1
    have hL : ∀ e, e ∈ es.filter (selE x (bfN es r ns.length)) ↔ Into es r x e := fun e => by
      rw [List.mem_filter]
      unfold selE
      simp only [Bool.and_eq_true, decide_eq_true_eq]
      constructor
      · rintro ⟨g1, g2, g3⟩
        subst g2
        exact (tg_into hok hr g1 hd).1 g3
      · intro h
        have h2 := h.2.1
        subst h2
        exact ⟨h.1, rfl, (tg_into hok hr h.1 hd).2 h⟩
    rcases h1 with ⟨h1, _⟩ | ⟨_, _, hG⟩
    · obtain ⟨e, he⟩ := into_some hp hd hxr
      have := (hL e).2 he
      rw [h1] at this
      simp at this
    · rw [hD] at hG
      exact gth_right hok hd hxr hL (fun e d' he hde hlt => hK e.1 d' ((graphOk_bd hok).2.1 e he).1 hde hlt) hG
/-- As far as nodes are known. -/
structure Knw (ns : List Int) (es : List Ed) (r : Int) (Dn : Int → Bool) (K : Int → Rr) (k : Nat) : Prop where
  right : ∀ x ∈ ns, Dn x = true → ∃ d, Ds es r x d ∧ Right es r x d (K x)
  count : (ns.filter Dn).length = k
  none : ∀ x, Dn x = false → K x = noR
theorem Knw.rt {ns : List Int} {es : List Ed} {r : Int} {Dn : Int → Bool} {K : Int → Rr} {k : Nat} (h : Knw ns es r Dn K k) (hr : r ∈ ns) : (K r).next = [] := by
  cases hq : Dn r with
  | false => rw [h.none r hq]; rfl
  | true =>
    obtain ⟨d, _, h2⟩ := h.right r hr hq
    rw [h2.root rfl]
theorem filter_more {Dn : Int → Bool} {x : Int} (hx : Dn x = false) : ∀ {ns : List Int}, ns.Nodup → x ∈ ns → (ns.filter fun z => if z = x then true else Dn z).length = (ns.filter Dn).length + 1
  | [], _, h => by simp at h
  | y :: ns, hn, h => by
    obtain ⟨h1, h2⟩ := List.nodup_cons.1 hn
    have hsame : x ∉ ns → (ns.filter fun z => if z = x then true else Dn z) = ns.filter Dn := fun hnx => List.filter_congr fun z hz => by
      rw [if_neg (fun e => hnx (by rw [← e]; exact hz))]
    by_cases hxy : y = x
    · subst hxy
      rw [List.filter_cons, List.filter_cons, hsame h1]
      simp [hx]
    · have hm : x ∈ ns := by rcases List.mem_cons.1 h with e | e; exact absurd e.symm hxy; exact e
      have ih := filter_more hx h2 hm
      rw [List.filter_cons, List.filter_cons]
      simp only [if_neg hxy]
      split
      · simp only [List.length_cons]; omega
      · exact ih
/-- The cheapest node that is not known. -/
theorem Knw.more {ns : List Int} {es : List Ed} {r : Int} {Dn : Int → Bool} {K : Int → Rr} {k : Nat} (h : Knw ns es r Dn K k) (hok : graphOk ns es = true) (hr : r ∈ ns) {x : Int} (hx : x ∈ ns) (hDx : Dn x = false) (hfar : bfN es r ns.length x < farC) (hmin : ∀ y ∈ ns, Dn y = false → bfN es r ns.length y < farC → bfN es r ns.length x ≤ bfN es r ns.length y) :
    Knw ns es r (fun z => if z = x then true else Dn z) (fun z => if z = x then oneR r x (bfN es r ns.length) K es else K z) (k + 1) := by
  have hd := bf_d hok hr hfar
  refine ⟨fun z hz hDz => ?_, by rw [filter_more hDx (graphOk_nn hok) hx, h.count], fun z hDz => ?_⟩
  · by_cases hzx : z = x
    · rw [if_pos hzx]
      subst hzx
      refine ⟨_, hd.1, one_right hok hr hx hd.1 (fun y d' hy hdy hlt => ?_) (h.rt hr)⟩
      have hDy : bfN es r ns.length y = d' := by
        rcases bf_all hok hr y with ⟨d1, h1, h2, _⟩ | ⟨h1, _⟩
        · rw [h2]; exact h1.uniq hdy
        · exact absurd hdy (h1 d')
      cases hq : Dn y with
      | false =>
        have := hmin y hy hq (by omega)
        omega
      | true =>
        obtain ⟨d2, h3, h4⟩ := h.right y hy hq
        rwa [h3.uniq hdy] at h4
    · rw [if_neg hzx] at hDz ⊢
      exact h.right z hz hDz
  · by_cases hzx : z = x
    · rw [if_pos hzx] at hDz; cases hDz
    · rw [if_neg hzx] at hDz ⊢
      exact h.none z hDz
theorem Knw.start (ns : List Int) (es : List Ed) (r : Int) : Knw ns es r (fun _ => false) (fun _ => noR) 0 :=
  ⟨fun _ _ h => (by cases h), (by simp), fun _ _ => rfl⟩
theorem rise7 {ns : List Int} {es : List Ed} (hok : graphOk ns es = true) : ns.Pairwise fun a b => a < b := by
  simp only [graphOk, Bool.and_eq_true] at hok
  have key : ∀ (ns : List Int) (last : Int), nodesOk last ns = true → ns.Pairwise fun a b => a < b := fun ns => by
    induction ns with
    | nil => intro _ _; exact List.Pairwise.nil
    | cons m ns ih =>
      intro last hm
      have hm' : nodesOk m ns = true := by
        simp only [nodesOk, Bool.and_eq_true] at hm
        exact hm.2.2
      exact List.pairwise_cons.2 ⟨fun y hy => (nodesOk_bd ns m hm' y hy).2.2, ih m hm'⟩
  exact key ns 0 hok.1
/-- When none is left. -/
theorem Knw.done {ns : List Int} {es : List Ed} {r : Int} {Dn : Int → Bool} {K : Int → Rr} {k : Nat} (h : Knw ns es r Dn K k) (hok : graphOk ns es = true) (hr : r ∈ ns) (he : k = ns.length ∨ ∀ y ∈ ns, Dn y = false → ¬ bfN es r ns.length y < farC) : IsFrom ns es r ((ns.filter Dn).map K) := by
  have hall : ∀ y d, y ∈ ns → Ds es r y d → Dn y = true := fun y d hy hd => by
    rcases he with he | he
    · have h1 := h.count
      rw [he] at h1
      exact List.length_filter_eq_length_iff.1 h1 y hy
    · cases hq : Dn y with
      | true => rfl
      | false =>
        exfalso
        refine he y hy hq ?_
        rcases bf_all hok hr y with ⟨d1, h1, h2, h3, h4⟩ | ⟨h1, _⟩
        · rw [h2]
          have := graphOk_n24 hok
          unfold farC
          omega
        · exact absurd hd (h1 d)
  have hmem : ∀ p, p ∈ (ns.filter Dn).map K ↔ ∃ x ∈ ns, Dn x = true ∧ K x = p := fun p => by
    simp only [List.mem_map, List.mem_filter]
    constructor
    · rintro ⟨x, ⟨h1, h2⟩, h3⟩; exact ⟨x, h1, h2, h3⟩
    · rintro ⟨x, h1, h2, h3⟩; exact ⟨x, ⟨h1, h2⟩, h3⟩
  have hnode : ∀ x ∈ ns, Dn x = true → (K x).node = x := fun x hx hd => by
    obtain ⟨d, _, h2⟩ := h.right x hx hd
    exact h2.node
  refine ⟨?_, fun p hp => ?_, fun x d hx hd => ?_⟩
  · rw [List.pairwise_map]
    have h1 : (ns.filter Dn).Pairwise fun a b => a < b := (rise7 hok).filter _
    refine h1.imp_of_mem fun {a b} ha hb hab => ?_
    rw [List.mem_filter] at ha hb
    rw [hnode a ha.1 ha.2, hnode b hb.1 hb.2]
    exact hab
  · obtain ⟨x, h1, h2, rfl⟩ := (hmem p).1 hp
    rw [hnode x h1 h2]
    exact ⟨h1, h.right x h1 h2⟩
  · exact ⟨_, (hmem _).2 ⟨x, hx, hall x d hx hd, rfl⟩, hnode x hx (hall x d hx hd)⟩
end Go.Proofs.Ytabnecicidkmhaa
namespace Go.Proofs.Ytabnecicidkmhaa
open Go.RowKit

abbrev u64c (N : Int → Nat) (x : Int) : Value := .int .u64 (N x : Nat)
theorem infoU64 : (Try.prog.info? 43).map (fun i => (i.zero, i.size, i.bytes)) = some (some (.int .u64 0), 1, 8) := by kernel_rfl
theorem make_rowU (n : Nat) (hn : n ≤ 1000) (w : World) : ∃ W, (Instr.makeSlice 70 (.int .i64 (n : Int)) (.int .i64 (n : Int))).run Try.prog w = .ok (.slice (some ⟨w.heap.size, 0, none⟩) n n) W ∧ W.ownsRow w.heap.size 43 1 (.slice (some ⟨w.heap.size, 0, none⟩) n n) n (List.replicate n (.int .u64 0)) ∧ Below w.heap.size w W := by
  obtain ⟨i0, hi, hz0, hz1, hz2⟩ := info_parts infoU64
  have := run_make (P := Try.prog) w 70 43 i0 (.int .u64 0) Try.underlying70 hi hz0 .i64 .i64 n n (by omega) (Int.le_refl _) (by rw [hz2]; omega) (by omega)
  rw [hz1, Nat.mul_one] at this
  refine ⟨w.alloc (.cells (madeCells #[.int .u64 0] n) 43), by simpa [Value.cells] using this, ⟨by simp, .inr ⟨w.heap.size, n, _, rfl, Nat.le_refl _, heap_alloc_last w _, Nat.le_refl _, by unfold maxLen; omega, by rw [size_madeCells, Nat.mul_one], ?_⟩⟩, (Below.refl _ w).alloc (Nat.le_refl _) _⟩
  rw [Nat.mul_one, List.take_of_length_le (by simp [madeCells])]
  apply List.ext_getElem?
  intro j
  rw [List.getElem?_replicate]
  by_cases h : j < n
  · simp [madeCells, h, Nat.mod_one]
  · simp [madeCells, h]
/-- A row of counts, by nodes. -/
def RowN (w : World) (B g ln : Nat) (ns : List Int) (N : Int → Nat) : Prop := w.ownsRow B 43 1 (.slice (some ⟨g, 0, none⟩) ln ln) ln (ns.map (u64c N))
theorem RowN.cell {w : World} {B g ln : Nat} {ns : List Int} {N : Int → Nat} (h : RowN w B g ln ns N) {k : Nat} {x : Int} (hx : ns[k]? = some x) : w.cell? ⟨g, k, none⟩ = some (.int .u64 (N x : Nat)) := by
  have := World.ownsRow.cells h (g := g) rfl k (.int .u64 (N x : Nat)) (by rw [List.getElem?_map, hx]; rfl)
  rwa [Addr.add_mid, Nat.zero_add] at this
theorem RowN.below {w w' : World} {B g ln : Nat} {ns : List Int} {N : Int → Nat} (h : RowN w B g ln ns N) (hb : Below w.heap.size w w') : RowN w' B g ln ns N := row_below h hb (Nat.le_refl _)
theorem mapU_upd {N : Int → Nat} {y : Int} {v : Nat} : ∀ {ns : List Int} {k : Nat}, ns.Nodup → ns[k]? = some y → ns.map (u64c fun z => if z = y then v else N z) = (ns.map (u64c N)).set k (.int .u64 (v : Nat))
  | [], _, _, h => by simp at h
  | x :: ns, 0, hn, h => by
    simp at h
    subst h
    rw [List.nodup_cons] at hn
    simp only [List.map_cons, List.set_cons_zero]
    congr 1
    · show Value.int .u64 ((if x = x then v else N x : Nat) : Int) = _
      rw [if_pos rfl]
    · refine List.map_congr_left fun z hz => ?_
      show Value.int .u64 ((if z = x then v else N z : Nat) : Int) = _
      rw [if_neg (fun e => hn.1 (by rw [← e]; exact hz))]
  | x :: ns, k + 1, hn, h => by
    rw [List.nodup_cons] at hn
    have hk : ns[k]? = some y := by simpa using h
    have hxy : x ≠ y := fun e => hn.1 (by rw [e]; exact List.mem_of_getElem? hk)
    simp only [List.map_cons, List.set_cons_succ]
    rw [mapU_upd hn.2 hk]
    congr 1
    show Value.int .u64 ((if x = y then v else N x : Nat) : Int) = _
    rw [if_neg hxy]
theorem RowN.set {w : World} {B g ln : Nat} {ns : List Int} {N : Int → Nat} (h : RowN w B g ln ns N) (hn : ns.Nodup) {k : Nat} {x : Int} (hx : ns[k]? = some x) (v : Nat) : RowN (w.setCell ⟨g, k, none⟩ (.int .u64 (v : Nat))) B g ln ns (fun z => if z = x then v else N z) := by
  unfold RowN
  rw [mapU_upd hn hx]
  exact row_set h k _
theorem RowN.congr {w : World} {B g ln : Nat} {ns : List Int} {N N' : Int → Nat} (h : RowN w B g ln ns N) (he : ∀ x ∈ ns, N x = N' x) : RowN w B g ln ns N' := by
  unfold RowN at h ⊢
  rw [show ns.map (u64c N') = ns.map (u64c N) from List.map_congr_left fun x hx => by show Value.int .u64 _ = Value.int .u64 _; rw [he x hx]]
  exact h
theorem RowN.frozen {w : World} {B g ln : Nat} {ns : List Int} {N : Int → Nat} (h : RowN w B g ln ns N) (j : Nat) : w.frozen? ⟨g, j, none⟩ = false := frozen_row h j
theorem slAt_set {w : World} {ca : Option Addr} {ln cc g j : Nat} {xs : List Int} (h : SlAt ic 1 w (.slice ca ln cc) xs) (hb : ∀ p : Addr, ca = some p → p.block < g) (v : Value) : SlAt ic 1 (w.setCell ⟨g, j, none⟩ v) (.slice ca ln cc) xs := by
  obtain ⟨a, cap, he, h0, h1, h2⟩ := h
  refine ⟨a, cap, he, h0, h1, fun hp => ?_⟩
  obtain ⟨bk, o, rfl, h3, h4⟩ := h2 hp
  simp only [Value.slice.injEq] at he
  have := hb _ he.1
  simp only at this
  refine ⟨bk, o, rfl, by simpa [World.setCell] using h3, fun i x hx s v' hv => ?_⟩
  rw [World.cell?_setCell_far _ _ _ _ (by simp only; omega)]
  exact h4 i x hx s v' hv
/-- What Count has amid its work. -/
structure CnM (w0 w : World) (g ln : Nat) (ns : List Int) (ca : Option Addr) (cc : Nat) (D : Int → Int) (N : Int → Nat) : Prop where
  b : Below w0.heap.size w0 w
  n : RowN w w0.heap.size g ln ns N
  c : SlAt ic 1 w (.slice ca ln cc) (ns.map D)
theorem CnM.keep {w0 w w' : World} {g ln : Nat} {ns : List Int} {ca : Option Addr} {cc : Nat} {D : Int → Int} {N : Int → Nat} (h : CnM w0 w g ln ns ca cc D N) (hb : Below w.heap.size w w') : CnM w0 w' g ln ns ca cc D N := ⟨h.b.trans (hb.mono h.b.size), h.n.below hb, h.c.keep hb (Nat.le_refl _)⟩
theorem CnM.congr {w0 w : World} {g ln : Nat} {ns : List Int} {ca : Option Addr} {cc : Nat} {D : Int → Int} {N N' : Int → Nat} (h : CnM w0 w g ln ns ca cc D N) (he : ∀ x ∈ ns, N x = N' x) : CnM w0 w g ln ns ca cc D N' := ⟨h.b, h.n.congr he, h.c⟩
/-- What Count's last statement reads, but for the count that it turns. -/
def S17 (q bk g : Nat) (gn ge : Value) (eo px : Nat) (ex : Int) (nx : Nat) (wx : World) : Prop := wx.cell? ⟨q, 0, none⟩ = some gn ∧ wx.cell? ⟨q, 1, none⟩ = some ge ∧ wx.cell? ⟨bk, eo, none⟩ = some (.int .i64 ex) ∧ wx.cell? ⟨g, px, none⟩ = some (.int .u64 (nx : Nat))
theorem S17.keep {q bk g : Nat} {gn ge : Value} {eo px : Nat} {ex : Int} {nx : Nat} {wx wy : World} (h : S17 q bk g gn ge eo px ex nx wx) (hb : Below wx.heap.size wx wy) : S17 q bk g gn ge eo px ex nx wy :=
  ⟨(hb.cell (p := ⟨q, 0, none⟩) (block_lt_of_cell h.1)).trans h.1, (hb.cell (p := ⟨q, 1, none⟩) (block_lt_of_cell h.2.1)).trans h.2.1, (hb.cell (p := ⟨bk, eo, none⟩) (block_lt_of_cell h.2.2.1)).trans h.2.2.1, (hb.cell (p := ⟨g, px, none⟩) (block_lt_of_cell h.2.2.2)).trans h.2.2.2⟩
theorem S17.set {q bk g : Nat} {gn ge : Value} {eo px : Nat} {ex : Int} {nx : Nat} {wx : World} {j : Nat} (h : S17 q bk g gn ge eo px ex nx wx) (h1 : q ≠ g) (h2 : bk ≠ g) (h3 : px ≠ j) (v : Value) : S17 q bk g gn ge eo px ex nx (wx.setCell ⟨g, j, none⟩ v) :=
  ⟨(World.cell?_setCell_far _ _ _ _ (fun e => h1 e.symm)).trans h.1, (World.cell?_setCell_far _ _ _ _ (fun e => h1 e.symm)).trans h.2.1, (World.cell?_setCell_far _ _ _ _ (fun e => h2 e.symm)).trans h.2.2.1, (World.cell?_setCell_other _ ⟨g, j, none⟩ ⟨g, px, none⟩ _ (by simp)).trans h.2.2.2⟩
/-- What stands while a node's edges are added up. -/
def edN (D : Int → Int) (N : Int → Nat) (x : Int) (L : List Ed) : Int → Nat := fun z => if z = x then addE D N x L else N z
theorem edN_no (D : Int → Int) (N : Int → Nat) (x : Int) (L : List Ed) {e : Ed} (h : ¬ (e.2.1 = x ∧ tgI D e = true)) : edN D N x (L ++ [e]) = edN D N x L := by
  unfold edN
  rw [addE_snoc, if_neg h]
theorem CnM.cost {w0 w : World} {g ln : Nat} {ns : List Int} {cb co cc : Nat} {D : Int → Int} {N : Int → Nat} (h : CnM w0 w g ln ns (some ⟨cb, co, none⟩) cc D N) {k : Nat} {x : Int} (hx : ns[k]? = some x) : w.cell? ⟨cb, co + k, none⟩ = some (.int .i64 (D x)) := by
  obtain ⟨a', c', he, _, _, hc⟩ := h.c.ints
  obtain ⟨bk, o, h1, _, h3⟩ := hc (by rw [List.length_map]; have := (List.getElem?_eq_some_iff.1 hx).1; omega)
  simp only [Value.slice.injEq] at he
  rw [← he.1] at h1
  simp only [Option.some.injEq, Addr.mk.injEq, and_true] at h1
  rw [h1.1, h1.2]
  exact h3 k (D x) (by rw [List.getElem?_map, hx]; rfl)
set_option maxRecDepth 100000 in
set_option maxHeartbeats 4000000 in
theorem dcount_any {ns : List Int} {es : List Ed} {vn ve : Value} {w : World} (h : GrAt w vn ve ns es) (a b : Int) :
    Calls Try.prog 17 #[grV vn ve, .int .i64 a, .int .i64 b] w fun e w' => ((ndAll ns es [a, b] = false ∧ e = .returned (.tuple #[.int .u64 0, .int .i64 2])) ∨ (ndAll ns es [a, b] = true ∧ ∃ c : Int, c ≤ 24000 ∧ (bfN es a ns.length b ≤ c ∨ c = 24000) ∧ e = .returned (.tuple #[.int .u64 (cntO es a (bfN es a ns.length) c b : Nat), .int .i64 0]))) ∧ Below w.heap.size w w' := by
  have HGr := hidIn h
  obtain ⟨na, nca, rfl, hnl, _, hna⟩ := h.n.ints
  obtain ⟨ea, eca, rfl, hel, _, hea⟩ := h.e.eds
  have Hna := hidIn hna
  have Hea := hidIn hea
  obtain ⟨W1, hW1⟩ : ∃ W1, w.alloc (.cells #[.slice na ns.length nca, .slice ea es.length eca] 25) = W1 := ⟨_, rfl⟩
  have bA : Below w.heap.size w W1 := by rw [← hW1]; exact (Below.refl _ w).alloc (Nat.le_refl _) _
  have hGB : W1.heap[w.heap.size]? = some (.cells #[.slice na ns.length nca, .slice ea es.length eca] 25) := by rw [← hW1]; exact heap_alloc_last w _
  obtain ⟨q, hqe⟩ : ∃ q, w.heap.size = q := ⟨_, rfl⟩
  rw [hqe] at hGB
  have hlt0 := block_lt hGB
  have HF : Hid (∀ wq, Below W1.heap.size W1 wq → (wq.cell? ⟨q, 0, none⟩ = some (.slice na ns.length nca) ∧ wq.cell? ⟨q, 1, none⟩ = some (.slice ea es.length eca)) ∧ Below w.heap.size w wq) := hidIn fun wq h => by
    have j0 := (h.block _ hlt0).trans hGB
    exact ⟨⟨cell_of_row _ _ 0 _ _ _ j0, cell_of_row _ _ 1 _ _ _ j0⟩, bA.trans (h.mono bA.size)⟩
  have HW := hidIn hW1
  have HCk := hidIn (gcheck_any (h.keep bA (Nat.le_refl _)))
  obtain ⟨ln, hln⟩ : ∃ ln, ns.length = ln := ⟨_, rfl⟩
  obtain ⟨le, hle⟩ : ∃ le, es.length = le := ⟨_, rfl⟩
  have hgr := HGr.out
  rw [hln, hle] at hgr
  have HG := hidIn hgr
  have HP : Hid (∀ z wq, Below w.heap.size w wq → Calls Try.prog 26 #[grV (.slice na ln nca) (.slice ea le eca), .int .i64 z] wq fun e w' => e = .returned (.int .i64 (plI ns z)) ∧ Below wq.heap.size wq w') := hidIn fun z wq hq => place_any (hgr.keep hq (Nat.le_refl _)) z
  have HCo : Hid (graphOk ns es = true → ∀ wq, Below w.heap.size w wq → Calls Try.prog 34 #[grV (.slice na ln nca) (.slice ea le eca), .int .i64 a] wq fun e w' => (∃ a' c, e = .returned (.slice a' ln c) ∧ w'.ownsRow wq.heap.size 3 1 (.slice a' ln c) ln (fl ic (ns.map (bfN es a ln)))) ∧ Below wq.heap.size wq w') := hidIn fun hok wq hq => by
    have := costs_any (hgr.keep hq (Nat.le_refl _)) hok a
    rwa [hln] at this
  rw [hln] at hnl HF HW HCk ⊢
  rw [hle] at hel HF HW HCk ⊢
  have Hln := hidIn hln
  have Hle := hidIn hle
  have HB1 := hidIn bA
  have Hq0 := hidIn hlt0
  clear hW1 bA hGB hna hea h hln hle hlt0 hgr HGr
  obtain ⟨⟨f0, f1⟩, _⟩ := HF.out W1 (Below.refl _ _)
  go_enter Try.func17, Try.ntmps17
  go_upto_region 1 with fail
  rw [HW.out]
  clear HW hqe
  go_wp2_with fail
  refine HCk.out.mono ?_
  rintro e w2 ⟨rfl, hb2⟩
  have HB2 := hidIn hb2
  obtain ⟨⟨k0, k1⟩, hB2⟩ := HF.out w2 hb2
  have HB2w := hidIn hB2
  clear hb2 HCk f0 f1 hB2
  cases hok : graphOk ns es with
  | false =>
    have HE : Hid (ndAll ns es [a, b] = false) := hidIn (by unfold ndAll; rw [hok]; rfl)
    rw [ckC_no hok]
    clear hok
    go_wp2_with fail
    go_ret2
    exact ⟨.inl ⟨HE.out, rfl⟩, HB2w.out⟩
  | true =>
    rw [ckC_yes hok]
    have Hok := hidIn hok
    clear hok
    go_wp2_with fail
    refine (HP.out a w2 HB2w.out).mono ?_
    rintro e w3 ⟨rfl, hb3⟩
    have HB3 := hidIn (HB2.out.trans (hb3.mono HB2.out.size))
    obtain ⟨⟨f0, f1⟩, hB3⟩ := HF.out w3 HB3.out
    have HB3w := hidIn hB3
    clear hb3 hB3 k0 k1
    rcases Classical.em (a ∈ ns) with han | han
    rotate_left
    · have hng : plI ns a < 0 := plI_neg.2 han
      have HE : Hid (ndAll ns es [a, b] = false) := hidIn (by
        unfold ndAll
        rw [Hok.out, Bool.true_and, List.all_eq_false]
        exact ⟨a, by simp, fun e => han (hasN_iff.1 e)⟩)
      generalize plI ns a = pz at hng ⊢
      clear han
      go_wp2_with fail
      go_ret2
      exact ⟨.inl ⟨HE.out, rfl⟩, HB3w.out⟩
    obtain ⟨pa, hpa⟩ : ∃ pa, ns[pa]? = some a := List.getElem?_of_mem han
    have hia := plI_some (plN_nodup (graphOk_nn Hok.out) hpa)
    have Hia := hidIn hia
    rw [hia]
    have hpn : ¬ (pa : Int) < 0 := by omega
    have Han := hidIn han
    have Hpa := hidIn hpa
    clear hia han hpa
    go_wp2_with fail
    refine (HP.out b w3 HB3w.out).mono ?_
    rintro e w4 ⟨rfl, hb4⟩
    have HB4 := hidIn (HB3.out.trans (hb4.mono HB3.out.size))
    obtain ⟨⟨k0, k1⟩, hB4⟩ := HF.out w4 HB4.out
    have HB4w := hidIn hB4
    clear hb4 hB4 f0 f1
    rcases Classical.em (b ∈ ns) with hbn | hbn
    rotate_left
    · have hng : plI ns b < 0 := plI_neg.2 hbn
      have HE : Hid (ndAll ns es [a, b] = false) := hidIn (by
        unfold ndAll
        rw [Hok.out, Bool.true_and, List.all_eq_false]
        exact ⟨b, by simp, fun e => hbn (hasN_iff.1 e)⟩)
      generalize plI ns b = pz at hng ⊢
      clear hbn
      go_wp2_with fail
      go_ret2
      exact ⟨.inl ⟨HE.out, rfl⟩, HB4w.out⟩
    obtain ⟨pb, hpb⟩ : ∃ pb, ns[pb]? = some b := List.getElem?_of_mem hbn
    have hib := plI_some (plN_nodup (graphOk_nn Hok.out) hpb)
    have Hib := hidIn hib
    rw [hib]
    have hpn2 : ¬ (pb : Int) < 0 := by omega
    have HY : Hid (ndAll ns es [a, b] = true) := hidIn (by
      unfold ndAll
      rw [Hok.out, Bool.true_and, List.all_eq_true]
      intro x hx
      simp only [List.mem_cons, List.not_mem_nil, or_false] at hx
      rcases hx with rfl | rfl
      · exact hasN_iff.2 Han.out
      · exact hasN_iff.2 hbn)
    have Hpb := hidIn hpb
    have hpal : pa < ln := by have := (List.getElem?_eq_some_iff.1 Hpa.out).1; have := Hln.out; omega
    have hpbl : pb < ln := by have := (List.getElem?_eq_some_iff.1 hpb).1; have := Hln.out; omega
    have hl24 : ln ≤ 24 := by have := graphOk_n24 Hok.out; have := Hln.out; omega
    have hpai : (pa : Int) < (ln : Int) := by omega
    have hpbi : (pb : Int) < (ln : Int) := by omega
    clear hib hbn hpb
    go_wp2_with fail
    refine (HCo.out Hok.out w4 HB4w.out).mono ?_
    rintro e w5 ⟨⟨ca, cc, rfl, hr5⟩, hb5⟩
    have HB5 := hidIn (HB4.out.trans (hb5.mono HB4.out.size))
    have HC5 := hidIn (slAt_of_row (cs := ic) (fun _ => rfl) hr5 (by rw [List.length_map]; exact Hln.out))
    have HCb : Hid (∀ p : Addr, ca = some p → p.block < w5.heap.size) := hidIn (fun p hp => by
      obtain ⟨a', c', he, _, _, hc⟩ := HC5.out.ints
      obtain ⟨bk, o, h1, h2, _⟩ := hc (by rw [List.length_map]; have := Hln.out; omega)
      simp only [Value.slice.injEq] at he
      rw [← he.1, hp] at h1
      simp only [Option.some.injEq] at h1
      rw [h1]
      exact h2)
    obtain ⟨⟨f0, f1⟩, _⟩ := HF.out w5 HB5.out
    obtain ⟨W6, hmk, hr6, hb6⟩ := make_rowU ln (by omega) w5
    obtain ⟨D, hD⟩ : ∃ D, bfN es a ln = D := ⟨_, rfl⟩
    have HD := hidIn hD
    rw [hD] at HC5
    obtain ⟨g, hge⟩ : ∃ g, w5.heap.size = g := ⟨_, rfl⟩
    have Hge := hidIn hge
    rw [hge] at hmk hr6
    have hN0 : RowN W6 W1.heap.size g ln ns (fun _ => 0) := by
      have h1 := row_low hr6 (show W1.heap.size ≤ g by rw [← hge]; exact HB5.out.size)
      unfold RowN
      rw [show ns.map (u64c fun _ => 0) = List.replicate ln (.int .u64 0) from by
        apply List.ext_getElem?
        intro j
        rw [List.getElem?_map, List.getElem?_replicate]
        by_cases hj : j < ln
        · rw [List.getElem?_eq_getElem (by have := Hln.out; omega), if_pos hj]; rfl
        · rw [List.getElem?_eq_none (by have := Hln.out; omega), if_neg hj]; rfl]
      exact h1
    have HN0 := hidIn hN0
    have HB6 := hidIn (HB5.out.trans (hb6.mono HB5.out.size))
    have HC6 := hidIn (HC5.out.keep hb6 (Nat.le_refl _))
    have HMk := hidIn hmk
    obtain ⟨⟨j0, j1⟩, hB6w⟩ := HF.out W6 HB6.out
    have HB6w := hidIn hB6w
    clear hr5 hb5 hmk hr6 hb6 hD hN0 hB6w k0 k1 HCo hge
    have hmk2 := HMk.out
    go_upto_region 5 with fail
    clear hmk2 f0 f1
    have HM0 : Hid (∀ wq, Below W6.heap.size W6 wq → CnM W1 (wq.setCell ⟨g, pa, none⟩ (.int .u64 1)) g ln ns ca cc D (cntO es a D 0)) := hidIn fun wq hq => by
      have hgl : W1.heap.size ≤ g := by rw [← Hge.out]; exact HB5.out.size
      refine ⟨(HB6.out.trans (hq.mono HB6.out.size)).setCell (p := ⟨g, pa, none⟩) hgl _, ?_, ?_⟩
      · refine ((HN0.out.below hq).set (graphOk_nn Hok.out) Hpa.out 1).congr fun x hx => ?_
        have := cnt_start Hok.out Han.out x
        rw [Hln.out, HD.out] at this
        exact this.symm
      · refine slAt_set (HC6.out.keep hq (Nat.le_refl _)) (fun p hp => by rw [← Hge.out]; exact HCb.out p hp) _
    go_wp2_with fail
    refine (HP.out a W6 HB6w.out).mono ?_
    rintro e w7 ⟨rfl, hb7⟩
    rw [Hia.out]
    have k7 := (HN0.out.below hb7).cell Hpa.out
    have fz := (HN0.out.below hb7).frozen pa
    have HM7 := HM0.out w7 hb7
    obtain ⟨W8, hW8⟩ : ∃ W8, w7.setCell ⟨g, pa, none⟩ (.int .u64 1) = W8 := ⟨_, rfl⟩
    rw [hW8] at HM7
    have HW8 := hidIn hW8
    have HM8 := hidIn HM7
    obtain ⟨cb, co, hca⟩ : ∃ cb co, ca = some ⟨cb, co, none⟩ := by
      obtain ⟨a', c', he, _, _, hc⟩ := HC5.out.ints
      obtain ⟨bk, o, h1, h2, _⟩ := hc (by rw [List.length_map]; have := Hln.out; omega)
      simp only [Value.slice.injEq] at he
      exact ⟨bk, o, he.1.trans h1⟩
    have Hcg : Hid (cb < g) := hidIn (by rw [← Hge.out]; exact HCb.out _ hca)
    subst hca
    clear hb7 HM0 HN0 HB6 HC6 HMk HB6w hW8 HM7 HCb HC5 HB5 Hge j0 j1
    go_upto_region 6 with fail
    rw [HW8.out]
    clear HW8 k7 fz
    go_wp2_with fail
    go_loopw [10] (fun i wr => ∃ c : Nat, 1 ≤ c ∧ c ≤ 24001 ∧ i = .int .i64 c ∧ Hid (CnM W1 wr g ln ns (some ⟨cb, co, none⟩) cc D (cntO es a D ((c : Int) - 1)))) (fun i _ => 24002 - (intOf i).toNat)
    case atStart => exact ⟨1, by omega, by omega, rfl, HM8⟩
    case round =>
      clear HM8
      obtain ⟨c, hc1, hc2, rfl, HM⟩ := hrel
      obtain ⟨⟨f0, f1⟩, hBw⟩ := HF.out wr HM.out.b
      have HBw := hidIn hBw
      clear hBw
      go_wp2_with fail
      refine (HP.out b wr HBw.out).mono ?_
      rintro e w9 ⟨rfl, hb9⟩
      rw [Hib.out]
      have HM9 := hidIn (HM.out.keep hb9)
      have r9 := HM9.out.cost Hpb.out
      obtain ⟨db, hdb⟩ : ∃ db, D b = db := ⟨_, rfl⟩
      rw [hdb] at r9
      have Hdb := hidIn hdb
      clear hb9 HBw HM hdb f0 f1
      rcases Classical.em ((c : Int) ≤ db ∧ (c : Int) ≤ 24000) with hgo | hgo
      rotate_left
      · have HEx : Hid (∃ c' : Int, c' ≤ 24000 ∧ (bfN es a ln b ≤ c' ∨ c' = 24000) ∧ (cntO es a D ((c : Int) - 1) b) = cntO es a (bfN es a ln) c' b) := hidIn ⟨(c : Int) - 1, by omega, by rw [HD.out, Hdb.out]; omega, by rw [HD.out]⟩
        obtain ⟨⟨f0, f1⟩, hBw⟩ := HF.out w9 HM9.out.b
        have HBw := hidIn hBw
        clear hBw
        have hcs : ¬ (c : Int) ≤ db ∨ ((c : Int) ≤ db ∧ ¬ (c : Int) ≤ 24000) := by omega
        clear hgo
        rcases hcs with h1 | ⟨h1, h2⟩
        all_goals
          go_wp2_with fail
          refine (HP.out b w9 HBw.out).mono ?_
          rintro e w10 ⟨rfl, hb10⟩
          rw [Hib.out]
          have HM10 := hidIn (HM9.out.keep hb10)
          have k10 := HM10.out.n.cell Hpb.out
          have HBe := hidIn (HF.out w10 HM10.out.b).2
          clear hb10 HBw
          generalize cntO es a D ((c : Int) - 1) b = res at HEx k10
          go_wp2_with fail
          go_ret2
          obtain ⟨c', g1, g2, g3⟩ := HEx.out
          exact ⟨.inr ⟨HY.out, c', g1, g2, by rw [← g3]; rfl⟩, HBe.out⟩
      obtain ⟨h1, h2⟩ := hgo
      obtain ⟨⟨f0, f1⟩, _⟩ := HF.out w9 HM9.out.b
      go_wp2_with fail
      clear f0 f1 r9
      go_loopw [11] (fun i wr => ∃ j : Nat, j ≤ ln ∧ i = .int .i64 j ∧ Hid (CnM W1 wr g ln ns (some ⟨cb, co, none⟩) cc D (cntN es a D c (ns.take j)))) (fun i _ => ln - (intOf i).toNat)
      case atStart => exact ⟨0, Nat.zero_le _, rfl, hidIn (HM9.out.congr fun x _ => (cntN_nil es a D c x).symm)⟩
      case round =>
        clear HM9
        obtain ⟨j, hj, rfl, HM⟩ := hrel
        obtain ⟨⟨f0, f1⟩, hBw⟩ := HF.out wr HM.out.b
        by_cases hltj : j < ln
        · have hji : (j : Int) < (ln : Int) := by omega
          obtain ⟨x, hx⟩ : ∃ x, ns[j]? = some x := ⟨ns[j]'(by have := Hln.out; omega), List.getElem?_eq_getElem _⟩
          have rj := HM.out.cost hx
          by_cases hDx : D x = (c : Int)
          · have hq : (D x != (c : Int)) = false := by simpa using hDx
            obtain ⟨Nc, hNc⟩ : ∃ Nc, cntN es a D c (ns.take j) = Nc := ⟨_, rfl⟩
            have hNx : Nc x = 0 := by
              rw [← hNc]
              unfold cntN
              rw [if_neg]
              rintro (h3 | ⟨_, h3⟩)
              · omega
              · obtain ⟨i, hi⟩ := List.getElem?_of_mem h3
                rw [List.getElem?_take] at hi
                by_cases hij : i < j
                · rw [if_pos hij] at hi
                  obtain ⟨g1, g2⟩ := List.getElem?_eq_some_iff.1 hi
                  obtain ⟨g3, g4⟩ := List.getElem?_eq_some_iff.1 hx
                  exact (List.pairwise_iff_getElem.1 (List.nodup_iff_pairwise_ne.1 (graphOk_nn Hok.out))) i j g1 g3 hij (by rw [g2, g4])
                · rw [if_neg hij] at hi; cases hi
            have HM0 : Hid (CnM W1 wr g ln ns (some ⟨cb, co, none⟩) cc D (edN D Nc x (es.take 0))) := hidIn (by
              refine HM.out.congr fun z _ => ?_
              rw [hNc]
              unfold edN
              by_cases hz : z = x
              · rw [if_pos hz, hz, hNx]; rfl
              · rw [if_neg hz])
            have HEnd : Hid (∀ z, edN D Nc x es z = cntN es a D c (ns.take (j + 1)) z) := hidIn fun z => by
              rw [take_snoc hx, cntN_more hDx, hNc]
              unfold edN
              have h3 := cnt_node (c := (c : Int)) (done := ns.take j) Hok.out Han.out (x := x) (by omega) h2 (by rw [Hln.out, HD.out]; exact hDx)
              rw [Hln.out, HD.out, hNc] at h3
              rw [h3]
            have HDb : Hid (∀ z, 0 ≤ D z ∧ D z ≤ 1073741824) := hidIn fun z => by
              have h3 := bf_all Hok.out Han.out z
              rw [Hln.out, HD.out] at h3
              rcases h3 with ⟨d, _, h4, h5, h6⟩ | ⟨_, h4⟩
              · rw [h4]; omega
              · rw [h4]; unfold farC; omega
            have Hx := hidIn hx
            obtain ⟨nb, no', hna2, hnb, hncell⟩ := Hna.out (by have := Hln.out; omega)
            subst hna2
            have HX := hidIn (And.intro hnb (hncell j x hx))
            rw [hDx] at rj hq
            have HDx := hidIn hDx
            clear hNc hNx hx hBw HM hncell hnb hDx
            go_wp2_with fail
            clear f0 f1 rj hq
            go_loopw [12] (fun i wz => ∃ m : Nat, m ≤ le ∧ i = .int .i64 m ∧ Hid (CnM W1 wz g ln ns (some ⟨cb, co, none⟩) cc D (edN D Nc x (es.take m)))) (fun i _ => le - (intOf i).toNat)
            case atStart => exact ⟨0, Nat.zero_le _, rfl, HM0⟩
            case round =>
              clear HM0
              obtain ⟨m, hm, rfl, HM⟩ := hrel
              obtain ⟨⟨f0, f1⟩, hBw⟩ := HF.out wr HM.out.b
              by_cases hltm : m < le
              · have hmi : (m : Int) < (le : Int) := by omega
                obtain ⟨bk, o, rfl, hbk, hcell⟩ := Hea.out (by have := Hle.out; omega)
                obtain ⟨⟨ex, ey, ec⟩, hz⟩ : ∃ z, es[m]? = some z := ⟨es[m]'(by have := Hle.out; omega), List.getElem?_eq_getElem _⟩
                obtain ⟨q0, q1, q2⟩ := hcell m _ hz
                have hmem := List.mem_of_getElem? hz
                simp only at q0 q1 q2
                have c0 := (hBw.cell (p := ⟨bk, o + m * 3, none⟩) hbk).trans q0
                have c1 := (hBw.cell (p := ⟨bk, o + m * 3 + 1, none⟩) hbk).trans q1
                have c2 := (hBw.cell (p := ⟨bk, o + m * 3 + 2, none⟩) hbk).trans q2
                have cx := (hBw.cell (p := ⟨nb, no' + j, none⟩) HX.out.1).trans HX.out.2
                obtain ⟨bt, hbt⟩ : ∃ bt, tgI D (ex, ey, ec) = bt := ⟨_, rfl⟩
                have HTg : Hid (∀ dd os, Calls Try.prog 35 #[grV (.slice (some ⟨nb, no', none⟩) ln nca) (.slice (some ⟨bk, o, none⟩) le eca), .slice (some ⟨cb, co, none⟩) ln cc, edV (ex, ey, ec)] (Go.Sort.grow (redrawn wr dd) os) fun e w' => e = .returned (.bool bt) ∧ Below (Go.Sort.grow (redrawn wr dd) os).heap.size (Go.Sort.grow (redrawn wr dd) os) w') := hidIn fun dd os => by
                  have hb := below_regrown wr dd os
                  have := tight_any (HG.out.keep (hBw.trans (hb.mono hBw.size)) (Nat.le_refl _)) Hok.out (HM.out.c.keep hb (Nat.le_refl _)) HDb.out hmem
                  rwa [hbt] at this
                have Hbt := hidIn hbt
                have Hes : Hid (es.take (m + 1) = es.take m ++ [(ex, ey, ec)]) := hidIn (take_snoc hz)
                have Hmem := hidIn hmem
                have g0 := cell_regrown f0
                have g1 := cell_regrown f1
                have g2 := cell_regrown c0
                have g3 := cell_regrown c1
                have g4 := cell_regrown c2
                have g5 := cell_regrown cx
                have HC := hidIn (And.intro f0 (And.intro f1 c0))
                have Hbk := hidIn hbk
                clear hcell hz q0 q1 q2 hmem hbt hBw hbk
                by_cases hey : ey = x
                · have hq : (ey == x) = true := by simpa using hey
                  have Hey := hidIn hey
                  clear hey
                  go_upto_region 16 with fail
                  clear f0 f1 c0 c1 c2 cx
                  refine wp_region_quiet_below (by kernel_rfl) (by kernel_rfl) ?_
                  repeat (go_big_quiet_step (first | (go_at_call 35; exact Calls.regrown_of (HTg.out _ _))))
                  refine wpQuiet_nil ?_
                  intro _ hw'
                  obtain ⟨⟨dq, osq⟩, hw''⟩ := hw'
                  subst hw''
                  have hb := below_regrown wr dq osq
                  have HMv := hidIn (HM.out.keep hb)
                  have HBv := hidIn hb
                  generalize Go.Sort.grow (redrawn wr dq) osq = wv at HMv HBv ⊢
                  clear hb g0 g1 g2 g3 g4 g5 HTg
                  cases bt
                  · have HMn : Hid (CnM W1 wv g ln ns (some ⟨cb, co, none⟩) cc D (edN D Nc x (es.take (m + 1)))) := hidIn (by rw [Hes.out, edN_no _ _ _ _ (fun e => by rw [Hbt.out] at e; exact absurd e.2 (by decide))]; exact HMv.out)
                    go_wp2_with fail
                    go_roundw
                    case rel => exact ⟨m + 1, by omega, by go_num, HMn⟩
                    case measure => simp [intOf]; omega
                  · obtain ⟨px, hpx⟩ : ∃ px, ns[px]? = some ex := List.getElem?_of_mem ((graphOk_bd Hok.out).2.1 _ Hmem.out).1
                    have hne : ex ≠ x := fun e => graphOk_ne Hok.out _ Hmem.out (by simp only; rw [e, Hey.out])
                    have hjp : px ≠ j := fun e => by
                      rw [e, Hx.out] at hpx
                      exact hne (Option.some.inj hpx).symm
                    have hix := plI_some (plN_nodup (graphOk_nn Hok.out) hpx)
                    have ki := HMv.out.n.cell Hx.out
                    have kp := HMv.out.n.cell hpx
                    have hgb : W1.heap.size ≤ g := by
                      rcases HMv.out.n.2 with ⟨h4, _⟩ | ⟨g', _, _, h4, h5, _⟩
                      · cases h4
                      · simp at h4; omega
                    obtain ⟨sx, hsx⟩ : ∃ sx, edN D Nc x (es.take m) x = sx := ⟨_, rfl⟩
                    obtain ⟨nx, hnx⟩ : ∃ nx, edN D Nc x (es.take m) ex = nx := ⟨_, rfl⟩
                    rw [hsx] at ki
                    rw [hnx] at kp
                    have hyes : edN D Nc x (es.take (m + 1)) = fun z => if z = x then (sx + nx) % m64 else edN D Nc x (es.take m) z := by
                      rw [Hes.out]
                      funext z
                      have h5 : addE D Nc x (es.take m) = sx := by rw [← hsx]; unfold edN; rw [if_pos rfl]
                      have h6 : Nc ex = nx := by rw [← hnx]; unfold edN; rw [if_neg hne]
                      unfold edN
                      by_cases hz : z = x
                      · rw [if_pos hz, if_pos hz, addE_snoc, if_pos ⟨Hey.out, Hbt.out⟩, h5]
                        simp only
                        rw [h6]
                      · rw [if_neg hz, if_neg hz, if_neg hz]
                    have HFin : Hid (∀ wz, Below W1.heap.size W1 wz → RowN wz W1.heap.size g ln ns (edN D Nc x (es.take m)) → SlAt ic 1 wz (.slice (some ⟨cb, co, none⟩) ln cc) (ns.map D) → CnM W1 (wz.setCell ⟨g, j, none⟩ (.int .u64 (IntKind.u64.wrap ((sx : Int) + (nx : Int))))) g ln ns (some ⟨cb, co, none⟩) cc D (edN D Nc x (es.take (m + 1)))) := hidIn fun wz h4 h5 h6 => by
                      rw [show IntKind.u64.wrap ((sx : Int) + (nx : Int)) = (((sx + nx) % m64 : Nat) : Int) by rw [IntKind.wrap_u64]; unfold m64; omega]
                      exact ⟨h4.setCell (p := ⟨g, j, none⟩) hgb _, by rw [hyes]; exact h5.set (graphOk_nn Hok.out) Hx.out _, slAt_set h6 (fun p hp => by
                      simp only [Option.some.injEq] at hp
                      rw [← hp]
                      exact Hcg.out) _⟩
                    obtain ⟨f0, f1, c0⟩ := HC.out
                    have l0 := (HBv.out.cell (p := ⟨q, 0, none⟩) (block_lt_of_cell f0)).trans f0
                    have l1 := (HBv.out.cell (p := ⟨q, 1, none⟩) (block_lt_of_cell f1)).trans f1
                    have l2 := (HBv.out.cell (p := ⟨bk, o + m * 3, none⟩) (block_lt_of_cell c0)).trans c0
                    have hpx2 : px < ln := by have := (List.getElem?_eq_some_iff.1 hpx).1; have := Hln.out; omega
                    have hpxi : (px : Int) < (ln : Int) := by omega
                    have HS0 : Hid (S17 q bk g (.slice (some ⟨nb, no', none⟩) ln nca) (.slice (some ⟨bk, o, none⟩) le eca) (o + m * 3) px ex nx wv.drew) := hidIn ⟨l0, l1, l2, kp⟩
                    have HPl : Hid (∀ wq, Below w.heap.size w wq → Calls Try.prog 26 #[grV (.slice (some ⟨nb, no', none⟩) ln nca) (.slice (some ⟨bk, o, none⟩) le eca), .int .i64 ex] wq fun e w' => e = .returned (.int .i64 (px : Int)) ∧ Below wq.heap.size wq w') := hidIn fun wq hq => by
                      have := HP.out ex wq hq
                      rwa [hix] at this
                    have hqg : q ≠ g := by have := Hq0.out; omega
                    have hbg : bk ≠ g := by have := HB1.out.size; have := Hbk.out; omega
                    have HBd : Hid (Below w.heap.size w wv.drew) := hidIn (HF.out wv HMv.out.b).2.drew
                    have HMd : Hid (CnM W1 wv.drew g ln ns (some ⟨cb, co, none⟩) cc D (edN D Nc x (es.take m))) := hidIn (HMv.out.keep (Below.refl _ wv).drew)
                    have kd : wv.drew.cell? ⟨g, j, none⟩ = some (.int .u64 (sx : Nat)) := ki
                    clear hpx hne hix kp hsx hnx hyes f0 f1 c0 l0 l1 l2 hpx2 HC ki hgb
                    go_upto_region 17 with fail
                    refine wp_region_held_drew (S := S17 q bk g (.slice (some ⟨nb, no', none⟩) ln nca) (.slice (some ⟨bk, o, none⟩) le eca) (o + m * 3) px ex nx) (by kernel_rfl) HS0.out (fun hHeld => ?_)
                    refine wpAnyH_take (i := 0) (v := .slice (some ⟨g, 0, none⟩) ln ln) rfl (by kernel_rfl) (by kernel_rfl) (by kernel_rfl) (fun _ _ _ h => h) (Or.inl ⟨by kernel_rfl, fun _ _ => by kernel_rfl⟩) (by assumption) ?_
                    refine wpAnyH_take (i := 1) (v := .int .i64 (j : Int)) rfl (by kernel_rfl) (by kernel_rfl) (by kernel_rfl) (fun _ _ _ h => h) (Or.inl ⟨by kernel_rfl, fun _ _ => by kernel_rfl⟩) (by assumption) ?_
                    refine wpAnyH_take (i := 2) (v := .slice (some ⟨g, 0, none⟩) ln ln) rfl (by kernel_rfl) (by kernel_rfl) (by kernel_rfl) (fun _ _ _ h => h) (Or.inl ⟨by kernel_rfl, fun _ _ => by kernel_rfl⟩) (by assumption) ?_
                    refine wpAnyH_take (i := 3) (v := .int .i64 (j : Int)) rfl (by kernel_rfl) (by kernel_rfl) (by kernel_rfl) (fun _ _ _ h => h) (Or.inl ⟨by kernel_rfl, fun _ _ => by kernel_rfl⟩) (by assumption) ?_
                    refine wpAnyH_take (i := 4) (v := .pointer (some ⟨g, j, none⟩)) rfl (by kernel_rfl) (by kernel_rfl) (by kernel_rfl) (fun _ _ _ h => h) (Or.inl ⟨by kernel_rfl, fun wq hSw => by
                                            obtain ⟨s0, s1, s2, s3⟩ := hSw
                                            go_simp⟩) (by assumption) ?_
                    refine wpAnyH_take (i := 6) (v := .slice (some ⟨g, 0, none⟩) ln ln) rfl (by kernel_rfl) (by kernel_rfl) (by kernel_rfl) (fun _ _ _ h => h) (Or.inl ⟨by kernel_rfl, fun _ _ => by kernel_rfl⟩) (by assumption) ?_
                    refine wpAnyH_take (i := 7) (v := .agg #[.slice (some ⟨nb, no', none⟩) ln nca, .slice (some ⟨bk, o, none⟩) le eca]) rfl (by kernel_rfl) (by kernel_rfl) (by kernel_rfl) (fun _ _ _ h => h) (Or.inl ⟨by kernel_rfl, fun wq hSw => by
                                            obtain ⟨s0, s1, s2, s3⟩ := hSw
                                            go_simp⟩) (by assumption) ?_
                    refine wpAnyH_take (i := 8) (v := .pointer (some ⟨q, 1, none⟩)) rfl (by kernel_rfl) (by kernel_rfl) (by kernel_rfl) (fun _ _ _ h => h) (Or.inl ⟨by kernel_rfl, fun _ _ => by kernel_rfl⟩) (by assumption) ?_
                    refine wpAnyH_take (i := 9) (v := .slice (some ⟨bk, o, none⟩) le eca) rfl (by kernel_rfl) (by kernel_rfl) (by kernel_rfl) (fun _ _ _ h => h) (Or.inl ⟨by kernel_rfl, fun wq hSw => by
                                            obtain ⟨s0, s1, s2, s3⟩ := hSw
                                            go_simp⟩) (by assumption) ?_
                    refine wpAnyH_take (i := 10) (v := .int .i64 (m : Int)) rfl (by kernel_rfl) (by kernel_rfl) (by kernel_rfl) (fun _ _ _ h => h) (Or.inl ⟨by kernel_rfl, fun _ _ => by kernel_rfl⟩) (by assumption) ?_
                    refine wpAnyH_take (i := 11) (v := .pointer (some ⟨bk, o + m * 3, none⟩)) rfl (by kernel_rfl) (by kernel_rfl) (by kernel_rfl) (fun _ _ _ h => h) (Or.inl ⟨by kernel_rfl, fun wq hSw => by
                                            obtain ⟨s0, s1, s2, s3⟩ := hSw
                                            go_simp⟩) (by assumption) ?_
                    refine wpAnyH_take (i := 12) (v := .pointer (some ⟨bk, o + m * 3, none⟩)) rfl (by kernel_rfl) (by kernel_rfl) (by kernel_rfl) (fun _ _ _ h => h) (Or.inl ⟨by kernel_rfl, fun _ _ => by kernel_rfl⟩) (by assumption) ?_
                    refine wpAnyH_take (i := 13) (v := .int .i64 ex) rfl (by kernel_rfl) (by kernel_rfl) (by kernel_rfl) (fun _ _ _ h => h) (Or.inl ⟨by kernel_rfl, fun wq hSw => by
                                            obtain ⟨s0, s1, s2, s3⟩ := hSw
                                            go_simp⟩) (by assumption) ?_
                    refine wpAnyH_ready (rs := [5, 14]) (by kernel_rfl) (by simp) ?_
                    refine AllReadyH.cons (i := 5) rfl ?_ (AllReadyH.cons (i := 14) rfl ?_ AllReadyH.nil)
                    · go_simp
                      intro K hK
                      refine hK.out _ _ hHeld (fun _ => ?_)
                      clear hK K
                      refine wpAnyH_ready (rs := [14]) (by kernel_rfl) (by simp) ?_
                      refine AllReadyH.cons (i := 14) rfl ?_ AllReadyH.nil
                      go_simp
                      intro K hK
                      refine (HPl.out _ HBd.out).mono ?_
                      rintro e wC ⟨rfl, hbC⟩
                      have hSC : S17 q bk g (.slice (some ⟨nb, no', none⟩) ln nca) (.slice (some ⟨bk, o, none⟩) le eca) (o + m * 3) px ex nx wC := hHeld.keep hbC
                      have HRC := hidIn hbC
                      have kC := (hbC.cell (p := ⟨g, j, none⟩) (block_lt_of_cell kd)).trans kd
                      refine hK.out _ _ hSC (fun _ => ?_)
                      clear hK K hbC hHeld
                      refine wpAnyH_take (i := 15) (v := .pointer (some ⟨g, px, none⟩)) rfl (by kernel_rfl) (by kernel_rfl) (by kernel_rfl) (fun _ _ _ h => h) (Or.inl ⟨by kernel_rfl, fun wq hSw => by
                                              obtain ⟨s0, s1, s2, s3⟩ := hSw
                                              go_simp⟩) (by assumption) ?_
                      refine wpAnyH_take (i := 16) (v := .int .u64 (nx : Nat)) rfl (by kernel_rfl) (by kernel_rfl) (by kernel_rfl) (fun _ _ _ h => h) (Or.inl ⟨by kernel_rfl, fun wq hSw => by
                                              obtain ⟨s0, s1, s2, s3⟩ := hSw
                                              go_simp⟩) (by assumption) ?_
                      refine wpAnyH_take (i := 17) (v := .int .u64 (IntKind.u64.wrap ((sx : Int) + (nx : Int)))) rfl (by kernel_rfl) (by kernel_rfl) (by kernel_rfl) (fun _ _ _ h => h) (Or.inl ⟨by kernel_rfl, fun _ _ => by kernel_rfl⟩) (by assumption) ?_
                      refine wpAnyH_take (i := 18) (v := .pointer (some ⟨g, j, none⟩)) rfl (by kernel_rfl) (by kernel_rfl) (by kernel_rfl) (fun _ _ _ h => h) (Or.inl ⟨by kernel_rfl, fun wq hSw => by
                                              obtain ⟨s0, s1, s2, s3⟩ := hSw
                                              go_simp⟩) (by assumption) ?_
                      refine wpAnyH_ready (rs := [19]) (by kernel_rfl) (by simp) ?_
                      refine AllReadyH.cons (i := 19) rfl ?_ AllReadyH.nil
                      have hMC := HMd.out.keep HRC.out
                      have fC := hMC.n.frozen j
                      have HFC := hidIn (HFin.out wC hMC.b hMC.n hMC.c)
                      have hSS := hSC.set hqg hbg hjp (.int .u64 (IntKind.u64.wrap ((sx : Int) + (nx : Int))))
                      clear hMC hSC
                      go_simp
                      intro K hK
                      refine hK.out _ _ hSS (fun _ => ?_)
                      clear hK K
                      refine wpAnyH_done (by kernel_rfl) ?_ _
                      go_wp2_with fail
                      go_roundw
                      case rel => exact ⟨m + 1, by omega, by go_num, HFC⟩
                      case measure => simp [intOf]; omega
                    · go_simp
                      intro K hK
                      refine (HPl.out _ HBd.out).mono ?_
                      rintro e wC ⟨rfl, hbC⟩
                      have hSC : S17 q bk g (.slice (some ⟨nb, no', none⟩) ln nca) (.slice (some ⟨bk, o, none⟩) le eca) (o + m * 3) px ex nx wC := hHeld.keep hbC
                      have HRC := hidIn hbC
                      have kC := (hbC.cell (p := ⟨g, j, none⟩) (block_lt_of_cell kd)).trans kd
                      refine hK.out _ _ hSC (fun _ => ?_)
                      clear hK K hbC hHeld
                      refine wpAnyH_take (i := 15) (v := .pointer (some ⟨g, px, none⟩)) rfl (by kernel_rfl) (by kernel_rfl) (by kernel_rfl) (fun _ _ _ h => h) (Or.inl ⟨by kernel_rfl, fun wq hSw => by
                                              obtain ⟨s0, s1, s2, s3⟩ := hSw
                                              go_simp⟩) (by assumption) ?_
                      refine wpAnyH_take (i := 16) (v := .int .u64 (nx : Nat)) rfl (by kernel_rfl) (by kernel_rfl) (by kernel_rfl) (fun _ _ _ h => h) (Or.inl ⟨by kernel_rfl, fun wq hSw => by
                                              obtain ⟨s0, s1, s2, s3⟩ := hSw
                                              go_simp⟩) (by assumption) ?_
                      refine wpAnyH_ready (rs := [5]) (by kernel_rfl) (by simp) ?_
                      refine AllReadyH.cons (i := 5) rfl ?_ AllReadyH.nil
                      go_simp
                      intro K hK
                      refine hK.out _ _ hSC (fun _ => ?_)
                      clear hK K
                      refine wpAnyH_take (i := 17) (v := .int .u64 (IntKind.u64.wrap ((sx : Int) + (nx : Int)))) rfl (by kernel_rfl) (by kernel_rfl) (by kernel_rfl) (fun _ _ _ h => h) (Or.inl ⟨by kernel_rfl, fun _ _ => by kernel_rfl⟩) (by assumption) ?_
                      refine wpAnyH_take (i := 18) (v := .pointer (some ⟨g, j, none⟩)) rfl (by kernel_rfl) (by kernel_rfl) (by kernel_rfl) (fun _ _ _ h => h) (Or.inl ⟨by kernel_rfl, fun wq hSw => by
                                              obtain ⟨s0, s1, s2, s3⟩ := hSw
                                              go_simp⟩) (by assumption) ?_
                      refine wpAnyH_ready (rs := [19]) (by kernel_rfl) (by simp) ?_
                      refine AllReadyH.cons (i := 19) rfl ?_ AllReadyH.nil
                      have hMC := HMd.out.keep HRC.out
                      have fC := hMC.n.frozen j
                      have HFC := hidIn (HFin.out wC hMC.b hMC.n hMC.c)
                      have hSS := hSC.set hqg hbg hjp (.int .u64 (IntKind.u64.wrap ((sx : Int) + (nx : Int))))
                      clear hMC hSC
                      go_simp
                      intro K hK
                      refine hK.out _ _ hSS (fun _ => ?_)
                      clear hK K
                      refine wpAnyH_done (by kernel_rfl) ?_ _
                      go_wp2_with fail
                      go_roundw
                      case rel => exact ⟨m + 1, by omega, by go_num, HFC⟩
                      case measure => simp [intOf]; omega
                · have hq : (ey == x) = false := by simpa using hey
                  have Hey := hidIn hey
                  clear hey
                  go_upto_region 16 with fail
                  clear f0 f1 c0 c1 c2 cx
                  refine wp_region_quiet_below (by kernel_rfl) (by kernel_rfl) ?_
                  repeat (go_big_quiet_step (first | (go_at_call 35; exact Calls.regrown_of (HTg.out _ _))))
                  refine wpQuiet_nil ?_
                  intro _ hw'
                  obtain ⟨⟨dq, osq⟩, hw''⟩ := hw'
                  subst hw''
                  have hb := below_regrown wr dq osq
                  have HMv := hidIn (HM.out.keep hb)
                  have HBv := hidIn hb
                  generalize Go.Sort.grow (redrawn wr dq) osq = wv at HMv HBv ⊢
                  clear hb g0 g1 g2 g3 g4 g5 HTg
                  have HMn : Hid (CnM W1 wv g ln ns (some ⟨cb, co, none⟩) cc D (edN D Nc x (es.take (m + 1)))) := hidIn (by rw [Hes.out, edN_no _ _ _ _ (fun e => Hey.out e.1)]; exact HMv.out)
                  go_wp2_with fail
                  go_roundw
                  case rel => exact ⟨m + 1, by omega, by go_num, HMn⟩
                  case measure => simp [intOf]; omega
              · have hmi : ¬ (m : Int) < (le : Int) := by omega
                have HMn : Hid (CnM W1 wr g ln ns (some ⟨cb, co, none⟩) cc D (cntN es a D c (ns.take (j + 1)))) := hidIn (HM.out.congr fun z _ => by rw [List.take_of_length_le (by have := Hle.out; omega)]; exact HEnd.out z)
                clear hBw HM
                go_wp2_with fail
                go_roundw
                case rel => exact ⟨j + 1, by omega, by go_num, HMn⟩
                case measure => simp [intOf]; omega
          · have HMn : Hid (CnM W1 wr g ln ns (some ⟨cb, co, none⟩) cc D (cntN es a D c (ns.take (j + 1)))) := hidIn (HM.out.congr fun z _ => by rw [take_snoc hx]; exact (cntN_skip hDx z).symm)
            have hq : (D x != (c : Int)) = true := by simpa using hDx
            generalize D x = dx at *
            clear hDx hx hBw HM
            go_wp2_with fail
            go_roundw
            case rel => exact ⟨j + 1, by omega, by go_num, HMn⟩
            case measure => simp [intOf]; omega
        · have hji : ¬ (j : Int) < (ln : Int) := by omega
          have HMn : Hid (CnM W1 wr g ln ns (some ⟨cb, co, none⟩) cc D (cntO es a D (((c + 1 : Nat) : Int) - 1))) := hidIn (HM.out.congr fun z hz => by
            rw [List.take_of_length_le (by have := Hln.out; omega), cntN_all hz]
            congr 1
            omega)
          clear hBw HM
          go_wp2_with fail
          go_roundw
          case rel => exact ⟨c + 1, by omega, by omega, by go_num, HMn⟩
          case measure => simp [intOf]; omega
end Go.Proofs.Ytabnecicidkmhaa
