/- How many ways of so many hops and such a cost there are; the same, turned round. Count has at its end how many least-cost ways there are. Count never runs over: what it has is above 0 just where there is a way. PathsTurned. One link less, as lists. The document's Both, ad lists. Records without one neighbour, ad lists. The document's Router, has, Check. The document's MayRecord. The document's Unlike, cost. The document's Both. has; a record more behind an own row. What Both answers, in one form; of records turned about. All records behind a row; the document's SameRecords. Of GraphLess: appends, slices, remainders. PathsFewer. Links of three small numbers as an argument. -/
import Derived.Test.YtfbojelflplflaaZ1
import Derived.OpenShut
import Derived.Test.YtfbojelflplflaaGQ
import Derived.Test.YtfbojelflplflaaGF
import Derived.Test.YtfbojelflplflaaGH
import Derived.Test.YtfbojelflplflaaVL5
namespace Go.Proofs.Ytfbojelflplflaa

def wh (es : List Ed) (a : Int) : Nat → Int → Int → Nat
  | 0, x, c => if x = a ∧ c = 0 then 1 else 0
  | h + 1, x, c => (es.map fun e => if e.2.1 = x then wh es a h e.1 (c - e.2.2) else 0).sum
theorem sum_add (es : List Ed) (F G : Ed → Nat) : (es.map fun e => F e + G e).sum = (es.map F).sum + (es.map G).sum := by
  induction es with
  | nil => rfl
  | cons e es ih => simp only [List.map_cons, List.sum_cons, ih]; omega
theorem sum_swap (fs : List Ed) (G : Ed → Ed → Nat) : ∀ es : List Ed, (es.map fun e => (fs.map fun f => G e f).sum).sum = (fs.map fun f => (es.map fun e => G e f).sum).sum
  | [] => by
    have : ∀ fs : List Ed, (fs.map fun _ => 0).sum = 0 := fun fs => by induction fs with | nil => rfl | cons f fs ih => rw [List.map_cons, List.sum_cons, ih]
    simp only [List.map_nil, List.sum_nil]
    exact (this fs).symm
  | e :: es => by
    simp only [List.map_cons, List.sum_cons]
    rw [sum_swap fs G es, sum_add]
theorem sum_if (es : List Ed) (p : Prop) [Decidable p] (F : Ed → Nat) : (if p then (es.map F).sum else 0) = (es.map fun e => if p then F e else 0).sum := by
  by_cases h : p
  · simp only [h, if_true]
  · simp only [h, if_false]
    induction es with
    | nil => rfl
    | cons e es ih => rw [List.map_cons, List.sum_cons, ← ih]
theorem sum_congr {es : List Ed} {F G : Ed → Nat} (h : ∀ e ∈ es, F e = G e) : (es.map F).sum = (es.map G).sum := by
  rw [List.map_congr_left h]
theorem wh_first (es : List Ed) : ∀ (h : Nat) (a x c : Int), wh es a (h + 1) x c = (es.map fun e => if e.1 = a then wh es e.2.1 h x (c - e.2.2) else 0).sum
  | 0, a, x, c => by
    refine sum_congr fun e _ => ?_
    simp only [wh]
    by_cases h1 : e.2.1 = x <;> by_cases h2 : e.1 = a <;> simp [h1, h2]
    intro h3
    exact absurd h3.symm h1
  | h + 1, a, x, c => by
    have h1 : wh es a (h + 2) x c = (es.map fun e => (es.map fun f => if e.2.1 = x then (if f.1 = a then wh es f.2.1 h e.1 (c - e.2.2 - f.2.2) else 0) else 0).sum).sum := by
      refine sum_congr fun e _ => ?_
      rw [wh_first es h a e.1 (c - e.2.2), sum_if]
    have h2 : (es.map fun f => if f.1 = a then wh es f.2.1 (h + 1) x (c - f.2.2) else 0).sum = (es.map fun f => (es.map fun e => if f.1 = a then (if e.2.1 = x then wh es f.2.1 h e.1 (c - f.2.2 - e.2.2) else 0) else 0).sum).sum := by
      refine sum_congr fun f _ => ?_
      rw [← sum_if]
      rfl
    rw [h1, h2, sum_swap]
    refine sum_congr fun f _ => sum_congr fun e _ => ?_
    by_cases g1 : e.2.1 = x <;> by_cases g2 : f.1 = a <;> simp [g1, g2]
    congr 1
    omega
def turnE (e : Ed) : Ed := (e.2.1, e.1, e.2.2)
theorem turn_perm {es : List Ed} (hd : es.Nodup) (hs : BothW es) : (es.map turnE).Perm es := by
  have hinj : (es.map turnE).Nodup := by
    refine List.Pairwise.map _ ?_ hd
    intro a b hab e
    apply hab
    obtain ⟨a1, a2, a3⟩ := a
    obtain ⟨b1, b2, b3⟩ := b
    simp only [turnE, Prod.mk.injEq] at e ⊢
    exact ⟨e.2.1, e.1, e.2.2⟩
  rw [List.perm_ext_iff_of_nodup hinj hd]
  intro e
  constructor
  · intro h
    obtain ⟨f, hf, rfl⟩ := List.mem_map.1 h
    exact hs f hf
  · intro h
    exact List.mem_map.2 ⟨_, hs e h, rfl⟩
theorem wh_turn {es : List Ed} (hd : es.Nodup) (hs : BothW es) : ∀ (h : Nat) (a x c : Int), wh es a h x c = wh es x h a c
  | 0, a, x, c => by
    simp only [wh]
    by_cases e : x = a
    · subst e; rfl
    · rw [if_neg (fun h => e h.1), if_neg (fun h => e h.1.symm)]
  | h + 1, a, x, c => by
    rw [wh_first es h x a c]
    show (es.map fun e => if e.2.1 = x then wh es a h e.1 (c - e.2.2) else 0).sum = _
    rw [← ((turn_perm hd hs).map fun e => if e.2.1 = x then wh es a h e.1 (c - e.2.2) else 0).sum_nat, List.map_map]
    refine sum_congr fun e _ => ?_
    show (if e.1 = x then wh es a h e.2.1 (c - e.2.2) else 0) = _
    rw [wh_turn hd hs h a e.2.1]
/-- Where there are such ways, there is one. -/
theorem wh_wy {es : List Ed} {a : Int} : ∀ {h : Nat} {x c : Int}, 0 < wh es a h x c → Wy es a x c h
  | 0, x, c, hw => by
    simp only [wh] at hw
    split at hw
    · rename_i h1
      rw [h1.1, h1.2]
      exact Wy.refl _ _
    · omega
  | h + 1, x, c, hw => by
    have : ∃ e ∈ es, e.2.1 = x ∧ 0 < wh es a h e.1 (c - e.2.2) := Classical.byContradiction fun hno => by
      have h0 : wh es a (h + 1) x c = (es.map fun _ => 0).sum := sum_congr fun e he => by
        by_cases h1 : e.2.1 = x
        · rw [if_pos h1]
          exact Nat.eq_zero_of_not_pos fun h2 => hno ⟨e, he, h1, h2⟩
        · rw [if_neg h1]
      have hz : (es.map fun _ => 0).sum = 0 := by
        clear h0 hw hno
        induction es with
        | nil => rfl
        | cons e es ih => rw [List.map_cons, List.sum_cons, ih]
      omega
    obtain ⟨e, he, h1, h2⟩ := this
    have h3 := (wh_wy h2).step he
    rw [h1, Int.sub_add_cancel] at h3
    exact h3
end Go.Proofs.Ytfbojelflplflaa
namespace Go.Proofs.Ytfbojelflplflaa

/-- How many ways cost d. -/
def waysN (es : List Ed) (r x d : Int) : Nat := ((List.range (d.toNat + 1)).map fun h => wh es r h x d).sum
theorem sumN_zero {F : Nat → Nat} : ∀ {l : List Nat}, (∀ h ∈ l, F h = 0) → (l.map F).sum = 0
  | [], _ => rfl
  | h :: l, hz => by rw [List.map_cons, List.sum_cons, hz h (by simp), sumN_zero (l := l) (fun k hk => hz k (by simp [hk]))]
theorem sumN_swap (es : List Ed) (G : Nat → Ed → Nat) : ∀ l : List Nat, (l.map fun h => (es.map fun e => G h e).sum).sum = (es.map fun e => (l.map fun h => G h e).sum).sum
  | [] => by
    simp only [List.map_nil, List.sum_nil]
    induction es with
    | nil => rfl
    | cons e es ih =>
      rw [List.map_cons, List.sum_cons, ← ih]
      rfl
  | h :: l => by
    simp only [List.map_cons, List.sum_cons]
    rw [sumN_swap es G l, sum_add]
/-- More hops than the cost: none. -/
theorem wh_far {es : List Ed} (hp : PosE es) {r x c : Int} {h : Nat} (hc : c < h) : wh es r h x c = 0 :=
  Nat.eq_zero_of_not_pos fun h0 => by have := ((wh_wy h0).pos hp).1; omega
theorem range_more (F : Nat → Nat) (n : Nat) : ∀ m, (∀ h, n ≤ h → F h = 0) → ((List.range (n + m)).map F).sum = ((List.range n).map F).sum
  | 0, _ => rfl
  | m + 1, hz => by
    rw [← Nat.add_assoc, List.range_succ, List.map_append, List.sum_append, range_more F n m hz]
    simp [hz (n + m) (by omega)]
theorem sum_filter (I : Ed → Bool) (F : Ed → Nat) : ∀ es : List Ed, ((es.filter I).map F).sum = (es.map fun e => if I e = true then F e else 0).sum
  | [] => rfl
  | e :: es => by
    by_cases h : I e = true
    · rw [List.filter_cons_of_pos h, List.map_cons, List.sum_cons, sum_filter I F es, List.map_cons, List.sum_cons, if_pos h]
    · rw [List.filter_cons_of_neg h, sum_filter I F es, List.map_cons, List.sum_cons, if_neg h, Nat.zero_add]
theorem sum_mod (F : Ed → Nat) (M a : Nat) : ∀ es : List Ed, (a + (es.map fun e => F e % M).sum) % M = (a + (es.map F).sum) % M := by
  intro es
  induction es generalizing a with
  | nil => rfl
  | cons e es ih =>
    simp only [List.map_cons, List.sum_cons]
    have h1 : (a + F e % M) % M = (a + F e) % M := Nat.add_mod_mod _ _ _
    rw [← Nat.add_assoc, ← Nat.add_assoc, ih (a + F e % M), Nat.add_mod (a + F e % M), h1, ← Nat.add_mod]
theorem waysN_step {ns : List Int} {es : List Ed} {r x d : Int} (hok : graphOk ns es = true) (hd : Ds es r x d) (I : Ed → Bool) (hI : ∀ e, e ∈ es → (I e = true ↔ Into es r x e)) :
    waysN es r x d = (if x = r then 1 else 0) + ((es.filter I).map fun e => waysN es r e.1 (d - e.2.2)).sum := by
  have hp := graphOk_pos hok
  have hd0 := hd.nonneg hp
  unfold waysN
  rw [List.range_succ_eq_map, List.map_cons, List.sum_cons, List.map_map]
  have h1 : wh es r 0 x d = if x = r then 1 else 0 := by
    simp only [wh]
    by_cases e : x = r
    · subst e
      rw [if_pos ⟨rfl, hd.uniq (ds_root hp)⟩, if_pos rfl]
    · rw [if_neg (fun h => e h.1), if_neg e]
  rw [h1]
  congr 1
  have h2 : ((List.range d.toNat).map ((fun h => wh es r h x d) ∘ Nat.succ)).sum = ((List.range d.toNat).map fun h => (es.map fun e => if e.2.1 = x then wh es r h e.1 (d - e.2.2) else 0).sum).sum := rfl
  rw [h2, sumN_swap, sum_filter]
  refine sum_congr fun e he => ?_
  by_cases hin : I e = true
  · rw [if_pos hin]
    obtain ⟨_, h3, d', h4, h5⟩ := (hI e he).1 hin
    have h6 := hd.uniq h5
    have h7 := hp e he
    have h8 := h4.nonneg hp
    simp only [h3, if_true]
    obtain ⟨m, hm⟩ : ∃ m, d.toNat = ((d - e.2.2).toNat + 1) + m := ⟨d.toNat - ((d - e.2.2).toNat + 1), by omega⟩
    rw [hm]
    exact range_more _ _ m (fun h hh => wh_far hp (by omega))
  · rw [if_neg hin]
    refine sumN_zero fun h _ => ?_
    by_cases h3 : e.2.1 = x
    · rw [if_pos h3]
      refine Nat.eq_zero_of_not_pos fun h0 => hin ((hI e he).2 ?_)
      exact (into_last hd he (wh_wy h0) h3.symm (by omega)).1
    · rw [if_neg h3]
open Classical in
theorem cnt_ways {ns : List Int} {es : List Ed} {r : Int} {P : List (Int × Int)} (hok : graphOk ns es = true) (hr : r ∈ ns) (h : IsNear es r P) (hn : NdOk P) :
    ∀ (n : Nat) (x d : Int), d.toNat = n → x ∈ ns → Ds es r x d → cntT r (told es P P) x.toNat = waysN es r x d % 18446744073709551616 := by
  have hp := graphOk_pos hok
  have hbd := graphOk_bd hok
  intro n
  induction n using Nat.strongRecOn with
  | _ n ih =>
  intro x d hdn hx hd
  have hI : ∀ e, e ∈ es → (decide (Into es r x e) = true ↔ Into es r x e) := fun e _ => decide_eq_true_iff
  rw [cnt_all hok hr h hn x hx (fun e => decide (Into es r x e)) hI, waysN_step hok hd (fun e => decide (Into es r x e)) hI]
  rw [← sum_mod (fun e => waysN es r e.1 (d - e.2.2))]
  congr 2
  refine sum_congr fun e he => ?_
  rw [List.mem_filter, decide_eq_true_iff] at he
  obtain ⟨h1, h2, d', h3, h4⟩ := he.2
  have h5 := hd.uniq h4
  have h6 := hp e h1
  have h7 := h3.nonneg hp
  rw [show d - e.2.2 = d' by omega]
  exact ih d'.toNat (by omega) e.1 d' rfl (hbd.2.1 e h1).1 h3
/-- As many ways back. -/
theorem waysN_turn {es : List Ed} (hd : es.Nodup) (hs : BothW es) (a x d : Int) : waysN es a x d = waysN es x a d := by
  unfold waysN
  congr 1
  exact List.map_congr_left fun h _ => wh_turn hd hs h a x d
end Go.Proofs.Ytfbojelflplflaa
namespace Go.Proofs.Ytfbojelflplflaa

theorem cnt_row (y : Int) : ∀ (F : List Ed) (c : Nat → Nat), (∀ e ∈ F, e.1 = y ∧ e.2.1.toNat ≠ y.toNat) → (F.Pairwise fun a b => a.2.1.toNat ≠ b.2.1.toNat) →
    (F.foldl cntE c) y.toNat = c y.toNat ∧ (∀ j, (F.foldl cntE c) j ≤ c j + c y.toNat) ∧ ∀ j, (∀ e ∈ F, e.2.1.toNat ≠ j) → (F.foldl cntE c) j = c j
  | [], c, _, _ => ⟨rfl, fun j => by simp, fun j _ => rfl⟩
  | e :: F, c, h, hp => by
    rw [List.pairwise_cons] at hp
    have he := h e (by simp)
    have hy : cntE c e y.toNat = c y.toNat := by unfold cntE putN; rw [if_neg (fun q => he.2 q.symm)]
    obtain ⟨h1, h2, h3⟩ := cnt_row y F (cntE c e) (fun f hf => h f (by simp [hf])) hp.2
    rw [List.foldl_cons]
    refine ⟨by rw [h1, hy], fun j => ?_, fun j hj => ?_⟩
    · by_cases hj : j = e.2.1.toNat
      · have h4 := h3 j (fun f hf q => hp.1 f hf (by rw [q, hj]))
        rw [h4]
        unfold cntE putN
        rw [if_pos hj, he.1, hj]
        exact Nat.mod_le _ _
      · have h4 := h2 j
        have h5 : cntE c e j = c j := by unfold cntE putN; rw [if_neg hj]
        rw [hy, h5] at h4
        exact h4
    · have h4 := h3 j (fun f hf => hj f (by simp [hf]))
      rw [h4]
      unfold cntE putN
      rw [if_neg (fun q => hj e (by simp) q.symm)]
theorem cnt_bound {ns : List Int} {es : List Ed} (hok : graphOk ns es = true) (hp : PosE es) (P : List (Int × Int)) (hne : ∀ e ∈ es, e.1 ≠ e.2.1) : ∀ (Q : List (Int × Int)) (c : Nat → Nat) (B : Nat), (∀ j, c j ≤ B) → ∀ j, ((told es P Q).foldl cntE c) j ≤ B * 2 ^ Q.length
  | [], c, B, h, j => by simpa [told] using h j
  | n :: Q, c, B, h, j => by
    have hbd := graphOk_bd hok
    have hr : es.Pairwise fun a b => risesE a b = true := by
      simp only [graphOk, Bool.and_eq_true] at hok
      exact (edgesOk_rise es _ hok.2.2).2
    rw [told, List.foldl_append]
    have hrow := cnt_row n.1 (es.filter fun e => decide (e.1 = n.1) && tgt es (cP P) P e) c (fun e he => by
      simp only [List.mem_filter, Bool.and_eq_true, decide_eq_true_eq] at he
      refine ⟨he.2.1, fun q => hne e he.1 ?_⟩
      have h1 := hbd.1 _ (hbd.2.1 e he.1).1
      have h2 := hbd.1 _ (hbd.2.1 e he.1).2
      rw [he.2.1] at h1 ⊢
      omega) (by
      have hf := hr.filter fun e => decide (e.1 = n.1) && tgt es (cP P) P e
      refine (List.pairwise_iff_forall_sublist.2 fun {a b} hab => ?_)
      have ha : a ∈ es.filter fun e => decide (e.1 = n.1) && tgt es (cP P) P e := hab.subset (by simp)
      have hb : b ∈ es.filter fun e => decide (e.1 = n.1) && tgt es (cP P) P e := hab.subset (by simp)
      have h3 := List.pairwise_iff_forall_sublist.1 hf hab
      simp only [List.mem_filter, Bool.and_eq_true, decide_eq_true_eq] at ha hb
      simp only [risesE, Bool.or_eq_true, Bool.and_eq_true, decide_eq_true_eq] at h3
      have h4 := hbd.1 _ (hbd.2.1 a ha.1).2
      have h5 := hbd.1 _ (hbd.2.1 b hb.1).2
      omega)
    have h6 := cnt_bound hok hp P hne Q ((es.filter fun e => decide (e.1 = n.1) && tgt es (cP P) P e).foldl cntE c) (B * 2) (fun i => by
      have := hrow.2.1 i
      have := h i
      have := h n.1.toNat
      omega) j
    rw [List.length_cons, Nat.pow_succ, Nat.mul_comm (2 ^ Q.length), ← Nat.mul_assoc]
    exact h6
theorem graphOk_ne {ns : List Int} {es : List Ed} (h : graphOk ns es = true) : ∀ e ∈ es, e.1 ≠ e.2.1 := by
  simp only [graphOk, Bool.and_eq_true] at h
  have key : ∀ (es : List Ed) (last : Ed), edgesOk ns last es = true → ∀ e ∈ es, e.1 ≠ e.2.1 := by
    intro es
    induction es with
    | nil => intro _ _ e he; simp at he
    | cons a es ih =>
      intro last h e he
      simp only [edgesOk, edgeOk, Bool.and_eq_true] at h
      rcases List.mem_cons.1 he with rfl | he
      · simpa using h.1.2.2.1
      · exact ih a h.2 e he
  exact key es _ h.2.2
theorem sum_le {F : Ed → Nat} {B : Nat} : ∀ {es : List Ed}, (∀ e ∈ es, F e ≤ B) → (es.map F).sum ≤ es.length * B
  | [], _ => by simp
  | e :: es, h => by
    rw [List.map_cons, List.sum_cons, List.length_cons, Nat.succ_mul]
    have h1 := h e (by simp)
    have h2 := sum_le (es := es) (F := F) (fun f hf => h f (by simp [hf]))
    omega
theorem sum_ge {F : Ed → Nat} : ∀ {es : List Ed} {e : Ed}, e ∈ es → F e ≤ (es.map F).sum
  | a :: es, e, h => by
    rw [List.map_cons, List.sum_cons]
    rcases List.mem_cons.1 h with rfl | h
    · omega
    · have := sum_ge (F := F) h; omega
open Classical in
theorem cnt_pos {ns : List Int} {es : List Ed} {r : Int} {P : List (Int × Int)} (hok : graphOk ns es = true) (hr : r ∈ ns) (h : IsNear es r P) (hn : NdOk P) :
    ∀ (n : Nat) (x d : Int), d.toNat = n → x ∈ ns → Ds es r x d → 0 < cntT r (told es P P) x.toNat := by
  have hp := graphOk_pos hok
  have hbd := graphOk_bd hok
  have hB : ∀ j, cntT r (told es P P) j ≤ 33554432 := fun j => by
    have h1 := cnt_bound hok hp P (graphOk_ne hok) P (putN (fun _ => 0) r.toNat 1) 1 (fun i => by unfold putN; split <;> simp) j
    have h2 : (2 : Nat) ^ P.length ≤ 2 ^ 25 := Nat.pow_le_pow_right (by omega) hn.1
    have h3 : (2 : Nat) ^ 25 = 33554432 := by decide
    have h4 : cntT r (told es P P) j ≤ 1 * 2 ^ P.length := h1
    omega
  intro n
  induction n using Nat.strongRecOn with
  | _ n ih =>
  intro x d hdn hx hd
  have hI : ∀ e, e ∈ es → (decide (Into es r x e) = true ↔ Into es r x e) := fun e _ => decide_eq_true_iff
  have hc := cnt_all hok hr h hn x hx (fun e => decide (Into es r x e)) hI
  have hs := sum_le (es := es.filter fun e => decide (Into es r x e)) (F := fun e => cntT r (told es P P) e.1.toNat) (fun e _ => hB _)
  have hl : (es.filter fun e => decide (Into es r x e)).length ≤ 384 := Nat.le_trans (List.length_filter_le _ _) hbd.2.2
  have hm : (es.filter fun e => decide (Into es r x e)).length * 33554432 ≤ 384 * 33554432 := Nat.mul_le_mul_right _ hl
  by_cases hxr : x = r
  · rw [if_pos hxr] at hc
    omega
  · rw [if_neg hxr] at hc
    obtain ⟨e, he⟩ := into_some hp hd hxr
    have hge := sum_ge (F := fun e => cntT r (told es P P) e.1.toNat) (es := es.filter fun e => decide (Into es r x e)) (e := e) (List.mem_filter.2 ⟨he.1, decide_eq_true_iff.2 he⟩)
    obtain ⟨h1, h2, d', h3, h4⟩ := he
    have h5 := hd.uniq h4
    have h6 := hp e h1
    have h7 := h3.nonneg hp
    have h8 := ih d'.toNat (by omega) e.1 d' rfl (hbd.2.1 e h1).1 h3
    omega
/-- Where there is no way, it has none. -/
theorem cnt_none {ns : List Int} {es : List Ed} {r : Int} {P : List (Int × Int)} (hok : graphOk ns es = true) (hr : r ∈ ns) (h : IsNear es r P) (hn : NdOk P) {x : Int} (hx : x ∈ ns) (hno : ∀ d, ¬ Ds es r x d) : cntT r (told es P P) x.toNat = 0 := by
  have hc := cnt_all hok hr h hn x hx (fun _ => false) (fun e _ => ⟨fun hf => by simp at hf, fun hI => absurd hI.2.2.choose_spec.2 (hno _)⟩)
  have hxr : x ≠ r := fun e => hno 0 (by rw [e]; exact ds_root (graphOk_pos hok))
  rw [if_neg hxr] at hc
  rw [hc, show (es.filter fun _ => false) = [] from by simp]
  rfl
end Go.Proofs.Ytfbojelflplflaa
namespace Go.Proofs.Ytfbojelflplflaa
open Go.RowKit

theorem tab_both {n : Nat} (h0 : 0 < n) (hn : n ≤ 7) (L : List Ed) : BothW (tabE (tabT n L) n n) := fun _ he => tab_turn (tabT_ok h0 (by omega) L) hn he
theorem tab_graph {n : Nat} (h0 : 0 < n) (hn : n ≤ 7) (L : List Ed) : graphOk (tabN n) (tabE (tabT n L) n n) = true := tab_ok (tabT_ok h0 (by omega) L) hn
theorem tab_nd {n : Nat} (h0 : 0 < n) (hn : n ≤ 7) (L : List Ed) {l : List Int} (hl : ∀ x ∈ l, 1 ≤ x ∧ x ≤ (n : Int)) : ndAll (tabN n) (tabE (tabT n L) n n) l = true := by
  unfold ndAll
  rw [tab_graph h0 hn L, Bool.true_and, List.all_eq_true]
  intro x hx
  exact hasN_iff.2 (tabN_mem.2 (hl x hx))
/-- As many ways there as back. -/
theorem cnt_turn {n : Nat} {E : List Ed} {a b : Int} {P Q : List (Int × Int)} (hok : graphOk (tabN n) E = true) (hs : BothW E) (ha : a ∈ tabN n) (hb : b ∈ tabN n) (hP : IsNear E a P) (hPn : NdOk P) (hQ : IsNear E b Q) (hQn : NdOk Q) : cntT a (told E P P) b.toNat = cntT b (told E Q Q) a.toNat := by
  by_cases hd : ∃ d, Ds E a b d
  · obtain ⟨d, hd⟩ := hd
    rw [cnt_ways hok ha hP hPn _ b d rfl hb hd, cnt_ways hok hb hQ hQn _ a d rfl ha (hd.turn hs), waysN_turn (graphOk_nodup hok) hs]
  · rw [cnt_none hok ha hP hPn hb (fun d h => hd ⟨d, h⟩), cnt_none hok hb hQ hQn ha (fun d h => hd ⟨d, h.turn hs⟩)]
set_option maxRecDepth 100000 in
set_option maxHeartbeats 4000000 in
theorem pathsTurned_walk {L : List Ed} {v : Value} {w : World} (h : SlAt lc3 3 w v L) (hL : LkB L) (x y : Nat) (hx : x < 256) (hy : y < 256) :
    Calls Try.prog 6 #[v, .int .u8 x, .int .u8 y] w fun e w' => e = .returned (.bool true) ∧ Below w.heap.size w w' := by
  have HO := hidIn (lawOf_any (n := 6) h hL (by omega) (by omega))
  obtain ⟨la, lcap, rfl, _⟩ := h.lks
  obtain ⟨a, ha⟩ : ∃ a : Nat, 1 + x % 6 = a := ⟨_, rfl⟩
  obtain ⟨b, hb⟩ : ∃ b : Nat, 1 + y % 6 = b := ⟨_, rfl⟩
  have mx : (x : Int).tmod 6 = ((x % 6 : Nat) : Int) := by rw [Int.tmod_eq_emod_of_nonneg (by omega)]; rfl
  have my : (y : Int).tmod 6 = ((y % 6 : Nat) : Int) := by rw [Int.tmod_eq_emod_of_nonneg (by omega)]; rfl
  obtain ⟨x6, hx6⟩ : ∃ x6, x % 6 = x6 := ⟨_, rfl⟩
  obtain ⟨y6, hy6⟩ : ∃ y6, y % 6 = y6 := ⟨_, rfl⟩
  have hxl : x6 < 6 := by omega
  have hyl : y6 < 6 := by omega
  rw [hx6] at mx ha
  rw [hy6] at my hb
  have ea : 1 + (x6 : Int) = (a : Int) := by omega
  have eb : 1 + (y6 : Int) = (b : Int) := by omega
  have Ea := hidIn ea
  have Eb := hidIn eb
  have ha1 : 1 ≤ (a : Int) ∧ (a : Int) ≤ ((6 : Nat) : Int) := by omega
  have hb1 : 1 ≤ (b : Int) ∧ (b : Int) ≤ ((6 : Nat) : Int) := by omega
  have HG := hidIn (tab_graph (n := 6) (by omega) (by omega) (L.take 12))
  have HS := hidIn (tab_both (n := 6) (by omega) (by omega) (L.take 12))
  have HNd := hidIn (fun l hl => tab_nd (n := 6) (by omega) (by omega) (L.take 12) (l := l) hl)
  obtain ⟨E, hE⟩ : ∃ E, tabE (tabT 6 (L.take 12)) 6 6 = E := ⟨_, rfl⟩
  rw [hE] at HO HG HS HNd
  have Ha1 := hidIn ha1
  have Hb1 := hidIn hb1
  clear h hL hE ha hb hx6 hy6 ha1 hb1 ea eb
  go_enter Try.func6, Try.ntmps6
  go_wp2_with fail
  refine HO.out.mono ?_
  rintro e w2 ⟨⟨va, vb, rfl, hG⟩, hb2⟩
  obtain ⟨ua, ucap, rfl⟩ := row_shape hG.n
  obtain ⟨ub, vcap, rfl⟩ := row_shape hG.e
  obtain ⟨W3, hW3⟩ : ∃ W3, w2.alloc (.cells #[.slice ua (tabN 6).length ucap, .slice ub E.length vcap] 25) = W3 := ⟨_, rfl⟩
  have b3 : Below w2.heap.size w2 W3 := by rw [← hW3]; exact (Below.refl _ w2).alloc (Nat.le_refl _) _
  have hX : W3.heap[w2.heap.size]? = some (.cells #[.slice ua (tabN 6).length ucap, .slice ub E.length vcap] 25) := by rw [← hW3]; exact heap_alloc_last w2 _
  obtain ⟨gb, hgb⟩ : ∃ gb, w2.heap.size = gb := ⟨_, rfl⟩
  rw [hgb] at hX
  have HGA := hidIn (hG.at.keep b3 (Nat.le_refl _))
  have HB3 := hidIn (hb2.trans (b3.mono hb2.size))
  have HX := hidIn hX
  have HW := hidIn hW3
  have Hgb := hidIn hgb
  clear hG hb2 b3 hX hW3 hgb HO
  obtain ⟨n6, hn6⟩ : ∃ n6, (tabN 6).length = n6 := ⟨_, rfl⟩
  rw [hn6] at HGA HX HW ⊢
  clear hn6
  have HK : Hid (∀ wq, Below W3.heap.size W3 wq → (wq.cell? ⟨gb, 0, none⟩ = some (.slice ua n6 ucap) ∧ wq.cell? ⟨gb, 1, none⟩ = some (.slice ub E.length vcap)) ∧ GrAt wq (.slice ua n6 ucap) (.slice ub E.length vcap) (tabN 6) E ∧ Below w.heap.size w wq) := hidIn fun wq h => by
    have j0 := (h.block _ (block_lt HX.out)).trans HX.out
    exact ⟨⟨cell_of_row _ _ 0 _ _ _ j0, cell_of_row _ _ 1 _ _ _ j0⟩, HGA.out.keep h (Nat.le_refl _), HB3.out.trans (h.mono HB3.out.size)⟩
  obtain ⟨el, hel⟩ : ∃ el, E.length = el := ⟨_, rfl⟩
  rw [hel] at HK HW ⊢
  clear hel HGA HB3 HX
  go_upto_region 3 with fail
  rw [HW.out, Hgb.out]
  rw [Ea.out, Eb.out]
  clear HW Hgb mx my
  obtain ⟨⟨g0, g1⟩, hGA, _⟩ := HK.out W3 (Below.refl _ _)
  have HFa := hidIn (from_right hGA (a : Int))
  clear hGA
  go_wp2_with fail
  refine HFa.out.mono ?_
  rintro e w4 ⟨h4, hb4⟩
  rcases h4 with ⟨h4, _⟩ | ⟨_, l, u, mid, rfl, hmid, hrow, hat, his, hl25, hown⟩
  · exact absurd h4 (by rw [HNd.out [(a : Int)] (fun z hz => by rw [List.mem_singleton.1 hz]; exact Ha1.out)]; simp)
  obtain ⟨pa, pcap, rfl, _⟩ := hat.s
  have Hat := hidIn hat
  have Hisa := hidIn his
  have HB4 := hidIn hb4
  clear hmid hrow hat his hl25 hown hb4 g0 g1 HFa
  obtain ⟨⟨g0, g1⟩, hGA, _⟩ := HK.out w4 HB4.out
  have HFb := hidIn (from_right hGA (b : Int))
  clear hGA
  obtain ⟨pl, hpl⟩ : ∃ pl, l.length = pl := ⟨_, rfl⟩
  rw [hpl] at Hat ⊢
  clear hpl
  go_wp2_with fail
  refine HFb.out.mono ?_
  rintro e w5 ⟨h5, hb5⟩
  rcases h5 with ⟨h5, _⟩ | ⟨_, m, u2, mid2, rfl, hmid, hrow, hat, his, hl25, hown⟩
  · exact absurd h5 (by rw [HNd.out [(b : Int)] (fun z hz => by rw [List.mem_singleton.1 hz]; exact Hb1.out)]; simp)
  obtain ⟨qa, qcap, rfl, _⟩ := hat.s
  have Hat2 := hidIn hat
  have Hisb := hidIn his
  have HB5 := hidIn (HB4.out.trans (hb5.mono HB4.out.size))
  have Hat' := hidIn (Hat.out.keep hb5 (Nat.le_refl _))
  clear hmid hrow hat his hl25 hown hb5 g0 g1 HFb HB4 Hat
  obtain ⟨⟨g0, g1⟩, hGA, _⟩ := HK.out w5 HB5.out
  have HCa := hidIn (count_any hGA (a : Int) (b : Int))
  clear hGA
  obtain ⟨ql, hql⟩ : ∃ ql, m.length = ql := ⟨_, rfl⟩
  rw [hql] at Hat2 ⊢
  clear hql
  go_wp2_with fail
  refine HCa.out.mono ?_
  rintro e w6 ⟨h6, hb6⟩
  rcases h6 with ⟨h6, _⟩ | ⟨_, P, hP, hPn, rfl⟩
  · exact absurd h6 (by rw [HNd.out [(a : Int), (b : Int)] (fun z hz => by rcases List.mem_cons.1 hz with rfl | hz; exact Ha1.out; rw [List.mem_singleton.1 hz]; exact Hb1.out)]; simp)
  have HB6 := hidIn (HB5.out.trans (hb6.mono HB5.out.size))
  have Hat3 := hidIn (Hat'.out.keep hb6 (Nat.le_refl _))
  have Hat4 := hidIn (Hat2.out.keep hb6 (Nat.le_refl _))
  have HP := hidIn (And.intro hP hPn)
  clear hb6 HCa g0 g1 HB5 Hat' Hat2 hP hPn
  obtain ⟨⟨g0, g1⟩, hGA, _⟩ := HK.out w6 HB6.out
  have HCb := hidIn (count_any hGA (b : Int) (a : Int))
  clear hGA
  obtain ⟨c1, hc1⟩ : ∃ c1, cntT (a : Int) (told E P P) ((b : Int)).toNat = c1 := ⟨_, rfl⟩
  have Hc1 := hidIn hc1
  rw [hc1]
  clear hc1
  go_wp2_with fail
  refine HCb.out.mono ?_
  rintro e w7 ⟨h7, hb7⟩
  rcases h7 with ⟨h7, _⟩ | ⟨_, Q, hQ, hQn, rfl⟩
  · exact absurd h7 (by rw [HNd.out [(b : Int), (a : Int)] (fun z hz => by rcases List.mem_cons.1 hz with rfl | hz; exact Hb1.out; rw [List.mem_singleton.1 hz]; exact Ha1.out)]; simp)
  have HB7 := hidIn (HB6.out.trans (hb7.mono HB6.out.size))
  have Hat5 := hidIn (Hat3.out.keep hb7 (Nat.le_refl _))
  have Hat6 := hidIn (Hat4.out.keep hb7 (Nat.le_refl _))
  have hma : (a : Int) ∈ tabN 6 := tabN_mem.2 Ha1.out
  have hmb : (b : Int) ∈ tabN 6 := tabN_mem.2 Hb1.out
  rw [← cnt_turn HG.out HS.out hma hmb HP.out.1 HP.out.2 hQ hQn, Hc1.out]
  have HPos : Hid (0 < c1 ↔ ∃ d, Ds E (a : Int) (b : Int) d) := hidIn (by
    rw [← Hc1.out]
    constructor
    · intro h
      refine Classical.byContradiction fun hno => ?_
      rw [cnt_none HG.out hma HP.out.1 HP.out.2 hmb (fun d hd => hno ⟨d, hd⟩)] at h
      omega
    · rintro ⟨d, hd⟩
      exact cnt_pos HG.out hma HP.out.1 HP.out.2 _ _ d rfl hmb hd)
  have Hma := hidIn hma
  have Hmb := hidIn hmb
  clear hb7 HCb g0 g1 HB6 Hat3 Hat4 hQ hQn hma hmb HP Hc1
  have HOa := hidIn (pof_any (t := (b : Int)) Hat5.out)
  go_wp2_with fail
  refine HOa.out.mono ?_
  rintro e w8 ⟨h8, hb8⟩
  have Hat7 := hidIn (Hat6.out.keep hb8 (Nat.le_refl _))
  have HB8 := hidIn (HB7.out.trans (hb8.mono HB7.out.size))
  clear HOa hb8 Hat5 Hat6 HB7
  rcases h8 with ⟨k, ⟨x8, xv⟩, v8, hk, hkt, _, rfl, hs8, _⟩ | ⟨hno, rfl⟩
  · simp only at hkt hs8
    obtain ⟨d, hd, hR⟩ := (Hisa.out.right x8 (List.mem_map.2 ⟨_, List.mem_of_getElem? hk, rfl⟩)).2
    rw [hkt] at hd hR
    obtain ⟨sa, scap, rfl⟩ := hs8.shape
    obtain ⟨W9, hW9⟩ : ∃ W9, w8.alloc (.cells #[.int .i64 x8.node, .int .i64 x8.cost, .int .i64 x8.least, .int .i64 x8.most, .slice sa x8.next.length scap] 34) = W9 := ⟨_, rfl⟩
    have b9 : Below w8.heap.size w8 W9 := by rw [← hW9]; exact (Below.refl _ w8).alloc (Nat.le_refl _) _
    have hX9 : W9.heap[w8.heap.size]? = some (.cells #[.int .i64 x8.node, .int .i64 x8.cost, .int .i64 x8.least, .int .i64 x8.most, .slice sa x8.next.length scap] 34) := by rw [← hW9]; exact heap_alloc_last w8 _
    have HOb := hidIn (pof_any (t := (a : Int)) (Hat7.out.keep b9 (Nat.le_refl _)))
    have HB9 := hidIn (HB8.out.trans (b9.mono HB8.out.size))
    have HX9 := hidIn hX9
    have HW := hidIn hW9
    obtain ⟨xb, hxb⟩ : ∃ xb, w8.heap.size = xb := ⟨_, rfl⟩
    rw [hxb] at HX9
    have Hxb := hidIn hxb
    have Hd := hidIn hd
    have HR := hidIn hR
    have hpos : (0 : Int) < (c1 : Int) := by have := HPos.out.2 ⟨d, hd⟩; omega
    clear hs8 hk hkt hd hR b9 hX9 hW9 hxb Hat7 HB8
    obtain ⟨xn, hxn⟩ : ∃ xn, x8.next.length = xn := ⟨_, rfl⟩
    rw [hxn] at HW HX9 ⊢
    clear hxn
    go_upto_region 10 with fail
    rw [HW.out, Hxb.out]
    clear HW Hxb
    go_wp2_with fail
    refine HOb.out.mono ?_
    rintro e w9 ⟨h9, hb9⟩
    have hX9 := (hb9.block _ (block_lt HX9.out)).trans HX9.out
    have HB10 := hidIn (HB9.out.trans (hb9.mono HB9.out.size))
    have hxlt : xb < w9.heap.size := block_lt hX9
    clear HOb hb9 HX9 HB9
    rcases h9 with ⟨k9, ⟨y9, yv⟩, v9, hk9, hkt9, _, rfl, hs9, _⟩ | ⟨hno, rfl⟩
    case inr =>
      obtain ⟨q, hq, hqn⟩ := Hisb.out.all (a : Int) d Hma.out (Hd.out.turn HS.out)
      obtain ⟨q', hq', rfl⟩ := List.mem_map.1 hq
      exact absurd hqn (hno q' hq')
    simp only at hkt9 hs9
    obtain ⟨d9, hd9, hR9⟩ := (Hisb.out.right y9 (List.mem_map.2 ⟨_, List.mem_of_getElem? hk9, rfl⟩)).2
    rw [hkt9] at hd9 hR9
    obtain ⟨q1, q2, q3⟩ := Right.turn HS.out Hd.out hd9 HR.out hR9
    obtain ⟨ta, tcap, rfl⟩ := hs9.shape
    obtain ⟨yn0, yc, yl, ym, ynx⟩ := y9
    simp only at q1 q2 q3 hs9 hkt9 hR9 ⊢
    subst q1 q2 q3
    have x1 := cell_of_row _ _ 1 _ _ _ hX9
    have x2 := cell_of_row _ _ 2 _ _ _ hX9
    have x3 := cell_of_row _ _ 3 _ _ _ hX9
    simp at x1 x2 x3
    clear hs9 hk9 hkt9 hd9 hR9 hX9 Hd HR
    generalize ynx.length = yn
    have hxne : xb ≠ w9.heap.size := by omega
    go_wp2_with fail
    refine (works_any _).mono ?_
    rintro e wz ⟨rfl, hbz⟩
    have HBz := hidIn ((HB10.out.alloc HB10.out.size _).trans (hbz.mono (HB10.out.alloc HB10.out.size _).size))
    clear hbz x1 x2 x3
    go_wp2_with fail
    go_ret
    exact ⟨rfl, (HK.out wz HBz.out).2.2⟩
  · have Hno := hidIn hno
    have hz : (c1 : Int) = 0 := by
      have : ¬ 0 < c1 := fun h => by
        obtain ⟨d, hd⟩ := HPos.out.1 h
        obtain ⟨q, hq, hqn⟩ := Hisa.out.all (b : Int) d Hmb.out hd
        obtain ⟨q', hq', rfl⟩ := List.mem_map.1 hq
        exact hno q' hq' hqn
      omega
    rw [hz]
    have HPos2 : Hid (∀ d, ¬ Ds E (a : Int) (b : Int) d) := hidIn fun d hd => by have := HPos.out.2 ⟨d, hd⟩; omega
    obtain ⟨W9, hW9⟩ : ∃ W9, w8.alloc (.cells #[.int .i64 0, .int .i64 0, .int .i64 0, .int .i64 0, .slice none 0 0] 34) = W9 := ⟨_, rfl⟩
    have b9 : Below w8.heap.size w8 W9 := by rw [← hW9]; exact (Below.refl _ w8).alloc (Nat.le_refl _) _
    have hX9 : W9.heap[w8.heap.size]? = some (.cells #[.int .i64 0, .int .i64 0, .int .i64 0, .int .i64 0, .slice none 0 0] 34) := by rw [← hW9]; exact heap_alloc_last w8 _
    have HOb := hidIn (pof_any (t := (a : Int)) (Hat7.out.keep b9 (Nat.le_refl _)))
    have HB9 := hidIn (HB8.out.trans (b9.mono HB8.out.size))
    have HX9 := hidIn hX9
    have HW := hidIn hW9
    obtain ⟨xb, hxb⟩ : ∃ xb, w8.heap.size = xb := ⟨_, rfl⟩
    rw [hxb] at HX9
    have Hxb := hidIn hxb
    clear hno hz HPos b9 hX9 hW9 hxb Hat7 HB8
    simp only [noR]
    go_upto_region 10 with fail
    rw [HW.out, Hxb.out]
    clear HW Hxb
    go_wp2_with fail
    refine HOb.out.mono ?_
    rintro e w9 ⟨h9, hb9⟩
    have hX9 := (hb9.block _ (block_lt HX9.out)).trans HX9.out
    have HB10 := hidIn (HB9.out.trans (hb9.mono HB9.out.size))
    have hxlt : xb < w9.heap.size := block_lt hX9
    clear HOb hb9 HX9 HB9
    rcases h9 with ⟨k9, ⟨y9, yv⟩, v9, hk9, hkt9, _, rfl, hs9, _⟩ | ⟨hno, rfl⟩
    case inl =>
      obtain ⟨d9, hd9, hR9⟩ := (Hisb.out.right y9 (List.mem_map.2 ⟨_, List.mem_of_getElem? hk9, rfl⟩)).2
      simp only at hkt9
      rw [hkt9] at hd9
      exact absurd (hd9.turn HS.out) (HPos2.out d9)
    have x1 := cell_of_row _ _ 1 _ _ _ hX9
    have x2 := cell_of_row _ _ 2 _ _ _ hX9
    have x3 := cell_of_row _ _ 3 _ _ _ hX9
    simp at x1 x2 x3
    clear hX9 hno
    have hxne : xb ≠ w9.heap.size := by omega
    simp only [noR]
    go_wp2_with fail
    refine (works_any _).mono ?_
    rintro e wz ⟨rfl, hbz⟩
    have HBz := hidIn ((HB10.out.alloc HB10.out.size _).trans (hbz.mono (HB10.out.alloc HB10.out.size _).size))
    clear hbz x1 x2 x3
    go_wp2_with fail
    go_ret
    exact ⟨rfl, (HK.out wz HBz.out).2.2⟩
theorem pathsTurned_int {L : List Ed} {v : Value} {w : World} {x y : Int} (h : SlAt lc3 3 w v L) (hL : LkB L) (hx : (Lit.int .u8 x).wf = true) (hy : (Lit.int .u8 y).wf = true) :
    Calls Try.prog 6 #[v, .int .u8 x, .int .u8 y] w fun e w' => e = .returned (.bool true) ∧ Below w.heap.size w w' := by
  have h1 := bounds_u8 hx
  have h2 := bounds_u8 hy
  obtain ⟨X, rfl⟩ : ∃ X : Nat, x = (X : Int) := ⟨x.toNat, by omega⟩
  obtain ⟨Y, rfl⟩ : ∃ Y : Nat, y = (Y : Int) := ⟨y.toNat, by omega⟩
  exact pathsTurned_walk h hL X Y (by omega) (by omega)
end Go.Proofs.Ytfbojelflplflaa
namespace Go.Proofs.Ytfbojelflplflaa
open Go.RowKit

theorem rise_le : ∀ (l m : List Int), l.Pairwise (fun a b => a < b) → m.Pairwise (fun a b => a < b) → (∀ x ∈ m, x ∈ l) → m.length ≤ l.length
  | [], m, _, _, h => by
    cases m with
    | nil => simp
    | cons x m => exact absurd (h x (by simp)) (by simp)
  | y :: l, [], _, _, _ => by simp
  | y :: l, x :: m, hl, hm, h => by
    rw [List.pairwise_cons] at hl
    have hm' := hm
    rw [List.pairwise_cons] at hm
    by_cases hxy : x = y
    · have := rise_le l m hl.2 hm.2 (fun z hz => by
        have h1 := h z (by simp [hz])
        have h2 := hm.1 z hz
        rcases List.mem_cons.1 h1 with rfl | h3
        · omega
        · exact h3)
      simp only [List.length_cons]
      omega
    · have hx : y < x := by
        rcases List.mem_cons.1 (h x (by simp)) with h1 | h1
        · exact absurd h1 hxy
        · exact hl.1 x h1
      have := rise_le l (x :: m) hl.2 hm' (fun z hz => by
        rcases List.mem_cons.1 (h z hz) with h1 | h1
        · rcases List.mem_cons.1 hz with h2 | h2
          · omega
          · have := hm.1 z h2; omega
        · exact h1)
      simp only [List.length_cons] at this ⊢
      omega
/-- The list without one. -/
def lessL (L : List Ed) (i : Nat) : List Ed := L.take i ++ L.drop (i + 1)
theorem tab_pairs {L : List Ed} {i : Nat} {e : Ed} (he : e ∈ tabE (tabT 6 (lessL L i)) 6 6) : ∃ c, (e.1, e.2.1, c) ∈ tabE (tabT 6 L) 6 6 := by
  obtain ⟨a, b, ha, hb, hc, rfl⟩ := tabE_mem.1 he
  have hab : a ≠ b := fun h => by
    subst h
    have := (tabT_ok (n := 6) (by omega) (by omega) (lessL L i)).di a (by omega)
    omega
  exact ⟨_, tabE_mem.2 ⟨a, b, ha, hb, fewer_pos (by omega) (by omega) L i ha hb hab hc, rfl⟩⟩
theorem fewer_len {L : List Ed} {i : Nat} {r : Int} {l m : List Rr} (hl : IsFrom (tabN 6) (tabE (tabT 6 L) 6 6) r l) (hm : IsFrom (tabN 6) (tabE (tabT 6 (lessL L i)) 6 6) r m) : m.length ≤ l.length := by
  have hp := graphOk_pos (tab_graph (n := 6) (by omega) (by omega) L)
  have := rise_le (l.map (·.node)) (m.map (·.node)) (List.pairwise_map.2 hl.rise) (List.pairwise_map.2 hm.rise) (fun x hx => by
    obtain ⟨p, hpm, rfl⟩ := List.mem_map.1 hx
    obtain ⟨hn, d, hd, _⟩ := hm.right p hpm
    obtain ⟨h, hw⟩ := hd.1
    obtain ⟨c', hw'⟩ := wy_pairs (fun e he => tab_pairs he) hw
    obtain ⟨d', hd', _⟩ := ds_of hp hw'
    obtain ⟨q, hq, hqn⟩ := hl.all _ d' hn hd'
    exact List.mem_map.2 ⟨q, hq, hqn⟩)
  simpa using this
theorem tab_sub {L : List Ed} {i : Nat} {x : Ed} (hx : L[i]? = some x) (hno : ∀ j y, L[j]? = some y → j ≠ i → isP 6 (x.1.toNat % 6) (x.2.1.toNat % 6) y = false) : ∀ e ∈ tabE (tabT 6 (lessL L i)) 6 6, e ∈ tabE (tabT 6 L) 6 6 := fun e he => by
  obtain ⟨a, b, ha, hb, hc, rfl⟩ := tabE_mem.1 he
  have hab : a ≠ b := fun h => by
    subst h
    have := (tabT_ok (n := 6) (by omega) (by omega) (lessL L i)).di a (by omega)
    omega
  have hs := fewer_same (n := 6) (by omega) (by omega) L i hx (fun j y hy hj p q hpq => by
    have h1 := hno j y hy hj
    simp only [isP, decide_eq_true_eq, decide_eq_false_iff_not] at hpq h1 ⊢
    omega) ha hb hab hc
  exact tabE_mem.2 ⟨a, b, ha, hb, by rw [hs]; exact hc, by rw [hs]; rfl⟩
theorem fewer_cost {L : List Ed} {i : Nat} {x : Ed} {r : Int} {l m : List Rr} (hx : L[i]? = some x) (hno : ∀ j y, L[j]? = some y → j ≠ i → isP 6 (x.1.toNat % 6) (x.2.1.toNat % 6) y = false) (hl : IsFrom (tabN 6) (tabE (tabT 6 L) 6 6) r l) (hm : IsFrom (tabN 6) (tabE (tabT 6 (lessL L i)) 6 6) r m) {p : Rr} (hpm : p ∈ m) : 0 ≤ csL l p.node ∧ csL l p.node ≤ p.cost := by
  have hp := graphOk_pos (tab_graph (n := 6) (by omega) (by omega) L)
  obtain ⟨hn, d, hd, hR⟩ := hm.right p hpm
  obtain ⟨h, hw⟩ := hd.1
  have hw' := hw.mono (tab_sub hx hno)
  obtain ⟨d', hd', hle⟩ := ds_of hp hw'
  obtain ⟨q, hq, hqn⟩ := hl.all _ d' hn hd'
  unfold csL
  cases hf : l.find? (fun r => decide (r.node = p.node)) with
  | none => exact absurd hqn (by simpa using List.find?_eq_none.1 hf q hq)
  | some s =>
    simp only
    have h1 := List.mem_of_find?_eq_some hf
    have h2 : s.node = p.node := by simpa using List.find?_some hf
    obtain ⟨_, d2, hd2, hR2⟩ := hl.right s h1
    rw [h2] at hd2
    have h3 := hd2.uniq hd'
    rw [hR2.cost, hR.cost]
    have := hd'.nonneg hp
    omega
end Go.Proofs.Ytfbojelflplflaa
namespace Go.Proofs.Ytfbojelflplflaa

/-- What a record of an origin tells of a neighbour. -/
def costF : List Rc → Int → Int → Int
  | [], _, _ => 0
  | r :: rs, a, b => if r.origin = a then (match r.adjs.find? fun x => decide (x.1 = b) with | some x => x.2 | none => costF rs a b) else costF rs a b
theorem costF_cons_ne {r : Rc} {rs : List Rc} {a b : Int} (h : r.origin ≠ a) : costF (r :: rs) a b = costF rs a b := by simp [costF, h]

def pickN (rs : List Rc) (n : Int) : List Int := (rs.filter fun r => decide (r.origin = n)).map fun _ => n
theorem pickN_yes {rs : List Rc} {r : Rc} {n : Int} (h : r.origin = n) : pickN (rs ++ [r]) n = pickN rs n ++ [n] := by simp [pickN, List.filter_append, h]
theorem pickN_no {rs : List Rc} {r : Rc} {n : Int} (h : r.origin ≠ n) : pickN (rs ++ [r]) n = pickN rs n := by simp [pickN, List.filter_append, h]
theorem pickN_len (rs : List Rc) (n : Int) : (pickN rs n).length ≤ rs.length := by unfold pickN; rw [List.length_map]; exact List.length_filter_le _ _
theorem pickN_none {rs : List Rc} {n : Int} (h : ∀ r ∈ rs, r.origin ≠ n) : pickN rs n = [] := by
  unfold pickN
  rw [List.map_eq_nil_iff, List.filter_eq_nil_iff]
  intro r hr
  simpa using h r hr
theorem Unl.tail {r : Rc} {rs : List Rc} (h : Unl (r :: rs)) : Unl rs := ⟨fun x hx => h.1 x (by simp [hx]), (List.pairwise_cons.1 h.2).2⟩
theorem Unl.ne {r x : Rc} {rs : List Rc} (h : Unl (r :: rs)) (hx : x ∈ rs) : r.origin ≠ x.origin := fun e => (List.pairwise_cons.1 h.2).1 x hx (by rw [e])
theorem pickN_one : ∀ {rs : List Rc} {r : Rc}, Unl rs → r ∈ rs → pickN rs r.origin = [r.origin]
  | [], r, _, h => by simp at h
  | q :: rs, r, hu, h => by
    rcases List.mem_cons.1 h with rfl | h
    · have := pickN_none (rs := rs) (n := r.origin) fun x hx e => hu.ne hx e.symm
      unfold pickN at this ⊢
      rw [List.filter_cons]
      simp only [decide_true, if_true, List.map_cons, this]
    · have h1 := pickN_one hu.tail h
      have h2 := hu.ne h
      unfold pickN at h1 ⊢
      rw [List.filter_cons]
      simp only [decide_eq_true_eq, h2, if_false]
      exact h1
theorem pickN_there {rs : List Rc} (hu : Unl rs) (n : Nat) : pickN rs (n : Int) = if thereL no1 rs n = true then [(n : Int)] else [] := by
  by_cases h : thereL no1 rs n = true
  · rw [if_pos h]
    rcases (thereL_iff rs no1 n).1 h with h | ⟨r, hr, e⟩
    · simp [no1] at h
    · have h1 := (recOk_parts (hu.1 r hr)).1
      have h2 : r.origin = (n : Int) := by omega
      rw [← h2]
      exact pickN_one hu hr
  · rw [if_neg h]
    refine pickN_none fun r hr e => h ((thereL_iff rs no1 n).2 (.inr ⟨r, hr, by omega⟩))
def outN (rs : List Rc) (n : Nat) : List Int := (List.range n).flatMap fun (m : Nat) => pickN rs (m : Int)
theorem outN_succ (rs : List Rc) (n : Nat) : outN rs (n + 1) = outN rs n ++ pickN rs (n : Int) := by simp [outN, List.range_succ, List.flatMap_append]
theorem outN_len (rs : List Rc) : ∀ n, (outN rs n).length ≤ n * rs.length
  | 0 => by simp [outN]
  | n + 1 => by
    rw [outN_succ, List.length_append, Nat.succ_mul]
    have h1 := outN_len rs n
    have h2 := pickN_len rs n
    omega
theorem outN_one {rs : List Rc} (hu : Unl rs) : outN rs 1 = [] := by
  rw [outN_succ]
  show [] ++ pickN rs _ = []
  rw [List.nil_append]
  exact pickN_none fun r hr e => by have := (recOk_parts (hu.1 r hr)).1; omega
theorem flat_if (f : Nat → Bool) : ∀ l : List Nat, (l.flatMap fun m => if f m = true then [(m : Int)] else []) = (l.filter f).map fun (i : Nat) => (i : Int)
  | [] => rfl
  | x :: l => by
    rw [List.flatMap_cons, flat_if f l, List.filter_cons]
    by_cases h : f x = true <;> simp [h]
theorem outN_both {rs : List Rc} (hu : Unl rs) : outN rs 25 = bothN rs := by
  unfold outN bothN markedL
  rw [← flat_if]
  congr 1
  funext m
  exact pickN_there hu m
theorem unl_len {rs : List Rc} (hu : Unl rs) : rs.length ≤ 25 := by
  rw [← bothN_len hu]
  unfold bothN markedL
  rw [List.length_map]
  exact Nat.le_trans (List.length_filter_le _ _) (by simp)
def rowI (c : Int → Int → Int) (a : Int) (l : List Int) : List Ed := (l.filter fun b => decide (0 < c a b) && decide (0 < c b a)).map fun b => (a, b, c a b)
def outI (c : Int → Int → Int) (ns l : List Int) : List Ed := l.flatMap fun a => rowI c a ns
theorem rowI_yes {c : Int → Int → Int} {a b : Int} {l : List Int} (h1 : 0 < c a b) (h2 : 0 < c b a) : rowI c a (l ++ [b]) = rowI c a l ++ [(a, b, c a b)] := by simp [rowI, List.filter_append, h1, h2]
theorem rowI_no {c : Int → Int → Int} {a b : Int} {l : List Int} (h : ¬ (0 < c a b ∧ 0 < c b a)) : rowI c a (l ++ [b]) = rowI c a l := by
  have : (decide (0 < c a b) && decide (0 < c b a)) = false := by simpa using h
  simp only [rowI, List.filter_append, List.filter_cons, this, List.filter_nil]
  simp
theorem rowI_len (c : Int → Int → Int) (a : Int) (l : List Int) : (rowI c a l).length ≤ l.length := by unfold rowI; rw [List.length_map]; exact List.length_filter_le _ _
theorem outI_snoc (c : Int → Int → Int) (ns l : List Int) (a : Int) : outI c ns (l ++ [a]) = outI c ns l ++ rowI c a ns := by simp [outI, List.flatMap_append]
theorem outI_len (c : Int → Int → Int) (ns : List Int) : ∀ l : List Int, (outI c ns l).length ≤ l.length * ns.length
  | [] => by simp [outI]
  | a :: l => by
    have h1 := outI_len c ns l
    have h2 := rowI_len c a ns
    unfold outI at h1 ⊢
    rw [List.flatMap_cons, List.length_append, List.length_cons, Nat.succ_mul]
    omega
theorem find_adj : ∀ {ad : List (Int × Int)} {o last : Int} {x : Int × Int}, adjsOk o last ad = true → x ∈ ad → (ad.find? fun y => decide (y.1 = x.1)) = some x
  | [], _, _, _, _, h => by simp at h
  | a :: ad, o, last, x, hk, h => by
    have hk' := hk
    simp only [adjsOk, Bool.and_eq_true] at hk
    rcases List.mem_cons.1 h with rfl | h
    · simp
    · have h1 := adjsOk_all o ad a.1 hk.2 x h
      have h2 : ¬ a.1 = x.1 := by omega
      rw [List.find?_cons]
      simp only [h2, decide_false]
      exact find_adj hk.2 h
theorem costF_at : ∀ {rs : List Rc}, Unl rs → ∀ r ∈ rs, ∀ x ∈ r.adjs, costF rs r.origin x.1 = x.2
  | [], _, r, hr, _, _ => by simp at hr
  | q :: rs, hu, r, hr, x, hx => by
    rcases List.mem_cons.1 hr with rfl | hr
    · unfold costF
      rw [if_pos rfl, find_adj (recOk_parts (hu.1 r (by simp))).2.2 hx]
    · rw [costF_cons_ne (hu.ne hr)]
      exact costF_at hu.tail r hr x hx
theorem costF_from : ∀ {rs : List Rc} {a b : Int}, costF rs a b ≠ 0 → ∃ r ∈ rs, ∃ x ∈ r.adjs, r.origin = a ∧ x.1 = b
  | [], _, _, h => absurd rfl h
  | q :: rs, a, b, h => by
    unfold costF at h
    by_cases h1 : q.origin = a
    · rw [if_pos h1] at h
      cases h2 : q.adjs.find? fun x => decide (x.1 = b) with
      | some x => exact ⟨q, by simp, x, List.mem_of_find?_eq_some h2, h1, by have := List.find?_some h2; simpa using this⟩
      | none =>
        rw [h2] at h
        obtain ⟨r, hr, x, hx, e⟩ := costF_from h
        exact ⟨r, by simp [hr], x, hx, e⟩
    · rw [if_neg h1] at h
      obtain ⟨r, hr, x, hx, e⟩ := costF_from h
      exact ⟨r, by simp [hr], x, hx, e⟩
theorem isCost_F {rs : List Rc} (hu : Unl rs) : IsCost rs fun i j => costF rs (i : Int) (j : Int) := by
  refine ⟨fun r hr x hx => ?_, fun i j h => ?_⟩
  · have h1 := (recOk_parts (hu.1 r hr)).1
    have h2 := recOk_adj (hu.1 r hr) hx
    show costF rs (r.origin.toNat : Int) (x.1.toNat : Int) = x.2
    rw [Int.toNat_of_nonneg (by omega), Int.toNat_of_nonneg (by omega)]
    exact costF_at hu r hr x hx
  · obtain ⟨r, hr, x, hx, e1, e2⟩ := costF_from h
    exact ⟨r, hr, x, hx, by omega, by omega⟩
theorem flat_filter {α : Type} (f : Nat → Bool) (g : Nat → List α) (h : ∀ a, f a = false → g a = []) : ∀ l : List Nat, (l.filter f).flatMap g = l.flatMap g
  | [] => rfl
  | x :: l => by
    rw [List.filter_cons, List.flatMap_cons]
    by_cases hx : f x = true
    · rw [if_pos hx, List.flatMap_cons, flat_filter f g h l]
    · rw [if_neg hx, flat_filter f g h l, h x (by simpa using hx)]; rfl
theorem rowI_cast (c : Int → Int → Int) (a : Nat) : ∀ l : List Nat, rowI c (a : Int) (l.map fun (i : Nat) => (i : Int)) = rowE (fun i j => c (i : Int) (j : Int)) a l
  | [] => rfl
  | x :: l => by
    have h := rowI_cast c a l
    unfold rowI rowE at h ⊢
    rw [List.map_cons, List.filter_cons, List.filter_cons]
    by_cases hx : (decide (0 < c (a : Int) (x : Int)) && decide (0 < c (x : Int) (a : Int))) = true
    · rw [if_pos hx, if_pos hx, List.map_cons, List.map_cons, h]
    · rw [if_neg hx, if_neg hx, h]
theorem rowE_filter {c : Nat → Nat → Int} {f : Nat → Bool} {a : Nat} (h : ∀ b, 0 < c b a → f b = true) (l : List Nat) : rowE c a (l.filter f) = rowE c a l := by
  unfold rowE
  rw [List.filter_filter]
  congr 1
  refine List.filter_congr fun b _ => ?_
  by_cases h2 : 0 < c b a
  · simp [h b h2]
  · simp [h2]
theorem rowE_none {c : Nat → Nat → Int} {a : Nat} (h : ∀ b, ¬ 0 < c a b) (l : List Nat) : rowE c a l = [] := by
  unfold rowE
  rw [List.map_eq_nil_iff, List.filter_eq_nil_iff]
  intro b _
  simp [h b]
theorem outI_both {rs : List Rc} (hu : Unl rs) : outI (costF rs) (bothN rs) (bothN rs) = bothE rs := by
  have hc := isCost_F hu
  have hp := isCost_pos hc hu
  have h1 : bothE rs = laidE fun i j => costF rs (i : Int) (j : Int) := laidE_congr ((isCost_of hu).same hc fun _ => Iff.rfl)
  rw [h1]
  unfold outI laidE
  have h2 : ∀ a : Nat, rowI (costF rs) (a : Int) (bothN rs) = rowE (fun i j => costF rs (i : Int) (j : Int)) a (List.range 25) := fun a => by
    unfold bothN markedL
    rw [rowI_cast, rowE_filter]
    intro b hb
    rcases hp b a with h | h
    · rw [h] at hb; omega
    · exact h.2.2.2.2.2.2.2
  have h3 : (bothN rs).flatMap (fun a => rowI (costF rs) a (bothN rs)) = ((List.range 25).filter (thereL no1 rs)).flatMap fun (a : Nat) => rowI (costF rs) (a : Int) (bothN rs) := by
    show (((List.range 25).filter (thereL no1 rs)).map fun (i : Nat) => (i : Int)).flatMap (fun a => rowI (costF rs) a (bothN rs)) = _
    rw [List.flatMap_map]
  rw [h3]
  have h4 : (fun a : Nat => rowI (costF rs) (a : Int) (bothN rs)) = fun a => rowE (fun i j => costF rs (i : Int) (j : Int)) a (List.range 25) := funext h2
  rw [h4]
  refine flat_filter _ _ (fun a ha => rowE_none (fun b hb => ?_) _) _
  rcases hp a b with h | h
  · rw [h] at hb; omega
  · rw [h.2.2.2.2.2.2.2] at ha; cases ha
end Go.Proofs.Ytfbojelflplflaa
namespace Go.Proofs.Ytfbojelflplflaa

def less1 (r : Rc) (k : Nat) : Rc := { r with adjs := r.adjs.take k ++ r.adjs.drop (k + 1) }
def npE (o g : Int) (e : Ed) : Bool := !((decide (e.1 = o) && decide (e.2.1 = g)) || (decide (e.2.1 = o) && decide (e.1 = g)))
theorem adjsOk_weak {o last last' : Int} (h : last ≤ last') : ∀ {ad : List (Int × Int)}, adjsOk o last' ad = true → adjsOk o last ad = true
  | [], _ => rfl
  | a :: ad, hk => by
    simp only [adjsOk, adjOk, Bool.and_eq_true, decide_eq_true_eq] at hk ⊢
    exact ⟨⟨hk.1.1, hk.1.2.1, by omega, hk.1.2.2.2⟩, hk.2⟩
theorem adjsOk_less : ∀ (ad : List (Int × Int)) (k : Nat) (o last : Int), adjsOk o last ad = true → adjsOk o last (ad.take k ++ ad.drop (k + 1)) = true
  | [], k, o, last, _ => by simp [adjsOk]
  | a :: ad, 0, o, last, h => by
    simp only [adjsOk, adjOk, Bool.and_eq_true, decide_eq_true_eq] at h
    show adjsOk o last ad = true
    exact adjsOk_weak (by omega) h.2
  | a :: ad, k + 1, o, last, h => by
    simp only [adjsOk, Bool.and_eq_true] at h
    show (adjOk o last a && adjsOk o a.1 (ad.take k ++ ad.drop (k + 1))) = true
    rw [h.1, adjsOk_less ad k o a.1 h.2]
    rfl
theorem less_len (ad : List (Int × Int)) (k : Nat) : (ad.take k ++ ad.drop (k + 1)).length ≤ ad.length := by
  rw [List.length_append, List.length_take, List.length_drop]
  omega
theorem recOk_less {r : Rc} (h : recOk r = true) (k : Nat) : recOk (less1 r k) = true := by
  simp only [recOk, less1, Bool.and_eq_true, decide_eq_true_eq] at h ⊢
  have := less_len r.adjs k
  exact ⟨h.1, decide_eq_true h.2.1, decide_eq_true h.2.2.1, decide_eq_true h.2.2.2.1, decide_eq_true h.2.2.2.2.1, decide_eq_true (Nat.le_trans this h.2.2.2.2.2.1), adjsOk_less _ _ _ _ h.2.2.2.2.2.2⟩
theorem less_ne : ∀ (ad : List (Int × Int)) (k : Nat) (o last : Int) (y : Int × Int), adjsOk o last ad = true → ad[k]? = some y → ∀ x ∈ ad.take k ++ ad.drop (k + 1), x ∈ ad ∧ x.1 ≠ y.1
  | [], k, o, last, y, _, h, _, _ => by simp at h
  | a :: ad, 0, o, last, y, hk, h, x, hx => by
    simp at h
    subst h
    have hx' : x ∈ ad := hx
    simp only [adjsOk, Bool.and_eq_true] at hk
    have := adjsOk_all o ad a.1 hk.2 x hx'
    exact ⟨by simp [hx'], by omega⟩
  | a :: ad, k + 1, o, last, y, hk, h, x, hx => by
    have h' : ad[k]? = some y := by simpa using h
    simp only [adjsOk, Bool.and_eq_true] at hk
    have hx' : x ∈ a :: (ad.take k ++ ad.drop (k + 1)) := hx
    rcases List.mem_cons.1 hx' with rfl | hx'
    · have := adjsOk_all o ad x.1 hk.2 y (List.mem_of_getElem? h')
      exact ⟨by simp, by omega⟩
    · have := less_ne ad k o a.1 y hk.2 h' x hx'
      exact ⟨by simp [this.1], this.2⟩
theorem less_mem {α : Type} : ∀ {ad : List α} {k : Nat} {y x : α}, ad[k]? = some y → x ∈ ad → x ≠ y → x ∈ ad.take k ++ ad.drop (k + 1)
  | [], k, y, x, h, _, _ => by simp at h
  | a :: ad, 0, y, x, h, hx, hn => by
    simp at h
    subst h
    rcases List.mem_cons.1 hx with h | h
    · exact absurd h hn
    · exact h
  | a :: ad, k + 1, y, x, h, hx, hn => by
    show x ∈ a :: (ad.take k ++ ad.drop (k + 1))
    rcases List.mem_cons.1 hx with h1 | h1
    · rw [h1]; simp
    · exact List.mem_cons_of_mem _ (less_mem (by simpa using h) h1 hn)
theorem unl_ne {rs : List Rc} {i j : Nat} {a b : Rc} (hu : Unl rs) (h1 : rs[i]? = some a) (h2 : rs[j]? = some b) (h3 : i ≠ j) : a.origin.toNat ≠ b.origin.toNat := by
  obtain ⟨hi, e1⟩ := List.getElem?_eq_some_iff.1 h1
  obtain ⟨hj, e2⟩ := List.getElem?_eq_some_iff.1 h2
  rcases Nat.lt_or_gt_of_ne h3 with h | h
  · have h := List.pairwise_iff_getElem.1 hu.2 i j hi hj h
    rw [e1, e2] at h
    exact h
  · have h := List.pairwise_iff_getElem.1 hu.2 j i hj hi h
    rw [e1, e2] at h
    exact fun e => h e.symm
theorem unl_set {rs : List Rc} {i : Nat} {r : Rc} (hu : Unl rs) (hr : rs[i]? = some r) (k : Nat) : Unl (rs.set i (less1 r k)) := by
  obtain ⟨hi, e1⟩ := List.getElem?_eq_some_iff.1 hr
  refine ⟨fun x hx => ?_, ?_⟩
  · rcases List.mem_or_eq_of_mem_set hx with h | h
    · exact hu.1 x h
    · rw [h]; exact recOk_less (hu.1 r (List.mem_of_getElem? hr)) k
  · have h1 : ∀ l : List Rc, (l.Pairwise fun a b => a.origin.toNat ≠ b.origin.toNat) ↔ (l.map fun a => a.origin.toNat).Pairwise (· ≠ ·) := fun l => by rw [List.pairwise_map]
    rw [h1, List.map_set]
    have h2 : (rs.map fun a => a.origin.toNat).set i ((less1 r k).origin.toNat) = rs.map fun a => a.origin.toNat := by
      apply List.ext_getElem?
      intro m
      rw [List.getElem?_set]
      by_cases hm : i = m
      · subst hm
        rw [if_pos rfl, if_pos (by simpa using hi), List.getElem?_map, hr]
        rfl
      · rw [if_neg hm]
    rw [h2, ← h1]
    exact hu.2
theorem set_mem {rs : List Rc} {i : Nat} {r a x : Rc} (hu : Unl rs) (hr : rs[i]? = some r) (hx : x ∈ rs.set i a) : x = a ∨ (x ∈ rs ∧ x.origin.toNat ≠ r.origin.toNat) := by
  obtain ⟨m, hm⟩ := List.getElem?_of_mem hx
  rw [List.getElem?_set] at hm
  by_cases h : i = m
  · subst h
    rw [if_pos rfl] at hm
    by_cases hl : i < rs.length
    · rw [if_pos hl] at hm
      simp at hm
      exact .inl hm.symm
    · rw [if_neg hl] at hm; cases hm
  · rw [if_neg h] at hm
    exact .inr ⟨List.mem_of_getElem? hm, unl_ne hu hm hr (fun e => h e.symm)⟩
theorem isCost_less {rs : List Rc} {i k : Nat} {r : Rc} {y : Int × Int} (hu : Unl rs) (hr : rs[i]? = some r) (hy : r.adjs[k]? = some y) : IsCost (rs.set i (less1 r k)) fun a b => if a = r.origin.toNat ∧ b = y.1.toNat then 0 else costL no2 rs a b := by
  have hc := isCost_of hu
  have hm := List.mem_of_getElem? hr
  have hi := (List.getElem?_eq_some_iff.1 hr).1
  have hro := recOk_parts (hu.1 r hm)
  have hyb := recOk_adj (hu.1 r hm) (List.mem_of_getElem? hy)
  refine ⟨fun q hq x hx => ?_, fun a b h => ?_⟩
  · rcases set_mem hu hr hq with h | ⟨h1, h2⟩
    · subst h
      have hl := less_ne r.adjs k r.origin 0 y hro.2.2 hy x hx
      have hxb := recOk_adj (hu.1 r hm) hl.1
      show (if r.origin.toNat = r.origin.toNat ∧ x.1.toNat = y.1.toNat then 0 else costL no2 rs r.origin.toNat x.1.toNat) = x.2
      rw [if_neg (fun e => hl.2 (by have := e.2; omega))]
      exact hc.at' r hm x hl.1
    · show (if q.origin.toNat = r.origin.toNat ∧ x.1.toNat = y.1.toNat then 0 else costL no2 rs q.origin.toNat x.1.toNat) = x.2
      rw [if_neg (fun e => h2 e.1)]
      exact hc.at' q h1 x hx
  · by_cases hab : a = r.origin.toNat ∧ b = y.1.toNat
    · rw [if_pos hab] at h; exact absurd rfl h
    · rw [if_neg hab] at h
      obtain ⟨q, hq, x, hx, e1, e2⟩ := hc.from' a b h
      obtain ⟨m, hmq⟩ := List.getElem?_of_mem hq
      by_cases him : i = m
      · subst him
        rw [hr] at hmq
        simp at hmq
        subst hmq
        refine ⟨less1 r k, List.mem_of_getElem? (i := i) (by rw [List.getElem?_set, if_pos rfl, if_pos hi]), x, ?_, e1, e2⟩
        exact less_mem hy hx (fun e => hab ⟨e1.symm, by rw [← e2, e]⟩)
      · exact ⟨q, List.mem_of_getElem? (i := m) (by rw [List.getElem?_set, if_neg him]; exact hmq), x, hx, e1, e2⟩
theorem rowE_less {c c' : Nat → Nat → Int} {o g : Nat} (h : ∀ a b, c' a b = if a = o ∧ b = g then 0 else c a b) (a : Nat) : ∀ l : List Nat, rowE c' a l = (rowE c a l).filter (npE (o : Int) (g : Int))
  | [] => rfl
  | b :: l => by
    have ih := rowE_less h a l
    unfold rowE at ih ⊢
    rw [List.filter_cons, List.filter_cons]
    have h1 := h a b
    have h2 := h b a
    have hn : npE (o : Int) (g : Int) ((a : Int), (b : Int), c a b) = !((decide (a = o) && decide (b = g)) || (decide (b = o) && decide (a = g))) := by
      unfold npE
      have e : ∀ p q : Nat, decide ((p : Int) = (q : Int)) = decide (p = q) := fun p q => by
        by_cases hpq : p = q
        · simp [hpq]
        · have : ¬ (p : Int) = (q : Int) := by omega
          simp [hpq, this]
      simp only [e]
    by_cases k1 : 0 < c a b ∧ 0 < c b a
    · rw [if_pos (show (decide (0 < c a b) && decide (0 < c b a)) = true by simpa using k1), List.map_cons, List.filter_cons, hn]
      by_cases p1 : a = o ∧ b = g
      · rw [if_pos p1] at h1
        rw [if_neg (by simp [h1]), if_neg (by simp [p1.1, p1.2])]
        exact ih
      · rw [if_neg p1] at h1
        by_cases p2 : b = o ∧ a = g
        · rw [if_pos p2] at h2
          rw [if_neg (by simp [h2]), if_neg (by simp [p2.1, p2.2])]
          exact ih
        · rw [if_neg p2] at h2
          rw [if_pos (by rw [h1, h2]; simpa using k1), if_pos (by
            have q1 : (decide (a = o) && decide (b = g)) = false := by simpa using p1
            have q2 : (decide (b = o) && decide (a = g)) = false := by simpa using p2
            rw [q1, q2]; rfl), List.map_cons, ih, h1]
    · rw [if_neg (show ¬ (decide (0 < c a b) && decide (0 < c b a)) = true by simpa using k1), if_neg (by
        intro hk
        simp at hk
        refine k1 ⟨?_, ?_⟩
        · have := hk.1; rw [h1] at this; split at this <;> omega
        · have := hk.2; rw [h2] at this; split at this <;> omega)]
      exact ih
theorem laidE_less {c c' : Nat → Nat → Int} {o g : Nat} (h : ∀ a b, c' a b = if a = o ∧ b = g then 0 else c a b) : laidE c' = (laidE c).filter (npE (o : Int) (g : Int)) := by
  unfold laidE
  rw [List.filter_flatMap]
  congr 1
  funext a
  exact rowE_less h a _
theorem less_all {rs : List Rc} {i k : Nat} {r : Rc} {y : Int × Int} (hu : Unl rs) (hr : rs[i]? = some r) (hy : r.adjs[k]? = some y) : bothOk no1 (rs.set i (less1 r k)) = true ∧ bothE (rs.set i (less1 r k)) = (bothE rs).filter (npE r.origin y.1) ∧ (bothN (rs.set i (less1 r k))).length = rs.length := by
  have hu' := unl_set hu hr k
  have hm := List.mem_of_getElem? hr
  have hro := (recOk_parts (hu.1 r hm)).1
  have hyb := recOk_adj (hu.1 r hm) (List.mem_of_getElem? hy)
  refine ⟨both_unl.2 hu', ?_, by rw [bothN_len hu', List.length_set]⟩
  have h1 := laidE_less (c := costL no2 rs) (c' := costL no2 (rs.set i (less1 r k))) (o := r.origin.toNat) (g := y.1.toNat) ((isCost_of hu').same (isCost_less hu hr hy) fun _ => Iff.rfl)
  rw [Int.toNat_of_nonneg (by omega), Int.toNat_of_nonneg (by omega)] at h1
  exact h1
theorem hasE_less {E : List Ed} {o g : Int} {e : Ed} (he : e ∈ E) : hasE (E.filter (npE o g)) e.1 e.2.1 = npE o g e := by
  cases h : npE o g e with
  | true => exact hasE_iff.2 ⟨e, List.mem_filter.2 ⟨he, h⟩, rfl, rfl⟩
  | false =>
    cases h2 : hasE (E.filter (npE o g)) e.1 e.2.1 with
    | false => rfl
    | true =>
      obtain ⟨x, hx, h3, h4⟩ := hasE_iff.1 h2
      have h5 := (List.mem_filter.1 hx).2
      unfold npE at h h5
      rw [h3, h4, h] at h5
      cases h5
end Go.Proofs.Ytfbojelflplflaa
namespace Go.Proofs.Ytfbojelflplflaa
open Go.RowKit

theorem rrouter_any (n : Int) (w : World) : Calls Try.prog 52 #[.int .i64 n] w fun e w' => e = .returned (.bool (isR n)) ∧ Below w.heap.size w w' := by
  by_cases h1 : 1 ≤ n
  · by_cases h2 : n ≤ 24
    · go_enter Try.func52, Try.ntmps52
      go_wp2
      go_ret
      exact ⟨by simp [isR, h1, h2], Below.refl _ _⟩
    · go_enter Try.func52, Try.ntmps52
      go_wp2
      go_ret
      exact ⟨by simp [isR, h1]; omega, Below.refl _ _⟩
  · go_enter Try.func52, Try.ntmps52
    go_wp2
    go_ret
    exact ⟨by simp [isR]; omega, Below.refl _ _⟩
set_option maxRecDepth 100000 in
theorem rhas_any {zs : List Int} {v : Value} {w : World} (hv : SlAt ic 1 w v zs) (n : Int) :
    Calls Try.prog 53 #[v, .int .i64 n] w fun e w' => e = .returned (.bool (hasN zs n)) ∧ w' = w := by
  obtain ⟨a, cap, rfl, hl, _, hat⟩ := hv.ints
  have Ha := hidIn hat
  clear hat hv
  go_enter Try.func53, Try.ntmps53
  go_wp2
  go_loopw [5] (fun i wr => wr = w ∧ ∃ k : Nat, k ≤ zs.length ∧ i = .int .i64 k ∧ Hid (hasN zs n = hasN (zs.drop k) n)) (fun i _ => zs.length - (intOf i).toNat)
  case atStart => exact ⟨rfl, 0, Nat.zero_le _, rfl, hidIn (by rw [List.drop_zero])⟩
  case round =>
    obtain ⟨hwr, k, hk, rfl, HH⟩ := hrel
    rw [hwr]
    clear hwr
    by_cases hlt : k < zs.length
    · obtain ⟨bk, o, rfl, hbk, hcell⟩ := Ha.out (by omega)
      obtain ⟨z, hz⟩ : ∃ z, zs[k]? = some z := ⟨zs[k], List.getElem?_eq_getElem hlt⟩
      have hc := hcell k z hz
      have HN := hidIn (hasN_drop (n := n) hz)
      clear hcell hz
      have hki : (k : Int) < (zs.length : Int) := by omega
      by_cases hzn : z = n
      · have hq : (z == n) = true := by simpa using hzn
        have Hz := hidIn hzn
        clear hzn
        go_wp2
        go_returns
        exact ⟨by rw [HH.out, HN.out]; simp [Hz.out], rfl⟩
      · have hne : (z == n) = false := by simpa using hzn
        have Hz := hidIn hzn
        clear hzn
        go_wp2
        go_roundw
        case rel => exact ⟨trivial, k + 1, by omega, by go_num, hidIn (by rw [HH.out, HN.out]; simp [Hz.out])⟩
        case measure => simp [intOf]; omega
    · have hki : ¬ ((k : Int) < (zs.length : Int)) := by omega
      have hke : k = zs.length := by omega
      go_wp2
      go_returns
      refine ⟨?_, rfl⟩
      rw [HH.out, hke, List.drop_length]
      rfl
def lastN (ns : List Int) : Nat → Int
  | 0 => 0
  | k + 1 => ns[k]?.getD 0
def lastE (es : List Ed) : Nat → Ed
  | 0 => (0, 0, 0)
  | k + 1 => es[k]?.getD (0, 0, 0)
def ckC (ns : List Int) (es : List Ed) : Int := if graphOk ns es = true then 0 else 2
theorem ckC_no {ns : List Int} {es : List Ed} (h : graphOk ns es = false) : ckC ns es = 2 := by unfold ckC; rw [h]; rfl
theorem ckC_yes {ns : List Int} {es : List Ed} (h : graphOk ns es = true) : ckC ns es = 0 := by unfold ckC; rw [h]; rfl
set_option maxRecDepth 100000 in
set_option maxHeartbeats 2000000 in
theorem rcheck_any {ns : List Int} {es : List Ed} {vn ve : Value} {w : World} (h : GrAt w vn ve ns es) :
    Calls Try.prog 33 #[grV vn ve] w fun e w' => e = .returned (.int .i64 (ckC ns es)) ∧ Below w.heap.size w w' := by
  obtain ⟨na, nca, rfl, hnl, _, hna⟩ := h.n.ints
  obtain ⟨ea, eca, rfl, hel, _, hea⟩ := h.e.eds
  have Hna := hidIn hna
  have Hea := hidIn hea
  have Hn := hidIn h.n
  clear hna hea h
  obtain ⟨W1, hW1⟩ : ∃ W1, w.alloc (.cells #[.slice na ns.length nca, .slice ea es.length eca] 25) = W1 := ⟨_, rfl⟩
  have bA : Below w.heap.size w W1 := by rw [← hW1]; exact (Below.refl _ w).alloc (Nat.le_refl _) _
  have hGB : W1.heap[w.heap.size]? = some (.cells #[.slice na ns.length nca, .slice ea es.length eca] 25) := by rw [← hW1]; exact heap_alloc_last w _
  have hlt0 := block_lt hGB
  have HF : Hid (∀ wq, Below W1.heap.size W1 wq → (wq.cell? ⟨w.heap.size, 0, none⟩ = some (.slice na ns.length nca) ∧ wq.cell? ⟨w.heap.size, 1, none⟩ = some (.slice ea es.length eca)) ∧ Below w.heap.size w wq) := hidIn fun wq h => by
    have j0 := (h.block _ hlt0).trans hGB
    exact ⟨⟨cell_of_row _ _ 0 _ _ _ j0, cell_of_row _ _ 1 _ _ _ j0⟩, bA.trans (h.mono bA.size)⟩
  have HW := hidIn hW1
  clear hW1 bA hGB
  go_enter Try.func33, Try.ntmps33
  go_upto_region 1 with fail
  rw [HW.out]
  clear HW
  go_wp2_with fail
  go_loopw [3] (fun i wr => ∃ k : Nat, k ≤ ns.length ∧ i = .int .i64 k ∧ Hid (Below W1.heap.size W1 wr ∧ nodesOk 0 ns = nodesOk (lastN ns k) (ns.drop k))) (fun i _ => ns.length - (intOf i).toNat)
  case atStart => exact ⟨0, Nat.zero_le _, rfl, hidIn ⟨Below.refl _ _, by rw [List.drop_zero]; rfl⟩⟩
  case round =>
    obtain ⟨k, hk, rfl, HR⟩ := hrel
    obtain ⟨hbel, hrest⟩ := HR.out
    have HB := hidIn hbel
    have HE := hidIn hrest
    clear HR hbel hrest
    obtain ⟨⟨f0, f1⟩, hbw⟩ := HF.out wr HB.out
    by_cases hlt : k < ns.length
    · obtain ⟨bk, o, rfl, hbk, hcell⟩ := Hna.out (by omega)
      obtain ⟨z, hz⟩ : ∃ z, ns[k]? = some z := ⟨ns[k], List.getElem?_eq_getElem hlt⟩
      have HN : Hid (nodesOk 0 ns = (isR z && (decide (lastN ns k < z) && nodesOk (lastN ns (k + 1)) (ns.drop (k + 1))))) := hidIn (by rw [HE.out, drop_next hz, nodesOk, lastN, hz]; rfl)
      have c0 := (hbw.cell (p := ⟨bk, o + k, none⟩) hbk).trans (hcell k z hz)
      have hki : (k : Int) < (ns.length : Int) := by omega
      obtain ⟨b1, hb1⟩ : ∃ b1, isR z = b1 := ⟨_, rfl⟩
      have HRt : Hid (∀ d os, Calls Try.prog 52 #[.int .i64 z] (Go.Sort.grow (redrawn wr d) os) fun e w' => e = .returned (.bool b1) ∧ Below (Go.Sort.grow (redrawn wr d) os).heap.size (Go.Sort.grow (redrawn wr d) os) w') := hidIn fun d os => by rw [← hb1]; exact rrouter_any z _
      have Hb1 := hidIn hb1
      have r0 := cell_regrown c0
      have r1 := cell_regrown f0
      clear hb1 hz
      cases b1
      · go_upto_region 4 with fail
        clear c0 f0 f1 hcell
        refine wp_region_quiet_below (by kernel_rfl) (by kernel_rfl) ?_
        repeat (go_big_quiet_step (first | (go_at_call 52; exact Calls.regrown_of (HRt.out _ _))))
        refine wpQuiet_nil ?_
        intro _ hw'
        obtain ⟨⟨dq, osq⟩, hw''⟩ := hw'
        subst hw''
        have HB4 := hidIn (hbw.trans ((below_regrown wr dq osq).mono hbw.size))
        generalize Go.Sort.grow (redrawn wr dq) osq = W4 at HB4 ⊢
        clear r0 r1 HRt
        go_wp2_with fail
        go_returns
        exact ⟨by rw [ckC_no (by unfold graphOk; rw [HN.out, Hb1.out]; rfl)]; rfl, HB4.out⟩
      · cases k with
        | zero =>
          simp only [Nat.add_zero] at r0
          go_upto_region 4 with fail
          clear c0 f0 f1 hcell
          refine wp_region_quiet_below (by kernel_rfl) (by kernel_rfl) ?_
          repeat (go_big_quiet_step (first | (go_at_call 52; exact Calls.regrown_of (HRt.out _ _))))
          refine wpQuiet_nil ?_
          intro _ hw'
          obtain ⟨⟨dq, osq⟩, hw''⟩ := hw'
          subst hw''
          have HB4 := hidIn (HB.out.trans ((below_regrown wr dq osq).mono HB.out.size))
          generalize Go.Sort.grow (redrawn wr dq) osq = W4 at HB4 ⊢
          clear r0 r1 HRt
          go_wp2_with fail
          go_roundw
          case rel =>
            refine ⟨1, by omega, rfl, hidIn ⟨HB4.out, ?_⟩⟩
            have := isR_iff.1 Hb1.out
            have h0 : decide (lastN ns 0 < z) = true := decide_eq_true (show (0 : Int) < z by omega)
            rw [HN.out, Hb1.out, h0]
            rfl
          case measure => simp [intOf]; omega
        | succ j =>
          obtain ⟨y, hy⟩ : ∃ y, ns[j]? = some y := ⟨ns[j], List.getElem?_eq_getElem (by omega)⟩
          have c1 := (hbw.cell (p := ⟨bk, o + j, none⟩) hbk).trans (hcell j y hy)
          have r2 := cell_regrown c1
          have Hl : Hid (lastN ns (j + 1) = y) := hidIn (by rw [lastN, hy]; rfl)
          have wr1 : IntKind.i64.wrap ((j : Int) + 1 - 1) = (j : Int) := by rw [IntKind.wrap_i64]; omega
          have wr2 : IntKind.i64.wrap (j : Int) = (j : Int) := by rw [IntKind.wrap_i64]; omega
          have hj0 : (0 : Int) < (j : Int) + 1 := by omega
          have hj1 : (j : Int) < (ns.length : Int) := by omega
          by_cases hzy : z ≤ y
          · go_upto_region 4 with fail
            clear c0 c1 f0 f1 hcell hy
            refine wp_region_quiet_below (by kernel_rfl) (by kernel_rfl) ?_
            repeat (go_big_quiet_step (first | (go_at_call 52; exact Calls.regrown_of (HRt.out _ _))))
            refine wpQuiet_nil ?_
            intro _ hw'
            obtain ⟨⟨dq, osq⟩, hw''⟩ := hw'
            subst hw''
            have HB4 := hidIn (hbw.trans ((below_regrown wr dq osq).mono hbw.size))
            generalize Go.Sort.grow (redrawn wr dq) osq = W4 at HB4 ⊢
            clear r0 r1 r2 HRt
            go_wp2_with fail
            go_returns
            refine ⟨?_, HB4.out⟩
            have : decide (y < z) = false := by simp; omega
            rw [ckC_no (by unfold graphOk; rw [HN.out, Hb1.out, Hl.out, this]; rfl)]
            rfl
          · have hd : decide (z ≤ y) = false := by simpa using hzy
            go_upto_region 4 with fail
            clear c0 c1 f0 f1 hcell hy
            refine wp_region_quiet_below (by kernel_rfl) (by kernel_rfl) ?_
            repeat (go_big_quiet_step (first | (go_at_call 52; exact Calls.regrown_of (HRt.out _ _))))
            refine wpQuiet_nil ?_
            intro _ hw'
            obtain ⟨⟨dq, osq⟩, hw''⟩ := hw'
            subst hw''
            have HB4 := hidIn (HB.out.trans ((below_regrown wr dq osq).mono HB.out.size))
            generalize Go.Sort.grow (redrawn wr dq) osq = W4 at HB4 ⊢
            clear r0 r1 r2 HRt hd
            go_wp2_with fail
            go_roundw
            case rel =>
              refine ⟨j + 1 + 1, by omega, by go_num, hidIn ⟨HB4.out, ?_⟩⟩
              rw [HN.out, Hb1.out, Hl.out]
              have : decide (y < z) = true := by simp; omega
              rw [this]
              rfl
            case measure => simp [intOf]; omega
    · have hki : ¬ ((k : Int) < (ns.length : Int)) := by omega
      have HT : Hid (nodesOk 0 ns = true) := hidIn (by rw [HE.out, List.drop_eq_nil_of_le (by omega)]; rfl)
      have Hbd : Hid (∀ n ∈ ns, 1 ≤ n) := hidIn fun n hn => (nodesOk_bd ns 0 HT.out n hn).1
      by_cases h384 : es.length ≤ 384
      · have h384' : ¬ (384 : Int) < (es.length : Int) := by omega
        have HG : Hid (graphOk ns es = edgesOk ns (0, 0, 0) es) := hidIn (by unfold graphOk; rw [HT.out]; simp [h384])
        clear HE
        generalize hwo : wr = wo at *
        clear hwo
        go_wp2_with fail
        clear f0 f1 hbw
        go_loopw [4] (fun i wr => ∃ k : Nat, k ≤ es.length ∧ i = .int .i64 k ∧ Hid (Below W1.heap.size W1 wr ∧ edgesOk ns (0, 0, 0) es = edgesOk ns (lastE es k) (es.drop k))) (fun i _ => es.length - (intOf i).toNat)
        case atStart => exact ⟨0, Nat.zero_le _, rfl, hidIn ⟨HB.out, by rw [List.drop_zero]; rfl⟩⟩
        case round =>
          obtain ⟨j, hj, rfl, HR⟩ := hrel
          obtain ⟨hbel, hrest⟩ := HR.out
          have HB2 := hidIn hbel
          have HE := hidIn hrest
          clear HR hbel hrest
          obtain ⟨⟨f0, f1⟩, hbw⟩ := HF.out wr HB2.out
          by_cases hlt : j < es.length
          · obtain ⟨bk, o, rfl, hbk, hcell⟩ := Hea.out (by omega)
            obtain ⟨⟨x, y, c⟩, hz⟩ : ∃ z, es[j]? = some z := ⟨es[j], List.getElem?_eq_getElem hlt⟩
            have HN : Hid (edgesOk ns (0, 0, 0) es = (edgeOk ns (lastE es j) (x, y, c) && edgesOk ns (lastE es (j + 1)) (es.drop (j + 1)))) := hidIn (by rw [HE.out, drop_next hz, edgesOk, lastE, hz]; rfl)
            obtain ⟨q0, q1, q2⟩ := hcell j _ hz
            have c0 := (hbw.cell (p := ⟨bk, o + j * 3, none⟩) hbk).trans q0
            have c1 := (hbw.cell (p := ⟨bk, o + j * 3 + 1, none⟩) hbk).trans q1
            have c2 := (hbw.cell (p := ⟨bk, o + j * 3 + 2, none⟩) hbk).trans q2
            simp only at c0 c1 c2
            have hji : (j : Int) < (es.length : Int) := by omega
            obtain ⟨W5, hW5⟩ : ∃ W5, wr.alloc (.cells #[.int .i64 x, .int .i64 y, .int .i64 c] 54) = W5 := ⟨_, rfl⟩
            have bA : Below wr.heap.size wr W5 := by rw [← hW5]; exact (Below.refl _ wr).alloc (Nat.le_refl _) _
            have hXB : W5.heap[wr.heap.size]? = some (.cells #[.int .i64 x, .int .i64 y, .int .i64 c] 54) := by rw [← hW5]; exact heap_alloc_last wr _
            have x0 : W5.cell? ⟨wr.heap.size, 0, none⟩ = some (.int .i64 x) := cell_of_row _ _ 0 _ _ _ hXB
            have x1 : W5.cell? ⟨wr.heap.size, 1, none⟩ = some (.int .i64 y) := cell_of_row _ _ 1 _ _ _ hXB
            have x2 : W5.cell? ⟨wr.heap.size, 2, none⟩ = some (.int .i64 c) := cell_of_row _ _ 2 _ _ _ hXB
            have HB5 := hidIn (HB2.out.trans (bA.mono HB2.out.size))
            obtain ⟨⟨g0, g1⟩, hbw5⟩ := HF.out W5 HB5.out
            have HH := hidIn (fun n => rhas_any (Hn.out.keep hbw5 (Nat.le_refl _)) n)
            have HW := hidIn hW5
            have HXB := hidIn hXB
            have HY : Hid (0 < j → ∃ p q r, es[j - 1]? = some (p, q, r) ∧ lastE es j = (p, q, r) ∧ W5.cell? ⟨bk, o + (j - 1) * 3, none⟩ = some (.int .i64 p) ∧ W5.cell? ⟨bk, o + (j - 1) * 3 + 1, none⟩ = some (.int .i64 q) ∧ W5.cell? ⟨bk, o + (j - 1) * 3 + 2, none⟩ = some (.int .i64 r)) := hidIn fun h0 => by
              obtain ⟨⟨p, q, r⟩, hp⟩ : ∃ z, es[j - 1]? = some z := ⟨es[j - 1], List.getElem?_eq_getElem (by omega)⟩
              obtain ⟨e0, e1, e2⟩ := hcell (j - 1) _ hp
              refine ⟨p, q, r, hp, ?_, (hbw5.cell (p := ⟨bk, o + (j - 1) * 3, none⟩) hbk).trans e0, (hbw5.cell (p := ⟨bk, o + (j - 1) * 3 + 1, none⟩) hbk).trans e1, (hbw5.cell (p := ⟨bk, o + (j - 1) * 3 + 2, none⟩) hbk).trans e2⟩
              cases j with
              | zero => omega
              | succ j => simp only [Nat.add_sub_cancel] at hp; rw [lastE, hp]; rfl
            clear hcell q0 q1 q2 hz hW5 bA hXB
            go_upto_region 12 with fail
            rw [HW.out]
            clear HW c0 c1 c2 f0 f1 hbw
            by_cases hxy : x = y
            · have hq : (x == y) = true := by simpa using hxy
              have Hxy := hidIn hxy
              clear hxy
              go_wp2_with fail
              go_returns
              exact ⟨by rw [ckC_no (by rw [HG.out, HN.out]; simp [edgeOk, Hxy.out])]; rfl, hbw5⟩
            have hq : (x == y) = false := by simpa using hxy
            go_wp2_with fail
            refine (HH.out x).mono ?_
            rintro e w6 ⟨rfl, hw6⟩
            rw [hw6]
            clear hw6 w6
            obtain ⟨b1, hb1⟩ : ∃ b1, hasN ns x = b1 := ⟨_, rfl⟩
            have Hb1 := hidIn hb1
            rw [hb1]
            clear hb1
            cases b1
            · go_wp2_with fail
              go_returns
              exact ⟨by rw [ckC_no (by rw [HG.out, HN.out]; simp [edgeOk, Hb1.out])]; rfl, hbw5⟩
            go_wp2_with fail
            refine (HH.out y).mono ?_
            rintro e w6 ⟨rfl, hw6⟩
            rw [hw6]
            clear hw6 w6
            obtain ⟨b2, hb2⟩ : ∃ b2, hasN ns y = b2 := ⟨_, rfl⟩
            have Hb2 := hidIn hb2
            rw [hb2]
            clear hb2
            cases b2
            · go_wp2_with fail
              go_returns
              exact ⟨by rw [ckC_no (by rw [HG.out, HN.out]; simp [edgeOk, Hb2.out])]; rfl, hbw5⟩
            by_cases hc1 : c < 1
            · go_wp2_with fail
              go_returns
              have hcc : isC c = false := by simp [isC]; omega
              exact ⟨by rw [ckC_no (by rw [HG.out, HN.out]; simp [edgeOk, hcc])]; rfl, hbw5⟩
            by_cases hc2 : 1000 < c
            · go_wp2_with fail
              go_returns
              have hcc : isC c = false := by simp [isC]; omega
              exact ⟨by rw [ckC_no (by rw [HG.out, HN.out]; simp [edgeOk, hcc])]; rfl, hbw5⟩
            have Hcc : Hid (isC c = true) := hidIn (isC_iff.2 ⟨by omega, by omega⟩)
            cases j with
            | zero =>
              go_wp2_with fail
              go_roundw
              case rel =>
                refine ⟨1, by omega, rfl, hidIn ⟨HB5.out, ?_⟩⟩
                have h1 := Hbd.out x (hasN_iff.1 Hb1.out)
                have h2 : risesE (lastE es 0) (x, y, c) = true := risesE_iff.2 (.inl (show (0 : Int) < x by omega))
                rw [HN.out]
                simp [edgeOk, Hb1.out, Hb2.out, Hcc.out, hxy, h2]
              case measure => simp [intOf]; omega
            | succ i =>
              obtain ⟨p, q, r, _, hl, y0, y1, y2⟩ := HY.out (by omega)
              have Hl := hidIn hl
              simp only [Nat.add_sub_cancel] at y0 y1 y2
              have hi0 : (0 : Int) < (i : Int) + 1 := by omega
              have hi1 : (i : Int) < (es.length : Int) := by omega
              obtain ⟨W7, hW7⟩ : ∃ W7, W5.alloc (.cells #[.int .i64 p, .int .i64 q, .int .i64 r] 54) = W7 := ⟨_, rfl⟩
              have bA7 : Below W5.heap.size W5 W7 := by rw [← hW7]; exact (Below.refl _ W5).alloc (Nat.le_refl _) _
              have hYB : W7.heap[W5.heap.size]? = some (.cells #[.int .i64 p, .int .i64 q, .int .i64 r] 54) := by rw [← hW7]; exact heap_alloc_last W5 _
              have hXB7 := (bA7.block _ (block_lt HXB.out)).trans HXB.out
              have p0 : W7.cell? ⟨W5.heap.size, 0, none⟩ = some (.int .i64 p) := cell_of_row _ _ 0 _ _ _ hYB
              have p1 : W7.cell? ⟨W5.heap.size, 1, none⟩ = some (.int .i64 q) := cell_of_row _ _ 1 _ _ _ hYB
              have s0 : W7.cell? ⟨wr.heap.size, 0, none⟩ = some (.int .i64 x) := cell_of_row _ _ 0 _ _ _ hXB7
              have s1 : W7.cell? ⟨wr.heap.size, 1, none⟩ = some (.int .i64 y) := cell_of_row _ _ 1 _ _ _ hXB7
              have HB7 := hidIn (HB5.out.trans (bA7.mono HB5.out.size))
              have HBW7 := hidIn (HF.out W7 HB7.out).2
              have HW := hidIn hW7
              clear hl HY hW7 bA7 hYB hXB7
              go_upto_region 16 with fail
              rw [HW.out]
              clear HW
              by_cases hpx : x < p
              · go_wp2_with fail
                go_returns
                have hri : risesE (lastE es (i + 1)) (x, y, c) = false := by
                  rw [Hl.out]
                  apply Bool.eq_false_iff.2
                  intro h
                  have := risesE_iff.1 h
                  simp only at this
                  omega
                exact ⟨by rw [ckC_no (by rw [HG.out, HN.out]; simp [edgeOk, hri])]; rfl, HBW7.out⟩
              by_cases hpe : p = x
              · have hpq : (p == x) = true := by simpa using hpe
                have Hpe := hidIn hpe
                clear hpe
                by_cases hqy : y ≤ q
                · go_wp2_with fail
                  go_returns
                  have hri : risesE (lastE es (i + 1)) (x, y, c) = false := by
                    rw [Hl.out]
                    apply Bool.eq_false_iff.2
                    intro h
                    have := risesE_iff.1 h
                    simp only at this
                    have := Hpe.out
                    omega
                  exact ⟨by rw [ckC_no (by rw [HG.out, HN.out]; simp [edgeOk, hri])]; rfl, HBW7.out⟩
                · go_wp2_with fail
                  go_roundw
                  case rel =>
                    refine ⟨i + 1 + 1, by omega, by go_num, hidIn ⟨HB7.out, ?_⟩⟩
                    have h2 : risesE (lastE es (i + 1)) (x, y, c) = true := by rw [Hl.out]; exact risesE_iff.2 (.inr ⟨Hpe.out, by simp only; omega⟩)
                    rw [HN.out]
                    simp [edgeOk, Hb1.out, Hb2.out, Hcc.out, hxy, h2]
                  case measure => simp [intOf]; omega
              · have hpq : (p == x) = false := by simpa using hpe
                go_wp2_with fail
                go_roundw
                case rel =>
                  refine ⟨i + 1 + 1, by omega, by go_num, hidIn ⟨HB7.out, ?_⟩⟩
                  have h2 : risesE (lastE es (i + 1)) (x, y, c) = true := by rw [Hl.out]; exact risesE_iff.2 (.inl (by simp only; omega))
                  rw [HN.out]
                  simp [edgeOk, Hb1.out, Hb2.out, Hcc.out, hxy, h2]
                case measure => simp [intOf]; omega
          · have hji : ¬ ((j : Int) < (es.length : Int)) := by omega
            have HT2 : Hid (graphOk ns es = true) := hidIn (by rw [HG.out, HE.out, List.drop_eq_nil_of_le (by omega)]; rfl)
            go_wp2_with fail
            go_returns
            exact ⟨by rw [ckC_yes HT2.out]; rfl, hbw⟩
      · have h384' : (384 : Int) < (es.length : Int) := by omega
        go_wp2_with fail
        go_returns
        exact ⟨by rw [ckC_no (by unfold graphOk; simp [h384])]; rfl, hbw⟩
end Go.Proofs.Ytfbojelflplflaa
namespace Go.Proofs.Ytfbojelflplflaa
open Go.RowKit

def lastA (l : List (Int × Int)) : Nat → Int
  | 0 => 0
  | k + 1 => (l[k]?.getD (0, 0)).1
theorem rec_no1 {r : Rc} (h : isR r.origin = false) : recOk r = false := by simp [recOk, h]
theorem rec_rest {r : Rc} (h1 : isR r.origin = true) (h2 : 0 < r.epoch) (h3 : 0 < r.seq) (h4 : 0 ≤ r.claim) (h5 : r.claim ≤ 1024) (h6 : r.adjs.length ≤ 16) : recOk r = adjsOk r.origin 0 r.adjs := by simp [recOk, h1, h2, h3, h4, h5, h6]

end Go.Proofs.Ytfbojelflplflaa
namespace Go.Proofs.Ytfbojelflplflaa
open Go.RowKit

theorem unl_snoc {rs : List Rc} {r : Rc} (h : Unl rs) (hr : recOk r = true) (hd : ∀ x ∈ rs, x.origin ≠ r.origin) : Unl (rs ++ [r]) := by
  refine ⟨fun x hx => ?_, ?_⟩
  · rcases List.mem_append.1 hx with hx | hx
    · exact h.1 x hx
    · simp at hx; rw [hx]; exact hr
  · rw [List.pairwise_append]
    refine ⟨h.2, by simp, fun x hx y hy e => ?_⟩
    simp at hy
    subst hy
    have h1 := (recOk_parts (h.1 x hx)).1
    have h2 := (recOk_parts hr).1
    exact hd x hx (by omega)
theorem unl_not1 {rs : List Rc} {r : Rc} (hm : r ∈ rs) (hr : recOk r = false) : bothOk no1 rs = false := by
  cases hb : bothOk no1 rs with
  | false => rfl
  | true => have := (both_unl.1 hb).1 r hm; rw [hr] at this; cases this
theorem pair_ne {rs : List Rc} {i j : Nat} {a b : Rc} (hu : Unl rs) (h1 : rs[i]? = some a) (h2 : rs[j]? = some b) (h3 : i < j) : a.origin.toNat ≠ b.origin.toNat := by
  obtain ⟨hi, e1⟩ := List.getElem?_eq_some_iff.1 h1
  obtain ⟨hj, e2⟩ := List.getElem?_eq_some_iff.1 h2
  have h := List.pairwise_iff_getElem.1 hu.2 i j hi hj h3
  rw [e1, e2] at h
  exact h
theorem unl_not2 {rs : List Rc} {i j : Nat} {a b : Rc} (h1 : rs[i]? = some a) (h2 : rs[j]? = some b) (h3 : i < j) (he : a.origin = b.origin) : bothOk no1 rs = false := by
  cases hb : bothOk no1 rs with
  | false => rfl
  | true => exact absurd (by rw [he]) (pair_ne (both_unl.1 hb) h1 h2 h3)

/-- What is left to look at. -/
def costM (r : Rc) (rs : List Rc) (a b : Int) (j : Nat) : Int := if r.origin = a then (match (r.adjs.drop j).find? fun x => decide (x.1 = b) with | some x => x.2 | none => costF rs a b) else costF rs a b
theorem costM_end {r : Rc} {rs : List Rc} {a b : Int} {j : Nat} (h : r.adjs.length ≤ j) : costM r rs a b j = costF rs a b := by
  unfold costM
  rw [List.drop_eq_nil_of_le h]
  by_cases h : r.origin = a <;> simp [h]
theorem costM_no {r : Rc} {rs : List Rc} {a b : Int} {j : Nat} {x : Int × Int} (h : r.adjs[j]? = some x) (hn : ¬ (r.origin = a ∧ x.1 = b)) : costM r rs a b j = costM r rs a b (j + 1) := by
  unfold costM
  rw [drop_next h]
  by_cases h1 : r.origin = a
  · have h2 : ¬ x.1 = b := fun e => hn ⟨h1, e⟩
    simp [h1, h2]
  · simp [h1]
theorem costM_yes {r : Rc} {rs : List Rc} {a b : Int} {j : Nat} {x : Int × Int} (h : r.adjs[j]? = some x) (h1 : r.origin = a) (h2 : x.1 = b) : costM r rs a b j = x.2 := by
  unfold costM
  rw [drop_next h]
  simp [h1, h2]

end Go.Proofs.Ytfbojelflplflaa
namespace Go.Proofs.Ytfbojelflplflaa
open Go.RowKit

/-- The graph in its block: its nodes so far. -/
structure NdM (w1 wr : World) (u : Value) (L : List Int) : Prop where
  g : wr.heap[w1.heap.size]? = some (.cells #[u, .slice none 0 0] 25)
  r : wr.ownsRow (w1.heap.size + 1) 3 1 u L.length (fl ic L)
  b : Below w1.heap.size w1 wr
/-- The graph in its block: its edges so far. -/
structure EbM (w3 wr : World) (B : Nat) (u v : Value) (L : List Ed) : Prop where
  g : wr.heap[B]? = some (.cells #[u, v] 25)
  r : wr.ownsRow w3.heap.size 54 3 v L.length (fl ec L)
  f : Fr (fun k => k = B) w3 wr
theorem EbM.drewN {w3 wr : World} {B : Nat} {u v : Value} {L : List Ed} (h : EbM w3 wr B u v L) (n : Nat) : EbM w3 (wr.drewN n) B u v L :=
  ⟨h.g, row_fr h.r ((Fr.refl (fun _ => False) wr).drewN n) (fun _ _ h => h), h.f.drewN n⟩

end Go.Proofs.Ytfbojelflplflaa
namespace Go.Proofs.Ytfbojelflplflaa
open Go.RowKit

theorem hasE_drop {es : List Ed} {k : Nat} {x y c a b : Int} (h : es[k]? = some (x, y, c)) : hasE (es.drop k) a b = ((decide (x = a) && decide (y = b)) || hasE (es.drop (k + 1)) a b) := by
  rw [drop_next h, hasE, List.any_cons]
  rfl
end Go.Proofs.Ytfbojelflplflaa
namespace Go.Proofs.Ytfbojelflplflaa
open Go.RowKit

def ansN (rs : List Rc) : List Int := if bothOk no1 rs = true then bothN rs else []
def ansE (rs : List Rc) : List Ed := if bothOk no1 rs = true then bothE rs else []
def ansC (rs : List Rc) : Int := if bothOk no1 rs = true then 0 else 2
theorem ans_turned (rs : List Rc) : ansN rs.reverse = ansN rs ∧ ansE rs.reverse = ansE rs ∧ ansC rs.reverse = ansC rs := by
  unfold ansN ansE ansC
  rw [both_reverse]
  by_cases h : bothOk no1 rs = true
  · simp only [if_pos h]
    exact ⟨bothN_reverse rs, bothE_reverse (both_unl.1 h), trivial⟩
  · simp [h]
theorem BothAns.uni {w w' : World} {l : List (Rc × Value)} {e : Ending} (h : BothAns w l e w') :
    ∃ ua ucap va vcap, e = .returned (.tuple #[grV (.slice ua (ansN (rcs l)).length ucap) (.slice va (ansE (rcs l)).length vcap), .int .i64 (ansC (rcs l))]) ∧
      w'.ownsRow w.heap.size 3 1 (.slice ua (ansN (rcs l)).length ucap) (ansN (rcs l)).length (fl ic (ansN (rcs l))) ∧ w'.ownsRow w.heap.size 54 3 (.slice va (ansE (rcs l)).length vcap) (ansE (rcs l)).length (fl ec (ansE (rcs l))) := by
  rcases h with ⟨hok, u, v, rfl, hu, hv⟩ | ⟨hno, rfl⟩
  · obtain ⟨ua, ucap, rfl⟩ := row_shape hu
    obtain ⟨va, vcap, rfl⟩ := row_shape hv
    unfold ansN ansE ansC
    rw [if_pos hok, if_pos hok, if_pos hok]
    exact ⟨ua, ucap, va, vcap, rfl, hu, hv⟩
  · have hno' : ¬ bothOk no1 (rcs l) = true := by rw [hno]; simp
    unfold ansN ansE ansC
    rw [if_neg hno', if_neg hno', if_neg hno']
    exact ⟨none, 0, none, 0, rfl, World.ownsRow_nil _ _ _ _, World.ownsRow_nil _ _ _ _⟩
theorem row_len {w : World} {base n k : Nat} {e : TypeId} {sz : Nat} {u : Value} {xs : List Value} (h : w.ownsRow base e sz u n xs) (hn : n = k) : w.ownsRow base e sz u k xs := by rw [← hn]; exact h
theorem row_cells {w : World} {base n cap : Nat} {a : Option Addr} {zs : List Int} (hr : w.ownsRow base 3 1 (.slice a (n + 1) cap) (n + 1) (fl ic zs)) (hz : zs.length = n + 1) : ∃ b o, a = some ⟨b, o, none⟩ ∧ b < w.heap.size ∧ ∀ j z, zs[j]? = some z → w.cell? ⟨b, o + j, none⟩ = some (.int .i64 z) := by
  obtain ⟨a', cap', he, _, _, h⟩ := (slAt_of_row (cs := ic) (fun _ => rfl) hr hz).ints
  simp at he
  obtain ⟨rfl, _, rfl⟩ := he
  exact h (by omega)
end Go.Proofs.Ytfbojelflplflaa
namespace Go.Proofs.Ytfbojelflplflaa
open Go.RowKit

theorem two_new (w : World) (A B : Obj) : ((w.alloc A).alloc B).drew.heap[w.heap.size]? = some A ∧ ((w.alloc A).alloc B).drew.heap[w.heap.size + 1]? = some B := by
  refine ⟨?_, ?_⟩
  · show ((w.alloc A).alloc B).heap[w.heap.size]? = some A
    rw [Below.heap_alloc _ _ _ (by simp)]
    exact heap_alloc_last w A
  · show ((w.alloc A).alloc B).heap[w.heap.size + 1]? = some B
    have := heap_alloc_last (w.alloc A) B
    rw [World.size_alloc] at this
    exact this

end Go.Proofs.Ytfbojelflplflaa
namespace Go.Proofs.Ytfbojelflplflaa
open Go.RowKit

theorem append_allA {W : World} {base n : Nat} {u v : Value} {l m : List (Int × Int)} (hr : W.ownsRow base 88 2 u n (fl ac l)) (hv : SlAt ac 2 W v m) (hk : (n + m.length) * 16 ≤ 140737488355328) (hbase : base ≤ W.heap.size) (hnil : (∃ a n c, v = .slice (some a) n c) ∨ (v = .slice none 0 0 ∧ u = .slice none 0 0)) :
    ∃ v' w6, (Builtin.append_ #[83, 83] 83 #[u, v]).run Try.prog W = .ok v' w6 ∧ w6.ownsRow base 88 2 v' (n + m.length) (fl ac (l ++ m)) ∧ Below base W w6 ∧ W.grownBy w6 u.ownBlock :=
  append_all (P := Try.prog) (cs := ac) (T := 83) (fun _ => rfl) (fun _ => by simp [Value.oneCell']) Try.underlying83 infoAdj rfl (by decide) hr hv hk (by unfold maxLen; omega) hbase hnil
theorem fl_set : ∀ (l : List (Rc × Value)) (k : Nat) (r : Rc) (v0 v' : Value) (ad : List (Int × Int)), l[k]? = some (r, v0) → (fl rcc l).set (k * 6 + 5) v' = fl rcc (l.set k ({ r with adjs := ad }, v'))
  | [], k, r, v0, v', ad, h => by simp at h
  | y :: l, 0, r, v0, v', ad, h => by
    simp at h
    subst h
    rfl
  | y :: l, k + 1, r, v0, v', ad, h => by
    show (rcc y ++ fl rcc l).set ((k + 1) * 6 + 5) v' = rcc y ++ fl rcc (l.set k _)
    have h6 : (rcc y).length = 6 := rfl
    rw [List.set_append_right _ _ (by rw [h6]; omega), h6, show (k + 1) * 6 + 5 - 6 = k * 6 + 5 from by omega, fl_set l k r v0 v' ad (by simpa using h)]
theorem slAt_take {α : Type} {cs : α → List Value} {sz : Nat} {w : World} {b o n cap : Nat} {l : List α} (h : ∀ j x, l[j]? = some x → ∀ i u, (cs x)[i]? = some u → w.cell? ⟨b, o + j * sz + i, none⟩ = some u) (hl : l.length = n) (hn : n ≤ 9223372036854775807) (hcap : n ≤ cap) (hb : b < w.heap.size) {k : Nat} (hk : k ≤ n) : SlAt cs sz w (.slice (some ⟨b, o, none⟩) k cap) (l.take k) := by
  have hkl : (l.take k).length = k := by rw [List.length_take]; omega
  refine ⟨_, cap, by rw [hkl], by omega, by omega, fun _ => ⟨b, o, rfl, hb, fun j x hx i u hu => h j x ?_ i u hu⟩⟩
  rw [List.getElem?_take] at hx
  split at hx
  · exact hx
  · cases hx
theorem slAt_drop {α : Type} {cs : α → List Value} {sz : Nat} {w : World} {b o n cap : Nat} {l : List α} (h : ∀ j x, l[j]? = some x → ∀ i u, (cs x)[i]? = some u → w.cell? ⟨b, o + j * sz + i, none⟩ = some u) (hn : n ≤ 9223372036854775807) (hcap : n ≤ cap) (hb : b < w.heap.size) {k : Nat} (hl : l.length = k + n) : SlAt cs sz w (.slice (some ⟨b, o + k * sz, none⟩) n cap) (l.drop k) := by
  have hkl : (l.drop k).length = n := by rw [List.length_drop]; omega
  refine ⟨_, cap, by rw [hkl], by omega, by omega, fun _ => ⟨b, o + k * sz, rfl, hb, fun j x hx i u hu => ?_⟩⟩
  rw [List.getElem?_drop] at hx
  have := h _ x hx i u hu
  rw [Nat.add_mul, ← Nat.add_assoc] at this
  exact this
theorem rem_nat (N : Int) (n : Nat) (hn : 0 < n) : ∃ (t : Int) (k : Nat), N.tmod (n : Int) = t ∧ -(n : Int) < t ∧ t < (n : Int) ∧ k < n ∧ (t + (n : Int)) % (n : Int) = (k : Int) ∧ (t + (n : Int)).tmod (n : Int) = (k : Int) := by
  have h0 : (0 : Int) < (n : Int) := by omega
  have h1 := Int.tmod_lt_of_pos N h0
  have h2 := Int.lt_tmod_of_pos N h0
  have h3 := Int.emod_nonneg (N.tmod n + n) (show (n : Int) ≠ 0 by omega)
  have h4 := Int.emod_lt_of_pos (N.tmod n + n) h0
  refine ⟨N.tmod n, ((N.tmod n + n) % n).toNat, rfl, h2, h1, by omega, (Int.toNat_of_nonneg h3).symm, ?_⟩
  rw [Int.tmod_eq_emod_of_nonneg (by omega)]
  exact (Int.toNat_of_nonneg h3).symm
end Go.Proofs.Ytfbojelflplflaa
namespace Go.Proofs.Ytfbojelflplflaa
open Go.RowKit

theorem infoLk8 : (Try.prog.info? 81).map (fun i => (i.zero, i.size, i.bytes)) = some (some (.agg #[.int .u8 0, .int .u8 0, .int .u8 0]), 3, 3) := by kernel_rfl
theorem append_allK {W : World} {base n : Nat} {u v : Value} {l m : List Ed} (hr : W.ownsRow base 81 3 u n (fl lc3 l)) (hv : SlAt lc3 3 W v m) (hk : (n + m.length) * 3 ≤ 140737488355328) (hbase : base ≤ W.heap.size) (hnil : (∃ a n c, v = .slice (some a) n c) ∨ (v = .slice none 0 0 ∧ u = .slice none 0 0)) :
    ∃ v' w6, (Builtin.append_ #[50, 50] 50 #[u, v]).run Try.prog W = .ok v' w6 ∧ w6.ownsRow base 81 3 v' (n + m.length) (fl lc3 (l ++ m)) ∧ Below base W w6 ∧ W.grownBy w6 u.ownBlock :=
  append_all (P := Try.prog) (cs := lc3) (T := 50) (fun _ => rfl) (fun _ => by simp [Value.oneCell']) Try.underlying50 infoLk8 rfl (by decide) hr hv hk (by unfold maxLen; omega) hbase hnil
/-- No other link of the pair. -/
def agNo (L : List Ed) (i : Nat) (x : Ed) : Prop := ∀ j y, L[j]? = some y → j ≠ i → isP 6 (x.1.toNat % 6) (x.2.1.toNat % 6) y = false
set_option maxRecDepth 100000 in
set_option maxHeartbeats 2000000 in
theorem again_any {L : List Ed} {i : Nat} {x : Ed} {v : Value} {w : World} (h : SlAt lc3 3 w v L) (hL : LkB L) (hx : L[i]? = some x) :
    Calls Try.prog 27 #[v, .int .i64 i] w fun e w' => (e = .returned (.bool true) ∨ (e = .returned (.bool false) ∧ agNo L i x)) ∧ Below w.heap.size w w' := by
  obtain ⟨la, lcap, rfl, hll, _, hlc⟩ := h.lks
  have hil : i < L.length := (List.getElem?_eq_some_iff.1 hx).1
  obtain ⟨bk, o, rfl, hbk, hcell⟩ := hlc (by omega)
  have hM : ∀ j y, L[j]? = some y → ∃ A B Z : Nat, y = ((A : Int), (B : Int), (Z : Int)) ∧ A ≤ 255 ∧ B ≤ 255 := fun j y hy => by
    have h1 := hL y (List.mem_of_getElem? hy)
    obtain ⟨y1, y2, y3⟩ := y
    simp only at h1
    exact ⟨y1.toNat, y2.toNat, y3.toNat, by simp only [Prod.mk.injEq]; omega, by omega, by omega⟩
  have HM := hidIn hM
  have Hcell := hidIn hcell
  obtain ⟨X, Y, Z, rfl, hX1, hY1⟩ := hM i x hx
  obtain ⟨p0, p1, _⟩ := hcell i _ hx
  simp only at p0 p1
  obtain ⟨a, ha⟩ : ∃ a, X % 6 = a := ⟨_, rfl⟩
  obtain ⟨b, hb⟩ : ∃ b, Y % 6 = b := ⟨_, rfl⟩
  have mX : (X : Int).tmod 6 = (a : Int) := by rw [← ha, Int.tmod_eq_emod_of_nonneg (by omega)]; rfl
  have mY : (Y : Int).tmod 6 = (b : Int) := by rw [← hb, Int.tmod_eq_emod_of_nonneg (by omega)]; rfl
  have hii : (i : Int) < (L.length : Int) := by omega
  have Hab : Hid (X % 6 = a ∧ Y % 6 = b) := hidIn ⟨ha, hb⟩
  have Hx := hidIn hx
  clear hM hcell hlc h hL hx ha hb
  go_enter Try.func27, Try.ntmps27
  go_wp2_with fail
  go_quiet (fail)
  clear p0 p1 mX mY
  generalize hV : World.drewN w _ = V
  have HBV : Hid (Below w.heap.size w V) := hidIn (by rw [← hV]; exact ((Fr.refl (fun _ => False) w).drewN _).below (Nat.le_refl _) (fun _ h => h.elim))
  clear hV
  go_wp2_with fail
  go_loopw [7] (fun q wr => ∃ k : Nat, k ≤ L.length ∧ q = .int .i64 k ∧ Hid (Below w.heap.size w wr ∧ ∀ j y, L[j]? = some y → j < k → j ≠ i → isP 6 a b y = false)) (fun q _ => L.length - (intOf q).toNat)
  case atStart => exact ⟨0, Nat.zero_le _, rfl, hidIn ⟨HBV.out, fun j y _ h => by omega⟩⟩
  case round =>
    clear HBV
    obtain ⟨k, hk, rfl, HR⟩ := hrel
    by_cases hlt : k < L.length
    · obtain ⟨y, hy⟩ : ∃ z, L[k]? = some z := ⟨L[k], List.getElem?_eq_getElem hlt⟩
      obtain ⟨C, D, F, rfl, hC1, hD1⟩ := HM.out k y hy
      obtain ⟨p0, p1, _⟩ := Hcell.out k _ hy
      simp only at p0 p1
      have c0 := (HR.out.1.cell (p := ⟨bk, o + k * 3, none⟩) hbk).trans p0
      have c1 := (HR.out.1.cell (p := ⟨bk, o + k * 3 + 1, none⟩) hbk).trans p1
      obtain ⟨c, hc⟩ : ∃ c, C % 6 = c := ⟨_, rfl⟩
      obtain ⟨d, hd⟩ : ∃ d, D % 6 = d := ⟨_, rfl⟩
      have mC : (C : Int).tmod 6 = (c : Int) := by rw [← hc, Int.tmod_eq_emod_of_nonneg (by omega)]; rfl
      have mD : (D : Int).tmod 6 = (d : Int) := by rw [← hd, Int.tmod_eq_emod_of_nonneg (by omega)]; rfl
      have HP : Hid (isP 6 a b ((C : Int), (D : Int), (F : Int)) = decide ((c = a ∧ d = b) ∨ (c = b ∧ d = a))) := hidIn (by rw [← hc, ← hd]; rfl)
      have hki : (k : Int) < (L.length : Int) := by omega
      have Hy := hidIn hy
      clear p0 p1 hc hd hy
      go_upto_region 5 with fail
      go_quiet (fail)
      clear c0 c1 mC mD
      generalize hV : World.drewN wr _ = V
      have HBV : Hid (Below w.heap.size w V) := hidIn (by rw [← hV]; exact HR.out.1.trans (((Fr.refl (fun _ => False) wr).drewN _).below HR.out.1.size (fun _ h => h.elim)))
      have HN := hidIn HR.out.2
      clear hV HR
      have key : ∀ (hq : k = i ∨ isP 6 a b ((C : Int), (D : Int), (F : Int)) = false), ∀ j y, L[j]? = some y → j < k + 1 → j ≠ i → isP 6 a b y = false := fun hq j y hy hj hji => by
        by_cases hjk : j = k
        · subst hjk
          rw [Hy.out] at hy
          cases hy
          rcases hq with hq | hq
          · exact absurd hq hji
          · exact hq
        · exact HN.out j y hy (by omega) hji
      have HKey := hidIn key
      clear key
      by_cases hki2 : k = i
      · have t1 : ((k : Int) != (i : Int)) = false := by rw [hki2]; simp
        have Hq := hidIn hki2
        clear hki2
        go_wp2_with fail
        go_roundw
        case rel => exact ⟨k + 1, by omega, by go_num, hidIn ⟨HBV.out, HKey.out (.inl Hq.out)⟩⟩
        case measure => simp [intOf]; omega
      have t1 : ((k : Int) != (i : Int)) = true := by simp; omega
      clear hki2
      by_cases q1 : c = a
      · have u1 : ((c : Int) == (a : Int)) = true := by rw [q1]; simp
        by_cases q2 : d = b
        · have u2 : ((d : Int) == (b : Int)) = true := by rw [q2]; simp
          clear q1 q2
          go_wp2_with fail
          go_returns
          exact ⟨.inl rfl, HBV.out⟩
        have u2 : ((d : Int) == (b : Int)) = false := by simp; omega
        by_cases q3 : c = b
        · have u3 : ((c : Int) == (b : Int)) = true := by rw [q3]; simp
          by_cases q4 : d = a
          · have u4 : ((d : Int) == (a : Int)) = true := by rw [q4]; simp
            clear q1 q2 q3 q4
            go_wp2_with fail
            go_returns
            exact ⟨.inl rfl, HBV.out⟩
          · have u4 : ((d : Int) == (a : Int)) = false := by simp; omega
            have HF : Hid (isP 6 a b ((C : Int), (D : Int), (F : Int)) = false) := hidIn (by rw [HP.out]; simp; omega)
            clear q1 q2 q3 q4
            go_wp2_with fail
            go_roundw
            case rel => exact ⟨k + 1, by omega, by go_num, hidIn ⟨HBV.out, HKey.out (.inr HF.out)⟩⟩
            case measure => simp [intOf]; omega
        · have u3 : ((c : Int) == (b : Int)) = false := by simp; omega
          have HF : Hid (isP 6 a b ((C : Int), (D : Int), (F : Int)) = false) := hidIn (by rw [HP.out]; simp; omega)
          clear q1 q2 q3
          go_wp2_with fail
          go_roundw
          case rel => exact ⟨k + 1, by omega, by go_num, hidIn ⟨HBV.out, HKey.out (.inr HF.out)⟩⟩
          case measure => simp [intOf]; omega
      have u1 : ((c : Int) == (a : Int)) = false := by simp; omega
      by_cases q3 : c = b
      · have u3 : ((c : Int) == (b : Int)) = true := by rw [q3]; simp
        by_cases q4 : d = a
        · have u4 : ((d : Int) == (a : Int)) = true := by rw [q4]; simp
          clear q1 q3 q4
          go_wp2_with fail
          go_returns
          exact ⟨.inl rfl, HBV.out⟩
        · have u4 : ((d : Int) == (a : Int)) = false := by simp; omega
          have HF : Hid (isP 6 a b ((C : Int), (D : Int), (F : Int)) = false) := hidIn (by rw [HP.out]; simp; omega)
          clear q1 q3 q4
          go_wp2_with fail
          go_roundw
          case rel => exact ⟨k + 1, by omega, by go_num, hidIn ⟨HBV.out, HKey.out (.inr HF.out)⟩⟩
          case measure => simp [intOf]; omega
      · have u3 : ((c : Int) == (b : Int)) = false := by simp; omega
        have HF : Hid (isP 6 a b ((C : Int), (D : Int), (F : Int)) = false) := hidIn (by rw [HP.out]; simp; omega)
        clear q1 q3
        go_wp2_with fail
        go_roundw
        case rel => exact ⟨k + 1, by omega, by go_num, hidIn ⟨HBV.out, HKey.out (.inr HF.out)⟩⟩
        case measure => simp [intOf]; omega
    · have hki : ¬ ((k : Int) < (L.length : Int)) := by omega
      go_wp2_with fail
      go_ret
      refine ⟨.inr ⟨rfl, fun j y hy hji => ?_⟩, HR.out.1⟩
      have := HR.out.2 j y hy (by have := (List.getElem?_eq_some_iff.1 hy).1; omega) hji
      simp only [Int.toNat_natCast]
      rw [Hab.out.1, Hab.out.2]
      exact this
theorem slAt_pre {α : Type} {cs : α → List Value} {sz : Nat} {w : World} {a : Option Addr} {n cap : Nat} {l : List α} (h : SlAt cs sz w (.slice a n cap) l) {k : Nat} (hk : k ≤ n) : SlAt cs sz w (.slice a k cap) (l.take k) := by
  obtain ⟨a', cap', he, h1, h2, h3⟩ := h
  simp at he
  obtain ⟨rfl, rfl, rfl⟩ := he
  have hkl : (l.take k).length = k := by rw [List.length_take]; omega
  refine ⟨_, cap, by rw [hkl], by omega, by omega, fun hp => ?_⟩
  obtain ⟨bk, o, rfl, h4, h5⟩ := h3 (by omega)
  refine ⟨bk, o, rfl, h4, fun j x hx i u hu => h5 j x ?_ i u hu⟩
  rw [List.getElem?_take] at hx
  split at hx
  · exact hx
  · cases hx
set_option maxRecDepth 100000 in
set_option maxHeartbeats 4000000 in
theorem pathsFewer_walk {L : List Ed} {v : Value} {w : World} (h : SlAt lc3 3 w v L) (hL : LkB L) (x y : Nat) (hx : x < 256) (hy : y < 256) :
    Calls Try.prog 7 #[v, .int .u8 x, .int .u8 y] w fun e w' => e = .returned (.bool true) ∧ Below w.heap.size w w' := by
  obtain ⟨la, lcap, rfl, hll, hlcap, _⟩ := h.lks
  obtain ⟨LL, hLL⟩ : ∃ LL, L.length = LL := ⟨_, rfl⟩
  obtain ⟨n, hn⟩ : ∃ n, min LL 12 = n := ⟨_, rfl⟩
  obtain ⟨K, hK⟩ : ∃ K, L.take 12 = K := ⟨_, rfl⟩
  have hKn : K.length = n := by rw [← hK, List.length_take, hLL]; omega
  have hKt : L.take n = K := by
    rw [← hK]
    by_cases h12 : 12 ≤ LL
    · rw [show n = 12 from by omega]
    · rw [List.take_of_length_le (by omega), List.take_of_length_le (by omega)]
  rw [hLL] at h hll hlcap ⊢
  have hS : SlAt lc3 3 w (.slice la n lcap) K := by rw [← hKt]; exact slAt_pre h (by omega)
  have hKb : LkB K := fun z hz => hL z (by rw [← hK] at hz; exact List.mem_of_mem_take hz)
  have hK12 : K.take 12 = K := List.take_of_length_le (by omega)
  have hmin : min (LL : Int) 12 = (n : Int) := by omega
  have hnLL : (n : Int) ≤ (LL : Int) := by omega
  have hncap : (n : Int) ≤ (lcap : Int) := by omega
  have HS := hidIn hS
  have HKb := hidIn hKb
  have HK12 := hidIn hK12
  have HKn := hidIn hKn
  have hn12 : n ≤ 12 := by omega
  clear hLL hn hK hKt h hL hS hKb hK12 hKn
  go_enter Try.func7, Try.ntmps7
  go_upto_region 2 with fail
  clear hmin
  by_cases hn0 : n = 0
  · subst hn0
    go_wp2_with fail
    refine (works_any _).mono ?_
    rintro e w2 ⟨rfl, hb2⟩
    go_wp2_with fail
    go_ret
    exact ⟨rfl, hb2⟩
  obtain ⟨i, hi⟩ : ∃ i, x % n = i := ⟨_, rfl⟩
  have hin : i < n := by rw [← hi]; exact Nat.mod_lt _ (by omega)
  have mx : (x : Int).tmod (n : Int) = (i : Int) := by rw [← hi, Int.tmod_eq_emod_of_nonneg (by omega)]; rfl
  have hnz : ((n : Int) == 0) = false := by simp; omega
  have hnz2 : (n : Int) ≠ 0 := by omega
  obtain ⟨z, hz⟩ : ∃ z, K[i]? = some z := ⟨K[i]'(by rw [HKn.out]; exact hin), List.getElem?_eq_getElem _⟩
  have Hz := hidIn hz
  obtain ⟨a', cap', he, _, _, hcell⟩ := HS.out
  simp only [Value.slice.injEq] at he
  obtain ⟨rfl, he2, rfl⟩ := he
  obtain ⟨bk, o, rfl, hbk, hcell⟩ := hcell (by rw [HKn.out]; omega)
  have HCl := hidIn (fun wq (hq : Below w.heap.size w wq) => (fun j x hx p u hu => (hq.cell (p := ⟨bk, o + j * 3 + p, none⟩) hbk).trans (hcell j x hx p u hu) : ∀ j x, K[j]? = some x → ∀ p u, (lc3 x)[p]? = some u → wq.cell? ⟨bk, o + j * 3 + p, none⟩ = some u))
  obtain ⟨m, hm⟩ : ∃ m, n = i + 1 + m := ⟨n - (i + 1), by omega⟩
  obtain ⟨c, hc⟩ : ∃ c, lcap = i + 1 + c := ⟨lcap - (i + 1), by omega⟩
  have hmc : m ≤ c := by omega
  obtain ⟨v1, w3, hrun1, hrow1, hb3, _⟩ := append_allK (W := w) (base := w.heap.size) (n := 0) (u := .slice none 0 0) (l := []) (v := .slice (some ⟨bk, o, none⟩) i lcap) (World.ownsRow_nil _ _ _ _) (slAt_pre HS.out (Nat.le_of_lt hin)) (by rw [List.length_take]; omega) (Nat.le_refl _) (.inl ⟨_, _, _, rfl⟩)
  rw [List.nil_append, Nat.zero_add, show (K.take i).length = i from by rw [List.length_take, HKn.out]; omega] at hrow1
  obtain ⟨xa, xcap, rfl⟩ := row_shape hrow1
  have HRun1 := hidIn hrun1
  have HRow1 := hidIn hrow1
  have HB3 := hidIn hb3
  have hii : (i : Int) < (n : Int) := by omega
  have hicap : (i : Int) ≤ (lcap : Int) := by omega
  have Hm := hidIn hm
  have Hc := hidIn hc
  clear hrun1 hrow1 hb3 hcell hz he2 hi hm hc
  go_upto_region 7 with (refine l_append rfl _ _ 50 rfl HRun1.out ?_)
  clear HRun1 mx
  go_cut [7] (fun q wx => ∃ ya ycap, q = .slice ya (i + m) ycap ∧ Hid (wx.ownsRow w.heap.size 81 3 (.slice ya (i + m) ycap) (i + m) (fl lc3 (lessL K i)) ∧ Below w.heap.size w wx))
  case first =>
    have hm := Hm.out
    have hc := Hc.out
    subst hm hc
    have hdl : (K.drop (i + 1)).length = m := by rw [List.length_drop, HKn.out]; omega
    by_cases hc0 : c = 0
    · subst hc0
      obtain rfl : m = 0 := by omega
      have hd : K.drop (i + 1) = [] := List.eq_nil_of_length_eq_zero hdl
      obtain ⟨v2, w6, hrun2, hrow2, hb6, _⟩ := append_allK (v := .slice (some ⟨bk, o, none⟩) 0 0) (m := K.drop (i + 1)) HRow1.out (by rw [hd]; exact ⟨_, 0, rfl, by simp, by simp, fun h => by simp at h⟩) (by rw [hd]; simp; omega) HB3.out.size (.inl ⟨_, _, _, rfl⟩)
      rw [hdl] at hrow2
      obtain ⟨ya, ycap, rfl⟩ := row_shape hrow2
      have HRun2 := hidIn hrun2
      have HO2 := hidIn (And.intro hrow2 (HB3.out.trans hb6))
      clear hrun2 hrow2 hb6 hd hdl
      go_wp2_with (refine l_append rfl _ _ 50 rfl HRun2.out ?_)
      go_meet
      exact ⟨_, _, rfl, HO2⟩
    · obtain ⟨v2, w6, hrun2, hrow2, hb6, _⟩ := append_allK HRow1.out (slAt_drop (cs := lc3) (sz := 3) (n := m) (cap := c) (HCl.out w3 HB3.out) (by omega) hmc (Nat.lt_of_lt_of_le hbk HB3.out.size) (k := i + 1) (by rw [HKn.out])) (by rw [hdl]; omega) HB3.out.size (.inl ⟨_, _, _, rfl⟩)
      rw [hdl] at hrow2
      obtain ⟨ya, ycap, rfl⟩ := row_shape hrow2
      have HRun2 := hidIn hrun2
      have HO2 := hidIn (And.intro hrow2 (HB3.out.trans hb6))
      clear hrun2 hrow2 hb6 hdl
      go_wp2_with (refine l_append rfl _ _ 50 rfl HRun2.out ?_)
      go_meet
      exact ⟨_, _, rfl, HO2⟩
  case rest =>
    obtain ⟨ya, ycap, rfl, HO⟩ := hcut
    have hSc : SlAt lc3 3 wc (.slice (some ⟨bk, o, none⟩) n lcap) K := HS.out.keep HO.out.2 (Nat.le_refl _)
    have hless : (lessL K i).length = i + m := by unfold lessL; rw [List.length_append, List.length_take, List.length_drop, HKn.out]; have := Hm.out; omega
    have hFb : LkB (lessL K i) := fun z hz => by
      rcases List.mem_append.1 hz with h1 | h1
      · exact HKb.out z (List.mem_of_mem_take h1)
      · exact HKb.out z (List.mem_of_mem_drop h1)
    have hF12 : (lessL K i).take 12 = lessL K i := List.take_of_length_le (by have := Hm.out; omega)
    have HO1 := hidIn (lawOf_any (n := 6) hSc HKb.out (by omega) (by omega))
    rw [HK12.out] at HO1
    have HSf := hidIn (slAt_of_row (cs := lc3) (fun _ => rfl) HO.out.1 hless)
    have HFb := hidIn hFb
    have HF12 := hidIn hF12
    have HBc := hidIn HO.out.2
    clear hSc hless hFb hF12 HO HRow1 HCl
    obtain ⟨E1, hE1⟩ : ∃ E1, tabE (tabT 6 K) 6 6 = E1 := ⟨_, rfl⟩
    obtain ⟨E2, hE2⟩ : ∃ E2, tabE (tabT 6 (lessL K i)) 6 6 = E2 := ⟨_, rfl⟩
    have HE1 := hidIn hE1
    have HE2 := hidIn hE2
    rw [hE1] at HO1
    clear hE1 hE2
    go_wp2_with fail
    refine HO1.out.mono ?_
    rintro e w4 ⟨⟨va, vb, rfl, hG1⟩, hb4⟩
    have HO2 := hidIn (lawOf_any (n := 6) (HSf.out.keep hb4 (Nat.le_refl _)) HFb.out (by omega) (by omega))
    rw [HF12.out, HE2.out] at HO2
    obtain ⟨ua, ucap, rfl⟩ := row_shape hG1.n
    obtain ⟨ub, vcap, rfl⟩ := row_shape hG1.e
    have HB4 := hidIn (HBc.out.trans (hb4.mono HBc.out.size))
    have HG1 := hidIn hG1.at
    clear hG1 hb4 HO1 HSf HBc
    obtain ⟨n6, hn6⟩ : ∃ n6, (tabN 6).length = n6 := ⟨_, rfl⟩
    obtain ⟨el1, hel1⟩ : ∃ el, E1.length = el := ⟨_, rfl⟩
    rw [hn6, hel1] at HG1 ⊢
    clear hel1
    go_wp2_with fail
    refine HO2.out.mono ?_
    rintro e w5 ⟨⟨va2, vb2, rfl, hG2⟩, hb5⟩
    obtain ⟨ua2, ucap2, rfl⟩ := row_shape hG2.n
    obtain ⟨ub2, vcap2, rfl⟩ := row_shape hG2.e
    obtain ⟨el2, hel2⟩ : ∃ el, E2.length = el := ⟨_, rfl⟩
    rw [hn6, hel2]
    have HG2 := hidIn hG2.at
    rw [hn6, hel2] at HG2
    clear hn6 hel2
    obtain ⟨W6, hW6⟩ : ∃ W6, (w5.alloc (.cells #[.slice ua n6 ucap, .slice ub el1 vcap] 25)).alloc (.cells #[.slice ua2 n6 ucap2, .slice ub2 el2 vcap2] 25) = W6 := ⟨_, rfl⟩
    have b6 : Below w5.heap.size w5 W6 := by rw [← hW6]; exact ((Below.refl _ w5).alloc (Nat.le_refl _) _).alloc (by simp) _
    have hX : W6.heap[w5.heap.size]? = some (.cells #[.slice ua n6 ucap, .slice ub el1 vcap] 25) := by rw [← hW6, Below.heap_alloc _ _ _ (by simp)]; exact heap_alloc_last w5 _
    have hY : W6.heap[w5.heap.size + 1]? = some (.cells #[.slice ua2 n6 ucap2, .slice ub2 el2 vcap2] 25) := by
      rw [← hW6]
      have := heap_alloc_last (w5.alloc (.cells #[.slice ua n6 ucap, .slice ub el1 vcap] 25)) (.cells #[.slice ua2 n6 ucap2, .slice ub2 el2 vcap2] 25)
      rw [World.size_alloc] at this
      exact this
    have HBw := hidIn ((HB4.out.trans (hb5.mono HB4.out.size)).trans (b6.mono (HB4.out.trans (hb5.mono HB4.out.size)).size))
    have b56 := hb5.trans (b6.mono hb5.size)
    obtain ⟨gb, hgb⟩ : ∃ gb, w5.heap.size = gb := ⟨_, rfl⟩
    rw [hgb] at hX hY
    have HK : Hid (∀ wq, Below W6.heap.size W6 wq → ((wq.cell? ⟨gb, 0, none⟩ = some (.slice ua n6 ucap) ∧ wq.cell? ⟨gb, 1, none⟩ = some (.slice ub el1 vcap)) ∧ wq.cell? ⟨gb + 1, 0, none⟩ = some (.slice ua2 n6 ucap2) ∧ wq.cell? ⟨gb + 1, 1, none⟩ = some (.slice ub2 el2 vcap2)) ∧ (GrAt wq (.slice ua n6 ucap) (.slice ub el1 vcap) (tabN 6) E1 ∧ GrAt wq (.slice ua2 n6 ucap2) (.slice ub2 el2 vcap2) (tabN 6) E2) ∧ SlAt lc3 3 wq (.slice (some ⟨bk, o, none⟩) n lcap) K ∧ Below w.heap.size w wq) := hidIn fun wq h => by
      have j0 := (h.block _ (block_lt hX)).trans hX
      have j1 := (h.block _ (block_lt hY)).trans hY
      have hw := HBw.out.trans (h.mono HBw.out.size)
      exact ⟨⟨⟨cell_of_row _ _ 0 _ _ _ j0, cell_of_row _ _ 1 _ _ _ j0⟩, cell_of_row _ _ 0 _ _ _ j1, cell_of_row _ _ 1 _ _ _ j1⟩, ⟨HG1.out.keep (b56.trans (h.mono b56.size)) (Nat.le_refl _), HG2.out.keep (b6.trans (h.mono b6.size)) (Nat.le_refl _)⟩, HS.out.keep hw (Nat.le_refl _), hw⟩
    have HW := hidIn hW6
    have Hgb := hidIn hgb
    clear hG2 hb5 b6 b56 hX hY hgb hW6 HG1 HG2 HB4 HO2
    obtain ⟨y6, hy6⟩ : ∃ y6, y % 6 = y6 := ⟨_, rfl⟩
    have my : (y : Int).tmod 6 = (y6 : Int) := by rw [← hy6, Int.tmod_eq_emod_of_nonneg (by omega)]; rfl
    have hyl : y6 < 6 := by omega
    obtain ⟨r, hr⟩ : ∃ r : Nat, 1 + y6 = r := ⟨_, rfl⟩
    have er : 1 + (y6 : Int) = (r : Int) := by omega
    have Hr1 : Hid (1 ≤ (r : Int) ∧ (r : Int) ≤ ((6 : Nat) : Int)) := hidIn (by omega)
    have Er := hidIn er
    have HN1 : Hid (ndAll (tabN 6) E1 [(r : Int)] = true) := hidIn (by rw [← HE1.out]; exact tab_nd (by omega) (by omega) K (fun z hz => by rw [List.mem_singleton.1 hz]; exact Hr1.out))
    have HN2 : Hid (ndAll (tabN 6) E2 [(r : Int)] = true) := hidIn (by rw [← HE2.out]; exact tab_nd (by omega) (by omega) (lessL K i) (fun z hz => by rw [List.mem_singleton.1 hz]; exact Hr1.out))
    clear hy6 hr er
    go_upto_region 10 with fail
    rw [HW.out, Hgb.out, Er.out]
    clear HW Hgb my Er
    obtain ⟨⟨⟨g0, g1⟩, _⟩, ⟨hGA, _⟩, _⟩ := HK.out W6 (Below.refl _ _)
    have HFa := hidIn (from_right hGA (r : Int))
    clear hGA
    go_wp2_with fail
    refine HFa.out.mono ?_
    rintro e w7 ⟨h7, hb7⟩
    rcases h7 with ⟨h7, _⟩ | ⟨_, l, u, mid, rfl, hmid, hrow, hat, his, hl25, hown⟩
    · exact absurd h7 (by rw [HN1.out]; simp)
    obtain ⟨pa, pcap, rfl, _⟩ := hat.s
    have Hat := hidIn hat
    have Hisa := hidIn his
    have HB7 := hidIn hb7
    have Hl25 := hidIn hl25
    clear hmid hrow hat his hl25 hown hb7 g0 g1 HFa
    obtain ⟨⟨_, g0, g1⟩, ⟨_, hGA⟩, _⟩ := HK.out w7 HB7.out
    have HFb := hidIn (from_right hGA (r : Int))
    clear hGA
    obtain ⟨pl, hpl⟩ : ∃ pl, l.length = pl := ⟨_, rfl⟩
    have Hpl := hidIn hpl
    rw [hpl] at Hat ⊢
    clear hpl
    go_wp2_with fail
    refine HFb.out.mono ?_
    rintro e w8 ⟨h8, hb8⟩
    rcases h8 with ⟨h8, _⟩ | ⟨_, mm, u2, mid2, rfl, hmid, hrow, hat, his, hl25, hown⟩
    · exact absurd h8 (by rw [HN2.out]; simp)
    obtain ⟨qa, qcap, rfl, _, _, hqc⟩ := hat.s.rchs
    have Hqc := hidIn hqc
    have Hisb := hidIn his
    have HB8 := hidIn (HB7.out.trans (hb8.mono HB7.out.size))
    have Hat' := hidIn (Hat.out.keep hb8 (Nat.le_refl _))
    have hle := fewer_len (by rw [HE1.out]; exact Hisa.out) (by rw [HE2.out]; exact his)
    rw [List.length_map, List.length_map, Hpl.out] at hle
    have Hl25b := hidIn hl25
    clear hmid hrow hat his hl25 hown hb8 g0 g1 HFb HB7 Hat hqc
    obtain ⟨ql, hql⟩ : ∃ ql, mm.length = ql := ⟨_, rfl⟩
    have Hql := hidIn hql
    rw [hql] at Hqc Hl25b hle ⊢
    clear hql
    have hlei : ¬ (pl : Int) < (ql : Int) := by omega
    obtain ⟨_, _, hSq, _⟩ := HK.out w8 HB8.out
    have HAg := hidIn (again_any hSq HKb.out Hz.out)
    clear hSq
    go_wp2_with fail
    refine HAg.out.mono ?_
    rintro e w9 ⟨h9, hb9⟩
    have HB9 := hidIn (HB8.out.trans (hb9.mono HB8.out.size))
    have Hat9 := hidIn (Hat'.out.keep hb9 (Nat.le_refl _))
    have Hb9 := hidIn hb9
    clear HAg hb9 Hat'
    rcases h9 with rfl | ⟨rfl, hno⟩
    · go_wp2_with fail
      refine (works_any _).mono ?_
      rintro e wz ⟨rfl, hbz⟩
      have HBz := hidIn (HK.out wz (HB9.out.trans (hbz.mono HB9.out.size))).2.2.2
      clear hbz
      go_wp2_with fail
      go_ret
      exact ⟨rfl, HBz.out⟩
    have HCost : Hid (∀ (k : Nat) (p : Rr × Value), mm[k]? = some p → 0 ≤ csL (l.map (·.1)) p.1.node ∧ csL (l.map (·.1)) p.1.node ≤ p.1.cost) := hidIn fun k p hp => fewer_cost Hz.out hno (by rw [HE1.out]; exact Hisa.out) (by rw [HE2.out]; exact Hisb.out) (List.mem_map.2 ⟨p, List.mem_of_getElem? hp, rfl⟩)
    clear hno
    have hq25 := Hl25b.out
    go_wp2_with fail
    go_loopw [16] (fun q wr => ∃ k : Nat, k ≤ ql ∧ q = .int .i64 k ∧ Hid (Below w9.heap.size w9 wr)) (fun q _ => ql - (intOf q).toNat)
    case atStart => exact ⟨0, Nat.zero_le _, rfl, hidIn (Below.refl _ _)⟩
    case round =>
      obtain ⟨k, hk, rfl, HR⟩ := hrel
      by_cases hlt : k < ql
      · have hki : (k : Int) < (ql : Int) := by omega
        obtain ⟨bq, oq, rfl, hbq, hqcell⟩ := Hqc.out (by omega)
        obtain ⟨p, hp⟩ : ∃ p, mm[k]? = some p := ⟨mm[k]'(by rw [Hql.out]; exact hlt), List.getElem?_eq_getElem _⟩
        have hcs := HCost.out k p hp
        obtain ⟨t0, t1, _⟩ := hqcell k p hp
        have hb89 := Hb9.out.trans (HR.out.mono Hb9.out.size)
        have c0 := (hb89.cell (p := ⟨bq, oq + k * 5, none⟩) hbq).trans t0
        have HQ : Hid (∀ wq, Below wr.heap.size wr wq → wq.cell? ⟨bq, oq + k * 5 + 1, none⟩ = some (.int .i64 p.1.cost)) := hidIn fun wq hq => ((hb89.trans (hq.mono hb89.size)).cell (p := ⟨bq, oq + k * 5 + 1, none⟩) hbq).trans t1
        have HCs := hidIn (lcost_any (t := p.1.node) (Hat9.out.keep HR.out (Nat.le_refl _)))
        obtain ⟨cv, hcv⟩ : ∃ cv, csL (l.map (·.1)) p.1.node = cv := ⟨_, rfl⟩
        rw [hcv] at HCs hcs
        obtain ⟨hcs0, hcs1⟩ := hcs
        generalize p.1.node = pn at *
        generalize p.1.cost = pc at *
        clear hp hqcell t0 t1 hb89 hcv
        go_wp2_with fail
        refine HCs.out.mono ?_
        rintro e w10 ⟨rfl, hb10⟩
        have c1 := HQ.out w10 hb10
        have HR2 := hidIn (HR.out.trans (hb10.mono HR.out.size))
        have n1 : ¬ cv < 0 := by omega
        have n2 : ¬ pc < cv := by omega
        clear hb10 HCs c0 HQ
        go_wp2_with fail
        go_roundw
        case rel => exact ⟨k + 1, by omega, by go_num, HR2⟩
        case measure => simp [intOf]; omega
      · have hki : ¬ ((k : Int) < (ql : Int)) := by omega
        go_wp2_with fail
        refine (works_any _).mono ?_
        rintro e wz ⟨rfl, hbz⟩
        have h1 := HB9.out.trans (HR.out.mono HB9.out.size)
        have HBz := hidIn (HK.out wz (h1.trans (hbz.mono h1.size))).2.2.2
        clear hbz h1
        go_wp2_with fail
        go_ret
        exact ⟨rfl, HBz.out⟩
theorem pathsFewer_int {L : List Ed} {v : Value} {w : World} {x y : Int} (h : SlAt lc3 3 w v L) (hL : LkB L) (hx : (Lit.int .u8 x).wf = true) (hy : (Lit.int .u8 y).wf = true) :
    Calls Try.prog 7 #[v, .int .u8 x, .int .u8 y] w fun e w' => e = .returned (.bool true) ∧ Below w.heap.size w w' := by
  have h1 := bounds_u8 hx
  have h2 := bounds_u8 hy
  obtain ⟨X, rfl⟩ : ∃ X : Nat, x = (X : Int) := ⟨x.toNat, by omega⟩
  obtain ⟨Y, rfl⟩ : ∃ Y : Nat, y = (Y : Int) := ⟨y.toNat, by omega⟩
  exact pathsFewer_walk h hL X Y (by omega) (by omega)
end Go.Proofs.Ytfbojelflplflaa
namespace Go.Proofs.Ytfbojelflplflaa
open Go.ChangeShapes Go.WideShapes Go.ChangeAt Go.RowKit

section
variable {H : Type} {enc : TypeId × Value → H} {W : World}
theorem cU8 : Try.prog.cellsOf 5 = 1 := by kernel_rfl
theorem cLk8 : Try.prog.cellsOf 81 = 3 := by kernel_rfl
theorem bLk8 : Try.prog.bytesOf 81 = 3 := by kernel_rfl
theorem lk8F : Try.prog.underlying 81 = some (.struct #[(Try.prog.fieldsOf 81)[0]!, (Try.prog.fieldsOf 81)[1]!, (Try.prog.fieldsOf 81)[2]!]) := by kernel_rfl
theorem lk8F' : (((Try.prog.fieldsOf 81)[0]!).type = 5 ∧ ((Try.prog.fieldsOf 81)[0]!).offset = 0) ∧ (((Try.prog.fieldsOf 81)[1]!).type = 5 ∧ ((Try.prog.fieldsOf 81)[1]!).offset = 1) ∧ ((Try.prog.fieldsOf 81)[2]!).type = 5 ∧ ((Try.prog.fieldsOf 81)[2]!).offset = 2 := ⟨⟨by kernel_rfl, by kernel_rfl⟩, ⟨by kernel_rfl, by kernel_rfl⟩, by kernel_rfl, by kernel_rfl⟩
set_option maxRecDepth 100000 in
theorem lk8_cells {n : Nat} {cs' : List Value} {x : DataW H × List MemPlace} (h : DataW.trod enc Try.prog W 0 (fun _ => true) true n 81 cs' = some x) : ∃ y : Ed, cs' = lc3 y ∧ (0 ≤ y.1 ∧ y.1 ≤ 255) ∧ (0 ≤ y.2.1 ∧ y.2.1 ≤ 255) ∧ 0 ≤ y.2.2 ∧ y.2.2 ≤ 255 := by
  obtain ⟨y0, y1, y2, k, _, hlen, h0, h1, h2⟩ := Deep.trod_struct3 lk8F h
  obtain ⟨⟨a0, b0⟩, ⟨a1, b1⟩, a2, b2⟩ := lk8F'
  rw [cLk8] at hlen
  match cs', hlen with
  | [v0, v1, v2], _ =>
    rw [a0, b0, cU8] at h0
    rw [a1, b1, cU8] at h1
    rw [a2, b2, cU8] at h2
    obtain ⟨p, hp, _, wp⟩ := DataW.trod_int Try.underlying5 h0
    obtain ⟨q, hq, _, wq⟩ := DataW.trod_int Try.underlying5 h1
    obtain ⟨r, hr, _, wr⟩ := DataW.trod_int Try.underlying5 h2
    simp at hp hq hr
    exact ⟨(p, q, r), by rw [hp, hq, hr], bounds_u8 wp, bounds_u8 wq, bounds_u8 wr⟩
set_option maxRecDepth 100000 in
theorem lk8_arg {a : Option Addr} {len cap : Nat} {d : DataW H} {p : List MemPlace} (h : DataW.Trod enc Try.prog W 0 (fun _ => true) true 50 (.slice a len cap) d p) (hw : ∀ n ∈ d.weights Try.prog 50, n ≤ reachBytes) :
    ∃ ls, SlAt lc3 3 W (.slice a len cap) ls ∧ LkB ls ∧ NilOk (.slice a len cap) ∧ (ls.length + 1) * 3 ≤ 140737488355328 := by
  obtain ⟨fuel, hf⟩ := h
  obtain ⟨ns, hn1, hn2, hG, hn3⟩ := open_sl (0, 0, 0) (cs := lc3) (sz := 3) (fun _ => rfl) (by omega) Try.underlying50 cLk8 (fun n cs' x h => lk8_cells h) (by simpa [Value.cells] using hf)
  exact ⟨ns, hn1, hG, hn2, slice_weight Try.underlying50 bLk8 (by omega) hw (by rcases hn3 with rfl | h; exact .inl rfl; exact .inr h)⟩
end
end Go.Proofs.Ytfbojelflplflaa
