/- Count has at its end how many least-cost ways there are. -/
import Derived.Test.YtgjnljcphcmmeaaVQ6
namespace Go.Proofs.Ytgjnljcphcmmeaa

/-- How many ways cost d. -/
def waysN (es : List Ed) (r x d : Int) : Nat := ((List.range (d.toNat + 1)).map fun h => wh es r h x d).sum
theorem sumN_zero {F : Nat → Nat} : ∀ {l : List Nat}, (∀ h ∈ l, F h = 0) → (l.map F).sum = 0
  | [], _ => rfl
  | h :: l, hz => by rw [List.map_cons, List.sum_cons, hz h (by simp), sumN_zero (l := l) (fun k hk => hz k (by simp [hk]))]
theorem sumN_swap (es : List Ed) (G : Nat → Ed → Nat) : ∀ l : List Nat, (l.map fun h => (es.map fun e => G h e).sum).sum = (es.map fun e => (l.map fun h => G h e).sum).sum
  | [] => by
    simp only [List.map_nil, List.sum_nil]
    induction es with
    | nil => rfl
    | cons e es ih =>
      rw [List.map_cons, List.sum_cons, ← ih]
      rfl
  | h :: l => by
    simp only [List.map_cons, List.sum_cons]
    rw [sumN_swap es G l, sum_add]
/-- More hops than the cost: none. -/
theorem wh_far {es : List Ed} (hp : PosE es) {r x c : Int} {h : Nat} (hc : c < h) : wh es r h x c = 0 :=
  Nat.eq_zero_of_not_pos fun h0 => by have := ((wh_wy h0).pos hp).1; omega
theorem range_more (F : Nat → Nat) (n : Nat) : ∀ m, (∀ h, n ≤ h → F h = 0) → ((List.range (n + m)).map F).sum = ((List.range n).map F).sum
  | 0, _ => rfl
  | m + 1, hz => by
    rw [← Nat.add_assoc, List.range_succ, List.map_append, List.sum_append, range_more F n m hz]
    simp [hz (n + m) (by omega)]
theorem sum_filter (I : Ed → Bool) (F : Ed → Nat) : ∀ es : List Ed, ((es.filter I).map F).sum = (es.map fun e => if I e = true then F e else 0).sum
  | [] => rfl
  | e :: es => by
    by_cases h : I e = true
    · rw [List.filter_cons_of_pos h, List.map_cons, List.sum_cons, sum_filter I F es, List.map_cons, List.sum_cons, if_pos h]
    · rw [List.filter_cons_of_neg h, sum_filter I F es, List.map_cons, List.sum_cons, if_neg h, Nat.zero_add]
theorem sum_mod (F : Ed → Nat) (M a : Nat) : ∀ es : List Ed, (a + (es.map fun e => F e % M).sum) % M = (a + (es.map F).sum) % M := by
  intro es
  induction es generalizing a with
  | nil => rfl
  | cons e es ih =>
    simp only [List.map_cons, List.sum_cons]
    have h1 : (a + F e % M) % M = (a + F e) % M := Nat.add_mod_mod _ _ _
    rw [← Nat.add_assoc, ← Nat.add_assoc, ih (a + F e % M), Nat.add_mod (a + F e % M), h1, ← Nat.add_mod]
theorem waysN_step {ns : List Int} {es : List Ed} {r x d : Int} (hok : graphOk ns es = true) (hd : Ds es r x d) (I : Ed → Bool) (hI : ∀ e, e ∈ es → (I e = true ↔ Into es r x e)) :
    waysN es r x d = (if x = r then 1 else 0) + ((es.filter I).map fun e => waysN es r e.1 (d - e.2.2)).sum := by
  have hp := graphOk_pos hok
  have hd0 := hd.nonneg hp
  unfold waysN
  rw [List.range_succ_eq_map, List.map_cons, List.sum_cons, List.map_map]
  have h1 : wh es r 0 x d = if x = r then 1 else 0 := by
    simp only [wh]
    by_cases e : x = r
    · subst e
      rw [if_pos ⟨rfl, hd.uniq (ds_root hp)⟩, if_pos rfl]
    · rw [if_neg (fun h => e h.1), if_neg e]
  rw [h1]
  congr 1
  have h2 : ((List.range d.toNat).map ((fun h => wh es r h x d) ∘ Nat.succ)).sum = ((List.range d.toNat).map fun h => (es.map fun e => if e.2.1 = x then wh es r h e.1 (d - e.2.2) else 0).sum).sum := rfl
  rw [h2, sumN_swap, sum_filter]
  refine sum_congr fun e he => ?_
  by_cases hin : I e = true
  · rw [if_pos hin]
    obtain ⟨_, h3, d', h4, h5⟩ := (hI e he).1 hin
    have h6 := hd.uniq h5
    have h7 := hp e he
    have h8 := h4.nonneg hp
    simp only [h3, if_true]
    obtain ⟨m, hm⟩ : ∃ m, d.toNat = ((d - e.2.2).toNat + 1) + m := ⟨d.toNat - ((d - e.2.2).toNat + 1), by omega⟩
    rw [hm]
    exact range_more _ _ m (fun h hh => wh_far hp (by omega))
  · rw [if_neg hin]
    refine sumN_zero fun h _ => ?_
    by_cases h3 : e.2.1 = x
    · rw [if_pos h3]
      refine Nat.eq_zero_of_not_pos fun h0 => hin ((hI e he).2 ?_)
      exact (into_last hd he (wh_wy h0) h3.symm (by omega)).1
    · rw [if_neg h3]
open Classical in
theorem cnt_ways {ns : List Int} {es : List Ed} {r : Int} {P : List (Int × Int)} (hok : graphOk ns es = true) (hr : r ∈ ns) (h : IsNear es r P) (hn : NdOk P) :
    ∀ (n : Nat) (x d : Int), d.toNat = n → x ∈ ns → Ds es r x d → cntT r (told es P P) x.toNat = waysN es r x d % 18446744073709551616 := by
  have hp := graphOk_pos hok
  have hbd := graphOk_bd hok
  intro n
  induction n using Nat.strongRecOn with
  | _ n ih =>
  intro x d hdn hx hd
  have hI : ∀ e, e ∈ es → (decide (Into es r x e) = true ↔ Into es r x e) := fun e _ => decide_eq_true_iff
  rw [cnt_all hok hr h hn x hx (fun e => decide (Into es r x e)) hI, waysN_step hok hd (fun e => decide (Into es r x e)) hI]
  rw [← sum_mod (fun e => waysN es r e.1 (d - e.2.2))]
  congr 2
  refine sum_congr fun e he => ?_
  rw [List.mem_filter, decide_eq_true_iff] at he
  obtain ⟨h1, h2, d', h3, h4⟩ := he.2
  have h5 := hd.uniq h4
  have h6 := hp e h1
  have h7 := h3.nonneg hp
  rw [show d - e.2.2 = d' by omega]
  exact ih d'.toNat (by omega) e.1 d' rfl (hbd.2.1 e h1).1 h3
/-- As many ways back. -/
theorem waysN_turn {es : List Ed} (hd : es.Nodup) (hs : BothW es) (a x d : Int) : waysN es a x d = waysN es x a d := by
  unfold waysN
  congr 1
  exact List.map_congr_left fun h _ => wh_turn hd hs h a x d
end Go.Proofs.Ytgjnljcphcmmeaa
