/- Count has at its end how many least-cost ways there are. Count never runs over: what it has is above 0 just where there is a way. The document's Count, as functions: by rising costs. What the document's From tells of a node, as functions. What Build answers is made of the records alone (pure): the ways, the ids, their owners, the first steps. The chapter's example of tables, as lists (pure). Entries as a table bears them; the law's example and works. -/
import Derived.Test.YtbggingacoheiaaGreatDoorZ4
import Derived.Test.YtbggingacoheiaaGreatDoorZ3
namespace Go.Proofs.YtbggingacoheiaaGreatDoor

/-- How many ways cost d. -/
def waysN (es : List Ed) (r x d : Int) : Nat := ((List.range (d.toNat + 1)).map fun h => wh es r h x d).sum
theorem sumN_zero {F : Nat → Nat} : ∀ {l : List Nat}, (∀ h ∈ l, F h = 0) → (l.map F).sum = 0
  | [], _ => rfl
  | h :: l, hz => by rw [List.map_cons, List.sum_cons, hz h (by simp), sumN_zero (l := l) (fun k hk => hz k (by simp [hk]))]
theorem sumN_swap (es : List Ed) (G : Nat → Ed → Nat) : ∀ l : List Nat, (l.map fun h => (es.map fun e => G h e).sum).sum = (es.map fun e => (l.map fun h => G h e).sum).sum
  | [] => by
    simp only [List.map_nil, List.sum_nil]
    induction es with
    | nil => rfl
    | cons e es ih =>
      rw [List.map_cons, List.sum_cons, ← ih]
      rfl
  | h :: l => by
    simp only [List.map_cons, List.sum_cons]
    rw [sumN_swap es G l, sum_add]
/-- More hops than the cost: none. -/
theorem wh_far {es : List Ed} (hp : PosE es) {r x c : Int} {h : Nat} (hc : c < h) : wh es r h x c = 0 :=
  Nat.eq_zero_of_not_pos fun h0 => by have := ((wh_wy h0).pos hp).1; omega
theorem range_more (F : Nat → Nat) (n : Nat) : ∀ m, (∀ h, n ≤ h → F h = 0) → ((List.range (n + m)).map F).sum = ((List.range n).map F).sum
  | 0, _ => rfl
  | m + 1, hz => by
    rw [← Nat.add_assoc, List.range_succ, List.map_append, List.sum_append, range_more F n m hz]
    simp [hz (n + m) (by omega)]
theorem sum_filter (I : Ed → Bool) (F : Ed → Nat) : ∀ es : List Ed, ((es.filter I).map F).sum = (es.map fun e => if I e = true then F e else 0).sum
  | [] => rfl
  | e :: es => by
    by_cases h : I e = true
    · rw [List.filter_cons_of_pos h, List.map_cons, List.sum_cons, sum_filter I F es, List.map_cons, List.sum_cons, if_pos h]
    · rw [List.filter_cons_of_neg h, sum_filter I F es, List.map_cons, List.sum_cons, if_neg h, Nat.zero_add]
theorem sum_mod (F : Ed → Nat) (M a : Nat) : ∀ es : List Ed, (a + (es.map fun e => F e % M).sum) % M = (a + (es.map F).sum) % M := by
  intro es
  induction es generalizing a with
  | nil => rfl
  | cons e es ih =>
    simp only [List.map_cons, List.sum_cons]
    have h1 : (a + F e % M) % M = (a + F e) % M := Nat.add_mod_mod _ _ _
    rw [← Nat.add_assoc, ← Nat.add_assoc, ih (a + F e % M), Nat.add_mod (a + F e % M), h1, ← Nat.add_mod]
theorem waysN_step {ns : List Int} {es : List Ed} {r x d : Int} (hok : graphOk ns es = true) (hd : Ds es r x d) (I : Ed → Bool) (hI : ∀ e, e ∈ es → (I e = true ↔ Into es r x e)) :
    waysN es r x d = (if x = r then 1 else 0) + ((es.filter I).map fun e => waysN es r e.1 (d - e.2.2)).sum := by
  have hp := graphOk_pos hok
  have hd0 := hd.nonneg hp
  unfold waysN
  rw [List.range_succ_eq_map, List.map_cons, List.sum_cons, List.map_map]
  have h1 : wh es r 0 x d = if x = r then 1 else 0 := by
    simp only [wh]
    by_cases e : x = r
    · subst e
      rw [if_pos ⟨rfl, hd.uniq (ds_root hp)⟩, if_pos rfl]
    · rw [if_neg (fun h => e h.1), if_neg e]
  rw [h1]
  congr 1
  have h2 : ((List.range d.toNat).map ((fun h => wh es r h x d) ∘ Nat.succ)).sum = ((List.range d.toNat).map fun h => (es.map fun e => if e.2.1 = x then wh es r h e.1 (d - e.2.2) else 0).sum).sum := rfl
  rw [h2, sumN_swap, sum_filter]
  refine sum_congr fun e he => ?_
  by_cases hin : I e = true
  · rw [if_pos hin]
    obtain ⟨_, h3, d', h4, h5⟩ := (hI e he).1 hin
    have h6 := hd.uniq h5
    have h7 := hp e he
    have h8 := h4.nonneg hp
    simp only [h3, if_true]
    obtain ⟨m, hm⟩ : ∃ m, d.toNat = ((d - e.2.2).toNat + 1) + m := ⟨d.toNat - ((d - e.2.2).toNat + 1), by omega⟩
    rw [hm]
    exact range_more _ _ m (fun h hh => wh_far hp (by omega))
  · rw [if_neg hin]
    refine sumN_zero fun h _ => ?_
    by_cases h3 : e.2.1 = x
    · rw [if_pos h3]
      refine Nat.eq_zero_of_not_pos fun h0 => hin ((hI e he).2 ?_)
      exact (into_last hd he (wh_wy h0) h3.symm (by omega)).1
    · rw [if_neg h3]
open Classical in
theorem cnt_ways {ns : List Int} {es : List Ed} {r : Int} {P : List (Int × Int)} (hok : graphOk ns es = true) (hr : r ∈ ns) (h : IsNear es r P) (hn : NdOk P) :
    ∀ (n : Nat) (x d : Int), d.toNat = n → x ∈ ns → Ds es r x d → cntT r (told es P P) x.toNat = waysN es r x d % 18446744073709551616 := by
  have hp := graphOk_pos hok
  have hbd := graphOk_bd hok
  intro n
  induction n using Nat.strongRecOn with
  | _ n ih =>
  intro x d hdn hx hd
  have hI : ∀ e, e ∈ es → (decide (Into es r x e) = true ↔ Into es r x e) := fun e _ => decide_eq_true_iff
  rw [cnt_all hok hr h hn x hx (fun e => decide (Into es r x e)) hI, waysN_step hok hd (fun e => decide (Into es r x e)) hI]
  rw [← sum_mod (fun e => waysN es r e.1 (d - e.2.2))]
  congr 2
  refine sum_congr fun e he => ?_
  rw [List.mem_filter, decide_eq_true_iff] at he
  obtain ⟨h1, h2, d', h3, h4⟩ := he.2
  have h5 := hd.uniq h4
  have h6 := hp e h1
  have h7 := h3.nonneg hp
  rw [show d - e.2.2 = d' by omega]
  exact ih d'.toNat (by omega) e.1 d' rfl (hbd.2.1 e h1).1 h3
/-- As many ways back. -/
theorem waysN_turn {es : List Ed} (hd : es.Nodup) (hs : BothW es) (a x d : Int) : waysN es a x d = waysN es x a d := by
  unfold waysN
  congr 1
  exact List.map_congr_left fun h _ => wh_turn hd hs h a x d
end Go.Proofs.YtbggingacoheiaaGreatDoor
namespace Go.Proofs.YtbggingacoheiaaGreatDoor

theorem cnt_row (y : Int) : ∀ (F : List Ed) (c : Nat → Nat), (∀ e ∈ F, e.1 = y ∧ e.2.1.toNat ≠ y.toNat) → (F.Pairwise fun a b => a.2.1.toNat ≠ b.2.1.toNat) →
    (F.foldl cntE c) y.toNat = c y.toNat ∧ (∀ j, (F.foldl cntE c) j ≤ c j + c y.toNat) ∧ ∀ j, (∀ e ∈ F, e.2.1.toNat ≠ j) → (F.foldl cntE c) j = c j
  | [], c, _, _ => ⟨rfl, fun j => by simp, fun j _ => rfl⟩
  | e :: F, c, h, hp => by
    rw [List.pairwise_cons] at hp
    have he := h e (by simp)
    have hy : cntE c e y.toNat = c y.toNat := by unfold cntE putN; rw [if_neg (fun q => he.2 q.symm)]
    obtain ⟨h1, h2, h3⟩ := cnt_row y F (cntE c e) (fun f hf => h f (by simp [hf])) hp.2
    rw [List.foldl_cons]
    refine ⟨by rw [h1, hy], fun j => ?_, fun j hj => ?_⟩
    · by_cases hj : j = e.2.1.toNat
      · have h4 := h3 j (fun f hf q => hp.1 f hf (by rw [q, hj]))
        rw [h4]
        unfold cntE putN
        rw [if_pos hj, he.1, hj]
        exact Nat.mod_le _ _
      · have h4 := h2 j
        have h5 : cntE c e j = c j := by unfold cntE putN; rw [if_neg hj]
        rw [hy, h5] at h4
        exact h4
    · have h4 := h3 j (fun f hf => hj f (by simp [hf]))
      rw [h4]
      unfold cntE putN
      rw [if_neg (fun q => hj e (by simp) q.symm)]
theorem cnt_bound {ns : List Int} {es : List Ed} (hok : graphOk ns es = true) (hp : PosE es) (P : List (Int × Int)) (hne : ∀ e ∈ es, e.1 ≠ e.2.1) : ∀ (Q : List (Int × Int)) (c : Nat → Nat) (B : Nat), (∀ j, c j ≤ B) → ∀ j, ((told es P Q).foldl cntE c) j ≤ B * 2 ^ Q.length
  | [], c, B, h, j => by simpa [told] using h j
  | n :: Q, c, B, h, j => by
    have hbd := graphOk_bd hok
    have hr : es.Pairwise fun a b => risesE a b = true := by
      simp only [graphOk, Bool.and_eq_true] at hok
      exact (edgesOk_rise es _ hok.2.2).2
    rw [told, List.foldl_append]
    have hrow := cnt_row n.1 (es.filter fun e => decide (e.1 = n.1) && tgt es (cP P) P e) c (fun e he => by
      simp only [List.mem_filter, Bool.and_eq_true, decide_eq_true_eq] at he
      refine ⟨he.2.1, fun q => hne e he.1 ?_⟩
      have h1 := hbd.1 _ (hbd.2.1 e he.1).1
      have h2 := hbd.1 _ (hbd.2.1 e he.1).2
      rw [he.2.1] at h1 ⊢
      omega) (by
      have hf := hr.filter fun e => decide (e.1 = n.1) && tgt es (cP P) P e
      refine (List.pairwise_iff_forall_sublist.2 fun {a b} hab => ?_)
      have ha : a ∈ es.filter fun e => decide (e.1 = n.1) && tgt es (cP P) P e := hab.subset (by simp)
      have hb : b ∈ es.filter fun e => decide (e.1 = n.1) && tgt es (cP P) P e := hab.subset (by simp)
      have h3 := List.pairwise_iff_forall_sublist.1 hf hab
      simp only [List.mem_filter, Bool.and_eq_true, decide_eq_true_eq] at ha hb
      simp only [risesE, Bool.or_eq_true, Bool.and_eq_true, decide_eq_true_eq] at h3
      have h4 := hbd.1 _ (hbd.2.1 a ha.1).2
      have h5 := hbd.1 _ (hbd.2.1 b hb.1).2
      omega)
    have h6 := cnt_bound hok hp P hne Q ((es.filter fun e => decide (e.1 = n.1) && tgt es (cP P) P e).foldl cntE c) (B * 2) (fun i => by
      have := hrow.2.1 i
      have := h i
      have := h n.1.toNat
      omega) j
    rw [List.length_cons, Nat.pow_succ, Nat.mul_comm (2 ^ Q.length), ← Nat.mul_assoc]
    exact h6
theorem graphOk_ne {ns : List Int} {es : List Ed} (h : graphOk ns es = true) : ∀ e ∈ es, e.1 ≠ e.2.1 := by
  simp only [graphOk, Bool.and_eq_true] at h
  have key : ∀ (es : List Ed) (last : Ed), edgesOk ns last es = true → ∀ e ∈ es, e.1 ≠ e.2.1 := by
    intro es
    induction es with
    | nil => intro _ _ e he; simp at he
    | cons a es ih =>
      intro last h e he
      simp only [edgesOk, edgeOk, Bool.and_eq_true] at h
      rcases List.mem_cons.1 he with rfl | he
      · simpa using h.1.2.2.1
      · exact ih a h.2 e he
  exact key es _ h.2.2
theorem sum_le {F : Ed → Nat} {B : Nat} : ∀ {es : List Ed}, (∀ e ∈ es, F e ≤ B) → (es.map F).sum ≤ es.length * B
  | [], _ => by simp
  | e :: es, h => by
    rw [List.map_cons, List.sum_cons, List.length_cons, Nat.succ_mul]
    have h1 := h e (by simp)
    have h2 := sum_le (es := es) (F := F) (fun f hf => h f (by simp [hf]))
    omega
theorem sum_ge {F : Ed → Nat} : ∀ {es : List Ed} {e : Ed}, e ∈ es → F e ≤ (es.map F).sum
  | a :: es, e, h => by
    rw [List.map_cons, List.sum_cons]
    rcases List.mem_cons.1 h with rfl | h
    · omega
    · have := sum_ge (F := F) h; omega
open Classical in
theorem cnt_pos {ns : List Int} {es : List Ed} {r : Int} {P : List (Int × Int)} (hok : graphOk ns es = true) (hr : r ∈ ns) (h : IsNear es r P) (hn : NdOk P) :
    ∀ (n : Nat) (x d : Int), d.toNat = n → x ∈ ns → Ds es r x d → 0 < cntT r (told es P P) x.toNat := by
  have hp := graphOk_pos hok
  have hbd := graphOk_bd hok
  have hB : ∀ j, cntT r (told es P P) j ≤ 33554432 := fun j => by
    have h1 := cnt_bound hok hp P (graphOk_ne hok) P (putN (fun _ => 0) r.toNat 1) 1 (fun i => by unfold putN; split <;> simp) j
    have h2 : (2 : Nat) ^ P.length ≤ 2 ^ 25 := Nat.pow_le_pow_right (by omega) hn.1
    have h3 : (2 : Nat) ^ 25 = 33554432 := by decide
    have h4 : cntT r (told es P P) j ≤ 1 * 2 ^ P.length := h1
    omega
  intro n
  induction n using Nat.strongRecOn with
  | _ n ih =>
  intro x d hdn hx hd
  have hI : ∀ e, e ∈ es → (decide (Into es r x e) = true ↔ Into es r x e) := fun e _ => decide_eq_true_iff
  have hc := cnt_all hok hr h hn x hx (fun e => decide (Into es r x e)) hI
  have hs := sum_le (es := es.filter fun e => decide (Into es r x e)) (F := fun e => cntT r (told es P P) e.1.toNat) (fun e _ => hB _)
  have hl : (es.filter fun e => decide (Into es r x e)).length ≤ 384 := Nat.le_trans (List.length_filter_le _ _) hbd.2.2
  have hm : (es.filter fun e => decide (Into es r x e)).length * 33554432 ≤ 384 * 33554432 := Nat.mul_le_mul_right _ hl
  by_cases hxr : x = r
  · rw [if_pos hxr] at hc
    omega
  · rw [if_neg hxr] at hc
    obtain ⟨e, he⟩ := into_some hp hd hxr
    have hge := sum_ge (F := fun e => cntT r (told es P P) e.1.toNat) (es := es.filter fun e => decide (Into es r x e)) (e := e) (List.mem_filter.2 ⟨he.1, decide_eq_true_iff.2 he⟩)
    obtain ⟨h1, h2, d', h3, h4⟩ := he
    have h5 := hd.uniq h4
    have h6 := hp e h1
    have h7 := h3.nonneg hp
    have h8 := ih d'.toNat (by omega) e.1 d' rfl (hbd.2.1 e h1).1 h3
    omega
/-- Where there is no way, it has none. -/
theorem cnt_none {ns : List Int} {es : List Ed} {r : Int} {P : List (Int × Int)} (hok : graphOk ns es = true) (hr : r ∈ ns) (h : IsNear es r P) (hn : NdOk P) {x : Int} (hx : x ∈ ns) (hno : ∀ d, ¬ Ds es r x d) : cntT r (told es P P) x.toNat = 0 := by
  have hc := cnt_all hok hr h hn x hx (fun _ => false) (fun e _ => ⟨fun hf => by simp at hf, fun hI => absurd hI.2.2.choose_spec.2 (hno _)⟩)
  have hxr : x ≠ r := fun e => hno 0 (by rw [e]; exact ds_root (graphOk_pos hok))
  rw [if_neg hxr] at hc
  rw [hc, show (es.filter fun _ => false) = [] from by simp]
  rfl
end Go.Proofs.YtbggingacoheiaaGreatDoor
namespace Go.Proofs.YtbggingacoheiaaGreatDoor

def m64 : Nat := 18446744073709551616
/-- How many least-cost ways there are, by costs. -/
def wN (es : List Ed) (r : Int) (D : Int → Int) (x : Int) : Nat := if D x < farC then waysN es r x (D x) % m64 else 0
/-- What stands when all costs up to c are done. -/
def cntO (es : List Ed) (r : Int) (D : Int → Int) (c : Int) : Int → Nat := fun x => if D x ≤ c then wN es r D x else 0
/-- What stands amid the cost c: the first nodes are done. -/
def cntN (es : List Ed) (r : Int) (D : Int → Int) (c : Int) (done : List Int) : Int → Nat := fun x => if D x < c ∨ (D x = c ∧ x ∈ done) then wN es r D x else 0
/-- What is added up for a node, edge by edge. -/
def addE (D : Int → Int) (N : Int → Nat) (x : Int) (L : List Ed) : Nat := L.foldl (fun s e => if e.2.1 = x ∧ tgI D e = true then (s + N e.1) % m64 else s) 0
theorem addE_snoc (D : Int → Int) (N : Int → Nat) (x : Int) (L : List Ed) (e : Ed) : addE D N x (L ++ [e]) = if e.2.1 = x ∧ tgI D e = true then (addE D N x L + N e.1) % m64 else addE D N x L := by
  unfold addE
  rw [List.foldl_append]
  rfl
theorem addE_sum (D : Int → Int) (N : Int → Nat) (x : Int) : ∀ L : List Ed, addE D N x L = ((L.filter fun e => decide (e.2.1 = x) && tgI D e).map fun e => N e.1).sum % m64 := by
  have key : ∀ (L : List Ed) (s : Nat), s < m64 → L.foldl (fun s e => if e.2.1 = x ∧ tgI D e = true then (s + N e.1) % m64 else s) s = (s + ((L.filter fun e => decide (e.2.1 = x) && tgI D e).map fun e => N e.1).sum) % m64 := fun L => by
    induction L with
    | nil => intro s hs; simp [Nat.mod_eq_of_lt hs]
    | cons e L ih =>
      intro s hs
      rw [List.foldl_cons]
      by_cases h : e.2.1 = x ∧ tgI D e = true
      · rw [if_pos h, ih _ (Nat.mod_lt _ (by decide)), List.filter_cons_of_pos (by simp [h.1, h.2]), List.map_cons, List.sum_cons, Nat.mod_add_mod, Nat.add_assoc]
      · rw [if_neg h, ih s hs, List.filter_cons_of_neg (by
          intro h2
          simp only [Bool.and_eq_true, decide_eq_true_eq] at h2
          exact h h2)]
  intro L
  have := key L 0 (by decide)
  rw [Nat.zero_add] at this
  exact this
theorem bf_d {ns : List Int} {es : List Ed} (hok : graphOk ns es = true) {r : Int} (hr : r ∈ ns) {x : Int} (h : bfN es r ns.length x < farC) : Ds es r x (bfN es r ns.length x) ∧ 0 ≤ bfN es r ns.length x ∧ bfN es r ns.length x ≤ 24000 := by
  rcases bf_all hok hr x with ⟨d, h1, h2, h3, h4⟩ | ⟨_, h2⟩
  · rw [h2]
    have := graphOk_n24 hok
    exact ⟨h1, h3, by omega⟩
  · rw [h2] at h; exact absurd h (Int.lt_irrefl _)
theorem bf_zero {ns : List Int} {es : List Ed} (hok : graphOk ns es = true) {r : Int} (hr : r ∈ ns) (x : Int) : bfN es r ns.length x ≤ 0 ↔ x = r := by
  have hp := graphOk_pos hok
  constructor
  · intro h
    obtain ⟨h1, h2, _⟩ := bf_d hok hr (x := x) (by unfold farC; omega)
    obtain ⟨k, hk⟩ := h1.1
    have := (hk.pos hp).1
    exact (hk.zero (by omega)).1
  · rintro rfl
    have hd := ds_root (es := es) (r := x) hp
    rcases bf_all hok hr x with ⟨d, h1, h2, _⟩ | ⟨h1, _⟩
    · rw [h2, h1.uniq hd]; exact Int.le_refl _
    · exact absurd hd (h1 0)
/-- The start: one way to the root. -/
theorem cnt_start {ns : List Int} {es : List Ed} (hok : graphOk ns es = true) {r : Int} (hr : r ∈ ns) (x : Int) : cntO es r (bfN es r ns.length) 0 x = if x = r then 1 else 0 := by
  unfold cntO
  by_cases hx : x = r
  · have h0 := (bf_zero hok hr x).2 hx
    rw [if_pos h0, if_pos hx]
    obtain ⟨h1, h2, h3⟩ := bf_d hok hr (x := x) (by unfold farC; omega)
    have hz : bfN es r ns.length x = 0 := by omega
    unfold wN
    rw [if_pos (by rw [hz]; decide), hz]
    unfold waysN
    simp [wh, hx, m64]
  · rw [if_neg (fun h => hx ((bf_zero hok hr x).1 h)), if_neg hx]
/-- A node's edges, added up. -/
theorem cnt_node {ns : List Int} {es : List Ed} (hok : graphOk ns es = true) {r : Int} (hr : r ∈ ns) {x c : Int} {done : List Int} (hc : 1 ≤ c) (hc2 : c ≤ 24000) (hx : bfN es r ns.length x = c) : addE (bfN es r ns.length) (cntN es r (bfN es r ns.length) c done) x es = wN es r (bfN es r ns.length) x := by
  have hp := graphOk_pos hok
  obtain ⟨hd, _, _⟩ := bf_d hok hr (x := x) (by unfold farC; omega)
  have hxr : x ≠ r := fun e => by
    have := (bf_zero hok hr x).2 e
    omega
  rw [addE_sum]
  have hI : ∀ e, e ∈ es → ((fun e : Ed => decide (e.2.1 = x) && tgI (bfN es r ns.length) e) e = true ↔ Into es r x e) := fun e he => by
    simp only [Bool.and_eq_true, decide_eq_true_eq]
    constructor
    · rintro ⟨h1, h2⟩
      subst h1
      exact (tg_into hok hr he hd).1 h2
    · intro h1
      have h2 := h1.2.1
      subst h2
      exact ⟨rfl, (tg_into hok hr he hd).2 h1⟩
  unfold wN
  rw [if_pos (by unfold farC; omega), waysN_step hok hd _ hI, if_neg hxr]
  have hm := sum_mod (fun e => waysN es r e.1 (bfN es r ns.length x - e.2.2)) m64 0 (es.filter fun e => decide (e.2.1 = x) && tgI (bfN es r ns.length) e)
  simp only [Nat.zero_add] at hm ⊢
  rw [← hm]
  congr 1
  refine sum_congr fun e he => ?_
  obtain ⟨he1, he2⟩ := List.mem_filter.1 he
  obtain ⟨_, h2, d', h3, h4⟩ := (hI e he1).1 he2
  have h5 := h4.uniq hd
  have hpe := hp e he1
  have hde : bfN es r ns.length e.1 = d' := by
    rcases bf_all hok hr e.1 with ⟨d'', k1, k2, _⟩ | ⟨k1, _⟩
    · rw [k2]; exact k1.uniq h3
    · exact absurd h3 (k1 d')
  have hlt : bfN es r ns.length e.1 < c := by rw [hde]; omega
  unfold cntN
  rw [if_pos (.inl hlt)]
  unfold wN
  rw [if_pos (by unfold farC; omega), hde]
  congr 1
  rw [show bfN es r ns.length x - e.2.2 = d' by omega]
theorem cntN_nil (es : List Ed) (r : Int) (D : Int → Int) (c x : Int) : cntN es r D c [] x = cntO es r D (c - 1) x := by
  unfold cntN cntO
  by_cases h : D x < c
  · rw [if_pos (.inl h), if_pos (by omega)]
  · rw [if_neg (by simp; omega), if_neg (by omega)]
theorem cntN_all {es : List Ed} {r : Int} {D : Int → Int} {c : Int} {ns : List Int} {x : Int} (hx : x ∈ ns) : cntN es r D c ns x = cntO es r D c x := by
  unfold cntN cntO
  by_cases h : D x ≤ c
  · rw [if_pos (by by_cases h2 : D x = c; exact .inr ⟨h2, hx⟩; exact .inl (by omega)), if_pos h]
  · rw [if_neg (by intro e; rcases e with e | e <;> omega), if_neg h]
/-- A node more is done, of another cost: nothing turns. -/
theorem cntN_skip {es : List Ed} {r : Int} {D : Int → Int} {c : Int} {done : List Int} {z : Int} (hz : D z ≠ c) (x : Int) : cntN es r D c (done ++ [z]) x = cntN es r D c done x := by
  unfold cntN
  by_cases h : D x < c ∨ (D x = c ∧ x ∈ done)
  · rw [if_pos h, if_pos (by rcases h with h | h; exact .inl h; exact .inr ⟨h.1, List.mem_append.2 (.inl h.2)⟩)]
  · rw [if_neg h, if_neg (fun e => h (by
      rcases e with e | ⟨e1, e2⟩
      · exact .inl e
      · rcases List.mem_append.1 e2 with e2 | e2
        · exact .inr ⟨e1, e2⟩
        · rw [List.mem_singleton.1 e2] at e1; exact absurd e1 hz))]
theorem cntN_more {es : List Ed} {r : Int} {D : Int → Int} {c : Int} {done : List Int} {z : Int} (hz : D z = c) (x : Int) : cntN es r D c (done ++ [z]) x = if x = z then wN es r D z else cntN es r D c done x := by
  unfold cntN
  by_cases hx : x = z
  · rw [if_pos hx, hx, if_pos (.inr ⟨hz, by simp⟩)]
  · rw [if_neg hx]
    by_cases h : D x < c ∨ (D x = c ∧ x ∈ done)
    · rw [if_pos h, if_pos (by rcases h with h | h; exact .inl h; exact .inr ⟨h.1, List.mem_append.2 (.inl h.2)⟩)]
    · rw [if_neg h, if_neg (fun e => h (by
        rcases e with e | ⟨e1, e2⟩
        · exact .inl e
        · rcases List.mem_append.1 e2 with e2 | e2
          · exact .inr ⟨e1, e2⟩
          · exact absurd (List.mem_singleton.1 e2) hx))]
/-- What the program's Count tells is what stands at the end. -/
theorem cnt_end {ns : List Int} {es : List Ed} {r : Int} {P : List (Int × Int)} (hok : graphOk ns es = true) (hr : r ∈ ns) (h : IsNear es r P) (hn : NdOk P) {x : Int} (hx : x ∈ ns) {c : Int} (hc : c ≤ 24000) (hcx : bfN es r ns.length x ≤ c ∨ c = 24000) : cntO es r (bfN es r ns.length) c x = cntT r (told es P P) x.toNat := by
  unfold cntO
  rcases bf_all hok hr x with ⟨d, h1, h2, h3, h4⟩ | ⟨h1, h2⟩
  · have := graphOk_n24 hok
    rw [if_pos (by rw [h2] at hcx ⊢; omega), cnt_ways hok hr h hn d.toNat x d rfl hx h1]
    unfold wN
    rw [if_pos (by rw [h2]; unfold farC; omega), h2]
    rfl
  · rw [if_neg (by rw [h2]; unfold farC; omega), cnt_none hok hr h hn hx h1]
end Go.Proofs.YtbggingacoheiaaGreatDoor
namespace Go.Proofs.YtbggingacoheiaaGreatDoor

/-- A number laid ahead of the first greater one. -/
def inL7 (n : Int) : List Int → List Int
  | [] => [n]
  | x :: l => if n < x then n :: x :: l else x :: inL7 n l
theorem inL7_mem {n y : Int} : ∀ {l : List Int}, y ∈ inL7 n l ↔ y = n ∨ y ∈ l
  | [] => by simp [inL7]
  | x :: l => by
    unfold inL7
    split
    · simp
    · rw [List.mem_cons, inL7_mem, List.mem_cons]
      constructor
      · rintro (h | h | h)
        · exact .inr (.inl h)
        · exact .inl h
        · exact .inr (.inr h)
      · rintro (h | h | h)
        · exact .inr (.inl h)
        · exact .inl h
        · exact .inr (.inr h)
theorem inL7_rise {n : Int} : ∀ {l : List Int}, (l.Pairwise fun a b => a < b) → n ∉ l → (inL7 n l).Pairwise fun a b => a < b
  | [], _, _ => by simp [inL7]
  | x :: l, h, hn => by
    obtain ⟨h1, h2⟩ := List.pairwise_cons.1 h
    unfold inL7
    split
    · rename_i hlt
      refine List.pairwise_cons.2 ⟨fun y hy => ?_, h⟩
      rcases List.mem_cons.1 hy with rfl | hy
      · exact hlt
      · have := h1 y hy; omega
    · rename_i hlt
      refine List.pairwise_cons.2 ⟨fun y hy => ?_, inL7_rise h2 (fun h => hn (List.mem_cons_of_mem _ h))⟩
      rcases inL7_mem.1 hy with rfl | hy
      · have : y ≠ x := fun e => hn (by rw [e]; exact List.mem_cons_self)
        omega
      · exact h1 y hy
theorem inL7_put {n : Int} {s : List Int} : ∀ {p : List Int}, (∃ y ∈ p, n < y) → inL7 n (p ++ s) = inL7 n p ++ s
  | [], h => by obtain ⟨y, h, _⟩ := h; simp at h
  | x :: p, h => by
    show (if n < x then n :: x :: (p ++ s) else x :: inL7 n (p ++ s)) = (if n < x then n :: x :: p else x :: inL7 n p) ++ s
    split
    · rfl
    · rename_i hlt
      rw [inL7_put (by
        obtain ⟨y, h1, h2⟩ := h
        rcases List.mem_cons.1 h1 with rfl | h1
        · exact absurd h2 hlt
        · exact ⟨y, h1, h2⟩)]
      rfl
theorem inL7_no {n : Int} {s : List Int} : ∀ {p : List Int}, (∀ y ∈ p, ¬ n < y) → inL7 n (p ++ s) = p ++ inL7 n s
  | [], _ => rfl
  | x :: p, h => by
    show (if n < x then n :: x :: (p ++ s) else x :: inL7 n (p ++ s)) = _
    rw [if_neg (h x List.mem_cons_self), inL7_no (fun y hy => h y (List.mem_cons_of_mem _ hy))]
    rfl
theorem inL7_len {n : Int} : ∀ {l : List Int}, (inL7 n l).length = l.length + 1
  | [] => rfl
  | x :: l => by
    unfold inL7
    split
    · rfl
    · rw [List.length_cons, inL7_len]; rfl
/-- A list with a number more, rising, once. -/
def withL (l : List Int) (n : Int) : List Int := if n ∈ l then l else inL7 n l
theorem withL_mem {l : List Int} {n y : Int} : y ∈ withL l n ↔ y ∈ l ∨ y = n := by
  unfold withL
  split
  · rename_i h
    exact ⟨.inl, fun h' => h'.elim id (fun e => e ▸ h)⟩
  · rw [inL7_mem]; exact Or.comm
theorem withL_rise {l : List Int} {n : Int} (h : l.Pairwise fun a b => a < b) : (withL l n).Pairwise fun a b => a < b := by
  unfold withL
  split
  · exact h
  · rename_i hn; exact inL7_rise h hn
theorem withF_mem {y : Int} : ∀ {m l : List Int}, y ∈ m.foldl withL l ↔ y ∈ l ∨ y ∈ m
  | [], l => by simp
  | n :: m, l => by
    rw [List.foldl_cons, withF_mem, withL_mem, List.mem_cons]
    exact or_assoc
theorem withF_rise : ∀ {m l : List Int}, (l.Pairwise fun a b => a < b) → (m.foldl withL l).Pairwise fun a b => a < b
  | [], _, h => h
  | n :: m, l, h => by rw [List.foldl_cons]; exact withF_rise (withL_rise h)
theorem withL_len {l : List Int} {n : Int} : (withL l n).length ≤ l.length + 1 := by
  unfold withL
  split
  · omega
  · rw [inL7_len]; omega
/-- What is gathered at a node out of the edges L that lead there. -/
structure Gth (r : Int) (K : Int → Rr) (x d : Int) (L : List Ed) (A : Rr) : Prop where
  node : A.node = x
  cost : A.cost = d
  l1 : ∀ e ∈ L, A.least ≤ (K e.1).least + 1
  l2 : ∃ e ∈ L, A.least = (K e.1).least + 1
  m1 : ∀ e ∈ L, (K e.1).most + 1 ≤ A.most
  m2 : ∃ e ∈ L, A.most = (K e.1).most + 1
  np : A.next.Pairwise fun a b => a < b
  nx : ∀ y, y ∈ A.next ↔ ∃ e ∈ L, y ∈ nxE r (K e.1) e
theorem gth_right {ns : List Int} {es : List Ed} {r : Int} {K : Int → Rr} {x d : Int} {L : List Ed} {A : Rr} (hok : graphOk ns es = true) (hd : Ds es r x d) (hxr : x ≠ r) (hL : ∀ e, e ∈ L ↔ Into es r x e) (hK : ∀ e d', e ∈ es → Ds es r e.1 d' → d' < d → Right es r e.1 d' (K e.1)) (hG : Gth r K x d L A) : Right es r x d A := by
  have hp := graphOk_pos hok
  have hin : ∀ e ∈ L, ∃ d', e ∈ es ∧ e.2.1 = x ∧ Ds es r e.1 d' ∧ d = d' + e.2.2 ∧ Right es r e.1 d' (K e.1) := fun e he => by
    obtain ⟨h1, h2, d', h3, h4⟩ := (hL e).1 he
    have h5 := hd.uniq h4
    have h6 := hp e h1
    exact ⟨d', h1, h2, h3, h5, hK e d' h1 h3 (by omega)⟩
  refine ⟨hG.node, hG.cost, ?_, ?_, fun k hw => ?_, ?_, ?_, hG.np, fun e => absurd e hxr, fun _ y => ?_⟩
  · obtain ⟨e, he, h1⟩ := hG.l2
    obtain ⟨d', _, _, _, _, hR⟩ := hin e he
    have := hR.l0
    omega
  · obtain ⟨e, he, h1⟩ := hG.m2
    obtain ⟨d', _, _, _, _, hR⟩ := hin e he
    have := hR.m0
    omega
  · rcases hw.last with ⟨h1, _⟩ | ⟨e, he, c', h', hw', h1, h2, h3⟩
    · exact absurd h1 hxr
    · obtain ⟨h4, h5⟩ := into_last hd he hw' h1 h2
      have h6 := (hL e).2 h4
      obtain ⟨d', _, _, h7, _, hR⟩ := hin e h6
      have h8 := h7.uniq h5
      rw [h8] at hR
      have h9 := hR.hops _ hw'
      have := hG.l1 e h6
      have := hG.m1 e h6
      omega
  · obtain ⟨e, he, h1⟩ := hG.l2
    obtain ⟨d', h2, h3, _, h5, hR⟩ := hin e he
    have h6 := hR.lw.step h2
    have := hR.l0
    rw [h3, ← h5, show (K e.1).least.toNat + 1 = A.least.toNat by omega] at h6
    exact h6
  · obtain ⟨e, he, h1⟩ := hG.m2
    obtain ⟨d', h2, h3, _, h5, hR⟩ := hin e he
    have h6 := hR.mw.step h2
    have := hR.m0
    rw [h3, ← h5, show (K e.1).most.toNat + 1 = A.most.toNat by omega] at h6
    exact h6
  · rw [hG.nx y]
    constructor
    · rintro ⟨e, he, hy⟩
      obtain ⟨d', h2, h3, h4, h5, hR⟩ := hin e he
      unfold nxE at hy
      by_cases her : e.1 = r
      · rw [if_pos her, List.mem_singleton] at hy
        have h6 : d' = 0 := by rw [her] at h4; exact h4.uniq (ds_root hp)
        refine ⟨e, h2, her, hy.symm, 0, ?_⟩
        rw [hy, h3, show d - e.2.2 = 0 by omega]
        exact Wy.refl _ _
      · rw [if_neg her] at hy
        obtain ⟨e1, g1, g2, g3, k, g4⟩ := (hR.nx her y).1 hy
        refine ⟨e1, g1, g2, g3, k + 1, ?_⟩
        have g5 := g4.step h2
        rw [h3, show d' - e1.2.2 + e.2.2 = d - e1.2.2 by omega] at g5
        exact g5
    · rintro ⟨e1, g1, g2, g3, k, g4⟩
      have hfirst : Wy es r y e1.2.2 1 := by
        have := Wy.one g1
        rw [g2, g3] at this
        exact this
      have hpe := hp e1 g1
      rcases g4.last with ⟨h1, h2, _⟩ | ⟨e, he, c', h', hw', h1, h2, h3⟩
      · have hI : Into es r x e1 := ⟨g1, by rw [g3, h1], 0, by rw [g2]; exact ds_root hp, by rw [show (0 : Int) + e1.2.2 = d by omega]; exact hd⟩
        refine ⟨e1, (hL e1).2 hI, ?_⟩
        unfold nxE
        rw [if_pos g2, List.mem_singleton, g3]
      · have hw2 := hfirst.trans hw'
        obtain ⟨hI, hDe⟩ := into_last hd he hw2 h1 (by omega)
        have h6 := (hL e).2 hI
        obtain ⟨d', _, _, h7, _, hR⟩ := hin e h6
        have h8 := h7.uniq hDe
        have hc' := (hw'.pos hp).1
        have her : e.1 ≠ r := fun e' => by
          rw [e'] at hDe
          have := hDe.uniq (ds_root hp)
          omega
        refine ⟨e, h6, ?_⟩
        unfold nxE
        rw [if_neg her]
        refine (hR.nx her y).2 ⟨e1, g1, g2, g3, h', ?_⟩
        rw [h8, show e1.2.2 + c' - e1.2.2 = c' by omega]
        exact hw'
/-- What is right of a node is so once. -/
theorem Right.uniq {es : List Ed} {r x d : Int} {A B : Rr} (h : Right es r x d A) (k : Right es r x d B) : A = B := by
  by_cases hx : x = r
  · rw [h.root hx, k.root hx]
  · have h1 := (h.hops _ k.lw).1
    have h2 := (k.hops _ h.lw).1
    have h3 := (h.hops _ k.mw).2
    have h4 := (k.hops _ h.mw).2
    have := h.l0
    have := k.l0
    have := h.m0
    have := k.m0
    have h5 : A.next = B.next := rise_ext7 h.np k.np (fun y => by rw [h.nx hx y, k.nx hx y])
    obtain ⟨a1, a2, a3, a4, a5⟩ := A
    obtain ⟨b1, b2, b3, b4, b5⟩ := B
    have h6 := h.node
    have h7 := k.node
    have h8 := h.cost
    have h9 := k.cost
    simp only at *
    rw [Rr.mk.injEq]
    exact ⟨by omega, by omega, by omega, by omega, h5⟩
where rise_ext7 : ∀ {l m : List Int}, (l.Pairwise fun a b => a < b) → (m.Pairwise fun a b => a < b) → (∀ y, y ∈ l ↔ y ∈ m) → l = m
  | [], [], _, _, _ => rfl
  | [], y :: m, _, _, h => absurd ((h y).2 List.mem_cons_self) (by simp)
  | x :: l, [], _, _, h => absurd ((h x).1 List.mem_cons_self) (by simp)
  | x :: l, y :: m, h1, h2, h => by
    obtain ⟨p1, p2⟩ := List.pairwise_cons.1 h1
    obtain ⟨q1, q2⟩ := List.pairwise_cons.1 h2
    have hxy : x = y := by
      rcases List.mem_cons.1 ((h x).1 List.mem_cons_self) with e | e
      · exact e
      · rcases List.mem_cons.1 ((h y).2 List.mem_cons_self) with e' | e'
        · exact e'.symm
        · have := q1 x e; have := p1 y e'; omega
    subst hxy
    rw [rise_ext7 p2 q2 (fun z => by
      constructor
      · intro hz
        rcases List.mem_cons.1 ((h z).1 (List.mem_cons_of_mem _ hz)) with e | e
        · have := p1 z hz; omega
        · exact e
      · intro hz
        rcases List.mem_cons.1 ((h z).2 (List.mem_cons_of_mem _ hz)) with e | e
        · have := q1 z hz; omega
        · exact e)]
/-- Two lists that From may answer are one. -/
theorem IsFrom.uniq {ns : List Int} {es : List Ed} {r : Int} {l m : List Rr} (h : IsFrom ns es r l) (k : IsFrom ns es r m) : l = m :=
  go l m h.rise k.rise (fun p hp => by
    obtain ⟨h1, d, h2, h3⟩ := h.right p hp
    obtain ⟨q, hq, h4⟩ := k.all _ d h1 h2
    obtain ⟨_, d2, h5, h6⟩ := k.right q hq
    rw [h4] at h5 h6
    rw [h5.uniq h2] at h6
    rw [h3.uniq h6]
    exact hq) (fun p hp => by
    obtain ⟨h1, d, h2, h3⟩ := k.right p hp
    obtain ⟨q, hq, h4⟩ := h.all _ d h1 h2
    obtain ⟨_, d2, h5, h6⟩ := h.right q hq
    rw [h4] at h5 h6
    rw [h5.uniq h2] at h6
    rw [h3.uniq h6]
    exact hq)
where go : ∀ l m : List Rr, (l.Pairwise fun a b => a.node < b.node) → (m.Pairwise fun a b => a.node < b.node) → (∀ p ∈ l, p ∈ m) → (∀ p ∈ m, p ∈ l) → l = m
  | [], [], _, _, _, _ => rfl
  | [], y :: m, _, _, _, h => absurd (h y List.mem_cons_self) (by simp)
  | x :: l, [], _, _, h, _ => absurd (h x List.mem_cons_self) (by simp)
  | x :: l, y :: m, h1, h2, h3, h4 => by
    obtain ⟨p1, p2⟩ := List.pairwise_cons.1 h1
    obtain ⟨q1, q2⟩ := List.pairwise_cons.1 h2
    have hxy : x = y := by
      rcases List.mem_cons.1 (h3 x List.mem_cons_self) with e | e
      · exact e
      · rcases List.mem_cons.1 (h4 y List.mem_cons_self) with e' | e'
        · exact e'.symm
        · have := q1 x e; have := p1 y e'; omega
    subst hxy
    rw [go l m p2 q2 (fun z hz => by
      rcases List.mem_cons.1 (h3 z (List.mem_cons_of_mem _ hz)) with e | e
      · have := p1 z hz; rw [e] at this; omega
      · exact e) (fun z hz => by
      rcases List.mem_cons.1 (h4 z (List.mem_cons_of_mem _ hz)) with e | e
      · have := q1 z hz; rw [e] at this; omega
      · exact e)]
/-- One edge more, at the node x. -/
def selE (x : Int) (D : Int → Int) (e : Ed) : Bool := decide (e.2.1 = x) && tgI D e
def addO (r x : Int) (K : Rr) (fst : Bool) (A : Rr) (e : Ed) : Rr :=
  ⟨A.node, A.cost, if fst = true ∨ K.least + 1 < A.least then K.least + 1 else A.least, if fst = true ∨ A.most < K.most + 1 then K.most + 1 else A.most, K.next.foldl withL (if e.1 = r then withL A.next x else A.next)⟩
def oneE (r x : Int) (D : Int → Int) (K : Int → Rr) (s : Bool × Rr) (e : Ed) : Bool × Rr :=
  if selE x D e = true then (false, addO r x (K e.1) s.1 s.2 e) else s
def oneS (x : Int) (D : Int → Int) : Bool × Rr := (true, ⟨x, D x, 0, 0, []⟩)
def oneF (r x : Int) (D : Int → Int) (K : Int → Rr) (L : List Ed) : Bool × Rr := L.foldl (oneE r x D K) (oneS x D)
def oneR (r x : Int) (D : Int → Int) (K : Int → Rr) (es : List Ed) : Rr := if x = r then ⟨x, D x, 0, 0, []⟩ else (oneF r x D K es).2
def OneI (r x : Int) (D : Int → Int) (K : Int → Rr) (L : List Ed) (s : Bool × Rr) : Prop := (L = [] ∧ s = oneS x D) ∨ (L ≠ [] ∧ s.1 = false ∧ Gth r K x (D x) L s.2)
theorem addO_nx {r x : Int} {K : Rr} {fst : Bool} {A : Rr} {e : Ed} (he : e.2.1 = x) (hr : e.1 = r → K.next = []) {y : Int} : y ∈ (addO r x K fst A e).next ↔ y ∈ A.next ∨ y ∈ nxE r K e := by
  unfold addO nxE
  simp only
  rw [withF_mem]
  split
  · rename_i h
    rw [hr h, withL_mem, he]
    simp
  · rfl
theorem one_step {r x : Int} {D : Int → Int} {K : Int → Rr} {L : List Ed} {s : Bool × Rr} (h : OneI r x D K L s) (e : Ed) (hr : e.1 = r → (K e.1).next = []) : OneI r x D K (L ++ if selE x D e = true then [e] else []) (oneE r x D K s e) := by
  unfold oneE
  by_cases hs : selE x D e = true
  · rw [if_pos hs, if_pos hs]
    have hex : e.2.1 = x := by unfold selE at hs; simp only [Bool.and_eq_true, decide_eq_true_eq] at hs; exact hs.1
    refine .inr ⟨by simp, rfl, ?_⟩
    rcases h with ⟨rfl, rfl⟩ | ⟨h0, h1, hG⟩
    · have he1 : ∀ f ∈ [] ++ [e], f = e := fun f hf => by simpa using hf
      refine ⟨rfl, rfl, fun f hf => ?_, ⟨e, by simp, ?_⟩, fun f hf => ?_, ⟨e, by simp, ?_⟩, ?_, fun y => ?_⟩
      · rw [he1 f hf]; simp [addO, oneS]
      · simp [addO, oneS]
      · rw [he1 f hf]; simp [addO, oneS]
      · simp [addO, oneS]
      · exact withF_rise (by split; exact withL_rise List.Pairwise.nil; exact List.Pairwise.nil)
      · rw [addO_nx hex hr]; simp [oneS]
    · have hm : ∀ f, f ∈ L ++ [e] ↔ f ∈ L ∨ f = e := fun f => by simp
      refine ⟨hG.node, hG.cost, fun f hf => ?_, ?_, fun f hf => ?_, ?_, ?_, fun y => ?_⟩
      · show (if s.1 = true ∨ (K e.1).least + 1 < s.2.least then (K e.1).least + 1 else s.2.least) ≤ _
        rw [h1]
        rcases (hm f).1 hf with hf | rfl
        · have := hG.l1 f hf; split <;> rename_i hc <;> simp at hc <;> omega
        · split <;> rename_i hc <;> simp at hc <;> omega
      · show ∃ f ∈ L ++ [e], (if s.1 = true ∨ (K e.1).least + 1 < s.2.least then (K e.1).least + 1 else s.2.least) = _
        rw [h1]
        split
        · exact ⟨e, by simp, rfl⟩
        · obtain ⟨f, hf, h2⟩ := hG.l2
          exact ⟨f, by simp [hf], h2⟩
      · show _ ≤ (if s.1 = true ∨ s.2.most < (K e.1).most + 1 then (K e.1).most + 1 else s.2.most)
        rw [h1]
        rcases (hm f).1 hf with hf | rfl
        · have := hG.m1 f hf; split <;> rename_i hc <;> simp at hc <;> omega
        · split <;> rename_i hc <;> simp at hc <;> omega
      · show ∃ f ∈ L ++ [e], (if s.1 = true ∨ s.2.most < (K e.1).most + 1 then (K e.1).most + 1 else s.2.most) = _
        rw [h1]
        split
        · exact ⟨e, by simp, rfl⟩
        · obtain ⟨f, hf, h2⟩ := hG.m2
          exact ⟨f, by simp [hf], h2⟩
      · exact withF_rise (by split; exact withL_rise hG.np; exact hG.np)
      · rw [addO_nx hex hr, hG.nx y]
        constructor
        · rintro (⟨f, hf, h2⟩ | h2)
          · exact ⟨f, by simp [hf], h2⟩
          · exact ⟨e, by simp, h2⟩
        · rintro ⟨f, hf, h2⟩
          rcases (hm f).1 hf with hf | rfl
          · exact .inl ⟨f, hf, h2⟩
          · exact .inr h2
  · rw [if_neg hs, if_neg hs, List.append_nil]
    exact h
theorem one_fold {r x : Int} {D : Int → Int} {K : Int → Rr} : ∀ (p L : List Ed) (s : Bool × Rr), OneI r x D K L s → (∀ e ∈ p, e.1 = r → (K e.1).next = []) → OneI r x D K (L ++ p.filter (selE x D)) (p.foldl (oneE r x D K) s)
  | [], L, s, h, _ => by simpa using h
  | e :: p, L, s, h, hr => by
    have h1 := one_step h e (hr e List.mem_cons_self)
    have h2 := one_fold p _ _ h1 (fun f hf => hr f (List.mem_cons_of_mem _ hf))
    rw [List.foldl_cons]
    rw [List.filter_cons]
    by_cases hs : selE x D e = true
    · rw [if_pos hs] at h2 ⊢
      rwa [List.append_assoc] at h2
    · rw [if_neg hs, List.append_nil] at h2
      rw [if_neg hs]
      exact h2
/-- A node of which all cheaper ones are known. -/
theorem one_right {ns : List Int} {es : List Ed} {r x d : Int} {K : Int → Rr} (hok : graphOk ns es = true) (hr : r ∈ ns) (hx : x ∈ ns) (hd : Ds es r x d) (hK : ∀ y d', y ∈ ns → Ds es r y d' → d' < d → Right es r y d' (K y)) (hKr : (K r).next = []) : Right es r x d (oneR r x (bfN es r ns.length) K es) := by
  have hp := graphOk_pos hok
  have hD : bfN es r ns.length x = d := by
    rcases bf_all hok hr x with ⟨d1, h1, h2, _⟩ | ⟨h1, _⟩
    · rw [h2]; exact h1.uniq hd
    · exact absurd hd (h1 d)
  unfold oneR
  by_cases hxr : x = r
  · rw [if_pos hxr, hD]
    subst hxr
    have h1 : d = 0 := hd.uniq (ds_root hp)
    subst h1
    exact ⟨rfl, rfl, Int.le_refl 0, Int.le_refl 0, fun k hw => by have := (hw.pos hp).1; show (0 : Int) ≤ k ∧ (k : Int) ≤ 0; omega, Wy.refl _ _, Wy.refl _ _, by simp, fun _ => rfl, fun hne => absurd rfl hne⟩
  · rw [if_neg hxr]
    have h1 := one_fold (r := r) (x := x) (D := bfN es r ns.length) (K := K) es [] (oneS x (bfN es r ns.length)) (.inl ⟨rfl, rfl⟩) (fun e _ he => by rw [he]; exact hKr)
    rw [List.nil_append] at h1
    have hL : ∀ e, e ∈ es.filter (selE x (bfN es r ns.length)) ↔ Into es r x e := fun e => by
      rw [List.mem_filter]
      unfold selE
      simp only [Bool.and_eq_true, decide_eq_true_eq]
      constructor
      · rintro ⟨g1, g2, g3⟩
        subst g2
        exact (tg_into hok hr g1 hd).1 g3
      · intro h
        have h2 := h.2.1
        subst h2
        exact ⟨h.1, rfl, (tg_into hok hr h.1 hd).2 h⟩
    rcases h1 with ⟨h1, _⟩ | ⟨_, _, hG⟩
    · obtain ⟨e, he⟩ := into_some hp hd hxr
      have := (hL e).2 he
      rw [h1] at this
      simp at this
    · rw [hD] at hG
      exact gth_right hok hd hxr hL (fun e d' he hde hlt => hK e.1 d' ((graphOk_bd hok).2.1 e he).1 hde hlt) hG
/-- As far as nodes are known. -/
structure Knw (ns : List Int) (es : List Ed) (r : Int) (Dn : Int → Bool) (K : Int → Rr) (k : Nat) : Prop where
  right : ∀ x ∈ ns, Dn x = true → ∃ d, Ds es r x d ∧ Right es r x d (K x)
  count : (ns.filter Dn).length = k
  none : ∀ x, Dn x = false → K x = noR
theorem Knw.rt {ns : List Int} {es : List Ed} {r : Int} {Dn : Int → Bool} {K : Int → Rr} {k : Nat} (h : Knw ns es r Dn K k) (hr : r ∈ ns) : (K r).next = [] := by
  cases hq : Dn r with
  | false => rw [h.none r hq]; rfl
  | true =>
    obtain ⟨d, _, h2⟩ := h.right r hr hq
    rw [h2.root rfl]
theorem filter_more {Dn : Int → Bool} {x : Int} (hx : Dn x = false) : ∀ {ns : List Int}, ns.Nodup → x ∈ ns → (ns.filter fun z => if z = x then true else Dn z).length = (ns.filter Dn).length + 1
  | [], _, h => by simp at h
  | y :: ns, hn, h => by
    obtain ⟨h1, h2⟩ := List.nodup_cons.1 hn
    have hsame : x ∉ ns → (ns.filter fun z => if z = x then true else Dn z) = ns.filter Dn := fun hnx => List.filter_congr fun z hz => by
      rw [if_neg (fun e => hnx (by rw [← e]; exact hz))]
    by_cases hxy : y = x
    · subst hxy
      rw [List.filter_cons, List.filter_cons, hsame h1]
      simp [hx]
    · have hm : x ∈ ns := by rcases List.mem_cons.1 h with e | e; exact absurd e.symm hxy; exact e
      have ih := filter_more hx h2 hm
      rw [List.filter_cons, List.filter_cons]
      simp only [if_neg hxy]
      split
      · simp only [List.length_cons]; omega
      · exact ih
/-- The cheapest node that is not known. -/
theorem Knw.more {ns : List Int} {es : List Ed} {r : Int} {Dn : Int → Bool} {K : Int → Rr} {k : Nat} (h : Knw ns es r Dn K k) (hok : graphOk ns es = true) (hr : r ∈ ns) {x : Int} (hx : x ∈ ns) (hDx : Dn x = false) (hfar : bfN es r ns.length x < farC) (hmin : ∀ y ∈ ns, Dn y = false → bfN es r ns.length y < farC → bfN es r ns.length x ≤ bfN es r ns.length y) :
    Knw ns es r (fun z => if z = x then true else Dn z) (fun z => if z = x then oneR r x (bfN es r ns.length) K es else K z) (k + 1) := by
  have hd := bf_d hok hr hfar
  refine ⟨fun z hz hDz => ?_, by rw [filter_more hDx (graphOk_nn hok) hx, h.count], fun z hDz => ?_⟩
  · by_cases hzx : z = x
    · rw [if_pos hzx]
      subst hzx
      refine ⟨_, hd.1, one_right hok hr hx hd.1 (fun y d' hy hdy hlt => ?_) (h.rt hr)⟩
      have hDy : bfN es r ns.length y = d' := by
        rcases bf_all hok hr y with ⟨d1, h1, h2, _⟩ | ⟨h1, _⟩
        · rw [h2]; exact h1.uniq hdy
        · exact absurd hdy (h1 d')
      cases hq : Dn y with
      | false =>
        have := hmin y hy hq (by omega)
        omega
      | true =>
        obtain ⟨d2, h3, h4⟩ := h.right y hy hq
        rwa [h3.uniq hdy] at h4
    · rw [if_neg hzx] at hDz ⊢
      exact h.right z hz hDz
  · by_cases hzx : z = x
    · rw [if_pos hzx] at hDz; cases hDz
    · rw [if_neg hzx] at hDz ⊢
      exact h.none z hDz
theorem Knw.start (ns : List Int) (es : List Ed) (r : Int) : Knw ns es r (fun _ => false) (fun _ => noR) 0 :=
  ⟨fun _ _ h => (by cases h), (by simp), fun _ _ => rfl⟩
theorem rise7 {ns : List Int} {es : List Ed} (hok : graphOk ns es = true) : ns.Pairwise fun a b => a < b := by
  simp only [graphOk, Bool.and_eq_true] at hok
  have key : ∀ (ns : List Int) (last : Int), nodesOk last ns = true → ns.Pairwise fun a b => a < b := fun ns => by
    induction ns with
    | nil => intro _ _; exact List.Pairwise.nil
    | cons m ns ih =>
      intro last hm
      have hm' : nodesOk m ns = true := by
        simp only [nodesOk, Bool.and_eq_true] at hm
        exact hm.2.2
      exact List.pairwise_cons.2 ⟨fun y hy => (nodesOk_bd ns m hm' y hy).2.2, ih m hm'⟩
  exact key ns 0 hok.1
/-- When none is left. -/
theorem Knw.done {ns : List Int} {es : List Ed} {r : Int} {Dn : Int → Bool} {K : Int → Rr} {k : Nat} (h : Knw ns es r Dn K k) (hok : graphOk ns es = true) (hr : r ∈ ns) (he : k = ns.length ∨ ∀ y ∈ ns, Dn y = false → ¬ bfN es r ns.length y < farC) : IsFrom ns es r ((ns.filter Dn).map K) := by
  have hall : ∀ y d, y ∈ ns → Ds es r y d → Dn y = true := fun y d hy hd => by
    rcases he with he | he
    · have h1 := h.count
      rw [he] at h1
      exact List.length_filter_eq_length_iff.1 h1 y hy
    · cases hq : Dn y with
      | true => rfl
      | false =>
        exfalso
        refine he y hy hq ?_
        rcases bf_all hok hr y with ⟨d1, h1, h2, h3, h4⟩ | ⟨h1, _⟩
        · rw [h2]
          have := graphOk_n24 hok
          unfold farC
          omega
        · exact absurd hd (h1 d)
  have hmem : ∀ p, p ∈ (ns.filter Dn).map K ↔ ∃ x ∈ ns, Dn x = true ∧ K x = p := fun p => by
    simp only [List.mem_map, List.mem_filter]
    constructor
    · rintro ⟨x, ⟨h1, h2⟩, h3⟩; exact ⟨x, h1, h2, h3⟩
    · rintro ⟨x, h1, h2, h3⟩; exact ⟨x, ⟨h1, h2⟩, h3⟩
  have hnode : ∀ x ∈ ns, Dn x = true → (K x).node = x := fun x hx hd => by
    obtain ⟨d, _, h2⟩ := h.right x hx hd
    exact h2.node
  refine ⟨?_, fun p hp => ?_, fun x d hx hd => ?_⟩
  · rw [List.pairwise_map]
    have h1 : (ns.filter Dn).Pairwise fun a b => a < b := (rise7 hok).filter _
    refine h1.imp_of_mem fun {a b} ha hb hab => ?_
    rw [List.mem_filter] at ha hb
    rw [hnode a ha.1 ha.2, hnode b hb.1 hb.2]
    exact hab
  · obtain ⟨x, h1, h2, rfl⟩ := (hmem p).1 hp
    rw [hnode x h1 h2]
    exact ⟨h1, h.right x h1 h2⟩
  · exact ⟨_, (hmem _).2 ⟨x, hx, hall x d hx hd, rfl⟩, hnode x hx (hall x d hx hd)⟩
end Go.Proofs.YtbggingacoheiaaGreatDoor
namespace Go.Proofs.YtbggingacoheiaaGreatDoor

theorem WaysIs.uniq {l m : List (Rc × Value)} (hlm : rcs l = rcs m) {self : Int} {W V : List Rr} (h : WaysIs l self W) (k : WaysIs m self V) : W = V := by
  unfold WaysIs at h k
  rw [← hlm] at k
  rcases h with ⟨h1, rfl⟩ | ⟨h1, h2⟩
  · rcases k with ⟨_, rfl⟩ | ⟨k1, _⟩
    · rfl
    · rw [h1] at k1; cases k1
  · rcases k with ⟨k1, _⟩ | ⟨_, k2⟩
    · rw [h1] at k1; cases k1
    · exact h2.uniq k2
theorem live_rcs (W : List Rr) (l : List (Rc × Value)) : rcs (liveL W l) = (rcs l).filter fun x => (ofW W x.origin).isSome := by
  unfold liveL rcs
  rw [List.filter_map]
  rfl
/-- The ids that one router claims, each with the way to it. -/
def toldW (W : List Rr) (F : List (Int × List Int)) : List (Int × Rr) := F.filterMap fun f => (ofW W (f.2.headD 0)).map fun X => (f.1, X)
theorem told_one {W : List Rr} : ∀ {P : List Wi'} {F : List (Int × List Int)}, P.map (·.1) = F.map (·.1) → (F.map (·.1)).Nodup → (∀ p ∈ P, ∃ r, (p.1, [r]) ∈ F ∧ ofW W r = some p.2.1) → P.map (fun p => (p.1, p.2.1)) = toldW W F := by
  intro P
  induction P with
  | nil =>
    intro F h _ _
    rw [List.map_nil, eq_comm, List.map_eq_nil_iff] at h
    rw [h]
    rfl
  | cons p P ih =>
    intro F h hn hp
    cases F with
    | nil => simp at h
    | cons f F =>
      rw [List.map_cons, List.map_cons, List.cons.injEq] at h
      rw [List.map_cons, List.nodup_cons] at hn
      obtain ⟨r, h1, h2⟩ := hp p (by simp)
      have h3 : (p.1, [r]) = f := by
        rcases List.mem_cons.mp h1 with e | h1
        · exact e
        · exact absurd (List.mem_map.mpr ⟨_, h1, h.1⟩) hn.1
      have h4 := ih h.2 hn.2 fun q hq => by
        obtain ⟨s, g1, g2⟩ := hp q (by simp [hq])
        refine ⟨s, ?_, g2⟩
        rcases List.mem_cons.mp g1 with e | g1
        · have : q.1 ∈ F.map (·.1) := by rw [← h.2]; exact List.mem_map.mpr ⟨q, hq, rfl⟩
          rw [show q.1 = f.1 from by rw [← e]] at this
          exact absurd this hn.1
        · exact g1
      rw [List.map_cons, h4, ← h3]
      unfold toldW
      rw [List.filterMap_cons]
      simp only [List.headD_cons, h2, Option.map_some]
/-- One's own id, of what was told. -/
def ownT (self : Int) (T : List (Int × Rr)) : Int := T.foldl (fun o p => if p.2.node = self then p.1 else o) 0
theorem ownT_is (self : Int) (P : List Wi') : ownW self P = ownT self (P.map fun p => (p.1, p.2.1)) := by
  unfold ownW ownT
  rw [List.foldl_map]
/-- An entry as told: set, bit, owner, first steps. -/
def entT (wd : Nat) (t : Int × Rr) : Int × Int × Int × List Int := ((((t.1.toNat - 1) / wd : Nat) : Int), (((t.1.toNat - 1) % wd : Nat) : Int) + 1, t.2.node, t.2.next)
def entsT (self : Int) (wd : Nat) (T : List (Int × Rr)) : List (Int × Int × Int × List Int) := (T.filter fun t => !decide (t.2.node = self)).map (entT wd)
/-- Entries in memory. -/
def EsAt (B : Nat) (w : World) (u : Value) (T : List (Int × Int × Int × List Int)) : Prop :=
  ∃ es : List (Rw × List Int), es.map (fun x => (x.1.1, x.1.2.1, x.1.2.2.1, x.2)) = T ∧ (∃ C, B ≤ C ∧ w.ownsRow C 34 4 u es.length (fl rwcs (es.map (·.1)))) ∧ ∀ x ∈ es, ∃ C, B ≤ C ∧ w.ownsRow C 3 1 (rwS x.1) x.2.length (fl ic x.2)
/-- What Build answers, of the records alone. -/
theorem BldAns.told {w w' : World} {l : List (Rc × Value)} {self : Int} {wd : Nat} {e : Ending} (h : BldAns w w' l self wd e) (hl : bothOk no1 (rcs l) = true) :
    ∃ (W : List Rr) (u : Value), WaysIs l self W ∧ e = .returned (.tuple #[.agg #[.int .i64 self, .int .i64 wd, .int .i64 (ownT self (toldW W (freeT (allC ((rcs l).filter fun x => (ofW W x.origin).isSome))))), u], .int .i64 0]) ∧
      EsAt w.heap.size w' u (entsT self wd (toldW W (freeT (allC ((rcs l).filter fun x => (ofW W x.origin).isSome))))) := by
  obtain ⟨W, P, u, h1, h2, h3, h4, h5⟩ := h.one hl
  have hn : ((freeT (allC (rcs (liveL W l)))).map (·.1)).Nodup := (free_rise _).imp fun h e => by omega
  have ht := told_one h3 hn fun p hp => by
    obtain ⟨r, g1, g2, _⟩ := h4 p hp
    exact ⟨r, g1, g2⟩
  rw [live_rcs] at ht
  refine ⟨W, u, h2, by rw [← ht, ← ownT_is]; exact h1, ?_⟩
  rw [← ht]
  refine ⟨(P.filter fun p => !decide (p.2.1.node = self)).map fun p => (rowW wd p, p.2.1.next), ?_, ?_, ?_⟩
  · unfold entsT
    rw [List.filter_map, List.map_map, List.map_map]
    rfl
  · rw [List.map_map, List.length_map]
    unfold rowsW at h5
    rw [List.length_map] at h5
    exact h5
  · intro x hx
    obtain ⟨p, hp, rfl⟩ := List.mem_map.mp hx
    obtain ⟨_, _, _, g⟩ := h4 p (List.mem_filter.mp hp).1
    exact g

end Go.Proofs.YtbggingacoheiaaGreatDoor
namespace Go.Proofs.YtbggingacoheiaaGreatDoor

/-- The records of the example; the claim of 3 is as told. -/
abbrev exR (c : Int) : List Rc := [⟨1, 1, 1, 0, false, [(2, 1), (3, 1)]⟩, ⟨2, 1, 1, 9, false, [(1, 1), (4, 1)]⟩, ⟨3, 1, 1, c, false, [(1, 1), (4, 1)]⟩, ⟨4, 1, 1, 1, false, [(2, 1), (3, 1)]⟩]
abbrev exG : List Ed := [(1, 2, 1), (1, 3, 1), (2, 1, 1), (2, 4, 1), (3, 1, 1), (3, 4, 1), (4, 2, 1), (4, 3, 1)]
abbrev exW : List Rr := [⟨1, 0, 0, 0, []⟩, ⟨2, 1, 1, 1, [2]⟩, ⟨3, 1, 1, 1, [3]⟩, ⟨4, 2, 2, 2, [2, 3]⟩]
theorem exR_ok : bothOk no1 (exR 3) = true ∧ bothOk no1 (exR 1) = true := ⟨by decide, by decide⟩
theorem exR_N : bothN (exR 3) = [1, 2, 3, 4] ∧ bothN (exR 1) = [1, 2, 3, 4] := ⟨by decide +kernel, by decide +kernel⟩
theorem exR_E : bothE (exR 3) = exG ∧ bothE (exR 1) = exG := ⟨by decide +kernel, by decide +kernel⟩
theorem exG_hops {r x c : Int} {h : Nat} (k : Wy exG r x c h) : c = (h : Int) :=
  k (fun _ c h => c = (h : Int)) rfl (fun e he c h hs => by
    simp only [List.mem_cons, List.not_mem_nil, or_false] at he
    rcases he with rfl | rfl | rfl | rfl | rfl | rfl | rfl | rfl <;> simp only <;> omega)
def exD (x : Int) : Int := if x = 1 then 0 else if x = 4 then 2 else 1
theorem exG_low {x c : Int} {h : Nat} (k : Wy exG 1 x c h) : exD x ≤ c :=
  k (fun x c _ => exD x ≤ c) (by decide) (fun e he c h hs => by
    simp only [List.mem_cons, List.not_mem_nil, or_false] at he
    rcases he with rfl | rfl | rfl | rfl | rfl | rfl | rfl | rfl <;> simp [exD] at hs ⊢ <;> omega)
theorem exG_w2 : Wy exG 1 2 1 1 := Wy.one (e := (1, 2, 1)) (by decide)
theorem exG_w3 : Wy exG 1 3 1 1 := Wy.one (e := (1, 3, 1)) (by decide)
theorem exG_w4 : Wy exG 1 4 2 2 := exG_w2.step (e := (2, 4, 1)) (by decide)
theorem exG_ds : Ds exG 1 1 0 ∧ Ds exG 1 2 1 ∧ Ds exG 1 3 1 ∧ Ds exG 1 4 2 :=
  ⟨⟨⟨_, Wy.refl _ _⟩, fun _ _ h => exG_low h⟩, ⟨⟨_, exG_w2⟩, fun _ _ h => exG_low h⟩, ⟨⟨_, exG_w3⟩, fun _ _ h => exG_low h⟩, ⟨⟨_, exG_w4⟩, fun _ _ h => exG_low h⟩⟩
theorem exG_fs {y x d : Int} : Fs exG 1 y x d ↔ (y = 2 ∨ y = 3) ∧ ∃ h, Wy exG y x (d - 1) h := by
  constructor
  · rintro ⟨e, he, h1, h2, h, hw⟩
    simp only [List.mem_cons, List.not_mem_nil, or_false] at he
    rcases he with rfl | rfl | rfl | rfl | rfl | rfl | rfl | rfl <;> simp at h1 h2 <;> subst h2
    · exact ⟨.inl rfl, h, hw⟩
    · exact ⟨.inr rfl, h, hw⟩
  · rintro ⟨rfl | rfl, h, hw⟩
    · exact ⟨(1, 2, 1), by decide, rfl, rfl, h, hw⟩
    · exact ⟨(1, 3, 1), by decide, rfl, rfl, h, hw⟩
theorem exG_zero {y x : Int} {h : Nat} (hw : Wy exG y x 0 h) : x = y := by
  have := exG_hops hw
  exact (hw.zero (by omega)).1
theorem exG_from : IsFrom [1, 2, 3, 4] exG 1 exW := by
  refine ⟨by decide, fun p hp => ?_, fun x d hx hd => ?_⟩
  · simp only [List.mem_cons, List.not_mem_nil, or_false] at hp
    rcases hp with rfl | rfl | rfl | rfl
    · exact ⟨by decide, 0, exG_ds.1, rfl, rfl, by decide, by decide, fun h hw => by have := exG_hops hw; show (0 : Int) ≤ h ∧ (h : Int) ≤ 0; omega, Wy.refl _ _, Wy.refl _ _, by decide, fun _ => rfl, fun hne => absurd rfl hne⟩
    · refine ⟨by decide, 1, exG_ds.2.1, rfl, rfl, by decide, by decide, fun h hw => by have := exG_hops hw; show (1 : Int) ≤ h ∧ (h : Int) ≤ 1; omega, exG_w2, exG_w2, by decide, fun e => absurd e (by decide), fun _ y => ?_⟩
      rw [exG_fs]
      constructor
      · intro hy
        obtain rfl := List.mem_singleton.1 hy
        exact ⟨.inl rfl, 0, Wy.refl _ _⟩
      · rintro ⟨_, h, hw⟩
        have := exG_zero hw
        simp only at this
        rw [← this]
        decide
    · refine ⟨by decide, 1, exG_ds.2.2.1, rfl, rfl, by decide, by decide, fun h hw => by have := exG_hops hw; show (1 : Int) ≤ h ∧ (h : Int) ≤ 1; omega, exG_w3, exG_w3, by decide, fun e => absurd e (by decide), fun _ y => ?_⟩
      rw [exG_fs]
      constructor
      · intro hy
        obtain rfl := List.mem_singleton.1 hy
        exact ⟨.inr rfl, 0, Wy.refl _ _⟩
      · rintro ⟨_, h, hw⟩
        have := exG_zero hw
        simp only at this
        rw [← this]
        decide
    · refine ⟨by decide, 2, exG_ds.2.2.2, rfl, rfl, by decide, by decide, fun h hw => by have := exG_hops hw; show (2 : Int) ≤ h ∧ (h : Int) ≤ 2; omega, exG_w4, exG_w4, by decide, fun e => absurd e (by decide), fun _ y => ?_⟩
      rw [exG_fs]
      constructor
      · intro hy
        simp only [List.mem_cons, List.not_mem_nil, or_false] at hy
        rcases hy with rfl | rfl
        · exact ⟨.inl rfl, 1, Wy.one (e := (2, 4, 1)) (by decide)⟩
        · exact ⟨.inr rfl, 1, Wy.one (e := (3, 4, 1)) (by decide)⟩
      · rintro ⟨hy, _⟩
        simpa using hy
  · simp only [List.mem_cons, List.not_mem_nil, or_false] at hx
    rcases hx with rfl | rfl | rfl | rfl
    · exact ⟨⟨1, 0, 0, 0, []⟩, by simp, rfl⟩
    · exact ⟨⟨2, 1, 1, 1, [2]⟩, by simp, rfl⟩
    · exact ⟨⟨3, 1, 1, 1, [3]⟩, by simp, rfl⟩
    · exact ⟨⟨4, 2, 2, 2, [2, 3]⟩, by simp, rfl⟩
theorem ids_is {rs : List Rc} {ids : List Int} (hi : ids.Pairwise fun x y => x < y) (h1 : ∀ r ∈ rs, r.claim = 0 ∨ r.claim ∈ ids) (h2 : ∀ i ∈ ids, (1 ≤ i ∧ i ≤ 1024) ∧ gat rs i ≠ []) : idsL rs = ids :=
  crise_ext (idsL_rise _) hi (fun x => by
    rw [mem_idsL]
    constructor
    · rintro ⟨_, h3⟩
      obtain ⟨y, hy⟩ := List.exists_mem_of_ne_nil _ h3
      obtain ⟨r, hr, h4, h5, _⟩ := mem_gat.1 hy
      rcases h1 r hr with h6 | h6
      · exact absurd h6 h5
      · rw [← h4]; exact h6
    · intro h
      exact h2 x h)
theorem ex3_free : freeT (allC (exR 3)) = [(1, [4]), (3, [3]), (9, [2])] := by
  have h1 : idsL (exR 3) = [1, 3, 9] := ids_is (by decide) (by decide) (by decide)
  unfold allC
  rw [h1]
  show freeT [((1 : Int), rsL (gat (exR 3) 1)), (3, rsL (gat (exR 3) 3)), (9, rsL (gat (exR 3) 9))] = _
  rw [show gat (exR 3) 1 = [4] by decide, show gat (exR 3) 3 = [3] by decide, show gat (exR 3) 9 = [2] by decide, rsL_of (by decide), rsL_of (by decide), rsL_of (by decide)]
  rfl
theorem ex1_free : freeT (allC (exR 1)) = [(9, [2])] := by
  have h1 : idsL (exR 1) = [1, 9] := ids_is (by decide) (by decide) (by decide)
  unfold allC
  rw [h1]
  show freeT [((1 : Int), rsL (gat (exR 1) 1)), (9, rsL (gat (exR 1) 9))] = _
  rw [show gat (exR 1) 1 = [3, 4] by decide, show gat (exR 1) 9 = [2] by decide, rsL_of (by decide), rsL_of (by decide)]
  rfl
theorem ex_live (c : Int) : ((exR c).filter fun x => (ofW exW x.origin).isSome) = exR c := by
  refine List.filter_eq_self.2 fun x hx => ?_
  simp only [List.mem_cons, List.not_mem_nil, or_false] at hx
  rcases hx with rfl | rfl | rfl | rfl <;> rfl
theorem ex_free0 : freeT (allC ([] : List Rc)) = [] := by
  have h1 : idsL ([] : List Rc) = [] := ids_is (by decide) (by simp) (by simp)
  unfold allC
  rw [h1]
  rfl
theorem ex_ways {l : List (Rc × Value)} {c : Int} (hl : rcs l = exR c) (hN : bothN (exR c) = [1, 2, 3, 4]) (hE : bothE (exR c) = exG) {W : List Rr} (h : WaysIs l 1 W) : W = exW := by
  unfold WaysIs at h
  rw [hl, hN, hE] at h
  rcases h with ⟨h1, _⟩ | ⟨_, h1⟩
  · exact absurd h1 (by decide)
  · exact h1.uniq exG_from
theorem ex_ways5 {l : List (Rc × Value)} (hl : rcs l = exR 3) {W : List Rr} (h : WaysIs l 5 W) : W = [] := by
  unfold WaysIs at h
  rw [hl, exR_N.1, exR_E.1] at h
  rcases h with ⟨_, h1⟩ | ⟨h1, _⟩
  · exact h1
  · exact absurd h1 (by decide)
theorem ex3_told : toldW exW [(1, [4]), (3, [3]), (9, [2])] = [(1, ⟨4, 2, 2, 2, [2, 3]⟩), (3, ⟨3, 1, 1, 1, [3]⟩), (9, ⟨2, 1, 1, 1, [2]⟩)] := rfl
theorem ex3_ents : entsT 1 8 [(1, ⟨4, 2, 2, 2, [2, 3]⟩), (3, ⟨3, 1, 1, 1, [3]⟩), (9, ⟨2, 1, 1, 1, [2]⟩)] = [(0, 1, 4, [2, 3]), (0, 3, 3, [3]), (1, 1, 2, [2])] := rfl
theorem ex3_own : ownT 1 [(1, ⟨4, 2, 2, 2, [2, 3]⟩), (3, ⟨3, 1, 1, 1, [3]⟩), (9, ⟨2, 1, 1, 1, [2]⟩)] = 0 := rfl
theorem ex1_ents : entsT 1 8 (toldW exW [(9, [2])]) = [(1, 1, 2, [2])] := rfl
theorem ex1_own : ownT 1 (toldW exW [(9, [2])]) = 0 := rfl
/-- What Build answers of the example. -/
theorem ex3_ans {w w' : World} {l : List (Rc × Value)} {e : Ending} (hl : rcs l = exR 3) (h : BldAns w w' l 1 8 e) : ∃ u, e = .returned (.tuple #[.agg #[.int .i64 1, .int .i64 8, .int .i64 0, u], .int .i64 0]) ∧ EsAt w.heap.size w' u [(0, 1, 4, [2, 3]), (0, 3, 3, [3]), (1, 1, 2, [2])] := by
  obtain ⟨W, u, h1, h2, h3⟩ := h.told (by rw [hl]; exact exR_ok.1)
  have hW := ex_ways hl exR_N.1 exR_E.1 h1
  rw [hW, hl, ex_live, ex3_free, ex3_told] at h2 h3
  rw [ex3_own] at h2
  rw [show ((8 : Nat) : Int) = 8 from rfl] at h2
  exact ⟨u, h2, h3⟩
theorem ex1_ans {w w' : World} {l : List (Rc × Value)} {e : Ending} (hl : rcs l = exR 1) (h : BldAns w w' l 1 8 e) : ∃ u, e = .returned (.tuple #[.agg #[.int .i64 1, .int .i64 8, .int .i64 0, u], .int .i64 0]) ∧ EsAt w.heap.size w' u [(1, 1, 2, [2])] := by
  obtain ⟨W, u, h1, h2, h3⟩ := h.told (by rw [hl]; exact exR_ok.2)
  have hW := ex_ways hl exR_N.2 exR_E.2 h1
  rw [hW, hl, ex_live, ex1_free] at h2 h3
  rw [ex1_own] at h2
  rw [ex1_ents] at h3
  exact ⟨u, h2, h3⟩
theorem ex5_ans {w w' : World} {l : List (Rc × Value)} {e : Ending} (hl : rcs l = exR 3) (h : BldAns w w' l 5 8 e) : ∃ u, e = .returned (.tuple #[.agg #[.int .i64 5, .int .i64 8, .int .i64 0, u], .int .i64 0]) ∧ EsAt w.heap.size w' u [] := by
  obtain ⟨W, u, h1, h2, h3⟩ := h.told (by rw [hl]; exact exR_ok.1)
  have hW := ex_ways5 hl h1
  have hn : ((exR 3).filter fun x => (ofW [] x.origin).isSome) = [] := rfl
  rw [hW, hl, hn, ex_free0] at h2 h3
  exact ⟨u, h2, h3⟩
end Go.Proofs.YtbggingacoheiaaGreatDoor
namespace Go.Proofs.YtbggingacoheiaaGreatDoor
open Go.RowKit

/-- An entry with its neighbours; as it is told. -/
abbrev En := Rw × List Int
abbrev Et := Int × Int × Int × List Int
abbrev toT (es : List En) : List Et := es.map fun x => (x.1.1, x.1.2.1, x.1.2.2.1, x.2)
/-- Entries in memory. -/
structure EnAt (w : World) (u : Value) (es : List En) : Prop where
  r : SlAt rwcs 4 w u (es.map (·.1))
  n : ∀ x ∈ es, SlAt ic 1 w (rwS x.1) x.2
theorem EnAt.keep {w w' : World} {u : Value} {es : List En} {B : Nat} (h : EnAt w u es) (hb : Below B w w') (hB : w.heap.size ≤ B) : EnAt w' u es := ⟨h.r.keep hb hB, fun x hx => (h.n x hx).keep hb hB⟩
theorem EsAt.at {B : Nat} {w : World} {u : Value} {T : List Et} (h : EsAt B w u T) : ∃ es : List En, toT es = T ∧ EnAt w u es := by
  obtain ⟨es, h1, ⟨C, _, h2⟩, h3⟩ := h
  refine ⟨es, h1, slAt_of_row (cs := rwcs) (fun _ => rfl) h2 (List.length_map _), fun x hx => ?_⟩
  obtain ⟨C, _, h4⟩ := h3 x hx
  exact slAt_of_row (cs := ic) (fun _ => rfl) h4 rfl
theorem EnAt.op {w : World} {u : Value} {es : List En} (h : EnAt w u es) : ∃ a cap, u = .slice a es.length cap ∧ es.length ≤ 9223372036854775807 ∧ es.length ≤ cap ∧ (0 < es.length → ∃ bk o, a = some ⟨bk, o, none⟩ ∧ bk < w.heap.size ∧ ∀ j x, es[j]? = some x → w.cell? ⟨bk, o + j * 4, none⟩ = some (.int .i64 x.1.1) ∧ w.cell? ⟨bk, o + j * 4 + 1, none⟩ = some (.int .i64 x.1.2.1) ∧ w.cell? ⟨bk, o + j * 4 + 2, none⟩ = some (.int .i64 x.1.2.2.1) ∧ w.cell? ⟨bk, o + j * 4 + 3, none⟩ = some (rwS x.1) ∧ SlAt ic 1 w (rwS x.1) x.2 ∧ x.1.2.2.2.2.1 = x.2.length) := by
  obtain ⟨a, cap, rfl, h1, h2, h3⟩ := h.r.rws
  rw [List.length_map] at h1 h2 h3
  refine ⟨a, cap, by rw [List.length_map], h1, h2, fun hp => ?_⟩
  obtain ⟨bk, o, h4, h5, h6⟩ := h3 hp
  refine ⟨bk, o, h4, h5, fun j x hx => ?_⟩
  obtain ⟨g0, g1, g2, g3⟩ := h6 j x.1 (by rw [List.getElem?_map, hx]; rfl)
  have hn := h.n x (List.mem_of_getElem? hx)
  refine ⟨g0, g1, g2, g3, hn, ?_⟩
  obtain ⟨_, _, he, _⟩ := hn
  simp only [rwS, Value.slice.injEq] at he
  exact he.2.1
/-- A table as a value. -/
abbrev tbV (self width own : Int) (u : Value) : Value := .agg #[.int .i64 self, .int .i64 width, .int .i64 own, u]
abbrev tbO (self width own : Int) (u : Value) : Obj := .cells #[.int .i64 self, .int .i64 width, .int .i64 own, u] 26
theorem adj_blk {w : World} {b : Nat} {l : List (Int × Int)} (h : w.heap[b]? = some (.cells (fl ac l).toArray 83)) (hn : l.length ≤ 1000) : SlAt ac 2 w (.slice (some ⟨b, 0, none⟩) l.length l.length) l := by
  refine slAt_of_row (cs := ac) (sz := 2) (base := 0) (k := l.length) (e := 83) (fun _ => rfl) ⟨fl_length (sz := 2) (cs := ac) (fun _ => rfl) l, .inr ⟨b, l.length, _, rfl, Nat.zero_le _, h, Nat.le_refl _, by unfold maxLen; omega, by simp [fl_length (sz := 2) (cs := ac) (fun _ => rfl)], ?_⟩⟩ rfl
  simp only
  rw [List.take_of_length_le]
  rw [fl_length (sz := 2) (cs := ac) (fun _ => rfl)]
  exact Nat.le_refl _
set_option maxRecDepth 100000 in
set_option maxHeartbeats 2000000 in
theorem example_any (c : Int) (w : World) : Calls Tryz.prog 38 #[.int .i64 c] w fun e w' => (∃ v l, e = .returned v ∧ RecsAt w' v l ∧ rcs l = exR c ∧ l.length = 4) ∧ Below w.heap.size w w' := by
  obtain ⟨q, hq⟩ : ∃ q, w.heap.size = q := ⟨_, rfl⟩
  obtain ⟨W1, hW1⟩ : ∃ W1, w.alloc (.cells #[.int .i64 2, .int .i64 1, .int .i64 3, .int .i64 1] 83) = W1 := ⟨_, rfl⟩
  have s1 : W1.heap.size = q + 1 := by rw [← hW1, World.size_alloc, hq]
  have b1 : Below W1.heap.size W1 W1 := Below.refl _ _
  have x1 : W1.heap[q]? = some (.cells (fl ac [(2, 1), (3, 1)]).toArray 83) := by rw [← hW1, ← hq]; exact heap_alloc_last w _
  have c1 : Below w.heap.size w W1 := by rw [← hW1]; exact (Below.refl _ w).alloc (Nat.le_refl _) _
  obtain ⟨W2, hW2⟩ : ∃ W2, W1.alloc (.cells #[.int .i64 1, .int .i64 1, .int .i64 4, .int .i64 1] 83) = W2 := ⟨_, rfl⟩
  have s2 : W2.heap.size = q + 1 + 1 := by rw [← hW2, World.size_alloc, s1]
  have b2 : Below W1.heap.size W1 W2 := by rw [← hW2]; exact (Below.refl _ W1).alloc (Nat.le_refl _) _
  have x2 : W2.heap[q + 1]? = some (.cells (fl ac [(1, 1), (4, 1)]).toArray 83) := by rw [← hW2, ← s1]; exact heap_alloc_last W1 _
  obtain ⟨W3, hW3⟩ : ∃ W3, W2.alloc (.cells #[.int .i64 1, .int .i64 1, .int .i64 4, .int .i64 1] 83) = W3 := ⟨_, rfl⟩
  have s3 : W3.heap.size = q + 1 + 1 + 1 := by rw [← hW3, World.size_alloc, s2]
  have b3 : Below W2.heap.size W2 W3 := by rw [← hW3]; exact (Below.refl _ W2).alloc (Nat.le_refl _) _
  have x3 : W3.heap[q + 1 + 1]? = some (.cells (fl ac [(1, 1), (4, 1)]).toArray 83) := by rw [← hW3, ← s2]; exact heap_alloc_last W2 _
  obtain ⟨W4, hW4⟩ : ∃ W4, W3.alloc (.cells #[.int .i64 2, .int .i64 1, .int .i64 3, .int .i64 1] 83) = W4 := ⟨_, rfl⟩
  have s4 : W4.heap.size = q + 1 + 1 + 1 + 1 := by rw [← hW4, World.size_alloc, s3]
  have b4 : Below W3.heap.size W3 W4 := by rw [← hW4]; exact (Below.refl _ W3).alloc (Nat.le_refl _) _
  have x4 : W4.heap[q + 1 + 1 + 1]? = some (.cells (fl ac [(2, 1), (3, 1)]).toArray 83) := by rw [← hW4, ← s3]; exact heap_alloc_last W3 _
  obtain ⟨W5, hW5⟩ : ∃ W5, W4.alloc (.cells #[.int .i64 1, .int .u32 1, .int .u32 1, .int .i64 0, .bool false, .slice (some ⟨q, 0, none⟩) 2 2, .int .i64 2, .int .u32 1, .int .u32 1, .int .i64 9, .bool false, .slice (some ⟨q + 1, 0, none⟩) 2 2, .int .i64 3, .int .u32 1, .int .u32 1, .int .i64 c, .bool false, .slice (some ⟨q + 1 + 1, 0, none⟩) 2 2, .int .i64 4, .int .u32 1, .int .u32 1, .int .i64 1, .bool false, .slice (some ⟨q + 1 + 1 + 1, 0, none⟩) 2 2] 76) = W5 := ⟨_, rfl⟩
  have b5 : Below W4.heap.size W4 W5 := by rw [← hW5]; exact (Below.refl _ W4).alloc (Nat.le_refl _) _
  obtain ⟨L, hL⟩ : ∃ L : List (Rc × Value), L = [(⟨1, 1, 1, 0, false, [(2, 1), (3, 1)]⟩, .slice (some ⟨q, 0, none⟩) 2 2), (⟨2, 1, 1, 9, false, [(1, 1), (4, 1)]⟩, .slice (some ⟨q + 1, 0, none⟩) 2 2), (⟨3, 1, 1, c, false, [(1, 1), (4, 1)]⟩, .slice (some ⟨q + 1 + 1, 0, none⟩) 2 2), (⟨4, 1, 1, 1, false, [(2, 1), (3, 1)]⟩, .slice (some ⟨q + 1 + 1 + 1, 0, none⟩) 2 2)] := ⟨_, rfl⟩
  have x5 : W5.heap[q + 1 + 1 + 1 + 1]? = some (.cells (fl rcc L).toArray 76) := by rw [← hW5, ← s4, hL]; exact heap_alloc_last W4 _
  have hR : RecsAt W5 (.slice (some ⟨q + 1 + 1 + 1 + 1, 0, none⟩) 4 4) L := by
    have hl : L.length = 4 := by rw [hL]; rfl
    have := recs_blk x5 (by omega) (fun x hx => by
      rw [hL] at hx
      simp only [List.mem_cons, List.not_mem_nil, or_false] at hx
      rcases hx with rfl | rfl | rfl | rfl
      · exact (((adj_blk x1 (by decide)).keep b2 (Nat.le_refl _)).keep b3 (Nat.le_refl _) |>.keep b4 (Nat.le_refl _)).keep b5 (Nat.le_refl _)
      · exact (((adj_blk x2 (by decide)).keep b3 (Nat.le_refl _)).keep b4 (Nat.le_refl _)).keep b5 (Nat.le_refl _)
      · exact ((adj_blk x3 (by decide)).keep b4 (Nat.le_refl _)).keep b5 (Nat.le_refl _)
      · exact (adj_blk x4 (by decide)).keep b5 (Nat.le_refl _))
    rw [hl] at this
    exact this
  have c2 := c1.trans (b2.mono c1.size)
  have c3 := c2.trans (b3.mono c2.size)
  have c4 := c3.trans (b4.mono c3.size)
  have HB := hidIn (c4.trans (b5.mono c4.size))
  have HR := hidIn (And.intro hR (And.intro (show rcs L = exR c by rw [hL]; rfl) (show L.length = 4 by rw [hL]; rfl)))
  have H1 := hidIn hW1
  have H2 := hidIn hW2
  have H3 := hidIn hW3
  have H4 := hidIn hW4
  have H5 := hidIn hW5
  have S1 := hidIn s1
  have S2 := hidIn s2
  have S3 := hidIn s3
  have S4 := hidIn s4
  have Hq := hidIn hq
  clear hL hR c1 c2 c3 c4 b1 b2 b3 b4 b5 x1 x2 x3 x4 x5 hW1 hW2 hW3 hW4 hW5 s1 s2 s3 s4 hq
  go_enter Tryz.func38, Tryz.ntmps38
  go_wp2_with fail
  rw [Hq.out, H1.out, H2.out, H3.out, H4.out, H5.out]
  go_ret
  exact ⟨⟨_, L, rfl, HR.out.1, HR.out.2.1, HR.out.2.2⟩, by have := HB.out; rw [Hq.out] at this; exact this⟩
theorem three_new (w : World) (A B C : Obj) : (((w.alloc A).alloc B).alloc C).drew.heap[w.heap.size]? = some A ∧ (((w.alloc A).alloc B).alloc C).drew.heap[w.heap.size + 1]? = some B ∧ (((w.alloc A).alloc B).alloc C).drew.heap[w.heap.size + 1 + 1]? = some C := by
  refine ⟨?_, ?_, ?_⟩
  · show (((w.alloc A).alloc B).alloc C).heap[w.heap.size]? = some A
    rw [Below.heap_alloc _ _ _ (by simp; omega), Below.heap_alloc _ _ _ (by simp)]
    exact heap_alloc_last w A
  · show (((w.alloc A).alloc B).alloc C).heap[w.heap.size + 1]? = some B
    rw [Below.heap_alloc _ _ _ (by simp)]
    have := heap_alloc_last (w.alloc A) B
    rw [World.size_alloc] at this
    exact this
  · show (((w.alloc A).alloc B).alloc C).heap[w.heap.size + 1 + 1]? = some C
    have := heap_alloc_last ((w.alloc A).alloc B) C
    rw [World.size_alloc, World.size_alloc] at this
    exact this
abbrev enO (s b o : Int) (v : Value) : Obj := .cells #[.int .i64 s, .int .i64 b, .int .i64 o, v] 34
/-- An entry put into its block. -/
abbrev putE (w : World) (b : Nat) (s t o : Int) (v : Value) : World := (((w.setCell ⟨b, 0, none⟩ (.int .i64 s)).setCell ⟨b, 1, none⟩ (.int .i64 t)).setCell ⟨b, 2, none⟩ (.int .i64 o)).setCell ⟨b, 3, none⟩ v
theorem putE_same {w : World} {b : Nat} {c0 c1 c2 c3 : Value} {T : TypeId} (h : w.heap[b]? = some (.cells #[c0, c1, c2, c3] T)) (s t o : Int) (v : Value) : (putE w b s t o v).heap[b]? = some (.cells #[.int .i64 s, .int .i64 t, .int .i64 o, v] T) := set4 _ _ _ _ h
theorem putE_other {w : World} {a b : Nat} {x : Obj} (h : w.heap[a]? = some x) (hne : a ≠ b) (s t o : Int) (v : Value) : (putE w b s t o v).heap[a]? = some x := by
  rw [Below.heap_setCell _ _ _ _ (by exact hne), Below.heap_setCell _ _ _ _ (by exact hne), Below.heap_setCell _ _ _ _ (by exact hne), Below.heap_setCell _ _ _ _ (by exact hne)]
  exact h
theorem below_putE {B : Nat} {w0 w : World} (h : Below B w0 w) {b : Nat} (hb : B ≤ b) (s t o : Int) (v : Value) : Below B w0 (putE w b s t o v) :=
  (((h.setCell (p := ⟨b, 0, none⟩) hb _).setCell (p := ⟨b, 1, none⟩) hb _).setCell (p := ⟨b, 2, none⟩) hb _).setCell (p := ⟨b, 3, none⟩) hb _
set_option maxRecDepth 100000 in
set_option maxHeartbeats 4000000 in
theorem tworks_any (w : World) (ht : Wid w) : Calls Tryz.prog 14 #[] w fun e w' => e = .returned (.bool true) ∧ Below w.heap.size w w' := by
  have Ht := hidIn ht
  clear ht
  go_enter Tryz.func14, Tryz.ntmps14
  go_wp2_with fail
  refine (example_any 3 w).mono ?_
  rintro e w1 ⟨⟨v, l, rfl, hR, hl, hn⟩, hb1⟩
  have HBd : Hid (Calls Tryz.prog 10 #[.int .i64 1, .int .i64 8, v] w1 fun e w' => BldAns w1 w' l 1 8 e ∧ Below w1.heap.size w1 w') := hidIn (build_ok hR (Ht.out.keep hb1) (self := 1) (by omega) (wd := 8) (by unfold IsW; omega) (by omega) (by rw [hl]; exact exR_ok.1))
  obtain ⟨va, vc, rfl, _⟩ := hR.r.recs
  have Hl := hidIn hl
  have HB1 := hidIn hb1
  generalize l.length = ln at hn HBd ⊢
  clear hR hl hn hb1
  go_wp2_with fail
  refine HBd.out.mono ?_
  rintro e w2 ⟨hA, hb2⟩
  obtain ⟨u, rfl, hE⟩ := ex3_ans Hl.out hA
  obtain ⟨es, hT, hAt⟩ := hE.at
  obtain ⟨x, y, z, rfl⟩ : ∃ x y z, es = [x, y, z] := by
    have : es.length = 3 := by have := congrArg List.length hT; rw [List.length_map] at this; exact this
    match es, this with
    | [x, y, z], _ => exact ⟨x, y, z, rfl⟩
  simp only [toT, List.map_cons, List.map_nil, List.cons.injEq, Prod.mk.injEq, and_true] at hT
  obtain ⟨⟨hx0, hx1, hx2, hx3⟩, ⟨hy0, hy1, hy2, hy3⟩, hz0, hz1, hz2, hz3⟩ := hT
  obtain ⟨ua, uc, rfl, _, _, hc⟩ := hAt.op
  obtain ⟨bk, o, rfl, hbk, hcell⟩ := hc (by simp)
  obtain ⟨p0, p1, p2, p3, _, p5⟩ := hcell 0 x rfl
  obtain ⟨q0, q1, q2, q3, _, q5⟩ := hcell 1 y rfl
  obtain ⟨r0, r1, r2, r3, _, r5⟩ := hcell 2 z rfl
  obtain ⟨⟨x0, x1, x2, x3, x4, x5⟩, xn⟩ := x
  obtain ⟨⟨y0, y1, y2, y3, y4, y5⟩, yn⟩ := y
  obtain ⟨⟨z0, z1, z2, z3, z4, z5⟩, zn⟩ := z
  simp only at hx0 hx1 hx2 hx3 hy0 hy1 hy2 hy3 hz0 hz1 hz2 hz3 p0 p1 p2 p3 p5 q0 q1 q2 q3 q5 r0 r1 r2 r3 r5
  rw [hx3] at p5
  rw [hy3] at q5
  rw [hz3] at r5
  simp only [List.length_cons, List.length_nil] at p5 q5 r5
  subst hx0 hx1 hx2 hy0 hy1 hy2 hz0 hz1 hz2 p5 q5 r5
  obtain ⟨w3, hw3⟩ : ∃ w3, w2.alloc (tbO 1 8 0 (.slice (some ⟨bk, o, none⟩) 3 uc)) = w3 := ⟨_, rfl⟩
  have b3 : Below w2.heap.size w2 w3 := by rw [← hw3]; exact (Below.refl _ w2).alloc (Nat.le_refl _) _
  have hz : w3.heap[w2.heap.size]? = some (tbO 1 8 0 (.slice (some ⟨bk, o, none⟩) 3 uc)) := by rw [← hw3]; exact heap_alloc_last w2 _
  obtain ⟨qt, hqt⟩ : ∃ qt, w2.heap.size = qt := ⟨_, rfl⟩
  have hB2 := HB1.out.trans (hb2.mono HB1.out.size)
  have HB3 := hidIn (hB2.trans (b3.mono hB2.size))
  have e0 := (b3.cell (p := ⟨bk, o + 0 * 4, none⟩) hbk).trans p0
  have e1 := (b3.cell (p := ⟨bk, o + 0 * 4 + 1, none⟩) hbk).trans p1
  have e2 := (b3.cell (p := ⟨bk, o + 0 * 4 + 2, none⟩) hbk).trans p2
  have e3 := (b3.cell (p := ⟨bk, o + 0 * 4 + 3, none⟩) hbk).trans p3
  have f0 := (b3.cell (p := ⟨bk, o + 1 * 4, none⟩) hbk).trans q0
  have f1 := (b3.cell (p := ⟨bk, o + 1 * 4 + 1, none⟩) hbk).trans q1
  have f2 := (b3.cell (p := ⟨bk, o + 1 * 4 + 2, none⟩) hbk).trans q2
  have f3 := (b3.cell (p := ⟨bk, o + 1 * 4 + 3, none⟩) hbk).trans q3
  have g0 := (b3.cell (p := ⟨bk, o + 2 * 4, none⟩) hbk).trans r0
  have g1 := (b3.cell (p := ⟨bk, o + 2 * 4 + 1, none⟩) hbk).trans r1
  have g2 := (b3.cell (p := ⟨bk, o + 2 * 4 + 2, none⟩) hbk).trans r2
  have g3 := (b3.cell (p := ⟨bk, o + 2 * 4 + 3, none⟩) hbk).trans r3
  rw [Nat.zero_mul, Nat.add_zero] at e0 e1 e2 e3
  rw [Nat.one_mul] at f0 f1 f2 f3
  rw [show 2 * 4 = 8 from rfl] at g0 g1 g2 g3
  have hb3 : bk < w3.heap.size := Nat.lt_of_lt_of_le hbk b3.size
  have hq3 : qt < w3.heap.size := by rw [← hqt]; exact block_lt hz
  rw [hqt] at hz
  have t0 := cell_of_row _ _ 0 _ _ _ hz
  have t1 := cell_of_row _ _ 1 _ _ _ hz
  have t2 := cell_of_row _ _ 2 _ _ _ hz
  have t3 := cell_of_row _ _ 3 _ _ _ hz
  simp at t0 t1 t2 t3
  have HW3 := hidIn hw3
  clear hw3 hz b3 p0 p1 p2 p3 q0 q1 q2 q3 r0 r1 r2 r3 hcell hc hAt hE hA hb2 hB2 hbk HBd hx3 hy3 hz3
  go_upto_region 2 with fail
  rw [HW3.out]
  clear HW3 hqt
  go_upto_region 4 with fail
  go_cut [3, 4, 5] (fun x y z wx => (∃ bx, x = .pointer (some ⟨bx, 0, none⟩) ∧ wx.heap[bx]? = some (enO 0 1 4 (.slice x3 2 x5))) ∧ (∃ by', y = .pointer (some ⟨by', 0, none⟩) ∧ wx.heap[by']? = some (enO 0 3 3 (.slice y3 1 y5))) ∧ (∃ bz, z = .pointer (some ⟨bz, 0, none⟩) ∧ wx.heap[bz]? = some (enO 1 1 2 (.slice z3 1 z5))) ∧ Below w3.heap.size w3 wx)
  case first =>
    have HCl : Hid (∀ wq, Below w3.heap.size w3 wq → wq.cell? ⟨qt, 3, none⟩ = some (.slice (some ⟨bk, o, none⟩) 3 uc) ∧ (wq.cell? ⟨bk, o, none⟩ = some (.int .i64 0) ∧ wq.cell? ⟨bk, o + 1, none⟩ = some (.int .i64 1) ∧ wq.cell? ⟨bk, o + 2, none⟩ = some (.int .i64 4) ∧ wq.cell? ⟨bk, o + 3, none⟩ = some (.slice x3 2 x5)) ∧ (wq.cell? ⟨bk, o + 4, none⟩ = some (.int .i64 0) ∧ wq.cell? ⟨bk, o + 4 + 1, none⟩ = some (.int .i64 3) ∧ wq.cell? ⟨bk, o + 4 + 2, none⟩ = some (.int .i64 3) ∧ wq.cell? ⟨bk, o + 4 + 3, none⟩ = some (.slice y3 1 y5)) ∧ (wq.cell? ⟨bk, o + 8, none⟩ = some (.int .i64 1) ∧ wq.cell? ⟨bk, o + 8 + 1, none⟩ = some (.int .i64 1) ∧ wq.cell? ⟨bk, o + 8 + 2, none⟩ = some (.int .i64 2) ∧ wq.cell? ⟨bk, o + 8 + 3, none⟩ = some (.slice z3 1 z5))) := hidIn fun wq h => ⟨(h.cell (p := ⟨qt, 3, none⟩) hq3).trans t3, ⟨(h.cell (p := ⟨bk, o, none⟩) hb3).trans e0, (h.cell (p := ⟨bk, o + 1, none⟩) hb3).trans e1, (h.cell (p := ⟨bk, o + 2, none⟩) hb3).trans e2, (h.cell (p := ⟨bk, o + 3, none⟩) hb3).trans e3⟩, ⟨(h.cell (p := ⟨bk, o + 4, none⟩) hb3).trans f0, (h.cell (p := ⟨bk, o + 4 + 1, none⟩) hb3).trans f1, (h.cell (p := ⟨bk, o + 4 + 2, none⟩) hb3).trans f2, (h.cell (p := ⟨bk, o + 4 + 3, none⟩) hb3).trans f3⟩, ⟨(h.cell (p := ⟨bk, o + 8, none⟩) hb3).trans g0, (h.cell (p := ⟨bk, o + 8 + 1, none⟩) hb3).trans g1, (h.cell (p := ⟨bk, o + 8 + 2, none⟩) hb3).trans g2, (h.cell (p := ⟨bk, o + 8 + 3, none⟩) hb3).trans g3⟩⟩
    clear t0 t1 t2 t3 e0 e1 e2 e3 f0 f1 f2 f3 g0 g1 g2 g3
    refine wp_region_held_drew (S := fun wx => Below w3.heap.size w3 wx) (by kernel_rfl) ((Below.refl _ w3).drew) (fun hHeld => ?_)
    have hd0 : Below w3.heap.size w3 w3.drew := hHeld
    obtain ⟨wd, hwd⟩ : ∃ wd, w3.drew = wd := ⟨_, rfl⟩
    rw [hwd] at hd0 ⊢
    clear hwd hHeld
    refine wpAnyH_take (i := 0) (v := .pointer (some ⟨qt, 3, none⟩)) rfl (by kernel_rfl) (by kernel_rfl) (by kernel_rfl) (fun _ _ _ h => h) (Or.inl ⟨by kernel_rfl, fun _ _ => by kernel_rfl⟩) (by assumption) ?_
    refine wpAnyH_take (i := 1) (v := .slice (some ⟨bk, o, none⟩) 3 uc) rfl (by kernel_rfl) (by kernel_rfl) (by kernel_rfl) (fun _ _ _ h => h) (Or.inl ⟨by kernel_rfl, fun wq hSw => by
      obtain ⟨u0, ⟨u1, u2, u3, u4⟩, ⟨u5, u6, u7, u8⟩, ⟨u9, ua, ub, ud⟩⟩ := HCl.out wq hSw
      go_simp⟩) (by assumption) ?_
    refine wpAnyH_take (i := 2) (v := .pointer (some ⟨bk, o, none⟩)) rfl (by kernel_rfl) (by kernel_rfl) (by kernel_rfl) (fun _ _ _ h => h) (Or.inl ⟨by kernel_rfl, fun _ _ => by kernel_rfl⟩) (by assumption) ?_
    refine wpAnyH_take (i := 3) (v := .agg #[.int .i64 0, .int .i64 1, .int .i64 4, .slice x3 2 x5]) rfl (by kernel_rfl) (by kernel_rfl) (by kernel_rfl) (fun _ _ _ h => h) (Or.inl ⟨by kernel_rfl, fun wq hSw => by
      obtain ⟨u0, ⟨u1, u2, u3, u4⟩, ⟨u5, u6, u7, u8⟩, ⟨u9, ua, ub, ud⟩⟩ := HCl.out wq hSw
      go_simp⟩) (by assumption) ?_
    refine wpAnyH_take (i := 4) (v := .pointer (some ⟨qt, 3, none⟩)) rfl (by kernel_rfl) (by kernel_rfl) (by kernel_rfl) (fun _ _ _ h => h) (Or.inl ⟨by kernel_rfl, fun _ _ => by kernel_rfl⟩) (by assumption) ?_
    refine wpAnyH_take (i := 5) (v := .slice (some ⟨bk, o, none⟩) 3 uc) rfl (by kernel_rfl) (by kernel_rfl) (by kernel_rfl) (fun _ _ _ h => h) (Or.inl ⟨by kernel_rfl, fun wq hSw => by
      obtain ⟨u0, ⟨u1, u2, u3, u4⟩, ⟨u5, u6, u7, u8⟩, ⟨u9, ua, ub, ud⟩⟩ := HCl.out wq hSw
      go_simp⟩) (by assumption) ?_
    refine wpAnyH_take (i := 6) (v := .pointer (some ⟨bk, o + 4, none⟩)) rfl (by kernel_rfl) (by kernel_rfl) (by kernel_rfl) (fun _ _ _ h => h) (Or.inl ⟨by kernel_rfl, fun _ _ => by kernel_rfl⟩) (by assumption) ?_
    refine wpAnyH_take (i := 7) (v := .agg #[.int .i64 0, .int .i64 3, .int .i64 3, .slice y3 1 y5]) rfl (by kernel_rfl) (by kernel_rfl) (by kernel_rfl) (fun _ _ _ h => h) (Or.inl ⟨by kernel_rfl, fun wq hSw => by
      obtain ⟨u0, ⟨u1, u2, u3, u4⟩, ⟨u5, u6, u7, u8⟩, ⟨u9, ua, ub, ud⟩⟩ := HCl.out wq hSw
      go_simp⟩) (by assumption) ?_
    refine wpAnyH_take (i := 8) (v := .pointer (some ⟨qt, 3, none⟩)) rfl (by kernel_rfl) (by kernel_rfl) (by kernel_rfl) (fun _ _ _ h => h) (Or.inl ⟨by kernel_rfl, fun _ _ => by kernel_rfl⟩) (by assumption) ?_
    refine wpAnyH_take (i := 9) (v := .slice (some ⟨bk, o, none⟩) 3 uc) rfl (by kernel_rfl) (by kernel_rfl) (by kernel_rfl) (fun _ _ _ h => h) (Or.inl ⟨by kernel_rfl, fun wq hSw => by
      obtain ⟨u0, ⟨u1, u2, u3, u4⟩, ⟨u5, u6, u7, u8⟩, ⟨u9, ua, ub, ud⟩⟩ := HCl.out wq hSw
      go_simp⟩) (by assumption) ?_
    refine wpAnyH_take (i := 10) (v := .pointer (some ⟨bk, o + 8, none⟩)) rfl (by kernel_rfl) (by kernel_rfl) (by kernel_rfl) (fun _ _ _ h => h) (Or.inl ⟨by kernel_rfl, fun _ _ => by kernel_rfl⟩) (by assumption) ?_
    refine wpAnyH_take (i := 11) (v := .agg #[.int .i64 1, .int .i64 1, .int .i64 2, .slice z3 1 z5]) rfl (by kernel_rfl) (by kernel_rfl) (by kernel_rfl) (fun _ _ _ h => h) (Or.inl ⟨by kernel_rfl, fun wq hSw => by
      obtain ⟨u0, ⟨u1, u2, u3, u4⟩, ⟨u5, u6, u7, u8⟩, ⟨u9, ua, ub, ud⟩⟩ := HCl.out wq hSw
      go_simp⟩) (by assumption) ?_
    clear HCl
    obtain ⟨N, hN⟩ : ∃ N, wd.heap.size = N := ⟨_, rfl⟩
    have hN3 : w3.heap.size ≤ N := by rw [← hN]; exact hd0.size
    refine wpAnyH_ready (rs := [12, 13, 14]) (by kernel_rfl) (by simp) ?_
    refine AllReadyH.cons (i := 12) rfl ?_ ?_
    · go_simp
      intro K hK
      have hb1 := hd0.alloc (show w3.heap.size ≤ _ from hd0.size) (.cells #[.int .i64 0, .int .i64 0, .int .i64 0, .slice none 0 0] 34)
      have hs1 : (wd.alloc (.cells #[.int .i64 0, .int .i64 0, .int .i64 0, .slice none 0 0] 34)).heap.size = N + 1 := by rw [World.size_alloc, hN]
      have hz1 : (wd.alloc (.cells #[.int .i64 0, .int .i64 0, .int .i64 0, .slice none 0 0] 34)).heap[N]? = some (enO 0 0 0 (.slice none 0 0)) := by rw [← hN]; exact heap_alloc_last wd _
      try rw [hN]
      generalize World.alloc _ _ = wd1 at hb1 hs1 hz1 ⊢
      refine hK.out _ _ hb1 (fun _ => ?_)
      clear hK K
      refine wpAnyH_ready (rs := [13, 14]) (by kernel_rfl) (by simp) ?_
      refine AllReadyH.cons (i := 13) rfl ?_ ?_
      · go_simp
        intro K hK
        have hb2 := hb1.alloc (show w3.heap.size ≤ _ from hb1.size) (.cells #[.int .i64 0, .int .i64 0, .int .i64 0, .slice none 0 0] 34)
        have hs2 : (wd1.alloc (.cells #[.int .i64 0, .int .i64 0, .int .i64 0, .slice none 0 0] 34)).heap.size = N + 1 + 1 := by rw [World.size_alloc, hs1]
        have hz2 : (wd1.alloc (.cells #[.int .i64 0, .int .i64 0, .int .i64 0, .slice none 0 0] 34)).heap[N + 1]? = some (enO 0 0 0 (.slice none 0 0)) := by rw [← hs1]; exact heap_alloc_last wd1 _
        replace hz1 := (Below.heap_alloc wd1 (.cells #[.int .i64 0, .int .i64 0, .int .i64 0, .slice none 0 0] 34) (N) (by rw [hs1]; omega)).trans hz1
        try rw [hs1]
        generalize World.alloc _ _ = wd2 at hb2 hs2 hz1 hz2 ⊢
        refine hK.out _ _ hb2 (fun _ => ?_)
        clear hK K
        refine wpAnyH_ready (rs := [14]) (by kernel_rfl) (by simp) ?_
        refine AllReadyH.cons (i := 14) rfl ?_ AllReadyH.nil
        go_simp
        intro K hK
        have hb3 := hb2.alloc (show w3.heap.size ≤ _ from hb2.size) (.cells #[.int .i64 0, .int .i64 0, .int .i64 0, .slice none 0 0] 34)
        have hs3 : (wd2.alloc (.cells #[.int .i64 0, .int .i64 0, .int .i64 0, .slice none 0 0] 34)).heap.size = N + 1 + 1 + 1 := by rw [World.size_alloc, hs2]
        have hz3 : (wd2.alloc (.cells #[.int .i64 0, .int .i64 0, .int .i64 0, .slice none 0 0] 34)).heap[N + 1 + 1]? = some (enO 0 0 0 (.slice none 0 0)) := by rw [← hs2]; exact heap_alloc_last wd2 _
        replace hz1 := (Below.heap_alloc wd2 (.cells #[.int .i64 0, .int .i64 0, .int .i64 0, .slice none 0 0] 34) (N) (by rw [hs2]; omega)).trans hz1
        replace hz2 := (Below.heap_alloc wd2 (.cells #[.int .i64 0, .int .i64 0, .int .i64 0, .slice none 0 0] 34) (N + 1) (by rw [hs2]; omega)).trans hz2
        try rw [hs2]
        generalize World.alloc _ _ = wd3 at hb3 hs3 hz1 hz2 hz3 ⊢
        refine hK.out _ _ hb3 (fun _ => ?_)
        clear hK K
        refine wpAnyH_ready (rs := [15]) (by kernel_rfl) (by simp) ?_
        refine AllReadyH.cons (i := 15) rfl ?_ AllReadyH.nil
        have c0 := cell_of_row _ _ 0 _ _ _ hz1
        have c1 := cell_of_row _ _ 1 _ _ _ hz1
        have c2 := cell_of_row _ _ 2 _ _ _ hz1
        have c3 := cell_of_row _ _ 3 _ _ _ hz1
        have fz0 := frozen_new hz1 0
        have fz1 := frozen_new hz1 1
        have fz2 := frozen_new hz1 2
        have fz3 := frozen_new hz1 3
        simp at c0 c1 c2 c3
        go_simp
        intro K hK
        have hbS := below_putE hb3 (show w3.heap.size ≤ N by omega) 0 1 4 (.slice x3 2 x5)
        have hn1 := putE_same hz1 0 1 4 (.slice x3 2 x5)
        replace hz2 := putE_other hz2 (show N + 1 ≠ N by omega) 0 1 4 (.slice x3 2 x5)
        replace hz3 := putE_other hz3 (show N + 1 + 1 ≠ N by omega) 0 1 4 (.slice x3 2 x5)
        refine hK.out _ _ hbS (fun _ => ?_)
        clear hK K c0 c1 c2 c3 fz0 fz1 fz2 fz3
        dsimp only [putE] at hbS hn1 hz2 hz3
        generalize (((World.setCell _ _ _).setCell _ _).setCell _ _).setCell _ _ = ws0 at hbS hn1 hz2 hz3 ⊢
        refine wpAnyH_ready (rs := [16]) (by kernel_rfl) (by simp) ?_
        refine AllReadyH.cons (i := 16) rfl ?_ AllReadyH.nil
        have c0 := cell_of_row _ _ 0 _ _ _ hz2
        have c1 := cell_of_row _ _ 1 _ _ _ hz2
        have c2 := cell_of_row _ _ 2 _ _ _ hz2
        have c3 := cell_of_row _ _ 3 _ _ _ hz2
        have fz0 := frozen_new hz2 0
        have fz1 := frozen_new hz2 1
        have fz2 := frozen_new hz2 2
        have fz3 := frozen_new hz2 3
        simp at c0 c1 c2 c3
        go_simp
        intro K hK
        have hbS := below_putE hbS (show w3.heap.size ≤ N + 1 by omega) 0 3 3 (.slice y3 1 y5)
        have hn2 := putE_same hz2 0 3 3 (.slice y3 1 y5)
        replace hn1 := putE_other hn1 (show N ≠ N + 1 by omega) 0 3 3 (.slice y3 1 y5)
        replace hz3 := putE_other hz3 (show N + 1 + 1 ≠ N + 1 by omega) 0 3 3 (.slice y3 1 y5)
        refine hK.out _ _ hbS (fun _ => ?_)
        clear hK K c0 c1 c2 c3 fz0 fz1 fz2 fz3
        dsimp only [putE] at hbS hn1 hn2 hz3
        generalize (((World.setCell _ _ _).setCell _ _).setCell _ _).setCell _ _ = ws1 at hbS hn1 hn2 hz3 ⊢
        refine wpAnyH_ready (rs := [17]) (by kernel_rfl) (by simp) ?_
        refine AllReadyH.cons (i := 17) rfl ?_ AllReadyH.nil
        have c0 := cell_of_row _ _ 0 _ _ _ hz3
        have c1 := cell_of_row _ _ 1 _ _ _ hz3
        have c2 := cell_of_row _ _ 2 _ _ _ hz3
        have c3 := cell_of_row _ _ 3 _ _ _ hz3
        have fz0 := frozen_new hz3 0
        have fz1 := frozen_new hz3 1
        have fz2 := frozen_new hz3 2
        have fz3 := frozen_new hz3 3
        simp at c0 c1 c2 c3
        go_simp
        intro K hK
        have hbS := below_putE hbS (show w3.heap.size ≤ N + 1 + 1 by omega) 1 1 2 (.slice z3 1 z5)
        have hn3 := putE_same hz3 1 1 2 (.slice z3 1 z5)
        replace hn1 := putE_other hn1 (show N ≠ N + 1 + 1 by omega) 1 1 2 (.slice z3 1 z5)
        replace hn2 := putE_other hn2 (show N + 1 ≠ N + 1 + 1 by omega) 1 1 2 (.slice z3 1 z5)
        refine hK.out _ _ hbS (fun _ => ?_)
        clear hK K c0 c1 c2 c3 fz0 fz1 fz2 fz3
        dsimp only [putE] at hbS hn1 hn2 hn3
        generalize (((World.setCell _ _ _).setCell _ _).setCell _ _).setCell _ _ = ws2 at hbS hn1 hn2 hn3 ⊢
        refine wpAnyH_done (by kernel_rfl) ?_ _
        go_wp2_with fail
        go_meet
        exact ⟨⟨_, rfl, hn1⟩, ⟨_, rfl, hn2⟩, ⟨_, rfl, hn3⟩, hbS⟩
      refine AllReadyH.cons (i := 14) rfl ?_ AllReadyH.nil
      go_simp
      intro K hK
      have hb2 := hb1.alloc (show w3.heap.size ≤ _ from hb1.size) (.cells #[.int .i64 0, .int .i64 0, .int .i64 0, .slice none 0 0] 34)
      have hs2 : (wd1.alloc (.cells #[.int .i64 0, .int .i64 0, .int .i64 0, .slice none 0 0] 34)).heap.size = N + 1 + 1 := by rw [World.size_alloc, hs1]
      have hz2 : (wd1.alloc (.cells #[.int .i64 0, .int .i64 0, .int .i64 0, .slice none 0 0] 34)).heap[N + 1]? = some (enO 0 0 0 (.slice none 0 0)) := by rw [← hs1]; exact heap_alloc_last wd1 _
      replace hz1 := (Below.heap_alloc wd1 (.cells #[.int .i64 0, .int .i64 0, .int .i64 0, .slice none 0 0] 34) (N) (by rw [hs1]; omega)).trans hz1
      try rw [hs1]
      generalize World.alloc _ _ = wd2 at hb2 hs2 hz1 hz2 ⊢
      refine hK.out _ _ hb2 (fun _ => ?_)
      clear hK K
      refine wpAnyH_ready (rs := [13]) (by kernel_rfl) (by simp) ?_
      refine AllReadyH.cons (i := 13) rfl ?_ AllReadyH.nil
      go_simp
      intro K hK
      have hb3 := hb2.alloc (show w3.heap.size ≤ _ from hb2.size) (.cells #[.int .i64 0, .int .i64 0, .int .i64 0, .slice none 0 0] 34)
      have hs3 : (wd2.alloc (.cells #[.int .i64 0, .int .i64 0, .int .i64 0, .slice none 0 0] 34)).heap.size = N + 1 + 1 + 1 := by rw [World.size_alloc, hs2]
      have hz3 : (wd2.alloc (.cells #[.int .i64 0, .int .i64 0, .int .i64 0, .slice none 0 0] 34)).heap[N + 1 + 1]? = some (enO 0 0 0 (.slice none 0 0)) := by rw [← hs2]; exact heap_alloc_last wd2 _
      replace hz1 := (Below.heap_alloc wd2 (.cells #[.int .i64 0, .int .i64 0, .int .i64 0, .slice none 0 0] 34) (N) (by rw [hs2]; omega)).trans hz1
      replace hz2 := (Below.heap_alloc wd2 (.cells #[.int .i64 0, .int .i64 0, .int .i64 0, .slice none 0 0] 34) (N + 1) (by rw [hs2]; omega)).trans hz2
      try rw [hs2]
      generalize World.alloc _ _ = wd3 at hb3 hs3 hz1 hz2 hz3 ⊢
      refine hK.out _ _ hb3 (fun _ => ?_)
      clear hK K
      refine wpAnyH_ready (rs := [15]) (by kernel_rfl) (by simp) ?_
      refine AllReadyH.cons (i := 15) rfl ?_ AllReadyH.nil
      have c0 := cell_of_row _ _ 0 _ _ _ hz1
      have c1 := cell_of_row _ _ 1 _ _ _ hz1
      have c2 := cell_of_row _ _ 2 _ _ _ hz1
      have c3 := cell_of_row _ _ 3 _ _ _ hz1
      have fz0 := frozen_new hz1 0
      have fz1 := frozen_new hz1 1
      have fz2 := frozen_new hz1 2
      have fz3 := frozen_new hz1 3
      simp at c0 c1 c2 c3
      go_simp
      intro K hK
      have hbS := below_putE hb3 (show w3.heap.size ≤ N by omega) 0 1 4 (.slice x3 2 x5)
      have hn1 := putE_same hz1 0 1 4 (.slice x3 2 x5)
      replace hz3 := putE_other hz3 (show N + 1 + 1 ≠ N by omega) 0 1 4 (.slice x3 2 x5)
      replace hz2 := putE_other hz2 (show N + 1 ≠ N by omega) 0 1 4 (.slice x3 2 x5)
      refine hK.out _ _ hbS (fun _ => ?_)
      clear hK K c0 c1 c2 c3 fz0 fz1 fz2 fz3
      dsimp only [putE] at hbS hn1 hz3 hz2
      generalize (((World.setCell _ _ _).setCell _ _).setCell _ _).setCell _ _ = ws0 at hbS hn1 hz3 hz2 ⊢
      refine wpAnyH_ready (rs := [16]) (by kernel_rfl) (by simp) ?_
      refine AllReadyH.cons (i := 16) rfl ?_ AllReadyH.nil
      have c0 := cell_of_row _ _ 0 _ _ _ hz3
      have c1 := cell_of_row _ _ 1 _ _ _ hz3
      have c2 := cell_of_row _ _ 2 _ _ _ hz3
      have c3 := cell_of_row _ _ 3 _ _ _ hz3
      have fz0 := frozen_new hz3 0
      have fz1 := frozen_new hz3 1
      have fz2 := frozen_new hz3 2
      have fz3 := frozen_new hz3 3
      simp at c0 c1 c2 c3
      go_simp
      intro K hK
      have hbS := below_putE hbS (show w3.heap.size ≤ N + 1 + 1 by omega) 0 3 3 (.slice y3 1 y5)
      have hn3 := putE_same hz3 0 3 3 (.slice y3 1 y5)
      replace hn1 := putE_other hn1 (show N ≠ N + 1 + 1 by omega) 0 3 3 (.slice y3 1 y5)
      replace hz2 := putE_other hz2 (show N + 1 ≠ N + 1 + 1 by omega) 0 3 3 (.slice y3 1 y5)
      refine hK.out _ _ hbS (fun _ => ?_)
      clear hK K c0 c1 c2 c3 fz0 fz1 fz2 fz3
      dsimp only [putE] at hbS hn1 hn3 hz2
      generalize (((World.setCell _ _ _).setCell _ _).setCell _ _).setCell _ _ = ws1 at hbS hn1 hn3 hz2 ⊢
      refine wpAnyH_ready (rs := [17]) (by kernel_rfl) (by simp) ?_
      refine AllReadyH.cons (i := 17) rfl ?_ AllReadyH.nil
      have c0 := cell_of_row _ _ 0 _ _ _ hz2
      have c1 := cell_of_row _ _ 1 _ _ _ hz2
      have c2 := cell_of_row _ _ 2 _ _ _ hz2
      have c3 := cell_of_row _ _ 3 _ _ _ hz2
      have fz0 := frozen_new hz2 0
      have fz1 := frozen_new hz2 1
      have fz2 := frozen_new hz2 2
      have fz3 := frozen_new hz2 3
      simp at c0 c1 c2 c3
      go_simp
      intro K hK
      have hbS := below_putE hbS (show w3.heap.size ≤ N + 1 by omega) 1 1 2 (.slice z3 1 z5)
      have hn2 := putE_same hz2 1 1 2 (.slice z3 1 z5)
      replace hn1 := putE_other hn1 (show N ≠ N + 1 by omega) 1 1 2 (.slice z3 1 z5)
      replace hn3 := putE_other hn3 (show N + 1 + 1 ≠ N + 1 by omega) 1 1 2 (.slice z3 1 z5)
      refine hK.out _ _ hbS (fun _ => ?_)
      clear hK K c0 c1 c2 c3 fz0 fz1 fz2 fz3
      dsimp only [putE] at hbS hn1 hn3 hn2
      generalize (((World.setCell _ _ _).setCell _ _).setCell _ _).setCell _ _ = ws2 at hbS hn1 hn3 hn2 ⊢
      refine wpAnyH_done (by kernel_rfl) ?_ _
      go_wp2_with fail
      go_meet
      exact ⟨⟨_, rfl, hn1⟩, ⟨_, rfl, hn3⟩, ⟨_, rfl, hn2⟩, hbS⟩
    refine AllReadyH.cons (i := 13) rfl ?_ ?_
    · go_simp
      intro K hK
      have hb1 := hd0.alloc (show w3.heap.size ≤ _ from hd0.size) (.cells #[.int .i64 0, .int .i64 0, .int .i64 0, .slice none 0 0] 34)
      have hs1 : (wd.alloc (.cells #[.int .i64 0, .int .i64 0, .int .i64 0, .slice none 0 0] 34)).heap.size = N + 1 := by rw [World.size_alloc, hN]
      have hz1 : (wd.alloc (.cells #[.int .i64 0, .int .i64 0, .int .i64 0, .slice none 0 0] 34)).heap[N]? = some (enO 0 0 0 (.slice none 0 0)) := by rw [← hN]; exact heap_alloc_last wd _
      try rw [hN]
      generalize World.alloc _ _ = wd1 at hb1 hs1 hz1 ⊢
      refine hK.out _ _ hb1 (fun _ => ?_)
      clear hK K
      refine wpAnyH_ready (rs := [12, 14]) (by kernel_rfl) (by simp) ?_
      refine AllReadyH.cons (i := 12) rfl ?_ ?_
      · go_simp
        intro K hK
        have hb2 := hb1.alloc (show w3.heap.size ≤ _ from hb1.size) (.cells #[.int .i64 0, .int .i64 0, .int .i64 0, .slice none 0 0] 34)
        have hs2 : (wd1.alloc (.cells #[.int .i64 0, .int .i64 0, .int .i64 0, .slice none 0 0] 34)).heap.size = N + 1 + 1 := by rw [World.size_alloc, hs1]
        have hz2 : (wd1.alloc (.cells #[.int .i64 0, .int .i64 0, .int .i64 0, .slice none 0 0] 34)).heap[N + 1]? = some (enO 0 0 0 (.slice none 0 0)) := by rw [← hs1]; exact heap_alloc_last wd1 _
        replace hz1 := (Below.heap_alloc wd1 (.cells #[.int .i64 0, .int .i64 0, .int .i64 0, .slice none 0 0] 34) (N) (by rw [hs1]; omega)).trans hz1
        try rw [hs1]
        generalize World.alloc _ _ = wd2 at hb2 hs2 hz1 hz2 ⊢
        refine hK.out _ _ hb2 (fun _ => ?_)
        clear hK K
        refine wpAnyH_ready (rs := [14]) (by kernel_rfl) (by simp) ?_
        refine AllReadyH.cons (i := 14) rfl ?_ AllReadyH.nil
        go_simp
        intro K hK
        have hb3 := hb2.alloc (show w3.heap.size ≤ _ from hb2.size) (.cells #[.int .i64 0, .int .i64 0, .int .i64 0, .slice none 0 0] 34)
        have hs3 : (wd2.alloc (.cells #[.int .i64 0, .int .i64 0, .int .i64 0, .slice none 0 0] 34)).heap.size = N + 1 + 1 + 1 := by rw [World.size_alloc, hs2]
        have hz3 : (wd2.alloc (.cells #[.int .i64 0, .int .i64 0, .int .i64 0, .slice none 0 0] 34)).heap[N + 1 + 1]? = some (enO 0 0 0 (.slice none 0 0)) := by rw [← hs2]; exact heap_alloc_last wd2 _
        replace hz1 := (Below.heap_alloc wd2 (.cells #[.int .i64 0, .int .i64 0, .int .i64 0, .slice none 0 0] 34) (N) (by rw [hs2]; omega)).trans hz1
        replace hz2 := (Below.heap_alloc wd2 (.cells #[.int .i64 0, .int .i64 0, .int .i64 0, .slice none 0 0] 34) (N + 1) (by rw [hs2]; omega)).trans hz2
        try rw [hs2]
        generalize World.alloc _ _ = wd3 at hb3 hs3 hz1 hz2 hz3 ⊢
        refine hK.out _ _ hb3 (fun _ => ?_)
        clear hK K
        refine wpAnyH_ready (rs := [15]) (by kernel_rfl) (by simp) ?_
        refine AllReadyH.cons (i := 15) rfl ?_ AllReadyH.nil
        have c0 := cell_of_row _ _ 0 _ _ _ hz2
        have c1 := cell_of_row _ _ 1 _ _ _ hz2
        have c2 := cell_of_row _ _ 2 _ _ _ hz2
        have c3 := cell_of_row _ _ 3 _ _ _ hz2
        have fz0 := frozen_new hz2 0
        have fz1 := frozen_new hz2 1
        have fz2 := frozen_new hz2 2
        have fz3 := frozen_new hz2 3
        simp at c0 c1 c2 c3
        go_simp
        intro K hK
        have hbS := below_putE hb3 (show w3.heap.size ≤ N + 1 by omega) 0 1 4 (.slice x3 2 x5)
        have hn2 := putE_same hz2 0 1 4 (.slice x3 2 x5)
        replace hz1 := putE_other hz1 (show N ≠ N + 1 by omega) 0 1 4 (.slice x3 2 x5)
        replace hz3 := putE_other hz3 (show N + 1 + 1 ≠ N + 1 by omega) 0 1 4 (.slice x3 2 x5)
        refine hK.out _ _ hbS (fun _ => ?_)
        clear hK K c0 c1 c2 c3 fz0 fz1 fz2 fz3
        dsimp only [putE] at hbS hn2 hz1 hz3
        generalize (((World.setCell _ _ _).setCell _ _).setCell _ _).setCell _ _ = ws0 at hbS hn2 hz1 hz3 ⊢
        refine wpAnyH_ready (rs := [16]) (by kernel_rfl) (by simp) ?_
        refine AllReadyH.cons (i := 16) rfl ?_ AllReadyH.nil
        have c0 := cell_of_row _ _ 0 _ _ _ hz1
        have c1 := cell_of_row _ _ 1 _ _ _ hz1
        have c2 := cell_of_row _ _ 2 _ _ _ hz1
        have c3 := cell_of_row _ _ 3 _ _ _ hz1
        have fz0 := frozen_new hz1 0
        have fz1 := frozen_new hz1 1
        have fz2 := frozen_new hz1 2
        have fz3 := frozen_new hz1 3
        simp at c0 c1 c2 c3
        go_simp
        intro K hK
        have hbS := below_putE hbS (show w3.heap.size ≤ N by omega) 0 3 3 (.slice y3 1 y5)
        have hn1 := putE_same hz1 0 3 3 (.slice y3 1 y5)
        replace hn2 := putE_other hn2 (show N + 1 ≠ N by omega) 0 3 3 (.slice y3 1 y5)
        replace hz3 := putE_other hz3 (show N + 1 + 1 ≠ N by omega) 0 3 3 (.slice y3 1 y5)
        refine hK.out _ _ hbS (fun _ => ?_)
        clear hK K c0 c1 c2 c3 fz0 fz1 fz2 fz3
        dsimp only [putE] at hbS hn2 hn1 hz3
        generalize (((World.setCell _ _ _).setCell _ _).setCell _ _).setCell _ _ = ws1 at hbS hn2 hn1 hz3 ⊢
        refine wpAnyH_ready (rs := [17]) (by kernel_rfl) (by simp) ?_
        refine AllReadyH.cons (i := 17) rfl ?_ AllReadyH.nil
        have c0 := cell_of_row _ _ 0 _ _ _ hz3
        have c1 := cell_of_row _ _ 1 _ _ _ hz3
        have c2 := cell_of_row _ _ 2 _ _ _ hz3
        have c3 := cell_of_row _ _ 3 _ _ _ hz3
        have fz0 := frozen_new hz3 0
        have fz1 := frozen_new hz3 1
        have fz2 := frozen_new hz3 2
        have fz3 := frozen_new hz3 3
        simp at c0 c1 c2 c3
        go_simp
        intro K hK
        have hbS := below_putE hbS (show w3.heap.size ≤ N + 1 + 1 by omega) 1 1 2 (.slice z3 1 z5)
        have hn3 := putE_same hz3 1 1 2 (.slice z3 1 z5)
        replace hn2 := putE_other hn2 (show N + 1 ≠ N + 1 + 1 by omega) 1 1 2 (.slice z3 1 z5)
        replace hn1 := putE_other hn1 (show N ≠ N + 1 + 1 by omega) 1 1 2 (.slice z3 1 z5)
        refine hK.out _ _ hbS (fun _ => ?_)
        clear hK K c0 c1 c2 c3 fz0 fz1 fz2 fz3
        dsimp only [putE] at hbS hn2 hn1 hn3
        generalize (((World.setCell _ _ _).setCell _ _).setCell _ _).setCell _ _ = ws2 at hbS hn2 hn1 hn3 ⊢
        refine wpAnyH_done (by kernel_rfl) ?_ _
        go_wp2_with fail
        go_meet
        exact ⟨⟨_, rfl, hn2⟩, ⟨_, rfl, hn1⟩, ⟨_, rfl, hn3⟩, hbS⟩
      refine AllReadyH.cons (i := 14) rfl ?_ AllReadyH.nil
      go_simp
      intro K hK
      have hb2 := hb1.alloc (show w3.heap.size ≤ _ from hb1.size) (.cells #[.int .i64 0, .int .i64 0, .int .i64 0, .slice none 0 0] 34)
      have hs2 : (wd1.alloc (.cells #[.int .i64 0, .int .i64 0, .int .i64 0, .slice none 0 0] 34)).heap.size = N + 1 + 1 := by rw [World.size_alloc, hs1]
      have hz2 : (wd1.alloc (.cells #[.int .i64 0, .int .i64 0, .int .i64 0, .slice none 0 0] 34)).heap[N + 1]? = some (enO 0 0 0 (.slice none 0 0)) := by rw [← hs1]; exact heap_alloc_last wd1 _
      replace hz1 := (Below.heap_alloc wd1 (.cells #[.int .i64 0, .int .i64 0, .int .i64 0, .slice none 0 0] 34) (N) (by rw [hs1]; omega)).trans hz1
      try rw [hs1]
      generalize World.alloc _ _ = wd2 at hb2 hs2 hz1 hz2 ⊢
      refine hK.out _ _ hb2 (fun _ => ?_)
      clear hK K
      refine wpAnyH_ready (rs := [12]) (by kernel_rfl) (by simp) ?_
      refine AllReadyH.cons (i := 12) rfl ?_ AllReadyH.nil
      go_simp
      intro K hK
      have hb3 := hb2.alloc (show w3.heap.size ≤ _ from hb2.size) (.cells #[.int .i64 0, .int .i64 0, .int .i64 0, .slice none 0 0] 34)
      have hs3 : (wd2.alloc (.cells #[.int .i64 0, .int .i64 0, .int .i64 0, .slice none 0 0] 34)).heap.size = N + 1 + 1 + 1 := by rw [World.size_alloc, hs2]
      have hz3 : (wd2.alloc (.cells #[.int .i64 0, .int .i64 0, .int .i64 0, .slice none 0 0] 34)).heap[N + 1 + 1]? = some (enO 0 0 0 (.slice none 0 0)) := by rw [← hs2]; exact heap_alloc_last wd2 _
      replace hz1 := (Below.heap_alloc wd2 (.cells #[.int .i64 0, .int .i64 0, .int .i64 0, .slice none 0 0] 34) (N) (by rw [hs2]; omega)).trans hz1
      replace hz2 := (Below.heap_alloc wd2 (.cells #[.int .i64 0, .int .i64 0, .int .i64 0, .slice none 0 0] 34) (N + 1) (by rw [hs2]; omega)).trans hz2
      try rw [hs2]
      generalize World.alloc _ _ = wd3 at hb3 hs3 hz1 hz2 hz3 ⊢
      refine hK.out _ _ hb3 (fun _ => ?_)
      clear hK K
      refine wpAnyH_ready (rs := [15]) (by kernel_rfl) (by simp) ?_
      refine AllReadyH.cons (i := 15) rfl ?_ AllReadyH.nil
      have c0 := cell_of_row _ _ 0 _ _ _ hz3
      have c1 := cell_of_row _ _ 1 _ _ _ hz3
      have c2 := cell_of_row _ _ 2 _ _ _ hz3
      have c3 := cell_of_row _ _ 3 _ _ _ hz3
      have fz0 := frozen_new hz3 0
      have fz1 := frozen_new hz3 1
      have fz2 := frozen_new hz3 2
      have fz3 := frozen_new hz3 3
      simp at c0 c1 c2 c3
      go_simp
      intro K hK
      have hbS := below_putE hb3 (show w3.heap.size ≤ N + 1 + 1 by omega) 0 1 4 (.slice x3 2 x5)
      have hn3 := putE_same hz3 0 1 4 (.slice x3 2 x5)
      replace hz1 := putE_other hz1 (show N ≠ N + 1 + 1 by omega) 0 1 4 (.slice x3 2 x5)
      replace hz2 := putE_other hz2 (show N + 1 ≠ N + 1 + 1 by omega) 0 1 4 (.slice x3 2 x5)
      refine hK.out _ _ hbS (fun _ => ?_)
      clear hK K c0 c1 c2 c3 fz0 fz1 fz2 fz3
      dsimp only [putE] at hbS hn3 hz1 hz2
      generalize (((World.setCell _ _ _).setCell _ _).setCell _ _).setCell _ _ = ws0 at hbS hn3 hz1 hz2 ⊢
      refine wpAnyH_ready (rs := [16]) (by kernel_rfl) (by simp) ?_
      refine AllReadyH.cons (i := 16) rfl ?_ AllReadyH.nil
      have c0 := cell_of_row _ _ 0 _ _ _ hz1
      have c1 := cell_of_row _ _ 1 _ _ _ hz1
      have c2 := cell_of_row _ _ 2 _ _ _ hz1
      have c3 := cell_of_row _ _ 3 _ _ _ hz1
      have fz0 := frozen_new hz1 0
      have fz1 := frozen_new hz1 1
      have fz2 := frozen_new hz1 2
      have fz3 := frozen_new hz1 3
      simp at c0 c1 c2 c3
      go_simp
      intro K hK
      have hbS := below_putE hbS (show w3.heap.size ≤ N by omega) 0 3 3 (.slice y3 1 y5)
      have hn1 := putE_same hz1 0 3 3 (.slice y3 1 y5)
      replace hn3 := putE_other hn3 (show N + 1 + 1 ≠ N by omega) 0 3 3 (.slice y3 1 y5)
      replace hz2 := putE_other hz2 (show N + 1 ≠ N by omega) 0 3 3 (.slice y3 1 y5)
      refine hK.out _ _ hbS (fun _ => ?_)
      clear hK K c0 c1 c2 c3 fz0 fz1 fz2 fz3
      dsimp only [putE] at hbS hn3 hn1 hz2
      generalize (((World.setCell _ _ _).setCell _ _).setCell _ _).setCell _ _ = ws1 at hbS hn3 hn1 hz2 ⊢
      refine wpAnyH_ready (rs := [17]) (by kernel_rfl) (by simp) ?_
      refine AllReadyH.cons (i := 17) rfl ?_ AllReadyH.nil
      have c0 := cell_of_row _ _ 0 _ _ _ hz2
      have c1 := cell_of_row _ _ 1 _ _ _ hz2
      have c2 := cell_of_row _ _ 2 _ _ _ hz2
      have c3 := cell_of_row _ _ 3 _ _ _ hz2
      have fz0 := frozen_new hz2 0
      have fz1 := frozen_new hz2 1
      have fz2 := frozen_new hz2 2
      have fz3 := frozen_new hz2 3
      simp at c0 c1 c2 c3
      go_simp
      intro K hK
      have hbS := below_putE hbS (show w3.heap.size ≤ N + 1 by omega) 1 1 2 (.slice z3 1 z5)
      have hn2 := putE_same hz2 1 1 2 (.slice z3 1 z5)
      replace hn3 := putE_other hn3 (show N + 1 + 1 ≠ N + 1 by omega) 1 1 2 (.slice z3 1 z5)
      replace hn1 := putE_other hn1 (show N ≠ N + 1 by omega) 1 1 2 (.slice z3 1 z5)
      refine hK.out _ _ hbS (fun _ => ?_)
      clear hK K c0 c1 c2 c3 fz0 fz1 fz2 fz3
      dsimp only [putE] at hbS hn3 hn1 hn2
      generalize (((World.setCell _ _ _).setCell _ _).setCell _ _).setCell _ _ = ws2 at hbS hn3 hn1 hn2 ⊢
      refine wpAnyH_done (by kernel_rfl) ?_ _
      go_wp2_with fail
      go_meet
      exact ⟨⟨_, rfl, hn3⟩, ⟨_, rfl, hn1⟩, ⟨_, rfl, hn2⟩, hbS⟩
    refine AllReadyH.cons (i := 14) rfl ?_ AllReadyH.nil
    go_simp
    intro K hK
    have hb1 := hd0.alloc (show w3.heap.size ≤ _ from hd0.size) (.cells #[.int .i64 0, .int .i64 0, .int .i64 0, .slice none 0 0] 34)
    have hs1 : (wd.alloc (.cells #[.int .i64 0, .int .i64 0, .int .i64 0, .slice none 0 0] 34)).heap.size = N + 1 := by rw [World.size_alloc, hN]
    have hz1 : (wd.alloc (.cells #[.int .i64 0, .int .i64 0, .int .i64 0, .slice none 0 0] 34)).heap[N]? = some (enO 0 0 0 (.slice none 0 0)) := by rw [← hN]; exact heap_alloc_last wd _
    try rw [hN]
    generalize World.alloc _ _ = wd1 at hb1 hs1 hz1 ⊢
    refine hK.out _ _ hb1 (fun _ => ?_)
    clear hK K
    refine wpAnyH_ready (rs := [12, 13]) (by kernel_rfl) (by simp) ?_
    refine AllReadyH.cons (i := 12) rfl ?_ ?_
    · go_simp
      intro K hK
      have hb2 := hb1.alloc (show w3.heap.size ≤ _ from hb1.size) (.cells #[.int .i64 0, .int .i64 0, .int .i64 0, .slice none 0 0] 34)
      have hs2 : (wd1.alloc (.cells #[.int .i64 0, .int .i64 0, .int .i64 0, .slice none 0 0] 34)).heap.size = N + 1 + 1 := by rw [World.size_alloc, hs1]
      have hz2 : (wd1.alloc (.cells #[.int .i64 0, .int .i64 0, .int .i64 0, .slice none 0 0] 34)).heap[N + 1]? = some (enO 0 0 0 (.slice none 0 0)) := by rw [← hs1]; exact heap_alloc_last wd1 _
      replace hz1 := (Below.heap_alloc wd1 (.cells #[.int .i64 0, .int .i64 0, .int .i64 0, .slice none 0 0] 34) (N) (by rw [hs1]; omega)).trans hz1
      try rw [hs1]
      generalize World.alloc _ _ = wd2 at hb2 hs2 hz1 hz2 ⊢
      refine hK.out _ _ hb2 (fun _ => ?_)
      clear hK K
      refine wpAnyH_ready (rs := [13]) (by kernel_rfl) (by simp) ?_
      refine AllReadyH.cons (i := 13) rfl ?_ AllReadyH.nil
      go_simp
      intro K hK
      have hb3 := hb2.alloc (show w3.heap.size ≤ _ from hb2.size) (.cells #[.int .i64 0, .int .i64 0, .int .i64 0, .slice none 0 0] 34)
      have hs3 : (wd2.alloc (.cells #[.int .i64 0, .int .i64 0, .int .i64 0, .slice none 0 0] 34)).heap.size = N + 1 + 1 + 1 := by rw [World.size_alloc, hs2]
      have hz3 : (wd2.alloc (.cells #[.int .i64 0, .int .i64 0, .int .i64 0, .slice none 0 0] 34)).heap[N + 1 + 1]? = some (enO 0 0 0 (.slice none 0 0)) := by rw [← hs2]; exact heap_alloc_last wd2 _
      replace hz1 := (Below.heap_alloc wd2 (.cells #[.int .i64 0, .int .i64 0, .int .i64 0, .slice none 0 0] 34) (N) (by rw [hs2]; omega)).trans hz1
      replace hz2 := (Below.heap_alloc wd2 (.cells #[.int .i64 0, .int .i64 0, .int .i64 0, .slice none 0 0] 34) (N + 1) (by rw [hs2]; omega)).trans hz2
      try rw [hs2]
      generalize World.alloc _ _ = wd3 at hb3 hs3 hz1 hz2 hz3 ⊢
      refine hK.out _ _ hb3 (fun _ => ?_)
      clear hK K
      refine wpAnyH_ready (rs := [15]) (by kernel_rfl) (by simp) ?_
      refine AllReadyH.cons (i := 15) rfl ?_ AllReadyH.nil
      have c0 := cell_of_row _ _ 0 _ _ _ hz2
      have c1 := cell_of_row _ _ 1 _ _ _ hz2
      have c2 := cell_of_row _ _ 2 _ _ _ hz2
      have c3 := cell_of_row _ _ 3 _ _ _ hz2
      have fz0 := frozen_new hz2 0
      have fz1 := frozen_new hz2 1
      have fz2 := frozen_new hz2 2
      have fz3 := frozen_new hz2 3
      simp at c0 c1 c2 c3
      go_simp
      intro K hK
      have hbS := below_putE hb3 (show w3.heap.size ≤ N + 1 by omega) 0 1 4 (.slice x3 2 x5)
      have hn2 := putE_same hz2 0 1 4 (.slice x3 2 x5)
      replace hz3 := putE_other hz3 (show N + 1 + 1 ≠ N + 1 by omega) 0 1 4 (.slice x3 2 x5)
      replace hz1 := putE_other hz1 (show N ≠ N + 1 by omega) 0 1 4 (.slice x3 2 x5)
      refine hK.out _ _ hbS (fun _ => ?_)
      clear hK K c0 c1 c2 c3 fz0 fz1 fz2 fz3
      dsimp only [putE] at hbS hn2 hz3 hz1
      generalize (((World.setCell _ _ _).setCell _ _).setCell _ _).setCell _ _ = ws0 at hbS hn2 hz3 hz1 ⊢
      refine wpAnyH_ready (rs := [16]) (by kernel_rfl) (by simp) ?_
      refine AllReadyH.cons (i := 16) rfl ?_ AllReadyH.nil
      have c0 := cell_of_row _ _ 0 _ _ _ hz3
      have c1 := cell_of_row _ _ 1 _ _ _ hz3
      have c2 := cell_of_row _ _ 2 _ _ _ hz3
      have c3 := cell_of_row _ _ 3 _ _ _ hz3
      have fz0 := frozen_new hz3 0
      have fz1 := frozen_new hz3 1
      have fz2 := frozen_new hz3 2
      have fz3 := frozen_new hz3 3
      simp at c0 c1 c2 c3
      go_simp
      intro K hK
      have hbS := below_putE hbS (show w3.heap.size ≤ N + 1 + 1 by omega) 0 3 3 (.slice y3 1 y5)
      have hn3 := putE_same hz3 0 3 3 (.slice y3 1 y5)
      replace hn2 := putE_other hn2 (show N + 1 ≠ N + 1 + 1 by omega) 0 3 3 (.slice y3 1 y5)
      replace hz1 := putE_other hz1 (show N ≠ N + 1 + 1 by omega) 0 3 3 (.slice y3 1 y5)
      refine hK.out _ _ hbS (fun _ => ?_)
      clear hK K c0 c1 c2 c3 fz0 fz1 fz2 fz3
      dsimp only [putE] at hbS hn2 hn3 hz1
      generalize (((World.setCell _ _ _).setCell _ _).setCell _ _).setCell _ _ = ws1 at hbS hn2 hn3 hz1 ⊢
      refine wpAnyH_ready (rs := [17]) (by kernel_rfl) (by simp) ?_
      refine AllReadyH.cons (i := 17) rfl ?_ AllReadyH.nil
      have c0 := cell_of_row _ _ 0 _ _ _ hz1
      have c1 := cell_of_row _ _ 1 _ _ _ hz1
      have c2 := cell_of_row _ _ 2 _ _ _ hz1
      have c3 := cell_of_row _ _ 3 _ _ _ hz1
      have fz0 := frozen_new hz1 0
      have fz1 := frozen_new hz1 1
      have fz2 := frozen_new hz1 2
      have fz3 := frozen_new hz1 3
      simp at c0 c1 c2 c3
      go_simp
      intro K hK
      have hbS := below_putE hbS (show w3.heap.size ≤ N by omega) 1 1 2 (.slice z3 1 z5)
      have hn1 := putE_same hz1 1 1 2 (.slice z3 1 z5)
      replace hn2 := putE_other hn2 (show N + 1 ≠ N by omega) 1 1 2 (.slice z3 1 z5)
      replace hn3 := putE_other hn3 (show N + 1 + 1 ≠ N by omega) 1 1 2 (.slice z3 1 z5)
      refine hK.out _ _ hbS (fun _ => ?_)
      clear hK K c0 c1 c2 c3 fz0 fz1 fz2 fz3
      dsimp only [putE] at hbS hn2 hn3 hn1
      generalize (((World.setCell _ _ _).setCell _ _).setCell _ _).setCell _ _ = ws2 at hbS hn2 hn3 hn1 ⊢
      refine wpAnyH_done (by kernel_rfl) ?_ _
      go_wp2_with fail
      go_meet
      exact ⟨⟨_, rfl, hn2⟩, ⟨_, rfl, hn3⟩, ⟨_, rfl, hn1⟩, hbS⟩
    refine AllReadyH.cons (i := 13) rfl ?_ AllReadyH.nil
    go_simp
    intro K hK
    have hb2 := hb1.alloc (show w3.heap.size ≤ _ from hb1.size) (.cells #[.int .i64 0, .int .i64 0, .int .i64 0, .slice none 0 0] 34)
    have hs2 : (wd1.alloc (.cells #[.int .i64 0, .int .i64 0, .int .i64 0, .slice none 0 0] 34)).heap.size = N + 1 + 1 := by rw [World.size_alloc, hs1]
    have hz2 : (wd1.alloc (.cells #[.int .i64 0, .int .i64 0, .int .i64 0, .slice none 0 0] 34)).heap[N + 1]? = some (enO 0 0 0 (.slice none 0 0)) := by rw [← hs1]; exact heap_alloc_last wd1 _
    replace hz1 := (Below.heap_alloc wd1 (.cells #[.int .i64 0, .int .i64 0, .int .i64 0, .slice none 0 0] 34) (N) (by rw [hs1]; omega)).trans hz1
    try rw [hs1]
    generalize World.alloc _ _ = wd2 at hb2 hs2 hz1 hz2 ⊢
    refine hK.out _ _ hb2 (fun _ => ?_)
    clear hK K
    refine wpAnyH_ready (rs := [12]) (by kernel_rfl) (by simp) ?_
    refine AllReadyH.cons (i := 12) rfl ?_ AllReadyH.nil
    go_simp
    intro K hK
    have hb3 := hb2.alloc (show w3.heap.size ≤ _ from hb2.size) (.cells #[.int .i64 0, .int .i64 0, .int .i64 0, .slice none 0 0] 34)
    have hs3 : (wd2.alloc (.cells #[.int .i64 0, .int .i64 0, .int .i64 0, .slice none 0 0] 34)).heap.size = N + 1 + 1 + 1 := by rw [World.size_alloc, hs2]
    have hz3 : (wd2.alloc (.cells #[.int .i64 0, .int .i64 0, .int .i64 0, .slice none 0 0] 34)).heap[N + 1 + 1]? = some (enO 0 0 0 (.slice none 0 0)) := by rw [← hs2]; exact heap_alloc_last wd2 _
    replace hz1 := (Below.heap_alloc wd2 (.cells #[.int .i64 0, .int .i64 0, .int .i64 0, .slice none 0 0] 34) (N) (by rw [hs2]; omega)).trans hz1
    replace hz2 := (Below.heap_alloc wd2 (.cells #[.int .i64 0, .int .i64 0, .int .i64 0, .slice none 0 0] 34) (N + 1) (by rw [hs2]; omega)).trans hz2
    try rw [hs2]
    generalize World.alloc _ _ = wd3 at hb3 hs3 hz1 hz2 hz3 ⊢
    refine hK.out _ _ hb3 (fun _ => ?_)
    clear hK K
    refine wpAnyH_ready (rs := [15]) (by kernel_rfl) (by simp) ?_
    refine AllReadyH.cons (i := 15) rfl ?_ AllReadyH.nil
    have c0 := cell_of_row _ _ 0 _ _ _ hz3
    have c1 := cell_of_row _ _ 1 _ _ _ hz3
    have c2 := cell_of_row _ _ 2 _ _ _ hz3
    have c3 := cell_of_row _ _ 3 _ _ _ hz3
    have fz0 := frozen_new hz3 0
    have fz1 := frozen_new hz3 1
    have fz2 := frozen_new hz3 2
    have fz3 := frozen_new hz3 3
    simp at c0 c1 c2 c3
    go_simp
    intro K hK
    have hbS := below_putE hb3 (show w3.heap.size ≤ N + 1 + 1 by omega) 0 1 4 (.slice x3 2 x5)
    have hn3 := putE_same hz3 0 1 4 (.slice x3 2 x5)
    replace hz2 := putE_other hz2 (show N + 1 ≠ N + 1 + 1 by omega) 0 1 4 (.slice x3 2 x5)
    replace hz1 := putE_other hz1 (show N ≠ N + 1 + 1 by omega) 0 1 4 (.slice x3 2 x5)
    refine hK.out _ _ hbS (fun _ => ?_)
    clear hK K c0 c1 c2 c3 fz0 fz1 fz2 fz3
    dsimp only [putE] at hbS hn3 hz2 hz1
    generalize (((World.setCell _ _ _).setCell _ _).setCell _ _).setCell _ _ = ws0 at hbS hn3 hz2 hz1 ⊢
    refine wpAnyH_ready (rs := [16]) (by kernel_rfl) (by simp) ?_
    refine AllReadyH.cons (i := 16) rfl ?_ AllReadyH.nil
    have c0 := cell_of_row _ _ 0 _ _ _ hz2
    have c1 := cell_of_row _ _ 1 _ _ _ hz2
    have c2 := cell_of_row _ _ 2 _ _ _ hz2
    have c3 := cell_of_row _ _ 3 _ _ _ hz2
    have fz0 := frozen_new hz2 0
    have fz1 := frozen_new hz2 1
    have fz2 := frozen_new hz2 2
    have fz3 := frozen_new hz2 3
    simp at c0 c1 c2 c3
    go_simp
    intro K hK
    have hbS := below_putE hbS (show w3.heap.size ≤ N + 1 by omega) 0 3 3 (.slice y3 1 y5)
    have hn2 := putE_same hz2 0 3 3 (.slice y3 1 y5)
    replace hn3 := putE_other hn3 (show N + 1 + 1 ≠ N + 1 by omega) 0 3 3 (.slice y3 1 y5)
    replace hz1 := putE_other hz1 (show N ≠ N + 1 by omega) 0 3 3 (.slice y3 1 y5)
    refine hK.out _ _ hbS (fun _ => ?_)
    clear hK K c0 c1 c2 c3 fz0 fz1 fz2 fz3
    dsimp only [putE] at hbS hn3 hn2 hz1
    generalize (((World.setCell _ _ _).setCell _ _).setCell _ _).setCell _ _ = ws1 at hbS hn3 hn2 hz1 ⊢
    refine wpAnyH_ready (rs := [17]) (by kernel_rfl) (by simp) ?_
    refine AllReadyH.cons (i := 17) rfl ?_ AllReadyH.nil
    have c0 := cell_of_row _ _ 0 _ _ _ hz1
    have c1 := cell_of_row _ _ 1 _ _ _ hz1
    have c2 := cell_of_row _ _ 2 _ _ _ hz1
    have c3 := cell_of_row _ _ 3 _ _ _ hz1
    have fz0 := frozen_new hz1 0
    have fz1 := frozen_new hz1 1
    have fz2 := frozen_new hz1 2
    have fz3 := frozen_new hz1 3
    simp at c0 c1 c2 c3
    go_simp
    intro K hK
    have hbS := below_putE hbS (show w3.heap.size ≤ N by omega) 1 1 2 (.slice z3 1 z5)
    have hn1 := putE_same hz1 1 1 2 (.slice z3 1 z5)
    replace hn3 := putE_other hn3 (show N + 1 + 1 ≠ N by omega) 1 1 2 (.slice z3 1 z5)
    replace hn2 := putE_other hn2 (show N + 1 ≠ N by omega) 1 1 2 (.slice z3 1 z5)
    refine hK.out _ _ hbS (fun _ => ?_)
    clear hK K c0 c1 c2 c3 fz0 fz1 fz2 fz3
    dsimp only [putE] at hbS hn3 hn2 hn1
    generalize (((World.setCell _ _ _).setCell _ _).setCell _ _).setCell _ _ = ws2 at hbS hn3 hn2 hn1 ⊢
    refine wpAnyH_done (by kernel_rfl) ?_ _
    go_wp2_with fail
    go_meet
    exact ⟨⟨_, rfl, hn3⟩, ⟨_, rfl, hn2⟩, ⟨_, rfl, hn1⟩, hbS⟩
  case rest =>
    obtain ⟨⟨bx, rfl, hx⟩, ⟨by', rfl, hy⟩, ⟨bz, rfl, hz⟩, hbel⟩ := hcut
    have HBc := hidIn (HB3.out.trans (hbel.mono HB3.out.size))
    have x0' := cell_of_row wc bx 0 _ _ _ hx
    have x1' := cell_of_row wc bx 1 _ _ _ hx
    have x2' := cell_of_row wc bx 2 _ _ _ hx
    have x3' := cell_of_row wc bx 3 _ _ _ hx
    have y0' := cell_of_row wc by' 0 _ _ _ hy
    have y1' := cell_of_row wc by' 1 _ _ _ hy
    have y2' := cell_of_row wc by' 2 _ _ _ hy
    have y3' := cell_of_row wc by' 3 _ _ _ hy
    have z0' := cell_of_row wc bz 0 _ _ _ hz
    have z1' := cell_of_row wc bz 1 _ _ _ hz
    have z2' := cell_of_row wc bz 2 _ _ _ hz
    have z3' := cell_of_row wc bz 3 _ _ _ hz
    simp at x0' x1' x2' x3' y0' y1' y2' y3' z0' z1' z2' z3'
    clear hx hy hz hbel t0 t1 t2 t3 e0 e1 e2 e3 f0 f1 f2 f3 g0 g1 g2 g3
    go_wp2_with fail
    go_ret
    exact ⟨rfl, HBc.out⟩
end Go.Proofs.YtbggingacoheiaaGreatDoor
