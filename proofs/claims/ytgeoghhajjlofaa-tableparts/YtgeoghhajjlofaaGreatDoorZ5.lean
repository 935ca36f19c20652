/- The law's world of seven routers, as lists; no order of records changes what Build answers (pure). Entries as a table bears them; the law's example and works. The law's world in memory: the walk. table.sameEntry, slices.EqualFunc of entries, table.Same. TableOrder: the walk. Ranks as plain numbers: unlike numbers below 2^32 have unlike ranks. Neighbours, the best of them, all by their ranks: as lists. -/
import Derived.Test.YtgeoghhajjlofaaGreatDoorZ4
import Derived.Test.YtgeoghhajjlofaaGreatDoorZ2
import Derived.Test.YtgeoghhajjlofaaGreatDoorV9
import Derived.Deep.RegionLaw
import Derived.Test.YtgeoghhajjlofaaGreatDoorGD
import Derived.Laws.BitsAllLaws
namespace Go.Proofs.YtgeoghhajjlofaaGreatDoor

/-- One link more in the table of costs. -/
def wLk (c : Nat → Int) (x : Ed) : Nat → Int :=
  if x.1.toNat % 7 ≠ x.2.1.toNat % 7 then putV (putV c (8 * (x.1.toNat % 7) + x.2.1.toNat % 7) (1 + x.2.2 % 4)) (8 * (x.2.1.toNat % 7) + x.1.toNat % 7) (1 + x.2.2 % 4) else c
def wTb (L : List Ed) : Nat → Int := L.foldl wLk (fun _ => 0)
theorem wTb_snoc (L : List Ed) (x : Ed) : wTb (L ++ [x]) = wLk (wTb L) x := by simp [wTb, List.foldl_append]
structure WtOk (c : Nat → Int) : Prop where
  bd : ∀ i, 0 ≤ c i ∧ c i ≤ 4
  sy : ∀ a b, a < 8 → b < 8 → c (8 * a + b) = c (8 * b + a)
  di : ∀ a, a < 8 → c (8 * a + a) = 0
theorem wLk_ok {c : Nat → Int} {x : Ed} (h : WtOk c) : WtOk (wLk c x) := by
  have ha := Nat.mod_lt x.1.toNat (show 0 < 7 by decide)
  have hb := Nat.mod_lt x.2.1.toNat (show 0 < 7 by decide)
  unfold wLk
  generalize x.1.toNat % 7 = a at *
  generalize x.2.1.toNat % 7 = b at *
  by_cases hc : a ≠ b
  · rw [if_pos hc]
    have hv : 0 ≤ 1 + x.2.2 % 4 ∧ 1 + x.2.2 % 4 ≤ 4 := by omega
    generalize 1 + x.2.2 % 4 = v at *
    refine ⟨fun i => ?_, fun p q hp hq => ?_, fun p hp => ?_⟩
    · unfold putV
      have := h.bd i
      split
      · exact hv
      · split
        · exact hv
        · exact this
    · have h1 := h.sy p q hp hq
      unfold putV
      by_cases e1 : p = a ∧ q = b
      · obtain ⟨rfl, rfl⟩ := e1
        simp
      · by_cases e2 : p = b ∧ q = a
        · obtain ⟨rfl, rfl⟩ := e2
          simp
        · rw [if_neg (by omega), if_neg (by omega), if_neg (by omega), if_neg (by omega)]
          exact h1
    · unfold putV
      rw [if_neg (by omega), if_neg (by omega)]
      exact h.di p hp
  · rw [if_neg hc]
    exact h
theorem wTb_ok (L : List Ed) : WtOk (wTb L) := by
  have key : ∀ (L : List Ed) (c : Nat → Int), WtOk c → WtOk (L.foldl wLk c) := by
    intro L
    induction L with
    | nil => intro c h; exact h
    | cons x L ih => intro c h; exact ih _ (wLk_ok h)
  exact key L _ ⟨fun _ => by omega, fun _ _ _ _ => rfl, fun _ _ => rfl⟩
/-- The neighbours of a router; its record; all records. -/
def wAd (c : Nat → Int) (a m : Nat) : List (Int × Int) := ((List.range m).filter fun b => decide (0 < c (8 * a + b))).map fun b : Nat => ((b : Int) + 1, c (8 * a + b))
def wRc (c : Nat → Int) (C : Nat → Int) (a : Nat) : Rc := ⟨(a : Int) + 1, 1, 1, C a, false, wAd c a 7⟩
def wRs (c : Nat → Int) (C : Nat → Int) (n : Nat) : List Rc := (List.range n).map (wRc c C)
theorem wAd_succ (c : Nat → Int) (a m : Nat) : wAd c a (m + 1) = wAd c a m ++ (if 0 < c (8 * a + m) then [((m : Int) + 1, c (8 * a + m))] else []) := by
  unfold wAd
  rw [List.range_succ, List.filter_append, List.map_append]
  by_cases h : 0 < c (8 * a + m) <;> simp [h]
theorem wAd_mem {c : Nat → Int} {a m : Nat} {x : Int × Int} : x ∈ wAd c a m ↔ ∃ b, b < m ∧ 0 < c (8 * a + b) ∧ x = ((b : Int) + 1, c (8 * a + b)) := by
  unfold wAd
  simp only [List.mem_map, List.mem_filter, List.mem_range, decide_eq_true_eq]
  constructor
  · rintro ⟨b, ⟨h1, h2⟩, rfl⟩; exact ⟨b, h1, h2, rfl⟩
  · rintro ⟨b, h1, h2, rfl⟩; exact ⟨b, ⟨h1, h2⟩, rfl⟩
theorem wAd_len (c : Nat → Int) (a m : Nat) : (wAd c a m).length ≤ m := by
  unfold wAd
  rw [List.length_map]
  exact Nat.le_trans (List.length_filter_le _ _) (by simp)
theorem wAd_rise (c : Nat → Int) (a m : Nat) : (wAd c a m).Pairwise fun x y => x.1 < y.1 := by
  unfold wAd
  rw [List.pairwise_map]
  refine (List.pairwise_lt_range.filter _).imp fun h => ?_
  show ((_ : Nat) : Int) + 1 < ((_ : Nat) : Int) + 1
  omega
theorem adjsOk_of {o : Int} : ∀ (l : List (Int × Int)) (last : Int), l.Pairwise (fun x y => x.1 < y.1) → (∀ x ∈ l, 1 ≤ x.1 ∧ x.1 ≤ 24 ∧ x.1 ≠ o ∧ last < x.1 ∧ 1 ≤ x.2 ∧ x.2 ≤ 1000) → adjsOk o last l = true
  | [], _, _, _ => rfl
  | x :: l, last, hp, h => by
    rw [List.pairwise_cons] at hp
    have hx := h x (by simp)
    simp only [adjsOk, adjOk, Bool.and_eq_true, isR_iff, isC_iff, Bool.not_eq_true', decide_eq_false_iff_not, decide_eq_true_eq]
    refine ⟨⟨⟨hx.1, hx.2.1⟩, hx.2.2.1, hx.2.2.2.1, hx.2.2.2.2⟩, adjsOk_of l x.1 hp.2 fun y hy => ?_⟩
    have hy' := h y (by simp [hy])
    exact ⟨hy'.1, hy'.2.1, hy'.2.2.1, hp.1 y hy, hy'.2.2.2.2⟩
theorem wRc_ok {c C : Nat → Int} (hc : WtOk c) (hC : ∀ i, i < 7 → 0 ≤ C i ∧ C i ≤ 1024) {a : Nat} (ha : a < 7) : recOk (wRc c C a) = true := by
  have h1 := wAd_len c a 7
  have h2 := hC a ha
  show recOk ⟨(a : Int) + 1, 1, 1, C a, false, wAd c a 7⟩ = true
  simp only [recOk, isR_iff, Bool.and_eq_true, decide_eq_true_eq]
  refine ⟨⟨by omega, by omega⟩, by omega, by omega, h2.1, h2.2, by omega, adjsOk_of _ _ (wAd_rise c a 7) fun x hx => ?_⟩
  obtain ⟨b, h3, h4, rfl⟩ := wAd_mem.1 hx
  have h5 := hc.bd (8 * a + b)
  refine ⟨by simp only; omega, by simp only; omega, ?_, by simp only; omega, by simp only; omega, by simp only; omega⟩
  intro e
  simp only at e
  have hab : b = a := by omega
  subst hab
  have := hc.di b (by omega)
  omega
theorem wRs_mem {c C : Nat → Int} {n : Nat} {r : Rc} : r ∈ wRs c C n ↔ ∃ a, a < n ∧ r = wRc c C a := by
  unfold wRs
  simp only [List.mem_map, List.mem_range]
  constructor
  · rintro ⟨a, h, rfl⟩; exact ⟨a, h, rfl⟩
  · rintro ⟨a, h, rfl⟩; exact ⟨a, h, rfl⟩
theorem wRs_succ (c C : Nat → Int) (n : Nat) : wRs c C (n + 1) = wRs c C n ++ [wRc c C n] := by simp [wRs, List.range_succ]
theorem wRs_unl {c C : Nat → Int} (hc : WtOk c) (hC : ∀ i, i < 7 → 0 ≤ C i ∧ C i ≤ 1024) : Unl (wRs c C 7) := by
  refine ⟨fun r hr => ?_, ?_⟩
  · obtain ⟨a, ha, rfl⟩ := wRs_mem.1 hr
    exact wRc_ok hc hC ha
  · unfold wRs
    rw [List.pairwise_map]
    refine List.pairwise_lt_range.imp fun h => ?_
    show ((_ : Nat) : Int).toNat + 1 ≠ _
    simp only [wRc]
    omega
/-- A record of a router that nobody names. -/
abbrev far20 (self : Int) : Rc := ⟨20, 1, 1, 5, false, [(self, 1)]⟩
def turnR (self : Int) (rs : List Rc) : List Rc := rs.reverse ++ [far20 self]
theorem turn_unl {rs : List Rc} {self : Int} (h : Unl rs) (hs : 1 ≤ self ∧ self ≤ 7) (ho : ∀ r ∈ rs, r.origin ≤ 7) : Unl (turnR self rs) := by
  have h' := h.reverse
  refine ⟨fun r hr => ?_, ?_⟩
  · rcases List.mem_append.1 hr with hr | hr
    · exact h'.1 r hr
    · rw [List.mem_singleton.1 hr]
      simp only [recOk, isR_iff, Bool.and_eq_true, decide_eq_true_eq]
      refine ⟨by omega, by omega, by omega, by omega, by omega, by simp, adjsOk_of _ _ (by simp) fun x hx => ?_⟩
      rw [List.mem_singleton.1 hx]
      simp only
      omega
  · refine List.pairwise_append.2 ⟨h'.2, by simp, fun a ha b hb => ?_⟩
    rw [List.mem_singleton.1 hb]
    have h1 := ho a (List.mem_reverse.1 ha)
    have h2 := (recOk_parts (h'.1 a ha)).1
    show a.origin.toNat ≠ (20 : Int).toNat
    omega
theorem laidE_same {c d : Nat → Nat → Int} (h : ∀ a b, (0 < c a b ∧ 0 < c b a ↔ 0 < d a b ∧ 0 < d b a) ∧ (0 < c a b → 0 < c b a → c a b = d a b)) : laidE c = laidE d := by
  unfold laidE
  have : ∀ a, rowE c a (List.range 25) = rowE d a (List.range 25) := fun a => by
    unfold rowE
    have hf : ((List.range 25).filter fun b => decide (0 < c a b) && decide (0 < c b a)) = (List.range 25).filter fun b => decide (0 < d a b) && decide (0 < d b a) := List.filter_congr fun b _ => by
      have := (h a b).1
      rw [← Bool.decide_and, ← Bool.decide_and, decide_eq_decide]
      exact this
    rw [← hf]
    refine List.map_congr_left fun b hb => ?_
    simp only [List.mem_filter, Bool.and_eq_true, decide_eq_true_eq] at hb
    rw [(h a b).2 hb.2.1 hb.2.2]
  simp only [this]
/-- The edges are the same: nobody names 20. -/
theorem turn_E {rs : List Rc} {self : Int} (h : Unl rs) (hs : 1 ≤ self ∧ self ≤ 7) (ho : ∀ r ∈ rs, r.origin ≤ 7) (hn : ∀ r ∈ rs, ∀ x ∈ r.adjs, x.1 ≤ 7) : bothE (turnR self rs) = bothE rs := by
  have k1 := isCost_of h
  have k2 := isCost_of (turn_unl h hs ho)
  have hmem : ∀ r, r ∈ turnR self rs ↔ r ∈ rs ∨ r = far20 self := fun r => by unfold turnR; simp
  unfold bothE
  refine (laidE_same fun a b => ?_).symm
  have hpos := isCost_pos k1 h
  have hpos2 := isCost_pos k2 (turn_unl h hs ho)
  generalize costL no2 rs = c at *
  generalize costL no2 (turnR self rs) = d at *
  have e1 : ∀ i j, c i j ≠ 0 → d i j = c i j := fun i j hne => by
    obtain ⟨r, hr, x, hx, rfl, rfl⟩ := k1.from' i j hne
    rw [k1.at' r hr x hx, k2.at' r ((hmem r).2 (.inl hr)) x hx]
  have e2 : ∀ i j, d i j ≠ 0 → c i j ≠ 0 ∨ (i = 20 ∧ j = self.toNat) := fun i j hne => by
    obtain ⟨r, hr, x, hx, h1, h2⟩ := k2.from' i j hne
    rcases (hmem r).1 hr with hr | rfl
    · left
      have := k1.at' r hr x hx
      rw [h1, h2] at this
      rw [this]
      have := recOk_adj (h.1 r hr) hx
      omega
    · right
      rw [List.mem_singleton.1 hx] at h2
      exact ⟨h1.symm, h2.symm⟩
  have e3 : ∀ i j, c i j ≠ 0 → i ≤ 7 ∧ j ≤ 7 := fun i j hne => by
    obtain ⟨r, hr, x, hx, rfl, rfl⟩ := k1.from' i j hne
    have := ho r hr
    have := hn r hr x hx
    omega
  have p1 := hpos a b
  have p2 := hpos b a
  have q1 := hpos2 a b
  have q2 := hpos2 b a
  refine ⟨⟨fun ⟨g1, g2⟩ => ?_, fun ⟨g1, g2⟩ => ?_⟩, fun g1 g2 => ?_⟩
  · rw [e1 a b (by omega), e1 b a (by omega)]; exact ⟨g1, g2⟩
  · have r1 := e2 a b (by omega)
    have r2 := e2 b a (by omega)
    rcases r1 with r1 | r1
    · rcases r2 with r2 | r2
      · rw [← e1 a b r1, ← e1 b a r2]; exact ⟨g1, g2⟩
      · have := e3 a b r1; omega
    · rcases r2 with r2 | r2
      · have := e3 b a r2; omega
      · omega
  · rw [e1 a b (by omega)]
theorem bothN_mem {rs : List Rc} (h : Unl rs) {x : Int} : x ∈ bothN rs ↔ ∃ r ∈ rs, r.origin = x := by
  unfold bothN markedL
  constructor
  · intro h1
    obtain ⟨i, hi, rfl⟩ := List.mem_map.1 h1
    rcases (thereL_iff rs no1 i).1 (List.mem_filter.1 hi).2 with h2 | ⟨r, hr, h2⟩
    · cases h2
    · have := (recOk_parts (h.1 r hr)).1
      exact ⟨r, hr, by omega⟩
  · rintro ⟨r, hr, rfl⟩
    have := (recOk_parts (h.1 r hr)).1
    exact List.mem_map.2 ⟨r.origin.toNat, List.mem_filter.2 ⟨List.mem_range.2 (by omega), (thereL_iff rs no1 _).2 (.inr ⟨r, hr, rfl⟩)⟩, by omega⟩
theorem IsFrom.widen {ns ns' : List Int} {es : List Ed} {r : Int} {W : List Rr} (h : IsFrom ns es r W) (h1 : ∀ x ∈ ns, x ∈ ns') (h2 : ∀ x d, x ∈ ns' → Ds es r x d → x ∈ ns) : IsFrom ns' es r W :=
  ⟨h.rise, fun p hp => ⟨h1 _ (h.right p hp).1, (h.right p hp).2⟩, fun x d hx hd => h.all x d (h2 x d hx hd) hd⟩
theorem allC_eqv {rs rs' : List Rc} (h : ∀ r, r ∈ rs ↔ r ∈ rs') : allC rs = allC rs' := by
  have hg : ∀ id x, x ∈ gat rs id ↔ x ∈ gat rs' id := fun id x => by rw [mem_gat, mem_gat]; simp only [h]
  have hn : ∀ id, gat rs id ≠ [] ↔ gat rs' id ≠ [] := fun id => by
    constructor
    · intro hne e
      obtain ⟨x, hx⟩ := List.exists_mem_of_ne_nil _ hne
      have := (hg id x).1 hx
      rw [e] at this
      cases this
    · intro hne e
      obtain ⟨x, hx⟩ := List.exists_mem_of_ne_nil _ hne
      have := (hg id x).2 hx
      rw [e] at this
      cases this
  have hi : idsL rs = idsL rs' := crise_ext (idsL_rise _) (idsL_rise _) (fun x => by rw [mem_idsL, mem_idsL, hn])
  unfold allC
  rw [hi]
  exact List.map_congr_left fun id _ => by rw [rsL_same (hg id)]
/-- Where self has a record, the ways are From's. -/
theorem WaysIs.from {l : List (Rc × Value)} {self : Int} {W : List Rr} (h : WaysIs l self W) (hu : Unl (rcs l)) (hs : ∃ r ∈ rcs l, r.origin = self) : self ∈ bothN (rcs l) ∧ graphOk (bothN (rcs l)) (bothE (rcs l)) = true ∧ IsFrom (bothN (rcs l)) (bothE (rcs l)) self W := by
  have hm := (bothN_mem hu).2 hs
  have hg := both_may hu
  refine ⟨hm, hg, ?_⟩
  rcases h with ⟨h1, _⟩ | ⟨_, h1⟩
  · unfold ndAll at h1
    rw [hg] at h1
    simp only [List.all_cons, List.all_nil, Bool.and_true, Bool.true_and] at h1
    rw [hasN_iff.2 hm] at h1
    cases h1
  · exact h1
/-- The ways, and what is claimed by those that they come to, hang on no order, and on nobody that is not come to. -/
theorem turn_same {l l' : List (Rc × Value)} {rs : List Rc} {self : Int} {W W' : List Rr} (e1 : rcs l = rs) (e2 : rcs l' = turnR self rs) (h : Unl rs) (hs : 1 ≤ self ∧ self ≤ 7) (hso : ∃ r ∈ rs, r.origin = self) (ho : ∀ r ∈ rs, r.origin ≤ 7) (hn : ∀ r ∈ rs, ∀ x ∈ r.adjs, x.1 ≤ 7) (hW : WaysIs l self W) (hW' : WaysIs l' self W') :
    W = W' ∧ allC ((rcs l).filter fun x => (ofW W x.origin).isSome) = allC ((rcs l').filter fun x => (ofW W' x.origin).isSome) := by
  have hmem : ∀ r, r ∈ turnR self rs ↔ r ∈ rs ∨ r = far20 self := fun r => by unfold turnR; simp
  have hu' := turn_unl h hs ho
  obtain ⟨hm, hg, hF⟩ := hW.from (by rw [e1]; exact h) (by rw [e1]; exact hso)
  obtain ⟨_, _, hF'⟩ := hW'.from (by rw [e2]; exact hu') (by rw [e2]; obtain ⟨r, hr, h1⟩ := hso; exact ⟨r, (hmem r).2 (.inl hr), h1⟩)
  rw [e1] at hm hg hF
  rw [e2, turn_E h hs ho hn] at hF'
  have hWW : W = W' := by
    refine (hF.widen (ns' := bothN (turnR self rs)) (fun x hx => ?_) (fun x d hx hd => ?_)).uniq hF'
    · obtain ⟨r, hr, h1⟩ := (bothN_mem h).1 hx
      exact (bothN_mem hu').2 ⟨r, (hmem r).2 (.inl hr), h1⟩
    · exact hd.node hg hm
  refine ⟨hWW, ?_⟩
  rw [← hWW, e1, e2]
  refine allC_eqv fun r => ?_
  rw [List.mem_filter, List.mem_filter, hmem]
  constructor
  · rintro ⟨h1, h2⟩; exact ⟨.inl h1, h2⟩
  · rintro ⟨h1 | rfl, h2⟩
    · exact ⟨h1, h2⟩
    · exfalso
      obtain ⟨X, hX⟩ := Option.isSome_iff_exists.1 h2
      have h3 := ofW_node hX
      have h4 := (hF.right X (List.mem_of_find?_eq_some hX)).1
      rw [h3] at h4
      obtain ⟨r, hr, h5⟩ := (bothN_mem h).1 h4
      have := ho r hr
      have e20 : r.origin = 20 := h5
      omega
end Go.Proofs.YtgeoghhajjlofaaGreatDoor
namespace Go.Proofs.YtgeoghhajjlofaaGreatDoor
open Go.RowKit

/-- An entry with its neighbours; as it is told. -/
abbrev En := Rw × List Int
abbrev Et := Int × Int × Int × List Int
abbrev toT (es : List En) : List Et := es.map fun x => (x.1.1, x.1.2.1, x.1.2.2.1, x.2)
/-- Entries in memory. -/
structure EnAt (w : World) (u : Value) (es : List En) : Prop where
  r : SlAt rwcs 4 w u (es.map (·.1))
  n : ∀ x ∈ es, SlAt ic 1 w (rwS x.1) x.2
theorem EnAt.keep {w w' : World} {u : Value} {es : List En} {B : Nat} (h : EnAt w u es) (hb : Below B w w') (hB : w.heap.size ≤ B) : EnAt w' u es := ⟨h.r.keep hb hB, fun x hx => (h.n x hx).keep hb hB⟩
theorem EsAt.at {B : Nat} {w : World} {u : Value} {T : List Et} (h : EsAt B w u T) : ∃ es : List En, toT es = T ∧ EnAt w u es := by
  obtain ⟨es, h1, ⟨C, _, h2⟩, h3⟩ := h
  refine ⟨es, h1, slAt_of_row (cs := rwcs) (fun _ => rfl) h2 (List.length_map _), fun x hx => ?_⟩
  obtain ⟨C, _, h4⟩ := h3 x hx
  exact slAt_of_row (cs := ic) (fun _ => rfl) h4 rfl
theorem EnAt.op {w : World} {u : Value} {es : List En} (h : EnAt w u es) : ∃ a cap, u = .slice a es.length cap ∧ es.length ≤ 9223372036854775807 ∧ es.length ≤ cap ∧ (0 < es.length → ∃ bk o, a = some ⟨bk, o, none⟩ ∧ bk < w.heap.size ∧ ∀ j x, es[j]? = some x → w.cell? ⟨bk, o + j * 4, none⟩ = some (.int .i64 x.1.1) ∧ w.cell? ⟨bk, o + j * 4 + 1, none⟩ = some (.int .i64 x.1.2.1) ∧ w.cell? ⟨bk, o + j * 4 + 2, none⟩ = some (.int .i64 x.1.2.2.1) ∧ w.cell? ⟨bk, o + j * 4 + 3, none⟩ = some (rwS x.1) ∧ SlAt ic 1 w (rwS x.1) x.2 ∧ x.1.2.2.2.2.1 = x.2.length) := by
  obtain ⟨a, cap, rfl, h1, h2, h3⟩ := h.r.rws
  rw [List.length_map] at h1 h2 h3
  refine ⟨a, cap, by rw [List.length_map], h1, h2, fun hp => ?_⟩
  obtain ⟨bk, o, h4, h5, h6⟩ := h3 hp
  refine ⟨bk, o, h4, h5, fun j x hx => ?_⟩
  obtain ⟨g0, g1, g2, g3⟩ := h6 j x.1 (by rw [List.getElem?_map, hx]; rfl)
  have hn := h.n x (List.mem_of_getElem? hx)
  refine ⟨g0, g1, g2, g3, hn, ?_⟩
  obtain ⟨_, _, he, _⟩ := hn
  simp only [rwS, Value.slice.injEq] at he
  exact he.2.1
/-- A table as a value. -/
abbrev tbV (self width own : Int) (u : Value) : Value := .agg #[.int .i64 self, .int .i64 width, .int .i64 own, u]
abbrev tbO (self width own : Int) (u : Value) : Obj := .cells #[.int .i64 self, .int .i64 width, .int .i64 own, u] 29
theorem adj_blk {w : World} {b : Nat} {l : List (Int × Int)} (h : w.heap[b]? = some (.cells (fl ac l).toArray 75)) (hn : l.length ≤ 1000) : SlAt ac 2 w (.slice (some ⟨b, 0, none⟩) l.length l.length) l := by
  refine slAt_of_row (cs := ac) (sz := 2) (base := 0) (k := l.length) (e := 75) (fun _ => rfl) ⟨fl_length (sz := 2) (cs := ac) (fun _ => rfl) l, .inr ⟨b, l.length, _, rfl, Nat.zero_le _, h, Nat.le_refl _, by unfold maxLen; omega, by simp [fl_length (sz := 2) (cs := ac) (fun _ => rfl)], ?_⟩⟩ rfl
  simp only
  rw [List.take_of_length_le]
  rw [fl_length (sz := 2) (cs := ac) (fun _ => rfl)]
  exact Nat.le_refl _
set_option maxRecDepth 100000 in
set_option maxHeartbeats 2000000 in
theorem example_any (c : Int) (w : World) : Calls Tryz.prog 33 #[.int .i64 c] w fun e w' => (∃ v l, e = .returned v ∧ RecsAt w' v l ∧ rcs l = exR c ∧ l.length = 4) ∧ Below w.heap.size w w' := by
  obtain ⟨q, hq⟩ : ∃ q, w.heap.size = q := ⟨_, rfl⟩
  obtain ⟨W1, hW1⟩ : ∃ W1, w.alloc (.cells #[.int .i64 2, .int .i64 1, .int .i64 3, .int .i64 1] 75) = W1 := ⟨_, rfl⟩
  have s1 : W1.heap.size = q + 1 := by rw [← hW1, World.size_alloc, hq]
  have b1 : Below W1.heap.size W1 W1 := Below.refl _ _
  have x1 : W1.heap[q]? = some (.cells (fl ac [(2, 1), (3, 1)]).toArray 75) := by rw [← hW1, ← hq]; exact heap_alloc_last w _
  have c1 : Below w.heap.size w W1 := by rw [← hW1]; exact (Below.refl _ w).alloc (Nat.le_refl _) _
  obtain ⟨W2, hW2⟩ : ∃ W2, W1.alloc (.cells #[.int .i64 1, .int .i64 1, .int .i64 4, .int .i64 1] 75) = W2 := ⟨_, rfl⟩
  have s2 : W2.heap.size = q + 1 + 1 := by rw [← hW2, World.size_alloc, s1]
  have b2 : Below W1.heap.size W1 W2 := by rw [← hW2]; exact (Below.refl _ W1).alloc (Nat.le_refl _) _
  have x2 : W2.heap[q + 1]? = some (.cells (fl ac [(1, 1), (4, 1)]).toArray 75) := by rw [← hW2, ← s1]; exact heap_alloc_last W1 _
  obtain ⟨W3, hW3⟩ : ∃ W3, W2.alloc (.cells #[.int .i64 1, .int .i64 1, .int .i64 4, .int .i64 1] 75) = W3 := ⟨_, rfl⟩
  have s3 : W3.heap.size = q + 1 + 1 + 1 := by rw [← hW3, World.size_alloc, s2]
  have b3 : Below W2.heap.size W2 W3 := by rw [← hW3]; exact (Below.refl _ W2).alloc (Nat.le_refl _) _
  have x3 : W3.heap[q + 1 + 1]? = some (.cells (fl ac [(1, 1), (4, 1)]).toArray 75) := by rw [← hW3, ← s2]; exact heap_alloc_last W2 _
  obtain ⟨W4, hW4⟩ : ∃ W4, W3.alloc (.cells #[.int .i64 2, .int .i64 1, .int .i64 3, .int .i64 1] 75) = W4 := ⟨_, rfl⟩
  have s4 : W4.heap.size = q + 1 + 1 + 1 + 1 := by rw [← hW4, World.size_alloc, s3]
  have b4 : Below W3.heap.size W3 W4 := by rw [← hW4]; exact (Below.refl _ W3).alloc (Nat.le_refl _) _
  have x4 : W4.heap[q + 1 + 1 + 1]? = some (.cells (fl ac [(2, 1), (3, 1)]).toArray 75) := by rw [← hW4, ← s3]; exact heap_alloc_last W3 _
  obtain ⟨W5, hW5⟩ : ∃ W5, W4.alloc (.cells #[.int .i64 1, .int .u32 1, .int .u32 1, .int .i64 0, .bool false, .slice (some ⟨q, 0, none⟩) 2 2, .int .i64 2, .int .u32 1, .int .u32 1, .int .i64 9, .bool false, .slice (some ⟨q + 1, 0, none⟩) 2 2, .int .i64 3, .int .u32 1, .int .u32 1, .int .i64 c, .bool false, .slice (some ⟨q + 1 + 1, 0, none⟩) 2 2, .int .i64 4, .int .u32 1, .int .u32 1, .int .i64 1, .bool false, .slice (some ⟨q + 1 + 1 + 1, 0, none⟩) 2 2] 73) = W5 := ⟨_, rfl⟩
  have b5 : Below W4.heap.size W4 W5 := by rw [← hW5]; exact (Below.refl _ W4).alloc (Nat.le_refl _) _
  obtain ⟨L, hL⟩ : ∃ L : List (Rc × Value), L = [(⟨1, 1, 1, 0, false, [(2, 1), (3, 1)]⟩, .slice (some ⟨q, 0, none⟩) 2 2), (⟨2, 1, 1, 9, false, [(1, 1), (4, 1)]⟩, .slice (some ⟨q + 1, 0, none⟩) 2 2), (⟨3, 1, 1, c, false, [(1, 1), (4, 1)]⟩, .slice (some ⟨q + 1 + 1, 0, none⟩) 2 2), (⟨4, 1, 1, 1, false, [(2, 1), (3, 1)]⟩, .slice (some ⟨q + 1 + 1 + 1, 0, none⟩) 2 2)] := ⟨_, rfl⟩
  have x5 : W5.heap[q + 1 + 1 + 1 + 1]? = some (.cells (fl rcc L).toArray 73) := by rw [← hW5, ← s4, hL]; exact heap_alloc_last W4 _
  have hR : RecsAt W5 (.slice (some ⟨q + 1 + 1 + 1 + 1, 0, none⟩) 4 4) L := by
    have hl : L.length = 4 := by rw [hL]; rfl
    have := recs_blk x5 (by omega) (fun x hx => by
      rw [hL] at hx
      simp only [List.mem_cons, List.not_mem_nil, or_false] at hx
      rcases hx with rfl | rfl | rfl | rfl
      · exact (((adj_blk x1 (by decide)).keep b2 (Nat.le_refl _)).keep b3 (Nat.le_refl _) |>.keep b4 (Nat.le_refl _)).keep b5 (Nat.le_refl _)
      · exact (((adj_blk x2 (by decide)).keep b3 (Nat.le_refl _)).keep b4 (Nat.le_refl _)).keep b5 (Nat.le_refl _)
      · exact ((adj_blk x3 (by decide)).keep b4 (Nat.le_refl _)).keep b5 (Nat.le_refl _)
      · exact (adj_blk x4 (by decide)).keep b5 (Nat.le_refl _))
    rw [hl] at this
    exact this
  have c2 := c1.trans (b2.mono c1.size)
  have c3 := c2.trans (b3.mono c2.size)
  have c4 := c3.trans (b4.mono c3.size)
  have HB := hidIn (c4.trans (b5.mono c4.size))
  have HR := hidIn (And.intro hR (And.intro (show rcs L = exR c by rw [hL]; rfl) (show L.length = 4 by rw [hL]; rfl)))
  have H1 := hidIn hW1
  have H2 := hidIn hW2
  have H3 := hidIn hW3
  have H4 := hidIn hW4
  have H5 := hidIn hW5
  have S1 := hidIn s1
  have S2 := hidIn s2
  have S3 := hidIn s3
  have S4 := hidIn s4
  have Hq := hidIn hq
  clear hL hR c1 c2 c3 c4 b1 b2 b3 b4 b5 x1 x2 x3 x4 x5 hW1 hW2 hW3 hW4 hW5 s1 s2 s3 s4 hq
  go_enter Tryz.func33, Tryz.ntmps33
  go_wp2_with fail
  rw [Hq.out, H1.out, H2.out, H3.out, H4.out, H5.out]
  go_ret
  exact ⟨⟨_, L, rfl, HR.out.1, HR.out.2.1, HR.out.2.2⟩, by have := HB.out; rw [Hq.out] at this; exact this⟩
theorem three_new (w : World) (A B C : Obj) : (((w.alloc A).alloc B).alloc C).drew.heap[w.heap.size]? = some A ∧ (((w.alloc A).alloc B).alloc C).drew.heap[w.heap.size + 1]? = some B ∧ (((w.alloc A).alloc B).alloc C).drew.heap[w.heap.size + 1 + 1]? = some C := by
  refine ⟨?_, ?_, ?_⟩
  · show (((w.alloc A).alloc B).alloc C).heap[w.heap.size]? = some A
    rw [Below.heap_alloc _ _ _ (by simp; omega), Below.heap_alloc _ _ _ (by simp)]
    exact heap_alloc_last w A
  · show (((w.alloc A).alloc B).alloc C).heap[w.heap.size + 1]? = some B
    rw [Below.heap_alloc _ _ _ (by simp)]
    have := heap_alloc_last (w.alloc A) B
    rw [World.size_alloc] at this
    exact this
  · show (((w.alloc A).alloc B).alloc C).heap[w.heap.size + 1 + 1]? = some C
    have := heap_alloc_last ((w.alloc A).alloc B) C
    rw [World.size_alloc, World.size_alloc] at this
    exact this
abbrev enO (s b o : Int) (v : Value) : Obj := .cells #[.int .i64 s, .int .i64 b, .int .i64 o, v] 46
/-- An entry put into its block. -/
abbrev putE (w : World) (b : Nat) (s t o : Int) (v : Value) : World := (((w.setCell ⟨b, 0, none⟩ (.int .i64 s)).setCell ⟨b, 1, none⟩ (.int .i64 t)).setCell ⟨b, 2, none⟩ (.int .i64 o)).setCell ⟨b, 3, none⟩ v
theorem putE_same {w : World} {b : Nat} {c0 c1 c2 c3 : Value} {T : TypeId} (h : w.heap[b]? = some (.cells #[c0, c1, c2, c3] T)) (s t o : Int) (v : Value) : (putE w b s t o v).heap[b]? = some (.cells #[.int .i64 s, .int .i64 t, .int .i64 o, v] T) := set4 _ _ _ _ h
theorem putE_other {w : World} {a b : Nat} {x : Obj} (h : w.heap[a]? = some x) (hne : a ≠ b) (s t o : Int) (v : Value) : (putE w b s t o v).heap[a]? = some x := by
  rw [Below.heap_setCell _ _ _ _ (by exact hne), Below.heap_setCell _ _ _ _ (by exact hne), Below.heap_setCell _ _ _ _ (by exact hne), Below.heap_setCell _ _ _ _ (by exact hne)]
  exact h
theorem below_putE {B : Nat} {w0 w : World} (h : Below B w0 w) {b : Nat} (hb : B ≤ b) (s t o : Int) (v : Value) : Below B w0 (putE w b s t o v) :=
  (((h.setCell (p := ⟨b, 0, none⟩) hb _).setCell (p := ⟨b, 1, none⟩) hb _).setCell (p := ⟨b, 2, none⟩) hb _).setCell (p := ⟨b, 3, none⟩) hb _
set_option maxRecDepth 100000 in
set_option maxHeartbeats 4000000 in
theorem tworks_any (w : World) (ht : Wid w) : Calls Tryz.prog 13 #[] w fun e w' => e = .returned (.bool true) ∧ Below w.heap.size w w' := by
  have Ht := hidIn ht
  clear ht
  go_enter Tryz.func13, Tryz.ntmps13
  go_wp2_with fail
  refine (example_any 3 w).mono ?_
  rintro e w1 ⟨⟨v, l, rfl, hR, hl, hn⟩, hb1⟩
  have HBd : Hid (Calls Tryz.prog 4 #[.int .i64 1, .int .i64 8, v] w1 fun e w' => BldAns w1 w' l 1 8 e ∧ Below w1.heap.size w1 w') := hidIn (build_ok hR (Ht.out.keep hb1) (self := 1) (by omega) (wd := 8) (by unfold IsW; omega) (by omega) (by rw [hl]; exact exR_ok.1))
  obtain ⟨va, vc, rfl, _⟩ := hR.r.recs
  have Hl := hidIn hl
  have HB1 := hidIn hb1
  generalize l.length = ln at hn HBd ⊢
  clear hR hl hn hb1
  go_wp2_with fail
  refine HBd.out.mono ?_
  rintro e w2 ⟨hA, hb2⟩
  obtain ⟨u, rfl, hE⟩ := ex3_ans Hl.out hA
  obtain ⟨es, hT, hAt⟩ := hE.at
  obtain ⟨x, y, z, rfl⟩ : ∃ x y z, es = [x, y, z] := by
    have : es.length = 3 := by have := congrArg List.length hT; rw [List.length_map] at this; exact this
    match es, this with
    | [x, y, z], _ => exact ⟨x, y, z, rfl⟩
  simp only [toT, List.map_cons, List.map_nil, List.cons.injEq, Prod.mk.injEq, and_true] at hT
  obtain ⟨⟨hx0, hx1, hx2, hx3⟩, ⟨hy0, hy1, hy2, hy3⟩, hz0, hz1, hz2, hz3⟩ := hT
  obtain ⟨ua, uc, rfl, _, _, hc⟩ := hAt.op
  obtain ⟨bk, o, rfl, hbk, hcell⟩ := hc (by simp)
  obtain ⟨p0, p1, p2, p3, _, p5⟩ := hcell 0 x rfl
  obtain ⟨q0, q1, q2, q3, _, q5⟩ := hcell 1 y rfl
  obtain ⟨r0, r1, r2, r3, _, r5⟩ := hcell 2 z rfl
  obtain ⟨⟨x0, x1, x2, x3, x4, x5⟩, xn⟩ := x
  obtain ⟨⟨y0, y1, y2, y3, y4, y5⟩, yn⟩ := y
  obtain ⟨⟨z0, z1, z2, z3, z4, z5⟩, zn⟩ := z
  simp only at hx0 hx1 hx2 hx3 hy0 hy1 hy2 hy3 hz0 hz1 hz2 hz3 p0 p1 p2 p3 p5 q0 q1 q2 q3 q5 r0 r1 r2 r3 r5
  rw [hx3] at p5
  rw [hy3] at q5
  rw [hz3] at r5
  simp only [List.length_cons, List.length_nil] at p5 q5 r5
  subst hx0 hx1 hx2 hy0 hy1 hy2 hz0 hz1 hz2 p5 q5 r5
  obtain ⟨w3, hw3⟩ : ∃ w3, w2.alloc (tbO 1 8 0 (.slice (some ⟨bk, o, none⟩) 3 uc)) = w3 := ⟨_, rfl⟩
  have b3 : Below w2.heap.size w2 w3 := by rw [← hw3]; exact (Below.refl _ w2).alloc (Nat.le_refl _) _
  have hz : w3.heap[w2.heap.size]? = some (tbO 1 8 0 (.slice (some ⟨bk, o, none⟩) 3 uc)) := by rw [← hw3]; exact heap_alloc_last w2 _
  obtain ⟨qt, hqt⟩ : ∃ qt, w2.heap.size = qt := ⟨_, rfl⟩
  have hB2 := HB1.out.trans (hb2.mono HB1.out.size)
  have HB3 := hidIn (hB2.trans (b3.mono hB2.size))
  have e0 := (b3.cell (p := ⟨bk, o + 0 * 4, none⟩) hbk).trans p0
  have e1 := (b3.cell (p := ⟨bk, o + 0 * 4 + 1, none⟩) hbk).trans p1
  have e2 := (b3.cell (p := ⟨bk, o + 0 * 4 + 2, none⟩) hbk).trans p2
  have e3 := (b3.cell (p := ⟨bk, o + 0 * 4 + 3, none⟩) hbk).trans p3
  have f0 := (b3.cell (p := ⟨bk, o + 1 * 4, none⟩) hbk).trans q0
  have f1 := (b3.cell (p := ⟨bk, o + 1 * 4 + 1, none⟩) hbk).trans q1
  have f2 := (b3.cell (p := ⟨bk, o + 1 * 4 + 2, none⟩) hbk).trans q2
  have f3 := (b3.cell (p := ⟨bk, o + 1 * 4 + 3, none⟩) hbk).trans q3
  have g0 := (b3.cell (p := ⟨bk, o + 2 * 4, none⟩) hbk).trans r0
  have g1 := (b3.cell (p := ⟨bk, o + 2 * 4 + 1, none⟩) hbk).trans r1
  have g2 := (b3.cell (p := ⟨bk, o + 2 * 4 + 2, none⟩) hbk).trans r2
  have g3 := (b3.cell (p := ⟨bk, o + 2 * 4 + 3, none⟩) hbk).trans r3
  rw [Nat.zero_mul, Nat.add_zero] at e0 e1 e2 e3
  rw [Nat.one_mul] at f0 f1 f2 f3
  rw [show 2 * 4 = 8 from rfl] at g0 g1 g2 g3
  have hb3 : bk < w3.heap.size := Nat.lt_of_lt_of_le hbk b3.size
  have hq3 : qt < w3.heap.size := by rw [← hqt]; exact block_lt hz
  rw [hqt] at hz
  have t0 := cell_of_row _ _ 0 _ _ _ hz
  have t1 := cell_of_row _ _ 1 _ _ _ hz
  have t2 := cell_of_row _ _ 2 _ _ _ hz
  have t3 := cell_of_row _ _ 3 _ _ _ hz
  simp at t0 t1 t2 t3
  have HW3 := hidIn hw3
  clear hw3 hz b3 p0 p1 p2 p3 q0 q1 q2 q3 r0 r1 r2 r3 hcell hc hAt hE hA hb2 hB2 hbk HBd hx3 hy3 hz3
  go_upto_region 2 with fail
  rw [HW3.out]
  clear HW3 hqt
  go_upto_region 4 with fail
  go_cut [3, 4, 5] (fun x y z wx => (∃ bx, x = .pointer (some ⟨bx, 0, none⟩) ∧ wx.heap[bx]? = some (enO 0 1 4 (.slice x3 2 x5))) ∧ (∃ by', y = .pointer (some ⟨by', 0, none⟩) ∧ wx.heap[by']? = some (enO 0 3 3 (.slice y3 1 y5))) ∧ (∃ bz, z = .pointer (some ⟨bz, 0, none⟩) ∧ wx.heap[bz]? = some (enO 1 1 2 (.slice z3 1 z5))) ∧ Below w3.heap.size w3 wx)
  case first =>
    have HCl : Hid (∀ wq, Below w3.heap.size w3 wq → wq.cell? ⟨qt, 3, none⟩ = some (.slice (some ⟨bk, o, none⟩) 3 uc) ∧ (wq.cell? ⟨bk, o, none⟩ = some (.int .i64 0) ∧ wq.cell? ⟨bk, o + 1, none⟩ = some (.int .i64 1) ∧ wq.cell? ⟨bk, o + 2, none⟩ = some (.int .i64 4) ∧ wq.cell? ⟨bk, o + 3, none⟩ = some (.slice x3 2 x5)) ∧ (wq.cell? ⟨bk, o + 4, none⟩ = some (.int .i64 0) ∧ wq.cell? ⟨bk, o + 4 + 1, none⟩ = some (.int .i64 3) ∧ wq.cell? ⟨bk, o + 4 + 2, none⟩ = some (.int .i64 3) ∧ wq.cell? ⟨bk, o + 4 + 3, none⟩ = some (.slice y3 1 y5)) ∧ (wq.cell? ⟨bk, o + 8, none⟩ = some (.int .i64 1) ∧ wq.cell? ⟨bk, o + 8 + 1, none⟩ = some (.int .i64 1) ∧ wq.cell? ⟨bk, o + 8 + 2, none⟩ = some (.int .i64 2) ∧ wq.cell? ⟨bk, o + 8 + 3, none⟩ = some (.slice z3 1 z5))) := hidIn fun wq h => ⟨(h.cell (p := ⟨qt, 3, none⟩) hq3).trans t3, ⟨(h.cell (p := ⟨bk, o, none⟩) hb3).trans e0, (h.cell (p := ⟨bk, o + 1, none⟩) hb3).trans e1, (h.cell (p := ⟨bk, o + 2, none⟩) hb3).trans e2, (h.cell (p := ⟨bk, o + 3, none⟩) hb3).trans e3⟩, ⟨(h.cell (p := ⟨bk, o + 4, none⟩) hb3).trans f0, (h.cell (p := ⟨bk, o + 4 + 1, none⟩) hb3).trans f1, (h.cell (p := ⟨bk, o + 4 + 2, none⟩) hb3).trans f2, (h.cell (p := ⟨bk, o + 4 + 3, none⟩) hb3).trans f3⟩, ⟨(h.cell (p := ⟨bk, o + 8, none⟩) hb3).trans g0, (h.cell (p := ⟨bk, o + 8 + 1, none⟩) hb3).trans g1, (h.cell (p := ⟨bk, o + 8 + 2, none⟩) hb3).trans g2, (h.cell (p := ⟨bk, o + 8 + 3, none⟩) hb3).trans g3⟩⟩
    clear t0 t1 t2 t3 e0 e1 e2 e3 f0 f1 f2 f3 g0 g1 g2 g3
    refine wp_region_held_drew (S := fun wx => Below w3.heap.size w3 wx) (by kernel_rfl) ((Below.refl _ w3).drew) (fun hHeld => ?_)
    have hd0 : Below w3.heap.size w3 w3.drew := hHeld
    obtain ⟨wd, hwd⟩ : ∃ wd, w3.drew = wd := ⟨_, rfl⟩
    rw [hwd] at hd0 ⊢
    clear hwd hHeld
    refine wpAnyH_take (i := 0) (v := .pointer (some ⟨qt, 3, none⟩)) rfl (by kernel_rfl) (by kernel_rfl) (by kernel_rfl) (fun _ _ _ h => h) (Or.inl ⟨by kernel_rfl, fun _ _ => by kernel_rfl⟩) (by assumption) ?_
    refine wpAnyH_take (i := 1) (v := .slice (some ⟨bk, o, none⟩) 3 uc) rfl (by kernel_rfl) (by kernel_rfl) (by kernel_rfl) (fun _ _ _ h => h) (Or.inl ⟨by kernel_rfl, fun wq hSw => by
      obtain ⟨u0, ⟨u1, u2, u3, u4⟩, ⟨u5, u6, u7, u8⟩, ⟨u9, ua, ub, ud⟩⟩ := HCl.out wq hSw
      go_simp⟩) (by assumption) ?_
    refine wpAnyH_take (i := 2) (v := .pointer (some ⟨bk, o, none⟩)) rfl (by kernel_rfl) (by kernel_rfl) (by kernel_rfl) (fun _ _ _ h => h) (Or.inl ⟨by kernel_rfl, fun _ _ => by kernel_rfl⟩) (by assumption) ?_
    refine wpAnyH_take (i := 3) (v := .agg #[.int .i64 0, .int .i64 1, .int .i64 4, .slice x3 2 x5]) rfl (by kernel_rfl) (by kernel_rfl) (by kernel_rfl) (fun _ _ _ h => h) (Or.inl ⟨by kernel_rfl, fun wq hSw => by
      obtain ⟨u0, ⟨u1, u2, u3, u4⟩, ⟨u5, u6, u7, u8⟩, ⟨u9, ua, ub, ud⟩⟩ := HCl.out wq hSw
      go_simp⟩) (by assumption) ?_
    refine wpAnyH_take (i := 4) (v := .pointer (some ⟨qt, 3, none⟩)) rfl (by kernel_rfl) (by kernel_rfl) (by kernel_rfl) (fun _ _ _ h => h) (Or.inl ⟨by kernel_rfl, fun _ _ => by kernel_rfl⟩) (by assumption) ?_
    refine wpAnyH_take (i := 5) (v := .slice (some ⟨bk, o, none⟩) 3 uc) rfl (by kernel_rfl) (by kernel_rfl) (by kernel_rfl) (fun _ _ _ h => h) (Or.inl ⟨by kernel_rfl, fun wq hSw => by
      obtain ⟨u0, ⟨u1, u2, u3, u4⟩, ⟨u5, u6, u7, u8⟩, ⟨u9, ua, ub, ud⟩⟩ := HCl.out wq hSw
      go_simp⟩) (by assumption) ?_
    refine wpAnyH_take (i := 6) (v := .pointer (some ⟨bk, o + 4, none⟩)) rfl (by kernel_rfl) (by kernel_rfl) (by kernel_rfl) (fun _ _ _ h => h) (Or.inl ⟨by kernel_rfl, fun _ _ => by kernel_rfl⟩) (by assumption) ?_
    refine wpAnyH_take (i := 7) (v := .agg #[.int .i64 0, .int .i64 3, .int .i64 3, .slice y3 1 y5]) rfl (by kernel_rfl) (by kernel_rfl) (by kernel_rfl) (fun _ _ _ h => h) (Or.inl ⟨by kernel_rfl, fun wq hSw => by
      obtain ⟨u0, ⟨u1, u2, u3, u4⟩, ⟨u5, u6, u7, u8⟩, ⟨u9, ua, ub, ud⟩⟩ := HCl.out wq hSw
      go_simp⟩) (by assumption) ?_
    refine wpAnyH_take (i := 8) (v := .pointer (some ⟨qt, 3, none⟩)) rfl (by kernel_rfl) (by kernel_rfl) (by kernel_rfl) (fun _ _ _ h => h) (Or.inl ⟨by kernel_rfl, fun _ _ => by kernel_rfl⟩) (by assumption) ?_
    refine wpAnyH_take (i := 9) (v := .slice (some ⟨bk, o, none⟩) 3 uc) rfl (by kernel_rfl) (by kernel_rfl) (by kernel_rfl) (fun _ _ _ h => h) (Or.inl ⟨by kernel_rfl, fun wq hSw => by
      obtain ⟨u0, ⟨u1, u2, u3, u4⟩, ⟨u5, u6, u7, u8⟩, ⟨u9, ua, ub, ud⟩⟩ := HCl.out wq hSw
      go_simp⟩) (by assumption) ?_
    refine wpAnyH_take (i := 10) (v := .pointer (some ⟨bk, o + 8, none⟩)) rfl (by kernel_rfl) (by kernel_rfl) (by kernel_rfl) (fun _ _ _ h => h) (Or.inl ⟨by kernel_rfl, fun _ _ => by kernel_rfl⟩) (by assumption) ?_
    refine wpAnyH_take (i := 11) (v := .agg #[.int .i64 1, .int .i64 1, .int .i64 2, .slice z3 1 z5]) rfl (by kernel_rfl) (by kernel_rfl) (by kernel_rfl) (fun _ _ _ h => h) (Or.inl ⟨by kernel_rfl, fun wq hSw => by
      obtain ⟨u0, ⟨u1, u2, u3, u4⟩, ⟨u5, u6, u7, u8⟩, ⟨u9, ua, ub, ud⟩⟩ := HCl.out wq hSw
      go_simp⟩) (by assumption) ?_
    clear HCl
    obtain ⟨N, hN⟩ : ∃ N, wd.heap.size = N := ⟨_, rfl⟩
    have hN3 : w3.heap.size ≤ N := by rw [← hN]; exact hd0.size
    refine wpAnyH_ready (rs := [12, 13, 14]) (by kernel_rfl) (by simp) ?_
    refine AllReadyH.cons (i := 12) rfl ?_ ?_
    · go_simp
      intro K hK
      have hb1 := hd0.alloc (show w3.heap.size ≤ _ from hd0.size) (.cells #[.int .i64 0, .int .i64 0, .int .i64 0, .slice none 0 0] 46)
      have hs1 : (wd.alloc (.cells #[.int .i64 0, .int .i64 0, .int .i64 0, .slice none 0 0] 46)).heap.size = N + 1 := by rw [World.size_alloc, hN]
      have hz1 : (wd.alloc (.cells #[.int .i64 0, .int .i64 0, .int .i64 0, .slice none 0 0] 46)).heap[N]? = some (enO 0 0 0 (.slice none 0 0)) := by rw [← hN]; exact heap_alloc_last wd _
      try rw [hN]
      generalize World.alloc _ _ = wd1 at hb1 hs1 hz1 ⊢
      refine hK.out _ _ hb1 (fun _ => ?_)
      clear hK K
      refine wpAnyH_ready (rs := [13, 14]) (by kernel_rfl) (by simp) ?_
      refine AllReadyH.cons (i := 13) rfl ?_ ?_
      · go_simp
        intro K hK
        have hb2 := hb1.alloc (show w3.heap.size ≤ _ from hb1.size) (.cells #[.int .i64 0, .int .i64 0, .int .i64 0, .slice none 0 0] 46)
        have hs2 : (wd1.alloc (.cells #[.int .i64 0, .int .i64 0, .int .i64 0, .slice none 0 0] 46)).heap.size = N + 1 + 1 := by rw [World.size_alloc, hs1]
        have hz2 : (wd1.alloc (.cells #[.int .i64 0, .int .i64 0, .int .i64 0, .slice none 0 0] 46)).heap[N + 1]? = some (enO 0 0 0 (.slice none 0 0)) := by rw [← hs1]; exact heap_alloc_last wd1 _
        replace hz1 := (Below.heap_alloc wd1 (.cells #[.int .i64 0, .int .i64 0, .int .i64 0, .slice none 0 0] 46) (N) (by rw [hs1]; omega)).trans hz1
        try rw [hs1]
        generalize World.alloc _ _ = wd2 at hb2 hs2 hz1 hz2 ⊢
        refine hK.out _ _ hb2 (fun _ => ?_)
        clear hK K
        refine wpAnyH_ready (rs := [14]) (by kernel_rfl) (by simp) ?_
        refine AllReadyH.cons (i := 14) rfl ?_ AllReadyH.nil
        go_simp
        intro K hK
        have hb3 := hb2.alloc (show w3.heap.size ≤ _ from hb2.size) (.cells #[.int .i64 0, .int .i64 0, .int .i64 0, .slice none 0 0] 46)
        have hs3 : (wd2.alloc (.cells #[.int .i64 0, .int .i64 0, .int .i64 0, .slice none 0 0] 46)).heap.size = N + 1 + 1 + 1 := by rw [World.size_alloc, hs2]
        have hz3 : (wd2.alloc (.cells #[.int .i64 0, .int .i64 0, .int .i64 0, .slice none 0 0] 46)).heap[N + 1 + 1]? = some (enO 0 0 0 (.slice none 0 0)) := by rw [← hs2]; exact heap_alloc_last wd2 _
        replace hz1 := (Below.heap_alloc wd2 (.cells #[.int .i64 0, .int .i64 0, .int .i64 0, .slice none 0 0] 46) (N) (by rw [hs2]; omega)).trans hz1
        replace hz2 := (Below.heap_alloc wd2 (.cells #[.int .i64 0, .int .i64 0, .int .i64 0, .slice none 0 0] 46) (N + 1) (by rw [hs2]; omega)).trans hz2
        try rw [hs2]
        generalize World.alloc _ _ = wd3 at hb3 hs3 hz1 hz2 hz3 ⊢
        refine hK.out _ _ hb3 (fun _ => ?_)
        clear hK K
        refine wpAnyH_ready (rs := [15]) (by kernel_rfl) (by simp) ?_
        refine AllReadyH.cons (i := 15) rfl ?_ AllReadyH.nil
        have c0 := cell_of_row _ _ 0 _ _ _ hz1
        have c1 := cell_of_row _ _ 1 _ _ _ hz1
        have c2 := cell_of_row _ _ 2 _ _ _ hz1
        have c3 := cell_of_row _ _ 3 _ _ _ hz1
        have fz0 := frozen_new hz1 0
        have fz1 := frozen_new hz1 1
        have fz2 := frozen_new hz1 2
        have fz3 := frozen_new hz1 3
        simp at c0 c1 c2 c3
        go_simp
        intro K hK
        have hbS := below_putE hb3 (show w3.heap.size ≤ N by omega) 0 1 4 (.slice x3 2 x5)
        have hn1 := putE_same hz1 0 1 4 (.slice x3 2 x5)
        replace hz2 := putE_other hz2 (show N + 1 ≠ N by omega) 0 1 4 (.slice x3 2 x5)
        replace hz3 := putE_other hz3 (show N + 1 + 1 ≠ N by omega) 0 1 4 (.slice x3 2 x5)
        refine hK.out _ _ hbS (fun _ => ?_)
        clear hK K c0 c1 c2 c3 fz0 fz1 fz2 fz3
        dsimp only [putE] at hbS hn1 hz2 hz3
        generalize (((World.setCell _ _ _).setCell _ _).setCell _ _).setCell _ _ = ws0 at hbS hn1 hz2 hz3 ⊢
        refine wpAnyH_ready (rs := [16]) (by kernel_rfl) (by simp) ?_
        refine AllReadyH.cons (i := 16) rfl ?_ AllReadyH.nil
        have c0 := cell_of_row _ _ 0 _ _ _ hz2
        have c1 := cell_of_row _ _ 1 _ _ _ hz2
        have c2 := cell_of_row _ _ 2 _ _ _ hz2
        have c3 := cell_of_row _ _ 3 _ _ _ hz2
        have fz0 := frozen_new hz2 0
        have fz1 := frozen_new hz2 1
        have fz2 := frozen_new hz2 2
        have fz3 := frozen_new hz2 3
        simp at c0 c1 c2 c3
        go_simp
        intro K hK
        have hbS := below_putE hbS (show w3.heap.size ≤ N + 1 by omega) 0 3 3 (.slice y3 1 y5)
        have hn2 := putE_same hz2 0 3 3 (.slice y3 1 y5)
        replace hn1 := putE_other hn1 (show N ≠ N + 1 by omega) 0 3 3 (.slice y3 1 y5)
        replace hz3 := putE_other hz3 (show N + 1 + 1 ≠ N + 1 by omega) 0 3 3 (.slice y3 1 y5)
        refine hK.out _ _ hbS (fun _ => ?_)
        clear hK K c0 c1 c2 c3 fz0 fz1 fz2 fz3
        dsimp only [putE] at hbS hn1 hn2 hz3
        generalize (((World.setCell _ _ _).setCell _ _).setCell _ _).setCell _ _ = ws1 at hbS hn1 hn2 hz3 ⊢
        refine wpAnyH_ready (rs := [17]) (by kernel_rfl) (by simp) ?_
        refine AllReadyH.cons (i := 17) rfl ?_ AllReadyH.nil
        have c0 := cell_of_row _ _ 0 _ _ _ hz3
        have c1 := cell_of_row _ _ 1 _ _ _ hz3
        have c2 := cell_of_row _ _ 2 _ _ _ hz3
        have c3 := cell_of_row _ _ 3 _ _ _ hz3
        have fz0 := frozen_new hz3 0
        have fz1 := frozen_new hz3 1
        have fz2 := frozen_new hz3 2
        have fz3 := frozen_new hz3 3
        simp at c0 c1 c2 c3
        go_simp
        intro K hK
        have hbS := below_putE hbS (show w3.heap.size ≤ N + 1 + 1 by omega) 1 1 2 (.slice z3 1 z5)
        have hn3 := putE_same hz3 1 1 2 (.slice z3 1 z5)
        replace hn1 := putE_other hn1 (show N ≠ N + 1 + 1 by omega) 1 1 2 (.slice z3 1 z5)
        replace hn2 := putE_other hn2 (show N + 1 ≠ N + 1 + 1 by omega) 1 1 2 (.slice z3 1 z5)
        refine hK.out _ _ hbS (fun _ => ?_)
        clear hK K c0 c1 c2 c3 fz0 fz1 fz2 fz3
        dsimp only [putE] at hbS hn1 hn2 hn3
        generalize (((World.setCell _ _ _).setCell _ _).setCell _ _).setCell _ _ = ws2 at hbS hn1 hn2 hn3 ⊢
        refine wpAnyH_done (by kernel_rfl) ?_ _
        go_wp2_with fail
        go_meet
        exact ⟨⟨_, rfl, hn1⟩, ⟨_, rfl, hn2⟩, ⟨_, rfl, hn3⟩, hbS⟩
      refine AllReadyH.cons (i := 14) rfl ?_ AllReadyH.nil
      go_simp
      intro K hK
      have hb2 := hb1.alloc (show w3.heap.size ≤ _ from hb1.size) (.cells #[.int .i64 0, .int .i64 0, .int .i64 0, .slice none 0 0] 46)
      have hs2 : (wd1.alloc (.cells #[.int .i64 0, .int .i64 0, .int .i64 0, .slice none 0 0] 46)).heap.size = N + 1 + 1 := by rw [World.size_alloc, hs1]
      have hz2 : (wd1.alloc (.cells #[.int .i64 0, .int .i64 0, .int .i64 0, .slice none 0 0] 46)).heap[N + 1]? = some (enO 0 0 0 (.slice none 0 0)) := by rw [← hs1]; exact heap_alloc_last wd1 _
      replace hz1 := (Below.heap_alloc wd1 (.cells #[.int .i64 0, .int .i64 0, .int .i64 0, .slice none 0 0] 46) (N) (by rw [hs1]; omega)).trans hz1
      try rw [hs1]
      generalize World.alloc _ _ = wd2 at hb2 hs2 hz1 hz2 ⊢
      refine hK.out _ _ hb2 (fun _ => ?_)
      clear hK K
      refine wpAnyH_ready (rs := [13]) (by kernel_rfl) (by simp) ?_
      refine AllReadyH.cons (i := 13) rfl ?_ AllReadyH.nil
      go_simp
      intro K hK
      have hb3 := hb2.alloc (show w3.heap.size ≤ _ from hb2.size) (.cells #[.int .i64 0, .int .i64 0, .int .i64 0, .slice none 0 0] 46)
      have hs3 : (wd2.alloc (.cells #[.int .i64 0, .int .i64 0, .int .i64 0, .slice none 0 0] 46)).heap.size = N + 1 + 1 + 1 := by rw [World.size_alloc, hs2]
      have hz3 : (wd2.alloc (.cells #[.int .i64 0, .int .i64 0, .int .i64 0, .slice none 0 0] 46)).heap[N + 1 + 1]? = some (enO 0 0 0 (.slice none 0 0)) := by rw [← hs2]; exact heap_alloc_last wd2 _
      replace hz1 := (Below.heap_alloc wd2 (.cells #[.int .i64 0, .int .i64 0, .int .i64 0, .slice none 0 0] 46) (N) (by rw [hs2]; omega)).trans hz1
      replace hz2 := (Below.heap_alloc wd2 (.cells #[.int .i64 0, .int .i64 0, .int .i64 0, .slice none 0 0] 46) (N + 1) (by rw [hs2]; omega)).trans hz2
      try rw [hs2]
      generalize World.alloc _ _ = wd3 at hb3 hs3 hz1 hz2 hz3 ⊢
      refine hK.out _ _ hb3 (fun _ => ?_)
      clear hK K
      refine wpAnyH_ready (rs := [15]) (by kernel_rfl) (by simp) ?_
      refine AllReadyH.cons (i := 15) rfl ?_ AllReadyH.nil
      have c0 := cell_of_row _ _ 0 _ _ _ hz1
      have c1 := cell_of_row _ _ 1 _ _ _ hz1
      have c2 := cell_of_row _ _ 2 _ _ _ hz1
      have c3 := cell_of_row _ _ 3 _ _ _ hz1
      have fz0 := frozen_new hz1 0
      have fz1 := frozen_new hz1 1
      have fz2 := frozen_new hz1 2
      have fz3 := frozen_new hz1 3
      simp at c0 c1 c2 c3
      go_simp
      intro K hK
      have hbS := below_putE hb3 (show w3.heap.size ≤ N by omega) 0 1 4 (.slice x3 2 x5)
      have hn1 := putE_same hz1 0 1 4 (.slice x3 2 x5)
      replace hz3 := putE_other hz3 (show N + 1 + 1 ≠ N by omega) 0 1 4 (.slice x3 2 x5)
      replace hz2 := putE_other hz2 (show N + 1 ≠ N by omega) 0 1 4 (.slice x3 2 x5)
      refine hK.out _ _ hbS (fun _ => ?_)
      clear hK K c0 c1 c2 c3 fz0 fz1 fz2 fz3
      dsimp only [putE] at hbS hn1 hz3 hz2
      generalize (((World.setCell _ _ _).setCell _ _).setCell _ _).setCell _ _ = ws0 at hbS hn1 hz3 hz2 ⊢
      refine wpAnyH_ready (rs := [16]) (by kernel_rfl) (by simp) ?_
      refine AllReadyH.cons (i := 16) rfl ?_ AllReadyH.nil
      have c0 := cell_of_row _ _ 0 _ _ _ hz3
      have c1 := cell_of_row _ _ 1 _ _ _ hz3
      have c2 := cell_of_row _ _ 2 _ _ _ hz3
      have c3 := cell_of_row _ _ 3 _ _ _ hz3
      have fz0 := frozen_new hz3 0
      have fz1 := frozen_new hz3 1
      have fz2 := frozen_new hz3 2
      have fz3 := frozen_new hz3 3
      simp at c0 c1 c2 c3
      go_simp
      intro K hK
      have hbS := below_putE hbS (show w3.heap.size ≤ N + 1 + 1 by omega) 0 3 3 (.slice y3 1 y5)
      have hn3 := putE_same hz3 0 3 3 (.slice y3 1 y5)
      replace hn1 := putE_other hn1 (show N ≠ N + 1 + 1 by omega) 0 3 3 (.slice y3 1 y5)
      replace hz2 := putE_other hz2 (show N + 1 ≠ N + 1 + 1 by omega) 0 3 3 (.slice y3 1 y5)
      refine hK.out _ _ hbS (fun _ => ?_)
      clear hK K c0 c1 c2 c3 fz0 fz1 fz2 fz3
      dsimp only [putE] at hbS hn1 hn3 hz2
      generalize (((World.setCell _ _ _).setCell _ _).setCell _ _).setCell _ _ = ws1 at hbS hn1 hn3 hz2 ⊢
      refine wpAnyH_ready (rs := [17]) (by kernel_rfl) (by simp) ?_
      refine AllReadyH.cons (i := 17) rfl ?_ AllReadyH.nil
      have c0 := cell_of_row _ _ 0 _ _ _ hz2
      have c1 := cell_of_row _ _ 1 _ _ _ hz2
      have c2 := cell_of_row _ _ 2 _ _ _ hz2
      have c3 := cell_of_row _ _ 3 _ _ _ hz2
      have fz0 := frozen_new hz2 0
      have fz1 := frozen_new hz2 1
      have fz2 := frozen_new hz2 2
      have fz3 := frozen_new hz2 3
      simp at c0 c1 c2 c3
      go_simp
      intro K hK
      have hbS := below_putE hbS (show w3.heap.size ≤ N + 1 by omega) 1 1 2 (.slice z3 1 z5)
      have hn2 := putE_same hz2 1 1 2 (.slice z3 1 z5)
      replace hn1 := putE_other hn1 (show N ≠ N + 1 by omega) 1 1 2 (.slice z3 1 z5)
      replace hn3 := putE_other hn3 (show N + 1 + 1 ≠ N + 1 by omega) 1 1 2 (.slice z3 1 z5)
      refine hK.out _ _ hbS (fun _ => ?_)
      clear hK K c0 c1 c2 c3 fz0 fz1 fz2 fz3
      dsimp only [putE] at hbS hn1 hn3 hn2
      generalize (((World.setCell _ _ _).setCell _ _).setCell _ _).setCell _ _ = ws2 at hbS hn1 hn3 hn2 ⊢
      refine wpAnyH_done (by kernel_rfl) ?_ _
      go_wp2_with fail
      go_meet
      exact ⟨⟨_, rfl, hn1⟩, ⟨_, rfl, hn3⟩, ⟨_, rfl, hn2⟩, hbS⟩
    refine AllReadyH.cons (i := 13) rfl ?_ ?_
    · go_simp
      intro K hK
      have hb1 := hd0.alloc (show w3.heap.size ≤ _ from hd0.size) (.cells #[.int .i64 0, .int .i64 0, .int .i64 0, .slice none 0 0] 46)
      have hs1 : (wd.alloc (.cells #[.int .i64 0, .int .i64 0, .int .i64 0, .slice none 0 0] 46)).heap.size = N + 1 := by rw [World.size_alloc, hN]
      have hz1 : (wd.alloc (.cells #[.int .i64 0, .int .i64 0, .int .i64 0, .slice none 0 0] 46)).heap[N]? = some (enO 0 0 0 (.slice none 0 0)) := by rw [← hN]; exact heap_alloc_last wd _
      try rw [hN]
      generalize World.alloc _ _ = wd1 at hb1 hs1 hz1 ⊢
      refine hK.out _ _ hb1 (fun _ => ?_)
      clear hK K
      refine wpAnyH_ready (rs := [12, 14]) (by kernel_rfl) (by simp) ?_
      refine AllReadyH.cons (i := 12) rfl ?_ ?_
      · go_simp
        intro K hK
        have hb2 := hb1.alloc (show w3.heap.size ≤ _ from hb1.size) (.cells #[.int .i64 0, .int .i64 0, .int .i64 0, .slice none 0 0] 46)
        have hs2 : (wd1.alloc (.cells #[.int .i64 0, .int .i64 0, .int .i64 0, .slice none 0 0] 46)).heap.size = N + 1 + 1 := by rw [World.size_alloc, hs1]
        have hz2 : (wd1.alloc (.cells #[.int .i64 0, .int .i64 0, .int .i64 0, .slice none 0 0] 46)).heap[N + 1]? = some (enO 0 0 0 (.slice none 0 0)) := by rw [← hs1]; exact heap_alloc_last wd1 _
        replace hz1 := (Below.heap_alloc wd1 (.cells #[.int .i64 0, .int .i64 0, .int .i64 0, .slice none 0 0] 46) (N) (by rw [hs1]; omega)).trans hz1
        try rw [hs1]
        generalize World.alloc _ _ = wd2 at hb2 hs2 hz1 hz2 ⊢
        refine hK.out _ _ hb2 (fun _ => ?_)
        clear hK K
        refine wpAnyH_ready (rs := [14]) (by kernel_rfl) (by simp) ?_
        refine AllReadyH.cons (i := 14) rfl ?_ AllReadyH.nil
        go_simp
        intro K hK
        have hb3 := hb2.alloc (show w3.heap.size ≤ _ from hb2.size) (.cells #[.int .i64 0, .int .i64 0, .int .i64 0, .slice none 0 0] 46)
        have hs3 : (wd2.alloc (.cells #[.int .i64 0, .int .i64 0, .int .i64 0, .slice none 0 0] 46)).heap.size = N + 1 + 1 + 1 := by rw [World.size_alloc, hs2]
        have hz3 : (wd2.alloc (.cells #[.int .i64 0, .int .i64 0, .int .i64 0, .slice none 0 0] 46)).heap[N + 1 + 1]? = some (enO 0 0 0 (.slice none 0 0)) := by rw [← hs2]; exact heap_alloc_last wd2 _
        replace hz1 := (Below.heap_alloc wd2 (.cells #[.int .i64 0, .int .i64 0, .int .i64 0, .slice none 0 0] 46) (N) (by rw [hs2]; omega)).trans hz1
        replace hz2 := (Below.heap_alloc wd2 (.cells #[.int .i64 0, .int .i64 0, .int .i64 0, .slice none 0 0] 46) (N + 1) (by rw [hs2]; omega)).trans hz2
        try rw [hs2]
        generalize World.alloc _ _ = wd3 at hb3 hs3 hz1 hz2 hz3 ⊢
        refine hK.out _ _ hb3 (fun _ => ?_)
        clear hK K
        refine wpAnyH_ready (rs := [15]) (by kernel_rfl) (by simp) ?_
        refine AllReadyH.cons (i := 15) rfl ?_ AllReadyH.nil
        have c0 := cell_of_row _ _ 0 _ _ _ hz2
        have c1 := cell_of_row _ _ 1 _ _ _ hz2
        have c2 := cell_of_row _ _ 2 _ _ _ hz2
        have c3 := cell_of_row _ _ 3 _ _ _ hz2
        have fz0 := frozen_new hz2 0
        have fz1 := frozen_new hz2 1
        have fz2 := frozen_new hz2 2
        have fz3 := frozen_new hz2 3
        simp at c0 c1 c2 c3
        go_simp
        intro K hK
        have hbS := below_putE hb3 (show w3.heap.size ≤ N + 1 by omega) 0 1 4 (.slice x3 2 x5)
        have hn2 := putE_same hz2 0 1 4 (.slice x3 2 x5)
        replace hz1 := putE_other hz1 (show N ≠ N + 1 by omega) 0 1 4 (.slice x3 2 x5)
        replace hz3 := putE_other hz3 (show N + 1 + 1 ≠ N + 1 by omega) 0 1 4 (.slice x3 2 x5)
        refine hK.out _ _ hbS (fun _ => ?_)
        clear hK K c0 c1 c2 c3 fz0 fz1 fz2 fz3
        dsimp only [putE] at hbS hn2 hz1 hz3
        generalize (((World.setCell _ _ _).setCell _ _).setCell _ _).setCell _ _ = ws0 at hbS hn2 hz1 hz3 ⊢
        refine wpAnyH_ready (rs := [16]) (by kernel_rfl) (by simp) ?_
        refine AllReadyH.cons (i := 16) rfl ?_ AllReadyH.nil
        have c0 := cell_of_row _ _ 0 _ _ _ hz1
        have c1 := cell_of_row _ _ 1 _ _ _ hz1
        have c2 := cell_of_row _ _ 2 _ _ _ hz1
        have c3 := cell_of_row _ _ 3 _ _ _ hz1
        have fz0 := frozen_new hz1 0
        have fz1 := frozen_new hz1 1
        have fz2 := frozen_new hz1 2
        have fz3 := frozen_new hz1 3
        simp at c0 c1 c2 c3
        go_simp
        intro K hK
        have hbS := below_putE hbS (show w3.heap.size ≤ N by omega) 0 3 3 (.slice y3 1 y5)
        have hn1 := putE_same hz1 0 3 3 (.slice y3 1 y5)
        replace hn2 := putE_other hn2 (show N + 1 ≠ N by omega) 0 3 3 (.slice y3 1 y5)
        replace hz3 := putE_other hz3 (show N + 1 + 1 ≠ N by omega) 0 3 3 (.slice y3 1 y5)
        refine hK.out _ _ hbS (fun _ => ?_)
        clear hK K c0 c1 c2 c3 fz0 fz1 fz2 fz3
        dsimp only [putE] at hbS hn2 hn1 hz3
        generalize (((World.setCell _ _ _).setCell _ _).setCell _ _).setCell _ _ = ws1 at hbS hn2 hn1 hz3 ⊢
        refine wpAnyH_ready (rs := [17]) (by kernel_rfl) (by simp) ?_
        refine AllReadyH.cons (i := 17) rfl ?_ AllReadyH.nil
        have c0 := cell_of_row _ _ 0 _ _ _ hz3
        have c1 := cell_of_row _ _ 1 _ _ _ hz3
        have c2 := cell_of_row _ _ 2 _ _ _ hz3
        have c3 := cell_of_row _ _ 3 _ _ _ hz3
        have fz0 := frozen_new hz3 0
        have fz1 := frozen_new hz3 1
        have fz2 := frozen_new hz3 2
        have fz3 := frozen_new hz3 3
        simp at c0 c1 c2 c3
        go_simp
        intro K hK
        have hbS := below_putE hbS (show w3.heap.size ≤ N + 1 + 1 by omega) 1 1 2 (.slice z3 1 z5)
        have hn3 := putE_same hz3 1 1 2 (.slice z3 1 z5)
        replace hn2 := putE_other hn2 (show N + 1 ≠ N + 1 + 1 by omega) 1 1 2 (.slice z3 1 z5)
        replace hn1 := putE_other hn1 (show N ≠ N + 1 + 1 by omega) 1 1 2 (.slice z3 1 z5)
        refine hK.out _ _ hbS (fun _ => ?_)
        clear hK K c0 c1 c2 c3 fz0 fz1 fz2 fz3
        dsimp only [putE] at hbS hn2 hn1 hn3
        generalize (((World.setCell _ _ _).setCell _ _).setCell _ _).setCell _ _ = ws2 at hbS hn2 hn1 hn3 ⊢
        refine wpAnyH_done (by kernel_rfl) ?_ _
        go_wp2_with fail
        go_meet
        exact ⟨⟨_, rfl, hn2⟩, ⟨_, rfl, hn1⟩, ⟨_, rfl, hn3⟩, hbS⟩
      refine AllReadyH.cons (i := 14) rfl ?_ AllReadyH.nil
      go_simp
      intro K hK
      have hb2 := hb1.alloc (show w3.heap.size ≤ _ from hb1.size) (.cells #[.int .i64 0, .int .i64 0, .int .i64 0, .slice none 0 0] 46)
      have hs2 : (wd1.alloc (.cells #[.int .i64 0, .int .i64 0, .int .i64 0, .slice none 0 0] 46)).heap.size = N + 1 + 1 := by rw [World.size_alloc, hs1]
      have hz2 : (wd1.alloc (.cells #[.int .i64 0, .int .i64 0, .int .i64 0, .slice none 0 0] 46)).heap[N + 1]? = some (enO 0 0 0 (.slice none 0 0)) := by rw [← hs1]; exact heap_alloc_last wd1 _
      replace hz1 := (Below.heap_alloc wd1 (.cells #[.int .i64 0, .int .i64 0, .int .i64 0, .slice none 0 0] 46) (N) (by rw [hs1]; omega)).trans hz1
      try rw [hs1]
      generalize World.alloc _ _ = wd2 at hb2 hs2 hz1 hz2 ⊢
      refine hK.out _ _ hb2 (fun _ => ?_)
      clear hK K
      refine wpAnyH_ready (rs := [12]) (by kernel_rfl) (by simp) ?_
      refine AllReadyH.cons (i := 12) rfl ?_ AllReadyH.nil
      go_simp
      intro K hK
      have hb3 := hb2.alloc (show w3.heap.size ≤ _ from hb2.size) (.cells #[.int .i64 0, .int .i64 0, .int .i64 0, .slice none 0 0] 46)
      have hs3 : (wd2.alloc (.cells #[.int .i64 0, .int .i64 0, .int .i64 0, .slice none 0 0] 46)).heap.size = N + 1 + 1 + 1 := by rw [World.size_alloc, hs2]
      have hz3 : (wd2.alloc (.cells #[.int .i64 0, .int .i64 0, .int .i64 0, .slice none 0 0] 46)).heap[N + 1 + 1]? = some (enO 0 0 0 (.slice none 0 0)) := by rw [← hs2]; exact heap_alloc_last wd2 _
      replace hz1 := (Below.heap_alloc wd2 (.cells #[.int .i64 0, .int .i64 0, .int .i64 0, .slice none 0 0] 46) (N) (by rw [hs2]; omega)).trans hz1
      replace hz2 := (Below.heap_alloc wd2 (.cells #[.int .i64 0, .int .i64 0, .int .i64 0, .slice none 0 0] 46) (N + 1) (by rw [hs2]; omega)).trans hz2
      try rw [hs2]
      generalize World.alloc _ _ = wd3 at hb3 hs3 hz1 hz2 hz3 ⊢
      refine hK.out _ _ hb3 (fun _ => ?_)
      clear hK K
      refine wpAnyH_ready (rs := [15]) (by kernel_rfl) (by simp) ?_
      refine AllReadyH.cons (i := 15) rfl ?_ AllReadyH.nil
      have c0 := cell_of_row _ _ 0 _ _ _ hz3
      have c1 := cell_of_row _ _ 1 _ _ _ hz3
      have c2 := cell_of_row _ _ 2 _ _ _ hz3
      have c3 := cell_of_row _ _ 3 _ _ _ hz3
      have fz0 := frozen_new hz3 0
      have fz1 := frozen_new hz3 1
      have fz2 := frozen_new hz3 2
      have fz3 := frozen_new hz3 3
      simp at c0 c1 c2 c3
      go_simp
      intro K hK
      have hbS := below_putE hb3 (show w3.heap.size ≤ N + 1 + 1 by omega) 0 1 4 (.slice x3 2 x5)
      have hn3 := putE_same hz3 0 1 4 (.slice x3 2 x5)
      replace hz1 := putE_other hz1 (show N ≠ N + 1 + 1 by omega) 0 1 4 (.slice x3 2 x5)
      replace hz2 := putE_other hz2 (show N + 1 ≠ N + 1 + 1 by omega) 0 1 4 (.slice x3 2 x5)
      refine hK.out _ _ hbS (fun _ => ?_)
      clear hK K c0 c1 c2 c3 fz0 fz1 fz2 fz3
      dsimp only [putE] at hbS hn3 hz1 hz2
      generalize (((World.setCell _ _ _).setCell _ _).setCell _ _).setCell _ _ = ws0 at hbS hn3 hz1 hz2 ⊢
      refine wpAnyH_ready (rs := [16]) (by kernel_rfl) (by simp) ?_
      refine AllReadyH.cons (i := 16) rfl ?_ AllReadyH.nil
      have c0 := cell_of_row _ _ 0 _ _ _ hz1
      have c1 := cell_of_row _ _ 1 _ _ _ hz1
      have c2 := cell_of_row _ _ 2 _ _ _ hz1
      have c3 := cell_of_row _ _ 3 _ _ _ hz1
      have fz0 := frozen_new hz1 0
      have fz1 := frozen_new hz1 1
      have fz2 := frozen_new hz1 2
      have fz3 := frozen_new hz1 3
      simp at c0 c1 c2 c3
      go_simp
      intro K hK
      have hbS := below_putE hbS (show w3.heap.size ≤ N by omega) 0 3 3 (.slice y3 1 y5)
      have hn1 := putE_same hz1 0 3 3 (.slice y3 1 y5)
      replace hn3 := putE_other hn3 (show N + 1 + 1 ≠ N by omega) 0 3 3 (.slice y3 1 y5)
      replace hz2 := putE_other hz2 (show N + 1 ≠ N by omega) 0 3 3 (.slice y3 1 y5)
      refine hK.out _ _ hbS (fun _ => ?_)
      clear hK K c0 c1 c2 c3 fz0 fz1 fz2 fz3
      dsimp only [putE] at hbS hn3 hn1 hz2
      generalize (((World.setCell _ _ _).setCell _ _).setCell _ _).setCell _ _ = ws1 at hbS hn3 hn1 hz2 ⊢
      refine wpAnyH_ready (rs := [17]) (by kernel_rfl) (by simp) ?_
      refine AllReadyH.cons (i := 17) rfl ?_ AllReadyH.nil
      have c0 := cell_of_row _ _ 0 _ _ _ hz2
      have c1 := cell_of_row _ _ 1 _ _ _ hz2
      have c2 := cell_of_row _ _ 2 _ _ _ hz2
      have c3 := cell_of_row _ _ 3 _ _ _ hz2
      have fz0 := frozen_new hz2 0
      have fz1 := frozen_new hz2 1
      have fz2 := frozen_new hz2 2
      have fz3 := frozen_new hz2 3
      simp at c0 c1 c2 c3
      go_simp
      intro K hK
      have hbS := below_putE hbS (show w3.heap.size ≤ N + 1 by omega) 1 1 2 (.slice z3 1 z5)
      have hn2 := putE_same hz2 1 1 2 (.slice z3 1 z5)
      replace hn3 := putE_other hn3 (show N + 1 + 1 ≠ N + 1 by omega) 1 1 2 (.slice z3 1 z5)
      replace hn1 := putE_other hn1 (show N ≠ N + 1 by omega) 1 1 2 (.slice z3 1 z5)
      refine hK.out _ _ hbS (fun _ => ?_)
      clear hK K c0 c1 c2 c3 fz0 fz1 fz2 fz3
      dsimp only [putE] at hbS hn3 hn1 hn2
      generalize (((World.setCell _ _ _).setCell _ _).setCell _ _).setCell _ _ = ws2 at hbS hn3 hn1 hn2 ⊢
      refine wpAnyH_done (by kernel_rfl) ?_ _
      go_wp2_with fail
      go_meet
      exact ⟨⟨_, rfl, hn3⟩, ⟨_, rfl, hn1⟩, ⟨_, rfl, hn2⟩, hbS⟩
    refine AllReadyH.cons (i := 14) rfl ?_ AllReadyH.nil
    go_simp
    intro K hK
    have hb1 := hd0.alloc (show w3.heap.size ≤ _ from hd0.size) (.cells #[.int .i64 0, .int .i64 0, .int .i64 0, .slice none 0 0] 46)
    have hs1 : (wd.alloc (.cells #[.int .i64 0, .int .i64 0, .int .i64 0, .slice none 0 0] 46)).heap.size = N + 1 := by rw [World.size_alloc, hN]
    have hz1 : (wd.alloc (.cells #[.int .i64 0, .int .i64 0, .int .i64 0, .slice none 0 0] 46)).heap[N]? = some (enO 0 0 0 (.slice none 0 0)) := by rw [← hN]; exact heap_alloc_last wd _
    try rw [hN]
    generalize World.alloc _ _ = wd1 at hb1 hs1 hz1 ⊢
    refine hK.out _ _ hb1 (fun _ => ?_)
    clear hK K
    refine wpAnyH_ready (rs := [12, 13]) (by kernel_rfl) (by simp) ?_
    refine AllReadyH.cons (i := 12) rfl ?_ ?_
    · go_simp
      intro K hK
      have hb2 := hb1.alloc (show w3.heap.size ≤ _ from hb1.size) (.cells #[.int .i64 0, .int .i64 0, .int .i64 0, .slice none 0 0] 46)
      have hs2 : (wd1.alloc (.cells #[.int .i64 0, .int .i64 0, .int .i64 0, .slice none 0 0] 46)).heap.size = N + 1 + 1 := by rw [World.size_alloc, hs1]
      have hz2 : (wd1.alloc (.cells #[.int .i64 0, .int .i64 0, .int .i64 0, .slice none 0 0] 46)).heap[N + 1]? = some (enO 0 0 0 (.slice none 0 0)) := by rw [← hs1]; exact heap_alloc_last wd1 _
      replace hz1 := (Below.heap_alloc wd1 (.cells #[.int .i64 0, .int .i64 0, .int .i64 0, .slice none 0 0] 46) (N) (by rw [hs1]; omega)).trans hz1
      try rw [hs1]
      generalize World.alloc _ _ = wd2 at hb2 hs2 hz1 hz2 ⊢
      refine hK.out _ _ hb2 (fun _ => ?_)
      clear hK K
      refine wpAnyH_ready (rs := [13]) (by kernel_rfl) (by simp) ?_
      refine AllReadyH.cons (i := 13) rfl ?_ AllReadyH.nil
      go_simp
      intro K hK
      have hb3 := hb2.alloc (show w3.heap.size ≤ _ from hb2.size) (.cells #[.int .i64 0, .int .i64 0, .int .i64 0, .slice none 0 0] 46)
      have hs3 : (wd2.alloc (.cells #[.int .i64 0, .int .i64 0, .int .i64 0, .slice none 0 0] 46)).heap.size = N + 1 + 1 + 1 := by rw [World.size_alloc, hs2]
      have hz3 : (wd2.alloc (.cells #[.int .i64 0, .int .i64 0, .int .i64 0, .slice none 0 0] 46)).heap[N + 1 + 1]? = some (enO 0 0 0 (.slice none 0 0)) := by rw [← hs2]; exact heap_alloc_last wd2 _
      replace hz1 := (Below.heap_alloc wd2 (.cells #[.int .i64 0, .int .i64 0, .int .i64 0, .slice none 0 0] 46) (N) (by rw [hs2]; omega)).trans hz1
      replace hz2 := (Below.heap_alloc wd2 (.cells #[.int .i64 0, .int .i64 0, .int .i64 0, .slice none 0 0] 46) (N + 1) (by rw [hs2]; omega)).trans hz2
      try rw [hs2]
      generalize World.alloc _ _ = wd3 at hb3 hs3 hz1 hz2 hz3 ⊢
      refine hK.out _ _ hb3 (fun _ => ?_)
      clear hK K
      refine wpAnyH_ready (rs := [15]) (by kernel_rfl) (by simp) ?_
      refine AllReadyH.cons (i := 15) rfl ?_ AllReadyH.nil
      have c0 := cell_of_row _ _ 0 _ _ _ hz2
      have c1 := cell_of_row _ _ 1 _ _ _ hz2
      have c2 := cell_of_row _ _ 2 _ _ _ hz2
      have c3 := cell_of_row _ _ 3 _ _ _ hz2
      have fz0 := frozen_new hz2 0
      have fz1 := frozen_new hz2 1
      have fz2 := frozen_new hz2 2
      have fz3 := frozen_new hz2 3
      simp at c0 c1 c2 c3
      go_simp
      intro K hK
      have hbS := below_putE hb3 (show w3.heap.size ≤ N + 1 by omega) 0 1 4 (.slice x3 2 x5)
      have hn2 := putE_same hz2 0 1 4 (.slice x3 2 x5)
      replace hz3 := putE_other hz3 (show N + 1 + 1 ≠ N + 1 by omega) 0 1 4 (.slice x3 2 x5)
      replace hz1 := putE_other hz1 (show N ≠ N + 1 by omega) 0 1 4 (.slice x3 2 x5)
      refine hK.out _ _ hbS (fun _ => ?_)
      clear hK K c0 c1 c2 c3 fz0 fz1 fz2 fz3
      dsimp only [putE] at hbS hn2 hz3 hz1
      generalize (((World.setCell _ _ _).setCell _ _).setCell _ _).setCell _ _ = ws0 at hbS hn2 hz3 hz1 ⊢
      refine wpAnyH_ready (rs := [16]) (by kernel_rfl) (by simp) ?_
      refine AllReadyH.cons (i := 16) rfl ?_ AllReadyH.nil
      have c0 := cell_of_row _ _ 0 _ _ _ hz3
      have c1 := cell_of_row _ _ 1 _ _ _ hz3
      have c2 := cell_of_row _ _ 2 _ _ _ hz3
      have c3 := cell_of_row _ _ 3 _ _ _ hz3
      have fz0 := frozen_new hz3 0
      have fz1 := frozen_new hz3 1
      have fz2 := frozen_new hz3 2
      have fz3 := frozen_new hz3 3
      simp at c0 c1 c2 c3
      go_simp
      intro K hK
      have hbS := below_putE hbS (show w3.heap.size ≤ N + 1 + 1 by omega) 0 3 3 (.slice y3 1 y5)
      have hn3 := putE_same hz3 0 3 3 (.slice y3 1 y5)
      replace hn2 := putE_other hn2 (show N + 1 ≠ N + 1 + 1 by omega) 0 3 3 (.slice y3 1 y5)
      replace hz1 := putE_other hz1 (show N ≠ N + 1 + 1 by omega) 0 3 3 (.slice y3 1 y5)
      refine hK.out _ _ hbS (fun _ => ?_)
      clear hK K c0 c1 c2 c3 fz0 fz1 fz2 fz3
      dsimp only [putE] at hbS hn2 hn3 hz1
      generalize (((World.setCell _ _ _).setCell _ _).setCell _ _).setCell _ _ = ws1 at hbS hn2 hn3 hz1 ⊢
      refine wpAnyH_ready (rs := [17]) (by kernel_rfl) (by simp) ?_
      refine AllReadyH.cons (i := 17) rfl ?_ AllReadyH.nil
      have c0 := cell_of_row _ _ 0 _ _ _ hz1
      have c1 := cell_of_row _ _ 1 _ _ _ hz1
      have c2 := cell_of_row _ _ 2 _ _ _ hz1
      have c3 := cell_of_row _ _ 3 _ _ _ hz1
      have fz0 := frozen_new hz1 0
      have fz1 := frozen_new hz1 1
      have fz2 := frozen_new hz1 2
      have fz3 := frozen_new hz1 3
      simp at c0 c1 c2 c3
      go_simp
      intro K hK
      have hbS := below_putE hbS (show w3.heap.size ≤ N by omega) 1 1 2 (.slice z3 1 z5)
      have hn1 := putE_same hz1 1 1 2 (.slice z3 1 z5)
      replace hn2 := putE_other hn2 (show N + 1 ≠ N by omega) 1 1 2 (.slice z3 1 z5)
      replace hn3 := putE_other hn3 (show N + 1 + 1 ≠ N by omega) 1 1 2 (.slice z3 1 z5)
      refine hK.out _ _ hbS (fun _ => ?_)
      clear hK K c0 c1 c2 c3 fz0 fz1 fz2 fz3
      dsimp only [putE] at hbS hn2 hn3 hn1
      generalize (((World.setCell _ _ _).setCell _ _).setCell _ _).setCell _ _ = ws2 at hbS hn2 hn3 hn1 ⊢
      refine wpAnyH_done (by kernel_rfl) ?_ _
      go_wp2_with fail
      go_meet
      exact ⟨⟨_, rfl, hn2⟩, ⟨_, rfl, hn3⟩, ⟨_, rfl, hn1⟩, hbS⟩
    refine AllReadyH.cons (i := 13) rfl ?_ AllReadyH.nil
    go_simp
    intro K hK
    have hb2 := hb1.alloc (show w3.heap.size ≤ _ from hb1.size) (.cells #[.int .i64 0, .int .i64 0, .int .i64 0, .slice none 0 0] 46)
    have hs2 : (wd1.alloc (.cells #[.int .i64 0, .int .i64 0, .int .i64 0, .slice none 0 0] 46)).heap.size = N + 1 + 1 := by rw [World.size_alloc, hs1]
    have hz2 : (wd1.alloc (.cells #[.int .i64 0, .int .i64 0, .int .i64 0, .slice none 0 0] 46)).heap[N + 1]? = some (enO 0 0 0 (.slice none 0 0)) := by rw [← hs1]; exact heap_alloc_last wd1 _
    replace hz1 := (Below.heap_alloc wd1 (.cells #[.int .i64 0, .int .i64 0, .int .i64 0, .slice none 0 0] 46) (N) (by rw [hs1]; omega)).trans hz1
    try rw [hs1]
    generalize World.alloc _ _ = wd2 at hb2 hs2 hz1 hz2 ⊢
    refine hK.out _ _ hb2 (fun _ => ?_)
    clear hK K
    refine wpAnyH_ready (rs := [12]) (by kernel_rfl) (by simp) ?_
    refine AllReadyH.cons (i := 12) rfl ?_ AllReadyH.nil
    go_simp
    intro K hK
    have hb3 := hb2.alloc (show w3.heap.size ≤ _ from hb2.size) (.cells #[.int .i64 0, .int .i64 0, .int .i64 0, .slice none 0 0] 46)
    have hs3 : (wd2.alloc (.cells #[.int .i64 0, .int .i64 0, .int .i64 0, .slice none 0 0] 46)).heap.size = N + 1 + 1 + 1 := by rw [World.size_alloc, hs2]
    have hz3 : (wd2.alloc (.cells #[.int .i64 0, .int .i64 0, .int .i64 0, .slice none 0 0] 46)).heap[N + 1 + 1]? = some (enO 0 0 0 (.slice none 0 0)) := by rw [← hs2]; exact heap_alloc_last wd2 _
    replace hz1 := (Below.heap_alloc wd2 (.cells #[.int .i64 0, .int .i64 0, .int .i64 0, .slice none 0 0] 46) (N) (by rw [hs2]; omega)).trans hz1
    replace hz2 := (Below.heap_alloc wd2 (.cells #[.int .i64 0, .int .i64 0, .int .i64 0, .slice none 0 0] 46) (N + 1) (by rw [hs2]; omega)).trans hz2
    try rw [hs2]
    generalize World.alloc _ _ = wd3 at hb3 hs3 hz1 hz2 hz3 ⊢
    refine hK.out _ _ hb3 (fun _ => ?_)
    clear hK K
    refine wpAnyH_ready (rs := [15]) (by kernel_rfl) (by simp) ?_
    refine AllReadyH.cons (i := 15) rfl ?_ AllReadyH.nil
    have c0 := cell_of_row _ _ 0 _ _ _ hz3
    have c1 := cell_of_row _ _ 1 _ _ _ hz3
    have c2 := cell_of_row _ _ 2 _ _ _ hz3
    have c3 := cell_of_row _ _ 3 _ _ _ hz3
    have fz0 := frozen_new hz3 0
    have fz1 := frozen_new hz3 1
    have fz2 := frozen_new hz3 2
    have fz3 := frozen_new hz3 3
    simp at c0 c1 c2 c3
    go_simp
    intro K hK
    have hbS := below_putE hb3 (show w3.heap.size ≤ N + 1 + 1 by omega) 0 1 4 (.slice x3 2 x5)
    have hn3 := putE_same hz3 0 1 4 (.slice x3 2 x5)
    replace hz2 := putE_other hz2 (show N + 1 ≠ N + 1 + 1 by omega) 0 1 4 (.slice x3 2 x5)
    replace hz1 := putE_other hz1 (show N ≠ N + 1 + 1 by omega) 0 1 4 (.slice x3 2 x5)
    refine hK.out _ _ hbS (fun _ => ?_)
    clear hK K c0 c1 c2 c3 fz0 fz1 fz2 fz3
    dsimp only [putE] at hbS hn3 hz2 hz1
    generalize (((World.setCell _ _ _).setCell _ _).setCell _ _).setCell _ _ = ws0 at hbS hn3 hz2 hz1 ⊢
    refine wpAnyH_ready (rs := [16]) (by kernel_rfl) (by simp) ?_
    refine AllReadyH.cons (i := 16) rfl ?_ AllReadyH.nil
    have c0 := cell_of_row _ _ 0 _ _ _ hz2
    have c1 := cell_of_row _ _ 1 _ _ _ hz2
    have c2 := cell_of_row _ _ 2 _ _ _ hz2
    have c3 := cell_of_row _ _ 3 _ _ _ hz2
    have fz0 := frozen_new hz2 0
    have fz1 := frozen_new hz2 1
    have fz2 := frozen_new hz2 2
    have fz3 := frozen_new hz2 3
    simp at c0 c1 c2 c3
    go_simp
    intro K hK
    have hbS := below_putE hbS (show w3.heap.size ≤ N + 1 by omega) 0 3 3 (.slice y3 1 y5)
    have hn2 := putE_same hz2 0 3 3 (.slice y3 1 y5)
    replace hn3 := putE_other hn3 (show N + 1 + 1 ≠ N + 1 by omega) 0 3 3 (.slice y3 1 y5)
    replace hz1 := putE_other hz1 (show N ≠ N + 1 by omega) 0 3 3 (.slice y3 1 y5)
    refine hK.out _ _ hbS (fun _ => ?_)
    clear hK K c0 c1 c2 c3 fz0 fz1 fz2 fz3
    dsimp only [putE] at hbS hn3 hn2 hz1
    generalize (((World.setCell _ _ _).setCell _ _).setCell _ _).setCell _ _ = ws1 at hbS hn3 hn2 hz1 ⊢
    refine wpAnyH_ready (rs := [17]) (by kernel_rfl) (by simp) ?_
    refine AllReadyH.cons (i := 17) rfl ?_ AllReadyH.nil
    have c0 := cell_of_row _ _ 0 _ _ _ hz1
    have c1 := cell_of_row _ _ 1 _ _ _ hz1
    have c2 := cell_of_row _ _ 2 _ _ _ hz1
    have c3 := cell_of_row _ _ 3 _ _ _ hz1
    have fz0 := frozen_new hz1 0
    have fz1 := frozen_new hz1 1
    have fz2 := frozen_new hz1 2
    have fz3 := frozen_new hz1 3
    simp at c0 c1 c2 c3
    go_simp
    intro K hK
    have hbS := below_putE hbS (show w3.heap.size ≤ N by omega) 1 1 2 (.slice z3 1 z5)
    have hn1 := putE_same hz1 1 1 2 (.slice z3 1 z5)
    replace hn3 := putE_other hn3 (show N + 1 + 1 ≠ N by omega) 1 1 2 (.slice z3 1 z5)
    replace hn2 := putE_other hn2 (show N + 1 ≠ N by omega) 1 1 2 (.slice z3 1 z5)
    refine hK.out _ _ hbS (fun _ => ?_)
    clear hK K c0 c1 c2 c3 fz0 fz1 fz2 fz3
    dsimp only [putE] at hbS hn3 hn2 hn1
    generalize (((World.setCell _ _ _).setCell _ _).setCell _ _).setCell _ _ = ws2 at hbS hn3 hn2 hn1 ⊢
    refine wpAnyH_done (by kernel_rfl) ?_ _
    go_wp2_with fail
    go_meet
    exact ⟨⟨_, rfl, hn3⟩, ⟨_, rfl, hn2⟩, ⟨_, rfl, hn1⟩, hbS⟩
  case rest =>
    obtain ⟨⟨bx, rfl, hx⟩, ⟨by', rfl, hy⟩, ⟨bz, rfl, hz⟩, hbel⟩ := hcut
    have HBc := hidIn (HB3.out.trans (hbel.mono HB3.out.size))
    have x0' := cell_of_row wc bx 0 _ _ _ hx
    have x1' := cell_of_row wc bx 1 _ _ _ hx
    have x2' := cell_of_row wc bx 2 _ _ _ hx
    have x3' := cell_of_row wc bx 3 _ _ _ hx
    have y0' := cell_of_row wc by' 0 _ _ _ hy
    have y1' := cell_of_row wc by' 1 _ _ _ hy
    have y2' := cell_of_row wc by' 2 _ _ _ hy
    have y3' := cell_of_row wc by' 3 _ _ _ hy
    have z0' := cell_of_row wc bz 0 _ _ _ hz
    have z1' := cell_of_row wc bz 1 _ _ _ hz
    have z2' := cell_of_row wc bz 2 _ _ _ hz
    have z3' := cell_of_row wc bz 3 _ _ _ hz
    simp at x0' x1' x2' x3' y0' y1' y2' y3' z0' z1' z2' z3'
    clear hx hy hz hbel t0 t1 t2 t3 e0 e1 e2 e3 f0 f1 f2 f3 g0 g1 g2 g3
    go_wp2_with fail
    go_ret
    exact ⟨rfl, HBc.out⟩
end Go.Proofs.YtgeoghhajjlofaaGreatDoor
namespace Go.Proofs.YtgeoghhajjlofaaGreatDoor
open Go.RowKit

abbrev lc13 (x : Ed) : List Value := [.int .u8 x.1, .int .u8 x.2.1, .int .u8 x.2.2]
theorem SlAt.lk13 {w : World} {v : Value} {l : List Ed} (h : SlAt lc13 3 w v l) : ∃ a cap, v = .slice a l.length cap ∧ l.length ≤ 9223372036854775807 ∧ l.length ≤ cap ∧ (0 < l.length → ∃ bk o, a = some ⟨bk, o, none⟩ ∧ bk < w.heap.size ∧ ∀ j x, l[j]? = some x → w.cell? ⟨bk, o + j * 3, none⟩ = some (.int .u8 x.1) ∧ w.cell? ⟨bk, o + j * 3 + 1, none⟩ = some (.int .u8 x.2.1) ∧ w.cell? ⟨bk, o + j * 3 + 2, none⟩ = some (.int .u8 x.2.2)) := by
  obtain ⟨a, cap, rfl, hl, hc, h⟩ := h
  refine ⟨a, cap, rfl, hl, hc, fun h0 => ?_⟩
  obtain ⟨bk, o, rfl, hb, h⟩ := h h0
  exact ⟨bk, o, rfl, hb, fun j x hx => ⟨h j x hx 0 _ rfl, h j x hx 1 _ rfl, h j x hx 2 _ rfl⟩⟩
def LkB13 (L : List Ed) : Prop := ∀ x ∈ L, (0 ≤ x.1 ∧ x.1 ≤ 255) ∧ (0 ≤ x.2.1 ∧ x.2.1 ≤ 255) ∧ 0 ≤ x.2.2 ∧ x.2.2 ≤ 255
/-- The table of costs in memory. -/
def tc8 (c : Nat → Int) : List Value := (List.range 64).map fun i => .int .i64 (c i)
theorem tc8_len (c : Nat → Int) : (tc8 c).length = 64 := by simp [tc8]
theorem tc8_get (c : Nat → Int) {n : Nat} (h : n < 64) : (tc8 c)[n]? = some (.int .i64 (c n)) := by simp [tc8, List.getElem?_range h]
theorem tc8_set (c : Nat → Int) {n : Nat} (_h : n < 64) (v : Int) : (tc8 c).set n (.int .i64 v) = tc8 (putV c n v) := by
  apply List.ext_getElem?
  intro j
  rw [List.getElem?_set]
  by_cases hj : j < 64
  · rw [tc8_get _ hj, tc8_get _ hj, tc8_len]
    unfold putV
    by_cases hn : n = j
    · rw [if_pos hn, if_pos (by omega), if_pos hn.symm]
    · rw [if_neg hn, if_neg (fun h => hn h.symm)]
  · rw [List.getElem?_eq_none (by rw [tc8_len]; omega), List.getElem?_eq_none (by rw [tc8_len]; omega), tc8_len]
    by_cases hn : n = j
    · omega
    · rw [if_neg hn]
theorem make_t8 (w : World) : (Instr.makeSlice 39 (.int .i64 64) (.int .i64 64)).run Tryz.prog w = .ok (.slice (some ⟨w.heap.size, 0, none⟩) 64 64) (w.alloc (.cells (tc8 fun _ => 0).toArray 3)) := by kernel_rfl
theorem append_recT {W : World} {base k : Nat} {u : Value} {l : List (Rc × Value)} (hr : W.ownsRow base 73 6 u k (fl rcc l)) (x : Rc × Value) (hx : x.2.oneCell' = true) (hk : (k + 1) * 56 ≤ 140737488355328) (hbase : base ≤ W.heap.size) :
    ∃ g cap w6, (Builtin.append_ #[33, 33] 33 #[u, .slice (some ⟨W.heap.size, 0, none⟩) 1 1]).run Tryz.prog (W.alloc (.cells (rcc x).toArray 73)) = .ok (.slice (some ⟨g, 0, none⟩) (k + 1) cap) w6 ∧
      w6.ownsRow base 73 6 (.slice (some ⟨g, 0, none⟩) (k + 1) cap) (k + 1) (fl rcc (l ++ [x])) ∧ Below base W w6 ∧ Fr (fun j => ∃ cur, W.heap[j]? = some (.cells cur 73)) W w6 := by
  obtain ⟨i0, hi, hz0, hz1, hz2⟩ := info_parts infoRec
  obtain ⟨g, cap, w6, hrun, hown, hgrow, _, _⟩ := run_append_lies (P := Tryz.prog) (W.alloc (.cells (rcc x).toArray 73)) 33 33 base 73 i0 _ 6 56 Tryz.underlying33 hi hz0 hz1 hz2 rfl (by decide) u k (fl rcc l) (hr.alloc _) ⟨W.heap.size, 0, none⟩ 1 1 (rcc x) rfl (fun j v hv => by
    rw [Addr.add_mid, Nat.zero_add, cell_of_row _ _ j (rcc x).toArray 73 (0, 0) (heap_alloc_last W _)]
    simpa using hv) (by simp only [rcc, List.mem_cons, List.not_mem_nil, or_false]; rintro u (rfl | rfl | rfl | rfl | rfl | rfl) <;> first | rfl | exact hx) (by omega) (by unfold maxLen; omega) hk (by simp; omega) (W.heap.size + 1) (by simp)
  refine ⟨g, cap, w6, hrun, by rw [fl_snoc]; exact hown, ?_, ?_⟩
  · exact ((Below.refl _ W).alloc hbase _).grown hgrow (by simp; omega) (fun j e => by
      rcases hr.2 with ⟨rfl, _⟩ | ⟨g', cap', cur, rfl, hb, _⟩
      · simp [Value.ownBlock] at e
      · simp [Value.ownBlock] at e; omega)
  · refine ⟨hgrow.os, hgrow.tape, hgrow.output, Nat.le_trans (by simp) hgrow.size, fun j hj hn => ?_⟩
    rw [hgrow.block j (by simp; omega) (fun e => ?_), Below.heap_alloc _ _ _ hj]
    rcases hr.2 with ⟨rfl, _⟩ | ⟨g', cap', cur, rfl, hb, hh, _⟩
    · simp [Value.ownBlock] at e
    · simp [Value.ownBlock] at e
      subst e
      exact hn ⟨cur, hh⟩
/-- Records with neighbours of their own. -/
structure RwAt (B : Nat) (w : World) (u : Value) (l : List (Rc × Value)) : Prop where
  r : w.ownsRow B 73 6 u l.length (fl rcc l)
  a : ∀ x ∈ l, w.ownsRow B 75 2 x.2 x.1.adjs.length (fl ac x.1.adjs)
theorem RwAt.recs {B : Nat} {w : World} {u : Value} {l : List (Rc × Value)} (h : RwAt B w u l) : RecsAt w u l := ⟨slAt_of_row (cs := rcc) (fun _ => rfl) h.r rfl, fun x hx => slAt_of_row (cs := ac) (fun _ => rfl) (h.a x hx) rfl⟩
theorem RwAt.keep {B : Nat} {w w' : World} {u : Value} {l : List (Rc × Value)} (h : RwAt B w u l) (hb : Below w.heap.size w w') : RwAt B w' u l := ⟨row_below h.r hb (Nat.le_refl _), fun x hx => row_below (h.a x hx) hb (Nat.le_refl _)⟩
theorem RwAt.low {B C : Nat} {w : World} {u : Value} {l : List (Rc × Value)} (h : RwAt B w u l) (hb : C ≤ B) : RwAt C w u l := ⟨row_low h.r hb, fun x hx => row_low (h.a x hx) hb⟩
theorem row_offR {w w' : World} {base k size : Nat} {u : Value} {xs : List Value} (hr : w.ownsRow base 75 size u k xs) (hF : Fr (fun j => ∃ cur, w.heap[j]? = some (.cells cur 73)) w w') : w'.ownsRow base 75 size u k xs :=
  row_fr hr hF fun j hj ⟨cur, ej⟩ => by
    rcases hr.2 with ⟨h1, _⟩ | ⟨g, cap, cur', h1, _, hg, _⟩
    · rw [h1] at hj; simp [Value.ownBlock] at hj
    · rw [h1] at hj; simp [Value.ownBlock] at hj
      rw [hj, ej] at hg
      simp at hg
theorem row_one {w : World} {base k size : Nat} {e : TypeId} {u : Value} {xs : List Value} (hr : w.ownsRow base e size u k xs) : u.oneCell' = true := by
  rcases hr.2 with ⟨rfl, _⟩ | ⟨g, cap, cur, rfl, _⟩ <;> rfl
/-- One record more. -/
theorem RwAt.more {B : Nat} {w : World} {u : Value} {l : List (Rc × Value)} (h : RwAt B w u l) {x : Rc × Value} (hx : w.ownsRow B 75 2 x.2 x.1.adjs.length (fl ac x.1.adjs)) (hl : l.length ≤ 1000) (hB : B ≤ w.heap.size) :
    ∃ g cap w6, (Builtin.append_ #[33, 33] 33 #[u, .slice (some ⟨w.heap.size, 0, none⟩) 1 1]).run Tryz.prog (w.alloc (.cells (rcc x).toArray 73)) = .ok (.slice (some ⟨g, 0, none⟩) (l.length + 1) cap) w6 ∧
      RwAt B w6 (.slice (some ⟨g, 0, none⟩) (l.length + 1) cap) (l ++ [x]) ∧ Below B w w6 := by
  obtain ⟨g, cap, w6, h1, h2, h3, h4⟩ := append_recT h.r x (row_one hx) (by omega) hB
  refine ⟨g, cap, w6, h1, ⟨by rw [List.length_append]; exact h2, fun y hy => ?_⟩, h3⟩
  rcases List.mem_append.1 hy with hy | hy
  · exact row_offR (h.a y hy) h4
  · rw [List.mem_singleton.1 hy]; exact row_offR hx h4
/-- The world's blocks: the claims, the table. -/
structure WoM (w wr : World) (vs : List Value) (c : Nat → Int) : Prop where
  k : Arr wr w.heap.size 23 vs
  t : Arr wr (w.heap.size + 1) 3 (tc8 c)
  b : Below w.heap.size w wr
theorem WoM.drewN {w wr : World} {vs : List Value} {c : Nat → Int} (h : WoM w wr vs c) (n : Nat) : WoM w (wr.drewN n) vs c := ⟨h.k, h.t, ⟨h.b.os, h.b.tape, h.b.output, h.b.size, h.b.block⟩⟩
theorem WoM.put {w wr : World} {vs : List Value} {c : Nat → Int} (h : WoM w wr vs c) {i : Nat} (hi : i < 64) (v : Int) : WoM w (wr.setCell ⟨w.heap.size + 1, i, none⟩ (.int .i64 v)) vs (putV c i v) :=
  ⟨h.k.other (by show w.heap.size ≠ w.heap.size + 1; omega) _, by rw [← tc8_set c hi]; exact h.t.set i _, h.b.setCell (p := ⟨w.heap.size + 1, i, none⟩) (Nat.le_succ _) _⟩
theorem WoM.keep {w wr wz : World} {vs : List Value} {c : Nat → Int} (h : WoM w wr vs c) {B : Nat} (hb : Below B wr wz) (hB : w.heap.size + 2 ≤ B) : WoM w wz vs c :=
  ⟨h.k.keep hb (by omega), h.t.keep hb (by omega), h.b.trans (hb.mono (by omega))⟩
/-- One router's record while it is gathered. -/
structure RgM (wr wz : World) (gb : Nat) (r : Rc) (s : Value) : Prop where
  g : wz.heap[gb]? = some (recO r s)
  a : wz.ownsRow (gb + 1) 75 2 s r.adjs.length (fl ac r.adjs)
  b : Below gb wr wz
theorem RgM.add {wr wz : World} {gb : Nat} {r : Rc} {s : Value} (h : RgM wr wz gb r s) (x : Int × Int) (hl : r.adjs.length ≤ 1000) :
    ∃ g cap w6, (Builtin.append_ #[71, 71] 71 #[s, .slice (some ⟨wz.heap.size, 0, none⟩) 1 1]).run Tryz.prog (wz.alloc (.cells (ac x).toArray 75)) = .ok (.slice (some ⟨g, 0, none⟩) (r.adjs.length + 1) cap) w6 ∧
      w6.cell? ⟨gb, 5, none⟩ = some s ∧ w6.frozen? ⟨gb, 5, none⟩ = false ∧ Below (gb + 1) wz w6 ∧ RgM wr (w6.setCell ⟨gb, 5, none⟩ (.slice (some ⟨g, 0, none⟩) (r.adjs.length + 1) cap)) gb { r with adjs := r.adjs ++ [x] } (.slice (some ⟨g, 0, none⟩) (r.adjs.length + 1) cap) := by
  have hs := block_lt h.g
  obtain ⟨g, cap, w6, hrun, hown, _, _, hb⟩ := append_adj h.a x (by omega) (by omega)
  have hg6 : w6.heap[gb]? = some (recO r s) := (hb.block _ (Nat.lt_succ_self _)).trans h.g
  have hF := (Fr.refl (fun k => k = gb) w6).set (p := ⟨gb, 5, none⟩) rfl (.slice (some ⟨g, 0, none⟩) (r.adjs.length + 1) cap)
  refine ⟨g, cap, w6, hrun, cell_of_row _ _ 5 _ _ _ hg6, frozen_new hg6 5, hb, ?_, ?_, ?_⟩
  · have := heap_setCell_same w6 gb 5 _ _ (.slice (some ⟨g, 0, none⟩) (r.adjs.length + 1) cap) hg6
    simpa using this
  · rw [List.length_append]
    exact row_fr hown hF (fun j hj e => by have := (hown.lt j hj).1; omega)
  · exact (h.b.trans (hb.mono (by omega))).setCell (p := ⟨gb, 5, none⟩) (Nat.le_refl _) _
theorem RgM.drew {wr wz : World} {gb : Nat} {r : Rc} {s : Value} (h : RgM wr wz gb r s) : RgM wr wz.drew gb r s := ⟨h.g, row_fr h.a (Fr.refl (fun _ => False) wz).drew (fun _ _ h => h), h.b.drew⟩
/-- Seven claims. -/
abbrev c7 (cs : List Int) : List Value := cs.map fun x => .int .u8 x
/-- What world answers. -/
def WldAns (w w' : World) (rs : List Rc) (e : Ending) : Prop := ∃ u l, e = .returned u ∧ rcs l = rs ∧ RwAt w.heap.size w' u l
set_option maxRecDepth 100000 in
set_option maxHeartbeats 8000000 in
theorem world_any {L : List Ed} {v : Value} {cs : List Int} {w : World} (h : SlAt lc13 3 w v L) (hL : LkB13 L) (hc : cs.length = 7) (hcb : ∀ x ∈ cs, 0 ≤ x ∧ x ≤ 255) :
    Calls Tryz.prog 5 #[v, .agg (c7 cs).toArray] w fun e w' => WldAns w w' (wRs (wTb (L.take 12)) (fun i => cs.getD i 0 % 20) 7) e ∧ Below w.heap.size w w' := by
  obtain ⟨la, lcap, rfl, hll, _, hlc⟩ := h.lk13
  have Hlc := hidIn hlc
  have HL := hidIn hL
  clear hlc h hL
  have hmk := make_t8
  obtain ⟨W1, hW1⟩ : ∃ W1, (w.alloc (.cells (c7 cs).toArray 23)).alloc (.cells (tc8 fun _ => 0).toArray 3) = W1 := ⟨_, rfl⟩
  have HM0 : Hid (WoM w W1 (c7 cs) (wTb [])) := hidIn (by
    rw [← hW1]
    refine ⟨?_, ?_, ((Below.refl _ w).alloc (Nat.le_refl _) _).alloc (by simp) _⟩
    · show (World.heap _)[w.heap.size]? = _
      rw [Below.heap_alloc _ _ _ (by simp)]
      exact heap_alloc_last w _
    · have := heap_alloc_last (w.alloc (.cells (c7 cs).toArray 23)) (.cells (tc8 fun _ => 0).toArray 3)
      rw [World.size_alloc] at this
      exact this)
  obtain ⟨x0, x1, x2, x3, x4, x5, x6, rfl⟩ : ∃ x0 x1 x2 x3 x4 x5 x6, cs = [x0, x1, x2, x3, x4, x5, x6] := by
    match cs, hc with
    | [x0, x1, x2, x3, x4, x5, x6], _ => exact ⟨x0, x1, x2, x3, x4, x5, x6, rfl⟩
  obtain ⟨cs, hcs⟩ : ∃ cs, [x0, x1, x2, x3, x4, x5, x6] = cs := ⟨_, rfl⟩
  rw [hcs] at HM0
  have HW : Hid ((w.alloc (.cells #[.int .u8 x0, .int .u8 x1, .int .u8 x2, .int .u8 x3, .int .u8 x4, .int .u8 x5, .int .u8 x6] 23)).alloc (.cells (tc8 fun _ => 0).toArray 3) = W1) := hidIn hW1
  have Hcb : Hid (∀ x ∈ cs, 0 ≤ x ∧ x ≤ 255) := hidIn (by rw [← hcs]; exact hcb)
  have Hcl : Hid (cs.length = 7) := hidIn (by rw [← hcs]; rfl)
  have Hcs := hidIn hcs
  clear hW1 hc hcb hcs
  go_enter Tryz.func5, Tryz.ntmps5
  go_upto_region 2 with fail
  rw [HW.out]
  clear HW hmk
  go_wp2_with fail
  go_loopw [6] (fun i wr => ∃ k : Nat, k ≤ 12 ∧ k ≤ L.length ∧ i = .int .i64 k ∧ Hid (WoM w wr (c7 cs) (wTb (L.take k)))) (fun i _ => 12 - (intOf i).toNat)
  case atStart => exact ⟨0, by omega, Nat.zero_le _, rfl, HM0⟩
  case round =>
    clear HM0
    obtain ⟨k, hk12, hk, rfl, HR⟩ := hrel
    by_cases hlt : k < L.length ∧ k < 12
    · obtain ⟨hlt, hlt12⟩ := hlt
      obtain ⟨bk, o, rfl, hbk, hcell⟩ := Hlc.out (by omega)
      obtain ⟨⟨x, y, z⟩, hx⟩ : ∃ z, L[k]? = some z := ⟨L[k], List.getElem?_eq_getElem hlt⟩
      obtain ⟨q0, q1, q2⟩ := hcell k _ hx
      have c0 := (HR.out.b.cell (p := ⟨bk, o + k * 3, none⟩) hbk).trans q0
      have c1 := (HR.out.b.cell (p := ⟨bk, o + k * 3 + 1, none⟩) hbk).trans q1
      have c2 := (HR.out.b.cell (p := ⟨bk, o + k * 3 + 2, none⟩) hbk).trans q2
      simp only at c0 c1 c2
      obtain ⟨⟨hx0, hx1⟩, ⟨hy0, hy1⟩, hz0, hz1⟩ := HL.out _ (List.mem_of_getElem? hx)
      simp only at hx0 hx1 hy0 hy1 hz0 hz1
      obtain ⟨X, rfl⟩ : ∃ X : Nat, x = (X : Int) := ⟨x.toNat, by omega⟩
      obtain ⟨Y, rfl⟩ : ∃ Y : Nat, y = (Y : Int) := ⟨y.toNat, by omega⟩
      obtain ⟨Z, rfl⟩ : ∃ Z : Nat, z = (Z : Int) := ⟨z.toNat, by omega⟩
      have HT : Hid (wTb (L.take (k + 1)) = wLk (wTb (L.take k)) ((X : Int), (Y : Int), (Z : Int))) := hidIn (by rw [take_snoc hx, wTb_snoc])
      obtain ⟨C, hC⟩ : ∃ C, wTb (L.take k) = C := ⟨_, rfl⟩
      rw [hC] at HR HT
      clear hC hx hcell q0 q1 q2
      obtain ⟨a, ha⟩ : ∃ a, X % 7 = a := ⟨_, rfl⟩
      obtain ⟨b, hb⟩ : ∃ b, Y % 7 = b := ⟨_, rfl⟩
      have han : a < 7 := by omega
      have hbn : b < 7 := by omega
      have mX : (X : Int).tmod 7 = (a : Int) := by rw [← ha, Int.tmod_eq_emod_of_nonneg (by omega)]; rfl
      have mY : (Y : Int).tmod 7 = (b : Int) := by rw [← hb, Int.tmod_eq_emod_of_nonneg (by omega)]; rfl
      have HT2 : Hid (wTb (L.take (k + 1)) = if a ≠ b then putV (putV C (8 * a + b) (1 + (Z : Int) % 4)) (8 * b + a) (1 + (Z : Int) % 4) else C) := hidIn (by rw [HT.out]; unfold wLk; simp only [Int.toNat_natCast]; rw [ha, hb])
      have hki : (k : Int) < (L.length : Int) := by omega
      have hki2 : (k : Int) < 12 := by omega
      clear HT ha hb hx0 hy0 hz0 hx1 hy1
      go_upto_region 5 with fail
      go_quiet (fail)
      clear c0 c1 mX mY
      generalize hV : World.drewN wr _ = V
      have hM : WoM w V (c7 cs) C := by rw [← hV]; exact HR.out.drewN _
      have e2 : V.cell? ⟨bk, o + k * 3 + 2, none⟩ = some (.int .u8 (Z : Int)) := by rw [← hV]; exact c2
      have HM := hidIn hM
      have t0 := hM.t.cell (8 * a + b)
      rw [tc8_get _ (by omega)] at t0
      have tf0 := hM.t.frozen (8 * a + b)
      have hbw : bk ≠ w.heap.size + 1 := by omega
      have hai : (a : Int) < 7 := by omega
      have hbi : (b : Int) < 7 := by omega
      clear hV hM HR c2
      by_cases hab : a = b
      · have hd : ((a : Int) != (b : Int)) = false := by rw [hab]; simp
        have HE : Hid (wTb (L.take (k + 1)) = C) := hidIn (by rw [HT2.out, if_neg (fun h => h hab)])
        clear hab t0 tf0 e2
        go_wp2_with fail
        go_roundw
        case rel => exact ⟨k + 1, by omega, by omega, by go_num, hidIn (by rw [HE.out]; exact HM.out)⟩
        case measure => simp [intOf]; omega
      have hd : ((a : Int) != (b : Int)) = true := by simp; omega
      have HE : Hid (wTb (L.take (k + 1)) = putV (putV C (8 * a + b) (1 + (Z : Int) % 4)) (8 * b + a) (1 + (Z : Int) % 4)) := hidIn (by rw [HT2.out, if_pos hab])
      obtain ⟨z, hz⟩ : ∃ z, Z % 4 = z := ⟨_, rfl⟩
      have hz5 : z < 4 := by omega
      have mZ : (Z : Int).tmod 4 = (z : Int) := by rw [← hz, Int.tmod_eq_emod_of_nonneg (by omega)]; rfl
      have HZ : Hid (1 + (Z : Int) % 4 = 1 + (z : Int)) := hidIn (by rw [← hz]; rfl)
      rw [HZ.out] at HE
      clear hz hz1
      have h64 : 8 * a + b < 64 := by omega
      have h64' : 8 * b + a < 64 := by omega
      have hi64 : 8 * (a : Int) + (b : Int) < 64 := by omega
      have hi64' : 8 * (b : Int) + (a : Int) < 64 := by omega
      go_upto_region 7 with fail
      go_upto_region 8 with fail
      have hM2 := HM.out.put h64 (1 + (z : Int))
      generalize World.setCell _ _ _ = V2 at hM2 ⊢
      have HM2 := hidIn hM2
      have s0 := hM2.t.cell (8 * a + b)
      rw [tc8_get _ h64, putV_same] at s0
      have s1 := hM2.t.cell (8 * b + a)
      rw [tc8_get _ h64'] at s1
      have sf1 := hM2.t.frozen (8 * b + a)
      clear hM2 t0 tf0 e2 mZ HM
      go_wp2_with fail
      go_roundw
      case rel => exact ⟨k + 1, by omega, by omega, by go_num, hidIn (by rw [HE.out]; exact HM2.out.put h64' _)⟩
      case measure => simp [intOf]; omega
    · have hni : ¬ ((k : Int) < (L.length : Int) ∧ (k : Int) < 12) := by omega
      have HT : Hid (WoM w wr (c7 cs) (wTb (L.take 12))) := hidIn (by
        have := HR.out
        rw [show L.take k = L.take 12 from by
          by_cases h : k = 12
          · rw [h]
          · rw [List.take_of_length_le (by omega), List.take_of_length_le (by omega)]] at this
        exact this)
      clear HR
      have HCok : Hid (WtOk (wTb (L.take 12))) := hidIn (wTb_ok _)
      obtain ⟨C, hC⟩ : ∃ C, wTb (L.take 12) = C := ⟨_, rfl⟩
      rw [hC] at HT HCok
      have HC12 := hidIn hC
      clear hC
      go_upto_region 3 with fail
      go_cut [21] (fun c wx => c = .bool false ∧ wx = wr)
      case first =>
        by_cases h1 : k < L.length
        · have h1i : (k : Int) < (L.length : Int) := by omega
          have h2i : ¬ (k : Int) < 12 := by omega
          clear hlt hni
          go_wp2_with fail
          go_meet
          exact ⟨rfl, rfl⟩
        · have h1i : ¬ (k : Int) < (L.length : Int) := by omega
          clear hlt hni
          go_wp2_with fail
          go_meet
          exact ⟨rfl, rfl⟩
      case rest =>
        obtain ⟨rfl, hwc⟩ := hcut
        rw [hwc]
        clear hwc wc hlt hni
        obtain ⟨f, hf⟩ : ∃ f : Nat → Int, (fun i => cs.getD i 0 % 20) = f := ⟨_, rfl⟩
        have Hf := hidIn hf
        clear hf
        go_wp2_with fail
        go_loopw [9, 10] (fun ov i wz => ∃ (a : Nat) (oa : Option Addr) (oc : Nat), a ≤ 7 ∧ i = .int .i64 a ∧ ov = .slice oa a oc ∧ Hid (∃ l : List (Rc × Value), l.length = a ∧ rcs l = wRs C f a ∧ WoM w wz (c7 cs) C ∧ RwAt (w.heap.size + 2) wz (.slice oa a oc) l)) (fun _ i _ => 7 - (intOf i).toNat)
        case atStart => exact ⟨0, none, 0, by omega, rfl, rfl, hidIn ⟨[], rfl, rfl, HT.out, ⟨World.ownsRow_nil _ _ _ _, fun _ hx => absurd hx List.not_mem_nil⟩⟩⟩
        case round =>
          clear HT
          obtain ⟨a, oa, oc, ha, rfl, rfl, HR⟩ := hrel
          obtain ⟨l, hla, hrs, hM, hRw⟩ := HR.out
          clear HR
          by_cases hlt : a < 7
          · have hai : (a : Int) < 7 := by omega
            obtain ⟨x, hx⟩ : ∃ x, cs[a]? = some x := ⟨cs[a]'(by have := Hcl.out; omega), List.getElem?_eq_getElem _⟩
            obtain ⟨hx0, hx1⟩ := Hcb.out x (List.mem_of_getElem? hx)
            obtain ⟨X, rfl⟩ : ∃ X : Nat, x = (X : Int) := ⟨x.toNat, by omega⟩
            have k0 := hM.k.cell a
            rw [List.getElem?_map, hx] at k0
            simp only [Option.map_some] at k0
            obtain ⟨xr, hxr⟩ : ∃ xr, X % 20 = xr := ⟨_, rfl⟩
            have hxr20 : xr < 20 := by omega
            have mX : (X : Int).tmod 20 = (xr : Int) := by rw [← hxr, Int.tmod_eq_emod_of_nonneg (by omega)]; rfl
            have HF : Hid (f a = (xr : Int)) := hidIn (by rw [← Hf.out]; simp only [List.getD_eq_getElem?_getD, hx, Option.getD_some]; omega)
            obtain ⟨W2, hW2⟩ : ∃ W2, wr.alloc (.cells #[.int .i64 ((a : Int) + 1), .int .u32 1, .int .u32 1, .int .i64 (xr : Int), .bool false, .slice none 0 0] 73) = W2 := ⟨_, rfl⟩
            obtain ⟨gb, hgb⟩ : ∃ gb, wr.heap.size = gb := ⟨_, rfl⟩
            have HG0 : Hid (RgM wr W2 gb ⟨(a : Int) + 1, 1, 1, (xr : Int), false, wAd C a 0⟩ (.slice none 0 0)) := hidIn (by
              refine ⟨by rw [← hW2, ← hgb]; exact heap_alloc_last wr _, World.ownsRow_nil _ _ _ _, by rw [← hW2, ← hgb]; exact (Below.refl _ wr).alloc (Nat.le_refl _) _⟩)
            have HM := hidIn hM
            have HRw := hidIn hRw
            have Hrs := hidIn hrs
            have Hla := hidIn hla
            have Hgb := hidIn hgb
            have Hgw : Hid (w.heap.size + 2 ≤ gb) := hidIn (by rw [← hgb]; have := hM.t.lt; omega)
            have HW2 := hidIn hW2
            have hkw : w.heap.size < wr.heap.size := by have := hM.t.lt; omega
            clear hW2 hgb hM hRw hx hxr hx0 hx1 hrs hla
            go_upto_region 14 with fail
            rw [HW2.out, Hgb.out]
            clear HW2 hkw k0 mX
            go_wp2_with fail
            go_loopw [12] (fun i wz => ∃ b : Nat, b ≤ 7 ∧ i = .int .i64 b ∧ Hid (∃ s, RgM wr wz gb ⟨(a : Int) + 1, 1, 1, (xr : Int), false, wAd C a b⟩ s)) (fun i _ => 7 - (intOf i).toNat)
            case atStart => exact ⟨0, by omega, rfl, hidIn ⟨_, HG0.out⟩⟩
            case round =>
              clear HG0
              obtain ⟨b, hb, rfl, HR⟩ := hrel
              obtain ⟨s, hG⟩ := HR.out
              clear HR
              by_cases hlt2 : b < 7
              · have hbi : (b : Int) < 7 := by omega
                have h64 : 8 * a + b < 64 := by omega
                have hi64 : 8 * (a : Int) + (b : Int) < 64 := by omega
                have hT := HM.out.t.keep hG.b (show w.heap.size + 1 < gb by have := Hgw.out; omega)
                have t0 := hT.cell (8 * a + b)
                rw [tc8_get _ h64] at t0
                have hrl := wAd_len C a b
                have HRS := hidIn (wAd_succ C a b)
                have HG := hidIn hG
                have hgs := block_lt hG.g
                have hts := hT.lt
                have d5 := cell_of_row _ _ 5 _ _ _ hG.g
                simp at d5
                clear hG hT
                obtain ⟨cv, hcv⟩ : ∃ cv, C (8 * a + b) = cv := ⟨_, rfl⟩
                rw [hcv] at t0 HRS
                clear hcv
                by_cases hc : 0 < cv
                · rw [if_pos hc] at HRS
                  obtain ⟨g2, cap2, w7, hrun, k1, k2, kt, h3⟩ := HG.out.drew.add ((b : Int) + 1, cv) (by simp only; omega)
                  have HRun := hidIn hrun
                  have H3 := hidIn h3
                  have hT7 := cell_regrown t0
                  have t7 : w7.cell? ⟨w.heap.size + 1, 8 * a + b, none⟩ = some (.int .i64 cv) := (kt.cell (p := ⟨w.heap.size + 1, 8 * a + b, none⟩) (show w.heap.size + 1 < gb + 1 by have := Hgw.out; omega)).trans t0
                  clear hrun h3 kt hT7
                  go_upto_region 18 with fail
                  have hw1 : IntKind.i64.wrap (8 * (a : Int)) = 8 * (a : Int) := by rw [IntKind.wrap_i64]; omega
                  have hw2 : IntKind.i64.wrap (8 * (a : Int) + (b : Int)) = 8 * (a : Int) + (b : Int) := by rw [IntKind.wrap_i64]; omega
                  have hw4 : IntKind.i64.wrap ((b : Int) + 1) = (b : Int) + 1 := by rw [IntKind.wrap_i64]; omega
                  have hw5 : (8 * (a : Int) + (b : Int)).toNat = 8 * a + b := by omega
                  have hw6 : 0 ≤ 8 * (a : Int) + (b : Int) := by omega
                  go_region_law ((refine step_append rfl (.tmp 93) (.tmp 104) 71 rfl (by kernel_rfl) (by kernel_rfl) HRun.out ?_))
                  all_goals
                    go_wp2_with fail
                    go_roundw
                    case rel => exact ⟨b + 1, by omega, by go_num, hidIn ⟨_, by rw [HRS.out]; exact H3.out⟩⟩
                    case measure => simp [intOf]; omega
                · rw [if_neg hc, List.append_nil] at HRS
                  clear d5
                  go_wp2_with fail
                  go_roundw
                  case rel => exact ⟨b + 1, by omega, by go_num, hidIn ⟨s, by rw [HRS.out]; exact HG.out⟩⟩
                  case measure => simp [intOf]; omega
              · have hbi : ¬ (b : Int) < 7 := by omega
                have hb7 : b = 7 := by omega
                rw [hb7] at hG
                clear hb7
                obtain ⟨sa, sc, rfl⟩ := row_shape hG.a
                have hM3 := HM.out.keep hG.b Hgw.out
                have hRw3 : RwAt (w.heap.size + 2) wr (.slice oa a oc) l := by
                  have hbz := hG.b
                  rw [← Hgb.out] at hbz
                  exact HRw.out.keep hbz
                have hsz : gb < wr.heap.size := block_lt hG.g
                have d0 := cell_of_row _ _ 0 _ _ _ hG.g
                have d1 := cell_of_row _ _ 1 _ _ _ hG.g
                have d2 := cell_of_row _ _ 2 _ _ _ hG.g
                have d3 := cell_of_row _ _ 3 _ _ _ hG.g
                have d4 := cell_of_row _ _ 4 _ _ _ hG.g
                have d5 := cell_of_row _ _ 5 _ _ _ hG.g
                simp at d0 d1 d2 d3 d4 d5
                obtain ⟨ad, had⟩ : ∃ ad, wAd C a 7 = ad := ⟨_, rfl⟩
                have HRc : Hid (wRc C f a = ⟨(a : Int) + 1, 1, 1, (xr : Int), false, ad⟩) := hidIn (by unfold wRc; rw [HF.out, had])
                rw [had] at hG d5
                clear had
                have hla := Hla.out
                rw [← hla] at hRw3
                obtain ⟨g9, gc9, w9, hrun, hR9, hb9⟩ := hRw3.more (x := (⟨(a : Int) + 1, 1, 1, (xr : Int), false, ad⟩, .slice sa ad.length sc)) (row_low hG.a (by have := Hgw.out; omega)) (by omega) (by have := Hgw.out; omega)
                rw [hla] at hrun hR9
                have HM9 := hidIn (hM3.keep hb9 (Nat.le_refl _))
                have HRun := hidIn hrun
                have HR9 := hidIn hR9
                have HRs : Hid (rcs (l ++ [(⟨(a : Int) + 1, 1, 1, (xr : Int), false, ad⟩, .slice sa ad.length sc)]) = wRs C f (a + 1)) := hidIn (by rw [wRs_succ, ← Hrs.out, HRc.out]; simp [rcs])
                have HL9 : Hid ((l ++ [((⟨(a : Int) + 1, 1, 1, (xr : Int), false, ad⟩ : Rc), (.slice sa ad.length sc : Value))]).length = a + 1) := hidIn (by rw [List.length_append, hla]; rfl)
                clear hM3 hRw3 hrun hR9 hb9 hG hla
                go_wp2_with (refine l_append rfl _ _ 33 rfl HRun.out ?_)
                go_roundw
                case rel => exact ⟨a + 1, by omega, by go_num, _, gc9, ⟨rfl, rfl, rfl⟩, hidIn ⟨_, HL9.out, HRs.out, HM9.out, HR9.out⟩⟩
                case measure => simp [intOf]; omega
          · have hai : ¬ (a : Int) < 7 := by omega
            have ha7 : a = 7 := by omega
            have HE : Hid (WldAns w wr (wRs (wTb (L.take 12)) (fun i => [x0, x1, x2, x3, x4, x5, x6].getD i 0 % 20) 7) (.returned (.slice oa a oc)) ∧ Below w.heap.size w wr) := hidIn (by
              refine ⟨⟨_, l, rfl, ?_, hRw.low (by omega)⟩, hM.b⟩
              rw [HC12.out, Hcs.out, hrs, ← Hf.out, ha7])
            clear ha7 hM hRw hrs hla
            go_wp2_with fail
            go_ret
            exact HE.out
end Go.Proofs.YtgeoghhajjlofaaGreatDoor
namespace Go.Proofs.YtgeoghhajjlofaaGreatDoor
open Go.RowKit

abbrev toE (x : En) : Et := (x.1.1, x.1.2.1, x.1.2.2.1, x.2)
abbrev enV (x : Rw) : Value := .agg #[.int .i64 x.1, .int .i64 x.2.1, .int .i64 x.2.2.1, rwS x]
theorem toT_get {es : List En} {k : Nat} {x : En} (h : es[k]? = some x) : (toT es)[k]? = some (toE x) := by rw [toT, List.getElem?_map, h]; rfl
end Go.Proofs.YtgeoghhajjlofaaGreatDoor
namespace Go.Proofs.YtgeoghhajjlofaaGreatDoor
open Go.RowKit

/-- What is told of records: the id of one's own, the entries. -/
def oT (self : Int) (W : List Rr) (rs : List Rc) : Int := ownT self (toldW W (freeT (allC (rs.filter fun x => (ofW W x.origin).isSome))))
def eT (self : Int) (wd : Nat) (W : List Rr) (rs : List Rc) : List Et := entsT self wd (toldW W (freeT (allC (rs.filter fun x => (ofW W x.origin).isSome))))
theorem ans16 {w w' : World} {l : List (Rc × Value)} {self : Int} {e : Ending} (h : BldAns w w' l self 16 e) (hl : bothOk no1 (rcs l) = true) :
    ∃ W es a c, WaysIs l self W ∧ e = .returned (.tuple #[tbV self 16 (oT self W (rcs l)) (.slice a es.length c), .int .i64 0]) ∧ toT es = eT self 16 W (rcs l) ∧ EnAt w' (.slice a es.length c) es := by
  obtain ⟨W, u, h1, h2, h3⟩ := h.told hl
  rw [show ((16 : Nat) : Int) = 16 from rfl] at h2
  obtain ⟨es, h4, h5⟩ := h3.at
  obtain ⟨a, c, rfl, _⟩ := h5.op
  exact ⟨W, es, a, c, h1, h2, h4, h5⟩
theorem wRs_facts {c C : Nat → Int} {n : Nat} : (∀ r ∈ wRs c C 7, r.origin ≤ 7) ∧ (∀ r ∈ wRs c C 7, ∀ x ∈ r.adjs, x.1 ≤ 7) ∧ (n < 7 → ∃ r ∈ wRs c C 7, r.origin = (n : Int) + 1) := by
  refine ⟨fun r hr => ?_, fun r hr x hx => ?_, fun hn => ⟨wRc c C n, wRs_mem.2 ⟨n, hn, rfl⟩, rfl⟩⟩
  · obtain ⟨a, ha, rfl⟩ := wRs_mem.1 hr
    show (a : Int) + 1 ≤ 7
    omega
  · obtain ⟨a, ha, rfl⟩ := wRs_mem.1 hr
    obtain ⟨b, hb, _, rfl⟩ := wAd_mem.1 hx
    show (b : Int) + 1 ≤ 7
    omega
theorem rev_get {α : Type} {l : List α} {k : Nat} (h : k < l.length) : l.reverse[k]? = l[l.length - 1 - k]? := List.getElem?_reverse h
end Go.Proofs.YtgeoghhajjlofaaGreatDoor
namespace Go.Proofs.YtgeoghhajjlofaaGreatDoor
open Go

/-- A number xor itself moved down. -/
def xsh (s x : Nat) : Nat := x ^^^ (x / 2 ^ s)
def mx0 (e m : Nat) : Nat := e ^^^ (m * 2654435761 % 4294967296)
def mx1 (x : Nat) : Nat := xsh 16 x
def mx2 (x : Nat) : Nat := x * 2246822507 % 4294967296
def mx3 (x : Nat) : Nat := xsh 13 x
def mx4 (x : Nat) : Nat := x * 3266489909 % 4294967296
/-- The rank of a number below 2^32. -/
def mixN (e m : Nat) : Nat := mx1 (mx4 (mx3 (mx2 (mx1 (mx0 e m)))))
/-- The rank of a number. -/
def mix (e : Nat) (n : Int) : Nat := mixN e (n % 4294967296).toNat

theorem xsh_lt {s x : Nat} (h : x < 4294967296) : xsh s x < 4294967296 := Nat.xor_lt_two_pow (n := 32) h (Nat.lt_of_le_of_lt (Nat.div_le_self _ _) h)
theorem mx0_lt {e m : Nat} (h : e < 4294967296) : mx0 e m < 4294967296 := Nat.xor_lt_two_pow (n := 32) h (Nat.mod_lt _ (by decide))
theorem mx2_lt (x : Nat) : mx2 x < 4294967296 := Nat.mod_lt _ (by decide)
theorem mx4_lt (x : Nat) : mx4 x < 4294967296 := Nat.mod_lt _ (by decide)
theorem mix_lt (e : Nat) (n : Int) : mix e n < 4294967296 := xsh_lt (mx4_lt _)
theorem div_xor (a b s : Nat) : (a ^^^ b) / 2 ^ s = (a / 2 ^ s) ^^^ (b / 2 ^ s) := by
  apply Nat.eq_of_testBit_eq
  intro j
  rw [Nat.testBit_div_two_pow, Nat.testBit_xor, Nat.testBit_xor, Nat.testBit_div_two_pow, Nat.testBit_div_two_pow]
theorem big_shift {x s : Nat} (h : x < 4294967296) (hs : 32 ≤ s) : x / 2 ^ s = 0 :=
  Nat.div_eq_of_lt (Nat.lt_of_lt_of_le h (show 2 ^ 32 ≤ 2 ^ s from Nat.pow_le_pow_right (by decide) hs))
theorem div_div_pow (x a b : Nat) : x / 2 ^ a / 2 ^ b = x / 2 ^ (a + b) := by rw [Nat.div_div_eq_div_mul, Nat.pow_add]
theorem xsh16_twice {x : Nat} (h : x < 4294967296) : xsh 16 (xsh 16 x) = x := by
  unfold xsh
  rw [div_xor, div_div_pow, big_shift h (show 32 ≤ 16 + 16 by decide), Nat.xor_zero, Nat.xor_assoc, Nat.xor_self, Nat.xor_zero]
theorem xsh16_inj {x y : Nat} (hx : x < 4294967296) (hy : y < 4294967296) (h : xsh 16 x = xsh 16 y) : x = y := by rw [← xsh16_twice hx, ← xsh16_twice hy, h]
theorem xsh13_back {x : Nat} (h : x < 4294967296) : xsh 13 x ^^^ (xsh 13 x / 2 ^ 13) ^^^ (xsh 13 x / 2 ^ 26) = x := by
  unfold xsh
  rw [div_xor, div_xor, div_div_pow, div_div_pow, big_shift h (show 32 ≤ 13 + 26 by decide), Nat.xor_zero, Nat.xor_assoc x, ← Nat.xor_assoc (x / 2 ^ 13), Nat.xor_self, Nat.zero_xor, Nat.xor_assoc, Nat.xor_self, Nat.xor_zero]
theorem xsh13_inj {x y : Nat} (hx : x < 4294967296) (hy : y < 4294967296) (h : xsh 13 x = xsh 13 y) : x = y := by rw [← xsh13_back hx, ← xsh13_back hy, h]
theorem mul_inj {c d x y : Nat} (hcd : c * d % 4294967296 = 1) (hx : x < 4294967296) (hy : y < 4294967296) (h : x * c % 4294967296 = y * c % 4294967296) : x = y := by
  have k : ∀ z : Nat, z < 4294967296 → z * c % 4294967296 * d % 4294967296 = z := fun z hz => by
    rw [Nat.mul_mod, Nat.mod_mod, ← Nat.mul_mod, Nat.mul_assoc, Nat.mul_mod, hcd, Nat.mul_one, Nat.mod_mod, Nat.mod_eq_of_lt hz]
  rw [← k x hx, ← k y hy, h]
theorem xor_inj {e a b : Nat} (h : e ^^^ a = e ^^^ b) : a = b := by
  have : e ^^^ (e ^^^ a) = e ^^^ (e ^^^ b) := by rw [h]
  rwa [← Nat.xor_assoc, ← Nat.xor_assoc, Nat.xor_self, Nat.zero_xor, Nat.zero_xor] at this
theorem mixN_inj {e a b : Nat} (he : e < 4294967296) (ha : a < 4294967296) (hb : b < 4294967296) (h : mixN e a = mixN e b) : a = b := by
  have h1 := xsh16_inj (mx4_lt _) (mx4_lt _) h
  have h2 := mul_inj (d := 2127672349) (by decide) (xsh_lt (mx2_lt _)) (xsh_lt (mx2_lt _)) h1
  have h3 := xsh13_inj (mx2_lt _) (mx2_lt _) h2
  have h4 := mul_inj (d := 2781581891) (by decide) (xsh_lt (mx0_lt he)) (xsh_lt (mx0_lt he)) h3
  have h5 := xsh16_inj (mx0_lt he) (mx0_lt he) h4
  exact mul_inj (d := 244002641) (by decide) ha hb (xor_inj h5)
/-- Unlike routers have unlike ranks. -/
theorem mix_inj {e : Nat} (he : e < 4294967296) {a b : Int} (ha : 0 ≤ a ∧ a < 4294967296) (hb : 0 ≤ b ∧ b < 4294967296) (h : mix e a = mix e b) : a = b := by
  have := mixN_inj he (by omega) (by omega) h
  omega
end Go.Proofs.YtgeoghhajjlofaaGreatDoor
namespace Go.Proofs.YtgeoghhajjlofaaGreatDoor

/-- Rising above p, none above 24. -/
def upF : Int → List Int → Bool
  | _, [] => true
  | p, x :: l => decide (p < x) && decide (x ≤ 24) && upF x l
def nbOk (l : List Int) : Bool := upF 0 l
def lastF : Int → List Int → Int
  | p, [] => p
  | _, x :: l => lastF x l
theorem upF_app : ∀ (p : Int) (a b : List Int), upF p (a ++ b) = (upF p a && upF (lastF p a) b)
  | _, [], _ => by simp [upF, lastF]
  | p, x :: a, b => by simp only [List.cons_append, upF, lastF, upF_app x a b, Bool.and_assoc]
theorem lastF_snoc : ∀ (p : Int) (a : List Int) (x : Int), lastF p (a ++ [x]) = x
  | _, [], _ => rfl
  | _, y :: a, x => by rw [List.cons_append, lastF]; exact lastF_snoc y a x
theorem upF_snoc (p : Int) (a : List Int) (x : Int) : upF p (a ++ [x]) = (upF p a && (decide (lastF p a < x) && decide (x ≤ 24))) := by
  rw [upF_app]
  simp [upF]
theorem upF_ok : ∀ {p : Int} {l : List Int}, upF p l = true → (∀ x ∈ l, p < x ∧ x ≤ 24) ∧ l.Pairwise fun x y => x < y
  | _, [], _ => ⟨fun _ h => (nomatch h), List.Pairwise.nil⟩
  | p, x :: l, h => by
    simp only [upF, Bool.and_eq_true, decide_eq_true_eq] at h
    obtain ⟨h1, h2⟩ := upF_ok h.2
    refine ⟨fun y hy => ?_, List.pairwise_cons.2 ⟨fun y hy => (h1 y hy).1, h2⟩⟩
    rcases List.mem_cons.1 hy with rfl | hy
    · exact h.1
    · have := h1 y hy
      exact ⟨by omega, this.2⟩
theorem upF_of : ∀ {p : Int} {l : List Int}, (∀ x ∈ l, p < x ∧ x ≤ 24) → l.Pairwise (fun x y => x < y) → upF p l = true
  | _, [], _, _ => rfl
  | p, x :: l, h1, h2 => by
    rw [List.pairwise_cons] at h2
    have h3 := h1 x List.mem_cons_self
    simp only [upF, Bool.and_eq_true, decide_eq_true_eq]
    exact ⟨h3, upF_of (fun y hy => ⟨h2.1 y hy, (h1 y (List.mem_cons_of_mem _ hy)).2⟩) h2.2⟩
theorem nb_in {l : List Int} (h : nbOk l = true) {x : Int} (hx : x ∈ l) : 1 ≤ x ∧ x ≤ 24 := by have := (upF_ok h).1 x hx; omega
theorem nb_rise {l : List Int} (h : nbOk l = true) : l.Pairwise fun x y => x < y := (upF_ok h).2
theorem up_len : ∀ {p : Int} {l : List Int}, upF p l = true → p ≤ 24 → (l.length : Int) ≤ 24 - p
  | _, [], _, h => by simp; omega
  | p, x :: l, h, _ => by
    simp only [upF, Bool.and_eq_true, decide_eq_true_eq] at h
    have := up_len h.2 h.1.2
    simp only [List.length_cons]
    omega
theorem nb_len {l : List Int} (h : nbOk l = true) : l.length ≤ 24 := by have := up_len h (by decide); omega
theorem nb_sub {l m : List Int} (h : nbOk l = true) (hs : m.Sublist l) : nbOk m = true :=
  upF_of (fun x hx => (upF_ok h).1 x (hs.subset hx)) ((upF_ok h).2.sublist hs)
/-- The best so far, and on. -/
def bestF (r : Int → Nat) : Int → List Int → Int
  | b, [] => b
  | b, x :: l => bestF r (if r b < r x then x else b) l
def best (r : Int → Nat) : List Int → Int
  | [] => 0
  | x :: l => bestF r x l
theorem bestF_snoc (r : Int → Nat) : ∀ (b : Int) (l : List Int) (x : Int), bestF r b (l ++ [x]) = if r (bestF r b l) < r x then x else bestF r b l
  | _, [], _ => rfl
  | b, y :: l, x => by rw [List.cons_append, bestF, bestF, bestF_snoc]
theorem best_snoc (r : Int → Nat) {l : List Int} (h : l ≠ []) (x : Int) : best r (l ++ [x]) = if r (best r l) < r x then x else best r l := by
  cases l with
  | nil => exact absurd rfl h
  | cons y l => exact bestF_snoc r y l x
theorem bestF_ok (r : Int → Nat) : ∀ (b : Int) (l : List Int), bestF r b l ∈ b :: l ∧ ∀ y ∈ b :: l, r y ≤ r (bestF r b l)
  | b, [] => ⟨List.mem_cons_self, fun y hy => by rw [List.mem_singleton.1 hy]; exact Nat.le_refl _⟩
  | b, x :: l => by
    obtain ⟨h1, h2⟩ := bestF_ok r (if r b < r x then x else b) l
    rw [bestF]
    refine ⟨?_, fun y hy => ?_⟩
    · rcases List.mem_cons.1 h1 with h | h
      · rw [h]; split
        · exact List.mem_cons_of_mem _ List.mem_cons_self
        · exact List.mem_cons_self
      · exact List.mem_cons_of_mem _ (List.mem_cons_of_mem _ h)
    · have h3 := h2 _ List.mem_cons_self
      rcases List.mem_cons.1 hy with rfl | hy
      · refine Nat.le_trans ?_ h3
        split <;> omega
      · rcases List.mem_cons.1 hy with rfl | hy
        · refine Nat.le_trans ?_ h3
          split <;> omega
        · exact h2 y (List.mem_cons_of_mem _ hy)
theorem best_ok (r : Int → Nat) {l : List Int} (h : l ≠ []) : best r l ∈ l ∧ ∀ y ∈ l, r y ≤ r (best r l) := by
  cases l with
  | nil => exact absurd rfl h
  | cons y l => exact bestF_ok r y l
/-- Falling by ranks. -/
def Fall (r : Int → Nat) (l : List Int) : Prop := l.Pairwise fun x y => r y < r x
theorem fall_ext {r : Int → Nat} : ∀ {a b : List Int}, Fall r a → Fall r b → (∀ x, x ∈ a ↔ x ∈ b) → a = b
  | [], [], _, _, _ => rfl
  | [], y :: b, _, _, h => by have := (h y).2 List.mem_cons_self; simp at this
  | x :: a, [], _, _, h => by have := (h x).1 List.mem_cons_self; simp at this
  | x :: a, y :: b, ha, hb, h => by
    unfold Fall at ha hb
    rw [List.pairwise_cons] at ha hb
    have hxy : x = y := by
      rcases List.mem_cons.1 ((h x).1 List.mem_cons_self) with e | h1
      · exact e
      · rcases List.mem_cons.1 ((h y).2 List.mem_cons_self) with e | h2
        · exact e.symm
        · have := hb.1 x h1
          have := ha.1 y h2
          omega
    subst hxy
    refine congrArg _ (fall_ext ha.2 hb.2 fun z => ⟨fun hz => ?_, fun hz => ?_⟩)
    · rcases List.mem_cons.1 ((h z).1 (List.mem_cons_of_mem _ hz)) with rfl | h1
      · have := ha.1 z hz; omega
      · exact h1
    · rcases List.mem_cons.1 ((h z).2 (List.mem_cons_of_mem _ hz)) with rfl | h1
      · have := hb.1 z hz; omega
      · exact h1
/-- All of them, the greatest rank first. -/
def rankL (r : Int → Nat) (l : List Int) : List Int := l.mergeSort fun x y => decide (r y ≤ r x)
/-- No two of them have one rank. -/
def UnlR (r : Int → Nat) (l : List Int) : Prop := ∀ x ∈ l, ∀ y ∈ l, r x = r y → x = y
theorem rank_mem (r : Int → Nat) (l : List Int) (x : Int) : x ∈ rankL r l ↔ x ∈ l := List.mem_mergeSort
theorem rank_len (r : Int → Nat) (l : List Int) : (rankL r l).length = l.length := List.length_mergeSort ..
theorem fall_of {r : Int → Nat} {l : List Int} (h : l.Pairwise fun x y => r y ≤ r x) (hn : l.Nodup) (hu : UnlR r l) : Fall r l := by
  induction l with
  | nil => exact List.Pairwise.nil
  | cons x l ih =>
    unfold Fall
    rw [List.pairwise_cons] at h ⊢
    rw [List.nodup_cons] at hn
    refine ⟨fun y hy => ?_, ih h.2 hn.2 (fun a ha b hb => hu a (List.mem_cons_of_mem _ ha) b (List.mem_cons_of_mem _ hb))⟩
    rcases Nat.lt_or_ge (r y) (r x) with h1 | h1
    · exact h1
    · have h2 := h.1 y hy
      have h3 := hu x List.mem_cons_self y (List.mem_cons_of_mem _ hy) (by omega)
      exact absurd (h3 ▸ hy) hn.1
theorem rank_fall {r : Int → Nat} {l : List Int} (hn : l.Nodup) (hu : UnlR r l) : Fall r (rankL r l) := by
  have hp : (rankL r l).Perm l := List.mergeSort_perm l _
  refine fall_of ?_ (hp.nodup_iff.2 hn) (fun x hx y hy => hu x ((rank_mem r l x).1 hx) y ((rank_mem r l y).1 hy))
  have := List.pairwise_mergeSort (le := fun x y : Int => decide (r y ≤ r x)) (fun a b c h1 h2 => by simp at *; omega) (fun a b => by simp; omega) l
  exact this.imp (fun h => by simpa using h)
theorem rank_of {r : Int → Nat} {l m : List Int} (hp : m.Perm l) (hs : m.Pairwise fun x y => r y ≤ r x) (hn : l.Nodup) (hu : UnlR r l) : m = rankL r l :=
  fall_ext (fall_of hs (hp.nodup_iff.2 hn) (fun x hx y hy => hu x (hp.mem_iff.1 hx) y (hp.mem_iff.1 hy))) (rank_fall hn hu) fun x => by rw [rank_mem, hp.mem_iff]
theorem nodup_rise {l : List Int} (h : l.Pairwise fun x y => x < y) : l.Nodup := h.imp (fun {a b} h e => by omega)
/-- Ranks of neighbours are unlike. -/
theorem nb_unl {e : Nat} (he : e < 4294967296) {l : List Int} (h : nbOk l = true) : UnlR (mix e) l := fun x hx y hy hr => by
  have h1 := nb_in h hx
  have h2 := nb_in h hy
  exact mix_inj he (by omega) (by omega) hr
theorem nb_fall {e : Nat} (he : e < 4294967296) {l : List Int} (h : nbOk l = true) : Fall (mix e) (rankL (mix e) l) := rank_fall (nodup_rise (nb_rise h)) (nb_unl he h)
theorem UnlR.sub {r : Int → Nat} {l m : List Int} (h : UnlR r l) (hs : ∀ x ∈ m, x ∈ l) : UnlR r m := fun x hx y hy => h x (hs x hx) y (hs y hy)
def outL (l : List Int) (g : Int) : List Int := l.filter fun x => x != g
theorem mem_out {l : List Int} {g x : Int} : x ∈ outL l g ↔ x ∈ l ∧ x ≠ g := by simp [outL]
theorem out_sub (l : List Int) (g : Int) : (outL l g).Sublist l := List.filter_sublist
theorem outL_snoc (l : List Int) (g x : Int) : outL (l ++ [x]) g = if (x == g) = true then outL l g else outL l g ++ [x] := by
  unfold outL
  rw [List.filter_append]
  by_cases h : x = g
  · simp [h]
  · simp [h]
/-- Without one: the order of the others. -/
theorem rank_out {r : Int → Nat} {l : List Int} (hn : l.Nodup) (hu : UnlR r l) (g : Int) : rankL r (outL l g) = outL (rankL r l) g := by
  have hs := out_sub l g
  refine fall_ext (rank_fall (hn.sublist hs) (hu.sub fun x hx => hs.subset hx)) ((rank_fall hn hu).sublist (out_sub _ _)) fun x => ?_
  rw [rank_mem, mem_out, mem_out, rank_mem]
/-- The best is the first; then the others. -/
theorem rank_cons {r : Int → Nat} {l : List Int} (hn : l.Nodup) (hu : UnlR r l) (h0 : l ≠ []) : rankL r l = best r l :: rankL r (outL l (best r l)) := by
  obtain ⟨h1, h2⟩ := best_ok r h0
  have hs := out_sub l (best r l)
  refine fall_ext (rank_fall hn hu) (List.pairwise_cons.2 ⟨fun y hy => ?_, rank_fall (hn.sublist hs) (hu.sub fun x hx => hs.subset hx)⟩) fun x => ?_
  · obtain ⟨h3, h4⟩ := mem_out.1 ((rank_mem r _ y).1 hy)
    rcases Nat.lt_or_ge (r y) (r (best r l)) with h5 | h5
    · exact h5
    · exact absurd (hu y h3 _ h1 (by have := h2 y h3; omega)) h4
  · rw [rank_mem, List.mem_cons, rank_mem, mem_out]
    constructor
    · intro h
      by_cases e : x = best r l
      · exact .inl e
      · exact .inr ⟨h, e⟩
    · rintro (rfl | h)
      · exact h1
      · exact h.1
theorem best_unl {r : Int → Nat} {l : List Int} (hu : UnlR r l) {x : Int} (hx : x ∈ l) (hm : ∀ y ∈ l, r y ≤ r x) : best r l = x := by
  have h0 : l ≠ [] := fun e => by rw [e] at hx; simp at hx
  obtain ⟨h1, h2⟩ := best_ok r h0
  exact hu _ h1 x hx (by have := h2 x hx; have := hm _ h1; omega)
/-- Without one that is not chosen the same one is chosen. -/
theorem best_out {r : Int → Nat} {l : List Int} (hu : UnlR r l) (h0 : l ≠ []) {g : Int} (hg : best r l ≠ g) : best r (outL l g) = best r l := by
  obtain ⟨h1, h2⟩ := best_ok r h0
  exact best_unl (hu.sub fun x hx => (mem_out.1 hx).1) (mem_out.2 ⟨h1, hg⟩) fun y hy => h2 y (mem_out.1 hy).1
theorem rank_nil (r : Int → Nat) : rankL r [] = [] := by simp [rankL]
end Go.Proofs.YtgeoghhajjlofaaGreatDoor
