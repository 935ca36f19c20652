/- The table that Build answers is one, whatever order the map was gone through (pure). What Build answers, with the ids in rising order (pure). Ways turned round; ways where edges are fewer. Costs, edge by edge, till nothing becomes cheaper: the document's way, as functions. The document's Router, has, Check. The document's place, edge. The document's Near. The document's Part. kept; GraphTells. The document's Costs. The document's Tight. What Count has of each node at its end: as many ways as those ahead of it have, together. How many ways of so many hops and such a cost there are; the same, turned round. -/
import Derived.Test.YtbggingacoheiaaGreatDoorZ3
import Derived.Test.YtbggingacoheiaaGreatDoorGF
import Derived.Test.YtbggingacoheiaaGreatDoorZ2
import Derived.Test.YtbggingacoheiaaGreatDoorGH
namespace Go.Proofs.YtbggingacoheiaaGreatDoor

theorem plc_one : ∀ {l m : List Rw}, l.Perm m → Plc l → Plc m → (∀ x ∈ l, ∀ y ∈ l, x.1 = y.1 → x.2.1 = y.2.1 → x = y) → l = m := by
  intro l
  induction l with
  | nil => intro m hp _ _ _; exact (hp.symm.eq_nil).symm
  | cons a l ih =>
    intro m hp h1 h2 hn
    cases m with
    | nil => exact absurd hp.eq_nil (by simp)
    | cons b m =>
      have h1' := List.pairwise_cons.mp h1
      have h2' := List.pairwise_cons.mp h2
      have hba : b ∈ a :: l := hp.mem_iff.mpr (by simp)
      have hab : a ∈ b :: m := hp.mem_iff.mp (by simp)
      have hE : a = b := by
        rcases List.mem_cons.mp hba with e | hb
        · exact e.symm
        rcases List.mem_cons.mp hab with e | ha
        · exact e
        have k1 := h1'.1 b hb
        have k2 := h2'.1 a ha
        exact hn a (by simp) b hba (by omega) (by omega)
      subst hE
      rw [ih (List.Perm.cons_inv hp) h1'.2 h2'.2 fun x hx y hy => hn x (by simp [hx]) y (by simp [hy])]
/-- What was gone through, by another row of its ids. -/
def byIds (P : List Wi') (ids : List Int) : List Wi' := ids.filterMap fun i => P.find? fun p => decide (p.1 = i)
theorem byIds_ids {P : List Wi'} : ∀ {ids : List Int}, (∀ i ∈ ids, i ∈ P.map (·.1)) → (byIds P ids).map (·.1) = ids := by
  intro ids
  induction ids with
  | nil => intro _; rfl
  | cons i ids ih =>
    intro h
    obtain ⟨p, hp, e⟩ := List.mem_map.mp (h i (by simp))
    cases hf : P.find? fun p => decide (p.1 = i) with
    | none => exact absurd (List.find?_eq_none.mp hf p hp) (by simp [e])
    | some q =>
      have hq := List.find?_some hf
      have h3 := ih fun j hj => h j (by simp [hj])
      unfold byIds at h3 ⊢
      rw [List.filterMap_cons, hf]
      simp only [List.map_cons, h3]
      rw [show q.1 = i from by simpa using hq]
theorem byIds_mem {P : List Wi'} {ids : List Int} {p : Wi'} (h : p ∈ byIds P ids) : p ∈ P := by
  obtain ⟨i, _, hi⟩ := List.mem_filterMap.mp h
  exact List.mem_of_find?_eq_some hi
theorem ids_one {P : List Wi'} (h : (P.map (·.1)).Nodup) : ∀ {p q : Wi'}, p ∈ P → q ∈ P → p.1 = q.1 → p = q := by
  induction P with
  | nil => intro p q hp; simp at hp
  | cons a P ih =>
    intro p q hp hq e
    rw [List.map_cons, List.nodup_cons] at h
    rcases List.mem_cons.mp hp with rfl | hp1
    · rcases List.mem_cons.mp hq with rfl | hq1
      · rfl
      · exact absurd (List.mem_map.mpr ⟨q, hq1, e.symm⟩) h.1
    · rcases List.mem_cons.mp hq with rfl | hq1
      · exact absurd (List.mem_map.mpr ⟨p, hp1, e⟩) h.1
      · exact ih h.2 hp1 hq1 e
theorem perm_ids : ∀ {A B : List Wi'}, (A.map (·.1)).Nodup → (B.map (·.1)).Nodup → (∀ p, p ∈ A ↔ p ∈ B) → A.Perm B := by
  intro A
  induction A with
  | nil =>
    intro B _ _ h
    cases B with
    | nil => exact List.Perm.nil
    | cons b B => exact absurd ((h b).mpr (by simp)) (by simp)
  | cons a A ih =>
    intro B hA hB h
    have ha : a ∈ B := (h a).mp (by simp)
    obtain ⟨s, t, rfl⟩ := List.append_of_mem ha
    rw [List.map_cons, List.nodup_cons] at hA
    have hp : (s ++ a :: t).Perm (a :: (s ++ t)) := List.perm_middle
    have hB' : ((a :: (s ++ t)).map (·.1)).Nodup := (hp.map _).nodup_iff.mp hB
    rw [List.map_cons, List.nodup_cons] at hB'
    refine (List.Perm.cons a (ih hA.2 hB'.2 fun p => ⟨fun hpA => ?_, fun hpB => ?_⟩)).trans hp.symm
    · have h1 := hp.mem_iff.mp ((h p).mp (List.mem_cons_of_mem _ hpA))
      rcases List.mem_cons.mp h1 with rfl | h1
      · exact absurd (List.mem_map.mpr ⟨p, hpA, rfl⟩) hA.1
      · exact h1
    · have h1 := (h p).mpr (hp.mem_iff.mpr (List.mem_cons_of_mem _ hpB))
      rcases List.mem_cons.mp h1 with rfl | h1
      · exact absurd (List.mem_map.mpr ⟨p, hpB, rfl⟩) hB'.1
      · exact h1
theorem byIds_perm {P : List Wi'} {ids : List Int} (hP : (P.map (·.1)).Nodup) (hi : ids.Nodup) (h : ∀ i, i ∈ P.map (·.1) ↔ i ∈ ids) : (byIds P ids).Perm P := by
  have e := byIds_ids fun i hi => (h i).mpr hi
  refine perm_ids (by rw [e]; exact hi) hP fun p => ⟨byIds_mem, fun hp => ?_⟩
  have h1 : p.1 ∈ (byIds P ids).map (·.1) := by rw [e]; exact (h _).mp (List.mem_map.mpr ⟨p, hp, rfl⟩)
  obtain ⟨q, hq, he⟩ := List.mem_map.mp h1
  rw [← ids_one hP (byIds_mem hq) hp he]
  exact hq
theorem rowsW_perm {self : Int} {wd : Nat} {A B : List Wi'} (h : A.Perm B) : (rowsW self wd A).Perm (rowsW self wd B) := (h.filter _).map _
/-- Places rise as ids rise. -/
theorem row_lt {wd : Nat} {p q : Wi'} (hp : 1 ≤ p.1) (h : p.1 < q.1) : (rowW wd p).1 < (rowW wd q).1 ∨ ((rowW wd p).1 = (rowW wd q).1 ∧ (rowW wd p).2.1 < (rowW wd q).2.1) := by
  have h1 : (p.1.toNat - 1) / wd ≤ (q.1.toNat - 1) / wd := Nat.div_le_div_right (by omega)
  have h2 := Nat.div_add_mod (p.1.toNat - 1) wd
  have h3 := Nat.div_add_mod (q.1.toNat - 1) wd
  simp only [rowW]
  rcases Nat.lt_or_eq_of_le h1 with h1 | h1
  · left; omega
  · right
    rw [h1] at h2
    refine ⟨by rw [h1], ?_⟩
    omega
theorem rowsW_plc {self : Int} {wd : Nat} {A : List Wi'} (h1 : ∀ p ∈ A, 1 ≤ p.1) (h : (A.map (·.1)).Pairwise (· < ·)) : Plc (rowsW self wd A) := by
  unfold Plc rowsW
  rw [List.pairwise_map]
  refine List.Pairwise.imp_of_mem ?_ ((List.pairwise_map.mp h).filter _)
  intro p q hp _ hlt
  have := row_lt (wd := wd) (h1 p (List.mem_filter.mp hp).1) hlt
  omega
theorem rowsW_unlike {self : Int} {wd : Nat} {A : List Wi'} (hn : (A.map (·.1)).Nodup) (h1 : ∀ p ∈ A, 1 ≤ p.1) : ∀ x ∈ rowsW self wd A, ∀ y ∈ rowsW self wd A, x.1 = y.1 → x.2.1 = y.2.1 → x = y := by
  intro x hx y hy e1 e2
  obtain ⟨p, hp, rfl⟩ := List.mem_map.mp hx
  obtain ⟨q, hq, rfl⟩ := List.mem_map.mp hy
  have hp' := (List.mem_filter.mp hp).1
  have hq' := (List.mem_filter.mp hq).1
  rcases Int.lt_trichotomy p.1 q.1 with h | h | h
  · have := row_lt (wd := wd) (h1 p hp') h; omega
  · rw [ids_one hn hp' hq' h]
  · have := row_lt (wd := wd) (h1 q hq') h; omega
/-- The entries are those of the ids in rising order. -/
theorem rows_one {self : Int} {wd : Nat} {P : List Wi'} {es : List Rw} {ids : List Int} (hP : (P.map (·.1)).Nodup) (hi : ids.Pairwise (· < ·)) (h : ∀ i, i ∈ P.map (·.1) ↔ i ∈ ids) (h1 : ∀ i ∈ ids, 1 ≤ i) (hp : es.Perm (rowsW self wd P)) (ho : Plc es) : es = rowsW self wd (byIds P ids) := by
  have hi' : ids.Nodup := hi.imp fun h e => by omega
  have hb := byIds_perm hP hi' h
  have e := byIds_ids fun i hi => (h i).mpr hi
  have hpos : ∀ p ∈ P, 1 ≤ p.1 := fun p hp => h1 _ ((h _).mp (List.mem_map.mpr ⟨p, hp, rfl⟩))
  refine plc_one (hp.trans (rowsW_perm hb.symm)) ho (rowsW_plc (fun p hp => hpos p (byIds_mem hp)) (by rw [e]; exact hi)) fun x hx y hy => ?_
  exact rowsW_unlike hP hpos x (hp.mem_iff.mp hx) y (hp.mem_iff.mp hy)
theorem own_none {self : Int} : ∀ {A : List Wi'} {o : Int}, (∀ p ∈ A, p.2.1.node ≠ self) → A.foldl (fun o p => if p.2.1.node = self then p.1 else o) o = o := by
  intro A
  induction A with
  | nil => intro o _; rfl
  | cons a A ih =>
    intro o h
    rw [List.foldl_cons, if_neg (h a (by simp))]
    exact ih fun p hp => h p (by simp [hp])
theorem own_is {self : Int} {p : Wi'} (hs : p.2.1.node = self) : ∀ {A : List Wi'} {o : Int}, (p ∈ A ∨ o = p.1) → (∀ q ∈ A, q.2.1.node = self → q.1 = p.1) → A.foldl (fun o p => if p.2.1.node = self then p.1 else o) o = p.1 := by
  intro A
  induction A with
  | nil =>
    intro o h _
    rcases h with h | h
    · simp at h
    · exact h
  | cons a A ih =>
    intro o h hu
    rw [List.foldl_cons]
    refine ih ?_ fun q hq => hu q (by simp [hq])
    by_cases ha : a.2.1.node = self
    · rw [if_pos ha]
      exact .inr (hu a (by simp) ha)
    · rw [if_neg ha]
      rcases h with h | h
      · rcases List.mem_cons.mp h with rfl | h1
        · exact absurd hs ha
        · exact .inl h1
      · exact .inr h
/-- One's own id is one, where no two are one's own. -/
theorem own_one {self : Int} {A B : List Wi'} (hp : A.Perm B) (hu : ∀ p ∈ A, ∀ q ∈ A, p.2.1.node = self → q.2.1.node = self → p.1 = q.1) : ownW self A = ownW self B := by
  unfold ownW
  by_cases h : ∃ p ∈ A, p.2.1.node = self
  · obtain ⟨p, hpA, hs⟩ := h
    rw [own_is hs (.inl hpA) fun q hq hqs => hu q hq p hpA hqs hs, own_is hs (.inl (hp.mem_iff.mp hpA)) fun q hq hqs => hu q (hp.mem_iff.mpr hq) p hpA hqs hs]
  · have h' : ∀ p ∈ A, p.2.1.node ≠ self := fun p hp e => h ⟨p, hp, e⟩
    rw [own_none h', own_none fun p hpB => h' p (hp.mem_iff.mpr hpB)]

end Go.Proofs.YtbggingacoheiaaGreatDoor
namespace Go.Proofs.YtbggingacoheiaaGreatDoor

theorem free_rise (rs : List Rc) : ((freeT (allC rs)).map (·.1)).Pairwise (· < ·) := by
  unfold freeT allC
  rw [List.pairwise_map]
  refine List.Pairwise.filter _ ?_
  rw [List.pairwise_map]
  exact idsL_rise rs
theorem free_claim {rs : List Rc} {id r : Int} (h : (id, [r]) ∈ freeT (allC rs)) : ∃ x ∈ rs, x.origin = r ∧ x.claim = id := by
  obtain ⟨j, _, e⟩ := List.mem_map.1 (List.mem_filter.1 h).1
  rw [Prod.mk.injEq] at e
  obtain ⟨rfl, e2⟩ := e
  have h5 : r ∈ gat rs j := ((rsL_ok _).2 r).1 (by rw [e2]; simp)
  obtain ⟨x, hx, h1, _, h3⟩ := mem_gat.1 h5
  exact ⟨x, hx, by first | exact h3 | exact h3.symm, by first | exact h1 | exact h1.symm⟩
theorem org_one {rs : List Rc} (h : (rs.map Rc.origin).Nodup) : ∀ {x y : Rc}, x ∈ rs → y ∈ rs → x.origin = y.origin → x = y := by
  induction rs with
  | nil => intro x y hx; simp at hx
  | cons a rs ih =>
    intro x y hx hy e
    rw [List.map_cons, List.nodup_cons] at h
    rcases List.mem_cons.mp hx with rfl | hx1
    · rcases List.mem_cons.mp hy with rfl | hy1
      · rfl
      · exact absurd (List.mem_map.mpr ⟨y, hy1, e.symm⟩) h.1
    · rcases List.mem_cons.mp hy with rfl | hy1
      · exact absurd (List.mem_map.mpr ⟨x, hx1, e⟩) h.1
      · exact ih h.2 hx1 hy1 e
theorem free_one {rs : List Rc} (h : bothOk no1 rs = true) {id id' r : Int} (h1 : (id, [r]) ∈ freeT (allC rs)) (h2 : (id', [r]) ∈ freeT (allC rs)) : id = id' := by
  obtain ⟨x, hx, e1, e2⟩ := free_claim h1
  obtain ⟨y, hy, e3, e4⟩ := free_claim h2
  rw [← e2, ← e4, org_one (bothOk_all _ _ h).2 hx hy (e1.trans e3.symm)]
theorem ofW_node {W : List Rr} {r : Int} {X : Rr} (h : ofW W r = some X) : X.node = r := by
  have := List.find?_some h
  simpa using this
/-- What Build answers, with the ids in rising order. -/
theorem BldAns.one {w w' : World} {l : List (Rc × Value)} {self : Int} {wd : Nat} {e : Ending} (h : BldAns w w' l self wd e) (hl : bothOk no1 (rcs l) = true) :
    ∃ (W : List Rr) (P : List Wi') (u : Value), e = .returned (.tuple #[.agg #[.int .i64 self, .int .i64 wd, .int .i64 (ownW self P), u], .int .i64 0]) ∧ WaysIs l self W ∧ P.map (·.1) = (freeT (allC (rcs (liveL W l)))).map (·.1) ∧
    (∀ p ∈ P, ∃ r, (p.1, [r]) ∈ freeT (allC (rcs (liveL W l))) ∧ ofW W r = some p.2.1 ∧ ∃ B, w.heap.size ≤ B ∧ w'.ownsRow B 3 1 (.slice p.2.2.1 p.2.2.2.1 p.2.2.2.2) p.2.1.next.length (fl ic p.2.1.next)) ∧
    ∃ B, w.heap.size ≤ B ∧ w'.ownsRow B 34 4 u (rowsW self wd P).length (fl rwcs (rowsW self wd P)) := by
  obtain ⟨W, P, es, u, h1, h2, h3, h4, h5, h6, h7, h8⟩ := h
  have hr := free_rise (rcs (liveL W l))
  have hn : ((freeT (allC (rcs (liveL W l)))).map (·.1)).Nodup := hr.imp fun h e => by omega
  have hpos : ∀ i ∈ (freeT (allC (rcs (liveL W l)))).map (·.1), 1 ≤ i := fun i hi => by
    obtain ⟨p, hp, rfl⟩ := List.mem_map.1 hi
    exact (free_live hp).1
  have hes := rows_one (self := self) (wd := wd) h3 hr h4 hpos h6 h7
  have hpm := byIds_perm h3 hn h4
  have how := own_one (self := self) hpm fun p hp q hq e1 e2 => by
    obtain ⟨r, g1, g2, _⟩ := h5 p (byIds_mem hp)
    obtain ⟨s, g3, g4, _⟩ := h5 q (byIds_mem hq)
    have k1 := ofW_node g2
    have k2 := ofW_node g4
    have k3 : r = s := by rw [← k1, ← k2, e1, e2]
    rw [← k3] at g3
    exact free_one (live_ok hl) g1 g3
  refine ⟨W, byIds P _, u, by rw [how]; exact h1, h2, byIds_ids fun i hi => (h4 i).mpr hi, fun p hp => h5 p (byIds_mem hp), ?_⟩
  rw [← hes]
  exact h8

end Go.Proofs.YtbggingacoheiaaGreatDoor
namespace Go.Proofs.YtbggingacoheiaaGreatDoor

def BothW (es : List Ed) : Prop := ∀ e ∈ es, (e.2.1, e.1, e.2.2) ∈ es
theorem Wy.turn {es : List Ed} (hs : BothW es) {a x c : Int} {h : Nat} (k : Wy es a x c h) : Wy es x a c h :=
  k (fun x c h => Wy es x a c h) (Wy.refl _ _) (fun e he c h hw => by
    have h1 : Wy es e.2.1 e.1 e.2.2 1 := Wy.one (hs e he)
    have h2 := h1.trans hw
    rwa [Int.add_comm, Nat.add_comm] at h2)
theorem Ds.turn {es : List Ed} (hs : BothW es) {a x d : Int} (h : Ds es a x d) : Ds es x a d := by
  obtain ⟨⟨k, hw⟩, h1⟩ := h
  exact ⟨⟨k, hw.turn hs⟩, fun c' h' hw' => h1 _ _ (hw'.turn hs)⟩
theorem Right.turn {es : List Ed} (hs : BothW es) {a b d d' : Int} {A B : Rr} (h1 : Ds es a b d) (h2 : Ds es b a d') (hA : Right es a b d A) (hB : Right es b a d' B) : A.cost = B.cost ∧ A.least = B.least ∧ A.most = B.most := by
  have hd := (h1.turn hs).uniq h2
  subst hd
  have l1 := (hA.hops _ (hB.lw.turn hs)).1
  have l2 := (hB.hops _ (hA.lw.turn hs)).1
  have m1 := (hA.hops _ (hB.mw.turn hs)).2
  have m2 := (hB.hops _ (hA.mw.turn hs)).2
  have := hA.l0
  have := hB.l0
  have := hA.m0
  have := hB.m0
  exact ⟨by rw [hA.cost, hB.cost], by omega, by omega⟩
theorem Wy.mono {es fs : List Ed} (hs : ∀ e ∈ fs, e ∈ es) {a x c : Int} {h : Nat} (k : Wy fs a x c h) : Wy es a x c h :=
  k (fun x c h => Wy es a x c h) (Wy.refl _ _) (fun e he _ _ hw => hw.step (hs e he))
/-- Among ways there is a cheapest one. -/
theorem ds_of {es : List Ed} (hp : PosE es) {r x c : Int} {h : Nat} (k : Wy es r x c h) : ∃ d, Ds es r x d ∧ d ≤ c := by
  have key : ∀ (n : Nat) (c : Int) (h : Nat), c.toNat = n → Wy es r x c h → ∃ d, Ds es r x d ∧ d ≤ c := by
    intro n
    induction n using Nat.strongRecOn with
    | _ n ih =>
    intro c h hc hw
    by_cases hm : ∀ c' h', Wy es r x c' h' → c ≤ c'
    · exact ⟨c, ⟨⟨h, hw⟩, hm⟩, Int.le_refl _⟩
    · have : ∃ c' h', Wy es r x c' h' ∧ c' < c := Classical.byContradiction fun hno => hm fun c' h' hw' => by
        by_cases hlt : c' < c
        · exact absurd ⟨c', h', hw', hlt⟩ hno
        · omega
      obtain ⟨c', h', hw', hlt⟩ := this
      have h1 := (hw'.pos hp).1
      obtain ⟨d, hd, hle⟩ := ih c'.toNat (by omega) c' h' rfl hw'
      exact ⟨d, hd, by omega⟩
  exact key _ c h rfl k
/-- Edges of the same pairs: who is come to stays so. -/
theorem wy_pairs {es fs : List Ed} (hs : ∀ e ∈ fs, ∃ c, (e.1, e.2.1, c) ∈ es) {a x c : Int} {h : Nat} (k : Wy fs a x c h) : ∃ c', Wy es a x c' h :=
  k (fun x _ h => ∃ c', Wy es a x c' h) ⟨0, Wy.refl _ _⟩ (fun e he _ _ ⟨c', hw⟩ => by
    obtain ⟨c2, h2⟩ := hs e he
    exact ⟨_, hw.step (e := (e.1, e.2.1, c2)) h2⟩)
end Go.Proofs.YtbggingacoheiaaGreatDoor
namespace Go.Proofs.YtbggingacoheiaaGreatDoor

/-- More than any way costs. -/
def farC : Int := 1073741824
def d0C (r : Int) : Int → Int := fun x => if x = r then 0 else farC
/-- One edge is gone over. -/
def rlx (D : Int → Int) (e : Ed) : Int → Int := if D e.1 < farC ∧ D e.1 + e.2.2 < D e.2.1 then (fun x => if x = e.2.1 then D e.1 + e.2.2 else D x) else D
def rndC (es : List Ed) (D : Int → Int) : Int → Int := es.foldl rlx D
def bfN (es : List Ed) (r : Int) : Nat → Int → Int
  | 0 => d0C r
  | k + 1 => rndC es (bfN es r k)
theorem rlx_le (D : Int → Int) (e : Ed) (x : Int) : rlx D e x ≤ D x := by
  unfold rlx
  by_cases h : D e.1 < farC ∧ D e.1 + e.2.2 < D e.2.1
  · rw [if_pos h]
    by_cases hx : x = e.2.1
    · rw [if_pos hx, hx]; omega
    · rw [if_neg hx]; exact Int.le_refl _
  · rw [if_neg h]; exact Int.le_refl _
theorem rlx_edge {D : Int → Int} {e : Ed} (h : D e.1 < farC) : rlx D e e.2.1 ≤ D e.1 + e.2.2 := by
  unfold rlx
  by_cases h2 : D e.1 + e.2.2 < D e.2.1
  · rw [if_pos ⟨h, h2⟩]; simp
  · rw [if_neg (fun e => h2 e.2)]; omega
theorem fold_le : ∀ (L : List Ed) (D : Int → Int) (x : Int), (L.foldl rlx D) x ≤ D x
  | [], _, _ => Int.le_refl _
  | e :: L, D, x => Int.le_trans (fold_le L (rlx D e) x) (rlx_le D e x)
def SndC (es : List Ed) (r : Int) (D : Int → Int) : Prop := ∀ x, D x = farC ∨ (D x < farC ∧ ∃ h, Wy es r x (D x) h)
theorem snd_zero (es : List Ed) (r : Int) : SndC es r (d0C r) := fun x => by
  unfold d0C
  by_cases h : x = r
  · rw [if_pos h]
    exact .inr ⟨by decide, 0, by rw [h]; exact Wy.refl _ _⟩
  · rw [if_neg h]; exact .inl rfl
theorem snd_rlx {es : List Ed} {r : Int} {D : Int → Int} {e : Ed} (he : e ∈ es) (h : SndC es r D) : SndC es r (rlx D e) := fun x => by
  unfold rlx
  by_cases hc : D e.1 < farC ∧ D e.1 + e.2.2 < D e.2.1
  · rw [if_pos hc]
    by_cases hx : x = e.2.1
    · rw [if_pos hx]
      obtain ⟨hh, hw⟩ : ∃ h, Wy es r e.1 (D e.1) h := by
        rcases h e.1 with h1 | ⟨_, h1⟩
        · rw [h1] at hc; exact absurd hc.1 (Int.lt_irrefl _)
        · exact h1
      refine .inr ⟨?_, hh + 1, by rw [hx]; exact hw.step he⟩
      have : D e.2.1 ≤ farC := by
        rcases h e.2.1 with h1 | ⟨h1, _⟩
        · omega
        · omega
      omega
    · rw [if_neg hx]; exact h x
  · rw [if_neg hc]; exact h x
theorem snd_fold {es : List Ed} {r : Int} : ∀ (L : List Ed) (D : Int → Int), (∀ e ∈ L, e ∈ es) → SndC es r D → SndC es r (L.foldl rlx D)
  | [], _, _, h => h
  | e :: L, D, hL, h => snd_fold L (rlx D e) (fun x hx => hL x (List.mem_cons_of_mem _ hx)) (snd_rlx (hL e List.mem_cons_self) h)
theorem snd_bf (es : List Ed) (r : Int) : ∀ k, SndC es r (bfN es r k)
  | 0 => snd_zero es r
  | k + 1 => snd_fold es _ (fun _ h => h) (snd_bf es r k)
def CmpC (es : List Ed) (r : Int) (k : Nat) (D : Int → Int) : Prop := ∀ x c h, Wy es r x c h → h ≤ k → c < farC → D x ≤ c
theorem cmp_bf {es : List Ed} (hp : PosE es) (r : Int) : ∀ k, CmpC es r k (bfN es r k)
  | 0 => fun x c h hw hk _ => by
    obtain ⟨h1, h2⟩ := hw.zero (by omega)
    show d0C r x ≤ c
    unfold d0C
    rw [if_pos h1, h2]
    exact Int.le_refl _
  | k + 1 => fun x c h hw hk hc => by
    rcases hw.last with ⟨h1, h2, h3⟩ | ⟨e, he, c', h', hw', hx, hcc, hh⟩
    · have := cmp_bf hp r k x c h hw (by omega) hc
      exact Int.le_trans (fold_le _ _ _) this
    · have hpe := hp e he
      have h1 := cmp_bf hp r k e.1 c' h' hw' (by omega) (by omega)
      obtain ⟨L1, L2, hL⟩ := List.append_of_mem he
      show (es.foldl rlx (bfN es r k)) x ≤ c
      generalize bfN es r k = D at h1 ⊢
      rw [hL, List.foldl_append, List.foldl_cons, hx]
      have h2 := fold_le L1 D e.1
      generalize L1.foldl rlx D = D1 at h2 ⊢
      have h3 := rlx_edge (D := D1) (e := e) (by omega)
      have h4 := fold_le L2 (rlx D1 e) e.2.1
      omega
theorem nodup_le {l : List Int} : ∀ {m : List Int}, l.Nodup → (∀ x ∈ l, x ∈ m) → l.length ≤ m.length := by
  induction l with
  | nil => intro m _ _; simp
  | cons x l ih =>
    intro m hn hm
    rw [List.nodup_cons] at hn
    have hx := hm x List.mem_cons_self
    have := ih (m := m.erase x) hn.2 (fun y hy => (List.mem_erase_of_ne (fun e => hn.1 (by rw [← e]; exact hy))).2 (hm y (List.mem_cons_of_mem _ hy)))
    rw [List.length_erase_of_mem hx] at this
    have : 0 < m.length := List.length_pos_of_mem hx
    rw [List.length_cons]
    omega
theorem ds_node {ns : List Int} {es : List Ed} (hok : graphOk ns es = true) {r x d : Int} (hr : r ∈ ns) (h : Ds es r x d) : x ∈ ns := by
  obtain ⟨k, hk⟩ := h.1
  rcases hk.last with ⟨rfl, _, _⟩ | ⟨e, he, _, _, _, rfl, _, _⟩
  · exact hr
  · exact ((graphOk_bd hok).2.1 e he).2
/-- A least-cost way meets no node twice. -/
theorem ds_hops {ns : List Int} {es : List Ed} (hok : graphOk ns es = true) {r : Int} (hr : r ∈ ns) : ∀ (h : Nat) (x d : Int), Ds es r x d → Wy es r x d h → ∃ l : List Int, l.length = h + 1 ∧ l.Nodup ∧ ∀ y ∈ l, y ∈ ns ∧ ∃ dy, Ds es r y dy ∧ dy ≤ d
  | 0, x, d, hd, hw => by
    refine ⟨[x], rfl, by simp, fun y hy => ?_⟩
    rw [List.mem_singleton.1 hy]
    exact ⟨ds_node hok hr hd, d, hd, Int.le_refl _⟩
  | h + 1, x, d, hd, hw => by
    rcases hw.last with ⟨_, _, h3⟩ | ⟨e, he, c', h', hw', hx, hcc, hh⟩
    · cases h3
    · obtain ⟨_, hde⟩ := into_last hd he hw' hx hcc
      have : h' = h := by omega
      subst this
      obtain ⟨l, h1, h2, h3⟩ := ds_hops hok hr h' e.1 c' hde hw'
      have hpe := graphOk_pos hok e he
      refine ⟨l ++ [x], by simp [h1], ?_, fun y hy => ?_⟩
      · refine List.nodup_append.2 ⟨h2, by simp, fun a ha b hb e' => ?_⟩
        rw [List.mem_singleton.1 hb] at e'
        subst e'
        obtain ⟨_, dy, h4, h5⟩ := h3 a ha
        have := h4.uniq hd
        omega
      · rcases List.mem_append.1 hy with hy | hy
        · obtain ⟨h4, dy, h5, h6⟩ := h3 y hy
          exact ⟨h4, dy, h5, by omega⟩
        · rw [List.mem_singleton.1 hy]
          exact ⟨ds_node hok hr hd, d, hd, Int.le_refl _⟩
theorem graphOk_nn {ns : List Int} {es : List Ed} (hok : graphOk ns es = true) : ns.Nodup := by
  simp only [graphOk, Bool.and_eq_true] at hok
  have key : ∀ (ns : List Int) (last : Int), nodesOk last ns = true → ns.Pairwise fun a b => a < b := fun ns => by
    induction ns with
    | nil => intro _ _; exact List.Pairwise.nil
    | cons m ns ih =>
      intro last hm
      have hm' : nodesOk m ns = true := by
        simp only [nodesOk, Bool.and_eq_true] at hm
        exact hm.2.2
      exact List.pairwise_cons.2 ⟨fun y hy => (nodesOk_bd ns m hm' y hy).2.2, ih m hm'⟩
  exact (key ns 0 hok.1).imp fun h => by omega
theorem graphOk_n24 {ns : List Int} {es : List Ed} (hok : graphOk ns es = true) : ns.length ≤ 24 := by
  have hb := (graphOk_bd hok).1
  have := nodup_le (m := (List.range 24).map fun (i : Nat) => (i : Int) + 1) (graphOk_nn hok) (fun y hy => List.mem_map.2 ⟨(y - 1).toNat, by have := hb y hy; simp; omega, by have := hb y hy; omega⟩)
  simpa using this
/-- What the document's Costs tells. -/
theorem bf_all {ns : List Int} {es : List Ed} (hok : graphOk ns es = true) {r : Int} (hr : r ∈ ns) (x : Int) : (∃ d, Ds es r x d ∧ bfN es r ns.length x = d ∧ 0 ≤ d ∧ d ≤ 1000 * ns.length) ∨ ((∀ d, ¬ Ds es r x d) ∧ bfN es r ns.length x = farC) := by
  have hp := graphOk_pos hok
  rcases snd_bf es r ns.length x with h | ⟨h1, hh, hw⟩
  · refine .inr ⟨fun d hd => ?_, h⟩
    obtain ⟨k, hk⟩ := hd.1
    obtain ⟨l, h1, h2, h3⟩ := ds_hops hok hr k x d hd hk
    have h4 := nodup_le h2 (fun y hy => (h3 y hy).1)
    have h5 := hk.pos hp
    have hn24 := graphOk_n24 hok
    have := cmp_bf hp r ns.length x d k hk (by omega) (by unfold farC; omega)
    rw [h] at this
    unfold farC at this
    omega
  · obtain ⟨d, hd, _⟩ := ds_of hp hw
    obtain ⟨k, hk⟩ := hd.1
    obtain ⟨l, h2, h3, h4⟩ := ds_hops hok hr k x d hd hk
    have h5 := nodup_le h3 (fun y hy => (h4 y hy).1)
    have h6 := hk.pos hp
    have h7 := hd.2 _ _ hw
    have h8 := cmp_bf hp r ns.length x d k hk (by omega) (by omega)
    exact .inl ⟨d, hd, by omega, by omega, by omega⟩
end Go.Proofs.YtbggingacoheiaaGreatDoor
namespace Go.Proofs.YtbggingacoheiaaGreatDoor
open Go.RowKit

theorem rrouter_any (n : Int) (w : World) : Calls Tryz.prog 45 #[.int .i64 n] w fun e w' => e = .returned (.bool (isR n)) ∧ Below w.heap.size w w' := by
  by_cases h1 : 1 ≤ n
  · by_cases h2 : n ≤ 24
    · go_enter Tryz.func45, Tryz.ntmps45
      go_wp2
      go_ret
      exact ⟨by simp [isR, h1, h2], Below.refl _ _⟩
    · go_enter Tryz.func45, Tryz.ntmps45
      go_wp2
      go_ret
      exact ⟨by simp [isR, h1]; omega, Below.refl _ _⟩
  · go_enter Tryz.func45, Tryz.ntmps45
    go_wp2
    go_ret
    exact ⟨by simp [isR]; omega, Below.refl _ _⟩
set_option maxRecDepth 100000 in
theorem rhas_any {zs : List Int} {v : Value} {w : World} (hv : SlAt ic 1 w v zs) (n : Int) :
    Calls Tryz.prog 123 #[v, .int .i64 n] w fun e w' => e = .returned (.bool (hasN zs n)) ∧ w' = w := by
  obtain ⟨a, cap, rfl, hl, _, hat⟩ := hv.ints
  have Ha := hidIn hat
  clear hat hv
  go_enter Tryz.func123, Tryz.ntmps123
  go_wp2
  go_loopw [5] (fun i wr => wr = w ∧ ∃ k : Nat, k ≤ zs.length ∧ i = .int .i64 k ∧ Hid (hasN zs n = hasN (zs.drop k) n)) (fun i _ => zs.length - (intOf i).toNat)
  case atStart => exact ⟨rfl, 0, Nat.zero_le _, rfl, hidIn (by rw [List.drop_zero])⟩
  case round =>
    obtain ⟨hwr, k, hk, rfl, HH⟩ := hrel
    rw [hwr]
    clear hwr
    by_cases hlt : k < zs.length
    · obtain ⟨bk, o, rfl, hbk, hcell⟩ := Ha.out (by omega)
      obtain ⟨z, hz⟩ : ∃ z, zs[k]? = some z := ⟨zs[k], List.getElem?_eq_getElem hlt⟩
      have hc := hcell k z hz
      have HN := hidIn (hasN_drop (n := n) hz)
      clear hcell hz
      have hki : (k : Int) < (zs.length : Int) := by omega
      by_cases hzn : z = n
      · have hq : (z == n) = true := by simpa using hzn
        have Hz := hidIn hzn
        clear hzn
        go_wp2
        go_returns
        exact ⟨by rw [HH.out, HN.out]; simp [Hz.out], rfl⟩
      · have hne : (z == n) = false := by simpa using hzn
        have Hz := hidIn hzn
        clear hzn
        go_wp2
        go_roundw
        case rel => exact ⟨trivial, k + 1, by omega, by go_num, hidIn (by rw [HH.out, HN.out]; simp [Hz.out])⟩
        case measure => simp [intOf]; omega
    · have hki : ¬ ((k : Int) < (zs.length : Int)) := by omega
      have hke : k = zs.length := by omega
      go_wp2
      go_returns
      refine ⟨?_, rfl⟩
      rw [HH.out, hke, List.drop_length]
      rfl
def lastN (ns : List Int) : Nat → Int
  | 0 => 0
  | k + 1 => ns[k]?.getD 0
def lastE (es : List Ed) : Nat → Ed
  | 0 => (0, 0, 0)
  | k + 1 => es[k]?.getD (0, 0, 0)
def ckC (ns : List Int) (es : List Ed) : Int := if graphOk ns es = true then 0 else 2
theorem ckC_no {ns : List Int} {es : List Ed} (h : graphOk ns es = false) : ckC ns es = 2 := by unfold ckC; rw [h]; rfl
theorem ckC_yes {ns : List Int} {es : List Ed} (h : graphOk ns es = true) : ckC ns es = 0 := by unfold ckC; rw [h]; rfl
set_option maxRecDepth 100000 in
set_option maxHeartbeats 2000000 in
theorem gcheck_any {ns : List Int} {es : List Ed} {vn ve : Value} {w : World} (h : GrAt w vn ve ns es) :
    Calls Tryz.prog 122 #[grV vn ve] w fun e w' => e = .returned (.int .i64 (ckC ns es)) ∧ Below w.heap.size w w' := by
  obtain ⟨na, nca, rfl, hnl, _, hna⟩ := h.n.ints
  obtain ⟨ea, eca, rfl, hel, _, hea⟩ := h.e.eds
  have Hna := hidIn hna
  have Hea := hidIn hea
  have Hn := hidIn h.n
  clear hna hea h
  obtain ⟨W1, hW1⟩ : ∃ W1, w.alloc (.cells #[.slice na ns.length nca, .slice ea es.length eca] 67) = W1 := ⟨_, rfl⟩
  have bA : Below w.heap.size w W1 := by rw [← hW1]; exact (Below.refl _ w).alloc (Nat.le_refl _) _
  have hGB : W1.heap[w.heap.size]? = some (.cells #[.slice na ns.length nca, .slice ea es.length eca] 67) := by rw [← hW1]; exact heap_alloc_last w _
  have hlt0 := block_lt hGB
  have HF : Hid (∀ wq, Below W1.heap.size W1 wq → (wq.cell? ⟨w.heap.size, 0, none⟩ = some (.slice na ns.length nca) ∧ wq.cell? ⟨w.heap.size, 1, none⟩ = some (.slice ea es.length eca)) ∧ Below w.heap.size w wq) := hidIn fun wq h => by
    have j0 := (h.block _ hlt0).trans hGB
    exact ⟨⟨cell_of_row _ _ 0 _ _ _ j0, cell_of_row _ _ 1 _ _ _ j0⟩, bA.trans (h.mono bA.size)⟩
  have HW := hidIn hW1
  clear hW1 bA hGB
  go_enter Tryz.func122, Tryz.ntmps122
  go_upto_region 1 with fail
  rw [HW.out]
  clear HW
  go_wp2_with fail
  go_loopw [3] (fun i wr => ∃ k : Nat, k ≤ ns.length ∧ i = .int .i64 k ∧ Hid (Below W1.heap.size W1 wr ∧ nodesOk 0 ns = nodesOk (lastN ns k) (ns.drop k))) (fun i _ => ns.length - (intOf i).toNat)
  case atStart => exact ⟨0, Nat.zero_le _, rfl, hidIn ⟨Below.refl _ _, by rw [List.drop_zero]; rfl⟩⟩
  case round =>
    obtain ⟨k, hk, rfl, HR⟩ := hrel
    obtain ⟨hbel, hrest⟩ := HR.out
    have HB := hidIn hbel
    have HE := hidIn hrest
    clear HR hbel hrest
    obtain ⟨⟨f0, f1⟩, hbw⟩ := HF.out wr HB.out
    by_cases hlt : k < ns.length
    · obtain ⟨bk, o, rfl, hbk, hcell⟩ := Hna.out (by omega)
      obtain ⟨z, hz⟩ : ∃ z, ns[k]? = some z := ⟨ns[k], List.getElem?_eq_getElem hlt⟩
      have HN : Hid (nodesOk 0 ns = (isR z && (decide (lastN ns k < z) && nodesOk (lastN ns (k + 1)) (ns.drop (k + 1))))) := hidIn (by rw [HE.out, drop_next hz, nodesOk, lastN, hz]; rfl)
      have c0 := (hbw.cell (p := ⟨bk, o + k, none⟩) hbk).trans (hcell k z hz)
      have hki : (k : Int) < (ns.length : Int) := by omega
      obtain ⟨b1, hb1⟩ : ∃ b1, isR z = b1 := ⟨_, rfl⟩
      have HRt : Hid (∀ d os, Calls Tryz.prog 45 #[.int .i64 z] (Go.Sort.grow (redrawn wr d) os) fun e w' => e = .returned (.bool b1) ∧ Below (Go.Sort.grow (redrawn wr d) os).heap.size (Go.Sort.grow (redrawn wr d) os) w') := hidIn fun d os => by rw [← hb1]; exact rrouter_any z _
      have Hb1 := hidIn hb1
      have r0 := cell_regrown c0
      have r1 := cell_regrown f0
      clear hb1 hz
      cases b1
      · go_upto_region 4 with fail
        clear c0 f0 f1 hcell
        refine wp_region_quiet_below (by kernel_rfl) (by kernel_rfl) ?_
        repeat (go_big_quiet_step (first | (go_at_call 45; exact Calls.regrown_of (HRt.out _ _))))
        refine wpQuiet_nil ?_
        intro _ hw'
        obtain ⟨⟨dq, osq⟩, hw''⟩ := hw'
        subst hw''
        have HB4 := hidIn (hbw.trans ((below_regrown wr dq osq).mono hbw.size))
        generalize Go.Sort.grow (redrawn wr dq) osq = W4 at HB4 ⊢
        clear r0 r1 HRt
        go_wp2_with fail
        go_returns
        exact ⟨by rw [ckC_no (by unfold graphOk; rw [HN.out, Hb1.out]; rfl)]; rfl, HB4.out⟩
      · cases k with
        | zero =>
          simp only [Nat.add_zero] at r0
          go_upto_region 4 with fail
          clear c0 f0 f1 hcell
          refine wp_region_quiet_below (by kernel_rfl) (by kernel_rfl) ?_
          repeat (go_big_quiet_step (first | (go_at_call 45; exact Calls.regrown_of (HRt.out _ _))))
          refine wpQuiet_nil ?_
          intro _ hw'
          obtain ⟨⟨dq, osq⟩, hw''⟩ := hw'
          subst hw''
          have HB4 := hidIn (HB.out.trans ((below_regrown wr dq osq).mono HB.out.size))
          generalize Go.Sort.grow (redrawn wr dq) osq = W4 at HB4 ⊢
          clear r0 r1 HRt
          go_wp2_with fail
          go_roundw
          case rel =>
            refine ⟨1, by omega, rfl, hidIn ⟨HB4.out, ?_⟩⟩
            have := isR_iff.1 Hb1.out
            have h0 : decide (lastN ns 0 < z) = true := decide_eq_true (show (0 : Int) < z by omega)
            rw [HN.out, Hb1.out, h0]
            rfl
          case measure => simp [intOf]; omega
        | succ j =>
          obtain ⟨y, hy⟩ : ∃ y, ns[j]? = some y := ⟨ns[j], List.getElem?_eq_getElem (by omega)⟩
          have c1 := (hbw.cell (p := ⟨bk, o + j, none⟩) hbk).trans (hcell j y hy)
          have r2 := cell_regrown c1
          have Hl : Hid (lastN ns (j + 1) = y) := hidIn (by rw [lastN, hy]; rfl)
          have wr1 : IntKind.i64.wrap ((j : Int) + 1 - 1) = (j : Int) := by rw [IntKind.wrap_i64]; omega
          have wr2 : IntKind.i64.wrap (j : Int) = (j : Int) := by rw [IntKind.wrap_i64]; omega
          have hj0 : (0 : Int) < (j : Int) + 1 := by omega
          have hj1 : (j : Int) < (ns.length : Int) := by omega
          by_cases hzy : z ≤ y
          · go_upto_region 4 with fail
            clear c0 c1 f0 f1 hcell hy
            refine wp_region_quiet_below (by kernel_rfl) (by kernel_rfl) ?_
            repeat (go_big_quiet_step (first | (go_at_call 45; exact Calls.regrown_of (HRt.out _ _))))
            refine wpQuiet_nil ?_
            intro _ hw'
            obtain ⟨⟨dq, osq⟩, hw''⟩ := hw'
            subst hw''
            have HB4 := hidIn (hbw.trans ((below_regrown wr dq osq).mono hbw.size))
            generalize Go.Sort.grow (redrawn wr dq) osq = W4 at HB4 ⊢
            clear r0 r1 r2 HRt
            go_wp2_with fail
            go_returns
            refine ⟨?_, HB4.out⟩
            have : decide (y < z) = false := by simp; omega
            rw [ckC_no (by unfold graphOk; rw [HN.out, Hb1.out, Hl.out, this]; rfl)]
            rfl
          · have hd : decide (z ≤ y) = false := by simpa using hzy
            go_upto_region 4 with fail
            clear c0 c1 f0 f1 hcell hy
            refine wp_region_quiet_below (by kernel_rfl) (by kernel_rfl) ?_
            repeat (go_big_quiet_step (first | (go_at_call 45; exact Calls.regrown_of (HRt.out _ _))))
            refine wpQuiet_nil ?_
            intro _ hw'
            obtain ⟨⟨dq, osq⟩, hw''⟩ := hw'
            subst hw''
            have HB4 := hidIn (HB.out.trans ((below_regrown wr dq osq).mono HB.out.size))
            generalize Go.Sort.grow (redrawn wr dq) osq = W4 at HB4 ⊢
            clear r0 r1 r2 HRt hd
            go_wp2_with fail
            go_roundw
            case rel =>
              refine ⟨j + 1 + 1, by omega, by go_num, hidIn ⟨HB4.out, ?_⟩⟩
              rw [HN.out, Hb1.out, Hl.out]
              have : decide (y < z) = true := by simp; omega
              rw [this]
              rfl
            case measure => simp [intOf]; omega
    · have hki : ¬ ((k : Int) < (ns.length : Int)) := by omega
      have HT : Hid (nodesOk 0 ns = true) := hidIn (by rw [HE.out, List.drop_eq_nil_of_le (by omega)]; rfl)
      have Hbd : Hid (∀ n ∈ ns, 1 ≤ n) := hidIn fun n hn => (nodesOk_bd ns 0 HT.out n hn).1
      by_cases h384 : es.length ≤ 384
      · have h384' : ¬ (384 : Int) < (es.length : Int) := by omega
        have HG : Hid (graphOk ns es = edgesOk ns (0, 0, 0) es) := hidIn (by unfold graphOk; rw [HT.out]; simp [h384])
        clear HE
        generalize hwo : wr = wo at *
        clear hwo
        go_wp2_with fail
        clear f0 f1 hbw
        go_loopw [4] (fun i wr => ∃ k : Nat, k ≤ es.length ∧ i = .int .i64 k ∧ Hid (Below W1.heap.size W1 wr ∧ edgesOk ns (0, 0, 0) es = edgesOk ns (lastE es k) (es.drop k))) (fun i _ => es.length - (intOf i).toNat)
        case atStart => exact ⟨0, Nat.zero_le _, rfl, hidIn ⟨HB.out, by rw [List.drop_zero]; rfl⟩⟩
        case round =>
          obtain ⟨j, hj, rfl, HR⟩ := hrel
          obtain ⟨hbel, hrest⟩ := HR.out
          have HB2 := hidIn hbel
          have HE := hidIn hrest
          clear HR hbel hrest
          obtain ⟨⟨f0, f1⟩, hbw⟩ := HF.out wr HB2.out
          by_cases hlt : j < es.length
          · obtain ⟨bk, o, rfl, hbk, hcell⟩ := Hea.out (by omega)
            obtain ⟨⟨x, y, c⟩, hz⟩ : ∃ z, es[j]? = some z := ⟨es[j], List.getElem?_eq_getElem hlt⟩
            have HN : Hid (edgesOk ns (0, 0, 0) es = (edgeOk ns (lastE es j) (x, y, c) && edgesOk ns (lastE es (j + 1)) (es.drop (j + 1)))) := hidIn (by rw [HE.out, drop_next hz, edgesOk, lastE, hz]; rfl)
            obtain ⟨q0, q1, q2⟩ := hcell j _ hz
            have c0 := (hbw.cell (p := ⟨bk, o + j * 3, none⟩) hbk).trans q0
            have c1 := (hbw.cell (p := ⟨bk, o + j * 3 + 1, none⟩) hbk).trans q1
            have c2 := (hbw.cell (p := ⟨bk, o + j * 3 + 2, none⟩) hbk).trans q2
            simp only at c0 c1 c2
            have hji : (j : Int) < (es.length : Int) := by omega
            obtain ⟨W5, hW5⟩ : ∃ W5, wr.alloc (.cells #[.int .i64 x, .int .i64 y, .int .i64 c] 122) = W5 := ⟨_, rfl⟩
            have bA : Below wr.heap.size wr W5 := by rw [← hW5]; exact (Below.refl _ wr).alloc (Nat.le_refl _) _
            have hXB : W5.heap[wr.heap.size]? = some (.cells #[.int .i64 x, .int .i64 y, .int .i64 c] 122) := by rw [← hW5]; exact heap_alloc_last wr _
            have x0 : W5.cell? ⟨wr.heap.size, 0, none⟩ = some (.int .i64 x) := cell_of_row _ _ 0 _ _ _ hXB
            have x1 : W5.cell? ⟨wr.heap.size, 1, none⟩ = some (.int .i64 y) := cell_of_row _ _ 1 _ _ _ hXB
            have x2 : W5.cell? ⟨wr.heap.size, 2, none⟩ = some (.int .i64 c) := cell_of_row _ _ 2 _ _ _ hXB
            have HB5 := hidIn (HB2.out.trans (bA.mono HB2.out.size))
            obtain ⟨⟨g0, g1⟩, hbw5⟩ := HF.out W5 HB5.out
            have HH := hidIn (fun n => rhas_any (Hn.out.keep hbw5 (Nat.le_refl _)) n)
            have HW := hidIn hW5
            have HXB := hidIn hXB
            have HY : Hid (0 < j → ∃ p q r, es[j - 1]? = some (p, q, r) ∧ lastE es j = (p, q, r) ∧ W5.cell? ⟨bk, o + (j - 1) * 3, none⟩ = some (.int .i64 p) ∧ W5.cell? ⟨bk, o + (j - 1) * 3 + 1, none⟩ = some (.int .i64 q) ∧ W5.cell? ⟨bk, o + (j - 1) * 3 + 2, none⟩ = some (.int .i64 r)) := hidIn fun h0 => by
              obtain ⟨⟨p, q, r⟩, hp⟩ : ∃ z, es[j - 1]? = some z := ⟨es[j - 1], List.getElem?_eq_getElem (by omega)⟩
              obtain ⟨e0, e1, e2⟩ := hcell (j - 1) _ hp
              refine ⟨p, q, r, hp, ?_, (hbw5.cell (p := ⟨bk, o + (j - 1) * 3, none⟩) hbk).trans e0, (hbw5.cell (p := ⟨bk, o + (j - 1) * 3 + 1, none⟩) hbk).trans e1, (hbw5.cell (p := ⟨bk, o + (j - 1) * 3 + 2, none⟩) hbk).trans e2⟩
              cases j with
              | zero => omega
              | succ j => simp only [Nat.add_sub_cancel] at hp; rw [lastE, hp]; rfl
            clear hcell q0 q1 q2 hz hW5 bA hXB
            go_upto_region 12 with fail
            rw [HW.out]
            clear HW c0 c1 c2 f0 f1 hbw
            by_cases hxy : x = y
            · have hq : (x == y) = true := by simpa using hxy
              have Hxy := hidIn hxy
              clear hxy
              go_wp2_with fail
              go_returns
              exact ⟨by rw [ckC_no (by rw [HG.out, HN.out]; simp [edgeOk, Hxy.out])]; rfl, hbw5⟩
            have hq : (x == y) = false := by simpa using hxy
            go_wp2_with fail
            refine (HH.out x).mono ?_
            rintro e w6 ⟨rfl, hw6⟩
            rw [hw6]
            clear hw6 w6
            obtain ⟨b1, hb1⟩ : ∃ b1, hasN ns x = b1 := ⟨_, rfl⟩
            have Hb1 := hidIn hb1
            rw [hb1]
            clear hb1
            cases b1
            · go_wp2_with fail
              go_returns
              exact ⟨by rw [ckC_no (by rw [HG.out, HN.out]; simp [edgeOk, Hb1.out])]; rfl, hbw5⟩
            go_wp2_with fail
            refine (HH.out y).mono ?_
            rintro e w6 ⟨rfl, hw6⟩
            rw [hw6]
            clear hw6 w6
            obtain ⟨b2, hb2⟩ : ∃ b2, hasN ns y = b2 := ⟨_, rfl⟩
            have Hb2 := hidIn hb2
            rw [hb2]
            clear hb2
            cases b2
            · go_wp2_with fail
              go_returns
              exact ⟨by rw [ckC_no (by rw [HG.out, HN.out]; simp [edgeOk, Hb2.out])]; rfl, hbw5⟩
            by_cases hc1 : c < 1
            · go_wp2_with fail
              go_returns
              have hcc : isC c = false := by simp [isC]; omega
              exact ⟨by rw [ckC_no (by rw [HG.out, HN.out]; simp [edgeOk, hcc])]; rfl, hbw5⟩
            by_cases hc2 : 1000 < c
            · go_wp2_with fail
              go_returns
              have hcc : isC c = false := by simp [isC]; omega
              exact ⟨by rw [ckC_no (by rw [HG.out, HN.out]; simp [edgeOk, hcc])]; rfl, hbw5⟩
            have Hcc : Hid (isC c = true) := hidIn (isC_iff.2 ⟨by omega, by omega⟩)
            cases j with
            | zero =>
              go_wp2_with fail
              go_roundw
              case rel =>
                refine ⟨1, by omega, rfl, hidIn ⟨HB5.out, ?_⟩⟩
                have h1 := Hbd.out x (hasN_iff.1 Hb1.out)
                have h2 : risesE (lastE es 0) (x, y, c) = true := risesE_iff.2 (.inl (show (0 : Int) < x by omega))
                rw [HN.out]
                simp [edgeOk, Hb1.out, Hb2.out, Hcc.out, hxy, h2]
              case measure => simp [intOf]; omega
            | succ i =>
              obtain ⟨p, q, r, _, hl, y0, y1, y2⟩ := HY.out (by omega)
              have Hl := hidIn hl
              simp only [Nat.add_sub_cancel] at y0 y1 y2
              have hi0 : (0 : Int) < (i : Int) + 1 := by omega
              have hi1 : (i : Int) < (es.length : Int) := by omega
              obtain ⟨W7, hW7⟩ : ∃ W7, W5.alloc (.cells #[.int .i64 p, .int .i64 q, .int .i64 r] 122) = W7 := ⟨_, rfl⟩
              have bA7 : Below W5.heap.size W5 W7 := by rw [← hW7]; exact (Below.refl _ W5).alloc (Nat.le_refl _) _
              have hYB : W7.heap[W5.heap.size]? = some (.cells #[.int .i64 p, .int .i64 q, .int .i64 r] 122) := by rw [← hW7]; exact heap_alloc_last W5 _
              have hXB7 := (bA7.block _ (block_lt HXB.out)).trans HXB.out
              have p0 : W7.cell? ⟨W5.heap.size, 0, none⟩ = some (.int .i64 p) := cell_of_row _ _ 0 _ _ _ hYB
              have p1 : W7.cell? ⟨W5.heap.size, 1, none⟩ = some (.int .i64 q) := cell_of_row _ _ 1 _ _ _ hYB
              have s0 : W7.cell? ⟨wr.heap.size, 0, none⟩ = some (.int .i64 x) := cell_of_row _ _ 0 _ _ _ hXB7
              have s1 : W7.cell? ⟨wr.heap.size, 1, none⟩ = some (.int .i64 y) := cell_of_row _ _ 1 _ _ _ hXB7
              have HB7 := hidIn (HB5.out.trans (bA7.mono HB5.out.size))
              have HBW7 := hidIn (HF.out W7 HB7.out).2
              have HW := hidIn hW7
              clear hl HY hW7 bA7 hYB hXB7
              go_upto_region 16 with fail
              rw [HW.out]
              clear HW
              by_cases hpx : x < p
              · go_wp2_with fail
                go_returns
                have hri : risesE (lastE es (i + 1)) (x, y, c) = false := by
                  rw [Hl.out]
                  apply Bool.eq_false_iff.2
                  intro h
                  have := risesE_iff.1 h
                  simp only at this
                  omega
                exact ⟨by rw [ckC_no (by rw [HG.out, HN.out]; simp [edgeOk, hri])]; rfl, HBW7.out⟩
              by_cases hpe : p = x
              · have hpq : (p == x) = true := by simpa using hpe
                have Hpe := hidIn hpe
                clear hpe
                by_cases hqy : y ≤ q
                · go_wp2_with fail
                  go_returns
                  have hri : risesE (lastE es (i + 1)) (x, y, c) = false := by
                    rw [Hl.out]
                    apply Bool.eq_false_iff.2
                    intro h
                    have := risesE_iff.1 h
                    simp only at this
                    have := Hpe.out
                    omega
                  exact ⟨by rw [ckC_no (by rw [HG.out, HN.out]; simp [edgeOk, hri])]; rfl, HBW7.out⟩
                · go_wp2_with fail
                  go_roundw
                  case rel =>
                    refine ⟨i + 1 + 1, by omega, by go_num, hidIn ⟨HB7.out, ?_⟩⟩
                    have h2 : risesE (lastE es (i + 1)) (x, y, c) = true := by rw [Hl.out]; exact risesE_iff.2 (.inr ⟨Hpe.out, by simp only; omega⟩)
                    rw [HN.out]
                    simp [edgeOk, Hb1.out, Hb2.out, Hcc.out, hxy, h2]
                  case measure => simp [intOf]; omega
              · have hpq : (p == x) = false := by simpa using hpe
                go_wp2_with fail
                go_roundw
                case rel =>
                  refine ⟨i + 1 + 1, by omega, by go_num, hidIn ⟨HB7.out, ?_⟩⟩
                  have h2 : risesE (lastE es (i + 1)) (x, y, c) = true := by rw [Hl.out]; exact risesE_iff.2 (.inl (by simp only; omega))
                  rw [HN.out]
                  simp [edgeOk, Hb1.out, Hb2.out, Hcc.out, hxy, h2]
                case measure => simp [intOf]; omega
          · have hji : ¬ ((j : Int) < (es.length : Int)) := by omega
            have HT2 : Hid (graphOk ns es = true) := hidIn (by rw [HG.out, HE.out, List.drop_eq_nil_of_le (by omega)]; rfl)
            go_wp2_with fail
            go_returns
            exact ⟨by rw [ckC_yes HT2.out]; rfl, hbw⟩
      · have h384' : (384 : Int) < (es.length : Int) := by omega
        go_wp2_with fail
        go_returns
        exact ⟨by rw [ckC_no (by unfold graphOk; simp [h384])]; rfl, hbw⟩
end Go.Proofs.YtbggingacoheiaaGreatDoor
namespace Go.Proofs.YtbggingacoheiaaGreatDoor
open Go.RowKit

/-- Where a node stands first. -/
def plN : List Int → Int → Option Nat
  | [], _ => none
  | x :: l, n => if x = n then some 0 else (plN l n).map (· + 1)
def plI (l : List Int) (n : Int) : Int := match plN l n with
  | some k => (k : Int)
  | none => -1
theorem plN_at : ∀ {l : List Int} {n : Int} {k : Nat}, plN l n = some k → l[k]? = some n
  | [], _, _, h => by cases h
  | x :: l, n, k, h => by
    unfold plN at h
    by_cases hx : x = n
    · rw [if_pos hx] at h
      simp only [Option.some.injEq] at h
      subst h
      rw [hx]
      rfl
    · rw [if_neg hx] at h
      obtain ⟨j, hj, rfl⟩ := Option.map_eq_some_iff.1 h
      rw [List.getElem?_cons_succ]
      exact plN_at hj
theorem plN_none : ∀ {l : List Int} {n : Int}, (∀ y ∈ l, y ≠ n) → plN l n = none
  | [], _, _ => rfl
  | x :: l, n, h => by
    unfold plN
    rw [if_neg (h x List.mem_cons_self), plN_none (fun y hy => h y (List.mem_cons_of_mem _ hy))]
    rfl
theorem plN_first : ∀ {l : List Int} {n : Int} {k : Nat}, (∀ y ∈ l.take k, y ≠ n) → l[k]? = some n → plN l n = some k
  | [], _, _, _, h => by simp at h
  | x :: l, n, 0, _, h => by
    unfold plN
    simp at h
    rw [if_pos h]
  | x :: l, n, k + 1, hn, h => by
    unfold plN
    rw [if_neg (hn x (by simp)), plN_first (k := k) (fun y hy => hn y (by rw [List.take_succ_cons]; exact List.mem_cons_of_mem _ hy)) (by simpa using h)]
    rfl
theorem plN_nodup {l : List Int} (hd : l.Nodup) {n : Int} {k : Nat} (h : l[k]? = some n) : plN l n = some k := by
  refine plN_first (fun y hy e => ?_) h
  obtain ⟨j, hj⟩ := List.getElem?_of_mem hy
  rw [List.getElem?_take] at hj
  by_cases hjk : j < k
  · rw [if_pos hjk, e] at hj
    obtain ⟨h1, h2⟩ := List.getElem?_eq_some_iff.1 hj
    obtain ⟨h3, h4⟩ := List.getElem?_eq_some_iff.1 h
    exact (List.pairwise_iff_getElem.1 (List.nodup_iff_pairwise_ne.1 hd)) j k h1 h3 hjk (by rw [h2, h4])
  · rw [if_neg hjk] at hj
    cases hj
theorem plI_some {l : List Int} {n : Int} {k : Nat} (h : plN l n = some k) : plI l n = (k : Int) := by unfold plI; rw [h]
theorem plI_none {l : List Int} {n : Int} (h : plN l n = none) : plI l n = -1 := by unfold plI; rw [h]
theorem plI_neg {l : List Int} {n : Int} : plI l n < 0 ↔ n ∉ l := by
  unfold plI
  cases h : plN l n with
  | some k => exact ⟨fun e => by simp only at e; omega, fun e => absurd (List.mem_of_getElem? (plN_at h)) e⟩
  | none =>
    refine ⟨fun _ hm => ?_, fun _ => by decide⟩
    obtain ⟨j, hj⟩ := List.getElem?_of_mem hm
    have key : ∀ (l : List Int), plN l n = none → n ∉ l := fun l => by
      induction l with
      | nil => intro _ h; cases h
      | cons x l ih =>
        intro h hm
        unfold plN at h
        by_cases hx : x = n
        · rw [if_pos hx] at h; cases h
        · rw [if_neg hx] at h
          rcases List.mem_cons.1 hm with e | e
          · exact hx e.symm
          · exact ih (by simpa using h) e
    exact key l h hm
set_option maxRecDepth 100000 in
set_option maxHeartbeats 1000000 in
theorem place_any {ns : List Int} {es : List Ed} {vn ve : Value} {w : World} (h : GrAt w vn ve ns es) (n : Int) :
    Calls Tryz.prog 124 #[grV vn ve, .int .i64 n] w fun e w' => e = .returned (.int .i64 (plI ns n)) ∧ Below w.heap.size w w' := by
  obtain ⟨na, nca, rfl, hnl, _, hna⟩ := h.n.ints
  obtain ⟨ea, eca, rfl, _⟩ := h.e.eds
  have Hna := hidIn hna
  obtain ⟨W1, hW1⟩ : ∃ W1, w.alloc (.cells #[.slice na ns.length nca, .slice ea es.length eca] 67) = W1 := ⟨_, rfl⟩
  have bA : Below w.heap.size w W1 := by rw [← hW1]; exact (Below.refl _ w).alloc (Nat.le_refl _) _
  have hGB : W1.heap[w.heap.size]? = some (.cells #[.slice na ns.length nca, .slice ea es.length eca] 67) := by rw [← hW1]; exact heap_alloc_last w _
  obtain ⟨q, hqe⟩ : ∃ q, w.heap.size = q := ⟨_, rfl⟩
  rw [hqe] at hGB
  have f0 := cell_of_row _ _ 0 _ _ _ hGB
  simp at f0
  have HW := hidIn hW1
  have HB := hidIn bA
  obtain ⟨ln, hln⟩ : ∃ ln, ns.length = ln := ⟨_, rfl⟩
  rw [hln] at hnl f0 HW ⊢
  have Hln := hidIn hln
  clear hW1 bA hGB hna h hln
  go_enter Tryz.func124, Tryz.ntmps124
  go_upto_region 1 with fail
  rw [HW.out]
  clear HW hqe
  go_wp2_with fail
  go_loop [5] (fun i => ∃ k : Nat, k ≤ ln ∧ i = .int .i64 k ∧ Hid (∀ y ∈ ns.take k, y ≠ n)) (fun i => ln - (intOf i).toNat)
  case atStart => exact ⟨0, Nat.zero_le _, rfl, hidIn (by simp)⟩
  case round =>
    obtain ⟨k, hk, rfl, HC⟩ := hrel
    by_cases hlt : k < ln
    · have hki : (k : Int) < (ln : Int) := by omega
      obtain ⟨bk, o, rfl, hbk, hcell⟩ := Hna.out (by have := Hln.out; omega)
      obtain ⟨z, hz⟩ : ∃ z, ns[k]? = some z := ⟨ns[k]'(by have := Hln.out; omega), List.getElem?_eq_getElem _⟩
      have c0 := (HB.out.cell (p := ⟨bk, o + k, none⟩) hbk).trans (hcell k z hz)
      by_cases hzn : z = n
      · have hq : (z == n) = true := by simpa using hzn
        have HP : Hid (plI ns n = (k : Int)) := hidIn (plI_some (plN_first HC.out (by rw [hz, hzn])))
        clear hcell hz hzn
        go_wp2_with fail
        go_ret
        exact ⟨by rw [HP.out]; rfl, HB.out⟩
      · have hq : (z == n) = false := by simpa using hzn
        have HC2 : Hid (∀ y ∈ ns.take (k + 1), y ≠ n) := hidIn fun y hy => by
          rw [take_snoc hz] at hy
          rcases List.mem_append.1 hy with h | h
          · exact HC.out y h
          · rw [List.mem_singleton.1 h]; exact hzn
        clear hcell hz hzn
        go_wp2_with fail
        go_round
        case rel => exact ⟨k + 1, by omega, by go_num, HC2⟩
        case measure => simp [intOf]; omega
    · have hki : ¬ (k : Int) < (ln : Int) := by omega
      have HP : Hid (plI ns n = -1) := hidIn (plI_none (plN_none (by have := HC.out; rwa [List.take_of_length_le (by have := Hln.out; omega)] at this)))
      go_wp2_with fail
      go_ret
      exact ⟨by rw [HP.out]; rfl, HB.out⟩
/-- What an edge costs. -/
def edI (es : List Ed) (a b : Int) : Int := match es.find? (fun e => e.1 == a && e.2.1 == b) with
  | some e => e.2.2
  | none => 0
theorem edI_some {es : List Ed} {a b : Int} {k : Nat} {e : Ed} (hn : ∀ y ∈ es.take k, ¬ (y.1 = a ∧ y.2.1 = b)) (he : es[k]? = some e) (h1 : e.1 = a) (h2 : e.2.1 = b) : edI es a b = e.2.2 := by
  have h : es = es.take k ++ e :: es.drop (k + 1) := by rw [← drop_next he, List.take_append_drop]
  unfold edI
  rw [h, List.find?_append, List.find?_eq_none.2 (fun y hy => by have := hn y hy; simp only [Bool.and_eq_true, beq_iff_eq]; exact this), List.find?_cons]
  simp [h1, h2]
theorem edI_none {es : List Ed} {a b : Int} (hn : ∀ y ∈ es, ¬ (y.1 = a ∧ y.2.1 = b)) : edI es a b = 0 := by
  unfold edI
  rw [List.find?_eq_none.2 (fun y hy => by have := hn y hy; simp only [Bool.and_eq_true, beq_iff_eq]; exact this)]
end Go.Proofs.YtbggingacoheiaaGreatDoor
namespace Go.Proofs.YtbggingacoheiaaGreatDoor
open Go.RowKit

end Go.Proofs.YtbggingacoheiaaGreatDoor
namespace Go.Proofs.YtbggingacoheiaaGreatDoor
open Go.RowKit

/-- What is marked after some rounds. -/
structure RInv (ns : List Int) (es : List Ed) (n : Int) (f : Nat → Bool) (r : Nat) : Prop where
  so : ∀ i, f i = true → Rch es n (i : Int)
  nn : f n.toNat = true
  mem : ∀ i, f i = true → (i : Int) ∈ ns
  go : (∀ e ∈ es, f e.1.toNat = true → f e.2.1.toNat = true) ∨ r + 1 ≤ cnt f
structure RMid (ns : List Int) (es : List Ed) (n : Int) (f g : Nat → Bool) (k : Nat) : Prop where
  so : ∀ i, g i = true → Rch es n (i : Int)
  nn : g n.toNat = true
  mem : ∀ i, g i = true → (i : Int) ∈ ns
  go : (g = f ∧ ∀ e ∈ es.take k, f e.1.toNat = true → f e.2.1.toNat = true) ∨ ((¬ ∀ e ∈ es, f e.1.toNat = true → f e.2.1.toNat = true) ∧ cnt f + 1 ≤ cnt g)
theorem cnt_mk1 (f : Nat → Bool) {i : Nat} (hi : i < 25) (h : f i = false) : cnt (mk1 f i) = cnt f + 1 := by
  have h1 := unm_mk1 h hi
  have h2 := cnt_unm f
  have h3 := cnt_unm (mk1 f i)
  omega
theorem mk1_again {f : Nat → Bool} {i : Nat} (h : f i = true) : mk1 f i = f := by
  funext j
  unfold mk1
  by_cases hj : j = i
  · rw [if_pos hj, hj, h]
  · rw [if_neg hj]
theorem RInv.start {ns : List Int} {es : List Ed} {n : Int} {f : Nat → Bool} {r : Nat} (h : RInv ns es n f r) : RMid ns es n f f 0 := ⟨h.so, h.nn, h.mem, .inl ⟨rfl, by simp⟩⟩
theorem RMid.no {ns : List Int} {es : List Ed} {n : Int} {f g : Nat → Bool} {k : Nat} {e : Ed} (h : RMid ns es n f g k) (he : es[k]? = some e) (hg : g e.1.toNat = false) : RMid ns es n f g (k + 1) := by
  refine ⟨h.so, h.nn, h.mem, ?_⟩
  rcases h.go with ⟨h1, h2⟩ | h1
  · refine .inl ⟨h1, fun x hx hf => ?_⟩
    rw [take_snoc he] at hx
    rcases List.mem_append.1 hx with hx | hx
    · exact h2 x hx hf
    · simp at hx
      rw [hx, ← h1, hg] at hf
      cases hf
  · exact .inr h1
theorem RMid.yes {ns : List Int} {es : List Ed} {n : Int} {f g : Nat → Bool} {k : Nat} {e : Ed} (hb : ∀ z ∈ ns, 1 ≤ z ∧ z ≤ 24) (hed : ∀ e ∈ es, e.1 ∈ ns ∧ e.2.1 ∈ ns) (h : RMid ns es n f g k) (he : es[k]? = some e) (hg : g e.1.toNat = true) : RMid ns es n f (mk1 g e.2.1.toNat) (k + 1) := by
  have hm := List.mem_of_getElem? he
  have h3 := hed e hm
  have b1 := hb _ h3.1
  have b2 := hb _ h3.2
  by_cases hy : g e.2.1.toNat = true
  · rw [mk1_again hy]
    refine ⟨h.so, h.nn, h.mem, ?_⟩
    rcases h.go with ⟨h1, h2⟩ | h1
    · refine .inl ⟨h1, fun x hx hf => ?_⟩
      rw [take_snoc he] at hx
      rcases List.mem_append.1 hx with hx | hx
      · exact h2 x hx hf
      · simp at hx
        rw [hx, ← h1]
        exact hy
    · exact .inr h1
  · have hy' : g e.2.1.toNat = false := by simpa using hy
    have hc := cnt_mk1 g (show e.2.1.toNat < 25 by omega) hy'
    refine ⟨fun i hi => ?_, mk1_iff.2 (.inr h.nn), fun i hi => ?_, .inr ?_⟩
    · rcases mk1_iff.1 hi with rfl | hi
      · have h5 := h.so _ hg
        rw [Int.toNat_of_nonneg (by omega)] at h5 ⊢
        exact h5.step hm
      · exact h.so i hi
    · rcases mk1_iff.1 hi with rfl | hi
      · rw [Int.toNat_of_nonneg (by omega)]
        exact h3.2
      · exact h.mem i hi
    · rcases h.go with ⟨h1, _⟩ | ⟨h1, h2⟩
      · refine ⟨fun hall => ?_, by rw [hc, h1]; exact Nat.le_refl _⟩
        have := hall e hm (by rw [← h1]; exact hg)
        rw [← h1, hy'] at this
        cases this
      · exact ⟨h1, by omega⟩
theorem RMid.stop {ns : List Int} {es : List Ed} {n : Int} {f g : Nat → Bool} {r k : Nat} (h : RInv ns es n f r) (hm : RMid ns es n f g k) (hk : es.length ≤ k) : RInv ns es n g (r + 1) := by
  refine ⟨hm.so, hm.nn, hm.mem, ?_⟩
  rcases hm.go with ⟨h1, h2⟩ | ⟨h1, h2⟩
  · left
    rw [h1]
    rw [List.take_of_length_le hk] at h2
    exact h2
  · right
    rcases h.go with h3 | h3
    · exact absurd h3 h1
    · omega
theorem RInv.part {ns : List Int} {es : List Ed} {n : Int} {f : Nat → Bool} (hn : n ∈ ns) (hed : ∀ e ∈ es, e.1 ∈ ns ∧ e.2.1 ∈ ns) (h : RInv ns es n f ns.length) : IsPart es n f := by
  refine isPart_of hn hed h.so h.nn ?_
  rcases h.go with h1 | h1
  · exact h1
  · exfalso
    have h2 := count_tos (ns.map fun x => (x, (0 : Int))) (List.range 25) List.nodup_range
    rw [List.length_map] at h2
    have h3 : cnt f ≤ ((List.range 25).filter fun b => (ns.map fun x => (x, (0 : Int))).any fun x => decide (x.1.toNat = b)).length := by
      refine filter_len _ fun b _ hb => ?_
      rw [List.any_eq_true]
      exact ⟨((b : Int), 0), List.mem_map.2 ⟨(b : Int), h.mem b hb, rfl⟩, by simp⟩
    omega
theorem rInv_one {ns : List Int} {es : List Ed} {n : Int} (hb : ∀ z ∈ ns, 1 ≤ z ∧ z ≤ 24) (hn : n ∈ ns) : RInv ns es n (mk1 no1 n.toNat) 0 := by
  have h1 := hb n hn
  refine ⟨fun i hi => ?_, mk1_same _ _, fun i hi => ?_, .inr ?_⟩
  · rcases mk1_iff.1 hi with rfl | h
    · rw [Int.toNat_of_nonneg (by omega)]; exact Rch.refl _ _
    · simp [no1] at h
  · rcases mk1_iff.1 hi with rfl | h
    · rw [Int.toNat_of_nonneg (by omega)]; exact hn
    · simp [no1] at h
  · rw [cnt_mk1 no1 (show n.toNat < 25 by omega) rfl]
    omega
theorem make_met (w : World) : (Instr.makeSlice 147 (.int .i64 25) (.int .i64 25)).run Tryz.prog w = .ok (.slice (some ⟨w.heap.size, 0, none⟩) 25 25) (w.alloc (.cells (mcl no1).toArray 4)) := by kernel_rfl

set_option maxRecDepth 100000 in
set_option maxHeartbeats 2000000 in
theorem rpart_any {ns : List Int} {es : List Ed} {vn ve : Value} {w : World} (h : GrAt w vn ve ns es) (n : Int) :
    Calls Tryz.prog 93 #[grV vn ve, .int .i64 n] w fun e w' => PartAns w ns es n e w' ∧ Below w.heap.size w w' := by
  have Hgr := hidIn h
  obtain ⟨ea, eca, rfl, hel, _, hea⟩ := h.e.eds
  have Hea := hidIn hea
  clear h hea
  obtain ⟨na, nca, hvn, hnl, _⟩ := Hgr.out.n
  subst hvn
  obtain ⟨W1, hW1⟩ : ∃ W1, w.alloc (.cells #[.slice na ns.length nca, .slice ea es.length eca] 67) = W1 := ⟨_, rfl⟩
  have bA : Below w.heap.size w W1 := by rw [← hW1]; exact (Below.refl _ w).alloc (Nat.le_refl _) _
  have hGB : W1.heap[w.heap.size]? = some (.cells #[.slice na ns.length nca, .slice ea es.length eca] 67) := by rw [← hW1]; exact heap_alloc_last w _
  have hlt0 := block_lt hGB
  have HF : Hid (∀ wq, Below W1.heap.size W1 wq → (wq.cell? ⟨w.heap.size, 0, none⟩ = some (.slice na ns.length nca) ∧ wq.cell? ⟨w.heap.size, 1, none⟩ = some (.slice ea es.length eca)) ∧ Below w.heap.size w wq) := hidIn fun wq h => by
    have j0 := (h.block _ hlt0).trans hGB
    exact ⟨⟨cell_of_row _ _ 0 _ _ _ j0, cell_of_row _ _ 1 _ _ _ j0⟩, bA.trans (h.mono bA.size)⟩
  have HW := hidIn hW1
  clear hW1 bA hGB
  obtain ⟨⟨f0, f1⟩, hbw1⟩ := HF.out W1 (Below.refl _ _)
  obtain ⟨b1, hb1⟩ : ∃ b1, graphOk ns es = b1 := ⟨_, rfl⟩
  have Hb1 := hidIn hb1
  have HC : Hid (Calls Tryz.prog 122 #[grV (.slice na ns.length nca) (.slice ea es.length eca)] W1 fun e w' => e = .returned (.int .i64 (if b1 = true then 0 else 2)) ∧ Below W1.heap.size W1 w') := hidIn (by rw [← hb1]; exact gcheck_any (Hgr.out.keep hbw1 (Nat.le_refl _)))
  clear hb1
  go_enter Tryz.func93, Tryz.ntmps93
  go_upto_region 1 with fail
  rw [HW.out]
  clear HW
  go_wp2_with fail
  refine HC.out.mono ?_
  rintro e w2 ⟨rfl, hb2⟩
  have HB2 := hidIn hb2
  clear hb2 HC f0 f1 hbw1
  obtain ⟨⟨f0, f1⟩, hbw2⟩ := HF.out w2 HB2.out
  cases b1
  · simp only [Bool.false_eq_true, if_false]
    go_wp2_with fail
    go_ret2
    exact ⟨.inr ⟨by rw [Hb1.out]; rfl, rfl⟩, hbw2⟩
  simp only [if_true]
  go_wp2_with fail
  refine (rhas_any (Hgr.out.n.keep hbw2 (Nat.le_refl _)) n).mono ?_
  rintro e w3 ⟨rfl, hw3⟩
  rw [hw3]
  clear hw3 w3
  obtain ⟨b2, hb2⟩ : ∃ b2, hasN ns n = b2 := ⟨_, rfl⟩
  have Hb2 := hidIn hb2
  rw [hb2]
  clear hb2
  cases b2
  · go_wp2_with fail
    go_ret2
    exact ⟨.inr ⟨by rw [Hb1.out, Hb2.out]; rfl, rfl⟩, hbw2⟩
  obtain ⟨hbd, hed, h384⟩ := graphOk_bd Hb1.out
  have hn := hasN_iff.1 Hb2.out
  obtain ⟨m, rfl⟩ : ∃ m : Nat, n = (m : Int) := ⟨n.toNat, by have := hbd n hn; omega⟩
  have hmb := hbd _ hn
  have hm : m < 25 := by omega
  have hmi : (m : Int) < 25 := by omega
  have Hbd := hidIn hbd
  have Hed := hidIn hed
  have HI0 := hidIn (rInv_one (es := es) hbd hn)
  rw [Int.toNat_natCast] at HI0
  have Hn := hidIn hn
  clear hbd hed hn
  have hmk := make_met
  have hA3 := arr_new w2 4 (mcl no1)
  have bA3 : Below w2.heap.size w2 (w2.alloc (.cells (mcl no1).toArray 4)) := (Below.refl _ w2).alloc (Nat.le_refl _) _
  have HB3 := hidIn (HB2.out.trans (bA3.mono HB2.out.size))
  clear bA3 f0 f1 hbw2
  go_upto_region 4 with fail
  generalize w2.alloc (.cells (mcl no1).toArray 4) = W3 at *
  have hbm : W1.heap.size ≤ w2.heap.size := HB2.out.size
  generalize w2.heap.size = bm at *
  have mc := hA3.cell m
  rw [mcl_get _ hm] at mc
  have mf := hA3.frozen m
  have HA4 : Hid (Arr (W3.setCell ⟨bm, m, none⟩ (.bool true)) bm 4 (mcl (mk1 no1 m))) := hidIn (by rw [← mcl_set no1 hm]; exact hA3.set m _)
  have HB4 : Hid (Below W1.heap.size W1 (W3.setCell ⟨bm, m, none⟩ (.bool true))) := hidIn (HB3.out.setCell (p := ⟨bm, m, none⟩) hbm _)
  clear hA3 hmk
  go_upto_region 5 with fail
  generalize W3.setCell ⟨bm, m, none⟩ (.bool true) = W4 at *
  clear mc mf HB3
  go_wp2_with fail
  go_loopw [7] (fun i wr => ∃ r : Nat, r ≤ ns.length ∧ i = .int .i64 r ∧ Hid (∃ f, Arr wr bm 4 (mcl f) ∧ RInv ns es (m : Int) f r ∧ Below W1.heap.size W1 wr)) (fun i _ => ns.length - (intOf i).toNat)
  case atStart => exact ⟨0, Nat.zero_le _, rfl, hidIn ⟨_, HA4.out, HI0.out, HB4.out⟩⟩
  case round =>
    obtain ⟨r, hr, rfl, HR⟩ := hrel
    obtain ⟨f, hA, hI, hbel⟩ := HR.out
    clear HR HA4 HB4 HI0
    obtain ⟨⟨f0, f1⟩, hbw⟩ := HF.out wr hbel
    by_cases hlt : r < ns.length
    · have hri : (r : Int) < (ns.length : Int) := by omega
      have HA := hidIn hA
      have HI := hidIn hI
      have HB := hidIn hbel
      clear hA hI hbel
      generalize hwo : wr = wo at *
      clear hwo
      go_wp2_with fail
      clear f0 f1 hbw
      go_loopw [8] (fun i wr => ∃ k : Nat, k ≤ es.length ∧ i = .int .i64 k ∧ Hid (∃ g, Arr wr bm 4 (mcl g) ∧ RMid ns es (m : Int) f g k ∧ Below W1.heap.size W1 wr)) (fun i _ => es.length - (intOf i).toNat)
      case atStart => exact ⟨0, Nat.zero_le _, rfl, hidIn ⟨f, HA.out, HI.out.start, HB.out⟩⟩
      case round =>
        obtain ⟨k, hk, rfl, HR⟩ := hrel
        obtain ⟨g, hA, hM, hbel⟩ := HR.out
        clear HR
        obtain ⟨⟨f0, f1⟩, hbw⟩ := HF.out wr hbel
        by_cases hlt2 : k < es.length
        · obtain ⟨bk, o, rfl, hbk, hcell⟩ := Hea.out (by omega)
          obtain ⟨⟨x, y, c⟩, hz⟩ : ∃ z, es[k]? = some z := ⟨es[k], List.getElem?_eq_getElem hlt2⟩
          have hxy := Hed.out _ (List.mem_of_getElem? hz)
          simp only at hxy
          have hxb := Hbd.out _ hxy.1
          have hyb := Hbd.out _ hxy.2
          obtain ⟨p, rfl⟩ : ∃ p : Nat, x = (p : Int) := ⟨x.toNat, by omega⟩
          obtain ⟨q, rfl⟩ : ∃ q : Nat, y = (q : Int) := ⟨y.toNat, by omega⟩
          have hp : p < 25 := by omega
          have hq : q < 25 := by omega
          have hpi : (p : Int) < 25 := by omega
          have hqi : (q : Int) < 25 := by omega
          obtain ⟨q0, q1, q2⟩ := hcell k _ hz
          have c0 := (hbw.cell (p := ⟨bk, o + k * 3, none⟩) hbk).trans q0
          have c1 := (hbw.cell (p := ⟨bk, o + k * 3 + 1, none⟩) hbk).trans q1
          simp only at c0 c1
          have mc := hA.cell p
          rw [mcl_get _ hp] at mc
          have mq := hA.cell q
          rw [mcl_get _ hq] at mq
          have mf := hA.frozen q
          have hki : (k : Int) < (es.length : Int) := by omega
          have Hz := hidIn hz
          have HA2 := hidIn hA
          have HM := hidIn hM
          have HB2' := hidIn hbel
          clear hcell q0 q1 q2 hz hxy hxb hyb hA hM hbel hbw
          obtain ⟨b2, hb2⟩ : ∃ b2, g p = b2 := ⟨_, rfl⟩
          have Hg := hidIn hb2
          rw [hb2] at mc
          clear hb2
          cases b2
          · go_wp2_with fail
            go_roundw
            case rel => exact ⟨k + 1, by omega, by go_num, hidIn ⟨g, HA2.out, HM.out.no Hz.out (by simpa using Hg.out), HB2'.out⟩⟩
            case measure => simp [intOf]; omega
          · go_wp2_with fail
            go_roundw
            case rel =>
              have h7 := HM.out.yes Hbd.out Hed.out Hz.out (by simpa using Hg.out)
              simp only [Int.toNat_natCast] at h7
              exact ⟨k + 1, by omega, by go_num, hidIn ⟨mk1 g q, by rw [← mcl_set g hq]; exact HA2.out.set q _, h7, HB2'.out.setCell (p := ⟨bm, q, none⟩) hbm _⟩⟩
            case measure => simp [intOf]; omega
        · have hki : ¬ ((k : Int) < (es.length : Int)) := by omega
          have HA2 := hidIn hA
          have HI2 := hidIn (hM.stop HI.out (by omega))
          have HB2' := hidIn hbel
          clear hA hM hbel hbw
          go_wp2_with fail
          go_roundw
          case rel => exact ⟨r + 1, by omega, by go_num, hidIn ⟨g, HA2.out, HI2.out, HB2'.out⟩⟩
          case measure => simp [intOf]; omega
    · have hri : ¬ ((r : Int) < (ns.length : Int)) := by omega
      obtain rfl : r = ns.length := by omega
      have HP := hidIn (hI.part Hn.out Hed.out)
      have Hf0 : Hid (f 0 = false) := hidIn (by
        cases h0 : f 0 with
        | false => rfl
        | true => have := Hbd.out _ (hI.mem 0 h0); simp at this)
      have HA := hidIn hA
      have HB := hidIn hbel
      clear hA hI hbel hbw
      generalize hwo : wr = wo at *
      clear hwo
      go_wp2_with fail
      clear f0 f1
      go_loopw [9, 10] (fun u i wr => ∃ k : Nat, k ≤ 24 ∧ i = .int .i64 ((k : Int) + 1) ∧ Hid (wr.ownsRow wo.heap.size 3 1 u (upTo f (k + 1)).length (fl ic (upTo f (k + 1))) ∧ Arr wr bm 4 (mcl f) ∧ Below W1.heap.size W1 wr ∧ wo.heap.size ≤ wr.heap.size)) (fun _ i _ => 25 - (intOf i).toNat)
      case atStart =>
        refine ⟨0, by omega, rfl, hidIn ⟨?_, HA.out, HB.out, Nat.le_refl _⟩⟩
        rw [upTo_no Hf0.out]
        exact World.ownsRow_nil _ _ _ _
      case round =>
        obtain ⟨k, hk, rfl, HR⟩ := hrel
        obtain ⟨hrow, hA, hbel, hsz⟩ := HR.out
        clear HR
        obtain ⟨ua, ucap, rfl⟩ := row_shape hrow
        by_cases hlt2 : k < 24
        · have hki : (k : Int) + 1 ≤ 24 := by omega
          have hki2 : (k : Int) + 1 < 25 := by omega
          have mc := hA.cell (k + 1)
          rw [mcl_get _ (by omega)] at mc
          have hle := upTo_len f (k + 1)
          obtain ⟨b2, hb2⟩ : ∃ b2, f (k + 1) = b2 := ⟨_, rfl⟩
          rw [hb2] at mc
          cases b2
          · have HU := hidIn (upTo_no hb2)
            have HRow := hidIn hrow
            have HA2 := hidIn hA
            have HB3 := hidIn hbel
            clear hrow hA hbel hb2
            go_wp2_with fail
            go_roundw
            case rel => exact ⟨k + 1, by omega, by go_num, hidIn ⟨by rw [HU.out]; exact HRow.out, HA2.out, HB3.out, hsz⟩⟩
            case measure => simp [intOf]; omega
          · have HU := hidIn (upTo_yes hb2)
            obtain ⟨g, gcap, w6, hrun, hown, _, _, hb6⟩ := append_int hrow ((k + 1 : Nat) : Int) (by omega) hsz
            have e1 : ((k + 1 : Nat) : Int) = (k : Int) + 1 := by omega
            rw [e1] at hrun
            have HRun := hidIn hrun
            have HO := hidIn hown
            have HA6 := hidIn (hA.keep hb6 (by have := HA.out.lt; omega))
            have HB6 := hidIn (hbel.trans (hb6.mono HB.out.size))
            have HS6 := hidIn (Nat.le_trans hsz hb6.size)
            clear hrun hown hrow hA hbel hb6 hb2 e1
            obtain ⟨L, hL⟩ : ∃ L, upTo f (k + 1) = L := ⟨_, rfl⟩
            have HLL := hidIn hL
            rw [hL] at HRun HO hle ⊢
            clear hL
            go_wp2_with (refine l_append rfl _ _ 32 rfl HRun.out ?_)
            go_roundw
            case rel =>
              refine ⟨k + 1, by omega, by go_num, hidIn ⟨?_, HA6.out, HB6.out, HS6.out⟩⟩
              rw [HU.out, HLL.out, List.length_append]
              exact HO.out
            case measure => simp [intOf]; omega
        · have hke : k = 24 := by omega
          have hki : ¬ ((k : Int) + 1 ≤ 24) := by omega
          rw [hke] at hrow
          have HRow : Hid (wr.ownsRow w.heap.size 3 1 (.slice ua (upTo f (k + 1)).length ucap) (markedL f).length (fl ic (markedL f))) := hidIn (by
            have h7 := row_low hrow (show w.heap.size ≤ wo.heap.size by have := HB.out.size; omega)
            rw [hke]
            exact h7)
          have HBW := hidIn (HF.out wr hbel).2
          clear hrow hA hbel hke
          go_wp2_with fail
          go_returns
          exact ⟨.inl ⟨by rw [Hb1.out, Hb2.out]; rfl, f, _, HP.out, rfl, HRow.out⟩, HBW.out⟩
end Go.Proofs.YtbggingacoheiaaGreatDoor
namespace Go.Proofs.YtbggingacoheiaaGreatDoor
open Go.RowKit

theorem row_last {α : Type} {cs : α → List Value} {sz : Nat} (hc : ∀ x, (cs x).length = sz) {w : World} {base g cap : Nat} {e : TypeId} {l : List α} {x : α} (hr : w.ownsRow base e sz (.slice (some ⟨g, 0, none⟩) (l.length + 1) cap) (l.length + 1) (fl cs (l ++ [x]))) : l.length + 1 ≤ cap ∧ l.length + 1 ≤ 9223372036854775807 ∧ g < w.heap.size ∧ ∀ i u, (cs x)[i]? = some u → w.cell? ⟨g, l.length * sz + i, none⟩ = some u := by
  obtain ⟨a, c, he, h1, h2, h3⟩ := slAt_of_row hc hr (by simp)
  simp at he
  obtain ⟨rfl, rfl⟩ := he
  obtain ⟨bk, o, h4, h5, h6⟩ := h3 (by simp)
  simp only [Option.some.injEq, Addr.mk.injEq, and_true] at h4
  obtain ⟨rfl, rfl⟩ := h4
  simp at h1 h2
  refine ⟨h2, by omega, h5, fun i u hu => ?_⟩
  have := h6 l.length x (by simp) i u hu
  rwa [Nat.zero_add] at this
/-- Near's answer, in one form. -/
theorem near_uni {w w' : World} {ns : List Int} {es : List Ed} {n : Int} {e : Ending} (h : ((graphOk ns es && hasN ns n) = true ∧ ∃ u, e = .returned (.tuple #[u, .int .i64 0]) ∧ w'.ownsRow w.heap.size 83 2 u (nearL es n).length (fl ac (nearL es n))) ∨ ((graphOk ns es && hasN ns n) = false ∧ e = .returned (.tuple #[.slice none 0 0, .int .i64 2]))) :
    ∃ ua ucap, e = .returned (.tuple #[.slice ua (if (graphOk ns es && hasN ns n) = true then nearL es n else []).length ucap, .int .i64 (if (graphOk ns es && hasN ns n) = true then 0 else 2)]) ∧ w'.ownsRow w.heap.size 83 2 (.slice ua (if (graphOk ns es && hasN ns n) = true then nearL es n else []).length ucap) (if (graphOk ns es && hasN ns n) = true then nearL es n else []).length (fl ac (if (graphOk ns es && hasN ns n) = true then nearL es n else [])) := by
  rcases h with ⟨h, u, rfl, hu⟩ | ⟨h, rfl⟩
  · obtain ⟨ua, ucap, rfl⟩ := row_shape hu
    rw [h]
    exact ⟨ua, ucap, rfl, hu⟩
  · rw [h]
    exact ⟨none, 0, rfl, World.ownsRow_nil _ _ _ _⟩
/-- Part's answer, in one form. -/
theorem part_uni {w w' : World} {ns : List Int} {es : List Ed} {n : Int} {e : Ending} (h : PartAns w ns es n e w') :
    ∃ L ua ucap, ((graphOk ns es && hasN ns n) = true → ∃ f, IsPart es n f ∧ L = markedL f) ∧ ((graphOk ns es && hasN ns n) = false → L = []) ∧ e = .returned (.tuple #[.slice ua L.length ucap, .int .i64 (if (graphOk ns es && hasN ns n) = true then 0 else 2)]) ∧ w'.ownsRow w.heap.size 3 1 (.slice ua L.length ucap) L.length (fl ic L) := by
  rcases h with ⟨h, f, u, hf, rfl, hu⟩ | ⟨h, rfl⟩
  · obtain ⟨ua, ucap, rfl⟩ := row_shape hu
    rw [h]
    exact ⟨markedL f, ua, ucap, fun _ => ⟨f, hf, rfl⟩, (fun h => by cases h), rfl, hu⟩
  · rw [h]
    exact ⟨[], none, 0, (fun h => by cases h), fun _ => rfl, rfl, World.ownsRow_nil _ _ _ _⟩
theorem part_same {es : List Ed} {n : Int} {b : Bool} {L M : List Int} (h1 : b = true → ∃ f, IsPart es n f ∧ L = markedL f) (h2 : b = false → L = []) (k1 : b = true → ∃ f, IsPart es n f ∧ M = markedL f) (k2 : b = false → M = []) : L = M := by
  cases b
  · rw [h2 rfl, k2 rfl]
  · obtain ⟨f, hf, rfl⟩ := h1 rfl
    obtain ⟨g, hg, rfl⟩ := k1 rfl
    exact hf.same hg
/-- An own row that may be written. -/
theorem row_write {w : World} {base n cap sz : Nat} {a : Option Addr} {e : TypeId} {xs : List Value} (hr : w.ownsRow base e sz (.slice a n cap) n xs) (h0 : 0 < n) : ∃ g, a = some ⟨g, 0, none⟩ ∧ base ≤ g ∧ g < w.heap.size ∧ (∀ j, j < n * sz → ∃ v, w.cell? ⟨g, j, none⟩ = some v) ∧ ∀ j, w.frozen? ⟨g, j, none⟩ = false := by
  rcases hr.2 with ⟨_, h⟩ | ⟨g, cap', cur, h, hb, hh, h1, _, h3, _⟩
  · omega
  · simp at h
    obtain ⟨rfl, rfl⟩ := h
    refine ⟨g, rfl, hb, block_lt hh, fun j hj => ?_, fun j => frozen_new hh j⟩
    have : n * sz ≤ cap * sz := Nat.mul_le_mul_right _ h1
    rw [cell_of_row w g j cur e _ hh]
    exact ⟨cur[j]'(by omega), Array.getElem?_eq_getElem _⟩

end Go.Proofs.YtbggingacoheiaaGreatDoor
namespace Go.Proofs.YtbggingacoheiaaGreatDoor
open Go.RowKit

theorem map_upd {D : Int → Int} {y v : Int} : ∀ {ns : List Int} {k : Nat}, ns.Nodup → ns[k]? = some y → ns.map (fun z => if z = y then v else D z) = (ns.map D).set k v
  | [], _, _, h => by simp at h
  | x :: ns, 0, hn, h => by
    simp at h
    subst h
    rw [List.nodup_cons] at hn
    simp only [List.map_cons, List.set_cons_zero, if_pos]
    congr 1
    refine List.map_congr_left fun z hz => ?_
    rw [if_neg (fun e => hn.1 (by rw [← e]; exact hz))]
  | x :: ns, k + 1, hn, h => by
    rw [List.nodup_cons] at hn
    have hk : ns[k]? = some y := by simpa using h
    have hxy : x ≠ y := fun e => hn.1 (by rw [e]; exact List.mem_of_getElem? hk)
    simp only [List.map_cons, List.set_cons_succ, if_neg hxy]
    rw [map_upd hn.2 hk]
theorem flic_set {l : List Int} {k : Nat} (v : Int) : (fl ic l).set k (.int .i64 v) = fl ic (l.set k v) := by
  have h : ∀ l : List Int, fl ic l = l.map (Value.int .i64) := fun l => by
    induction l with
    | nil => rfl
    | cons x l ih => show Value.int .i64 x :: fl ic l = _; rw [ih]; rfl
  rw [h, h, List.map_set]
theorem row_drewN {w : World} {base k size : Nat} {e : TypeId} {u : Value} {xs : List Value} (h : w.ownsRow base e size u k xs) (n : Nat) : (w.drewN n).ownsRow base e size u k xs := row_below h (below_drewN (Below.refl _ w) n) (Nat.le_refl _)
theorem frozen_row {w : World} {base k size g n cap : Nat} {e : TypeId} {xs : List Value} (h : w.ownsRow base e size (.slice (some ⟨g, 0, none⟩) n cap) k xs) (j : Nat) : w.frozen? ⟨g, j, none⟩ = false := by
  rcases h.2 with ⟨h1, _⟩ | ⟨g', cap', cur, h1, _, hh, _⟩
  · cases h1
  · simp at h1
    rw [h1.1]
    exact frozen_new hh j
theorem block_lt_of_cell {w : World} {p : Addr} {v : Value} (h : w.cell? p = some v) : p.block < w.heap.size := by
  rcases Nat.lt_or_ge p.block w.heap.size with h1 | h1
  · exact h1
  · simp [World.cell?, Array.getElem?_eq_none h1] at h
/-- A row of numbers, opened: its cells, and that they may be written. -/
theorem rowI_open {w : World} {base n cap : Nat} {a : Option Addr} {xs : List Int} (hr : w.ownsRow base 3 1 (.slice a n cap) n (fl ic xs)) (hn : xs.length = n) (h0 : 0 < n) : ∃ g, a = some ⟨g, 0, none⟩ ∧ base ≤ g ∧ (∀ j x, xs[j]? = some x → w.cell? ⟨g, j, none⟩ = some (.int .i64 x)) ∧ ∀ j, w.frozen? ⟨g, j, none⟩ = false := by
  obtain ⟨g, rfl, hb, _, _, hf⟩ := row_write hr h0
  refine ⟨g, rfl, hb, fun j x hx => ?_, hf⟩
  obtain ⟨a', cap', he, _, _, hc⟩ := (slAt_of_row (cs := ic) (fun _ => rfl) hr hn).ints
  obtain ⟨bk, o, ha, _, hcell⟩ := hc (by omega)
  simp only [Value.slice.injEq] at he
  rw [← he.1] at ha
  simp only [Option.some.injEq, Addr.mk.injEq, and_true] at ha
  have := hcell j x hx
  rw [← ha.1, ← ha.2, Nat.zero_add] at this
  exact this
set_option maxRecDepth 100000 in
set_option maxHeartbeats 4000000 in
theorem costs_any {ns : List Int} {es : List Ed} {vn ve : Value} {w : World} (h : GrAt w vn ve ns es) (hok : graphOk ns es = true) (r : Int) :
    Calls Tryz.prog 96 #[grV vn ve, .int .i64 r] w fun e w' => (∃ a c, e = .returned (.slice a ns.length c) ∧ w'.ownsRow w.heap.size 3 1 (.slice a ns.length c) ns.length (fl ic (ns.map (bfN es r ns.length)))) ∧ Below w.heap.size w w' := by
  have HGr := hidIn h
  obtain ⟨na, nca, rfl, hnl, _, hna⟩ := h.n.ints
  obtain ⟨ea, eca, rfl, hel, _, hea⟩ := h.e.eds
  have Hna := hidIn hna
  have Hea := hidIn hea
  obtain ⟨W1, hW1⟩ : ∃ W1, w.alloc (.cells #[.slice na ns.length nca, .slice ea es.length eca] 67) = W1 := ⟨_, rfl⟩
  have bA : Below w.heap.size w W1 := by rw [← hW1]; exact (Below.refl _ w).alloc (Nat.le_refl _) _
  have hGB : W1.heap[w.heap.size]? = some (.cells #[.slice na ns.length nca, .slice ea es.length eca] 67) := by rw [← hW1]; exact heap_alloc_last w _
  obtain ⟨q, hqe⟩ : ∃ q, w.heap.size = q := ⟨_, rfl⟩
  rw [hqe] at hGB
  have hlt0 := block_lt hGB
  have HF : Hid (∀ wq, Below W1.heap.size W1 wq → (wq.cell? ⟨q, 0, none⟩ = some (.slice na ns.length nca) ∧ wq.cell? ⟨q, 1, none⟩ = some (.slice ea es.length eca)) ∧ Below w.heap.size w wq) := hidIn fun wq h => by
    have j0 := (h.block _ hlt0).trans hGB
    exact ⟨⟨cell_of_row _ _ 0 _ _ _ j0, cell_of_row _ _ 1 _ _ _ j0⟩, bA.trans (h.mono bA.size)⟩
  have HW := hidIn hW1
  have Hn24 := hidIn (graphOk_n24 hok)
  have Hnn := hidIn (graphOk_nn hok)
  have Hpos := hidIn (graphOk_pos hok)
  have Hbd := hidIn (graphOk_bd hok).2.1
  have Hsz := hidIn bA.size
  obtain ⟨ln, hln⟩ : ∃ ln, ns.length = ln := ⟨_, rfl⟩
  obtain ⟨le, hle⟩ : ∃ le, es.length = le := ⟨_, rfl⟩
  rw [hln] at hnl HF HW Hn24 ⊢
  rw [hle] at hel HF HW ⊢
  have Hln := hidIn hln
  have Hle := hidIn hle
  have hl24 := Hn24.out
  clear hW1 bA hGB hna hea h hln hle hlt0 hok
  go_enter Tryz.func96, Tryz.ntmps96
  go_upto_region 1 with fail
  rw [HW.out]
  clear HW hqe
  go_wp2_with fail
  go_loopw [5, 6] (fun u i wr => ∃ k : Nat, k ≤ ln ∧ i = .int .i64 k ∧ (∃ a c, u = .slice a k c) ∧ Hid (Below W1.heap.size W1 wr ∧ wr.ownsRow W1.heap.size 3 1 u k (fl ic ((ns.take k).map (d0C r))))) (fun _ i _ => ln - (intOf i).toNat)
  case atStart => exact ⟨0, Nat.zero_le _, rfl, ⟨none, 0, rfl⟩, hidIn ⟨Below.refl _ _, World.ownsRow_nil _ _ _ _⟩⟩
  case round =>
    obtain ⟨k, hk, rfl, ⟨ua, uc, rfl⟩, HR⟩ := hrel
    obtain ⟨hbw, hr⟩ := HR.out
    obtain ⟨⟨f0, f1⟩, hbw0⟩ := HF.out wr hbw
    by_cases hlt : k < ln
    · have hki : (k : Int) < (ln : Int) := by omega
      obtain ⟨bk, o, rfl, hbk, hcell⟩ := Hna.out (by have := Hln.out; omega)
      obtain ⟨z, hz⟩ : ∃ z, ns[k]? = some z := ⟨ns[k]'(by have := Hln.out; omega), List.getElem?_eq_getElem _⟩
      have c0 := (hbw0.cell (p := ⟨bk, o + k, none⟩) hbk).trans (hcell k z hz)
      by_cases hzr : z = r
      · have hq : (z == r) = true := by simpa using hzr
        obtain ⟨g, gc, w6, hrun, hown, _, _, hb6⟩ := append_int hr 0 (by omega) hbw.size
        have HO : Hid (Below W1.heap.size W1 w6 ∧ w6.ownsRow W1.heap.size 3 1 (.slice (some ⟨g, 0, none⟩) (k + 1) gc) (k + 1) (fl ic ((ns.take (k + 1)).map (d0C r)))) := hidIn ⟨hbw.trans hb6, by rw [take_snoc hz, List.map_append]; simp only [List.map_cons, List.map_nil, d0C, if_pos hzr]; exact hown⟩
        have HRun := hidIn hrun
        clear hcell hz hzr hbw hr hrun hown hb6 hbw0 HR
        go_wp2_with (refine l_append rfl _ _ 32 rfl HRun.out ?_)
        go_roundw
        case rel => exact ⟨k + 1, by omega, by go_num, ⟨_, _, rfl⟩, HO⟩
        case measure => simp [intOf]; omega
      · have hq : (z == r) = false := by simpa using hzr
        obtain ⟨g, gc, w6, hrun, hown, _, _, hb6⟩ := append_int hr 1073741824 (by omega) hbw.size
        have HO : Hid (Below W1.heap.size W1 w6 ∧ w6.ownsRow W1.heap.size 3 1 (.slice (some ⟨g, 0, none⟩) (k + 1) gc) (k + 1) (fl ic ((ns.take (k + 1)).map (d0C r)))) := hidIn ⟨hbw.trans hb6, by rw [take_snoc hz, List.map_append]; simp only [List.map_cons, List.map_nil, d0C, if_neg hzr]; exact hown⟩
        have HRun := hidIn hrun
        clear hcell hz hzr hbw hr hrun hown hb6 hbw0 HR
        go_wp2_with (refine l_append rfl _ _ 32 rfl HRun.out ?_)
        go_roundw
        case rel => exact ⟨k + 1, by omega, by go_num, ⟨_, _, rfl⟩, HO⟩
        case measure => simp [intOf]; omega
    · have hki : ¬ (k : Int) < (ln : Int) := by omega
      have hke : k = ln := by omega
      subst hke
      rw [List.take_of_length_le (by have := Hln.out; omega)] at hr
      have HR0 : Hid (Below W1.heap.size W1 wr ∧ wr.ownsRow W1.heap.size 3 1 (.slice ua k uc) k (fl ic (ns.map (bfN es r 0)))) := hidIn ⟨hbw, hr⟩
      clear hbw hr hbw0 HR
      go_wp2_with fail
      clear f0 f1 hki
      go_loopw [7] (fun i wx => ∃ j : Nat, j ≤ k ∧ i = .int .i64 j ∧ Hid (Below W1.heap.size W1 wx ∧ wx.ownsRow W1.heap.size 3 1 (.slice ua k uc) k (fl ic (ns.map (bfN es r j))))) (fun i _ => k - (intOf i).toNat)
      case atStart => exact ⟨0, Nat.zero_le _, rfl, HR0⟩
      case round =>
        clear HR0
        obtain ⟨j, hj, rfl, HRj⟩ := hrel
        obtain ⟨⟨f0, f1⟩, hbw0⟩ := HF.out wr HRj.out.1
        by_cases hltj : j < k
        · have hji : (j : Int) < (k : Int) := by omega
          go_wp2_with fail
          clear f0 f1 hbw0
          go_loopw [8] (fun i wx => ∃ m : Nat, m ≤ le ∧ i = .int .i64 m ∧ Hid (Below W1.heap.size W1 wx ∧ wx.ownsRow W1.heap.size 3 1 (.slice ua k uc) k (fl ic (ns.map ((es.take m).foldl rlx (bfN es r j)))) ∧ SndC es r ((es.take m).foldl rlx (bfN es r j)))) (fun i _ => le - (intOf i).toNat)
          case atStart => exact ⟨0, Nat.zero_le _, rfl, hidIn ⟨HRj.out.1, HRj.out.2, snd_bf es r j⟩⟩
          case round =>
            clear HRj
            obtain ⟨m, hm, rfl, HRm⟩ := hrel
            obtain ⟨hbm, hrm, hsm⟩ := HRm.out
            obtain ⟨⟨f0, f1⟩, hbw0⟩ := HF.out wr hbm
            by_cases hltm : m < le
            · have hmi : (m : Int) < (le : Int) := by omega
              obtain ⟨bk, o, rfl, hbk, hcell⟩ := Hea.out (by have := Hle.out; omega)
              obtain ⟨⟨x, y, c⟩, hz⟩ : ∃ z, es[m]? = some z := ⟨es[m]'(by have := Hle.out; omega), List.getElem?_eq_getElem _⟩
              obtain ⟨q0, q1, q2⟩ := hcell m _ hz
              have hmem := List.mem_of_getElem? hz
              obtain ⟨hxn, hyn⟩ := Hbd.out _ hmem
              have hc := Hpos.out _ hmem
              simp only at q0 q1 q2 hxn hyn hc
              have c0 := (hbw0.cell (p := ⟨bk, o + m * 3, none⟩) hbk).trans q0
              have c1 := (hbw0.cell (p := ⟨bk, o + m * 3 + 1, none⟩) hbk).trans q1
              have c2 := (hbw0.cell (p := ⟨bk, o + m * 3 + 2, none⟩) hbk).trans q2
              obtain ⟨px, hpx⟩ : ∃ px, ns[px]? = some x := List.getElem?_of_mem hxn
              obtain ⟨py, hpy⟩ : ∃ py, ns[py]? = some y := List.getElem?_of_mem hyn
              have hix := plI_some (plN_nodup Hnn.out hpx)
              have hiy := plI_some (plN_nodup Hnn.out hpy)
              have hpk : px < k := by have := (List.getElem?_eq_some_iff.1 hpx).1; have := Hln.out; omega
              have hpk2 : py < k := by have := (List.getElem?_eq_some_iff.1 hpy).1; have := Hln.out; omega
              have hgr := HGr.out
              rw [Hln.out, Hle.out] at hgr
              have HP : Hid (∀ z dd os, Calls Tryz.prog 124 #[grV (.slice na k nca) (.slice (some ⟨bk, o, none⟩) le eca), .int .i64 z] (Go.Sort.grow (redrawn wr dd) os) fun e w' => e = .returned (.int .i64 (plI ns z)) ∧ Below (Go.Sort.grow (redrawn wr dd) os).heap.size (Go.Sort.grow (redrawn wr dd) os) w') := hidIn fun z dd os => place_any (hgr.keep (hbw0.trans ((below_regrown wr dd os).mono hbw0.size)) (Nat.le_refl _)) z
              obtain ⟨D, hD⟩ : ∃ D, (es.take m).foldl rlx (bfN es r j) = D := ⟨_, rfl⟩
              rw [hD] at hrm hsm
              have hDb : ∀ z, 0 ≤ D z ∧ D z ≤ 1073741824 := fun z => by
                rcases hsm z with h1 | ⟨h1, hh, h2⟩
                · rw [h1]; unfold farC; omega
                · have := (h2.pos Hpos.out).1
                  unfold farC at h1
                  omega
              obtain ⟨g, hua, hgb, hgc, hgf⟩ := rowI_open hrm (by rw [List.length_map]; exact Hln.out) (by omega)
              subst hua
              have HRow := hidIn (And.intro hbm hrm)
              have rx := hgc px (D x) (by rw [List.getElem?_map, hpx]; rfl)
              have ry := hgc py (D y) (by rw [List.getElem?_map, hpy]; rfl)
              have fy := hgf py
              have HNo : Hid (¬ (D x < farC ∧ D x + c < D y) → (es.take (m + 1)).foldl rlx (bfN es r j) = D) := hidIn fun hn => by
                rw [take_snoc hz, List.foldl_append, hD]
                show rlx D (x, y, c) = D
                unfold rlx
                rw [if_neg hn]
              have HYe : Hid ((D x < farC ∧ D x + c < D y) → ns.map ((es.take (m + 1)).foldl rlx (bfN es r j)) = (ns.map D).set py (D x + c)) := hidIn fun hy => by
                rw [take_snoc hz, List.foldl_append, hD, ← map_upd Hnn.out hpy]
                show ns.map (rlx D (x, y, c)) = _
                unfold rlx
                rw [if_pos hy]
              have HSn : Hid (SndC es r ((es.take (m + 1)).foldl rlx (bfN es r j))) := hidIn (by
                rw [take_snoc hz, List.foldl_append, hD]
                exact snd_rlx hmem hsm)
              have Hix := hidIn hix
              have Hiy := hidIn hiy
              have hpki : (px : Int) < (k : Int) := by omega
              have hpki2 : (py : Int) < (k : Int) := by omega
              obtain ⟨hx0, hx1⟩ := hDb x
              obtain ⟨hy0, hy1⟩ := hDb y
              have Hgb := hidIn hgb
              have HD := hidIn hD
              have HB0 := hidIn hbw0
              have HC := hidIn (And.intro hbk (And.intro q0 (And.intro q1 q2)))
              have g0 := cell_regrown f0
              have g1 := cell_regrown f1
              have g2 := cell_regrown c0
              have g3 := cell_regrown c1
              clear hcell hz q0 q1 q2 hmem hxn hyn hpx hpy hix hiy hgr hD hDb hgb hgc hgf hbm hrm hsm hbw0 HRm hpk hpk2 hbk
              go_upto_region 14 with fail
              refine wp_region_quiet_below (by kernel_rfl) (by kernel_rfl) ?_
              repeat (go_big_quiet_step (first | (go_at_call 124; exact Calls.regrown_of (HP.out _ _ _))))
              refine wpQuiet_nil ?_
              intro _ hw'
              obtain ⟨⟨dq, osq⟩, hw''⟩ := hw'
              subst hw''
              rw [Hix.out, Hiy.out]
              have hb := below_regrown wr dq osq
              have HRow2 := hidIn (And.intro (HRow.out.1.trans (hb.mono HRow.out.1.size)) (row_below HRow.out.2 hb (Nat.le_refl _)))
              have k0 := (hb.cell (p := ⟨q, 0, none⟩) (block_lt_of_cell f0)).trans f0
              have k1 := (hb.cell (p := ⟨q, 1, none⟩) (block_lt_of_cell f1)).trans f1
              have k2 := (hb.cell (p := ⟨bk, o + m * 3 + 2, none⟩) (block_lt_of_cell c2)).trans c2
              have k3 := (hb.cell (p := ⟨g, px, none⟩) (block_lt_of_cell rx)).trans rx
              have k4 := (hb.cell (p := ⟨g, py, none⟩) (block_lt_of_cell ry)).trans ry
              generalize Go.Sort.grow (redrawn wr dq) osq = wv at HRow2 k0 k1 k2 k3 k4 ⊢
              clear hb g0 g1 g2 g3 f0 f1 c0 c1 c2 rx ry fy HP HRow HB0
              generalize D x = dx at *
              generalize D y = dy at *
              have hwr2 : wrap64 (dx + c) = dx + c := by unfold wrap64; omega
              have hwr : IntKind.i64.wrap (dx + c) = dx + c := (IntKind.wrap_i64 _).trans (by unfold wrap64 at hwr2; exact hwr2)
              by_cases h1 : dx < farC
              · have h1' : dx < 1073741824 := h1
                by_cases h2 : dx + c < dy
                · have hy : dx < farC ∧ dx + c < dy := ⟨h1, h2⟩
                  have HRn : Hid (∀ wz, Below W1.heap.size W1 wz → wz.ownsRow W1.heap.size 3 1 (.slice (some ⟨g, 0, none⟩) k uc) k (fl ic (ns.map D)) → Below W1.heap.size W1 (wz.setCell ⟨g, py, none⟩ (.int .i64 (dx + c))) ∧ (wz.setCell ⟨g, py, none⟩ (.int .i64 (dx + c))).ownsRow W1.heap.size 3 1 (.slice (some ⟨g, 0, none⟩) k uc) k (fl ic (ns.map ((es.take (m + 1)).foldl rlx (bfN es r j))))) := hidIn fun wz hb hr => ⟨hb.setCell (p := ⟨g, py, none⟩) Hgb.out _, by
                    rw [HYe.out hy, ← flic_set]
                    exact row_set hr py _⟩
                  clear hy
                  have fy := frozen_row HRow2.out.2 py
                  go_upto_region 15 with fail
                  go_quiet (fail)
                  go_upto_region 16 with fail
                  go_region
                  go_wp2_with fail
                  go_roundw
                  case rel =>
                    obtain ⟨h4, h5⟩ := HRn.out _ (below_drewN HRow2.out.1 nq).drew (row_below (row_drewN HRow2.out.2 nq) ((Below.refl _ _).drew) (Nat.le_refl _))
                    exact ⟨m + 1, by omega, by go_num, hidIn ⟨h4, h5, HSn.out⟩⟩
                  case measure => simp [intOf]; omega
                · clear h1
                  have hn : ¬ (dx < farC ∧ dx + c < dy) := fun e => h2 e.2
                  have HRn : Hid (Below W1.heap.size W1 wv ∧ wv.ownsRow W1.heap.size 3 1 (.slice (some ⟨g, 0, none⟩) k uc) k (fl ic (ns.map ((es.take (m + 1)).foldl rlx (bfN es r j)))) ∧ SndC es r ((es.take (m + 1)).foldl rlx (bfN es r j))) := hidIn ⟨HRow2.out.1, by rw [HNo.out hn]; exact HRow2.out.2, HSn.out⟩
                  clear hn
                  go_upto_region 15 with fail
                  go_quiet (fail)
                  go_wp2_with fail
                  go_roundw
                  case rel => exact ⟨m + 1, by omega, by go_num, hidIn ⟨below_drewN HRn.out.1 _, row_drewN HRn.out.2.1 _, HRn.out.2.2⟩⟩
                  case measure => simp [intOf]; omega
              · have h1' : ¬ dx < 1073741824 := h1
                have hn : ¬ (dx < farC ∧ dx + c < dy) := fun e => h1 e.1
                have HRn : Hid (Below W1.heap.size W1 wv ∧ wv.ownsRow W1.heap.size 3 1 (.slice (some ⟨g, 0, none⟩) k uc) k (fl ic (ns.map ((es.take (m + 1)).foldl rlx (bfN es r j)))) ∧ SndC es r ((es.take (m + 1)).foldl rlx (bfN es r j))) := hidIn ⟨HRow2.out.1, by rw [HNo.out hn]; exact HRow2.out.2, HSn.out⟩
                clear hn
                go_upto_region 15 with fail
                go_quiet (fail)
                go_wp2_with fail
                go_roundw
                case rel => exact ⟨m + 1, by omega, by go_num, hidIn ⟨below_drewN HRn.out.1 _, row_drewN HRn.out.2.1 _, HRn.out.2.2⟩⟩
                case measure => simp [intOf]; omega
            · have hmi : ¬ (m : Int) < (le : Int) := by omega
              have HRe : Hid (Below W1.heap.size W1 wr ∧ wr.ownsRow W1.heap.size 3 1 (.slice ua k uc) k (fl ic (ns.map (bfN es r (j + 1))))) := hidIn ⟨hbm, by rw [List.take_of_length_le (by have := Hle.out; omega)] at hrm; exact hrm⟩
              clear hbm hrm hsm hbw0 HRm
              go_wp2_with fail
              go_roundw
              case rel => exact ⟨j + 1, by omega, by go_num, HRe⟩
              case measure => simp [intOf]; omega
        · have hji : ¬ (j : Int) < (k : Int) := by omega
          have hje : j = k := by omega
          subst hje
          have HE : Hid (wr.ownsRow w.heap.size 3 1 (.slice ua j uc) j (fl ic (ns.map (bfN es r j)))) := hidIn (row_low HRj.out.2 Hsz.out)
          have HB := hidIn hbw0
          clear hbw0
          go_wp2_with fail
          go_ret
          exact ⟨⟨_, _, rfl, HE.out⟩, HB.out⟩
end Go.Proofs.YtbggingacoheiaaGreatDoor
namespace Go.Proofs.YtbggingacoheiaaGreatDoor
open Go.RowKit

/-- Does an edge lie on least-cost ways, by costs? -/
def tgI (D : Int → Int) (e : Ed) : Bool := decide (D e.1 < farC) && (D e.1 + e.2.2 == D e.2.1)
set_option maxRecDepth 100000 in
set_option maxHeartbeats 2000000 in
theorem tight_any {ns : List Int} {es : List Ed} {vn ve cv : Value} {D : Int → Int} {w : World} (h : GrAt w vn ve ns es) (hok : graphOk ns es = true) (hc : SlAt ic 1 w cv (ns.map D)) (hD : ∀ z, 0 ≤ D z ∧ D z ≤ 1073741824) {e : Ed} (he : e ∈ es) :
    Calls Tryz.prog 125 #[grV vn ve, cv, edV e] w fun x w' => x = .returned (.bool (tgI D e)) ∧ Below w.heap.size w w' := by
  obtain ⟨x, y, c⟩ := e
  obtain ⟨hxn, hyn⟩ := (graphOk_bd hok).2.1 _ he
  have hcp := graphOk_pos hok _ he
  simp only at hxn hyn hcp
  obtain ⟨px, hpx⟩ : ∃ px, ns[px]? = some x := List.getElem?_of_mem hxn
  obtain ⟨py, hpy⟩ : ∃ py, ns[py]? = some y := List.getElem?_of_mem hyn
  have Hix := hidIn (plI_some (plN_nodup (graphOk_nn hok) hpx))
  have Hiy := hidIn (plI_some (plN_nodup (graphOk_nn hok) hpy))
  have hg := h
  obtain ⟨na, nca, rfl, hnl, _, _⟩ := h.n.ints
  obtain ⟨ea, eca, rfl, hel, _, _⟩ := h.e.eds
  obtain ⟨ca, cca, rfl, _, _, hcc⟩ := hc.ints
  obtain ⟨cb, co, rfl, hcb, hccell⟩ := hcc (by rw [List.length_map]; have := (List.getElem?_eq_some_iff.1 hpx).1; omega)
  have hpk : px < ns.length := (List.getElem?_eq_some_iff.1 hpx).1
  have hpk2 : py < ns.length := (List.getElem?_eq_some_iff.1 hpy).1
  have rx := hccell px (D x) (by rw [List.getElem?_map, hpx]; rfl)
  have ry := hccell py (D y) (by rw [List.getElem?_map, hpy]; rfl)
  obtain ⟨W1, hW1⟩ : ∃ W1, (w.alloc (.cells #[.slice na ns.length nca, .slice ea es.length eca] 67)).alloc (.cells #[.int .i64 x, .int .i64 y, .int .i64 c] 122) = W1 := ⟨_, rfl⟩
  have bA : Below w.heap.size w W1 := by rw [← hW1]; exact ((Below.refl _ w).alloc (Nat.le_refl _) _).alloc (by simp) _
  have hGB : W1.heap[w.heap.size]? = some (.cells #[.slice na ns.length nca, .slice ea es.length eca] 67) := by rw [← hW1, Below.heap_alloc _ _ _ (by simp)]; exact heap_alloc_last w _
  have hEB : W1.heap[w.heap.size + 1]? = some (.cells #[.int .i64 x, .int .i64 y, .int .i64 c] 122) := by
    rw [← hW1]
    have := heap_alloc_last (w.alloc (.cells #[.slice na ns.length nca, .slice ea es.length eca] 67)) (.cells #[.int .i64 x, .int .i64 y, .int .i64 c] 122)
    rwa [World.size_alloc] at this
  obtain ⟨q, hqe⟩ : ∃ q, w.heap.size = q := ⟨_, rfl⟩
  have HP : Hid (∀ z dd os, Calls Tryz.prog 124 #[grV (.slice na ns.length nca) (.slice ea es.length eca), .int .i64 z] (Go.Sort.grow (redrawn W1 dd) os) fun e w' => e = .returned (.int .i64 (plI ns z)) ∧ Below (Go.Sort.grow (redrawn W1 dd) os).heap.size (Go.Sort.grow (redrawn W1 dd) os) w') := hidIn fun z dd os => place_any (hg.keep (bA.trans ((below_regrown W1 dd os).mono bA.size)) (Nat.le_refl _)) z
  replace rx := (bA.cell (p := ⟨cb, co + px, none⟩) hcb).trans rx
  replace ry := (bA.cell (p := ⟨cb, co + py, none⟩) hcb).trans ry
  have HB := hidIn bA
  rw [hqe] at hGB hEB
  have f0 := cell_of_row _ _ 0 _ _ _ hGB
  have f1 := cell_of_row _ _ 1 _ _ _ hGB
  have e0 := cell_of_row _ _ 0 _ _ _ hEB
  have e1 := cell_of_row _ _ 1 _ _ _ hEB
  have e2 := cell_of_row _ _ 2 _ _ _ hEB
  simp at f0 f1 e0 e1 e2
  obtain ⟨hx0, hx1⟩ := hD x
  obtain ⟨hy0, hy1⟩ := hD y
  have HT : Hid (tgI D (x, y, c) = (decide (D x < farC) && (D x + c == D y))) := hidIn rfl
  rw [HT.out]
  generalize D x = dx at *
  generalize D y = dy at *
  obtain ⟨bt, hbt⟩ : ∃ bt, (decide (dx < farC) && (dx + c == dy)) = bt := ⟨_, rfl⟩
  rw [hbt]
  have HBt := hidIn hbt
  clear hbt
  rw [List.length_map]
  obtain ⟨ln, hln⟩ : ∃ ln, ns.length = ln := ⟨_, rfl⟩
  obtain ⟨le, hle⟩ : ∃ le, es.length = le := ⟨_, rfl⟩
  rw [hln] at hnl hpk hpk2 f0 hW1 HP ⊢
  rw [hle] at hel f1 hW1 HP ⊢
  have hpki : (px : Int) < (ln : Int) := by omega
  have hpki2 : (py : Int) < (ln : Int) := by omega
  have hwr2 : wrap64 (dx + c) = dx + c := by unfold wrap64; omega
  have hwr : IntKind.i64.wrap (dx + c) = dx + c := (IntKind.wrap_i64 _).trans (by unfold wrap64 at hwr2; exact hwr2)
  have HW := hidIn hW1
  have g0 := cell_regrown f0
  have g1 := cell_regrown f1
  have g2 := cell_regrown e0
  have g3 := cell_regrown e1
  clear hW1 bA hGB hEB hg h hc hcc hccell hpx hpy hxn hyn he hok hD hcb hln hle HT hpk hpk2
  go_enter Tryz.func125, Tryz.ntmps125
  go_upto_region 1 with fail
  rw [HW.out]
  clear HW hqe
  refine wp_region_quiet_below (by kernel_rfl) (by kernel_rfl) ?_
  repeat (go_big_quiet_step (first | (go_at_call 124; exact Calls.regrown_of (HP.out _ _ _))))
  refine wpQuiet_nil ?_
  intro _ hw'
  obtain ⟨⟨dq, osq⟩, hw''⟩ := hw'
  subst hw''
  rw [Hix.out, Hiy.out]
  have hb := below_regrown W1 dq osq
  have HB2 := hidIn (HB.out.trans (hb.mono HB.out.size))
  have k2 := (hb.cell (p := ⟨q + 1, 2, none⟩) (block_lt_of_cell e2)).trans e2
  have k3 := (hb.cell (p := ⟨cb, co + px, none⟩) (block_lt_of_cell rx)).trans rx
  have k4 := (hb.cell (p := ⟨cb, co + py, none⟩) (block_lt_of_cell ry)).trans ry
  generalize Go.Sort.grow (redrawn W1 dq) osq = wv at HB2 k2 k3 k4 ⊢
  clear hb g0 g1 g2 g3 f0 f1 e0 e1 e2 rx ry HP HB
  by_cases h1 : dx < farC
  · have h1' : dx < 1073741824 := h1
    obtain ⟨bq, hbq⟩ : ∃ bq, (dx + c == dy) = bq := ⟨_, rfl⟩
    have HBe : Hid (bt = bq) := hidIn (by rw [← HBt.out, decide_eq_true h1, Bool.true_and]; exact hbq)
    clear h1
    go_upto_region 2 with fail
    go_quiet (fail)
    go_wp2_with fail
    go_ret
    exact ⟨by rw [HBe.out]; rfl, below_drewN HB2.out _⟩
  · have h1' : ¬ dx < 1073741824 := h1
    have HBe : Hid (bt = false) := hidIn (by rw [← HBt.out, decide_eq_false h1, Bool.false_and])
    clear h1
    go_upto_region 2 with fail
    go_quiet (fail)
    go_wp2_with fail
    go_ret
    exact ⟨by rw [HBe.out]; rfl, below_drewN HB2.out _⟩
/-- Tight edges of the document's costs lead into nodes. -/
theorem tg_into {ns : List Int} {es : List Ed} (hok : graphOk ns es = true) {r : Int} (hr : r ∈ ns) {e : Ed} (he : e ∈ es) {d : Int} (hd : Ds es r e.2.1 d) : tgI (bfN es r ns.length) e = true ↔ Into es r e.2.1 e := by
  unfold tgI
  simp only [Bool.and_eq_true, decide_eq_true_eq, beq_iff_eq]
  have hdy : bfN es r ns.length e.2.1 = d := by
    rcases bf_all hok hr e.2.1 with ⟨d', h1, h2, _⟩ | ⟨h1, _⟩
    · rw [h2]; exact h1.uniq hd
    · exact absurd hd (h1 d)
  rw [hdy]
  rcases bf_all hok hr e.1 with ⟨d', h1, h2, _⟩ | ⟨h1, h2⟩
  · rw [h2]
    constructor
    · rintro ⟨_, h3⟩
      exact ⟨he, rfl, d', h1, by rw [h3]; exact hd⟩
    · rintro ⟨_, _, c, h3, h4⟩
      have e1 := h3.uniq h1
      have e2 := h4.uniq hd
      obtain ⟨_, _, _, h7, h8, h9⟩ : ∃ d'', Ds es r e.1 d'' ∧ d' = d'' ∧ bfN es r ns.length e.1 = d'' ∧ 0 ≤ d'' ∧ d'' ≤ 1000 * ns.length := by
        rcases bf_all hok hr e.1 with ⟨d'', k1, k2, k3, k4⟩ | ⟨k1, _⟩
        · exact ⟨d'', k1, h1.uniq k1, k2, k3, k4⟩
        · exact absurd h1 (k1 d')
      have := graphOk_n24 hok
      refine ⟨?_, by omega⟩
      unfold farC
      omega
  · rw [h2]
    constructor
    · rintro ⟨h3, _⟩
      exact absurd h3 (Int.lt_irrefl _)
    · rintro ⟨_, _, c, h3, _⟩
      exact absurd h3 (h1 c)
end Go.Proofs.YtbggingacoheiaaGreatDoor
namespace Go.Proofs.YtbggingacoheiaaGreatDoor

theorem edgesOk_rise {ns : List Int} : ∀ (es : List Ed) (last : Ed), edgesOk ns last es = true → (∀ e ∈ es, risesE last e = true) ∧ es.Pairwise fun a b => risesE a b = true
  | [], _, _ => by simp
  | a :: es, last, h => by
    simp only [edgesOk, edgeOk, Bool.and_eq_true] at h
    obtain ⟨h1, h2⟩ := edgesOk_rise es a h.2
    have hl : risesE last a = true := h.1.2.2.2.2
    have tr : ∀ x y z : Ed, risesE x y = true → risesE y z = true → risesE x z = true := fun x y z g1 g2 => by
      simp only [risesE, Bool.or_eq_true, Bool.and_eq_true, decide_eq_true_eq] at g1 g2 ⊢
      omega
    refine ⟨fun e he => ?_, List.pairwise_cons.2 ⟨h1, h2⟩⟩
    rcases List.mem_cons.1 he with rfl | he
    · exact hl
    · exact tr _ _ _ hl (h1 e he)
theorem graphOk_nodup {ns : List Int} {es : List Ed} (h : graphOk ns es = true) : es.Nodup := by
  simp only [graphOk, Bool.and_eq_true] at h
  exact (edgesOk_rise es _ h.2.2).2.imp (fun {a b} hr e => by
    subst e
    simp [risesE] at hr)
theorem told_nodup {es : List Ed} (hd : es.Nodup) (P : List (Int × Int)) : ∀ Q : List (Int × Int), (Q.map (·.1)).Nodup → (told es P Q).Nodup
  | [], _ => by simp [told]
  | n :: Q, hq => by
    rw [List.map_cons, List.nodup_cons] at hq
    rw [told, List.nodup_append]
    refine ⟨hd.filter _, told_nodup hd P Q hq.2, fun a ha b hb e => ?_⟩
    subst e
    simp only [List.mem_filter, Bool.and_eq_true, decide_eq_true_eq] at ha
    obtain ⟨⟨m, hm, h1⟩, _⟩ := told_mem.1 hb
    exact hq.1 (List.mem_map.2 ⟨m, hm, by rw [← h1, ha.2.1]⟩)
def two64 : Nat := 18446744073709551616
def cntG (acc was : Nat) (_ : Ed) : Nat := (acc + was) % 18446744073709551616
theorem cntE_step : cntE = stepG cntG := by funext c e; rfl
theorem fold_sum (N : Nat → Nat) : ∀ (L : List Ed) (a : Nat), a < 18446744073709551616 → L.foldl (fun acc e => cntG acc (N e.1.toNat) e) a = (a + (L.map fun e => N e.1.toNat).sum) % 18446744073709551616
  | [], a, h => by simp; omega
  | e :: L, a, h => by
    rw [List.foldl_cons, fold_sum N L _ (by unfold cntG; omega), List.map_cons, List.sum_cons]
    unfold cntG
    omega
theorem perm_into {ns : List Int} {es : List Ed} {r : Int} {P : List (Int × Int)} (hok : graphOk ns es = true) (h : IsNear es r P) (hn : NdOk P) (x : Int) (hx : x ∈ ns) (I : Ed → Bool) (hI : ∀ e, e ∈ es → (I e = true ↔ Into es r x e)) : ((told es P P).filter fun e => decide (e.2.1.toNat = x.toNat)).Perm (es.filter I) := by
  have hbd := graphOk_bd hok
  have h0 : ∀ n ∈ P, 0 ≤ n.1 := fun n h1 => by have := (hn.2 n h1).1; omega
  have hd := graphOk_nodup hok
  rw [List.perm_ext_iff_of_nodup ((told_nodup hd P P h.nd).filter _) (hd.filter _)]
  intro e
  rw [List.mem_filter, List.mem_filter, h.told_iff h0, decide_eq_true_eq]
  have h2 := hbd.1 x hx
  constructor
  · rintro ⟨⟨h1, d, hd1, hd2⟩, h3⟩
    have h4 := hbd.1 _ (hbd.2.1 e h1).2
    have h5 : e.2.1 = x := by omega
    exact ⟨h1, (hI e h1).2 ⟨h1, h5, d, hd1, by rw [← h5]; exact hd2⟩⟩
  · rintro ⟨h1, h3⟩
    obtain ⟨_, h4, d, hd1, hd2⟩ := (hI e h1).1 h3
    exact ⟨⟨h1, d, hd1, by rw [h4]; exact hd2⟩, by rw [h4]⟩
/-- As many ways as those ahead have together. -/
theorem cnt_all {ns : List Int} {es : List Ed} {r : Int} {P : List (Int × Int)} (hok : graphOk ns es = true) (hr : r ∈ ns) (h : IsNear es r P) (hn : NdOk P) (x : Int) (hx : x ∈ ns) (I : Ed → Bool) (hI : ∀ e, e ∈ es → (I e = true ↔ Into es r x e)) :
    cntT r (told es P P) x.toNat = ((if x = r then 1 else 0) + ((es.filter I).map fun e => cntT r (told es P P) e.1.toNat).sum) % 18446744073709551616 := by
  have hp := graphOk_pos hok
  have hbd := graphOk_bd hok
  have h0 : ∀ n ∈ P, 0 ≤ n.1 := fun n h1 => by have := (hn.2 n h1).1; omega
  have hfold := topo_fold cntG (putV (fun _ => 0) r.toNat 1) _ _ rfl (h.topo h0 hp) x.toNat
  have h1 := hbd.1 x hx
  have h2 := hbd.1 r hr
  have hcnt : ∀ y, (told es P P).foldl (stepG cntG) (putV (fun _ => 0) r.toNat 1) y = cntT r (told es P P) y := fun y => by unfold cntT; rw [cntE_step]; rfl
  rw [hcnt] at hfold
  rw [hfold]
  have hi : putV (fun _ => 0) r.toNat 1 x.toNat = (if x = r then 1 else 0 : Nat) := by
    unfold putV
    by_cases e : x = r
    · rw [if_pos (by rw [e]), if_pos e]
    · rw [if_neg (by omega), if_neg e]
  rw [hi]
  have hf : ∀ (L : List Ed) (a : Nat), L.foldl (fun acc e => cntG acc ((told es P P).foldl (stepG cntG) (putV (fun _ => 0) r.toNat 1) e.1.toNat) e) a = L.foldl (fun acc e => cntG acc (cntT r (told es P P) e.1.toNat) e) a := fun L a => by
    congr
  rw [hf, fold_sum _ _ _ (by split <;> omega), ((perm_into hok h hn x hx I hI).map _).sum_nat]
end Go.Proofs.YtbggingacoheiaaGreatDoor
namespace Go.Proofs.YtbggingacoheiaaGreatDoor

def wh (es : List Ed) (a : Int) : Nat → Int → Int → Nat
  | 0, x, c => if x = a ∧ c = 0 then 1 else 0
  | h + 1, x, c => (es.map fun e => if e.2.1 = x then wh es a h e.1 (c - e.2.2) else 0).sum
theorem sum_add (es : List Ed) (F G : Ed → Nat) : (es.map fun e => F e + G e).sum = (es.map F).sum + (es.map G).sum := by
  induction es with
  | nil => rfl
  | cons e es ih => simp only [List.map_cons, List.sum_cons, ih]; omega
theorem sum_swap (fs : List Ed) (G : Ed → Ed → Nat) : ∀ es : List Ed, (es.map fun e => (fs.map fun f => G e f).sum).sum = (fs.map fun f => (es.map fun e => G e f).sum).sum
  | [] => by
    have : ∀ fs : List Ed, (fs.map fun _ => 0).sum = 0 := fun fs => by induction fs with | nil => rfl | cons f fs ih => rw [List.map_cons, List.sum_cons, ih]
    simp only [List.map_nil, List.sum_nil]
    exact (this fs).symm
  | e :: es => by
    simp only [List.map_cons, List.sum_cons]
    rw [sum_swap fs G es, sum_add]
theorem sum_if (es : List Ed) (p : Prop) [Decidable p] (F : Ed → Nat) : (if p then (es.map F).sum else 0) = (es.map fun e => if p then F e else 0).sum := by
  by_cases h : p
  · simp only [h, if_true]
  · simp only [h, if_false]
    induction es with
    | nil => rfl
    | cons e es ih => rw [List.map_cons, List.sum_cons, ← ih]
theorem sum_congr {es : List Ed} {F G : Ed → Nat} (h : ∀ e ∈ es, F e = G e) : (es.map F).sum = (es.map G).sum := by
  rw [List.map_congr_left h]
theorem wh_first (es : List Ed) : ∀ (h : Nat) (a x c : Int), wh es a (h + 1) x c = (es.map fun e => if e.1 = a then wh es e.2.1 h x (c - e.2.2) else 0).sum
  | 0, a, x, c => by
    refine sum_congr fun e _ => ?_
    simp only [wh]
    by_cases h1 : e.2.1 = x <;> by_cases h2 : e.1 = a <;> simp [h1, h2]
    intro h3
    exact absurd h3.symm h1
  | h + 1, a, x, c => by
    have h1 : wh es a (h + 2) x c = (es.map fun e => (es.map fun f => if e.2.1 = x then (if f.1 = a then wh es f.2.1 h e.1 (c - e.2.2 - f.2.2) else 0) else 0).sum).sum := by
      refine sum_congr fun e _ => ?_
      rw [wh_first es h a e.1 (c - e.2.2), sum_if]
    have h2 : (es.map fun f => if f.1 = a then wh es f.2.1 (h + 1) x (c - f.2.2) else 0).sum = (es.map fun f => (es.map fun e => if f.1 = a then (if e.2.1 = x then wh es f.2.1 h e.1 (c - f.2.2 - e.2.2) else 0) else 0).sum).sum := by
      refine sum_congr fun f _ => ?_
      rw [← sum_if]
      rfl
    rw [h1, h2, sum_swap]
    refine sum_congr fun f _ => sum_congr fun e _ => ?_
    by_cases g1 : e.2.1 = x <;> by_cases g2 : f.1 = a <;> simp [g1, g2]
    congr 1
    omega
def turnE (e : Ed) : Ed := (e.2.1, e.1, e.2.2)
theorem turn_perm {es : List Ed} (hd : es.Nodup) (hs : BothW es) : (es.map turnE).Perm es := by
  have hinj : (es.map turnE).Nodup := by
    refine List.Pairwise.map _ ?_ hd
    intro a b hab e
    apply hab
    obtain ⟨a1, a2, a3⟩ := a
    obtain ⟨b1, b2, b3⟩ := b
    simp only [turnE, Prod.mk.injEq] at e ⊢
    exact ⟨e.2.1, e.1, e.2.2⟩
  rw [List.perm_ext_iff_of_nodup hinj hd]
  intro e
  constructor
  · intro h
    obtain ⟨f, hf, rfl⟩ := List.mem_map.1 h
    exact hs f hf
  · intro h
    exact List.mem_map.2 ⟨_, hs e h, rfl⟩
theorem wh_turn {es : List Ed} (hd : es.Nodup) (hs : BothW es) : ∀ (h : Nat) (a x c : Int), wh es a h x c = wh es x h a c
  | 0, a, x, c => by
    simp only [wh]
    by_cases e : x = a
    · subst e; rfl
    · rw [if_neg (fun h => e h.1), if_neg (fun h => e h.1.symm)]
  | h + 1, a, x, c => by
    rw [wh_first es h x a c]
    show (es.map fun e => if e.2.1 = x then wh es a h e.1 (c - e.2.2) else 0).sum = _
    rw [← ((turn_perm hd hs).map fun e => if e.2.1 = x then wh es a h e.1 (c - e.2.2) else 0).sum_nat, List.map_map]
    refine sum_congr fun e _ => ?_
    show (if e.1 = x then wh es a h e.2.1 (c - e.2.2) else 0) = _
    rw [wh_turn hd hs h a e.2.1]
/-- Where there are such ways, there is one. -/
theorem wh_wy {es : List Ed} {a : Int} : ∀ {h : Nat} {x c : Int}, 0 < wh es a h x c → Wy es a x c h
  | 0, x, c, hw => by
    simp only [wh] at hw
    split at hw
    · rename_i h1
      rw [h1.1, h1.2]
      exact Wy.refl _ _
    · omega
  | h + 1, x, c, hw => by
    have : ∃ e ∈ es, e.2.1 = x ∧ 0 < wh es a h e.1 (c - e.2.2) := Classical.byContradiction fun hno => by
      have h0 : wh es a (h + 1) x c = (es.map fun _ => 0).sum := sum_congr fun e he => by
        by_cases h1 : e.2.1 = x
        · rw [if_pos h1]
          exact Nat.eq_zero_of_not_pos fun h2 => hno ⟨e, he, h1, h2⟩
        · rw [if_neg h1]
      have hz : (es.map fun _ => 0).sum = 0 := by
        clear h0 hw hno
        induction es with
        | nil => rfl
        | cons e es ih => rw [List.map_cons, List.sum_cons, ih]
      omega
    obtain ⟨e, he, h1, h2⟩ := this
    have h3 := (wh_wy h2).step he
    rw [h1, Int.sub_add_cancel] at h3
    exact h3
end Go.Proofs.YtbggingacoheiaaGreatDoor
