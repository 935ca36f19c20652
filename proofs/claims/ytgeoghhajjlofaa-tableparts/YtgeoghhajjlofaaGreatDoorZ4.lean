/- The table that Build answers is one, whatever order the map was gone through (pure). What Build answers, with the ids in rising order (pure). Ways turned round; ways where edges are fewer. Costs, edge by edge, till nothing becomes cheaper: the document's way, as functions. The document's Router, has, Check. The document's place, edge. The document's Near. The document's Part. kept; GraphTells. The document's Costs. The document's Tight. What Count has of each node at its end: as many ways as those ahead of it have, together. How many ways of so many hops and such a cost there are; the same, turned round. Count has at its end how many least-cost ways there are. Count never runs over: what it has is above 0 just where there is a way. The document's Count, as functions: by rising costs. What the document's From tells of a node, as functions. What Build answers is made of the records alone (pure): the ways, the ids, their owners, the first steps. The chapter's example of tables, as lists (pure). -/
import Derived.Test.YtgeoghhajjlofaaGreatDoorZ3
import Derived.Test.YtgeoghhajjlofaaGreatDoorGF
import Derived.Test.YtgeoghhajjlofaaGreatDoorZ2
import Derived.Test.YtgeoghhajjlofaaGreatDoorGH
namespace Go.Proofs.YtgeoghhajjlofaaGreatDoor

theorem plc_one : ∀ {l m : List Rw}, l.Perm m → Plc l → Plc m → (∀ x ∈ l, ∀ y ∈ l, x.1 = y.1 → x.2.1 = y.2.1 → x = y) → l = m := by
  intro l
  induction l with
  | nil => intro m hp _ _ _; exact (hp.symm.eq_nil).symm
  | cons a l ih =>
    intro m hp h1 h2 hn
    cases m with
    | nil => exact absurd hp.eq_nil (by simp)
    | cons b m =>
      have h1' := List.pairwise_cons.mp h1
      have h2' := List.pairwise_cons.mp h2
      have hba : b ∈ a :: l := hp.mem_iff.mpr (by simp)
      have hab : a ∈ b :: m := hp.mem_iff.mp (by simp)
      have hE : a = b := by
        rcases List.mem_cons.mp hba with e | hb
        · exact e.symm
        rcases List.mem_cons.mp hab with e | ha
        · exact e
        have k1 := h1'.1 b hb
        have k2 := h2'.1 a ha
        exact hn a (by simp) b hba (by omega) (by omega)
      subst hE
      rw [ih (List.Perm.cons_inv hp) h1'.2 h2'.2 fun x hx y hy => hn x (by simp [hx]) y (by simp [hy])]
/-- What was gone through, by another row of its ids. -/
def byIds (P : List Wi') (ids : List Int) : List Wi' := ids.filterMap fun i => P.find? fun p => decide (p.1 = i)
theorem byIds_ids {P : List Wi'} : ∀ {ids : List Int}, (∀ i ∈ ids, i ∈ P.map (·.1)) → (byIds P ids).map (·.1) = ids := by
  intro ids
  induction ids with
  | nil => intro _; rfl
  | cons i ids ih =>
    intro h
    obtain ⟨p, hp, e⟩ := List.mem_map.mp (h i (by simp))
    cases hf : P.find? fun p => decide (p.1 = i) with
    | none => exact absurd (List.find?_eq_none.mp hf p hp) (by simp [e])
    | some q =>
      have hq := List.find?_some hf
      have h3 := ih fun j hj => h j (by simp [hj])
      unfold byIds at h3 ⊢
      rw [List.filterMap_cons, hf]
      simp only [List.map_cons, h3]
      rw [show q.1 = i from by simpa using hq]
theorem byIds_mem {P : List Wi'} {ids : List Int} {p : Wi'} (h : p ∈ byIds P ids) : p ∈ P := by
  obtain ⟨i, _, hi⟩ := List.mem_filterMap.mp h
  exact List.mem_of_find?_eq_some hi
theorem ids_one {P : List Wi'} (h : (P.map (·.1)).Nodup) : ∀ {p q : Wi'}, p ∈ P → q ∈ P → p.1 = q.1 → p = q := by
  induction P with
  | nil => intro p q hp; simp at hp
  | cons a P ih =>
    intro p q hp hq e
    rw [List.map_cons, List.nodup_cons] at h
    rcases List.mem_cons.mp hp with rfl | hp1
    · rcases List.mem_cons.mp hq with rfl | hq1
      · rfl
      · exact absurd (List.mem_map.mpr ⟨q, hq1, e.symm⟩) h.1
    · rcases List.mem_cons.mp hq with rfl | hq1
      · exact absurd (List.mem_map.mpr ⟨p, hp1, e⟩) h.1
      · exact ih h.2 hp1 hq1 e
theorem perm_ids : ∀ {A B : List Wi'}, (A.map (·.1)).Nodup → (B.map (·.1)).Nodup → (∀ p, p ∈ A ↔ p ∈ B) → A.Perm B := by
  intro A
  induction A with
  | nil =>
    intro B _ _ h
    cases B with
    | nil => exact List.Perm.nil
    | cons b B => exact absurd ((h b).mpr (by simp)) (by simp)
  | cons a A ih =>
    intro B hA hB h
    have ha : a ∈ B := (h a).mp (by simp)
    obtain ⟨s, t, rfl⟩ := List.append_of_mem ha
    rw [List.map_cons, List.nodup_cons] at hA
    have hp : (s ++ a :: t).Perm (a :: (s ++ t)) := List.perm_middle
    have hB' : ((a :: (s ++ t)).map (·.1)).Nodup := (hp.map _).nodup_iff.mp hB
    rw [List.map_cons, List.nodup_cons] at hB'
    refine (List.Perm.cons a (ih hA.2 hB'.2 fun p => ⟨fun hpA => ?_, fun hpB => ?_⟩)).trans hp.symm
    · have h1 := hp.mem_iff.mp ((h p).mp (List.mem_cons_of_mem _ hpA))
      rcases List.mem_cons.mp h1 with rfl | h1
      · exact absurd (List.mem_map.mpr ⟨p, hpA, rfl⟩) hA.1
      · exact h1
    · have h1 := (h p).mpr (hp.mem_iff.mpr (List.mem_cons_of_mem _ hpB))
      rcases List.mem_cons.mp h1 with rfl | h1
      · exact absurd (List.mem_map.mpr ⟨p, hpB, rfl⟩) hB'.1
      · exact h1
theorem byIds_perm {P : List Wi'} {ids : List Int} (hP : (P.map (·.1)).Nodup) (hi : ids.Nodup) (h : ∀ i, i ∈ P.map (·.1) ↔ i ∈ ids) : (byIds P ids).Perm P := by
  have e := byIds_ids fun i hi => (h i).mpr hi
  refine perm_ids (by rw [e]; exact hi) hP fun p => ⟨byIds_mem, fun hp => ?_⟩
  have h1 : p.1 ∈ (byIds P ids).map (·.1) := by rw [e]; exact (h _).mp (List.mem_map.mpr ⟨p, hp, rfl⟩)
  obtain ⟨q, hq, he⟩ := List.mem_map.mp h1
  rw [← ids_one hP (byIds_mem hq) hp he]
  exact hq
theorem rowsW_perm {self : Int} {wd : Nat} {A B : List Wi'} (h : A.Perm B) : (rowsW self wd A).Perm (rowsW self wd B) := (h.filter _).map _
/-- Places rise as ids rise. -/
theorem row_lt {wd : Nat} {p q : Wi'} (hp : 1 ≤ p.1) (h : p.1 < q.1) : (rowW wd p).1 < (rowW wd q).1 ∨ ((rowW wd p).1 = (rowW wd q).1 ∧ (rowW wd p).2.1 < (rowW wd q).2.1) := by
  have h1 : (p.1.toNat - 1) / wd ≤ (q.1.toNat - 1) / wd := Nat.div_le_div_right (by omega)
  have h2 := Nat.div_add_mod (p.1.toNat - 1) wd
  have h3 := Nat.div_add_mod (q.1.toNat - 1) wd
  simp only [rowW]
  rcases Nat.lt_or_eq_of_le h1 with h1 | h1
  · left; omega
  · right
    rw [h1] at h2
    refine ⟨by rw [h1], ?_⟩
    omega
theorem rowsW_plc {self : Int} {wd : Nat} {A : List Wi'} (h1 : ∀ p ∈ A, 1 ≤ p.1) (h : (A.map (·.1)).Pairwise (· < ·)) : Plc (rowsW self wd A) := by
  unfold Plc rowsW
  rw [List.pairwise_map]
  refine List.Pairwise.imp_of_mem ?_ ((List.pairwise_map.mp h).filter _)
  intro p q hp _ hlt
  have := row_lt (wd := wd) (h1 p (List.mem_filter.mp hp).1) hlt
  omega
theorem rowsW_unlike {self : Int} {wd : Nat} {A : List Wi'} (hn : (A.map (·.1)).Nodup) (h1 : ∀ p ∈ A, 1 ≤ p.1) : ∀ x ∈ rowsW self wd A, ∀ y ∈ rowsW self wd A, x.1 = y.1 → x.2.1 = y.2.1 → x = y := by
  intro x hx y hy e1 e2
  obtain ⟨p, hp, rfl⟩ := List.mem_map.mp hx
  obtain ⟨q, hq, rfl⟩ := List.mem_map.mp hy
  have hp' := (List.mem_filter.mp hp).1
  have hq' := (List.mem_filter.mp hq).1
  rcases Int.lt_trichotomy p.1 q.1 with h | h | h
  · have := row_lt (wd := wd) (h1 p hp') h; omega
  · rw [ids_one hn hp' hq' h]
  · have := row_lt (wd := wd) (h1 q hq') h; omega
/-- The entries are those of the ids in rising order. -/
theorem rows_one {self : Int} {wd : Nat} {P : List Wi'} {es : List Rw} {ids : List Int} (hP : (P.map (·.1)).Nodup) (hi : ids.Pairwise (· < ·)) (h : ∀ i, i ∈ P.map (·.1) ↔ i ∈ ids) (h1 : ∀ i ∈ ids, 1 ≤ i) (hp : es.Perm (rowsW self wd P)) (ho : Plc es) : es = rowsW self wd (byIds P ids) := by
  have hi' : ids.Nodup := hi.imp fun h e => by omega
  have hb := byIds_perm hP hi' h
  have e := byIds_ids fun i hi => (h i).mpr hi
  have hpos : ∀ p ∈ P, 1 ≤ p.1 := fun p hp => h1 _ ((h _).mp (List.mem_map.mpr ⟨p, hp, rfl⟩))
  refine plc_one (hp.trans (rowsW_perm hb.symm)) ho (rowsW_plc (fun p hp => hpos p (byIds_mem hp)) (by rw [e]; exact hi)) fun x hx y hy => ?_
  exact rowsW_unlike hP hpos x (hp.mem_iff.mp hx) y (hp.mem_iff.mp hy)
theorem own_none {self : Int} : ∀ {A : List Wi'} {o : Int}, (∀ p ∈ A, p.2.1.node ≠ self) → A.foldl (fun o p => if p.2.1.node = self then p.1 else o) o = o := by
  intro A
  induction A with
  | nil => intro o _; rfl
  | cons a A ih =>
    intro o h
    rw [List.foldl_cons, if_neg (h a (by simp))]
    exact ih fun p hp => h p (by simp [hp])
theorem own_is {self : Int} {p : Wi'} (hs : p.2.1.node = self) : ∀ {A : List Wi'} {o : Int}, (p ∈ A ∨ o = p.1) → (∀ q ∈ A, q.2.1.node = self → q.1 = p.1) → A.foldl (fun o p => if p.2.1.node = self then p.1 else o) o = p.1 := by
  intro A
  induction A with
  | nil =>
    intro o h _
    rcases h with h | h
    · simp at h
    · exact h
  | cons a A ih =>
    intro o h hu
    rw [List.foldl_cons]
    refine ih ?_ fun q hq => hu q (by simp [hq])
    by_cases ha : a.2.1.node = self
    · rw [if_pos ha]
      exact .inr (hu a (by simp) ha)
    · rw [if_neg ha]
      rcases h with h | h
      · rcases List.mem_cons.mp h with rfl | h1
        · exact absurd hs ha
        · exact .inl h1
      · exact .inr h
/-- One's own id is one, where no two are one's own. -/
theorem own_one {self : Int} {A B : List Wi'} (hp : A.Perm B) (hu : ∀ p ∈ A, ∀ q ∈ A, p.2.1.node = self → q.2.1.node = self → p.1 = q.1) : ownW self A = ownW self B := by
  unfold ownW
  by_cases h : ∃ p ∈ A, p.2.1.node = self
  · obtain ⟨p, hpA, hs⟩ := h
    rw [own_is hs (.inl hpA) fun q hq hqs => hu q hq p hpA hqs hs, own_is hs (.inl (hp.mem_iff.mp hpA)) fun q hq hqs => hu q (hp.mem_iff.mpr hq) p hpA hqs hs]
  · have h' : ∀ p ∈ A, p.2.1.node ≠ self := fun p hp e => h ⟨p, hp, e⟩
    rw [own_none h', own_none fun p hpB => h' p (hp.mem_iff.mpr hpB)]

end Go.Proofs.YtgeoghhajjlofaaGreatDoor
namespace Go.Proofs.YtgeoghhajjlofaaGreatDoor

theorem free_rise (rs : List Rc) : ((freeT (allC rs)).map (·.1)).Pairwise (· < ·) := by
  unfold freeT allC
  rw [List.pairwise_map]
  refine List.Pairwise.filter _ ?_
  rw [List.pairwise_map]
  exact idsL_rise rs
theorem free_claim {rs : List Rc} {id r : Int} (h : (id, [r]) ∈ freeT (allC rs)) : ∃ x ∈ rs, x.origin = r ∧ x.claim = id := by
  obtain ⟨j, _, e⟩ := List.mem_map.1 (List.mem_filter.1 h).1
  rw [Prod.mk.injEq] at e
  obtain ⟨rfl, e2⟩ := e
  have h5 : r ∈ gat rs j := ((rsL_ok _).2 r).1 (by rw [e2]; simp)
  obtain ⟨x, hx, h1, _, h3⟩ := mem_gat.1 h5
  exact ⟨x, hx, by first | exact h3 | exact h3.symm, by first | exact h1 | exact h1.symm⟩
theorem org_one {rs : List Rc} (h : (rs.map Rc.origin).Nodup) : ∀ {x y : Rc}, x ∈ rs → y ∈ rs → x.origin = y.origin → x = y := by
  induction rs with
  | nil => intro x y hx; simp at hx
  | cons a rs ih =>
    intro x y hx hy e
    rw [List.map_cons, List.nodup_cons] at h
    rcases List.mem_cons.mp hx with rfl | hx1
    · rcases List.mem_cons.mp hy with rfl | hy1
      · rfl
      · exact absurd (List.mem_map.mpr ⟨y, hy1, e.symm⟩) h.1
    · rcases List.mem_cons.mp hy with rfl | hy1
      · exact absurd (List.mem_map.mpr ⟨x, hx1, e⟩) h.1
      · exact ih h.2 hx1 hy1 e
theorem free_one {rs : List Rc} (h : bothOk no1 rs = true) {id id' r : Int} (h1 : (id, [r]) ∈ freeT (allC rs)) (h2 : (id', [r]) ∈ freeT (allC rs)) : id = id' := by
  obtain ⟨x, hx, e1, e2⟩ := free_claim h1
  obtain ⟨y, hy, e3, e4⟩ := free_claim h2
  rw [← e2, ← e4, org_one (bothOk_all _ _ h).2 hx hy (e1.trans e3.symm)]
theorem ofW_node {W : List Rr} {r : Int} {X : Rr} (h : ofW W r = some X) : X.node = r := by
  have := List.find?_some h
  simpa using this
/-- What Build answers, with the ids in rising order. -/
theorem BldAns.one {w w' : World} {l : List (Rc × Value)} {self : Int} {wd : Nat} {e : Ending} (h : BldAns w w' l self wd e) (hl : bothOk no1 (rcs l) = true) :
    ∃ (W : List Rr) (P : List Wi') (u : Value), e = .returned (.tuple #[.agg #[.int .i64 self, .int .i64 wd, .int .i64 (ownW self P), u], .int .i64 0]) ∧ WaysIs l self W ∧ P.map (·.1) = (freeT (allC (rcs (liveL W l)))).map (·.1) ∧
    (∀ p ∈ P, ∃ r, (p.1, [r]) ∈ freeT (allC (rcs (liveL W l))) ∧ ofW W r = some p.2.1 ∧ ∃ B, w.heap.size ≤ B ∧ w'.ownsRow B 3 1 (.slice p.2.2.1 p.2.2.2.1 p.2.2.2.2) p.2.1.next.length (fl ic p.2.1.next)) ∧
    ∃ B, w.heap.size ≤ B ∧ w'.ownsRow B 46 4 u (rowsW self wd P).length (fl rwcs (rowsW self wd P)) := by
  obtain ⟨W, P, es, u, h1, h2, h3, h4, h5, h6, h7, h8⟩ := h
  have hr := free_rise (rcs (liveL W l))
  have hn : ((freeT (allC (rcs (liveL W l)))).map (·.1)).Nodup := hr.imp fun h e => by omega
  have hpos : ∀ i ∈ (freeT (allC (rcs (liveL W l)))).map (·.1), 1 ≤ i := fun i hi => by
    obtain ⟨p, hp, rfl⟩ := List.mem_map.1 hi
    exact (free_live hp).1
  have hes := rows_one (self := self) (wd := wd) h3 hr h4 hpos h6 h7
  have hpm := byIds_perm h3 hn h4
  have how := own_one (self := self) hpm fun p hp q hq e1 e2 => by
    obtain ⟨r, g1, g2, _⟩ := h5 p (byIds_mem hp)
    obtain ⟨s, g3, g4, _⟩ := h5 q (byIds_mem hq)
    have k1 := ofW_node g2
    have k2 := ofW_node g4
    have k3 : r = s := by rw [← k1, ← k2, e1, e2]
    rw [← k3] at g3
    exact free_one (live_ok hl) g1 g3
  refine ⟨W, byIds P _, u, by rw [how]; exact h1, h2, byIds_ids fun i hi => (h4 i).mpr hi, fun p hp => h5 p (byIds_mem hp), ?_⟩
  rw [← hes]
  exact h8

end Go.Proofs.YtgeoghhajjlofaaGreatDoor
namespace Go.Proofs.YtgeoghhajjlofaaGreatDoor

def BothW (es : List Ed) : Prop := ∀ e ∈ es, (e.2.1, e.1, e.2.2) ∈ es
theorem Wy.turn {es : List Ed} (hs : BothW es) {a x c : Int} {h : Nat} (k : Wy es a x c h) : Wy es x a c h :=
  k (fun x c h => Wy es x a c h) (Wy.refl _ _) (fun e he c h hw => by
    have h1 : Wy es e.2.1 e.1 e.2.2 1 := Wy.one (hs e he)
    have h2 := h1.trans hw
    rwa [Int.add_comm, Nat.add_comm] at h2)
theorem Ds.turn {es : List Ed} (hs : BothW es) {a x d : Int} (h : Ds es a x d) : Ds es x a d := by
  obtain ⟨⟨k, hw⟩, h1⟩ := h
  exact ⟨⟨k, hw.turn hs⟩, fun c' h' hw' => h1 _ _ (hw'.turn hs)⟩
theorem Right.turn {es : List Ed} (hs : BothW es) {a b d d' : Int} {A B : Rr} (h1 : Ds es a b d) (h2 : Ds es b a d') (hA : Right es a b d A) (hB : Right es b a d' B) : A.cost = B.cost ∧ A.least = B.least ∧ A.most = B.most := by
  have hd := (h1.turn hs).uniq h2
  subst hd
  have l1 := (hA.hops _ (hB.lw.turn hs)).1
  have l2 := (hB.hops _ (hA.lw.turn hs)).1
  have m1 := (hA.hops _ (hB.mw.turn hs)).2
  have m2 := (hB.hops _ (hA.mw.turn hs)).2
  have := hA.l0
  have := hB.l0
  have := hA.m0
  have := hB.m0
  exact ⟨by rw [hA.cost, hB.cost], by omega, by omega⟩
theorem Wy.mono {es fs : List Ed} (hs : ∀ e ∈ fs, e ∈ es) {a x c : Int} {h : Nat} (k : Wy fs a x c h) : Wy es a x c h :=
  k (fun x c h => Wy es a x c h) (Wy.refl _ _) (fun e he _ _ hw => hw.step (hs e he))
/-- Among ways there is a cheapest one. -/
theorem ds_of {es : List Ed} (hp : PosE es) {r x c : Int} {h : Nat} (k : Wy es r x c h) : ∃ d, Ds es r x d ∧ d ≤ c := by
  have key : ∀ (n : Nat) (c : Int) (h : Nat), c.toNat = n → Wy es r x c h → ∃ d, Ds es r x d ∧ d ≤ c := by
    intro n
    induction n using Nat.strongRecOn with
    | _ n ih =>
    intro c h hc hw
    by_cases hm : ∀ c' h', Wy es r x c' h' → c ≤ c'
    · exact ⟨c, ⟨⟨h, hw⟩, hm⟩, Int.le_refl _⟩
    · have : ∃ c' h', Wy es r x c' h' ∧ c' < c := Classical.byContradiction fun hno => hm fun c' h' hw' => by
        by_cases hlt : c' < c
        · exact absurd ⟨c', h', hw', hlt⟩ hno
        · omega
      obtain ⟨c', h', hw', hlt⟩ := this
      have h1 := (hw'.pos hp).1
      obtain ⟨d, hd, hle⟩ := ih c'.toNat (by omega) c' h' rfl hw'
      exact ⟨d, hd, by omega⟩
  exact key _ c h rfl k
/-- Edges of the same pairs: who is come to stays so. -/
theorem wy_pairs {es fs : List Ed} (hs : ∀ e ∈ fs, ∃ c, (e.1, e.2.1, c) ∈ es) {a x c : Int} {h : Nat} (k : Wy fs a x c h) : ∃ c', Wy es a x c' h :=
  k (fun x _ h => ∃ c', Wy es a x c' h) ⟨0, Wy.refl _ _⟩ (fun e he _ _ ⟨c', hw⟩ => by
    obtain ⟨c2, h2⟩ := hs e he
    exact ⟨_, hw.step (e := (e.1, e.2.1, c2)) h2⟩)
end Go.Proofs.YtgeoghhajjlofaaGreatDoor
namespace Go.Proofs.YtgeoghhajjlofaaGreatDoor

/-- More than any way costs. -/
def farC : Int := 1073741824
def d0C (r : Int) : Int → Int := fun x => if x = r then 0 else farC
/-- One edge is gone over. -/
def rlx (D : Int → Int) (e : Ed) : Int → Int := if D e.1 < farC ∧ D e.1 + e.2.2 < D e.2.1 then (fun x => if x = e.2.1 then D e.1 + e.2.2 else D x) else D
def rndC (es : List Ed) (D : Int → Int) : Int → Int := es.foldl rlx D
def bfN (es : List Ed) (r : Int) : Nat → Int → Int
  | 0 => d0C r
  | k + 1 => rndC es (bfN es r k)
theorem rlx_le (D : Int → Int) (e : Ed) (x : Int) : rlx D e x ≤ D x := by
  unfold rlx
  by_cases h : D e.1 < farC ∧ D e.1 + e.2.2 < D e.2.1
  · rw [if_pos h]
    by_cases hx : x = e.2.1
    · rw [if_pos hx, hx]; omega
    · rw [if_neg hx]; exact Int.le_refl _
  · rw [if_neg h]; exact Int.le_refl _
theorem rlx_edge {D : Int → Int} {e : Ed} (h : D e.1 < farC) : rlx D e e.2.1 ≤ D e.1 + e.2.2 := by
  unfold rlx
  by_cases h2 : D e.1 + e.2.2 < D e.2.1
  · rw [if_pos ⟨h, h2⟩]; simp
  · rw [if_neg (fun e => h2 e.2)]; omega
theorem fold_le : ∀ (L : List Ed) (D : Int → Int) (x : Int), (L.foldl rlx D) x ≤ D x
  | [], _, _ => Int.le_refl _
  | e :: L, D, x => Int.le_trans (fold_le L (rlx D e) x) (rlx_le D e x)
def SndC (es : List Ed) (r : Int) (D : Int → Int) : Prop := ∀ x, D x = farC ∨ (D x < farC ∧ ∃ h, Wy es r x (D x) h)
theorem snd_zero (es : List Ed) (r : Int) : SndC es r (d0C r) := fun x => by
  unfold d0C
  by_cases h : x = r
  · rw [if_pos h]
    exact .inr ⟨by decide, 0, by rw [h]; exact Wy.refl _ _⟩
  · rw [if_neg h]; exact .inl rfl
theorem snd_rlx {es : List Ed} {r : Int} {D : Int → Int} {e : Ed} (he : e ∈ es) (h : SndC es r D) : SndC es r (rlx D e) := fun x => by
  unfold rlx
  by_cases hc : D e.1 < farC ∧ D e.1 + e.2.2 < D e.2.1
  · rw [if_pos hc]
    by_cases hx : x = e.2.1
    · rw [if_pos hx]
      obtain ⟨hh, hw⟩ : ∃ h, Wy es r e.1 (D e.1) h := by
        rcases h e.1 with h1 | ⟨_, h1⟩
        · rw [h1] at hc; exact absurd hc.1 (Int.lt_irrefl _)
        · exact h1
      refine .inr ⟨?_, hh + 1, by rw [hx]; exact hw.step he⟩
      have : D e.2.1 ≤ farC := by
        rcases h e.2.1 with h1 | ⟨h1, _⟩
        · omega
        · omega
      omega
    · rw [if_neg hx]; exact h x
  · rw [if_neg hc]; exact h x
theorem snd_fold {es : List Ed} {r : Int} : ∀ (L : List Ed) (D : Int → Int), (∀ e ∈ L, e ∈ es) → SndC es r D → SndC es r (L.foldl rlx D)
  | [], _, _, h => h
  | e :: L, D, hL, h => snd_fold L (rlx D e) (fun x hx => hL x (List.mem_cons_of_mem _ hx)) (snd_rlx (hL e List.mem_cons_self) h)
theorem snd_bf (es : List Ed) (r : Int) : ∀ k, SndC es r (bfN es r k)
  | 0 => snd_zero es r
  | k + 1 => snd_fold es _ (fun _ h => h) (snd_bf es r k)
def CmpC (es : List Ed) (r : Int) (k : Nat) (D : Int → Int) : Prop := ∀ x c h, Wy es r x c h → h ≤ k → c < farC → D x ≤ c
theorem cmp_bf {es : List Ed} (hp : PosE es) (r : Int) : ∀ k, CmpC es r k (bfN es r k)
  | 0 => fun x c h hw hk _ => by
    obtain ⟨h1, h2⟩ := hw.zero (by omega)
    show d0C r x ≤ c
    unfold d0C
    rw [if_pos h1, h2]
    exact Int.le_refl _
  | k + 1 => fun x c h hw hk hc => by
    rcases hw.last with ⟨h1, h2, h3⟩ | ⟨e, he, c', h', hw', hx, hcc, hh⟩
    · have := cmp_bf hp r k x c h hw (by omega) hc
      exact Int.le_trans (fold_le _ _ _) this
    · have hpe := hp e he
      have h1 := cmp_bf hp r k e.1 c' h' hw' (by omega) (by omega)
      obtain ⟨L1, L2, hL⟩ := List.append_of_mem he
      show (es.foldl rlx (bfN es r k)) x ≤ c
      generalize bfN es r k = D at h1 ⊢
      rw [hL, List.foldl_append, List.foldl_cons, hx]
      have h2 := fold_le L1 D e.1
      generalize L1.foldl rlx D = D1 at h2 ⊢
      have h3 := rlx_edge (D := D1) (e := e) (by omega)
      have h4 := fold_le L2 (rlx D1 e) e.2.1
      omega
theorem nodup_le {l : List Int} : ∀ {m : List Int}, l.Nodup → (∀ x ∈ l, x ∈ m) → l.length ≤ m.length := by
  induction l with
  | nil => intro m _ _; simp
  | cons x l ih =>
    intro m hn hm
    rw [List.nodup_cons] at hn
    have hx := hm x List.mem_cons_self
    have := ih (m := m.erase x) hn.2 (fun y hy => (List.mem_erase_of_ne (fun e => hn.1 (by rw [← e]; exact hy))).2 (hm y (List.mem_cons_of_mem _ hy)))
    rw [List.length_erase_of_mem hx] at this
    have : 0 < m.length := List.length_pos_of_mem hx
    rw [List.length_cons]
    omega
theorem ds_node {ns : List Int} {es : List Ed} (hok : graphOk ns es = true) {r x d : Int} (hr : r ∈ ns) (h : Ds es r x d) : x ∈ ns := by
  obtain ⟨k, hk⟩ := h.1
  rcases hk.last with ⟨rfl, _, _⟩ | ⟨e, he, _, _, _, rfl, _, _⟩
  · exact hr
  · exact ((graphOk_bd hok).2.1 e he).2
/-- A least-cost way meets no node twice. -/
theorem ds_hops {ns : List Int} {es : List Ed} (hok : graphOk ns es = true) {r : Int} (hr : r ∈ ns) : ∀ (h : Nat) (x d : Int), Ds es r x d → Wy es r x d h → ∃ l : List Int, l.length = h + 1 ∧ l.Nodup ∧ ∀ y ∈ l, y ∈ ns ∧ ∃ dy, Ds es r y dy ∧ dy ≤ d
  | 0, x, d, hd, hw => by
    refine ⟨[x], rfl, by simp, fun y hy => ?_⟩
    rw [List.mem_singleton.1 hy]
    exact ⟨ds_node hok hr hd, d, hd, Int.le_refl _⟩
  | h + 1, x, d, hd, hw => by
    rcases hw.last with ⟨_, _, h3⟩ | ⟨e, he, c', h', hw', hx, hcc, hh⟩
    · cases h3
    · obtain ⟨_, hde⟩ := into_last hd he hw' hx hcc
      have : h' = h := by omega
      subst this
      obtain ⟨l, h1, h2, h3⟩ := ds_hops hok hr h' e.1 c' hde hw'
      have hpe := graphOk_pos hok e he
      refine ⟨l ++ [x], by simp [h1], ?_, fun y hy => ?_⟩
      · refine List.nodup_append.2 ⟨h2, by simp, fun a ha b hb e' => ?_⟩
        rw [List.mem_singleton.1 hb] at e'
        subst e'
        obtain ⟨_, dy, h4, h5⟩ := h3 a ha
        have := h4.uniq hd
        omega
      · rcases List.mem_append.1 hy with hy | hy
        · obtain ⟨h4, dy, h5, h6⟩ := h3 y hy
          exact ⟨h4, dy, h5, by omega⟩
        · rw [List.mem_singleton.1 hy]
          exact ⟨ds_node hok hr hd, d, hd, Int.le_refl _⟩
theorem graphOk_nn {ns : List Int} {es : List Ed} (hok : graphOk ns es = true) : ns.Nodup := by
  simp only [graphOk, Bool.and_eq_true] at hok
  have key : ∀ (ns : List Int) (last : Int), nodesOk last ns = true → ns.Pairwise fun a b => a < b := fun ns => by
    induction ns with
    | nil => intro _ _; exact List.Pairwise.nil
    | cons m ns ih =>
      intro last hm
      have hm' : nodesOk m ns = true := by
        simp only [nodesOk, Bool.and_eq_true] at hm
        exact hm.2.2
      exact List.pairwise_cons.2 ⟨fun y hy => (nodesOk_bd ns m hm' y hy).2.2, ih m hm'⟩
  exact (key ns 0 hok.1).imp fun h => by omega
theorem graphOk_n24 {ns : List Int} {es : List Ed} (hok : graphOk ns es = true) : ns.length ≤ 24 := by
  have hb := (graphOk_bd hok).1
  have := nodup_le (m := (List.range 24).map fun (i : Nat) => (i : Int) + 1) (graphOk_nn hok) (fun y hy => List.mem_map.2 ⟨(y - 1).toNat, by have := hb y hy; simp; omega, by have := hb y hy; omega⟩)
  simpa using this
/-- What the document's Costs tells. -/
theorem bf_all {ns : List Int} {es : List Ed} (hok : graphOk ns es = true) {r : Int} (hr : r ∈ ns) (x : Int) : (∃ d, Ds es r x d ∧ bfN es r ns.length x = d ∧ 0 ≤ d ∧ d ≤ 1000 * ns.length) ∨ ((∀ d, ¬ Ds es r x d) ∧ bfN es r ns.length x = farC) := by
  have hp := graphOk_pos hok
  rcases snd_bf es r ns.length x with h | ⟨h1, hh, hw⟩
  · refine .inr ⟨fun d hd => ?_, h⟩
    obtain ⟨k, hk⟩ := hd.1
    obtain ⟨l, h1, h2, h3⟩ := ds_hops hok hr k x d hd hk
    have h4 := nodup_le h2 (fun y hy => (h3 y hy).1)
    have h5 := hk.pos hp
    have hn24 := graphOk_n24 hok
    have := cmp_bf hp r ns.length x d k hk (by omega) (by unfold farC; omega)
    rw [h] at this
    unfold farC at this
    omega
  · obtain ⟨d, hd, _⟩ := ds_of hp hw
    obtain ⟨k, hk⟩ := hd.1
    obtain ⟨l, h2, h3, h4⟩ := ds_hops hok hr k x d hd hk
    have h5 := nodup_le h3 (fun y hy => (h4 y hy).1)
    have h6 := hk.pos hp
    have h7 := hd.2 _ _ hw
    have h8 := cmp_bf hp r ns.length x d k hk (by omega) (by omega)
    exact .inl ⟨d, hd, by omega, by omega, by omega⟩
end Go.Proofs.YtgeoghhajjlofaaGreatDoor
namespace Go.Proofs.YtgeoghhajjlofaaGreatDoor
open Go.RowKit

def lastN (ns : List Int) : Nat → Int
  | 0 => 0
  | k + 1 => ns[k]?.getD 0
def lastE (es : List Ed) : Nat → Ed
  | 0 => (0, 0, 0)
  | k + 1 => es[k]?.getD (0, 0, 0)
def ckC (ns : List Int) (es : List Ed) : Int := if graphOk ns es = true then 0 else 2
theorem ckC_no {ns : List Int} {es : List Ed} (h : graphOk ns es = false) : ckC ns es = 2 := by unfold ckC; rw [h]; rfl
theorem ckC_yes {ns : List Int} {es : List Ed} (h : graphOk ns es = true) : ckC ns es = 0 := by unfold ckC; rw [h]; rfl
end Go.Proofs.YtgeoghhajjlofaaGreatDoor
namespace Go.Proofs.YtgeoghhajjlofaaGreatDoor
open Go.RowKit

/-- Where a node stands first. -/
def plN : List Int → Int → Option Nat
  | [], _ => none
  | x :: l, n => if x = n then some 0 else (plN l n).map (· + 1)
def plI (l : List Int) (n : Int) : Int := match plN l n with
  | some k => (k : Int)
  | none => -1
theorem plN_at : ∀ {l : List Int} {n : Int} {k : Nat}, plN l n = some k → l[k]? = some n
  | [], _, _, h => by cases h
  | x :: l, n, k, h => by
    unfold plN at h
    by_cases hx : x = n
    · rw [if_pos hx] at h
      simp only [Option.some.injEq] at h
      subst h
      rw [hx]
      rfl
    · rw [if_neg hx] at h
      obtain ⟨j, hj, rfl⟩ := Option.map_eq_some_iff.1 h
      rw [List.getElem?_cons_succ]
      exact plN_at hj
theorem plN_none : ∀ {l : List Int} {n : Int}, (∀ y ∈ l, y ≠ n) → plN l n = none
  | [], _, _ => rfl
  | x :: l, n, h => by
    unfold plN
    rw [if_neg (h x List.mem_cons_self), plN_none (fun y hy => h y (List.mem_cons_of_mem _ hy))]
    rfl
theorem plN_first : ∀ {l : List Int} {n : Int} {k : Nat}, (∀ y ∈ l.take k, y ≠ n) → l[k]? = some n → plN l n = some k
  | [], _, _, _, h => by simp at h
  | x :: l, n, 0, _, h => by
    unfold plN
    simp at h
    rw [if_pos h]
  | x :: l, n, k + 1, hn, h => by
    unfold plN
    rw [if_neg (hn x (by simp)), plN_first (k := k) (fun y hy => hn y (by rw [List.take_succ_cons]; exact List.mem_cons_of_mem _ hy)) (by simpa using h)]
    rfl
theorem plN_nodup {l : List Int} (hd : l.Nodup) {n : Int} {k : Nat} (h : l[k]? = some n) : plN l n = some k := by
  refine plN_first (fun y hy e => ?_) h
  obtain ⟨j, hj⟩ := List.getElem?_of_mem hy
  rw [List.getElem?_take] at hj
  by_cases hjk : j < k
  · rw [if_pos hjk, e] at hj
    obtain ⟨h1, h2⟩ := List.getElem?_eq_some_iff.1 hj
    obtain ⟨h3, h4⟩ := List.getElem?_eq_some_iff.1 h
    exact (List.pairwise_iff_getElem.1 (List.nodup_iff_pairwise_ne.1 hd)) j k h1 h3 hjk (by rw [h2, h4])
  · rw [if_neg hjk] at hj
    cases hj
theorem plI_some {l : List Int} {n : Int} {k : Nat} (h : plN l n = some k) : plI l n = (k : Int) := by unfold plI; rw [h]
theorem plI_none {l : List Int} {n : Int} (h : plN l n = none) : plI l n = -1 := by unfold plI; rw [h]
theorem plI_neg {l : List Int} {n : Int} : plI l n < 0 ↔ n ∉ l := by
  unfold plI
  cases h : plN l n with
  | some k => exact ⟨fun e => by simp only at e; omega, fun e => absurd (List.mem_of_getElem? (plN_at h)) e⟩
  | none =>
    refine ⟨fun _ hm => ?_, fun _ => by decide⟩
    obtain ⟨j, hj⟩ := List.getElem?_of_mem hm
    have key : ∀ (l : List Int), plN l n = none → n ∉ l := fun l => by
      induction l with
      | nil => intro _ h; cases h
      | cons x l ih =>
        intro h hm
        unfold plN at h
        by_cases hx : x = n
        · rw [if_pos hx] at h; cases h
        · rw [if_neg hx] at h
          rcases List.mem_cons.1 hm with e | e
          · exact hx e.symm
          · exact ih (by simpa using h) e
    exact key l h hm
/-- What an edge costs. -/
def edI (es : List Ed) (a b : Int) : Int := match es.find? (fun e => e.1 == a && e.2.1 == b) with
  | some e => e.2.2
  | none => 0
theorem edI_some {es : List Ed} {a b : Int} {k : Nat} {e : Ed} (hn : ∀ y ∈ es.take k, ¬ (y.1 = a ∧ y.2.1 = b)) (he : es[k]? = some e) (h1 : e.1 = a) (h2 : e.2.1 = b) : edI es a b = e.2.2 := by
  have h : es = es.take k ++ e :: es.drop (k + 1) := by rw [← drop_next he, List.take_append_drop]
  unfold edI
  rw [h, List.find?_append, List.find?_eq_none.2 (fun y hy => by have := hn y hy; simp only [Bool.and_eq_true, beq_iff_eq]; exact this), List.find?_cons]
  simp [h1, h2]
theorem edI_none {es : List Ed} {a b : Int} (hn : ∀ y ∈ es, ¬ (y.1 = a ∧ y.2.1 = b)) : edI es a b = 0 := by
  unfold edI
  rw [List.find?_eq_none.2 (fun y hy => by have := hn y hy; simp only [Bool.and_eq_true, beq_iff_eq]; exact this)]
end Go.Proofs.YtgeoghhajjlofaaGreatDoor
namespace Go.Proofs.YtgeoghhajjlofaaGreatDoor
open Go.RowKit

end Go.Proofs.YtgeoghhajjlofaaGreatDoor
namespace Go.Proofs.YtgeoghhajjlofaaGreatDoor
open Go.RowKit

/-- What is marked after some rounds. -/
structure RInv (ns : List Int) (es : List Ed) (n : Int) (f : Nat → Bool) (r : Nat) : Prop where
  so : ∀ i, f i = true → Rch es n (i : Int)
  nn : f n.toNat = true
  mem : ∀ i, f i = true → (i : Int) ∈ ns
  go : (∀ e ∈ es, f e.1.toNat = true → f e.2.1.toNat = true) ∨ r + 1 ≤ cnt f
structure RMid (ns : List Int) (es : List Ed) (n : Int) (f g : Nat → Bool) (k : Nat) : Prop where
  so : ∀ i, g i = true → Rch es n (i : Int)
  nn : g n.toNat = true
  mem : ∀ i, g i = true → (i : Int) ∈ ns
  go : (g = f ∧ ∀ e ∈ es.take k, f e.1.toNat = true → f e.2.1.toNat = true) ∨ ((¬ ∀ e ∈ es, f e.1.toNat = true → f e.2.1.toNat = true) ∧ cnt f + 1 ≤ cnt g)
theorem cnt_mk1 (f : Nat → Bool) {i : Nat} (hi : i < 25) (h : f i = false) : cnt (mk1 f i) = cnt f + 1 := by
  have h1 := unm_mk1 h hi
  have h2 := cnt_unm f
  have h3 := cnt_unm (mk1 f i)
  omega
theorem mk1_again {f : Nat → Bool} {i : Nat} (h : f i = true) : mk1 f i = f := by
  funext j
  unfold mk1
  by_cases hj : j = i
  · rw [if_pos hj, hj, h]
  · rw [if_neg hj]
theorem RInv.start {ns : List Int} {es : List Ed} {n : Int} {f : Nat → Bool} {r : Nat} (h : RInv ns es n f r) : RMid ns es n f f 0 := ⟨h.so, h.nn, h.mem, .inl ⟨rfl, by simp⟩⟩
theorem RMid.no {ns : List Int} {es : List Ed} {n : Int} {f g : Nat → Bool} {k : Nat} {e : Ed} (h : RMid ns es n f g k) (he : es[k]? = some e) (hg : g e.1.toNat = false) : RMid ns es n f g (k + 1) := by
  refine ⟨h.so, h.nn, h.mem, ?_⟩
  rcases h.go with ⟨h1, h2⟩ | h1
  · refine .inl ⟨h1, fun x hx hf => ?_⟩
    rw [take_snoc he] at hx
    rcases List.mem_append.1 hx with hx | hx
    · exact h2 x hx hf
    · simp at hx
      rw [hx, ← h1, hg] at hf
      cases hf
  · exact .inr h1
theorem RMid.yes {ns : List Int} {es : List Ed} {n : Int} {f g : Nat → Bool} {k : Nat} {e : Ed} (hb : ∀ z ∈ ns, 1 ≤ z ∧ z ≤ 24) (hed : ∀ e ∈ es, e.1 ∈ ns ∧ e.2.1 ∈ ns) (h : RMid ns es n f g k) (he : es[k]? = some e) (hg : g e.1.toNat = true) : RMid ns es n f (mk1 g e.2.1.toNat) (k + 1) := by
  have hm := List.mem_of_getElem? he
  have h3 := hed e hm
  have b1 := hb _ h3.1
  have b2 := hb _ h3.2
  by_cases hy : g e.2.1.toNat = true
  · rw [mk1_again hy]
    refine ⟨h.so, h.nn, h.mem, ?_⟩
    rcases h.go with ⟨h1, h2⟩ | h1
    · refine .inl ⟨h1, fun x hx hf => ?_⟩
      rw [take_snoc he] at hx
      rcases List.mem_append.1 hx with hx | hx
      · exact h2 x hx hf
      · simp at hx
        rw [hx, ← h1]
        exact hy
    · exact .inr h1
  · have hy' : g e.2.1.toNat = false := by simpa using hy
    have hc := cnt_mk1 g (show e.2.1.toNat < 25 by omega) hy'
    refine ⟨fun i hi => ?_, mk1_iff.2 (.inr h.nn), fun i hi => ?_, .inr ?_⟩
    · rcases mk1_iff.1 hi with rfl | hi
      · have h5 := h.so _ hg
        rw [Int.toNat_of_nonneg (by omega)] at h5 ⊢
        exact h5.step hm
      · exact h.so i hi
    · rcases mk1_iff.1 hi with rfl | hi
      · rw [Int.toNat_of_nonneg (by omega)]
        exact h3.2
      · exact h.mem i hi
    · rcases h.go with ⟨h1, _⟩ | ⟨h1, h2⟩
      · refine ⟨fun hall => ?_, by rw [hc, h1]; exact Nat.le_refl _⟩
        have := hall e hm (by rw [← h1]; exact hg)
        rw [← h1, hy'] at this
        cases this
      · exact ⟨h1, by omega⟩
theorem RMid.stop {ns : List Int} {es : List Ed} {n : Int} {f g : Nat → Bool} {r k : Nat} (h : RInv ns es n f r) (hm : RMid ns es n f g k) (hk : es.length ≤ k) : RInv ns es n g (r + 1) := by
  refine ⟨hm.so, hm.nn, hm.mem, ?_⟩
  rcases hm.go with ⟨h1, h2⟩ | ⟨h1, h2⟩
  · left
    rw [h1]
    rw [List.take_of_length_le hk] at h2
    exact h2
  · right
    rcases h.go with h3 | h3
    · exact absurd h3 h1
    · omega
theorem RInv.part {ns : List Int} {es : List Ed} {n : Int} {f : Nat → Bool} (hn : n ∈ ns) (hed : ∀ e ∈ es, e.1 ∈ ns ∧ e.2.1 ∈ ns) (h : RInv ns es n f ns.length) : IsPart es n f := by
  refine isPart_of hn hed h.so h.nn ?_
  rcases h.go with h1 | h1
  · exact h1
  · exfalso
    have h2 := count_tos (ns.map fun x => (x, (0 : Int))) (List.range 25) List.nodup_range
    rw [List.length_map] at h2
    have h3 : cnt f ≤ ((List.range 25).filter fun b => (ns.map fun x => (x, (0 : Int))).any fun x => decide (x.1.toNat = b)).length := by
      refine filter_len _ fun b _ hb => ?_
      rw [List.any_eq_true]
      exact ⟨((b : Int), 0), List.mem_map.2 ⟨(b : Int), h.mem b hb, rfl⟩, by simp⟩
    omega
theorem rInv_one {ns : List Int} {es : List Ed} {n : Int} (hb : ∀ z ∈ ns, 1 ≤ z ∧ z ≤ 24) (hn : n ∈ ns) : RInv ns es n (mk1 no1 n.toNat) 0 := by
  have h1 := hb n hn
  refine ⟨fun i hi => ?_, mk1_same _ _, fun i hi => ?_, .inr ?_⟩
  · rcases mk1_iff.1 hi with rfl | h
    · rw [Int.toNat_of_nonneg (by omega)]; exact Rch.refl _ _
    · simp [no1] at h
  · rcases mk1_iff.1 hi with rfl | h
    · rw [Int.toNat_of_nonneg (by omega)]; exact hn
    · simp [no1] at h
  · rw [cnt_mk1 no1 (show n.toNat < 25 by omega) rfl]
    omega
end Go.Proofs.YtgeoghhajjlofaaGreatDoor
namespace Go.Proofs.YtgeoghhajjlofaaGreatDoor
open Go.RowKit

theorem row_last {α : Type} {cs : α → List Value} {sz : Nat} (hc : ∀ x, (cs x).length = sz) {w : World} {base g cap : Nat} {e : TypeId} {l : List α} {x : α} (hr : w.ownsRow base e sz (.slice (some ⟨g, 0, none⟩) (l.length + 1) cap) (l.length + 1) (fl cs (l ++ [x]))) : l.length + 1 ≤ cap ∧ l.length + 1 ≤ 9223372036854775807 ∧ g < w.heap.size ∧ ∀ i u, (cs x)[i]? = some u → w.cell? ⟨g, l.length * sz + i, none⟩ = some u := by
  obtain ⟨a, c, he, h1, h2, h3⟩ := slAt_of_row hc hr (by simp)
  simp at he
  obtain ⟨rfl, rfl⟩ := he
  obtain ⟨bk, o, h4, h5, h6⟩ := h3 (by simp)
  simp only [Option.some.injEq, Addr.mk.injEq, and_true] at h4
  obtain ⟨rfl, rfl⟩ := h4
  simp at h1 h2
  refine ⟨h2, by omega, h5, fun i u hu => ?_⟩
  have := h6 l.length x (by simp) i u hu
  rwa [Nat.zero_add] at this
/-- Near's answer, in one form. -/
theorem near_uni {w w' : World} {ns : List Int} {es : List Ed} {n : Int} {e : Ending} (h : ((graphOk ns es && hasN ns n) = true ∧ ∃ u, e = .returned (.tuple #[u, .int .i64 0]) ∧ w'.ownsRow w.heap.size 75 2 u (nearL es n).length (fl ac (nearL es n))) ∨ ((graphOk ns es && hasN ns n) = false ∧ e = .returned (.tuple #[.slice none 0 0, .int .i64 2]))) :
    ∃ ua ucap, e = .returned (.tuple #[.slice ua (if (graphOk ns es && hasN ns n) = true then nearL es n else []).length ucap, .int .i64 (if (graphOk ns es && hasN ns n) = true then 0 else 2)]) ∧ w'.ownsRow w.heap.size 75 2 (.slice ua (if (graphOk ns es && hasN ns n) = true then nearL es n else []).length ucap) (if (graphOk ns es && hasN ns n) = true then nearL es n else []).length (fl ac (if (graphOk ns es && hasN ns n) = true then nearL es n else [])) := by
  rcases h with ⟨h, u, rfl, hu⟩ | ⟨h, rfl⟩
  · obtain ⟨ua, ucap, rfl⟩ := row_shape hu
    rw [h]
    exact ⟨ua, ucap, rfl, hu⟩
  · rw [h]
    exact ⟨none, 0, rfl, World.ownsRow_nil _ _ _ _⟩
/-- Part's answer, in one form. -/
theorem part_uni {w w' : World} {ns : List Int} {es : List Ed} {n : Int} {e : Ending} (h : PartAns w ns es n e w') :
    ∃ L ua ucap, ((graphOk ns es && hasN ns n) = true → ∃ f, IsPart es n f ∧ L = markedL f) ∧ ((graphOk ns es && hasN ns n) = false → L = []) ∧ e = .returned (.tuple #[.slice ua L.length ucap, .int .i64 (if (graphOk ns es && hasN ns n) = true then 0 else 2)]) ∧ w'.ownsRow w.heap.size 3 1 (.slice ua L.length ucap) L.length (fl ic L) := by
  rcases h with ⟨h, f, u, hf, rfl, hu⟩ | ⟨h, rfl⟩
  · obtain ⟨ua, ucap, rfl⟩ := row_shape hu
    rw [h]
    exact ⟨markedL f, ua, ucap, fun _ => ⟨f, hf, rfl⟩, (fun h => by cases h), rfl, hu⟩
  · rw [h]
    exact ⟨[], none, 0, (fun h => by cases h), fun _ => rfl, rfl, World.ownsRow_nil _ _ _ _⟩
theorem part_same {es : List Ed} {n : Int} {b : Bool} {L M : List Int} (h1 : b = true → ∃ f, IsPart es n f ∧ L = markedL f) (h2 : b = false → L = []) (k1 : b = true → ∃ f, IsPart es n f ∧ M = markedL f) (k2 : b = false → M = []) : L = M := by
  cases b
  · rw [h2 rfl, k2 rfl]
  · obtain ⟨f, hf, rfl⟩ := h1 rfl
    obtain ⟨g, hg, rfl⟩ := k1 rfl
    exact hf.same hg
/-- An own row that may be written. -/
theorem row_write {w : World} {base n cap sz : Nat} {a : Option Addr} {e : TypeId} {xs : List Value} (hr : w.ownsRow base e sz (.slice a n cap) n xs) (h0 : 0 < n) : ∃ g, a = some ⟨g, 0, none⟩ ∧ base ≤ g ∧ g < w.heap.size ∧ (∀ j, j < n * sz → ∃ v, w.cell? ⟨g, j, none⟩ = some v) ∧ ∀ j, w.frozen? ⟨g, j, none⟩ = false := by
  rcases hr.2 with ⟨_, h⟩ | ⟨g, cap', cur, h, hb, hh, h1, _, h3, _⟩
  · omega
  · simp at h
    obtain ⟨rfl, rfl⟩ := h
    refine ⟨g, rfl, hb, block_lt hh, fun j hj => ?_, fun j => frozen_new hh j⟩
    have : n * sz ≤ cap * sz := Nat.mul_le_mul_right _ h1
    rw [cell_of_row w g j cur e _ hh]
    exact ⟨cur[j]'(by omega), Array.getElem?_eq_getElem _⟩

end Go.Proofs.YtgeoghhajjlofaaGreatDoor
namespace Go.Proofs.YtgeoghhajjlofaaGreatDoor
open Go.RowKit

theorem map_upd {D : Int → Int} {y v : Int} : ∀ {ns : List Int} {k : Nat}, ns.Nodup → ns[k]? = some y → ns.map (fun z => if z = y then v else D z) = (ns.map D).set k v
  | [], _, _, h => by simp at h
  | x :: ns, 0, hn, h => by
    simp at h
    subst h
    rw [List.nodup_cons] at hn
    simp only [List.map_cons, List.set_cons_zero, if_pos]
    congr 1
    refine List.map_congr_left fun z hz => ?_
    rw [if_neg (fun e => hn.1 (by rw [← e]; exact hz))]
  | x :: ns, k + 1, hn, h => by
    rw [List.nodup_cons] at hn
    have hk : ns[k]? = some y := by simpa using h
    have hxy : x ≠ y := fun e => hn.1 (by rw [e]; exact List.mem_of_getElem? hk)
    simp only [List.map_cons, List.set_cons_succ, if_neg hxy]
    rw [map_upd hn.2 hk]
theorem flic_set {l : List Int} {k : Nat} (v : Int) : (fl ic l).set k (.int .i64 v) = fl ic (l.set k v) := by
  have h : ∀ l : List Int, fl ic l = l.map (Value.int .i64) := fun l => by
    induction l with
    | nil => rfl
    | cons x l ih => show Value.int .i64 x :: fl ic l = _; rw [ih]; rfl
  rw [h, h, List.map_set]
theorem row_drewN {w : World} {base k size : Nat} {e : TypeId} {u : Value} {xs : List Value} (h : w.ownsRow base e size u k xs) (n : Nat) : (w.drewN n).ownsRow base e size u k xs := row_below h (below_drewN (Below.refl _ w) n) (Nat.le_refl _)
theorem frozen_row {w : World} {base k size g n cap : Nat} {e : TypeId} {xs : List Value} (h : w.ownsRow base e size (.slice (some ⟨g, 0, none⟩) n cap) k xs) (j : Nat) : w.frozen? ⟨g, j, none⟩ = false := by
  rcases h.2 with ⟨h1, _⟩ | ⟨g', cap', cur, h1, _, hh, _⟩
  · cases h1
  · simp at h1
    rw [h1.1]
    exact frozen_new hh j
theorem block_lt_of_cell {w : World} {p : Addr} {v : Value} (h : w.cell? p = some v) : p.block < w.heap.size := by
  rcases Nat.lt_or_ge p.block w.heap.size with h1 | h1
  · exact h1
  · simp [World.cell?, Array.getElem?_eq_none h1] at h
/-- A row of numbers, opened: its cells, and that they may be written. -/
theorem rowI_open {w : World} {base n cap : Nat} {a : Option Addr} {xs : List Int} (hr : w.ownsRow base 3 1 (.slice a n cap) n (fl ic xs)) (hn : xs.length = n) (h0 : 0 < n) : ∃ g, a = some ⟨g, 0, none⟩ ∧ base ≤ g ∧ (∀ j x, xs[j]? = some x → w.cell? ⟨g, j, none⟩ = some (.int .i64 x)) ∧ ∀ j, w.frozen? ⟨g, j, none⟩ = false := by
  obtain ⟨g, rfl, hb, _, _, hf⟩ := row_write hr h0
  refine ⟨g, rfl, hb, fun j x hx => ?_, hf⟩
  obtain ⟨a', cap', he, _, _, hc⟩ := (slAt_of_row (cs := ic) (fun _ => rfl) hr hn).ints
  obtain ⟨bk, o, ha, _, hcell⟩ := hc (by omega)
  simp only [Value.slice.injEq] at he
  rw [← he.1] at ha
  simp only [Option.some.injEq, Addr.mk.injEq, and_true] at ha
  have := hcell j x hx
  rw [← ha.1, ← ha.2, Nat.zero_add] at this
  exact this
end Go.Proofs.YtgeoghhajjlofaaGreatDoor
namespace Go.Proofs.YtgeoghhajjlofaaGreatDoor
open Go.RowKit

/-- Does an edge lie on least-cost ways, by costs? -/
def tgI (D : Int → Int) (e : Ed) : Bool := decide (D e.1 < farC) && (D e.1 + e.2.2 == D e.2.1)
/-- Tight edges of the document's costs lead into nodes. -/
theorem tg_into {ns : List Int} {es : List Ed} (hok : graphOk ns es = true) {r : Int} (hr : r ∈ ns) {e : Ed} (he : e ∈ es) {d : Int} (hd : Ds es r e.2.1 d) : tgI (bfN es r ns.length) e = true ↔ Into es r e.2.1 e := by
  unfold tgI
  simp only [Bool.and_eq_true, decide_eq_true_eq, beq_iff_eq]
  have hdy : bfN es r ns.length e.2.1 = d := by
    rcases bf_all hok hr e.2.1 with ⟨d', h1, h2, _⟩ | ⟨h1, _⟩
    · rw [h2]; exact h1.uniq hd
    · exact absurd hd (h1 d)
  rw [hdy]
  rcases bf_all hok hr e.1 with ⟨d', h1, h2, _⟩ | ⟨h1, h2⟩
  · rw [h2]
    constructor
    · rintro ⟨_, h3⟩
      exact ⟨he, rfl, d', h1, by rw [h3]; exact hd⟩
    · rintro ⟨_, _, c, h3, h4⟩
      have e1 := h3.uniq h1
      have e2 := h4.uniq hd
      obtain ⟨_, _, _, h7, h8, h9⟩ : ∃ d'', Ds es r e.1 d'' ∧ d' = d'' ∧ bfN es r ns.length e.1 = d'' ∧ 0 ≤ d'' ∧ d'' ≤ 1000 * ns.length := by
        rcases bf_all hok hr e.1 with ⟨d'', k1, k2, k3, k4⟩ | ⟨k1, _⟩
        · exact ⟨d'', k1, h1.uniq k1, k2, k3, k4⟩
        · exact absurd h1 (k1 d')
      have := graphOk_n24 hok
      refine ⟨?_, by omega⟩
      unfold farC
      omega
  · rw [h2]
    constructor
    · rintro ⟨h3, _⟩
      exact absurd h3 (Int.lt_irrefl _)
    · rintro ⟨_, _, c, h3, _⟩
      exact absurd h3 (h1 c)
end Go.Proofs.YtgeoghhajjlofaaGreatDoor
namespace Go.Proofs.YtgeoghhajjlofaaGreatDoor

theorem edgesOk_rise {ns : List Int} : ∀ (es : List Ed) (last : Ed), edgesOk ns last es = true → (∀ e ∈ es, risesE last e = true) ∧ es.Pairwise fun a b => risesE a b = true
  | [], _, _ => by simp
  | a :: es, last, h => by
    simp only [edgesOk, edgeOk, Bool.and_eq_true] at h
    obtain ⟨h1, h2⟩ := edgesOk_rise es a h.2
    have hl : risesE last a = true := h.1.2.2.2.2
    have tr : ∀ x y z : Ed, risesE x y = true → risesE y z = true → risesE x z = true := fun x y z g1 g2 => by
      simp only [risesE, Bool.or_eq_true, Bool.and_eq_true, decide_eq_true_eq] at g1 g2 ⊢
      omega
    refine ⟨fun e he => ?_, List.pairwise_cons.2 ⟨h1, h2⟩⟩
    rcases List.mem_cons.1 he with rfl | he
    · exact hl
    · exact tr _ _ _ hl (h1 e he)
theorem graphOk_nodup {ns : List Int} {es : List Ed} (h : graphOk ns es = true) : es.Nodup := by
  simp only [graphOk, Bool.and_eq_true] at h
  exact (edgesOk_rise es _ h.2.2).2.imp (fun {a b} hr e => by
    subst e
    simp [risesE] at hr)
theorem told_nodup {es : List Ed} (hd : es.Nodup) (P : List (Int × Int)) : ∀ Q : List (Int × Int), (Q.map (·.1)).Nodup → (told es P Q).Nodup
  | [], _ => by simp [told]
  | n :: Q, hq => by
    rw [List.map_cons, List.nodup_cons] at hq
    rw [told, List.nodup_append]
    refine ⟨hd.filter _, told_nodup hd P Q hq.2, fun a ha b hb e => ?_⟩
    subst e
    simp only [List.mem_filter, Bool.and_eq_true, decide_eq_true_eq] at ha
    obtain ⟨⟨m, hm, h1⟩, _⟩ := told_mem.1 hb
    exact hq.1 (List.mem_map.2 ⟨m, hm, by rw [← h1, ha.2.1]⟩)
def two64 : Nat := 18446744073709551616
def cntG (acc was : Nat) (_ : Ed) : Nat := (acc + was) % 18446744073709551616
theorem cntE_step : cntE = stepG cntG := by funext c e; rfl
theorem fold_sum (N : Nat → Nat) : ∀ (L : List Ed) (a : Nat), a < 18446744073709551616 → L.foldl (fun acc e => cntG acc (N e.1.toNat) e) a = (a + (L.map fun e => N e.1.toNat).sum) % 18446744073709551616
  | [], a, h => by simp; omega
  | e :: L, a, h => by
    rw [List.foldl_cons, fold_sum N L _ (by unfold cntG; omega), List.map_cons, List.sum_cons]
    unfold cntG
    omega
theorem perm_into {ns : List Int} {es : List Ed} {r : Int} {P : List (Int × Int)} (hok : graphOk ns es = true) (h : IsNear es r P) (hn : NdOk P) (x : Int) (hx : x ∈ ns) (I : Ed → Bool) (hI : ∀ e, e ∈ es → (I e = true ↔ Into es r x e)) : ((told es P P).filter fun e => decide (e.2.1.toNat = x.toNat)).Perm (es.filter I) := by
  have hbd := graphOk_bd hok
  have h0 : ∀ n ∈ P, 0 ≤ n.1 := fun n h1 => by have := (hn.2 n h1).1; omega
  have hd := graphOk_nodup hok
  rw [List.perm_ext_iff_of_nodup ((told_nodup hd P P h.nd).filter _) (hd.filter _)]
  intro e
  rw [List.mem_filter, List.mem_filter, h.told_iff h0, decide_eq_true_eq]
  have h2 := hbd.1 x hx
  constructor
  · rintro ⟨⟨h1, d, hd1, hd2⟩, h3⟩
    have h4 := hbd.1 _ (hbd.2.1 e h1).2
    have h5 : e.2.1 = x := by omega
    exact ⟨h1, (hI e h1).2 ⟨h1, h5, d, hd1, by rw [← h5]; exact hd2⟩⟩
  · rintro ⟨h1, h3⟩
    obtain ⟨_, h4, d, hd1, hd2⟩ := (hI e h1).1 h3
    exact ⟨⟨h1, d, hd1, by rw [h4]; exact hd2⟩, by rw [h4]⟩
/-- As many ways as those ahead have together. -/
theorem cnt_all {ns : List Int} {es : List Ed} {r : Int} {P : List (Int × Int)} (hok : graphOk ns es = true) (hr : r ∈ ns) (h : IsNear es r P) (hn : NdOk P) (x : Int) (hx : x ∈ ns) (I : Ed → Bool) (hI : ∀ e, e ∈ es → (I e = true ↔ Into es r x e)) :
    cntT r (told es P P) x.toNat = ((if x = r then 1 else 0) + ((es.filter I).map fun e => cntT r (told es P P) e.1.toNat).sum) % 18446744073709551616 := by
  have hp := graphOk_pos hok
  have hbd := graphOk_bd hok
  have h0 : ∀ n ∈ P, 0 ≤ n.1 := fun n h1 => by have := (hn.2 n h1).1; omega
  have hfold := topo_fold cntG (putV (fun _ => 0) r.toNat 1) _ _ rfl (h.topo h0 hp) x.toNat
  have h1 := hbd.1 x hx
  have h2 := hbd.1 r hr
  have hcnt : ∀ y, (told es P P).foldl (stepG cntG) (putV (fun _ => 0) r.toNat 1) y = cntT r (told es P P) y := fun y => by unfold cntT; rw [cntE_step]; rfl
  rw [hcnt] at hfold
  rw [hfold]
  have hi : putV (fun _ => 0) r.toNat 1 x.toNat = (if x = r then 1 else 0 : Nat) := by
    unfold putV
    by_cases e : x = r
    · rw [if_pos (by rw [e]), if_pos e]
    · rw [if_neg (by omega), if_neg e]
  rw [hi]
  have hf : ∀ (L : List Ed) (a : Nat), L.foldl (fun acc e => cntG acc ((told es P P).foldl (stepG cntG) (putV (fun _ => 0) r.toNat 1) e.1.toNat) e) a = L.foldl (fun acc e => cntG acc (cntT r (told es P P) e.1.toNat) e) a := fun L a => by
    congr
  rw [hf, fold_sum _ _ _ (by split <;> omega), ((perm_into hok h hn x hx I hI).map _).sum_nat]
end Go.Proofs.YtgeoghhajjlofaaGreatDoor
namespace Go.Proofs.YtgeoghhajjlofaaGreatDoor

def wh (es : List Ed) (a : Int) : Nat → Int → Int → Nat
  | 0, x, c => if x = a ∧ c = 0 then 1 else 0
  | h + 1, x, c => (es.map fun e => if e.2.1 = x then wh es a h e.1 (c - e.2.2) else 0).sum
theorem sum_add (es : List Ed) (F G : Ed → Nat) : (es.map fun e => F e + G e).sum = (es.map F).sum + (es.map G).sum := by
  induction es with
  | nil => rfl
  | cons e es ih => simp only [List.map_cons, List.sum_cons, ih]; omega
theorem sum_swap (fs : List Ed) (G : Ed → Ed → Nat) : ∀ es : List Ed, (es.map fun e => (fs.map fun f => G e f).sum).sum = (fs.map fun f => (es.map fun e => G e f).sum).sum
  | [] => by
    have : ∀ fs : List Ed, (fs.map fun _ => 0).sum = 0 := fun fs => by induction fs with | nil => rfl | cons f fs ih => rw [List.map_cons, List.sum_cons, ih]
    simp only [List.map_nil, List.sum_nil]
    exact (this fs).symm
  | e :: es => by
    simp only [List.map_cons, List.sum_cons]
    rw [sum_swap fs G es, sum_add]
theorem sum_if (es : List Ed) (p : Prop) [Decidable p] (F : Ed → Nat) : (if p then (es.map F).sum else 0) = (es.map fun e => if p then F e else 0).sum := by
  by_cases h : p
  · simp only [h, if_true]
  · simp only [h, if_false]
    induction es with
    | nil => rfl
    | cons e es ih => rw [List.map_cons, List.sum_cons, ← ih]
theorem sum_congr {es : List Ed} {F G : Ed → Nat} (h : ∀ e ∈ es, F e = G e) : (es.map F).sum = (es.map G).sum := by
  rw [List.map_congr_left h]
theorem wh_first (es : List Ed) : ∀ (h : Nat) (a x c : Int), wh es a (h + 1) x c = (es.map fun e => if e.1 = a then wh es e.2.1 h x (c - e.2.2) else 0).sum
  | 0, a, x, c => by
    refine sum_congr fun e _ => ?_
    simp only [wh]
    by_cases h1 : e.2.1 = x <;> by_cases h2 : e.1 = a <;> simp [h1, h2]
    intro h3
    exact absurd h3.symm h1
  | h + 1, a, x, c => by
    have h1 : wh es a (h + 2) x c = (es.map fun e => (es.map fun f => if e.2.1 = x then (if f.1 = a then wh es f.2.1 h e.1 (c - e.2.2 - f.2.2) else 0) else 0).sum).sum := by
      refine sum_congr fun e _ => ?_
      rw [wh_first es h a e.1 (c - e.2.2), sum_if]
    have h2 : (es.map fun f => if f.1 = a then wh es f.2.1 (h + 1) x (c - f.2.2) else 0).sum = (es.map fun f => (es.map fun e => if f.1 = a then (if e.2.1 = x then wh es f.2.1 h e.1 (c - f.2.2 - e.2.2) else 0) else 0).sum).sum := by
      refine sum_congr fun f _ => ?_
      rw [← sum_if]
      rfl
    rw [h1, h2, sum_swap]
    refine sum_congr fun f _ => sum_congr fun e _ => ?_
    by_cases g1 : e.2.1 = x <;> by_cases g2 : f.1 = a <;> simp [g1, g2]
    congr 1
    omega
def turnE (e : Ed) : Ed := (e.2.1, e.1, e.2.2)
theorem turn_perm {es : List Ed} (hd : es.Nodup) (hs : BothW es) : (es.map turnE).Perm es := by
  have hinj : (es.map turnE).Nodup := by
    refine List.Pairwise.map _ ?_ hd
    intro a b hab e
    apply hab
    obtain ⟨a1, a2, a3⟩ := a
    obtain ⟨b1, b2, b3⟩ := b
    simp only [turnE, Prod.mk.injEq] at e ⊢
    exact ⟨e.2.1, e.1, e.2.2⟩
  rw [List.perm_ext_iff_of_nodup hinj hd]
  intro e
  constructor
  · intro h
    obtain ⟨f, hf, rfl⟩ := List.mem_map.1 h
    exact hs f hf
  · intro h
    exact List.mem_map.2 ⟨_, hs e h, rfl⟩
theorem wh_turn {es : List Ed} (hd : es.Nodup) (hs : BothW es) : ∀ (h : Nat) (a x c : Int), wh es a h x c = wh es x h a c
  | 0, a, x, c => by
    simp only [wh]
    by_cases e : x = a
    · subst e; rfl
    · rw [if_neg (fun h => e h.1), if_neg (fun h => e h.1.symm)]
  | h + 1, a, x, c => by
    rw [wh_first es h x a c]
    show (es.map fun e => if e.2.1 = x then wh es a h e.1 (c - e.2.2) else 0).sum = _
    rw [← ((turn_perm hd hs).map fun e => if e.2.1 = x then wh es a h e.1 (c - e.2.2) else 0).sum_nat, List.map_map]
    refine sum_congr fun e _ => ?_
    show (if e.1 = x then wh es a h e.2.1 (c - e.2.2) else 0) = _
    rw [wh_turn hd hs h a e.2.1]
/-- Where there are such ways, there is one. -/
theorem wh_wy {es : List Ed} {a : Int} : ∀ {h : Nat} {x c : Int}, 0 < wh es a h x c → Wy es a x c h
  | 0, x, c, hw => by
    simp only [wh] at hw
    split at hw
    · rename_i h1
      rw [h1.1, h1.2]
      exact Wy.refl _ _
    · omega
  | h + 1, x, c, hw => by
    have : ∃ e ∈ es, e.2.1 = x ∧ 0 < wh es a h e.1 (c - e.2.2) := Classical.byContradiction fun hno => by
      have h0 : wh es a (h + 1) x c = (es.map fun _ => 0).sum := sum_congr fun e he => by
        by_cases h1 : e.2.1 = x
        · rw [if_pos h1]
          exact Nat.eq_zero_of_not_pos fun h2 => hno ⟨e, he, h1, h2⟩
        · rw [if_neg h1]
      have hz : (es.map fun _ => 0).sum = 0 := by
        clear h0 hw hno
        induction es with
        | nil => rfl
        | cons e es ih => rw [List.map_cons, List.sum_cons, ih]
      omega
    obtain ⟨e, he, h1, h2⟩ := this
    have h3 := (wh_wy h2).step he
    rw [h1, Int.sub_add_cancel] at h3
    exact h3
end Go.Proofs.YtgeoghhajjlofaaGreatDoor
namespace Go.Proofs.YtgeoghhajjlofaaGreatDoor

/-- How many ways cost d. -/
def waysN (es : List Ed) (r x d : Int) : Nat := ((List.range (d.toNat + 1)).map fun h => wh es r h x d).sum
theorem sumN_zero {F : Nat → Nat} : ∀ {l : List Nat}, (∀ h ∈ l, F h = 0) → (l.map F).sum = 0
  | [], _ => rfl
  | h :: l, hz => by rw [List.map_cons, List.sum_cons, hz h (by simp), sumN_zero (l := l) (fun k hk => hz k (by simp [hk]))]
theorem sumN_swap (es : List Ed) (G : Nat → Ed → Nat) : ∀ l : List Nat, (l.map fun h => (es.map fun e => G h e).sum).sum = (es.map fun e => (l.map fun h => G h e).sum).sum
  | [] => by
    simp only [List.map_nil, List.sum_nil]
    induction es with
    | nil => rfl
    | cons e es ih =>
      rw [List.map_cons, List.sum_cons, ← ih]
      rfl
  | h :: l => by
    simp only [List.map_cons, List.sum_cons]
    rw [sumN_swap es G l, sum_add]
/-- More hops than the cost: none. -/
theorem wh_far {es : List Ed} (hp : PosE es) {r x c : Int} {h : Nat} (hc : c < h) : wh es r h x c = 0 :=
  Nat.eq_zero_of_not_pos fun h0 => by have := ((wh_wy h0).pos hp).1; omega
theorem range_more (F : Nat → Nat) (n : Nat) : ∀ m, (∀ h, n ≤ h → F h = 0) → ((List.range (n + m)).map F).sum = ((List.range n).map F).sum
  | 0, _ => rfl
  | m + 1, hz => by
    rw [← Nat.add_assoc, List.range_succ, List.map_append, List.sum_append, range_more F n m hz]
    simp [hz (n + m) (by omega)]
theorem sum_filter (I : Ed → Bool) (F : Ed → Nat) : ∀ es : List Ed, ((es.filter I).map F).sum = (es.map fun e => if I e = true then F e else 0).sum
  | [] => rfl
  | e :: es => by
    by_cases h : I e = true
    · rw [List.filter_cons_of_pos h, List.map_cons, List.sum_cons, sum_filter I F es, List.map_cons, List.sum_cons, if_pos h]
    · rw [List.filter_cons_of_neg h, sum_filter I F es, List.map_cons, List.sum_cons, if_neg h, Nat.zero_add]
theorem sum_mod (F : Ed → Nat) (M a : Nat) : ∀ es : List Ed, (a + (es.map fun e => F e % M).sum) % M = (a + (es.map F).sum) % M := by
  intro es
  induction es generalizing a with
  | nil => rfl
  | cons e es ih =>
    simp only [List.map_cons, List.sum_cons]
    have h1 : (a + F e % M) % M = (a + F e) % M := Nat.add_mod_mod _ _ _
    rw [← Nat.add_assoc, ← Nat.add_assoc, ih (a + F e % M), Nat.add_mod (a + F e % M), h1, ← Nat.add_mod]
theorem waysN_step {ns : List Int} {es : List Ed} {r x d : Int} (hok : graphOk ns es = true) (hd : Ds es r x d) (I : Ed → Bool) (hI : ∀ e, e ∈ es → (I e = true ↔ Into es r x e)) :
    waysN es r x d = (if x = r then 1 else 0) + ((es.filter I).map fun e => waysN es r e.1 (d - e.2.2)).sum := by
  have hp := graphOk_pos hok
  have hd0 := hd.nonneg hp
  unfold waysN
  rw [List.range_succ_eq_map, List.map_cons, List.sum_cons, List.map_map]
  have h1 : wh es r 0 x d = if x = r then 1 else 0 := by
    simp only [wh]
    by_cases e : x = r
    · subst e
      rw [if_pos ⟨rfl, hd.uniq (ds_root hp)⟩, if_pos rfl]
    · rw [if_neg (fun h => e h.1), if_neg e]
  rw [h1]
  congr 1
  have h2 : ((List.range d.toNat).map ((fun h => wh es r h x d) ∘ Nat.succ)).sum = ((List.range d.toNat).map fun h => (es.map fun e => if e.2.1 = x then wh es r h e.1 (d - e.2.2) else 0).sum).sum := rfl
  rw [h2, sumN_swap, sum_filter]
  refine sum_congr fun e he => ?_
  by_cases hin : I e = true
  · rw [if_pos hin]
    obtain ⟨_, h3, d', h4, h5⟩ := (hI e he).1 hin
    have h6 := hd.uniq h5
    have h7 := hp e he
    have h8 := h4.nonneg hp
    simp only [h3, if_true]
    obtain ⟨m, hm⟩ : ∃ m, d.toNat = ((d - e.2.2).toNat + 1) + m := ⟨d.toNat - ((d - e.2.2).toNat + 1), by omega⟩
    rw [hm]
    exact range_more _ _ m (fun h hh => wh_far hp (by omega))
  · rw [if_neg hin]
    refine sumN_zero fun h _ => ?_
    by_cases h3 : e.2.1 = x
    · rw [if_pos h3]
      refine Nat.eq_zero_of_not_pos fun h0 => hin ((hI e he).2 ?_)
      exact (into_last hd he (wh_wy h0) h3.symm (by omega)).1
    · rw [if_neg h3]
open Classical in
theorem cnt_ways {ns : List Int} {es : List Ed} {r : Int} {P : List (Int × Int)} (hok : graphOk ns es = true) (hr : r ∈ ns) (h : IsNear es r P) (hn : NdOk P) :
    ∀ (n : Nat) (x d : Int), d.toNat = n → x ∈ ns → Ds es r x d → cntT r (told es P P) x.toNat = waysN es r x d % 18446744073709551616 := by
  have hp := graphOk_pos hok
  have hbd := graphOk_bd hok
  intro n
  induction n using Nat.strongRecOn with
  | _ n ih =>
  intro x d hdn hx hd
  have hI : ∀ e, e ∈ es → (decide (Into es r x e) = true ↔ Into es r x e) := fun e _ => decide_eq_true_iff
  rw [cnt_all hok hr h hn x hx (fun e => decide (Into es r x e)) hI, waysN_step hok hd (fun e => decide (Into es r x e)) hI]
  rw [← sum_mod (fun e => waysN es r e.1 (d - e.2.2))]
  congr 2
  refine sum_congr fun e he => ?_
  rw [List.mem_filter, decide_eq_true_iff] at he
  obtain ⟨h1, h2, d', h3, h4⟩ := he.2
  have h5 := hd.uniq h4
  have h6 := hp e h1
  have h7 := h3.nonneg hp
  rw [show d - e.2.2 = d' by omega]
  exact ih d'.toNat (by omega) e.1 d' rfl (hbd.2.1 e h1).1 h3
/-- As many ways back. -/
theorem waysN_turn {es : List Ed} (hd : es.Nodup) (hs : BothW es) (a x d : Int) : waysN es a x d = waysN es x a d := by
  unfold waysN
  congr 1
  exact List.map_congr_left fun h _ => wh_turn hd hs h a x d
end Go.Proofs.YtgeoghhajjlofaaGreatDoor
namespace Go.Proofs.YtgeoghhajjlofaaGreatDoor

theorem cnt_row (y : Int) : ∀ (F : List Ed) (c : Nat → Nat), (∀ e ∈ F, e.1 = y ∧ e.2.1.toNat ≠ y.toNat) → (F.Pairwise fun a b => a.2.1.toNat ≠ b.2.1.toNat) →
    (F.foldl cntE c) y.toNat = c y.toNat ∧ (∀ j, (F.foldl cntE c) j ≤ c j + c y.toNat) ∧ ∀ j, (∀ e ∈ F, e.2.1.toNat ≠ j) → (F.foldl cntE c) j = c j
  | [], c, _, _ => ⟨rfl, fun j => by simp, fun j _ => rfl⟩
  | e :: F, c, h, hp => by
    rw [List.pairwise_cons] at hp
    have he := h e (by simp)
    have hy : cntE c e y.toNat = c y.toNat := by unfold cntE putN; rw [if_neg (fun q => he.2 q.symm)]
    obtain ⟨h1, h2, h3⟩ := cnt_row y F (cntE c e) (fun f hf => h f (by simp [hf])) hp.2
    rw [List.foldl_cons]
    refine ⟨by rw [h1, hy], fun j => ?_, fun j hj => ?_⟩
    · by_cases hj : j = e.2.1.toNat
      · have h4 := h3 j (fun f hf q => hp.1 f hf (by rw [q, hj]))
        rw [h4]
        unfold cntE putN
        rw [if_pos hj, he.1, hj]
        exact Nat.mod_le _ _
      · have h4 := h2 j
        have h5 : cntE c e j = c j := by unfold cntE putN; rw [if_neg hj]
        rw [hy, h5] at h4
        exact h4
    · have h4 := h3 j (fun f hf => hj f (by simp [hf]))
      rw [h4]
      unfold cntE putN
      rw [if_neg (fun q => hj e (by simp) q.symm)]
theorem cnt_bound {ns : List Int} {es : List Ed} (hok : graphOk ns es = true) (hp : PosE es) (P : List (Int × Int)) (hne : ∀ e ∈ es, e.1 ≠ e.2.1) : ∀ (Q : List (Int × Int)) (c : Nat → Nat) (B : Nat), (∀ j, c j ≤ B) → ∀ j, ((told es P Q).foldl cntE c) j ≤ B * 2 ^ Q.length
  | [], c, B, h, j => by simpa [told] using h j
  | n :: Q, c, B, h, j => by
    have hbd := graphOk_bd hok
    have hr : es.Pairwise fun a b => risesE a b = true := by
      simp only [graphOk, Bool.and_eq_true] at hok
      exact (edgesOk_rise es _ hok.2.2).2
    rw [told, List.foldl_append]
    have hrow := cnt_row n.1 (es.filter fun e => decide (e.1 = n.1) && tgt es (cP P) P e) c (fun e he => by
      simp only [List.mem_filter, Bool.and_eq_true, decide_eq_true_eq] at he
      refine ⟨he.2.1, fun q => hne e he.1 ?_⟩
      have h1 := hbd.1 _ (hbd.2.1 e he.1).1
      have h2 := hbd.1 _ (hbd.2.1 e he.1).2
      rw [he.2.1] at h1 ⊢
      omega) (by
      have hf := hr.filter fun e => decide (e.1 = n.1) && tgt es (cP P) P e
      refine (List.pairwise_iff_forall_sublist.2 fun {a b} hab => ?_)
      have ha : a ∈ es.filter fun e => decide (e.1 = n.1) && tgt es (cP P) P e := hab.subset (by simp)
      have hb : b ∈ es.filter fun e => decide (e.1 = n.1) && tgt es (cP P) P e := hab.subset (by simp)
      have h3 := List.pairwise_iff_forall_sublist.1 hf hab
      simp only [List.mem_filter, Bool.and_eq_true, decide_eq_true_eq] at ha hb
      simp only [risesE, Bool.or_eq_true, Bool.and_eq_true, decide_eq_true_eq] at h3
      have h4 := hbd.1 _ (hbd.2.1 a ha.1).2
      have h5 := hbd.1 _ (hbd.2.1 b hb.1).2
      omega)
    have h6 := cnt_bound hok hp P hne Q ((es.filter fun e => decide (e.1 = n.1) && tgt es (cP P) P e).foldl cntE c) (B * 2) (fun i => by
      have := hrow.2.1 i
      have := h i
      have := h n.1.toNat
      omega) j
    rw [List.length_cons, Nat.pow_succ, Nat.mul_comm (2 ^ Q.length), ← Nat.mul_assoc]
    exact h6
theorem graphOk_ne {ns : List Int} {es : List Ed} (h : graphOk ns es = true) : ∀ e ∈ es, e.1 ≠ e.2.1 := by
  simp only [graphOk, Bool.and_eq_true] at h
  have key : ∀ (es : List Ed) (last : Ed), edgesOk ns last es = true → ∀ e ∈ es, e.1 ≠ e.2.1 := by
    intro es
    induction es with
    | nil => intro _ _ e he; simp at he
    | cons a es ih =>
      intro last h e he
      simp only [edgesOk, edgeOk, Bool.and_eq_true] at h
      rcases List.mem_cons.1 he with rfl | he
      · simpa using h.1.2.2.1
      · exact ih a h.2 e he
  exact key es _ h.2.2
theorem sum_le {F : Ed → Nat} {B : Nat} : ∀ {es : List Ed}, (∀ e ∈ es, F e ≤ B) → (es.map F).sum ≤ es.length * B
  | [], _ => by simp
  | e :: es, h => by
    rw [List.map_cons, List.sum_cons, List.length_cons, Nat.succ_mul]
    have h1 := h e (by simp)
    have h2 := sum_le (es := es) (F := F) (fun f hf => h f (by simp [hf]))
    omega
theorem sum_ge {F : Ed → Nat} : ∀ {es : List Ed} {e : Ed}, e ∈ es → F e ≤ (es.map F).sum
  | a :: es, e, h => by
    rw [List.map_cons, List.sum_cons]
    rcases List.mem_cons.1 h with rfl | h
    · omega
    · have := sum_ge (F := F) h; omega
open Classical in
theorem cnt_pos {ns : List Int} {es : List Ed} {r : Int} {P : List (Int × Int)} (hok : graphOk ns es = true) (hr : r ∈ ns) (h : IsNear es r P) (hn : NdOk P) :
    ∀ (n : Nat) (x d : Int), d.toNat = n → x ∈ ns → Ds es r x d → 0 < cntT r (told es P P) x.toNat := by
  have hp := graphOk_pos hok
  have hbd := graphOk_bd hok
  have hB : ∀ j, cntT r (told es P P) j ≤ 33554432 := fun j => by
    have h1 := cnt_bound hok hp P (graphOk_ne hok) P (putN (fun _ => 0) r.toNat 1) 1 (fun i => by unfold putN; split <;> simp) j
    have h2 : (2 : Nat) ^ P.length ≤ 2 ^ 25 := Nat.pow_le_pow_right (by omega) hn.1
    have h3 : (2 : Nat) ^ 25 = 33554432 := by decide
    have h4 : cntT r (told es P P) j ≤ 1 * 2 ^ P.length := h1
    omega
  intro n
  induction n using Nat.strongRecOn with
  | _ n ih =>
  intro x d hdn hx hd
  have hI : ∀ e, e ∈ es → (decide (Into es r x e) = true ↔ Into es r x e) := fun e _ => decide_eq_true_iff
  have hc := cnt_all hok hr h hn x hx (fun e => decide (Into es r x e)) hI
  have hs := sum_le (es := es.filter fun e => decide (Into es r x e)) (F := fun e => cntT r (told es P P) e.1.toNat) (fun e _ => hB _)
  have hl : (es.filter fun e => decide (Into es r x e)).length ≤ 384 := Nat.le_trans (List.length_filter_le _ _) hbd.2.2
  have hm : (es.filter fun e => decide (Into es r x e)).length * 33554432 ≤ 384 * 33554432 := Nat.mul_le_mul_right _ hl
  by_cases hxr : x = r
  · rw [if_pos hxr] at hc
    omega
  · rw [if_neg hxr] at hc
    obtain ⟨e, he⟩ := into_some hp hd hxr
    have hge := sum_ge (F := fun e => cntT r (told es P P) e.1.toNat) (es := es.filter fun e => decide (Into es r x e)) (e := e) (List.mem_filter.2 ⟨he.1, decide_eq_true_iff.2 he⟩)
    obtain ⟨h1, h2, d', h3, h4⟩ := he
    have h5 := hd.uniq h4
    have h6 := hp e h1
    have h7 := h3.nonneg hp
    have h8 := ih d'.toNat (by omega) e.1 d' rfl (hbd.2.1 e h1).1 h3
    omega
/-- Where there is no way, it has none. -/
theorem cnt_none {ns : List Int} {es : List Ed} {r : Int} {P : List (Int × Int)} (hok : graphOk ns es = true) (hr : r ∈ ns) (h : IsNear es r P) (hn : NdOk P) {x : Int} (hx : x ∈ ns) (hno : ∀ d, ¬ Ds es r x d) : cntT r (told es P P) x.toNat = 0 := by
  have hc := cnt_all hok hr h hn x hx (fun _ => false) (fun e _ => ⟨fun hf => by simp at hf, fun hI => absurd hI.2.2.choose_spec.2 (hno _)⟩)
  have hxr : x ≠ r := fun e => hno 0 (by rw [e]; exact ds_root (graphOk_pos hok))
  rw [if_neg hxr] at hc
  rw [hc, show (es.filter fun _ => false) = [] from by simp]
  rfl
end Go.Proofs.YtgeoghhajjlofaaGreatDoor
namespace Go.Proofs.YtgeoghhajjlofaaGreatDoor

def m64 : Nat := 18446744073709551616
/-- How many least-cost ways there are, by costs. -/
def wN (es : List Ed) (r : Int) (D : Int → Int) (x : Int) : Nat := if D x < farC then waysN es r x (D x) % m64 else 0
/-- What stands when all costs up to c are done. -/
def cntO (es : List Ed) (r : Int) (D : Int → Int) (c : Int) : Int → Nat := fun x => if D x ≤ c then wN es r D x else 0
/-- What stands amid the cost c: the first nodes are done. -/
def cntN (es : List Ed) (r : Int) (D : Int → Int) (c : Int) (done : List Int) : Int → Nat := fun x => if D x < c ∨ (D x = c ∧ x ∈ done) then wN es r D x else 0
/-- What is added up for a node, edge by edge. -/
def addE (D : Int → Int) (N : Int → Nat) (x : Int) (L : List Ed) : Nat := L.foldl (fun s e => if e.2.1 = x ∧ tgI D e = true then (s + N e.1) % m64 else s) 0
theorem addE_snoc (D : Int → Int) (N : Int → Nat) (x : Int) (L : List Ed) (e : Ed) : addE D N x (L ++ [e]) = if e.2.1 = x ∧ tgI D e = true then (addE D N x L + N e.1) % m64 else addE D N x L := by
  unfold addE
  rw [List.foldl_append]
  rfl
theorem addE_sum (D : Int → Int) (N : Int → Nat) (x : Int) : ∀ L : List Ed, addE D N x L = ((L.filter fun e => decide (e.2.1 = x) && tgI D e).map fun e => N e.1).sum % m64 := by
  have key : ∀ (L : List Ed) (s : Nat), s < m64 → L.foldl (fun s e => if e.2.1 = x ∧ tgI D e = true then (s + N e.1) % m64 else s) s = (s + ((L.filter fun e => decide (e.2.1 = x) && tgI D e).map fun e => N e.1).sum) % m64 := fun L => by
    induction L with
    | nil => intro s hs; simp [Nat.mod_eq_of_lt hs]
    | cons e L ih =>
      intro s hs
      rw [List.foldl_cons]
      by_cases h : e.2.1 = x ∧ tgI D e = true
      · rw [if_pos h, ih _ (Nat.mod_lt _ (by decide)), List.filter_cons_of_pos (by simp [h.1, h.2]), List.map_cons, List.sum_cons, Nat.mod_add_mod, Nat.add_assoc]
      · rw [if_neg h, ih s hs, List.filter_cons_of_neg (by
          intro h2
          simp only [Bool.and_eq_true, decide_eq_true_eq] at h2
          exact h h2)]
  intro L
  have := key L 0 (by decide)
  rw [Nat.zero_add] at this
  exact this
theorem bf_d {ns : List Int} {es : List Ed} (hok : graphOk ns es = true) {r : Int} (hr : r ∈ ns) {x : Int} (h : bfN es r ns.length x < farC) : Ds es r x (bfN es r ns.length x) ∧ 0 ≤ bfN es r ns.length x ∧ bfN es r ns.length x ≤ 24000 := by
  rcases bf_all hok hr x with ⟨d, h1, h2, h3, h4⟩ | ⟨_, h2⟩
  · rw [h2]
    have := graphOk_n24 hok
    exact ⟨h1, h3, by omega⟩
  · rw [h2] at h; exact absurd h (Int.lt_irrefl _)
theorem bf_zero {ns : List Int} {es : List Ed} (hok : graphOk ns es = true) {r : Int} (hr : r ∈ ns) (x : Int) : bfN es r ns.length x ≤ 0 ↔ x = r := by
  have hp := graphOk_pos hok
  constructor
  · intro h
    obtain ⟨h1, h2, _⟩ := bf_d hok hr (x := x) (by unfold farC; omega)
    obtain ⟨k, hk⟩ := h1.1
    have := (hk.pos hp).1
    exact (hk.zero (by omega)).1
  · rintro rfl
    have hd := ds_root (es := es) (r := x) hp
    rcases bf_all hok hr x with ⟨d, h1, h2, _⟩ | ⟨h1, _⟩
    · rw [h2, h1.uniq hd]; exact Int.le_refl _
    · exact absurd hd (h1 0)
/-- The start: one way to the root. -/
theorem cnt_start {ns : List Int} {es : List Ed} (hok : graphOk ns es = true) {r : Int} (hr : r ∈ ns) (x : Int) : cntO es r (bfN es r ns.length) 0 x = if x = r then 1 else 0 := by
  unfold cntO
  by_cases hx : x = r
  · have h0 := (bf_zero hok hr x).2 hx
    rw [if_pos h0, if_pos hx]
    obtain ⟨h1, h2, h3⟩ := bf_d hok hr (x := x) (by unfold farC; omega)
    have hz : bfN es r ns.length x = 0 := by omega
    unfold wN
    rw [if_pos (by rw [hz]; decide), hz]
    unfold waysN
    simp [wh, hx, m64]
  · rw [if_neg (fun h => hx ((bf_zero hok hr x).1 h)), if_neg hx]
/-- A node's edges, added up. -/
theorem cnt_node {ns : List Int} {es : List Ed} (hok : graphOk ns es = true) {r : Int} (hr : r ∈ ns) {x c : Int} {done : List Int} (hc : 1 ≤ c) (hc2 : c ≤ 24000) (hx : bfN es r ns.length x = c) : addE (bfN es r ns.length) (cntN es r (bfN es r ns.length) c done) x es = wN es r (bfN es r ns.length) x := by
  have hp := graphOk_pos hok
  obtain ⟨hd, _, _⟩ := bf_d hok hr (x := x) (by unfold farC; omega)
  have hxr : x ≠ r := fun e => by
    have := (bf_zero hok hr x).2 e
    omega
  rw [addE_sum]
  have hI : ∀ e, e ∈ es → ((fun e : Ed => decide (e.2.1 = x) && tgI (bfN es r ns.length) e) e = true ↔ Into es r x e) := fun e he => by
    simp only [Bool.and_eq_true, decide_eq_true_eq]
    constructor
    · rintro ⟨h1, h2⟩
      subst h1
      exact (tg_into hok hr he hd).1 h2
    · intro h1
      have h2 := h1.2.1
      subst h2
      exact ⟨rfl, (tg_into hok hr he hd).2 h1⟩
  unfold wN
  rw [if_pos (by unfold farC; omega), waysN_step hok hd _ hI, if_neg hxr]
  have hm := sum_mod (fun e => waysN es r e.1 (bfN es r ns.length x - e.2.2)) m64 0 (es.filter fun e => decide (e.2.1 = x) && tgI (bfN es r ns.length) e)
  simp only [Nat.zero_add] at hm ⊢
  rw [← hm]
  congr 1
  refine sum_congr fun e he => ?_
  obtain ⟨he1, he2⟩ := List.mem_filter.1 he
  obtain ⟨_, h2, d', h3, h4⟩ := (hI e he1).1 he2
  have h5 := h4.uniq hd
  have hpe := hp e he1
  have hde : bfN es r ns.length e.1 = d' := by
    rcases bf_all hok hr e.1 with ⟨d'', k1, k2, _⟩ | ⟨k1, _⟩
    · rw [k2]; exact k1.uniq h3
    · exact absurd h3 (k1 d')
  have hlt : bfN es r ns.length e.1 < c := by rw [hde]; omega
  unfold cntN
  rw [if_pos (.inl hlt)]
  unfold wN
  rw [if_pos (by unfold farC; omega), hde]
  congr 1
  rw [show bfN es r ns.length x - e.2.2 = d' by omega]
theorem cntN_nil (es : List Ed) (r : Int) (D : Int → Int) (c x : Int) : cntN es r D c [] x = cntO es r D (c - 1) x := by
  unfold cntN cntO
  by_cases h : D x < c
  · rw [if_pos (.inl h), if_pos (by omega)]
  · rw [if_neg (by simp; omega), if_neg (by omega)]
theorem cntN_all {es : List Ed} {r : Int} {D : Int → Int} {c : Int} {ns : List Int} {x : Int} (hx : x ∈ ns) : cntN es r D c ns x = cntO es r D c x := by
  unfold cntN cntO
  by_cases h : D x ≤ c
  · rw [if_pos (by by_cases h2 : D x = c; exact .inr ⟨h2, hx⟩; exact .inl (by omega)), if_pos h]
  · rw [if_neg (by intro e; rcases e with e | e <;> omega), if_neg h]
/-- A node more is done, of another cost: nothing turns. -/
theorem cntN_skip {es : List Ed} {r : Int} {D : Int → Int} {c : Int} {done : List Int} {z : Int} (hz : D z ≠ c) (x : Int) : cntN es r D c (done ++ [z]) x = cntN es r D c done x := by
  unfold cntN
  by_cases h : D x < c ∨ (D x = c ∧ x ∈ done)
  · rw [if_pos h, if_pos (by rcases h with h | h; exact .inl h; exact .inr ⟨h.1, List.mem_append.2 (.inl h.2)⟩)]
  · rw [if_neg h, if_neg (fun e => h (by
      rcases e with e | ⟨e1, e2⟩
      · exact .inl e
      · rcases List.mem_append.1 e2 with e2 | e2
        · exact .inr ⟨e1, e2⟩
        · rw [List.mem_singleton.1 e2] at e1; exact absurd e1 hz))]
theorem cntN_more {es : List Ed} {r : Int} {D : Int → Int} {c : Int} {done : List Int} {z : Int} (hz : D z = c) (x : Int) : cntN es r D c (done ++ [z]) x = if x = z then wN es r D z else cntN es r D c done x := by
  unfold cntN
  by_cases hx : x = z
  · rw [if_pos hx, hx, if_pos (.inr ⟨hz, by simp⟩)]
  · rw [if_neg hx]
    by_cases h : D x < c ∨ (D x = c ∧ x ∈ done)
    · rw [if_pos h, if_pos (by rcases h with h | h; exact .inl h; exact .inr ⟨h.1, List.mem_append.2 (.inl h.2)⟩)]
    · rw [if_neg h, if_neg (fun e => h (by
        rcases e with e | ⟨e1, e2⟩
        · exact .inl e
        · rcases List.mem_append.1 e2 with e2 | e2
          · exact .inr ⟨e1, e2⟩
          · exact absurd (List.mem_singleton.1 e2) hx))]
/-- What the program's Count tells is what stands at the end. -/
theorem cnt_end {ns : List Int} {es : List Ed} {r : Int} {P : List (Int × Int)} (hok : graphOk ns es = true) (hr : r ∈ ns) (h : IsNear es r P) (hn : NdOk P) {x : Int} (hx : x ∈ ns) {c : Int} (hc : c ≤ 24000) (hcx : bfN es r ns.length x ≤ c ∨ c = 24000) : cntO es r (bfN es r ns.length) c x = cntT r (told es P P) x.toNat := by
  unfold cntO
  rcases bf_all hok hr x with ⟨d, h1, h2, h3, h4⟩ | ⟨h1, h2⟩
  · have := graphOk_n24 hok
    rw [if_pos (by rw [h2] at hcx ⊢; omega), cnt_ways hok hr h hn d.toNat x d rfl hx h1]
    unfold wN
    rw [if_pos (by rw [h2]; unfold farC; omega), h2]
    rfl
  · rw [if_neg (by rw [h2]; unfold farC; omega), cnt_none hok hr h hn hx h1]
end Go.Proofs.YtgeoghhajjlofaaGreatDoor
namespace Go.Proofs.YtgeoghhajjlofaaGreatDoor

/-- A number laid ahead of the first greater one. -/
def inL7 (n : Int) : List Int → List Int
  | [] => [n]
  | x :: l => if n < x then n :: x :: l else x :: inL7 n l
theorem inL7_mem {n y : Int} : ∀ {l : List Int}, y ∈ inL7 n l ↔ y = n ∨ y ∈ l
  | [] => by simp [inL7]
  | x :: l => by
    unfold inL7
    split
    · simp
    · rw [List.mem_cons, inL7_mem, List.mem_cons]
      constructor
      · rintro (h | h | h)
        · exact .inr (.inl h)
        · exact .inl h
        · exact .inr (.inr h)
      · rintro (h | h | h)
        · exact .inr (.inl h)
        · exact .inl h
        · exact .inr (.inr h)
theorem inL7_rise {n : Int} : ∀ {l : List Int}, (l.Pairwise fun a b => a < b) → n ∉ l → (inL7 n l).Pairwise fun a b => a < b
  | [], _, _ => by simp [inL7]
  | x :: l, h, hn => by
    obtain ⟨h1, h2⟩ := List.pairwise_cons.1 h
    unfold inL7
    split
    · rename_i hlt
      refine List.pairwise_cons.2 ⟨fun y hy => ?_, h⟩
      rcases List.mem_cons.1 hy with rfl | hy
      · exact hlt
      · have := h1 y hy; omega
    · rename_i hlt
      refine List.pairwise_cons.2 ⟨fun y hy => ?_, inL7_rise h2 (fun h => hn (List.mem_cons_of_mem _ h))⟩
      rcases inL7_mem.1 hy with rfl | hy
      · have : y ≠ x := fun e => hn (by rw [e]; exact List.mem_cons_self)
        omega
      · exact h1 y hy
theorem inL7_put {n : Int} {s : List Int} : ∀ {p : List Int}, (∃ y ∈ p, n < y) → inL7 n (p ++ s) = inL7 n p ++ s
  | [], h => by obtain ⟨y, h, _⟩ := h; simp at h
  | x :: p, h => by
    show (if n < x then n :: x :: (p ++ s) else x :: inL7 n (p ++ s)) = (if n < x then n :: x :: p else x :: inL7 n p) ++ s
    split
    · rfl
    · rename_i hlt
      rw [inL7_put (by
        obtain ⟨y, h1, h2⟩ := h
        rcases List.mem_cons.1 h1 with rfl | h1
        · exact absurd h2 hlt
        · exact ⟨y, h1, h2⟩)]
      rfl
theorem inL7_no {n : Int} {s : List Int} : ∀ {p : List Int}, (∀ y ∈ p, ¬ n < y) → inL7 n (p ++ s) = p ++ inL7 n s
  | [], _ => rfl
  | x :: p, h => by
    show (if n < x then n :: x :: (p ++ s) else x :: inL7 n (p ++ s)) = _
    rw [if_neg (h x List.mem_cons_self), inL7_no (fun y hy => h y (List.mem_cons_of_mem _ hy))]
    rfl
theorem inL7_len {n : Int} : ∀ {l : List Int}, (inL7 n l).length = l.length + 1
  | [] => rfl
  | x :: l => by
    unfold inL7
    split
    · rfl
    · rw [List.length_cons, inL7_len]; rfl
/-- A list with a number more, rising, once. -/
def withL (l : List Int) (n : Int) : List Int := if n ∈ l then l else inL7 n l
theorem withL_mem {l : List Int} {n y : Int} : y ∈ withL l n ↔ y ∈ l ∨ y = n := by
  unfold withL
  split
  · rename_i h
    exact ⟨.inl, fun h' => h'.elim id (fun e => e ▸ h)⟩
  · rw [inL7_mem]; exact Or.comm
theorem withL_rise {l : List Int} {n : Int} (h : l.Pairwise fun a b => a < b) : (withL l n).Pairwise fun a b => a < b := by
  unfold withL
  split
  · exact h
  · rename_i hn; exact inL7_rise h hn
theorem withF_mem {y : Int} : ∀ {m l : List Int}, y ∈ m.foldl withL l ↔ y ∈ l ∨ y ∈ m
  | [], l => by simp
  | n :: m, l => by
    rw [List.foldl_cons, withF_mem, withL_mem, List.mem_cons]
    exact or_assoc
theorem withF_rise : ∀ {m l : List Int}, (l.Pairwise fun a b => a < b) → (m.foldl withL l).Pairwise fun a b => a < b
  | [], _, h => h
  | n :: m, l, h => by rw [List.foldl_cons]; exact withF_rise (withL_rise h)
theorem withL_len {l : List Int} {n : Int} : (withL l n).length ≤ l.length + 1 := by
  unfold withL
  split
  · omega
  · rw [inL7_len]; omega
/-- What is gathered at a node out of the edges L that lead there. -/
structure Gth (r : Int) (K : Int → Rr) (x d : Int) (L : List Ed) (A : Rr) : Prop where
  node : A.node = x
  cost : A.cost = d
  l1 : ∀ e ∈ L, A.least ≤ (K e.1).least + 1
  l2 : ∃ e ∈ L, A.least = (K e.1).least + 1
  m1 : ∀ e ∈ L, (K e.1).most + 1 ≤ A.most
  m2 : ∃ e ∈ L, A.most = (K e.1).most + 1
  np : A.next.Pairwise fun a b => a < b
  nx : ∀ y, y ∈ A.next ↔ ∃ e ∈ L, y ∈ nxE r (K e.1) e
theorem gth_right {ns : List Int} {es : List Ed} {r : Int} {K : Int → Rr} {x d : Int} {L : List Ed} {A : Rr} (hok : graphOk ns es = true) (hd : Ds es r x d) (hxr : x ≠ r) (hL : ∀ e, e ∈ L ↔ Into es r x e) (hK : ∀ e d', e ∈ es → Ds es r e.1 d' → d' < d → Right es r e.1 d' (K e.1)) (hG : Gth r K x d L A) : Right es r x d A := by
  have hp := graphOk_pos hok
  have hin : ∀ e ∈ L, ∃ d', e ∈ es ∧ e.2.1 = x ∧ Ds es r e.1 d' ∧ d = d' + e.2.2 ∧ Right es r e.1 d' (K e.1) := fun e he => by
    obtain ⟨h1, h2, d', h3, h4⟩ := (hL e).1 he
    have h5 := hd.uniq h4
    have h6 := hp e h1
    exact ⟨d', h1, h2, h3, h5, hK e d' h1 h3 (by omega)⟩
  refine ⟨hG.node, hG.cost, ?_, ?_, fun k hw => ?_, ?_, ?_, hG.np, fun e => absurd e hxr, fun _ y => ?_⟩
  · obtain ⟨e, he, h1⟩ := hG.l2
    obtain ⟨d', _, _, _, _, hR⟩ := hin e he
    have := hR.l0
    omega
  · obtain ⟨e, he, h1⟩ := hG.m2
    obtain ⟨d', _, _, _, _, hR⟩ := hin e he
    have := hR.m0
    omega
  · rcases hw.last with ⟨h1, _⟩ | ⟨e, he, c', h', hw', h1, h2, h3⟩
    · exact absurd h1 hxr
    · obtain ⟨h4, h5⟩ := into_last hd he hw' h1 h2
      have h6 := (hL e).2 h4
      obtain ⟨d', _, _, h7, _, hR⟩ := hin e h6
      have h8 := h7.uniq h5
      rw [h8] at hR
      have h9 := hR.hops _ hw'
      have := hG.l1 e h6
      have := hG.m1 e h6
      omega
  · obtain ⟨e, he, h1⟩ := hG.l2
    obtain ⟨d', h2, h3, _, h5, hR⟩ := hin e he
    have h6 := hR.lw.step h2
    have := hR.l0
    rw [h3, ← h5, show (K e.1).least.toNat + 1 = A.least.toNat by omega] at h6
    exact h6
  · obtain ⟨e, he, h1⟩ := hG.m2
    obtain ⟨d', h2, h3, _, h5, hR⟩ := hin e he
    have h6 := hR.mw.step h2
    have := hR.m0
    rw [h3, ← h5, show (K e.1).most.toNat + 1 = A.most.toNat by omega] at h6
    exact h6
  · rw [hG.nx y]
    constructor
    · rintro ⟨e, he, hy⟩
      obtain ⟨d', h2, h3, h4, h5, hR⟩ := hin e he
      unfold nxE at hy
      by_cases her : e.1 = r
      · rw [if_pos her, List.mem_singleton] at hy
        have h6 : d' = 0 := by rw [her] at h4; exact h4.uniq (ds_root hp)
        refine ⟨e, h2, her, hy.symm, 0, ?_⟩
        rw [hy, h3, show d - e.2.2 = 0 by omega]
        exact Wy.refl _ _
      · rw [if_neg her] at hy
        obtain ⟨e1, g1, g2, g3, k, g4⟩ := (hR.nx her y).1 hy
        refine ⟨e1, g1, g2, g3, k + 1, ?_⟩
        have g5 := g4.step h2
        rw [h3, show d' - e1.2.2 + e.2.2 = d - e1.2.2 by omega] at g5
        exact g5
    · rintro ⟨e1, g1, g2, g3, k, g4⟩
      have hfirst : Wy es r y e1.2.2 1 := by
        have := Wy.one g1
        rw [g2, g3] at this
        exact this
      have hpe := hp e1 g1
      rcases g4.last with ⟨h1, h2, _⟩ | ⟨e, he, c', h', hw', h1, h2, h3⟩
      · have hI : Into es r x e1 := ⟨g1, by rw [g3, h1], 0, by rw [g2]; exact ds_root hp, by rw [show (0 : Int) + e1.2.2 = d by omega]; exact hd⟩
        refine ⟨e1, (hL e1).2 hI, ?_⟩
        unfold nxE
        rw [if_pos g2, List.mem_singleton, g3]
      · have hw2 := hfirst.trans hw'
        obtain ⟨hI, hDe⟩ := into_last hd he hw2 h1 (by omega)
        have h6 := (hL e).2 hI
        obtain ⟨d', _, _, h7, _, hR⟩ := hin e h6
        have h8 := h7.uniq hDe
        have hc' := (hw'.pos hp).1
        have her : e.1 ≠ r := fun e' => by
          rw [e'] at hDe
          have := hDe.uniq (ds_root hp)
          omega
        refine ⟨e, h6, ?_⟩
        unfold nxE
        rw [if_neg her]
        refine (hR.nx her y).2 ⟨e1, g1, g2, g3, h', ?_⟩
        rw [h8, show e1.2.2 + c' - e1.2.2 = c' by omega]
        exact hw'
/-- What is right of a node is so once. -/
theorem Right.uniq {es : List Ed} {r x d : Int} {A B : Rr} (h : Right es r x d A) (k : Right es r x d B) : A = B := by
  by_cases hx : x = r
  · rw [h.root hx, k.root hx]
  · have h1 := (h.hops _ k.lw).1
    have h2 := (k.hops _ h.lw).1
    have h3 := (h.hops _ k.mw).2
    have h4 := (k.hops _ h.mw).2
    have := h.l0
    have := k.l0
    have := h.m0
    have := k.m0
    have h5 : A.next = B.next := rise_ext7 h.np k.np (fun y => by rw [h.nx hx y, k.nx hx y])
    obtain ⟨a1, a2, a3, a4, a5⟩ := A
    obtain ⟨b1, b2, b3, b4, b5⟩ := B
    have h6 := h.node
    have h7 := k.node
    have h8 := h.cost
    have h9 := k.cost
    simp only at *
    rw [Rr.mk.injEq]
    exact ⟨by omega, by omega, by omega, by omega, h5⟩
where rise_ext7 : ∀ {l m : List Int}, (l.Pairwise fun a b => a < b) → (m.Pairwise fun a b => a < b) → (∀ y, y ∈ l ↔ y ∈ m) → l = m
  | [], [], _, _, _ => rfl
  | [], y :: m, _, _, h => absurd ((h y).2 List.mem_cons_self) (by simp)
  | x :: l, [], _, _, h => absurd ((h x).1 List.mem_cons_self) (by simp)
  | x :: l, y :: m, h1, h2, h => by
    obtain ⟨p1, p2⟩ := List.pairwise_cons.1 h1
    obtain ⟨q1, q2⟩ := List.pairwise_cons.1 h2
    have hxy : x = y := by
      rcases List.mem_cons.1 ((h x).1 List.mem_cons_self) with e | e
      · exact e
      · rcases List.mem_cons.1 ((h y).2 List.mem_cons_self) with e' | e'
        · exact e'.symm
        · have := q1 x e; have := p1 y e'; omega
    subst hxy
    rw [rise_ext7 p2 q2 (fun z => by
      constructor
      · intro hz
        rcases List.mem_cons.1 ((h z).1 (List.mem_cons_of_mem _ hz)) with e | e
        · have := p1 z hz; omega
        · exact e
      · intro hz
        rcases List.mem_cons.1 ((h z).2 (List.mem_cons_of_mem _ hz)) with e | e
        · have := q1 z hz; omega
        · exact e)]
/-- Two lists that From may answer are one. -/
theorem IsFrom.uniq {ns : List Int} {es : List Ed} {r : Int} {l m : List Rr} (h : IsFrom ns es r l) (k : IsFrom ns es r m) : l = m :=
  go l m h.rise k.rise (fun p hp => by
    obtain ⟨h1, d, h2, h3⟩ := h.right p hp
    obtain ⟨q, hq, h4⟩ := k.all _ d h1 h2
    obtain ⟨_, d2, h5, h6⟩ := k.right q hq
    rw [h4] at h5 h6
    rw [h5.uniq h2] at h6
    rw [h3.uniq h6]
    exact hq) (fun p hp => by
    obtain ⟨h1, d, h2, h3⟩ := k.right p hp
    obtain ⟨q, hq, h4⟩ := h.all _ d h1 h2
    obtain ⟨_, d2, h5, h6⟩ := h.right q hq
    rw [h4] at h5 h6
    rw [h5.uniq h2] at h6
    rw [h3.uniq h6]
    exact hq)
where go : ∀ l m : List Rr, (l.Pairwise fun a b => a.node < b.node) → (m.Pairwise fun a b => a.node < b.node) → (∀ p ∈ l, p ∈ m) → (∀ p ∈ m, p ∈ l) → l = m
  | [], [], _, _, _, _ => rfl
  | [], y :: m, _, _, _, h => absurd (h y List.mem_cons_self) (by simp)
  | x :: l, [], _, _, h, _ => absurd (h x List.mem_cons_self) (by simp)
  | x :: l, y :: m, h1, h2, h3, h4 => by
    obtain ⟨p1, p2⟩ := List.pairwise_cons.1 h1
    obtain ⟨q1, q2⟩ := List.pairwise_cons.1 h2
    have hxy : x = y := by
      rcases List.mem_cons.1 (h3 x List.mem_cons_self) with e | e
      · exact e
      · rcases List.mem_cons.1 (h4 y List.mem_cons_self) with e' | e'
        · exact e'.symm
        · have := q1 x e; have := p1 y e'; omega
    subst hxy
    rw [go l m p2 q2 (fun z hz => by
      rcases List.mem_cons.1 (h3 z (List.mem_cons_of_mem _ hz)) with e | e
      · have := p1 z hz; rw [e] at this; omega
      · exact e) (fun z hz => by
      rcases List.mem_cons.1 (h4 z (List.mem_cons_of_mem _ hz)) with e | e
      · have := q1 z hz; rw [e] at this; omega
      · exact e)]
/-- One edge more, at the node x. -/
def selE (x : Int) (D : Int → Int) (e : Ed) : Bool := decide (e.2.1 = x) && tgI D e
def addO (r x : Int) (K : Rr) (fst : Bool) (A : Rr) (e : Ed) : Rr :=
  ⟨A.node, A.cost, if fst = true ∨ K.least + 1 < A.least then K.least + 1 else A.least, if fst = true ∨ A.most < K.most + 1 then K.most + 1 else A.most, K.next.foldl withL (if e.1 = r then withL A.next x else A.next)⟩
def oneE (r x : Int) (D : Int → Int) (K : Int → Rr) (s : Bool × Rr) (e : Ed) : Bool × Rr :=
  if selE x D e = true then (false, addO r x (K e.1) s.1 s.2 e) else s
def oneS (x : Int) (D : Int → Int) : Bool × Rr := (true, ⟨x, D x, 0, 0, []⟩)
def oneF (r x : Int) (D : Int → Int) (K : Int → Rr) (L : List Ed) : Bool × Rr := L.foldl (oneE r x D K) (oneS x D)
def oneR (r x : Int) (D : Int → Int) (K : Int → Rr) (es : List Ed) : Rr := if x = r then ⟨x, D x, 0, 0, []⟩ else (oneF r x D K es).2
def OneI (r x : Int) (D : Int → Int) (K : Int → Rr) (L : List Ed) (s : Bool × Rr) : Prop := (L = [] ∧ s = oneS x D) ∨ (L ≠ [] ∧ s.1 = false ∧ Gth r K x (D x) L s.2)
theorem addO_nx {r x : Int} {K : Rr} {fst : Bool} {A : Rr} {e : Ed} (he : e.2.1 = x) (hr : e.1 = r → K.next = []) {y : Int} : y ∈ (addO r x K fst A e).next ↔ y ∈ A.next ∨ y ∈ nxE r K e := by
  unfold addO nxE
  simp only
  rw [withF_mem]
  split
  · rename_i h
    rw [hr h, withL_mem, he]
    simp
  · rfl
theorem one_step {r x : Int} {D : Int → Int} {K : Int → Rr} {L : List Ed} {s : Bool × Rr} (h : OneI r x D K L s) (e : Ed) (hr : e.1 = r → (K e.1).next = []) : OneI r x D K (L ++ if selE x D e = true then [e] else []) (oneE r x D K s e) := by
  unfold oneE
  by_cases hs : selE x D e = true
  · rw [if_pos hs, if_pos hs]
    have hex : e.2.1 = x := by unfold selE at hs; simp only [Bool.and_eq_true, decide_eq_true_eq] at hs; exact hs.1
    refine .inr ⟨by simp, rfl, ?_⟩
    rcases h with ⟨rfl, rfl⟩ | ⟨h0, h1, hG⟩
    · have he1 : ∀ f ∈ [] ++ [e], f = e := fun f hf => by simpa using hf
      refine ⟨rfl, rfl, fun f hf => ?_, ⟨e, by simp, ?_⟩, fun f hf => ?_, ⟨e, by simp, ?_⟩, ?_, fun y => ?_⟩
      · rw [he1 f hf]; simp [addO, oneS]
      · simp [addO, oneS]
      · rw [he1 f hf]; simp [addO, oneS]
      · simp [addO, oneS]
      · exact withF_rise (by split; exact withL_rise List.Pairwise.nil; exact List.Pairwise.nil)
      · rw [addO_nx hex hr]; simp [oneS]
    · have hm : ∀ f, f ∈ L ++ [e] ↔ f ∈ L ∨ f = e := fun f => by simp
      refine ⟨hG.node, hG.cost, fun f hf => ?_, ?_, fun f hf => ?_, ?_, ?_, fun y => ?_⟩
      · show (if s.1 = true ∨ (K e.1).least + 1 < s.2.least then (K e.1).least + 1 else s.2.least) ≤ _
        rw [h1]
        rcases (hm f).1 hf with hf | rfl
        · have := hG.l1 f hf; split <;> rename_i hc <;> simp at hc <;> omega
        · split <;> rename_i hc <;> simp at hc <;> omega
      · show ∃ f ∈ L ++ [e], (if s.1 = true ∨ (K e.1).least + 1 < s.2.least then (K e.1).least + 1 else s.2.least) = _
        rw [h1]
        split
        · exact ⟨e, by simp, rfl⟩
        · obtain ⟨f, hf, h2⟩ := hG.l2
          exact ⟨f, by simp [hf], h2⟩
      · show _ ≤ (if s.1 = true ∨ s.2.most < (K e.1).most + 1 then (K e.1).most + 1 else s.2.most)
        rw [h1]
        rcases (hm f).1 hf with hf | rfl
        · have := hG.m1 f hf; split <;> rename_i hc <;> simp at hc <;> omega
        · split <;> rename_i hc <;> simp at hc <;> omega
      · show ∃ f ∈ L ++ [e], (if s.1 = true ∨ s.2.most < (K e.1).most + 1 then (K e.1).most + 1 else s.2.most) = _
        rw [h1]
        split
        · exact ⟨e, by simp, rfl⟩
        · obtain ⟨f, hf, h2⟩ := hG.m2
          exact ⟨f, by simp [hf], h2⟩
      · exact withF_rise (by split; exact withL_rise hG.np; exact hG.np)
      · rw [addO_nx hex hr, hG.nx y]
        constructor
        · rintro (⟨f, hf, h2⟩ | h2)
          · exact ⟨f, by simp [hf], h2⟩
          · exact ⟨e, by simp, h2⟩
        · rintro ⟨f, hf, h2⟩
          rcases (hm f).1 hf with hf | rfl
          · exact .inl ⟨f, hf, h2⟩
          · exact .inr h2
  · rw [if_neg hs, if_neg hs, List.append_nil]
    exact h
theorem one_fold {r x : Int} {D : Int → Int} {K : Int → Rr} : ∀ (p L : List Ed) (s : Bool × Rr), OneI r x D K L s → (∀ e ∈ p, e.1 = r → (K e.1).next = []) → OneI r x D K (L ++ p.filter (selE x D)) (p.foldl (oneE r x D K) s)
  | [], L, s, h, _ => by simpa using h
  | e :: p, L, s, h, hr => by
    have h1 := one_step h e (hr e List.mem_cons_self)
    have h2 := one_fold p _ _ h1 (fun f hf => hr f (List.mem_cons_of_mem _ hf))
    rw [List.foldl_cons]
    rw [List.filter_cons]
    by_cases hs : selE x D e = true
    · rw [if_pos hs] at h2 ⊢
      rwa [List.append_assoc] at h2
    · rw [if_neg hs, List.append_nil] at h2
      rw [if_neg hs]
      exact h2
/-- A node of which all cheaper ones are known. -/
theorem one_right {ns : List Int} {es : List Ed} {r x d : Int} {K : Int → Rr} (hok : graphOk ns es = true) (hr : r ∈ ns) (hx : x ∈ ns) (hd : Ds es r x d) (hK : ∀ y d', y ∈ ns → Ds es r y d' → d' < d → Right es r y d' (K y)) (hKr : (K r).next = []) : Right es r x d (oneR r x (bfN es r ns.length) K es) := by
  have hp := graphOk_pos hok
  have hD : bfN es r ns.length x = d := by
    rcases bf_all hok hr x with ⟨d1, h1, h2, _⟩ | ⟨h1, _⟩
    · rw [h2]; exact h1.uniq hd
    · exact absurd hd (h1 d)
  unfold oneR
  by_cases hxr : x = r
  · rw [if_pos hxr, hD]
    subst hxr
    have h1 : d = 0 := hd.uniq (ds_root hp)
    subst h1
    exact ⟨rfl, rfl, Int.le_refl 0, Int.le_refl 0, fun k hw => by have := (hw.pos hp).1; show (0 : Int) ≤ k ∧ (k : Int) ≤ 0; omega, Wy.refl _ _, Wy.refl _ _, by simp, fun _ => rfl, fun hne => absurd rfl hne⟩
  · rw [if_neg hxr]
    have h1 := one_fold (r := r) (x := x) (D := bfN es r ns.length) (K := K) es [] (oneS x (bfN es r ns.length)) (.inl ⟨rfl, rfl⟩) (fun e _ he => by rw [he]; exact hKr)
    rw [List.nil_append] at h1
    have hL : ∀ e, e ∈ es.filter (selE x (bfN es r ns.length)) ↔ Into es r x e := fun e => by
      rw [List.mem_filter]
      unfold selE
      simp only [Bool.and_eq_true, decide_eq_true_eq]
      constructor
      · rintro ⟨g1, g2, g3⟩
        subst g2
        exact (tg_into hok hr g1 hd).1 g3
      · intro h
        have h2 := h.2.1
        subst h2
        exact ⟨h.1, rfl, (tg_into hok hr h.1 hd).2 h⟩
    rcases h1 with ⟨h1, _⟩ | ⟨_, _, hG⟩
    · obtain ⟨e, he⟩ := into_some hp hd hxr
      have := (hL e).2 he
      rw [h1] at this
      simp at this
    · rw [hD] at hG
      exact gth_right hok hd hxr hL (fun e d' he hde hlt => hK e.1 d' ((graphOk_bd hok).2.1 e he).1 hde hlt) hG
/-- As far as nodes are known. -/
structure Knw (ns : List Int) (es : List Ed) (r : Int) (Dn : Int → Bool) (K : Int → Rr) (k : Nat) : Prop where
  right : ∀ x ∈ ns, Dn x = true → ∃ d, Ds es r x d ∧ Right es r x d (K x)
  count : (ns.filter Dn).length = k
  none : ∀ x, Dn x = false → K x = noR
theorem Knw.rt {ns : List Int} {es : List Ed} {r : Int} {Dn : Int → Bool} {K : Int → Rr} {k : Nat} (h : Knw ns es r Dn K k) (hr : r ∈ ns) : (K r).next = [] := by
  cases hq : Dn r with
  | false => rw [h.none r hq]; rfl
  | true =>
    obtain ⟨d, _, h2⟩ := h.right r hr hq
    rw [h2.root rfl]
theorem filter_more {Dn : Int → Bool} {x : Int} (hx : Dn x = false) : ∀ {ns : List Int}, ns.Nodup → x ∈ ns → (ns.filter fun z => if z = x then true else Dn z).length = (ns.filter Dn).length + 1
  | [], _, h => by simp at h
  | y :: ns, hn, h => by
    obtain ⟨h1, h2⟩ := List.nodup_cons.1 hn
    have hsame : x ∉ ns → (ns.filter fun z => if z = x then true else Dn z) = ns.filter Dn := fun hnx => List.filter_congr fun z hz => by
      rw [if_neg (fun e => hnx (by rw [← e]; exact hz))]
    by_cases hxy : y = x
    · subst hxy
      rw [List.filter_cons, List.filter_cons, hsame h1]
      simp [hx]
    · have hm : x ∈ ns := by rcases List.mem_cons.1 h with e | e; exact absurd e.symm hxy; exact e
      have ih := filter_more hx h2 hm
      rw [List.filter_cons, List.filter_cons]
      simp only [if_neg hxy]
      split
      · simp only [List.length_cons]; omega
      · exact ih
/-- The cheapest node that is not known. -/
theorem Knw.more {ns : List Int} {es : List Ed} {r : Int} {Dn : Int → Bool} {K : Int → Rr} {k : Nat} (h : Knw ns es r Dn K k) (hok : graphOk ns es = true) (hr : r ∈ ns) {x : Int} (hx : x ∈ ns) (hDx : Dn x = false) (hfar : bfN es r ns.length x < farC) (hmin : ∀ y ∈ ns, Dn y = false → bfN es r ns.length y < farC → bfN es r ns.length x ≤ bfN es r ns.length y) :
    Knw ns es r (fun z => if z = x then true else Dn z) (fun z => if z = x then oneR r x (bfN es r ns.length) K es else K z) (k + 1) := by
  have hd := bf_d hok hr hfar
  refine ⟨fun z hz hDz => ?_, by rw [filter_more hDx (graphOk_nn hok) hx, h.count], fun z hDz => ?_⟩
  · by_cases hzx : z = x
    · rw [if_pos hzx]
      subst hzx
      refine ⟨_, hd.1, one_right hok hr hx hd.1 (fun y d' hy hdy hlt => ?_) (h.rt hr)⟩
      have hDy : bfN es r ns.length y = d' := by
        rcases bf_all hok hr y with ⟨d1, h1, h2, _⟩ | ⟨h1, _⟩
        · rw [h2]; exact h1.uniq hdy
        · exact absurd hdy (h1 d')
      cases hq : Dn y with
      | false =>
        have := hmin y hy hq (by omega)
        omega
      | true =>
        obtain ⟨d2, h3, h4⟩ := h.right y hy hq
        rwa [h3.uniq hdy] at h4
    · rw [if_neg hzx] at hDz ⊢
      exact h.right z hz hDz
  · by_cases hzx : z = x
    · rw [if_pos hzx] at hDz; cases hDz
    · rw [if_neg hzx] at hDz ⊢
      exact h.none z hDz
theorem Knw.start (ns : List Int) (es : List Ed) (r : Int) : Knw ns es r (fun _ => false) (fun _ => noR) 0 :=
  ⟨fun _ _ h => (by cases h), (by simp), fun _ _ => rfl⟩
theorem rise7 {ns : List Int} {es : List Ed} (hok : graphOk ns es = true) : ns.Pairwise fun a b => a < b := by
  simp only [graphOk, Bool.and_eq_true] at hok
  have key : ∀ (ns : List Int) (last : Int), nodesOk last ns = true → ns.Pairwise fun a b => a < b := fun ns => by
    induction ns with
    | nil => intro _ _; exact List.Pairwise.nil
    | cons m ns ih =>
      intro last hm
      have hm' : nodesOk m ns = true := by
        simp only [nodesOk, Bool.and_eq_true] at hm
        exact hm.2.2
      exact List.pairwise_cons.2 ⟨fun y hy => (nodesOk_bd ns m hm' y hy).2.2, ih m hm'⟩
  exact key ns 0 hok.1
/-- When none is left. -/
theorem Knw.done {ns : List Int} {es : List Ed} {r : Int} {Dn : Int → Bool} {K : Int → Rr} {k : Nat} (h : Knw ns es r Dn K k) (hok : graphOk ns es = true) (hr : r ∈ ns) (he : k = ns.length ∨ ∀ y ∈ ns, Dn y = false → ¬ bfN es r ns.length y < farC) : IsFrom ns es r ((ns.filter Dn).map K) := by
  have hall : ∀ y d, y ∈ ns → Ds es r y d → Dn y = true := fun y d hy hd => by
    rcases he with he | he
    · have h1 := h.count
      rw [he] at h1
      exact List.length_filter_eq_length_iff.1 h1 y hy
    · cases hq : Dn y with
      | true => rfl
      | false =>
        exfalso
        refine he y hy hq ?_
        rcases bf_all hok hr y with ⟨d1, h1, h2, h3, h4⟩ | ⟨h1, _⟩
        · rw [h2]
          have := graphOk_n24 hok
          unfold farC
          omega
        · exact absurd hd (h1 d)
  have hmem : ∀ p, p ∈ (ns.filter Dn).map K ↔ ∃ x ∈ ns, Dn x = true ∧ K x = p := fun p => by
    simp only [List.mem_map, List.mem_filter]
    constructor
    · rintro ⟨x, ⟨h1, h2⟩, h3⟩; exact ⟨x, h1, h2, h3⟩
    · rintro ⟨x, h1, h2, h3⟩; exact ⟨x, ⟨h1, h2⟩, h3⟩
  have hnode : ∀ x ∈ ns, Dn x = true → (K x).node = x := fun x hx hd => by
    obtain ⟨d, _, h2⟩ := h.right x hx hd
    exact h2.node
  refine ⟨?_, fun p hp => ?_, fun x d hx hd => ?_⟩
  · rw [List.pairwise_map]
    have h1 : (ns.filter Dn).Pairwise fun a b => a < b := (rise7 hok).filter _
    refine h1.imp_of_mem fun {a b} ha hb hab => ?_
    rw [List.mem_filter] at ha hb
    rw [hnode a ha.1 ha.2, hnode b hb.1 hb.2]
    exact hab
  · obtain ⟨x, h1, h2, rfl⟩ := (hmem p).1 hp
    rw [hnode x h1 h2]
    exact ⟨h1, h.right x h1 h2⟩
  · exact ⟨_, (hmem _).2 ⟨x, hx, hall x d hx hd, rfl⟩, hnode x hx (hall x d hx hd)⟩
end Go.Proofs.YtgeoghhajjlofaaGreatDoor
namespace Go.Proofs.YtgeoghhajjlofaaGreatDoor

theorem WaysIs.uniq {l m : List (Rc × Value)} (hlm : rcs l = rcs m) {self : Int} {W V : List Rr} (h : WaysIs l self W) (k : WaysIs m self V) : W = V := by
  unfold WaysIs at h k
  rw [← hlm] at k
  rcases h with ⟨h1, rfl⟩ | ⟨h1, h2⟩
  · rcases k with ⟨_, rfl⟩ | ⟨k1, _⟩
    · rfl
    · rw [h1] at k1; cases k1
  · rcases k with ⟨k1, _⟩ | ⟨_, k2⟩
    · rw [h1] at k1; cases k1
    · exact h2.uniq k2
theorem live_rcs (W : List Rr) (l : List (Rc × Value)) : rcs (liveL W l) = (rcs l).filter fun x => (ofW W x.origin).isSome := by
  unfold liveL rcs
  rw [List.filter_map]
  rfl
/-- The ids that one router claims, each with the way to it. -/
def toldW (W : List Rr) (F : List (Int × List Int)) : List (Int × Rr) := F.filterMap fun f => (ofW W (f.2.headD 0)).map fun X => (f.1, X)
theorem told_one {W : List Rr} : ∀ {P : List Wi'} {F : List (Int × List Int)}, P.map (·.1) = F.map (·.1) → (F.map (·.1)).Nodup → (∀ p ∈ P, ∃ r, (p.1, [r]) ∈ F ∧ ofW W r = some p.2.1) → P.map (fun p => (p.1, p.2.1)) = toldW W F := by
  intro P
  induction P with
  | nil =>
    intro F h _ _
    rw [List.map_nil, eq_comm, List.map_eq_nil_iff] at h
    rw [h]
    rfl
  | cons p P ih =>
    intro F h hn hp
    cases F with
    | nil => simp at h
    | cons f F =>
      rw [List.map_cons, List.map_cons, List.cons.injEq] at h
      rw [List.map_cons, List.nodup_cons] at hn
      obtain ⟨r, h1, h2⟩ := hp p (by simp)
      have h3 : (p.1, [r]) = f := by
        rcases List.mem_cons.mp h1 with e | h1
        · exact e
        · exact absurd (List.mem_map.mpr ⟨_, h1, h.1⟩) hn.1
      have h4 := ih h.2 hn.2 fun q hq => by
        obtain ⟨s, g1, g2⟩ := hp q (by simp [hq])
        refine ⟨s, ?_, g2⟩
        rcases List.mem_cons.mp g1 with e | g1
        · have : q.1 ∈ F.map (·.1) := by rw [← h.2]; exact List.mem_map.mpr ⟨q, hq, rfl⟩
          rw [show q.1 = f.1 from by rw [← e]] at this
          exact absurd this hn.1
        · exact g1
      rw [List.map_cons, h4, ← h3]
      unfold toldW
      rw [List.filterMap_cons]
      simp only [List.headD_cons, h2, Option.map_some]
/-- One's own id, of what was told. -/
def ownT (self : Int) (T : List (Int × Rr)) : Int := T.foldl (fun o p => if p.2.node = self then p.1 else o) 0
theorem ownT_is (self : Int) (P : List Wi') : ownW self P = ownT self (P.map fun p => (p.1, p.2.1)) := by
  unfold ownW ownT
  rw [List.foldl_map]
/-- An entry as told: set, bit, owner, first steps. -/
def entT (wd : Nat) (t : Int × Rr) : Int × Int × Int × List Int := ((((t.1.toNat - 1) / wd : Nat) : Int), (((t.1.toNat - 1) % wd : Nat) : Int) + 1, t.2.node, t.2.next)
def entsT (self : Int) (wd : Nat) (T : List (Int × Rr)) : List (Int × Int × Int × List Int) := (T.filter fun t => !decide (t.2.node = self)).map (entT wd)
/-- Entries in memory. -/
def EsAt (B : Nat) (w : World) (u : Value) (T : List (Int × Int × Int × List Int)) : Prop :=
  ∃ es : List (Rw × List Int), es.map (fun x => (x.1.1, x.1.2.1, x.1.2.2.1, x.2)) = T ∧ (∃ C, B ≤ C ∧ w.ownsRow C 46 4 u es.length (fl rwcs (es.map (·.1)))) ∧ ∀ x ∈ es, ∃ C, B ≤ C ∧ w.ownsRow C 3 1 (rwS x.1) x.2.length (fl ic x.2)
/-- What Build answers, of the records alone. -/
theorem BldAns.told {w w' : World} {l : List (Rc × Value)} {self : Int} {wd : Nat} {e : Ending} (h : BldAns w w' l self wd e) (hl : bothOk no1 (rcs l) = true) :
    ∃ (W : List Rr) (u : Value), WaysIs l self W ∧ e = .returned (.tuple #[.agg #[.int .i64 self, .int .i64 wd, .int .i64 (ownT self (toldW W (freeT (allC ((rcs l).filter fun x => (ofW W x.origin).isSome))))), u], .int .i64 0]) ∧
      EsAt w.heap.size w' u (entsT self wd (toldW W (freeT (allC ((rcs l).filter fun x => (ofW W x.origin).isSome))))) := by
  obtain ⟨W, P, u, h1, h2, h3, h4, h5⟩ := h.one hl
  have hn : ((freeT (allC (rcs (liveL W l)))).map (·.1)).Nodup := (free_rise _).imp fun h e => by omega
  have ht := told_one h3 hn fun p hp => by
    obtain ⟨r, g1, g2, _⟩ := h4 p hp
    exact ⟨r, g1, g2⟩
  rw [live_rcs] at ht
  refine ⟨W, u, h2, by rw [← ht, ← ownT_is]; exact h1, ?_⟩
  rw [← ht]
  refine ⟨(P.filter fun p => !decide (p.2.1.node = self)).map fun p => (rowW wd p, p.2.1.next), ?_, ?_, ?_⟩
  · unfold entsT
    rw [List.filter_map, List.map_map, List.map_map]
    rfl
  · rw [List.map_map, List.length_map]
    unfold rowsW at h5
    rw [List.length_map] at h5
    exact h5
  · intro x hx
    obtain ⟨p, hp, rfl⟩ := List.mem_map.mp hx
    obtain ⟨_, _, _, g⟩ := h4 p (List.mem_filter.mp hp).1
    exact g

end Go.Proofs.YtgeoghhajjlofaaGreatDoor
namespace Go.Proofs.YtgeoghhajjlofaaGreatDoor

/-- The records of the example; the claim of 3 is as told. -/
abbrev exR (c : Int) : List Rc := [⟨1, 1, 1, 0, false, [(2, 1), (3, 1)]⟩, ⟨2, 1, 1, 9, false, [(1, 1), (4, 1)]⟩, ⟨3, 1, 1, c, false, [(1, 1), (4, 1)]⟩, ⟨4, 1, 1, 1, false, [(2, 1), (3, 1)]⟩]
abbrev exG : List Ed := [(1, 2, 1), (1, 3, 1), (2, 1, 1), (2, 4, 1), (3, 1, 1), (3, 4, 1), (4, 2, 1), (4, 3, 1)]
abbrev exW : List Rr := [⟨1, 0, 0, 0, []⟩, ⟨2, 1, 1, 1, [2]⟩, ⟨3, 1, 1, 1, [3]⟩, ⟨4, 2, 2, 2, [2, 3]⟩]
theorem exR_ok : bothOk no1 (exR 3) = true ∧ bothOk no1 (exR 1) = true := ⟨by decide, by decide⟩
theorem exR_N : bothN (exR 3) = [1, 2, 3, 4] ∧ bothN (exR 1) = [1, 2, 3, 4] := ⟨by decide +kernel, by decide +kernel⟩
theorem exR_E : bothE (exR 3) = exG ∧ bothE (exR 1) = exG := ⟨by decide +kernel, by decide +kernel⟩
theorem exG_hops {r x c : Int} {h : Nat} (k : Wy exG r x c h) : c = (h : Int) :=
  k (fun _ c h => c = (h : Int)) rfl (fun e he c h hs => by
    simp only [List.mem_cons, List.not_mem_nil, or_false] at he
    rcases he with rfl | rfl | rfl | rfl | rfl | rfl | rfl | rfl <;> simp only <;> omega)
def exD (x : Int) : Int := if x = 1 then 0 else if x = 4 then 2 else 1
theorem exG_low {x c : Int} {h : Nat} (k : Wy exG 1 x c h) : exD x ≤ c :=
  k (fun x c _ => exD x ≤ c) (by decide) (fun e he c h hs => by
    simp only [List.mem_cons, List.not_mem_nil, or_false] at he
    rcases he with rfl | rfl | rfl | rfl | rfl | rfl | rfl | rfl <;> simp [exD] at hs ⊢ <;> omega)
theorem exG_w2 : Wy exG 1 2 1 1 := Wy.one (e := (1, 2, 1)) (by decide)
theorem exG_w3 : Wy exG 1 3 1 1 := Wy.one (e := (1, 3, 1)) (by decide)
theorem exG_w4 : Wy exG 1 4 2 2 := exG_w2.step (e := (2, 4, 1)) (by decide)
theorem exG_ds : Ds exG 1 1 0 ∧ Ds exG 1 2 1 ∧ Ds exG 1 3 1 ∧ Ds exG 1 4 2 :=
  ⟨⟨⟨_, Wy.refl _ _⟩, fun _ _ h => exG_low h⟩, ⟨⟨_, exG_w2⟩, fun _ _ h => exG_low h⟩, ⟨⟨_, exG_w3⟩, fun _ _ h => exG_low h⟩, ⟨⟨_, exG_w4⟩, fun _ _ h => exG_low h⟩⟩
theorem exG_fs {y x d : Int} : Fs exG 1 y x d ↔ (y = 2 ∨ y = 3) ∧ ∃ h, Wy exG y x (d - 1) h := by
  constructor
  · rintro ⟨e, he, h1, h2, h, hw⟩
    simp only [List.mem_cons, List.not_mem_nil, or_false] at he
    rcases he with rfl | rfl | rfl | rfl | rfl | rfl | rfl | rfl <;> simp at h1 h2 <;> subst h2
    · exact ⟨.inl rfl, h, hw⟩
    · exact ⟨.inr rfl, h, hw⟩
  · rintro ⟨rfl | rfl, h, hw⟩
    · exact ⟨(1, 2, 1), by decide, rfl, rfl, h, hw⟩
    · exact ⟨(1, 3, 1), by decide, rfl, rfl, h, hw⟩
theorem exG_zero {y x : Int} {h : Nat} (hw : Wy exG y x 0 h) : x = y := by
  have := exG_hops hw
  exact (hw.zero (by omega)).1
theorem exG_from : IsFrom [1, 2, 3, 4] exG 1 exW := by
  refine ⟨by decide, fun p hp => ?_, fun x d hx hd => ?_⟩
  · simp only [List.mem_cons, List.not_mem_nil, or_false] at hp
    rcases hp with rfl | rfl | rfl | rfl
    · exact ⟨by decide, 0, exG_ds.1, rfl, rfl, by decide, by decide, fun h hw => by have := exG_hops hw; show (0 : Int) ≤ h ∧ (h : Int) ≤ 0; omega, Wy.refl _ _, Wy.refl _ _, by decide, fun _ => rfl, fun hne => absurd rfl hne⟩
    · refine ⟨by decide, 1, exG_ds.2.1, rfl, rfl, by decide, by decide, fun h hw => by have := exG_hops hw; show (1 : Int) ≤ h ∧ (h : Int) ≤ 1; omega, exG_w2, exG_w2, by decide, fun e => absurd e (by decide), fun _ y => ?_⟩
      rw [exG_fs]
      constructor
      · intro hy
        obtain rfl := List.mem_singleton.1 hy
        exact ⟨.inl rfl, 0, Wy.refl _ _⟩
      · rintro ⟨_, h, hw⟩
        have := exG_zero hw
        simp only at this
        rw [← this]
        decide
    · refine ⟨by decide, 1, exG_ds.2.2.1, rfl, rfl, by decide, by decide, fun h hw => by have := exG_hops hw; show (1 : Int) ≤ h ∧ (h : Int) ≤ 1; omega, exG_w3, exG_w3, by decide, fun e => absurd e (by decide), fun _ y => ?_⟩
      rw [exG_fs]
      constructor
      · intro hy
        obtain rfl := List.mem_singleton.1 hy
        exact ⟨.inr rfl, 0, Wy.refl _ _⟩
      · rintro ⟨_, h, hw⟩
        have := exG_zero hw
        simp only at this
        rw [← this]
        decide
    · refine ⟨by decide, 2, exG_ds.2.2.2, rfl, rfl, by decide, by decide, fun h hw => by have := exG_hops hw; show (2 : Int) ≤ h ∧ (h : Int) ≤ 2; omega, exG_w4, exG_w4, by decide, fun e => absurd e (by decide), fun _ y => ?_⟩
      rw [exG_fs]
      constructor
      · intro hy
        simp only [List.mem_cons, List.not_mem_nil, or_false] at hy
        rcases hy with rfl | rfl
        · exact ⟨.inl rfl, 1, Wy.one (e := (2, 4, 1)) (by decide)⟩
        · exact ⟨.inr rfl, 1, Wy.one (e := (3, 4, 1)) (by decide)⟩
      · rintro ⟨hy, _⟩
        simpa using hy
  · simp only [List.mem_cons, List.not_mem_nil, or_false] at hx
    rcases hx with rfl | rfl | rfl | rfl
    · exact ⟨⟨1, 0, 0, 0, []⟩, by simp, rfl⟩
    · exact ⟨⟨2, 1, 1, 1, [2]⟩, by simp, rfl⟩
    · exact ⟨⟨3, 1, 1, 1, [3]⟩, by simp, rfl⟩
    · exact ⟨⟨4, 2, 2, 2, [2, 3]⟩, by simp, rfl⟩
theorem ids_is {rs : List Rc} {ids : List Int} (hi : ids.Pairwise fun x y => x < y) (h1 : ∀ r ∈ rs, r.claim = 0 ∨ r.claim ∈ ids) (h2 : ∀ i ∈ ids, (1 ≤ i ∧ i ≤ 1024) ∧ gat rs i ≠ []) : idsL rs = ids :=
  crise_ext (idsL_rise _) hi (fun x => by
    rw [mem_idsL]
    constructor
    · rintro ⟨_, h3⟩
      obtain ⟨y, hy⟩ := List.exists_mem_of_ne_nil _ h3
      obtain ⟨r, hr, h4, h5, _⟩ := mem_gat.1 hy
      rcases h1 r hr with h6 | h6
      · exact absurd h6 h5
      · rw [← h4]; exact h6
    · intro h
      exact h2 x h)
theorem ex3_free : freeT (allC (exR 3)) = [(1, [4]), (3, [3]), (9, [2])] := by
  have h1 : idsL (exR 3) = [1, 3, 9] := ids_is (by decide) (by decide) (by decide)
  unfold allC
  rw [h1]
  show freeT [((1 : Int), rsL (gat (exR 3) 1)), (3, rsL (gat (exR 3) 3)), (9, rsL (gat (exR 3) 9))] = _
  rw [show gat (exR 3) 1 = [4] by decide, show gat (exR 3) 3 = [3] by decide, show gat (exR 3) 9 = [2] by decide, rsL_of (by decide), rsL_of (by decide), rsL_of (by decide)]
  rfl
theorem ex1_free : freeT (allC (exR 1)) = [(9, [2])] := by
  have h1 : idsL (exR 1) = [1, 9] := ids_is (by decide) (by decide) (by decide)
  unfold allC
  rw [h1]
  show freeT [((1 : Int), rsL (gat (exR 1) 1)), (9, rsL (gat (exR 1) 9))] = _
  rw [show gat (exR 1) 1 = [3, 4] by decide, show gat (exR 1) 9 = [2] by decide, rsL_of (by decide), rsL_of (by decide)]
  rfl
theorem ex_live (c : Int) : ((exR c).filter fun x => (ofW exW x.origin).isSome) = exR c := by
  refine List.filter_eq_self.2 fun x hx => ?_
  simp only [List.mem_cons, List.not_mem_nil, or_false] at hx
  rcases hx with rfl | rfl | rfl | rfl <;> rfl
theorem ex_free0 : freeT (allC ([] : List Rc)) = [] := by
  have h1 : idsL ([] : List Rc) = [] := ids_is (by decide) (by simp) (by simp)
  unfold allC
  rw [h1]
  rfl
theorem ex_ways {l : List (Rc × Value)} {c : Int} (hl : rcs l = exR c) (hN : bothN (exR c) = [1, 2, 3, 4]) (hE : bothE (exR c) = exG) {W : List Rr} (h : WaysIs l 1 W) : W = exW := by
  unfold WaysIs at h
  rw [hl, hN, hE] at h
  rcases h with ⟨h1, _⟩ | ⟨_, h1⟩
  · exact absurd h1 (by decide)
  · exact h1.uniq exG_from
theorem ex_ways5 {l : List (Rc × Value)} (hl : rcs l = exR 3) {W : List Rr} (h : WaysIs l 5 W) : W = [] := by
  unfold WaysIs at h
  rw [hl, exR_N.1, exR_E.1] at h
  rcases h with ⟨_, h1⟩ | ⟨h1, _⟩
  · exact h1
  · exact absurd h1 (by decide)
theorem ex3_told : toldW exW [(1, [4]), (3, [3]), (9, [2])] = [(1, ⟨4, 2, 2, 2, [2, 3]⟩), (3, ⟨3, 1, 1, 1, [3]⟩), (9, ⟨2, 1, 1, 1, [2]⟩)] := rfl
theorem ex3_ents : entsT 1 8 [(1, ⟨4, 2, 2, 2, [2, 3]⟩), (3, ⟨3, 1, 1, 1, [3]⟩), (9, ⟨2, 1, 1, 1, [2]⟩)] = [(0, 1, 4, [2, 3]), (0, 3, 3, [3]), (1, 1, 2, [2])] := rfl
theorem ex3_own : ownT 1 [(1, ⟨4, 2, 2, 2, [2, 3]⟩), (3, ⟨3, 1, 1, 1, [3]⟩), (9, ⟨2, 1, 1, 1, [2]⟩)] = 0 := rfl
theorem ex1_ents : entsT 1 8 (toldW exW [(9, [2])]) = [(1, 1, 2, [2])] := rfl
theorem ex1_own : ownT 1 (toldW exW [(9, [2])]) = 0 := rfl
/-- What Build answers of the example. -/
theorem ex3_ans {w w' : World} {l : List (Rc × Value)} {e : Ending} (hl : rcs l = exR 3) (h : BldAns w w' l 1 8 e) : ∃ u, e = .returned (.tuple #[.agg #[.int .i64 1, .int .i64 8, .int .i64 0, u], .int .i64 0]) ∧ EsAt w.heap.size w' u [(0, 1, 4, [2, 3]), (0, 3, 3, [3]), (1, 1, 2, [2])] := by
  obtain ⟨W, u, h1, h2, h3⟩ := h.told (by rw [hl]; exact exR_ok.1)
  have hW := ex_ways hl exR_N.1 exR_E.1 h1
  rw [hW, hl, ex_live, ex3_free, ex3_told] at h2 h3
  rw [ex3_own] at h2
  rw [show ((8 : Nat) : Int) = 8 from rfl] at h2
  exact ⟨u, h2, h3⟩
theorem ex1_ans {w w' : World} {l : List (Rc × Value)} {e : Ending} (hl : rcs l = exR 1) (h : BldAns w w' l 1 8 e) : ∃ u, e = .returned (.tuple #[.agg #[.int .i64 1, .int .i64 8, .int .i64 0, u], .int .i64 0]) ∧ EsAt w.heap.size w' u [(1, 1, 2, [2])] := by
  obtain ⟨W, u, h1, h2, h3⟩ := h.told (by rw [hl]; exact exR_ok.2)
  have hW := ex_ways hl exR_N.2 exR_E.2 h1
  rw [hW, hl, ex_live, ex1_free] at h2 h3
  rw [ex1_own] at h2
  rw [ex1_ents] at h3
  exact ⟨u, h2, h3⟩
theorem ex5_ans {w w' : World} {l : List (Rc × Value)} {e : Ending} (hl : rcs l = exR 3) (h : BldAns w w' l 5 8 e) : ∃ u, e = .returned (.tuple #[.agg #[.int .i64 5, .int .i64 8, .int .i64 0, u], .int .i64 0]) ∧ EsAt w.heap.size w' u [] := by
  obtain ⟨W, u, h1, h2, h3⟩ := h.told (by rw [hl]; exact exR_ok.1)
  have hW := ex_ways5 hl h1
  have hn : ((exR 3).filter fun x => (ofW [] x.origin).isSome) = [] := rfl
  rw [hW, hl, hn, ex_free0] at h2 h3
  exact ⟨u, h2, h3⟩
end Go.Proofs.YtgeoghhajjlofaaGreatDoor
