/- Both answers beside each other: Count, First. Two cuts of a graph, in whatever order. The law's graphs, as lists: a table of costs, the same both ways; the graph that it makes. The law's table of costs in memory. The law's of: the table. The chapter's example, as lists. The chapter's example: how many ways. The law's example, cost, works. PathsReach walked. Links of three small numbers as an argument. -/
import Derived.Test.YtabnecicidkmhaaZ4
import Derived.Test.YtabnecicidkmhaaZ2
import Derived.Test.YtabnecicidkmhaaGQ
import Derived.Deep.RegionLaw
import Derived.Test.YtabnecicidkmhaaZ1
import Derived.Test.YtabnecicidkmhaaGH
namespace Go.Proofs.Ytabnecicidkmhaa
open Go.RowKit

theorem nd2 {ns : List Int} {es : List Ed} {a b : Int} (h : ndAll ns es [a, b] = true) : graphOk ns es = true ∧ a ∈ ns ∧ b ∈ ns := by
  simp only [ndAll, hasN, Bool.and_eq_true, List.all_cons, List.all_nil, Bool.and_true] at h
  exact ⟨h.1, by simpa using h.2.1, by simpa using h.2.2⟩
theorem count_both {ns : List Int} {es : List Ed} {vn ve : Value} {w : World} (h : GrAt w vn ve ns es) (a b : Int) :
    Calls Try.prog 16 #[grV vn ve, .int .i64 a, .int .i64 b] w fun e w' => (∃ (n : Nat) (x : Int), e = .returned (.tuple #[.int .u64 (n : Int), .int .i64 x]) ∧
      ∀ vn2 ve2 w2, GrAt w2 vn2 ve2 ns es → Calls Try.prog 17 #[grV vn2 ve2, .int .i64 a, .int .i64 b] w2 fun e w' => e = .returned (.tuple #[.int .u64 (n : Int), .int .i64 x]) ∧ Below w2.heap.size w2 w') ∧ Below w.heap.size w w' := by
  refine (count_any h a b).mono fun e w' ⟨h1, hb⟩ => ⟨?_, hb⟩
  rcases h1 with ⟨hn, he⟩ | ⟨hn, P, hP, hN, he⟩
  · refine ⟨0, 2, he, fun vn2 ve2 w2 h2 => (dcount_any h2 a b).mono fun e w' ⟨h3, hb⟩ => ⟨?_, hb⟩⟩
    rcases h3 with ⟨_, h3⟩ | ⟨h3, _⟩
    · exact h3
    · rw [hn] at h3; cases h3
  · refine ⟨_, 0, he, fun vn2 ve2 w2 h2 => (dcount_any h2 a b).mono fun e w' ⟨h3, hb⟩ => ⟨?_, hb⟩⟩
    rcases h3 with ⟨h3, _⟩ | ⟨_, c, hc1, hc2, h3⟩
    · rw [hn] at h3; cases h3
    · obtain ⟨hok, ha, hb2⟩ := nd2 hn
      rw [h3, cnt_end hok ha hP hN hb2 hc1 hc2]
theorem first_both {ns : List Int} {es : List Ed} {vn ve : Value} {w : World} (h : GrAt w vn ve ns es) (a b : Int) :
    Calls Try.prog 18 #[grV vn ve, .int .i64 a, .int .i64 b] w fun e w' => (∃ (v : Value) (x : Int) (l : List Int), e = .returned (.tuple #[v, .int .i64 x]) ∧ SlAt ic 1 w' v l ∧
      ∀ vn2 ve2 w2, GrAt w2 vn2 ve2 ns es → Calls Try.prog 19 #[grV vn2 ve2, .int .i64 a, .int .i64 b] w2 fun e w' => (∃ v2, e = .returned (.tuple #[v2, .int .i64 x]) ∧ SlAt ic 1 w' v2 l) ∧ Below w2.heap.size w2 w') ∧ Below w.heap.size w w' := by
  refine (first_any h a b).mono fun e w' ⟨h1, hb⟩ => ⟨?_, hb⟩
  rcases h1 with ⟨hn, he⟩ | ⟨hn, P, hP, hN, he⟩
  · refine ⟨_, 2, [], he, slAt_nil _ _ _, fun vn2 ve2 w2 h2 => (dfirst_any h2 a b (L := none) (fun h => by rw [hn] at h; cases h)).mono fun e w' ⟨h3, hb⟩ => ⟨?_, hb⟩⟩
    rcases h3 with ⟨_, h3⟩ | ⟨h3, _⟩
    · exact ⟨_, h3, slAt_nil _ _ _⟩
    · rw [hn] at h3; cases h3
  · obtain ⟨hok, ha, hb2⟩ := nd2 hn
    have hL : FstOk es a b (fstT a (told es P P) b.toNat) := by
      rcases Classical.em (∃ d, Ds es a b d) with ⟨d, hd⟩ | hno
      · obtain ⟨l, h1, h2⟩ := fst_is hok ha hP hN hb2 hd
        rw [h1]
        exact ⟨d, hd, h2⟩
      · have hno' : ∀ d, ¬ Ds es a b d := fun d hd => hno ⟨d, hd⟩
        rw [fst_none hok ha hP hN hb2 hno']
        exact hno'
    generalize fstT a (told es P P) b.toNat = L at he hL
    cases L with
    | none =>
      refine ⟨_, 6, [], he, slAt_nil _ _ _, fun vn2 ve2 w2 h2 => (dfirst_any h2 a b (L := none) (fun _ => hL)).mono fun e w' ⟨h3, hb⟩ => ⟨?_, hb⟩⟩
      rcases h3 with ⟨h3, _⟩ | ⟨_, h3⟩
      · rw [hn] at h3; cases h3
      · exact ⟨_, h3, slAt_nil _ _ _⟩
    | some l =>
      obtain ⟨v, he, hs, _⟩ := he
      refine ⟨v, 0, l, he, hs, fun vn2 ve2 w2 h2 => (dfirst_any h2 a b (L := some l) (fun _ => hL)).mono fun e w' ⟨h3, hb⟩ => ⟨?_, hb⟩⟩
      rcases h3 with ⟨h3, _⟩ | ⟨_, h3⟩
      · rw [hn] at h3; cases h3
      · obtain ⟨v2, h4, h5, _⟩ := h3
        exact ⟨v2, h4, h5⟩
/-- Two cuts and two new blocks, as far as they are made. -/
structure CutSt (w0 w : World) (ns : List Int) (es : List Ed) (c1 c3 : Option (Value × Value)) (a4 a5 : Option Nat) : Prop where
  b : Below w0.heap.size w0 w
  fc1 : ∀ p, c1 = some p → GrR w p.1 p.2 ns es
  fc3 : ∀ p, c3 = some p → GrR w p.1 p.2 ns es
  fa4 : ∀ k, a4 = some k → w0.heap.size ≤ k ∧ w.heap[k]? = some (.cells #[.slice none 0 0, .slice none 0 0] 25)
  fa5 : ∀ k, a5 = some k → w0.heap.size ≤ k ∧ w.heap[k]? = some (.cells #[.slice none 0 0, .slice none 0 0] 25)
  ne : ∀ j k, a4 = some j → a5 = some k → j ≠ k
theorem CutSt.keep {w0 w w' : World} {ns : List Int} {es : List Ed} {c1 c3 : Option (Value × Value)} {a4 a5 : Option Nat} (h : CutSt w0 w ns es c1 c3 a4 a5) (hb : Below w.heap.size w w') : CutSt w0 w' ns es c1 c3 a4 a5 :=
  ⟨h.b.trans (hb.mono h.b.size), fun p e => (h.fc1 p e).keep hb (Nat.le_refl _), fun p e => (h.fc3 p e).keep hb (Nat.le_refl _),
    fun k e => ⟨(h.fa4 k e).1, (hb.block _ (block_lt (h.fa4 k e).2)).trans (h.fa4 k e).2⟩, fun k e => ⟨(h.fa5 k e).1, (hb.block _ (block_lt (h.fa5 k e).2)).trans (h.fa5 k e).2⟩, h.ne⟩
theorem CutSt.call1 {w0 w w' : World} {ns : List Int} {es : List Ed} {c1 c3 : Option (Value × Value)} {a4 a5 : Option Nat} (h : CutSt w0 w ns es c1 c3 a4 a5) {vn ve : Value} (hg : GrR w' vn ve ns es) (hb : Below w.heap.size w w') : CutSt w0 w' ns es (some (vn, ve)) c3 a4 a5 :=
  have k := h.keep hb
  ⟨k.b, fun p e => by cases e; exact hg, k.fc3, k.fa4, k.fa5, k.ne⟩
theorem CutSt.call3 {w0 w w' : World} {ns : List Int} {es : List Ed} {c1 c3 : Option (Value × Value)} {a4 a5 : Option Nat} (h : CutSt w0 w ns es c1 c3 a4 a5) {vn ve : Value} (hg : GrR w' vn ve ns es) (hb : Below w.heap.size w w') : CutSt w0 w' ns es c1 (some (vn, ve)) a4 a5 :=
  have k := h.keep hb
  ⟨k.b, k.fc1, fun p e => by cases e; exact hg, k.fa4, k.fa5, k.ne⟩
theorem CutSt.alloc4 {w0 w : World} {ns : List Int} {es : List Ed} {c1 c3 : Option (Value × Value)} {a4 a5 : Option Nat} (h : CutSt w0 w ns es c1 c3 a4 a5) : CutSt w0 (w.alloc (.cells #[.slice none 0 0, .slice none 0 0] 25)) ns es c1 c3 (some w.heap.size) a5 :=
  have k := h.keep ((Below.refl _ w).alloc (Nat.le_refl _) (.cells #[.slice none 0 0, .slice none 0 0] 25))
  ⟨k.b, k.fc1, k.fc3, fun j e => by cases e; exact ⟨h.b.size, heap_alloc_last w _⟩, k.fa5, fun j i e1 e2 e3 => by cases e1; have := block_lt (h.fa5 i e2).2; omega⟩
theorem CutSt.alloc5 {w0 w : World} {ns : List Int} {es : List Ed} {c1 c3 : Option (Value × Value)} {a4 a5 : Option Nat} (h : CutSt w0 w ns es c1 c3 a4 a5) : CutSt w0 (w.alloc (.cells #[.slice none 0 0, .slice none 0 0] 25)) ns es c1 c3 a4 (some w.heap.size) :=
  have k := h.keep ((Below.refl _ w).alloc (Nat.le_refl _) (.cells #[.slice none 0 0, .slice none 0 0] 25))
  ⟨k.b, k.fc1, k.fc3, k.fa4, fun j e => by cases e; exact ⟨h.b.size, heap_alloc_last w _⟩, fun j i e1 e2 e3 => by cases e2; have := block_lt (h.fa4 j e1).2; omega⟩
/-- Two graphs in blocks of their own (the second one, if it is laid already). -/
structure TwoG (w0 w : World) (ns : List Int) (es : List Ed) (p1 p3 q3 : Value × Value) (j k : Nat) : Prop where
  b : Below w0.heap.size w0 w
  g1 : GrR w p1.1 p1.2 ns es
  g3 : GrR w p3.1 p3.2 ns es
  b1 : w.heap[j]? = some (.cells #[p1.1, p1.2] 25)
  b3 : w.heap[k]? = some (.cells #[q3.1, q3.2] 25)
  s : w0.heap.size ≤ j ∧ w0.heap.size ≤ k
  ne : j ≠ k
theorem CutSt.put {w0 w : World} {ns : List Int} {es : List Ed} {p1 p3 : Value × Value} {j k : Nat} (h : CutSt w0 w ns es (some p1) (some p3) (some j) (some k)) : TwoG w0 ((w.setCell ⟨j, 0, none⟩ p1.1).setCell ⟨j, 1, none⟩ p1.2) ns es p1 p3 (.slice none 0 0, .slice none 0 0) j k := by
  have h4 := h.fa4 j rfl
  have h5 := h.fa5 k rfl
  have hF : Fr (fun i => i = j) w ((w.setCell ⟨j, 0, none⟩ p1.1).setCell ⟨j, 1, none⟩ p1.2) := ((Fr.refl (fun i => i = j) w).set (p := ⟨j, 0, none⟩) rfl _).set (p := ⟨j, 1, none⟩) rfl _
  have hlt := block_lt h4.2
  exact ⟨h.b.trans (hF.below h.b.size (fun i hi => by omega)), (h.fc1 _ rfl).fr hF h4.2, (h.fc3 _ rfl).fr hF h4.2, setG h4.2 _ _, (hF.block _ (block_lt h5.2) (fun e => h.ne _ _ rfl rfl e.symm)).trans h5.2, ⟨h4.1, h5.1⟩, h.ne _ _ rfl rfl⟩
theorem TwoG.put {w0 w : World} {ns : List Int} {es : List Ed} {p1 p3 q3 : Value × Value} {j k : Nat} (h : TwoG w0 w ns es p1 p3 q3 j k) : TwoG w0 ((w.setCell ⟨k, 0, none⟩ p3.1).setCell ⟨k, 1, none⟩ p3.2) ns es p1 p3 p3 j k := by
  have hF : Fr (fun i => i = k) w ((w.setCell ⟨k, 0, none⟩ p3.1).setCell ⟨k, 1, none⟩ p3.2) := ((Fr.refl (fun i => i = k) w).set (p := ⟨k, 0, none⟩) rfl _).set (p := ⟨k, 1, none⟩) rfl _
  have := h.s
  exact ⟨h.b.trans (hF.below h.b.size (fun i hi => by omega)), h.g1.fr hF h.b3, h.g3.fr hF h.b3, (hF.block _ (block_lt h.b1) h.ne).trans h.b1, setG h.b3 _ _, h.s, h.ne⟩
theorem TwoG.keep {w0 w w' : World} {ns : List Int} {es : List Ed} {p1 p3 q3 : Value × Value} {j k : Nat} (h : TwoG w0 w ns es p1 p3 q3 j k) (hb : Below w.heap.size w w') : TwoG w0 w' ns es p1 p3 q3 j k :=
  ⟨h.b.trans (hb.mono h.b.size), h.g1.keep hb (Nat.le_refl _), h.g3.keep hb (Nat.le_refl _), (hb.block _ (block_lt h.b1)).trans h.b1, (hb.block _ (block_lt h.b3)).trans h.b3, h.s, h.ne⟩
theorem CutSt.start (w : World) (ns : List Int) (es : List Ed) : CutSt w w.drew ns es none none none none :=
  ⟨(Below.refl _ w).drew, fun _ e => (nomatch e), fun _ e => (nomatch e), fun _ e => (nomatch e), fun _ e => (nomatch e), fun _ _ e => (nomatch e)⟩
end Go.Proofs.Ytabnecicidkmhaa
namespace Go.Proofs.Ytabnecicidkmhaa
open Go.RowKit

/-- The cells of a link. -/
abbrev lc3 (x : Ed) : List Value := [.int .u8 x.1, .int .u8 x.2.1, .int .u8 x.2.2]
/-- One link more in the table. -/
def tabL (n : Nat) (c : Nat → Int) (x : Ed) : Nat → Int :=
  if (x.1.toNat % n) ≠ (x.2.1.toNat % n) ∧ c (16 * (x.1.toNat % n) + x.2.1.toNat % n) = 0 then
    putV (putV c (16 * (x.1.toNat % n) + x.2.1.toNat % n) (1 + x.2.2 % 5)) (16 * (x.2.1.toNat % n) + x.1.toNat % n) (1 + x.2.2 % 5)
  else c
def tabT (n : Nat) (L : List Ed) : Nat → Int := L.foldl (tabL n) (fun _ => 0)
theorem tabT_snoc (n : Nat) (L : List Ed) (x : Ed) : tabT n (L ++ [x]) = tabL n (tabT n L) x := by simp [tabT, List.foldl_append]
structure TabOk (c : Nat → Int) : Prop where
  bd : ∀ i, 0 ≤ c i ∧ c i ≤ 5
  sy : ∀ a b, a < 16 → b < 16 → c (16 * a + b) = c (16 * b + a)
  di : ∀ a, a < 16 → c (16 * a + a) = 0
theorem tabL_ok {n : Nat} {c : Nat → Int} {x : Ed} (h : TabOk c) (h0 : 0 < n) (hn : n ≤ 16) : TabOk (tabL n c x) := by
  have ha := Nat.mod_lt x.1.toNat h0
  have hb := Nat.mod_lt x.2.1.toNat h0
  unfold tabL
  generalize x.1.toNat % n = a at *
  generalize x.2.1.toNat % n = b at *
  by_cases hc : a ≠ b ∧ c (16 * a + b) = 0
  · rw [if_pos hc]
    have hv : 0 ≤ 1 + x.2.2 % 5 ∧ 1 + x.2.2 % 5 ≤ 5 := by omega
    generalize 1 + x.2.2 % 5 = v at *
    refine ⟨fun i => ?_, fun p q hp hq => ?_, fun p hp => ?_⟩
    · unfold putV
      have := h.bd i
      split
      · exact hv
      · split
        · exact hv
        · exact this
    · have h1 := h.sy p q hp hq
      unfold putV
      by_cases e1 : p = a ∧ q = b
      · obtain ⟨rfl, rfl⟩ := e1
        simp
      · by_cases e2 : p = b ∧ q = a
        · obtain ⟨rfl, rfl⟩ := e2
          simp
        · rw [if_neg (by omega), if_neg (by omega), if_neg (by omega), if_neg (by omega)]
          exact h1
    · unfold putV
      rw [if_neg (by omega), if_neg (by omega)]
      exact h.di p hp
  · rw [if_neg hc]
    exact h
theorem tabT_ok {n : Nat} (h0 : 0 < n) (hn : n ≤ 16) (L : List Ed) : TabOk (tabT n L) := by
  have key : ∀ (L : List Ed) (c : Nat → Int), TabOk c → TabOk (L.foldl (tabL n) c) := by
    intro L
    induction L with
    | nil => intro c h; exact h
    | cons x L ih => intro c h; exact ih _ (tabL_ok h h0 hn)
  exact key L _ ⟨fun _ => by omega, fun _ _ _ _ => rfl, fun _ _ => rfl⟩
/-- A row's edges; all edges of m rows; the nodes. -/
def rwE (c : Nat → Int) (a m : Nat) : List Ed := ((List.range m).filter fun b => decide (0 < c (16 * a + b))).map fun b : Nat => ((a : Int) + 1, (b : Int) + 1, c (16 * a + b))
def tabE (c : Nat → Int) (n m : Nat) : List Ed := (List.range m).flatMap fun a => rwE c a n
def tabN (n : Nat) : List Int := (List.range n).map fun a : Nat => (a : Int) + 1
theorem rwE_succ (c : Nat → Int) (a m : Nat) : rwE c a (m + 1) = rwE c a m ++ (if 0 < c (16 * a + m) then [((a : Int) + 1, (m : Int) + 1, c (16 * a + m))] else []) := by
  unfold rwE
  rw [List.range_succ, List.filter_append, List.map_append]
  by_cases h : 0 < c (16 * a + m) <;> simp [h]
theorem tabE_succ (c : Nat → Int) (n m : Nat) : tabE c n (m + 1) = tabE c n m ++ rwE c m n := by simp [tabE, List.range_succ, List.flatMap_append]
theorem tabN_succ (n : Nat) : tabN (n + 1) = tabN n ++ [(n : Int) + 1] := by simp [tabN, List.range_succ]
theorem rwE_mem {c : Nat → Int} {a m : Nat} {e : Ed} : e ∈ rwE c a m ↔ ∃ b, b < m ∧ 0 < c (16 * a + b) ∧ e = ((a : Int) + 1, (b : Int) + 1, c (16 * a + b)) := by
  unfold rwE
  simp only [List.mem_map, List.mem_filter, List.mem_range, decide_eq_true_eq]
  constructor
  · rintro ⟨b, ⟨h1, h2⟩, rfl⟩; exact ⟨b, h1, h2, rfl⟩
  · rintro ⟨b, h1, h2, rfl⟩; exact ⟨b, ⟨h1, h2⟩, rfl⟩
theorem tabE_mem {c : Nat → Int} {n m : Nat} {e : Ed} : e ∈ tabE c n m ↔ ∃ a b, a < m ∧ b < n ∧ 0 < c (16 * a + b) ∧ e = ((a : Int) + 1, (b : Int) + 1, c (16 * a + b)) := by
  unfold tabE
  simp only [List.mem_flatMap, List.mem_range, rwE_mem]
  constructor
  · rintro ⟨a, h1, b, h2, h3, h4⟩; exact ⟨a, b, h1, h2, h3, h4⟩
  · rintro ⟨a, b, h1, h2, h3, h4⟩; exact ⟨a, h1, b, h2, h3, h4⟩
theorem rwE_len (c : Nat → Int) (a m : Nat) : (rwE c a m).length ≤ m := by
  unfold rwE
  rw [List.length_map]
  exact Nat.le_trans (List.length_filter_le _ _) (by simp)
theorem tabE_len (c : Nat → Int) (n : Nat) : ∀ m, (tabE c n m).length ≤ m * n
  | 0 => by simp [tabE]
  | m + 1 => by
    rw [tabE_succ, List.length_append, Nat.succ_mul]
    have h1 := tabE_len c n m
    have h2 := rwE_len c m n
    omega
theorem rwE_rise (c : Nat → Int) (a : Nat) : ∀ m, (rwE c a m).Pairwise fun x y => risesE x y = true
  | 0 => by simp [rwE]
  | m + 1 => by
    rw [rwE_succ, List.pairwise_append]
    refine ⟨rwE_rise c a m, by split <;> simp, fun x hx y hy => ?_⟩
    obtain ⟨b, h1, _, rfl⟩ := rwE_mem.1 hx
    split at hy
    · rw [List.mem_singleton.1 hy]
      simp [risesE]
      omega
    · simp at hy
theorem tabE_rise (c : Nat → Int) (n : Nat) : ∀ m, (tabE c n m).Pairwise fun x y => risesE x y = true
  | 0 => by simp [tabE]
  | m + 1 => by
    rw [tabE_succ, List.pairwise_append]
    refine ⟨tabE_rise c n m, rwE_rise c m n, fun x hx y hy => ?_⟩
    obtain ⟨a, b, h1, _, _, rfl⟩ := tabE_mem.1 hx
    obtain ⟨b', _, _, rfl⟩ := rwE_mem.1 hy
    simp [risesE]
    omega
theorem tabN_mem {n : Nat} {x : Int} : x ∈ tabN n ↔ 1 ≤ x ∧ x ≤ n := by
  unfold tabN
  simp only [List.mem_map, List.mem_range]
  constructor
  · rintro ⟨a, h, rfl⟩; omega
  · intro h; exact ⟨(x - 1).toNat, by omega, by omega⟩
theorem tabN_ok (n : Nat) (hn : n ≤ 7) : nodesOk 0 (tabN n) = true := by
  have : n = 0 ∨ n = 1 ∨ n = 2 ∨ n = 3 ∨ n = 4 ∨ n = 5 ∨ n = 6 ∨ n = 7 := by omega
  rcases this with rfl | rfl | rfl | rfl | rfl | rfl | rfl | rfl <;> rfl
theorem tab_ok {c : Nat → Int} (h : TabOk c) {n : Nat} (hn : n ≤ 7) : graphOk (tabN n) (tabE c n n) = true := by
  unfold graphOk
  have hl := tabE_len c n n
  have hm : n * n ≤ 7 * 7 := Nat.mul_le_mul hn hn
  rw [tabN_ok n hn, Bool.true_and, Bool.and_eq_true, decide_eq_true_eq]
  refine ⟨by omega, edgesOk_of _ _ (tabE_rise c n n) fun e he => ?_⟩
  obtain ⟨a, b, h1, h2, h3, rfl⟩ := tabE_mem.1 he
  have h4 := h.bd (16 * a + b)
  refine ⟨hasN_iff.2 (tabN_mem.2 (by show 1 ≤ (a : Int) + 1 ∧ (a : Int) + 1 ≤ n; omega)), hasN_iff.2 (tabN_mem.2 (by show 1 ≤ (b : Int) + 1 ∧ (b : Int) + 1 ≤ n; omega)), ?_, isC_iff.2 (by show 1 ≤ c (16 * a + b) ∧ c (16 * a + b) ≤ 1000; omega), ?_⟩
  · show (a : Int) + 1 ≠ (b : Int) + 1
    intro e
    have hab : a = b := by omega
    subst hab
    have := h.di a (by omega)
    omega
  · simp [risesE]
/-- All edges go both ways at one cost. -/
theorem tab_turn {c : Nat → Int} (h : TabOk c) {n : Nat} (hn : n ≤ 7) {e : Ed} (he : e ∈ tabE c n n) : (e.2.1, e.1, e.2.2) ∈ tabE c n n := by
  obtain ⟨a, b, h1, h2, h3, rfl⟩ := tabE_mem.1 he
  have h4 := h.sy a b (by omega) (by omega)
  exact tabE_mem.2 ⟨b, a, h2, h1, by rw [← h4]; exact h3, by rw [h4]⟩
end Go.Proofs.Ytabnecicidkmhaa
namespace Go.Proofs.Ytabnecicidkmhaa
open Go.RowKit

def tcl (c : Nat → Int) : List Value := (List.range 256).map fun i => .int .i64 (c i)
theorem tcl_len (c : Nat → Int) : (tcl c).length = 256 := by simp [tcl]
theorem tcl_get (c : Nat → Int) {n : Nat} (h : n < 256) : (tcl c)[n]? = some (.int .i64 (c n)) := by simp [tcl, List.getElem?_range h]
theorem tcl_set (c : Nat → Int) {n : Nat} (_h : n < 256) (v : Int) : (tcl c).set n (.int .i64 v) = tcl (putV c n v) := by
  apply List.ext_getElem?
  intro j
  rw [List.getElem?_set]
  by_cases hj : j < 256
  · rw [tcl_get _ hj, tcl_get _ hj, tcl_len]
    unfold putV
    by_cases hn : n = j
    · rw [if_pos hn, if_pos (by omega), if_pos hn.symm]
    · rw [if_neg hn, if_neg (fun h => hn h.symm)]
  · rw [List.getElem?_eq_none (by rw [tcl_len]; omega), List.getElem?_eq_none (by rw [tcl_len]; omega), tcl_len]
    by_cases hn : n = j
    · omega
    · rw [if_neg hn]
end Go.Proofs.Ytabnecicidkmhaa
namespace Go.Proofs.Ytabnecicidkmhaa
open Go.RowKit

theorem SlAt.lks {w : World} {v : Value} {l : List Ed} (h : SlAt lc3 3 w v l) : ∃ a cap, v = .slice a l.length cap ∧ l.length ≤ 9223372036854775807 ∧ l.length ≤ cap ∧ (0 < l.length → ∃ bk o, a = some ⟨bk, o, none⟩ ∧ bk < w.heap.size ∧ ∀ j x, l[j]? = some x → w.cell? ⟨bk, o + j * 3, none⟩ = some (.int .u8 x.1) ∧ w.cell? ⟨bk, o + j * 3 + 1, none⟩ = some (.int .u8 x.2.1) ∧ w.cell? ⟨bk, o + j * 3 + 2, none⟩ = some (.int .u8 x.2.2)) := by
  obtain ⟨a, cap, rfl, hl, hc, h⟩ := h
  refine ⟨a, cap, rfl, hl, hc, fun h0 => ?_⟩
  obtain ⟨bk, o, rfl, hb, h⟩ := h h0
  exact ⟨bk, o, rfl, hb, fun j x hx => ⟨h j x hx 0 _ rfl, h j x hx 1 _ rfl, h j x hx 2 _ rfl⟩⟩
theorem make_tab (w : World) : (Instr.makeSlice 22 (.int .i64 256) (.int .i64 256)).run Try.prog w = .ok (.slice (some ⟨w.heap.size, 0, none⟩) 256 256) (w.alloc (.cells (tcl fun _ => 0).toArray 3)) := by kernel_rfl
/-- A graph in new memory. -/
structure GrOwn (base : Nat) (w : World) (a b : Value) (N : List Int) (E : List Ed) : Prop where
  n : w.ownsRow base 3 1 a N.length (fl ic N)
  e : w.ownsRow base 54 3 b E.length (fl ec E)
theorem GrOwn.at {base : Nat} {w : World} {a b : Value} {N : List Int} {E : List Ed} (h : GrOwn base w a b N E) : GrAt w a b N E := ⟨slAt_of_row (cs := ic) (fun _ => rfl) h.n rfl, slAt_of_row (cs := ec) (fun _ => rfl) h.e rfl⟩
theorem GrOwn.low {base base' : Nat} {w : World} {a b : Value} {N : List Int} {E : List Ed} (h : GrOwn base w a b N E) (hb : base' ≤ base) : GrOwn base' w a b N E := ⟨row_low h.n hb, row_low h.e hb⟩
theorem GrOwn.fr {base : Nat} {w w' : World} {S : Nat → Prop} {a b : Value} {N : List Int} {E : List Ed} (h : GrOwn base w a b N E) (hF : Fr S w w') (hS : ∀ k, S k → k < base) : GrOwn base w' a b N E :=
  ⟨row_fr h.n hF (fun j hj e => by have := (h.n.lt j hj).1; have := hS j e; omega), row_fr h.e hF (fun j hj e => by have := (h.e.lt j hj).1; have := hS j e; omega)⟩
/-- Links of small numbers. -/
def LkB (L : List Ed) : Prop := ∀ x ∈ L, (0 ≤ x.1 ∧ x.1 ≤ 255) ∧ (0 ≤ x.2.1 ∧ x.2.1 ≤ 255) ∧ 0 ≤ x.2.2 ∧ x.2.2 ≤ 255
/-- The law's blocks ahead of its graph: the answer's, the table. -/
structure TbM (w wr : World) (c : Nat → Int) : Prop where
  r : wr.heap[w.heap.size]? = some nilG
  t : Arr wr (w.heap.size + 1) 3 (tcl c)
  b : Below w.heap.size w wr
theorem TbM.drewN {w wr : World} {c : Nat → Int} (h : TbM w wr c) (n : Nat) : TbM w (wr.drewN n) c := ⟨h.r, h.t, ⟨h.b.os, h.b.tape, h.b.output, h.b.size, h.b.block⟩⟩
theorem TbM.put {w wr : World} {c : Nat → Int} (h : TbM w wr c) {i : Nat} (hi : i < 256) (v : Int) : TbM w (wr.setCell ⟨w.heap.size + 1, i, none⟩ (.int .i64 v)) (putV c i v) :=
  ⟨(Below.heap_setCell _ _ _ _ (by show w.heap.size ≠ w.heap.size + 1; omega)).trans h.r, by rw [← tcl_set c hi]; exact h.t.set i _, h.b.setCell (p := ⟨w.heap.size + 1, i, none⟩) (Nat.le_succ _) _⟩
/-- The law's graph in its block, so far. -/
structure LgM (w wr : World) (gb : Nat) (c : Nat → Int) (u v : Value) (N : List Int) (E : List Ed) : Prop where
  g : wr.heap[gb]? = some (.cells #[u, v] 25)
  n : wr.ownsRow (gb + 1) 3 1 u N.length (fl ic N)
  e : wr.ownsRow (gb + 1) 54 3 v E.length (fl ec E)
  d : ∀ j, u.ownBlock = some j → v.ownBlock ≠ some j
  r : wr.heap[w.heap.size]? = some nilG
  t : Arr wr (w.heap.size + 1) 3 (tcl c)
  b : Below w.heap.size w wr
  l : w.heap.size + 1 < gb
  s : gb < wr.heap.size
theorem tabN_len (n : Nat) : (tabN n).length = n := by simp [tabN]
theorem ownBlock_lt {W : World} {base k sz : Nat} {e : TypeId} {v : Value} {xs : List Value} (h : W.ownsRow base e sz v k xs) {j : Nat} (hj : v.ownBlock = some j) : j < W.heap.size := by
  rcases h.2 with ⟨rfl, _⟩ | ⟨g, cap, cur, rfl, _, hh, _⟩
  · simp [Value.ownBlock] at hj
  · simp [Value.ownBlock] at hj
    subst hj
    exact block_lt hh
theorem LgM.drew {w wr : World} {gb : Nat} {c : Nat → Int} {u v : Value} {N : List Int} {E : List Ed} (h : LgM w wr gb c u v N E) : LgM w wr.drew gb c u v N E :=
  ⟨h.g, row_fr h.n (Fr.refl (fun _ => False) wr).drew (fun _ _ h => h), row_fr h.e (Fr.refl (fun _ => False) wr).drew (fun _ _ h => h), h.d, h.r, h.t, h.b.drew, h.l, h.s⟩
theorem LgM.addN {w wr : World} {gb : Nat} {c : Nat → Int} {u v : Value} {N : List Int} {E : List Ed} (h : LgM w wr gb c u v N E) (x : Int) (hl : N.length ≤ 1000) :
    ∃ g cap w6, (Builtin.append_ #[22, 22] 22 #[u, .slice (some ⟨wr.heap.size, 0, none⟩) 1 1]).run Try.prog (wr.alloc (.cells (ic x).toArray 3)) = .ok (.slice (some ⟨g, 0, none⟩) (N.length + 1) cap) w6 ∧
      w6.cell? ⟨gb, 0, none⟩ = some u ∧ w6.frozen? ⟨gb, 0, none⟩ = false ∧ LgM w (w6.setCell ⟨gb, 0, none⟩ (.slice (some ⟨g, 0, none⟩) (N.length + 1) cap)) gb c (.slice (some ⟨g, 0, none⟩) (N.length + 1) cap) v (N ++ [x]) E := by
  obtain ⟨g, cap, w6, hrun, hown, hlie, hgrow, hb⟩ := append_int h.n x (by omega) (by have := h.s; omega)
  have hg6 : w6.heap[gb]? = some (.cells #[u, v] 25) := (hb.block _ (Nat.lt_succ_self _)).trans h.g
  have hv6 : w6.ownsRow (gb + 1) 54 3 v E.length (fl ec E) := h.e.kept hgrow (by
    cases hv : v.ownBlock with
    | none => exact .inl rfl
    | some j => exact .inr (fun e => h.d j e.symm hv))
  have hF := (Fr.refl (fun k => k = gb) w6).set (p := ⟨gb, 0, none⟩) rfl (.slice (some ⟨g, 0, none⟩) (N.length + 1) cap)
  have hl' := h.l
  refine ⟨g, cap, w6, hrun, cell_of_row _ _ 0 _ _ _ hg6, frozen_new hg6 0, ?_, ?_, ?_, ?_, ?_, ?_, ?_, h.l, ?_⟩
  · have := heap_setCell_same w6 gb 0 _ _ (.slice (some ⟨g, 0, none⟩) (N.length + 1) cap) hg6
    simpa using this
  · rw [List.length_append]
    exact row_fr hown hF (fun j hj e => by have := (hown.lt j hj).1; omega)
  · exact row_fr hv6 hF (fun j hj e => by have := (hv6.lt j hj).1; omega)
  · intro j hj
    simp [Value.ownBlock] at hj
    subst hj
    rcases hlie with h1 | h1
    · exact h.d g h1
    · intro h2
      have := ownBlock_lt h.e h2
      omega
  · exact (hF.block _ (by have := hb.size; have := h.s; omega) (by omega)).trans ((hb.block _ (by omega)).trans h.r)
  · exact (h.t.keep hb (by omega)).other (by show w.heap.size + 1 ≠ gb; omega) _
  · exact (h.b.trans (hb.mono (by omega))).setCell (p := ⟨gb, 0, none⟩) (by show w.heap.size ≤ gb; omega) _
  · have h1 := hb.size
    have h2 := hF.size
    have := h.s
    omega
theorem LgM.addE {w wr : World} {gb : Nat} {c : Nat → Int} {u v : Value} {N : List Int} {E : List Ed} (h : LgM w wr gb c u v N E) (x : Ed) (hl : E.length ≤ 1000) :
    ∃ g cap w6, (Builtin.append_ #[23, 23] 23 #[v, .slice (some ⟨wr.heap.size, 0, none⟩) 1 1]).run Try.prog (wr.alloc (.cells (ec x).toArray 54)) = .ok (.slice (some ⟨g, 0, none⟩) (E.length + 1) cap) w6 ∧
      w6.cell? ⟨gb, 1, none⟩ = some v ∧ w6.frozen? ⟨gb, 1, none⟩ = false ∧ Arr w6 (w.heap.size + 1) 3 (tcl c) ∧ LgM w (w6.setCell ⟨gb, 1, none⟩ (.slice (some ⟨g, 0, none⟩) (E.length + 1) cap)) gb c u (.slice (some ⟨g, 0, none⟩) (E.length + 1) cap) N (E ++ [x]) := by
  obtain ⟨g, cap, w6, hrun, hown, hlie, hgrow, hb⟩ := append_edge h.e x (by omega) (by have := h.s; omega)
  have hg6 : w6.heap[gb]? = some (.cells #[u, v] 25) := (hb.block _ (Nat.lt_succ_self _)).trans h.g
  have hv6 : w6.ownsRow (gb + 1) 3 1 u N.length (fl ic N) := h.n.kept hgrow (by
    cases hu : u.ownBlock with
    | none => exact .inl rfl
    | some j => exact .inr (fun e => h.d j hu e.symm))
  have hF := (Fr.refl (fun k => k = gb) w6).set (p := ⟨gb, 1, none⟩) rfl (.slice (some ⟨g, 0, none⟩) (E.length + 1) cap)
  have hl' := h.l
  refine ⟨g, cap, w6, hrun, cell_of_row _ _ 1 _ _ _ hg6, frozen_new hg6 1, h.t.keep hb (by omega), ?_, ?_, ?_, ?_, ?_, ?_, ?_, h.l, ?_⟩
  · have := heap_setCell_same w6 gb 1 _ _ (.slice (some ⟨g, 0, none⟩) (E.length + 1) cap) hg6
    simpa using this
  · exact row_fr hv6 hF (fun j hj e => by have := (hv6.lt j hj).1; omega)
  · rw [List.length_append]
    exact row_fr hown hF (fun j hj e => by have := (hown.lt j hj).1; omega)
  · intro j hj h2
    simp [Value.ownBlock] at h2
    subst h2
    rcases hlie with h1 | h1
    · exact h.d g hj h1
    · have := ownBlock_lt h.n hj
      omega
  · exact (hF.block _ (by have := hb.size; have := h.s; omega) (by omega)).trans ((hb.block _ (by omega)).trans h.r)
  · exact (h.t.keep hb (by omega)).other (by show w.heap.size + 1 ≠ gb; omega) _
  · exact (h.b.trans (hb.mono (by omega))).setCell (p := ⟨gb, 1, none⟩) (by show w.heap.size ≤ gb; omega) _
  · have h1 := hb.size
    have h2 := hF.size
    have := h.s
    omega
set_option maxRecDepth 100000 in
set_option maxHeartbeats 4000000 in
theorem lawOf_any {n : Nat} {L : List Ed} {v : Value} {w : World} (h : SlAt lc3 3 w v L) (hL : LkB L) (h0 : 0 < n) (hn : n ≤ 7) :
    Calls Try.prog 48 #[v, .int .i64 n] w fun e w' => (∃ a b, e = .returned (grV a b) ∧ GrOwn w.heap.size w' a b (tabN n) (tabE (tabT n (L.take 12)) n n)) ∧ Below w.heap.size w w' := by
  obtain ⟨la, lcap, rfl, hll, _, hlc⟩ := h.lks
  have Hlc := hidIn hlc
  have HL := hidIn hL
  clear hlc h hL
  have hmk := make_tab
  obtain ⟨W1, hW1⟩ : ∃ W1, (w.alloc nilG).alloc (.cells (tcl fun _ => 0).toArray 3) = W1 := ⟨_, rfl⟩
  have HM0 : Hid (TbM w W1 (tabT n [])) := hidIn (by
    rw [← hW1]
    refine ⟨?_, ?_, ((Below.refl _ w).alloc (Nat.le_refl _) _).alloc (by simp) _⟩
    · rw [Below.heap_alloc _ _ _ (by simp)]
      exact heap_alloc_last w _
    · have := heap_alloc_last (w.alloc nilG) (.cells (tcl fun _ => 0).toArray 3)
      rw [World.size_alloc] at this
      exact this)
  have HW := hidIn hW1
  have hn0 : (n : Int) ≠ 0 := by omega
  have hnb : ((n : Int) == 0) = false := by simpa using hn0
  have Hn := hidIn hn
  clear hW1
  go_enter Try.func48, Try.ntmps48
  go_upto_region 2 with fail
  rw [HW.out]
  clear HW hmk
  go_wp2_with fail
  go_loopw [6] (fun i wr => ∃ k : Nat, k ≤ 12 ∧ k ≤ L.length ∧ i = .int .i64 k ∧ Hid (TbM w wr (tabT n (L.take k)))) (fun i _ => 12 - (intOf i).toNat)
  case atStart => exact ⟨0, by omega, Nat.zero_le _, rfl, HM0⟩
  case round =>
    clear HM0
    obtain ⟨k, hk12, hk, rfl, HR⟩ := hrel
    by_cases hlt : k < L.length ∧ k < 12
    · obtain ⟨hlt, hlt12⟩ := hlt
      obtain ⟨bk, o, rfl, hbk, hcell⟩ := Hlc.out (by omega)
      obtain ⟨⟨x, y, z⟩, hx⟩ : ∃ z, L[k]? = some z := ⟨L[k], List.getElem?_eq_getElem hlt⟩
      obtain ⟨q0, q1, q2⟩ := hcell k _ hx
      have c0 := (HR.out.b.cell (p := ⟨bk, o + k * 3, none⟩) hbk).trans q0
      have c1 := (HR.out.b.cell (p := ⟨bk, o + k * 3 + 1, none⟩) hbk).trans q1
      have c2 := (HR.out.b.cell (p := ⟨bk, o + k * 3 + 2, none⟩) hbk).trans q2
      simp only at c0 c1 c2
      obtain ⟨⟨hx0, hx1⟩, ⟨hy0, hy1⟩, hz0, hz1⟩ := HL.out _ (List.mem_of_getElem? hx)
      simp only at hx0 hx1 hy0 hy1 hz0 hz1
      obtain ⟨X, rfl⟩ : ∃ X : Nat, x = (X : Int) := ⟨x.toNat, by omega⟩
      obtain ⟨Y, rfl⟩ : ∃ Y : Nat, y = (Y : Int) := ⟨y.toNat, by omega⟩
      obtain ⟨Z, rfl⟩ : ∃ Z : Nat, z = (Z : Int) := ⟨z.toNat, by omega⟩
      have HT : Hid (tabT n (L.take (k + 1)) = tabL n (tabT n (L.take k)) ((X : Int), (Y : Int), (Z : Int))) := hidIn (by rw [take_snoc hx, tabT_snoc])
      obtain ⟨C, hC⟩ : ∃ C, tabT n (L.take k) = C := ⟨_, rfl⟩
      rw [hC] at HR HT
      clear hC hx hcell q0 q1 q2
      obtain ⟨a, ha⟩ : ∃ a, X % n = a := ⟨_, rfl⟩
      obtain ⟨b, hb⟩ : ∃ b, Y % n = b := ⟨_, rfl⟩
      have han : a < n := by rw [← ha]; exact Nat.mod_lt _ h0
      have hbn : b < n := by rw [← hb]; exact Nat.mod_lt _ h0
      have mX : (X : Int).tmod (n : Int) = (a : Int) := by rw [← ha, Int.tmod_eq_emod_of_nonneg (by omega)]; rfl
      have mY : (Y : Int).tmod (n : Int) = (b : Int) := by rw [← hb, Int.tmod_eq_emod_of_nonneg (by omega)]; rfl
      have HT2 : Hid (tabT n (L.take (k + 1)) = if a ≠ b ∧ C (16 * a + b) = 0 then putV (putV C (16 * a + b) (1 + (Z : Int) % 5)) (16 * b + a) (1 + (Z : Int) % 5) else C) := hidIn (by rw [HT.out]; unfold tabL; simp only [Int.toNat_natCast]; rw [ha, hb])
      have hki : (k : Int) < (L.length : Int) := by omega
      have hki2 : (k : Int) < 12 := by omega
      have hxi1 : (X : Int) ≤ 255 := hx1
      have hyi1 : (Y : Int) ≤ 255 := hy1
      have Ha := hidIn ha
      have Hb := hidIn hb
      clear HT ha hb hx0 hy0 hz0 hx1 hy1
      go_upto_region 5 with fail
      go_quiet (fail)
      clear c0 c1 mX mY hxi1 hyi1
      generalize hV : World.drewN wr _ = V
      have hM : TbM w V C := by rw [← hV]; exact HR.out.drewN _
      have e2 : V.cell? ⟨bk, o + k * 3 + 2, none⟩ = some (.int .u8 (Z : Int)) := by rw [← hV]; exact c2
      have HM := hidIn hM
      have t0 := hM.t.cell (16 * a + b)
      rw [tcl_get _ (by have := Hn.out; omega)] at t0
      have tf0 := hM.t.frozen (16 * a + b)
      have tf1 := hM.t.frozen (16 * b + a)
      have hbw : bk ≠ w.heap.size + 1 := by omega
      have hai : (a : Int) < 7 := by have := Hn.out; omega
      have hbi : (b : Int) < 7 := by have := Hn.out; omega
      clear hV hM HR c2
      by_cases hab : a = b
      · have hd : ((a : Int) != (b : Int)) = false := by rw [hab]; simp
        have HE : Hid (tabT n (L.take (k + 1)) = C) := hidIn (by rw [HT2.out, if_neg (fun h => h.1 hab)])
        clear hab t0 tf0 tf1 e2
        go_wp2_with fail
        go_roundw
        case rel => exact ⟨k + 1, by omega, by omega, by go_num, hidIn (by rw [HE.out]; exact HM.out)⟩
        case measure => simp [intOf]; omega
      have hd : ((a : Int) != (b : Int)) = true := by simp; omega
      by_cases hc : C (16 * a + b) = 0
      · rw [hc] at t0
        have HE : Hid (tabT n (L.take (k + 1)) = putV (putV C (16 * a + b) (1 + (Z : Int) % 5)) (16 * b + a) (1 + (Z : Int) % 5)) := hidIn (by rw [HT2.out, if_pos ⟨hab, hc⟩])
        clear hc
        obtain ⟨z, hz⟩ : ∃ z, Z % 5 = z := ⟨_, rfl⟩
        have hz5 : z < 5 := by omega
        have mZ : (Z : Int).tmod 5 = (z : Int) := by rw [← hz, Int.tmod_eq_emod_of_nonneg (by omega)]; rfl
        have HZ : Hid (1 + (Z : Int) % 5 = 1 + (z : Int)) := hidIn (by rw [← hz]; rfl)
        rw [HZ.out] at HE
        clear hz hz1
        have h256 : 16 * a + b < 256 := by omega
        have h256' : 16 * b + a < 256 := by omega
        have hi256 : 16 * (a : Int) + (b : Int) < 256 := by omega
        have hi256' : 16 * (b : Int) + (a : Int) < 256 := by omega
        go_upto_region 7 with fail
        go_upto_region 8 with fail
        have hM2 := HM.out.put h256 (1 + (z : Int))
        generalize World.setCell _ _ _ = V2 at hM2 ⊢
        have HM2 := hidIn hM2
        have s0 := hM2.t.cell (16 * a + b)
        rw [tcl_get _ h256, putV_same] at s0
        have s1 := hM2.t.cell (16 * b + a)
        rw [tcl_get _ h256'] at s1
        have sf1 := hM2.t.frozen (16 * b + a)
        clear hM2 t0 tf0 tf1 e2 mZ HM
        go_wp2_with fail
        go_roundw
        case rel => exact ⟨k + 1, by omega, by omega, by go_num, hidIn (by rw [HE.out]; exact HM2.out.put h256' _)⟩
        case measure => simp [intOf]; omega
      · have hc0 : (C (16 * a + b) == 0) = false := by simpa using hc
        have HE : Hid (tabT n (L.take (k + 1)) = C) := hidIn (by rw [HT2.out, if_neg (fun h => hc h.2)])
        clear hc tf0 tf1 e2
        go_wp2_with fail
        go_roundw
        case rel => exact ⟨k + 1, by omega, by omega, by go_num, hidIn (by rw [HE.out]; exact HM.out)⟩
        case measure => simp [intOf]; omega
    · have hni : ¬ ((k : Int) < (L.length : Int) ∧ (k : Int) < 12) := by omega
      have HT : Hid (TbM w wr (tabT n (L.take 12))) := hidIn (by
        have := HR.out
        rw [show L.take k = L.take 12 from by
          by_cases h : k = 12
          · rw [h]
          · rw [List.take_of_length_le (by omega), List.take_of_length_le (by omega)]] at this
        exact this)
      clear HR
      obtain ⟨C, hC⟩ : ∃ C, tabT n (L.take 12) = C := ⟨_, rfl⟩
      rw [hC] at HT
      have HC12 := hidIn hC
      clear hC
      go_upto_region 3 with fail
      go_cut [20] (fun c wx => c = .bool false ∧ wx = wr)
      case first =>
        by_cases h1 : k < L.length
        · have h1i : (k : Int) < (L.length : Int) := by omega
          have h2i : ¬ (k : Int) < 12 := by omega
          clear hlt hni
          go_wp2_with fail
          go_meet
          exact ⟨rfl, rfl⟩
        · have h1i : ¬ (k : Int) < (L.length : Int) := by omega
          clear hlt hni
          go_wp2_with fail
          go_meet
          exact ⟨rfl, rfl⟩
      case rest =>
        obtain ⟨rfl, hwc⟩ := hcut
        rw [hwc]
        clear hwc wc hlt hni
        obtain ⟨W2, hW2⟩ : ∃ W2, wr.alloc nilG = W2 := ⟨_, rfl⟩
        obtain ⟨gb, hgb⟩ : ∃ gb, wr.heap.size = gb := ⟨_, rfl⟩
        have HM0 : Hid (LgM w W2 gb C (.slice none 0 0) (.slice none 0 0) (tabN 0) (tabE C n 0)) := hidIn (by
          have bA : Below wr.heap.size wr W2 := by rw [← hW2]; exact (Below.refl _ wr).alloc (Nat.le_refl _) _
          have hlt := HT.out.t.lt
          refine ⟨by rw [← hW2, ← hgb]; exact heap_alloc_last wr _, World.ownsRow_nil _ _ _ _, World.ownsRow_nil _ _ _ _, fun j hj => by simp [Value.ownBlock] at hj, (bA.block _ (by omega)).trans HT.out.r, HT.out.t.keep bA hlt, HT.out.b.trans (bA.mono HT.out.b.size), by omega, by rw [← hW2, ← hgb]; simp⟩)
        have HW2 := hidIn hW2
        have Hgb := hidIn hgb
        clear hW2 hgb HT
        go_upto_region 10 with fail
        rw [HW2.out, Hgb.out]
        clear HW2 Hgb
        go_wp2_with fail
        go_loopw [10] (fun i wz => ∃ a : Nat, a ≤ n ∧ i = .int .i64 a ∧ Hid (∃ u v, LgM w wz gb C u v (tabN a) (tabE C n a))) (fun i _ => n - (intOf i).toNat)
        case atStart => exact ⟨0, Nat.zero_le _, rfl, hidIn ⟨_, _, HM0.out⟩⟩
        case round =>
          clear HM0
          obtain ⟨a, ha, rfl, HR⟩ := hrel
          obtain ⟨u, v, hM⟩ := HR.out
          clear HR
          by_cases hlt : a < n
          · have hai : (a : Int) < (n : Int) := by omega
            obtain ⟨g, cap, w6, hrun, h1, h2, h3⟩ := hM.addN ((a : Int) + 1) (by rw [tabN_len]; omega)
            have d0 := cell_of_row _ _ 0 _ _ _ hM.g
            simp at d0
            have HRun := hidIn hrun
            have H3 : Hid (LgM w _ gb C _ v (tabN (a + 1)) (tabE C n a)) := hidIn (by rw [tabN_succ]; exact h3)
            clear hrun h3 hM
            go_wp2_with (refine l_append rfl _ _ 22 rfl HRun.out ?_)
            generalize World.setCell _ _ _ = W4 at H3 ⊢
            clear d0 h1 h2 HRun
            have htl : (tabE C n a).length ≤ 49 := Nat.le_trans (tabE_len C n a) (Nat.le_trans (Nat.mul_le_mul (show a ≤ 7 by omega) hn) (by omega))
            go_loopw [11] (fun i wz => ∃ b : Nat, b ≤ n ∧ i = .int .i64 b ∧ Hid (∃ v', LgM w wz gb C (.slice (some ⟨g, 0, none⟩) ((tabN a).length + 1) cap) v' (tabN (a + 1)) (tabE C n a ++ rwE C a b))) (fun i _ => n - (intOf i).toNat)
            case atStart => exact ⟨0, Nat.zero_le _, rfl, hidIn ⟨v, by simpa [rwE] using H3.out⟩⟩
            case round =>
              clear H3
              obtain ⟨b, hb, rfl, HR⟩ := hrel
              obtain ⟨v', hM⟩ := HR.out
              clear HR
              by_cases hlt2 : b < n
              · have hbi : (b : Int) < (n : Int) := by omega
                have hai7 : (a : Int) < 7 := by omega
                have hbi7 : (b : Int) < 7 := by omega
                have h256 : 16 * a + b < 256 := by omega
                have hi256 : 16 * (a : Int) + (b : Int) < 256 := by omega
                have t0 := hM.t.cell (16 * a + b)
                rw [tcl_get _ h256] at t0
                have hrl := rwE_len C a b
                have HRS := hidIn (rwE_succ C a b)
                have HM := hidIn hM
                have hgs := hM.s
                have hts := hM.t.lt
                have d1 := cell_of_row _ _ 1 _ _ _ hM.g
                simp at d1
                clear hM
                obtain ⟨cv, hcv⟩ : ∃ cv, C (16 * a + b) = cv := ⟨_, rfl⟩
                rw [hcv] at t0 HRS
                clear hcv
                by_cases hc : 0 < cv
                · rw [if_pos hc] at HRS
                  obtain ⟨EE, hEE⟩ : ∃ EE, tabE C n a ++ rwE C a b = EE := ⟨_, rfl⟩
                  have hEl : EE.length ≤ 1000 := by rw [← hEE, List.length_append]; omega
                  have HEE : Hid (tabE C n a ++ rwE C a (b + 1) = EE ++ [((a : Int) + 1, (b : Int) + 1, cv)]) := hidIn (by rw [HRS.out, ← List.append_assoc, hEE])
                  rw [hEE] at HM
                  clear hEE HRS hrl
                  obtain ⟨g2, cap2, w7, hrun, k1, k2, kt, h3⟩ := HM.out.drew.addE ((a : Int) + 1, (b : Int) + 1, cv) hEl
                  have HRun := hidIn hrun
                  have H3 := hidIn h3
                  have HK := hidIn kt
                  clear hrun h3 kt
                  go_upto_region 18 with fail
                  have hw1 : IntKind.i64.wrap (16 * (a : Int)) = 16 * (a : Int) := by rw [IntKind.wrap_i64]; omega
                  have hw2 : IntKind.i64.wrap (16 * (a : Int) + (b : Int)) = 16 * (a : Int) + (b : Int) := by rw [IntKind.wrap_i64]; omega
                  have hw3 : IntKind.i64.wrap ((a : Int) + 1) = (a : Int) + 1 := by rw [IntKind.wrap_i64]; omega
                  have hw4 : IntKind.i64.wrap ((b : Int) + 1) = (b : Int) + 1 := by rw [IntKind.wrap_i64]; omega
                  have hw5 : (16 * (a : Int) + (b : Int)).toNat = 16 * a + b := by omega
                  have hw6 : 0 ≤ 16 * (a : Int) + (b : Int) := by omega
                  go_region_law ((refine step_append rfl (.tmp 105) (.tmp 118) 23 rfl (by kernel_rfl) (by kernel_rfl) HRun.out ?_))
                  all_goals
                    go_wp2_with fail
                    go_roundw
                    case rel => exact ⟨b + 1, by omega, by go_num, hidIn ⟨_, by rw [HEE.out]; exact H3.out⟩⟩
                    case measure => simp [intOf]; omega
                · rw [if_neg hc, List.append_nil] at HRS
                  clear d1
                  go_wp2_with fail
                  go_roundw
                  case rel => exact ⟨b + 1, by omega, by go_num, hidIn ⟨v', by rw [HRS.out]; exact HM.out⟩⟩
                  case measure => simp [intOf]; omega
              · have hbi : ¬ (b : Int) < (n : Int) := by omega
                have hbn : b = n := by omega
                have HM : Hid (LgM w wr gb C (.slice (some ⟨g, 0, none⟩) ((tabN a).length + 1) cap) v' (tabN (a + 1)) (tabE C n (a + 1))) := hidIn (by rw [tabE_succ]; rw [hbn] at hM; exact hM)
                clear hM hbn
                go_wp2_with fail
                go_roundw
                case rel => exact ⟨a + 1, by omega, by go_num, hidIn ⟨_, v', HM.out⟩⟩
                case measure => simp [intOf]; omega
          · have hai : ¬ (a : Int) < (n : Int) := by omega
            have han : a = n := by omega
            rw [han] at hM
            clear han
            obtain ⟨ua, ucap, rfl⟩ := row_shape hM.n
            obtain ⟨va, vcap, rfl⟩ := row_shape hM.e
            have d0 := cell_of_row _ _ 0 _ _ _ hM.g
            have d1 := cell_of_row _ _ 1 _ _ _ hM.g
            have r0 := cell_of_row _ _ 0 _ _ _ hM.r
            have r1 := cell_of_row _ _ 1 _ _ _ hM.r
            simp at d0 d1 r0 r1
            have f0 := frozen_new hM.r 0
            have f1 := frozen_new hM.r 1
            have HM := hidIn hM
            have hlg := hM.l
            clear hM
            obtain ⟨NN, hNN⟩ : ∃ NN, tabN n = NN := ⟨_, rfl⟩
            obtain ⟨EE, hEE⟩ : ∃ EE, tabE C n n = EE := ⟨_, rfl⟩
            rw [hNN, hEE] at HM
            rw [hNN] at d0
            rw [hEE] at d1
            have HNN := hidIn hNN
            have HEE := hidIn hEE
            clear hNN hEE
            go_wp2_with fail
            have e0 : ((wr.setCell ⟨w.heap.size, 0, none⟩ (.slice ua NN.length ucap)).setCell ⟨w.heap.size, 1, none⟩ (.slice va EE.length vcap)).cell? ⟨w.heap.size, 0, none⟩ = some (.slice ua NN.length ucap) := by simp [go_sem, r0]
            have e1 : ((wr.setCell ⟨w.heap.size, 0, none⟩ (.slice ua NN.length ucap)).setCell ⟨w.heap.size, 1, none⟩ (.slice va EE.length vcap)).cell? ⟨w.heap.size, 1, none⟩ = some (.slice va EE.length vcap) := by simp [go_sem, r1]
            have HF : Hid (Fr (fun k => k = w.heap.size) wr ((wr.setCell ⟨w.heap.size, 0, none⟩ (.slice ua NN.length ucap)).setCell ⟨w.heap.size, 1, none⟩ (.slice va EE.length vcap))) := hidIn (((Fr.refl (fun k => k = w.heap.size) wr).set (p := ⟨w.heap.size, 0, none⟩) rfl _).set (p := ⟨w.heap.size, 1, none⟩) rfl _)
            generalize (wr.setCell ⟨w.heap.size, 0, none⟩ (.slice ua NN.length ucap)).setCell ⟨w.heap.size, 1, none⟩ (.slice va EE.length vcap) = V at *
            refine bodyPost_ret (v := grV (.slice ua NN.length ucap) (.slice va EE.length vcap)) (by simp [results, Try.results48, asAddr, Result.andThen, go_sem, e0, e1]) rfl ⟨⟨_, _, rfl, ?_, ?_⟩, ?_⟩
            · rw [HNN.out]
              exact row_low (row_fr HM.out.n HF.out (fun j hj e => by have := (HM.out.n.lt j hj).1; omega)) (by omega)
            · rw [HC12.out, HEE.out]
              exact row_low (row_fr HM.out.e HF.out (fun j hj e => by have := (HM.out.e.lt j hj).1; omega)) (by omega)
            · exact HM.out.b.trans (HF.out.below HM.out.b.size (fun k hk => by omega))
end Go.Proofs.Ytabnecicidkmhaa
namespace Go.Proofs.Ytabnecicidkmhaa
open Go.RowKit

/-- Lists that rise and have the same numbers are one. -/
theorem rise_ext : ∀ {l m : List Int}, l.Pairwise (fun a b => a < b) → m.Pairwise (fun a b => a < b) → (∀ x, x ∈ l ↔ x ∈ m) → l = m
  | [], [], _, _, _ => rfl
  | [], b :: m, _, _, h => absurd ((h b).2 (by simp)) (by simp)
  | a :: l, [], _, _, h => absurd ((h a).1 (by simp)) (by simp)
  | a :: l, b :: m, hl, hm, h => by
    rw [List.pairwise_cons] at hl hm
    have h1 : a = b := by
      rcases List.mem_cons.1 ((h a).1 (by simp)) with h2 | h2
      · exact h2
      · rcases List.mem_cons.1 ((h b).2 (by simp)) with h3 | h3
        · exact h3.symm
        · have := hl.1 b h3; have := hm.1 a h2; omega
    subst h1
    rw [rise_ext hl.2 hm.2 (fun x => ?_)]
    constructor
    · intro hx
      rcases List.mem_cons.1 ((h x).1 (by simp [hx])) with h2 | h2
      · have := hl.1 x hx; omega
      · exact h2
    · intro hx
      rcases List.mem_cons.1 ((h x).2 (by simp [hx])) with h2 | h2
      · have := hm.1 x hx; omega
      · exact h2
/-- The example's links and edges. -/
def exL : List Ed := [(0, 1, 0), (0, 2, 0), (1, 3, 0), (2, 3, 0), (0, 3, 1)]
def exE : List Ed := [(1, 2, 1), (1, 3, 1), (1, 4, 2), (2, 1, 1), (2, 4, 1), (3, 1, 1), (3, 4, 1), (4, 1, 2), (4, 2, 1), (4, 3, 1)]
theorem ex_tab : tabE (tabT 4 exL) 4 4 = exE := by decide
theorem ex_ok : graphOk (tabN 4) exE = true := by decide
def exF (x : Int) : Int := if x = 1 then 0 else if x = 4 then 2 else 1
theorem ex_low {x c : Int} {h : Nat} (k : Wy exE 1 x c h) : exF x ≤ c :=
  k (fun x c _ => exF x ≤ c) (by decide) (fun e he c h hs => by
    simp only [exE, List.mem_cons, List.not_mem_nil, or_false] at he
    rcases he with rfl | rfl | rfl | rfl | rfl | rfl | rfl | rfl | rfl | rfl <;> simp [exF] at hs ⊢ <;> omega)
theorem ex_w2 : Wy exE 1 2 1 1 := Wy.one (e := (1, 2, 1)) (by decide)
theorem ex_w3 : Wy exE 1 3 1 1 := Wy.one (e := (1, 3, 1)) (by decide)
theorem ex_w4 : Wy exE 1 4 2 1 := Wy.one (e := (1, 4, 2)) (by decide)
theorem ex_w4' : Wy exE 1 4 2 2 := ex_w2.step (e := (2, 4, 1)) (by decide)
theorem ex_ds : Ds exE 1 1 0 ∧ Ds exE 1 2 1 ∧ Ds exE 1 3 1 ∧ Ds exE 1 4 2 :=
  ⟨⟨⟨_, Wy.refl _ _⟩, fun _ _ h => ex_low h⟩, ⟨⟨_, ex_w2⟩, fun _ _ h => ex_low h⟩, ⟨⟨_, ex_w3⟩, fun _ _ h => ex_low h⟩, ⟨⟨_, ex_w4⟩, fun _ _ h => ex_low h⟩⟩
theorem ex_from {l : List Rr} (h : IsFrom (tabN 4) exE 1 l) : ∃ a b c d, l = [a, b, c, d] ∧ d.cost = 2 ∧ d.least = 1 ∧ d.most = 2 ∧ d.next = [2, 3, 4] := by
  have hm : l.map (·.node) = [1, 2, 3, 4] := by
    refine rise_ext (List.pairwise_map.2 h.rise) (by decide) (fun x => ?_)
    constructor
    · intro hx
      obtain ⟨p, hp, rfl⟩ := List.mem_map.1 hx
      have h1 := tabN_mem.1 (h.right p hp).1
      have h2 : p.node = 1 ∨ p.node = 2 ∨ p.node = 3 ∨ p.node = 4 := by omega
      rcases h2 with h2 | h2 | h2 | h2 <;> rw [h2] <;> decide
    · intro hx
      have key : ∀ d, x ∈ tabN 4 → Ds exE 1 x d → x ∈ l.map (·.node) := fun d h1 h2 => by
        obtain ⟨p, hp, rfl⟩ := h.all x d h1 h2
        exact List.mem_map.2 ⟨p, hp, rfl⟩
      simp only [List.mem_cons, List.not_mem_nil, or_false] at hx
      rcases hx with rfl | rfl | rfl | rfl
      · exact key _ (by decide) ex_ds.1
      · exact key _ (by decide) ex_ds.2.1
      · exact key _ (by decide) ex_ds.2.2.1
      · exact key _ (by decide) ex_ds.2.2.2
  have hlen : l.length = 4 := by have := congrArg List.length hm; simpa using this
  obtain ⟨a, b, c, d, rfl⟩ : ∃ a b c d, l = [a, b, c, d] := by
    match l, hlen with
    | [a, b, c, d], _ => exact ⟨a, b, c, d, rfl⟩
  · simp only [List.map_cons, List.map_nil, List.cons.injEq, and_true] at hm
    obtain ⟨_, _, _, h4⟩ := hm
    obtain ⟨_, e, he, hR⟩ := h.right d (by simp)
    rw [h4] at he hR
    have h5 := he.uniq ex_ds.2.2.2
    subst h5
    have l1 := (hR.hops _ ex_w4).1
    have m1 := (hR.hops _ ex_w4').2
    have l0 := hR.l0
    have m0 := hR.m0
    have l2 : d.least.toNat ≠ 0 := fun e => by have := (hR.lw.zero e).1; omega
    have m2 := (hR.mw.pos (graphOk_pos ex_ok)).1
    refine ⟨a, b, c, d, rfl, hR.cost, by omega, by omega, rise_ext hR.np (by decide) (fun y => ?_)⟩
    rw [hR.nx (by omega) y]
    constructor
    · rintro ⟨e, he, h6, h7, _⟩
      simp only [exE, List.mem_cons, List.not_mem_nil, or_false] at he
      rcases he with rfl | rfl | rfl | rfl | rfl | rfl | rfl | rfl | rfl | rfl <;> simp at h6 h7 <;> subst h7 <;> simp
    · intro hy
      simp only [List.mem_cons, List.not_mem_nil, or_false] at hy
      rcases hy with rfl | rfl | rfl
      · exact ⟨(1, 2, 1), by decide, rfl, rfl, 1, Wy.one (e := (2, 4, 1)) (by decide)⟩
      · exact ⟨(1, 3, 1), by decide, rfl, rfl, 1, Wy.one (e := (3, 4, 1)) (by decide)⟩
      · exact ⟨(1, 4, 2), by decide, rfl, rfl, 0, Wy.refl _ _⟩
end Go.Proofs.Ytabnecicidkmhaa
namespace Go.Proofs.Ytabnecicidkmhaa
open Go.RowKit

theorem ex_at {y : Int} (h : y = 1 ∨ y = 2 ∨ y = 3 ∨ y = 4) : Ds exE 1 y (exF y) := by
  rcases h with rfl | rfl | rfl | rfl
  · exact ex_ds.1
  · exact ex_ds.2.1
  · exact ex_ds.2.2.1
  · exact ex_ds.2.2.2
def exI (x : Int) (e : Ed) : Bool := decide (e.2.1 = x) && decide (exF e.1 + e.2.2 = exF x)
theorem ex_into {x : Int} (hx : x = 1 ∨ x = 2 ∨ x = 3 ∨ x = 4) (e : Ed) (he : e ∈ exE) : exI x e = true ↔ Into exE 1 x e := by
  have h1 : e.1 = 1 ∨ e.1 = 2 ∨ e.1 = 3 ∨ e.1 = 4 := by
    have := ((graphOk_bd ex_ok).2.1 e he).1
    have := tabN_mem.1 this
    omega
  simp only [exI, Bool.and_eq_true, decide_eq_true_eq]
  constructor
  · rintro ⟨h2, h3⟩
    exact ⟨he, h2, _, ex_at h1, by rw [h3]; exact ex_at hx⟩
  · rintro ⟨_, h2, d, h3, h4⟩
    have h5 := h3.uniq (ex_at h1)
    have h6 := h4.uniq (ex_at hx)
    exact ⟨h2, by omega⟩
theorem ex_count {P : List (Int × Int)} (h : IsNear exE 1 P) (hn : NdOk P) : cntT 1 (told exE P P) 4 = 3 := by
  have hc := fun x hx hx4 => cnt_all ex_ok (r := 1) (by decide) h hn x hx (exI x) (ex_into hx4)
  have c1 := hc 1 (by decide) (by decide)
  have c2 := hc 2 (by decide) (by decide)
  have c3 := hc 3 (by decide) (by decide)
  have c4 := hc 4 (by decide) (by decide)
  rw [show exE.filter (exI 1) = [] from by decide] at c1
  rw [show exE.filter (exI 2) = [(1, 2, 1)] from by decide] at c2
  rw [show exE.filter (exI 3) = [(1, 3, 1)] from by decide] at c3
  rw [show exE.filter (exI 4) = [(1, 4, 2), (2, 4, 1), (3, 4, 1)] from by decide] at c4
  simp at c1 c2 c3 c4
  generalize cntT 1 (told exE P P) = N at *
  omega
end Go.Proofs.Ytabnecicidkmhaa
namespace Go.Proofs.Ytabnecicidkmhaa
open Go.RowKit

theorem exL_b : LkB exL := by unfold LkB exL; decide
abbrev exO : Obj := .cells #[.int .u8 0, .int .u8 1, .int .u8 0, .int .u8 0, .int .u8 2, .int .u8 0, .int .u8 1, .int .u8 3, .int .u8 0, .int .u8 2, .int .u8 3, .int .u8 0, .int .u8 0, .int .u8 3, .int .u8 1] 89
set_option maxRecDepth 100000 in
set_option maxHeartbeats 1000000 in
theorem example_any (w : World) :
    Calls Try.prog 31 #[] w fun e w' => (∃ a b, e = .returned (grV a b) ∧ GrOwn w.heap.size w' a b (tabN 4) exE) ∧ Below w.heap.size w w' := by
  obtain ⟨W1, hW1⟩ : ∃ W1, w.alloc nilG = W1 := ⟨_, rfl⟩
  obtain ⟨W2, hW2⟩ : ∃ W2, W1.alloc exO = W2 := ⟨_, rfl⟩
  have b1 : Below w.heap.size w W1 := by rw [← hW1]; exact (Below.refl _ w).alloc (Nat.le_refl _) _
  have hX1 : W1.heap[w.heap.size]? = some nilG := by rw [← hW1]; exact heap_alloc_last w _
  have b2 : Below W1.heap.size W1 W2 := by rw [← hW2]; exact (Below.refl _ W1).alloc (Nat.le_refl _) _
  have hX2 := (b2.block _ (block_lt hX1)).trans hX1
  have hS : SlAt lc3 3 W2 (.slice (some ⟨W1.heap.size, 0, none⟩) 5 5) exL := by
    rw [← hW2]
    exact slAt_block (cs := lc3) (sz := 3) (l := exL) (fun _ => rfl) (T := 89) (heap_alloc_last W1 exO) (by decide)
  have HC := hidIn (lawOf_any (n := 4) hS exL_b (by omega) (by omega))
  have HB := hidIn (b1.trans (b2.mono b1.size))
  have HX := hidIn hX2
  have HW1 := hidIn hW1
  have HW2 := hidIn hW2
  clear hW1 hW2 b1 b2 hX1 hX2 hS
  go_enter Try.func31, Try.ntmps31
  go_upto_region 1 with fail
  rw [HW1.out]
  clear HW1
  go_wp2_with fail
  rw [HW2.out]
  clear HW2
  refine HC.out.mono ?_
  rintro e w3 ⟨⟨a, b, rfl, hG⟩, hb3⟩
  have hX3 := (hb3.block _ (block_lt HX.out)).trans HX.out
  have HB3 := hidIn (HB.out.trans (hb3.mono HB.out.size))
  have r0 := cell_of_row _ _ 0 _ _ _ hX3
  have r1 := cell_of_row _ _ 1 _ _ _ hX3
  simp at r0 r1
  have f0 := frozen_new hX3 0
  have f1 := frozen_new hX3 1
  have HX3 := hidIn hX3
  have HG := hidIn hG
  have hlt2 : w.heap.size < W2.heap.size := block_lt HX.out
  have Hb3 := hidIn hb3
  obtain ⟨ua, ucap, rfl⟩ := row_shape hG.n
  obtain ⟨va, vcap, rfl⟩ := row_shape hG.e
  clear HC hb3 hG hX3 HX HB Hb3
  obtain ⟨NN, hNN⟩ : ∃ NN, (tabN 4).length = NN := ⟨_, rfl⟩
  obtain ⟨EE, hEE⟩ : ∃ EE, (tabE (tabT 4 (exL.take 12)) 4 4).length = EE := ⟨_, rfl⟩
  rw [hNN, hEE] at HG ⊢
  clear hNN hEE
  go_wp2_with fail
  have e0 : ((w3.setCell ⟨w.heap.size, 0, none⟩ (.slice ua NN ucap)).setCell ⟨w.heap.size, 1, none⟩ (.slice va EE vcap)).cell? ⟨w.heap.size, 0, none⟩ = some (.slice ua NN ucap) := by simp [go_sem, r0]
  have e1 : ((w3.setCell ⟨w.heap.size, 0, none⟩ (.slice ua NN ucap)).setCell ⟨w.heap.size, 1, none⟩ (.slice va EE vcap)).cell? ⟨w.heap.size, 1, none⟩ = some (.slice va EE vcap) := by simp [go_sem, r1]
  have HF : Hid (Fr (fun k => k = w.heap.size) w3 ((w3.setCell ⟨w.heap.size, 0, none⟩ (.slice ua NN ucap)).setCell ⟨w.heap.size, 1, none⟩ (.slice va EE vcap))) := hidIn (((Fr.refl (fun k => k = w.heap.size) w3).set (p := ⟨w.heap.size, 0, none⟩) rfl _).set (p := ⟨w.heap.size, 1, none⟩) rfl _)
  generalize (w3.setCell ⟨w.heap.size, 0, none⟩ (.slice ua NN ucap)).setCell ⟨w.heap.size, 1, none⟩ (.slice va EE vcap) = V at *
  refine bodyPost_ret (v := grV (.slice ua NN ucap) (.slice va EE vcap)) (by simp [results, Try.results31, asAddr, Result.andThen, go_sem, e0, e1]) rfl ⟨⟨_, _, rfl, ?_⟩, ?_⟩
  · have h := (HG.out.fr HF.out (fun k hk => by omega)).low (Nat.le_of_lt hlt2)
    rw [show exL.take 12 = exL from rfl, ex_tab] at h
    exact h
  · exact HB3.out.trans (HF.out.below HB3.out.size (fun k hk => by omega))
/-- What a node costs by a list. -/
def csL (l : List Rr) (t : Int) : Int := match l.find? (fun r => decide (r.node = t)) with | some r => r.cost | none => -1
theorem find_at {l : List (Rr × Value)} {k : Nat} {x : Rr × Value} {t : Int} (hx : l[k]? = some x) (ht : x.1.node = t) (hb : ∀ y ∈ l.take k, y.1.node ≠ t) : (l.map (·.1)).find? (fun r => decide (r.node = t)) = some x.1 := by
  have hl : l = l.take k ++ x :: l.drop (k + 1) := by
    have h1 := List.take_append_drop k l
    rw [List.drop_eq_getElem_cons (List.getElem?_eq_some_iff.1 hx).1] at h1
    rw [(List.getElem?_eq_some_iff.1 hx).2] at h1
    exact h1.symm
  rw [hl, List.map_append, List.find?_append]
  have h1 : ((l.take k).map (·.1)).find? (fun r => decide (r.node = t)) = none := by
    rw [List.find?_eq_none]
    intro r hr
    obtain ⟨y, hy, rfl⟩ := List.mem_map.1 hr
    simpa using hb y hy
  rw [h1]
  simp [ht]
set_option maxRecDepth 100000 in
set_option maxHeartbeats 1000000 in
theorem works_any (w : World) : Calls Try.prog 13 #[] w fun e w' => e = .returned (.bool true) ∧ Below w.heap.size w w' := by
  go_enter Try.func13, Try.ntmps13
  go_wp2_with fail
  refine (example_any _).mono ?_
  rintro e w2 ⟨⟨a, b, rfl, hG⟩, hb2⟩
  have HF := hidIn (from_right hG.at 1)
  have HB2 := hidIn hb2
  obtain ⟨ua, ucap, rfl⟩ := row_shape hG.n
  obtain ⟨va, vcap, rfl⟩ := row_shape hG.e
  clear hG hb2
  go_wp2_with fail
  refine HF.out.mono ?_
  rintro e w3 ⟨h3, hb3⟩
  have HB3 := hidIn (HB2.out.trans (hb3.mono HB2.out.size))
  clear HF hb3 HB2
  rcases h3 with ⟨h3, _⟩ | ⟨_, l, u, mid, rfl, hmid, hrow, hat, his, hl25, hown⟩
  · exact absurd h3 (by decide)
  obtain ⟨p0, p1, p2, p3, hl, hc, hle, hmo, hnx⟩ := ex_from his
  obtain ⟨q0, q1, q2, q3, rfl⟩ : ∃ q0 q1 q2 q3, l = [q0, q1, q2, q3] := by
    match l, hl with
    | [q0, q1, q2, q3], _ => exact ⟨q0, q1, q2, q3, rfl⟩
  simp at hl
  obtain ⟨h0, h1, h2, h3⟩ := hl
  rw [← h3] at hc hle hmo hnx
  obtain ⟨hs, hnl, _⟩ := hat.n q3 (by simp)
  obtain ⟨na, ncap, hqv⟩ := hs.shape
  obtain ⟨aa, cap, rfl, _, _, hcell⟩ := hat.s.rchs
  obtain ⟨bk, o, rfl, hbk, hcell⟩ := hcell (by simp)
  obtain ⟨_, c1, c2, c3, c4⟩ := hcell 3 q3 rfl
  rw [hc] at c1
  rw [hle] at c2
  rw [hmo] at c3
  rw [hqv, hnx] at c4
  have HC : Hid (∀ wq, Below w3.heap.size w3 wq → wq.cell? ⟨bk, o + 3 * 5 + 1, none⟩ = some (.int .i64 2) ∧ wq.cell? ⟨bk, o + 3 * 5 + 2, none⟩ = some (.int .i64 1) ∧ wq.cell? ⟨bk, o + 3 * 5 + 3, none⟩ = some (.int .i64 2) ∧ wq.cell? ⟨bk, o + 3 * 5 + 4, none⟩ = some (.slice na 3 ncap)) := hidIn fun wq hq => ⟨(hq.cell (p := ⟨bk, o + 3 * 5 + 1, none⟩) hbk).trans c1, (hq.cell (p := ⟨bk, o + 3 * 5 + 2, none⟩) hbk).trans c2, (hq.cell (p := ⟨bk, o + 3 * 5 + 3, none⟩) hbk).trans c3, (hq.cell (p := ⟨bk, o + 3 * 5 + 4, none⟩) hbk).trans c4⟩
  clear hs hnl hqv hcell c1 c2 c3 c4 hc hle hmo hnx h0 h1 h2 h3 hat hrow his hown hmid hbk
  simp only [List.length_cons, List.length_nil, Nat.zero_add, Nat.reduceAdd]
  go_wp2_with fail
  refine (example_any _).mono ?_
  rintro e w4 ⟨⟨a, b, rfl, hG⟩, hb4⟩
  have HF := hidIn (count_any hG.at 1 4)
  have HB4 := hidIn (HB3.out.trans (hb4.mono HB3.out.size))
  have Hb4 := hidIn hb4
  obtain ⟨ua2, ucap2, rfl⟩ := row_shape hG.n
  obtain ⟨va2, vcap2, rfl⟩ := row_shape hG.e
  clear hG hb4
  go_wp2_with fail
  refine HF.out.mono ?_
  rintro e w5 ⟨h5, hb5⟩
  have HB5 := hidIn (HB4.out.trans (hb5.mono HB4.out.size))
  obtain ⟨c1, c2, c3, c4⟩ := HC.out w5 (Hb4.out.trans (hb5.mono Hb4.out.size))
  clear HF hb5 HB4 Hb4 HC
  rcases h5 with ⟨h5, _⟩ | ⟨_, P, hP, hN, rfl⟩
  · exact absurd h5 (by decide)
  rw [show ((4 : Int)).toNat = 4 from rfl, ex_count hP hN]
  clear hP hN
  simp at c1 c2 c3 c4
  go_wp2_with fail
  go_ret
  exact ⟨rfl, HB5.out⟩
end Go.Proofs.Ytabnecicidkmhaa
namespace Go.Proofs.Ytabnecicidkmhaa
open Go.RowKit

/-- What is told of a graph's nodes, with the error. -/
def FrAns (ns : List Int) (es : List Ed) (r E : Int) (L : List Rr) : Prop := (ndAll ns es [r] = false ∧ E = 2 ∧ L = []) ∨ (ndAll ns es [r] = true ∧ E = 0 ∧ IsFrom ns es r L)
theorem FrAns.uniq {ns : List Int} {es : List Ed} {r E E' : Int} {L L' : List Rr} (h : FrAns ns es r E L) (k : FrAns ns es r E' L') : E = E' ∧ L = L' := by
  rcases h with ⟨h1, h2, h3⟩ | ⟨h1, h2, h3⟩ <;> rcases k with ⟨k1, k2, k3⟩ | ⟨k1, k2, k3⟩
  · exact ⟨by rw [h2, k2], by rw [h3, k3]⟩
  · rw [h1] at k1; cases k1
  · rw [h1] at k1; cases k1
  · exact ⟨by rw [h2, k2], h3.uniq k3⟩
/-- What the program's From answers. -/
structure PFr (lo : Nat) (w' : World) (ns : List Int) (es : List Ed) (r E : Int) (u : Value) (l : List (Rr × Value)) : Prop where
  row : ∃ B, w'.ownsRow B 34 5 u l.length (fl rwc l)
  at' : RlAt w' u l
  len : l.length ≤ 25
  own : ∀ p ∈ l, ∀ a n c, p.2 = .slice (some a) n c → lo ≤ a.block ∧ ∃ cur, w'.heap[a.block]? = some (.cells cur 3)
  ans : FrAns ns es r E (l.map (·.1))
theorem pfrom_any {ns : List Int} {es : List Ed} {vn ve : Value} {w : World} (h : GrAt w vn ve ns es) (r : Int) :
    Calls Try.prog 6 #[grV vn ve, .int .i64 r] w fun e w' => (∃ l u E, e = .returned (.tuple #[u, .int .i64 E]) ∧ PFr w.heap.size w' ns es r E u l) ∧ Below w.heap.size w w' := by
  refine (from_right h r).mono fun e w' ⟨h1, hb⟩ => ⟨?_, hb⟩
  rcases h1 with ⟨h1, h2⟩ | ⟨h1, l, u, mid, h2, _, h4, h5, h6, h7, _, h9⟩
  · exact ⟨[], _, 2, h2, ⟨0, World.ownsRow_nil _ _ _ _⟩, ⟨slAt_nil _ _ _, fun p hp => by simp at hp⟩, by simp, fun p hp => by simp at hp, .inl ⟨h1, rfl, rfl⟩⟩
  · exact ⟨l, u, 0, h2, ⟨mid, h4⟩, h5, h7, h9, .inr ⟨h1, rfl, h6⟩⟩
/-- What the document's From answers. -/
structure DFr (lo : Nat) (w' : World) (ns : List Int) (es : List Ed) (r E : Int) (u : Value) (l : List (Rr × Value)) : Prop where
  row : w'.ownsRow lo 34 5 u l.length (fl rwc l)
  nx : ∀ p ∈ l, NxI lo w' p.2 p.1.next ∧ KOk p.1
  ans : FrAns ns es r E (l.map (·.1))
theorem dfrom_both {ns : List Int} {es : List Ed} {vn ve : Value} {w : World} (h : GrAt w vn ve ns es) (r : Int) :
    Calls Try.prog 7 #[grV vn ve, .int .i64 r] w fun e w' => (∃ l u E, e = .returned (.tuple #[u, .int .i64 E]) ∧ DFr w.heap.size w' ns es r E u l) ∧ Below w.heap.size w w' := by
  refine (dfrom_any h r).mono fun e w' ⟨h1, hb⟩ => ⟨?_, hb⟩
  rcases h1 with ⟨h1, h2⟩ | ⟨h1, u, h2, l, h3, h4, h5⟩
  · exact ⟨[], _, 2, h2, World.ownsRow_nil _ _ _ _, fun p hp => by simp at hp, .inl ⟨h1, rfl, rfl⟩⟩
  · exact ⟨l, u, 0, h2, h3, h4, .inr ⟨h1, rfl, h5⟩⟩
theorem DFr.keep {lo : Nat} {w' w2 : World} {ns : List Int} {es : List Ed} {r E : Int} {u : Value} {l : List (Rr × Value)} (h : DFr lo w' ns es r E u l) (hb : Below w'.heap.size w' w2) : DFr lo w2 ns es r E u l :=
  ⟨row_below h.row hb (Nat.le_refl _), fun p hp => ⟨(h.nx p hp).1.keep hb (Nat.le_refl _), (h.nx p hp).2⟩, h.ans⟩
theorem DFr.fr {lo : Nat} {w' w2 : World} {ns : List Int} {es : List Ed} {r E : Int} {u : Value} {l : List (Rr × Value)} {S : Nat → Prop} (h : DFr lo w' ns es r E u l) (hF : Fr S w' w2) (hS : ∀ j, S j → j < lo) : DFr lo w2 ns es r E u l := by
  refine ⟨row_fr h.row hF fun j hj e => ?_, fun p hp => ⟨?_, (h.nx p hp).2⟩, h.ans⟩
  · have := base_own h.row j hj
    have := hS j e
    omega
  · rcases (h.nx p hp).1 with k | ⟨g, o, cap, cur, k1, hc, hlo, hg, hcell⟩
    · exact .inl k
    · have hk := hF.block g (block_lt hg) (fun e => by have := hS g e; omega)
      refine .inr ⟨g, o, cap, cur, k1, hc, hlo, hk.trans hg, fun j z hz => ?_⟩
      rw [World.cell?_of_block (a := ⟨g, o + j, none⟩) hk]
      exact hcell j z hz
theorem DFr.sl {lo : Nat} {w' : World} {ns : List Int} {es : List Ed} {r E : Int} {u : Value} {l : List (Rr × Value)} (h : DFr lo w' ns es r E u l) : SlAt rwc 5 w' u l ∧ ∀ p ∈ l, SlAt ic 1 w' p.2 p.1.next :=
  ⟨slAt_of_row (cs := rwc) (fun _ => rfl) h.row rfl, fun p hp => (h.nx p hp).1.sl (by have := (h.nx p hp).2.2.2.2.2; omega)⟩
/-- The one of a node in a list. -/
def OfIs (L : List Rr) (t : Int) (X : Rr) (b : Bool) : Prop := (b = true ∧ L.find? (fun r => decide (r.node = t)) = some X) ∨ (b = false ∧ X = noR ∧ L.find? (fun r => decide (r.node = t)) = none)
theorem OfIs.uniq {L : List Rr} {t : Int} {X Y : Rr} {b c : Bool} (h : OfIs L t X b) (k : OfIs L t Y c) : X = Y ∧ b = c := by
  rcases h with ⟨h1, h2⟩ | ⟨h1, h2, h3⟩ <;> rcases k with ⟨k1, k2⟩ | ⟨k1, k2, k3⟩
  · rw [h2] at k2; exact ⟨Option.some.inj k2, by rw [h1, k1]⟩
  · rw [h2] at k3; cases k3
  · rw [h3] at k2; cases k2
  · exact ⟨by rw [h2, k2], by rw [h1, k1]⟩
theorem find_no {l : List (Rr × Value)} {t : Int} (h : ∀ y ∈ l, y.1.node ≠ t) : (l.map (·.1)).find? (fun r => decide (r.node = t)) = none := by
  rw [List.find?_eq_none]
  intro x hx
  obtain ⟨p, hp, rfl⟩ := List.mem_map.1 hx
  simpa using h p hp
theorem ofAns_is {w' : World} {l : List (Rr × Value)} {t : Int} {e : Ending} (h : OfAns w' l t e) : ∃ X v b, e = .returned (.tuple #[rchV X v, .bool b]) ∧ SlAt ic 1 w' v X.next ∧ OfIs (l.map (·.1)) t X b := by
  rcases h with ⟨k, x, v, h1, h2, h3, h4, h5, _⟩ | ⟨h1, h2⟩
  · exact ⟨x.1, v, true, h4, h5, .inl ⟨rfl, find_at h1 h2 h3⟩⟩
  · exact ⟨noR, _, false, h2, slAt_nil _ _ _, .inr ⟨rfl, rfl, find_no h1⟩⟩
theorem dofAns_is {l : List (Rr × Value)} {w' : World} (hn : ∀ p ∈ l, SlAt ic 1 w' p.2 p.1.next) {t : Int} {e : Ending} (h : DofAns l t e) : ∃ X v b, e = .returned (.tuple #[rchV X v, .bool b]) ∧ SlAt ic 1 w' v X.next ∧ OfIs (l.map (·.1)) t X b := by
  rcases h with ⟨k, x, h1, h2, h3, h4⟩ | ⟨h1, h2⟩
  · exact ⟨x.1, x.2, true, h4, hn x (List.mem_of_getElem? h1), .inl ⟨rfl, find_at h1 h2 h3⟩⟩
  · exact ⟨noR, _, false, h2, slAt_nil _ _ _, .inr ⟨rfl, rfl, find_no h1⟩⟩
/-- Numbers overwritten in blocks of numbers from lo to hi. -/
structure Tnd (lo hi : Nat) (w0 w : World) : Prop where
  fr : Fr (fun j => lo ≤ j ∧ j < hi ∧ ∃ cur : Array Value, w0.heap[j]? = some (Obj.cells cur 3)) w0 w
  ty : ∀ (j : Nat) (cur : Array Value), w0.heap[j]? = some (Obj.cells cur 3) → ∃ cur' : Array Value, w.heap[j]? = some (.cells cur' 3) ∧ cur'.size = cur.size
theorem Tnd.refl (lo hi : Nat) (w : World) : Tnd lo hi w w := ⟨Fr.refl _ _, fun _ cur h => ⟨cur, h, rfl⟩⟩
theorem Tnd.set {lo hi : Nat} {w0 w : World} (h : Tnd lo hi w0 w) {g j : Nat} (h1 : lo ≤ g) (h2 : g < hi) {cur : Array Value} (hg : w0.heap[g]? = some (.cells cur 3)) (v : Value) : Tnd lo hi w0 (w.setCell ⟨g, j, none⟩ v) := by
  refine ⟨h.fr.set (p := ⟨g, j, none⟩) ⟨h1, h2, cur, hg⟩ v, fun k cur hk => ?_⟩
  obtain ⟨cur', h3, h4⟩ := h.ty k cur hk
  by_cases hkg : k = g
  · subst hkg
    exact ⟨_, heap_setCell_same w k j _ _ v h3, by simp [h4]⟩
  · refine ⟨cur', ?_, h4⟩
    rw [← h3]
    exact ((Fr.refl (fun i => i = g) w).set (p := ⟨g, j, none⟩) rfl v).block k (block_lt h3) hkg
theorem Tnd.row {lo hi B n size : Nat} {w0 w : World} {e : TypeId} {u : Value} {xs : List Value} (h : Tnd lo hi w0 w) (hr : w0.ownsRow B e size u n xs) (he : e ≠ 3) : w.ownsRow B e size u n xs :=
  row_fr hr h.fr fun j hj ⟨_, _, cur, hc⟩ => by
    obtain ⟨cur', hc'⟩ := row_typed hr j hj
    rw [hc] at hc'
    simp at hc'
    exact he hc'.2.symm
set_option maxRecDepth 100000 in
set_option maxHeartbeats 8000000 in
theorem pathsReach_walk {ns : List Int} {es : List Ed} {vn ve : Value} {w : World} (h : GrAt w vn ve ns es) (nn : NilOk vn) (ne : NilOk ve) (a b : Int) :
    Calls Try.prog 3 #[grV vn ve, .int .i64 a, .int .i64 b] w fun e w' => e = .returned (.bool true) ∧ Below w.heap.size w w' := by
  obtain ⟨na, nca, rfl, hnl, hnc, _⟩ := h.n.ints
  obtain ⟨ea, eca, rfl, hel, hec, _⟩ := h.e.eds
  obtain ⟨W1, hW1⟩ : ∃ W1, w.alloc (.cells #[.slice na ns.length nca, .slice ea es.length eca] 25) = W1 := ⟨_, rfl⟩
  have bA : Below w.heap.size w W1 := by rw [← hW1]; exact (Below.refl _ w).alloc (Nat.le_refl _) _
  have hGB : W1.heap[w.heap.size]? = some (.cells #[.slice na ns.length nca, .slice ea es.length eca] 25) := by rw [← hW1]; exact heap_alloc_last w _
  obtain ⟨ln, hln⟩ : ∃ ln, ns.length = ln := ⟨_, rfl⟩
  obtain ⟨le, hle⟩ : ∃ le, es.length = le := ⟨_, rfl⟩
  obtain ⟨N1, hN1⟩ : ∃ N1, ns.take 30 = N1 := ⟨_, rfl⟩
  obtain ⟨E1, hE1⟩ : ∃ E1, es.take 100 = E1 := ⟨_, rfl⟩
  obtain ⟨m1, hm1⟩ : ∃ m1, N1.length = m1 := ⟨_, rfl⟩
  obtain ⟨m2, hm2⟩ : ∃ m2, E1.length = m2 := ⟨_, rfl⟩
  have HCut : Hid (∀ wq, Below W1.heap.size W1 wq → Calls Try.prog 5 #[grV (.slice na ln nca) (.slice ea le eca)] wq fun e w' => (∃ a1 c1 a2 c2, e = .returned (grV (.slice a1 m1 c1) (.slice a2 m2 c2)) ∧ GrR w' (.slice a1 m1 c1) (.slice a2 m2 c2) N1 E1) ∧ Below wq.heap.size wq w') := hidIn fun wq hq => by
    have hbq := bA.trans (hq.mono bA.size)
    have := gcut_any (h.keep hbq (Nat.le_refl _)) nn ne
    rw [hln, hle] at this
    refine this.mono fun e w' ⟨⟨vn', ve', he, hg⟩, hb⟩ => ⟨?_, hb⟩
    rw [hN1, hE1] at hg
    obtain ⟨_, r1⟩ := hg.n
    obtain ⟨_, r2⟩ := hg.e
    obtain ⟨a1, c1, rfl⟩ := row_shape r1
    obtain ⟨a2, c2, rfl⟩ := row_shape r2
    rw [hm1, hm2] at *
    exact ⟨a1, c1, a2, c2, he, hg⟩
  rw [hln, hle] at hGB hW1
  have hlt1 := block_lt hGB
  have HCl : Hid (∀ wq, Below W1.heap.size W1 wq → wq.cell? ⟨w.heap.size, 0, none⟩ = some (.slice na ln nca) ∧ wq.cell? ⟨w.heap.size, 1, none⟩ = some (.slice ea le eca)) := hidIn fun wq hq => by
    have j0 := (hq.block _ hlt1).trans hGB
    exact ⟨cell_of_row _ _ 0 _ _ _ j0, cell_of_row _ _ 1 _ _ _ j0⟩
  have HBq : Hid (∀ wq, Below W1.heap.size W1 wq → Below w.heap.size w wq) := hidIn fun wq hq => bA.trans (hq.mono bA.size)
  have HW := hidIn hW1
  obtain ⟨q, hqe⟩ : ∃ q, w.heap.size = q := ⟨_, rfl⟩
  rw [hqe] at HCl
  rw [hln] at hnl hnc ⊢
  rw [hle] at hel hec ⊢
  clear hW1 bA hGB hlt1 h nn ne hln hle hN1 hE1 hm1 hm2
  go_enter Try.func3, Try.ntmps3
  go_upto_region 1 with fail
  rw [HW.out]
  clear HW hqe
  go_cut [7, 8] (fun x y wx => ∃ (j k : Nat) (a1 a2 a3 a4 : Option Addr) (c1 c2 c3 c4 : Nat), x = .pointer (some ⟨j, 0, none⟩) ∧ y = .pointer (some ⟨k, 0, none⟩) ∧ TwoG W1 wx N1 E1 (.slice a1 m1 c1, .slice a2 m2 c2) (.slice a3 m1 c3, .slice a4 m2 c4) (.slice a3 m1 c3, .slice a4 m2 c4) j k)
  case first =>
    refine wp_region_held_drew (S := fun wx => Below W1.heap.size W1 wx) (by kernel_rfl) ((Below.refl _ W1).drew) (fun hHeld => ?_)
    have hs0 := CutSt.start W1 N1 E1
    obtain ⟨wd, hwd⟩ : ∃ wd, W1.drew = wd := ⟨_, rfl⟩
    rw [hwd] at hs0 ⊢
    have hh0 : Below W1.heap.size W1 wd := hs0.b
    clear hwd hHeld
    refine wpAnyH_take (i := 0) (v := .agg #[.slice na ln nca, .slice ea le eca]) rfl (by kernel_rfl) (by kernel_rfl) (by kernel_rfl) (fun _ _ _ h => h) (Or.inl ⟨by kernel_rfl, fun wq hSw => by
        obtain ⟨s0, s1⟩ := HCl.out wq hSw
        go_simp⟩) (by assumption) ?_
    refine wpAnyH_take (i := 2) (v := .agg #[.slice na ln nca, .slice ea le eca]) rfl (by kernel_rfl) (by kernel_rfl) (by kernel_rfl) (fun _ _ _ h => h) (Or.inl ⟨by kernel_rfl, fun wq hSw => by
        obtain ⟨s0, s1⟩ := HCl.out wq hSw
        go_simp⟩) (by assumption) ?_
    refine wpAnyH_ready (rs := [1, 4, 5]) (by kernel_rfl) (by simp) ?_
    refine AllReadyH.cons (i := 1) rfl ?_ (AllReadyH.cons (i := 4) rfl ?_ (AllReadyH.cons (i := 5) rfl ?_ AllReadyH.nil))
    · go_simp
      intro K hK
      refine (HCut.out _ hs0.b).mono ?_
      rintro e w1 ⟨⟨x1, u1, y1, z1, rfl, hg⟩, hb⟩
      have hs1 := hs0.call1 hg hb
      refine hK.out _ _ hs1.b (fun _ => ?_)
      clear hK K hg hb hs0
      refine wpAnyH_ready (rs := [3, 4, 5]) (by kernel_rfl) (by simp) ?_
      refine AllReadyH.cons (i := 3) rfl ?_ (AllReadyH.cons (i := 4) rfl ?_ (AllReadyH.cons (i := 5) rfl ?_ AllReadyH.nil))
      · go_simp
        intro K hK
        refine (HCut.out _ hs1.b).mono ?_
        rintro e w2 ⟨⟨x3, u3, y3, z3, rfl, hg⟩, hb⟩
        have hs2 := hs1.call3 hg hb
        refine hK.out _ _ hs2.b (fun _ => ?_)
        clear hK K hg hb hs1
        refine wpAnyH_ready (rs := [4, 5]) (by kernel_rfl) (by simp) ?_
        refine AllReadyH.cons (i := 4) rfl ?_ (AllReadyH.cons (i := 5) rfl ?_ AllReadyH.nil)
        · have hs3 := hs2.alloc4
          go_simp
          intro K hK
          refine hK.out _ _ hs3.b (fun _ => ?_)
          clear hK K hs2
          generalize World.alloc _ _ = w3 at hs3 ⊢
          refine wpAnyH_ready (rs := [5]) (by kernel_rfl) (by simp) ?_
          refine AllReadyH.cons (i := 5) rfl ?_ AllReadyH.nil
          · have hs4 := hs3.alloc5
            go_simp
            intro K hK
            refine hK.out _ _ hs4.b (fun _ => ?_)
            clear hK K hs3
            generalize World.alloc _ _ = w4 at hs4 ⊢
            refine wpAnyH_ready (rs := [6]) (by kernel_rfl) (by simp) ?_
            refine AllReadyH.cons (i := 6) rfl ?_ AllReadyH.nil
            have hz4 := (hs4.fa4 _ rfl).2
            have zz0 := cell_of_row _ _ 0 _ _ _ hz4
            have zz1 := cell_of_row _ _ 1 _ _ _ hz4
            simp at zz0 zz1
            have yy0 := frozen_new hz4 0
            have yy1 := frozen_new hz4 1
            have ht := hs4.put
            go_simp
            intro K hK
            simp only at ht
            generalize (World.setCell (World.setCell _ _ _) _ _) = wx at ht ⊢
            refine hK.out _ _ ht.b (fun _ => ?_)
            clear hK K zz0 zz1 yy0 yy1 hz4
            refine wpAnyH_ready (rs := [7]) (by kernel_rfl) (by simp) ?_
            refine AllReadyH.cons (i := 7) rfl ?_ AllReadyH.nil
            have hz4 := ht.b3
            have zz0 := cell_of_row _ _ 0 _ _ _ hz4
            have zz1 := cell_of_row _ _ 1 _ _ _ hz4
            simp at zz0 zz1
            have yy0 := frozen_new hz4 0
            have yy1 := frozen_new hz4 1
            have ht2 := ht.put
            go_simp
            intro K hK
            simp only at ht2
            generalize (World.setCell (World.setCell _ _ _) _ _) = wy at ht2 ⊢
            refine hK.out _ _ ht2.b (fun _ => ?_)
            clear hK K zz0 zz1 yy0 yy1 hz4
            refine wpAnyH_done (by kernel_rfl) ?_ _
            go_wp2_with fail
            go_meet
            exact ⟨_, _, _, _, _, _, _, _, _, _, rfl, rfl, ht2⟩
        · have hs3 := hs2.alloc5
          go_simp
          intro K hK
          refine hK.out _ _ hs3.b (fun _ => ?_)
          clear hK K hs2
          generalize World.alloc _ _ = w3 at hs3 ⊢
          refine wpAnyH_ready (rs := [4]) (by kernel_rfl) (by simp) ?_
          refine AllReadyH.cons (i := 4) rfl ?_ AllReadyH.nil
          · have hs4 := hs3.alloc4
            go_simp
            intro K hK
            refine hK.out _ _ hs4.b (fun _ => ?_)
            clear hK K hs3
            generalize World.alloc _ _ = w4 at hs4 ⊢
            refine wpAnyH_ready (rs := [6]) (by kernel_rfl) (by simp) ?_
            refine AllReadyH.cons (i := 6) rfl ?_ AllReadyH.nil
            have hz4 := (hs4.fa4 _ rfl).2
            have zz0 := cell_of_row _ _ 0 _ _ _ hz4
            have zz1 := cell_of_row _ _ 1 _ _ _ hz4
            simp at zz0 zz1
            have yy0 := frozen_new hz4 0
            have yy1 := frozen_new hz4 1
            have ht := hs4.put
            go_simp
            intro K hK
            simp only at ht
            generalize (World.setCell (World.setCell _ _ _) _ _) = wx at ht ⊢
            refine hK.out _ _ ht.b (fun _ => ?_)
            clear hK K zz0 zz1 yy0 yy1 hz4
            refine wpAnyH_ready (rs := [7]) (by kernel_rfl) (by simp) ?_
            refine AllReadyH.cons (i := 7) rfl ?_ AllReadyH.nil
            have hz4 := ht.b3
            have zz0 := cell_of_row _ _ 0 _ _ _ hz4
            have zz1 := cell_of_row _ _ 1 _ _ _ hz4
            simp at zz0 zz1
            have yy0 := frozen_new hz4 0
            have yy1 := frozen_new hz4 1
            have ht2 := ht.put
            go_simp
            intro K hK
            simp only at ht2
            generalize (World.setCell (World.setCell _ _ _) _ _) = wy at ht2 ⊢
            refine hK.out _ _ ht2.b (fun _ => ?_)
            clear hK K zz0 zz1 yy0 yy1 hz4
            refine wpAnyH_done (by kernel_rfl) ?_ _
            go_wp2_with fail
            go_meet
            exact ⟨_, _, _, _, _, _, _, _, _, _, rfl, rfl, ht2⟩
      · have hs2 := hs1.alloc4
        go_simp
        intro K hK
        refine hK.out _ _ hs2.b (fun _ => ?_)
        clear hK K hs1
        generalize World.alloc _ _ = w2 at hs2 ⊢
        refine wpAnyH_ready (rs := [3, 5]) (by kernel_rfl) (by simp) ?_
        refine AllReadyH.cons (i := 3) rfl ?_ (AllReadyH.cons (i := 5) rfl ?_ AllReadyH.nil)
        · go_simp
          intro K hK
          refine (HCut.out _ hs2.b).mono ?_
          rintro e w3 ⟨⟨x3, u3, y3, z3, rfl, hg⟩, hb⟩
          have hs3 := hs2.call3 hg hb
          refine hK.out _ _ hs3.b (fun _ => ?_)
          clear hK K hg hb hs2
          refine wpAnyH_ready (rs := [5]) (by kernel_rfl) (by simp) ?_
          refine AllReadyH.cons (i := 5) rfl ?_ AllReadyH.nil
          · have hs4 := hs3.alloc5
            go_simp
            intro K hK
            refine hK.out _ _ hs4.b (fun _ => ?_)
            clear hK K hs3
            generalize World.alloc _ _ = w4 at hs4 ⊢
            refine wpAnyH_ready (rs := [6]) (by kernel_rfl) (by simp) ?_
            refine AllReadyH.cons (i := 6) rfl ?_ AllReadyH.nil
            have hz4 := (hs4.fa4 _ rfl).2
            have zz0 := cell_of_row _ _ 0 _ _ _ hz4
            have zz1 := cell_of_row _ _ 1 _ _ _ hz4
            simp at zz0 zz1
            have yy0 := frozen_new hz4 0
            have yy1 := frozen_new hz4 1
            have ht := hs4.put
            go_simp
            intro K hK
            simp only at ht
            generalize (World.setCell (World.setCell _ _ _) _ _) = wx at ht ⊢
            refine hK.out _ _ ht.b (fun _ => ?_)
            clear hK K zz0 zz1 yy0 yy1 hz4
            refine wpAnyH_ready (rs := [7]) (by kernel_rfl) (by simp) ?_
            refine AllReadyH.cons (i := 7) rfl ?_ AllReadyH.nil
            have hz4 := ht.b3
            have zz0 := cell_of_row _ _ 0 _ _ _ hz4
            have zz1 := cell_of_row _ _ 1 _ _ _ hz4
            simp at zz0 zz1
            have yy0 := frozen_new hz4 0
            have yy1 := frozen_new hz4 1
            have ht2 := ht.put
            go_simp
            intro K hK
            simp only at ht2
            generalize (World.setCell (World.setCell _ _ _) _ _) = wy at ht2 ⊢
            refine hK.out _ _ ht2.b (fun _ => ?_)
            clear hK K zz0 zz1 yy0 yy1 hz4
            refine wpAnyH_done (by kernel_rfl) ?_ _
            go_wp2_with fail
            go_meet
            exact ⟨_, _, _, _, _, _, _, _, _, _, rfl, rfl, ht2⟩
        · have hs3 := hs2.alloc5
          go_simp
          intro K hK
          refine hK.out _ _ hs3.b (fun _ => ?_)
          clear hK K hs2
          generalize World.alloc _ _ = w3 at hs3 ⊢
          refine wpAnyH_ready (rs := [3]) (by kernel_rfl) (by simp) ?_
          refine AllReadyH.cons (i := 3) rfl ?_ AllReadyH.nil
          · go_simp
            intro K hK
            refine (HCut.out _ hs3.b).mono ?_
            rintro e w4 ⟨⟨x3, u3, y3, z3, rfl, hg⟩, hb⟩
            have hs4 := hs3.call3 hg hb
            refine hK.out _ _ hs4.b (fun _ => ?_)
            clear hK K hg hb hs3
            refine wpAnyH_ready (rs := [6]) (by kernel_rfl) (by simp) ?_
            refine AllReadyH.cons (i := 6) rfl ?_ AllReadyH.nil
            have hz4 := (hs4.fa4 _ rfl).2
            have zz0 := cell_of_row _ _ 0 _ _ _ hz4
            have zz1 := cell_of_row _ _ 1 _ _ _ hz4
            simp at zz0 zz1
            have yy0 := frozen_new hz4 0
            have yy1 := frozen_new hz4 1
            have ht := hs4.put
            go_simp
            intro K hK
            simp only at ht
            generalize (World.setCell (World.setCell _ _ _) _ _) = wx at ht ⊢
            refine hK.out _ _ ht.b (fun _ => ?_)
            clear hK K zz0 zz1 yy0 yy1 hz4
            refine wpAnyH_ready (rs := [7]) (by kernel_rfl) (by simp) ?_
            refine AllReadyH.cons (i := 7) rfl ?_ AllReadyH.nil
            have hz4 := ht.b3
            have zz0 := cell_of_row _ _ 0 _ _ _ hz4
            have zz1 := cell_of_row _ _ 1 _ _ _ hz4
            simp at zz0 zz1
            have yy0 := frozen_new hz4 0
            have yy1 := frozen_new hz4 1
            have ht2 := ht.put
            go_simp
            intro K hK
            simp only at ht2
            generalize (World.setCell (World.setCell _ _ _) _ _) = wy at ht2 ⊢
            refine hK.out _ _ ht2.b (fun _ => ?_)
            clear hK K zz0 zz1 yy0 yy1 hz4
            refine wpAnyH_done (by kernel_rfl) ?_ _
            go_wp2_with fail
            go_meet
            exact ⟨_, _, _, _, _, _, _, _, _, _, rfl, rfl, ht2⟩
      · have hs2 := hs1.alloc5
        go_simp
        intro K hK
        refine hK.out _ _ hs2.b (fun _ => ?_)
        clear hK K hs1
        generalize World.alloc _ _ = w2 at hs2 ⊢
        refine wpAnyH_ready (rs := [3, 4]) (by kernel_rfl) (by simp) ?_
        refine AllReadyH.cons (i := 3) rfl ?_ (AllReadyH.cons (i := 4) rfl ?_ AllReadyH.nil)
        · go_simp
          intro K hK
          refine (HCut.out _ hs2.b).mono ?_
          rintro e w3 ⟨⟨x3, u3, y3, z3, rfl, hg⟩, hb⟩
          have hs3 := hs2.call3 hg hb
          refine hK.out _ _ hs3.b (fun _ => ?_)
          clear hK K hg hb hs2
          refine wpAnyH_ready (rs := [4]) (by kernel_rfl) (by simp) ?_
          refine AllReadyH.cons (i := 4) rfl ?_ AllReadyH.nil
          · have hs4 := hs3.alloc4
            go_simp
            intro K hK
            refine hK.out _ _ hs4.b (fun _ => ?_)
            clear hK K hs3
            generalize World.alloc _ _ = w4 at hs4 ⊢
            refine wpAnyH_ready (rs := [6]) (by kernel_rfl) (by simp) ?_
            refine AllReadyH.cons (i := 6) rfl ?_ AllReadyH.nil
            have hz4 := (hs4.fa4 _ rfl).2
            have zz0 := cell_of_row _ _ 0 _ _ _ hz4
            have zz1 := cell_of_row _ _ 1 _ _ _ hz4
            simp at zz0 zz1
            have yy0 := frozen_new hz4 0
            have yy1 := frozen_new hz4 1
            have ht := hs4.put
            go_simp
            intro K hK
            simp only at ht
            generalize (World.setCell (World.setCell _ _ _) _ _) = wx at ht ⊢
            refine hK.out _ _ ht.b (fun _ => ?_)
            clear hK K zz0 zz1 yy0 yy1 hz4
            refine wpAnyH_ready (rs := [7]) (by kernel_rfl) (by simp) ?_
            refine AllReadyH.cons (i := 7) rfl ?_ AllReadyH.nil
            have hz4 := ht.b3
            have zz0 := cell_of_row _ _ 0 _ _ _ hz4
            have zz1 := cell_of_row _ _ 1 _ _ _ hz4
            simp at zz0 zz1
            have yy0 := frozen_new hz4 0
            have yy1 := frozen_new hz4 1
            have ht2 := ht.put
            go_simp
            intro K hK
            simp only at ht2
            generalize (World.setCell (World.setCell _ _ _) _ _) = wy at ht2 ⊢
            refine hK.out _ _ ht2.b (fun _ => ?_)
            clear hK K zz0 zz1 yy0 yy1 hz4
            refine wpAnyH_done (by kernel_rfl) ?_ _
            go_wp2_with fail
            go_meet
            exact ⟨_, _, _, _, _, _, _, _, _, _, rfl, rfl, ht2⟩
        · have hs3 := hs2.alloc4
          go_simp
          intro K hK
          refine hK.out _ _ hs3.b (fun _ => ?_)
          clear hK K hs2
          generalize World.alloc _ _ = w3 at hs3 ⊢
          refine wpAnyH_ready (rs := [3]) (by kernel_rfl) (by simp) ?_
          refine AllReadyH.cons (i := 3) rfl ?_ AllReadyH.nil
          · go_simp
            intro K hK
            refine (HCut.out _ hs3.b).mono ?_
            rintro e w4 ⟨⟨x3, u3, y3, z3, rfl, hg⟩, hb⟩
            have hs4 := hs3.call3 hg hb
            refine hK.out _ _ hs4.b (fun _ => ?_)
            clear hK K hg hb hs3
            refine wpAnyH_ready (rs := [6]) (by kernel_rfl) (by simp) ?_
            refine AllReadyH.cons (i := 6) rfl ?_ AllReadyH.nil
            have hz4 := (hs4.fa4 _ rfl).2
            have zz0 := cell_of_row _ _ 0 _ _ _ hz4
            have zz1 := cell_of_row _ _ 1 _ _ _ hz4
            simp at zz0 zz1
            have yy0 := frozen_new hz4 0
            have yy1 := frozen_new hz4 1
            have ht := hs4.put
            go_simp
            intro K hK
            simp only at ht
            generalize (World.setCell (World.setCell _ _ _) _ _) = wx at ht ⊢
            refine hK.out _ _ ht.b (fun _ => ?_)
            clear hK K zz0 zz1 yy0 yy1 hz4
            refine wpAnyH_ready (rs := [7]) (by kernel_rfl) (by simp) ?_
            refine AllReadyH.cons (i := 7) rfl ?_ AllReadyH.nil
            have hz4 := ht.b3
            have zz0 := cell_of_row _ _ 0 _ _ _ hz4
            have zz1 := cell_of_row _ _ 1 _ _ _ hz4
            simp at zz0 zz1
            have yy0 := frozen_new hz4 0
            have yy1 := frozen_new hz4 1
            have ht2 := ht.put
            go_simp
            intro K hK
            simp only at ht2
            generalize (World.setCell (World.setCell _ _ _) _ _) = wy at ht2 ⊢
            refine hK.out _ _ ht2.b (fun _ => ?_)
            clear hK K zz0 zz1 yy0 yy1 hz4
            refine wpAnyH_done (by kernel_rfl) ?_ _
            go_wp2_with fail
            go_meet
            exact ⟨_, _, _, _, _, _, _, _, _, _, rfl, rfl, ht2⟩
    · have hs1 := hs0.alloc4
      go_simp
      intro K hK
      refine hK.out _ _ hs1.b (fun _ => ?_)
      clear hK K hs0
      generalize World.alloc _ _ = w1 at hs1 ⊢
      refine wpAnyH_ready (rs := [1, 5]) (by kernel_rfl) (by simp) ?_
      refine AllReadyH.cons (i := 1) rfl ?_ (AllReadyH.cons (i := 5) rfl ?_ AllReadyH.nil)
      · go_simp
        intro K hK
        refine (HCut.out _ hs1.b).mono ?_
        rintro e w2 ⟨⟨x1, u1, y1, z1, rfl, hg⟩, hb⟩
        have hs2 := hs1.call1 hg hb
        refine hK.out _ _ hs2.b (fun _ => ?_)
        clear hK K hg hb hs1
        refine wpAnyH_ready (rs := [3, 5]) (by kernel_rfl) (by simp) ?_
        refine AllReadyH.cons (i := 3) rfl ?_ (AllReadyH.cons (i := 5) rfl ?_ AllReadyH.nil)
        · go_simp
          intro K hK
          refine (HCut.out _ hs2.b).mono ?_
          rintro e w3 ⟨⟨x3, u3, y3, z3, rfl, hg⟩, hb⟩
          have hs3 := hs2.call3 hg hb
          refine hK.out _ _ hs3.b (fun _ => ?_)
          clear hK K hg hb hs2
          refine wpAnyH_ready (rs := [5]) (by kernel_rfl) (by simp) ?_
          refine AllReadyH.cons (i := 5) rfl ?_ AllReadyH.nil
          · have hs4 := hs3.alloc5
            go_simp
            intro K hK
            refine hK.out _ _ hs4.b (fun _ => ?_)
            clear hK K hs3
            generalize World.alloc _ _ = w4 at hs4 ⊢
            refine wpAnyH_ready (rs := [6]) (by kernel_rfl) (by simp) ?_
            refine AllReadyH.cons (i := 6) rfl ?_ AllReadyH.nil
            have hz4 := (hs4.fa4 _ rfl).2
            have zz0 := cell_of_row _ _ 0 _ _ _ hz4
            have zz1 := cell_of_row _ _ 1 _ _ _ hz4
            simp at zz0 zz1
            have yy0 := frozen_new hz4 0
            have yy1 := frozen_new hz4 1
            have ht := hs4.put
            go_simp
            intro K hK
            simp only at ht
            generalize (World.setCell (World.setCell _ _ _) _ _) = wx at ht ⊢
            refine hK.out _ _ ht.b (fun _ => ?_)
            clear hK K zz0 zz1 yy0 yy1 hz4
            refine wpAnyH_ready (rs := [7]) (by kernel_rfl) (by simp) ?_
            refine AllReadyH.cons (i := 7) rfl ?_ AllReadyH.nil
            have hz4 := ht.b3
            have zz0 := cell_of_row _ _ 0 _ _ _ hz4
            have zz1 := cell_of_row _ _ 1 _ _ _ hz4
            simp at zz0 zz1
            have yy0 := frozen_new hz4 0
            have yy1 := frozen_new hz4 1
            have ht2 := ht.put
            go_simp
            intro K hK
            simp only at ht2
            generalize (World.setCell (World.setCell _ _ _) _ _) = wy at ht2 ⊢
            refine hK.out _ _ ht2.b (fun _ => ?_)
            clear hK K zz0 zz1 yy0 yy1 hz4
            refine wpAnyH_done (by kernel_rfl) ?_ _
            go_wp2_with fail
            go_meet
            exact ⟨_, _, _, _, _, _, _, _, _, _, rfl, rfl, ht2⟩
        · have hs3 := hs2.alloc5
          go_simp
          intro K hK
          refine hK.out _ _ hs3.b (fun _ => ?_)
          clear hK K hs2
          generalize World.alloc _ _ = w3 at hs3 ⊢
          refine wpAnyH_ready (rs := [3]) (by kernel_rfl) (by simp) ?_
          refine AllReadyH.cons (i := 3) rfl ?_ AllReadyH.nil
          · go_simp
            intro K hK
            refine (HCut.out _ hs3.b).mono ?_
            rintro e w4 ⟨⟨x3, u3, y3, z3, rfl, hg⟩, hb⟩
            have hs4 := hs3.call3 hg hb
            refine hK.out _ _ hs4.b (fun _ => ?_)
            clear hK K hg hb hs3
            refine wpAnyH_ready (rs := [6]) (by kernel_rfl) (by simp) ?_
            refine AllReadyH.cons (i := 6) rfl ?_ AllReadyH.nil
            have hz4 := (hs4.fa4 _ rfl).2
            have zz0 := cell_of_row _ _ 0 _ _ _ hz4
            have zz1 := cell_of_row _ _ 1 _ _ _ hz4
            simp at zz0 zz1
            have yy0 := frozen_new hz4 0
            have yy1 := frozen_new hz4 1
            have ht := hs4.put
            go_simp
            intro K hK
            simp only at ht
            generalize (World.setCell (World.setCell _ _ _) _ _) = wx at ht ⊢
            refine hK.out _ _ ht.b (fun _ => ?_)
            clear hK K zz0 zz1 yy0 yy1 hz4
            refine wpAnyH_ready (rs := [7]) (by kernel_rfl) (by simp) ?_
            refine AllReadyH.cons (i := 7) rfl ?_ AllReadyH.nil
            have hz4 := ht.b3
            have zz0 := cell_of_row _ _ 0 _ _ _ hz4
            have zz1 := cell_of_row _ _ 1 _ _ _ hz4
            simp at zz0 zz1
            have yy0 := frozen_new hz4 0
            have yy1 := frozen_new hz4 1
            have ht2 := ht.put
            go_simp
            intro K hK
            simp only at ht2
            generalize (World.setCell (World.setCell _ _ _) _ _) = wy at ht2 ⊢
            refine hK.out _ _ ht2.b (fun _ => ?_)
            clear hK K zz0 zz1 yy0 yy1 hz4
            refine wpAnyH_done (by kernel_rfl) ?_ _
            go_wp2_with fail
            go_meet
            exact ⟨_, _, _, _, _, _, _, _, _, _, rfl, rfl, ht2⟩
      · have hs2 := hs1.alloc5
        go_simp
        intro K hK
        refine hK.out _ _ hs2.b (fun _ => ?_)
        clear hK K hs1
        generalize World.alloc _ _ = w2 at hs2 ⊢
        refine wpAnyH_ready (rs := [1]) (by kernel_rfl) (by simp) ?_
        refine AllReadyH.cons (i := 1) rfl ?_ AllReadyH.nil
        · go_simp
          intro K hK
          refine (HCut.out _ hs2.b).mono ?_
          rintro e w3 ⟨⟨x1, u1, y1, z1, rfl, hg⟩, hb⟩
          have hs3 := hs2.call1 hg hb
          refine hK.out _ _ hs3.b (fun _ => ?_)
          clear hK K hg hb hs2
          refine wpAnyH_ready (rs := [3]) (by kernel_rfl) (by simp) ?_
          refine AllReadyH.cons (i := 3) rfl ?_ AllReadyH.nil
          · go_simp
            intro K hK
            refine (HCut.out _ hs3.b).mono ?_
            rintro e w4 ⟨⟨x3, u3, y3, z3, rfl, hg⟩, hb⟩
            have hs4 := hs3.call3 hg hb
            refine hK.out _ _ hs4.b (fun _ => ?_)
            clear hK K hg hb hs3
            refine wpAnyH_ready (rs := [6]) (by kernel_rfl) (by simp) ?_
            refine AllReadyH.cons (i := 6) rfl ?_ AllReadyH.nil
            have hz4 := (hs4.fa4 _ rfl).2
            have zz0 := cell_of_row _ _ 0 _ _ _ hz4
            have zz1 := cell_of_row _ _ 1 _ _ _ hz4
            simp at zz0 zz1
            have yy0 := frozen_new hz4 0
            have yy1 := frozen_new hz4 1
            have ht := hs4.put
            go_simp
            intro K hK
            simp only at ht
            generalize (World.setCell (World.setCell _ _ _) _ _) = wx at ht ⊢
            refine hK.out _ _ ht.b (fun _ => ?_)
            clear hK K zz0 zz1 yy0 yy1 hz4
            refine wpAnyH_ready (rs := [7]) (by kernel_rfl) (by simp) ?_
            refine AllReadyH.cons (i := 7) rfl ?_ AllReadyH.nil
            have hz4 := ht.b3
            have zz0 := cell_of_row _ _ 0 _ _ _ hz4
            have zz1 := cell_of_row _ _ 1 _ _ _ hz4
            simp at zz0 zz1
            have yy0 := frozen_new hz4 0
            have yy1 := frozen_new hz4 1
            have ht2 := ht.put
            go_simp
            intro K hK
            simp only at ht2
            generalize (World.setCell (World.setCell _ _ _) _ _) = wy at ht2 ⊢
            refine hK.out _ _ ht2.b (fun _ => ?_)
            clear hK K zz0 zz1 yy0 yy1 hz4
            refine wpAnyH_done (by kernel_rfl) ?_ _
            go_wp2_with fail
            go_meet
            exact ⟨_, _, _, _, _, _, _, _, _, _, rfl, rfl, ht2⟩
    · have hs1 := hs0.alloc5
      go_simp
      intro K hK
      refine hK.out _ _ hs1.b (fun _ => ?_)
      clear hK K hs0
      generalize World.alloc _ _ = w1 at hs1 ⊢
      refine wpAnyH_ready (rs := [1, 4]) (by kernel_rfl) (by simp) ?_
      refine AllReadyH.cons (i := 1) rfl ?_ (AllReadyH.cons (i := 4) rfl ?_ AllReadyH.nil)
      · go_simp
        intro K hK
        refine (HCut.out _ hs1.b).mono ?_
        rintro e w2 ⟨⟨x1, u1, y1, z1, rfl, hg⟩, hb⟩
        have hs2 := hs1.call1 hg hb
        refine hK.out _ _ hs2.b (fun _ => ?_)
        clear hK K hg hb hs1
        refine wpAnyH_ready (rs := [3, 4]) (by kernel_rfl) (by simp) ?_
        refine AllReadyH.cons (i := 3) rfl ?_ (AllReadyH.cons (i := 4) rfl ?_ AllReadyH.nil)
        · go_simp
          intro K hK
          refine (HCut.out _ hs2.b).mono ?_
          rintro e w3 ⟨⟨x3, u3, y3, z3, rfl, hg⟩, hb⟩
          have hs3 := hs2.call3 hg hb
          refine hK.out _ _ hs3.b (fun _ => ?_)
          clear hK K hg hb hs2
          refine wpAnyH_ready (rs := [4]) (by kernel_rfl) (by simp) ?_
          refine AllReadyH.cons (i := 4) rfl ?_ AllReadyH.nil
          · have hs4 := hs3.alloc4
            go_simp
            intro K hK
            refine hK.out _ _ hs4.b (fun _ => ?_)
            clear hK K hs3
            generalize World.alloc _ _ = w4 at hs4 ⊢
            refine wpAnyH_ready (rs := [6]) (by kernel_rfl) (by simp) ?_
            refine AllReadyH.cons (i := 6) rfl ?_ AllReadyH.nil
            have hz4 := (hs4.fa4 _ rfl).2
            have zz0 := cell_of_row _ _ 0 _ _ _ hz4
            have zz1 := cell_of_row _ _ 1 _ _ _ hz4
            simp at zz0 zz1
            have yy0 := frozen_new hz4 0
            have yy1 := frozen_new hz4 1
            have ht := hs4.put
            go_simp
            intro K hK
            simp only at ht
            generalize (World.setCell (World.setCell _ _ _) _ _) = wx at ht ⊢
            refine hK.out _ _ ht.b (fun _ => ?_)
            clear hK K zz0 zz1 yy0 yy1 hz4
            refine wpAnyH_ready (rs := [7]) (by kernel_rfl) (by simp) ?_
            refine AllReadyH.cons (i := 7) rfl ?_ AllReadyH.nil
            have hz4 := ht.b3
            have zz0 := cell_of_row _ _ 0 _ _ _ hz4
            have zz1 := cell_of_row _ _ 1 _ _ _ hz4
            simp at zz0 zz1
            have yy0 := frozen_new hz4 0
            have yy1 := frozen_new hz4 1
            have ht2 := ht.put
            go_simp
            intro K hK
            simp only at ht2
            generalize (World.setCell (World.setCell _ _ _) _ _) = wy at ht2 ⊢
            refine hK.out _ _ ht2.b (fun _ => ?_)
            clear hK K zz0 zz1 yy0 yy1 hz4
            refine wpAnyH_done (by kernel_rfl) ?_ _
            go_wp2_with fail
            go_meet
            exact ⟨_, _, _, _, _, _, _, _, _, _, rfl, rfl, ht2⟩
        · have hs3 := hs2.alloc4
          go_simp
          intro K hK
          refine hK.out _ _ hs3.b (fun _ => ?_)
          clear hK K hs2
          generalize World.alloc _ _ = w3 at hs3 ⊢
          refine wpAnyH_ready (rs := [3]) (by kernel_rfl) (by simp) ?_
          refine AllReadyH.cons (i := 3) rfl ?_ AllReadyH.nil
          · go_simp
            intro K hK
            refine (HCut.out _ hs3.b).mono ?_
            rintro e w4 ⟨⟨x3, u3, y3, z3, rfl, hg⟩, hb⟩
            have hs4 := hs3.call3 hg hb
            refine hK.out _ _ hs4.b (fun _ => ?_)
            clear hK K hg hb hs3
            refine wpAnyH_ready (rs := [6]) (by kernel_rfl) (by simp) ?_
            refine AllReadyH.cons (i := 6) rfl ?_ AllReadyH.nil
            have hz4 := (hs4.fa4 _ rfl).2
            have zz0 := cell_of_row _ _ 0 _ _ _ hz4
            have zz1 := cell_of_row _ _ 1 _ _ _ hz4
            simp at zz0 zz1
            have yy0 := frozen_new hz4 0
            have yy1 := frozen_new hz4 1
            have ht := hs4.put
            go_simp
            intro K hK
            simp only at ht
            generalize (World.setCell (World.setCell _ _ _) _ _) = wx at ht ⊢
            refine hK.out _ _ ht.b (fun _ => ?_)
            clear hK K zz0 zz1 yy0 yy1 hz4
            refine wpAnyH_ready (rs := [7]) (by kernel_rfl) (by simp) ?_
            refine AllReadyH.cons (i := 7) rfl ?_ AllReadyH.nil
            have hz4 := ht.b3
            have zz0 := cell_of_row _ _ 0 _ _ _ hz4
            have zz1 := cell_of_row _ _ 1 _ _ _ hz4
            simp at zz0 zz1
            have yy0 := frozen_new hz4 0
            have yy1 := frozen_new hz4 1
            have ht2 := ht.put
            go_simp
            intro K hK
            simp only at ht2
            generalize (World.setCell (World.setCell _ _ _) _ _) = wy at ht2 ⊢
            refine hK.out _ _ ht2.b (fun _ => ?_)
            clear hK K zz0 zz1 yy0 yy1 hz4
            refine wpAnyH_done (by kernel_rfl) ?_ _
            go_wp2_with fail
            go_meet
            exact ⟨_, _, _, _, _, _, _, _, _, _, rfl, rfl, ht2⟩
      · have hs2 := hs1.alloc4
        go_simp
        intro K hK
        refine hK.out _ _ hs2.b (fun _ => ?_)
        clear hK K hs1
        generalize World.alloc _ _ = w2 at hs2 ⊢
        refine wpAnyH_ready (rs := [1]) (by kernel_rfl) (by simp) ?_
        refine AllReadyH.cons (i := 1) rfl ?_ AllReadyH.nil
        · go_simp
          intro K hK
          refine (HCut.out _ hs2.b).mono ?_
          rintro e w3 ⟨⟨x1, u1, y1, z1, rfl, hg⟩, hb⟩
          have hs3 := hs2.call1 hg hb
          refine hK.out _ _ hs3.b (fun _ => ?_)
          clear hK K hg hb hs2
          refine wpAnyH_ready (rs := [3]) (by kernel_rfl) (by simp) ?_
          refine AllReadyH.cons (i := 3) rfl ?_ AllReadyH.nil
          · go_simp
            intro K hK
            refine (HCut.out _ hs3.b).mono ?_
            rintro e w4 ⟨⟨x3, u3, y3, z3, rfl, hg⟩, hb⟩
            have hs4 := hs3.call3 hg hb
            refine hK.out _ _ hs4.b (fun _ => ?_)
            clear hK K hg hb hs3
            refine wpAnyH_ready (rs := [6]) (by kernel_rfl) (by simp) ?_
            refine AllReadyH.cons (i := 6) rfl ?_ AllReadyH.nil
            have hz4 := (hs4.fa4 _ rfl).2
            have zz0 := cell_of_row _ _ 0 _ _ _ hz4
            have zz1 := cell_of_row _ _ 1 _ _ _ hz4
            simp at zz0 zz1
            have yy0 := frozen_new hz4 0
            have yy1 := frozen_new hz4 1
            have ht := hs4.put
            go_simp
            intro K hK
            simp only at ht
            generalize (World.setCell (World.setCell _ _ _) _ _) = wx at ht ⊢
            refine hK.out _ _ ht.b (fun _ => ?_)
            clear hK K zz0 zz1 yy0 yy1 hz4
            refine wpAnyH_ready (rs := [7]) (by kernel_rfl) (by simp) ?_
            refine AllReadyH.cons (i := 7) rfl ?_ AllReadyH.nil
            have hz4 := ht.b3
            have zz0 := cell_of_row _ _ 0 _ _ _ hz4
            have zz1 := cell_of_row _ _ 1 _ _ _ hz4
            simp at zz0 zz1
            have yy0 := frozen_new hz4 0
            have yy1 := frozen_new hz4 1
            have ht2 := ht.put
            go_simp
            intro K hK
            simp only at ht2
            generalize (World.setCell (World.setCell _ _ _) _ _) = wy at ht2 ⊢
            refine hK.out _ _ ht2.b (fun _ => ?_)
            clear hK K zz0 zz1 yy0 yy1 hz4
            refine wpAnyH_done (by kernel_rfl) ?_ _
            go_wp2_with fail
            go_meet
            exact ⟨_, _, _, _, _, _, _, _, _, _, rfl, rfl, ht2⟩
  case rest =>
    obtain ⟨j, k, a1, a2, a3, a4, c1, c2, c3, c4, rfl, rfl, hT⟩ := hcut
    have HT : Hid (∀ wq, Below wc.heap.size wc wq → ((wq.cell? ⟨j, 0, none⟩ = some (.slice a1 m1 c1) ∧ wq.cell? ⟨j, 1, none⟩ = some (.slice a2 m2 c2)) ∧ wq.cell? ⟨k, 0, none⟩ = some (.slice a3 m1 c3) ∧ wq.cell? ⟨k, 1, none⟩ = some (.slice a4 m2 c4)) ∧ Below w.heap.size w wq ∧ GrAt wq (.slice a1 m1 c1) (.slice a2 m2 c2) N1 E1 ∧ GrAt wq (.slice a3 m1 c3) (.slice a4 m2 c4) N1 E1) := hidIn fun wq hq => by
      have hk := hT.keep hq
      exact ⟨⟨⟨cell_of_row _ _ 0 _ _ _ hk.b1, cell_of_row _ _ 1 _ _ _ hk.b1⟩, cell_of_row _ _ 0 _ _ _ hk.b3, cell_of_row _ _ 1 _ _ _ hk.b3⟩, HBq.out wq hk.b, hk.g1.at, hk.g3.at⟩
    clear hT HCl HCut HBq
    obtain ⟨⟨⟨f0, f1⟩, _⟩, _, hG, _⟩ := HT.out _ (Below.refl _ _)
    have HC := hidIn (pfrom_any hG a)
    clear hG
    go_wp2_with fail
    refine HC.out.mono ?_
    rintro e w2 ⟨⟨l, u, E, rfl, hp⟩, hb2⟩
    have HP := hidIn hp
    have HB2 := hidIn hb2
    obtain ⟨⟨_, g0, g1⟩, _, _, hG⟩ := HT.out _ hb2
    have HD := hidIn (dfrom_both hG a)
    clear hG hb2 f0 f1 HC hp
    go_wp2_with fail
    refine HD.out.mono ?_
    rintro e w3 ⟨⟨m, u2, E', rfl, hd⟩, hb3⟩
    obtain ⟨hEE, hLL⟩ := HP.out.ans.uniq hd.ans
    subst hEE
    have HLL := hidIn hLL
    have HDf := hidIn hd
    have Hb3 := hidIn hb3
    have HB3 := hidIn (HB2.out.trans (hb3.mono HB2.out.size))
    have HAt3 := hidIn (HP.out.at'.keep hb3 (Nat.le_refl _))
    have HS := hidIn (sameRs_yes HAt3.out.s hd.sl.1 (fun p hp => (HAt3.out.n p hp).1) hd.sl.2 hLL)
    obtain ⟨ua, uc, hu⟩ := HAt3.out.s.rchs
    obtain ⟨hu, _, _, hucell⟩ := hu
    subst hu
    obtain ⟨ua2, uc2, hu2, _⟩ := hd.sl.1.rchs
    subst hu2
    clear hd hb3 g0 g1 HD hLL hucell
    obtain ⟨ll, hll⟩ : ∃ ll, l.length = ll := ⟨_, rfl⟩
    obtain ⟨lm, hlm⟩ : ∃ lm, m.length = lm := ⟨_, rfl⟩
    have Hll := hidIn hll
    have hl25 := HP.out.len
    rw [hll] at HP HAt3 HS hl25 ⊢
    rw [hlm] at HDf HS ⊢
    clear hll hlm
    go_wp2_with fail
    refine HS.out.mono ?_
    rintro e w4 ⟨rfl, hb4⟩
    have HB4 := hidIn (HB3.out.trans (hb4.mono HB3.out.size))
    have HD4 := hidIn (HDf.out.keep hb4)
    have HA4 := hidIn (HAt3.out.keep hb4 (Nat.le_refl _))
    have Hb4 := hidIn (Hb3.out.trans (hb4.mono Hb3.out.size))
    obtain ⟨⟨⟨f0, f1⟩, g0, g1⟩, _, hG1, hG2⟩ := HT.out _ HB4.out
    have HK := hidIn (kept_yes hG1 hG2)
    clear hb4 hG1 hG2 HB3 HDf HAt3 HS Hb3
    go_wp2_with fail
    refine HK.out.mono ?_
    rintro e w5 ⟨rfl, hb5⟩
    have HB5 := hidIn (HB4.out.trans (hb5.mono HB4.out.size))
    have HD5 := hidIn (HD4.out.keep hb5)
    have HA5 := hidIn (HA4.out.keep hb5 (Nat.le_refl _))
    have Hb5 := hidIn (Hb4.out.trans (hb5.mono Hb4.out.size))
    have HO := hidIn (pof_any (t := b) HA5.out)
    clear hb5 f0 f1 g0 g1 HK HB4 HD4 HA4 Hb4
    go_wp2_with fail
    refine HO.out.mono ?_
    rintro e w6 ⟨ho, hb6⟩
    obtain ⟨X, v, bo, rfl, hsX, hof⟩ := ofAns_is ho
    have HsX := hidIn hsX
    have Hof := hidIn hof
    have HB6 := hidIn (HB5.out.trans (hb6.mono HB5.out.size))
    have HD6 := hidIn (HD5.out.keep hb6)
    have HA6 := hidIn (HA5.out.keep hb6 (Nat.le_refl _))
    have Hb6 := hidIn (Hb5.out.trans (hb6.mono Hb5.out.size))
    clear ho hsX hof hb6 HO HB5 HD5 HA5 Hb5
    obtain ⟨xa, xc, hvs, _⟩ := HsX.out.ints
    obtain ⟨xl, hxl⟩ : ∃ xl, X.next.length = xl := ⟨_, rfl⟩
    rw [hxl] at hvs
    rw [hvs] at HsX ⊢
    obtain ⟨W7, hW7⟩ : ∃ W7, w6.alloc (.cells #[.int .i64 X.node, .int .i64 X.cost, .int .i64 X.least, .int .i64 X.most, .slice xa xl xc] 34) = W7 := ⟨_, rfl⟩
    have b7 : Below w6.heap.size w6 W7 := by rw [← hW7]; exact (Below.refl _ w6).alloc (Nat.le_refl _) _
    have hX7 : W7.heap[w6.heap.size]? = some (.cells #[.int .i64 X.node, .int .i64 X.cost, .int .i64 X.least, .int .i64 X.most, .slice xa xl xc] 34) := by rw [← hW7]; exact heap_alloc_last w6 _
    obtain ⟨q7, hq7⟩ : ∃ q7, w6.heap.size = q7 := ⟨_, rfl⟩
    rw [hq7] at hX7
    have HB7 := hidIn (HB6.out.trans (b7.mono HB6.out.size))
    have HD7 := hidIn (HD6.out.keep b7)
    have HA7 := hidIn (HA6.out.keep b7 (Nat.le_refl _))
    have Hb7 := hidIn (Hb6.out.trans (b7.mono Hb6.out.size))
    have HX7 := hidIn hX7
    have HsX7 := hidIn (HsX.out.keep b7 (Nat.le_refl _))
    have HW7 := hidIn hW7
    have HO2 := hidIn (dof_any HD7.out.sl.1 (fun p hp => by
      obtain ⟨a, c, h, _⟩ := (HD7.out.sl.2 p hp).ints
      exact ⟨a, _, c, h⟩) b)
    clear hW7 b7 hX7 hvs HB6 HD6 HA6 Hb6 HsX hxl
    go_upto_region 7 with fail
    rw [HW7.out]
    clear HW7 hq7
    go_wp2_with fail
    refine HO2.out.mono ?_
    rintro e w8 ⟨ho, hb8⟩
    have HD8 := hidIn (HD7.out.keep hb8)
    obtain ⟨Y, v8, b8, rfl, hsY, hof⟩ := dofAns_is HD8.out.sl.2 ho
    rw [← HLL.out] at hof
    obtain ⟨hXY, hbb⟩ := Hof.out.uniq hof
    subst hXY hbb
    have HsY := hidIn hsY
    have HB8 := hidIn (HB7.out.trans (hb8.mono HB7.out.size))
    have HA8 := hidIn (HA7.out.keep hb8 (Nat.le_refl _))
    have Hb8 := hidIn (Hb7.out.trans (hb8.mono Hb7.out.size))
    have HX8 := hidIn ((hb8.block _ (block_lt HX7.out)).trans HX7.out)
    have HsX8 := hidIn (HsX7.out.keep hb8 (Nat.le_refl _))
    clear ho hsY hof hb8 HO2 HB7 HD7 HA7 Hb7 HX7 HsX7 Hof
    obtain ⟨ya, yc, hvs, _⟩ := HsY.out.ints
    have hxl2 := HsX8.out
    obtain ⟨xl', hxl'⟩ : ∃ xl', X.next.length = xl' := ⟨_, rfl⟩
    rw [hxl'] at hvs
    rw [hvs] at HsY ⊢
    obtain ⟨W9, hW9⟩ : ∃ W9, w8.alloc (.cells #[.int .i64 X.node, .int .i64 X.cost, .int .i64 X.least, .int .i64 X.most, .slice ya xl' yc] 34) = W9 := ⟨_, rfl⟩
    have b9 : Below w8.heap.size w8 W9 := by rw [← hW9]; exact (Below.refl _ w8).alloc (Nat.le_refl _) _
    have hY9 : W9.heap[w8.heap.size]? = some (.cells #[.int .i64 X.node, .int .i64 X.cost, .int .i64 X.least, .int .i64 X.most, .slice ya xl' yc] 34) := by rw [← hW9]; exact heap_alloc_last w8 _
    obtain ⟨q9, hq9⟩ : ∃ q9, w8.heap.size = q9 := ⟨_, rfl⟩
    rw [hq9] at hY9
    have HB9 := hidIn (HB8.out.trans (b9.mono HB8.out.size))
    have HD9 := hidIn (HD8.out.keep b9)
    have HA9 := hidIn (HA8.out.keep b9 (Nat.le_refl _))
    have Hb9 := hidIn (Hb8.out.trans (b9.mono Hb8.out.size))
    have hX9 := (b9.block _ (block_lt HX8.out)).trans HX8.out
    have HSm := hidIn (sameR_yes (HsX8.out.keep b9 (Nat.le_refl _)) (HsY.out.keep b9 (Nat.le_refl _)))
    have HW9 := hidIn hW9
    have x0 := cell_of_row _ _ 0 _ _ _ hX9
    have x1 := cell_of_row _ _ 1 _ _ _ hX9
    have x2 := cell_of_row _ _ 2 _ _ _ hX9
    have x3 := cell_of_row _ _ 3 _ _ _ hX9
    have x4 := cell_of_row _ _ 4 _ _ _ hX9
    have y0 := cell_of_row _ _ 0 _ _ _ hY9
    have y1 := cell_of_row _ _ 1 _ _ _ hY9
    have y2 := cell_of_row _ _ 2 _ _ _ hY9
    have y3 := cell_of_row _ _ 3 _ _ _ hY9
    have y4 := cell_of_row _ _ 4 _ _ _ hY9
    simp at x0 x1 x2 x3 x4 y0 y1 y2 y3 y4
    clear hW9 b9 hY9 hX9 hvs HB8 HD8 HA8 Hb8 HsX8 HsY HX8 hxl2 hxl'
    go_upto_region 8 with fail
    rw [HW9.out]
    clear HW9 hq9
    go_wp2_with fail
    refine HSm.out.mono ?_
    rintro e wA ⟨rfl, hbA⟩
    have HBA := hidIn (HB9.out.trans (hbA.mono HB9.out.size))
    have HDA := hidIn (HD9.out.keep hbA)
    have HAA := hidIn (HA9.out.keep hbA (Nat.le_refl _))
    have HbA := hidIn (Hb9.out.trans (hbA.mono Hb9.out.size))
    clear hbA HSm HB9 HD9 HA9 Hb9 x0 x1 x2 x3 x4 y0 y1 y2 y3 y4
    have HOwn : Hid (∀ p ∈ l, ∀ a n c, p.2 = .slice (some a) n c → wc.heap.size ≤ a.block ∧ a.block < w2.heap.size ∧ ∃ cur, wA.heap[a.block]? = some (.cells cur 3)) := hidIn fun p hp a n c he => by
      obtain ⟨h1, cur, h3⟩ := HP.out.own p hp a n c he
      exact ⟨h1, block_lt h3, cur, (HbA.out.block _ (block_lt h3)).trans h3⟩
    have HRow : Hid (∃ B, wA.ownsRow B 34 5 (.slice ua ll uc) ll (fl rwc l)) := hidIn (by
      obtain ⟨B, h1⟩ := HP.out.row
      rw [Hll.out] at h1
      exact ⟨B, row_below h1 HbA.out (Nat.le_refl _)⟩)
    have HTn : Hid (∀ wq, Tnd wc.heap.size w2.heap.size wA wq → Below wc.heap.size wc wq ∧ DFr w2.heap.size wq N1 E1 a E (.slice ua2 lm uc2) m ∧ SlAt rwc 5 wq (.slice ua ll uc) l) := hidIn fun wq hq => by
      refine ⟨HBA.out.trans (hq.fr.below HBA.out.size (fun k hk => hk.1)), HDA.out.fr hq.fr (fun k hk => hk.2.1), ?_⟩
      obtain ⟨B, h1⟩ := HRow.out
      exact slAt_of_row (cs := rwc) (fun _ => rfl) (hq.row h1 (by decide)) Hll.out
    clear HbA HBA HDA HRow HP
    go_wp2_with fail
    go_loopw [17] (fun i wr => ∃ k : Nat, k ≤ ll ∧ i = .int .i64 k ∧ Hid (Tnd wc.heap.size w2.heap.size wA wr)) (fun i _ => ll - (intOf i).toNat)
    case atStart => exact ⟨0, Nat.zero_le _, rfl, hidIn (Tnd.refl _ _ _)⟩
    case round =>
      obtain ⟨i, hi, rfl, HN⟩ := hrel
      by_cases hlt : i < ll
      · have hii : (i : Int) < (ll : Int) := by omega
        obtain ⟨⟨x, v'⟩, hx⟩ : ∃ x, l[i]? = some x := ⟨l[i]'(by have := Hll.out; omega), List.getElem?_eq_getElem _⟩
        have hmem := List.mem_of_getElem? hx
        obtain ⟨hsn, _, hnl2⟩ := HAA.out.n _ hmem
        simp only at hsn hnl2
        obtain ⟨va, vc, hvs, _, _, hvcell⟩ := hsn.ints
        subst hvs
        have HVc := hidIn hvcell
        have HOw := hidIn (HOwn.out _ hmem)
        obtain ⟨vl, hvl⟩ : ∃ vl, x.next.length = vl := ⟨_, rfl⟩
        have Hvl := hidIn hvl
        rw [hvl] at HVc HOw hnl2 hx
        have HSl : Hid (∀ wq, Tnd wc.heap.size w2.heap.size wA wq → ∃ rb ro, ua = some ⟨rb, ro, none⟩ ∧ wq.cell? ⟨rb, ro + i * 5 + 4, none⟩ = some (.slice va vl vc)) := hidIn fun wq hq => by
          obtain ⟨a', c', he, _, _, hc⟩ := (HTn.out wq hq).2.2.rchs
          obtain ⟨rb, ro, h1, _, h2⟩ := hc (by have := Hll.out; omega)
          simp only [Value.slice.injEq] at he
          exact ⟨rb, ro, he.1.trans h1, (h2 i _ hx).2.2.2.2⟩
        obtain ⟨rb, ro, hua, c4⟩ := HSl.out wr HN.out
        subst hua
        clear hsn hvcell hvl hx hmem
        go_wp2_with fail
        go_loopw [18] (fun j wr => ∃ n : Nat, n ≤ vl ∧ j = .int .i64 n ∧ Hid (Tnd wc.heap.size w2.heap.size wA wr)) (fun j _ => vl - (intOf j).toNat)
        case atStart => exact ⟨0, Nat.zero_le _, rfl, HN⟩
        case round =>
          clear c4 HN
          obtain ⟨n, hn, rfl, HN⟩ := hrel
          obtain ⟨rb', ro', hua, c4⟩ := HSl.out wr HN.out
          simp only [Option.some.injEq, Addr.mk.injEq, and_true] at hua
          obtain ⟨rfl, rfl⟩ := hua
          by_cases hltn : n < vl
          · have hni : (n : Int) < (vl : Int) := by omega
            obtain ⟨g, o, rfl, hg, hgc⟩ := HVc.out (by have := Hvl.out; omega)
            obtain ⟨h1, h2, cur, h3⟩ := HOw.out ⟨g, o, none⟩ vl vc rfl
            simp only at h1 h2 h3
            obtain ⟨z, hz⟩ : ∃ z, x.next[n]? = some z := ⟨x.next[n]'(by have := Hvl.out; omega), List.getElem?_eq_getElem _⟩
            have hcz := hgc n z hz
            rw [cell_of_row _ _ (o + n) _ _ _ h3] at hcz
            have hsz := (Array.getElem?_eq_some_iff.1 hcz).1
            obtain ⟨cur', h4, h5⟩ := HN.out.ty g cur h3
            have cw := cell_of_row _ _ (o + n) _ _ _ h4
            rw [Array.getElem?_eq_getElem (by omega)] at cw
            have yw := frozen_new h4 (o + n)
            have HNx := hidIn (HN.out.set (j := o + n) h1 h2 h3 (.int .i64 99))
            generalize cur'[o + n]'(by omega) = old at cw
            clear h1 h2 h3 h4 h5 hgc hcz hsz hz hg
            go_wp2_with fail
            go_roundw
            case rel => exact ⟨n + 1, by omega, by go_num, HNx⟩
            case measure => simp [intOf]; omega
          · have hni : ¬ ((n : Int) < (vl : Int)) := by omega
            go_wp2_with fail
            go_roundw
            case rel => exact ⟨i + 1, by omega, by go_num, HN⟩
            case measure => simp [intOf]; omega
      · have hii : ¬ ((i : Int) < (ll : Int)) := by omega
        obtain ⟨hBq, hDq, _⟩ := HTn.out wr HN.out
        have HBq := hidIn hBq
        have HDq := hidIn hDq
        obtain ⟨⟨⟨f0, f1⟩, _⟩, _, hG, _⟩ := HT.out _ hBq
        have HC := hidIn (pfrom_any hG a)
        clear hBq hDq hG HTn HN
        go_wp2_with fail
        refine HC.out.mono ?_
        rintro e wD ⟨⟨n, u3, E3, rfl, hp⟩, hbD⟩
        obtain ⟨_, hLn⟩ := hp.ans.uniq HDq.out.ans
        have HDD := hidIn (HDq.out.keep hbD)
        have HS := hidIn (sameRs_yes hp.at'.s HDD.out.sl.1 (fun p hp' => (hp.at'.n p hp').1) HDD.out.sl.2 hLn)
        have HBD := hidIn (HBq.out.trans (hbD.mono HBq.out.size))
        clear hp hLn hbD HDq HBq HC f0 f1
        go_wp2_with fail
        refine HS.out.mono ?_
        rintro e wE ⟨rfl, hbE⟩
        have HBE := hidIn (HBD.out.trans (hbE.mono HBD.out.size))
        clear hbE HBD HS
        go_wp2_with fail
        refine (works_any _).mono ?_
        rintro e wF ⟨rfl, hbF⟩
        have HBz := hidIn (HT.out wF (HBE.out.trans (hbF.mono HBE.out.size))).2.1
        clear hbF HBE HT
        go_wp2_with fail
        go_ret
        exact ⟨rfl, HBz.out⟩
end Go.Proofs.Ytabnecicidkmhaa
namespace Go.Proofs.Ytabnecicidkmhaa
open Go.ChangeShapes Go.WideShapes Go.ChangeAt Go.RowKit

section
variable {H : Type} {enc : TypeId × Value → H} {W : World}
theorem cU8 : Try.prog.cellsOf 5 = 1 := by kernel_rfl
theorem cLk8 : Try.prog.cellsOf 89 = 3 := by kernel_rfl
theorem bLk8 : Try.prog.bytesOf 89 = 3 := by kernel_rfl
theorem lk8F : Try.prog.underlying 89 = some (.struct #[(Try.prog.fieldsOf 89)[0]!, (Try.prog.fieldsOf 89)[1]!, (Try.prog.fieldsOf 89)[2]!]) := by kernel_rfl
theorem lk8F' : (((Try.prog.fieldsOf 89)[0]!).type = 5 ∧ ((Try.prog.fieldsOf 89)[0]!).offset = 0) ∧ (((Try.prog.fieldsOf 89)[1]!).type = 5 ∧ ((Try.prog.fieldsOf 89)[1]!).offset = 1) ∧ ((Try.prog.fieldsOf 89)[2]!).type = 5 ∧ ((Try.prog.fieldsOf 89)[2]!).offset = 2 := ⟨⟨by kernel_rfl, by kernel_rfl⟩, ⟨by kernel_rfl, by kernel_rfl⟩, by kernel_rfl, by kernel_rfl⟩
set_option maxRecDepth 100000 in
theorem lk8_cells {n : Nat} {cs' : List Value} {x : DataW H × List MemPlace} (h : DataW.trod enc Try.prog W 0 (fun _ => true) true n 89 cs' = some x) : ∃ y : Ed, cs' = lc3 y ∧ (0 ≤ y.1 ∧ y.1 ≤ 255) ∧ (0 ≤ y.2.1 ∧ y.2.1 ≤ 255) ∧ 0 ≤ y.2.2 ∧ y.2.2 ≤ 255 := by
  obtain ⟨y0, y1, y2, k, _, hlen, h0, h1, h2⟩ := Deep.trod_struct3 lk8F h
  obtain ⟨⟨a0, b0⟩, ⟨a1, b1⟩, a2, b2⟩ := lk8F'
  rw [cLk8] at hlen
  match cs', hlen with
  | [v0, v1, v2], _ =>
    rw [a0, b0, cU8] at h0
    rw [a1, b1, cU8] at h1
    rw [a2, b2, cU8] at h2
    obtain ⟨p, hp, _, wp⟩ := DataW.trod_int Try.underlying5 h0
    obtain ⟨q, hq, _, wq⟩ := DataW.trod_int Try.underlying5 h1
    obtain ⟨r, hr, _, wr⟩ := DataW.trod_int Try.underlying5 h2
    simp at hp hq hr
    exact ⟨(p, q, r), by rw [hp, hq, hr], bounds_u8 wp, bounds_u8 wq, bounds_u8 wr⟩
set_option maxRecDepth 100000 in
theorem lk8_arg {a : Option Addr} {len cap : Nat} {d : DataW H} {p : List MemPlace} (h : DataW.Trod enc Try.prog W 0 (fun _ => true) true 90 (.slice a len cap) d p) (hw : ∀ n ∈ d.weights Try.prog 90, n ≤ reachBytes) :
    ∃ ls, SlAt lc3 3 W (.slice a len cap) ls ∧ LkB ls ∧ NilOk (.slice a len cap) ∧ (ls.length + 1) * 3 ≤ 140737488355328 := by
  obtain ⟨fuel, hf⟩ := h
  obtain ⟨ns, hn1, hn2, hG, hn3⟩ := open_sl (0, 0, 0) (cs := lc3) (sz := 3) (fun _ => rfl) (by omega) Try.underlying90 cLk8 (fun n cs' x h => lk8_cells h) (by simpa [Value.cells] using hf)
  exact ⟨ns, hn1, hG, hn2, slice_weight Try.underlying90 bLk8 (by omega) hw (by rcases hn3 with rfl | h; exact .inl rfl; exact .inr h)⟩
end
end Go.Proofs.Ytabnecicidkmhaa
