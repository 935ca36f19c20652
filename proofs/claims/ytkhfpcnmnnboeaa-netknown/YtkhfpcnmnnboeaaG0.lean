/- Graphs as lists: what may be, the graph of records, who can be come to. -/
import Derived.Handy
namespace Go.Proofs.Ytkhfpcnmnnboeaa

/-- An edge: from, to, cost. -/
abbrev Ed : Type := Int × Int × Int
/-- A record: origin, epoch, seq, claim, ingress, neighbours. -/
structure Rc where
  origin : Int
  epoch : Int
  seq : Int
  claim : Int
  ing : Bool
  adjs : List (Int × Int)
def isR (n : Int) : Bool := decide (1 ≤ n) && decide (n ≤ 24)
def isC (n : Int) : Bool := decide (1 ≤ n) && decide (n ≤ 1000)
theorem isR_iff {n : Int} : isR n = true ↔ 1 ≤ n ∧ n ≤ 24 := by simp [isR]
theorem isC_iff {n : Int} : isC n = true ↔ 1 ≤ n ∧ n ≤ 1000 := by simp [isC]
def nodesOk : Int → List Int → Bool
  | _, [] => true
  | last, n :: ns => isR n && (decide (last < n) && nodesOk n ns)
def risesE (a b : Ed) : Bool := decide (a.1 < b.1) || (decide (a.1 = b.1) && decide (a.2.1 < b.2.1))
def hasN (ns : List Int) (n : Int) : Bool := ns.any fun x => decide (x = n)
theorem hasN_iff {ns : List Int} {n : Int} : hasN ns n = true ↔ n ∈ ns := by
  unfold hasN
  rw [List.any_eq_true]
  constructor
  · rintro ⟨x, hx, h⟩
    simp at h
    rw [← h]; exact hx
  · intro h
    exact ⟨n, h, by simp⟩
def edgeOk (ns : List Int) (last e : Ed) : Bool := hasN ns e.1 && (hasN ns e.2.1 && (!decide (e.1 = e.2.1) && (isC e.2.2 && risesE last e)))
def edgesOk (ns : List Int) : Ed → List Ed → Bool
  | _, [] => true
  | last, e :: es => edgeOk ns last e && edgesOk ns e es
def graphOk (ns : List Int) (es : List Ed) : Bool := nodesOk 0 ns && (decide (es.length ≤ 384) && edgesOk ns (0, 0, 0) es)
theorem nodesOk_bd : ∀ (ns : List Int) (last : Int), nodesOk last ns = true → ∀ n ∈ ns, 1 ≤ n ∧ n ≤ 24 ∧ last < n
  | [], _, _, n, hn => by simp at hn
  | m :: ns, last, h, n, hn => by
    simp only [nodesOk, Bool.and_eq_true, decide_eq_true_eq, isR_iff] at h
    rcases List.mem_cons.1 hn with rfl | hn
    · exact ⟨h.1.1, h.1.2, h.2.1⟩
    · have := nodesOk_bd ns m h.2.2 n hn
      exact ⟨this.1, this.2.1, by omega⟩
theorem edgesOk_bd : ∀ (ns : List Int) (es : List Ed) (last : Ed), edgesOk ns last es = true → ∀ e ∈ es, e.1 ∈ ns ∧ e.2.1 ∈ ns
  | ns, [], _, _, e, he => by simp at he
  | ns, x :: es, last, h, e, he => by
    simp only [edgesOk, edgeOk, Bool.and_eq_true, hasN_iff] at h
    rcases List.mem_cons.1 he with rfl | he
    · exact ⟨h.1.1, h.1.2.1⟩
    · exact edgesOk_bd ns es x h.2 e he
/-- What a graph that may be has: numbers of routers. -/
theorem graphOk_bd {ns : List Int} {es : List Ed} (h : graphOk ns es = true) : (∀ n ∈ ns, 1 ≤ n ∧ n ≤ 24) ∧ (∀ e ∈ es, e.1 ∈ ns ∧ e.2.1 ∈ ns) ∧ es.length ≤ 384 := by
  simp only [graphOk, Bool.and_eq_true, decide_eq_true_eq] at h
  exact ⟨fun n hn => ⟨(nodesOk_bd ns 0 h.1 n hn).1, (nodesOk_bd ns 0 h.1 n hn).2.1⟩, edgesOk_bd ns es _ h.2.2, h.2.1⟩

/-- The neighbours of a node. -/
def nearL (es : List Ed) (n : Int) : List (Int × Int) := (es.filter fun e => decide (e.1 = n)).map fun e => (e.2.1, e.2.2)
/-- The marked numbers. -/
def markedL (f : Nat → Bool) : List Int := ((List.range 25).filter f).map fun (i : Nat) => (i : Int)
/-- One mark more. -/
def mk1 (f : Nat → Bool) (n : Nat) : Nat → Bool := fun i => if i = n then true else f i
theorem mk1_same (f : Nat → Bool) (n : Nat) : mk1 f n n = true := by simp [mk1]
theorem mk1_iff {f : Nat → Bool} {n i : Nat} : mk1 f n i = true ↔ i = n ∨ f i = true := by
  unfold mk1
  by_cases h : i = n <;> simp [h]
def no1 : Nat → Bool := fun _ => false

/-- Who can be come to from a node: in each set that has it and is left by no edge. -/
def Rch (es : List Ed) (n x : Int) : Prop := ∀ S : Int → Prop, S n → (∀ e ∈ es, S e.1 → S e.2.1) → S x
theorem Rch.refl (es : List Ed) (n : Int) : Rch es n n := fun _ h _ => h
theorem Rch.step {es : List Ed} {n : Int} {e : Ed} (h : Rch es n e.1) (he : e ∈ es) : Rch es n e.2.1 := fun S h1 h2 => h2 e he (h S h1 h2)
theorem Rch.trans {es : List Ed} {a b c : Int} (h : Rch es a b) (k : Rch es b c) : Rch es a c := fun S h1 h2 => k S (h S h1 h2) h2
theorem Rch.symm {es : List Ed} (hs : ∀ e ∈ es, ∃ e' ∈ es, e'.1 = e.2.1 ∧ e'.2.1 = e.1) {a b : Int} (h : Rch es a b) : Rch es b a := by
  refine h (fun z => Rch es z a) (Rch.refl _ _) fun e he h1 => ?_
  obtain ⟨e', he', h2, h3⟩ := hs e he
  have h4 : Rch es e'.1 e'.2.1 := (Rch.refl es e'.1).step he'
  rw [h2, h3] at h4
  exact h4.trans h1
theorem Rch.mem {es : List Ed} {ns : List Int} {a b : Int} (h : Rch es a b) (ha : a ∈ ns) (he : ∀ e ∈ es, e.1 ∈ ns ∧ e.2.1 ∈ ns) : b ∈ ns :=
  h (fun z => z ∈ ns) ha (fun e h1 _ => (he e h1).2)
/-- What is marked are just those that can be come to. -/
structure IsPart (es : List Ed) (n : Int) (f : Nat → Bool) : Prop where
  sound : ∀ i, f i = true → Rch es n (i : Int)
  full : ∀ i : Nat, i < 25 → Rch es n (i : Int) → f i = true
theorem markedL_congr {f g : Nat → Bool} (h : ∀ i, i < 25 → f i = g i) : markedL f = markedL g := by
  unfold markedL
  rw [List.filter_congr fun x hx => h x (by simpa using hx)]
theorem IsPart.same {es : List Ed} {n : Int} {f g : Nat → Bool} (h : IsPart es n f) (k : IsPart es n g) : markedL f = markedL g :=
  markedL_congr fun i hi => by
    have h1 : f i = true ↔ g i = true := ⟨fun e => k.full i hi (h.sound i e), fun e => h.full i hi (k.sound i e)⟩
    cases hf : f i <;> cases hg : g i <;> simp [hf, hg] at h1 <;> rfl
/-- A set of marks that is left by no edge and sound is the part. -/
theorem isPart_of {es : List Ed} {ns : List Int} {n : Int} {f : Nat → Bool} (hn : n ∈ ns) (he : ∀ e ∈ es, e.1 ∈ ns ∧ e.2.1 ∈ ns)
    (hs : ∀ i, f i = true → Rch es n (i : Int)) (h0 : f n.toNat = true) (hc : ∀ e ∈ es, f e.1.toNat = true → f e.2.1.toNat = true) : IsPart es n f := by
  refine ⟨hs, fun i _ h => ?_⟩
  have h1 : (i : Int) ∈ ns ∧ f (i : Int).toNat = true := h (fun z => z ∈ ns ∧ f z.toNat = true) ⟨hn, h0⟩ fun e h2 h3 => ⟨(he e h2).2, hc e h2 h3.2⟩
  simpa using h1.2
end Go.Proofs.Ytkhfpcnmnnboeaa
