/- FatePlays: slices kept and cleared; the two plans beside each other. -/
import Derived.Test.YtkkgbcoclfpicaaFP3
import Derived.Test.YtkkgbcoclfpicaaFK0
namespace Go.Proofs.Ytkkgbcoclfpicaa.Fa
open Go.RowKit

theorem slAt_first {α : Type} {cs : α → List Value} {sz : Nat} {w : World} {a : Option Addr} {n cap : Nat} {l : List α} (h : SlAt cs sz w (.slice a n cap) l) (k : Nat) : SlAt cs sz w (.slice a (l.take k).length cap) (l.take k) := by
  obtain ⟨a, cap, he, h0, h1, h2⟩ := h
  simp at he
  obtain ⟨rfl, _, rfl⟩ := he
  have hk : (l.take k).length ≤ l.length := by rw [List.length_take]; omega
  refine ⟨_, _, rfl, by omega, by omega, fun hp => ?_⟩
  obtain ⟨bk, o, rfl, h3, h4⟩ := h2 (by omega)
  refine ⟨bk, o, rfl, h3, fun j x hx i u hu => h4 j x ?_ i u hu⟩
  rw [List.getElem?_take] at hx
  split at hx
  · exact hx
  · cases hx
theorem slAt_fr {α : Type} {cs : α → List Value} {sz : Nat} {w w' : World} {v : Value} {l : List α} {S : Nat → Prop} (h : SlAt cs sz w v l) (hF : Fr S w w') (hS : 0 < l.length → ∀ j, v.ownBlock = some j → ¬ S j) : SlAt cs sz w' v l := by
  obtain ⟨a, cap, rfl, h0, h1, h2⟩ := h
  refine ⟨a, cap, rfl, h0, h1, fun hp => ?_⟩
  obtain ⟨bk, o, rfl, h3, h4⟩ := h2 hp
  refine ⟨bk, o, rfl, Nat.lt_of_lt_of_le h3 hF.size, fun j x hx i u hu => ?_⟩
  have := h4 j x hx i u hu
  unfold World.cell? at this ⊢
  rw [hF.block bk h3 (hS hp bk rfl)]
  exact this
theorem fl_set5 (z : Ru) : ∀ (l : List Ru) (k : Nat), k < l.length → ((((((fl ruC l).set (k * 5) (.int .i64 z.1)).set (k * 5 + 1) (.int .i64 z.2.1)).set (k * 5 + 2) (.int .i64 z.2.2.1)).set (k * 5 + 3) (.int .i64 z.2.2.2.1)).set (k * 5 + 4) (.int .i64 z.2.2.2.2)) = fl ruC (l.set k z)
  | [], k, h => by simp at h
  | x :: l, 0, _ => by simp [fl]
  | x :: l, k + 1, h => by
    have ih := fl_set5 z l k (by simpa using h)
    have e : (k + 1) * 5 = k * 5 + 5 := by omega
    have hc : fl ruC (x :: l) = .int .i64 x.1 :: .int .i64 x.2.1 :: .int .i64 x.2.2.1 :: .int .i64 x.2.2.2.1 :: .int .i64 x.2.2.2.2 :: fl ruC l := by simp [fl]
    have hc' : fl ruC (x :: l.set k z) = .int .i64 x.1 :: .int .i64 x.2.1 :: .int .i64 x.2.2.1 :: .int .i64 x.2.2.2.1 :: .int .i64 x.2.2.2.2 :: fl ruC (l.set k z) := by simp [fl]
    rw [List.set_cons_succ, hc', ← ih, hc, e]
    simp only [show k * 5 + 5 + 1 = (k * 5 + 1) + 5 from by omega, show k * 5 + 5 + 2 = (k * 5 + 2) + 5 from by omega, show k * 5 + 5 + 3 = (k * 5 + 3) + 5 from by omega, show k * 5 + 5 + 4 = (k * 5 + 4) + 5 from by omega, List.set_cons_succ]
theorem rep_set {L : List Ru} {k : Nat} (h : k < L.length) : (List.replicate k zR5 ++ L.drop k).set k zR5 = List.replicate (k + 1) zR5 ++ L.drop (k + 1) := by
  apply List.ext_getElem?
  intro i
  rw [List.getElem?_set, List.getElem?_append, List.getElem?_append]
  simp only [List.length_append, List.length_replicate, List.length_drop, List.getElem?_replicate, List.getElem?_drop]
  by_cases h1 : i < k
  · simp [h1, show ¬ k = i from by omega, show i < k + 1 from by omega]
  · by_cases h2 : i = k
    · subst h2
      simp
      omega
    · simp [h1, show ¬ k = i from fun e => h2 e.symm, show ¬ i < k + 1 from by omega]
      congr 1
      omega
theorem rep_get {L : List Ru} {k : Nat} {r : Ru} (h : L[k]? = some r) : (List.replicate k zR5 ++ L.drop k)[k]? = some r := by
  rw [List.getElem?_append_right (by simp)]
  simpa using h
/-- The document's plan in its box. -/
structure Ow (w : World) (x : Nat) (v u : Value) (A : List (Int × Int)) : Prop where
  ob : w.heap[x]? = some (.cells #[v, u] 35)
  ou : SlAt i2C 2 w u A
  on : NilOk u
  op : ∀ p ∈ A, isP p.1 p.2 = true
theorem cnt_none {A : List (Int × Int)} (h : ∀ p ∈ A, isP p.1 p.2 = true) {a b : Int} (hp : isP a b = false) : cntP A a b = 0 := by
  unfold cntP
  rw [List.length_eq_zero_iff, List.filter_eq_nil_iff]
  intro p hpm he
  have h1 := h p hpm
  simp at he
  rw [he.1, he.2, hp] at h1
  cases h1
theorem row_ty {w : World} {base k sz : Nat} {e : TypeId} {u : Value} {xs : List Value} (h : w.ownsRow base e sz u k xs) {j : Nat} (hj : u.ownBlock = some j) : ∃ cur, w.heap[j]? = some (.cells cur e) := by
  rcases h.2 with ⟨rfl, _⟩ | ⟨g, cap, cur, rfl, _, hh, _⟩
  · simp [Value.ownBlock] at hj
  · simp [Value.ownBlock] at hj
    subst hj
    exact ⟨cur, hh⟩
/-- What a message makes of what was asked, of the fates. -/
def askA (A : List (Int × Int)) (a b : Int) : List (Int × Int) := if isP a b = true then A ++ [(a, b)] else A
def askF (l : List Ru) (A : List (Int × Int)) (a b : Int) : Ft := if isP a b = true then ftO (findR l (a, b, (cntP (A ++ [(a, b)]) a b : Int))) else (0, 0, 0)
def askE (a b : Int) : Int := if isP a b = true then 0 else 2
theorem askA_len (A : List (Int × Int)) (a b : Int) : (askA A a b).length ≤ A.length + 1 := by
  unfold askA
  split
  · simp
  · omega
theorem askA_ok {A : List (Int × Int)} (h : ∀ p ∈ A, isP p.1 p.2 = true) (a b : Int) : ∀ p ∈ askA A a b, isP p.1 p.2 = true := by
  unfold askA
  by_cases hp : isP a b = true
  · rw [if_pos hp]
    intro p hm
    rcases List.mem_append.1 hm with hm | hm
    · exact h p hm
    · rw [List.mem_singleton.1 hm]; exact hp
  · rw [if_neg hp]
    exact h
theorem plan_ask {P m : Nat} {l : List Ru} (hl : RsOk l) {A : List (Int × Int)} {w : World} (h : PlAt w P m (restR l (cntF A)) (cntF A)) (hA : A.length ≤ 1000) (a b : Int) :
    Calls Try.prog 10 #[pp P, .int .i64 a, .int .i64 b] w fun e w' => e = .returned (.tuple #[ftV (askF l A a b), .int .i64 (askE a b)]) ∧ PlAt w' P m (restR l (cntF (askA A a b))) (cntF (askA A a b)) ∧ Fr (fun j => j = P ∨ j = m) w w' := by
  cases hp : isP a b with
  | false =>
    refine (fask_no h.b hp).mono ?_
    rintro e w' ⟨rfl, hb⟩
    have e1 : askA A a b = A := by simp [askA, hp]
    rw [e1]
    exact ⟨by simp [askF, askE, hp], h.below hb h.b.lt h.m.lt, Fr.of_below hb⟩
  | true =>
    have hq := isP_iff.1 hp
    obtain ⟨x, rfl⟩ := Int.eq_ofNat_of_zero_le (show 0 ≤ a by omega)
    obtain ⟨y, rfl⟩ := Int.eq_ofNat_of_zero_le (show 0 ≤ b by omega)
    have e1 : askA A (x : Int) (y : Int) = A ++ [((x : Int), (y : Int))] := by simp [askA, hp]
    have e2 : cntF A x y + 1 = (cntP (A ++ [((x : Int), (y : Int))]) x y : Int) := by
      rw [cntP_snoc]
      simp [cntF]
    have := fask_rest hl h hp (by have := cntP_le A x y; unfold cntF; omega)
    rw [← cntF_snoc, e2] at this
    rw [e1]
    refine this.mono ?_
    rintro e w' ⟨rfl, h1, h2⟩
    exact ⟨by simp [askF, askE, hp], h1, h2⟩
theorem doc_ask {l : List Ru} {A : List (Int × Int)} {v u : Value} {w : World} (hok : RsOk l) (g : SlAt ruC 5 w v l) (h : SlAt i2C 2 w u A) (hn : NilOk u) (hA : A.length ≤ 500) (a b : Int) :
    Calls Try.prog 11 #[.agg #[v, u], .int .i64 a, .int .i64 b] w fun e w' => ∃ u', e = .returned (.tuple #[.agg #[v, u'], ftV (askF l A a b), .int .i64 (askE a b)]) ∧ SlAt i2C 2 w' u' (askA A a b) ∧ NilOk u' ∧ ((u' = u ∧ askA A a b = A) ∨ ∀ j, u'.ownBlock = some j → w.heap.size ≤ j) ∧ Below w.heap.size w w' := by
  refine (dask_any hok g h hn hA a b).mono ?_
  rintro e w' ⟨hb, ⟨hp, rfl⟩ | ⟨hp, u', rfl, h1, h2, h3⟩⟩
  · exact ⟨u, by simp [askF, askE, hp], by simpa [askA, hp] using h.keep hb (Nat.le_refl _), hn, .inl ⟨rfl, by simp [askA, hp]⟩, hb⟩
  · exact ⟨u', by simp [askF, askE, hp], by simpa [askA, hp] using h1, h2, .inr h3, hb⟩
/-- A plan and the document's beside each other. -/
structure Mn (W w : World) (P m x : Nat) (v u : Value) (l : List Ru) (A : List (Int × Int)) : Prop where
  mp : PlAt w P m (restR l (cntF A)) (cntF A)
  mo : Ow w x v u A
  mf : Fr (fun t => t = P ∨ t = m ∨ t = x) W w
  mq : ∀ j, u.ownBlock = some j → j ≠ P ∧ j ≠ m ∧ j ≠ x
theorem Ow.below {w w' : World} {x : Nat} {v u : Value} {A : List (Int × Int)} (h : Ow w x v u A) (hb : Below w.heap.size w w') : Ow w' x v u A := ⟨(hb.block x (block_lt h.ob)).trans h.ob, h.ou.keep hb (Nat.le_refl _), h.on, h.op⟩
theorem Mn.below {W w w' : World} {P m x : Nat} {v u : Value} {l : List Ru} {A : List (Int × Int)} (h : Mn W w P m x v u l A) (hb : Below w.heap.size w w') : Mn W w' P m x v u l A :=
  ⟨h.mp.below hb h.mp.b.lt h.mp.m.lt, h.mo.below hb, h.mf.trans (Fr.of_below hb), h.mq⟩
theorem plan_asked {P m : Nat} {l : List Ru} {A : List (Int × Int)} {w : World} (h : PlAt w P m l (cntF A)) (hA : ∀ p ∈ A, isP p.1 p.2 = true) (a b : Int) :
    Calls Try.prog 12 #[pp P, .int .i64 a, .int .i64 b] w fun e w' => e = .returned (.int .i64 (cntP A a b : Int)) ∧ w' = w := by
  cases hp : isP a b with
  | false =>
    rw [cnt_none hA hp]
    exact fasked_no h.b hp
  | true =>
    have hq := isP_iff.1 hp
    obtain ⟨x, rfl⟩ := Int.eq_ofNat_of_zero_le (show 0 ≤ a by omega)
    obtain ⟨y, rfl⟩ := Int.eq_ofNat_of_zero_le (show 0 ≤ b by omega)
    exact fasked_yes h.b hp
end Go.Proofs.Ytkkgbcoclfpicaa.Fa
