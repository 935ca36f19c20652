/- net: what a net tells, as a value; its block; a net in memory. -/
import Derived.Test.YtkhfpcnmnnboeaaNT1
import Derived.Test.YtkhfpcnmnnboeaaC9A
import Derived.Test.YtkhfpcnmnnboeaaFA7
import Derived.Test.YtkhfpcnmnnboeaaGV1
namespace Go.Proofs.Ytkhfpcnmnnboeaa.Nt
open Go.RowKit Go.Maps Go.Proofs.Ytkhfpcnmnnboeaa.Fa

abbrev Ar := Int × Int × ByteArray
abbrev arC (x : Ar) : List Value := [.int .i64 x.1, .int .i64 x.2.1, .string x.2.2]
abbrev arV (x : Ar) : Value := .agg #[.int .i64 x.1, .int .i64 x.2.1, .string x.2.2]
/-- What a net tells. -/
structure Nv where
  V : List Int
  E : List Ed
  lt : Int
  R : List Ru
  A : Nat → Nat → Int
  L : List (Ca.Tg Ar)
  p : Nat
  q : Nat
  C : Pr → Bool
  st : Nat → Bool
  now : Int
/-- Where a net lies. -/
structure Nd where
  P : Nat
  m : Nat
  cp : Nat
  cm : Nat
  nv : Value
  ev : Value
def ntV (s : Value) (D : Nd) (lt : Int) (st : Nat → Bool) (now : Int) : List Value := s :: D.nv :: D.ev :: .int .i64 lt :: pp D.P :: pp D.cp :: .map (some D.cm) :: (mcl st ++ [.int .u64 now])
theorem ntV_st (s : Value) (D : Nd) (lt : Int) (st : Nat → Bool) (now : Int) {k : Nat} (h : k < 25) : (ntV s D lt st now)[7 + k]? = some (.bool (st k)) := by
  rw [show 7 + k = k + 1 + 1 + 1 + 1 + 1 + 1 + 1 from by omega]
  unfold ntV
  simp only [List.getElem?_cons_succ]
  rw [List.getElem?_append_left (by rw [mcl_len]; exact h), mcl_get _ h]
theorem ntV_now (s : Value) (D : Nd) (lt : Int) (st : Nat → Bool) (now : Int) : (ntV s D lt st now)[32]? = some (.int .u64 now) := by
  show (s :: D.nv :: D.ev :: Value.int .i64 lt :: pp D.P :: pp D.cp :: .map (some D.cm) :: (mcl st ++ [.int .u64 now]))[25 + 1 + 1 + 1 + 1 + 1 + 1 + 1]? = _
  simp only [List.getElem?_cons_succ]
  rw [List.getElem?_append_right (by rw [mcl_len]; omega), mcl_len]
  rfl
def setS (st : Nat → Bool) (k : Nat) (v : Bool) : Nat → Bool := fun i => if i = k then v else st i
theorem mcl_setS (st : Nat → Bool) {k : Nat} (h : k < 25) (v : Bool) : (mcl st).set k (.bool v) = mcl (setS st k v) := by
  apply List.ext_getElem?
  intro j
  rw [List.getElem?_set]
  by_cases hj : j < 25
  · rw [mcl_get _ hj, mcl_get _ hj]
    by_cases hn : k = j
    · subst hn
      rw [if_pos rfl, if_pos (by rw [mcl_len]; exact hj)]
      simp [setS]
    · rw [if_neg hn]
      have : setS st k v j = st j := by unfold setS; rw [if_neg (by omega)]
      rw [this]
  · rw [List.getElem?_eq_none (by rw [mcl_len]; omega), List.getElem?_eq_none (by rw [mcl_len]; omega), if_neg (by omega)]
theorem ntV_setS (s : Value) (D : Nd) (lt : Int) (st : Nat → Bool) (now : Int) {k : Nat} (h : k < 25) (v : Bool) : (ntV s D lt st now).set (7 + k) (.bool v) = ntV s D lt (setS st k v) now := by
  rw [show 7 + k = k + 1 + 1 + 1 + 1 + 1 + 1 + 1 from by omega]
  unfold ntV
  simp only [List.set_cons_succ]
  rw [List.set_append_left _ _ (by rw [mcl_len]; exact h), mcl_setS _ h]
theorem ntV_setNow (s : Value) (D : Nd) (lt : Int) (st : Nat → Bool) (now t : Int) : (ntV s D lt st now).set 32 (.int .u64 t) = ntV s D lt st t := by
  show (s :: D.nv :: D.ev :: Value.int .i64 lt :: pp D.P :: pp D.cp :: .map (some D.cm) :: (mcl st ++ [.int .u64 now])).set (25 + 1 + 1 + 1 + 1 + 1 + 1 + 1) _ = _
  simp only [List.set_cons_succ]
  rw [List.set_append_right _ _ (by rw [mcl_len]; omega), mcl_len]
  rfl
/-- A net's block. -/
def NtB (w : World) (np : Nat) (D : Nd) (lt : Int) (st : Nat → Bool) (now : Int) : Prop := Arr w np 76 (ntV (pp np) D lt st now)
section
variable {w : World} {np : Nat} {D : Nd} {la now : Int} {st : Nat → Bool}
theorem NtB.lt (h : NtB w np D la st now) : np < w.heap.size := Arr.lt h
theorem NtB.c0 (h : NtB w np D la st now) : w.cell? ⟨np, 0, none⟩ = some (pp np) := by rw [Arr.cell h]; rfl
theorem NtB.c1 (h : NtB w np D la st now) : w.cell? ⟨np, 1, none⟩ = some D.nv := by rw [Arr.cell h]; rfl
theorem NtB.c2 (h : NtB w np D la st now) : w.cell? ⟨np, 2, none⟩ = some D.ev := by rw [Arr.cell h]; rfl
theorem NtB.c3 (h : NtB w np D la st now) : w.cell? ⟨np, 3, none⟩ = some (.int .i64 la) := by rw [Arr.cell h]; rfl
theorem NtB.c4 (h : NtB w np D la st now) : w.cell? ⟨np, 4, none⟩ = some (pp D.P) := by rw [Arr.cell h]; rfl
theorem NtB.c5 (h : NtB w np D la st now) : w.cell? ⟨np, 5, none⟩ = some (pp D.cp) := by rw [Arr.cell h]; rfl
theorem NtB.c6 (h : NtB w np D la st now) : w.cell? ⟨np, 6, none⟩ = some (.map (some D.cm)) := by rw [Arr.cell h]; rfl
theorem NtB.c7 (h : NtB w np D la st now) {k : Nat} (hk : k < 25) : w.cell? ⟨np, 7 + k, none⟩ = some (.bool (st k)) := by rw [Arr.cell h, ntV_st _ _ _ _ _ hk]
theorem NtB.c32 (h : NtB w np D la st now) : w.cell? ⟨np, 32, none⟩ = some (.int .u64 now) := by rw [Arr.cell h, ntV_now]
theorem NtB.fz (h : NtB w np D la st now) (j : Nat) : w.frozen? ⟨np, j, none⟩ = false := Arr.frozen h j
theorem NtB.setS (h : NtB w np D la st now) {k : Nat} (hk : k < 25) (v : Bool) : NtB (w.setCell ⟨np, 7 + k, none⟩ (.bool v)) np D la (setS st k v) now := by
  have := Arr.set h (7 + k) (.bool v)
  rw [ntV_setS _ _ _ _ _ hk] at this
  exact this
theorem NtB.setNow (h : NtB w np D la st now) (t : Int) : NtB (w.setCell ⟨np, 32, none⟩ (.int .u64 t)) np D la st t := by
  have := Arr.set h 32 (.int .u64 t)
  rw [ntV_setNow] at this
  exact this
theorem NtB.keep {w' : World} {T : Nat → Prop} (h : NtB w np D la st now) (hF : Fr T w w') (hT : ¬ T np) : NtB w' np D la st now := (hF.block np h.lt hT).trans h
end
/-- What a net's values keep to: all that counts is at most k. -/
structure NvOk (N : Nv) (k : Nat) : Prop where
  v : ∀ x ∈ N.V, 1 ≤ x ∧ x ≤ 24
  vl : N.V.length ≤ 25
  e : ∀ x ∈ N.E, (1 ≤ x.1 ∧ x.1 ≤ 24) ∧ (1 ≤ x.2.1 ∧ x.2.1 ≤ 24) ∧ x.1 ≠ x.2.1
  el : N.E.length ≤ 1000
  lt : 1 ≤ N.lt ∧ N.lt ≤ 64
  p : N.p ≤ 2 * k
  q : N.q ≤ k
  a : ∀ i j, 0 ≤ N.A i j ∧ N.A i j ≤ k
  now : 0 ≤ N.now ∧ N.now ≤ k
  l : ∀ b ∈ N.L, (1 ≤ b.1.1.1 ∧ b.1.1.1 ≤ 24) ∧ (1 ≤ b.1.1.2.1 ∧ b.1.1.2.1 ≤ 24)
  ll : N.L.length ≤ 2 * k
  r : RsOk N.R
theorem NvOk.mono {N : Nv} {k j : Nat} (h : NvOk N k) (hk : k ≤ j) : NvOk N j :=
  ⟨h.v, h.vl, h.e, h.el, h.lt, by have := h.p; omega, by have := h.q; omega, fun a b => by have := h.a a b; omega, by have := h.now; omega, h.l, by have := h.ll; omega, h.r⟩
/-- A net's blocks. -/
def Own (np : Nat) (D : Nd) (S : Nat → Prop) (j : Nat) : Prop := j = np ∨ j = D.P ∨ j = D.m ∨ j = D.cm ∨ D.nv.ownBlock = some j ∨ D.ev.ownBlock = some j ∨ S j
/-- A net's blocks are apart. -/
structure Sep (np : Nat) (D : Nd) (S : Nat → Prop) : Prop where
  sn : ¬ S np
  sP : ¬ S D.P
  sm : ¬ S D.m
  sc : ¬ S D.cm
  nP : np ≠ D.P
  nm : np ≠ D.m
  nc : np ≠ D.cm
  Pc : D.P ≠ D.cm
  mc : D.m ≠ D.cm
  v : ∀ j, D.nv.ownBlock = some j → ¬ S j ∧ j ≠ np ∧ j ≠ D.P ∧ j ≠ D.m ∧ j ≠ D.cm
  e : ∀ j, D.ev.ownBlock = some j → ¬ S j ∧ j ≠ np ∧ j ≠ D.P ∧ j ≠ D.m ∧ j ≠ D.cm
/-- A net in memory. -/
structure NtAt (w : World) (np : Nat) (D : Nd) (N : Nv) (S : Nat → Prop) : Prop where
  b : NtB w np D N.lt N.st N.now
  vn : w.ownsRow 0 3 1 D.nv N.V.length (fl ic N.V)
  ve : w.ownsRow 0 64 3 D.ev N.E.length (fl ec N.E)
  pl : PlAt w D.P D.m N.R N.A
  ca : Ca.A.Cal w S D.cp N.L N.p
  cu : MpC w D.cm N.q N.C
  s : Sep np D S
theorem NtAt.keep {w w' : World} {np : Nat} {D : Nd} {N : Nv} {S T : Nat → Prop} (h : NtAt w np D N S) (hF : Fr T w w') (hT : ∀ j, Own np D S j → ¬ T j) : NtAt w' np D N S :=
  ⟨h.b.keep hF (hT _ (.inl rfl)), row_fr h.vn hF (fun _ hj => hT _ (.inr (.inr (.inr (.inr (.inl hj)))))), row_fr h.ve hF (fun _ hj => hT _ (.inr (.inr (.inr (.inr (.inr (.inl hj))))))),
    h.pl.keep hF (hT _ (.inr (.inl rfl))) (hT _ (.inr (.inr (.inl rfl)))), h.ca.keep hF (fun _ hk => hT _ (.inr (.inr (.inr (.inr (.inr (.inr hk))))))), h.cu.keep hF (hT _ (.inr (.inr (.inr (.inl rfl))))), h.s⟩
theorem NtAt.below {w w' : World} {np : Nat} {D : Nd} {N : Nv} {S : Nat → Prop} (h : NtAt w np D N S) (hb : Below w.heap.size w w') : NtAt w' np D N S :=
  h.keep (T := fun _ => False) (Fr.of_below hb) (fun _ _ h => h)
theorem row_lt {w : World} {e : TypeId} {size : Nat} {v : Value} {k : Nat} {xs : List Value} {base : Nat} (h : w.ownsRow base e size v k xs) {j : Nat} (hj : v.ownBlock = some j) : j < w.heap.size := (h.lt j hj).2
theorem NtAt.in {w : World} {np : Nat} {D : Nd} {N : Nv} {S : Nat → Prop} (h : NtAt w np D N S) : NtAt w np D N (fun k => S k ∧ k < w.heap.size) := by
  refine ⟨h.b, h.vn, h.ve, h.pl, h.ca.mono (fun k hk hs => ⟨hs, hk⟩), h.cu, ?_⟩
  obtain ⟨a1, a2, a3, a4, b1, b2, b3, b4, b5, c1, c2⟩ := h.s
  exact ⟨fun h => a1 h.1, fun h => a2 h.1, fun h => a3 h.1, fun h => a4 h.1, b1, b2, b3, b4, b5, fun j hj => ⟨fun h => (c1 j hj).1 h.1, (c1 j hj).2⟩, fun j hj => ⟨fun h => (c2 j hj).1 h.1, (c2 j hj).2⟩⟩
theorem NtAt.own_lt {w : World} {np : Nat} {D : Nd} {N : Nv} {S : Nat → Prop} (h : NtAt w np D N S) (hS : ∀ j, S j → j < w.heap.size) {j : Nat} (hj : Own np D S j) : j < w.heap.size := by
  rcases hj with rfl | rfl | rfl | rfl | hj | hj | hj
  · exact h.b.lt
  · exact h.pl.b.lt
  · exact h.pl.m.lt
  · exact h.cu.lt
  · exact row_lt h.vn hj
  · exact row_lt h.ve hj
  · exact hS j hj
/-- A net that lies outside of Z. -/
def NetZ (w : World) (Z : Nat → Prop) (np : Nat) (N : Nv) : Prop := (∃ D S, NtAt w np D N S ∧ (∀ j, Own np D S j → ¬ Z j) ∧ ∀ j, S j → j < w.heap.size) ∧ ∀ j, Z j → j < w.heap.size
theorem NetZ.keep {w w' : World} {Z T : Nat → Prop} {np : Nat} {N : Nv} (h : NetZ w Z np N) (hF : Fr T w w') (hT : ∀ j, T j → Z j) : NetZ w' Z np N := by
  obtain ⟨⟨D, S, h1, h2, h3⟩, h4⟩ := h
  exact ⟨⟨D, S, h1.keep hF (fun j hj ht => h2 j hj (hT j ht)), h2, fun j hj => Nat.lt_of_lt_of_le (h3 j hj) hF.size⟩, fun j hj => Nat.lt_of_lt_of_le (h4 j hj) hF.size⟩
theorem NetZ.below {w w' : World} {Z : Nat → Prop} {np : Nat} {N : Nv} (h : NetZ w Z np N) (hb : Below w.heap.size w w') : NetZ w' Z np N :=
  h.keep (T := fun _ => False) (Fr.of_below hb) (fun _ h => h.elim)
theorem NetZ.more {w w' : World} {Z Y : Nat → Prop} {np : Nat} {N : Nv} (h : NetZ w Z np N) (hb : Below w.heap.size w w') (hY : ∀ j, Y j → Z j ∨ (w.heap.size ≤ j ∧ j < w'.heap.size)) : NetZ w' Y np N := by
  obtain ⟨⟨D, S, h1, h2, h3⟩, h4⟩ := h
  refine ⟨⟨D, S, h1.below hb, fun j hj hy => ?_, fun j hj => Nat.lt_of_lt_of_le (h3 j hj) hb.size⟩, fun j hj => ?_⟩
  · rcases hY j hy with h | h
    · exact h2 j hj h
    · have := h1.own_lt h3 hj; omega
  · rcases hY j hj with h | h
    · exact Nat.lt_of_lt_of_le (h4 j h) hb.size
    · exact h.2
theorem NetZ.got {w w' : World} {Z S S' : Nat → Prop} {np : Nat} {D : Nd} {N N' : Nv} (_ : NtAt w np D N S) (h2 : ∀ j, Own np D S j → ¬ Z j) (h4 : ∀ j, Z j → j < w.heap.size) (h' : NtAt w' np D N' S') (hS : ∀ j, S' j → (S j ∨ w.heap.size ≤ j) ∧ j < w'.heap.size) (hF : Fr (Own np D S) w w') :
    NetZ w' Z np N' ∧ Fr (fun j => ¬ Z j) w w' := by
  refine ⟨⟨⟨D, S', h', fun j hj hz => ?_, fun j hj => (hS j hj).2⟩, fun j hj => Nat.lt_of_lt_of_le (h4 j hj) hF.size⟩, hF.mono (fun j _ hj => h2 j hj)⟩
  rcases hj with hj | hj | hj | hj | hj | hj | hj
  · exact h2 j (.inl hj) hz
  · exact h2 j (.inr (.inl hj)) hz
  · exact h2 j (.inr (.inr (.inl hj))) hz
  · exact h2 j (.inr (.inr (.inr (.inl hj)))) hz
  · exact h2 j (.inr (.inr (.inr (.inr (.inl hj))))) hz
  · exact h2 j (.inr (.inr (.inr (.inr (.inr (.inl hj)))))) hz
  · rcases (hS j hj).1 with h | h
    · exact h2 j (.inr (.inr (.inr (.inr (.inr (.inr h)))))) hz
    · have := h4 j hz; omega
/-- Is there such a link? -/
def lkQ (N : Nv) (a b : Int) : Bool := N.E.any fun e => decide (e.1 = a) && decide (e.2.1 = b)
def cutQ (N : Nv) (a b : Int) : Bool := N.C (nm a b)
def upQ (N : Nv) (a b : Int) : Bool := !cutQ N a b && (!N.st a.toNat && !N.st b.toNat)
theorem lkQ_bd {N : Nv} {k : Nat} (h : NvOk N k) {a b : Int} (hl : lkQ N a b = true) : (1 ≤ a ∧ a ≤ 24) ∧ (1 ≤ b ∧ b ≤ 24) ∧ a ≠ b := by
  unfold lkQ at hl
  rw [List.any_eq_true] at hl
  obtain ⟨e, he, h2⟩ := hl
  simp at h2
  obtain ⟨rfl, rfl⟩ := h2
  exact h.e e he
end Go.Proofs.Ytkhfpcnmnnboeaa.Nt
