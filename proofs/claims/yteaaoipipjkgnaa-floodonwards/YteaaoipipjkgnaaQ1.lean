/- A flood's memory; New, isThere, isOther, isUp, tickMayBe. -/
import Derived.Test.YteaaoipipjkgnaaQ0
import Derived.Test.YteaaoipipjkgnaaNU
namespace Go.Proofs.Yteaaoipipjkgnaa
open Go.RowKit Go.Maps

/-- What a flood has, its records aside: what is owed by ports and origins, with the tick at which it was told last. -/
structure Fp where
  self : Int
  epoch : Int
  again : Int
  last : Int
  ow : Int → Option (Int → Option Int)
structure FpOk (s : Fp) : Prop where
  se : 1 ≤ s.self ∧ s.self ≤ 24
  ep : 0 < s.epoch ∧ s.epoch < 4294967296
  ag : 1 ≤ s.again ∧ s.again ≤ 64
  la : 0 ≤ s.last ∧ s.last ≤ 1099511627776
  ti : ∀ k d j t, s.ow k = some d → d j = some t → 0 ≤ t ∧ t ≤ s.last
abbrev flO (s : Fp) (S O : Nat) : Obj := .cells #[.int .i64 s.self, .int .u32 s.epoch, .int .u64 s.again, .int .u64 s.last, ptr S, .map (some O)] 91
abbrev zM : Value := .map none
abbrev zU : Value := .int .u64 0
abbrev mB (b : Nat) : Value := .map (some b)
structure FlAt (w : World) (P O S M n : Nat) (s : Fp) (f : Sf) (ob : Int → Option Nat) : Prop where
  p : w.heap[P]? = some (flO s S O)
  st : StAt w S M n f
  o : MpG zM w O (fun k => (ob k).map mB)
  i : ∀ k b, ob k = some b → ∃ d, s.ow k = some d ∧ MpG zU w b (fun j => (d j).map (Value.int .u64))
  j : ∀ k, ob k = none → s.ow k = none
  d : ∀ k k' b, ob k = some b → ob k' = some b → k = k'
  m : M ≠ O ∧ ∀ k b, ob k = some b → b ≠ M ∧ b ≠ O
  ok : FpOk s
  v : ∀ k r u b, f k = some (r, u) → UsB u b → ∃ cur : Array Value, w.heap[b]? = some (Obj.cells cur 98)
theorem FlAt.keep {w w' : World} {P O S M n : Nat} {s : Fp} {f : Sf} {ob : Int → Option Nat} (h : FlAt w P O S M n s f ob) (hb : Below w.heap.size w w') : FlAt w' P O S M n s f ob :=
  ⟨(hb.block _ (block_lt h.p)).trans h.p, h.st.keep hb, h.o.keep (Fr.of_below (S := fun _ => False) hb) (fun h => h), fun k b hk => by
    obtain ⟨d, h1, h2⟩ := h.i k b hk
    exact ⟨d, h1, h2.keep (Fr.of_below (S := fun _ => False) hb) (fun h => h)⟩, h.j, h.d, h.m, h.ok, fun k r u b hk hu => by
    obtain ⟨cur, hc⟩ := h.v k r u b hk hu
    exact ⟨cur, (hb.block _ (block_lt hc)).trans hc⟩⟩
theorem FlAt.up {w : World} {P O S M n : Nat} {s : Fp} {f : Sf} {ob : Int → Option Nat} (h : FlAt w P O S M n s f ob) (k : Int) : (ob k).isSome = (s.ow k).isSome := by
  cases hk : ob k with
  | none => rw [h.j k hk]; rfl
  | some b => obtain ⟨d, h1, _⟩ := h.i k b hk; rw [h1]; rfl
theorem FlAt.rg {w : World} {P O S M n : Nat} {s : Fp} {f : Sf} {ob : Int → Option Nat} (h : FlAt w P O S M n s f ob) {k : Int} (hk : (s.ow k).isSome = true) : 1 ≤ k ∧ k ≤ 24 := by
  rw [← h.up] at hk
  exact h.o.sup (k := k) (by rw [Option.isSome_map]; exact hk)
theorem zeroMM (w : World) : (zeroValue 99).run Try.prog w = .ok zM w := by kernel_rfl
theorem zeroU64 (w : World) : (zeroValue 39).run Try.prog w = .ok zU w := by kernel_rfl
theorem neqO (M : Nat) (w : World) : (binOp BinOp.neq 89 (.map (some M)) (.map none)).run Try.prog w = .ok (.bool true) w := by kernel_rfl
theorem neqI (o : Option Nat) (w : World) : (binOp BinOp.neq 99 ((o.map mB).getD zM) (.map none)).run Try.prog w = .ok (.bool o.isSome) w := by cases o <;> kernel_rfl
theorem makeO (w : World) : (Instr.makeMap 89 none).run Try.prog w = .ok (.map (some w.heap.size)) (w.alloc (.map #[] 0)) := by kernel_rfl
theorem makeI (w : World) : (Instr.makeMap 99 none).run Try.prog w = .ok (.map (some w.heap.size)) (w.alloc (.map #[] 0)) := by kernel_rfl
set_option maxRecDepth 100000 in
theorem fthere_any {P O S M n : Nat} {s : Fp} {f : Sf} {ob : Int → Option Nat} {w : World} (h : FlAt w P O S M n s f ob) : Calls Try.prog 43 #[ptr P] w fun e w' => e = .returned (.bool true) ∧ w' = w := by
  have h0 := cell_of_row _ _ 5 _ _ _ h.p
  simp at h0
  have hn := neqO O
  clear h
  go_enter Try.func43, Try.ntmps43
  go_wp2_with fail
  go_ret
  exact ⟨rfl, rfl⟩
set_option maxRecDepth 100000 in
theorem fisR_any (n : Int) (w : World) : Calls Try.prog 31 #[.int .i64 n] w fun e w' => e = .returned (.bool (isR n)) ∧ w' = w := by
  by_cases h1 : 1 ≤ n
  · by_cases h2 : n ≤ 24
    · have : isR n = true := isR_iff.2 ⟨h1, h2⟩
      rw [this]
      go_enter Try.func31, Try.ntmps31
      go_wp2
      go_ret
      exact ⟨rfl, rfl⟩
    · have : isR n = false := by simp [isR]; omega
      rw [this]
      go_enter Try.func31, Try.ntmps31
      go_wp2
      go_ret
      exact ⟨rfl, rfl⟩
  · have : isR n = false := by simp [isR]; omega
    rw [this]
    go_enter Try.func31, Try.ntmps31
    go_wp2
    go_ret
    exact ⟨rfl, rfl⟩
def isOth (s : Fp) (k : Int) : Bool := isR k && !(k == s.self)
theorem isOth_iff {s : Fp} {k : Int} : isOth s k = true ↔ (1 ≤ k ∧ k ≤ 24) ∧ k ≠ s.self := by simp [isOth, isR_iff]
set_option maxRecDepth 100000 in
theorem fother_any {P O S M n : Nat} {s : Fp} {f : Sf} {ob : Int → Option Nat} {w : World} (h : FlAt w P O S M n s f ob) (k : Int) : Calls Try.prog 53 #[ptr P, .int .i64 k] w fun e w' => e = .returned (.bool (isOth s k)) ∧ w' = w := by
  have h0 := cell_of_row _ _ 0 _ _ _ h.p
  simp at h0
  have HR := hidIn (fisR_any k w)
  clear h
  go_enter Try.func53, Try.ntmps53
  go_wp2_with fail
  refine HR.out.mono ?_
  rintro e w1 ⟨rfl, h1⟩
  rw [h1]
  clear HR h1 w1
  cases hr : isR k with
  | false =>
    go_wp2_with fail
    go_ret
    exact ⟨by simp [isOth, hr], rfl⟩
  | true =>
    by_cases he : k = s.self
    · have h1 : (k == s.self) = true := by simpa using he
      go_wp2_with fail
      go_ret
      exact ⟨by simp [isOth, hr, h1], rfl⟩
    · have h1 : (k == s.self) = false := by simpa using he
      go_wp2_with fail
      go_ret
      exact ⟨by simp [isOth, hr]; rfl, rfl⟩
set_option maxRecDepth 100000 in
theorem fup_any {P O S M n : Nat} {s : Fp} {f : Sf} {ob : Int → Option Nat} {w : World} (h : FlAt w P O S M n s f ob) {k : Int} (hk : (Lit.int .i64 k).wf = true) : Calls Try.prog 54 #[ptr P, .int .i64 k] w fun e w' => e = .returned (.bool (s.ow k).isSome) ∧ w' = w := by
  have h0 := cell_of_row _ _ 5 _ _ _ h.p
  simp at h0
  have hl : (Instr.lookup 89 (.map (some O)) (.int .i64 k) false).run Try.prog w = .ok (((ob k).map mB).getD zM) w := h.o.look1 Try.underlying89 zeroMM hk
  have hn := neqI (ob k)
  rw [← h.up k]
  clear h hk
  cases hob : ob k with
  | none =>
    rw [hob] at hl hn
    have hl' : (Instr.lookup 89 (.map (some O)) (.int .i64 k) false).run Try.prog w = .ok (.map none) w := hl
    have hn' : ∀ w, (binOp BinOp.neq 99 (.map none) (.map none)).run Try.prog w = .ok (.bool false) w := hn
    clear hl hn
    go_enter Try.func54, Try.ntmps54
    go_wp2_with (refine l_look rfl _ _ 89 false rfl hl' ?_)
    go_ret
    exact ⟨rfl, rfl⟩
  | some b =>
    rw [hob] at hl hn
    have hl' : (Instr.lookup 89 (.map (some O)) (.int .i64 k) false).run Try.prog w = .ok (.map (some b)) w := hl
    have hn' : ∀ w, (binOp BinOp.neq 99 (.map (some b)) (.map none)).run Try.prog w = .ok (.bool true) w := hn
    clear hl hn
    go_enter Try.func54, Try.ntmps54
    go_wp2_with (refine l_look rfl _ _ 89 false rfl hl' ?_)
    go_ret
    exact ⟨rfl, rfl⟩
def tkOk (s : Fp) (t : Int) : Bool := decide (s.last ≤ t) && decide (t ≤ 1099511627776)
set_option maxRecDepth 100000 in
theorem ftick_any {P O S M n : Nat} {s : Fp} {f : Sf} {ob : Int → Option Nat} {w : World} (h : FlAt w P O S M n s f ob) (t : Int) : Calls Try.prog 47 #[ptr P, .int .u64 t] w fun e w' => e = .returned (.bool (tkOk s t)) ∧ w' = w := by
  have h0 := cell_of_row _ _ 3 _ _ _ h.p
  simp at h0
  clear h
  unfold tkOk
  by_cases h1 : s.last ≤ t
  · by_cases h2 : t ≤ 1099511627776
    · rw [decide_eq_true h1, decide_eq_true h2]
      go_enter Try.func47, Try.ntmps47
      go_wp2_with fail
      go_ret
      exact ⟨rfl, rfl⟩
    · rw [decide_eq_true h1, decide_eq_false h2]
      go_enter Try.func47, Try.ntmps47
      go_wp2_with fail
      go_ret
      exact ⟨rfl, rfl⟩
  · rw [decide_eq_false h1, Bool.false_and]
    go_enter Try.func47, Try.ntmps47
    go_wp2_with fail
    go_ret
    exact ⟨rfl, rfl⟩
/-- A flood that is new. -/
def newFp (self epoch again : Int) : Fp := ⟨self, epoch, again, 0, fun _ => none⟩
def nwOk (self epoch again : Int) : Bool := isR self && (!(epoch == 0) && (decide (1 ≤ again) && decide (again ≤ 64)))
def FnAns (w w' : World) (self epoch again : Int) (e : Ending) : Prop :=
  (nwOk self epoch again = false ∧ e = .returned (.tuple #[.pointer none, .int .i64 2])) ∨
    (nwOk self epoch again = true ∧ ∃ P O S M, e = .returned (.tuple #[ptr P, .int .i64 0]) ∧ FlAt w' P O S M 0 (newFp self epoch again) (fun _ => none) (fun _ => none) ∧ w.heap.size ≤ P ∧ w.heap.size ≤ O ∧ w.heap.size ≤ S ∧ w.heap.size ≤ M)
set_option maxRecDepth 100000 in
set_option maxHeartbeats 1000000 in
theorem fnew_any (self epoch again : Int) (he : 0 ≤ epoch ∧ epoch < 4294967296) (w : World) : Calls Try.prog 7 #[.int .i64 self, .int .u32 epoch, .int .i64 again] w fun e w' => FnAns w w' self epoch again e ∧ Below w.heap.size w w' := by
  have HR := hidIn (fisR_any self w)
  have hm := makeO
  have He := hidIn he
  unfold FnAns nwOk
  clear he
  go_enter Try.func7, Try.ntmps7
  go_wp2_with fail
  refine HR.out.mono ?_
  rintro e w1 ⟨rfl, h1⟩
  rw [h1]
  clear HR h1 w1
  cases hr : isR self with
  | false =>
    go_wp2_with fail
    go_returns
    exact ⟨.inl ⟨by simp [hr], rfl⟩, Below.refl _ _⟩
  | true =>
    by_cases h0 : epoch = 0
    · have h0' : (epoch == 0) = true := by simpa using h0
      go_wp2_with fail
      go_returns
      exact ⟨.inl ⟨by simp [hr, h0'], rfl⟩, Below.refl _ _⟩
    · have h0' : (epoch == 0) = false := by simpa using h0
      by_cases h1 : 1 ≤ again
      · have h1' : ¬ again < 1 := by omega
        by_cases h2 : again ≤ 64
        · have h2' : ¬ 64 < again := by omega
          have hw : IntKind.u64.wrap again = again := by rw [show IntKind.u64.wrap again = again % 18446744073709551616 from rfl]; omega
          have Hb := hidIn (And.intro h0 (And.intro h1 h2))
          have Hr := hidIn hr
          go_wp2_with fail
          refine (snew_any _).mono ?_
          rintro e w2 ⟨⟨S, M, rfl, hst, hS, hM⟩, hb2⟩
          have Hst := hidIn hst
          have HSM := hidIn (And.intro hS hM)
          have HB2 := hidIn hb2
          clear hst hS hM hb2
          go_wp2_with fail
          go_returns
          refine ⟨.inr ⟨by simp [hr, h0', h1, h2], w2.heap.size + 1, w2.heap.size, S, M, by simp, ?_, ?_⟩, ?_⟩
          · have b3 : Below w2.heap.size w2 ((w2.alloc (.map #[] 0)).alloc (flO (newFp self epoch again) S w2.heap.size)) := ((Below.refl _ w2).alloc (Nat.le_refl _) _).alloc (by simp) _
            have hX := heap_alloc_last (w2.alloc (.map #[] 0)) (flO (newFp self epoch again) S w2.heap.size)
            rw [World.size_alloc] at hX
            refine ⟨hX, Hst.out.keep b3, ?_, fun k b hk => by simp at hk, fun _ _ => rfl, fun k k' b hk => by simp at hk, ⟨?_, fun k b hk => by simp at hk⟩, ⟨isR_iff.1 Hr.out, by have := He.out; have := Hb.out.1; show 0 < epoch ∧ epoch < 4294967296; omega, Hb.out.2, ⟨by show (0 : Int) ≤ 0; omega, by show (0 : Int) ≤ 1099511627776; omega⟩, fun k d j t hk => by cases hk⟩, fun k r u b hk => by cases hk⟩
            · exact (mpG_new zM w2).keep (T := fun _ => False) (Fr.of_below ((Below.refl _ _).alloc (Nat.le_refl _) _)) (fun h => h)
            · have := Hst.out.lts.2
              omega
          · have := HB2.out.size
            exact ⟨by omega, this, HSM.out.1, HSM.out.2⟩
          · exact (HB2.out.alloc HB2.out.size _).alloc (by have := HB2.out.size; simp; omega) _
        · have h2' : 64 < again := by omega
          go_wp2_with fail
          go_returns
          exact ⟨.inl ⟨by simp [hr, h0', h1, h2], rfl⟩, Below.refl _ _⟩
      · have h1' : again < 1 := by omega
        go_wp2_with fail
        go_returns
        exact ⟨.inl ⟨by simp [hr, h0']; omega, rfl⟩, Below.refl _ _⟩
end Go.Proofs.Yteaaoipipjkgnaa
