/- A range over an iterator that may keep one block of its own: the law for a caller whose body may leave, and whose loop variable may lie in a block that each round lays. -/
import Derived.Test.YtjpnbjfomikhaaaDoorE1
namespace Go.Proofs.YtjpnbjfomikhaaaDoor
open Go.RowKit Go.Shelf

variable {F : Fence} {n : Nat} {P : Program}

/-- The iterator's contract: it hands xs to yield, one by one, till a round says 'no more'. -/
def GivesX (F : Fence) (n : Nat) (P : Program) (gf : Nat) (lb : Array Value) (encs : Nat → Array Value) (T : World → Prop) (xs : List Nat) (w : World) : Prop :=
  ∀ (l : Nat) (J Jx : List Nat → World → Prop) (W : World), Below w.heap.size w W → W.heap.size = w.heap.size + 2 → (∀ s A, J s A → T A) →
    (∀ s A A', J s A → A.grownBy A' (some W.heap.size) → J s A') →
    (∀ pre x W1, J pre W1 → (pre ++ [x]) <+: xs → W.heap.size < W1.heap.size → YieldAt F (n - 1) P l (encs x) W1 fun e W' =>
      (e = .returned (.bool true) ∧ J (pre ++ [x]) W' ∧ KeepsAt W.heap.size W1 W') ∨ (e = .returned (.bool false) ∧ Jx (pre ++ [x]) W')) →
    J [] W → CallsIn F n P gf (#[.func (.yield l) #[] #[]] ++ lb) W fun e W' => (∃ v, e = .returned v) ∧ (J xs W' ∨ ∃ pre, pre <+: xs ∧ Jx pre W')

/-- The loop's three blocks stand. -/
def Keep3 (B : Nat) (W W' : World) : Prop := W'.heap[B]? = W.heap[B]? ∧ W'.heap[B + 1]? = W.heap[B + 1]? ∧ W'.heap[B + 2]? = W.heap[B + 2]? ∧ W.heap.size ≤ W'.heap.size
theorem Keep3.of_below {B c : Nat} {W W' : World} (h : Below c W W') (hc : B + 2 < c) : Keep3 B W W' :=
  ⟨h.block B (by omega), h.block (B + 1) (by omega), h.block (B + 2) (by omega), h.size⟩
theorem Keep3.trans {B : Nat} {X Y Z : World} (h : Keep3 B X Y) (k : Keep3 B Y Z) : Keep3 B X Z :=
  ⟨k.1.trans h.1, k.2.1.trans h.2.1, k.2.2.1.trans h.2.2.1, Nat.le_trans h.2.2.2 k.2.2.2⟩
theorem Keep3.set {B b : Nat} (W : World) (o : Nat) (v : Value) (h : b < B ∨ B + 2 < b) : Keep3 B W (W.setCell ⟨b, o, none⟩ v) :=
  ⟨Below.heap_setCell W ⟨b, o, none⟩ v B (by show B ≠ b; omega), Below.heap_setCell W ⟨b, o, none⟩ v (B + 1) (by show B + 1 ≠ b; omega), Below.heap_setCell W ⟨b, o, none⟩ v (B + 2) (by show B + 2 ≠ b; omega), by simp⟩

/-- How a round's body ends. -/
def bodyX (B : Nat) (I : List Nat → World → Prop) (Ix : Code → List Nat → World → Prop) (xs : List Nat) (W : World) : Exit → Act → World → Prop
  | .normal, _, W' => Keep3 B W W' ∧ I xs W'
  | .ret, _, W' => Keep3 B W W' ∧ Ix .ret xs W'
  | .exit id, _, W' => Keep3 B W W' ∧ Ix (.exit id) xs W'
  | .goto t, _, W' => Keep3 B W W' ∧ Ix (.goto t) xs W'
  | .panic _, _, _ => False
  | .outgrown, _, _ => False

theorem wpIn_eachX {g : Operand} {ps : Array Tmp} {assign body : Code} {Q : Exit → Act → World → Prop} {a : Act} {w : World}
    (hro : F.round = none) (h1 : 1 ≤ n) {gf : Nat} {lb : Array Value} (hg : a.eval g = .func (.func gf) #[] lb) (hFg : F.fn gf) (eg : ∀ args w, (callFunc gf args).run P w = .ok (.enter gf args) w)
    {encs : Nat → Array Value} {T : World → Prop} {xs : List Nat} (hseq : GivesX F (n - 1) P gf lb encs T xs w) (hps : ∀ x, (encs x).size = ps.size)
    (I : List Nat → World → Prop) (Ix : Code → List Nat → World → Prop) (hIT : ∀ s A, I s A → T A) (hI : Own3 w.heap.size I) (hIx : ∀ c, Own3 w.heap.size (Ix c)) (h0 : I [] w)
    (Ax : Nat → Act → World → Prop) (hAx : ∀ x a' A A' q, Ax x a' A → A.grownBy A' (some q) → w.heap.size ≤ q → q ≤ w.heap.size + 2 → Ax x a' A')
    (hassign : ∀ (l : Nat) (pre : List Nat) (x : Nat) (W : World) (K : Act → World → Prop), I pre W → (pre ++ [x]) <+: xs → w.heap.size + 2 < W.heap.size → (∀ a' W', Keep3 w.heap.size W W' → I pre W' → Ax x a' W' → K a' W') →
      assign.wpIn (F.inRound l) (n - 1 - 1) P (Exit.then K (fun _ _ _ => False)) { tmps := (ps.zip (encs x)).foldl (fun t (p, v) => t.setIfInBounds p v) a.tmps, defers := [] } W)
    (hbody : ∀ (l : Nat) (pre : List Nat) (x : Nat) (a' : Act) (W : World), I pre W → Ax x a' W → (pre ++ [x]) <+: xs → w.heap.size + 2 < W.heap.size → body.wpIn (F.inRound l) (n - 1 - 1) P (bodyX w.heap.size I Ix (pre ++ [x]) W) a' W)
    (hdone : ∀ (D : Nat) (W : World), w.heap.size ≤ D → I xs W → W.heap[D]? = some (.deferred (some [])) → Q .normal { a with defers := { target := .collected D, args := #[] } :: a.defers } W)
    (hstop : ∀ (D : Nat) (c : Code) (pre : List Nat) (W : World), w.heap.size ≤ D → pre <+: xs → Ix c pre W → W.heap[D]? = some (.deferred (some [])) → c.wpIn F n P Q { a with defers := { target := .collected D, args := #[] } :: a.defers } W) :
    (Code.rangeFunc g ps assign body).wpIn F n P Q a w := by
  refine wpIn_rangeFunc ?_
  intro fn hfn
  rw [hro]
  obtain ⟨lp, hlp⟩ : ∃ lp : LoopState → Option Code → Loop, lp = fun st pe => { state := st, pending := pe, fn, tmps := a.tmps, params := ps, assign, body, defers := w.heap.size } := ⟨_, rfl⟩
  obtain ⟨V, hV⟩ : ∃ V, (w.alloc (.deferred (some []))).alloc (.loop (lp .ready none)) = V := ⟨_, rfl⟩
  have sV : V.heap.size = w.heap.size + 2 := by rw [← hV]; simp
  have bV : Below w.heap.size w V := by rw [← hV]; exact (((Below.refl _ w).alloc (Nat.le_refl _) _).alloc (by simp) _)
  have lV : V.heap[w.heap.size + 1]? = some (.loop (lp .ready none)) := by
    rw [← hV]; have := World.alloc_heap_new (w.alloc (.deferred (some []))) (.loop (lp .ready none)); rwa [World.size_alloc] at this
  have dV : V.heap[w.heap.size]? = some (.deferred (some [])) := by
    rw [← hV]; exact (Below.heap_alloc _ _ _ (by simp)).trans (World.alloc_heap_new w _)
  have gV : w.grownBy V (some (w.heap.size + 2)) := ⟨bV.os, bV.tape, bV.output, bV.size, fun k hk _ => bV.block k hk⟩
  have iV : I [] V := hI [] w V _ h0 gV (by omega) (by omega)
  refine ⟨w.heap.size + 1, [{ target := .collected w.heap.size, args := #[] }], V, { target := .fn (.func gf) lb, args := #[.func (.yield (w.heap.size + 1)) #[] #[]] }, V, gf,
    #[.func (.yield (w.heap.size + 1)) #[] #[]] ++ lb, V, ?_, ?_, ?_, ?_, fun _ => h1, ?_⟩
  · rw [← hV, hlp]; exact run_enterLoop_outer _ _ _ _ _
  · simp only [resolve, hg]
    simp [go_sem]
  · intro f' hf'; simp [Target.leads] at hf'; subst hf'; exact hFg
  · simp [invoke, go_sem, eg]
  · refine (hseq (w.heap.size + 1) (fun pre W => I pre W ∧ W.heap[w.heap.size + 1]? = some (.loop (lp .ready none)) ∧ W.heap[w.heap.size]? = some (.deferred (some [])))
      (fun pre W => ∃ c, Ix c pre W ∧ W.heap[w.heap.size + 1]? = some (.loop (lp .done (some c))) ∧ W.heap[w.heap.size]? = some (.deferred (some []))) V bV sV ?_ ?_ ?_ ⟨iV, lV, dV⟩).mono ?_
    · exact fun s A h => hIT s A h.1
    · intro s A A' h hgr
      rw [sV] at hgr
      refine ⟨hI s A A' _ h.1 hgr (by omega) (by omega), ?_, ?_⟩
      · exact (hgr.block _ (Array.getElem?_eq_some_iff.1 h.2.1).1 (by simp)).trans h.2.1
      · exact (hgr.block _ (Array.getElem?_eq_some_iff.1 h.2.2).1 (by simp)).trans h.2.2
    · rintro pre x W ⟨hi, hl, hk⟩ hpre hsz
      rw [sV] at hsz
      have hy := run_yield (P := P) (args := encs x) hl (by rw [hlp]; exact hps x)
      rw [hlp] at hy
      refine ⟨fn, _, assign, body, hy, roundIn_of_wpIn hfn (hassign _ pre x W _ hi hpre hsz ?_)⟩
      clear hy hi
      intro a' U kU hi hax
      have hsU : w.heap.size + 2 < U.heap.size := Nat.lt_of_lt_of_le hsz kU.2.2.2
      have lU := kU.2.1.trans hl
      have dU := kU.1.trans hk
      refine ⟨_, run_beginRound lU (by rw [hlp]), ?_⟩
      have g2 := grownBy_putObj' U (w.heap.size + 1) (.loop { lp .ready none with state := .busy })
      have l2 : (U.putObj (w.heap.size + 1) (.loop { lp .ready none with state := .busy })).heap[w.heap.size + 1]? = some (.loop { lp .ready none with state := .busy }) := World.putObj_heap_same (by omega)
      refine wpIn_mono (hbody _ pre x a' _ (hI _ _ _ _ hi g2 (by omega) (by omega)) (hAx _ _ _ _ _ hax g2 (by omega) (by omega)) hpre (by simpa using hsU)) ?_
      have fin : ∀ (jump : Option Code) (W3 : World), Keep3 w.heap.size (U.putObj (w.heap.size + 1) (.loop { lp .ready none with state := .busy })) W3 →
          (Instr.endRound (w.heap.size + 1) jump).run P W3 = .ok (.bool jump.isNone) (W3.putObj (w.heap.size + 1) (.loop (lp (if jump.isNone then .ready else .done) jump))) ∧
          (W3.putObj (w.heap.size + 1) (.loop (lp (if jump.isNone then .ready else .done) jump))).heap[w.heap.size + 1]? = some (.loop (lp (if jump.isNone then .ready else .done) jump)) ∧
          (W3.putObj (w.heap.size + 1) (.loop (lp (if jump.isNone then .ready else .done) jump))).heap[w.heap.size]? = some (.deferred (some [])) := fun jump W3 k3 => by
        have l3 := k3.2.1.trans l2
        have d3 : W3.heap[w.heap.size]? = some (.deferred (some [])) := k3.1.trans ((World.putObj_heap_other (by omega)).trans dU)
        have hr := run_endRound (P := P) jump l3
        rw [hlp] at hr ⊢
        exact ⟨hr, World.putObj_heap_same (Array.getElem?_eq_some_iff.1 l3).1, (World.putObj_heap_other (by omega)).trans d3⟩
      rintro e a3 W3 hp
      cases e with
      | normal =>
        obtain ⟨k3, hi3⟩ := hp
        obtain ⟨hr, hl4, hk4⟩ := fin none W3 k3
        refine ⟨_, _, hr, .inl ⟨rfl, ⟨hI _ _ _ _ hi3 (grownBy_putObj' W3 (w.heap.size + 1) _) (by omega) (by omega), hl4, hk4⟩, ?_, ?_⟩⟩
        · rw [sV]; exact (World.putObj_heap_other (by omega)).trans (k3.2.2.1.trans ((World.putObj_heap_other (by omega)).trans kU.2.2.1))
        · have h1 := kU.2.2.2; have h2 := k3.2.2.2; simp [World.putObj] at h2 ⊢; omega
      | ret =>
        obtain ⟨k3, hi3⟩ := hp
        obtain ⟨hr, hl4, hk4⟩ := fin (some .ret) W3 k3
        exact ⟨_, _, hr, .inr ⟨rfl, .ret, hIx _ _ _ _ _ hi3 (grownBy_putObj' W3 (w.heap.size + 1) _) (by omega) (by omega), hl4, hk4⟩⟩
      | exit id =>
        obtain ⟨k3, hi3⟩ := hp
        obtain ⟨hr, hl4, hk4⟩ := fin (some (.exit id)) W3 k3
        exact ⟨_, _, hr, .inr ⟨rfl, .exit id, hIx _ _ _ _ _ hi3 (grownBy_putObj' W3 (w.heap.size + 1) _) (by omega) (by omega), hl4, hk4⟩⟩
      | goto t =>
        obtain ⟨k3, hi3⟩ := hp
        obtain ⟨hr, hl4, hk4⟩ := fin (some (.goto t)) W3 k3
        exact ⟨_, _, hr, .inr ⟨rfl, .goto t, hIx _ _ _ _ _ hi3 (grownBy_putObj' W3 (w.heap.size + 1) _) (by omega) (by omega), hl4, hk4⟩⟩
      | panic ch => exact hp.elim
      | outgrown => exact hp.elim
    · rintro e W2 ⟨⟨v, rfl⟩, (⟨hi, hl, hk⟩ | ⟨pre, hpre, c, hi, hl, hk⟩)⟩
      · exact ⟨none, _, by have := run_endLoop (P := P) hl (by rw [hlp]; simp); rw [hlp] at this; exact this, hdone _ _ (Nat.le_refl _) (hI _ _ _ _ hi (grownBy_putObj' W2 (w.heap.size + 1) _) (by omega) (by omega)) ((World.putObj_heap_other (by omega)).trans hk)⟩
      · exact ⟨some c, _, by have := run_endLoop (P := P) hl (by rw [hlp]; simp); rw [hlp] at this; exact this, hstop _ c pre _ (Nat.le_refl _) hpre (hIx _ _ _ _ _ hi (grownBy_putObj' W2 (w.heap.size + 1) _) (by omega) (by omega)) ((World.putObj_heap_other (by omega)).trans hk)⟩
end Go.Proofs.YtjpnbjfomikhaaaDoor
