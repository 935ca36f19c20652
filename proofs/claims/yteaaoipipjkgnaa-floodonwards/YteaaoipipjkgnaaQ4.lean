/- Own. -/
import Derived.Test.YteaaoipipjkgnaaQ3
import Derived.Test.YteaaoipipjkgnaaX5
namespace Go.Proofs.Yteaaoipipjkgnaa
open Go.RowKit Go.Maps

theorem SlAt.frP {α : Type} {cs : α → List Value} {sz : Nat} {w w' : World} {a : Option Addr} {n cap : Nat} {l : List α} {T : Nat → Prop} (h : SlAt cs sz w (.slice a n cap) l) (hF : Fr T w w') (hT : 0 < n → ∀ p, a = some p → p.block < w.heap.size → ¬ T p.block) : SlAt cs sz w' (.slice a n cap) l := by
  obtain ⟨a', cap', he, h1, h2, h3⟩ := h
  simp only [Value.slice.injEq] at he
  obtain ⟨rfl, rfl, rfl⟩ := he
  refine ⟨_, _, rfl, h1, h2, fun hp => ?_⟩
  obtain ⟨bk, o, rfl, h4, h5⟩ := h3 hp
  exact ⟨bk, o, rfl, Nat.lt_of_lt_of_le h4 hF.size, fun j x hx i u hu => (World.cell?_of_block (a := ⟨bk, o + j * sz + i, none⟩) (hF.block bk h4 (hT hp _ rfl h4))).trans (h5 j x hx i u hu)⟩
/-- What a call leaves of other blocks. -/
abbrev FlB (P O M : Nat) (ob : Int → Option Nat) : Nat → Prop := fun j => j = P ∨ j = O ∨ j = M ∨ ∃ k, ob k = some j
/-- Sends that were told. -/
def SndAns (w w' : World) (T : List (Int × Rc)) (u : Value) : Prop := ∃ L, w'.ownsRow w.heap.size 81 7 u L.length (fl sdc L) ∧ sdl L = T ∧ ∀ x ∈ L, FrRec w w' x.2
theorem FlAt.put {W w' : World} {P O S M n : Nat} {s : Fp} {f : Sf} {ob : Int → Option Nat} {r : Rc} {e : Ending} (h : FlAt W P O S M n s f ob) (hp : PutAns W w' S M n f r e) : ∃ f', FlAt w' P O S M (n + 1) s f' ob ∧ fR f' = putR (fR f) r ∧ Fr (fun k => k = M) W w' := by
  obtain ⟨_, hF, hput⟩ := hp
  have hne := h.neP
  have hA : ∀ j (cur : Array Value), W.heap[j]? = some (Obj.cells cur 98) → ¬ j = M := fun j cur hj e => by
    obtain ⟨es, cl, hm⟩ := h.st.m.isMap
    rw [← e, hj] at hm
    cases hm
  have hP := (hF.block P (block_lt h.p) (fun e => hne.2.1 e.symm)).trans h.p
  have hO := h.o.keep hF (fun e => h.m.1 e.symm)
  have hI : ∀ k b, ob k = some b → ∃ d, s.ow k = some d ∧ MpG zU w' b (fun j => (d j).map (Value.int .u64)) := fun k b hk => by
    obtain ⟨d, e1, e2⟩ := h.i k b hk
    exact ⟨d, e1, e2.keep hF (h.m.2 k b hk).1⟩
  have hV : ∀ k r u b, f k = some (r, u) → UsB u b → ∃ cur : Array Value, w'.heap[b]? = some (Obj.cells cur 98) := fun k r u b hk hu => by
    obtain ⟨cur, hc⟩ := h.v k r u b hk hu
    exact ⟨cur, (hF.block b (block_lt hc) (hA b cur hc)).trans hc⟩
  rcases hput with ⟨h4, h5, a, c, h6, h7⟩ | ⟨h4, h6⟩
  · refine ⟨_, ⟨hP, h6, hO, hI, h.j, h.d, h.m, h.ok, fun k r' u b hk hu => ?_⟩, ?_, hF⟩
    · unfold putO at hk
      by_cases hq : k = r.origin
      · rw [if_pos hq] at hk
        cases hk
        obtain ⟨n', c', o', he, _⟩ := hu
        simp only [Value.slice.injEq] at he
        obtain ⟨g, hg1, _, cur, hc⟩ := h7 _ he.1
        simp only [Addr.mk.injEq, and_true] at hg1
        rw [hg1.1]
        exact ⟨cur, hc⟩
      · rw [if_neg hq] at hk
        exact hV k r' u b hk hu
    · rw [fR_put]
      unfold putR
      rw [stdN_fR] at h5
      rw [if_pos ⟨h4, h5⟩]
  · refine ⟨_, ⟨hP, h6, hO, hI, h.j, h.d, h.m, h.ok, hV⟩, ?_, hF⟩
    unfold putR
    rw [stdN_fR] at h4
    rw [if_neg h4]
/-- The record that Own makes. -/
def ownR (s : Fp) (x : Rc) (claim : Int) (ing : Bool) (l : List (Int × Int)) : Rc := ⟨s.self, s.epoch, if x.seq = 4294967295 then x.seq else x.seq + 1, claim, ing, l⟩
/-- What Own answers. -/
def OwnAns (w w' : World) (P O S M n : Nat) (s : Fp) (f : Sf) (ob : Int → Option Nat) (claim : Int) (ing : Bool) (l : List (Int × Int)) (now : Int) (e : Ending) : Prop :=
  ((tkOk s now = false ∨ recOk (ownR s (rOf (f s.self)) claim ing l) = false) ∧ e = .returned (.tuple #[.slice none 0 0, .int .i64 2]) ∧ Below w.heap.size w w') ∨
  (tkOk s now = true ∧ recOk (ownR s (rOf (f s.self)) claim ing l) = true ∧ (rOf (f s.self)).seq = 4294967295 ∧ e = .returned (.tuple #[.slice none 0 0, .int .i64 8]) ∧ Below w.heap.size w w') ∨
  (tkOk s now = true ∧ recOk (ownR s (rOf (f s.self)) claim ing l) = true ∧ (rOf (f s.self)).seq ≠ 4294967295 ∧ ∃ u f', e = .returned (.tuple #[u, .int .i64 0]) ∧ fR f' = putR (fR f) (ownR s (rOf (f s.self)) claim ing l) ∧ FlAt w' P O S M (n + 1) ((s.tick now).oweL (upL s 0 24) s.self now) f' ob ∧ SndAns w w' ((upL s 0 24).map (fun p => (p, rOf (f' s.self)))) u ∧ Fr (FlB P O M ob) w w')
set_option maxRecDepth 100000 in
set_option maxHeartbeats 8000000 in
theorem fown_any {P O S M n : Nat} {s : Fp} {f : Sf} {ob : Int → Option Nat} {w : World} (h : FlAt w P O S M n s f ob) (hn : n < 900000) {claim now : Int} {ing : Bool} {l : List (Int × Int)} {va : Value} (hv : SlAt ac 2 w va l) (hseq : ∀ r u, f s.self = some (r, u) → r.seq < 4294967296) :
    Calls Try.prog 16 #[ptr P, .int .i64 claim, .bool ing, va, .int .u64 now] w fun e w' => OwnAns w w' P O S M n s f ob claim ing l now e := by
  obtain ⟨W1, hW1⟩ : ∃ W1, w.alloc (.cells #[ptr P] 26) = W1 := ⟨_, rfl⟩
  have b1 : Below w.heap.size w W1 := by rw [← hW1]; exact (Below.refl _ w).alloc (Nat.le_refl _) _
  have hX1 : W1.heap[w.heap.size]? = some (.cells #[ptr P] 26) := by rw [← hW1]; exact heap_alloc_last w _
  obtain ⟨b5, hb5⟩ : ∃ b5, w.heap.size = b5 := ⟨_, rfl⟩
  rw [hb5] at hX1
  have hP5 : P < b5 := by rw [← hb5]; exact block_lt h.p
  have HF1 := hidIn (h.keep b1)
  have HX1 := hidIn hX1
  have HB1 := hidIn b1
  have HV1 := hidIn (hv.keep b1 (Nat.le_refl _))
  have HG := hidIn (fun wq (hq : Below W1.heap.size W1 wq) => sget_any (HF1.out.keep hq).st (k := s.self) (wf9 (by have := h.ok.se; omega)))
  have HCl : Hid (∀ wq, Below W1.heap.size W1 wq → wq.cell? ⟨b5, 0, none⟩ = some (ptr P) ∧ wq.cell? ⟨P, 0, none⟩ = some (.int .i64 s.self) ∧ wq.cell? ⟨P, 1, none⟩ = some (.int .u32 s.epoch) ∧ wq.cell? ⟨P, 4, none⟩ = some (ptr S)) := hidIn fun wq hq => by
    have e1 := (hq.block _ (block_lt HX1.out)).trans HX1.out
    have e2 := (hq.block _ (block_lt HF1.out.p)).trans HF1.out.p
    have c1 := cell_of_row _ _ 0 _ _ _ e1
    have c2 := cell_of_row _ _ 0 _ _ _ e2
    have c3 := cell_of_row _ _ 1 _ _ _ e2
    have c4 := cell_of_row _ _ 4 _ _ _ e2
    simp at c1 c2 c3 c4
    exact ⟨c1, c2, c3, c4⟩
  have Hh := hidIn h
  obtain ⟨aa, acap, rfl, _⟩ := hv
  have HW1 := hidIn hW1
  obtain ⟨xr, hxr⟩ : ∃ xr, rOf (f s.self) = xr := ⟨_, rfl⟩
  have hsq : 0 ≤ xr.seq ∧ xr.seq < 4294967296 := by
    rw [← hxr]
    cases hq : f s.self with
    | none => exact ⟨by show (0 : Int) ≤ 0; omega, by show (0 : Int) < 4294967296; omega⟩
    | some y => obtain ⟨r, u⟩ := y; exact ⟨(h.st.v _ r u hq).2.2.2.2.2, hseq r u hq⟩
  have Hxr := hidIn hxr
  unfold GtAns at HG
  rw [hxr] at HG
  generalize (f s.self).isSome = xb at HG
  obtain ⟨xo, xe, xs, xcl, xi, xl⟩ := xr
  obtain ⟨xn, hxn⟩ : ∃ xn, xl.length = xn := ⟨_, rfl⟩
  simp only [hxn] at HG hsq
  obtain ⟨an, han⟩ : ∃ an, l.length = an := ⟨_, rfl⟩
  rw [han] at HV1 ⊢
  have HT1 := hidIn (fthere_any HF1.out)
  clear h b1 hX1 hW1 hxr hxn han hseq
  go_enter Try.func16, Try.ntmps16
  go_upto_region 1 with fail
  rw [HW1.out]
  clear HW1
  have x0 := cell_of_row _ _ 0 _ _ _ HX1.out
  simp at x0
  go_wp2_with fail
  refine HT1.out.mono ?_
  rintro e w1 ⟨rfl, h1⟩
  rw [h1]
  clear HT1 h1 w1
  go_upto_region 3 with fail
  clear x0
  go_cut [12, 13] (fun x y wx => ∃ bx a cc, x = ptr bx ∧ wx.heap[bx]? = some (.cells #[.int .i64 xo, .int .u32 xe, .int .u32 xs, .int .i64 xcl, .bool xi, .slice a xn cc] 38) ∧ y = .bool xb ∧ SlAt ac 2 wx (.slice a xn cc) xl ∧ NilOk (.slice a xn cc) ∧ W1.heap.size ≤ bx ∧ Below W1.heap.size W1 wx)
  case first =>
    refine wp_region_held_drew (S := fun wx => Below W1.heap.size W1 wx) (by kernel_rfl) ((Below.refl _ W1).drew) (fun hHeld => ?_)
    have hh : Below W1.heap.size W1 W1.drew := hHeld
    refine wpAnyH_take (i := 0) (v := ?_) rfl (by kernel_rfl) (by kernel_rfl) (by kernel_rfl) (fun _ _ _ h => h) (Or.inl ⟨by rfl, ?_⟩) (by assumption) ?_
    rotate_left
    · intro wq hSw
      obtain ⟨z0, _, _, _⟩ := HCl.out wq hSw
      clear hSw
      go_simp
      try (with_reducible rfl)
    refine wpAnyH_take (i := 1) (v := ?_) rfl (by kernel_rfl) (by kernel_rfl) (by kernel_rfl) (fun _ _ _ h => h) (Or.inl ⟨by rfl, ?_⟩) (by assumption) ?_
    rotate_left
    · intro wq hSw
      clear hSw
      go_simp
      try (with_reducible rfl)
    refine wpAnyH_take (i := 2) (v := ?_) rfl (by kernel_rfl) (by kernel_rfl) (by kernel_rfl) (fun _ _ _ h => h) (Or.inl ⟨by rfl, ?_⟩) (by assumption) ?_
    rotate_left
    · intro wq hSw
      clear hSw
      go_simp
      try (with_reducible rfl)
    refine wpAnyH_take (i := 3) (v := ?_) rfl (by kernel_rfl) (by kernel_rfl) (by kernel_rfl) (fun _ _ _ h => h) (Or.inl ⟨by rfl, ?_⟩) (by assumption) ?_
    rotate_left
    · intro wq hSw
      obtain ⟨_, _, _, z0⟩ := HCl.out wq hSw
      clear hSw
      go_simp
      try (with_reducible rfl)
    refine wpAnyH_take (i := 4) (v := ?_) rfl (by kernel_rfl) (by kernel_rfl) (by kernel_rfl) (fun _ _ _ h => h) (Or.inl ⟨by rfl, ?_⟩) (by assumption) ?_
    rotate_left
    · intro wq hSw
      obtain ⟨z0, _, _, _⟩ := HCl.out wq hSw
      clear hSw
      go_simp
      try (with_reducible rfl)
    refine wpAnyH_take (i := 5) (v := ?_) rfl (by kernel_rfl) (by kernel_rfl) (by kernel_rfl) (fun _ _ _ h => h) (Or.inl ⟨by rfl, ?_⟩) (by assumption) ?_
    rotate_left
    · intro wq hSw
      clear hSw
      go_simp
      try (with_reducible rfl)
    refine wpAnyH_take (i := 6) (v := ?_) rfl (by kernel_rfl) (by kernel_rfl) (by kernel_rfl) (fun _ _ _ h => h) (Or.inl ⟨by rfl, ?_⟩) (by assumption) ?_
    rotate_left
    · intro wq hSw
      clear hSw
      go_simp
      try (with_reducible rfl)
    refine wpAnyH_take (i := 7) (v := ?_) rfl (by kernel_rfl) (by kernel_rfl) (by kernel_rfl) (fun _ _ _ h => h) (Or.inl ⟨by rfl, ?_⟩) (by assumption) ?_
    rotate_left
    · intro wq hSw
      obtain ⟨_, z0, _, _⟩ := HCl.out wq hSw
      clear hSw
      go_simp
      try (with_reducible rfl)
    refine wpAnyH_ready (rs := [8, 12]) (by kernel_rfl) (by simp) ?_
    refine AllReadyH.cons rfl (fun K hK => ?_) (AllReadyH.cons rfl (fun K hK => ?_) AllReadyH.nil)
    · go_simp
      refine (HG.out _ hh).mono ?_
      rintro e w5 ⟨⟨a, cc, rfl, hsl, hnl, hfr⟩, hbx⟩
      have h5 : Below W1.heap.size W1 w5 := hh.trans (hbx.mono hh.size)
      refine hK.out _ _ h5 (fun _ => ?_)
      clear hK K
      refine wpAnyH_take (i := 9) (v := ?_) rfl (by kernel_rfl) (by kernel_rfl) (by kernel_rfl) (fun _ _ _ h => h) (Or.inl ⟨by rfl, ?_⟩) (by assumption) ?_
      rotate_left
      · intro wq hSw
        clear hSw
        go_simp
        try (with_reducible rfl)
      refine wpAnyH_take (i := 10) (v := ?_) rfl (by kernel_rfl) (by kernel_rfl) (by kernel_rfl) (fun _ _ _ h => h) (Or.inl ⟨by rfl, ?_⟩) (by assumption) ?_
      rotate_left
      · intro wq hSw
        clear hSw
        go_simp
        try (with_reducible rfl)
      refine wpAnyH_take (i := 11) (v := ?_) rfl (by kernel_rfl) (by kernel_rfl) (by kernel_rfl) (fun _ _ _ h => h) (Or.inl ⟨by rfl, ?_⟩) (by assumption) ?_
      rotate_left
      · intro wq hSw
        clear hSw
        go_simp
        try (with_reducible rfl)
      refine wpAnyH_ready (rs := [12]) (by kernel_rfl) (by simp) ?_
      refine AllReadyH.cons rfl (fun K hK => ?_) AllReadyH.nil
      go_simp
      obtain ⟨W6, hW6⟩ : ∃ W6, w5.alloc (.cells #[.int .i64 0, .int .u32 0, .int .u32 0, .int .i64 0, .bool false, .slice none 0 0] 38) = W6 := ⟨_, rfl⟩
      have b6 : Below w5.heap.size w5 W6 := by rw [← hW6]; exact (Below.refl _ w5).alloc (Nat.le_refl _) _
      have h6 : Below W1.heap.size W1 W6 := h5.trans (b6.mono h5.size)
      have hz8 : W6.heap[w5.heap.size]? = some (.cells #[.int .i64 0, .int .u32 0, .int .u32 0, .int .i64 0, .bool false, .slice none 0 0] 38) := by rw [← hW6]; exact heap_alloc_last w5 _
      rw [hW6]
      have h58 := h5.size
      have hsl6 := hsl.keep b6 (Nat.le_refl _)
      have hne : ∀ p, a = some p → ¬ p.block = w5.heap.size := fun p hp e => by
        obtain ⟨g, rfl, _, cur, hc⟩ := hfr p hp
        have := block_lt hc
        simp at e
        omega
      obtain ⟨b8, hb8⟩ : ∃ b8, w5.heap.size = b8 := ⟨_, rfl⟩
      rw [hb8] at hz8 h58 hne ⊢
      refine hK.out _ _ h6 (fun _ => ?_)
      clear hK K hW6 hb8
      refine wpAnyH_ready (rs := [13]) (by kernel_rfl) (by simp) ?_
      refine AllReadyH.cons rfl (fun K hK => ?_) AllReadyH.nil
      have zz0 := cell_of_row _ _ 0 _ _ _ hz8
      have zz1 := cell_of_row _ _ 1 _ _ _ hz8
      have zz2 := cell_of_row _ _ 2 _ _ _ hz8
      have zz3 := cell_of_row _ _ 3 _ _ _ hz8
      have zz4 := cell_of_row _ _ 4 _ _ _ hz8
      have zz5 := cell_of_row _ _ 5 _ _ _ hz8
      simp at zz0 zz1 zz2 zz3 zz4 zz5
      have yy0 := frozen_new hz8 0
      have yy1 := frozen_new hz8 1
      have yy2 := frozen_new hz8 2
      have yy3 := frozen_new hz8 3
      have yy4 := frozen_new hz8 4
      have yy5 := frozen_new hz8 5
      go_simp
      have hset := set6 (.int .i64 xo) (.int .u32 xe) (.int .u32 xs) (.int .i64 xcl) (.bool xi) (.slice a xn cc) hz8
      have hbs : Below W1.heap.size W1 ((((((W6.setCell ⟨b8, 0, none⟩ (.int .i64 xo)).setCell ⟨b8, 1, none⟩ (.int .u32 xe)).setCell ⟨b8, 2, none⟩ (.int .u32 xs)).setCell ⟨b8, 3, none⟩ (.int .i64 xcl)).setCell ⟨b8, 4, none⟩ (.bool xi)).setCell ⟨b8, 5, none⟩ (.slice a xn cc)) := (((((h6.setCell (p := ⟨b8, 0, none⟩) h58 _).setCell (p := ⟨b8, 1, none⟩) h58 _).setCell (p := ⟨b8, 2, none⟩) h58 _).setCell (p := ⟨b8, 3, none⟩) h58 _).setCell (p := ⟨b8, 4, none⟩) h58 _).setCell (p := ⟨b8, 5, none⟩) h58 _
      have hfs := fr6 (S := fun k => k = b8) (Fr.refl _ W6) rfl (.int .i64 xo) (.int .u32 xe) (.int .u32 xs) (.int .i64 xcl) (.bool xi) (.slice a xn cc)
      generalize (((((World.setCell _ _ _).setCell _ _).setCell _ _).setCell _ _).setCell _ _).setCell _ _ = W9 at hset hbs hfs ⊢
      have hsl9 := hsl6.frP hfs (fun _ p hp _ e => hne p hp e)
      refine hK.out _ _ hbs (fun _ => ?_)
      clear hK K zz0 zz1 zz2 zz3 zz4 zz5 yy0 yy1 yy2 yy3 yy4 yy5
      refine wpAnyH_take (i := 14) (v := ?_) rfl (by kernel_rfl) (by kernel_rfl) (by kernel_rfl) (fun _ _ _ h => h) (Or.inl ⟨by rfl, ?_⟩) (by assumption) ?_
      rotate_left
      · intro wq hSw
        clear hSw
        go_simp
        try (with_reducible rfl)
      refine wpAnyH_done (by kernel_rfl) ?_ _
      go_wp2_with fail
      go_meet
      exact ⟨b8, a, cc, rfl, hset, rfl, hsl9, hnl, h58, hbs⟩
    · go_simp
      obtain ⟨W4, hW4⟩ : ∃ W4, (W1.alloc (.cells #[.int .i64 0, .int .u32 0, .int .u32 0, .int .i64 0, .bool false, .slice none 0 0] 38)).drew = W4 := ⟨_, rfl⟩
      have h4 : Below W1.heap.size W1 W4 := by rw [← hW4]; exact ((Below.refl _ W1).alloc (Nat.le_refl _) _).drew
      have hz4 : W4.heap[W1.heap.size]? = some (.cells #[.int .i64 0, .int .u32 0, .int .u32 0, .int .i64 0, .bool false, .slice none 0 0] 38) := by rw [← hW4]; exact heap_alloc_last W1 _
      rw [hW4]
      obtain ⟨b8, hb8⟩ : ∃ b8, W1.heap.size = b8 := ⟨_, rfl⟩
      have h58 : W1.heap.size ≤ b8 := Nat.le_of_eq hb8
      rw [hb8] at hz4 ⊢
      refine hK.out _ _ h4 (fun _ => ?_)
      clear hK K hW4
      refine wpAnyH_ready (rs := [8]) (by kernel_rfl) (by simp) ?_
      refine AllReadyH.cons rfl (fun K hK => ?_) AllReadyH.nil
      go_simp
      refine (HG.out _ h4).mono ?_
      rintro e W6 ⟨⟨a, cc, rfl, hsl6, hnl, hfr⟩, hbx⟩
      have h6 : Below W1.heap.size W1 W6 := h4.trans (hbx.mono h4.size)
      have hz8 := (hbx.block _ (block_lt hz4)).trans hz4
      have hne : ∀ p, a = some p → ¬ p.block = b8 := fun p hp e => by
        obtain ⟨g, rfl, hg, _⟩ := hfr p hp
        have := block_lt hz4
        simp at e
        omega
      refine hK.out _ _ h6 (fun _ => ?_)
      clear hK K hbx hz4 h4
      refine wpAnyH_take (i := 9) (v := ?_) rfl (by kernel_rfl) (by kernel_rfl) (by kernel_rfl) (fun _ _ _ h => h) (Or.inl ⟨by rfl, ?_⟩) (by assumption) ?_
      rotate_left
      · intro wq hSw
        clear hSw
        go_simp
        try (with_reducible rfl)
      refine wpAnyH_take (i := 10) (v := ?_) rfl (by kernel_rfl) (by kernel_rfl) (by kernel_rfl) (fun _ _ _ h => h) (Or.inl ⟨by rfl, ?_⟩) (by assumption) ?_
      rotate_left
      · intro wq hSw
        clear hSw
        go_simp
        try (with_reducible rfl)
      refine wpAnyH_take (i := 11) (v := ?_) rfl (by kernel_rfl) (by kernel_rfl) (by kernel_rfl) (fun _ _ _ h => h) (Or.inl ⟨by rfl, ?_⟩) (by assumption) ?_
      rotate_left
      · intro wq hSw
        clear hSw
        go_simp
        try (with_reducible rfl)
      refine wpAnyH_ready (rs := [13]) (by kernel_rfl) (by simp) ?_
      refine AllReadyH.cons rfl (fun K hK => ?_) AllReadyH.nil
      have zz0 := cell_of_row _ _ 0 _ _ _ hz8
      have zz1 := cell_of_row _ _ 1 _ _ _ hz8
      have zz2 := cell_of_row _ _ 2 _ _ _ hz8
      have zz3 := cell_of_row _ _ 3 _ _ _ hz8
      have zz4 := cell_of_row _ _ 4 _ _ _ hz8
      have zz5 := cell_of_row _ _ 5 _ _ _ hz8
      simp at zz0 zz1 zz2 zz3 zz4 zz5
      have yy0 := frozen_new hz8 0
      have yy1 := frozen_new hz8 1
      have yy2 := frozen_new hz8 2
      have yy3 := frozen_new hz8 3
      have yy4 := frozen_new hz8 4
      have yy5 := frozen_new hz8 5
      go_simp
      have hset := set6 (.int .i64 xo) (.int .u32 xe) (.int .u32 xs) (.int .i64 xcl) (.bool xi) (.slice a xn cc) hz8
      have hbs : Below W1.heap.size W1 ((((((W6.setCell ⟨b8, 0, none⟩ (.int .i64 xo)).setCell ⟨b8, 1, none⟩ (.int .u32 xe)).setCell ⟨b8, 2, none⟩ (.int .u32 xs)).setCell ⟨b8, 3, none⟩ (.int .i64 xcl)).setCell ⟨b8, 4, none⟩ (.bool xi)).setCell ⟨b8, 5, none⟩ (.slice a xn cc)) := (((((h6.setCell (p := ⟨b8, 0, none⟩) h58 _).setCell (p := ⟨b8, 1, none⟩) h58 _).setCell (p := ⟨b8, 2, none⟩) h58 _).setCell (p := ⟨b8, 3, none⟩) h58 _).setCell (p := ⟨b8, 4, none⟩) h58 _).setCell (p := ⟨b8, 5, none⟩) h58 _
      have hfs := fr6 (S := fun k => k = b8) (Fr.refl _ W6) rfl (.int .i64 xo) (.int .u32 xe) (.int .u32 xs) (.int .i64 xcl) (.bool xi) (.slice a xn cc)
      generalize (((((World.setCell _ _ _).setCell _ _).setCell _ _).setCell _ _).setCell _ _).setCell _ _ = W9 at hset hbs hfs ⊢
      have hsl9 := hsl6.frP hfs (fun _ p hp _ e => hne p hp e)
      refine hK.out _ _ hbs (fun _ => ?_)
      clear hK K zz0 zz1 zz2 zz3 zz4 zz5 yy0 yy1 yy2 yy3 yy4 yy5
      refine wpAnyH_take (i := 14) (v := ?_) rfl (by kernel_rfl) (by kernel_rfl) (by kernel_rfl) (fun _ _ _ h => h) (Or.inl ⟨by rfl, ?_⟩) (by assumption) ?_
      rotate_left
      · intro wq hSw
        clear hSw
        go_simp
        try (with_reducible rfl)
      refine wpAnyH_done (by kernel_rfl) ?_ _
      go_wp2_with fail
      go_meet
      exact ⟨b8, a, cc, rfl, hset, rfl, hsl9, hnl, h58, hbs⟩
  case rest =>
    obtain ⟨bx, xa, xc, rfl, hxr2, rfl, hsx, hnx, hbx, hbc⟩ := hcut
    have HXr := hidIn hxr2
    have HF2 := hidIn (HF1.out.keep hbc)
    have HX2 := hidIn ((hbc.block _ (block_lt HX1.out)).trans HX1.out)
    have HV2 := hidIn (HV1.out.keep hbc (Nat.le_refl _))
    have HB2 := hidIn (HB1.out.trans (hbc.mono HB1.out.size))
    have Hsq := hidIn hsq
    clear hxr2 hbc HF1 HX1 HV1 HB1 HG HCl hbx
    go_upto_region 4 with fail
    clear hsq
    refine wp_region_held_drew (S := fun wx => Below wc.heap.size wc wx) (by kernel_rfl) ((Below.refl _ wc).drew) (fun hHeld => ?_)
    have hh : Below wc.heap.size wc wc.drew := hHeld
    refine wpAnyH_take (i := 0) (v := ?_) rfl (by kernel_rfl) (by kernel_rfl) (by kernel_rfl) (fun _ _ _ h => h) (Or.inl ⟨by rfl, ?_⟩) (by assumption) ?_
    rotate_left
    · intro wq hSw
      have e5 := (hSw.block _ (block_lt HX2.out)).trans HX2.out
      have z0 := cell_of_row _ _ 0 _ _ _ e5
      simp at z0
      clear e5
      clear hSw
      go_simp
      try (with_reducible rfl)
    refine wpAnyH_take (i := 1) (v := ?_) rfl (by kernel_rfl) (by kernel_rfl) (by kernel_rfl) (fun _ _ _ h => h) (Or.inl ⟨by rfl, ?_⟩) (by assumption) ?_
    rotate_left
    · intro wq hSw
      clear hSw
      go_simp
      try (with_reducible rfl)
    refine wpAnyH_take (i := 2) (v := ?_) rfl (by kernel_rfl) (by kernel_rfl) (by kernel_rfl) (fun _ _ _ h => h) (Or.inl ⟨by rfl, ?_⟩) (by assumption) ?_
    rotate_left
    · intro wq hSw
      clear hSw
      go_simp
      try (with_reducible rfl)
    refine wpAnyH_take (i := 3) (v := ?_) rfl (by kernel_rfl) (by kernel_rfl) (by kernel_rfl) (fun _ _ _ h => h) (Or.inl ⟨by rfl, ?_⟩) (by assumption) ?_
    rotate_left
    · intro wq hSw
      have e5 := (hSw.block _ (block_lt HF2.out.p)).trans HF2.out.p
      have z0 := cell_of_row _ _ 0 _ _ _ e5
      simp at z0
      clear e5
      clear hSw
      go_simp
      try (with_reducible rfl)
    refine wpAnyH_take (i := 4) (v := ?_) rfl (by kernel_rfl) (by kernel_rfl) (by kernel_rfl) (fun _ _ _ h => h) (Or.inl ⟨by rfl, ?_⟩) (by assumption) ?_
    rotate_left
    · intro wq hSw
      have e5 := (hSw.block _ (block_lt HX2.out)).trans HX2.out
      have z0 := cell_of_row _ _ 0 _ _ _ e5
      simp at z0
      clear e5
      clear hSw
      go_simp
      try (with_reducible rfl)
    refine wpAnyH_take (i := 5) (v := ?_) rfl (by kernel_rfl) (by kernel_rfl) (by kernel_rfl) (fun _ _ _ h => h) (Or.inl ⟨by rfl, ?_⟩) (by assumption) ?_
    rotate_left
    · intro wq hSw
      clear hSw
      go_simp
      try (with_reducible rfl)
    refine wpAnyH_take (i := 6) (v := ?_) rfl (by kernel_rfl) (by kernel_rfl) (by kernel_rfl) (fun _ _ _ h => h) (Or.inl ⟨by rfl, ?_⟩) (by assumption) ?_
    rotate_left
    · intro wq hSw
      clear hSw
      go_simp
      try (with_reducible rfl)
    refine wpAnyH_take (i := 7) (v := ?_) rfl (by kernel_rfl) (by kernel_rfl) (by kernel_rfl) (fun _ _ _ h => h) (Or.inl ⟨by rfl, ?_⟩) (by assumption) ?_
    rotate_left
    · intro wq hSw
      have e5 := (hSw.block _ (block_lt HF2.out.p)).trans HF2.out.p
      have z0 := cell_of_row _ _ 1 _ _ _ e5
      simp at z0
      clear e5
      clear hSw
      go_simp
      try (with_reducible rfl)
    refine wpAnyH_take (i := 8) (v := ?_) rfl (by kernel_rfl) (by kernel_rfl) (by kernel_rfl) (fun _ _ _ h => h) (Or.inl ⟨by rfl, ?_⟩) (by assumption) ?_
    rotate_left
    · intro wq hSw
      clear hSw
      go_simp
      try (with_reducible rfl)
    refine wpAnyH_take (i := 9) (v := ?_) rfl (by kernel_rfl) (by kernel_rfl) (by kernel_rfl) (fun _ _ _ h => h) (Or.inl ⟨by rfl, ?_⟩) (by assumption) ?_
    rotate_left
    · intro wq hSw
      have e5 := (hSw.block _ (block_lt HXr.out)).trans HXr.out
      have z0 := cell_of_row _ _ 2 _ _ _ e5
      simp at z0
      clear e5
      clear hSw
      go_simp
      try (with_reducible rfl)
    refine wpAnyH_take (i := 10) (v := ?_) rfl (by kernel_rfl) (by kernel_rfl) (by kernel_rfl) (fun _ _ _ h => h) (Or.inl ⟨by rfl, ?_⟩) (by assumption) ?_
    rotate_left
    · intro wq hSw
      clear hSw
      go_simp
      try (with_reducible rfl)
    refine wpAnyH_take (i := 11) (v := ?_) rfl (by kernel_rfl) (by kernel_rfl) (by kernel_rfl) (fun _ _ _ h => h) (Or.inl ⟨by rfl, ?_⟩) (by assumption) ?_
    rotate_left
    · intro wq hSw
      clear hSw
      go_simp
      try (with_reducible rfl)
    refine wpAnyH_take (i := 12) (v := ?_) rfl (by kernel_rfl) (by kernel_rfl) (by kernel_rfl) (fun _ _ _ h => h) (Or.inl ⟨by rfl, ?_⟩) (by assumption) ?_
    rotate_left
    · intro wq hSw
      clear hSw
      go_simp
      try (with_reducible rfl)
    refine wpAnyH_take (i := 13) (v := ?_) rfl (by kernel_rfl) (by kernel_rfl) (by kernel_rfl) (fun _ _ _ h => h) (Or.inl ⟨by rfl, ?_⟩) (by assumption) ?_
    rotate_left
    · intro wq hSw
      clear hSw
      go_simp
      try (with_reducible rfl)
    refine wpAnyH_ready (rs := [14]) (by kernel_rfl) (by simp) ?_
    refine AllReadyH.cons (i := 14) rfl ?_ AllReadyH.nil
    go_simp
    intro K hK
    obtain ⟨W3, hW3⟩ : ∃ W3, (wc.alloc (.cells #[.int .i64 0, .int .u32 0, .int .u32 0, .int .i64 0, .bool false, .slice none 0 0] 38)).drew = W3 := ⟨_, rfl⟩
    have h3 : Below wc.heap.size wc W3 := by rw [← hW3]; exact ((Below.refl _ wc).alloc (Nat.le_refl _) _).drew
    have hz8 : W3.heap[wc.heap.size]? = some (.cells #[.int .i64 0, .int .u32 0, .int .u32 0, .int .i64 0, .bool false, .slice none 0 0] 38) := by rw [← hW3]; exact heap_alloc_last wc _
    rw [hW3]
    obtain ⟨b14, hb14⟩ : ∃ b14, wc.heap.size = b14 := ⟨_, rfl⟩
    have h58 : wc.heap.size ≤ b14 := Nat.le_of_eq hb14
    rw [hb14] at hz8 ⊢
    refine hK.out _ _ h3 (fun _ => ?_)
    clear hK K hW3 hb14
    refine wpAnyH_ready (rs := [15]) (by kernel_rfl) (by simp) ?_
    have zz0 := cell_of_row _ _ 0 _ _ _ hz8
    have zz1 := cell_of_row _ _ 1 _ _ _ hz8
    have zz2 := cell_of_row _ _ 2 _ _ _ hz8
    have zz3 := cell_of_row _ _ 3 _ _ _ hz8
    have zz4 := cell_of_row _ _ 4 _ _ _ hz8
    have zz5 := cell_of_row _ _ 5 _ _ _ hz8
    simp at zz0 zz1 zz2 zz3 zz4 zz5
    have yy0 := frozen_new hz8 0
    have yy1 := frozen_new hz8 1
    have yy2 := frozen_new hz8 2
    have yy3 := frozen_new hz8 3
    have yy4 := frozen_new hz8 4
    have yy5 := frozen_new hz8 5
    refine AllReadyH.cons (i := 15) rfl ?_ AllReadyH.nil
    go_simp
    intro K hK
    have hset := set6 (.int .i64 s.self) (.int .u32 s.epoch) (.int .u32 xs) (.int .i64 claim) (.bool ing) (.slice aa an acap) hz8
    have hbs : Below wc.heap.size wc ((((((W3.setCell ⟨b14, 0, none⟩ (.int .i64 s.self)).setCell ⟨b14, 1, none⟩ (.int .u32 s.epoch)).setCell ⟨b14, 2, none⟩ (.int .u32 xs)).setCell ⟨b14, 3, none⟩ (.int .i64 claim)).setCell ⟨b14, 4, none⟩ (.bool ing)).setCell ⟨b14, 5, none⟩ (.slice aa an acap)) := (((((h3.setCell (p := ⟨b14, 0, none⟩) h58 _).setCell (p := ⟨b14, 1, none⟩) h58 _).setCell (p := ⟨b14, 2, none⟩) h58 _).setCell (p := ⟨b14, 3, none⟩) h58 _).setCell (p := ⟨b14, 4, none⟩) h58 _).setCell (p := ⟨b14, 5, none⟩) h58 _
    generalize (((((World.setCell _ _ _).setCell _ _).setCell _ _).setCell _ _).setCell _ _).setCell _ _ = W4 at hset hbs ⊢
    refine hK.out _ _ hbs (fun _ => ?_)
    clear hK K zz0 zz1 zz2 zz3 zz4 zz5 yy0 yy1 yy2 yy3 yy4 yy5
    refine wpAnyH_done (by kernel_rfl) ?_ _
    have q2 := cell_of_row _ _ 2 _ _ _ ((hbs.block _ (block_lt HXr.out)).trans HXr.out)
    simp at q2
    have hsq := Hsq.out
    clear h3 hz8 hh hHeld
    by_cases hfull : xs = 4294967295
    · have hf1 : (xs == 4294967295) = true := by simpa using hfull
      have Hfull := hidIn hfull
      clear hfull
      go_upto_region 8 with fail
      clear q2
      have HFw := hidIn (HF2.out.keep hbs)
      have HXw := hidIn ((hbs.block _ (block_lt HX2.out)).trans HX2.out)
      have HVw : Hid (SlAt ac 2 W4 (.slice aa an acap) l) := hidIn (HV2.out.keep hbs (Nat.le_refl _))
      have HRw : Hid (W4.heap[b14]? = some (.cells #[.int .i64 s.self, .int .u32 s.epoch, .int .u32 xs, .int .i64 claim, .bool ing, .slice aa an acap] 38)) := hidIn hset
      have HBw := hidIn (HB2.out.trans (hbs.mono HB2.out.size))
      have HRe : Hid (ownR s (rOf (f s.self)) claim ing l = ⟨s.self, s.epoch, xs, claim, ing, l⟩) := hidIn (by rw [Hxr.out]; unfold ownR; simp only; rw [if_pos Hfull.out])
      have HTk := hidIn (ftick_any HFw.out now)
      have HCk : Hid (∀ wq, Below W4.heap.size W4 wq → Calls Try.prog 22 #[.agg #[.int .i64 s.self, .int .u32 s.epoch, .int .u32 xs, .int .i64 claim, .bool ing, .slice aa an acap]] wq fun e w' => e = .returned (.int .i64 (ckN ⟨s.self, s.epoch, xs, claim, ing, l⟩)) ∧ Below wq.heap.size wq w') := hidIn fun wq hq => rcheck_any (r := ⟨s.self, s.epoch, xs, claim, ing, l⟩) (HVw.out.keep hq (Nat.le_refl _))
      have x0 := cell_of_row _ _ 0 _ _ _ HXw.out
      simp at x0
      have r0 := cell_of_row _ _ 0 _ _ _ HRw.out
      have r1 := cell_of_row _ _ 1 _ _ _ HRw.out
      have r2 := cell_of_row _ _ 2 _ _ _ HRw.out
      have r3 := cell_of_row _ _ 3 _ _ _ HRw.out
      have r4 := cell_of_row _ _ 4 _ _ _ HRw.out
      have r5 := cell_of_row _ _ 5 _ _ _ HRw.out
      simp at r0 r1 r2 r3 r4 r5
      clear hset hbs HF2 HX2 HV2 HXr HB2 hsx hnx
      go_wp2_with fail
      refine HTk.out.mono ?_
      rintro e w1 ⟨rfl, h1⟩
      rw [h1]
      clear HTk h1 w1
      cases htk : tkOk s now with
      | false =>
        have HO : Hid (OwnAns w W4 P O S M n s f ob claim ing l now (.returned (.tuple #[.slice none 0 0, .int .i64 2]))) := hidIn (.inl ⟨.inl htk, rfl, HBw.out⟩)
        clear htk
        go_wp2_with fail
        go_returns
        exact HO.out
      | true =>
        have Htk := hidIn htk
        clear htk
        go_wp2_with fail
        refine (HCk.out _ (Below.refl _ _)).mono ?_
        rintro e w6 ⟨rfl, hb6⟩
        have HB6 := hidIn (HBw.out.trans (hb6.mono HBw.out.size))
        by_cases hok : recOk ⟨s.self, s.epoch, xs, claim, ing, l⟩ = true
        · have hck : ckN ⟨s.self, s.epoch, xs, claim, ing, l⟩ = 0 := by unfold ckN; rw [if_pos hok]
          have Hok := hidIn hok
          rw [hck]
          clear hck hok
          have HO : Hid (OwnAns w w6 P O S M n s f ob claim ing l now (.returned (.tuple #[.slice none 0 0, .int .i64 8]))) := hidIn (.inr (.inl ⟨Htk.out, by rw [HRe.out]; exact Hok.out, by rw [Hxr.out]; exact Hfull.out, rfl, HB6.out⟩))
          go_wp2_with fail
          go_returns
          exact HO.out
        · have hck : ckN ⟨s.self, s.epoch, xs, claim, ing, l⟩ = 2 := by unfold ckN; rw [if_neg hok]
          have HO : Hid (OwnAns w w6 P O S M n s f ob claim ing l now (.returned (.tuple #[.slice none 0 0, .int .i64 2]))) := hidIn (.inl ⟨.inr (by rw [HRe.out]; simpa using hok), rfl, HB6.out⟩)
          rw [hck]
          clear hck hok
          go_wp2_with fail
          go_returns
          exact HO.out
    · have hf1 : (xs == 4294967295) = false := by simpa using hfull
      have Hfull := hidIn hfull
      have hwr : IntKind.u32.wrap (xs + 1) = xs + 1 := by rw [show IntKind.u32.wrap (xs + 1) = (xs + 1) % 4294967296 from rfl]; omega
      clear hfull
      have p2 := cell_of_row _ _ 2 _ _ _ hset
      simp at p2
      have pf := frozen_new hset 2
      obtain ⟨W5, hW5⟩ : ∃ W5, W4.setCell ⟨b14, 2, none⟩ (.int .u32 (xs + 1)) = W5 := ⟨_, rfl⟩
      have hset5 : W5.heap[b14]? = some (.cells #[.int .i64 s.self, .int .u32 s.epoch, .int .u32 (xs + 1), .int .i64 claim, .bool ing, .slice aa an acap] 38) := by
        rw [← hW5]
        have := heap_setCell_same W4 b14 2 _ _ (.int .u32 (xs + 1)) hset
        simp at this
        exact this
      have hb5c : Below wc.heap.size wc W5 := by rw [← hW5]; exact hbs.setCell (p := ⟨b14, 2, none⟩) h58 _
      have HW5 := hidIn hW5
      clear hW5
      go_upto_region 8 with fail
      rw [HW5.out]
      clear HW5 q2 p2 pf hwr
      have HFw := hidIn (HF2.out.keep hb5c)
      have HXw := hidIn ((hb5c.block _ (block_lt HX2.out)).trans HX2.out)
      have HVw : Hid (SlAt ac 2 W5 (.slice aa an acap) l) := hidIn (HV2.out.keep hb5c (Nat.le_refl _))
      have HRw : Hid (W5.heap[b14]? = some (.cells #[.int .i64 s.self, .int .u32 s.epoch, .int .u32 (xs + 1), .int .i64 claim, .bool ing, .slice aa an acap] 38)) := hidIn hset5
      have HBw := hidIn (HB2.out.trans (hb5c.mono HB2.out.size))
      have HRe : Hid (ownR s (rOf (f s.self)) claim ing l = ⟨s.self, s.epoch, (xs + 1), claim, ing, l⟩) := hidIn (by rw [Hxr.out]; unfold ownR; simp only; rw [if_neg Hfull.out])
      have HTk := hidIn (ftick_any HFw.out now)
      have HCk : Hid (∀ wq, Below W5.heap.size W5 wq → Calls Try.prog 22 #[.agg #[.int .i64 s.self, .int .u32 s.epoch, .int .u32 (xs + 1), .int .i64 claim, .bool ing, .slice aa an acap]] wq fun e w' => e = .returned (.int .i64 (ckN ⟨s.self, s.epoch, (xs + 1), claim, ing, l⟩)) ∧ Below wq.heap.size wq w') := hidIn fun wq hq => rcheck_any (r := ⟨s.self, s.epoch, (xs + 1), claim, ing, l⟩) (HVw.out.keep hq (Nat.le_refl _))
      have x0 := cell_of_row _ _ 0 _ _ _ HXw.out
      simp at x0
      have r0 := cell_of_row _ _ 0 _ _ _ HRw.out
      have r1 := cell_of_row _ _ 1 _ _ _ HRw.out
      have r2 := cell_of_row _ _ 2 _ _ _ HRw.out
      have r3 := cell_of_row _ _ 3 _ _ _ HRw.out
      have r4 := cell_of_row _ _ 4 _ _ _ HRw.out
      have r5 := cell_of_row _ _ 5 _ _ _ HRw.out
      simp at r0 r1 r2 r3 r4 r5
      clear hset hbs HF2 HX2 HV2 HXr HB2 hsx hnx hset5 hb5c
      go_wp2_with fail
      refine HTk.out.mono ?_
      rintro e w1 ⟨rfl, h1⟩
      rw [h1]
      clear HTk h1 w1
      cases htk : tkOk s now with
      | false =>
        have HO : Hid (OwnAns w W5 P O S M n s f ob claim ing l now (.returned (.tuple #[.slice none 0 0, .int .i64 2]))) := hidIn (.inl ⟨.inl htk, rfl, HBw.out⟩)
        clear htk
        go_wp2_with fail
        go_returns
        exact HO.out
      | true =>
        have Htk := hidIn htk
        clear htk
        go_wp2_with fail
        refine (HCk.out _ (Below.refl _ _)).mono ?_
        rintro e w6 ⟨rfl, hb6⟩
        have HB6 := hidIn (HBw.out.trans (hb6.mono HBw.out.size))
        by_cases hok : recOk ⟨s.self, s.epoch, (xs + 1), claim, ing, l⟩ = true
        · have hck : ckN ⟨s.self, s.epoch, (xs + 1), claim, ing, l⟩ = 0 := by unfold ckN; rw [if_pos hok]
          have Hok := hidIn hok
          rw [hck]
          clear hck hok
          have HF6 := hidIn (HFw.out.keep hb6)
          have HX6 := hidIn ((hb6.block _ (block_lt HXw.out)).trans HXw.out)
          have HR6 := hidIn ((hb6.block _ (block_lt HRw.out)).trans HRw.out)
          have HV6 := hidIn (HVw.out.keep hb6 (Nat.le_refl _))
          have HPu : Hid (Calls Try.prog 48 #[ptr S, .agg #[.int .i64 s.self, .int .u32 s.epoch, .int .u32 (xs + 1), .int .i64 claim, .bool ing, .slice aa an acap]] w6.drew fun e w' => ∃ f', FlAt w' P O S M (n + 1) s f' ob ∧ fR f' = putR (fR f) ⟨s.self, s.epoch, xs + 1, claim, ing, l⟩ ∧ (∃ x, e = .returned x) ∧ Fr (fun j => j = M) w6 w') := hidIn (by
            have hd : Below w6.heap.size w6 w6.drew := (Below.refl _ w6).drew
            refine (sput_any (r := ⟨s.self, s.epoch, xs + 1, claim, ing, l⟩) (HF6.out.keep hd).st (by omega) (HV6.out.keep hd (Nat.le_refl _)) ⟨by have := Hh.out.ok.ep; show 0 ≤ s.epoch; omega, by show 0 ≤ xs + 1; omega⟩).mono ?_
            intro e w' hp
            have hp0 := hp.1
            obtain ⟨f', g1, g2, g3⟩ := (HF6.out.keep hd).put hp
            exact ⟨f', g1, g2, ⟨_, hp0⟩, (Fr.of_below hd).trans g3⟩)
          have hnb5 : b5 ≠ M := fun e => by
            obtain ⟨es, cl, hm⟩ := HF6.out.st.m.isMap
            rw [← e, HX6.out] at hm
            cases hm
          have hnb14 : b14 ≠ M := fun e => by
            obtain ⟨es, cl, hm⟩ := HF6.out.st.m.isMap
            rw [← e, HR6.out] at hm
            cases hm
          clear r0 r1 r2 r3 r4 r5 x0 hb6 HCk HFw HXw HRw HVw HBw
          go_upto_region 12 with fail
          go_cut [0] (fun x wx => x = ptr P ∧ ∃ f', FlAt wx P O S M (n + 1) s f' ob ∧ fR f' = putR (fR f) ⟨s.self, s.epoch, xs + 1, claim, ing, l⟩ ∧ Fr (fun j => j = M) w6 wx)
          case first =>
            refine wp_region_held_drew (S := fun wx => Fr (fun j => j = M) w6 wx) (by kernel_rfl) ((Fr.refl _ w6).drew) (fun hHeld => ?_)
            refine wpAnyH_take (i := 0) (v := ?_) rfl (by kernel_rfl) (by kernel_rfl) (by kernel_rfl) (fun _ _ _ h => h) (Or.inl ⟨by rfl, ?_⟩) (by assumption) ?_
            rotate_left
            · intro wq hSw
              have e5 := (hSw.block _ (block_lt HX6.out) hnb5).trans HX6.out
              have z0 := cell_of_row _ _ 0 _ _ _ e5
              simp at z0
              clear e5
              clear hSw
              go_simp
              try (with_reducible rfl)
            refine wpAnyH_take (i := 1) (v := ?_) rfl (by kernel_rfl) (by kernel_rfl) (by kernel_rfl) (fun _ _ _ h => h) (Or.inl ⟨by rfl, ?_⟩) (by assumption) ?_
            rotate_left
            · intro wq hSw
              clear hSw
              go_simp
              try (with_reducible rfl)
            refine wpAnyH_take (i := 2) (v := ?_) rfl (by kernel_rfl) (by kernel_rfl) (by kernel_rfl) (fun _ _ _ h => h) (Or.inl ⟨by rfl, ?_⟩) (by assumption) ?_
            rotate_left
            · intro wq hSw
              clear hSw
              go_simp
              try (with_reducible rfl)
            refine wpAnyH_take (i := 3) (v := ?_) rfl (by kernel_rfl) (by kernel_rfl) (by kernel_rfl) (fun _ _ _ h => h) (Or.inl ⟨by rfl, ?_⟩) (by assumption) ?_
            rotate_left
            · intro wq hSw
              have e5 := (hSw.block _ (block_lt HF6.out.p) (fun e => HF6.out.neP.2.1 e.symm)).trans HF6.out.p
              have z0 := cell_of_row _ _ 4 _ _ _ e5
              simp at z0
              clear e5
              clear hSw
              go_simp
              try (with_reducible rfl)
            refine wpAnyH_take (i := 4) (v := ?_) rfl (by kernel_rfl) (by kernel_rfl) (by kernel_rfl) (fun _ _ _ h => h) (Or.inl ⟨by rfl, ?_⟩) (by assumption) ?_
            rotate_left
            · intro wq hSw
              have e5 := (hSw.block _ (block_lt HR6.out) hnb14).trans HR6.out
              have z0 := cell_of_row _ _ 0 _ _ _ e5
              have z1 := cell_of_row _ _ 1 _ _ _ e5
              have z2 := cell_of_row _ _ 2 _ _ _ e5
              have z3 := cell_of_row _ _ 3 _ _ _ e5
              have z4 := cell_of_row _ _ 4 _ _ _ e5
              have z5 := cell_of_row _ _ 5 _ _ _ e5
              simp at z0 z1 z2 z3 z4 z5
              clear e5
              clear hSw
              go_simp
              try (with_reducible rfl)
            refine wpAnyH_ready (rs := [5]) (by kernel_rfl) (by simp) ?_
            refine AllReadyH.cons (i := 5) rfl ?_ AllReadyH.nil
            go_simp
            intro K hK
            refine HPu.out.mono ?_
            rintro e w7 ⟨f', g1, g2, ⟨x, rfl⟩, g3⟩
            refine hK.out _ _ g3 (fun _ => ?_)
            clear hK K
            refine wpAnyH_done (by kernel_rfl) ?_ _
            go_wp2_with fail
            go_meet
            exact ⟨rfl, f', g1, g2, g3⟩
          case rest =>
            obtain ⟨rfl, f', g1, g2, g3⟩ := hcut
            have HF7 := hidIn g1
            have Hf7 := hidIn g2
            have HM7 := hidIn g3
            have HX7 := hidIn ((g3.block _ (block_lt HX6.out) hnb5).trans HX6.out)
            have htk2 : s.last ≤ now ∧ now ≤ 1099511627776 := by have := Htk.out; unfold tkOk at this; simpa using this
            have HTl := hidIn (telling_any g1 htk2.1 htk2.2)
            have x0 := cell_of_row _ _ 0 _ _ _ HX7.out
            simp at x0
            have Hlt7 : Hid (b5 < wc.heap.size) := hidIn (block_lt HX7.out)
            obtain ⟨w7, hw7⟩ : ∃ w7, w7 = wc := ⟨_, rfl⟩
            rw [← hw7] at HF7 HM7 HX7 HTl x0 Hlt7 ⊢
            clear g1 g2 g3 HPu HF6 HX6 HR6 HV6 hw7
            go_wp2_with fail
            refine HTl.out.mono ?_
            rintro e w8 ⟨rfl, h8, h9, h10⟩
            obtain ⟨W9, hW9⟩ : ∃ W9, w8.alloc (.cells #[oweF w7.heap.size] 105) = W9 := ⟨_, rfl⟩
            have b9 : Below w8.heap.size w8 W9 := by rw [← hW9]; exact (Below.refl _ w8).alloc (Nat.le_refl _) _
            have hX9 : W9.heap[w8.heap.size]? = some (.cells #[oweF w7.heap.size] 105) := by rw [← hW9]; exact heap_alloc_last w8 _
            have hP7 := block_lt HF7.out.p
            have hbP : b5 ≠ P := by omega
            have hX59 := (b9.block _ (by have := h10.size; have := Hlt7.out; omega)).trans ((h10.block b5 Hlt7.out hbP).trans HX7.out)
            have ham : Amid w7 W9 P O S M (n + 1) (s.tick now) f' ob w7.heap.size now [] := ⟨h8.keep b9, ⟨[], h9.keep b9, rfl⟩, rfl⟩
            have hsz8 : w7.heap.size + 2 < w8.heap.size := by obtain ⟨u, hu, _⟩ := h9.c; exact block_lt hu
            have HE := hidIn (own_each (left := 0) (o := s.self) ham hX9 hX59 rfl ⟨by omega, by have := Hlt7.out; omega⟩ (by simp))
            have HF9 : Hid (Fr (fun j => j = P) w7 W9) := hidIn (h10.trans (Fr.of_below b9))
            obtain ⟨b16, hb16⟩ : ∃ b16, w8.heap.size = b16 := ⟨_, rfl⟩
            rw [hb16] at HE
            have y0 := cell_of_row _ _ 0 _ _ _ hX59
            simp at y0
            have HW9 := hidIn hW9
            clear hX9 hX59 ham h8 h9 h10 b9 hW9 hsz8 x0 HTl
            go_upto_region 14 with fail
            rw [HW9.out]
            clear HW9 hb16
            go_wp2_with fail
            refine HE.out.mono ?_
            rintro e w10 ⟨⟨x, rfl⟩, ham, hfr, _⟩
            obtain ⟨L, htl, hsl⟩ := ham.t
            have HTo := hidIn (told_any htl)
            have HO : Hid (∀ u, w10.ownsRow (w7.heap.size + 3) 81 7 u L.length (fl sdc L) → OwnAns w w10 P O S M n s f ob claim ing l now (.returned (.tuple #[u, .int .i64 0]))) := hidIn fun u hu => by
              have hw67 : w.heap.size ≤ w7.heap.size := Nat.le_trans HB6.out.size HM7.out.size
              have hup : upL (s.tick now) 0 24 = upL s 0 24 := rfl
              have hFw : Fr (FlB P O M ob) w w10 := by
                have g0 : Fr (FlB P O M ob) w w6 := Fr.of_below HB6.out
                have g1 : Fr (fun j => FlB P O M ob j ∨ w7.heap.size ≤ j) w w10 := ((g0.mono fun k _ hk => .inl hk).trans (HM7.out.mono fun k _ hk => .inl (.inr (.inr (.inl hk))))).trans ((HF9.out.mono fun k _ hk => .inl (.inl hk)).trans (hfr.mono fun k _ hk => by rcases hk with hk | hk; exact .inl (.inr (.inr (.inr hk))); exact .inr (by omega)))
                exact g1.mono fun k hk h => by rcases h with h | h; exact h; omega
              refine .inr (.inr ⟨Htk.out, by rw [HRe.out]; exact Hok.out, by rw [Hxr.out]; exact Hfull.out, u, f', rfl, by rw [HRe.out]; exact Hf7.out, by rw [← hup]; exact ham.f, ⟨L, row_low hu (by omega), by rw [hsl]; simp [hup], fun x hx => ?_⟩, hFw⟩)
              obtain ⟨a, c, e1, e2, e3, e4⟩ := htl.r x hx
              exact ⟨a, c, e1, e2, e3, fun q hq => by obtain ⟨g, e5, e6, e7⟩ := e4 q hq; exact ⟨g, e5, Nat.le_trans hw67 e6, e7⟩⟩
            clear ham hfr htl hsl HE HF9 y0
            go_wp2_with fail
            refine HTo.out.mono ?_
            rintro e w11 ⟨⟨u, rfl, hu⟩, h11⟩
            rw [h11]
            have HA := hidIn (HO.out u hu)
            obtain ⟨ua, uc, rfl⟩ := row_shape hu
            clear hu HTo HO h11
            go_wp2_with fail
            go_returns
            exact HA.out
        · have hck : ckN ⟨s.self, s.epoch, (xs + 1), claim, ing, l⟩ = 2 := by unfold ckN; rw [if_neg hok]
          have HO : Hid (OwnAns w w6 P O S M n s f ob claim ing l now (.returned (.tuple #[.slice none 0 0, .int .i64 2]))) := hidIn (.inl ⟨.inr (by rw [HRe.out]; simpa using hok), rfl, HB6.out⟩)
          rw [hck]
          clear hck hok
          go_wp2_with fail
          go_returns
          exact HO.out
end Go.Proofs.Yteaaoipipjkgnaa
