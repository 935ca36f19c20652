/- What is missing, as lists (pure): the stamps by origin against the document's find. The document's Missing. Records and stamps as arguments. Small numbers of four, stamps, as arguments. Records as an argument, with what a uint32 holds. StoreMisses. -/
import Derived.Test.YtpdpdhnllmlfdaaZ2
import Derived.Test.YtpdpdhnllmlfdaaN13
import Derived.Test.YtpdpdhnllmlfdaaZ1
import Derived.Deep.RegionHeld
import Derived.Test.YtpdpdhnllmlfdaaX1
import Derived.Test.YtpdpdhnllmlfdaaGH
import Derived.Test.YtpdpdhnllmlfdaaN8
import Derived.Test.YtpdpdhnllmlfdaaGD
namespace Go.Proofs.Ytpdpdhnllmlfdaa
open Go.RowKit Go.Maps

theorem mayS_pos {x : Ed} (h : mayS x.1 x.2.1 x.2.2 = true) : 1 ≤ x.1 ∧ x.1 ≤ 24 ∧ 0 < x.2.1 ∧ 0 < x.2.2 := by
  unfold mayS at h
  simp only [Bool.and_eq_true, decide_eq_true_eq, isR_iff] at h
  omega
theorem fdS_snoc (U : List Ed) (x : Ed) (i : Int) : fdS (U ++ [x]) i = (fdS U i).or (if x.1 = i then some x else none) := by
  unfold fdS
  rw [List.find?_append]
  congr 1
  by_cases h : x.1 = i
  · rw [if_pos h, List.find?_cons, show (x.1 == i) = true by simpa using h]
  · rw [if_neg h, List.find?_cons, show (x.1 == i) = false by simpa using h]; rfl
theorem fdS_mem {l : List Ed} {i : Int} {y : Ed} (h : fdS l i = some y) : y ∈ l ∧ y.1 = i := ⟨List.mem_of_find?_eq_some h, by have := List.find?_some h; simpa using this⟩
/-- The stamps by origin, as the document finds them. -/
def ByOk (l : List Ed) (g : Nat → Ed) : Prop := (∀ i : Nat, g i = sD (fdS l (i : Int))) ∧ ∀ y ∈ l, mayS y.1 y.2.1 y.2.2 = true
theorem ByOk.zero {l : List Ed} {g : Nat → Ed} (h : ByOk l g) {x : Ed} (hx : mayS x.1 x.2.1 x.2.2 = true) : g x.1.toNat = (0, 0, 0) ↔ fdS l x.1 = none := by
  have h1 := mayS_pos hx
  have h2 : ((x.1.toNat : Nat) : Int) = x.1 := by omega
  rw [h.1, h2]
  constructor
  · intro h3
    cases h4 : fdS l x.1 with
    | none => rfl
    | some y =>
      rw [h4] at h3
      have h5 := mayS_pos (h.2 y (fdS_mem h4).1)
      have h6 : y = (0, 0, 0) := h3
      rw [h6] at h5
      simp at h5
  · intro h3
    rw [h3]
    rfl
theorem byS_ok : ∀ (n : Nat) (l : List Ed), l.length = n → ∀ g, byS l = some g → ByOk l g
  | 0, l, hl, g, h => by
    rw [List.length_eq_zero_iff.1 hl] at h ⊢
    cases h
    exact ⟨fun i => rfl, fun y hy => by simp at hy⟩
  | n + 1, l, hl, g, h => by
    obtain ⟨U, x, rfl⟩ : ∃ U x, l = U ++ [x] := by
      rcases List.eq_nil_or_concat l with h' | ⟨U, x, h'⟩
      · rw [h'] at hl; simp at hl
      · exact ⟨U, x, by simpa using h'⟩
    have hb : byS (U ++ [x]) = addS (byS U) x := by unfold byS; rw [List.foldl_append]; rfl
    rw [hb] at h
    cases hU : byS U with
    | none => rw [hU] at h; cases h
    | some f =>
      have ih := byS_ok n U (by simpa using hl) f hU
      rw [hU] at h
      have h1 : (if mayS x.1 x.2.1 x.2.2 = true ∧ f x.1.toNat = (0, 0, 0) then some (upS f x.1.toNat x) else none) = some g := h
      by_cases hc : mayS x.1 x.2.1 x.2.2 = true ∧ f x.1.toNat = (0, 0, 0)
      · rw [if_pos hc] at h1
        cases h1
        have hn := (ih.zero hc.1).1 hc.2
        have hp := mayS_pos hc.1
        refine ⟨fun i => ?_, fun y hy => ?_⟩
        · rw [fdS_snoc]
          by_cases hi : i = x.1.toNat
          · have h2 : x.1 = (i : Int) := by omega
            rw [if_pos h2, ← h2, hn]
            unfold upS
            rw [if_pos hi]
            rfl
          · have h2 : ¬ x.1 = (i : Int) := by omega
            rw [if_neg h2]
            unfold upS
            rw [if_neg hi, ih.1 i]
            cases fdS U (i : Int) <;> rfl
        · rcases List.mem_append.1 hy with hy | hy
          · exact ih.2 y hy
          · rw [List.mem_singleton.1 hy]; exact hc.1
      · rw [if_neg hc] at h1; cases h1
theorem newI_turn (e q f r : Int) : newI e q f r = -1 ↔ 0 < newI f r e q := by
  have h1 := newI_vals e q f r
  have h2 := newI_pos e q f r
  have h3 := newI_pos f r e q
  have h4 := newI_vals f r e q
  have h5 : newI e q f r = -1 ↔ (e < f ∨ (e = f ∧ q < r)) := by
    unfold newI cmpI
    repeat' split
    all_goals omega
  omega
/-- What is sent, what is wanted, as the document asks it. -/
theorem mis_ask {F : Rf} (hF : OkF F) {l : List Ed} {g : Nat → Ed} (h : ByOk l g) (i : Nat) :
    (newI (gD (F (i : Int))).epoch (gD (F (i : Int))).seq (g i).2.1 (g i).2.2 = 1 ↔ ((F (i : Int)).isSome = true ∧ ((fdS l (i : Int)).isSome = false ∨ 0 < newI (gD (F (i : Int))).epoch (gD (F (i : Int))).seq (sD (fdS l (i : Int))).2.1 (sD (fdS l (i : Int))).2.2))) ∧
    (newI (gD (F (i : Int))).epoch (gD (F (i : Int))).seq (g i).2.1 (g i).2.2 = -1 ↔ ((fdS l (i : Int)).isSome = true ∧ ((F (i : Int)).isSome = false ∨ 0 < newI (sD (fdS l (i : Int))).2.1 (sD (fdS l (i : Int))).2.2 (gD (F (i : Int))).epoch (gD (F (i : Int))).seq))) := by
  rw [h.1 i, newI_turn]
  cases hr : F (i : Int) with
  | none =>
    cases hs : fdS l (i : Int) with
    | none => simp [gD, sD, rc0, newI, cmpI]
    | some y =>
      have h1 := mayS_pos (h.2 y (fdS_mem hs).1)
      have h2 := (newI_pos 0 0 y.2.1 y.2.2).1
      have h3 := (newI_pos y.2.1 y.2.2 0 0).2 (by omega)
      simp [gD, sD, rc0]
      omega
  | some r =>
    have h0 := recOk_pos (hF _ _ hr).1
    cases hs : fdS l (i : Int) with
    | none =>
      have h2 := (newI_pos 0 0 r.epoch r.seq).1
      have h3 := (newI_pos r.epoch r.seq 0 0).2 (by omega)
      have h4 := newI_vals 0 0 r.epoch r.seq
      simp [gD, sD]
      omega
    | some y =>
      have h4 := newI_vals r.epoch r.seq y.2.1 y.2.2
      simp [gD, sD]
      omega
end Go.Proofs.Ytpdpdhnllmlfdaa
namespace Go.Proofs.Ytpdpdhnllmlfdaa
open Go.RowKit Go.Maps

def ansG (F : Rf) (g : Nat → Ed) (i : Nat) : Int := newI (gD (F (i : Int))).epoch (gD (F (i : Int))).seq (g i).2.1 (g i).2.2
def sndG (F : Rf) (g : Nat → Ed) (n : Nat) : List Rc := (List.range n).filterMap fun (i : Nat) => if ansG F g i = 1 then some (gD (F (i : Int))) else none
def wntG (F : Rf) (g : Nat → Ed) (n : Nat) : List Int := (List.range n).filterMap fun (i : Nat) => if ansG F g i = -1 then some (i : Int) else none
theorem sndG_succ (F : Rf) (g : Nat → Ed) (n : Nat) : sndG F g (n + 1) = sndG F g n ++ (if ansG F g n = 1 then [gD (F (n : Int))] else []) := by
  unfold sndG
  rw [List.range_succ, List.filterMap_append]
  by_cases h : ansG F g n = 1 <;> simp [h]
theorem wntG_succ (F : Rf) (g : Nat → Ed) (n : Nat) : wntG F g (n + 1) = wntG F g n ++ (if ansG F g n = -1 then [(n : Int)] else []) := by
  unfold wntG
  rw [List.range_succ, List.filterMap_append]
  by_cases h : ansG F g n = -1 <;> simp [h]
theorem sndG_send (f : Sf) (g : Nat → Ed) (n : Nat) : sendL f g n = sndG (fR f) g n := rfl
theorem wntG_want (f : Sf) (g : Nat → Ed) (n : Nat) : wantL f g n = wntG (fR f) g n := rfl
theorem ansG_zero {F : Rf} (hF : OkF F) {l : List Ed} {g : Nat → Ed} (h : ByOk l g) : ansG F g 0 = 0 := by
  have h1 : F ((0 : Nat) : Int) = none := hF.out (by omega)
  have h2 : fdS l ((0 : Nat) : Int) = none := by
    cases h3 : fdS l ((0 : Nat) : Int) with
    | none => rfl
    | some y =>
      have h4 := fdS_mem h3
      have h5 := mayS_pos (h.2 y h4.1)
      omega
  have h3 : g 0 = (0, 0, 0) := by rw [h.1 0, h2]; rfl
  unfold ansG
  rw [h1, h3]
  rfl
/-- What the document's Missing answers. -/
def DmAns (w w' : World) (F : Rf) (L : List (Rc × Value)) (o : Option (Nat → Ed)) (e : Ending) : Prop :=
  (o = none ∧ e = .returned (.tuple #[.slice none 0 0, .slice none 0 0, .int .i64 2])) ∨
    ∃ g u v O, o = some g ∧ e = .returned (.tuple #[u, v, .int .i64 0]) ∧ w'.ownsRow w.heap.size 28 6 u O.length (fl rcc O) ∧ rcs O = sndG F g 25 ∧ (∀ x ∈ O, x ∈ L) ∧ w'.ownsRow w.heap.size 3 1 v (wntG F g 25).length (fl ic (wntG F g 25))
/-- Amid it. -/
def DmM (w wr : World) (F : Rf) (g : Nat → Ed) (L : List (Rc × Value)) (k : Nat) (u v : Value) : Prop :=
  ∃ O, wr.ownsRow w.heap.size 28 6 u O.length (fl rcc O) ∧ rcs O = sndG F g k ∧ (∀ x ∈ O, x ∈ L) ∧ wr.ownsRow w.heap.size 3 1 v (wntG F g k).length (fl ic (wntG F g k)) ∧ O.length ≤ k ∧ (wntG F g k).length ≤ k ∧ Below w.heap.size w wr
theorem DmM.keep {w wr w' : World} {F : Rf} {g : Nat → Ed} {L : List (Rc × Value)} {k : Nat} {u v : Value} (h : DmM w wr F g L k u v) (hb : Below wr.heap.size wr w') : DmM w w' F g L k u v := by
  obtain ⟨O, h1, h2, h3, h4, h5, h6, h7⟩ := h
  exact ⟨O, row_below h1 hb (Nat.le_refl _), h2, h3, row_below h4 hb (Nat.le_refl _), h5, h6, h7.trans (hb.mono h7.size)⟩
theorem append_recG {W : World} {base k : Nat} {u : Value} {l : List (Rc × Value)} (hr : W.ownsRow base 28 6 u k (fl rcc l)) (x : Rc × Value) (hx : x.2.oneCell' = true) (hk : (k + 1) * 56 ≤ 140737488355328) (hbase : base ≤ W.heap.size) :
    ∃ g cap w6, (Builtin.append_ #[22, 22] 22 #[u, .slice (some ⟨W.heap.size, 0, none⟩) 1 1]).run Try.prog (W.alloc (.cells (rcc x).toArray 28)) = .ok (.slice (some ⟨g, 0, none⟩) (k + 1) cap) w6 ∧
      w6.ownsRow base 28 6 (.slice (some ⟨g, 0, none⟩) (k + 1) cap) (k + 1) (fl rcc (l ++ [x])) ∧ Below base W w6 ∧ Fr (fun j => u.ownBlock = some j) W w6 := by
  obtain ⟨i0, hi, hz0, hz1, hz2⟩ := info_parts infoRec
  obtain ⟨g, cap, w6, hrun, hown, hgrow, _, _⟩ := run_append_lies (P := Try.prog) (W.alloc (.cells (rcc x).toArray 28)) 22 22 base 28 i0 _ 6 56 Try.underlying22 hi hz0 hz1 hz2 rfl (by decide) u k (fl rcc l) (hr.alloc _) ⟨W.heap.size, 0, none⟩ 1 1 (rcc x) rfl (fun j v hv => by
    rw [Addr.add_mid, Nat.zero_add, cell_of_row _ _ j (rcc x).toArray 28 (0, 0) (heap_alloc_last W _)]
    simpa using hv) (by simp only [rcc, List.mem_cons, List.not_mem_nil, or_false]; rintro u (rfl | rfl | rfl | rfl | rfl | rfl) <;> first | rfl | exact hx) (by omega) (by unfold maxLen; omega) hk (by simp; omega) (W.heap.size + 1) (by simp)
  refine ⟨g, cap, w6, hrun, by rw [fl_snoc]; exact hown, ?_, ?_⟩
  · exact ((Below.refl _ W).alloc hbase _).grown hgrow (by simp; omega) (fun j e => by
      rcases hr.2 with ⟨rfl, _⟩ | ⟨g', cap', cur, rfl, hb, _⟩
      · simp [Value.ownBlock] at e
      · simp [Value.ownBlock] at e; omega)
  · refine ⟨hgrow.os, hgrow.tape, hgrow.output, Nat.le_trans (by simp) hgrow.size, fun j hj hn => ?_⟩
    rw [hgrow.block j (by simp; omega) (fun e => hn e.symm), Below.heap_alloc _ _ _ hj]
theorem DmM.send {w W : World} {F : Rf} {g : Nat → Ed} {L : List (Rc × Value)} {k : Nat} {u v : Value} (h : DmM w W F g L k u v) (hk : k < 25) (ha : ansG F g k = 1) {x : Rc × Value} (hx : x ∈ L) (h1x : x.2.oneCell' = true) (hr : x.1 = gD (F (k : Int))) :
    ∃ gg cap w6, (Builtin.append_ #[22, 22] 22 #[u, .slice (some ⟨W.heap.size, 0, none⟩) 1 1]).run Try.prog (W.alloc (.cells (rcc x).toArray 28)) = .ok (.slice (some ⟨gg, 0, none⟩) ((sndG F g k).length + 1) cap) w6 ∧ DmM w w6 F g L (k + 1) (.slice (some ⟨gg, 0, none⟩) ((sndG F g k).length + 1) cap) v ∧ Fr (fun j => u.ownBlock = some j) W w6 := by
  obtain ⟨O, h1, h2, h3, h4, h5, h6, h7⟩ := h
  obtain ⟨gg, cap, w6, hrun, hown, hb6, hF6⟩ := append_recG h1 x h1x (by omega) h7.size
  have hLs : (sndG F g k).length = O.length := by rw [← h2, List.length_map]
  rw [hLs]
  have hno2 : ∀ j, v.ownBlock = some j → ¬ u.ownBlock = some j := fun j hj hu => by
    obtain ⟨cur, h⟩ := row_ty h4 hj
    obtain ⟨cur', h'⟩ := row_ty h1 hu
    rw [h] at h'
    simp at h'
  have hl : (O ++ [x]).length = O.length + 1 := by simp
  refine ⟨gg, cap, w6, hrun, ⟨O ++ [x], by rw [hl]; exact hown, ?_, fun y hy => ?_, ?_, by rw [hl]; omega, ?_, h7.trans hb6⟩, hF6⟩
  · rw [sndG_succ, if_pos ha, ← h2, ← hr]; simp
  · rcases List.mem_append.1 hy with hy | hy
    · exact h3 y hy
    · rw [List.mem_singleton.1 hy]; exact hx
  · rw [wntG_succ, if_neg (by omega), List.append_nil]
    exact row_fr h4 hF6 hno2
  · rw [wntG_succ, if_neg (by omega), List.append_nil]; omega
theorem DmM.want {w W : World} {F : Rf} {g : Nat → Ed} {L : List (Rc × Value)} {k : Nat} {u v : Value} (h : DmM w W F g L k u v) (hk : k < 25) (ha : ansG F g k = -1) :
    ∃ gg cap w6, (Builtin.append_ #[46, 46] 46 #[v, .slice (some ⟨W.heap.size, 0, none⟩) 1 1]).run Try.prog (W.alloc (.cells (ic (k : Int)).toArray 3)) = .ok (.slice (some ⟨gg, 0, none⟩) ((wntG F g k).length + 1) cap) w6 ∧ DmM w w6 F g L (k + 1) u (.slice (some ⟨gg, 0, none⟩) ((wntG F g k).length + 1) cap) := by
  obtain ⟨O, h1, h2, h3, h4, h5, h6, h7⟩ := h
  obtain ⟨gg, cap, w6, hrun, hown, _, hg6, hb6⟩ := append_in h4 (k : Int) (by omega) h7.size
  have hF6 : Fr (fun j => v.ownBlock = some j) W w6 := ⟨hg6.os, hg6.tape, hg6.output, hg6.size, fun j hj hn => hg6.block j hj (fun e => hn e.symm)⟩
  have hl : (wntG F g (k + 1)) = wntG F g k ++ [(k : Int)] := by rw [wntG_succ, if_pos ha]
  refine ⟨gg, cap, w6, hrun, O, row_fr h1 hF6 (fun j hj hv => ?_), ?_, h3, by rw [hl, List.length_append]; exact hown, by omega, by rw [hl, List.length_append]; simp; omega, h7.trans hb6⟩
  · obtain ⟨c1, e1⟩ := row_ty h1 hj
    obtain ⟨c2, e2⟩ := row_ty h4 hv
    rw [e1] at e2
    simp at e2
  · rw [sndG_succ, if_neg (by omega), List.append_nil]; exact h2
theorem DmM.none {w W : World} {F : Rf} {g : Nat → Ed} {L : List (Rc × Value)} {k : Nat} {u v : Value} (h : DmM w W F g L k u v) (ha : ansG F g k = 0) : DmM w W F g L (k + 1) u v := by
  obtain ⟨O, h1, h2, h3, h4, h5, h6, h7⟩ := h
  have e1 : sndG F g (k + 1) = sndG F g k := by rw [sndG_succ, if_neg (by omega), List.append_nil]
  have e2 : wntG F g (k + 1) = wntG F g k := by rw [wntG_succ, if_neg (by omega), List.append_nil]
  refine ⟨O, h1, by rw [e1]; exact h2, h3, ?_, by omega, ?_, h7⟩
  · rw [e2]; exact h4
  · rw [e2]; omega
theorem DmM.shape {w W : World} {F : Rf} {g : Nat → Ed} {L : List (Rc × Value)} {k : Nat} {u v : Value} (h : DmM w W F g L k u v) : ∃ a c b d, u = .slice a (sndG F g k).length c ∧ v = .slice b (wntG F g k).length d := by
  obtain ⟨O, h1, h2, _, h4, _⟩ := h
  obtain ⟨a, c, e1⟩ := row_shape h1
  obtain ⟨b, d, e2⟩ := row_shape h4
  have : (sndG F g k).length = O.length := by rw [← h2, List.length_map]
  exact ⟨a, c, b, d, by rw [this]; exact e1, e2⟩
theorem byS_bad {l : List Ed} {k : Nat} {x : Ed} {f : Nat → Ed} (h : byS (l.take k) = some f) (hx : l[k]? = some x) (hn : ¬ (mayS x.1 x.2.1 x.2.2 = true ∧ (fdS (l.take k) x.1).isSome = false)) : byS l = none := by
  refine (byS_take h hx).2 ?_
  show (if mayS x.1 x.2.1 x.2.2 = true ∧ f x.1.toNat = (0, 0, 0) then some (upS f x.1.toNat x) else none) = none
  rw [if_neg]
  rintro ⟨h1, h2⟩
  refine hn ⟨h1, ?_⟩
  rw [((byS_ok _ _ rfl f h).zero h1).1 h2]
  rfl
theorem byS_good {l : List Ed} {k : Nat} {x : Ed} {f : Nat → Ed} (h : byS (l.take k) = some f) (hx : l[k]? = some x) (hm : mayS x.1 x.2.1 x.2.2 = true) (hn : (fdS (l.take k) x.1).isSome = false) : ∃ f', byS (l.take (k + 1)) = some f' := by
  rw [(byS_take h hx).1]
  show ∃ f', (if mayS x.1 x.2.1 x.2.2 = true ∧ f x.1.toNat = (0, 0, 0) then some (upS f x.1.toNat x) else none) = some f'
  rw [if_pos ⟨hm, ((byS_ok _ _ rfl f h).zero hm).2 (by simpa using hn)⟩]
  exact ⟨_, rfl⟩
set_option maxRecDepth 100000 in
set_option maxHeartbeats 4000000 in
theorem dmissing_any {F : Rf} (hF : OkF F) {L : List (Rc × Value)} {v : Value} {l : List Ed} {sv : Value} {w : World} (hR : RecsAt w v L) (hL : rcs L = allR F 24) (hU : ∀ y ∈ L, U32 y.1) (hS : SlAt sc3 3 w sv l) (hB : ∀ y ∈ l, (0 ≤ y.2.1 ∧ y.2.1 < 4294967296) ∧ 0 ≤ y.2.2 ∧ y.2.2 < 4294967296) :
    Calls Try.prog 26 #[v, sv] w fun e w' => DmAns w w' F L (byS l) e ∧ Below w.heap.size w w' := by
  have HG : Hid (∀ (x : Int) wq, Below w.heap.size w wq → Calls Try.prog 16 #[v, .int .i64 x] wq fun e w' => GdAns (fdR L x) e ∧ Below wq.heap.size wq w') := hidIn fun x wq hq => dget_any (hR.keep hq (Nat.le_refl _)) x
  have HFd : Hid (∀ (x : Int) wq, Below w.heap.size w wq → Calls Try.prog 47 #[sv, .int .i64 x] wq fun e w' => FdAns (fdS l x) e ∧ Below wq.heap.size wq w') := hidIn fun x wq hq => find_any (hS.keep hq (Nat.le_refl _)) x
  have HA := hidIn hR.a
  have HLF := hidIn hL
  have HU := hidIn hU
  have HF := hidIn hF
  have HB := hidIn hB
  have HS := hidIn hS
  obtain ⟨va, lcap, rfl, _, _, _⟩ := hR.r.recs
  obtain ⟨sa, scap, rfl, hsl, hsc, _⟩ := hS
  obtain ⟨LN, hLN⟩ : ∃ LN, L.length = LN := ⟨_, rfl⟩
  obtain ⟨LL, hLL⟩ : ∃ LL, l.length = LL := ⟨_, rfl⟩
  rw [hLN] at HG ⊢
  rw [hLL] at HFd HS hsl hsc ⊢
  have HLL := hidIn hLL
  clear hLN hLL hR hL hU hF hB
  go_enter Try.func26, Try.ntmps26
  go_wp2_with fail
  go_loopw [7] (fun i wr => ∃ k : Nat, k ≤ LL ∧ i = .int .i64 k ∧ Hid (Below w.heap.size w wr ∧ ∃ g, byS (l.take k) = some g)) (fun i _ => LL - (intOf i).toNat)
  case atStart => exact ⟨0, Nat.zero_le _, rfl, hidIn ⟨Below.refl _ _, no3, rfl⟩⟩
  case round =>
    obtain ⟨k, hk, rfl, HI⟩ := hrel
    obtain ⟨hbr, g, hg⟩ := HI.out
    have HBr := hidIn hbr
    have Hg := hidIn hg
    clear HI hbr hg
    by_cases hlt : k < LL
    · obtain ⟨bk, o, rfl, hbk, hcell⟩ := HS.out.sts (by omega)
      obtain ⟨⟨s0, s1, s2⟩, hz⟩ : ∃ z, l[k]? = some z := ⟨l[k]'(by rw [HLL.out]; exact hlt), List.getElem?_eq_getElem _⟩
      obtain ⟨c0, c1, c2⟩ := hcell k _ hz
      simp only at c0 c1 c2
      have HC0 : Hid (∀ wq, Below w.heap.size w wq → wq.cell? ⟨bk, o + k * 3, none⟩ = some (.int .i64 s0) ∧ wq.cell? ⟨bk, o + k * 3 + 1, none⟩ = some (.int .u32 s1) ∧ wq.cell? ⟨bk, o + k * 3 + 2, none⟩ = some (.int .u32 s2)) := hidIn fun wq hq =>
        ⟨(hq.cell (p := ⟨bk, o + k * 3, none⟩) hbk).trans c0, (hq.cell (p := ⟨bk, o + k * 3 + 1, none⟩) hbk).trans c1, (hq.cell (p := ⟨bk, o + k * 3 + 2, none⟩) hbk).trans c2⟩
      have HCl : Hid (∀ wq, Below wr.heap.size wr wq → wq.cell? ⟨bk, o + k * 3, none⟩ = some (.int .i64 s0) ∧ wq.cell? ⟨bk, o + k * 3 + 1, none⟩ = some (.int .u32 s1) ∧ wq.cell? ⟨bk, o + k * 3 + 2, none⟩ = some (.int .u32 s2)) := hidIn fun wq hq => HC0.out wq (HBr.out.trans (hq.mono HBr.out.size))
      have hki : (k : Int) < (LL : Int) := by omega
      have hkc : k ≤ scap := by omega
      have hkc2 : (k : Int) ≤ (scap : Int) := by omega
      have HZ := hidIn hz
      have htk : (l.take k).length = k := by rw [List.length_take, HLL.out]; omega
      have HFk : Hid (∀ wq, Below w.heap.size w wq → Calls Try.prog 47 #[.slice (some ⟨bk, o, none⟩) k scap, .int .i64 s0] wq fun e w' => FdAns (fdS (l.take k) s0) e ∧ Below wq.heap.size wq w') := hidIn fun wq hq => find_any (by have := (HS.out.keep hq (Nat.le_refl _)).some20 k; rwa [htk] at this) s0
      clear hcell hz c0 c1 c2 htk HC0
      obtain ⟨z0, z1, z2⟩ := HCl.out _ (Below.refl _ _)
      go_wp2_with fail
      refine (dmayS_any s0 s1 s2 wr).mono ?_
      rintro e w1 ⟨rfl, hb1⟩
      clear z0 z1 z2
      obtain ⟨m, hm⟩ : ∃ m, mayS s0 s1 s2 = m := ⟨_, rfl⟩
      rw [hm]
      have HB1 := hidIn (HBr.out.trans (hb1.mono HBr.out.size))
      have HC1 : Hid (∀ wq, Below w1.heap.size w1 wq → wq.cell? ⟨bk, o + k * 3, none⟩ = some (.int .i64 s0) ∧ wq.cell? ⟨bk, o + k * 3 + 1, none⟩ = some (.int .u32 s1) ∧ wq.cell? ⟨bk, o + k * 3 + 2, none⟩ = some (.int .u32 s2)) := hidIn fun wq hq => HCl.out wq (hb1.trans (hq.mono hb1.size))
      have Hm := hidIn hm
      clear hm hb1 HCl HBr
      cases m with
      | false =>
        have HN : Hid (byS l = none) := hidIn (byS_bad Hg.out HZ.out (fun h => by have h1 : mayS s0 s1 s2 = true := h.1; rw [Hm.out] at h1; cases h1))
        go_wp2_with fail
        go_returns
        exact ⟨.inl ⟨HN.out, rfl⟩, HB1.out⟩
      | true =>
        obtain ⟨wr, rfl⟩ : ∃ wr, wr = w1 := ⟨_, rfl⟩
        have HCl := HC1
        have HBr := HB1
        have HFk := hidIn (fun wq (hq : Below wr.heap.size wr wq) => HFk.out wq (HBr.out.trans (hq.mono HBr.out.size)))
        clear HC1 HB1
        obtain ⟨fo, hfo⟩ : ∃ fo, fdS (l.take k) s0 = fo := ⟨_, rfl⟩
        rw [hfo] at HFk
        have Hfo := hidIn hfo
        clear hfo
        have HEnd : Hid (fo.isSome = true → byS l = none) := hidIn fun h => byS_bad Hg.out HZ.out (fun h' => by have h1 : (fdS (l.take k) s0).isSome = false := h'.2; rw [Hfo.out, h] at h1; cases h1)
        have HOn : Hid (fo.isSome = false → ∃ f', byS (l.take (k + 1)) = some f') := hidIn fun h => byS_good Hg.out HZ.out Hm.out (by show (fdS (l.take k) s0).isSome = false; rw [Hfo.out]; exact h)
        clear Hfo Hg HZ Hm
        obtain ⟨fb, hfb⟩ : ∃ fb, fo.isSome = fb := ⟨_, rfl⟩
        obtain ⟨⟨e0, e1, e2⟩, hfs⟩ : ∃ x, sD fo = x := ⟨_, rfl⟩
        simp only [FdAns, hfs, hfb] at HFk
        rw [hfb] at HEnd HOn
        clear hfb hfs
        go_upto_region 6 with fail
        refine wp_region_held_drew (S := fun wx => Below wr.heap.size wr wx) (by kernel_rfl) ((Below.refl _ wr).drew) (fun hHeld => ?_)
        have hh : Below wr.heap.size wr wr.drew := hHeld
        refine wpAnyH_take (i := 0) (v := ?_) rfl (by kernel_rfl) (by kernel_rfl) (by kernel_rfl) (fun _ _ _ h => h) (Or.inl ⟨by rfl, ?_⟩) (by assumption) ?_
        rotate_left
        · intro wq hSw
          clear hSw
          go_simp
          try (with_reducible rfl)
        refine wpAnyH_take (i := 1) (v := ?_) rfl (by kernel_rfl) (by kernel_rfl) (by kernel_rfl) (fun _ _ _ h => h) (Or.inl ⟨by rfl, ?_⟩) (by assumption) ?_
        rotate_left
        · intro wq hSw
          clear hSw
          go_simp
          try (with_reducible rfl)
        refine wpAnyH_take (i := 2) (v := ?_) rfl (by kernel_rfl) (by kernel_rfl) (by kernel_rfl) (fun _ _ _ h => h) (Or.inl ⟨by rfl, ?_⟩) (by assumption) ?_
        rotate_left
        · intro wq hSw
          clear hSw
          go_simp
          try (with_reducible rfl)
        refine wpAnyH_take (i := 3) (v := ?_) rfl (by kernel_rfl) (by kernel_rfl) (by kernel_rfl) (fun _ _ _ h => h) (Or.inl ⟨by rfl, ?_⟩) (by assumption) ?_
        rotate_left
        · intro wq hSw
          clear hSw
          go_simp
          try (with_reducible rfl)
        refine wpAnyH_take (i := 4) (v := ?_) rfl (by kernel_rfl) (by kernel_rfl) (by kernel_rfl) (fun _ _ _ h => h) (Or.inl ⟨by rfl, ?_⟩) (by assumption) ?_
        rotate_left
        · intro wq hSw
          clear hSw
          go_simp
          try (with_reducible rfl)
        refine wpAnyH_take (i := 5) (v := ?_) rfl (by kernel_rfl) (by kernel_rfl) (by kernel_rfl) (fun _ _ _ h => h) (Or.inl ⟨by rfl, ?_⟩) (by assumption) ?_
        rotate_left
        · intro wq hSw
          clear hSw
          go_simp
          try (with_reducible rfl)
        refine wpAnyH_take (i := 6) (v := ?_) rfl (by kernel_rfl) (by kernel_rfl) (by kernel_rfl) (fun _ _ _ h => h) (Or.inl ⟨by rfl, ?_⟩) (by assumption) ?_
        rotate_left
        · intro wq hSw
          clear hSw
          go_simp
          try (with_reducible rfl)
        refine wpAnyH_take (i := 7) (v := ?_) rfl (by kernel_rfl) (by kernel_rfl) (by kernel_rfl) (fun _ _ _ h => h) (Or.inl ⟨by rfl, ?_⟩) (by assumption) ?_
        rotate_left
        · intro wq hSw
          obtain ⟨z0, z1, z2⟩ := HCl.out wq hSw
          clear hSw
          go_simp
          try (with_reducible rfl)
        refine wpAnyH_ready (rs := [8, 12]) (by kernel_rfl) (by simp) ?_
        refine AllReadyH.cons rfl (fun K hK => ?_) (AllReadyH.cons rfl (fun K hK => ?_) AllReadyH.nil)
        · go_simp
          refine (HFk.out _ hh).mono ?_
          rintro e w5 ⟨rfl, hbx⟩
          have h5 : Below wr.heap.size wr w5 := hh.trans (hbx.mono hh.size)
          refine hK.out _ _ h5 (fun _ => ?_)
          clear hK K hbx
          refine wpAnyH_take (i := 9) (v := ?_) rfl (by kernel_rfl) (by kernel_rfl) (by kernel_rfl) (fun _ _ _ h => h) (Or.inl ⟨by rfl, ?_⟩) (by assumption) ?_
          rotate_left
          · intro wq hSw
            clear hSw
            go_simp
            try (with_reducible rfl)
          refine wpAnyH_take (i := 10) (v := ?_) rfl (by kernel_rfl) (by kernel_rfl) (by kernel_rfl) (fun _ _ _ h => h) (Or.inl ⟨by rfl, ?_⟩) (by assumption) ?_
          rotate_left
          · intro wq hSw
            clear hSw
            go_simp
            try (with_reducible rfl)
          refine wpAnyH_take (i := 11) (v := ?_) rfl (by kernel_rfl) (by kernel_rfl) (by kernel_rfl) (fun _ _ _ h => h) (Or.inl ⟨by rfl, ?_⟩) (by assumption) ?_
          rotate_left
          · intro wq hSw
            clear hSw
            go_simp
            try (with_reducible rfl)
          refine wpAnyH_ready (rs := [12]) (by kernel_rfl) (by simp) ?_
          refine AllReadyH.cons rfl (fun K hK => ?_) AllReadyH.nil
          go_simp
          obtain ⟨W6, hW6⟩ : ∃ W6, w5.alloc (.cells #[.int .i64 0, .int .u32 0, .int .u32 0] 71) = W6 := ⟨_, rfl⟩
          have h6 : Below wr.heap.size wr W6 := by rw [← hW6]; exact h5.alloc h5.size _
          have hz8 : W6.heap[w5.heap.size]? = some (.cells #[.int .i64 0, .int .u32 0, .int .u32 0] 71) := by rw [← hW6]; exact heap_alloc_last w5 _
          rw [hW6]
          have h58 := h5.size
          obtain ⟨b8, hb8⟩ : ∃ b8, w5.heap.size = b8 := ⟨_, rfl⟩
          rw [hb8] at hz8 h58 ⊢
          refine hK.out _ _ h6 (fun _ => ?_)
          clear hK K hW6 hb8
          refine wpAnyH_ready (rs := [13]) (by kernel_rfl) (by simp) ?_
          refine AllReadyH.cons rfl (fun K hK => ?_) AllReadyH.nil
          have zz0 := cell_of_row _ _ 0 _ _ _ hz8
          have zz1 := cell_of_row _ _ 1 _ _ _ hz8
          have zz2 := cell_of_row _ _ 2 _ _ _ hz8
          have yy0 := frozen_new hz8 0
          have yy1 := frozen_new hz8 1
          have yy2 := frozen_new hz8 2
          simp at zz0 zz1 zz2
          go_simp
          generalize hW9 : World.setCell _ _ _ = W9
          have h9 : Below wr.heap.size wr W9 := by rw [← hW9]; exact ((h6.setCell (p := ⟨b8, 0, none⟩) h58 _).setCell (p := ⟨b8, 1, none⟩) h58 _).setCell (p := ⟨b8, 2, none⟩) h58 _
          have HB9 := hidIn (HBr.out.trans (h9.mono HBr.out.size))
          refine hK.out _ _ h9 (fun _ => ?_)
          clear hK K hW9 h6 hz8 zz0 zz1 zz2 yy0 yy1 yy2 HBr
          refine wpAnyH_take (i := 14) (v := ?_) rfl (by kernel_rfl) (by kernel_rfl) (by kernel_rfl) (fun _ _ _ h => h) (Or.inl ⟨by rfl, ?_⟩) (by assumption) ?_
          rotate_left
          · intro wq hSw
            clear hSw
            go_simp
            try (with_reducible rfl)
          refine wpAnyH_done (by kernel_rfl) ?_ _
          clear hHeld hh h5 h9
          cases fb with
          | true =>
            have HN := hidIn (HEnd.out rfl)
            go_wp2_with fail
            go_returns
            exact ⟨.inl ⟨HN.out, rfl⟩, HB9.out⟩
          | false =>
            have HO := hidIn (And.intro HB9.out (HOn.out rfl))
            go_wp2_with fail
            go_roundw
            case rel => exact ⟨k + 1, by omega, by go_num, HO⟩
            case measure => simp [intOf]; omega
        · go_simp
          obtain ⟨W4, hW4⟩ : ∃ W4, (wr.alloc (.cells #[.int .i64 0, .int .u32 0, .int .u32 0] 71)).drew = W4 := ⟨_, rfl⟩
          have h4 : Below wr.heap.size wr W4 := by rw [← hW4]; exact ((Below.refl _ wr).alloc (Nat.le_refl _) _).drew
          have hz4 : W4.heap[wr.heap.size]? = some (.cells #[.int .i64 0, .int .u32 0, .int .u32 0] 71) := by rw [← hW4]; exact heap_alloc_last wr _
          rw [hW4]
          obtain ⟨b8, hb8⟩ : ∃ b8, wr.heap.size = b8 := ⟨_, rfl⟩
          have h58 : wr.heap.size ≤ b8 := Nat.le_of_eq hb8
          rw [hb8] at hz4 ⊢
          refine hK.out _ _ h4 (fun _ => ?_)
          clear hK K hW4 hb8
          refine wpAnyH_ready (rs := [8]) (by kernel_rfl) (by simp) ?_
          refine AllReadyH.cons rfl (fun K hK => ?_) AllReadyH.nil
          go_simp
          refine (HFk.out _ h4).mono ?_
          rintro e w5 ⟨rfl, hbx⟩
          have h6 : Below wr.heap.size wr w5 := h4.trans (hbx.mono h4.size)
          have hz8 := (hbx.block _ (block_lt hz4)).trans hz4
          refine hK.out _ _ h6 (fun _ => ?_)
          clear hK K hbx hz4 h4
          refine wpAnyH_take (i := 9) (v := ?_) rfl (by kernel_rfl) (by kernel_rfl) (by kernel_rfl) (fun _ _ _ h => h) (Or.inl ⟨by rfl, ?_⟩) (by assumption) ?_
          rotate_left
          · intro wq hSw
            clear hSw
            go_simp
            try (with_reducible rfl)
          refine wpAnyH_take (i := 10) (v := ?_) rfl (by kernel_rfl) (by kernel_rfl) (by kernel_rfl) (fun _ _ _ h => h) (Or.inl ⟨by rfl, ?_⟩) (by assumption) ?_
          rotate_left
          · intro wq hSw
            clear hSw
            go_simp
            try (with_reducible rfl)
          refine wpAnyH_take (i := 11) (v := ?_) rfl (by kernel_rfl) (by kernel_rfl) (by kernel_rfl) (fun _ _ _ h => h) (Or.inl ⟨by rfl, ?_⟩) (by assumption) ?_
          rotate_left
          · intro wq hSw
            clear hSw
            go_simp
            try (with_reducible rfl)
          refine wpAnyH_ready (rs := [13]) (by kernel_rfl) (by simp) ?_
          refine AllReadyH.cons rfl (fun K hK => ?_) AllReadyH.nil
          have zz0 := cell_of_row _ _ 0 _ _ _ hz8
          have zz1 := cell_of_row _ _ 1 _ _ _ hz8
          have zz2 := cell_of_row _ _ 2 _ _ _ hz8
          have yy0 := frozen_new hz8 0
          have yy1 := frozen_new hz8 1
          have yy2 := frozen_new hz8 2
          simp at zz0 zz1 zz2
          go_simp
          generalize hW9 : World.setCell _ _ _ = W9
          have h9 : Below wr.heap.size wr W9 := by rw [← hW9]; exact ((h6.setCell (p := ⟨b8, 0, none⟩) h58 _).setCell (p := ⟨b8, 1, none⟩) h58 _).setCell (p := ⟨b8, 2, none⟩) h58 _
          have HB9 := hidIn (HBr.out.trans (h9.mono HBr.out.size))
          refine hK.out _ _ h9 (fun _ => ?_)
          clear hK K hW9 h6 hz8 zz0 zz1 zz2 yy0 yy1 yy2 HBr
          refine wpAnyH_take (i := 14) (v := ?_) rfl (by kernel_rfl) (by kernel_rfl) (by kernel_rfl) (fun _ _ _ h => h) (Or.inl ⟨by rfl, ?_⟩) (by assumption) ?_
          rotate_left
          · intro wq hSw
            clear hSw
            go_simp
            try (with_reducible rfl)
          refine wpAnyH_done (by kernel_rfl) ?_ _
          clear hHeld hh h9
          cases fb with
          | true =>
            have HN := hidIn (HEnd.out rfl)
            go_wp2_with fail
            go_returns
            exact ⟨.inl ⟨HN.out, rfl⟩, HB9.out⟩
          | false =>
            have HO := hidIn (And.intro HB9.out (HOn.out rfl))
            go_wp2_with fail
            go_roundw
            case rel => exact ⟨k + 1, by omega, by go_num, HO⟩
            case measure => simp [intOf]; omega
    · obtain rfl : k = LL := by omega
      have hki : ¬ (k : Int) < (k : Int) := by omega
      have HBy : Hid (byS l = some g) := hidIn (by have := Hg.out; rwa [← HLL.out, List.take_length] at this)
      have HOk := hidIn (byS_ok _ _ rfl g HBy.out)
      clear Hg
      obtain ⟨w2, hw2⟩ : ∃ w2, w2 = wr := ⟨_, rfl⟩
      have HB2 := hidIn HBr.out
      rw [← hw2] at HB2
      have Hw2 := hidIn hw2
      clear hw2 HBr
      go_wp2_with fail
      rw [← Hw2.out]
      clear Hw2
      go_loopw [10, 11, 12] (fun u v q wr => ∃ n : Nat, 1 ≤ n ∧ n ≤ 25 ∧ q = .int .i64 n ∧ Hid (DmM w2 wr F g L n u v)) (fun _ _ q _ => 25 - (intOf q).toNat)
      case atStart => exact ⟨1, Nat.le_refl _, by omega, rfl, hidIn (DmM.none (k := 0) ⟨[], World.ownsRow_nil _ _ _ _, rfl, fun x hx => by simp at hx, World.ownsRow_nil _ _ _ _, Nat.le_refl _, Nat.le_refl _, Below.refl _ _⟩ (ansG_zero HF.out HOk.out))⟩
      case round =>
        obtain ⟨n, h1n, hn, rfl, HR⟩ := hrel
        obtain ⟨a1, c1, a2, c2, rfl, rfl⟩ := HR.out.shape
        have HBr : Hid (Below w.heap.size w wr) := hidIn (by obtain ⟨_, _, _, _, _, _, _, h⟩ := HR.out; exact HB2.out.trans (h.mono HB2.out.size))
        by_cases hlt : n < 25
        · have hni : (n : Int) ≤ 24 := by omega
          have Hask := hidIn (mis_ask HF.out HOk.out n)
          have Hfr : Hid ((fdR L (n : Int)).map (·.1) = F (n : Int)) := hidIn (fdR_all HF.out HLF.out (by omega) (by omega))
          obtain ⟨ls, hls⟩ : ∃ ls, (sndG F g n).length = ls := ⟨_, rfl⟩
          obtain ⟨lw, hlw⟩ : ∃ lw, (wntG F g n).length = lw := ⟨_, rfl⟩
          have Hls := hidIn hls
          have Hlw := hidIn hlw
          rw [hls, hlw] at HR ⊢
          clear hls hlw
          go_wp2_with fail
          refine (HG.out (n : Int) wr HBr.out).mono ?_
          rintro e w3 ⟨h3, hb3⟩
          unfold GdAns at h3
          subst h3
          have HR3 := hidIn (HR.out.keep hb3)
          have HB3 := hidIn (HBr.out.trans (hb3.mono HBr.out.size))
          obtain ⟨fo, hfo⟩ : ∃ fo, fdR L (n : Int) = fo := ⟨_, rfl⟩
          obtain ⟨so, hso⟩ : ∃ so, fdS l (n : Int) = so := ⟨_, rfl⟩
          rw [hfo] at Hfr ⊢
          rw [hso] at Hask
          have Hfo := hidIn hfo
          have Hso := hidIn hso
          have Hub3 : Hid (∀ j, w3.heap.size ≤ j → ¬ (Value.slice a1 ls c1).ownBlock = some j) := hidIn fun j hj hu => by
            obtain ⟨O, h1, _⟩ := HR3.out
            obtain ⟨cur, h⟩ := row_ty h1 hu
            have := block_lt h
            omega
          clear hfo hso HR HBr hb3
          cases fo with
          | none =>
            have HFn : Hid (F (n : Int) = none) := hidIn (by rw [← Hfr.out]; rfl)
            simp only [rOf, uOf, Option.map, Option.getD, Option.isSome, rc0]
            obtain ⟨W4, hW4⟩ : ∃ W4, w3.alloc (.cells #[.int .i64 0, .int .u32 0, .int .u32 0, .int .i64 0, .bool false, .slice none 0 0] 28) = W4 := ⟨_, rfl⟩
            have hb4 : Below w3.heap.size w3 W4 := by rw [← hW4]; exact (Below.refl _ w3).alloc (Nat.le_refl _) _
            have hX4 : W4.heap[w3.heap.size]? = some (.cells #[.int .i64 0, .int .u32 0, .int .u32 0, .int .i64 0, .bool false, .slice none 0 0] 28) := by rw [← hW4]; exact heap_alloc_last w3 _
            obtain ⟨b13, hb13⟩ : ∃ b13, w3.heap.size = b13 := ⟨_, rfl⟩
            rw [hb13] at hX4
            have Hub := hidIn (show ∀ j, b13 ≤ j → ¬ (Value.slice a1 ls c1).ownBlock = some j by rw [← hb13]; exact Hub3.out)
            have hb34 : b13 ≤ W4.heap.size := by rw [← hb13]; exact hb4.size
            have HX4 := hidIn hX4
            have HR4 := hidIn (HR3.out.keep hb4)
            have HB4 := hidIn (HB3.out.trans (hb4.mono HB3.out.size))
            have HW4 := hidIn hW4
            clear hb4 hX4 hW4 HR3 HB3
            go_upto_region 15 with fail
            rw [HW4.out]
            clear HW4 hb13
            go_wp2_with fail
            refine (HFd.out (n : Int) W4 HB4.out).mono ?_
            rintro e w5 ⟨h5, hb5⟩
            unfold FdAns at h5
            subst h5
            rw [Hso.out]
            have HR5 := hidIn (HR4.out.keep hb5)
            have HB5 := hidIn (HB4.out.trans (hb5.mono HB4.out.size))
            have HX5 := hidIn ((hb5.block _ (block_lt HX4.out)).trans HX4.out)
            have Hbb5 : Hid (b13 ≤ w5.heap.size) := hidIn (Nat.le_trans hb34 hb5.size)
            clear HR4 HB4 HX4 hb5 hb34
            cases so with
            | none =>
              simp only [sD, Option.getD, Option.isSome]
              obtain ⟨W6, hW6⟩ : ∃ W6, w5.alloc (.cells #[.int .i64 0, .int .u32 0, .int .u32 0] 71) = W6 := ⟨_, rfl⟩
              have hbr : Below w5.heap.size w5 W6 := by rw [← hW6]; exact (Below.refl _ w5).alloc (Nat.le_refl _) _
              have hY6 : W6.heap[w5.heap.size]? = some (.cells #[.int .i64 0, .int .u32 0, .int .u32 0] 71) := by rw [← hW6]; exact heap_alloc_last w5 _
              obtain ⟨b15, hb15⟩ : ∃ b15, w5.heap.size = b15 := ⟨_, rfl⟩
              rw [hb15] at hY6
              have Hbb : Hid (b13 ≤ b15) := hidIn (by rw [← hb15]; exact Hbb5.out)
              have HY6 := hidIn hY6
              have HR6 := hidIn (HR5.out.keep hbr)
              have HB6 := hidIn (HB5.out.trans (hbr.mono HB5.out.size))
              have HX6 := hidIn ((hbr.block _ (block_lt HX5.out)).trans HX5.out)
              have HW6 := hidIn hW6
              clear hbr hY6 hW6 HR5 HB5 HX5
              have Ha : Hid (ansG F g n = 0) := hidIn (by
                have h1 := Hask.out.1
                have h2 := Hask.out.2
                rw [HFn.out] at h1 h2
                have h3 := newI_vals (gD (F (n : Int))).epoch (gD (F (n : Int))).seq (g n).2.1 (g n).2.2
                rw [HFn.out] at h3
                show newI (gD (F (n : Int))).epoch (gD (F (n : Int))).seq (g n).2.1 (g n).2.2 = 0
                rw [HFn.out]
                simp only [Option.isSome, Bool.false_eq_true, false_and, iff_false] at h1 h2
                omega)
              go_upto_region 16 with fail
              rw [HW6.out]
              clear HW6
              refine wp_region_quiet_below (by kernel_rfl) (by kernel_rfl) ?_
              repeat (go_big_quiet_step (fail))
              refine wpQuiet_nil ?_
              rintro _ ⟨⟨dq, osq⟩, rfl⟩
              have hbr := below_regrown W6 dq osq
              generalize Go.Sort.grow (redrawn W6 dq) osq = W7 at hbr ⊢
              have HR7 := hidIn (HR6.out.keep hbr)
              have HB7 := hidIn (HB6.out.trans (hbr.mono HB6.out.size))
              have HX7 := hidIn ((hbr.block _ (block_lt HX6.out)).trans HX6.out)
              have HY7 := hidIn ((hbr.block _ (block_lt HY6.out)).trans HY6.out)
              clear hbr HR6 HB6 HX6 HY6
              go_upto_region 18 with fail
              refine wp_region_quiet_below (by kernel_rfl) (by kernel_rfl) ?_
              repeat (go_big_quiet_step (fail))
              refine wpQuiet_nil ?_
              rintro _ ⟨⟨dq, osq⟩, rfl⟩
              have hbr := below_regrown W7 dq osq
              generalize Go.Sort.grow (redrawn W7 dq) osq = W8 at hbr ⊢
              have HR8 := hidIn (HR7.out.keep hbr)
              have HB8 := hidIn (HB7.out.trans (hbr.mono HB7.out.size))
              have HX8 := hidIn ((hbr.block _ (block_lt HX7.out)).trans HX7.out)
              have HY8 := hidIn ((hbr.block _ (block_lt HY7.out)).trans HY7.out)
              clear hbr HR7 HB7 HX7 HY7
              have HO := hidIn (HR8.out.none Ha.out)
              go_wp2_with fail
              go_roundw
              case rel => exact ⟨n + 1, by omega, by omega, by go_num, HO⟩
              case measure => simp [intOf]; omega
            | some st =>
              obtain ⟨e0, e1, e2⟩ := st
              have hme := HB.out _ (fdS_mem Hso.out).1
              simp only at hme
              have HU2 := hidIn hme
              clear hme
              simp only [sD, Option.getD, Option.isSome]
              obtain ⟨W6, hW6⟩ : ∃ W6, w5.alloc (.cells #[.int .i64 e0, .int .u32 e1, .int .u32 e2] 71) = W6 := ⟨_, rfl⟩
              have hbr : Below w5.heap.size w5 W6 := by rw [← hW6]; exact (Below.refl _ w5).alloc (Nat.le_refl _) _
              have hY6 : W6.heap[w5.heap.size]? = some (.cells #[.int .i64 e0, .int .u32 e1, .int .u32 e2] 71) := by rw [← hW6]; exact heap_alloc_last w5 _
              obtain ⟨b15, hb15⟩ : ∃ b15, w5.heap.size = b15 := ⟨_, rfl⟩
              rw [hb15] at hY6
              have Hbb : Hid (b13 ≤ b15) := hidIn (by rw [← hb15]; exact Hbb5.out)
              have HY6 := hidIn hY6
              have HR6 := hidIn (HR5.out.keep hbr)
              have HB6 := hidIn (HB5.out.trans (hbr.mono HB5.out.size))
              have HX6 := hidIn ((hbr.block _ (block_lt HX5.out)).trans HX5.out)
              have HW6 := hidIn hW6
              clear hbr hY6 hW6 HR5 HB5 HX5
              have Ha : Hid (ansG F g n = -1) := hidIn (Hask.out.2.2 ⟨rfl, .inl (by rw [HFn.out]; rfl)⟩)
              go_upto_region 16 with fail
              rw [HW6.out]
              clear HW6
              refine wp_region_quiet_below (by kernel_rfl) (by kernel_rfl) ?_
              repeat (go_big_quiet_step (fail))
              refine wpQuiet_nil ?_
              rintro _ ⟨⟨dq, osq⟩, rfl⟩
              have hbr := below_regrown W6 dq osq
              generalize Go.Sort.grow (redrawn W6 dq) osq = W7 at hbr ⊢
              have HR7 := hidIn (HR6.out.keep hbr)
              have HB7 := hidIn (HB6.out.trans (hbr.mono HB6.out.size))
              have HX7 := hidIn ((hbr.block _ (block_lt HX6.out)).trans HX6.out)
              have HY7 := hidIn ((hbr.block _ (block_lt HY6.out)).trans HY6.out)
              clear hbr HR6 HB6 HX6 HY6
              go_upto_region 18 with fail
              refine wp_region_quiet_below (by kernel_rfl) (by kernel_rfl) ?_
              repeat (go_big_quiet_step (fail))
              refine wpQuiet_nil ?_
              rintro _ ⟨⟨dq, osq⟩, rfl⟩
              have hbr := below_regrown W7 dq osq
              generalize Go.Sort.grow (redrawn W7 dq) osq = W8 at hbr ⊢
              have HR8 := hidIn (HR7.out.keep hbr)
              have HB8 := hidIn (HB7.out.trans (hbr.mono HB7.out.size))
              have HX8 := hidIn ((hbr.block _ (block_lt HX7.out)).trans HX7.out)
              have HY8 := hidIn ((hbr.block _ (block_lt HY7.out)).trans HY7.out)
              clear hbr HR7 HB7 HX7 HY7
              obtain ⟨gg, gcap, w9, hrun, hM⟩ := HR8.out.want hlt Ha.out
              rw [Hlw.out] at hrun hM
              have HRun := hidIn hrun
              have HO := hidIn hM
              clear hrun hM
              go_wp2_with (refine l_append rfl _ _ 46 rfl HRun.out ?_)
              go_roundw
              case rel => exact ⟨n + 1, by omega, by omega, by go_num, HO⟩
              case measure => simp [intOf]; omega
          | some old =>
            obtain ⟨⟨q0, q1, q2, q3, q4, qa⟩, vo⟩ := old
            have hmem : (⟨⟨q0, q1, q2, q3, q4, qa⟩, vo⟩ : Rc × Value) ∈ L := List.mem_of_find?_eq_some Hfo.out
            have hvo := HA.out _ hmem
            have hU := HU.out _ hmem
            simp only [U32] at hvo hU
            obtain ⟨oa, ocap, rfl, _⟩ := hvo
            obtain ⟨on, hon⟩ : ∃ on, qa.length = on := ⟨_, rfl⟩
            rw [hon] at Hfo hmem ⊢
            have Hmem := hidIn hmem
            have Hrec : Hid (((⟨q0, q1, q2, q3, q4, qa⟩, .slice oa on ocap) : Rc × Value).1 = gD (F (n : Int))) := hidIn (by rw [← Hfr.out]; rfl)
            have HFn : Hid (F (n : Int) = some ⟨q0, q1, q2, q3, q4, qa⟩) := hidIn (by rw [← Hfr.out]; rfl)
            have HU1 := hidIn hU
            clear hmem hU hon
            simp only [rOf, uOf, Option.map, Option.getD, Option.isSome]
            obtain ⟨W4, hW4⟩ : ∃ W4, w3.alloc (.cells #[.int .i64 q0, .int .u32 q1, .int .u32 q2, .int .i64 q3, .bool q4, .slice oa on ocap] 28) = W4 := ⟨_, rfl⟩
            have hb4 : Below w3.heap.size w3 W4 := by rw [← hW4]; exact (Below.refl _ w3).alloc (Nat.le_refl _) _
            have hX4 : W4.heap[w3.heap.size]? = some (.cells #[.int .i64 q0, .int .u32 q1, .int .u32 q2, .int .i64 q3, .bool q4, .slice oa on ocap] 28) := by rw [← hW4]; exact heap_alloc_last w3 _
            obtain ⟨b13, hb13⟩ : ∃ b13, w3.heap.size = b13 := ⟨_, rfl⟩
            rw [hb13] at hX4
            have Hub := hidIn (show ∀ j, b13 ≤ j → ¬ (Value.slice a1 ls c1).ownBlock = some j by rw [← hb13]; exact Hub3.out)
            have hb34 : b13 ≤ W4.heap.size := by rw [← hb13]; exact hb4.size
            have HX4 := hidIn hX4
            have HR4 := hidIn (HR3.out.keep hb4)
            have HB4 := hidIn (HB3.out.trans (hb4.mono HB3.out.size))
            have HW4 := hidIn hW4
            clear hb4 hX4 hW4 HR3 HB3
            go_upto_region 15 with fail
            rw [HW4.out]
            clear HW4 hb13
            go_wp2_with fail
            refine (HFd.out (n : Int) W4 HB4.out).mono ?_
            rintro e w5 ⟨h5, hb5⟩
            unfold FdAns at h5
            subst h5
            rw [Hso.out]
            have HR5 := hidIn (HR4.out.keep hb5)
            have HB5 := hidIn (HB4.out.trans (hb5.mono HB4.out.size))
            have HX5 := hidIn ((hb5.block _ (block_lt HX4.out)).trans HX4.out)
            have Hbb5 : Hid (b13 ≤ w5.heap.size) := hidIn (Nat.le_trans hb34 hb5.size)
            clear HR4 HB4 HX4 hb5 hb34
            cases so with
            | none =>
              simp only [sD, Option.getD, Option.isSome]
              obtain ⟨W6, hW6⟩ : ∃ W6, w5.alloc (.cells #[.int .i64 0, .int .u32 0, .int .u32 0] 71) = W6 := ⟨_, rfl⟩
              have hbr : Below w5.heap.size w5 W6 := by rw [← hW6]; exact (Below.refl _ w5).alloc (Nat.le_refl _) _
              have hY6 : W6.heap[w5.heap.size]? = some (.cells #[.int .i64 0, .int .u32 0, .int .u32 0] 71) := by rw [← hW6]; exact heap_alloc_last w5 _
              obtain ⟨b15, hb15⟩ : ∃ b15, w5.heap.size = b15 := ⟨_, rfl⟩
              rw [hb15] at hY6
              have Hbb : Hid (b13 ≤ b15) := hidIn (by rw [← hb15]; exact Hbb5.out)
              have HY6 := hidIn hY6
              have HR6 := hidIn (HR5.out.keep hbr)
              have HB6 := hidIn (HB5.out.trans (hbr.mono HB5.out.size))
              have HX6 := hidIn ((hbr.block _ (block_lt HX5.out)).trans HX5.out)
              have HW6 := hidIn hW6
              clear hbr hY6 hW6 HR5 HB5 HX5
              have Ha : Hid (ansG F g n = 1) := hidIn (Hask.out.1.2 ⟨by rw [HFn.out]; rfl, .inl rfl⟩)
              go_upto_region 16 with fail
              rw [HW6.out]
              clear HW6
              refine wp_region_quiet_below (by kernel_rfl) (by kernel_rfl) ?_
              repeat (go_big_quiet_step (fail))
              refine wpQuiet_nil ?_
              rintro _ ⟨⟨dq, osq⟩, rfl⟩
              have hbr := below_regrown W6 dq osq
              generalize Go.Sort.grow (redrawn W6 dq) osq = W7 at hbr ⊢
              have HR7 := hidIn (HR6.out.keep hbr)
              have HB7 := hidIn (HB6.out.trans (hbr.mono HB6.out.size))
              have HX7 := hidIn ((hbr.block _ (block_lt HX6.out)).trans HX6.out)
              have HY7 := hidIn ((hbr.block _ (block_lt HY6.out)).trans HY6.out)
              clear hbr HR6 HB6 HX6 HY6
              have z0 := cell_of_row _ _ 0 _ _ _ HX7.out
              have z1 := cell_of_row _ _ 1 _ _ _ HX7.out
              have z2 := cell_of_row _ _ 2 _ _ _ HX7.out
              have z3 := cell_of_row _ _ 3 _ _ _ HX7.out
              have z4 := cell_of_row _ _ 4 _ _ _ HX7.out
              have z5 := cell_of_row _ _ 5 _ _ _ HX7.out
              simp at z0 z1 z2 z3 z4 z5
              have kz0 := cell_regrown z0
              have kz1 := cell_regrown z1
              have kz2 := cell_regrown z2
              have kz3 := cell_regrown z3
              have kz4 := cell_regrown z4
              have kz5 := cell_regrown z5
              obtain ⟨gg, gcap, w9, hrun, hM, _⟩ := HR7.out.send hlt Ha.out (x := (⟨q0, q1, q2, q3, q4, qa⟩, .slice oa on ocap)) Hmem.out rfl Hrec.out
              rw [Hls.out] at hrun hM
              have HRun := hidIn hrun
              have HO := hidIn hM
              clear hrun hM
              go_upto_region 18 with (refine l_append rfl _ _ 22 rfl HRun.out ?_)
              clear z0 z1 z2 z3 z4 z5 kz0 kz1 kz2 kz3 kz4 kz5 HRun
              refine wp_region_quiet_below (by kernel_rfl) (by kernel_rfl) ?_
              repeat (go_big_quiet_step (fail))
              refine wpQuiet_nil ?_
              rintro _ ⟨⟨dq, osq⟩, rfl⟩
              have hbr := below_regrown w9 dq osq
              generalize Go.Sort.grow (redrawn w9 dq) osq = W10 at hbr ⊢
              have HO := hidIn (HO.out.keep hbr)
              clear hbr
              go_wp2_with fail
              go_roundw
              case rel => exact ⟨n + 1, by omega, by omega, by go_num, HO⟩
              case measure => simp [intOf]; omega
            | some st =>
              obtain ⟨e0, e1, e2⟩ := st
              have hme := HB.out _ (fdS_mem Hso.out).1
              simp only at hme
              have HU2 := hidIn hme
              clear hme
              simp only [sD, Option.getD, Option.isSome]
              obtain ⟨W6, hW6⟩ : ∃ W6, w5.alloc (.cells #[.int .i64 e0, .int .u32 e1, .int .u32 e2] 71) = W6 := ⟨_, rfl⟩
              have hbr : Below w5.heap.size w5 W6 := by rw [← hW6]; exact (Below.refl _ w5).alloc (Nat.le_refl _) _
              have hY6 : W6.heap[w5.heap.size]? = some (.cells #[.int .i64 e0, .int .u32 e1, .int .u32 e2] 71) := by rw [← hW6]; exact heap_alloc_last w5 _
              obtain ⟨b15, hb15⟩ : ∃ b15, w5.heap.size = b15 := ⟨_, rfl⟩
              rw [hb15] at hY6
              have Hbb : Hid (b13 ≤ b15) := hidIn (by rw [← hb15]; exact Hbb5.out)
              have HY6 := hidIn hY6
              have HR6 := hidIn (HR5.out.keep hbr)
              have HB6 := hidIn (HB5.out.trans (hbr.mono HB5.out.size))
              have HX6 := hidIn ((hbr.block _ (block_lt HX5.out)).trans HX5.out)
              have HW6 := hidIn hW6
              clear hbr hY6 hW6 HR5 HB5 HX5
              obtain ⟨n1, hn1⟩ : ∃ n1, newI q1 q2 e1 e2 = n1 := ⟨_, rfl⟩
              obtain ⟨n2, hn2⟩ : ∃ n2, newI e1 e2 q1 q2 = n2 := ⟨_, rfl⟩
              have Hcmp : Hid ((ansG F g n = 1 ↔ 0 < n1) ∧ (ansG F g n = -1 ↔ 0 < n2)) := hidIn (by
                have h1 := Hask.out.1
                have h2 := Hask.out.2
                rw [← hn1, ← hn2]
                unfold ansG
                rw [HFn.out] at h1 h2 ⊢
                simpa [sD, gD] using And.intro h1 h2)
              have hng : n2 = - n1 := by rw [← hn1, ← hn2]; exact newI_neg _ _ _ _
              have HNw : Hid (∀ wq, Calls Try.prog 35 #[.agg #[.int .i64 q0, .int .u32 q1, .int .u32 q2], .agg #[.int .i64 e0, .int .u32 e1, .int .u32 e2]] wq fun e w' => e = .returned (.int .i64 n1) ∧ Below wq.heap.size wq w') := hidIn fun wq => by rw [← hn1]; exact dnewI HU1.out ⟨HU2.out.1.1, HU2.out.1.2, HU2.out.2.1, HU2.out.2.2⟩ _ _ wq
              have HNw2 : Hid (∀ wq, Calls Try.prog 35 #[.agg #[.int .i64 e0, .int .u32 e1, .int .u32 e2], .agg #[.int .i64 q0, .int .u32 q1, .int .u32 q2]] wq fun e w' => e = .returned (.int .i64 n2) ∧ Below wq.heap.size wq w') := hidIn fun wq => by rw [← hn2]; exact dnewI ⟨HU2.out.1.1, HU2.out.1.2, HU2.out.2.1, HU2.out.2.2⟩ HU1.out _ _ wq
              clear hn1 hn2
              have z0 := cell_of_row _ _ 0 _ _ _ HX6.out
              have z1 := cell_of_row _ _ 1 _ _ _ HX6.out
              have z2 := cell_of_row _ _ 2 _ _ _ HX6.out
              have z3 := cell_of_row _ _ 3 _ _ _ HX6.out
              have z4 := cell_of_row _ _ 4 _ _ _ HX6.out
              have z5 := cell_of_row _ _ 5 _ _ _ HX6.out
              simp at z0 z1 z2 z3 z4 z5
              have kz0 := cell_regrown z0
              have kz1 := cell_regrown z1
              have kz2 := cell_regrown z2
              have kz3 := cell_regrown z3
              have kz4 := cell_regrown z4
              have kz5 := cell_regrown z5
              have y0 := cell_of_row _ _ 0 _ _ _ HY6.out
              have y1 := cell_of_row _ _ 1 _ _ _ HY6.out
              have y2 := cell_of_row _ _ 2 _ _ _ HY6.out
              simp at y0 y1 y2
              have ky0 := cell_regrown y0
              have ky1 := cell_regrown y1
              have ky2 := cell_regrown y2
              go_upto_region 16 with fail
              rw [HW6.out]
              clear HW6
              refine wp_region_quiet_below (by kernel_rfl) (by kernel_rfl) ?_
              repeat (go_big_quiet_step (first
                | (go_at_call 36; exact Calls.regrown_of (dstamp_lit _ _ _ _ _ _ _ _ _))
                | (go_at_call 35; exact Calls.regrown_of (HNw.out _))))
              refine wpQuiet_nil ?_
              rintro _ ⟨⟨dq, osq⟩, rfl⟩
              have hbr := below_regrown W6 dq osq
              generalize Go.Sort.grow (redrawn W6 dq) osq = W7 at hbr ⊢
              have HR7 := hidIn (HR6.out.keep hbr)
              have HB7 := hidIn (HB6.out.trans (hbr.mono HB6.out.size))
              have HX7 := hidIn ((hbr.block _ (block_lt HX6.out)).trans HX6.out)
              have HY7 := hidIn ((hbr.block _ (block_lt HY6.out)).trans HY6.out)
              clear hbr HR6 HB6 HX6 HY6
              clear z0 z1 z2 z3 z4 z5 kz0 kz1 kz2 kz3 kz4 kz5 y0 y1 y2 ky0 ky1 ky2 HNw
              by_cases hp : 0 < n1
              · have Ha : Hid (ansG F g n = 1) := hidIn (Hcmp.out.1.2 hp)
                have hd1 : decide (0 < n1) = true := by simpa using hp
                have hd2 : decide (0 < n2) = false := by simp; omega
                have z0 := cell_of_row _ _ 0 _ _ _ HX7.out
                have z1 := cell_of_row _ _ 1 _ _ _ HX7.out
                have z2 := cell_of_row _ _ 2 _ _ _ HX7.out
                have z3 := cell_of_row _ _ 3 _ _ _ HX7.out
                have z4 := cell_of_row _ _ 4 _ _ _ HX7.out
                have z5 := cell_of_row _ _ 5 _ _ _ HX7.out
                simp at z0 z1 z2 z3 z4 z5
                have kz0 := cell_regrown z0
                have kz1 := cell_regrown z1
                have kz2 := cell_regrown z2
                have kz3 := cell_regrown z3
                have kz4 := cell_regrown z4
                have kz5 := cell_regrown z5
                obtain ⟨gg, gcap, w9, hrun, hM, hF9⟩ := HR7.out.send hlt Ha.out (x := (⟨q0, q1, q2, q3, q4, qa⟩, .slice oa on ocap)) Hmem.out rfl Hrec.out
                rw [Hls.out] at hrun hM
                have HX9 := hidIn ((hF9.block b13 (block_lt HX7.out) (Hub.out b13 (Nat.le_refl _))).trans HX7.out)
                have HY9 := hidIn ((hF9.block b15 (block_lt HY7.out) (Hub.out b15 Hbb.out)).trans HY7.out)
                have HRun := hidIn hrun
                have HO := hidIn hM
                clear hrun hM hF9
                go_upto_region 18 with (refine l_append rfl _ _ 22 rfl HRun.out ?_)
                clear z0 z1 z2 z3 z4 z5 kz0 kz1 kz2 kz3 kz4 kz5 HRun HR7 HB7 HX7 HY7
                have z0 := cell_of_row _ _ 0 _ _ _ HX9.out
                have z1 := cell_of_row _ _ 1 _ _ _ HX9.out
                have z2 := cell_of_row _ _ 2 _ _ _ HX9.out
                have z3 := cell_of_row _ _ 3 _ _ _ HX9.out
                have z4 := cell_of_row _ _ 4 _ _ _ HX9.out
                have z5 := cell_of_row _ _ 5 _ _ _ HX9.out
                simp at z0 z1 z2 z3 z4 z5
                have kz0 := cell_regrown z0
                have kz1 := cell_regrown z1
                have kz2 := cell_regrown z2
                have kz3 := cell_regrown z3
                have kz4 := cell_regrown z4
                have kz5 := cell_regrown z5
                have y0 := cell_of_row _ _ 0 _ _ _ HY9.out
                have y1 := cell_of_row _ _ 1 _ _ _ HY9.out
                have y2 := cell_of_row _ _ 2 _ _ _ HY9.out
                simp at y0 y1 y2
                have ky0 := cell_regrown y0
                have ky1 := cell_regrown y1
                have ky2 := cell_regrown y2
                refine wp_region_quiet_below (by kernel_rfl) (by kernel_rfl) ?_
                repeat (go_big_quiet_step (first
                  | (go_at_call 36; exact Calls.regrown_of (dstamp_lit _ _ _ _ _ _ _ _ _))
                  | (go_at_call 35; exact Calls.regrown_of (HNw2.out _))))
                refine wpQuiet_nil ?_
                rintro _ ⟨⟨dq, osq⟩, rfl⟩
                have hbr := below_regrown w9 dq osq
                generalize Go.Sort.grow (redrawn w9 dq) osq = W10 at hbr ⊢
                have HO := hidIn (HO.out.keep hbr)
                clear hbr z0 z1 z2 z3 z4 z5 kz0 kz1 kz2 kz3 kz4 kz5 y0 y1 y2 ky0 ky1 ky2 HX9 HY9
                go_wp2_with fail
                go_roundw
                case rel => exact ⟨n + 1, by omega, by omega, by go_num, HO⟩
                case measure => simp [intOf]; omega
              · have hd1 : decide (0 < n1) = false := by simpa using hp
                have z0 := cell_of_row _ _ 0 _ _ _ HX7.out
                have z1 := cell_of_row _ _ 1 _ _ _ HX7.out
                have z2 := cell_of_row _ _ 2 _ _ _ HX7.out
                have z3 := cell_of_row _ _ 3 _ _ _ HX7.out
                have z4 := cell_of_row _ _ 4 _ _ _ HX7.out
                have z5 := cell_of_row _ _ 5 _ _ _ HX7.out
                simp at z0 z1 z2 z3 z4 z5
                have kz0 := cell_regrown z0
                have kz1 := cell_regrown z1
                have kz2 := cell_regrown z2
                have kz3 := cell_regrown z3
                have kz4 := cell_regrown z4
                have kz5 := cell_regrown z5
                have y0 := cell_of_row _ _ 0 _ _ _ HY7.out
                have y1 := cell_of_row _ _ 1 _ _ _ HY7.out
                have y2 := cell_of_row _ _ 2 _ _ _ HY7.out
                simp at y0 y1 y2
                have ky0 := cell_regrown y0
                have ky1 := cell_regrown y1
                have ky2 := cell_regrown y2
                go_upto_region 18 with fail
                refine wp_region_quiet_below (by kernel_rfl) (by kernel_rfl) ?_
                repeat (go_big_quiet_step (first
                  | (go_at_call 36; exact Calls.regrown_of (dstamp_lit _ _ _ _ _ _ _ _ _))
                  | (go_at_call 35; exact Calls.regrown_of (HNw2.out _))))
                refine wpQuiet_nil ?_
                rintro _ ⟨⟨dq, osq⟩, rfl⟩
                have hbr := below_regrown W7 dq osq
                generalize Go.Sort.grow (redrawn W7 dq) osq = W8 at hbr ⊢
                have HR8 := hidIn (HR7.out.keep hbr)
                have HB8 := hidIn (HB7.out.trans (hbr.mono HB7.out.size))
                have HX8 := hidIn ((hbr.block _ (block_lt HX7.out)).trans HX7.out)
                have HY8 := hidIn ((hbr.block _ (block_lt HY7.out)).trans HY7.out)
                clear hbr HR7 HB7 HX7 HY7
                clear z0 z1 z2 z3 z4 z5 kz0 kz1 kz2 kz3 kz4 kz5 y0 y1 y2 ky0 ky1 ky2
                by_cases hq : 0 < n2
                · have Ha : Hid (ansG F g n = -1) := hidIn (Hcmp.out.2.2 hq)
                  have hd2 : decide (0 < n2) = true := by simpa using hq
                  obtain ⟨gg, gcap, w9, hrun, hM⟩ := HR8.out.want hlt Ha.out
                  rw [Hlw.out] at hrun hM
                  have HRun := hidIn hrun
                  have HO := hidIn hM
                  clear hrun hM
                  go_wp2_with (refine l_append rfl _ _ 46 rfl HRun.out ?_)
                  go_roundw
                  case rel => exact ⟨n + 1, by omega, by omega, by go_num, HO⟩
                  case measure => simp [intOf]; omega
                · have hd2 : decide (0 < n2) = false := by simpa using hq
                  have Ha : Hid (ansG F g n = 0) := hidIn (by
                    have h1 := Hcmp.out.1
                    have h2 := Hcmp.out.2
                    have h3 : ansG F g n = -1 ∨ ansG F g n = 0 ∨ ansG F g n = 1 := newI_vals _ _ _ _
                    omega)
                  have HO := hidIn (HR8.out.none Ha.out)
                  go_wp2_with fail
                  go_roundw
                  case rel => exact ⟨n + 1, by omega, by omega, by go_num, HO⟩
                  case measure => simp [intOf]; omega
        · have hni : ¬ (n : Int) ≤ 24 := by omega
          obtain rfl : n = 25 := by omega
          have HO : Hid (DmAns w wr F L (byS l) (.returned (.tuple #[.slice a1 (sndG F g 25).length c1, .slice a2 (wntG F g 25).length c2, .int .i64 0])) ∧ Below w.heap.size w wr) := hidIn (by
            obtain ⟨O, h1, h2, h3, h4, h5, h6, h7⟩ := HR.out
            exact ⟨.inr ⟨g, _, _, O, HBy.out, rfl, row_low h1 HB2.out.size, h2, h3, row_low h4 HB2.out.size⟩, HBr.out⟩)
          clear HR
          generalize (sndG F g 25).length = l1 at HO ⊢
          generalize (wntG F g 25).length = l2 at HO ⊢
          go_wp2_with fail
          go_returns
          exact HO.out
end Go.Proofs.Ytpdpdhnllmlfdaa
namespace Go.Proofs.Ytpdpdhnllmlfdaa
open Go.ChangeShapes Go.WideShapes Go.ChangeAt Go.RowKit

section
variable {H : Type} {enc : TypeId × Value → H} {W : World}
theorem six {α : Type} {cs : Array α} (h : cs.size = 6) : ∃ c0 c1 c2 c3 c4 c5, cs = #[c0, c1, c2, c3, c4, c5] := by
  obtain ⟨l⟩ := cs
  match l, h with
  | [a, b, c, d, e, f], _ => exact ⟨a, b, c, d, e, f, rfl⟩
theorem bAdj : Try.prog.bytesOf 75 = 16 := by kernel_rfl
theorem cStamp : Try.prog.cellsOf 71 = 3 := by kernel_rfl
theorem stampF : Try.prog.underlying 71 = some (.struct #[(Try.prog.fieldsOf 71)[0]!, (Try.prog.fieldsOf 71)[1]!, (Try.prog.fieldsOf 71)[2]!]) := by kernel_rfl
theorem stampF' : ((Try.prog.fieldsOf 71)[0]!).type = 3 ∧ ((Try.prog.fieldsOf 71)[1]!).type = 25 ∧ ((Try.prog.fieldsOf 71)[2]!).type = 25 := ⟨by kernel_rfl, by kernel_rfl, by kernel_rfl⟩
set_option maxRecDepth 100000 in
/-- A stamp as an argument. -/
theorem stamp_arg {r : Reach} {b0 : Nat} {v : Value} {d : DataW H} {p : List MemPlace} (hv : Value.okWide Try.prog W r b0 71 v) (h : DataW.Trod enc Try.prog W 0 (fun _ => true) true 71 v d p) :
    ∃ o e q : Int, v = stV o e q ∧ (0 ≤ e ∧ e < 4294967296) ∧ (0 ≤ q ∧ q < 4294967296) := by
  obtain ⟨v0, v1, v2, y0, y1, y2, m, rfl, _, _, h0, h1, h2⟩ := Joins.open_agg3 stampF (by kernel_rfl) cStamp hv h
  rw [stampF'.1] at h0
  rw [stampF'.2.1] at h1
  rw [stampF'.2.2] at h2
  obtain ⟨o, ho, _⟩ := DataW.trod_int Try.underlying3 h0
  obtain ⟨e, he, _, we⟩ := DataW.trod_int Try.underlying25 h1
  obtain ⟨q, hq, _, wq⟩ := DataW.trod_int Try.underlying25 h2
  simp at ho he hq
  have b1 := bounds_u32 we
  have b2 := bounds_u32 wq
  exact ⟨o, e, q, by rw [ho, he, hq], by omega, by omega⟩
set_option maxRecDepth 100000 in
/-- A record as an argument. -/
theorem rec_arg {r : Reach} {b0 : Nat} {v : Value} {d : DataW H} {p : List MemPlace} (hv : Value.okWide Try.prog W r b0 28 v) (h : DataW.Trod enc Try.prog W 0 (fun _ => true) true 28 v d p) (hw : ∀ n ∈ d.weights Try.prog 28, n ≤ reachBytes) :
    ∃ (y : Rc) (va : Value), v = recV y va ∧ SlAt ac 2 W va y.adjs ∧ NilOk va ∧ RcB y ∧ (y.adjs.length + 1) * 16 ≤ 140737488355328 := by
  obtain ⟨cs, rfl, hsz⟩ := okWide_struct recF hv
  rw [cRec] at hsz
  obtain ⟨v0, v1, v2, v3, v4, v5, rfl⟩ := six hsz
  obtain ⟨fuel, hf⟩ := h
  obtain ⟨xs, k, _, hx, hlen, hxl, hfd⟩ := DataW.trod_struct recF hf
  match xs, hxl with
  | [z0, z1, z2, z3, z4, z5], _ =>
    have g0 := hfd 0 ((Try.prog.fieldsOf 28)[0]!) rfl
    have g1 := hfd 1 ((Try.prog.fieldsOf 28)[1]!) rfl
    have g2 := hfd 2 ((Try.prog.fieldsOf 28)[2]!) rfl
    have g3 := hfd 3 ((Try.prog.fieldsOf 28)[3]!) rfl
    have g4 := hfd 4 ((Try.prog.fieldsOf 28)[4]!) rfl
    have g5 := hfd 5 ((Try.prog.fieldsOf 28)[5]!) rfl
    rw [(recF' 0 (by omega)).1, (recF' 0 (by omega)).2] at g0
    rw [(recF' 1 (by omega)).1, (recF' 1 (by omega)).2] at g1
    rw [(recF' 2 (by omega)).1, (recF' 2 (by omega)).2] at g2
    rw [(recF' 3 (by omega)).1, (recF' 3 (by omega)).2] at g3
    rw [(recF' 4 (by omega)).1, (recF' 4 (by omega)).2] at g4
    rw [(recF' 5 (by omega)).1, (recF' 5 (by omega)).2] at g5
    simp [cInt, cU32, cBool, cAdjs, Value.cells] at g0 g1 g2 g3 g4 g5
    obtain ⟨o, ho, _⟩ := DataW.trod_int Try.underlying3 g0
    obtain ⟨e, he, _, wfe⟩ := DataW.trod_int Try.underlying25 g1
    obtain ⟨s, hs, _, wfs⟩ := DataW.trod_int Try.underlying25 g2
    obtain ⟨c, hc, _⟩ := DataW.trod_int Try.underlying3 g3
    obtain ⟨b, hb, _⟩ := DataW.trod_bool Try.underlying4 g4
    obtain ⟨l, hl, hn, _, hll⟩ := open_sl (0, 0) (cs := ac) (sz := 2) (fun _ => rfl) (by omega) Try.underlying26 cAdj (fun n cs' x h => adj_cells h) g5
    simp at ho he hs hc hb
    have b1 := bounds_u32 wfe
    have b2 := bounds_u32 wfs
    refine ⟨⟨o, e, s, c, b, l⟩, v5, by simp [ho, he, hs, hc, hb], hl, hn, ⟨by show 0 ≤ e; omega, by show e < _; omega, by show 0 ≤ s; omega, by show s < _; omega⟩, ?_⟩
    simp only [Prod.mk.injEq] at hx
    have hd := hx.1
    refine slice_weight (d := z5.1) Try.underlying26 bAdj (by omega) (fun n hn => hw n ?_) (by rcases hll with rfl | h; exact .inl rfl; exact .inr h)
    rw [hd]
    simp only [DataW.weights, recF, List.map_cons, List.map_nil, DataW.weightsEach, (recF' 0 (by omega)).1, (recF' 1 (by omega)).1, (recF' 2 (by omega)).1, (recF' 3 (by omega)).1, (recF' 4 (by omega)).1, (recF' 5 (by omega)).1, List.append_nil, List.mem_append]
    simp [hn]
end
end Go.Proofs.Ytpdpdhnllmlfdaa
namespace Go.Proofs.Ytpdpdhnllmlfdaa
open Go.ChangeShapes Go.WideShapes Go.ChangeAt Go.RowKit

section
variable {H : Type} {enc : TypeId × Value → H} {W : World}
theorem cU8' : Try.prog.cellsOf 5 = 1 := by kernel_rfl
theorem bSt : Try.prog.bytesOf 71 = 16 := by kernel_rfl
theorem stF2 : (((Try.prog.fieldsOf 71)[0]!).type = 3 ∧ ((Try.prog.fieldsOf 71)[0]!).offset = 0) ∧ (((Try.prog.fieldsOf 71)[1]!).type = 25 ∧ ((Try.prog.fieldsOf 71)[1]!).offset = 1) ∧ ((Try.prog.fieldsOf 71)[2]!).type = 25 ∧ ((Try.prog.fieldsOf 71)[2]!).offset = 2 := ⟨⟨by kernel_rfl, by kernel_rfl⟩, ⟨by kernel_rfl, by kernel_rfl⟩, by kernel_rfl, by kernel_rfl⟩
set_option maxRecDepth 100000 in
theorem st_cells {n : Nat} {cs' : List Value} {x : DataW H × List MemPlace} (h : DataW.trod enc Try.prog W 0 (fun _ => true) true n 71 cs' = some x) : ∃ y : Ed, cs' = sc3 y ∧ (0 ≤ y.2.1 ∧ y.2.1 < 4294967296) ∧ 0 ≤ y.2.2 ∧ y.2.2 < 4294967296 := by
  obtain ⟨y0, y1, y2, k, _, hlen, h0, h1, h2⟩ := Deep.trod_struct3 stampF h
  obtain ⟨⟨a0, b0⟩, ⟨a1, b1⟩, a2, b2⟩ := stF2
  rw [cStamp] at hlen
  match cs', hlen with
  | [v0, v1, v2], _ =>
    rw [a0, b0, cInt] at h0
    rw [a1, b1, cU32] at h1
    rw [a2, b2, cU32] at h2
    obtain ⟨p, hp, _, wp⟩ := DataW.trod_int Try.underlying3 h0
    obtain ⟨q, hq, _, wq⟩ := DataW.trod_int Try.underlying25 h1
    obtain ⟨r, hr, _, wr⟩ := DataW.trod_int Try.underlying25 h2
    simp at hp hq hr
    have b1 := bounds_u32 wq
    have b2 := bounds_u32 wr
    exact ⟨(p, q, r), by rw [hp, hq, hr], by simp only; omega, by simp only; omega⟩
set_option maxRecDepth 100000 in
theorem st_arg {a : Option Addr} {len cap : Nat} {d : DataW H} {p : List MemPlace} (h : DataW.Trod enc Try.prog W 0 (fun _ => true) true 39 (.slice a len cap) d p) (hw : ∀ n ∈ d.weights Try.prog 39, n ≤ reachBytes) :
    ∃ ls, SlAt sc3 3 W (.slice a len cap) ls ∧ (∀ y ∈ ls, (0 ≤ y.2.1 ∧ y.2.1 < 4294967296) ∧ 0 ≤ y.2.2 ∧ y.2.2 < 4294967296) ∧ NilOk (.slice a len cap) ∧ (ls.length + 1) * 16 ≤ 140737488355328 := by
  obtain ⟨fuel, hf⟩ := h
  obtain ⟨ns, hn1, hn2, hG, hn3⟩ := open_sl (0, 0, 0) (cs := sc3) (sz := 3) (fun _ => rfl) (by omega) Try.underlying39 cStamp (fun n cs' x h => st_cells h) (by simpa [Value.cells] using hf)
  exact ⟨ns, hn1, hG, hn2, slice_weight Try.underlying39 bSt (by omega) hw (by rcases hn3 with rfl | h; exact .inl rfl; exact .inr h)⟩
end
end Go.Proofs.Ytpdpdhnllmlfdaa
namespace Go.Proofs.Ytpdpdhnllmlfdaa
open Go.ChangeShapes Go.WideShapes Go.ChangeAt Go.RowKit

section
variable {H : Type} {enc : TypeId × Value → H} {W : World}


/-- What is known of a record: its neighbours lie there, its numbers are of 32 bits. -/
def RecB (W : World) (y : Rc × Value) : Prop := RecG W y ∧ y.1.epoch < 4294967296 ∧ y.1.seq < 4294967296
set_option maxRecDepth 100000 in
theorem rec_cells32 {n : Nat} {cs' : List Value} {x : DataW H × List MemPlace} (h : DataW.trod enc Try.prog W 0 (fun _ => true) true n 28 cs' = some x) : ∃ y : Rc × Value, cs' = rcc y ∧ RecB W y := by
  obtain ⟨xs, k, _, _, hlen, hxl, hf⟩ := DataW.trod_struct recF h
  rw [cRec] at hlen
  match cs', hlen with
  | [v0, v1, v2, v3, v4, v5], _ =>
    match xs, hxl with
    | [z0, z1, z2, z3, z4, z5], _ =>
      have g0 := hf 0 ((Try.prog.fieldsOf 28)[0]!) rfl
      have g1 := hf 1 ((Try.prog.fieldsOf 28)[1]!) rfl
      have g2 := hf 2 ((Try.prog.fieldsOf 28)[2]!) rfl
      have g3 := hf 3 ((Try.prog.fieldsOf 28)[3]!) rfl
      have g4 := hf 4 ((Try.prog.fieldsOf 28)[4]!) rfl
      have g5 := hf 5 ((Try.prog.fieldsOf 28)[5]!) rfl
      rw [(recF' 0 (by omega)).1, (recF' 0 (by omega)).2] at g0
      rw [(recF' 1 (by omega)).1, (recF' 1 (by omega)).2] at g1
      rw [(recF' 2 (by omega)).1, (recF' 2 (by omega)).2] at g2
      rw [(recF' 3 (by omega)).1, (recF' 3 (by omega)).2] at g3
      rw [(recF' 4 (by omega)).1, (recF' 4 (by omega)).2] at g4
      rw [(recF' 5 (by omega)).1, (recF' 5 (by omega)).2] at g5
      simp [cInt, cU32, cBool, cAdjs] at g0 g1 g2 g3 g4 g5
      obtain ⟨o, ho, _⟩ := DataW.trod_int Try.underlying3 g0
      obtain ⟨e, he, _, wfe⟩ := DataW.trod_int Try.underlying25 g1
      obtain ⟨s, hs, _, wfs⟩ := DataW.trod_int Try.underlying25 g2
      obtain ⟨c, hc, _⟩ := DataW.trod_int Try.underlying3 g3
      obtain ⟨b, hb, _⟩ := DataW.trod_bool Try.underlying4 g4
      obtain ⟨l, hl, hn, _⟩ := open_sl (0, 0) (cs := ac) (sz := 2) (fun _ => rfl) (by omega) Try.underlying26 cAdj (fun n cs' x h => adj_cells h) g5
      simp at ho he hs hc hb
      refine ⟨(⟨o, e, s, c, b, l⟩, v5), by simp [rcc, ho, he, hs, hc, hb], ⟨hl, hn, (bounds_u32 wfe).1, (bounds_u32 wfs).1⟩, ?_, ?_⟩
      · have := (bounds_u32 wfe).2; show e < 4294967296; omega
      · have := (bounds_u32 wfs).2; show s < 4294967296; omega
set_option maxRecDepth 100000 in
/-- Records as an argument. -/
theorem recs32_arg {a : Option Addr} {len cap : Nat} {d : DataW H} {p : List MemPlace} (h : DataW.Trod enc Try.prog W 0 (fun _ => true) true 22 (.slice a len cap) d p) (hw : ∀ n ∈ d.weights Try.prog 22, n ≤ reachBytes) :
    ∃ l, RecsAt W (.slice a len cap) l ∧ NilOk (.slice a len cap) ∧ (∀ y ∈ l, RecB W y) ∧ (l.length + 1) * 56 ≤ 140737488355328 := by
  obtain ⟨fuel, hf⟩ := h
  obtain ⟨l, hn1, hn2, hG, hn3⟩ := open_sl (⟨0, 0, 0, 0, false, []⟩, .slice none 0 0) (cs := rcc) (sz := 6) (fun _ => rfl) (by omega) Try.underlying22 cRec (fun n cs' x h => rec_cells32 h) (by simpa [Value.cells] using hf)
  exact ⟨l, ⟨hn1, fun y hy => (hG y hy).1.1⟩, hn2, hG, slice_weight Try.underlying22 bRec (by omega) hw (by rcases hn3 with rfl | h; exact .inl rfl; exact .inr h)⟩
end
end Go.Proofs.Ytpdpdhnllmlfdaa
namespace Go.Proofs.Ytpdpdhnllmlfdaa
open Go.RowKit Go.Maps

theorem RecsAt.keepM {w w' : World} {v : Value} {l : List (Rc × Value)} {M : Nat} (h : RecsAt w v l) (hF : Fr (fun k => k = M) w w') (hM : ∃ es cl, w.heap[M]? = some (.map es cl)) : RecsAt w' v l :=
  ⟨h.r.keepM hF hM (by omega) (fun _ => rfl), fun x hx => (h.a x hx).keepM hF hM (by omega) (fun _ => rfl)⟩
/-- The store, and the document's list beside it. -/
structure Besd (wr : World) (S M n : Nat) (u : Value) (f : Sf) (L : List (Rc × Value)) : Prop where
  s : StAt wr S M n f
  r : RecsAt wr u L
  a : rcs L = allR (fR f) 24
  u : ∀ y ∈ L, U32 y.1
theorem Besd.keep {w w' : World} {S M n : Nat} {u : Value} {f : Sf} {L : List (Rc × Value)} (h : Besd w S M n u f L) (hb : Below w.heap.size w w') : Besd w' S M n u f L := ⟨h.s.keep hb, h.r.keep hb (Nat.le_refl _), h.a, h.u⟩
theorem Besd.len {w : World} {S M n : Nat} {u : Value} {f : Sf} {L : List (Rc × Value)} (h : Besd w S M n u f L) : L.length ≤ 24 := by
  have h1 : (rcs L).length = L.length := List.length_map _
  rw [← h1, h.a]
  exact allL_len f 24
/-- One record put into both. -/
theorem put_both {w3 w4 : World} {S M n : Nat} {u : Value} {f f' : Sf} {L : List (Rc × Value)} {r : Rc} {v : Value} {e : Ending} (hs : StAt w3 S M (n + 1) f') (hf : fR f' = putR (fR f) r) (hr : RecsAt w3 u L) (ha : rcs L = allR (fR f) 24) (hu : ∀ y ∈ L, U32 y.1) (hF : OkF (fR f)) (hv : SlAt ac 2 w3 v r.adjs) (h32 : U32 r) (h : DpAns w3 w4 u L (r, v) e) (hb : Below w3.heap.size w3 w4) :
    ∃ u' m L', e = .returned (.tuple #[u', .int .i64 m, .int .i64 (ckN r)]) ∧ m = pnR (fR f) r ∧ Besd w4 S M (n + 1) u' f' L' ∧ ((u' = u ∧ L' = L) ∨ (L' = insP (r, v) L false ∧ w4.ownsRow w3.heap.size 28 6 u' L'.length (fl rcc L'))) := by
  have hfd : recOk r = true → (fdR L r.origin).map (·.1) = fR f r.origin := fun hok => by
    have := recOk_pos hok
    exact fdR_all hF ha (by omega) (by omega)
  rcases h with ⟨h1, rfl⟩ | ⟨h1, old, h2, h3, rfl⟩ | ⟨h1, h2, u', rfl, h3⟩
  · have h1' : recOk r = false := h1
    have e1 : putR (fR f) r = fR f := by unfold putR; rw [if_neg (by rw [h1']; simp)]
    refine ⟨u, 0, L, ?_, ?_, ⟨hs.keep hb, hr.keep hb (Nat.le_refl _), by rw [hf, e1]; exact ha, hu⟩, .inl ⟨rfl, rfl⟩⟩
    · unfold ckN; rw [if_neg (by rw [h1']; simp)]
    · unfold pnR; rw [if_neg (by rw [h1']; simp)]
  · have h1' : recOk r = true := h1
    have h2' : fdR L r.origin = some old := h2
    have h4 : fR f r.origin = some old.1 := by rw [← hfd h1', h2']; rfl
    have h5 : nwR (fR f) r = newI r.epoch r.seq old.1.epoch old.1.seq := by unfold nwR; rw [h4]; rfl
    have h3' : newI r.epoch r.seq old.1.epoch old.1.seq ≤ 0 := h3
    have e1 : putR (fR f) r = fR f := by unfold putR; rw [if_neg (by rw [h5]; omega)]
    refine ⟨u, newI r.epoch r.seq old.1.epoch old.1.seq, L, ?_, ?_, ⟨hs.keep hb, hr.keep hb (Nat.le_refl _), by rw [hf, e1]; exact ha, hu⟩, .inl ⟨rfl, rfl⟩⟩
    · unfold ckN; rw [if_pos h1']
    · unfold pnR; rw [if_pos h1', h5]
  · have h1' : recOk r = true := h1
    have h5 : nwR (fR f) r = 1 := by
      have hv := newI_vals r.epoch r.seq (gD (fR f r.origin)).epoch (gD (fR f r.origin)).seq
      have h6 : 0 < newI r.epoch r.seq (gD (fR f r.origin)).epoch (gD (fR f r.origin)).seq := by
        cases h7 : fdR L r.origin with
        | none =>
          have h8 : fR f r.origin = none := by rw [← hfd h1', h7]; rfl
          rw [h8]
          have := recOk_pos h1'
          show 0 < newI r.epoch r.seq 0 0
          have h9 := (newI_pos r.epoch r.seq 0 0).2 (by omega)
          omega
        | some old =>
          have h8 : fR f r.origin = some old.1 := by rw [← hfd h1', h7]; rfl
          rw [h8]
          exact h2 old h7
      unfold nwR
      omega
    have e1 : putR (fR f) r = putO (fR f) r.origin r := by unfold putR; rw [if_pos ⟨h1', h5⟩]
    refine ⟨u', 1, insP (r, v) L false, ?_, ?_, ⟨hs.keep hb, ⟨slAt_of_row (cs := rcc) (fun _ => rfl) h3 rfl, fun x hx => ?_⟩, by rw [hf, e1]; exact insP_all hF h1' ha, fun y hy => ?_⟩, .inr ⟨rfl, h3⟩⟩
    · unfold ckN; rw [if_pos h1']
    · unfold pnR; rw [if_pos h1', h5]
    · rcases insP_mem _ _ _ _ hx with rfl | hx
      · exact hv.keep hb (Nat.le_refl _)
      · exact (hr.a x hx).keep hb (Nat.le_refl _)
    · rcases insP_mem _ _ _ _ hy with rfl | hy
      · exact h32
      · exact hu y hy
set_option maxRecDepth 100000 in
set_option maxHeartbeats 8000000 in
theorem storeMisses_walk {l : List (Rc × Value)} {ls : List Ed} {v sv : Value} {w : World} (hR : RecsAt w v l) (hg : ∀ y ∈ l, RecB w y) (hS : SlAt sc3 3 w sv ls) (hB : ∀ y ∈ ls, (0 ≤ y.2.1 ∧ y.2.1 < 4294967296) ∧ 0 ≤ y.2.2 ∧ y.2.2 < 4294967296) (hn : NilOk sv) :
    Calls Try.prog 4 #[v, sv] w fun e w' => e = .returned (.bool true) ∧ Below w.heap.size w w' := by
  obtain ⟨va, lcap, rfl, hl, _, hat⟩ := hR.r.recs
  obtain ⟨sa, scap, rfl, hsl, hsc, hsq⟩ := hS
  have HSt : Hid (SlAt sc3 3 w (.slice sa ls.length scap) ls) := hidIn ⟨sa, scap, rfl, hsl, hsc, hsq⟩
  obtain ⟨LL, hLL⟩ : ∃ LL, l.length = LL := ⟨_, rfl⟩
  obtain ⟨SL, hSL⟩ : ∃ SL, ls.length = SL := ⟨_, rfl⟩
  have HBd : Hid (∀ y ∈ ls.take 40, (0 ≤ y.2.1 ∧ y.2.1 < 4294967296) ∧ 0 ≤ y.2.2 ∧ y.2.2 < 4294967296) := hidIn fun y hy => hB y (List.mem_of_mem_take hy)
  have hm40 : (ls.take 40).length ≤ 40 ∧ (ls.take 40).length ≤ SL ∧ (if (40 : Int) < (SL : Int) then (40 : Int) else (SL : Int)) = ((ls.take 40).length : Int) := by
    rw [List.length_take, hSL]
    refine ⟨by omega, by omega, ?_⟩
    split <;> omega
  have HNil : Hid (((∃ a n c, Value.slice sa (ls.take 40).length scap = .slice (some a) n c) ∨ (Value.slice sa (ls.take 40).length scap = .slice none 0 0 ∧ ls.take 40 = []))) := hidIn (by
    rcases hn with ⟨a, n, c, h⟩ | h
    · cases h
      exact .inl ⟨_, _, _, rfl⟩
    · simp at h
      obtain ⟨rfl, h1, rfl⟩ := h
      have : ls = [] := h1
      rw [this]
      exact .inr ⟨rfl, rfl⟩)
  have HT40 := hidIn (HSt.out.some20 40)
  rw [hLL] at hat hl ⊢
  rw [hSL] at hsl hsc ⊢
  have Hat := hidIn hat
  have Hg := hidIn hg
  have HLL := hidIn hLL
  generalize ls.take 40 = T at HBd hm40 HNil HT40
  obtain ⟨m, hm⟩ : ∃ m, T.length = m := ⟨_, rfl⟩
  rw [hm] at hm40 HNil HT40
  obtain ⟨hm1, hm2, hmin⟩ := hm40
  have hmi : (m : Int) ≤ (scap : Int) := by omega
  have hmn : (m : Int) ≤ (SL : Int) := by omega
  have Hm := hidIn hm
  clear hat hg hLL hSL hB hsq hn HSt hR hm
  go_enter Try.func4, Try.ntmps4
  go_wp2_with fail
  refine (snew_any _).mono ?_
  rintro e w1 ⟨⟨S, M, rfl, h1, hS, hM⟩, hb1⟩
  have H1 := hidIn h1
  have HB1 := hidIn hb1
  have HSM := hidIn (And.intro hS hM)
  clear h1 hb1 hS hM
  go_wp2_with fail
  go_loopw [6, 7] (fun u i wr => ∃ k : Nat, k ≤ LL ∧ k ≤ 30 ∧ i = .int .i64 k ∧ Hid (∃ f L, Besd wr S M k u f L ∧ Below w.heap.size w wr)) (fun _ i _ => LL - (intOf i).toNat)
  case atStart => exact ⟨0, Nat.zero_le _, by omega, rfl, hidIn ⟨_, [], ⟨H1.out, ⟨slAt_of_row (cs := rcc) (fun _ => rfl) (World.ownsRow_nil w1 0 28 6) rfl, fun x hx => by simp at hx⟩, by rfl, fun x hx => by simp at hx⟩, HB1.out⟩⟩
  case round =>
    clear H1 HB1
    obtain ⟨k, hk, hk30, rfl, HR⟩ := hrel
    by_cases hlt : k < LL ∧ k < 30
    · have hki : (k : Int) < (LL : Int) := by omega
      have hk3 : (k : Int) < 30 := by omega
      obtain ⟨f, L, hbs, hbel⟩ := HR.out
      obtain ⟨ua, ucap, hue, _⟩ := hbs.r.r
      obtain ⟨bk, o, rfl, hbk, hcell⟩ := Hat.out (by omega)
      obtain ⟨⟨⟨s0, s1, s2, s3, s4, as'⟩, va⟩, hz⟩ : ∃ z, l[k]? = some z := ⟨l[k]'(by rw [HLL.out]; exact hlt.1), List.getElem?_eq_getElem _⟩
      obtain ⟨⟨hva, hvn, hp1, hp2⟩, hp3, hp4⟩ := Hg.out _ (List.mem_of_getElem? hz)
      simp only at hva hvn hp1 hp2 hp3 hp4
      have HCell : Hid (∀ wq, Below w.heap.size w wq → wq.cell? ⟨bk, o + k * 6, none⟩ = some (.int .i64 s0) ∧ wq.cell? ⟨bk, o + k * 6 + 1, none⟩ = some (.int .u32 s1) ∧ wq.cell? ⟨bk, o + k * 6 + 2, none⟩ = some (.int .u32 s2) ∧ wq.cell? ⟨bk, o + k * 6 + 3, none⟩ = some (.int .i64 s3) ∧ wq.cell? ⟨bk, o + k * 6 + 4, none⟩ = some (.bool s4) ∧ wq.cell? ⟨bk, o + k * 6 + 5, none⟩ = some va) := hidIn fun wq hq => by
        obtain ⟨p0, p1, p2, p3, p4, p5⟩ := hcell k _ hz
        exact ⟨(hq.cell (p := ⟨bk, o + k * 6, none⟩) hbk).trans p0, (hq.cell (p := ⟨bk, o + k * 6 + 1, none⟩) hbk).trans p1, (hq.cell (p := ⟨bk, o + k * 6 + 2, none⟩) hbk).trans p2, (hq.cell (p := ⟨bk, o + k * 6 + 3, none⟩) hbk).trans p3, (hq.cell (p := ⟨bk, o + k * 6 + 4, none⟩) hbk).trans p4, (hq.cell (p := ⟨bk, o + k * 6 + 5, none⟩) hbk).trans p5⟩
      have HOw : Hid (∀ wq, Below w.heap.size w wq → Calls Try.prog 6 #[recV ⟨s0, s1, s2, s3, s4, as'⟩ va] wq fun e w' => CpAns wq w' (cut20 ⟨s0, s1, s2, s3, s4, as'⟩) e ∧ Below wq.heap.size wq w') := hidIn fun wq hq => owned_any (r := ⟨s0, s1, s2, s3, s4, as'⟩) (hva.keep hq (Nat.le_refl _)) hvn
      have HU : Hid (U32 (cut20 ⟨s0, s1, s2, s3, s4, as'⟩)) := hidIn ⟨hp1, hp3, hp2, hp4⟩
      obtain ⟨aa, acap, rfl, _⟩ := hva
      rw [hue] at hbs ⊢
      have Hbs := hidIn hbs
      have HBel := hidIn hbel
      generalize as'.length = an at HCell HOw
      have Hr4 : Hid ((cut20 ⟨s0, s1, s2, s3, s4, as'⟩).origin = s0 ∧ True) := hidIn ⟨rfl, trivial⟩
      obtain ⟨r, hr⟩ : ∃ r, cut20 ⟨s0, s1, s2, s3, s4, as'⟩ = r := ⟨_, rfl⟩
      rw [hr] at HOw HU
      clear hbs hbel HR hcell hz hvn hp1 hp2 hp3 hp4 hbk hue Hr4 hr
      generalize L.length = nl at Hbs ⊢
      obtain ⟨p0, p1, p2, p3, p4, p5⟩ := HCell.out _ HBel.out
      go_wp2_with fail
      refine (HOw.out _ HBel.out).mono ?_
      rintro e w3 ⟨⟨a, c, rfl, hsl3, hnl3, _⟩, hb3⟩
      have HB3 := hidIn (HBel.out.trans (hb3.mono HBel.out.size))
      have Hbs3 := hidIn (Hbs.out.keep hb3)
      have HP := hidIn (sputP Hbs3.out.s (by omega) hsl3 ⟨HU.out.1, HU.out.2.2.1⟩)
      clear hsl3 hnl3 hb3 Hbs HBel p0 p1 p2 p3 p4 p5
      obtain ⟨ro, re, rs, rc, ri, rl⟩ := r
      simp only at HP ⊢
      generalize rl.length = rn at HP ⊢
      go_wp2_with fail
      refine HP.out.mono ?_
      rintro e w4 ⟨rfl, ⟨f4, h4, e4⟩, hf4⟩
      have HB4 := hidIn (HB3.out.trans (hf4.below HB3.out.size (fun j hj => by rw [hj]; exact HSM.out.2)))
      have Hs4 := hidIn h4
      have He4 := hidIn e4
      have Hr4 := hidIn (Hbs3.out.r.keepM hf4 Hbs3.out.s.m.isMap)
      have Hrest := hidIn (And.intro Hbs3.out.a (And.intro Hbs3.out.u (And.intro Hbs3.out.s.okF Hbs3.out.len)))
      clear h4 e4 hf4 HP Hbs3 HB3
      generalize pnR (fR f) ⟨ro, re, rs, rc, ri, rl⟩ = pn
      obtain ⟨ck, hck⟩ : ∃ ck, ckN ⟨ro, re, rs, rc, ri, rl⟩ = ck := ⟨_, rfl⟩
      rw [hck]
      have Hck := hidIn hck
      clear hck
      obtain ⟨p0, p1, p2, p3, p4, p5⟩ := HCell.out _ HB4.out
      go_wp2_with fail
      refine (HOw.out _ HB4.out).mono ?_
      rintro e w5 ⟨⟨a5, c5, rfl, hsl5, hnl5, _⟩, hb5⟩
      have HB5 := hidIn (HB4.out.trans (hb5.mono HB4.out.size))
      have Hs5 := hidIn (Hs4.out.keep hb5)
      have Hr5 := hidIn (Hr4.out.keep hb5 (Nat.le_refl _))
      have Hv5 := hidIn hsl5
      have HD := hidIn (dput9_any Hr5.out hsl5 HU.out Hrest.out.2.1 Hrest.out.2.2.2)
      clear hsl5 hnl5 hb5 Hs4 Hr4 HB4 p0 p1 p2 p3 p4 p5
      simp only at HD Hv5 ⊢
      generalize rl.length = rn5 at HD Hv5 ⊢
      go_wp2_with fail
      refine HD.out.mono ?_
      rintro e w6 ⟨h6, hb6⟩
      obtain ⟨u', m6, L', rfl, _, hbs6, _⟩ := put_both Hs5.out He4.out Hr5.out Hrest.out.1 Hrest.out.2.1 Hrest.out.2.2.1 Hv5.out HU.out h6 hb6
      have HO : Hid (∃ f L, Besd w6 S M (k + 1) u' f L ∧ Below w.heap.size w w6) := hidIn ⟨_, _, hbs6, HB5.out.trans (hb6.mono HB5.out.size)⟩
      rw [Hck.out]
      clear h6 hb6 hbs6 HD Hs5 Hr5 Hv5 Hrest HB5
      go_wp2_with fail
      go_roundw
      case rel => exact ⟨k + 1, by omega, by omega, by go_num, HO⟩
      case measure => simp [intOf]; omega
    · obtain ⟨f, L, hbs, hbel⟩ := HR.out
      obtain ⟨ua, ucap, hue, _⟩ := hbs.r.r
      obtain ⟨wa, rfl⟩ : ∃ wa, wa = wr := ⟨_, rfl⟩
      obtain ⟨v1, w6, hrun1, hrow1, hb6, _⟩ := append_all (P := Try.prog) (cs := sc3) (sz := 3) (T := 39) (fun _ => rfl) (fun _ => by simp [Value.oneCell']) Try.underlying39 infoSt rfl (by decide) (W := wa) (base := wa.heap.size) (k := 0) (u := .slice none 0 0) (l := []) (World.ownsRow_nil _ _ _ _) (by have := HT40.out.keep hbel (Nat.le_refl _); rw [Hm.out] at *; exact this) (by rw [Hm.out]; omega) (by rw [Hm.out]; unfold maxLen; omega) (Nat.le_refl _) (HNil.out.imp id fun h => ⟨h.1, rfl⟩)
      rw [Nat.zero_add, List.nil_append, Hm.out] at hrow1
      obtain ⟨xa, xcap, rfl⟩ := row_shape hrow1
      have HRun := hidIn hrun1
      have HIn := hidIn (slAt_of_row (cs := sc3) (fun _ => rfl) hrow1 Hm.out)
      rw [hue] at hbs ⊢
      have HOk := hidIn hbs.s.okF
      have Hbs6 := hidIn (hbs.keep hb6)
      have HB6 := hidIn (hbel.trans (hb6.mono hbel.size))
      have HMi := hidIn (smissing_any Hbs6.out.s HIn.out HBd.out)
      clear hrun1 hrow1 hbs hbel hb6 HR hue
      generalize L.length = nl at Hbs6 ⊢
      have hcond : decide ((k : Int) < (LL : Int)) = true → ¬ (k : Int) < 30 := fun h h' => by
        have := of_decide_eq_true h
        omega
      by_cases hA : (k : Int) < (LL : Int)
      all_goals
        first
          | (have hB : ¬ (k : Int) < 30 := by omega)
          | skip
        clear hcond
        go_wp2_with (first | (refine l_append rfl _ _ 39 rfl HRun.out ?_))
        refine HMi.out.mono ?_
        rintro e w7 ⟨h7, hb7⟩
        have HIn7 := hidIn (HIn.out.keep hb7 (Nat.le_refl _))
        have Hbs7 := hidIn (Hbs6.out.keep hb7)
        have HB7 := hidIn (HB6.out.trans (hb7.mono HB6.out.size))
        have HDm := hidIn (dmissing_any HOk.out Hbs7.out.r Hbs7.out.a Hbs7.out.u HIn7.out HBd.out)
        obtain ⟨bo, hbo⟩ : ∃ bo, byS T = bo := ⟨_, rfl⟩
        rw [hbo] at h7 HDm
        clear hbo hb7 HMi HB6 Hbs6 HIn
        obtain ⟨a1, n1, k1, a2, n2, k2, c1, A1, B1, rfl, hx1, hy1, hc1⟩ : ∃ a1 n1 k1 a2 n2 k2, ∃ (c1 : Int) (A1 : List (Rc × Value)) (B1 : List Int), e = .returned (.tuple #[.slice a1 n1 k1, .slice a2 n2 k2, .int .i64 c1]) ∧ RecsAt w7 (.slice a1 n1 k1) A1 ∧ SlAt ic 1 w7 (.slice a2 n2 k2) B1 ∧ ((bo = none ∧ c1 = 2 ∧ A1 = [] ∧ B1 = []) ∨ ∃ g, bo = some g ∧ c1 = 0 ∧ rcs A1 = sndG (fR f) g 25 ∧ B1 = wntG (fR f) g 25) := by
          rcases h7 with ⟨hn, rfl⟩ | ⟨g, u, v, O, hg, rfl, hr1, hr2, hr3, hr4⟩
          · exact ⟨_, _, _, _, _, _, _, [], [], rfl, ⟨slAt_of_row (cs := rcc) (fun _ => rfl) (World.ownsRow_nil w7 0 28 6) rfl, fun x hx => by simp at hx⟩, slAt_of_row (cs := ic) (fun _ => rfl) (World.ownsRow_nil w7 0 3 1) rfl, .inl ⟨hn, rfl, rfl, rfl⟩⟩
          · obtain ⟨a1, k1, rfl⟩ := row_shape hr1
            obtain ⟨a2, k2, rfl⟩ := row_shape hr4
            refine ⟨_, _, _, _, _, _, _, O, _, rfl, ⟨slAt_of_row (cs := rcc) (fun _ => rfl) hr1 rfl, fun x hx => ?_⟩, slAt_of_row (cs := ic) (fun _ => rfl) hr4 rfl, .inr ⟨g, hg, rfl, hr2, rfl⟩⟩
            obtain ⟨_, _, _, h, _⟩ := hr3 x hx
            exact h
        have Hx1 := hidIn hx1
        have Hy1 := hidIn hy1
        have Hc1 := hidIn hc1
        clear h7 hx1 hy1 hc1
        go_wp2_with fail
        refine HDm.out.mono ?_
        rintro e w8 ⟨h8, hb8⟩
        obtain ⟨a3, n3, k3, a4, n4, k4, c2, A2, B2, rfl, hx2, hy2, hc2⟩ : ∃ a1 n1 k1 a2 n2 k2, ∃ (c1 : Int) (A1 : List (Rc × Value)) (B1 : List Int), e = .returned (.tuple #[.slice a1 n1 k1, .slice a2 n2 k2, .int .i64 c1]) ∧ RecsAt w8 (.slice a1 n1 k1) A1 ∧ SlAt ic 1 w8 (.slice a2 n2 k2) B1 ∧ ((bo = none ∧ c1 = 2 ∧ A1 = [] ∧ B1 = []) ∨ ∃ g, bo = some g ∧ c1 = 0 ∧ rcs A1 = sndG (fR f) g 25 ∧ B1 = wntG (fR f) g 25) := by
          rcases h8 with ⟨hn, rfl⟩ | ⟨g, u, v, O, hg, rfl, hr1, hr2, hr3, hr4⟩
          · exact ⟨_, _, _, _, _, _, _, [], [], rfl, ⟨slAt_of_row (cs := rcc) (fun _ => rfl) (World.ownsRow_nil w8 0 28 6) rfl, fun x hx => by simp at hx⟩, slAt_of_row (cs := ic) (fun _ => rfl) (World.ownsRow_nil w8 0 3 1) rfl, .inl ⟨hn, rfl, rfl, rfl⟩⟩
          · obtain ⟨a1, k1, rfl⟩ := row_shape hr1
            obtain ⟨a2, k2, rfl⟩ := row_shape hr4
            exact ⟨_, _, _, _, _, _, _, O, _, rfl, ⟨slAt_of_row (cs := rcc) (fun _ => rfl) hr1 rfl, fun x hx => (Hbs7.out.r.a x (hr3 x hx)).keep hb8 (Nat.le_refl _)⟩, slAt_of_row (cs := ic) (fun _ => rfl) hr4 rfl, .inr ⟨g, hg, rfl, hr2, rfl⟩⟩
        have hsame : rcs A1 = rcs A2 ∧ B1 = B2 ∧ c1 = c2 := by
          rcases Hc1.out with ⟨h1, h2, h3, h4⟩ | ⟨g, h1, h2, h3, h4⟩ <;> rcases hc2 with ⟨g1, g2, g3, g4⟩ | ⟨g', g1, g2, g3, g4⟩
          · rw [h2, h3, h4, g2, g3, g4]; exact ⟨rfl, rfl, rfl⟩
          · rw [h1] at g1; cases g1
          · rw [h1] at g1; cases g1
          · rw [h1] at g1
            cases g1
            rw [h2, h3, h4, g2, g3, g4]
            exact ⟨rfl, rfl, rfl⟩
        obtain ⟨hs1, rfl, rfl⟩ := hsame
        have HB8 := hidIn (HB7.out.trans (hb8.mono HB7.out.size))
        have HS1 := hidIn (sameAll_yes (Hx1.out.keep hb8 (Nat.le_refl _)) hx2 hs1)
        have HS2 : Hid (∀ wq, Below w8.heap.size w8 wq → Calls Try.prog 27 #[.slice a2 n2 k2, .slice a4 n4 k4] wq fun e w' => e = .returned (.bool true) ∧ Below wq.heap.size wq w') := hidIn fun wq hq => by
          have := sameInts ((Hy1.out.keep hb8 (Nat.le_refl _)).keep hq (Nat.le_refl _)) (hy2.keep hq (Nat.le_refl _))
          simpa using this
        clear h8 hx2 hy2 hc2 hs1 hb8 Hx1 Hy1 Hc1 HDm HB7 Hbs7 HIn7
        go_wp2_with fail
        refine HS1.out.mono ?_
        rintro e w9 ⟨rfl, hb9⟩
        have HB9 := hidIn (HB8.out.trans (hb9.mono HB8.out.size))
        have HS3 := hidIn (HS2.out w9 hb9)
        clear HS1 HS2 HB8 hb9
        go_wp2_with fail
        refine HS3.out.mono ?_
        rintro e w10 ⟨rfl, hb10⟩
        have HB10 := hidIn (HB9.out.trans (hb10.mono HB9.out.size))
        clear HS3 HB9 hb10
        go_wp2_with fail
        refine (sworks_any _).mono ?_
        rintro e wz ⟨rfl, hbz⟩
        have HBz := hidIn (HB10.out.trans (hbz.mono HB10.out.size))
        clear hbz HB10
        go_wp2_with fail
        go_ret
        exact ⟨rfl, HBz.out⟩
end Go.Proofs.Ytpdpdhnllmlfdaa
