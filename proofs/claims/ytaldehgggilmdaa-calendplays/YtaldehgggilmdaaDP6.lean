/- The law's keep: it asks of a text, and appends it to what was asked. -/
import Derived.Test.YtaldehgggilmdaaDP5
import Derived.Test.YtaldehgggilmdaaCRS
namespace Go.Proofs.Ytaldehgggilmdaa.Ca.S
open Go.RowKit Go.Maps

/-- What was asked of lies in its variable. -/
structure AskM (W : World) (ab gb base : Nat) (v : Value) (l : List ByteArray) (gone : ByteArray) : Prop where
  c : W.heap[ab]? = some (.cells #[v] 36)
  g : W.heap[gb]? = some (.cells #[.string gone] 9)
  r : W.ownsRow base 9 1 v l.length (fl tc l)
theorem AskM.fr {W W' : World} {S : Nat → Prop} {ab gb base : Nat} {v : Value} {l : List ByteArray} {gone : ByteArray} (h : AskM W ab gb base v l gone) (hF : Fr S W W') (h1 : ¬ S ab) (h2 : ¬ S gb) (h3 : ∀ j, v.ownBlock = some j → ¬ S j) : AskM W' ab gb base v l gone :=
  ⟨(hF.block _ (block_lt h.c) h1).trans h.c, (hF.block _ (block_lt h.g) h2).trans h.g, row_fr h.r hF h3⟩
/-- What keep leaves. -/
def KeepAns (W W' : World) (ab gb base : Nat) (v : Value) (l : List ByteArray) (gone : ByteArray) : Prop :=
  ∃ v', AskM W' ab gb base v' l gone ∧ (∀ j, v'.ownBlock = some j → v.ownBlock = some j ∨ W.heap.size ≤ j) ∧ Fr (fun j => j = ab ∨ v.ownBlock = some j) W W'
set_option maxRecDepth 100000 in
set_option maxHeartbeats 4000000 in
theorem keep_ok {W : World} {ab gb base : Nat} {v : Value} {l : List ByteArray} {gone : ByteArray} (h : AskM W ab gb base v l gone) (hab : ab < base) (hgb : gb < base) (hl : l.length ≤ 200000) (hbs : base ≤ W.heap.size) (x : ByteArray) :
    Calls Try.prog 25 (#[.string x] ++ #[ptr ab, ptr gb]) W fun e W' => e = .returned (.bool (!decide (x = gone))) ∧ KeepAns W W' ab gb base v (l ++ [x]) gone := by
  show Calls _ _ #[.string x, ptr ab, ptr gb] _ _
  obtain ⟨va, vc, rfl⟩ := row_shape h.r
  have hgab : gb ≠ ab := fun e => by
    have h1 := h.g
    rw [e, h.c] at h1
    simp at h1
  obtain ⟨g6, cap6, w6, hrun, hown, hlie, hgr, hb6⟩ := append_th h.r x (by omega) hbs
  have hF6 : Fr (fun j => (Value.slice va l.length vc).ownBlock = some j) W w6 := ⟨hgr.os, hgr.tape, hgr.output, hgr.size, fun j hj hne => hgr.block j hj (fun e => hne e.symm)⟩
  have hold : ∀ j, (Value.slice va l.length vc).ownBlock = some j → base ≤ j := fun j hj => (h.r.lt j hj).1
  have c6 := (hF6.block ab (block_lt h.c) (fun e => by have := hold _ e; omega)).trans h.c
  have g6' := (hF6.block gb (block_lt h.g) (fun e => by have := hold _ e; omega)).trans h.g
  have y0 := cell_of_row _ _ 0 _ _ _ h.c
  have z0 := cell_of_row _ _ 0 _ _ _ c6
  have zf := frozen_new c6 0
  simp at y0 z0
  obtain ⟨w7, hw7⟩ : ∃ w7, w6.setCell ⟨ab, 0, none⟩ (.slice (some ⟨g6, 0, none⟩) (l.length + 1) cap6) = w7 := ⟨_, rfl⟩
  have hF7 : Fr (fun j => j = ab) w6 w7 := by rw [← hw7]; exact (Fr.refl (fun j => j = ab) w6).set (p := ⟨ab, 0, none⟩) rfl _
  have c7 : w7.heap[ab]? = some (.cells #[.slice (some ⟨g6, 0, none⟩) (l.length + 1) cap6] 36) := by rw [← hw7]; exact heap_setCell_same w6 ab 0 _ _ _ c6
  have g7 := (hF7.block gb (block_lt g6') hgab).trans g6'
  have u0 := cell_of_row _ _ 0 _ _ _ g7
  simp at u0
  have hg6 : base ≤ g6 := by
    rcases hlie with e | e
    · exact hold _ e
    · omega
  have HAns : Hid (KeepAns W w7 ab gb base (.slice va l.length vc) (l ++ [x]) gone) := hidIn ⟨.slice (some ⟨g6, 0, none⟩) (l.length + 1) cap6, ⟨c7, g7, by
      rw [List.length_append]
      exact row_fr hown hF7 (fun j hj e => by simp [Value.ownBlock] at hj; omega)⟩, fun j hj => by
      simp [Value.ownBlock] at hj
      subst hj
      rcases hlie with e | e
      · exact .inl e
      · exact .inr (by omega), (hF6.mono (fun _ _ h => .inr h)).trans (hF7.mono (fun _ _ h => .inl h))⟩
  have HRun := hidIn hrun
  have HW7 := hidIn hw7
  clear hrun hown hlie hgr hb6 hF6 hF7 hold c6 c7 g7 g6' hw7 h hg6
  by_cases hxg : x = gone
  · subst hxg
    have hd : (!decide (x = x)) = false := by simp
    rw [hd]
    go_enter Try.func25, Try.ntmps25
    go_upto_region 2 with (refine l_append rfl _ _ 36 rfl HRun.out ?_)
    rw [HW7.out]
    clear y0 z0 zf
    go_wp2_with fail
    go_returns
    exact ⟨rfl, HAns.out⟩
  · have hxf : (x.toList == gone.toList) = false := by rw [txt_eq]; simpa using hxg
    have hxt : ¬ x.toList = gone.toList := by simpa using hxf
    have hd : (!decide (x = gone)) = true := by simpa using hxg
    rw [hd]
    go_enter Try.func25, Try.ntmps25
    go_upto_region 2 with (refine l_append rfl _ _ 36 rfl HRun.out ?_)
    rw [HW7.out]
    clear y0 z0 zf
    go_wp2_with fail
    go_returns
    exact ⟨rfl, HAns.out⟩
end Go.Proofs.Ytaldehgggilmdaa.Ca.S
