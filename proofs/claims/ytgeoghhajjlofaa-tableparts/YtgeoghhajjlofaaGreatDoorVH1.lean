/- A heap of neighbours in memory; the order; ahead. -/
import Derived.Test.YtgeoghhajjlofaaGreatDoorVH0
import Derived.Test.YtgeoghhajjlofaaGreatDoorProg
import Derived.WalkKit
import Derived.WalkSpells
import Derived.WalkLawsBesides
import Derived.Handy
import Derived.Deep.MidRow
import Derived.Deep.DeepCutAuto
import Derived.Deep.RegionWith
import Derived.BigRegion
import Derived.Lib.QuietBelow
import Derived.BigQuiet
import Derived.Deep.QuietTactic
import Derived.Deep.AppendLies
import Derived.Below
namespace Go.Proofs.YtgeoghhajjlofaaGreatDoor.Ad
open Go.RowKit

theorem hidIn {p : Prop} (h : p) : Hid p := h
/-- A thing. -/
abbrev Th : Type := Int × Int
abbrev thV (x : Th) : Value := .agg #[.int .i64 x.1, .int .i64 x.2]
def ltT (a b : Th) : Bool := decide (a.2 < b.2)
theorem less_any (a b : Th) (w : World) : Calls Tryz.prog 91 #[thV a, thV b] w fun e w' => e = .returned (.bool (ltT a b)) ∧ Below w.heap.size w w' := by
  go_enter Tryz.func91, Tryz.ntmps91
  go_wp2
  go_ret
  exact ⟨rfl, by go_grown⟩
abbrev lessV : Value := .func (.func 91) #[] #[]
/-- An entry's cells. -/
abbrev ec (e : Th × Int) : List Value := [.int .i64 e.1.1, .int .i64 e.1.2, .int .i64 e.2]
def ecs (es : List (Th × Int)) : List Value := es.flatMap ec
theorem ecs_length (es : List (Th × Int)) : (ecs es).length = es.length * 3 := by
  induction es with
  | nil => rfl
  | cons e es ih => unfold ecs at ih ⊢; rw [List.flatMap_cons, List.length_append, ih]; simp; omega
theorem ecs_get : ∀ (es : List (Th × Int)) (j i : Nat) (e : Th × Int), es[j]? = some e → i < 3 → (ecs es)[j * 3 + i]? = (ec e)[i]?
  | [], j, i, e, h, _ => by simp at h
  | x :: l, j, i, e, h, hi => by
    have hc : ecs (x :: l) = ec x ++ ecs l := by simp [ecs]
    rw [hc]
    cases j with
    | zero =>
      simp at h
      subst h
      rw [List.getElem?_append_left (by simp; omega)]
      simp
    | succ j =>
      rw [List.getElem?_append_right (by simp; omega)]
      have := ecs_get l j i e (by simpa using h) hi
      rw [← this]
      congr 1
      simp
      omega
/-- A heap in memory: its block, and the row of its tree. -/
structure HpM (w : World) (base hp : Nat) (v : Value) (es : List (Th × Int)) (p : Int) : Prop where
  blk : w.heap[hp]? = some (.cells #[lessV, v, .int .i64 p] 185)
  row : w.ownsRow base 187 3 v es.length (ecs es)
  ne : v.ownBlock ≠ some hp
  hb : base ≤ hp
theorem HpM.below {w w' : World} {base hp B : Nat} {v : Value} {es : List (Th × Int)} {p : Int} (h : HpM w base hp v es p) (hb : Below B w w') (hB : w.heap.size ≤ B) : HpM w' base hp v es p := by
  have hlt := (Array.getElem?_eq_some_iff.1 h.blk).1
  exact ⟨(hb.block hp (by omega)).trans h.blk, h.row.kept (row := none) ⟨hb.os, hb.tape, hb.output, hb.size, fun k hk _ => hb.block k (by omega)⟩ (by cases v.ownBlock <;> simp), h.ne, h.hb⟩
theorem HpM.c {w : World} {base hp : Nat} {v : Value} {es : List (Th × Int)} {p : Int} (h : HpM w base hp v es p) : w.cell? ⟨hp, 0, none⟩ = some lessV ∧ w.cell? ⟨hp, 1, none⟩ = some v ∧ w.cell? ⟨hp, 2, none⟩ = some (.int .i64 p) :=
  ⟨cell_of_row w hp 0 _ _ _ h.blk, cell_of_row w hp 1 _ _ _ h.blk, cell_of_row w hp 2 _ _ _ h.blk⟩
theorem HpM.f {w : World} {base hp : Nat} {v : Value} {es : List (Th × Int)} {p : Int} (h : HpM w base hp v es p) (j : Nat) : w.frozen? ⟨hp, j, none⟩ = false := by
  unfold World.frozen?
  simp only [h.blk]
  simp
theorem HpM.lt {w : World} {base hp : Nat} {v : Value} {es : List (Th × Int)} {p : Int} (h : HpM w base hp v es p) : hp < w.heap.size := (Array.getElem?_eq_some_iff.1 h.blk).1
/-- Where an entry lies. -/
theorem HpM.at {w : World} {base hp g n cap : Nat} {es : List (Th × Int)} {p : Int} (h : HpM w base hp (.slice (some ⟨g, 0, none⟩) n cap) es p) {i : Nat} {e : Th × Int} (he : es[i]? = some e) :
    (w.cell? ⟨g, i * 3, none⟩ = some (.int .i64 e.1.1) ∧ w.cell? ⟨g, i * 3 + 1, none⟩ = some (.int .i64 e.1.2) ∧ w.cell? ⟨g, i * 3 + 2, none⟩ = some (.int .i64 e.2)) ∧ ∀ j, w.frozen? ⟨g, j, none⟩ = false := by
  have key : ∀ c u, c < 3 → (ec e)[c]? = some u → w.cell? ⟨g, i * 3 + c, none⟩ = some u := by
    intro c u hc hu
    have := h.row.cells (g := g) rfl (i * 3 + c) u (by rw [ecs_get es i c e he hc]; exact hu)
    rw [Addr.add_mid, Nat.zero_add] at this
    exact this
  refine ⟨⟨key 0 _ (by omega) rfl, key 1 _ (by omega) rfl, key 2 _ (by omega) rfl⟩, fun j => ?_⟩
  rcases h.row.2 with ⟨h1, _⟩ | ⟨g', cap', cur, h1, _, hh, _⟩
  · simp at h1
  · simp at h1
    obtain ⟨rfl, _⟩ := h1
    unfold World.frozen?
    simp only [hh]
    simp
theorem HpM.slice {w : World} {base hp : Nat} {v : Value} {es : List (Th × Int)} {p : Int} (h : HpM w base hp v es p) (hn : 0 < es.length) : ∃ g cap, v = .slice (some ⟨g, 0, none⟩) es.length cap ∧ g < w.heap.size ∧ base ≤ g ∧ g ≠ hp := by
  rcases h.row.2 with ⟨_, h1⟩ | ⟨g, cap, cur, rfl, hb, hh, _⟩
  · omega
  · refine ⟨g, cap, rfl, (Array.getElem?_eq_some_iff.1 hh).1, hb, fun e => h.ne (by simp [Value.ownBlock, e])⟩

theorem two_new (w : World) (A B : Obj) : ((w.alloc A).alloc B).drew.heap[w.heap.size]? = some A ∧ ((w.alloc A).alloc B).drew.heap[w.heap.size + 1]? = some B := by
  refine ⟨?_, ?_⟩
  · show ((w.alloc A).alloc B).heap[w.heap.size]? = some A
    rw [Below.heap_alloc _ _ _ (by simp)]
    exact heap_alloc_new w A
  · show ((w.alloc A).alloc B).heap[w.heap.size + 1]? = some B
    have := heap_alloc_new (w.alloc A) B
    rw [World.size_alloc] at this
    exact this
set_option maxRecDepth 100000 in
set_option maxHeartbeats 1000000 in
theorem ahead_ok {w : World} {base hp i j : Nat} {v : Value} {es : List (Th × Int)} {p : Int} {a b : Th × Int} (h : HpM w base hp v es p) (hl : es.length ≤ 1000) (ha : es[i]? = some a) (hb : es[j]? = some b) :
    Calls Tryz.prog 132 #[.pointer (some ⟨hp, 0, none⟩), .int .i64 i, .int .i64 j] w fun e w' => e = .returned (.bool (aheadE ltT a b)) ∧ Below w.heap.size w w' := by
  have hi := (List.getElem?_eq_some_iff.1 ha).1
  have hj := (List.getElem?_eq_some_iff.1 hb).1
  obtain ⟨g, cap, rfl, hg, _, hne⟩ := h.slice (by omega)
  obtain ⟨c0, c1, _⟩ := h.c
  have hlt := h.lt
  obtain ⟨⟨a0, a1, a2⟩, _⟩ := h.at ha
  obtain ⟨⟨b0, b1, b2⟩, _⟩ := h.at hb
  have hi' : (i : Int) < (es.length : Int) := by omega
  have hj' : (j : Int) < (es.length : Int) := by omega
  clear ha hb
  generalize es.length = n at *
  go_enter Tryz.func132, Tryz.ntmps132
  go_upto_region 1 with fail
  go_cut [7, 8] (fun x y wx => (∃ bx, x = .pointer (some ⟨bx, 0, none⟩) ∧ wx.heap[bx]? = some (.cells #[.int .i64 a.1.1, .int .i64 a.1.2, .int .i64 a.2] 187)) ∧ (∃ by', y = .pointer (some ⟨by', 0, none⟩) ∧ wx.heap[by']? = some (.cells #[.int .i64 b.1.1, .int .i64 b.1.2, .int .i64 b.2] 187)) ∧ Below w.heap.size w wx)
  case first =>
    go_region
    all_goals (go_wp2_with fail; go_meet)
    · exact ⟨⟨_, rfl, (two_new _ _ _).1⟩, ⟨_, rfl, (two_new _ _ _).2⟩, by go_grown⟩
    · exact ⟨⟨_, rfl, (two_new _ _ _).2⟩, ⟨_, rfl, (two_new _ _ _).1⟩, by go_grown⟩
  case rest =>
    obtain ⟨⟨bx, rfl, hx⟩, ⟨by', rfl, hy⟩, hbel⟩ := hcut
    have x2 := cell_of_row wc bx 2 _ _ _ hx
    have y2 := cell_of_row wc by' 2 _ _ _ hy
    have k0 := cell_regrown ((hbel.cell (p := ⟨hp, 0, none⟩) hlt).trans c0)
    have kx0 := cell_regrown (cell_of_row wc bx 0 _ _ _ hx)
    have kx1 := cell_regrown (cell_of_row wc bx 1 _ _ _ hx)
    have ky0 := cell_regrown (cell_of_row wc by' 0 _ _ _ hy)
    have ky1 := cell_regrown (cell_of_row wc by' 1 _ _ _ hy)
    simp at x2 y2 k0 kx0 kx1 ky0 ky1
    clear hx hy c0 c1 a0 a1 a2 b0 b1 b2
    by_cases hn : a.2 < b.2
    · go_wp2_with fail
      refine wp_region_quiet_below (by kernel_rfl) (by kernel_rfl) ?_
      repeat (go_big_quiet_step (first | (go_at_call 91; exact Calls.regrown_of (less_any b.1 a.1 _))))
      refine wpQuiet_nil ?_
      intro _ hw'
      obtain ⟨⟨dq, osq⟩, hw''⟩ := hw'
      subst hw''
      have hbr := below_regrown wc dq osq
      generalize Go.Sort.grow (redrawn wc dq) osq = W4 at hbr ⊢
      clear k0 kx0 kx1 ky0 ky1
      go_wp2
      go_ret
      refine ⟨?_, hbel.trans (hbr.mono hbel.size)⟩
      simp [aheadE, hn]
    · go_wp2_with fail
      refine wp_region_quiet_below (by kernel_rfl) (by kernel_rfl) ?_
      repeat (go_big_quiet_step (first | (go_at_call 91; exact Calls.regrown_of (less_any a.1 b.1 _))))
      refine wpQuiet_nil ?_
      intro _ hw'
      obtain ⟨⟨dq, osq⟩, hw''⟩ := hw'
      subst hw''
      have hbr := below_regrown wc dq osq
      generalize Go.Sort.grow (redrawn wc dq) osq = W4 at hbr ⊢
      clear k0 kx0 kx1 ky0 ky1
      go_wp2
      go_ret
      refine ⟨?_, hbel.trans (hbr.mono hbel.size)⟩
      have hn' : ¬ a.2 < b.2 := by omega
      simp [aheadE, hn']
end Go.Proofs.YtgeoghhajjlofaaGreatDoor.Ad
