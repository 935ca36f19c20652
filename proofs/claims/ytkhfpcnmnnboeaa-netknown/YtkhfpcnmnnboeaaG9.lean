/- Nodes that wait in a slice. -/
import Derived.Test.YtkhfpcnmnnboeaaG8
import Derived.ArgAppend
import Derived.Laws.EntriesVeiled
namespace Go.Proofs.Ytkhfpcnmnnboeaa
open Go.RowKit

/-- A slice of numbers somewhere in a block of our own, that is none of X. -/
structure QAt (w : World) (base : Nat) (X : Nat → Prop) (g off cap : Nat) (q : List Int) : Prop where
  ex : ∃ cur : Array Value, w.heap[g]? = some (.cells cur 3) ∧ off + cap ≤ cur.size ∧ ∀ j z, q[j]? = some z → cur[off + j]? = some (.int .i64 z)
  le : q.length ≤ cap
  hb : base ≤ g
  nx : ¬ X g
theorem QAt.fr {w w' : World} {base : Nat} {X S : Nat → Prop} {g off cap : Nat} {q : List Int} (h : QAt w base X g off cap q) (hF : Fr S w w') (hS : ¬ S g) : QAt w' base X g off cap q := by
  obtain ⟨⟨cur, h1, h2⟩, h3, h4, h5⟩ := h
  exact ⟨⟨cur, (hF.block g (block_lt h1) hS).trans h1, h2⟩, h3, h4, h5⟩
theorem QAt.lt {w : World} {base : Nat} {X : Nat → Prop} {g off cap : Nat} {q : List Int} (h : QAt w base X g off cap q) : g < w.heap.size := by
  obtain ⟨cur, h1, _⟩ := h.ex; exact block_lt h1
theorem QAt.cell {w : World} {base : Nat} {X : Nat → Prop} {g off cap : Nat} {q : List Int} (h : QAt w base X g off cap q) {j : Nat} {z : Int} (hz : q[j]? = some z) : w.cell? ⟨g, off + j, none⟩ = some (.int .i64 z) := by
  obtain ⟨cur, h1, _, h2⟩ := h.ex
  rw [cell_of_row w g _ cur _ _ h1]
  exact h2 j z hz
theorem QAt.mono {w : World} {base : Nat} {X Y : Nat → Prop} {g off cap : Nat} {q : List Int} (h : QAt w base X g off cap q) (hY : ¬ Y g) : QAt w base Y g off cap q := ⟨h.ex, h.le, h.hb, hY⟩
/-- Without the first one. -/
theorem QAt.pop {w : World} {base : Nat} {X : Nat → Prop} {g off cap : Nat} {x : Int} {q : List Int} (h : QAt w base X g off (cap + 1) (x :: q)) : QAt w base X g (off + 1) cap q ∧ (cap = 0 → QAt w base X g off 0 q) := by
  obtain ⟨⟨cur, h1, h2, h3⟩, h4, h5, h6⟩ := h
  simp at h4
  refine ⟨⟨⟨cur, h1, by omega, fun j z hz => ?_⟩, by omega, h5, h6⟩, fun hc => ⟨⟨cur, h1, by omega, fun j z hz => ?_⟩, by omega, h5, h6⟩⟩
  · have := h3 (j + 1) z (by simpa using hz)
    rw [show off + 1 + j = off + (j + 1) from by omega]
    exact this
  · have := (List.getElem?_eq_some_iff.1 hz).1
    omega
theorem QAt.push {W : World} {base : Nat} {X : Nat → Prop} {g off cap : Nat} {q : List Int} (h : QAt W base X g off cap q) (z : Int) (hq : q.length ≤ 1000) (_hbase : base ≤ W.heap.size) (hX : ∀ k, X k → k < W.heap.size) :
    ∃ g' off' cap' w6, (Builtin.append_ #[27, 27] 27 #[.slice (some ⟨g, off, none⟩) q.length cap, .slice (some ⟨W.heap.size, 0, none⟩) 1 1]).run Try.prog (W.alloc (.cells #[.int .i64 z] 3)) = .ok (.slice (some ⟨g', off', none⟩) (q.length + 1) cap') w6 ∧
      QAt w6 base X g' off' cap' (q ++ [z]) ∧ Fr (fun k => k = g) W w6 ∧ (g' = g ∨ W.heap.size < g') := by
  obtain ⟨i0, hi, hz0, hz1, hz2⟩ := info_parts infoInt
  obtain ⟨⟨cur, h1, h2, h3⟩, h4, h5, h6⟩ := h
  have hlt := block_lt h1
  have h1' : (W.alloc (.cells #[.int .i64 z] 3)).heap[g]? = some (.cells cur 3) := (Below.heap_alloc _ _ _ hlt).trans h1
  have hnews : ∀ j u, [Value.int .i64 z][j]? = some u → (W.alloc (.cells #[.int .i64 z] 3)).cell? ((⟨W.heap.size, 0, none⟩ : Addr).add j) = some u := fun j u hj => by
    rw [Addr.add_mid, Nat.zero_add, cell_of_row _ _ j #[.int .i64 z] 3 (0, 0) (heap_alloc_last W _)]
    simpa using hj
  by_cases hroom : q.length + 1 ≤ cap
  · have hrun := run_append_room_cells (P := Try.prog) (W.alloc (.cells #[.int .i64 z] 3)) 27 27 3 i0 Try.underlying27 hi g off q.length cap ⟨W.heap.size, 0, none⟩ 1 1 [.int .i64 z] (by rw [hz1]; rfl) hnews (by simp [Value.oneCell']) hroom (fun j hj => by
      simp at hj
      subst hj
      rw [hz1, cell_of_row _ _ _ cur _ _ h1', Array.getElem?_eq_getElem (by omega)]
      rfl) (fun j _ => frozen_new h1' _)
    rw [hz1, Nat.mul_one] at hrun
    refine ⟨g, off, cap, _, hrun, ⟨⟨cur.setIfInBounds (off + q.length) (.int .i64 z), heap_setCell_same _ _ _ _ _ _ h1', by simpa using h2, fun j y hy => ?_⟩, by simp; omega, h5, h6⟩, ?_, .inl rfl⟩
    · rw [Array.getElem?_setIfInBounds]
      by_cases hj : j < q.length
      · rw [List.getElem?_append_left hj] at hy
        rw [if_neg (by omega)]
        exact h3 j y hy
      · have hjl := (List.getElem?_eq_some_iff.1 hy).1
        simp at hjl
        have hje : j = q.length := by omega
        subst hje
        simp at hy
        subst hy
        rw [if_pos rfl, if_pos (by omega)]
    · exact (Fr.of_below (S := fun k => k = g) ((Below.refl _ W).alloc (Nat.le_refl _) _)).trans ((Fr.refl (fun k => k = g) _).set (p := ⟨g, off + q.length, none⟩) rfl _)
  · obtain ⟨v', w', hrun, r1, r2⟩ := run_append_arg_grows (P := Try.prog) (W.alloc (.cells #[.int .i64 z] 3)) 27 27 3 i0 _ 1 8 Try.underlying27 hi hz0 hz1 hz2 rfl (by decide) ⟨g, off, none⟩ q.length cap (q.map fun z => .int .i64 z) (by simp) (fun j u hj => by
      rw [List.getElem?_map] at hj
      cases hqj : q[j]? with
      | none => rw [hqj] at hj; simp at hj
      | some y =>
        rw [hqj] at hj
        simp at hj
        subst hj
        rw [Addr.add_mid, cell_of_row _ _ _ cur _ _ h1']
        exact h3 j y hqj) ⟨W.heap.size, 0, none⟩ 1 1 [.int .i64 z] rfl hnews (by omega) (by unfold maxLen; omega) (by omega)
    obtain ⟨hrl, hr⟩ := r1
    rcases hr with ⟨_, h0⟩ | ⟨g', cap', cur', rfl, hg', hh', hle', _, hsz', htk'⟩
    · omega
    · simp at hg'
      rw [Nat.mul_one] at htk' hsz'
      refine ⟨g', 0, cap', w', hrun, ⟨⟨cur', hh', by omega, fun j y hy => ?_⟩, by simp; omega, by omega, fun hx => by have := hX _ hx; omega⟩, ?_, .inr (by omega)⟩
      · have hjl := (List.getElem?_eq_some_iff.1 hy).1
        simp at hjl
        have h7 : (cur'.toList.take (q.length + 1))[j]? = some (.int .i64 y) := by
          rw [htk', show (q.map fun z => Value.int .i64 z) ++ [.int .i64 z] = (q ++ [z]).map fun z => Value.int .i64 z from by simp, List.getElem?_map, hy]
          rfl
        rw [List.getElem?_take_of_lt (by omega)] at h7
        rw [Nat.zero_add]
        simpa using h7
      · have hs := r2.size
        simp at hs
        exact ⟨r2.os, r2.tape, r2.output, by omega, fun k hk _ => (r2.block k (by simp; omega) (by simp)).trans (Below.heap_alloc _ _ _ hk)⟩
end Go.Proofs.Ytkhfpcnmnnboeaa
