/- slices.SortFunc of entries on their way, by their places. -/
import Derived.Test.YtgeoghhajjlofaaGreatDoorTA1
import Derived.Test.YtgeoghhajjlofaaGreatDoorShelf3
import Derived.Lib.AppendIntMem
namespace Go.Proofs.YtgeoghhajjlofaaGreatDoor
open Go.RowKit

theorem row_putRow {w : World} {base g n cap q size : Nat} {e : TypeId} {xs ys : List Value} (h : w.ownsRow base e size (.slice (some ⟨g, 0, none⟩) n cap) n xs) (hy : ys.length = n * size) : (Go.Sort.putRow id (Go.Sort.ahead w q) g 0 ys.toArray).ownsRow base e size (.slice (some ⟨g, 0, none⟩) n cap) n ys := by
  rcases h.2 with ⟨e0, _⟩ | ⟨g', cap', cur, e0, hb, hg, hn, hm, hs, ht⟩
  · cases e0
  · injection e0 with e1 _ e3
    injection e1 with e1
    injection e1 with e1
    subst e1; subst e3
    have hle : n * size ≤ cur.size := by rw [hs]; exact Nat.mul_le_mul_right size hn
    refine ⟨hy, .inr ⟨g, cap, Go.Sort.putCells id 0 ys.toArray cur, rfl, hb, ?_, hn, hm, by simpa [Go.Sort.putCells] using hs, ?_⟩⟩
    · simp [Go.Sort.putRow, Go.Sort.mapBlock, Go.Sort.ahead, Array.getElem?_modify, hg, Go.Sort.onCells]
    · apply List.ext_getElem?
      intro j
      rw [List.getElem?_take, Array.getElem?_toList]
      by_cases hj : j < n * size
      · have hjc : j < cur.size := by omega
        simp only [if_pos hj, Go.Sort.putCells, Array.getElem?_mapIdx, Array.getElem?_eq_getElem hjc, Option.map_some]
        rw [if_pos (by simp; omega), List.getElem?_eq_getElem (by omega)]
        simp [getElem!_pos, show j < ys.length by omega]
      · rw [if_neg hj, List.getElem?_eq_none (by omega)]
theorem fr_putRow {w : World} {g q : Nat} {d : Array Value} {os : Array Obj} : Fr (fun j => j = g) w (Go.Sort.grow (Go.Sort.putRow id (Go.Sort.ahead w q) g 0 d) os) :=
  ⟨rfl, rfl, rfl, by simp [Go.Sort.grow, Go.Sort.putRow, Go.Sort.mapBlock, Go.Sort.ahead], fun k hk hne => by
    show (w.heap.modify g (Go.Sort.onCells (Go.Sort.putCells id 0 d)) ++ os)[k]? = w.heap[k]?
    rw [Array.getElem?_append_left (by simpa using hk), Array.getElem?_modify, if_neg (fun e => hne e.symm)]⟩
theorem flat_rows (l : List Rw) : (Go.Sort.flatK rwcs 4 l.toArray).toList = fl rwcs l := by
  have hfl : (fl rwcs l).length = l.length * 4 := fl_length (sz := 4) (fun _ => rfl) l
  apply List.ext_getElem?
  intro j
  by_cases h : j < l.length * 4
  · obtain ⟨q, s, hq, hs, rfl⟩ : ∃ q s, q < l.length ∧ s < 4 ∧ j = q * 4 + s := ⟨j / 4, j % 4, by omega, by omega, by omega⟩
    obtain ⟨x, hx⟩ : ∃ x, l[q]? = some x := ⟨l[q], List.getElem?_eq_getElem hq⟩
    rw [fl_get (sz := 4) (fun _ => rfl) l q s x hx hs]
    have hd : (q * 4 + s) / 4 = q := by omega
    have hm : (q * 4 + s) % 4 = s := by omega
    have hx2 : l[q] = x := by rw [List.getElem?_eq_getElem hq] at hx; exact Option.some.inj hx
    simp only [Go.Sort.flatK, Array.toList_map, List.getElem?_map, Array.toList_range]
    rw [List.getElem?_range (by simpa using h)]
    simp only [Option.map_some, hd, hm]
    rw [show (l.toArray : Array Rw)[q]! = x from by simp [getElem!_pos, hq, hx2]]
    match s, hs with
    | 0, _ => rfl
    | 1, _ => rfl
    | 2, _ => rfl
    | 3, _ => rfl
  · rw [List.getElem?_eq_none (by simp; omega), List.getElem?_eq_none (by rw [hfl]; omega)]
theorem holds_rows {w : World} {base g cap : Nat} {l : List Rw} (h : w.ownsRow base 67 4 (.slice (some ⟨g, 0, none⟩) l.length cap) l.length (fl rwcs l)) : Go.Sort.HoldsK rwcs 4 w g 0 l.toArray := fun j hj => by
  have hj' : j < l.length * 4 := by simpa using hj
  have h1 : (fl rwcs l)[j]? = some ((Go.Sort.flatK rwcs 4 l.toArray)[j]!) := by
    rw [← flat_rows, Array.getElem?_toList, Array.getElem?_eq_getElem hj, getElem!_pos _ j hj]
  have h2 := World.ownsRow.cells h (g := g) rfl j _ h1
  rw [Addr.add_mid, Nat.zero_add] at h2
  rcases h.2 with ⟨e0, _⟩ | ⟨g', cap', cur, e0, _, hg, _⟩
  · cases e0
  · simp at e0
    obtain ⟨rfl, _⟩ := e0
    rw [Nat.zero_add]
    exact ⟨h2, frozen_new hg j⟩
theorem cmR_lt (x y : Rw) : ltOf cmR x y = decide (x.1 < y.1 ∨ (x.1 = y.1 ∧ x.2.1 < y.2.1)) := by
  unfold ltOf
  rw [decide_eq_decide]
  unfold cmR orI cmI
  split <;> split <;> (try split) <;> (try split) <;> omega
theorem cmR_swo : Go.Sort.SWO (ltOf cmR) where
  irrefl x := by rw [cmR_lt]; simp
  trans x y z h1 h2 := by rw [cmR_lt, decide_eq_true_eq] at *; omega
  ntrans x y z h1 h2 := by rw [cmR_lt, decide_eq_false_iff_not] at *; omega
theorem sortR_any {w : World} {base g cap : Nat} {l : List Rw} (h : w.ownsRow base 67 4 (.slice (some ⟨g, 0, none⟩) l.length cap) l.length (fl rwcs l)) (hl : l.length ≤ 100000) :
    Calls Tryz.prog 45 #[.slice (some ⟨g, 0, none⟩) l.length cap, .func (.func 46) #[] #[]] w fun e w' => e = .returned (.tuple #[]) ∧
      ∃ l' : List Rw, l'.Perm l ∧ (l'.Pairwise fun x y => ¬ (y.1 < x.1 ∨ (y.1 = x.1 ∧ y.2.1 < x.2.1))) ∧ w'.ownsRow base 67 4 (.slice (some ⟨g, 0, none⟩) l.length cap) l.length (fl rwcs l') ∧ Fr (fun j => j = g) w w' := by
  have eg : ∀ args w, (callFunc 46 args).run Tryz.prog w = .ok (.enter 46 args) w := fun args w => by kernel_rfl
  have hg : g < w.heap.size := by
    rcases h.2 with ⟨e0, _⟩ | ⟨g', cap', cur, e0, _, hg, _⟩
    · cases e0
    · simp at e0
      obtain ⟨rfl, _⟩ := e0
      exact block_lt hg
  have hcon := AnyQ.slices_SortFunc Tryz.sortR 4 (fun w => by kernel_rfl) (fun w => by kernel_rfl) rwcs (fun _ => rfl) (fun x v hv => by simp [rwcs] at hv; rcases hv with rfl | rfl | rfl | rfl <;> rfl) cmR cmR_swo 46 #[] g 0 cap l.toArray w eg (fun _ _ _ _ x y => by simpa using rcomp_any x y _) (holds_rows h) hg (by simp; omega)
  change Calls Tryz.prog 45 _ _ _ at hcon
  rw [show l.toArray.size = l.length from by simp] at hcon
  refine hcon.mono fun e w' ⟨he, d', n, os, hp, hs, hw⟩ => ⟨he, d'.toList, ?_, ?_, ?_⟩
  · have hp3 := hp.2.2
    have hsz : d'.size = l.length := by simpa using hp.1
    rw [show d'.extract 0 l.length = d' from by rw [← hsz]; simp, show l.toArray.extract 0 l.length = l.toArray from by simp] at hp3
    exact hp3
  · have hsz : d'.size = l.length := by simpa using hp.1
    rw [List.pairwise_iff_getElem]
    intro i j hi hj hij
    have h1 := hs i j (Nat.zero_le _) hij (by simpa [hsz] using hj)
    rw [cmR_lt, decide_eq_false_iff_not, getElem!_pos d' j (by simpa using hj), getElem!_pos d' i (by simpa using hi)] at h1
    exact h1
  · have hsz : d'.size = l.length := by simpa using hp.1
    rw [hw]
    unfold sortWorldK Go.Sort.putRowK
    have hf := flat_rows d'.toList
    simp only [Array.toArray_toList] at hf
    have h1 := row_putRow (q := n) (ys := (Go.Sort.flatK rwcs 4 d').toList) h (by simp [hsz])
    rw [Array.toArray_toList, hf] at h1
    have h2 := Go.Lib.ownsRow_grow h1 0 os
    exact ⟨h2, fr_putRow⟩
end Go.Proofs.YtgeoghhajjlofaaGreatDoor
