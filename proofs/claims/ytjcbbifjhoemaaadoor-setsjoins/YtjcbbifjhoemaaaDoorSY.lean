/- dandelionlaw04.SetsJoins: its arguments as a row hands them. -/
import Derived.Test.YtjcbbifjhoemaaaDoorSX
import Derived.Test.YtjcbbifjhoemaaaDoorF2
import Derived.Deep.Slices
namespace Go.Proofs.YtjcbbifjhoemaaaDoor
open Go.ChangeShapes Go.WideShapes Go.ChangeAt Go.RowKit

theorem laidOut : laidOutB Tryd.prog = true := by kernel_rfl
theorem ptfields_eq : Tryd.prog.underlying 37 = some (.struct #[(Tryd.prog.fieldsOf 37)[0]!, (Tryd.prog.fieldsOf 37)[1]!]) := by kernel_rfl
theorem ptf0 : ((Tryd.prog.fieldsOf 37)[0]!).type = 3 ∧ ((Tryd.prog.fieldsOf 37)[0]!).offset = 0 := ⟨by kernel_rfl, by kernel_rfl⟩
theorem ptf1 : ((Tryd.prog.fieldsOf 37)[1]!).type = 35 ∧ ((Tryd.prog.fieldsOf 37)[1]!).offset = 1 := ⟨by kernel_rfl, by kernel_rfl⟩
theorem cPart : Tryd.prog.cellsOf 37 = 5 := by kernel_rfl
theorem cBits : Tryd.prog.cellsOf 35 = 4 := by kernel_rfl
/-- A part's five cells are a number and a bit string. -/
theorem part_cells {H : Type} {enc : TypeId × Value → H} {W : World} {n : Nat} {cs : List Value} {x : DataW H × List MemPlace} (h : DataW.trod enc Tryd.prog W 0 (fun _ => true) true n 37 cs = some x) :
    ∃ y : Int × Nat, cs = prt y ∧ y.2 < 2 ^ 256 := by
  obtain ⟨xs, k, _, _, hlen, hxl, hf⟩ := DataW.trod_struct ptfields_eq h
  rw [cPart] at hlen
  match cs, hlen with
  | [v0, v1, v2, v3, v4], _ =>
    match xs, hxl with
    | [z0, z1], _ =>
      have g0 := hf 0 (Tryd.prog.fieldsOf 37)[0]! rfl
      have g1 := hf 1 (Tryd.prog.fieldsOf 37)[1]! rfl
      rw [ptf0.1, ptf0.2, cellsI] at g0
      rw [ptf1.1, ptf1.2, cBits] at g1
      simp at g0 g1
      obtain ⟨y, hy, _⟩ := DataW.trod_int Tryd.underlying3 g0
      obtain ⟨N, hN, hv, _, _⟩ := open_bits_cells g1
      simp at hy
      obtain ⟨rfl, rfl, rfl, rfl⟩ : v1 = .int .u64 (wd N 0) ∧ v2 = .int .u64 (wd N 1) ∧ v3 = .int .u64 (wd N 2) ∧ v4 = .int .u64 (wd N 3) := by simpa using hv
      exact ⟨(y, N), by rw [hy], hN⟩
theorem joins_arg {H : Type} {enc : TypeId × Value → H} {W : World} {a : Option Addr} {len cap : Nat} {d : DataW H} {p : List MemPlace} (h : DataW.Trod enc Tryd.prog W 0 (fun _ => true) true 23 (.slice a len cap) d p)
    (V : Int) (ht : Wid W) (hT : Tabs W) :
    Calls Tryd.prog 4 #[.slice a len cap, .int .i64 V] W fun e w' => e = .returned (.bool true) ∧ Below W.heap.size W w' := by
  obtain ⟨fuel, hf⟩ := h
  rcases Deep.open_slice Tryd.underlying23 hf with ⟨hcs, _⟩ | ⟨ad, len', cap', m, n, D, Pl, hcs, _, hl, hm, hmm, _, hx⟩
  · simp [Value.cells] at hcs
    obtain ⟨rfl, rfl, rfl⟩ := hcs
    exact joins_walk [] none 0 V W ⟨ht, hT⟩ ⟨by simp, by simp, fun _ => rfl, fun h => by simp at h⟩ (fun p hp => by simp at hp)
  · simp [Value.cells] at hcs
    obtain ⟨rfl, rfl, rfl⟩ := hcs
    simp only [if_true] at hmm
    subst hmm
    have hv : ∀ i, i < m → ∃ y : Int × Nat, y.2 < 2 ^ 256 ∧ ∀ (j : Nat) (u : Value), (prt y)[j]? = some u → W.cell? ((ad.add (i * 5)).add j) = some u := by
      intro i hi
      obtain ⟨cs', h1, h2⟩ := hx i hi
      obtain ⟨y, rfl, hy⟩ := part_cells h2
      rw [cPart] at h1
      obtain ⟨_, _, hcell⟩ := World.cells?_some h1
      refine ⟨y, hy, fun j u hu => ?_⟩
      have hj : j < 5 := by have := (List.getElem?_eq_some_iff.1 hu).1; simpa using this
      rw [hcell j hj]
      exact hu
    obtain ⟨X, hX⟩ : ∃ X : Nat → Int × Nat, ∀ i, i < m → (X i).2 < 2 ^ 256 ∧ ∀ (j : Nat) (u : Value), (prt (X i))[j]? = some u → W.cell? ((ad.add (i * 5)).add j) = some u := ⟨fun i => if hi : i < m then Classical.choose (hv i hi) else (0, 0), fun i hi => by simp only [hi, dif_pos]; exact Classical.choose_spec (hv i hi)⟩
    have hlen : ((List.range len).map X).length = len := by simp
    have hbits : ∀ p ∈ (List.range len).map X, p.2 < 2 ^ 256 := fun p hp => by
      obtain ⟨i, hi, rfl⟩ := List.mem_map.1 hp
      simp at hi
      exact (hX i (by omega)).1
    have := joins_walk ((List.range len).map X) (some ad) m V W ⟨ht, hT⟩ ⟨by omega, by rw [hlen]; unfold maxLen at hm; omega, (fun e => by cases e), fun h0 => by
      rw [hlen] at h0
      have h3 := (hX 0 (by omega)).2 0 _ rfl
      obtain ⟨b, off, spot⟩ := ad
      have hspot : spot = none := by simpa [Addr.add] using World.cell?_spot h3
      subst hspot
      refine ⟨b, off, rfl, block_lt_of_cell (a := ⟨b, off, none⟩) (by simpa [Addr.add] using h3), by rw [hlen]; unfold maxLen at hm; omega, fun j y hj i u hu => ?_, hbits⟩
      have hjl := (List.getElem?_eq_some_iff.1 hj).1
      rw [hlen] at hjl
      rw [List.getElem?_map, List.getElem?_range hjl] at hj
      simp at hj
      subst hj
      have := (hX j (by omega)).2 i u hu
      rw [Addr.add_mid, Addr.add_mid] at this
      exact this⟩ hbits
    rw [hlen] at this
    exact this
end Go.Proofs.YtjcbbifjhoemaaaDoor
