/- dandelionlaw04.SetsAgain: its arguments as a row hands them. -/
import Derived.Test.YtpjbfijmlbbipaaDoorSH
import Derived.Test.YtpjbfijmlbbipaaDoorF2
namespace Go.Proofs.YtpjbfijmlbbipaaDoor
open Go.ChangeShapes Go.WideShapes Go.ChangeAt Go.RowKit

theorem laidOut : laidOutB Tryd.prog = true := by kernel_rfl
theorem cellsU16 : Tryd.prog.cellsOf 48 = 1 := by kernel_rfl
theorem again_arg {H : Type} {enc : TypeId × Value → H} {W : World} {a : Option Addr} {len cap : Nat} {d : DataW H} {p : List MemPlace} (h : DataW.Trod enc Tryd.prog W 0 (fun _ => true) true 51 (.slice a len cap) d p)
    (k : Int) (hk : (Lit.int .u8 k).wf = true) (ht : Wid W) (hT : Tabs W) :
    Calls Tryd.prog 7 #[.slice a len cap, .int .u8 k] W fun e w' => e = .returned (.bool true) ∧ Below W.heap.size W w' := by
  simp [Lit.wf, IntKind.min, IntKind.max, IntKind.bits, IntKind.signed] at hk
  obtain ⟨kk, rfl⟩ := Int.eq_ofNat_of_zero_le hk.1
  obtain ⟨fuel, hf⟩ := h
  rcases open_ints Tryd.underlying51 Tryd.underlying48 cellsU16 hf with ⟨hcs, _⟩ | ⟨ad, len', cap', zs, hcs, _, hl, hm, hz, _, hcell, hwf⟩
  · simp [Value.cells] at hcs
    obtain ⟨rfl, rfl, rfl⟩ := hcs
    exact again_walk [] none 0 kk W ⟨ht, hT⟩ ⟨by simp, by simp, fun h => by simp at h, fun u hu => by simp at hu⟩
  · simp [Value.cells] at hcs
    obtain ⟨rfl, rfl, rfl⟩ := hcs
    simp only [if_true] at hz
    have hlen : ((zs.take len).map Int.toNat).length = len := by rw [List.length_map, List.length_take]; omega
    have hb : ∀ z ∈ zs, 0 ≤ z ∧ z < 65536 := fun z hz' => by
      have := hwf z hz'
      simp [Lit.wf, IntKind.min, IntKind.max, IntKind.bits, IntKind.signed] at this
      omega
    have := again_walk ((zs.take len).map Int.toNat) (some ad) cap kk W ⟨ht, hT⟩ ⟨by omega, by unfold maxLen at hm; omega, fun h0 => by
      obtain ⟨bk, o, rfl, hc⟩ := ints_at hcell (by omega)
      refine ⟨bk, o, rfl, block_lt_of_cell (hc 0 (by omega)), fun j hj => ?_⟩
      rw [hlen] at hj
      rw [hc j (by omega)]
      have hjz : j < zs.length := by omega
      have e1 : zs.getD j 0 = zs[j] := by simp [List.getD, List.getElem?_eq_getElem hjz]
      have e2 : ((zs.take len).map Int.toNat)[j]? = some (zs[j].toNat) := by rw [List.getElem?_map, List.getElem?_take_of_lt hj, List.getElem?_eq_getElem hjz]; rfl
      rw [e1, e2]
      have := hb zs[j] (List.getElem_mem _)
      simp only [Option.getD_some]
      congr 3
      omega, fun u hu => by
        obtain ⟨z, hz', rfl⟩ := List.mem_map.1 hu
        have := hb z (List.mem_of_mem_take hz')
        omega⟩
    rw [hlen] at this
    exact this
end Go.Proofs.YtpjbfijmlbbipaaDoor
