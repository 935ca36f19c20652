/- A bit string in a block; bits.Of. -/
import Derived.Test.YtjpnbjfomikhaaaDoorW4
import Derived.Deep.RegionHeld3
import Derived.Deep.LoopGhost
namespace Go.Proofs.YtjpnbjfomikhaaaDoor
open Go.RowKit

/-- The block b holds N's four words, and may be written. -/
structure HasBs (W : World) (b N : Nat) : Prop where
  c0 : W.cell? ⟨b, 0, none⟩ = some (.int .u64 (wd N 0))
  c1 : W.cell? ⟨b, 1, none⟩ = some (.int .u64 (wd N 1))
  c2 : W.cell? ⟨b, 2, none⟩ = some (.int .u64 (wd N 2))
  c3 : W.cell? ⟨b, 3, none⟩ = some (.int .u64 (wd N 3))
  f0 : W.frozen? ⟨b, 0, none⟩ = false
  f1 : W.frozen? ⟨b, 1, none⟩ = false
  f2 : W.frozen? ⟨b, 2, none⟩ = false
  f3 : W.frozen? ⟨b, 3, none⟩ = false
  lt : b < W.heap.size

theorem HasBs.keep {W W' : World} {b N B : Nat} (h : HasBs W b N) (hb : Below B W W') (hB : b < B) : HasBs W' b N :=
  ⟨(hb.cell (p := ⟨b, 0, none⟩) hB).trans h.c0, (hb.cell (p := ⟨b, 1, none⟩) hB).trans h.c1, (hb.cell (p := ⟨b, 2, none⟩) hB).trans h.c2, (hb.cell (p := ⟨b, 3, none⟩) hB).trans h.c3,
    (hb.frozen (p := ⟨b, 0, none⟩) hB).trans h.f0, (hb.frozen (p := ⟨b, 1, none⟩) hB).trans h.f1, (hb.frozen (p := ⟨b, 2, none⟩) hB).trans h.f2, (hb.frozen (p := ⟨b, 3, none⟩) hB).trans h.f3, Nat.lt_of_lt_of_le h.lt hb.size⟩

/-- The four stores of a whole bit string. -/
abbrev World.putBs (W : World) (b N : Nat) : World :=
  (((W.setCell ⟨b, 0, none⟩ (.int .u64 (wd N 0))).setCell ⟨b, 1, none⟩ (.int .u64 (wd N 1))).setCell ⟨b, 2, none⟩ (.int .u64 (wd N 2))).setCell ⟨b, 3, none⟩ (.int .u64 (wd N 3))

theorem HasBs.put {W : World} {b M : Nat} (h : HasBs W b M) (N : Nat) : HasBs (World.putBs W b N) b N := by
  obtain ⟨c0, c1, c2, c3, f0, f1, f2, f3, lt⟩ := h
  refine ⟨?_, ?_, ?_, ?_, ?_, ?_, ?_, ?_, ?_⟩
  all_goals simp [*, go_sem]
theorem below_put {B b N : Nat} {W0 W : World} (h : Below B W0 W) (hB : B ≤ b) : Below B W0 (World.putBs W b N) :=
  (((h.setCell (p := ⟨b, 0, none⟩) hB _).setCell (p := ⟨b, 1, none⟩) hB _).setCell (p := ⟨b, 2, none⟩) hB _).setCell (p := ⟨b, 3, none⟩) hB _
theorem hasBs_new (W : World) (N : Nat) : HasBs (W.alloc (.cells #[.int .u64 (wd N 0), .int .u64 (wd N 1), .int .u64 (wd N 2), .int .u64 (wd N 3)] 24)) W.heap.size N := by
  refine ⟨?_, ?_, ?_, ?_, ?_, ?_, ?_, ?_, ?_⟩
  all_goals simp [go_sem]

/-- What stands while a statement that reads the block b goes on: its words, and all that lay below b. -/
abbrev Held (W0 : World) (b X : Nat) (w : World) : Prop :=
  w.cell? ⟨b, 0, none⟩ = some (.int .u64 (wd X 0)) ∧ w.cell? ⟨b, 1, none⟩ = some (.int .u64 (wd X 1)) ∧ w.cell? ⟨b, 2, none⟩ = some (.int .u64 (wd X 2)) ∧ w.cell? ⟨b, 3, none⟩ = some (.int .u64 (wd X 3)) ∧
  w.frozen? ⟨b, 0, none⟩ = false ∧ w.frozen? ⟨b, 1, none⟩ = false ∧ w.frozen? ⟨b, 2, none⟩ = false ∧ w.frozen? ⟨b, 3, none⟩ = false ∧ b < w.heap.size ∧ Below b W0 w
theorem Held.of {W0 W : World} {b X : Nat} (h : HasBs W b X) (hb : Below b W0 W) : Held W0 b X W := ⟨h.c0, h.c1, h.c2, h.c3, h.f0, h.f1, h.f2, h.f3, h.lt, hb⟩
theorem Held.has {W0 W : World} {b X : Nat} (h : Held W0 b X W) : HasBs W b X ∧ Below b W0 W := by
  obtain ⟨c0, c1, c2, c3, f0, f1, f2, f3, lt, hb⟩ := h
  exact ⟨⟨c0, c1, c2, c3, f0, f1, f2, f3, lt⟩, hb⟩
theorem Held.keep {W0 W W' : World} {b X : Nat} (h : Held W0 b X W) (hb : Below W.heap.size W W') : Held W0 b X W' := by
  obtain ⟨h1, h2⟩ := h.has
  exact Held.of (h1.keep hb h1.lt) (h2.trans (hb.mono (Nat.le_of_lt h1.lt)))
theorem Held.drew {W0 W : World} {b X : Nat} (h : Held W0 b X W) : Held W0 b X W.drew := h.keep (Below.refl _ W).drew

theorem hidIn {p : Prop} (h : p) : Hid p := h

/-- The number of a list of bits. -/
def ofl (zs : List Int) : Nat := zs.foldl (fun a z => a ||| 2 ^ (z - 1).toNat) 0
/-- Are all bits? -/
def allBits (zs : List Int) : Prop := ∀ z ∈ zs, 1 ≤ z ∧ z ≤ 256
theorem ofl_snoc (zs : List Int) (z : Int) : ofl (zs ++ [z]) = ofl zs ||| 2 ^ (z - 1).toNat := by simp [ofl]

set_option maxHeartbeats 200000 in
theorem of_yes (zs : List Int) (bk o cap : Nat) (w : World) (hl : zs.length ≤ 9223372036854775807) (hcell : ∀ j, j < zs.length → w.cell? ⟨bk, o + j, none⟩ = some (.int .i64 (zs[j]?.getD 0))) (hbk : bk < w.heap.size) (hall : allBits zs) :
    Calls Tryd.prog 40 #[.slice (some ⟨bk, o, none⟩) zs.length cap] w fun e w' => e = .returned (.tuple #[bs (ofl zs), .int .i64 0]) ∧ Below w.heap.size w w' := by
  have Hc := hidIn hcell
  have Ha := hidIn hall
  clear hcell hall
  go_enter Tryd.func40, Tryd.ntmps40
  go_wp2
  go_loopw [9] (fun i wr => ∃ k : Nat, k ≤ zs.length ∧ i = .int .i64 k ∧ HasBs wr (w.heap.size + 1) (ofl (zs.take k)) ∧ Below (w.heap.size + 1) (w.alloc (.cells #[.int .u64 0, .int .u64 0, .int .u64 0, .int .u64 0] 24)) wr) (fun i _ => zs.length - (intOf i).toNat)
  case atStart =>
    refine ⟨0, Nat.zero_le _, rfl, ?_, ?_⟩
    · have := hasBs_new (w.alloc (.cells #[.int .u64 0, .int .u64 0, .int .u64 0, .int .u64 0] 24)) 0
      simpa [ofl, wd_zero] using this
    · go_grown
  case round =>
    obtain ⟨k, hk, rfl, hB, hbel⟩ := hrel
    by_cases hlt : k < zs.length
    · obtain ⟨m, hm, hz⟩ : ∃ m : Nat, m < 256 ∧ zs[k]?.getD 0 = (m : Int) + 1 := by
        have h1 := Ha.out (zs[k]?.getD 0) (by rw [List.getElem?_eq_getElem hlt]; simp)
        exact ⟨(zs[k]?.getD 0 - 1).toNat, by omega, by omega⟩
      have hc : wr.cell? ⟨bk, o + k, none⟩ = some (.int .i64 ((m : Int) + 1)) := by
        rw [hbel.cell (p := ⟨bk, o + k, none⟩) (show bk < w.heap.size + 1 by omega), ← hz, ← Hc.out k hlt]
        exact cell_later (Below.alloc (Below.refl _ w) (Nat.le_refl _) _) (Hc.out k hlt) |>.trans (Hc.out k hlt).symm
      have HX : Hid (ofl (zs.take (k + 1)) = ofl (zs.take k) ||| 2 ^ m) := by
        have : zs.take (k + 1) = zs.take k ++ [zs[k]?.getD 0] := by
          rw [List.take_add_one, List.getElem?_eq_getElem hlt]; rfl
        rw [this, ofl_snoc, hz]
        show _ = _
        congr 3
        omega
      have Hz := hidIn hz
      clear hz
      generalize ofl (zs.take k) = X at hB HX
      have hS := Held.of hB hbel
      go_wp2_with (go_at_call 26; refine (isBit_yes _ (by omega) (by omega) _).mono ?_; rintro e wr ⟨rfl, rfl⟩)
      obtain ⟨c0, c1, c2, c3, f0, f1, f2, f3, lt⟩ := hB
      go_region_with (first | (go_at_call 28; refine (only_any m hm _).mono ?_; rintro e w1 ⟨rfl, hb1⟩; have hS1 := Held.keep (Held.drew hS) hb1; obtain ⟨c0', c1', c2', c3', f0', f1', f2', f3', lt', hb1'⟩ := hS1) | (go_at_call 36; refine (or_any _ _ _).mono ?_; rintro e w2 ⟨rfl, hb2⟩; obtain ⟨c0'', c1'', c2'', c3'', f0'', f1'', f2'', f3'', lt'', hb2''⟩ := Held.keep ⟨c0', c1', c2', c3', f0', f1', f2', f3', lt', hb1'⟩ hb2))
      all_goals
        go_wp2
        go_roundw
        case rel => exact ⟨k + 1, by omega, by go_num, by rw [HX.out]; exact HasBs.put ⟨c0'', c1'', c2'', c3'', f0'', f1'', f2'', f3'', lt''⟩ _, below_put hb2'' (Nat.le_refl _)⟩
        case measure => simp [intOf]; omega
    · have hke : k = zs.length := by omega
      have hR := (hasBs_new w 0).keep hbel (by omega)
      have HT : Hid (ofl (zs.take k) = ofl zs) := by rw [hke, List.take_length]; exact rfl
      generalize ofl (zs.take k) = X at hB HT
      obtain ⟨c0, c1, c2, c3, f0, f1, f2, f3, lt⟩ := hB
      obtain ⟨d0, d1, d2, d3, g0, g1, g2, g3, lt'⟩ := hR
      have hle : ¬ ((k : Int) < (zs.length : Int)) := by omega
      clear hke
      go_wp2
      refine bodyPost_ret (v := .tuple #[bs X, .int .i64 0]) (by simp [results, Tryd.results40, go_sem, d0, d1, d2, d3]) rfl ⟨?_, ?_⟩
      · rw [← HT.out]
      · exact below_put (((Below.refl _ w).alloc (Nat.le_refl _) _).trans (hbel.mono (Nat.le_succ _))) (Nat.le_refl _)
end Go.Proofs.YtjpnbjfomikhaaaDoor
