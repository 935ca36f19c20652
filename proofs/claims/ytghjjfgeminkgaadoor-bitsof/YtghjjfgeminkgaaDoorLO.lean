/- The law BitsOf, walked. -/
import Derived.Test.YtghjjfgeminkgaaDoorWK
import Derived.Test.YtghjjfgeminkgaaDoorO1
import Derived.Test.YtghjjfgeminkgaaDoorO2
import Derived.Test.YtghjjfgeminkgaaDoorO3
import Derived.Test.YtghjjfgeminkgaaDoorLP
namespace Go.Proofs.YtghjjfgeminkgaaDoor
open Go.RowKit

theorem infoInt : (Tryd.prog.info? 3).map (fun i => (i.zero, i.size, i.bytes)) = some (some (.int .i64 0), 1, 8) := by kernel_rfl
theorem addr_add (b o j : Nat) : (⟨b, o, none⟩ : Addr).add j = ⟨b, o + j, none⟩ := by unfold Addr.add; split <;> simp_all

/-- What Of answers: the bit string, the error. -/
theorem of_some (zs : List Int) (X E : Nat) (hXE : (allBits zs ∧ X = ofl zs ∧ E = 0) ∨ (¬ allBits zs ∧ X = 0 ∧ E = 2)) (bk o cap : Nat) (w : World) (hl : zs.length ≤ 9223372036854775807) (hcell : ∀ j, j < zs.length → w.cell? ⟨bk, o + j, none⟩ = some (.int .i64 (zs[j]?.getD 0))) (hbk : bk < w.heap.size) :
    Calls Tryd.prog 34 #[.slice (some ⟨bk, o, none⟩) zs.length cap] w fun e w' => e = .returned (.tuple #[bs X, .int .i64 E]) ∧ Below w.heap.size w w' := by
  rcases hXE with ⟨h, rfl, rfl⟩ | ⟨h, rfl, rfl⟩
  · exact of_yes zs bk o cap w hl hcell hbk h
  · exact of_no zs bk o cap w hl hcell hbk h
theorem rof_some (zs : List Int) (X E : Nat) (hXE : (allBits zs ∧ X = ofl zs ∧ E = 0) ∨ (¬ allBits zs ∧ X = 0 ∧ E = 2)) (bk o cap : Nat) (w : World) (hl : zs.length ≤ 9223372036854775807) (hcell : ∀ j, j < zs.length → w.cell? ⟨bk, o + j, none⟩ = some (.int .i64 (zs[j]?.getD 0))) (hbk : bk < w.heap.size) :
    Calls Tryd.prog 35 #[.slice (some ⟨bk, o, none⟩) zs.length cap] w fun e w' => e = .returned (.tuple #[bs X, .int .i64 E]) ∧ Below w.heap.size w w' := by
  rcases hXE with ⟨h, rfl, rfl⟩ | ⟨h, rfl, rfl⟩
  · exact rof_yes zs bk o cap w hl hcell hbk h
  · exact rof_no zs bk o cap w hl hcell hbk h

set_option maxRecDepth 100000 in
set_option maxHeartbeats 1000000 in
theorem lawOf_some (zs : List Int) (bk o cap : Nat) (w : World) (ht : Tabs w) (hpos : 0 < zs.length) (hl : zs.length * 8 ≤ 140737488355328) (hcell : ∀ j, j < zs.length → w.cell? ⟨bk, o + j, none⟩ = some (.int .i64 (zs[j]?.getD 0))) (hbk : bk < w.heap.size) :
    Calls Tryd.prog 5 #[.slice (some ⟨bk, o, none⟩) zs.length cap] w fun e w' => e = .returned (.bool true) ∧ Below w.heap.size w w' := by
  obtain ⟨X, E, hXE⟩ : ∃ X E, (allBits zs ∧ X = ofl zs ∧ E = 0) ∨ (¬ allBits zs ∧ X = 0 ∧ E = 2) := by
    by_cases h : allBits zs
    · exact ⟨_, _, .inl ⟨h, rfl, rfl⟩⟩
    · exact ⟨_, _, .inr ⟨h, rfl, rfl⟩⟩
  have HXE := hidIn hXE
  have Hc := hidIn hcell
  clear hXE hcell
  obtain ⟨i0, hi, hz0, hz1, hz2⟩ := info_parts infoInt
  have eX := eq_same X
  have Hn : Hid ((zs.map (Value.int .i64)).length = zs.length * 1) := hidIn (by simp)
  have Hnews : Hid (∀ j u, (zs.map (Value.int .i64))[j]? = some u → w.cell? ((⟨bk, o, none⟩ : Addr).add j) = some u) := hidIn (by
    intro j u hu
    rw [addr_add]
    rw [List.getElem?_map] at hu
    cases hj : zs[j]? with
    | none => rw [hj] at hu; cases hu
    | some z =>
      rw [hj] at hu
      rw [Hc.out j (List.getElem?_eq_some_iff.1 hj).1, hj]
      exact hu)
  have H1 : Hid (∀ u ∈ zs.map (Value.int .i64), u.oneCell' = true) := hidIn (by intro u hu; obtain ⟨z, _, rfl⟩ := List.mem_map.1 hu; rfl)
  have b1 : 0 + zs.length ≤ maxLen := by unfold maxLen; omega
  have b2 : (0 + zs.length) * 8 ≤ 140737488355328 := by omega
  go_enter Tryd.func5, Tryd.ntmps5
  go_wp2_with (at_builtin; refine wpList_append_own _ rfl _ _ 31 rfl w.heap.size 3 i0 (.int .i64 0) 1 8 Tryd.underlying31 hi hz0 hz1 hz2 rfl (by decide) (.slice none 0 0) 0 [] rfl (World.ownsRow_nil _ _ _ _) ⟨bk, o, none⟩ zs.length cap (zs.map (Value.int .i64)) rfl Hn.out Hnews.out H1.out b1 b2 (Nat.le_refl _) ?_; intro v' w1 hown' hgrow _; rw [Nat.zero_add, List.nil_append] at hown'; obtain ⟨g, cap', hv', hg1, hg2⟩ := hown'.form hpos; subst hv')
  have hw1 : Below w.heap.size w w1 := ⟨hgrow.os, hgrow.tape, hgrow.output, hgrow.size, fun k hk => hgrow.block k hk (by simp [Value.ownBlock])⟩
  have Hin : Hid (∀ W, Below w1.heap.size w1 W → ∀ j, j < zs.length → W.cell? ⟨g, 0 + j, none⟩ = some (.int .i64 (zs[j]?.getD 0))) := hidIn (by
    intro W hW j hj
    rw [hW.cell (p := ⟨g, 0 + j, none⟩) hg2, Nat.zero_add, hown'.cellAt j (by omega), List.getElem?_map, List.getElem?_eq_getElem hj]
    rfl)
  have Hold : Hid (∀ W, Below w.heap.size w W → ∀ j, j < zs.length → W.cell? ⟨bk, o + j, none⟩ = some (.int .i64 (zs[j]?.getD 0))) := hidIn (by
    intro W hW j hj
    rw [hW.cell (p := ⟨bk, o + j, none⟩) hbk]
    exact Hc.out j hj)
  have hs1 := hw1.size
  clear hown' hgrow Hnews H1 Hn Hc hi hz0 hz1 hz2
  refine (of_some zs X E HXE.out g 0 cap' w1 (by omega) (Hin.out _ (Below.refl _ _)) hg2).mono ?_
  rintro e w2 ⟨rfl, hb2⟩
  have hw2 : Below w.heap.size w w2 := hw1.trans (hb2.mono hs1)
  have hs2 := hb2.size
  go_wp2_with fail
  refine (rof_some zs X E HXE.out bk o cap _ (by omega) (Hold.out _ (hw2.alloc (by omega) _)) (by simp; omega)).mono ?_
  rintro e w3 ⟨rfl, hb3⟩
  have hX3 := (hasBs_new w2 X).keep hb3 (by simp)
  have hw3 : Below w.heap.size w w3 := (hw2.alloc (by omega) _).trans (hb3.mono (by simp; omega))
  have hv3 : Below w1.heap.size w1 w3 := ((hb2.alloc hs2 _)).trans (hb3.mono (by simp; omega))
  have hs3 := hw3.size
  have hs3' := hv3.size
  have ht3 := (ht.keep hw3)
  obtain ⟨c0, c1, c2, c3, _, _, _, _, _⟩ := hX3
  clear hb2 hb3
  go_wp2_with fail
  refine (same_yes zs g 0 cap' bk o cap _ (by omega) (Hin.out _ (hv3.alloc hs3' _)) (Hold.out _ (hw3.alloc hs3 _))).mono ?_
  rintro e w4 ⟨rfl, hb4⟩
  have ht4 : Tabs w4 := (ht3.keep ((Below.refl _ w3).alloc (Nat.le_refl _) _)).keep hb4
  have hw4 : Below w.heap.size w w4 := (hw3.alloc hs3 _).trans (hb4.mono (by simp; omega))
  have hs4 := hw4.size
  clear hb4
  go_wp2_with fail
  refine (works_any _ ht4).mono ?_
  rintro e w5 ⟨rfl, hb5⟩
  go_wp2
  go_ret
  exact ⟨rfl, hw4.trans (hb5.mono hs4)⟩

set_option maxRecDepth 100000 in
set_option maxHeartbeats 1000000 in
theorem lawOf_none (a : Option Addr) (cap : Nat) (w : World) (ht : Tabs w) :
    Calls Tryd.prog 5 #[.slice a 0 cap] w fun e w' => e = .returned (.bool true) ∧ Below w.heap.size w w' := by
  have eX := eq_same 0
  obtain ⟨i0, hi, hz0, hz1, hz2⟩ := info_parts infoInt
  rcases a with _ | ad
  · clear hi hz0 hz1 hz2
    go_enter Tryd.func5, Tryd.ntmps5
    go_wp2_with fail
    refine (of_nil _ _ _).mono ?_
    rintro e w2 ⟨rfl, hb2⟩
    have hw2 : Below w.heap.size w w2 := (Below.refl _ w).trans (hb2.mono (Nat.le_refl _))
    have hs2 := hw2.size
    go_wp2_with fail
    refine (rof_nil _ _ _).mono ?_
    rintro e w3 ⟨rfl, hb3⟩
    have hX3 := (hasBs_new w2 0).keep hb3 (by simp)
    have hw3 : Below w.heap.size w w3 := (hw2.alloc hs2 _).trans (hb3.mono (by simp; omega))
    have hs3 := hw3.size
    have ht3 := (ht.keep hw3)
    obtain ⟨c0, c1, c2, c3, _, _, _, _, _⟩ := hX3
    clear hb2 hb3
    go_wp2_with fail
    refine (same_nil _ _ _ _ _).mono ?_
    rintro e w4 ⟨rfl, hb4⟩
    have ht4 : Tabs w4 := (ht3.keep ((Below.refl _ w3).alloc (Nat.le_refl _) _)).keep hb4
    have hw4 : Below w.heap.size w w4 := (hw3.alloc hs3 _).trans (hb4.mono (by simp; omega))
    have hs4 := hw4.size
    clear hb4
    go_wp2_with fail
    refine (works_any _ ht4).mono ?_
    rintro e w5 ⟨rfl, hb5⟩
    go_wp2
    go_ret
    exact ⟨rfl, hw4.trans (hb5.mono hs4)⟩
  · go_enter Tryd.func5, Tryd.ntmps5
    go_wp2_with (at_builtin; refine wpList_append_own _ rfl _ _ 31 rfl w.heap.size 3 i0 (.int .i64 0) 1 8 Tryd.underlying31 hi hz0 hz1 hz2 rfl (by decide) (.slice none 0 0) 0 [] rfl (World.ownsRow_nil _ _ _ _) ad 0 cap [] rfl rfl (fun j u h => by simp at h) (fun u h => by simp at h) (by decide) (by decide) (Nat.le_refl _) ?_; intro v' w1 hown' hgrow hnil; obtain rfl := hnil.2 ⟨rfl, rfl⟩)
    have hw1 : Below w.heap.size w w1 := ⟨hgrow.os, hgrow.tape, hgrow.output, hgrow.size, fun k hk => hgrow.block k hk (by simp [Value.ownBlock])⟩
    have hs1 := hw1.size
    clear hown' hgrow hnil hi hz0 hz1 hz2
    refine (of_nil _ _ _).mono ?_
    rintro e w2 ⟨rfl, hb2⟩
    have hw2 : Below w.heap.size w w2 := hw1.trans (hb2.mono hs1)
    have hs2 := hw2.size
    go_wp2_with fail
    refine (rof_nil _ _ _).mono ?_
    rintro e w3 ⟨rfl, hb3⟩
    have hX3 := (hasBs_new w2 0).keep hb3 (by simp)
    have hw3 : Below w.heap.size w w3 := (hw2.alloc hs2 _).trans (hb3.mono (by simp; omega))
    have hs3 := hw3.size
    have ht3 := (ht.keep hw3)
    obtain ⟨c0, c1, c2, c3, _, _, _, _, _⟩ := hX3
    clear hb2 hb3
    go_wp2_with fail
    refine (same_nil _ _ _ _ _).mono ?_
    rintro e w4 ⟨rfl, hb4⟩
    have ht4 : Tabs w4 := (ht3.keep ((Below.refl _ w3).alloc (Nat.le_refl _) _)).keep hb4
    have hw4 : Below w.heap.size w w4 := (hw3.alloc hs3 _).trans (hb4.mono (by simp; omega))
    have hs4 := hw4.size
    clear hb4
    go_wp2_with fail
    refine (works_any _ ht4).mono ?_
    rintro e w5 ⟨rfl, hb5⟩
    go_wp2
    go_ret
    exact ⟨rfl, hw4.trans (hb5.mono hs4)⟩
end Go.Proofs.YtghjjfgeminkgaaDoor
