/- Ids, as lists; a list of numbers behind another. -/
import Derived.Test.YtgpinecfmhenkaaDoorU8
namespace Go.Proofs.YtgpinecfmhenkaaDoor
open Go.RowKit Go.Maps

/-- The ids of the claims that have just this one router. -/
def frI (T : List (Int × List Int)) (n : Int) : List Int := (T.filter fun p => decide (p.2 = [n])).map (·.1)
theorem frI_snoc (T : List (Int × List Int)) (p : Int × List Int) (n : Int) : frI (T ++ [p]) n = frI T n ++ (if p.2 = [n] then [p.1] else []) := by
  unfold frI
  rw [List.filter_append, List.map_append]
  congr 1
  by_cases h : p.2 = [n]
  · rw [if_pos h]; simp [h]
  · rw [if_neg h]; simp [h]
theorem frI_one (T : List (Int × List Int)) (i y : Int) : frI (T ++ [(i, [y])]) = setF (frI T) y (frI T y ++ [i]) := by
  funext k
  rw [frI_snoc]
  by_cases hk : k = y
  · subst hk; rw [setF_same, if_pos rfl]
  · rw [setF_other _ _ hk, if_neg (fun e => hk (by simpa using e.symm)), List.append_nil]
theorem frI_no (T : List (Int × List Int)) {p : Int × List Int} (h : p.2.length ≠ 1) : frI (T ++ [p]) = frI T := by
  funext k
  rw [frI_snoc, if_neg (fun e => h (by rw [e]; rfl)), List.append_nil]
theorem frI_len (T : List (Int × List Int)) (n : Int) : (frI T n).length ≤ T.length := by
  unfold frI
  rw [List.length_map]
  exact List.length_filter_le _ _
theorem mem_frI {T : List (Int × List Int)} {n i : Int} : i ∈ frI T n ↔ (i, [n]) ∈ T := by
  unfold frI
  simp only [List.mem_map, List.mem_filter, decide_eq_true_eq]
  constructor
  · rintro ⟨p, ⟨h1, h2⟩, h3⟩
    obtain ⟨a, b⟩ := p
    simp only at h2 h3
    rw [← h2, ← h3]
    exact h1
  · intro h
    exact ⟨(i, [n]), ⟨h, rfl⟩, rfl⟩
def idsT (T : List (Int × List Int)) (R : List Int) : List Int := rsL (R.flatMap (frI T))
def wioT (T : List (Int × List Int)) (R : List Int) : List Int := R.filter fun n => (frI T n).isEmpty
theorem crun_append_none (b : Addr) (n cap : Nat) (hn : n ≤ cap) (W : World) : (Builtin.append_ #[29, 29] 29 #[.slice (some b) n cap, .slice none 0 0]).run Tryd.prog W = .ok (.slice (some b) n cap) W := by
  obtain ⟨i0, hi, hz0, hz1, hz2⟩ := info_parts infoInt
  simp [Builtin.append_, run_underlying Tryd.underlying29, sizeOf, typeInfo, hi, Builtin.lenOf, Builtin.firstCells, hn, storeCells, Result.andThen]
theorem append_L {W : World} {base n : Nat} {u v : Value} {l m : List Int} (hr : W.ownsRow base 3 1 u n (fl ic l)) (hv : SlAt ic 1 W v m) (hz : m = [] → v = nilS) (hk : (n + m.length) * 8 ≤ 140737488355328) (hbase : base ≤ W.heap.size) :
    ∃ a cap w6, (Builtin.append_ #[29, 29] 29 #[u, v]).run Tryd.prog W = .ok (.slice a (n + m.length) cap) w6 ∧ w6.ownsRow base 3 1 (.slice a (n + m.length) cap) (n + m.length) (fl ic (l ++ m)) ∧ Below base W w6 ∧ Fr (fun j => u.ownBlock = some j) W w6 ∧ ∀ j, (Value.slice a (n + m.length) cap).ownBlock = some j → u.ownBlock = some j ∨ W.heap.size ≤ j := by
  by_cases hm : m = []
  · subst hm
    rw [hz rfl]
    rw [List.append_nil, List.length_nil, Nat.add_zero]
    rcases hr.2 with ⟨h1, h2⟩ | ⟨g, cap, cur, hu, hg, hh, h1, h2, h3, h4⟩
    · subst h1
      subst h2
      obtain ⟨i0, hi, hz0, hz1, hz2⟩ := info_parts infoInt
      refine ⟨none, 0, W, ?_, hr, Below.refl _ _, Fr.refl _ _, fun j hj => .inl hj⟩
      simp [Builtin.append_, go_sem, run_underlying Tryd.underlying29 W, run_sizeOf W hi]
    · subst hu
      exact ⟨_, cap, W, crun_append_none _ _ _ h1 W, hr, Below.refl _ _, Fr.refl _ _, fun j hj => .inl hj⟩
  · obtain ⟨i0, hi, hz0, hz1, hz2⟩ := info_parts infoInt
    have hml : 0 < m.length := List.length_pos_iff.2 hm
    obtain ⟨va, vc, rfl, _, _, hc⟩ := hv.ints
    obtain ⟨bk, o, rfl, _, hcell⟩ := hc hml
    obtain ⟨g, cap, w6, hrun, hown, hgr, hlie, _⟩ := run_append_lies (P := Tryd.prog) W 29 29 base 3 i0 _ 1 8 Tryd.underlying29 hi hz0 hz1 hz2 rfl (by decide) u n (fl ic l) hr ⟨bk, o, none⟩ m.length vc (fl ic m) (by rw [fl_length (sz := 1) (cs := ic) (fun _ => rfl)]) (fun j x hj => by
      rw [cints_map, List.getElem?_map] at hj
      obtain ⟨z, hz, rfl⟩ := Option.map_eq_some_iff.1 hj
      rw [Addr.add_mid]
      exact hcell j z hz) (fun x hx => by
      rw [cints_map] at hx
      obtain ⟨z, _, rfl⟩ := List.mem_map.1 hx
      rfl) hml (by unfold maxLen; omega) hk hbase W.heap.size rfl
    refine ⟨_, cap, w6, hrun, by rw [fl_append]; exact hown, ?_, ⟨hgr.os, hgr.tape, hgr.output, hgr.size, fun j hj hn => hgr.block j hj (fun e => hn e.symm)⟩, fun j hj => ?_⟩
    · exact (Below.refl _ W).grown hgr hbase (fun j e => (hr.lt j e).1)
    · simp [Value.ownBlock] at hj
      subst hj
      rcases hlie with h | h
      · exact .inl h
      · exact .inr (by omega)
end Go.Proofs.YtgpinecfmhenkaaDoor
