/- isRouter, isCost, rises, slices.Index, slices.Contains, isNode, nodesMayBe. -/
import Derived.Test.YtkhfpcnmnnboeaaGM
namespace Go.Proofs.Ytkhfpcnmnnboeaa
open Go.RowKit

abbrev ic (z : Int) : List Value := [.int .i64 z]
abbrev ec (e : Ed) : List Value := [.int .i64 e.1, .int .i64 e.2.1, .int .i64 e.2.2]
abbrev ac (x : Int × Int) : List Value := [.int .i64 x.1, .int .i64 x.2]
abbrev edV (e : Ed) : Value := .agg #[.int .i64 e.1, .int .i64 e.2.1, .int .i64 e.2.2]
abbrev adV (x : Int × Int) : Value := .agg #[.int .i64 x.1, .int .i64 x.2]
abbrev grV (vn ve : Value) : Value := .agg #[vn, ve]
theorem SlAt.ints {w : World} {v : Value} {zs : List Int} (h : SlAt ic 1 w v zs) : ∃ a cap, v = .slice a zs.length cap ∧ zs.length ≤ 9223372036854775807 ∧ zs.length ≤ cap ∧ (0 < zs.length → ∃ bk o, a = some ⟨bk, o, none⟩ ∧ bk < w.heap.size ∧ ∀ j z, zs[j]? = some z → w.cell? ⟨bk, o + j, none⟩ = some (.int .i64 z)) := by
  obtain ⟨a, cap, rfl, h0, h1, h2⟩ := h
  refine ⟨a, cap, rfl, h0, h1, fun hp => ?_⟩
  obtain ⟨bk, o, rfl, h3, h4⟩ := h2 hp
  refine ⟨bk, o, rfl, h3, fun j z hz => ?_⟩
  have := h4 j z hz 0 _ rfl
  rwa [Nat.mul_one, Nat.add_zero] at this
theorem SlAt.eds {w : World} {v : Value} {es : List Ed} (h : SlAt ec 3 w v es) : ∃ a cap, v = .slice a es.length cap ∧ es.length ≤ 9223372036854775807 ∧ es.length ≤ cap ∧ (0 < es.length → ∃ bk o, a = some ⟨bk, o, none⟩ ∧ bk < w.heap.size ∧ ∀ j e, es[j]? = some e → w.cell? ⟨bk, o + j * 3, none⟩ = some (.int .i64 e.1) ∧ w.cell? ⟨bk, o + j * 3 + 1, none⟩ = some (.int .i64 e.2.1) ∧ w.cell? ⟨bk, o + j * 3 + 2, none⟩ = some (.int .i64 e.2.2)) := by
  obtain ⟨a, cap, rfl, h0, h1, h2⟩ := h
  refine ⟨a, cap, rfl, h0, h1, fun hp => ?_⟩
  obtain ⟨bk, o, rfl, h3, h4⟩ := h2 hp
  exact ⟨bk, o, rfl, h3, fun j z hz => ⟨h4 j z hz 0 _ rfl, h4 j z hz 1 _ rfl, h4 j z hz 2 _ rfl⟩⟩
theorem SlAt.ads {w : World} {v : Value} {l : List (Int × Int)} (h : SlAt ac 2 w v l) : ∃ a cap, v = .slice a l.length cap ∧ l.length ≤ 9223372036854775807 ∧ l.length ≤ cap ∧ (0 < l.length → ∃ bk o, a = some ⟨bk, o, none⟩ ∧ bk < w.heap.size ∧ ∀ j e, l[j]? = some e → w.cell? ⟨bk, o + j * 2, none⟩ = some (.int .i64 e.1) ∧ w.cell? ⟨bk, o + j * 2 + 1, none⟩ = some (.int .i64 e.2)) := by
  obtain ⟨a, cap, rfl, h0, h1, h2⟩ := h
  refine ⟨a, cap, rfl, h0, h1, fun hp => ?_⟩
  obtain ⟨bk, o, rfl, h3, h4⟩ := h2 hp
  exact ⟨bk, o, rfl, h3, fun j z hz => ⟨h4 j z hz 0 _ rfl, h4 j z hz 1 _ rfl⟩⟩

theorem isR_any (n : Int) (w : World) : Calls Try.prog 53 #[.int .i64 n] w fun e w' => e = .returned (.bool (isR n)) ∧ w' = w := by
  by_cases h1 : 1 ≤ n
  · by_cases h2 : n ≤ 24
    · go_enter Try.func53, Try.ntmps53
      go_wp2
      go_ret
      exact ⟨by simp [isR, h1, h2], rfl⟩
    · go_enter Try.func53, Try.ntmps53
      go_wp2
      go_ret
      exact ⟨by simp [isR, h1]; omega, rfl⟩
  · go_enter Try.func53, Try.ntmps53
    go_wp2
    go_ret
    exact ⟨by simp [isR]; omega, rfl⟩
theorem isC_any (n : Int) (w : World) : Calls Try.prog 68 #[.int .i64 n] w fun e w' => e = .returned (.bool (isC n)) ∧ w' = w := by
  by_cases h1 : 1 ≤ n
  · by_cases h2 : n ≤ 1000
    · go_enter Try.func68, Try.ntmps68
      go_wp2
      go_ret
      exact ⟨by simp [isC, h1, h2], rfl⟩
    · go_enter Try.func68, Try.ntmps68
      go_wp2
      go_ret
      exact ⟨by simp [isC, h1]; omega, rfl⟩
  · go_enter Try.func68, Try.ntmps68
    go_wp2
    go_ret
    exact ⟨by simp [isC]; omega, rfl⟩
theorem hasN_drop {zs : List Int} {k : Nat} {z n : Int} (h : zs[k]? = some z) : hasN (zs.drop k) n = (decide (z = n) || hasN (zs.drop (k + 1)) n) := by
  have h1 : zs.drop k = z :: zs.drop (k + 1) := by
    obtain ⟨h2, h3⟩ := List.getElem?_eq_some_iff.1 h
    rw [List.drop_eq_getElem_cons h2, h3]
  rw [h1, hasN, List.any_cons]
  rfl
theorem drop_next {α : Type} {l : List α} {k : Nat} {x : α} (h : l[k]? = some x) : l.drop k = x :: l.drop (k + 1) := by
  obtain ⟨h2, h3⟩ := List.getElem?_eq_some_iff.1 h
  rw [List.drop_eq_getElem_cons h2, h3]
set_option maxRecDepth 100000 in
theorem index_any {zs : List Int} {v : Value} {w : World} (hv : SlAt ic 1 w v zs) (n : Int) :
    Calls Try.prog 65 #[v, .int .i64 n] w fun e w' => (∃ r : Int, e = .returned (.int .i64 r) ∧ decide (0 ≤ r) = hasN zs n) ∧ w' = w := by
  obtain ⟨a, cap, rfl, hl, _, hat⟩ := hv.ints
  have Ha := hidIn hat
  clear hat hv
  go_enter Try.func65, Try.ntmps65
  go_wp2
  go_loopw [8] (fun i wr => wr = w ∧ ∃ k : Nat, k ≤ zs.length ∧ i = .int .i64 k ∧ Hid (hasN zs n = hasN (zs.drop k) n)) (fun i _ => zs.length - (intOf i).toNat)
  case atStart => exact ⟨rfl, 0, Nat.zero_le _, rfl, hidIn (by rw [List.drop_zero])⟩
  case round =>
    obtain ⟨hwr, k, hk, rfl, HH⟩ := hrel
    rw [hwr]
    clear hwr
    by_cases hlt : k < zs.length
    · obtain ⟨bk, o, rfl, hbk, hcell⟩ := Ha.out (by omega)
      obtain ⟨z, hz⟩ : ∃ z, zs[k]? = some z := ⟨zs[k], List.getElem?_eq_getElem hlt⟩
      have hc := hcell k z hz
      have HN := hidIn (hasN_drop (n := n) hz)
      clear hcell hz
      have hki : (k : Int) < (zs.length : Int) := by omega
      by_cases hzn : n = z
      · subst hzn
        go_wp2
        go_returns
        refine ⟨⟨k, rfl, ?_⟩, rfl⟩
        rw [HH.out, HN.out]
        simp
      · have hne : (n == z) = false := by simpa using hzn
        go_wp2
        go_roundw
        case rel => exact ⟨trivial, k + 1, by omega, by go_num, hidIn (by rw [HH.out, HN.out]; simp; intro h; exact absurd h.symm hzn)⟩
        case measure => simp [intOf]; omega
    · have hki : ¬ ((k : Int) < (zs.length : Int)) := by omega
      have hke : k = zs.length := by omega
      go_wp2
      go_returns
      refine ⟨⟨-1, rfl, ?_⟩, rfl⟩
      rw [HH.out, hke, List.drop_length]
      rfl
theorem contains_any {zs : List Int} {v : Value} {w : World} (hv : SlAt ic 1 w v zs) (n : Int) :
    Calls Try.prog 48 #[v, .int .i64 n] w fun e w' => e = .returned (.bool (hasN zs n)) ∧ w' = w := by
  have HI := hidIn (index_any hv n)
  clear hv
  go_enter Try.func48, Try.ntmps48
  go_wp2_with (go_at_call 65; refine HI.out.mono ?_; rintro e w1 ⟨⟨r, rfl, hr⟩, hw1⟩; rw [hw1]; clear hw1 w1; have HR := hidIn hr; clear hr)
  go_ret
  exact ⟨by rw [HR.out]; rfl, rfl⟩
end Go.Proofs.Ytkhfpcnmnnboeaa
