/- FateOnce: two plans beside each other, and the law's counts. -/
import Derived.Test.YtkkgbcoclfpicaaFO1
namespace Go.Proofs.Ytkkgbcoclfpicaa.Fa
open Go.RowKit

abbrev u2C (p : Nat × Nat) : List Value := [.int .u8 p.1, .int .u8 p.2]
theorem SlAt_u2 {w : World} {v : Value} {l : List (Nat × Nat)} (h : SlAt u2C 2 w v l) : ∃ a cap, v = .slice a l.length cap ∧ (0 < l.length → ∃ bk o, a = some ⟨bk, o, none⟩ ∧ bk < w.heap.size ∧ ∀ j e, l[j]? = some e → w.cell? ⟨bk, o + j * 2, none⟩ = some (.int .u8 e.1) ∧ w.cell? ⟨bk, o + j * 2 + 1, none⟩ = some (.int .u8 e.2)) := by
  obtain ⟨a, cap, rfl, h0, h1, h2⟩ := h
  refine ⟨a, cap, rfl, fun hp => ?_⟩
  obtain ⟨bk, o, rfl, h3, h4⟩ := h2 hp
  exact ⟨bk, o, rfl, h3, fun j z hz => ⟨h4 j z hz 0 _ rfl, h4 j z hz 1 _ rfl⟩⟩
/-- The law's counts: a place for each pair. -/
def c5 (c : Nat → Nat → Int) : List Value := rcl (fun j => c (j / 5) (j % 5))
theorem c5_get (c : Nat → Nat → Int) {a b : Nat} (ha : a ≤ 4) (hb : b ≤ 4) : (c5 c)[5 * a + b]? = some (.int .i64 (c a b)) := by
  rw [c5, rcl_get _ (by omega), show (5 * a + b) / 5 = a from by omega, show (5 * a + b) % 5 = b from by omega]
theorem c5_set (c : Nat → Nat → Int) {a b : Nat} (ha : a ≤ 4) (hb : b ≤ 4) (v : Int) : (c5 c).set (5 * a + b) (.int .i64 v) = c5 (put2 c a b v) := by
  apply List.ext_getElem?
  intro j
  unfold c5
  rw [List.getElem?_set]
  by_cases hj : j < 25
  · rw [rcl_get _ hj, rcl_get _ hj]
    by_cases hn : 5 * a + b = j
    · subst hn
      rw [if_pos rfl, if_pos (by rw [rcl_len]; exact hj), show (5 * a + b) / 5 = a from by omega, show (5 * a + b) % 5 = b from by omega]
      simp [put2]
    · rw [if_neg hn]
      have : put2 c a b v (j / 5) (j % 5) = c (j / 5) (j % 5) := by unfold put2; rw [if_neg (by omega)]
      rw [this]
  · rw [List.getElem?_eq_none (by rw [rcl_len]; omega), List.getElem?_eq_none (by rw [rcl_len]; omega), if_neg (by omega)]
theorem make_25 (w : World) : (Instr.makeSlice 52 (.int .i64 25) (.int .i64 25)).run Try.prog w = .ok (.slice (some ⟨w.heap.size, 0, none⟩) 25 25) (w.alloc (.cells (c5 no2).toArray 3)) := by kernel_rfl
/-- Where the two plans and the counts lie. -/
structure Ds (s P m Q n b : Nat) : Prop where
  kp : P < s
  km : m < s
  kq : s ≤ Q
  kn : s ≤ n
  kqb : Q < b
  knb : n < b
/-- Two plans and the counts. -/
structure Wd (W w : World) (P m Q n b : Nat) (l : List Ru) (c d e : Nat → Nat → Int) : Prop where
  wp : PlAt w P m (restR l c) c
  wq : PlAt w Q n (restR l.reverse d) d
  wb : Arr w b 3 (c5 e)
  wf : Fr (fun j => j = P ∨ j = m ∨ j = Q ∨ j = n ∨ j = b) W w
theorem Wd.below {W w w' : World} {P m Q n b : Nat} {l : List Ru} {c d e : Nat → Nat → Int} (h : Wd W w P m Q n b l c d e) (hb : Below w.heap.size w w') : Wd W w' P m Q n b l c d e :=
  ⟨h.wp.below hb h.wp.b.lt h.wp.m.lt, h.wq.below hb h.wq.b.lt h.wq.m.lt, h.wb.keep hb h.wb.lt, h.wf.trans (Fr.of_below hb)⟩
theorem Wd.askP {W w w' : World} {s P m Q n b : Nat} {l : List Ru} {c c' d e : Nat → Nat → Int} (h : Wd W w P m Q n b l c d e) (D : Ds s P m Q n b) (hp : PlAt w' P m (restR l c') c') (hF : Fr (fun j => j = P ∨ j = m) w w') : Wd W w' P m Q n b l c' d e := by
  obtain ⟨d1, d2, d3, d4, d5, d6⟩ := D
  exact ⟨hp, h.wq.keep hF (by omega) (by omega), (hF.block b h.wb.lt (by omega)).trans h.wb, h.wf.trans (hF.mono (fun j _ hj => by omega))⟩
theorem Wd.askQ {W w w' : World} {s P m Q n b : Nat} {l : List Ru} {c d d' e : Nat → Nat → Int} (h : Wd W w P m Q n b l c d e) (D : Ds s P m Q n b) (hp : PlAt w' Q n (restR l.reverse d') d') (hF : Fr (fun j => j = Q ∨ j = n) w w') : Wd W w' P m Q n b l c d' e := by
  obtain ⟨d1, d2, d3, d4, d5, d6⟩ := D
  exact ⟨h.wp.keep hF (by omega) (by omega), hp, (hF.block b h.wb.lt (by omega)).trans h.wb, h.wf.trans (hF.mono (fun j _ hj => by omega))⟩
theorem Wd.put {W w : World} {s P m Q n b : Nat} {l : List Ru} {c d e : Nat → Nat → Int} (h : Wd W w P m Q n b l c d e) (D : Ds s P m Q n b) {x y : Nat} (hx : x ≤ 4) (hy : y ≤ 4) (v : Int) : Wd W (w.setCell ⟨b, 5 * x + y, none⟩ (.int .i64 v)) P m Q n b l c d (put2 e x y v) := by
  obtain ⟨d1, d2, d3, d4, d5, d6⟩ := D
  have hF : Fr (fun j => j = b) w (w.setCell ⟨b, 5 * x + y, none⟩ (.int .i64 v)) := Fr.set (S := fun j => j = b) (Fr.refl _ w) (p := ⟨b, 5 * x + y, none⟩) rfl _
  refine ⟨h.wp.keep hF (by omega) (by omega), h.wq.keep hF (by omega) (by omega), ?_, h.wf.trans (hF.mono (fun j _ hj => by omega))⟩
  have := h.wb.set (5 * x + y) (.int .i64 v)
  rw [c5_set _ hx hy] at this
  exact this
theorem Wd.other {W w w' : World} {P m Q n b x : Nat} {l : List Ru} {c d e : Nat → Nat → Int} (h : Wd W w P m Q n b l c d e) (hF : Fr (fun j => j = x) w w') (hx : P < x ∧ m < x ∧ Q < x ∧ n < x ∧ b < x) (hW : W.heap.size ≤ x) : Wd W w' P m Q n b l c d e := by
  refine ⟨h.wp.keep hF (by omega) (by omega), h.wq.keep hF (by omega) (by omega), (hF.block b h.wb.lt (by omega)).trans h.wb, ?_⟩
  have hf := h.wf
  exact ⟨hF.os.trans hf.os, hF.tape.trans hf.tape, hF.output.trans hf.output, Nat.le_trans hf.size hF.size, fun k hk hs => (hF.block k (Nat.lt_of_lt_of_le hk hf.size) (by omega)).trans (hf.block k hk hs)⟩
theorem find_take {l : List Ru} {k : Nat} {r : Ru} (hr : l[k]? = some r) (x : Ky) : findR (l.take (k + 1)) x = (findR (l.take k) x).or (if kR r = x then some r else none) := by rw [take_snoc hr, findR_snoc]
theorem find_before {l : List Ru} (h : RsOk l) {k : Nat} {r : Ru} (hr : l[k]? = some r) : findR (l.take k) (kR r) = none := by
  have hk := (List.getElem?_eq_some_iff.1 hr).1
  refine findR_none.2 fun s hs e => ?_
  have hu := h.uniq
  have hd : l.drop k = r :: l.drop (k + 1) := by
    rw [List.drop_eq_getElem_cons hk]
    congr 1
    exact (List.getElem?_eq_some_iff.1 hr).2
  rw [← List.take_append_drop k l, hd, List.map_append, List.nodup_append] at hu
  exact hu.2.2 _ (List.mem_map.2 ⟨s, hs, rfl⟩) (kR r) (by rw [List.map_cons]; exact List.mem_cons_self) e
theorem ru_kind {r : Ru} (h : ruOk r = true) : r.2.2.2.1 = 1 ∨ r.2.2.2.1 = 2 ∨ r.2.2.2.1 = 3 := by
  unfold ruOk at h
  simp only [Bool.and_eq_true] at h
  have hb := h.2.2.2
  unfold byOk at hb
  by_cases h1 : r.2.2.2.1 = 1
  · exact .inl h1
  · rw [if_neg h1] at hb
    by_cases h2 : r.2.2.2.1 = 2 ∨ r.2.2.2.1 = 3
    · exact .inr h2
    · rw [if_neg h2] at hb; cases hb
end Go.Proofs.Ytkkgbcoclfpicaa.Fa
