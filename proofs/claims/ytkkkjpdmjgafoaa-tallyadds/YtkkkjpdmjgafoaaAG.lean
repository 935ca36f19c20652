/- Marks, acts, as arguments. -/
import Derived.Test.YtkkkjpdmjgafoaaA8
import Derived.Test.YtkkkjpdmjgafoaaGH
import Derived.Laws.IdiomArrays
namespace Go.Proofs.Ytkkkjpdmjgafoaa
open Go.ChangeShapes Go.WideShapes Go.ChangeAt Go.RowKit


abbrev wdL (N : Nat) : List Value := [.int .u64 (Bi.wd N 0), .int .u64 (Bi.wd N 1), .int .u64 (Bi.wd N 2), .int .u64 (Bi.wd N 3)]

abbrev Ac := Int × Int × Bool × (Option Addr × Nat × Nat) × Nat × Nat
abbrev acL (m : Ac) : List Value := [.int .i64 m.1, .int .i64 m.2.1, .bool m.2.2.1, .slice m.2.2.2.1.1 m.2.2.2.1.2.1 m.2.2.2.1.2.2, .int .u64 (Bi.wd m.2.2.2.2.1 0), .int .u64 (Bi.wd m.2.2.2.2.1 1), .int .u64 (Bi.wd m.2.2.2.2.1 2), .int .u64 (Bi.wd m.2.2.2.2.1 3), .int .u64 (Bi.wd m.2.2.2.2.2 0), .int .u64 (Bi.wd m.2.2.2.2.2 1), .int .u64 (Bi.wd m.2.2.2.2.2 2), .int .u64 (Bi.wd m.2.2.2.2.2 3)]
section
variable {H : Type} {enc : TypeId × Value → H} {W : World}
theorem cU8a : Try.prog.cellsOf 5 = 1 := by kernel_rfl
theorem cIna : Try.prog.cellsOf 3 = 1 := by kernel_rfl
theorem cBoa : Try.prog.cellsOf 4 = 1 := by kernel_rfl
theorem cU64a : Try.prog.cellsOf 28 = 1 := by kernel_rfl
theorem cBita : Try.prog.cellsOf 30 = 4 := by kernel_rfl
theorem bits_cells {n : Nat} {v0 v1 v2 v3 : Value} {x : DataW H × List MemPlace} (h : DataW.trod enc Try.prog W 0 (fun _ => true) true n 30 [v0, v1, v2, v3] = some x) : ∃ N : Nat, [v0, v1, v2, v3] = wdL N := by
  obtain ⟨y0, y1, y2, y3, m, hx, hy0, hy1, hy2, hy3⟩ := trod_array4 Try.underlying30 cU64a h
  obtain ⟨x0, e0, _, w0⟩ := DataW.trod_int Try.underlying28 hy0
  obtain ⟨x1, e1, _, w1⟩ := DataW.trod_int Try.underlying28 hy1
  obtain ⟨x2, e2, _, w2⟩ := DataW.trod_int Try.underlying28 hy2
  obtain ⟨x3, e3, _, w3⟩ := DataW.trod_int Try.underlying28 hy3
  simp at e0 e1 e2 e3
  subst e0 e1 e2 e3
  have b0 := bounds_u64 w0
  have b1 := bounds_u64 w1
  have b2 := bounds_u64 w2
  have b3 := bounds_u64 w3
  obtain ⟨n0, rfl⟩ := Int.eq_ofNat_of_zero_le b0.1
  obtain ⟨n1, rfl⟩ := Int.eq_ofNat_of_zero_le b1.1
  obtain ⟨n2, rfl⟩ := Int.eq_ofNat_of_zero_le b2.1
  obtain ⟨n3, rfl⟩ := Int.eq_ofNat_of_zero_le b3.1
  have l0 : n0 < 18446744073709551616 := by omega
  have l1 : n1 < 18446744073709551616 := by omega
  have l2 : n2 < 18446744073709551616 := by omega
  have l3 : n3 < 18446744073709551616 := by omega
  refine ⟨Bi.ofw n0 n1 n2 n3, ?_⟩
  simp only [wdL, Bi.wd_ofw0 _ _ _ _ l0, Bi.wd_ofw1 _ _ _ _ l0 l1, Bi.wd_ofw2 _ _ _ _ l0 l1 l2, Bi.wd_ofw3 _ _ _ _ l0 l1 l2 l3]
theorem cMrk : Try.prog.cellsOf 53 = 11 := by kernel_rfl
theorem bMrk : Try.prog.bytesOf 53 = 72 := by kernel_rfl
theorem MrkF : Try.prog.underlying 53 = some (.struct #[(Try.prog.fieldsOf 53)[0]!, (Try.prog.fieldsOf 53)[1]!, (Try.prog.fieldsOf 53)[2]!, (Try.prog.fieldsOf 53)[3]!, (Try.prog.fieldsOf 53)[4]!]) := by kernel_rfl
theorem MrkF0 : ((Try.prog.fieldsOf 53)[0]!).type = 5 ∧ ((Try.prog.fieldsOf 53)[0]!).offset = 0 := ⟨by kernel_rfl, by kernel_rfl⟩
theorem MrkF1 : ((Try.prog.fieldsOf 53)[1]!).type = 5 ∧ ((Try.prog.fieldsOf 53)[1]!).offset = 1 := ⟨by kernel_rfl, by kernel_rfl⟩
theorem MrkF2 : ((Try.prog.fieldsOf 53)[2]!).type = 4 ∧ ((Try.prog.fieldsOf 53)[2]!).offset = 2 := ⟨by kernel_rfl, by kernel_rfl⟩
theorem MrkF3 : ((Try.prog.fieldsOf 53)[3]!).type = 30 ∧ ((Try.prog.fieldsOf 53)[3]!).offset = 3 := ⟨by kernel_rfl, by kernel_rfl⟩
theorem MrkF4 : ((Try.prog.fieldsOf 53)[4]!).type = 30 ∧ ((Try.prog.fieldsOf 53)[4]!).offset = 7 := ⟨by kernel_rfl, by kernel_rfl⟩
set_option maxRecDepth 100000 in
theorem mrk_cells {n : Nat} {cs' : List Value} {x : DataW H × List MemPlace} (h : DataW.trod enc Try.prog W 0 (fun _ => true) true n 53 cs' = some x) : ∃ y : Mk, cs' = mkL y ∧ y.1 < 256 ∧ y.2.1 < 256 := by
  obtain ⟨xs, k, _, _, hlen, hxl, hf⟩ := DataW.trod_struct MrkF h
  rw [cMrk] at hlen
  match cs', hlen with
  | [v0, v1, v2, v3, v4, v5, v6, v7, v8, v9, v10], _ =>
    match xs, hxl with
    | [z0, z1, z2, z3, z4], _ =>
      have g0 := hf 0 ((Try.prog.fieldsOf 53)[0]!) rfl
      rw [MrkF0.1, MrkF0.2] at g0
      simp [cU8a] at g0
      have g1 := hf 1 ((Try.prog.fieldsOf 53)[1]!) rfl
      rw [MrkF1.1, MrkF1.2] at g1
      simp [cU8a] at g1
      have g2 := hf 2 ((Try.prog.fieldsOf 53)[2]!) rfl
      rw [MrkF2.1, MrkF2.2] at g2
      simp [cBoa] at g2
      have g3 := hf 3 ((Try.prog.fieldsOf 53)[3]!) rfl
      rw [MrkF3.1, MrkF3.2] at g3
      simp [cBita] at g3
      have g4 := hf 4 ((Try.prog.fieldsOf 53)[4]!) rfl
      rw [MrkF4.1, MrkF4.2] at g4
      simp [cBita] at g4
      obtain ⟨p, hp, _, wp⟩ := DataW.trod_int Try.underlying5 g0
      obtain ⟨q, hq, _, wq⟩ := DataW.trod_int Try.underlying5 g1
      obtain ⟨b, hb, _⟩ := DataW.trod_bool Try.underlying4 g2
      obtain ⟨N, hN⟩ := bits_cells g3
      obtain ⟨M, hM⟩ := bits_cells g4
      have bp := bounds_u8 wp
      have bq := bounds_u8 wq
      obtain ⟨p, rfl⟩ := Int.eq_ofNat_of_zero_le bp.1
      obtain ⟨q, rfl⟩ := Int.eq_ofNat_of_zero_le bq.1
      simp at hp hq hb hN hM
      obtain ⟨n0, n1, n2, n3⟩ := hN
      obtain ⟨m0, m1, m2, m3⟩ := hM
      exact ⟨(p, q, b, N, M), by simp only [hp, hq, hb, n0, n1, n2, n3, m0, m1, m2, m3], by simp only; omega, by simp only; omega⟩
set_option maxRecDepth 100000 in
theorem mrks_arg {a : Option Addr} {len cap : Nat} {d : DataW H} {p : List MemPlace} (h : DataW.Trod enc Try.prog W 0 (fun _ => true) true 51 (.slice a len cap) d p) (hw : ∀ n ∈ d.weights Try.prog 51, n ≤ reachBytes) :
    ∃ ls, SlAt mkL 11 W (.slice a len cap) ls ∧ (∀ y ∈ ls, y.1 < 256 ∧ y.2.1 < 256) ∧ NilOk (.slice a len cap) ∧ (ls.length + 1) * 72 ≤ 140737488355328 := by
  obtain ⟨fuel, hf⟩ := h
  obtain ⟨ns, hn1, hn2, hG, hn3⟩ := open_sl (0, 0, false, 0, 0) (cs := mkL) (sz := 11) (fun _ => rfl) (by omega) Try.underlying51 cMrk (fun n cs' x h => mrk_cells h) (by simpa [Value.cells] using hf)
  exact ⟨ns, hn1, hG, hn2, slice_weight Try.underlying51 bMrk (by omega) hw (by rcases hn3 with rfl | h; exact .inl rfl; exact .inr h)⟩
theorem cCpa : Try.prog.cellsOf 27 = 1 := by kernel_rfl
theorem cDna : Try.prog.cellsOf 32 = 10 := by kernel_rfl
theorem cDne : Try.prog.cellsOf 32 = 10 := by kernel_rfl
theorem bDne : Try.prog.bytesOf 32 = 96 := by kernel_rfl
theorem DneF : Try.prog.underlying 32 = some (.struct #[(Try.prog.fieldsOf 32)[0]!, (Try.prog.fieldsOf 32)[1]!, (Try.prog.fieldsOf 32)[2]!, (Try.prog.fieldsOf 32)[3]!]) := by kernel_rfl
theorem DneF0 : ((Try.prog.fieldsOf 32)[0]!).type = 4 ∧ ((Try.prog.fieldsOf 32)[0]!).offset = 0 := ⟨by kernel_rfl, by kernel_rfl⟩
theorem DneF1 : ((Try.prog.fieldsOf 32)[1]!).type = 27 ∧ ((Try.prog.fieldsOf 32)[1]!).offset = 1 := ⟨by kernel_rfl, by kernel_rfl⟩
theorem DneF2 : ((Try.prog.fieldsOf 32)[2]!).type = 30 ∧ ((Try.prog.fieldsOf 32)[2]!).offset = 2 := ⟨by kernel_rfl, by kernel_rfl⟩
theorem DneF3 : ((Try.prog.fieldsOf 32)[3]!).type = 30 ∧ ((Try.prog.fieldsOf 32)[3]!).offset = 6 := ⟨by kernel_rfl, by kernel_rfl⟩
set_option maxRecDepth 100000 in
theorem dne_cells {n : Nat} {cs' : List Value} {x : DataW H × List MemPlace} (h : DataW.trod enc Try.prog W 0 (fun _ => true) true n 32 cs' = some x) : ∃ (L : Bool) (a : Option Addr) (n c N M : Nat), cs' = [.bool L, .slice a n c, .int .u64 (Bi.wd N 0), .int .u64 (Bi.wd N 1), .int .u64 (Bi.wd N 2), .int .u64 (Bi.wd N 3), .int .u64 (Bi.wd M 0), .int .u64 (Bi.wd M 1), .int .u64 (Bi.wd M 2), .int .u64 (Bi.wd M 3)] ∧ n < 9223372036854775808 := by
  obtain ⟨xs, k, _, _, hlen, hxl, hf⟩ := DataW.trod_struct DneF h
  rw [cDne] at hlen
  match cs', hlen with
  | [v0, v1, v2, v3, v4, v5, v6, v7, v8, v9], _ =>
    match xs, hxl with
    | [z0, z1, z2, z3], _ =>
      have g0 := hf 0 ((Try.prog.fieldsOf 32)[0]!) rfl
      rw [DneF0.1, DneF0.2] at g0
      simp [cBoa] at g0
      have g1 := hf 1 ((Try.prog.fieldsOf 32)[1]!) rfl
      rw [DneF1.1, DneF1.2] at g1
      simp [cCpa] at g1
      have g2 := hf 2 ((Try.prog.fieldsOf 32)[2]!) rfl
      rw [DneF2.1, DneF2.2] at g2
      simp [cBita] at g2
      have g3 := hf 3 ((Try.prog.fieldsOf 32)[3]!) rfl
      rw [DneF3.1, DneF3.2] at g3
      simp [cBita] at g3
      obtain ⟨b, hb, _⟩ := DataW.trod_bool Try.underlying4 g0
      obtain ⟨N, hN⟩ := bits_cells g2
      obtain ⟨M, hM⟩ := bits_cells g3
      simp at hb hN hM
      obtain ⟨n0, n1, n2, n3⟩ := hN
      obtain ⟨m0, m1, m2, m3⟩ := hM
      rcases Deep.open_slice Try.underlying27 g1 with ⟨h0, _⟩ | ⟨ad, len, cap, m, nn, DD, Pl, h0, _, hl, hm, _⟩
      · simp at h0
        exact ⟨b, none, 0, 0, N, M, by simp only [hb, h0, n0, n1, n2, n3, m0, m1, m2, m3], by omega⟩
      · simp at h0
        exact ⟨b, some ad, len, cap, N, M, by simp only [hb, h0, n0, n1, n2, n3, m0, m1, m2, m3], by unfold maxLen at hm; omega⟩
theorem cAct : Try.prog.cellsOf 34 = 12 := by kernel_rfl
theorem bAct : Try.prog.bytesOf 34 = 112 := by kernel_rfl
theorem ActF : Try.prog.underlying 34 = some (.struct #[(Try.prog.fieldsOf 34)[0]!, (Try.prog.fieldsOf 34)[1]!, (Try.prog.fieldsOf 34)[2]!]) := by kernel_rfl
theorem ActF0 : ((Try.prog.fieldsOf 34)[0]!).type = 3 ∧ ((Try.prog.fieldsOf 34)[0]!).offset = 0 := ⟨by kernel_rfl, by kernel_rfl⟩
theorem ActF1 : ((Try.prog.fieldsOf 34)[1]!).type = 3 ∧ ((Try.prog.fieldsOf 34)[1]!).offset = 1 := ⟨by kernel_rfl, by kernel_rfl⟩
theorem ActF2 : ((Try.prog.fieldsOf 34)[2]!).type = 32 ∧ ((Try.prog.fieldsOf 34)[2]!).offset = 2 := ⟨by kernel_rfl, by kernel_rfl⟩
set_option maxRecDepth 100000 in
theorem act_cells {n : Nat} {cs' : List Value} {x : DataW H × List MemPlace} (h : DataW.trod enc Try.prog W 0 (fun _ => true) true n 34 cs' = some x) : ∃ y : Ac, cs' = acL y ∧ ((-9223372036854775808 ≤ y.1 ∧ y.1 ≤ 9223372036854775807) ∧ (-9223372036854775808 ≤ y.2.1 ∧ y.2.1 ≤ 9223372036854775807)) ∧ y.2.2.2.1.2.1 < 9223372036854775808 := by
  obtain ⟨xs, k, _, _, hlen, hxl, hf⟩ := DataW.trod_struct ActF h
  rw [cAct] at hlen
  match cs', hlen with
  | [v0, v1, v2, v3, v4, v5, v6, v7, v8, v9, v10, v11], _ =>
    match xs, hxl with
    | [z0, z1, z2], _ =>
      have g0 := hf 0 ((Try.prog.fieldsOf 34)[0]!) rfl
      rw [ActF0.1, ActF0.2] at g0
      simp [cIna] at g0
      have g1 := hf 1 ((Try.prog.fieldsOf 34)[1]!) rfl
      rw [ActF1.1, ActF1.2] at g1
      simp [cIna] at g1
      have g2 := hf 2 ((Try.prog.fieldsOf 34)[2]!) rfl
      rw [ActF2.1, ActF2.2] at g2
      simp [cDna] at g2
      obtain ⟨p, hp, _, wp⟩ := DataW.trod_int Try.underlying3 g0
      obtain ⟨q, hq, _, wq⟩ := DataW.trod_int Try.underlying3 g1
      obtain ⟨b, a, m, c, N, M, hd, hm⟩ := dne_cells g2
      simp at hp hq hd
      obtain ⟨d0, d1, d2, d3, d4, d5, d6, d7, d8, d9⟩ := hd
      exact ⟨(p, q, b, (a, m, c), N, M), by simp only [hp, hq, d0, d1, d2, d3, d4, d5, d6, d7, d8, d9], ⟨bounds_i64 wp, bounds_i64 wq⟩, hm⟩
set_option maxRecDepth 100000 in
theorem acts_arg {a : Option Addr} {len cap : Nat} {d : DataW H} {p : List MemPlace} (h : DataW.Trod enc Try.prog W 0 (fun _ => true) true 22 (.slice a len cap) d p) (hw : ∀ n ∈ d.weights Try.prog 22, n ≤ reachBytes) :
    ∃ ls, SlAt acL 12 W (.slice a len cap) ls ∧ (∀ y ∈ ls, ((-9223372036854775808 ≤ y.1 ∧ y.1 ≤ 9223372036854775807) ∧ (-9223372036854775808 ≤ y.2.1 ∧ y.2.1 ≤ 9223372036854775807)) ∧ y.2.2.2.1.2.1 < 9223372036854775808) ∧ NilOk (.slice a len cap) ∧ (ls.length + 1) * 112 ≤ 140737488355328 := by
  obtain ⟨fuel, hf⟩ := h
  obtain ⟨ns, hn1, hn2, hG, hn3⟩ := open_sl (0, 0, false, (none, 0, 0), 0, 0) (cs := acL) (sz := 12) (fun _ => rfl) (by omega) Try.underlying22 cAct (fun n cs' x h => act_cells h) (by simpa [Value.cells] using hf)
  exact ⟨ns, hn1, hG, hn2, slice_weight Try.underlying22 bAct (by omega) hw (by rcases hn3 with rfl | h; exact .inl rfl; exact .inr h)⟩
end
end Go.Proofs.Ytkkkjpdmjgafoaa
