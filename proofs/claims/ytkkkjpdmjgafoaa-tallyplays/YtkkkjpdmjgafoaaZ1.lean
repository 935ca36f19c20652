/- Marks, acts, as arguments. TallyPlays: the walk. -/
import Derived.Test.YtkkkjpdmjgafoaaA8
import Derived.Test.YtkkkjpdmjgafoaaGH
import Derived.Laws.IdiomArrays
import Derived.Test.YtkkkjpdmjgafoaaAIa
import Derived.Test.YtkkkjpdmjgafoaaAIb
import Derived.Test.YtkkkjpdmjgafoaaAIc
import Derived.Deep.CutBlock
namespace Go.Proofs.Ytkkkjpdmjgafoaa
open Go.ChangeShapes Go.WideShapes Go.ChangeAt Go.RowKit


abbrev wdL (N : Nat) : List Value := [.int .u64 (Bi.wd N 0), .int .u64 (Bi.wd N 1), .int .u64 (Bi.wd N 2), .int .u64 (Bi.wd N 3)]

abbrev Ac := Int × Int × Bool × (Option Addr × Nat × Nat) × Nat × Nat
abbrev acL (m : Ac) : List Value := [.int .i64 m.1, .int .i64 m.2.1, .bool m.2.2.1, .slice m.2.2.2.1.1 m.2.2.2.1.2.1 m.2.2.2.1.2.2, .int .u64 (Bi.wd m.2.2.2.2.1 0), .int .u64 (Bi.wd m.2.2.2.2.1 1), .int .u64 (Bi.wd m.2.2.2.2.1 2), .int .u64 (Bi.wd m.2.2.2.2.1 3), .int .u64 (Bi.wd m.2.2.2.2.2 0), .int .u64 (Bi.wd m.2.2.2.2.2 1), .int .u64 (Bi.wd m.2.2.2.2.2 2), .int .u64 (Bi.wd m.2.2.2.2.2 3)]
section
variable {H : Type} {enc : TypeId × Value → H} {W : World}
theorem cU8a : Try.prog.cellsOf 5 = 1 := by kernel_rfl
theorem cIna : Try.prog.cellsOf 3 = 1 := by kernel_rfl
theorem cBoa : Try.prog.cellsOf 4 = 1 := by kernel_rfl
theorem cU64a : Try.prog.cellsOf 28 = 1 := by kernel_rfl
theorem cBita : Try.prog.cellsOf 30 = 4 := by kernel_rfl
theorem bits_cells {n : Nat} {v0 v1 v2 v3 : Value} {x : DataW H × List MemPlace} (h : DataW.trod enc Try.prog W 0 (fun _ => true) true n 30 [v0, v1, v2, v3] = some x) : ∃ N : Nat, [v0, v1, v2, v3] = wdL N := by
  obtain ⟨y0, y1, y2, y3, m, hx, hy0, hy1, hy2, hy3⟩ := trod_array4 Try.underlying30 cU64a h
  obtain ⟨x0, e0, _, w0⟩ := DataW.trod_int Try.underlying28 hy0
  obtain ⟨x1, e1, _, w1⟩ := DataW.trod_int Try.underlying28 hy1
  obtain ⟨x2, e2, _, w2⟩ := DataW.trod_int Try.underlying28 hy2
  obtain ⟨x3, e3, _, w3⟩ := DataW.trod_int Try.underlying28 hy3
  simp at e0 e1 e2 e3
  subst e0 e1 e2 e3
  have b0 := bounds_u64 w0
  have b1 := bounds_u64 w1
  have b2 := bounds_u64 w2
  have b3 := bounds_u64 w3
  obtain ⟨n0, rfl⟩ := Int.eq_ofNat_of_zero_le b0.1
  obtain ⟨n1, rfl⟩ := Int.eq_ofNat_of_zero_le b1.1
  obtain ⟨n2, rfl⟩ := Int.eq_ofNat_of_zero_le b2.1
  obtain ⟨n3, rfl⟩ := Int.eq_ofNat_of_zero_le b3.1
  have l0 : n0 < 18446744073709551616 := by omega
  have l1 : n1 < 18446744073709551616 := by omega
  have l2 : n2 < 18446744073709551616 := by omega
  have l3 : n3 < 18446744073709551616 := by omega
  refine ⟨Bi.ofw n0 n1 n2 n3, ?_⟩
  simp only [wdL, Bi.wd_ofw0 _ _ _ _ l0, Bi.wd_ofw1 _ _ _ _ l0 l1, Bi.wd_ofw2 _ _ _ _ l0 l1 l2, Bi.wd_ofw3 _ _ _ _ l0 l1 l2 l3]
theorem cMrk : Try.prog.cellsOf 53 = 11 := by kernel_rfl
theorem bMrk : Try.prog.bytesOf 53 = 72 := by kernel_rfl
theorem MrkF : Try.prog.underlying 53 = some (.struct #[(Try.prog.fieldsOf 53)[0]!, (Try.prog.fieldsOf 53)[1]!, (Try.prog.fieldsOf 53)[2]!, (Try.prog.fieldsOf 53)[3]!, (Try.prog.fieldsOf 53)[4]!]) := by kernel_rfl
theorem MrkF0 : ((Try.prog.fieldsOf 53)[0]!).type = 5 ∧ ((Try.prog.fieldsOf 53)[0]!).offset = 0 := ⟨by kernel_rfl, by kernel_rfl⟩
theorem MrkF1 : ((Try.prog.fieldsOf 53)[1]!).type = 5 ∧ ((Try.prog.fieldsOf 53)[1]!).offset = 1 := ⟨by kernel_rfl, by kernel_rfl⟩
theorem MrkF2 : ((Try.prog.fieldsOf 53)[2]!).type = 4 ∧ ((Try.prog.fieldsOf 53)[2]!).offset = 2 := ⟨by kernel_rfl, by kernel_rfl⟩
theorem MrkF3 : ((Try.prog.fieldsOf 53)[3]!).type = 30 ∧ ((Try.prog.fieldsOf 53)[3]!).offset = 3 := ⟨by kernel_rfl, by kernel_rfl⟩
theorem MrkF4 : ((Try.prog.fieldsOf 53)[4]!).type = 30 ∧ ((Try.prog.fieldsOf 53)[4]!).offset = 7 := ⟨by kernel_rfl, by kernel_rfl⟩
set_option maxRecDepth 100000 in
theorem mrk_cells {n : Nat} {cs' : List Value} {x : DataW H × List MemPlace} (h : DataW.trod enc Try.prog W 0 (fun _ => true) true n 53 cs' = some x) : ∃ y : Mk, cs' = mkL y ∧ y.1 < 256 ∧ y.2.1 < 256 := by
  obtain ⟨xs, k, _, _, hlen, hxl, hf⟩ := DataW.trod_struct MrkF h
  rw [cMrk] at hlen
  match cs', hlen with
  | [v0, v1, v2, v3, v4, v5, v6, v7, v8, v9, v10], _ =>
    match xs, hxl with
    | [z0, z1, z2, z3, z4], _ =>
      have g0 := hf 0 ((Try.prog.fieldsOf 53)[0]!) rfl
      rw [MrkF0.1, MrkF0.2] at g0
      simp [cU8a] at g0
      have g1 := hf 1 ((Try.prog.fieldsOf 53)[1]!) rfl
      rw [MrkF1.1, MrkF1.2] at g1
      simp [cU8a] at g1
      have g2 := hf 2 ((Try.prog.fieldsOf 53)[2]!) rfl
      rw [MrkF2.1, MrkF2.2] at g2
      simp [cBoa] at g2
      have g3 := hf 3 ((Try.prog.fieldsOf 53)[3]!) rfl
      rw [MrkF3.1, MrkF3.2] at g3
      simp [cBita] at g3
      have g4 := hf 4 ((Try.prog.fieldsOf 53)[4]!) rfl
      rw [MrkF4.1, MrkF4.2] at g4
      simp [cBita] at g4
      obtain ⟨p, hp, _, wp⟩ := DataW.trod_int Try.underlying5 g0
      obtain ⟨q, hq, _, wq⟩ := DataW.trod_int Try.underlying5 g1
      obtain ⟨b, hb, _⟩ := DataW.trod_bool Try.underlying4 g2
      obtain ⟨N, hN⟩ := bits_cells g3
      obtain ⟨M, hM⟩ := bits_cells g4
      have bp := bounds_u8 wp
      have bq := bounds_u8 wq
      obtain ⟨p, rfl⟩ := Int.eq_ofNat_of_zero_le bp.1
      obtain ⟨q, rfl⟩ := Int.eq_ofNat_of_zero_le bq.1
      simp at hp hq hb hN hM
      obtain ⟨n0, n1, n2, n3⟩ := hN
      obtain ⟨m0, m1, m2, m3⟩ := hM
      exact ⟨(p, q, b, N, M), by simp only [hp, hq, hb, n0, n1, n2, n3, m0, m1, m2, m3], by simp only; omega, by simp only; omega⟩
set_option maxRecDepth 100000 in
theorem mrks_arg {a : Option Addr} {len cap : Nat} {d : DataW H} {p : List MemPlace} (h : DataW.Trod enc Try.prog W 0 (fun _ => true) true 51 (.slice a len cap) d p) (hw : ∀ n ∈ d.weights Try.prog 51, n ≤ reachBytes) :
    ∃ ls, SlAt mkL 11 W (.slice a len cap) ls ∧ (∀ y ∈ ls, y.1 < 256 ∧ y.2.1 < 256) ∧ NilOk (.slice a len cap) ∧ (ls.length + 1) * 72 ≤ 140737488355328 := by
  obtain ⟨fuel, hf⟩ := h
  obtain ⟨ns, hn1, hn2, hG, hn3⟩ := open_sl (0, 0, false, 0, 0) (cs := mkL) (sz := 11) (fun _ => rfl) (by omega) Try.underlying51 cMrk (fun n cs' x h => mrk_cells h) (by simpa [Value.cells] using hf)
  exact ⟨ns, hn1, hG, hn2, slice_weight Try.underlying51 bMrk (by omega) hw (by rcases hn3 with rfl | h; exact .inl rfl; exact .inr h)⟩
theorem cCpa : Try.prog.cellsOf 27 = 1 := by kernel_rfl
theorem cDna : Try.prog.cellsOf 32 = 10 := by kernel_rfl
theorem cDne : Try.prog.cellsOf 32 = 10 := by kernel_rfl
theorem bDne : Try.prog.bytesOf 32 = 96 := by kernel_rfl
theorem DneF : Try.prog.underlying 32 = some (.struct #[(Try.prog.fieldsOf 32)[0]!, (Try.prog.fieldsOf 32)[1]!, (Try.prog.fieldsOf 32)[2]!, (Try.prog.fieldsOf 32)[3]!]) := by kernel_rfl
theorem DneF0 : ((Try.prog.fieldsOf 32)[0]!).type = 4 ∧ ((Try.prog.fieldsOf 32)[0]!).offset = 0 := ⟨by kernel_rfl, by kernel_rfl⟩
theorem DneF1 : ((Try.prog.fieldsOf 32)[1]!).type = 27 ∧ ((Try.prog.fieldsOf 32)[1]!).offset = 1 := ⟨by kernel_rfl, by kernel_rfl⟩
theorem DneF2 : ((Try.prog.fieldsOf 32)[2]!).type = 30 ∧ ((Try.prog.fieldsOf 32)[2]!).offset = 2 := ⟨by kernel_rfl, by kernel_rfl⟩
theorem DneF3 : ((Try.prog.fieldsOf 32)[3]!).type = 30 ∧ ((Try.prog.fieldsOf 32)[3]!).offset = 6 := ⟨by kernel_rfl, by kernel_rfl⟩
set_option maxRecDepth 100000 in
theorem dne_cells {n : Nat} {cs' : List Value} {x : DataW H × List MemPlace} (h : DataW.trod enc Try.prog W 0 (fun _ => true) true n 32 cs' = some x) : ∃ (L : Bool) (a : Option Addr) (n c N M : Nat), cs' = [.bool L, .slice a n c, .int .u64 (Bi.wd N 0), .int .u64 (Bi.wd N 1), .int .u64 (Bi.wd N 2), .int .u64 (Bi.wd N 3), .int .u64 (Bi.wd M 0), .int .u64 (Bi.wd M 1), .int .u64 (Bi.wd M 2), .int .u64 (Bi.wd M 3)] ∧ n < 9223372036854775808 := by
  obtain ⟨xs, k, _, _, hlen, hxl, hf⟩ := DataW.trod_struct DneF h
  rw [cDne] at hlen
  match cs', hlen with
  | [v0, v1, v2, v3, v4, v5, v6, v7, v8, v9], _ =>
    match xs, hxl with
    | [z0, z1, z2, z3], _ =>
      have g0 := hf 0 ((Try.prog.fieldsOf 32)[0]!) rfl
      rw [DneF0.1, DneF0.2] at g0
      simp [cBoa] at g0
      have g1 := hf 1 ((Try.prog.fieldsOf 32)[1]!) rfl
      rw [DneF1.1, DneF1.2] at g1
      simp [cCpa] at g1
      have g2 := hf 2 ((Try.prog.fieldsOf 32)[2]!) rfl
      rw [DneF2.1, DneF2.2] at g2
      simp [cBita] at g2
      have g3 := hf 3 ((Try.prog.fieldsOf 32)[3]!) rfl
      rw [DneF3.1, DneF3.2] at g3
      simp [cBita] at g3
      obtain ⟨b, hb, _⟩ := DataW.trod_bool Try.underlying4 g0
      obtain ⟨N, hN⟩ := bits_cells g2
      obtain ⟨M, hM⟩ := bits_cells g3
      simp at hb hN hM
      obtain ⟨n0, n1, n2, n3⟩ := hN
      obtain ⟨m0, m1, m2, m3⟩ := hM
      rcases Deep.open_slice Try.underlying27 g1 with ⟨h0, _⟩ | ⟨ad, len, cap, m, nn, DD, Pl, h0, _, hl, hm, _⟩
      · simp at h0
        exact ⟨b, none, 0, 0, N, M, by simp only [hb, h0, n0, n1, n2, n3, m0, m1, m2, m3], by omega⟩
      · simp at h0
        exact ⟨b, some ad, len, cap, N, M, by simp only [hb, h0, n0, n1, n2, n3, m0, m1, m2, m3], by unfold maxLen at hm; omega⟩
theorem cAct : Try.prog.cellsOf 34 = 12 := by kernel_rfl
theorem bAct : Try.prog.bytesOf 34 = 112 := by kernel_rfl
theorem ActF : Try.prog.underlying 34 = some (.struct #[(Try.prog.fieldsOf 34)[0]!, (Try.prog.fieldsOf 34)[1]!, (Try.prog.fieldsOf 34)[2]!]) := by kernel_rfl
theorem ActF0 : ((Try.prog.fieldsOf 34)[0]!).type = 3 ∧ ((Try.prog.fieldsOf 34)[0]!).offset = 0 := ⟨by kernel_rfl, by kernel_rfl⟩
theorem ActF1 : ((Try.prog.fieldsOf 34)[1]!).type = 3 ∧ ((Try.prog.fieldsOf 34)[1]!).offset = 1 := ⟨by kernel_rfl, by kernel_rfl⟩
theorem ActF2 : ((Try.prog.fieldsOf 34)[2]!).type = 32 ∧ ((Try.prog.fieldsOf 34)[2]!).offset = 2 := ⟨by kernel_rfl, by kernel_rfl⟩
set_option maxRecDepth 100000 in
theorem act_cells {n : Nat} {cs' : List Value} {x : DataW H × List MemPlace} (h : DataW.trod enc Try.prog W 0 (fun _ => true) true n 34 cs' = some x) : ∃ y : Ac, cs' = acL y ∧ ((-9223372036854775808 ≤ y.1 ∧ y.1 ≤ 9223372036854775807) ∧ (-9223372036854775808 ≤ y.2.1 ∧ y.2.1 ≤ 9223372036854775807)) ∧ y.2.2.2.1.2.1 < 9223372036854775808 := by
  obtain ⟨xs, k, _, _, hlen, hxl, hf⟩ := DataW.trod_struct ActF h
  rw [cAct] at hlen
  match cs', hlen with
  | [v0, v1, v2, v3, v4, v5, v6, v7, v8, v9, v10, v11], _ =>
    match xs, hxl with
    | [z0, z1, z2], _ =>
      have g0 := hf 0 ((Try.prog.fieldsOf 34)[0]!) rfl
      rw [ActF0.1, ActF0.2] at g0
      simp [cIna] at g0
      have g1 := hf 1 ((Try.prog.fieldsOf 34)[1]!) rfl
      rw [ActF1.1, ActF1.2] at g1
      simp [cIna] at g1
      have g2 := hf 2 ((Try.prog.fieldsOf 34)[2]!) rfl
      rw [ActF2.1, ActF2.2] at g2
      simp [cDna] at g2
      obtain ⟨p, hp, _, wp⟩ := DataW.trod_int Try.underlying3 g0
      obtain ⟨q, hq, _, wq⟩ := DataW.trod_int Try.underlying3 g1
      obtain ⟨b, a, m, c, N, M, hd, hm⟩ := dne_cells g2
      simp at hp hq hd
      obtain ⟨d0, d1, d2, d3, d4, d5, d6, d7, d8, d9⟩ := hd
      exact ⟨(p, q, b, (a, m, c), N, M), by simp only [hp, hq, d0, d1, d2, d3, d4, d5, d6, d7, d8, d9], ⟨bounds_i64 wp, bounds_i64 wq⟩, hm⟩
set_option maxRecDepth 100000 in
theorem acts_arg {a : Option Addr} {len cap : Nat} {d : DataW H} {p : List MemPlace} (h : DataW.Trod enc Try.prog W 0 (fun _ => true) true 22 (.slice a len cap) d p) (hw : ∀ n ∈ d.weights Try.prog 22, n ≤ reachBytes) :
    ∃ ls, SlAt acL 12 W (.slice a len cap) ls ∧ (∀ y ∈ ls, ((-9223372036854775808 ≤ y.1 ∧ y.1 ≤ 9223372036854775807) ∧ (-9223372036854775808 ≤ y.2.1 ∧ y.2.1 ≤ 9223372036854775807)) ∧ y.2.2.2.1.2.1 < 9223372036854775808) ∧ NilOk (.slice a len cap) ∧ (ls.length + 1) * 112 ≤ 140737488355328 := by
  obtain ⟨fuel, hf⟩ := h
  obtain ⟨ns, hn1, hn2, hG, hn3⟩ := open_sl (0, 0, false, (none, 0, 0), 0, 0) (cs := acL) (sz := 12) (fun _ => rfl) (by omega) Try.underlying22 cAct (fun n cs' x h => act_cells h) (by simpa [Value.cells] using hf)
  exact ⟨ns, hn1, hG, hn2, slice_weight Try.underlying22 bAct (by omega) hw (by rcases hn3 with rfl | h; exact .inl rfl; exact .inr h)⟩
end
end Go.Proofs.Ytkkkjpdmjgafoaa
namespace Go.Proofs.Ytkkkjpdmjgafoaa
open Go.RowKit

theorem SlAt.act {w : World} {v : Value} {l : List Ac} (h : SlAt acL 12 w v l) : ∃ a cap, v = .slice a l.length cap ∧ l.length ≤ 9223372036854775807 ∧ l.length ≤ cap ∧ (0 < l.length → ∃ bk o, a = some ⟨bk, o, none⟩ ∧ bk < w.heap.size ∧ ∀ j m, l[j]? = some m → ∀ k u, (acL m)[k]? = some u → w.cell? ⟨bk, o + j * 12 + k, none⟩ = some u) := by
  obtain ⟨a, cap, rfl, h0, h1, h2⟩ := h
  refine ⟨a, cap, rfl, h0, h1, fun hp => ?_⟩
  obtain ⟨bk, o, rfl, h3, h4⟩ := h2 hp
  exact ⟨bk, o, rfl, h3, fun j z hz k u hu => h4 j z hz k u hu⟩
theorem cV_bad : cV badC = .agg #[.int .u64 1, .int .u64 0, .int .u64 0, .int .u64 0, .int .u64 0, .int .u64 1] := by kernel_rfl
theorem OwAt.frT {w w' : World} {v : Value} {T U : Nat → Cn} {q : Nat} (h : OwAt w v T) (k : Fr (fun j => j = q) w w') (hq : TaAt w q U) : OwAt w' v T := h.fr k hq (by decide)
/-- The tally and the list beside each other. -/
structure TwoT (w wr : World) (q : Nat) (own : Value) (T : Nat → Cn) : Prop where
  t : TaAt wr q T
  o : OwAt wr own T
  k : OkT T
  b : Below w.heap.size w wr
theorem TwoT.keep {w wr w' : World} {q : Nat} {own : Value} {T : Nat → Cn} (h : TwoT w wr q own T) (hb : Below wr.heap.size wr w') : TwoT w w' q own T := ⟨h.t.keep hb h.t.lt, h.o.keep hb, h.k, h.b.trans (hb.mono h.b.size)⟩
/-- What stands behind one act. -/
def ActE (w W2 wx : World) (q : Nat) (n : Int) (x y z : Value) : Prop := ∃ T, TwoT w wx q z T ∧ Fr (fun j => j = q) W2 wx ∧ ((∃ r : Nat, 1 ≤ r ∧ r ≤ 24 ∧ n = (r : Int) ∧ x = .int .i64 0 ∧ y = .int .i64 0) ∨ (¬ (1 ≤ n ∧ n ≤ 24) ∧ x = .int .i64 2 ∧ y = .int .i64 2))
set_option maxRecDepth 100000 in
set_option maxHeartbeats 8000000 in
theorem tallyPlays_walk {L : List Ac} {v : Value} {w : World} (h : SlAt acL 12 w v L) (hL : ∀ y ∈ L, ((-9223372036854775808 ≤ y.1 ∧ y.1 ≤ 9223372036854775807) ∧ (-9223372036854775808 ≤ y.2.1 ∧ y.2.1 ≤ 9223372036854775807)) ∧ y.2.2.2.1.2.1 < 9223372036854775808) (hlen : (L.length + 1) * 112 ≤ 140737488355328) :
    Calls Try.prog 3 #[v] w fun e w' => e = .returned (.bool true) ∧ Below w.heap.size w w' := by
  obtain ⟨va, vc, rfl, hvl, _, hcell⟩ := h.act
  have HCell := hidIn hcell
  have HL := hidIn hL
  have Hwk := hidIn (fun wx => tworks_any wx)
  obtain ⟨ln, hn⟩ : ∃ n, L.length = n := ⟨_, rfl⟩
  rw [hn] at hvl hlen HCell ⊢
  have Hn := hidIn hn
  clear h hL hcell hn
  go_enter Try.func3, Try.ntmps3
  go_wp2_with fail
  refine (tnew_any _).mono ?_
  rintro e w1 ⟨rfl, hw1⟩
  have HT1 : Hid (TaAt w1 w.heap.size noT) := hidIn (by rw [hw1]; exact taAt_new w noT)
  have HF1 : Hid (Below w.heap.size w w1) := hidIn (by rw [hw1]; exact (Below.refl _ w).alloc (Nat.le_refl _) _)
  obtain ⟨q, hq⟩ : ∃ q, w.heap.size = q := ⟨_, rfl⟩
  rw [hq] at HT1 ⊢
  have Hq := hidIn hq
  clear hw1 hq
  go_wp2_with fail
  refine (down_any _).mono ?_
  rintro e w2 ⟨⟨own, rfl, hO⟩, hb2⟩
  have HM : Hid (TwoT w w2 q own noT) := hidIn ⟨HT1.out.keep hb2 HT1.out.lt, hO, noT_ok, HF1.out.trans (hb2.mono HF1.out.size)⟩
  clear hO hb2 HT1 HF1
  go_wp2_with fail
  go_loopw [5, 4] (fun i own wr => ∃ k : Nat, k ≤ 60 ∧ k ≤ ln ∧ i = .int .i64 k ∧ Hid (∃ T, TwoT w wr q own T)) (fun i _ _ => 60 - (intOf i).toNat)
  case atStart => exact ⟨0, by omega, Nat.zero_le _, rfl, hidIn ⟨_, HM.out⟩⟩
  case round =>
    clear HM
    obtain ⟨k, hk60, hkn, rfl, HR⟩ := hrel
    by_cases hlt : k < ln ∧ k < 60
    · obtain ⟨hlt, hlt60⟩ := hlt
      have hki : (k : Int) < (ln : Int) := by omega
      have hki60 : (k : Int) < 60 := by omega
      obtain ⟨bk, o, rfl, hbk, hce⟩ := HCell.out (by omega)
      obtain ⟨⟨Wt, n, B, ⟨a, m, c⟩, N, M⟩, hm⟩ : ∃ z, L[k]? = some z := ⟨L[k]'(by have := Hn.out; omega), List.getElem?_eq_getElem _⟩
      obtain ⟨⟨hWt, hnb⟩, hmb⟩ := HL.out _ (List.mem_of_getElem? hm)
      simp only at hWt hnb hmb
      obtain ⟨T, hTw⟩ := HR.out
      have hcs : ∀ j u, (acL (Wt, n, B, (a, m, c), N, M))[j]? = some u → wr.cell? ⟨bk, o + k * 12 + j, none⟩ = some u := fun j u hu => (hTw.b.cell (p := ⟨bk, o + k * 12 + j, none⟩) hbk).trans (hce k _ hm j u hu)
      have a0 := hcs 0 _ rfl
      have a1 := hcs 1 _ rfl
      have a2 := hcs 2 _ rfl
      have a3 := hcs 3 _ rfl
      have a4 := hcs 4 _ rfl
      have a5 := hcs 5 _ rfl
      have a6 := hcs 6 _ rfl
      have a7 := hcs 7 _ rfl
      have a8 := hcs 8 _ rfl
      have a9 := hcs 9 _ rfl
      have a10 := hcs 10 _ rfl
      have a11 := hcs 11 _ rfl
      simp only [Nat.add_zero] at a0 a1 a2 a3 a4 a5 a6 a7 a8 a9 a10 a11
      have hb3 : Below wr.heap.size wr (wr.alloc (.cells #[.int .i64 Wt, .int .i64 n, .bool B, .slice a m c, .int .u64 (Bi.wd N 0), .int .u64 (Bi.wd N 1), .int .u64 (Bi.wd N 2), .int .u64 (Bi.wd N 3), .int .u64 (Bi.wd M 0), .int .u64 (Bi.wd M 1), .int .u64 (Bi.wd M 2), .int .u64 (Bi.wd M 3)] 34)) := (Below.refl _ wr).alloc (Nat.le_refl _) _
      have hP := heap_alloc_last wr (.cells #[.int .i64 Wt, .int .i64 n, .bool B, .slice a m c, .int .u64 (Bi.wd N 0), .int .u64 (Bi.wd N 1), .int .u64 (Bi.wd N 2), .int .u64 (Bi.wd N 3), .int .u64 (Bi.wd M 0), .int .u64 (Bi.wd M 1), .int .u64 (Bi.wd M 2), .int .u64 (Bi.wd M 3)] 34)
      have HTw := hidIn (hTw.keep hb3)
      have hqp : q < wr.heap.size := hTw.t.lt
      clear hcs hce hm hTw HR
      go_upto_region 9 with fail
      obtain ⟨p, hp⟩ : ∃ p, wr.heap.size = p := ⟨_, rfl⟩
      rw [hp] at hP hqp ⊢
      clear a0 a1 a2 a3 a4 a5 a6 a7 a8 a9 a10 a11 hb3 hp
      generalize World.alloc _ _ = W2 at hP HTw ⊢
      have HCl : Hid (∀ wq, Fr (fun j => j = q) W2 wq → wq.cell? ⟨p, 0, none⟩ = some (.int .i64 Wt) ∧ wq.cell? ⟨p, 1, none⟩ = some (.int .i64 n) ∧ wq.cell? ⟨p, 2, none⟩ = some (.bool B) ∧ wq.cell? ⟨p, 3, none⟩ = some (.slice a m c) ∧ wq.cell? ⟨p, 4, none⟩ = some (.int .u64 (Bi.wd N 0)) ∧ wq.cell? ⟨p, 5, none⟩ = some (.int .u64 (Bi.wd N 1)) ∧ wq.cell? ⟨p, 6, none⟩ = some (.int .u64 (Bi.wd N 2)) ∧ wq.cell? ⟨p, 7, none⟩ = some (.int .u64 (Bi.wd N 3)) ∧ wq.cell? ⟨p, 8, none⟩ = some (.int .u64 (Bi.wd M 0)) ∧ wq.cell? ⟨p, 9, none⟩ = some (.int .u64 (Bi.wd M 1)) ∧ wq.cell? ⟨p, 10, none⟩ = some (.int .u64 (Bi.wd M 2)) ∧ wq.cell? ⟨p, 11, none⟩ = some (.int .u64 (Bi.wd M 3))) := hidIn fun wq h => by
        have j := (h.block _ (block_lt hP) (by omega)).trans hP
        exact ⟨cell_of_row _ _ 0 _ _ _ j, cell_of_row _ _ 1 _ _ _ j, cell_of_row _ _ 2 _ _ _ j, cell_of_row _ _ 3 _ _ _ j, cell_of_row _ _ 4 _ _ _ j, cell_of_row _ _ 5 _ _ _ j, cell_of_row _ _ 6 _ _ _ j, cell_of_row _ _ 7 _ _ _ j, cell_of_row _ _ 8 _ _ _ j, cell_of_row _ _ 9 _ _ _ j, cell_of_row _ _ 10 _ _ _ j, cell_of_row _ _ 11 _ _ _ j⟩
      clear hP
      go_upto_region 10 with fail
      obtain ⟨a0, _⟩ := HCl.out W2 (Fr.refl _ _)
      go_upto_block 2 with fail
      clear a0
      go_cut [7, 8, 4] (fun x y z wx => Hid (ActE w W2 wx q n x y z))
      case first =>
        obtain ⟨C, hC⟩ : ∃ C, stepC B m (Bi.cntTo 256 N) (Bi.cntTo 256 M) = C := ⟨_, rfl⟩
        have HOkC : Hid (OkC C) := hidIn (by rw [← hC]; exact stepC_ok B hmb (Bi.cntTo_le _ _) (Bi.cntTo_le _ _))
        have HOf : Hid (∀ wx : World, Calls Try.prog 9 #[dnV B (.slice a m c) N M] wx fun e w' => e = .returned (cV C) ∧ Below wx.heap.size wx w') := hidIn fun wx => by rw [← hC]; exact tof_any B a m c hmb N M wx
        have HDf : Hid (∀ wx : World, Calls Try.prog 10 #[dnV B (.slice a m c) N M] wx fun e w' => e = .returned (cV C) ∧ Below wx.heap.size wx w') := hidIn fun wx => by rw [← hC]; exact dof_any B a m c hmb N M wx
        have HNy : Hid (∀ (wx : World) (r : Nat), TaAt wx q T → 1 ≤ r → r ≤ 24 → Calls Try.prog 11 #[tp q, .int .i64 r, dnV B (.slice a m c) N M] wx fun e w' => e = .returned (.int .i64 0) ∧ TaAt w' q (putC T r (addC (T r) C)) ∧ Fr (fun j => j = q) wx w') := hidIn fun wx r h h1 h2 => by rw [← hC]; exact tnote_yes h HTw.out.k h1 h2 B a m c hmb N M
        have HNn : Hid (∀ (wx : World), TaAt wx q T → ¬ (1 ≤ n ∧ n ≤ 24) → Calls Try.prog 11 #[tp q, .int .i64 n, dnV B (.slice a m c) N M] wx fun e w' => e = .returned (.int .i64 2) ∧ Below wx.heap.size wx w') := hidIn fun wx h hn => tnote_no h n hn B a m c hmb N M
        clear hC
        have hq1 := fun w => eq_refl6 (C 0) (C 1) (C 2) (C 3) (C 4) (C 5) w
        by_cases hw0 : Wt = 0
        · subst hw0
          by_cases hyes : 1 ≤ n ∧ n ≤ 24
          · obtain ⟨r, hnr⟩ : ∃ r : Nat, n = (r : Int) := ⟨n.toNat, by omega⟩
            have h1 : 1 ≤ r := by omega
            have h2 : r ≤ 24 := by omega
            subst hnr
            clear hyes HNn
            go_upto_region 14 with fail
            refine wp_region_held_drew (S := fun wx => Fr (fun j => j = q) W2 wx) (by kernel_rfl) ((Fr.refl _ W2).drew) (fun hHeld => ?_)
            have hd0 : Fr (fun j => j = q) W2 W2.drew := hHeld
            have hx0 : Below W2.heap.size W2 W2.drew := (Below.refl _ W2).drew
            obtain ⟨wd, hwd⟩ : ∃ wd, W2.drew = wd := ⟨_, rfl⟩
            rw [hwd] at hd0 hx0 ⊢
            clear hwd hHeld
            refine wpAnyH_take (i := 0) (v := .pointer (some ⟨p, 2, none⟩)) rfl (by kernel_rfl) (by kernel_rfl) (by kernel_rfl) (fun _ _ _ h => h) (Or.inl ⟨by kernel_rfl, fun _ _ => by kernel_rfl⟩) (by assumption) ?_
            refine wpAnyH_take (i := 1) (v := dnV B (.slice a m c) N M) rfl (by kernel_rfl) (by kernel_rfl) (by kernel_rfl) (fun _ _ _ h => h) (Or.inl ⟨by kernel_rfl, fun wq hSw => by
              obtain ⟨u0, u1, u2, u3, u4, u5, u6, u7, u8, u9, u10, u11⟩ := HCl.out wq hSw
              go_simp⟩) (by assumption) ?_
            refine wpAnyH_take (i := 3) (v := .pointer (some ⟨p, 2, none⟩)) rfl (by kernel_rfl) (by kernel_rfl) (by kernel_rfl) (fun _ _ _ h => h) (Or.inl ⟨by kernel_rfl, fun _ _ => by kernel_rfl⟩) (by assumption) ?_
            refine wpAnyH_take (i := 4) (v := dnV B (.slice a m c) N M) rfl (by kernel_rfl) (by kernel_rfl) (by kernel_rfl) (fun _ _ _ h => h) (Or.inl ⟨by kernel_rfl, fun wq hSw => by
              obtain ⟨u0, u1, u2, u3, u4, u5, u6, u7, u8, u9, u10, u11⟩ := HCl.out wq hSw
              go_simp⟩) (by assumption) ?_
            refine wpAnyH_ready (rs := [2]) (by kernel_rfl) (by simp) ?_
            refine AllReadyH.cons (i := 2) rfl ?_ AllReadyH.nil
            go_simp
            intro K hK
            refine (HOf.out wd).mono ?_
            rintro e wk1 ⟨rfl, hx1⟩
            have hy1 := hx0.trans (hx1.mono hx0.size)
            have hk1 := Fr.of_below (S := fun j => j = q) hy1
            refine hK.out _ _ hk1 (fun _ => ?_)
            clear hK K
            refine wpAnyH_ready (rs := [5]) (by kernel_rfl) (by simp) ?_
            refine AllReadyH.cons (i := 5) rfl ?_ AllReadyH.nil
            go_simp
            intro K hK
            refine (HDf.out wk1).mono ?_
            rintro e wk2 ⟨rfl, hx2⟩
            have hy2 := hy1.trans (hx2.mono hy1.size)
            have hk2 := Fr.of_below (S := fun j => j = q) hy2
            refine hK.out _ _ hk2 (fun _ => ?_)
            clear hK K
            refine wpAnyH_take (i := 6) (v := .bool false) rfl (by kernel_rfl) (by kernel_rfl) (by kernel_rfl) (fun _ _ _ h => h) (Or.inl ⟨by kernel_rfl, fun _ _ => by go_simp⟩) (by assumption) ?_
            refine wpAnyH_done (by kernel_rfl) ?_ _
            clear hx0 hx1 hx2 hy1 hk1 hd0
            have HX := hidIn (And.intro hy2 hk2)
            clear hy2 hk2
            obtain ⟨b0, b1, b2, b3, b4, b5, b6, b7, b8, b9, b10, b11⟩ := HCl.out wk2 HX.out.2
            go_wp2_with fail
            refine (HNy.out wk2 r (HTw.out.t.keep HX.out.1 HTw.out.t.lt) h1 h2).mono ?_
            rintro e w3 ⟨rfl, hA, hF⟩
            have HF3 := hidIn (HX.out.2.trans hF)
            have HO3 := hidIn ((HTw.out.o.keep HX.out.1).frT hF (HTw.out.t.keep HX.out.1 HTw.out.t.lt))
            have HA3 := hidIn hA
            clear hA hF b0 b1 b2 b3 b4 b5 b6 b7 b8 b9 b10 b11
            go_upto_region 17 with fail
            refine wp_region_held_drew (S := fun wx => Fr (fun j => j = q) W2 wx) (by kernel_rfl) (HF3.out.drew) (fun hHeld => ?_)
            have hd0 : Fr (fun j => j = q) W2 w3.drew := hHeld
            have hx0 : Below w3.heap.size w3 w3.drew := (Below.refl _ w3).drew
            obtain ⟨wd, hwd⟩ : ∃ wd, w3.drew = wd := ⟨_, rfl⟩
            rw [hwd] at hd0 hx0 ⊢
            clear hwd hHeld
            refine wpAnyH_take (i := 0) (v := u4) rfl (by kernel_rfl) (by kernel_rfl) (by kernel_rfl) (fun _ _ _ h => h) (Or.inl ⟨by kernel_rfl, fun _ _ => by kernel_rfl⟩) (by assumption) ?_
            refine wpAnyH_take (i := 1) (v := .pointer (some ⟨p, 1, none⟩)) rfl (by kernel_rfl) (by kernel_rfl) (by kernel_rfl) (fun _ _ _ h => h) (Or.inl ⟨by kernel_rfl, fun _ _ => by kernel_rfl⟩) (by assumption) ?_
            refine wpAnyH_take (i := 2) (v := .int .i64 (r : Int)) rfl (by kernel_rfl) (by kernel_rfl) (by kernel_rfl) (fun _ _ _ h => h) (Or.inl ⟨by kernel_rfl, fun wq hSw => by
              obtain ⟨u0, u1, u2, u3, u4, u5, u6, u7, u8, u9, u10, u11⟩ := HCl.out wq hSw
              go_simp⟩) (by assumption) ?_
            refine wpAnyH_take (i := 3) (v := .pointer (some ⟨p, 2, none⟩)) rfl (by kernel_rfl) (by kernel_rfl) (by kernel_rfl) (fun _ _ _ h => h) (Or.inl ⟨by kernel_rfl, fun _ _ => by kernel_rfl⟩) (by assumption) ?_
            refine wpAnyH_take (i := 4) (v := dnV B (.slice a m c) N M) rfl (by kernel_rfl) (by kernel_rfl) (by kernel_rfl) (fun _ _ _ h => h) (Or.inl ⟨by kernel_rfl, fun wq hSw => by
              obtain ⟨u0, u1, u2, u3, u4, u5, u6, u7, u8, u9, u10, u11⟩ := HCl.out wq hSw
              go_simp⟩) (by assumption) ?_
            refine wpAnyH_ready (rs := [5]) (by kernel_rfl) (by simp) ?_
            refine AllReadyH.cons (i := 5) rfl ?_ AllReadyH.nil
            go_simp
            intro K hK
            refine (HDf.out wd).mono ?_
            rintro e wk1 ⟨rfl, hx1⟩
            have hy1 := hx0.trans (hx1.mono hx0.size)
            have hk1 := HF3.out.trans (Fr.of_below (S := fun j => j = q) hy1)
            refine hK.out _ _ hk1 (fun _ => ?_)
            clear hK K
            refine wpAnyH_ready (rs := [6]) (by kernel_rfl) (by simp) ?_
            refine AllReadyH.cons (i := 6) rfl ?_ AllReadyH.nil
            go_simp
            intro K hK
            refine (dadd_yes HOkC.out (HO3.out.keep hy1) HTw.out.k h1 h2).mono ?_
            rintro e wk2 ⟨⟨own', rfl, hOw⟩, hx2⟩
            have hy2 := hy1.trans (hx2.mono hy1.size)
            have hk2 := HF3.out.trans (Fr.of_below (S := fun j => j = q) hy2)
            refine hK.out _ _ hk2 (fun _ => ?_)
            clear hK K
            refine wpAnyH_take (i := 7) (v := .tuple #[own', .int .i64 0]) rfl (by kernel_rfl) (by kernel_rfl) (by kernel_rfl) (fun _ _ _ h => h) (Or.inl ⟨by kernel_rfl, fun _ _ => by kernel_rfl⟩) (by assumption) ?_
            refine wpAnyH_take (i := 8) (v := own') rfl (by kernel_rfl) (by kernel_rfl) (by kernel_rfl) (fun _ _ _ h => h) (Or.inl ⟨by kernel_rfl, fun _ _ => by kernel_rfl⟩) (by assumption) ?_
            refine wpAnyH_take (i := 9) (v := .int .i64 0) rfl (by kernel_rfl) (by kernel_rfl) (by kernel_rfl) (fun _ _ _ h => h) (Or.inl ⟨by kernel_rfl, fun _ _ => by kernel_rfl⟩) (by assumption) ?_
            refine wpAnyH_take (i := 10) (v := own') rfl (by kernel_rfl) (by kernel_rfl) (by kernel_rfl) (fun _ _ _ h => h) (Or.inl ⟨by kernel_rfl, fun _ _ => by kernel_rfl⟩) (by assumption) ?_
            refine wpAnyH_take (i := 11) (v := .int .i64 0) rfl (by kernel_rfl) (by kernel_rfl) (by kernel_rfl) (fun _ _ _ h => h) (Or.inl ⟨by kernel_rfl, fun _ _ => by kernel_rfl⟩) (by assumption) ?_
            refine wpAnyH_done (by kernel_rfl) ?_ _
            have HE : Hid (ActE w W2 wk2 q (r : Int) (.int .i64 0) (.int .i64 0) own') := hidIn (by
              exact ⟨_, ⟨HA3.out.keep hy2 HA3.out.lt, hOw, HTw.out.k.put r (addC_ok _ _), HTw.out.b.trans (hk2.below HTw.out.b.size (fun j hj => by have := Hq.out; omega))⟩, hk2, .inl ⟨r, h1, h2, rfl, rfl, rfl⟩⟩)
            clear hx0 hx1 hx2 hy1 hy2 hk1 hk2 hd0 HF3 HO3 HA3 HX
            go_wp2_with fail
            go_meet
            exact HE
          have Hno := hidIn hyes
          clear hyes HNy
          go_upto_region 14 with fail
          refine wp_region_held_drew (S := fun wx => Fr (fun j => j = q) W2 wx) (by kernel_rfl) ((Fr.refl _ W2).drew) (fun hHeld => ?_)
          have hd0 : Fr (fun j => j = q) W2 W2.drew := hHeld
          have hx0 : Below W2.heap.size W2 W2.drew := (Below.refl _ W2).drew
          obtain ⟨wd, hwd⟩ : ∃ wd, W2.drew = wd := ⟨_, rfl⟩
          rw [hwd] at hd0 hx0 ⊢
          clear hwd hHeld
          refine wpAnyH_take (i := 0) (v := .pointer (some ⟨p, 2, none⟩)) rfl (by kernel_rfl) (by kernel_rfl) (by kernel_rfl) (fun _ _ _ h => h) (Or.inl ⟨by kernel_rfl, fun _ _ => by kernel_rfl⟩) (by assumption) ?_
          refine wpAnyH_take (i := 1) (v := dnV B (.slice a m c) N M) rfl (by kernel_rfl) (by kernel_rfl) (by kernel_rfl) (fun _ _ _ h => h) (Or.inl ⟨by kernel_rfl, fun wq hSw => by
            obtain ⟨u0, u1, u2, u3, u4, u5, u6, u7, u8, u9, u10, u11⟩ := HCl.out wq hSw
            go_simp⟩) (by assumption) ?_
          refine wpAnyH_take (i := 3) (v := .pointer (some ⟨p, 2, none⟩)) rfl (by kernel_rfl) (by kernel_rfl) (by kernel_rfl) (fun _ _ _ h => h) (Or.inl ⟨by kernel_rfl, fun _ _ => by kernel_rfl⟩) (by assumption) ?_
          refine wpAnyH_take (i := 4) (v := dnV B (.slice a m c) N M) rfl (by kernel_rfl) (by kernel_rfl) (by kernel_rfl) (fun _ _ _ h => h) (Or.inl ⟨by kernel_rfl, fun wq hSw => by
            obtain ⟨u0, u1, u2, u3, u4, u5, u6, u7, u8, u9, u10, u11⟩ := HCl.out wq hSw
            go_simp⟩) (by assumption) ?_
          refine wpAnyH_ready (rs := [2]) (by kernel_rfl) (by simp) ?_
          refine AllReadyH.cons (i := 2) rfl ?_ AllReadyH.nil
          go_simp
          intro K hK
          refine (HOf.out wd).mono ?_
          rintro e wk1 ⟨rfl, hx1⟩
          have hy1 := hx0.trans (hx1.mono hx0.size)
          have hk1 := Fr.of_below (S := fun j => j = q) hy1
          refine hK.out _ _ hk1 (fun _ => ?_)
          clear hK K
          refine wpAnyH_ready (rs := [5]) (by kernel_rfl) (by simp) ?_
          refine AllReadyH.cons (i := 5) rfl ?_ AllReadyH.nil
          go_simp
          intro K hK
          refine (HDf.out wk1).mono ?_
          rintro e wk2 ⟨rfl, hx2⟩
          have hy2 := hy1.trans (hx2.mono hy1.size)
          have hk2 := Fr.of_below (S := fun j => j = q) hy2
          refine hK.out _ _ hk2 (fun _ => ?_)
          clear hK K
          refine wpAnyH_take (i := 6) (v := .bool false) rfl (by kernel_rfl) (by kernel_rfl) (by kernel_rfl) (fun _ _ _ h => h) (Or.inl ⟨by kernel_rfl, fun _ _ => by go_simp⟩) (by assumption) ?_
          refine wpAnyH_done (by kernel_rfl) ?_ _
          clear hx0 hx1 hx2 hy1 hk1 hd0
          have HX := hidIn (And.intro hy2 hk2)
          clear hy2 hk2
          obtain ⟨b0, b1, b2, b3, b4, b5, b6, b7, b8, b9, b10, b11⟩ := HCl.out wk2 HX.out.2
          go_wp2_with fail
          refine (HNn.out wk2 (HTw.out.t.keep HX.out.1 HTw.out.t.lt) Hno.out).mono ?_
          rintro e w3 ⟨rfl, hB⟩
          have HF3 := hidIn (HX.out.2.trans (Fr.of_below (S := fun j => j = q) hB))
          have HO3 := hidIn ((HTw.out.o.keep HX.out.1).keep hB)
          have HA3 := hidIn ((HTw.out.t.keep HX.out.1 HTw.out.t.lt).keep hB (HTw.out.t.keep HX.out.1 HTw.out.t.lt).lt)
          clear hB b0 b1 b2 b3 b4 b5 b6 b7 b8 b9 b10 b11
          go_upto_region 17 with fail
          refine wp_region_held_drew (S := fun wx => Fr (fun j => j = q) W2 wx) (by kernel_rfl) (HF3.out.drew) (fun hHeld => ?_)
          have hd0 : Fr (fun j => j = q) W2 w3.drew := hHeld
          have hx0 : Below w3.heap.size w3 w3.drew := (Below.refl _ w3).drew
          obtain ⟨wd, hwd⟩ : ∃ wd, w3.drew = wd := ⟨_, rfl⟩
          rw [hwd] at hd0 hx0 ⊢
          clear hwd hHeld
          refine wpAnyH_take (i := 0) (v := u4) rfl (by kernel_rfl) (by kernel_rfl) (by kernel_rfl) (fun _ _ _ h => h) (Or.inl ⟨by kernel_rfl, fun _ _ => by kernel_rfl⟩) (by assumption) ?_
          refine wpAnyH_take (i := 1) (v := .pointer (some ⟨p, 1, none⟩)) rfl (by kernel_rfl) (by kernel_rfl) (by kernel_rfl) (fun _ _ _ h => h) (Or.inl ⟨by kernel_rfl, fun _ _ => by kernel_rfl⟩) (by assumption) ?_
          refine wpAnyH_take (i := 2) (v := .int .i64 n) rfl (by kernel_rfl) (by kernel_rfl) (by kernel_rfl) (fun _ _ _ h => h) (Or.inl ⟨by kernel_rfl, fun wq hSw => by
            obtain ⟨u0, u1, u2, u3, u4, u5, u6, u7, u8, u9, u10, u11⟩ := HCl.out wq hSw
            go_simp⟩) (by assumption) ?_
          refine wpAnyH_take (i := 3) (v := .pointer (some ⟨p, 2, none⟩)) rfl (by kernel_rfl) (by kernel_rfl) (by kernel_rfl) (fun _ _ _ h => h) (Or.inl ⟨by kernel_rfl, fun _ _ => by kernel_rfl⟩) (by assumption) ?_
          refine wpAnyH_take (i := 4) (v := dnV B (.slice a m c) N M) rfl (by kernel_rfl) (by kernel_rfl) (by kernel_rfl) (fun _ _ _ h => h) (Or.inl ⟨by kernel_rfl, fun wq hSw => by
            obtain ⟨u0, u1, u2, u3, u4, u5, u6, u7, u8, u9, u10, u11⟩ := HCl.out wq hSw
            go_simp⟩) (by assumption) ?_
          refine wpAnyH_ready (rs := [5]) (by kernel_rfl) (by simp) ?_
          refine AllReadyH.cons (i := 5) rfl ?_ AllReadyH.nil
          go_simp
          intro K hK
          refine (HDf.out wd).mono ?_
          rintro e wk1 ⟨rfl, hx1⟩
          have hy1 := hx0.trans (hx1.mono hx0.size)
          have hk1 := HF3.out.trans (Fr.of_below (S := fun j => j = q) hy1)
          refine hK.out _ _ hk1 (fun _ => ?_)
          clear hK K
          refine wpAnyH_ready (rs := [6]) (by kernel_rfl) (by simp) ?_
          refine AllReadyH.cons (i := 6) rfl ?_ AllReadyH.nil
          go_simp
          intro K hK
          refine (dadd_no (c := C) (HO3.out.keep hy1) Hno.out).mono ?_
          rintro e wk2 ⟨rfl, hx2⟩
          have hy2 := hy1.trans (hx2.mono hy1.size)
          have hk2 := HF3.out.trans (Fr.of_below (S := fun j => j = q) hy2)
          refine hK.out _ _ hk2 (fun _ => ?_)
          clear hK K
          refine wpAnyH_take (i := 7) (v := .tuple #[u4, .int .i64 2]) rfl (by kernel_rfl) (by kernel_rfl) (by kernel_rfl) (fun _ _ _ h => h) (Or.inl ⟨by kernel_rfl, fun _ _ => by kernel_rfl⟩) (by assumption) ?_
          refine wpAnyH_take (i := 8) (v := u4) rfl (by kernel_rfl) (by kernel_rfl) (by kernel_rfl) (fun _ _ _ h => h) (Or.inl ⟨by kernel_rfl, fun _ _ => by kernel_rfl⟩) (by assumption) ?_
          refine wpAnyH_take (i := 9) (v := .int .i64 2) rfl (by kernel_rfl) (by kernel_rfl) (by kernel_rfl) (fun _ _ _ h => h) (Or.inl ⟨by kernel_rfl, fun _ _ => by kernel_rfl⟩) (by assumption) ?_
          refine wpAnyH_take (i := 10) (v := u4) rfl (by kernel_rfl) (by kernel_rfl) (by kernel_rfl) (fun _ _ _ h => h) (Or.inl ⟨by kernel_rfl, fun _ _ => by kernel_rfl⟩) (by assumption) ?_
          refine wpAnyH_take (i := 11) (v := .int .i64 2) rfl (by kernel_rfl) (by kernel_rfl) (by kernel_rfl) (fun _ _ _ h => h) (Or.inl ⟨by kernel_rfl, fun _ _ => by kernel_rfl⟩) (by assumption) ?_
          refine wpAnyH_done (by kernel_rfl) ?_ _
          have HE : Hid (ActE w W2 wk2 q n (.int .i64 2) (.int .i64 2) u4) := hidIn (by
            exact ⟨_, ⟨HA3.out.keep hy2 HA3.out.lt, HO3.out.keep hy2, HTw.out.k, HTw.out.b.trans (hk2.below HTw.out.b.size (fun j hj => by have := Hq.out; omega))⟩, hk2, .inr ⟨Hno.out, rfl, rfl⟩⟩)
          clear hx0 hx1 hx2 hy1 hy2 hk1 hk2 hd0 HF3 HO3 HA3 HX
          go_wp2_with fail
          go_meet
          exact HE
        have hw0b : (Wt == 0) = false := by simpa using hw0
        by_cases hw1 : Wt = 1
        · subst hw1
          by_cases hyes : 1 ≤ n ∧ n ≤ 24
          · obtain ⟨r, hnr⟩ : ∃ r : Nat, n = (r : Int) := ⟨n.toNat, by omega⟩
            have h1 : 1 ≤ r := by omega
            have h2 : r ≤ 24 := by omega
            subst hnr
            clear hyes HNn
            obtain ⟨b0, b1, b2, b3, b4, b5, b6, b7, b8, b9, b10, b11⟩ := HCl.out W2 (Fr.refl _ _)
            go_wp2_with fail
            refine (tbad_yes HTw.out.t HTw.out.k h1 h2).mono ?_
            rintro e w3 ⟨rfl, hA, hF⟩
            have HF3 := hidIn hF
            have HO3 := hidIn (HTw.out.o.frT hF HTw.out.t)
            have HA3 := hidIn hA
            clear hA hF
            clear b0 b1 b2 b3 b4 b5 b6 b7 b8 b9 b10 b11
            obtain ⟨b0, b1, b2, b3, b4, b5, b6, b7, b8, b9, b10, b11⟩ := HCl.out w3 HF3.out
            have HRA : Hid (Calls Try.prog 12 #[u4, .int .i64 (r : Int), .agg #[.int .u64 1, .int .u64 0, .int .u64 0, .int .u64 0, .int .u64 0, .int .u64 1]] w3 fun e w' => (∃ v', e = .returned (.tuple #[v', .int .i64 0]) ∧ OwAt w' v' (putC T r (addC (T r) badC))) ∧ Below w3.heap.size w3 w') := hidIn (by
              rw [← cV_bad]
              exact dadd_yes badC_ok HO3.out HTw.out.k h1 h2)
            go_wp2_with fail
            refine HRA.out.mono ?_
            rintro e w4 ⟨⟨own', rfl, hOw⟩, hB⟩
            have hk2 := HF3.out.trans (Fr.of_below (S := fun j => j = q) hB)
            have HE : Hid (ActE w W2 w4 q (r : Int) (.int .i64 0) (.int .i64 0) own') := hidIn (by
              exact ⟨_, ⟨HA3.out.keep hB HA3.out.lt, hOw, HTw.out.k.put r (addC_ok _ _), HTw.out.b.trans (hk2.below HTw.out.b.size (fun j hj => by have := Hq.out; omega))⟩, hk2, .inl ⟨r, h1, h2, rfl, rfl, rfl⟩⟩)
            clear hB hk2 HF3 HO3 HA3 HRA b0 b1 b2 b3 b4 b5 b6 b7 b8 b9 b10 b11
            go_wp2_with fail
            go_meet
            exact HE
          have Hno := hidIn hyes
          clear hyes HNy
          obtain ⟨b0, b1, b2, b3, b4, b5, b6, b7, b8, b9, b10, b11⟩ := HCl.out W2 (Fr.refl _ _)
          go_wp2_with fail
          refine (tbad_no HTw.out.t n Hno.out).mono ?_
          rintro e w3 ⟨rfl, hB⟩
          have HF3 := hidIn (Fr.of_below (S := fun j => j = q) hB)
          have HO3 := hidIn (HTw.out.o.keep hB)
          have HA3 := hidIn (HTw.out.t.keep hB HTw.out.t.lt)
          clear hB
          clear b0 b1 b2 b3 b4 b5 b6 b7 b8 b9 b10 b11
          obtain ⟨b0, b1, b2, b3, b4, b5, b6, b7, b8, b9, b10, b11⟩ := HCl.out w3 HF3.out
          have HRA : Hid (Calls Try.prog 12 #[u4, .int .i64 n, .agg #[.int .u64 1, .int .u64 0, .int .u64 0, .int .u64 0, .int .u64 0, .int .u64 1]] w3 fun e w' => e = .returned (.tuple #[u4, .int .i64 2]) ∧ Below w3.heap.size w3 w') := hidIn (by
            rw [← cV_bad]
            exact dadd_no HO3.out Hno.out)
          go_wp2_with fail
          refine HRA.out.mono ?_
          rintro e w4 ⟨rfl, hB⟩
          have hk2 := HF3.out.trans (Fr.of_below (S := fun j => j = q) hB)
          have HE : Hid (ActE w W2 w4 q n (.int .i64 2) (.int .i64 2) u4) := hidIn (by
            exact ⟨_, ⟨HA3.out.keep hB HA3.out.lt, HO3.out.keep hB, HTw.out.k, HTw.out.b.trans (hk2.below HTw.out.b.size (fun j hj => by have := Hq.out; omega))⟩, hk2, .inr ⟨Hno.out, rfl, rfl⟩⟩)
          clear hB hk2 HF3 HO3 HA3 HRA b0 b1 b2 b3 b4 b5 b6 b7 b8 b9 b10 b11
          go_wp2_with fail
          go_meet
          exact HE
        have hw1b : (Wt == 1) = false := by simpa using hw1
        by_cases hyes : 1 ≤ n ∧ n ≤ 24
        · obtain ⟨r, hnr⟩ : ∃ r : Nat, n = (r : Int) := ⟨n.toNat, by omega⟩
          have h1 : 1 ≤ r := by omega
          have h2 : r ≤ 24 := by omega
          subst hnr
          clear hyes HNn
          obtain ⟨b0, b1, b2, b3, b4, b5, b6, b7, b8, b9, b10, b11⟩ := HCl.out W2 (Fr.refl _ _)
          go_wp2_with fail
          refine (tclear_yes HTw.out.t h1 h2).mono ?_
          rintro e w3 ⟨rfl, hA, hF⟩
          have HF3 := hidIn hF
          have HO3 := hidIn (HTw.out.o.frT hF HTw.out.t)
          have HA3 := hidIn hA
          clear hA hF
          clear b0 b1 b2 b3 b4 b5 b6 b7 b8 b9 b10 b11
          obtain ⟨b0, b1, b2, b3, b4, b5, b6, b7, b8, b9, b10, b11⟩ := HCl.out w3 HF3.out
          have HRA : Hid (Calls Try.prog 15 #[u4, .int .i64 (r : Int)] w3 fun e w' => (∃ v', e = .returned (.tuple #[v', .int .i64 0]) ∧ OwAt w' v' (putC T r noC)) ∧ Below w3.heap.size w3 w') := hidIn (by
            exact dclear_yes HO3.out h1 h2)
          go_wp2_with fail
          refine HRA.out.mono ?_
          rintro e w4 ⟨⟨own', rfl, hOw⟩, hB⟩
          have hk2 := HF3.out.trans (Fr.of_below (S := fun j => j = q) hB)
          have HE : Hid (ActE w W2 w4 q (r : Int) (.int .i64 0) (.int .i64 0) own') := hidIn (by
            exact ⟨_, ⟨HA3.out.keep hB HA3.out.lt, hOw, HTw.out.k.put r noC_ok, HTw.out.b.trans (hk2.below HTw.out.b.size (fun j hj => by have := Hq.out; omega))⟩, hk2, .inl ⟨r, h1, h2, rfl, rfl, rfl⟩⟩)
          clear hB hk2 HF3 HO3 HA3 HRA b0 b1 b2 b3 b4 b5 b6 b7 b8 b9 b10 b11
          go_wp2_with fail
          go_meet
          exact HE
        have Hno := hidIn hyes
        clear hyes HNy
        obtain ⟨b0, b1, b2, b3, b4, b5, b6, b7, b8, b9, b10, b11⟩ := HCl.out W2 (Fr.refl _ _)
        go_wp2_with fail
        refine (tclear_no HTw.out.t n Hno.out).mono ?_
        rintro e w3 ⟨rfl, hw3⟩
        rw [hw3]
        clear hw3 w3
        obtain ⟨w3, hw3⟩ : ∃ w3, W2 = w3 := ⟨_, rfl⟩
        have HF3 : Hid (Fr (fun j => j = q) W2 w3) := hidIn (by rw [← hw3]; exact Fr.refl _ _)
        have HO3 : Hid (OwAt w3 u4 T) := hidIn (by rw [← hw3]; exact HTw.out.o)
        have HA3 : Hid (TaAt w3 q T) := hidIn (by rw [← hw3]; exact HTw.out.t)
        rw [hw3]
        clear hw3
        clear b0 b1 b2 b3 b4 b5 b6 b7 b8 b9 b10 b11
        obtain ⟨b0, b1, b2, b3, b4, b5, b6, b7, b8, b9, b10, b11⟩ := HCl.out w3 HF3.out
        have HRA : Hid (Calls Try.prog 15 #[u4, .int .i64 n] w3 fun e w' => e = .returned (.tuple #[u4, .int .i64 2]) ∧ Below w3.heap.size w3 w') := hidIn (by
          exact dclear_no HO3.out Hno.out)
        go_wp2_with fail
        refine HRA.out.mono ?_
        rintro e w4 ⟨rfl, hB⟩
        have hk2 := HF3.out.trans (Fr.of_below (S := fun j => j = q) hB)
        have HE : Hid (ActE w W2 w4 q n (.int .i64 2) (.int .i64 2) u4) := hidIn (by
          exact ⟨_, ⟨HA3.out.keep hB HA3.out.lt, HO3.out.keep hB, HTw.out.k, HTw.out.b.trans (hk2.below HTw.out.b.size (fun j hj => by have := Hq.out; omega))⟩, hk2, .inr ⟨Hno.out, rfl, rfl⟩⟩)
        clear hB hk2 HF3 HO3 HA3 HRA b0 b1 b2 b3 b4 b5 b6 b7 b8 b9 b10 b11
        go_wp2_with fail
        go_meet
        exact HE
      case rest =>
        obtain ⟨T', hTw, hF, hca⟩ := hcut.out
        clear hcut
        rcases hca with ⟨r, h1, h2, hnr, hx, hy⟩ | ⟨hno, hx, hy⟩
        · subst hnr hx hy
          obtain ⟨g', cap', cur', rfl, hc1, hc2, hh, ht⟩ := hTw.o
          obtain ⟨b0, b1, b2, b3, b4, b5, b6, b7, b8, b9, b10, b11⟩ := HCl.out wc hF
          have HTk := hidIn hTw
          have HFk := hidIn hF
          have HHk := hidIn (And.intro hh ht)
          clear hTw hF hh ht
          go_wp2_with fail
          refine (tat_yes HTk.out.t h1 h2).mono ?_
          rintro e w4 ⟨rfl, hb4⟩
          obtain ⟨cc, hcc⟩ : ∃ cc, T' r = cc := ⟨_, rfl⟩
          rw [hcc]
          have Hcc := hidIn hcc
          clear hcc
          have HT4 := hidIn (HTk.out.keep hb4)
          have HF4 := hidIn (HFk.out.trans (Fr.of_below (S := fun j => j = q) hb4))
          have HH4 := hidIn (And.intro ((hb4.block g' (block_lt HHk.out.1)).trans HHk.out.1) HHk.out.2)
          clear hb4 HTk HFk HHk b0 b1 b2 b3 b4 b5 b6 b7 b8 b9 b10 b11
          go_upto_region 22 with fail
          have hz := heap_alloc_last w4 (cO cc)
          have hb5 : Below w4.heap.size w4 (w4.alloc (cO cc)) := (Below.refl _ w4).alloc (Nat.le_refl _) _
          have HT5 := hidIn (HT4.out.keep hb5)
          have HF5 := hidIn (HF4.out.trans (Fr.of_below (S := fun j => j = q) hb5))
          have hh5 := (hb5.block g' (block_lt HH4.out.1)).trans HH4.out.1
          obtain ⟨g, hg⟩ : ∃ g, w4.heap.size = g := ⟨_, rfl⟩
          rw [hg] at hz ⊢
          clear hb5 hg HT4 HF4
          generalize World.alloc _ _ = W5 at hz HT5 HF5 hh5 ⊢
          have HH5 := hidIn (And.intro hh5 HH4.out.2)
          clear hh5 HH4
          have HC5 : Hid (∀ wq, Below W5.heap.size W5 wq → wq.cell? ⟨p, 1, none⟩ = some (.int .i64 (r : Int)) ∧ wq.cell? ⟨g, 0, none⟩ = some (.int .u64 (cc 0)) ∧ wq.cell? ⟨g, 1, none⟩ = some (.int .u64 (cc 1)) ∧ wq.cell? ⟨g, 2, none⟩ = some (.int .u64 (cc 2)) ∧ wq.cell? ⟨g, 3, none⟩ = some (.int .u64 (cc 3)) ∧ wq.cell? ⟨g, 4, none⟩ = some (.int .u64 (cc 4)) ∧ wq.cell? ⟨g, 5, none⟩ = some (.int .u64 (cc 5)) ∧ wq.cell? ⟨g', r * 6, none⟩ = some (.int .u64 (cc 0)) ∧ wq.cell? ⟨g', r * 6 + 1, none⟩ = some (.int .u64 (cc 1)) ∧ wq.cell? ⟨g', r * 6 + 2, none⟩ = some (.int .u64 (cc 2)) ∧ wq.cell? ⟨g', r * 6 + 3, none⟩ = some (.int .u64 (cc 3)) ∧ wq.cell? ⟨g', r * 6 + 4, none⟩ = some (.int .u64 (cc 4)) ∧ wq.cell? ⟨g', r * 6 + 5, none⟩ = some (.int .u64 (cc 5))) := hidIn fun wq h => by
            obtain ⟨_, x1, _⟩ := HCl.out W5 HF5.out
            have x2 := (h.cell (p := ⟨p, 1, none⟩) (block_lt_of_cell x1)).trans x1
            have j := (h.block _ (block_lt hz)).trans hz
            have y := (h.block _ (block_lt HH5.out.1)).trans HH5.out.1
            have y0 := ow_cell y HH5.out.2 (r := r) (k := 0) (by omega) (by omega)
            have y1 := ow_cell y HH5.out.2 (r := r) (k := 1) (by omega) (by omega)
            have y2 := ow_cell y HH5.out.2 (r := r) (k := 2) (by omega) (by omega)
            have y3 := ow_cell y HH5.out.2 (r := r) (k := 3) (by omega) (by omega)
            have y4 := ow_cell y HH5.out.2 (r := r) (k := 4) (by omega) (by omega)
            have y5 := ow_cell y HH5.out.2 (r := r) (k := 5) (by omega) (by omega)
            rw [Hcc.out] at y0 y1 y2 y3 y4 y5
            exact ⟨x2, cell_of_row _ _ 0 _ _ _ j, cell_of_row _ _ 1 _ _ _ j, cell_of_row _ _ 2 _ _ _ j, cell_of_row _ _ 3 _ _ _ j, cell_of_row _ _ 4 _ _ _ j, cell_of_row _ _ 5 _ _ _ j, y0, y1, y2, y3, y4, y5⟩
          have HAl := hidIn (fun wx (h : Below W5.heap.size W5 wx) => tall_any (HT5.out.t.keep h HT5.out.t.lt) HT5.out.k)
          have HDl := hidIn (fun wx (h : Below W5.heap.size W5 wx) => dall15_any (HT5.out.o.keep h) HT5.out.k)
          obtain ⟨A, hA⟩ : ∃ A, allC T' 25 = A := ⟨_, rfl⟩
          rw [hA] at HAl HDl
          have hqA := fun w => eq_refl6 (A 0) (A 1) (A 2) (A 3) (A 4) (A 5) w
          have hqc := fun w => eq_refl6 (cc 0) (cc 1) (cc 2) (cc 3) (cc 4) (cc 5) w
          have hri : (r : Int) < 25 := by omega
          have HRo := hidIn (fun wx => drouter_yes (n := (r : Int)) (by omega) (by omega) wx)
          clear hz hA
          refine wp_region_held_drew (S := fun wx => Below W5.heap.size W5 wx) (by kernel_rfl) ((Below.refl _ W5).drew) (fun hHeld => ?_)
          have hd0 : Below W5.heap.size W5 W5.drew := hHeld
          obtain ⟨wd, hwd⟩ : ∃ wd, W5.drew = wd := ⟨_, rfl⟩
          rw [hwd] at hd0 ⊢
          clear hwd hHeld
          refine wpAnyH_take (i := 0) (v := .int .i64 0) rfl (by kernel_rfl) (by kernel_rfl) (by kernel_rfl) (fun _ _ _ h => h) (Or.inl ⟨by kernel_rfl, fun _ _ => by kernel_rfl⟩) (by assumption) ?_
          refine wpAnyH_take (i := 1) (v := .int .i64 0) rfl (by kernel_rfl) (by kernel_rfl) (by kernel_rfl) (fun _ _ _ h => h) (Or.inl ⟨by kernel_rfl, fun _ _ => by kernel_rfl⟩) (by assumption) ?_
          refine wpAnyH_take (i := 2) (v := .bool false) rfl (by kernel_rfl) (by kernel_rfl) (by kernel_rfl) (fun _ _ _ h => h) (Or.inl ⟨by kernel_rfl, fun _ _ => by kernel_rfl⟩) (by assumption) ?_
          refine wpAnyH_take (i := 3) (v := .bool false) rfl (by kernel_rfl) (by kernel_rfl) (by kernel_rfl) (fun _ _ _ h => h) (Or.inl ⟨by kernel_rfl, fun _ _ => by kernel_rfl⟩) (by assumption) ?_
          refine wpAnyH_take (i := 4) (v := .int .i64 0) rfl (by kernel_rfl) (by kernel_rfl) (by kernel_rfl) (fun _ _ _ h => h) (Or.inl ⟨by kernel_rfl, fun _ _ => by kernel_rfl⟩) (by assumption) ?_
          refine wpAnyH_take (i := 5) (v := .int .i64 0) rfl (by kernel_rfl) (by kernel_rfl) (by kernel_rfl) (fun _ _ _ h => h) (Or.inl ⟨by kernel_rfl, fun _ _ => by kernel_rfl⟩) (by assumption) ?_
          refine wpAnyH_take (i := 6) (v := .bool false) rfl (by kernel_rfl) (by kernel_rfl) (by kernel_rfl) (fun _ _ _ h => h) (Or.inl ⟨by kernel_rfl, fun _ _ => by kernel_rfl⟩) (by assumption) ?_
          refine wpAnyH_take (i := 7) (v := .bool false) rfl (by kernel_rfl) (by kernel_rfl) (by kernel_rfl) (fun _ _ _ h => h) (Or.inl ⟨by kernel_rfl, fun _ _ => by kernel_rfl⟩) (by assumption) ?_
          refine wpAnyH_take (i := 8) (v := .bool false) rfl (by kernel_rfl) (by kernel_rfl) (by kernel_rfl) (fun _ _ _ h => h) (Or.inl ⟨by kernel_rfl, fun _ _ => by kernel_rfl⟩) (by assumption) ?_
          refine wpAnyH_take (i := 9) (v := .pointer (some ⟨p, 1, none⟩)) rfl (by kernel_rfl) (by kernel_rfl) (by kernel_rfl) (fun _ _ _ h => h) (Or.inl ⟨by kernel_rfl, fun _ _ => by kernel_rfl⟩) (by assumption) ?_
          refine wpAnyH_take (i := 10) (v := .int .i64 (r : Int)) rfl (by kernel_rfl) (by kernel_rfl) (by kernel_rfl) (fun _ _ _ h => h) (Or.inl ⟨by kernel_rfl, fun wq hSw => by
            obtain ⟨v1, x0, x1, x2, x3, x4, x5, y0, y1, y2, y3, y4, y5⟩ := HC5.out wq hSw
            go_simp⟩) (by assumption) ?_
          refine wpAnyH_ready (rs := [11]) (by kernel_rfl) (by simp) ?_
          refine AllReadyH.cons (i := 11) rfl ?_ AllReadyH.nil
          go_simp
          intro K hK
          refine (HRo.out wd).mono ?_
          rintro e wk ⟨rfl, hwk⟩
          rw [hwk]
          refine hK.out _ _ hd0 (fun _ => ?_)
          clear hK K hwk wk
          refine wpAnyH_take (i := 12) (v := .bool true) rfl (by kernel_rfl) (by kernel_rfl) (by kernel_rfl) (fun _ _ _ h => h) (Or.inl ⟨by kernel_rfl, fun _ _ => by kernel_rfl⟩) (by assumption) ?_
          refine wpAnyH_take (i := 13) (v := .agg #[.int .u64 (cc 0), .int .u64 (cc 1), .int .u64 (cc 2), .int .u64 (cc 3), .int .u64 (cc 4), .int .u64 (cc 5)]) rfl (by kernel_rfl) (by kernel_rfl) (by kernel_rfl) (fun _ _ _ h => h) (Or.inl ⟨by kernel_rfl, fun wq hSw => by
            obtain ⟨v1, x0, x1, x2, x3, x4, x5, y0, y1, y2, y3, y4, y5⟩ := HC5.out wq hSw
            go_simp⟩) (by assumption) ?_
          refine wpAnyH_take (i := 14) (v := .slice (some ⟨g', 0, none⟩) 25 cap') rfl (by kernel_rfl) (by kernel_rfl) (by kernel_rfl) (fun _ _ _ h => h) (Or.inl ⟨by kernel_rfl, fun _ _ => by kernel_rfl⟩) (by assumption) ?_
          refine wpAnyH_take (i := 15) (v := .pointer (some ⟨p, 1, none⟩)) rfl (by kernel_rfl) (by kernel_rfl) (by kernel_rfl) (fun _ _ _ h => h) (Or.inl ⟨by kernel_rfl, fun _ _ => by kernel_rfl⟩) (by assumption) ?_
          refine wpAnyH_take (i := 16) (v := .int .i64 (r : Int)) rfl (by kernel_rfl) (by kernel_rfl) (by kernel_rfl) (fun _ _ _ h => h) (Or.inl ⟨by kernel_rfl, fun wq hSw => by
            obtain ⟨v1, x0, x1, x2, x3, x4, x5, y0, y1, y2, y3, y4, y5⟩ := HC5.out wq hSw
            go_simp⟩) (by assumption) ?_
          refine wpAnyH_take (i := 17) (v := .pointer (some ⟨g', r * 6, none⟩)) rfl (by kernel_rfl) (by kernel_rfl) (by kernel_rfl) (fun _ _ _ h => h) (Or.inl ⟨by kernel_rfl, fun _ _ => by go_simp⟩) (by assumption) ?_
          refine wpAnyH_take (i := 18) (v := .agg #[.int .u64 (cc 0), .int .u64 (cc 1), .int .u64 (cc 2), .int .u64 (cc 3), .int .u64 (cc 4), .int .u64 (cc 5)]) rfl (by kernel_rfl) (by kernel_rfl) (by kernel_rfl) (fun _ _ _ h => h) (Or.inl ⟨by kernel_rfl, fun wq hSw => by
            obtain ⟨v1, x0, x1, x2, x3, x4, x5, y0, y1, y2, y3, y4, y5⟩ := HC5.out wq hSw
            go_simp⟩) (by assumption) ?_
          refine wpAnyH_take (i := 19) (v := .bool false) rfl (by kernel_rfl) (by kernel_rfl) (by kernel_rfl) (fun _ _ _ h => h) (Or.inl ⟨by kernel_rfl, fun _ _ => by go_simp⟩) (by assumption) ?_
          refine wpAnyH_take (i := 20) (v := .bool false) rfl (by kernel_rfl) (by kernel_rfl) (by kernel_rfl) (fun _ _ _ h => h) (Or.inl ⟨by kernel_rfl, fun _ _ => by kernel_rfl⟩) (by assumption) ?_
          refine wpAnyH_take (i := 21) (v := .bool false) rfl (by kernel_rfl) (by kernel_rfl) (by kernel_rfl) (fun _ _ _ h => h) (Or.inl ⟨by kernel_rfl, fun _ _ => by kernel_rfl⟩) (by assumption) ?_
          refine wpAnyH_take (i := 22) (v := .bool false) rfl (by kernel_rfl) (by kernel_rfl) (by kernel_rfl) (fun _ _ _ h => h) (Or.inl ⟨by kernel_rfl, fun _ _ => by kernel_rfl⟩) (by assumption) ?_
          refine wpAnyH_take (i := 23) (v := .pointer (some ⟨p, 1, none⟩)) rfl (by kernel_rfl) (by kernel_rfl) (by kernel_rfl) (fun _ _ _ h => h) (Or.inl ⟨by kernel_rfl, fun _ _ => by kernel_rfl⟩) (by assumption) ?_
          refine wpAnyH_take (i := 24) (v := .int .i64 (r : Int)) rfl (by kernel_rfl) (by kernel_rfl) (by kernel_rfl) (fun _ _ _ h => h) (Or.inl ⟨by kernel_rfl, fun wq hSw => by
            obtain ⟨v1, x0, x1, x2, x3, x4, x5, y0, y1, y2, y3, y4, y5⟩ := HC5.out wq hSw
            go_simp⟩) (by assumption) ?_
          refine wpAnyH_ready (rs := [25]) (by kernel_rfl) (by simp) ?_
          refine AllReadyH.cons (i := 25) rfl ?_ AllReadyH.nil
          go_simp
          intro K hK
          refine (HRo.out wd).mono ?_
          rintro e wk ⟨rfl, hwk⟩
          rw [hwk]
          refine hK.out _ _ hd0 (fun _ => ?_)
          clear hK K hwk wk
          refine wpAnyH_take (i := 26) (v := .bool false) rfl (by kernel_rfl) (by kernel_rfl) (by kernel_rfl) (fun _ _ _ h => h) (Or.inl ⟨by kernel_rfl, fun _ _ => by kernel_rfl⟩) (by assumption) ?_
          refine wpAnyH_take (i := 27) (v := .bool false) rfl (by kernel_rfl) (by kernel_rfl) (by kernel_rfl) (fun _ _ _ h => h) (Or.inl ⟨by kernel_rfl, fun _ _ => by kernel_rfl⟩) (by assumption) ?_
          refine wpAnyH_take (i := 28) (v := undef) rfl (by kernel_rfl) (by kernel_rfl) (by kernel_rfl) (fun _ _ _ h => h) (Or.inr ⟨by kernel_rfl, rfl⟩) (by assumption) ?_
          refine wpAnyH_take (i := 29) (v := undef) rfl (by kernel_rfl) (by kernel_rfl) (by kernel_rfl) (fun _ _ _ h => h) (Or.inr ⟨by kernel_rfl, rfl⟩) (by assumption) ?_
          refine wpAnyH_take (i := 30) (v := undef) rfl (by kernel_rfl) (by kernel_rfl) (by kernel_rfl) (fun _ _ _ h => h) (Or.inr ⟨by kernel_rfl, rfl⟩) (by assumption) ?_
          refine wpAnyH_take (i := 31) (v := .bool false) rfl (by kernel_rfl) (by kernel_rfl) (by kernel_rfl) (fun _ _ _ h => h) (Or.inl ⟨by kernel_rfl, fun _ _ => by kernel_rfl⟩) (by assumption) ?_
          refine wpAnyH_take (i := 32) (v := .bool false) rfl (by kernel_rfl) (by kernel_rfl) (by kernel_rfl) (fun _ _ _ h => h) (Or.inl ⟨by kernel_rfl, fun _ _ => by kernel_rfl⟩) (by assumption) ?_
          refine wpAnyH_take (i := 33) (v := .bool false) rfl (by kernel_rfl) (by kernel_rfl) (by kernel_rfl) (fun _ _ _ h => h) (Or.inl ⟨by kernel_rfl, fun _ _ => by kernel_rfl⟩) (by assumption) ?_
          refine wpAnyH_take (i := 34) (v := tp q) rfl (by kernel_rfl) (by kernel_rfl) (by kernel_rfl) (fun _ _ _ h => h) (Or.inl ⟨by kernel_rfl, fun _ _ => by kernel_rfl⟩) (by assumption) ?_
          refine wpAnyH_take (i := 36) (v := .slice (some ⟨g', 0, none⟩) 25 cap') rfl (by kernel_rfl) (by kernel_rfl) (by kernel_rfl) (fun _ _ _ h => h) (Or.inl ⟨by kernel_rfl, fun _ _ => by kernel_rfl⟩) (by assumption) ?_
          refine wpAnyH_ready (rs := [35]) (by kernel_rfl) (by simp) ?_
          refine AllReadyH.cons (i := 35) rfl ?_ AllReadyH.nil
          go_simp
          intro K hK
          refine (HAl.out wd hd0).mono ?_
          rintro e wk1 ⟨rfl, hx1⟩
          have hk1 := hd0.trans (hx1.mono hd0.size)
          refine hK.out _ _ hk1 (fun _ => ?_)
          clear hK K
          refine wpAnyH_ready (rs := [37]) (by kernel_rfl) (by simp) ?_
          refine AllReadyH.cons (i := 37) rfl ?_ AllReadyH.nil
          go_simp
          intro K hK
          refine (HDl.out wk1 hk1).mono ?_
          rintro e wk2 ⟨rfl, hx2⟩
          have hk2 := hk1.trans (hx2.mono hk1.size)
          refine hK.out _ _ hk2 (fun _ => ?_)
          clear hK K
          refine wpAnyH_take (i := 38) (v := .bool false) rfl (by kernel_rfl) (by kernel_rfl) (by kernel_rfl) (fun _ _ _ h => h) (Or.inl ⟨by kernel_rfl, fun _ _ => by go_simp⟩) (by assumption) ?_
          refine wpAnyH_take (i := 39) (v := .bool false) rfl (by kernel_rfl) (by kernel_rfl) (by kernel_rfl) (fun _ _ _ h => h) (Or.inl ⟨by kernel_rfl, fun _ _ => by kernel_rfl⟩) (by assumption) ?_
          refine wpAnyH_done (by kernel_rfl) ?_ _
          have HE := hidIn (HT5.out.keep hk2)
          clear hd0 hk1 hk2 hx1 hx2 HT5 HF5 HH5 HC5 HAl HDl hqA hqc HRo HCl
          go_wp2_with fail
          go_roundw
          case rel => exact ⟨k + 1, by omega, by omega, by go_num, hidIn ⟨_, HE.out⟩⟩
          case measure => simp [intOf]; omega
        · subst hx hy
          have Hno := hidIn hno
          clear hno
          obtain ⟨g', cap', cur', rfl, hc1, hc2, hh, ht⟩ := hTw.o
          obtain ⟨b0, b1, b2, b3, b4, b5, b6, b7, b8, b9, b10, b11⟩ := HCl.out wc hF
          have HTk := hidIn hTw
          have HFk := hidIn hF
          have HHk := hidIn (And.intro hh ht)
          clear hTw hF hh ht
          go_wp2_with fail
          have e0 : cV noC = cV0 := by kernel_rfl
          have hAn := tat_no HTk.out.t n Hno.out
          rw [e0] at hAn
          clear e0
          refine hAn.mono ?_
          clear hAn
          rintro e w4 ⟨rfl, hb4⟩
          have HT4 := hidIn (HTk.out.keep hb4)
          have HF4 := hidIn (HFk.out.trans (Fr.of_below (S := fun j => j = q) hb4))
          have HH4 := hidIn (And.intro ((hb4.block g' (block_lt HHk.out.1)).trans HHk.out.1) HHk.out.2)
          clear hb4 HTk HFk HHk b0 b1 b2 b3 b4 b5 b6 b7 b8 b9 b10 b11
          go_upto_region 22 with fail
          have hz := heap_alloc_last w4 (cO0)
          have hb5 : Below w4.heap.size w4 (w4.alloc (cO0)) := (Below.refl _ w4).alloc (Nat.le_refl _) _
          have HT5 := hidIn (HT4.out.keep hb5)
          have HF5 := hidIn (HF4.out.trans (Fr.of_below (S := fun j => j = q) hb5))
          have hh5 := (hb5.block g' (block_lt HH4.out.1)).trans HH4.out.1
          obtain ⟨g, hg⟩ : ∃ g, w4.heap.size = g := ⟨_, rfl⟩
          rw [hg] at hz ⊢
          clear hb5 hg HT4 HF4
          generalize World.alloc _ _ = W5 at hz HT5 HF5 hh5 ⊢
          have HH5 := hidIn (And.intro hh5 HH4.out.2)
          clear hh5 HH4
          have HC5 : Hid (∀ wq, Below W5.heap.size W5 wq → wq.cell? ⟨p, 1, none⟩ = some (.int .i64 n) ∧ wq.cell? ⟨g, 0, none⟩ = some (.int .u64 0) ∧ wq.cell? ⟨g, 1, none⟩ = some (.int .u64 0) ∧ wq.cell? ⟨g, 2, none⟩ = some (.int .u64 0) ∧ wq.cell? ⟨g, 3, none⟩ = some (.int .u64 0) ∧ wq.cell? ⟨g, 4, none⟩ = some (.int .u64 0) ∧ wq.cell? ⟨g, 5, none⟩ = some (.int .u64 0)) := hidIn fun wq h => by
            obtain ⟨_, x1, _⟩ := HCl.out W5 HF5.out
            have x2 := (h.cell (p := ⟨p, 1, none⟩) (block_lt_of_cell x1)).trans x1
            have j := (h.block _ (block_lt hz)).trans hz
            exact ⟨x2, cell_of_row _ _ 0 _ _ _ j, cell_of_row _ _ 1 _ _ _ j, cell_of_row _ _ 2 _ _ _ j, cell_of_row _ _ 3 _ _ _ j, cell_of_row _ _ 4 _ _ _ j, cell_of_row _ _ 5 _ _ _ j⟩
          have HAl := hidIn (fun wx (h : Below W5.heap.size W5 wx) => tall_any (HT5.out.t.keep h HT5.out.t.lt) HT5.out.k)
          have HDl := hidIn (fun wx (h : Below W5.heap.size W5 wx) => dall15_any (HT5.out.o.keep h) HT5.out.k)
          obtain ⟨A, hA⟩ : ∃ A, allC T' 25 = A := ⟨_, rfl⟩
          rw [hA] at HAl HDl
          have hqA := fun w => eq_refl6 (A 0) (A 1) (A 2) (A 3) (A 4) (A 5) w
          have hqc := fun w => eq_refl6 0 0 0 0 0 0 w
          have HRo := hidIn (fun wx => drouter_no Hno.out wx)
          clear hz hA
          refine wp_region_held_drew (S := fun wx => Below W5.heap.size W5 wx) (by kernel_rfl) ((Below.refl _ W5).drew) (fun hHeld => ?_)
          have hd0 : Below W5.heap.size W5 W5.drew := hHeld
          obtain ⟨wd, hwd⟩ : ∃ wd, W5.drew = wd := ⟨_, rfl⟩
          rw [hwd] at hd0 ⊢
          clear hwd hHeld
          refine wpAnyH_take (i := 0) (v := .int .i64 2) rfl (by kernel_rfl) (by kernel_rfl) (by kernel_rfl) (fun _ _ _ h => h) (Or.inl ⟨by kernel_rfl, fun _ _ => by kernel_rfl⟩) (by assumption) ?_
          refine wpAnyH_take (i := 1) (v := .int .i64 2) rfl (by kernel_rfl) (by kernel_rfl) (by kernel_rfl) (fun _ _ _ h => h) (Or.inl ⟨by kernel_rfl, fun _ _ => by kernel_rfl⟩) (by assumption) ?_
          refine wpAnyH_take (i := 2) (v := .bool false) rfl (by kernel_rfl) (by kernel_rfl) (by kernel_rfl) (fun _ _ _ h => h) (Or.inl ⟨by kernel_rfl, fun _ _ => by kernel_rfl⟩) (by assumption) ?_
          refine wpAnyH_take (i := 3) (v := .bool false) rfl (by kernel_rfl) (by kernel_rfl) (by kernel_rfl) (fun _ _ _ h => h) (Or.inl ⟨by kernel_rfl, fun _ _ => by kernel_rfl⟩) (by assumption) ?_
          refine wpAnyH_take (i := 4) (v := .int .i64 2) rfl (by kernel_rfl) (by kernel_rfl) (by kernel_rfl) (fun _ _ _ h => h) (Or.inl ⟨by kernel_rfl, fun _ _ => by kernel_rfl⟩) (by assumption) ?_
          refine wpAnyH_take (i := 5) (v := .int .i64 2) rfl (by kernel_rfl) (by kernel_rfl) (by kernel_rfl) (fun _ _ _ h => h) (Or.inl ⟨by kernel_rfl, fun _ _ => by kernel_rfl⟩) (by assumption) ?_
          refine wpAnyH_take (i := 6) (v := .bool false) rfl (by kernel_rfl) (by kernel_rfl) (by kernel_rfl) (fun _ _ _ h => h) (Or.inl ⟨by kernel_rfl, fun _ _ => by kernel_rfl⟩) (by assumption) ?_
          refine wpAnyH_take (i := 7) (v := .bool false) rfl (by kernel_rfl) (by kernel_rfl) (by kernel_rfl) (fun _ _ _ h => h) (Or.inl ⟨by kernel_rfl, fun _ _ => by kernel_rfl⟩) (by assumption) ?_
          refine wpAnyH_take (i := 8) (v := .bool false) rfl (by kernel_rfl) (by kernel_rfl) (by kernel_rfl) (fun _ _ _ h => h) (Or.inl ⟨by kernel_rfl, fun _ _ => by kernel_rfl⟩) (by assumption) ?_
          refine wpAnyH_take (i := 9) (v := .pointer (some ⟨p, 1, none⟩)) rfl (by kernel_rfl) (by kernel_rfl) (by kernel_rfl) (fun _ _ _ h => h) (Or.inl ⟨by kernel_rfl, fun _ _ => by kernel_rfl⟩) (by assumption) ?_
          refine wpAnyH_take (i := 10) (v := .int .i64 n) rfl (by kernel_rfl) (by kernel_rfl) (by kernel_rfl) (fun _ _ _ h => h) (Or.inl ⟨by kernel_rfl, fun wq hSw => by
            obtain ⟨v1, x0, x1, x2, x3, x4, x5⟩ := HC5.out wq hSw
            go_simp⟩) (by assumption) ?_
          refine wpAnyH_ready (rs := [11]) (by kernel_rfl) (by simp) ?_
          refine AllReadyH.cons (i := 11) rfl ?_ AllReadyH.nil
          go_simp
          intro K hK
          refine (HRo.out wd).mono ?_
          rintro e wk ⟨rfl, hwk⟩
          rw [hwk]
          refine hK.out _ _ hd0 (fun _ => ?_)
          clear hK K hwk wk
          refine wpAnyH_take (i := 12) (v := .bool false) rfl (by kernel_rfl) (by kernel_rfl) (by kernel_rfl) (fun _ _ _ h => h) (Or.inl ⟨by kernel_rfl, fun _ _ => by kernel_rfl⟩) (by assumption) ?_
          refine wpAnyH_take (i := 13) (v := undef) rfl (by kernel_rfl) (by kernel_rfl) (by kernel_rfl) (fun _ _ _ h => h) (Or.inr ⟨by kernel_rfl, rfl⟩) (by assumption) ?_
          refine wpAnyH_take (i := 14) (v := undef) rfl (by kernel_rfl) (by kernel_rfl) (by kernel_rfl) (fun _ _ _ h => h) (Or.inr ⟨by kernel_rfl, rfl⟩) (by assumption) ?_
          refine wpAnyH_take (i := 15) (v := undef) rfl (by kernel_rfl) (by kernel_rfl) (by kernel_rfl) (fun _ _ _ h => h) (Or.inr ⟨by kernel_rfl, rfl⟩) (by assumption) ?_
          refine wpAnyH_take (i := 16) (v := undef) rfl (by kernel_rfl) (by kernel_rfl) (by kernel_rfl) (fun _ _ _ h => h) (Or.inr ⟨by kernel_rfl, rfl⟩) (by assumption) ?_
          refine wpAnyH_take (i := 17) (v := undef) rfl (by kernel_rfl) (by kernel_rfl) (by kernel_rfl) (fun _ _ _ h => h) (Or.inr ⟨by kernel_rfl, rfl⟩) (by assumption) ?_
          refine wpAnyH_take (i := 18) (v := undef) rfl (by kernel_rfl) (by kernel_rfl) (by kernel_rfl) (fun _ _ _ h => h) (Or.inr ⟨by kernel_rfl, rfl⟩) (by assumption) ?_
          refine wpAnyH_take (i := 19) (v := undef) rfl (by kernel_rfl) (by kernel_rfl) (by kernel_rfl) (fun _ _ _ h => h) (Or.inr ⟨by kernel_rfl, rfl⟩) (by assumption) ?_
          refine wpAnyH_take (i := 20) (v := .bool false) rfl (by kernel_rfl) (by kernel_rfl) (by kernel_rfl) (fun _ _ _ h => h) (Or.inl ⟨by kernel_rfl, fun _ _ => by kernel_rfl⟩) (by assumption) ?_
          refine wpAnyH_take (i := 21) (v := .bool false) rfl (by kernel_rfl) (by kernel_rfl) (by kernel_rfl) (fun _ _ _ h => h) (Or.inl ⟨by kernel_rfl, fun _ _ => by kernel_rfl⟩) (by assumption) ?_
          refine wpAnyH_take (i := 22) (v := .bool false) rfl (by kernel_rfl) (by kernel_rfl) (by kernel_rfl) (fun _ _ _ h => h) (Or.inl ⟨by kernel_rfl, fun _ _ => by kernel_rfl⟩) (by assumption) ?_
          refine wpAnyH_take (i := 23) (v := .pointer (some ⟨p, 1, none⟩)) rfl (by kernel_rfl) (by kernel_rfl) (by kernel_rfl) (fun _ _ _ h => h) (Or.inl ⟨by kernel_rfl, fun _ _ => by kernel_rfl⟩) (by assumption) ?_
          refine wpAnyH_take (i := 24) (v := .int .i64 n) rfl (by kernel_rfl) (by kernel_rfl) (by kernel_rfl) (fun _ _ _ h => h) (Or.inl ⟨by kernel_rfl, fun wq hSw => by
            obtain ⟨v1, x0, x1, x2, x3, x4, x5⟩ := HC5.out wq hSw
            go_simp⟩) (by assumption) ?_
          refine wpAnyH_ready (rs := [25]) (by kernel_rfl) (by simp) ?_
          refine AllReadyH.cons (i := 25) rfl ?_ AllReadyH.nil
          go_simp
          intro K hK
          refine (HRo.out wd).mono ?_
          rintro e wk ⟨rfl, hwk⟩
          rw [hwk]
          refine hK.out _ _ hd0 (fun _ => ?_)
          clear hK K hwk wk
          refine wpAnyH_take (i := 26) (v := .bool true) rfl (by kernel_rfl) (by kernel_rfl) (by kernel_rfl) (fun _ _ _ h => h) (Or.inl ⟨by kernel_rfl, fun _ _ => by kernel_rfl⟩) (by assumption) ?_
          refine wpAnyH_take (i := 27) (v := .bool true) rfl (by kernel_rfl) (by kernel_rfl) (by kernel_rfl) (fun _ _ _ h => h) (Or.inl ⟨by kernel_rfl, fun _ _ => by kernel_rfl⟩) (by assumption) ?_
          refine wpAnyH_take (i := 28) (v := .agg #[.int .u64 0, .int .u64 0, .int .u64 0, .int .u64 0, .int .u64 0, .int .u64 0]) rfl (by kernel_rfl) (by kernel_rfl) (by kernel_rfl) (fun _ _ _ h => h) (Or.inl ⟨by kernel_rfl, fun wq hSw => by
            obtain ⟨v1, x0, x1, x2, x3, x4, x5⟩ := HC5.out wq hSw
            go_simp⟩) (by assumption) ?_
          refine wpAnyH_take (i := 29) (v := .agg #[.int .u64 0, .int .u64 0, .int .u64 0, .int .u64 0, .int .u64 0, .int .u64 0]) rfl (by kernel_rfl) (by kernel_rfl) (by kernel_rfl) (fun _ _ _ h => h) (Or.inl ⟨by kernel_rfl, fun _ _ => by kernel_rfl⟩) (by assumption) ?_
          refine wpAnyH_take (i := 30) (v := .bool false) rfl (by kernel_rfl) (by kernel_rfl) (by kernel_rfl) (fun _ _ _ h => h) (Or.inl ⟨by kernel_rfl, fun _ _ => by go_simp⟩) (by assumption) ?_
          refine wpAnyH_take (i := 31) (v := .bool false) rfl (by kernel_rfl) (by kernel_rfl) (by kernel_rfl) (fun _ _ _ h => h) (Or.inl ⟨by kernel_rfl, fun _ _ => by kernel_rfl⟩) (by assumption) ?_
          refine wpAnyH_take (i := 32) (v := .bool false) rfl (by kernel_rfl) (by kernel_rfl) (by kernel_rfl) (fun _ _ _ h => h) (Or.inl ⟨by kernel_rfl, fun _ _ => by kernel_rfl⟩) (by assumption) ?_
          refine wpAnyH_take (i := 33) (v := .bool false) rfl (by kernel_rfl) (by kernel_rfl) (by kernel_rfl) (fun _ _ _ h => h) (Or.inl ⟨by kernel_rfl, fun _ _ => by kernel_rfl⟩) (by assumption) ?_
          refine wpAnyH_take (i := 34) (v := tp q) rfl (by kernel_rfl) (by kernel_rfl) (by kernel_rfl) (fun _ _ _ h => h) (Or.inl ⟨by kernel_rfl, fun _ _ => by kernel_rfl⟩) (by assumption) ?_
          refine wpAnyH_take (i := 36) (v := .slice (some ⟨g', 0, none⟩) 25 cap') rfl (by kernel_rfl) (by kernel_rfl) (by kernel_rfl) (fun _ _ _ h => h) (Or.inl ⟨by kernel_rfl, fun _ _ => by kernel_rfl⟩) (by assumption) ?_
          refine wpAnyH_ready (rs := [35]) (by kernel_rfl) (by simp) ?_
          refine AllReadyH.cons (i := 35) rfl ?_ AllReadyH.nil
          go_simp
          intro K hK
          refine (HAl.out wd hd0).mono ?_
          rintro e wk1 ⟨rfl, hx1⟩
          have hk1 := hd0.trans (hx1.mono hd0.size)
          refine hK.out _ _ hk1 (fun _ => ?_)
          clear hK K
          refine wpAnyH_ready (rs := [37]) (by kernel_rfl) (by simp) ?_
          refine AllReadyH.cons (i := 37) rfl ?_ AllReadyH.nil
          go_simp
          intro K hK
          refine (HDl.out wk1 hk1).mono ?_
          rintro e wk2 ⟨rfl, hx2⟩
          have hk2 := hk1.trans (hx2.mono hk1.size)
          refine hK.out _ _ hk2 (fun _ => ?_)
          clear hK K
          refine wpAnyH_take (i := 38) (v := .bool false) rfl (by kernel_rfl) (by kernel_rfl) (by kernel_rfl) (fun _ _ _ h => h) (Or.inl ⟨by kernel_rfl, fun _ _ => by go_simp⟩) (by assumption) ?_
          refine wpAnyH_take (i := 39) (v := .bool false) rfl (by kernel_rfl) (by kernel_rfl) (by kernel_rfl) (fun _ _ _ h => h) (Or.inl ⟨by kernel_rfl, fun _ _ => by kernel_rfl⟩) (by assumption) ?_
          refine wpAnyH_done (by kernel_rfl) ?_ _
          have HE := hidIn (HT5.out.keep hk2)
          clear hd0 hk1 hk2 hx1 hx2 HT5 HF5 HH5 HC5 HAl HDl hqA hqc HRo HCl
          go_wp2_with fail
          go_roundw
          case rel => exact ⟨k + 1, by omega, by omega, by go_num, hidIn ⟨_, HE.out⟩⟩
          case measure => simp [intOf]; omega
    · clear HCell HL
      obtain ⟨T, hTw⟩ := HR.out
      obtain ⟨g', cap', cur', rfl, hc1, hc2, hh, ht⟩ := hTw.o
      have HTk := hidIn hTw
      have HHk := hidIn (And.intro hh ht)
      clear HR hTw hh ht
      go_upto_region 6 with fail
      go_cut [25] (fun c wx => c = .bool false ∧ wx = wr)
      case first =>
        by_cases h1 : k < ln
        · have h1i : (k : Int) < (ln : Int) := by omega
          have h2i : ¬ (k : Int) < 60 := by omega
          clear hlt
          go_wp2_with fail
          go_meet
          exact ⟨rfl, rfl⟩
        · have h1i : ¬ (k : Int) < (ln : Int) := by omega
          clear hlt
          go_wp2_with fail
          go_meet
          exact ⟨rfl, rfl⟩
      case rest =>
        obtain ⟨rfl, hwc⟩ := hcut
        rw [hwc]
        clear hwc wc hlt
        go_wp2_with fail
        refine (tcopy_any HTk.out.t).mono ?_
        rintro e w3 ⟨rfl, hw3⟩
        have hb3 : Below wr.heap.size wr w3 := by rw [hw3]; exact (Below.refl _ wr).alloc (Nat.le_refl _) _
        have HU3 : Hid (TaAt w3 wr.heap.size T) := hidIn (by rw [hw3]; exact taAt_new wr T)
        have HT3 := hidIn (HTk.out.keep hb3)
        have HH3 := hidIn (And.intro ((hb3.block g' (block_lt HHk.out.1)).trans HHk.out.1) HHk.out.2)
        have hqu : q < wr.heap.size := HTk.out.t.lt
        have hgu : g' < wr.heap.size := block_lt HHk.out.1
        obtain ⟨u, hu⟩ : ∃ u, wr.heap.size = u := ⟨_, rfl⟩
        rw [hu] at HU3 hqu hgu ⊢
        clear hb3 hw3 HTk HHk hu
        go_wp2_with fail
        refine (show Calls Try.prog 13 #[tp u, .int .i64 1] w3 (fun e w' => e = .returned (.int .i64 0) ∧ TaAt w' u (putC T 1 (addC (T 1) badC)) ∧ Fr (fun j => j = u) w3 w') from tbad_yes HU3.out HT3.out.k (r := 1) (by omega) (by omega)).mono ?_
        rintro e w4 ⟨rfl, _, hF⟩
        have HT4 : Hid (TaAt w4 q T ∧ OkT T ∧ Below w.heap.size w w4) := hidIn ⟨(hF.block q HT3.out.t.lt (by omega)).trans HT3.out.t, HT3.out.k, HT3.out.b.trans (hF.below HT3.out.b.size (fun j hj => by have := Hq.out; omega))⟩
        have HH4 := hidIn (And.intro ((hF.block g' (block_lt HH3.out.1) (by omega)).trans HH3.out.1) HH3.out.2)
        clear hF HU3 HT3 HH3
        go_wp2_with fail
        refine (show Calls Try.prog 16 #[tp q, .int .i64 1] w4 (fun e w' => e = .returned (.tuple #[cV (T 1), .int .i64 0]) ∧ Below w4.heap.size w4 w') from tat_yes HT4.out.1 (r := 1) (by omega) (by omega)).mono ?_
        rintro e w5 ⟨rfl, hb5⟩
        obtain ⟨cc, hcc⟩ : ∃ cc, T 1 = cc := ⟨_, rfl⟩
        rw [hcc]
        have Hcc := hidIn hcc
        have HT5 := hidIn (HT4.out.2.2.trans (hb5.mono HT4.out.2.2.size))
        have HH5 := hidIn (And.intro ((hb5.block g' (block_lt HH4.out.1)).trans HH4.out.1) HH4.out.2)
        clear hb5 hcc HT4 HH4
        go_upto_region 28 with fail
        have hz := heap_alloc_last w5 (cO cc)
        have hb6 : Below w5.heap.size w5 (w5.alloc (cO cc)) := (Below.refl _ w5).alloc (Nat.le_refl _) _
        have HT6 := hidIn (HT5.out.trans (hb6.mono HT5.out.size))
        have hh6 := (hb6.block g' (block_lt HH5.out.1)).trans HH5.out.1
        obtain ⟨g, hg⟩ : ∃ g, w5.heap.size = g := ⟨_, rfl⟩
        rw [hg] at hz ⊢
        clear hb6 hg HT5
        generalize World.alloc _ _ = W6 at hz HT6 hh6 ⊢
        have HC6 : Hid (∀ wq, Below W6.heap.size W6 wq → wq.cell? ⟨g, 0, none⟩ = some (.int .u64 (cc 0)) ∧ wq.cell? ⟨g, 1, none⟩ = some (.int .u64 (cc 1)) ∧ wq.cell? ⟨g, 2, none⟩ = some (.int .u64 (cc 2)) ∧ wq.cell? ⟨g, 3, none⟩ = some (.int .u64 (cc 3)) ∧ wq.cell? ⟨g, 4, none⟩ = some (.int .u64 (cc 4)) ∧ wq.cell? ⟨g, 5, none⟩ = some (.int .u64 (cc 5)) ∧ wq.cell? ⟨g', 6, none⟩ = some (.int .u64 (cc 0)) ∧ wq.cell? ⟨g', 6 + 1, none⟩ = some (.int .u64 (cc 1)) ∧ wq.cell? ⟨g', 6 + 2, none⟩ = some (.int .u64 (cc 2)) ∧ wq.cell? ⟨g', 6 + 3, none⟩ = some (.int .u64 (cc 3)) ∧ wq.cell? ⟨g', 6 + 4, none⟩ = some (.int .u64 (cc 4)) ∧ wq.cell? ⟨g', 6 + 5, none⟩ = some (.int .u64 (cc 5))) := hidIn fun wq h => by
          have j := (h.block _ (block_lt hz)).trans hz
          have y := (h.block _ (block_lt hh6)).trans hh6
          have y0 : wq.cell? ⟨g', 6, none⟩ = some (.int .u64 (T 1 0)) := ow_cell y HH5.out.2 (r := 1) (k := 0) (by omega) (by omega)
          have y1 : wq.cell? ⟨g', 6 + 1, none⟩ = some (.int .u64 (T 1 1)) := ow_cell y HH5.out.2 (r := 1) (k := 1) (by omega) (by omega)
          have y2 : wq.cell? ⟨g', 6 + 2, none⟩ = some (.int .u64 (T 1 2)) := ow_cell y HH5.out.2 (r := 1) (k := 2) (by omega) (by omega)
          have y3 : wq.cell? ⟨g', 6 + 3, none⟩ = some (.int .u64 (T 1 3)) := ow_cell y HH5.out.2 (r := 1) (k := 3) (by omega) (by omega)
          have y4 : wq.cell? ⟨g', 6 + 4, none⟩ = some (.int .u64 (T 1 4)) := ow_cell y HH5.out.2 (r := 1) (k := 4) (by omega) (by omega)
          have y5 : wq.cell? ⟨g', 6 + 5, none⟩ = some (.int .u64 (T 1 5)) := ow_cell y HH5.out.2 (r := 1) (k := 5) (by omega) (by omega)
          rw [Hcc.out] at y0 y1 y2 y3 y4 y5
          exact ⟨cell_of_row _ _ 0 _ _ _ j, cell_of_row _ _ 1 _ _ _ j, cell_of_row _ _ 2 _ _ _ j, cell_of_row _ _ 3 _ _ _ j, cell_of_row _ _ 4 _ _ _ j, cell_of_row _ _ 5 _ _ _ j, y0, y1, y2, y3, y4, y5⟩
        have hqc := fun w => eq_refl6 (cc 0) (cc 1) (cc 2) (cc 3) (cc 4) (cc 5) w
        clear hz hh6 HH5
        refine wp_region_held_drew (S := fun wx => Below W6.heap.size W6 wx) (by kernel_rfl) ((Below.refl _ W6).drew) (fun hHeld => ?_)
        have hd0 : Below W6.heap.size W6 W6.drew := hHeld
        obtain ⟨wd, hwd⟩ : ∃ wd, W6.drew = wd := ⟨_, rfl⟩
        rw [hwd] at hd0 ⊢
        clear hwd hHeld
        refine wpAnyH_take (i := 0) (v := .int .i64 0) rfl (by kernel_rfl) (by kernel_rfl) (by kernel_rfl) (fun _ _ _ h => h) (Or.inl ⟨by kernel_rfl, fun _ _ => by kernel_rfl⟩) (by assumption) ?_
        refine wpAnyH_take (i := 1) (v := .bool true) rfl (by kernel_rfl) (by kernel_rfl) (by kernel_rfl) (fun _ _ _ h => h) (Or.inl ⟨by kernel_rfl, fun _ _ => by kernel_rfl⟩) (by assumption) ?_
        refine wpAnyH_take (i := 2) (v := .bool true) rfl (by kernel_rfl) (by kernel_rfl) (by kernel_rfl) (fun _ _ _ h => h) (Or.inl ⟨by kernel_rfl, fun _ _ => by kernel_rfl⟩) (by assumption) ?_
        refine wpAnyH_take (i := 3) (v := .agg #[.int .u64 (cc 0), .int .u64 (cc 1), .int .u64 (cc 2), .int .u64 (cc 3), .int .u64 (cc 4), .int .u64 (cc 5)]) rfl (by kernel_rfl) (by kernel_rfl) (by kernel_rfl) (fun _ _ _ h => h) (Or.inl ⟨by kernel_rfl, fun wq hSw => by
          obtain ⟨x0, x1, x2, x3, x4, x5, y0, y1, y2, y3, y4, y5⟩ := HC6.out wq hSw
          go_simp⟩) (by assumption) ?_
        refine wpAnyH_take (i := 4) (v := .slice (some ⟨g', 0, none⟩) 25 cap') rfl (by kernel_rfl) (by kernel_rfl) (by kernel_rfl) (fun _ _ _ h => h) (Or.inl ⟨by kernel_rfl, fun _ _ => by kernel_rfl⟩) (by assumption) ?_
        refine wpAnyH_take (i := 5) (v := .pointer (some ⟨g', 6, none⟩)) rfl (by kernel_rfl) (by kernel_rfl) (by kernel_rfl) (fun _ _ _ h => h) (Or.inl ⟨by kernel_rfl, fun _ _ => by go_simp⟩) (by assumption) ?_
        refine wpAnyH_take (i := 6) (v := .agg #[.int .u64 (cc 0), .int .u64 (cc 1), .int .u64 (cc 2), .int .u64 (cc 3), .int .u64 (cc 4), .int .u64 (cc 5)]) rfl (by kernel_rfl) (by kernel_rfl) (by kernel_rfl) (fun _ _ _ h => h) (Or.inl ⟨by kernel_rfl, fun wq hSw => by
          obtain ⟨x0, x1, x2, x3, x4, x5, y0, y1, y2, y3, y4, y5⟩ := HC6.out wq hSw
          go_simp⟩) (by assumption) ?_
        refine wpAnyH_take (i := 7) (v := .bool true) rfl (by kernel_rfl) (by kernel_rfl) (by kernel_rfl) (fun _ _ _ h => h) (Or.inl ⟨by kernel_rfl, fun _ _ => by go_simp⟩) (by assumption) ?_
        refine wpAnyH_take (i := 8) (v := .bool true) rfl (by kernel_rfl) (by kernel_rfl) (by kernel_rfl) (fun _ _ _ h => h) (Or.inl ⟨by kernel_rfl, fun _ _ => by kernel_rfl⟩) (by assumption) ?_
        refine wpAnyH_take (i := 9) (v := .bool true) rfl (by kernel_rfl) (by kernel_rfl) (by kernel_rfl) (fun _ _ _ h => h) (Or.inl ⟨by kernel_rfl, fun _ _ => by kernel_rfl⟩) (by assumption) ?_
        refine wpAnyH_ready (rs := [10]) (by kernel_rfl) (by simp) ?_
        refine AllReadyH.cons (i := 10) rfl ?_ AllReadyH.nil
        go_simp
        intro K hK
        refine (Hwk.out wd).mono ?_
        rintro e wk1 ⟨rfl, hx1⟩
        have hk1 := hd0.trans (hx1.mono hd0.size)
        refine hK.out _ _ hk1 (fun _ => ?_)
        clear hK K
        refine wpAnyH_take (i := 11) (v := .bool true) rfl (by kernel_rfl) (by kernel_rfl) (by kernel_rfl) (fun _ _ _ h => h) (Or.inl ⟨by kernel_rfl, fun _ _ => by kernel_rfl⟩) (by assumption) ?_
        refine wpAnyH_take (i := 12) (v := .bool true) rfl (by kernel_rfl) (by kernel_rfl) (by kernel_rfl) (fun _ _ _ h => h) (Or.inl ⟨by kernel_rfl, fun _ _ => by kernel_rfl⟩) (by assumption) ?_
        refine wpAnyH_done (by kernel_rfl) ?_ _
        go_wp2_with fail
        go_ret
        exact ⟨rfl, HT6.out.trans (hk1.mono HT6.out.size)⟩
end Go.Proofs.Ytkkkjpdmjgafoaa
