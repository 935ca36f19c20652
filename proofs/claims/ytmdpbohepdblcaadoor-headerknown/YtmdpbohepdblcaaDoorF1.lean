/- What the rows of layer 3 are opened and shut by: a header as an argument; the table of the widths as the rows list it. -/
import Derived.Test.YtmdpbohepdblcaaDoorF0
import Derived.Test.YtmdpbohepdblcaaDoorH4
namespace Go.Proofs.YtmdpbohepdblcaaDoor
open Go.ChangeShapes Go.WideShapes Go.ChangeAt Go.RowKit

theorem cellsHd : Tryd.prog.cellsOf 27 = 11 := by kernel_rfl
theorem cellsInt : Tryd.prog.cellsOf 3 = 1 := by kernel_rfl
theorem cellsU32 : Tryd.prog.cellsOf 22 = 1 := by kernel_rfl
theorem eight {α : Type} {l : List α} (h : l.length = 8) : ∃ y0 y1 y2 y3 y4 y5 y6 y7, l = [y0, y1, y2, y3, y4, y5, y6, y7] := by
  match l, h with
  | [a, b, c, d, e, f, g, i], _ => exact ⟨a, b, c, d, e, f, g, i, rfl⟩
theorem eleven {α : Type} {cs : Array α} (h : cs.size = 11) : ∃ c0 c1 c2 c3 c4 c5 c6 c7 c8 c9 ca, cs = #[c0, c1, c2, c3, c4, c5, c6, c7, c8, c9, ca] := by
  obtain ⟨l⟩ := cs
  match l, h with
  | [a, b, c, d, e, f, g, i, j, k, m], _ => exact ⟨a, b, c, d, e, f, g, i, j, k, m, rfl⟩
theorem hfs : ∃ f0 f1 f2 f3 f4 f5 f6 f7 : Field, Tryd.prog.underlying 27 = some (.struct #[f0, f1, f2, f3, f4, f5, f6, f7]) ∧
    (f0.type = 3 ∧ f0.offset = 0) ∧ (f1.type = 3 ∧ f1.offset = 1) ∧ (f2.type = 22 ∧ f2.offset = 2) ∧ (f3.type = 3 ∧ f3.offset = 3) ∧ (f4.type = 3 ∧ f4.offset = 4) ∧ (f5.type = 3 ∧ f5.offset = 5) ∧ (f6.type = 22 ∧ f6.offset = 6) ∧ (f7.type = 25 ∧ f7.offset = 7) := by
  have hf := hfields
  have hu := hunder
  generalize Tryd.prog.fieldsOf 27 = F at hf hu
  obtain ⟨fs⟩ := F
  simp only at hf
  obtain ⟨f0, r0, rfl, h0, hf⟩ := List.map_eq_cons_iff.1 hf
  obtain ⟨f1, r1, rfl, h1, hf⟩ := List.map_eq_cons_iff.1 hf
  obtain ⟨f2, r2, rfl, h2, hf⟩ := List.map_eq_cons_iff.1 hf
  obtain ⟨f3, r3, rfl, h3, hf⟩ := List.map_eq_cons_iff.1 hf
  obtain ⟨f4, r4, rfl, h4, hf⟩ := List.map_eq_cons_iff.1 hf
  obtain ⟨f5, r5, rfl, h5, hf⟩ := List.map_eq_cons_iff.1 hf
  obtain ⟨f6, r6, rfl, h6, hf⟩ := List.map_eq_cons_iff.1 hf
  obtain ⟨f7, r7, rfl, h7, hf⟩ := List.map_eq_cons_iff.1 hf
  obtain rfl := List.map_eq_nil_iff.1 hf
  simp only [Prod.mk.injEq] at h0
  simp only [Prod.mk.injEq] at h1
  simp only [Prod.mk.injEq] at h2
  simp only [Prod.mk.injEq] at h3
  simp only [Prod.mk.injEq] at h4
  simp only [Prod.mk.injEq] at h5
  simp only [Prod.mk.injEq] at h6
  simp only [Prod.mk.injEq] at h7
  exact ⟨f0, f1, f2, f3, f4, f5, f6, f7, hu, h0.2, h1.2, h2.2, h3.2, h4.2, h5.2, h6.2, h7.2⟩
set_option maxRecDepth 100000 in
theorem open_bits_cells {T : Type} {enc : TypeId × Value → T} {w : World} {base : Nat} {spare : Nat → Bool} {held : Bool} {fuel : Nat} {c0 c1 c2 c3 : Value} {x : DataW T × List MemPlace}
    (hf : DataW.trod enc Tryd.prog w base spare held fuel 25 [c0, c1, c2, c3] = some x) : ∃ N, N < 2 ^ 256 ∧ Value.agg #[c0, c1, c2, c3] = bs N ∧ x.1 = bsd N ∧ x.2 = [] := by
  obtain ⟨y0, y1, y2, y3, m, hx, hy0, hy1, hy2, hy3⟩ := trod_array4 Tryd.underlying25 cellsWord hf
  obtain ⟨x0, e0, rfl, w0⟩ := DataW.trod_int Tryd.underlying23 hy0
  obtain ⟨x1, e1, rfl, w1⟩ := DataW.trod_int Tryd.underlying23 hy1
  obtain ⟨x2, e2, rfl, w2⟩ := DataW.trod_int Tryd.underlying23 hy2
  obtain ⟨x3, e3, rfl, w3⟩ := DataW.trod_int Tryd.underlying23 hy3
  simp at e0 e1 e2 e3
  subst e0 e1 e2 e3
  subst hx
  have b0 := bounds_u64 w0
  have b1 := bounds_u64 w1
  have b2 := bounds_u64 w2
  have b3 := bounds_u64 w3
  obtain ⟨n0, rfl⟩ := Int.eq_ofNat_of_zero_le b0.1
  obtain ⟨n1, rfl⟩ := Int.eq_ofNat_of_zero_le b1.1
  obtain ⟨n2, rfl⟩ := Int.eq_ofNat_of_zero_le b2.1
  obtain ⟨n3, rfl⟩ := Int.eq_ofNat_of_zero_le b3.1
  have l0 : n0 < 18446744073709551616 := by omega
  have l1 : n1 < 18446744073709551616 := by omega
  have l2 : n2 < 18446744073709551616 := by omega
  have l3 : n3 < 18446744073709551616 := by omega
  refine ⟨ofw n0 n1 n2 n3, ofw_lt _ _ _ _ l0 l1 l2 l3, ?_, ?_, rfl⟩
  · simp only [bs, wd_ofw0 _ _ _ _ l0, wd_ofw1 _ _ _ _ l0 l1, wd_ofw2 _ _ _ _ l0 l1 l2, wd_ofw3 _ _ _ _ l0 l1 l2 l3]
  · simp only [bsd, wd_ofw0 _ _ _ _ l0, wd_ofw1 _ _ _ _ l0 l1, wd_ofw2 _ _ _ _ l0 l1 l2, wd_ofw3 _ _ _ _ l0 l1 l2 l3]
/-- A header as a datum. -/
abbrev hdd {T : Type} (W S E H O G I : Int) (N : Nat) : DataW T := .agg [.lit (.int .i64 W), .lit (.int .i64 S), .lit (.int .u32 E), .lit (.int .i64 H), .lit (.int .i64 O), .lit (.int .i64 G), .lit (.int .u32 I), bsd N]
/-- The numbers of a header are of their kinds. -/
def WfH (W S E H O G I : Int) : Prop := (Lit.int .i64 W).wf = true ∧ (Lit.int .i64 S).wf = true ∧ (Lit.int .u32 E).wf = true ∧ (Lit.int .i64 H).wf = true ∧ (Lit.int .i64 O).wf = true ∧ (Lit.int .i64 G).wf = true ∧ (Lit.int .u32 I).wf = true
theorem WfH.e {W S E H O G I : Int} (h : WfH W S E H O G I) : 0 ≤ E ∧ E < 4294967296 := by
  have := h.2.2.1
  simp [Lit.wf, IntKind.min, IntKind.max, IntKind.bits, IntKind.signed] at this
  omega
theorem WfH.i {W S E H O G I : Int} (h : WfH W S E H O G I) : 0 ≤ I ∧ I < 4294967296 := by
  have := h.2.2.2.2.2.2
  simp [Lit.wf, IntKind.min, IntKind.max, IntKind.bits, IntKind.signed] at this
  omega
set_option maxRecDepth 100000 in
theorem open_hd {T : Type} {enc : TypeId × Value → T} {w : World} {base : Nat} {v : Value} {d : DataW T} {p : List MemPlace}
    (hval : Value.okWide Tryd.prog w .any base 27 v) (h : DataW.Trod enc Tryd.prog w 0 (fun _ => true) true 27 v d p) :
    ∃ (W S E H O G I : Int) (N : Nat), N < 2 ^ 256 ∧ WfH W S E H O G I ∧ v = hd W S E H O G I N ∧ d = hdd W S E H O G I N ∧ p = [] := by
  obtain ⟨f0, f1, f2, f3, f4, f5, f6, f7, hu, ⟨t0, o0⟩, ⟨t1, o1⟩, ⟨t2, o2⟩, ⟨t3, o3⟩, ⟨t4, o4⟩, ⟨t5, o5⟩, ⟨t6, o6⟩, ⟨t7, o7⟩⟩ := hfs
  obtain ⟨cs, rfl, hsz⟩ := okWide_struct hu hval
  rw [cellsHd] at hsz
  obtain ⟨c0, c1, c2, c3, c4, c5, c6, c7, c8, c9, ca, rfl⟩ := eleven hsz
  obtain ⟨fuel, hf⟩ := h
  obtain ⟨xs, n, _, hx, hl, hlen, hfd⟩ := DataW.trod_struct hu hf
  obtain ⟨y0, y1, y2, y3, y4, y5, y6, y7, rfl⟩ := eight (by simpa using hlen)
  have g0 := hfd 0 f0 rfl
  have g1 := hfd 1 f1 rfl
  have g2 := hfd 2 f2 rfl
  have g3 := hfd 3 f3 rfl
  have g4 := hfd 4 f4 rfl
  have g5 := hfd 5 f5 rfl
  have g6 := hfd 6 f6 rfl
  have g7 := hfd 7 f7 rfl
  clear hfd
  rw [t0, o0, cellsInt] at g0
  rw [t1, o1, cellsInt] at g1
  rw [t2, o2, cellsU32] at g2
  rw [t3, o3, cellsInt] at g3
  rw [t4, o4, cellsInt] at g4
  rw [t5, o5, cellsInt] at g5
  rw [t6, o6, cellsU32] at g6
  rw [t7, o7, cellsBits] at g7
  simp [Value.cells] at g0 g1 g2 g3 g4 g5 g6 g7
  obtain ⟨W, e0, rfl, w0⟩ := DataW.trod_int Tryd.underlying3 g0
  obtain ⟨S, e1, rfl, w1⟩ := DataW.trod_int Tryd.underlying3 g1
  obtain ⟨E, e2, rfl, w2⟩ := DataW.trod_int Tryd.underlying22 g2
  obtain ⟨H, e3, rfl, w3⟩ := DataW.trod_int Tryd.underlying3 g3
  obtain ⟨O, e4, rfl, w4⟩ := DataW.trod_int Tryd.underlying3 g4
  obtain ⟨G, e5, rfl, w5⟩ := DataW.trod_int Tryd.underlying3 g5
  obtain ⟨I, e6, rfl, w6⟩ := DataW.trod_int Tryd.underlying22 g6
  simp at e0 e1 e2 e3 e4 e5 e6
  subst e0 e1 e2 e3 e4 e5 e6
  obtain ⟨N, hN, hv, hd', hp⟩ := open_bits_cells g7
  obtain ⟨d7, p7⟩ := y7
  simp only at hd' hp
  subst hd' hp
  simp only [Value.agg.injEq] at hv
  simp only [Prod.mk.injEq] at hx
  obtain ⟨rfl, rfl⟩ := hx
  refine ⟨W, S, E, H, O, G, I, N, hN, ⟨w0, w1, w2, w3, w4, w5, w6⟩, ?_, by simp, by simp⟩
  obtain ⟨rfl, rfl, rfl, rfl⟩ : c7 = .int .u64 (wd N 0) ∧ c8 = .int .u64 (wd N 1) ∧ c9 = .int .u64 (wd N 2) ∧ ca = .int .u64 (wd N 3) := by simpa using hv
  rfl
set_option maxRecDepth 100000 in
theorem shut_hd {T : Type} {enc : TypeId × Value → T} {w : World} {sp : Nat → Bool} {W S E H O G I : Int} (N : Nat) (h : WfH W S E H O G I) : DataW.Trod enc Tryd.prog w 0 sp true 27 (hd W S E H O G I N) (hdd W S E H O G I N) [] := by
  obtain ⟨f0, f1, f2, f3, f4, f5, f6, f7, hu, ⟨t0, o0⟩, ⟨t1, o1⟩, ⟨t2, o2⟩, ⟨t3, o3⟩, ⟨t4, o4⟩, ⟨t5, o5⟩, ⟨t6, o6⟩, ⟨t7, o7⟩⟩ := hfs
  obtain ⟨w0, w1, w2, w3, w4, w5, w6⟩ := h
  have hb : DataW.trod enc Tryd.prog w 0 sp true 2 25 [.int .u64 (wd N 0), .int .u64 (wd N 1), .int .u64 (wd N 2), .int .u64 (wd N 3)] = some (bsd N, []) := by
    simp [DataW.trod, Tryd.underlying25, Tryd.underlying23, cellsBits, cellsWord, wf_wd, show List.range 4 = [0, 1, 2, 3] from rfl]
  have hm := trod_struct_mk (enc := enc) (w := w) (base := 0) (spare := sp) (held := true) (n := 2) (cs := [.int .i64 W, .int .i64 S, .int .u32 E, .int .i64 H, .int .i64 O, .int .i64 G, .int .u32 I, .int .u64 (wd N 0), .int .u64 (wd N 1), .int .u64 (wd N 2), .int .u64 (wd N 3)])
    (xs := [(.lit (.int .i64 W), []), (.lit (.int .i64 S), []), (.lit (.int .u32 E), []), (.lit (.int .i64 H), []), (.lit (.int .i64 O), []), (.lit (.int .i64 G), []), (.lit (.int .u32 I), []), (bsd N, [])]) hu (by rw [cellsHd]; rfl) (by
    simp only [List.mapM_cons, List.mapM_nil, t0, t1, t2, t3, t4, t5, t6, t7, o0, o1, o2, o3, o4, o5, o6, o7, cellsInt, cellsU32, cellsBits]
    simp [hb, trod_int_mk 1 Tryd.underlying3 w0, trod_int_mk 1 Tryd.underlying3 w1, trod_int_mk 1 Tryd.underlying22 w2, trod_int_mk 1 Tryd.underlying3 w3, trod_int_mk 1 Tryd.underlying3 w4, trod_int_mk 1 Tryd.underlying3 w5, trod_int_mk 1 Tryd.underlying22 w6])
  exact ⟨3, by simpa [Value.cells] using hm⟩
theorem gWidType : (Tryd.prog.globals[0]?).map (·.type) = some 68 := by kernel_rfl
theorem wid_of {w : World} {rest : List (String × DataW Unit)} (h : laidMet Tryd.prog (("dandelion/header.widths", Rows.laid_dandelion_header_widths) :: rest) w) : Wid w := by
  obtain ⟨ps, h, _⟩ := h
  exact ⟨laid_tab gWid gWidType Tryd.underlying68 Tryd.underlying3 (by kernel_rfl) (by kernel_rfl) h⟩
end Go.Proofs.YtmdpbohepdblcaaDoor
