/- What the rows of layer 3 are opened and shut by: a header as an argument; the table of the widths as the rows list it. -/
import Derived.Test.YtjcbbifjhoemaaaDoorF0
import Derived.Test.YtjcbbifjhoemaaaDoorH4
namespace Go.Proofs.YtjcbbifjhoemaaaDoor
open Go.ChangeShapes Go.WideShapes Go.ChangeAt Go.RowKit

theorem cellsInt : Tryd.prog.cellsOf 3 = 1 := by kernel_rfl
theorem cellsU32 : Tryd.prog.cellsOf 82 = 1 := by kernel_rfl
theorem eight {α : Type} {l : List α} (h : l.length = 8) : ∃ y0 y1 y2 y3 y4 y5 y6 y7, l = [y0, y1, y2, y3, y4, y5, y6, y7] := by
  match l, h with
  | [a, b, c, d, e, f, g, i], _ => exact ⟨a, b, c, d, e, f, g, i, rfl⟩
theorem eleven {α : Type} {cs : Array α} (h : cs.size = 11) : ∃ c0 c1 c2 c3 c4 c5 c6 c7 c8 c9 ca, cs = #[c0, c1, c2, c3, c4, c5, c6, c7, c8, c9, ca] := by
  obtain ⟨l⟩ := cs
  match l, h with
  | [a, b, c, d, e, f, g, i, j, k, m], _ => exact ⟨a, b, c, d, e, f, g, i, j, k, m, rfl⟩
set_option maxRecDepth 100000 in
theorem open_bits_cells {T : Type} {enc : TypeId × Value → T} {w : World} {base : Nat} {spare : Nat → Bool} {held : Bool} {fuel : Nat} {c0 c1 c2 c3 : Value} {x : DataW T × List MemPlace}
    (hf : DataW.trod enc Tryd.prog w base spare held fuel 35 [c0, c1, c2, c3] = some x) : ∃ N, N < 2 ^ 256 ∧ Value.agg #[c0, c1, c2, c3] = bs N ∧ x.1 = bsd N ∧ x.2 = [] := by
  obtain ⟨y0, y1, y2, y3, m, hx, hy0, hy1, hy2, hy3⟩ := trod_array4 Tryd.underlying35 cellsWord hf
  obtain ⟨x0, e0, rfl, w0⟩ := DataW.trod_int Tryd.underlying33 hy0
  obtain ⟨x1, e1, rfl, w1⟩ := DataW.trod_int Tryd.underlying33 hy1
  obtain ⟨x2, e2, rfl, w2⟩ := DataW.trod_int Tryd.underlying33 hy2
  obtain ⟨x3, e3, rfl, w3⟩ := DataW.trod_int Tryd.underlying33 hy3
  simp at e0 e1 e2 e3
  subst e0 e1 e2 e3
  subst hx
  have b0 := bounds_u64 w0
  have b1 := bounds_u64 w1
  have b2 := bounds_u64 w2
  have b3 := bounds_u64 w3
  obtain ⟨n0, rfl⟩ := Int.eq_ofNat_of_zero_le b0.1
  obtain ⟨n1, rfl⟩ := Int.eq_ofNat_of_zero_le b1.1
  obtain ⟨n2, rfl⟩ := Int.eq_ofNat_of_zero_le b2.1
  obtain ⟨n3, rfl⟩ := Int.eq_ofNat_of_zero_le b3.1
  have l0 : n0 < 18446744073709551616 := by omega
  have l1 : n1 < 18446744073709551616 := by omega
  have l2 : n2 < 18446744073709551616 := by omega
  have l3 : n3 < 18446744073709551616 := by omega
  refine ⟨ofw n0 n1 n2 n3, ofw_lt _ _ _ _ l0 l1 l2 l3, ?_, ?_, rfl⟩
  · simp only [bs, wd_ofw0 _ _ _ _ l0, wd_ofw1 _ _ _ _ l0 l1, wd_ofw2 _ _ _ _ l0 l1 l2, wd_ofw3 _ _ _ _ l0 l1 l2 l3]
  · simp only [bsd, wd_ofw0 _ _ _ _ l0, wd_ofw1 _ _ _ _ l0 l1, wd_ofw2 _ _ _ _ l0 l1 l2, wd_ofw3 _ _ _ _ l0 l1 l2 l3]
/-- A header as a datum. -/
abbrev hdd {T : Type} (W S E H O G I : Int) (N : Nat) : DataW T := .agg [.lit (.int .i64 W), .lit (.int .i64 S), .lit (.int .u32 E), .lit (.int .i64 H), .lit (.int .i64 O), .lit (.int .i64 G), .lit (.int .u32 I), bsd N]
/-- The numbers of a header are of their kinds. -/
def WfH (W S E H O G I : Int) : Prop := (Lit.int .i64 W).wf = true ∧ (Lit.int .i64 S).wf = true ∧ (Lit.int .u32 E).wf = true ∧ (Lit.int .i64 H).wf = true ∧ (Lit.int .i64 O).wf = true ∧ (Lit.int .i64 G).wf = true ∧ (Lit.int .u32 I).wf = true
theorem WfH.e {W S E H O G I : Int} (h : WfH W S E H O G I) : 0 ≤ E ∧ E < 4294967296 := by
  have := h.2.2.1
  simp [Lit.wf, IntKind.min, IntKind.max, IntKind.bits, IntKind.signed] at this
  omega
theorem WfH.i {W S E H O G I : Int} (h : WfH W S E H O G I) : 0 ≤ I ∧ I < 4294967296 := by
  have := h.2.2.2.2.2.2
  simp [Lit.wf, IntKind.min, IntKind.max, IntKind.bits, IntKind.signed] at this
  omega
theorem gWidType : (Tryd.prog.globals[0]?).map (·.type) = some 72 := by kernel_rfl
theorem wid_of {w : World} {rest : List (String × DataW Unit)} (h : laidMet Tryd.prog (("dandelion/header.widths", Rows.laid_dandelion_header_widths) :: rest) w) : Wid w := by
  obtain ⟨ps, h, _⟩ := h
  exact ⟨laid_tab gWid gWidType Tryd.underlying72 Tryd.underlying3 (by kernel_rfl) (by kernel_rfl) h⟩
end Go.Proofs.YtjcbbifjhoemaaaDoor
