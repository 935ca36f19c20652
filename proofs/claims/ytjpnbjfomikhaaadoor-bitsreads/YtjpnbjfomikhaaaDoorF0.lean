/- What the rows of layer 1 are opened and shut by: a bit string as an argument; the library's tables as the rows list them. -/
import Derived.Test.YtjpnbjfomikhaaaDoorW6
import Derived.Test.YtjpnbjfomikhaaaDoorRows
import Derived.WalkKit
import Derived.ProofKit
import Derived.OpenShut
import Derived.Laws.IdiomArrays
import Derived.Lib.SmallJoins
import Derived.Deep.DeepHandedRow
import Derived.Lib.LaidTab
namespace Go.Proofs.YtjpnbjfomikhaaaDoor
open Go.ChangeShapes Go.WideShapes Go.ChangeAt Go.RowKit

theorem own : ownKnob Tryd.prog.godebug = none := by kernel_rfl
theorem cellsBits : Tryd.prog.cellsOf 24 = 4 := by kernel_rfl
theorem cellsWord : Tryd.prog.cellsOf 22 = 1 := by kernel_rfl

/-- A bit string as a datum. -/
abbrev bsd {H : Type} (N : Nat) : DataW H := .agg [.lit (.int .u64 (wd N 0)), .lit (.int .u64 (wd N 1)), .lit (.int .u64 (wd N 2)), .lit (.int .u64 (wd N 3))]

set_option maxRecDepth 100000 in
theorem open_bits {H : Type} {enc : TypeId × Value → H} {W : World} {base : Nat} {v : Value} {d : DataW H} {p : List MemPlace}
    (hval : Value.okWide Tryd.prog W .any base 24 v) (h : DataW.Trod enc Tryd.prog W 0 (fun _ => true) true 24 v d p) : ∃ N, N < 2 ^ 256 ∧ v = bs N ∧ d = bsd N ∧ p = [] := by
  obtain ⟨cs, rfl, hsz, _⟩ : ∃ cs, v = .agg cs ∧ cs.size = Tryd.prog.cellsOf 24 ∧ Row.okWide Tryd.prog W .any base 24 cs := by
    simpa [Value.okWide, Tryd.underlying24] using hval
  rw [cellsBits] at hsz
  obtain ⟨c0, c1, c2, c3, rfl⟩ := Joins.array4 hsz
  obtain ⟨fuel, hf⟩ := h
  obtain ⟨y0, y1, y2, y3, m, hx, hy0, hy1, hy2, hy3⟩ := trod_array4 Tryd.underlying24 cellsWord hf
  obtain ⟨x0, e0, rfl, w0⟩ := DataW.trod_int Tryd.underlying22 hy0
  obtain ⟨x1, e1, rfl, w1⟩ := DataW.trod_int Tryd.underlying22 hy1
  obtain ⟨x2, e2, rfl, w2⟩ := DataW.trod_int Tryd.underlying22 hy2
  obtain ⟨x3, e3, rfl, w3⟩ := DataW.trod_int Tryd.underlying22 hy3
  simp at e0 e1 e2 e3
  subst e0 e1 e2 e3
  simp only [Prod.mk.injEq] at hx
  obtain ⟨rfl, rfl⟩ := hx
  have b0 := bounds_u64 w0
  have b1 := bounds_u64 w1
  have b2 := bounds_u64 w2
  have b3 := bounds_u64 w3
  obtain ⟨n0, rfl⟩ := Int.eq_ofNat_of_zero_le b0.1
  obtain ⟨n1, rfl⟩ := Int.eq_ofNat_of_zero_le b1.1
  obtain ⟨n2, rfl⟩ := Int.eq_ofNat_of_zero_le b2.1
  obtain ⟨n3, rfl⟩ := Int.eq_ofNat_of_zero_le b3.1
  have l0 : n0 < 18446744073709551616 := by omega
  have l1 : n1 < 18446744073709551616 := by omega
  have l2 : n2 < 18446744073709551616 := by omega
  have l3 : n3 < 18446744073709551616 := by omega
  refine ⟨ofw n0 n1 n2 n3, ofw_lt _ _ _ _ l0 l1 l2 l3, ?_, ?_, rfl⟩
  · simp only [bs, wd_ofw0 _ _ _ _ l0, wd_ofw1 _ _ _ _ l0 l1, wd_ofw2 _ _ _ _ l0 l1 l2, wd_ofw3 _ _ _ _ l0 l1 l2 l3]
  · simp only [bsd, wd_ofw0 _ _ _ _ l0, wd_ofw1 _ _ _ _ l0 l1, wd_ofw2 _ _ _ _ l0 l1 l2, wd_ofw3 _ _ _ _ l0 l1 l2 l3]

theorem wf_wd (N i : Nat) : (Lit.int .u64 (wd N i)).wf = true := by
  have := wd_lt N i
  simp [Lit.wf, IntKind.min, IntKind.max, IntKind.bits, IntKind.signed]
  omega
theorem shut_bits {H : Type} {enc : TypeId × Value → H} {W : World} {sp : Nat → Bool} (N : Nat) : DataW.Trod enc Tryd.prog W 0 sp true 24 (bs N) (bsd N) [] :=
  ⟨2, by simp [DataW.trod, Value.cells, Tryd.underlying24, Tryd.underlying22, cellsBits, cellsWord, wf_wd, show List.range 4 = [0, 1, 2, 3] from rfl]⟩

theorem gDbType : (Tryd.prog.globals[0]?).map (·.type) = some 56 := by kernel_rfl
theorem gP10Type : (Tryd.prog.globals[2]?).map (·.type) = some 87 := by kernel_rfl
theorem laid_tab {W : World} {name : String} {k : IntKind} {zs : List Int} {rest : List (String × DataW Unit)} {g : Nat} {t e : TypeId} {n : Nat} {ps : List MemPlace} {P : Program}
    (hg : P.globalNamed name = some g) (hty : (P.globals[g]?).map (·.type) = some t) (ht : P.underlying t = some (.array n e)) (he : P.underlying e = some (.int k)) (hce : P.cellsOf e = 1) (hct : P.cellsOf t = n)
    (h : DataW.LaidVars P W ((name, Lib.tabData k zs) :: rest) ps) : Lib.TabIs P W name k zs := by
  obtain ⟨g', t', cs, fuel, p, q, hg', ht', hvar, hd, _, _⟩ := h
  obtain rfl := Option.some.inj (hg.symm.trans hg')
  obtain rfl := Option.some.inj (hty.symm.trans ht')
  unfold Lib.TabIs
  rw [hvar, ← Lib.cells_of_tab ht he hce hct hd]
theorem laid_rest {P : Program} {W : World} {x : String × DataW Unit} {rest : List (String × DataW Unit)} {ps : List MemPlace} (h : DataW.LaidVars P W (x :: rest) ps) : ∃ q, DataW.LaidVars P W rest q := by
  obtain ⟨g', t', cs, fuel, p, q, hg', ht', hvar, hd, h1, h2⟩ := h
  exact ⟨q, by first | exact h1 | exact h2⟩
/-- The tables, out of a row's list. -/
theorem tabs_of {W : World} {rest : List (String × DataW Unit)} (h : laidMet Tryd.prog (("math/bits.deBruijn32tab", Rows.laid_math_bits_deBruijn32tab) :: ("math/bits.deBruijn64tab", Rows.laid_math_bits_deBruijn64tab) :: ("internal/strconv.uint64pow10", Rows.laid_internal_strconv_uint64pow10) :: rest) W) : Tabs W := by
  obtain ⟨ps, h, _⟩ := h
  obtain ⟨q, h⟩ := laid_rest h
  obtain ⟨q2, h2⟩ := laid_rest h
  exact ⟨laid_tab gDb gDbType Tryd.underlying56 Tryd.underlying5 (by kernel_rfl) (by kernel_rfl) h, laid_tab gP10 gP10Type Tryd.underlying87 Tryd.underlying22 (by kernel_rfl) (by kernel_rfl) h2⟩
end Go.Proofs.YtjpnbjfomikhaaaDoor
