/- What the rows of layer 4 are opened and shut by. -/
import Derived.Test.YtpjbfijmlbbipaaDoorF1
namespace Go.Proofs.YtpjbfijmlbbipaaDoor
open Go.ChangeShapes Go.WideShapes Go.ChangeAt Go.RowKit

theorem cells2 : Tryd.prog.cellsOf 22 = 2 := by kernel_rfl
theorem cellsI : Tryd.prog.cellsOf 3 = 1 := by kernel_rfl
theorem two {α : Type} {cs : Array α} (h : cs.size = 2) : ∃ c0 c1, cs = #[c0, c1] := by
  obtain ⟨l⟩ := cs
  match l, h with
  | [a, b], _ => exact ⟨a, b, rfl⟩
/-- An array of two numbers as an argument. -/
theorem open_two {H : Type} {enc : TypeId × Value → H} {W : World} {base : Nat} {v : Value} {d : DataW H} {p : List MemPlace}
    (hval : Value.okWide Tryd.prog W .any base 22 v) (h : DataW.Trod enc Tryd.prog W 0 (fun _ => true) true 22 v d p) :
    ∃ a b : Int, (Lit.int .i64 a).wf = true ∧ (Lit.int .i64 b).wf = true ∧ v = .agg #[.int .i64 a, .int .i64 b] ∧ d = .agg [.lit (.int .i64 a), .lit (.int .i64 b)] ∧ p = [] := by
  obtain ⟨cs, rfl, hsz, _⟩ : ∃ cs, v = .agg cs ∧ cs.size = Tryd.prog.cellsOf 22 ∧ Row.okWide Tryd.prog W .any base 22 cs := by
    simpa [Value.okWide, Tryd.underlying22] using hval
  rw [cells2] at hsz
  obtain ⟨c0, c1, rfl⟩ := two hsz
  obtain ⟨fuel, hf⟩ := h
  cases fuel with
  | zero => simp [DataW.trod] at hf
  | succ n =>
    have hf' : DataW.trod enc Tryd.prog W 0 (fun _ => true) true (n + 1) 22 [c0, c1] = some (d, p) := hf
    unfold DataW.trod at hf'
    rw [Tryd.underlying22] at hf'
    simp [show List.range 2 = [0, 1] from rfl, cellsI, cells2] at hf'
    cases h0 : DataW.trod enc Tryd.prog W 0 (fun _ => true) true n 3 [c0] with
    | none => simp [h0] at hf'
    | some y0 =>
      cases h1 : DataW.trod enc Tryd.prog W 0 (fun _ => true) true n 3 [c1] with
      | none => simp [h0, h1] at hf'
      | some y1 =>
        simp [h0, h1] at hf'
        obtain ⟨a, e0, rfl, w0⟩ := DataW.trod_int Tryd.underlying3 h0
        obtain ⟨b, e1, rfl, w1⟩ := DataW.trod_int Tryd.underlying3 h1
        simp at e0 e1
        subst e0 e1
        exact ⟨a, b, w0, w1, rfl, hf'.1.symm, hf'.2.symm⟩
theorem shut_two {H : Type} {enc : TypeId × Value → H} {W : World} {sp : Nat → Bool} {a b : Int} (wa : (Lit.int .i64 a).wf = true) (wb : (Lit.int .i64 b).wf = true) :
    DataW.Trod enc Tryd.prog W 0 sp true 22 (.agg #[.int .i64 a, .int .i64 b]) (.agg [.lit (.int .i64 a), .lit (.int .i64 b)]) [] :=
  ⟨2, by simp [DataW.trod, Value.cells, Tryd.underlying22, Tryd.underlying3, cells2, cellsI, wa, wb, show List.range 2 = [0, 1] from rfl]⟩
/-- The two tables, out of a row's list. -/
theorem tabs_in {W : World} {rest : List (String × DataW Unit)} (h : laidMet Tryd.prog (("math/bits.deBruijn64tab", Rows.laid_math_bits_deBruijn64tab) :: rest) W) : Tabs W := by
  obtain ⟨ps, h, _⟩ := h
  exact ⟨laid_tab gDb gDbType Tryd.underlying82 Tryd.underlying5 (by kernel_rfl) (by kernel_rfl) h⟩
theorem wid_in {W : World} {x : String × DataW Unit} {rest : List (String × DataW Unit)} (h : laidMet Tryd.prog (x :: ("dandelion/header.widths", Rows.laid_dandelion_header_widths) :: rest) W) : Wid W := by
  obtain ⟨ps, h, _⟩ := h
  obtain ⟨q, h⟩ := laid_rest h
  exact ⟨laid_tab gWid gWidType Tryd.underlying78 Tryd.underlying3 (by kernel_rfl) (by kernel_rfl) h⟩
end Go.Proofs.YtpjbfijmlbbipaaDoor
