/- Ticks, tickets, as arguments. -/
import Derived.Test.YtaldehgggilmdaaGH
namespace Go.Proofs.Ytaldehgggilmdaa
open Go.ChangeShapes Go.WideShapes Go.ChangeAt Go.RowKit

abbrev u64c (x : Int) : List Value := [.int .u64 x]
section
variable {H : Type} {enc : TypeId × Value → H} {W : World}
theorem cU64t : Try.prog.cellsOf 31 = 1 := by kernel_rfl
theorem bU64t : Try.prog.bytesOf 31 = 8 := by kernel_rfl
theorem bIntt : Try.prog.bytesOf 3 = 8 := by kernel_rfl
set_option maxRecDepth 100000 in
theorem tix_arg {a : Option Addr} {len cap : Nat} {d : DataW H} {p : List MemPlace} (h : DataW.Trod enc Try.prog W 0 (fun _ => true) true 64 (.slice a len cap) d p) (hw : ∀ n ∈ d.weights Try.prog 64, n ≤ reachBytes) :
    ∃ ns, SlAt ic 1 W (.slice a len cap) ns ∧ (∀ z ∈ ns, (Lit.int .i64 z).wf = true) ∧ NilOk (.slice a len cap) ∧ (ns.length + 1) * 8 ≤ 140737488355328 := by
  obtain ⟨fuel, hf⟩ := h
  obtain ⟨ns, hn1, hn2, hG, hn3⟩ := open_sl 0 (cs := ic) (sz := 1) (G := fun y => (Lit.int .i64 y).wf = true) (fun _ => rfl) (by omega) Try.underlying64 cInt (fun n cs' x h => by
    obtain ⟨q, hq, _, wq⟩ := DataW.trod_int Try.underlying3 h
    exact ⟨q, hq, wq⟩) (by simpa [Value.cells] using hf)
  exact ⟨ns, hn1, hG, hn2, slice_weight Try.underlying64 bIntt (by omega) hw (by rcases hn3 with rfl | h; exact .inl rfl; exact .inr h)⟩
theorem sl_u64 {w : World} {v : Value} {l : List Int} (h : SlAt u64c 1 w v l) : ∃ a cap, v = .slice a l.length cap ∧ l.length ≤ 9223372036854775807 ∧ l.length ≤ cap ∧ (0 < l.length → ∃ bk o, a = some ⟨bk, o, none⟩ ∧ bk < w.heap.size ∧ ∀ j x, l[j]? = some x → w.cell? ⟨bk, o + j, none⟩ = some (.int .u64 x)) := by
  obtain ⟨a, cap, rfl, h1, h2, h3⟩ := h
  refine ⟨a, cap, rfl, h1, h2, fun h0 => ?_⟩
  obtain ⟨bk, o, rfl, hb, hc⟩ := h3 h0
  exact ⟨bk, o, rfl, hb, fun j x hx => by simpa using hc j x hx 0 _ rfl⟩
theorem sl_i64 {w : World} {v : Value} {l : List Int} (h : SlAt ic 1 w v l) : ∃ a cap, v = .slice a l.length cap ∧ l.length ≤ 9223372036854775807 ∧ l.length ≤ cap ∧ (0 < l.length → ∃ bk o, a = some ⟨bk, o, none⟩ ∧ bk < w.heap.size ∧ ∀ j x, l[j]? = some x → w.cell? ⟨bk, o + j, none⟩ = some (.int .i64 x)) := by
  obtain ⟨a, cap, rfl, h1, h2, h3⟩ := h
  refine ⟨a, cap, rfl, h1, h2, fun h0 => ?_⟩
  obtain ⟨bk, o, rfl, hb, hc⟩ := h3 h0
  exact ⟨bk, o, rfl, hb, fun j x hx => by simpa using hc j x hx 0 _ rfl⟩
end
end Go.Proofs.Ytaldehgggilmdaa
