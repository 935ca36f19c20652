/- Cost of a way. -/
import Derived.Test.YtgeoghhajjlofaaGreatDoorV6
namespace Go.Proofs.YtgeoghhajjlofaaGreatDoor
open Go.RowKit

/-- What edges cost, by their two nodes. -/
def cE (es : List Ed) : Nat → Nat → Int := es.foldl (fun c e => put2 c e.1.toNat e.2.1.toNat e.2.2) no2
theorem cE_snoc (es : List Ed) (e : Ed) : cE (es ++ [e]) = put2 (cE es) e.1.toNat e.2.1.toNat e.2.2 := by simp [cE, List.foldl_append]
/-- What a way costs, if all its steps are edges. -/
def wayR (c : Nat → Nat → Int) : Int → Int → List Int → Option Int
  | s, _, [] => some s
  | s, a, b :: l => if c a.toNat b.toNat = 0 then none else wayR c (s + c a.toNat b.toNat) b l
/-- What Cost answers. -/
def wayA (ns : List Int) (es : List Ed) : List Int → Int × Int
  | [] => (0, 2)
  | a :: l => if ndAll ns es (a :: l) = true then (match wayR (cE es) 0 a l with | none => (0, 6) | some s => (s, 0)) else (0, 2)
theorem infoI625 : (Tryz.prog.info? 87).map (fun i => (i.zero, i.size)) = some (some (.agg (ccl no2).toArray), 625) := by kernel_rfl
theorem zeroI625 (w : World) : (zeroValue 87).run Tryz.prog w = .ok (.agg (ccl no2).toArray) w := (zero_of_info infoI625).1 w
theorem cE_bd {es : List Ed} (hp : PosE es) (i j : Nat) : 0 ≤ cE es i j ∧ cE es i j ≤ 1000 := by
  unfold cE
  have key : ∀ (l : List Ed) (c : Nat → Nat → Int), (∀ e ∈ l, e ∈ es) → (∀ i j, 0 ≤ c i j ∧ c i j ≤ 1000) → ∀ i j, 0 ≤ (l.foldl (fun c e => put2 c e.1.toNat e.2.1.toNat e.2.2) c) i j ∧ (l.foldl (fun c e => put2 c e.1.toNat e.2.1.toNat e.2.2) c) i j ≤ 1000 := by
    intro l
    induction l with
    | nil => intro c _ hc i j; exact hc i j
    | cons a l ih =>
      intro c hl hc i j
      refine ih _ (fun n hn => hl n (by simp [hn])) (fun x y => ?_) i j
      show 0 ≤ (if x = a.1.toNat ∧ y = a.2.1.toNat then a.2.2 else c x y) ∧ (if x = a.1.toNat ∧ y = a.2.1.toNat then a.2.2 else c x y) ≤ 1000
      have := hp a (hl a (by simp))
      split
      · omega
      · exact hc x y
  exact key es _ (fun _ h => h) (fun _ _ => by simp [no2]) i j
/-- The memory of Cost: the graph, the costs. -/
structure CoM (w wr : World) (vn ve : Value) (B : Nat) (c : Nat → Nat → Int) : Prop where
  g : wr.heap[w.heap.size]? = some (.cells #[vn, ve] 53)
  k : Arr wr B 87 (ccl c)
  b : Below w.heap.size w wr
theorem CoM.keep {w wr w' : World} {vn ve : Value} {B : Nat} {c : Nat → Nat → Int} (h : CoM w wr vn ve B c) (hb : Below wr.heap.size wr w') : CoM w w' vn ve B c :=
  ⟨(hb.block _ (block_lt h.g)).trans h.g, h.k.keep hb h.k.lt, h.b.trans (hb.mono h.b.size)⟩
theorem CoM.put {w wr : World} {vn ve : Value} {B : Nat} {c : Nat → Nat → Int} (h : CoM w wr vn ve B c) (hB : w.heap.size < B) {a b : Nat} (ha : a < 25) (hb : b < 25) (v : Int) : CoM w (wr.setCell ⟨B, a * 25 + b, none⟩ (.int .i64 v)).drew vn ve B (put2 c a b v) :=
  ⟨(Below.heap_setCell _ _ _ _ (by show w.heap.size ≠ B; omega)).trans h.g, by rw [← ccl_set c ha hb]; exact h.k.set _ _, (h.b.setCell (p := ⟨B, a * 25 + b, none⟩) (Nat.le_of_lt hB) _).drew⟩
end Go.Proofs.YtgeoghhajjlofaaGreatDoor
