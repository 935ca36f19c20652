/- Two things compared; things as they are pushed, and as they come out. -/
import Derived.Test.YtndiafbldgbplaaJ9
import Derived.Test.YtndiafbldgbplaaJH
import Derived.Laws.StructEq
namespace Go.Proofs.Ytndiafbldgbplaa
open Go.RowKit

theorem eqI (d : Nat) (x y : Int) (w : World) : (Op.equalIn (d + 1) 3 (.int .i64 x) (.int .i64 y)).run Try.prog w = .ok (x == y) w := run_equalIn_int w d _ _ _ x y Try.underlying3
theorem eqFields_cons (d : Nat) (xs ys : Array Value) (f : Field) (fs : List Field) (a b : Value) (r : Bool) (w : World) (hn : (f.name == "_") = false) (hx : (part f.type xs f.offset).run Try.prog w = .ok a w) (hy : (part f.type ys f.offset).run Try.prog w = .ok b w)
    (he : (Op.equalIn d f.type a b).run Try.prog w = .ok r w) : (Op.eqFields d xs ys (f :: fs)).run Try.prog w = if r = true then (Op.eqFields d xs ys fs).run Try.prog w else .ok false w := by
  have hn' : f.name ≠ "_" := by intro e; rw [e] at hn; simp at hn
  simp only [Op.eqFields, hn', ne_eq, not_false_eq_true, if_true, Sem.run_bind, hx, hy, he, Result.andThen_ok, Sem.run_ite, Sem.run_pure]
  cases r <;> simp
theorem tfields : (Try.prog.fieldsOf 26).toList.map (fun f => (f.name == "_", f.type, f.offset)) = [(false, 3, 0), (false, 3, 1)] := by kernel_rfl
theorem tunder : Try.prog.underlying 26 = some (.struct (Try.prog.fieldsOf 26)) := by kernel_rfl
theorem tstood : Try.prog.stoodInHeld 26 = false := by kernel_rfl
theorem tpart {x0 x1 : Value} (w : World) : (part 3 #[x0, x1] 0).run Try.prog w = .ok x0 w ∧ (part 3 #[x0, x1] 1).run Try.prog w = .ok x1 w :=
  ⟨by kernel_rfl, by kernel_rfl⟩
/-- '==' of two things. -/
theorem eq_thing (a b c d : Int) (w : World) : (Op.equalIn 10000 26 (.agg #[.int .i64 a, .int .i64 b]) (.agg #[.int .i64 c, .int .i64 d])).run Try.prog w = Result.ok (a == c && b == d) w := by
  rw [run_equalIn_struct w 9999 _ _ _ tunder tstood]
  have hf := tfields
  generalize (Try.prog.fieldsOf 26).toList = fs at hf
  obtain ⟨p0, p1⟩ := @tpart (.int .i64 a) (.int .i64 b) w
  obtain ⟨q0, q1⟩ := @tpart (.int .i64 c) (.int .i64 d) w
  obtain ⟨f0, r0, rfl, h0, hf⟩ := List.map_eq_cons_iff.1 hf
  obtain ⟨f1, r1, rfl, h1, hf⟩ := List.map_eq_cons_iff.1 hf
  obtain rfl := List.map_eq_nil_iff.1 hf
  simp only [Prod.mk.injEq] at h0
  obtain ⟨n0, t0, o0⟩ := h0
  simp only [Prod.mk.injEq] at h1
  obtain ⟨n1, t1, o1⟩ := h1
  rw [eqFields_cons 9999 _ _ f0 [f1] (.int .i64 a) (.int .i64 c) (a == c) w n0 (by rw [t0, o0]; exact p0) (by rw [t0, o0]; exact q0) (by rw [t0]; exact eqI 9998 a c w)]
  rw [eqFields_cons 9999 _ _ f1 [] (.int .i64 b) (.int .i64 d) (b == d) w n1 (by rw [t1, o1]; exact p1) (by rw [t1, o1]; exact q1) (by rw [t1]; exact eqI 9998 b d w)]
  cases a == c <;> cases b == d <;> simp [Op.eqFields]
theorem eq_same (x : Th) (w : World) : (Op.equalIn 10000 26 (.agg #[.int .i64 x.1, .int .i64 x.2]) (.agg #[.int .i64 x.1, .int .i64 x.2])).run Try.prog w = Result.ok true w := by
  rw [eq_thing]; simp
theorem ltT_key : ltT = ltK (fun x : Th => x.1) := rfl
/-- The things that the law pushes. -/
def insF : Nat → List Int → List Th
  | _, [] => []
  | s, z :: l => (Int.tmod z 16, (s : Int)) :: insF (s + 1) l
theorem insF_length : ∀ (l : List Int) (s : Nat), (insF s l).length = l.length
  | [], s => rfl
  | z :: l, s => by rw [insF, List.length_cons, insF_length l, List.length_cons]
theorem insF_get : ∀ (l : List Int) (s j : Nat) (z : Int), l[j]? = some z → (insF s l)[j]? = some (Int.tmod z 16, ((s + j : Nat) : Int))
  | [], s, j, z, h => by simp at h
  | y :: l, s, 0, z, h => by simp at h; subst h; simp [insF]
  | y :: l, s, j + 1, z, h => by
    have := insF_get l (s + 1) j z (by simpa using h)
    rw [insF, List.getElem?_cons_succ, this]
    congr 3
    omega
theorem insF_snoc : ∀ (l : List Int) (s : Nat) (z : Int), insF s (l ++ [z]) = insF s l ++ [(Int.tmod z 16, ((s + l.length : Nat) : Int))]
  | [], s, z => rfl
  | y :: l, s, z => by
    rw [List.cons_append, insF, insF_snoc l (s + 1) z, insF, List.cons_append, List.length_cons, show s + 1 + l.length = s + (l.length + 1) from by omega]
theorem insF_next {zs : List Int} {k : Nat} {z : Int} (h : zs[k]? = some z) : insF 0 (zs.take (k + 1)) = insF 0 (zs.take k) ++ [(Int.tmod z 16, (k : Int))] := by
  have hk := (List.getElem?_eq_some_iff.1 h).1
  rw [take_next h, insF_snoc, List.length_take, Nat.min_eq_left (by omega), Nat.zero_add]
theorem tmod16 (z : Int) : -15 ≤ Int.tmod z 16 ∧ Int.tmod z 16 ≤ 15 := by
  have h1 := Int.tmod_lt_of_pos z (show (0 : Int) < 16 by decide)
  have h2 := Int.lt_tmod_of_pos z (show (0 : Int) < 16 by decide)
  omega
theorem insF_mark (l : List Int) (j : Nat) (x : Th) (h : (insF 0 l)[j]? = some x) : x.2 = j := by
  have hj := (List.getElem?_eq_some_iff.1 h).1
  rw [insF_length] at hj
  have := insF_get l 0 j l[j] (List.getElem?_eq_getElem hj)
  rw [this] at h
  cases h
  simp
/-- What comes out k-th: it was pushed, and it stands behind what came out ahead of it. -/
theorem empties_at {l : List Th} (hm : ∀ j x, l[j]? = some x → x.2 = ((j : Nat) : Int)) {k : Nat} {a : Th × Int} (ha : (popN ltT k (fillL ltT l))[0]? = some a) :
    (∃ m : Nat, m < l.length ∧ a.1.2 = (m : Int) ∧ l[m]? = some a.1) ∧ ∀ b, 0 < k → (popN ltT (k - 1) (fillL ltT l))[0]? = some b → b.1.1 < a.1.1 ∨ (b.1.1 = a.1.1 ∧ b.1.2 < a.1.2) := by
  have hin : ∀ e ∈ fillL ltT l, ∃ j : Nat, l[j]? = some e.1 ∧ e.2 = (j : Int) := by
    intro e he
    obtain ⟨j, h1, h2⟩ := mem_ents l 0 e ((fill_perm ltT l).mem_iff.1 he)
    exact ⟨j, h1, by simpa using h2⟩
  have hin' : ∀ e ∈ fillL ltT l, e.1.2 = e.2 := fun e he => by
    obtain ⟨j, h1, h2⟩ := hin e he
    rw [hm j _ h1, h2]
  have hmem := popN_sub ltT _ k a (List.mem_of_getElem? ha)
  refine ⟨?_, fun b hk hb => ?_⟩
  · obtain ⟨j, h1, h2⟩ := hin a hmem
    exact ⟨j, (List.getElem?_eq_some_iff.1 h1).1, hm j _ h1, h1⟩
  · obtain ⟨k, rfl⟩ : ∃ k', k = k' + 1 := ⟨k - 1, by omega⟩
    rw [Nat.add_sub_cancel] at hb
    have hp := pop_cons ltT hb
    rw [popN] at ha
    have ha2 : a ∈ popN ltT k (fillL ltT l) := hp.mem_iff.2 (List.mem_cons_of_mem _ (List.mem_of_getElem? ha))
    have hle : leE (fun x : Th => x.1) b a := heap_min_mem _ (popN_heap _ (fill_heap _ l) k) hb ha2
    have hnd := (hp.map Prod.snd).nodup_iff.1 (popN_nodup ltT (((fill_perm ltT l).map Prod.snd).nodup_iff.2 (nodup_ents l 0)) k)
    rw [List.map_cons, List.nodup_cons] at hnd
    have hne : b.2 ≠ a.2 := fun e => hnd.1 (e ▸ List.mem_map_of_mem (List.mem_of_getElem? ha))
    have h1 := hin' a hmem
    have h2 := hin' b (popN_sub ltT _ k b (List.mem_of_getElem? hb))
    unfold leE at hle
    rw [h1, h2]
    simp only at hle
    omega
end Go.Proofs.Ytndiafbldgbplaa
