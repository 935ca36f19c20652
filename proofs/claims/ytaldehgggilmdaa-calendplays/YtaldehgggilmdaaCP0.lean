/- What is put in a row, as a list; the start of the laws over ticks. -/
import Derived.Test.YtaldehgggilmdaaC9I
import Derived.Test.YtaldehgggilmdaaCW
import Derived.Test.YtaldehgggilmdaaCA
namespace Go.Proofs.Ytaldehgggilmdaa.Ca
open Go.RowKit Go.Maps

/-- The first k ticks, put in a row. -/
def filL (l : List Int) : Nat → List (Tg Int)
  | 0 => []
  | k + 1 => match l[k]? with
    | some a => insL (filL l k) ((((k : Nat) : Int), a), ((k + 1 : Nat) : Int))
    | none => filL l k
theorem filL_succ {l : List Int} {k : Nat} {a : Int} (h : l[k]? = some a) : filL l (k + 1) = insL (filL l k) ((((k : Nat) : Int), a), ((k + 1 : Nat) : Int)) := by
  rw [filL, h]
theorem filL_mem {l : List Int} : ∀ (k : Nat), k ≤ l.length → ∀ a, a ∈ filL l k ↔ ∃ j : Nat, j < k ∧ a.1.1 = (j : Int) ∧ l[j]? = some a.1.2 ∧ a.2 = ((j + 1 : Nat) : Int)
  | 0, _, a => by simp [filL]
  | k + 1, h, a => by
    obtain ⟨x, hx⟩ : ∃ x, l[k]? = some x := ⟨l[k], List.getElem?_eq_getElem h⟩
    rw [filL_succ hx, (insL_perm _ _).mem_iff, List.mem_cons, filL_mem k (by omega) a]
    constructor
    · rintro (rfl | ⟨j, h1, h2⟩)
      · exact ⟨k, by omega, rfl, hx, rfl⟩
      · exact ⟨j, by omega, h2⟩
    · rintro ⟨j, h1, h2, h3, h4⟩
      by_cases hj : j = k
      · subst hj
        rw [hx] at h3
        refine .inl ?_
        obtain ⟨⟨a1, a2⟩, a3⟩ := a
        simp at h2 h3 h4
        subst h2 h3 h4
        rfl
      · exact .inr ⟨j, by omega, h2, h3, h4⟩
theorem filL_length {l : List Int} : ∀ (k : Nat), k ≤ l.length → (filL l k).length = k
  | 0, _ => rfl
  | k + 1, h => by
    obtain ⟨x, hx⟩ : ∃ x, l[k]? = some x := ⟨l[k], List.getElem?_eq_getElem h⟩
    rw [filL_succ hx, insL_length, filL_length k (by omega)]
theorem take_len {L : List (Tg Int)} {now : Int} : (dueT L now).length ≤ L.length := by
  have := congrArg List.length (due_rest L now)
  rw [List.length_append] at this
  omega
/-- append(u, nil...) -/
theorem append_nil9 {P : Program} {T E : TypeId} {z : Value} {sz by' : Nat} (hu : P.underlying T = some (.slice E)) (hi : (P.info? E).map (fun i => (i.zero, i.size, i.bytes)) = some (some z, sz, by')) (u : Value) (a : Option Addr) (n c : Nat) (he : u = .slice a n c) (hc : n ≤ c) (w : World) :
    (Builtin.append_ #[T, T] T #[u, .slice none 0 0]).run P w = .ok u w := by
  obtain ⟨i0, hi, hz0, hz1, hz2⟩ := info_parts hi
  subst he
  simp [Builtin.append_, go_sem, run_underlying hu w, run_sizeOf w hi]
  rw [if_pos hc]
  cases a <;> rfl
end Go.Proofs.Ytaldehgggilmdaa.Ca
