/- All records behind a row; the document's SameRecords. -/
import Derived.Test.YtpifkhcjogilfabGU2
import Derived.Test.YtpifkhcjogilfabGW0
namespace Go.Proofs.Ytpifkhcjogilfab
open Go.RowKit

theorem append_allR {W : World} {base k : Nat} {u v : Value} {l m : List (Rc × Value)} (hr : W.ownsRow base 38 6 u k (fl rcc l)) (hv : SlAt rcc 6 W v m) (ho : ∀ x ∈ m, x.2.oneCell' = true) (hk : (k + m.length) * 56 ≤ 140737488355328) (hbase : base ≤ W.heap.size) (hnil : (∃ a n c, v = .slice (some a) n c) ∨ (v = .slice none 0 0 ∧ u = .slice none 0 0)) :
    ∃ v' w6, (Builtin.append_ #[29, 29] 29 #[u, v]).run Try.prog W = .ok v' w6 ∧ w6.ownsRow base 38 6 v' (k + m.length) (fl rcc (l ++ m)) ∧ Below base W w6 ∧ W.grownBy w6 u.ownBlock := by
  have hc : ∀ x : Rc × Value, (rcc x).length = 6 := fun _ => rfl
  have hu := Try.underlying29
  obtain ⟨i0, hi, hz0, hz1, hz2⟩ := info_parts infoRec
  obtain ⟨a, cap, rfl, hlen, hcap, hcell⟩ := hv
  by_cases hn : a = none
  · subst hn
    rcases hnil with ⟨a, n, c, h⟩ | ⟨h, rfl⟩
    · simp at h
    · simp at h
      obtain ⟨rfl, rfl⟩ := h
      have hk0 : k = 0 := by
        rcases hr.2 with ⟨_, h⟩ | ⟨_, _, _, h, _⟩
        · exact h
        · simp at h
      refine ⟨.slice none 0 0, W, ?_, by simpa using hr, Below.refl _ _, ⟨rfl, rfl, rfl, Nat.le_refl _, fun _ _ _ => rfl⟩⟩
      simp [Builtin.append_, go_sem, run_underlying hu W, run_sizeOf W hi]
  · obtain ⟨ad, rfl⟩ : ∃ ad, a = some ad := by cases a with | none => exact absurd rfl hn | some ad => exact ⟨ad, rfl⟩
    obtain ⟨v', w', hrun, r1, r2, _⟩ := run_append_own (P := Try.prog) W base 29 29 38 i0 _ 6 56 hu hi hz0 hz1 hz2 rfl (by decide) u k (fl rcc l) hr ad m.length cap (fl rcc m) (by rw [fl_length hc]) (fun j v hj => by
      obtain ⟨q, i, x, h1, h2, rfl, h4⟩ := fl_inv hc m j v hj
      have hp : 0 < m.length := by have := (List.getElem?_eq_some_iff.1 h1).1; omega
      obtain ⟨bk, o, h5, h6, h7⟩ := hcell hp
      cases h5
      rw [Addr.add_mid, ← Nat.add_assoc]
      exact h7 q x h1 i v h4) (fun v hv => by
      obtain ⟨j, hj, rfl⟩ := List.getElem_of_mem hv
      obtain ⟨q, i, x, h2, h3, _, h4⟩ := fl_inv hc m j _ (List.getElem?_eq_getElem hj)
      have h5 := List.mem_of_getElem? h4
      have h6 := ho x (List.mem_of_getElem? h2)
      generalize (fl rcc m)[j] = y at h5 ⊢
      simp only [rcc, List.mem_cons, List.not_mem_nil, or_false] at h5
      rcases h5 with rfl | rfl | rfl | rfl | rfl | rfl <;> first | rfl | exact h6) (by unfold maxLen; omega) hk hbase
    exact ⟨v', w', hrun, by rw [fl_append]; exact r1, (Below.refl _ W).grown r2 hbase (fun j e => (hr.lt j e).1), r2⟩
theorem two_new (w : World) (A B : Obj) : ((w.alloc A).alloc B).drew.heap[w.heap.size]? = some A ∧ ((w.alloc A).alloc B).drew.heap[w.heap.size + 1]? = some B := by
  refine ⟨?_, ?_⟩
  · show ((w.alloc A).alloc B).heap[w.heap.size]? = some A
    rw [Below.heap_alloc _ _ _ (by simp)]
    exact heap_alloc_last w A
  · show ((w.alloc A).alloc B).heap[w.heap.size + 1]? = some B
    have := heap_alloc_last (w.alloc A) B
    rw [World.size_alloc] at this
    exact this

end Go.Proofs.Ytpifkhcjogilfab
