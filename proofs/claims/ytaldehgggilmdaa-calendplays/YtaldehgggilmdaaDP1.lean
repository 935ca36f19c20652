/- The document's calendar in memory; its Take. -/
import Derived.Test.YtaldehgggilmdaaDP0
namespace Go.Proofs.Ytaldehgggilmdaa.Ca.S
open Go.RowKit Go.Maps

/-- The document's calendar: its list, wherever it lies, and its last ticket; its blocks are in S. -/
def RfAt (w : World) (S : Nat → Prop) (mp : Nat) (L : List (Tg ByteArray)) (p : Int) : Prop :=
  ∃ a cap, w.heap[mp]? = some (.cells #[.slice a L.length cap, .int .i64 p] 28) ∧ S mp ∧ L.length ≤ cap ∧ (a = none → cap = 0) ∧ (0 < L.length → ∃ bk o, a = some ⟨bk, o, none⟩ ∧ bk < w.heap.size ∧ S bk ∧ bk ≠ mp ∧
    ∀ j x, L[j]? = some x → w.cell? ⟨bk, o + j * 3, none⟩ = some (.int .u64 x.1.2) ∧ w.cell? ⟨bk, o + j * 3 + 1, none⟩ = some (.int .i64 x.2) ∧ w.cell? ⟨bk, o + j * 3 + 2, none⟩ = some (.string x.1.1))
theorem RfAt.keep {w w' : World} {S T : Nat → Prop} {mp : Nat} {L : List (Tg ByteArray)} {p : Int} (h : RfAt w S mp L p) (hF : Fr T w w') (hT : ∀ k, S k → ¬ T k) : RfAt w' S mp L p := by
  obtain ⟨a, cap, h1, h2, h3, hz, h4⟩ := h
  refine ⟨a, cap, (hF.block _ (block_lt h1) (hT _ h2)).trans h1, h2, h3, hz, fun h0 => ?_⟩
  obtain ⟨bk, o, rfl, h5, h6, h7, h8⟩ := h4 h0
  refine ⟨bk, o, rfl, Nat.lt_of_lt_of_le h5 hF.size, h6, h7, fun j x hx => ?_⟩
  obtain ⟨e1, e2, e3⟩ := h8 j x hx
  have c := fun j => World.cell?_of_block (a := ⟨bk, j, none⟩) (hF.block bk h5 (hT _ h6))
  exact ⟨(c _).trans e1, (c _).trans e2, (c _).trans e3⟩
theorem RfAt.mono {w : World} {S T : Nat → Prop} {mp : Nat} {L : List (Tg ByteArray)} {p : Int} (h : RfAt w S mp L p) (hT : ∀ k, k < w.heap.size → S k → T k) : RfAt w T mp L p := by
  obtain ⟨a, cap, h1, h2, h3, hz, h4⟩ := h
  refine ⟨a, cap, h1, hT _ (block_lt h1) h2, h3, hz, fun h0 => ?_⟩
  obtain ⟨bk, o, rfl, h5, h6, h7, h8⟩ := h4 h0
  exact ⟨bk, o, rfl, h5, hT _ h5 h6, h7, h8⟩
theorem RfAt.below {w w' : World} {S : Nat → Prop} {mp : Nat} {L : List (Tg ByteArray)} {p : Int} (h : RfAt w S mp L p) (hb : Below w.heap.size w w') : RfAt w' S mp L p :=
  h.keep (T := fun _ => False) (Fr.of_below hb) (fun _ _ h => h)
theorem RfAt.drop1 {w : World} {S : Nat → Prop} {mp bk o cap : Nat} {b : Tg ByteArray} {R : List (Tg ByteArray)} {p : Int} (h : RfAt w S mp (b :: R) p) (hk : w.heap[mp]? = some (.cells #[.slice (some ⟨bk, o, none⟩) (b :: R).length cap, .int .i64 p] 28)) :
    RfAt (w.setCell ⟨mp, 0, none⟩ (.slice (if cap = 1 then some ⟨bk, o, none⟩ else some ⟨bk, o + 3, none⟩) R.length (cap - 1))) S mp R p := by
  obtain ⟨a0, cap0, h1, h2, h3, _, h4⟩ := h
  rw [hk] at h1
  simp only [Option.some.injEq, Obj.cells.injEq, Array.mk.injEq, List.cons.injEq, Value.slice.injEq] at h1
  obtain ⟨⟨⟨h1a, _, h1b⟩, _⟩, _⟩ := h1
  subst h1a h1b
  have hF : Fr (fun k => k = mp) w (w.setCell ⟨mp, 0, none⟩ (.slice (if cap = 1 then some ⟨bk, o, none⟩ else some ⟨bk, o + 3, none⟩) R.length (cap - 1))) := (Fr.refl (fun k => k = mp) w).set (p := ⟨mp, 0, none⟩) rfl _
  rw [List.length_cons] at h3
  refine ⟨_, cap - 1, heap_setCell_same w mp 0 _ _ _ hk, h2, by omega, (fun h => by split at h <;> cases h), fun h0 => ?_⟩
  obtain ⟨bk', o', e, h5, h6, h7, h8⟩ := h4 (by simp)
  cases e
  have hc : cap ≠ 1 := by omega
  refine ⟨bk, o + 3, by rw [if_neg hc], Nat.lt_of_lt_of_le h5 hF.size, h6, h7, fun j x hx => ?_⟩
  have h9 := h8 (j + 1) x (by simpa using hx)
  rw [show o + (j + 1) * 3 = o + 3 + j * 3 from by omega] at h9
  have c := fun j => World.cell?_of_block (a := ⟨bk, j, none⟩) (hF.block bk h5 h7)
  exact ⟨(c _).trans h9.1, (c _).trans h9.2.1, (c _).trans h9.2.2⟩
end Go.Proofs.Ytaldehgggilmdaa.Ca.S
