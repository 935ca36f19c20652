/- A calendar of int: New, isThere, add. -/
import Derived.Test.YtaldehgggilmdaaC4I
namespace Go.Proofs.Ytaldehgggilmdaa.Ca.I
open Go.RowKit Go.Maps

/-- What a map tells of a tree. -/
def MapOk (f : Int → Option Value) (es : List Th) : Prop := (∀ e ∈ es, f e.2 = some (ptr e.1.1)) ∧ ∀ k x, f k = some x → ∃ e ∈ es, e.2 = k ∧ x = ptr e.1.1
theorem MapOk.perm {f : Int → Option Value} {es fs : List Th} (h : MapOk f es) (hp : es.Perm fs) : MapOk f fs :=
  ⟨fun e he => h.1 e (hp.mem_iff.2 he), fun k x hk => by obtain ⟨e, he, r⟩ := h.2 k x hk; exact ⟨e, hp.mem_iff.1 he, r⟩⟩
theorem MapOk.put {f : Int → Option Value} {es : List Th} (h : MapOk f es) {e : Th} (hn : ∀ x ∈ es, x.2 ≠ e.2) : MapOk (putO f e.2 (ptr e.1.1)) (es ++ [e]) := by
  refine ⟨fun x hx => ?_, fun k x hk => ?_⟩
  · rcases List.mem_append.1 hx with hx | hx
    · rw [putO_other f _ (hn x hx)]; exact h.1 x hx
    · rw [List.mem_singleton.1 hx, putO_same]
  · by_cases hke : k = e.2
    · subst hke
      rw [putO_same] at hk
      cases hk
      exact ⟨e, by simp, rfl, rfl⟩
    · rw [putO_other f _ hke] at hk
      obtain ⟨y, hy, r⟩ := h.2 k x hk
      exact ⟨y, List.mem_append_left _ hy, r⟩
theorem MapOk.del {f : Int → Option Value} {es fs : List Th} {e : Th} (h : MapOk f es) (hp : es.Perm (e :: fs)) (hn : (es.map Prod.snd).Nodup) : MapOk (delO f e.2) fs := by
  have hnd := (hp.map Prod.snd).nodup_iff.1 hn
  rw [List.map_cons, List.nodup_cons] at hnd
  refine ⟨fun x hx => ?_, fun k x hk => ?_⟩
  · have hne : x.2 ≠ e.2 := fun he => hnd.1 (List.mem_map.2 ⟨x, hx, he⟩)
    rw [delO_other f hne]
    exact h.1 x (hp.mem_iff.2 (List.mem_cons_of_mem _ hx))
  · by_cases hke : k = e.2
    · subst hke; rw [delO_same] at hk; cases hk
    · rw [delO_other f hke] at hk
      obtain ⟨y, hy, h1, h2⟩ := h.2 k x hk
      rcases List.mem_cons.1 (hp.mem_iff.1 hy) with rfl | hy
      · exact absurd h1.symm hke
      · exact ⟨y, hy, h1, h2⟩
end Go.Proofs.Ytaldehgggilmdaa.Ca.I
