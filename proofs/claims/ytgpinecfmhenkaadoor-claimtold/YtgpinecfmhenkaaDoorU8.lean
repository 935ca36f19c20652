/- Owner, of claims as they are told; the law's small; works. -/
import Derived.Test.YtgpinecfmhenkaaDoorU7
namespace Go.Proofs.YtgpinecfmhenkaaDoor
open Go.RowKit

/-- The claim of an id, as it is told. -/
def tOf (T : List (Int × List Int)) (id : Int) : Option (Int × List Int) := T.find? fun p => p.1 == id
theorem clOf_cls (L : List Cl) (id : Int) : (clOf L id).map (fun x => (x.1, x.2.1)) = tOf (cls L) id := by
  unfold clOf tOf cls
  rw [List.find?_map]
  rfl
def OwnrT (w w' : World) (T : List (Int × List Int)) (id : Int) (e : Ending) : Prop :=
  (¬ (1 ≤ id ∧ id ≤ 1024) ∧ FltA w w' 2 e) ∨ ((1 ≤ id ∧ id ≤ 1024) ∧ tOf T id = none ∧ FltA w w' 6 e) ∨ ((1 ≤ id ∧ id ≤ 1024) ∧ ∃ p, tOf T id = some p ∧ SoleA w w' id p.2 e)
/-- Claims that stand in memory, as they are told. -/
def TAt (w : World) (u : Value) (T : List (Int × List Int)) : Prop := ∃ L, ClsAt w u L ∧ cls L = T
theorem TAt.keep {w w' : World} {u : Value} {T : List (Int × List Int)} (h : TAt w u T) (hb : Below w.heap.size w w') : TAt w' u T := by
  obtain ⟨L, h1, h2⟩ := h
  exact ⟨L, h1.keep hb (Nat.le_refl _), h2⟩
theorem TAt.shape {w : World} {u : Value} {T : List (Int × List Int)} (h : TAt w u T) : ∃ a c, u = .slice a T.length c := by
  obtain ⟨L, h1, h2⟩ := h
  obtain ⟨a, cap, h3, _⟩ := h1.r
  exact ⟨a, cap, by rw [h3, ← h2, List.length_map]⟩
theorem owner_T {T : List (Int × List Int)} {v : Value} (id : Int) {w : World} (h : TAt w v T) (hl : ∀ p ∈ T, p.2.length ≤ 10000) :
    Calls Tryd.prog 6 #[v, .int .i64 id] w fun e w' => OwnrT w w' T id e ∧ Below w.heap.size w w' := by
  obtain ⟨L, h1, h2⟩ := h
  refine (owner_any (id := id) h1 (fun x hx => hl (x.1, x.2.1) (by rw [← h2]; exact List.mem_map.2 ⟨x, hx, rfl⟩))).mono ?_
  rintro e w' ⟨h3, h4⟩
  refine ⟨?_, h4⟩
  have h5 := clOf_cls L id
  rw [h2] at h5
  rcases h3 with h3 | ⟨a, b, c⟩ | ⟨a, x, b, c⟩
  · exact .inl h3
  · rw [b] at h5
    exact .inr (.inl ⟨a, h5.symm, c⟩)
  · rw [b] at h5
    exact .inr (.inr ⟨a, _, h5.symm, c⟩)
/-- A record that claims an id. -/
abbrev smR (o id : Int) : Rc := ⟨o, 1, 1, id, false, []⟩
theorem small_any (o id : Int) (w : World) : Calls Tryd.prog 25 #[.int .i64 o, .int .i64 id] w fun e w' => e = .returned (recV (smR o id) nilS) ∧ Below w.heap.size w w' := by
  go_enter Tryd.func25, Tryd.ntmps25
  go_wp2
  refine bodyPost_ret (v := recV (smR o id) nilS) (by simp [results, Tryd.results25, asAddr, Result.andThen, go_sem]) rfl ⟨rfl, by go_grown⟩
/-- Records out of a block. -/
theorem recs_blk {w : World} {b : Nat} {l : List (Rc × Value)} (h : w.heap[b]? = some (.cells (fl rcc l).toArray 49)) (hn : l.length ≤ 1000) (ha : ∀ x ∈ l, SlAt ac 2 w x.2 x.1.adjs) : RecsAt w (.slice (some ⟨b, 0, none⟩) l.length l.length) l := by
  refine ⟨slAt_of_row (cs := rcc) (sz := 6) (base := 0) (k := l.length) (e := 49) (fun _ => rfl) ⟨fl_length (sz := 6) (cs := rcc) (fun _ => rfl) l, .inr ⟨b, l.length, _, rfl, Nat.zero_le _, h, Nat.le_refl _, by unfold maxLen; omega, by simp [fl_length (sz := 6) (cs := rcc) (fun _ => rfl)], ?_⟩⟩ rfl, ha⟩
  simp only
  rw [List.take_of_length_le]
  rw [fl_length (sz := 6) (cs := rcc) (fun _ => rfl)]
  exact Nat.le_refl _
theorem nilAdj (w : World) : SlAt ac 2 w nilS [] := slAt_of_row (cs := ac) (fun _ => rfl) (World.ownsRow_nil w 0 117 2) rfl
abbrev wkR : List Rc := [smR 1 5, smR 2 7, smR 3 5, smR 4 0]
theorem wk_ok : bothOk no1 wkR = true := by decide
theorem wk_allC : allC wkR = [(5, [1, 3]), (7, [2])] := by
  have h1 : idsL wkR = [5, 7] := crise_ext (idsL_rise _) (by decide) (fun x => by
    rw [mem_idsL]
    constructor
    · rintro ⟨_, h2⟩
      obtain ⟨y, hy⟩ := List.exists_mem_of_ne_nil _ h2
      obtain ⟨r, hr, h3, h4, _⟩ := mem_gat.1 hy
      simp only [wkR, List.mem_cons, List.not_mem_nil, or_false] at hr
      rcases hr with rfl | rfl | rfl | rfl <;> simp at h3 h4 <;> subst h3 <;> simp
    · intro h
      simp only [List.mem_cons, List.not_mem_nil, or_false] at h
      rcases h with rfl | rfl
      · exact ⟨by omega, by decide⟩
      · exact ⟨by omega, by decide⟩)
  unfold allC
  rw [h1]
  show [((5 : Int), rsL (gat wkR 5)), (7, rsL (gat wkR 7))] = _
  rw [show gat wkR 5 = [1, 3] by decide, show gat wkR 7 = [2] by decide, rsL_of (by decide), rsL_of (by decide)]
end Go.Proofs.YtgpinecfmhenkaaDoor
