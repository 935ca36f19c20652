/- Costs, edge by edge, till nothing becomes cheaper: the document's way, as functions. -/
import Derived.Test.YtabnecicidkmhaaVQ5
import Derived.Test.YtabnecicidkmhaaVQ3
namespace Go.Proofs.Ytabnecicidkmhaa

/-- More than any way costs. -/
def farC : Int := 1073741824
def d0C (r : Int) : Int → Int := fun x => if x = r then 0 else farC
/-- One edge is gone over. -/
def rlx (D : Int → Int) (e : Ed) : Int → Int := if D e.1 < farC ∧ D e.1 + e.2.2 < D e.2.1 then (fun x => if x = e.2.1 then D e.1 + e.2.2 else D x) else D
def rndC (es : List Ed) (D : Int → Int) : Int → Int := es.foldl rlx D
def bfN (es : List Ed) (r : Int) : Nat → Int → Int
  | 0 => d0C r
  | k + 1 => rndC es (bfN es r k)
theorem rlx_le (D : Int → Int) (e : Ed) (x : Int) : rlx D e x ≤ D x := by
  unfold rlx
  by_cases h : D e.1 < farC ∧ D e.1 + e.2.2 < D e.2.1
  · rw [if_pos h]
    by_cases hx : x = e.2.1
    · rw [if_pos hx, hx]; omega
    · rw [if_neg hx]; exact Int.le_refl _
  · rw [if_neg h]; exact Int.le_refl _
theorem rlx_edge {D : Int → Int} {e : Ed} (h : D e.1 < farC) : rlx D e e.2.1 ≤ D e.1 + e.2.2 := by
  unfold rlx
  by_cases h2 : D e.1 + e.2.2 < D e.2.1
  · rw [if_pos ⟨h, h2⟩]; simp
  · rw [if_neg (fun e => h2 e.2)]; omega
theorem fold_le : ∀ (L : List Ed) (D : Int → Int) (x : Int), (L.foldl rlx D) x ≤ D x
  | [], _, _ => Int.le_refl _
  | e :: L, D, x => Int.le_trans (fold_le L (rlx D e) x) (rlx_le D e x)
def SndC (es : List Ed) (r : Int) (D : Int → Int) : Prop := ∀ x, D x = farC ∨ (D x < farC ∧ ∃ h, Wy es r x (D x) h)
theorem snd_zero (es : List Ed) (r : Int) : SndC es r (d0C r) := fun x => by
  unfold d0C
  by_cases h : x = r
  · rw [if_pos h]
    exact .inr ⟨by decide, 0, by rw [h]; exact Wy.refl _ _⟩
  · rw [if_neg h]; exact .inl rfl
theorem snd_rlx {es : List Ed} {r : Int} {D : Int → Int} {e : Ed} (he : e ∈ es) (h : SndC es r D) : SndC es r (rlx D e) := fun x => by
  unfold rlx
  by_cases hc : D e.1 < farC ∧ D e.1 + e.2.2 < D e.2.1
  · rw [if_pos hc]
    by_cases hx : x = e.2.1
    · rw [if_pos hx]
      obtain ⟨hh, hw⟩ : ∃ h, Wy es r e.1 (D e.1) h := by
        rcases h e.1 with h1 | ⟨_, h1⟩
        · rw [h1] at hc; exact absurd hc.1 (Int.lt_irrefl _)
        · exact h1
      refine .inr ⟨?_, hh + 1, by rw [hx]; exact hw.step he⟩
      have : D e.2.1 ≤ farC := by
        rcases h e.2.1 with h1 | ⟨h1, _⟩
        · omega
        · omega
      omega
    · rw [if_neg hx]; exact h x
  · rw [if_neg hc]; exact h x
theorem snd_fold {es : List Ed} {r : Int} : ∀ (L : List Ed) (D : Int → Int), (∀ e ∈ L, e ∈ es) → SndC es r D → SndC es r (L.foldl rlx D)
  | [], _, _, h => h
  | e :: L, D, hL, h => snd_fold L (rlx D e) (fun x hx => hL x (List.mem_cons_of_mem _ hx)) (snd_rlx (hL e List.mem_cons_self) h)
theorem snd_bf (es : List Ed) (r : Int) : ∀ k, SndC es r (bfN es r k)
  | 0 => snd_zero es r
  | k + 1 => snd_fold es _ (fun _ h => h) (snd_bf es r k)
def CmpC (es : List Ed) (r : Int) (k : Nat) (D : Int → Int) : Prop := ∀ x c h, Wy es r x c h → h ≤ k → c < farC → D x ≤ c
theorem cmp_bf {es : List Ed} (hp : PosE es) (r : Int) : ∀ k, CmpC es r k (bfN es r k)
  | 0 => fun x c h hw hk _ => by
    obtain ⟨h1, h2⟩ := hw.zero (by omega)
    show d0C r x ≤ c
    unfold d0C
    rw [if_pos h1, h2]
    exact Int.le_refl _
  | k + 1 => fun x c h hw hk hc => by
    rcases hw.last with ⟨h1, h2, h3⟩ | ⟨e, he, c', h', hw', hx, hcc, hh⟩
    · have := cmp_bf hp r k x c h hw (by omega) hc
      exact Int.le_trans (fold_le _ _ _) this
    · have hpe := hp e he
      have h1 := cmp_bf hp r k e.1 c' h' hw' (by omega) (by omega)
      obtain ⟨L1, L2, hL⟩ := List.append_of_mem he
      show (es.foldl rlx (bfN es r k)) x ≤ c
      generalize bfN es r k = D at h1 ⊢
      rw [hL, List.foldl_append, List.foldl_cons, hx]
      have h2 := fold_le L1 D e.1
      generalize L1.foldl rlx D = D1 at h2 ⊢
      have h3 := rlx_edge (D := D1) (e := e) (by omega)
      have h4 := fold_le L2 (rlx D1 e) e.2.1
      omega
theorem nodup_le {l : List Int} : ∀ {m : List Int}, l.Nodup → (∀ x ∈ l, x ∈ m) → l.length ≤ m.length := by
  induction l with
  | nil => intro m _ _; simp
  | cons x l ih =>
    intro m hn hm
    rw [List.nodup_cons] at hn
    have hx := hm x List.mem_cons_self
    have := ih (m := m.erase x) hn.2 (fun y hy => (List.mem_erase_of_ne (fun e => hn.1 (by rw [← e]; exact hy))).2 (hm y (List.mem_cons_of_mem _ hy)))
    rw [List.length_erase_of_mem hx] at this
    have : 0 < m.length := List.length_pos_of_mem hx
    rw [List.length_cons]
    omega
theorem ds_node {ns : List Int} {es : List Ed} (hok : graphOk ns es = true) {r x d : Int} (hr : r ∈ ns) (h : Ds es r x d) : x ∈ ns := by
  obtain ⟨k, hk⟩ := h.1
  rcases hk.last with ⟨rfl, _, _⟩ | ⟨e, he, _, _, _, rfl, _, _⟩
  · exact hr
  · exact ((graphOk_bd hok).2.1 e he).2
/-- A least-cost way meets no node twice. -/
theorem ds_hops {ns : List Int} {es : List Ed} (hok : graphOk ns es = true) {r : Int} (hr : r ∈ ns) : ∀ (h : Nat) (x d : Int), Ds es r x d → Wy es r x d h → ∃ l : List Int, l.length = h + 1 ∧ l.Nodup ∧ ∀ y ∈ l, y ∈ ns ∧ ∃ dy, Ds es r y dy ∧ dy ≤ d
  | 0, x, d, hd, hw => by
    refine ⟨[x], rfl, by simp, fun y hy => ?_⟩
    rw [List.mem_singleton.1 hy]
    exact ⟨ds_node hok hr hd, d, hd, Int.le_refl _⟩
  | h + 1, x, d, hd, hw => by
    rcases hw.last with ⟨_, _, h3⟩ | ⟨e, he, c', h', hw', hx, hcc, hh⟩
    · cases h3
    · obtain ⟨_, hde⟩ := into_last hd he hw' hx hcc
      have : h' = h := by omega
      subst this
      obtain ⟨l, h1, h2, h3⟩ := ds_hops hok hr h' e.1 c' hde hw'
      have hpe := graphOk_pos hok e he
      refine ⟨l ++ [x], by simp [h1], ?_, fun y hy => ?_⟩
      · refine List.nodup_append.2 ⟨h2, by simp, fun a ha b hb e' => ?_⟩
        rw [List.mem_singleton.1 hb] at e'
        subst e'
        obtain ⟨_, dy, h4, h5⟩ := h3 a ha
        have := h4.uniq hd
        omega
      · rcases List.mem_append.1 hy with hy | hy
        · obtain ⟨h4, dy, h5, h6⟩ := h3 y hy
          exact ⟨h4, dy, h5, by omega⟩
        · rw [List.mem_singleton.1 hy]
          exact ⟨ds_node hok hr hd, d, hd, Int.le_refl _⟩
theorem graphOk_nn {ns : List Int} {es : List Ed} (hok : graphOk ns es = true) : ns.Nodup := by
  simp only [graphOk, Bool.and_eq_true] at hok
  have key : ∀ (ns : List Int) (last : Int), nodesOk last ns = true → ns.Pairwise fun a b => a < b := fun ns => by
    induction ns with
    | nil => intro _ _; exact List.Pairwise.nil
    | cons m ns ih =>
      intro last hm
      have hm' : nodesOk m ns = true := by
        simp only [nodesOk, Bool.and_eq_true] at hm
        exact hm.2.2
      exact List.pairwise_cons.2 ⟨fun y hy => (nodesOk_bd ns m hm' y hy).2.2, ih m hm'⟩
  exact (key ns 0 hok.1).imp fun h => by omega
theorem graphOk_n24 {ns : List Int} {es : List Ed} (hok : graphOk ns es = true) : ns.length ≤ 24 := by
  have hb := (graphOk_bd hok).1
  have := nodup_le (m := (List.range 24).map fun (i : Nat) => (i : Int) + 1) (graphOk_nn hok) (fun y hy => List.mem_map.2 ⟨(y - 1).toNat, by have := hb y hy; simp; omega, by have := hb y hy; omega⟩)
  simpa using this
/-- What the document's Costs tells. -/
theorem bf_all {ns : List Int} {es : List Ed} (hok : graphOk ns es = true) {r : Int} (hr : r ∈ ns) (x : Int) : (∃ d, Ds es r x d ∧ bfN es r ns.length x = d ∧ 0 ≤ d ∧ d ≤ 1000 * ns.length) ∨ ((∀ d, ¬ Ds es r x d) ∧ bfN es r ns.length x = farC) := by
  have hp := graphOk_pos hok
  rcases snd_bf es r ns.length x with h | ⟨h1, hh, hw⟩
  · refine .inr ⟨fun d hd => ?_, h⟩
    obtain ⟨k, hk⟩ := hd.1
    obtain ⟨l, h1, h2, h3⟩ := ds_hops hok hr k x d hd hk
    have h4 := nodup_le h2 (fun y hy => (h3 y hy).1)
    have h5 := hk.pos hp
    have hn24 := graphOk_n24 hok
    have := cmp_bf hp r ns.length x d k hk (by omega) (by unfold farC; omega)
    rw [h] at this
    unfold farC at this
    omega
  · obtain ⟨d, hd, _⟩ := ds_of hp hw
    obtain ⟨k, hk⟩ := hd.1
    obtain ⟨l, h2, h3, h4⟩ := ds_hops hok hr k x d hd hk
    have h5 := nodup_le h3 (fun y hy => (h4 y hy).1)
    have h6 := hk.pos hp
    have h7 := hd.2 _ _ hw
    have h8 := cmp_bf hp r ns.length x d k hk (by omega) (by omega)
    exact .inl ⟨d, hd, by omega, by omega, by omega⟩
end Go.Proofs.Ytabnecicidkmhaa
