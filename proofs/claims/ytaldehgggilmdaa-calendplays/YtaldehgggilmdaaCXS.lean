/- A calendar of string: its things sorted. -/
import Derived.Test.YtaldehgggilmdaaCVS
import Derived.Test.YtaldehgggilmdaaShelf
import Derived.Sort.OwnSortedInts
import Derived.Shelf.SlSortCmp.NoneTotal
namespace Go.Proofs.Ytaldehgggilmdaa.Ca.S
open Go.RowKit Go.Sort Go.Shelf

theorem less_lex (a b : Th) : aheadE less a b = true ↔ a.1.2.2 < b.1.2.2 ∨ (a.1.2.2 = b.1.2.2 ∧ a.2 < b.2) := by
  unfold aheadE less ltK
  split <;> simp [at'] <;> omega
abbrev Pt (w : World) (g : Nat) : Type := {e : Th // (∃ i : Int, w.heap[e.1.1]? = some (.cells (entA e i) 53)) ∧ e.1.1 ≠ g}
abbrev ptE {w : World} {g : Nat} (x : Pt w g) : Value := ptr x.1.1.1
def cfE {w : World} {g : Nat} (x y : Pt w g) : Int := cmE x.1.1.2.2 x.1.2 y.1.1.2.2 y.1.2
theorem ltE {w : World} {g : Nat} (x y : Pt w g) : ltOf cfE x y = aheadE less x.1 y.1 := cmE_neg at' x.1 y.1
theorem swoE (w : World) (g : Nat) : SWO (ltOf (cfE (w := w) (g := g))) where
  irrefl x := by
    rw [ltE]
    cases h : aheadE less x.1 x.1
    · rfl
    · have := (less_lex _ _).1 h; omega
  trans x y z h1 h2 := by
    rw [ltE] at *
    have a := (less_lex _ _).1 h1
    have b := (less_lex _ _).1 h2
    exact (less_lex _ _).2 (by omega)
  ntrans x y z h1 h2 := by
    rw [ltE] at *
    cases h : aheadE less x.1 z.1
    · rfl
    · have c := (less_lex _ _).1 h
      have a : ¬ (aheadE less x.1 y.1 = true) := by rw [h1]; simp
      have b : ¬ (aheadE less y.1 z.1 = true) := by rw [h2]; simp
      rw [less_lex] at a b
      omega
theorem sorted_heap {w : World} {g m k : Nat} {os : Array Obj} {α : Type} [Inhabited α] (enc : α → Value) (d : Array α) (hk : k ≠ g) (hl : k < w.heap.size) : (grow (putRow enc (Sort.ahead w m) g 0 d) os).heap[k]? = w.heap[k]? := by
  rw [heap_grow_old _ _ (by simpa using hl)]
  have : g ≠ k := fun e => hk e.symm
  simp [putRow, mapBlock, Sort.ahead, Array.getElem?_modify, this]
set_option maxRecDepth 100000 in
theorem sort_ok {w : World} {base g cap n : Nat} {es : List Th} {L : List (Tg ByteArray)} (hrow : w.ownsRow base 51 1 (.slice (some ⟨g, 0, none⟩) n cap) n (fl pn (es.map fun e => e.1.1))) (hn : es.length = n)
    (hent : ∀ e ∈ es, (∃ i : Int, w.heap[e.1.1]? = some (.cells (entA e i) 53)) ∧ e.1.1 ≠ g) (hp : (es.map tg).Perm L) (hL : Ord L) (h0 : 0 < n) (hl : n ≤ 100000) :
    Calls Try.prog 40 #[.slice (some ⟨g, 0, none⟩) n cap, .func (.func 32) #[] #[]] w fun r w' => r = .returned (.tuple #[]) ∧
      ∃ es' : List Th, es'.Perm es ∧ es'.map tg = L ∧ (∀ j e, es'[j]? = some e → w'.cell? ⟨g, j, none⟩ = some (ptr e.1.1)) ∧ Fr (fun k => k = g) w w' := by
  obtain ⟨e0, he0⟩ : ∃ e0, es[0]? = some e0 := ⟨es[0], List.getElem?_eq_getElem (by omega)⟩
  haveI : Inhabited (Pt w g) := ⟨⟨e0, hent e0 (List.mem_of_getElem? he0)⟩⟩
  obtain ⟨dl, hdl⟩ : ∃ dl : List (Pt w g), dl = es.attachWith _ hent := ⟨_, rfl⟩
  have hval : dl.map Subtype.val = es := by rw [hdl]; exact List.attachWith_map_subtype_val _
  have hdn : dl.length = n := by rw [← hn, ← hval, List.length_map]
  have hgl : g < w.heap.size := by
    obtain ⟨cur, h1⟩ := row_ty hrow (j := g) rfl
    exact block_lt h1
  have hfz : ∀ j, w.frozen? ⟨g, j, none⟩ = false := by
    obtain ⟨cur, h1⟩ := row_ty hrow (j := g) rfl
    exact frozen_new h1
  have hcell : ∀ (j : Nat) (x : Pt w g), dl[j]? = some x → w.cell? ⟨g, j, none⟩ = some (ptE x) := by
    intro j x hx
    have hb : (es.map fun e => e.1.1)[j]? = some x.1.1.1 := by rw [← hval, List.getElem?_map, List.getElem?_map, hx]; rfl
    have h3 := hrow.cells (g := g) rfl (j * 1 + 0) (ptr x.1.1.1) (by rw [fl_get (cs := pn) (sz := 1) (fun _ => rfl) _ j 0 _ hb (by omega)]; rfl)
    rw [Addr.add_mid, Nat.zero_add, Nat.mul_one, Nat.add_zero] at h3
    exact h3
  have hH : Holds (ptE (w := w) (g := g)) w g 0 dl.toArray := by
    intro j hj
    have hj' : j < dl.length := by simpa using hj
    rw [Nat.zero_add]
    refine ⟨?_, hfz j⟩
    rw [hcell j dl[j] (List.getElem?_eq_getElem hj')]
    simp [hj']
  have hcmp : CmpLays1 Try.prog 32 #[] (ptE (w := w) (g := g)) cfE g 0 dl.toArray.size w := fun m os dk _ x y => by
    obtain ⟨⟨i, hi⟩, hx⟩ := x.2
    obtain ⟨⟨j, hj⟩, hy⟩ := y.2
    have h1 : (sortWorld (ptE (w := w) (g := g)) w g 0 m dk os).heap[x.1.1.1]? = some (.cells (entA x.1 i) 53) := by unfold sortWorld; rw [sorted_heap (ptE (w := w) (g := g)) dk hx (block_lt hi)]; exact hi
    have h2 : (sortWorld (ptE (w := w) (g := g)) w g 0 m dk os).heap[y.1.1.1]? = some (.cells (entA y.1 j) 53) := by unfold sortWorld; rw [sorted_heap (ptE (w := w) (g := g)) dk hy (block_lt hj)]; exact hj
    exact (order_any h1 h2).mono fun _ _ ⟨h3, q, os', h4⟩ => ⟨h3, q, os', h4⟩
  have eg : ∀ args w, (callFunc 32 args).run Try.prog w = .ok (.enter 32 args) w := enters_of Try.func32 (by kernel_rfl) rfl
  have h := Any.slices_SortFunc Try.sortPS (ptE (w := w) (g := g)) (fun _ => rfl) cfE (swoE w g) 32 #[] g 0 cap dl.toArray w eg hcmp hH hgl (by simp; omega)
  have hsz : dl.toArray.size = n := by simpa using hdn
  rw [hsz] at h
  refine Calls.mono (show Calls Try.prog 40 #[.slice (some ⟨g, 0, none⟩) n cap, .func (.func 32) #[] #[]] w _ from h) ?_
  rintro x w' ⟨rfl, d', m, os, hpm, hs, rfl⟩
  obtain ⟨hds, _, hperm⟩ := hpm
  have hdz : d'.size = n := by rw [hds, hsz]
  have e1 : d'.extract 0 n = d' := by rw [← hdz]; exact Array.extract_size
  have e2 : dl.toArray.extract 0 n = dl.toArray := by rw [← hsz]; exact Array.extract_size
  rw [e1, e2] at hperm
  have hpm1 : (d'.toList.map Subtype.val).Perm es := by
    have h1 := hperm.map Subtype.val
    rw [show dl.toArray.toList = dl from rfl, hval] at h1
    exact h1
  have hpm2 : ((d'.toList.map Subtype.val).map tg).Perm L := (hpm1.map tg).trans hp
  have hO : Ord ((d'.toList.map Subtype.val).map tg) := by
    have hnd := nd_tg hpm2 hL
    unfold Ord
    rw [List.pairwise_iff_getElem]
    intro i j hi hj hij
    have hi' : i < d'.size := by simpa using hi
    have hj' : j < d'.size := by simpa using hj
    have h1 := hs i j (Nat.zero_le _) hij (by omega)
    rw [ltE, getElem!_pos d' j hj', getElem!_pos d' i hi'] at h1
    have h2 : leE at' d'[i].1 d'[j].1 := leE_not at' (by
      have h3 : ¬ (aheadE less d'[j].1 d'[i].1 = true) := by rw [h1]; simp
      exact h3)
    have h4 : d'[i].1.2 ≠ d'[j].1.2 := fun e => by
      rw [List.Nodup, List.pairwise_map, List.pairwise_map, List.pairwise_iff_getElem] at hnd
      exact hnd i j (by simpa using hi') (by simpa using hj') hij (by simpa using e)
    simp only [List.getElem_map, Array.getElem_toList]
    exact ⟨h2, h4⟩
  refine ⟨rfl, d'.toList.map Subtype.val, hpm1, ord_eq hO hL hpm2, fun j e he => ?_, ?_⟩
  · rw [List.getElem?_map] at he
    obtain ⟨x, hx, rfl⟩ := Option.map_eq_some_iff.1 he
    have hj : j < d'.size := by have := (List.getElem?_eq_some_iff.1 hx).1; simpa using this
    have hxe : d'[j]! = x := by
      rw [getElem!_pos d' j hj]
      have := (List.getElem?_eq_some_iff.1 hx).2
      simpa using this
    have h1 := cell?_putRow (ptE (w := w) (g := g)) (Sort.ahead w m) g 0 dl.toArray d' (fun k hk => by rw [cell?_ahead]; exact hH k hk) (by rw [hds]) j hj
    rw [Nat.zero_add, hxe] at h1
    unfold sortWorld
    rw [cell?_grow _ _ _ (by simpa using hgl)]
    exact h1
  · refine ⟨rfl, rfl, rfl, ?_, fun k hk hs => sorted_heap (ptE (w := w) (g := g)) d' hs hk⟩
    unfold sortWorld
    simp
end Go.Proofs.Ytaldehgggilmdaa.Ca.S
