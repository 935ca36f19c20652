/- nearest: the nodes of a part, the cheapest first. -/
import Derived.Test.YtgeoghhajjlofaaGreatDoorVP0
import Derived.Test.YtgeoghhajjlofaaGreatDoorVH5
import Derived.Test.YtgeoghhajjlofaaGreatDoorVHH
import Derived.Test.YtgeoghhajjlofaaGreatDoorG5
import Derived.Test.YtgeoghhajjlofaaGreatDoorGC
namespace Go.Proofs.YtgeoghhajjlofaaGreatDoor
open Go.RowKit

theorem frOf {S : Nat → Prop} {w w' : World} (h : Ad.Fr S w w') : Fr S w w' := ⟨h.os, h.tape, h.output, h.size, h.block⟩
theorem infoB25 : (Tryz.prog.info? 84).map (fun i => (i.zero, i.size)) = some (some (.agg (mcl no1).toArray), 25) := by kernel_rfl
theorem zeroB25 (w : World) : (zeroValue 84).run Tryz.prog w = .ok (.agg (mcl no1).toArray) w := (zero_of_info infoB25).1 w
/-- The memory of nearest: the graph, the marks, the heap, what is told. -/
structure NrM (w wr : World) (vn ve : Value) (f : Nat → Bool) (v : Value) (hs : List ((Int × Int) × Int)) (p : Int) (u : Value) (P : List (Int × Int)) : Prop where
  g : wr.heap[w.heap.size]? = some (.cells #[vn, ve] 53)
  m : Arr wr (w.heap.size + 1) 84 (mcl f)
  h : Ad.HpM wr (w.heap.size + 2) (w.heap.size + 2) v hs p
  r : wr.ownsRow (w.heap.size + 3) 75 2 u P.length (fl ac P)
  ne : ∀ k, u.ownBlock = some k → v.ownBlock = some k → False
  b : Below w.heap.size w wr
section
variable {w wr w' : World} {vn ve v v' u : Value} {f : Nat → Bool} {hs hs' : List ((Int × Int) × Int)} {p p' : Int} {P : List (Int × Int)}
theorem NrM.vlow (h : NrM w wr vn ve f v hs p u P) {k : Nat} (hk : v.ownBlock = some k) : w.heap.size + 2 ≤ k ∧ k < wr.heap.size := h.h.row.lt k hk
theorem NrM.keep (h : NrM w wr vn ve f v hs p u P) (hb : Below wr.heap.size wr w') : NrM w w' vn ve f v hs p u P :=
  ⟨(hb.block _ (block_lt h.g)).trans h.g, h.m.keep hb h.m.lt, h.h.below hb (Nat.le_refl _), row_below h.r hb (Nat.le_refl _), h.ne, h.b.trans (hb.mono h.b.size)⟩
theorem NrM.heap (h : NrM w wr vn ve f v hs p u P) (hM : Ad.HpM w' (w.heap.size + 2) (w.heap.size + 2) v' hs' p') (hv : v'.ownBlock = v.ownBlock ∨ ∀ k, v'.ownBlock = some k → wr.heap.size ≤ k) (hF : Fr (Ad.own (w.heap.size + 2) v) wr w') : NrM w w' vn ve f v' hs' p' u P := by
  have no : ∀ k, k < w.heap.size + 2 → ¬ Ad.own (w.heap.size + 2) v k := by
    rintro k hk (h1 | h1)
    · omega
    · have := h.vlow h1; omega
  refine ⟨(hF.block _ (block_lt h.g) (no _ (by omega))).trans h.g, (hF.block _ h.m.lt (no _ (by omega))).trans h.m, hM, row_fr h.r hF ?_, ?_, h.b.trans (hF.below h.b.size ?_)⟩
  · rintro j hj (h1 | h1)
    · have := (h.r.lt j hj).1; omega
    · exact h.ne j hj h1
  · intro k hk hk'
    rcases hv with h1 | h1
    · exact h.ne k hk (h1 ▸ hk')
    · have := h1 k hk'
      have := (h.r.lt k hk).2
      omega
  · rintro k (h1 | h1)
    · omega
    · have := h.vlow h1; omega
theorem NrM.mark (h : NrM w wr vn ve f v hs p u P) {n : Nat} (hn : n < 25) : NrM w (wr.setCell ⟨w.heap.size + 1, n, none⟩ (.bool true)) vn ve (mk1 f n) v hs p u P := by
  have hF := (Fr.refl (fun k => k = w.heap.size + 1) wr).set (p := ⟨w.heap.size + 1, n, none⟩) rfl (.bool true)
  have hl := h.h.lt
  refine ⟨(hF.block _ (block_lt h.g) (by omega)).trans h.g, by rw [← mcl_set f hn]; exact h.m.set n _, ?_, row_fr h.r hF (fun j hj e => by have := (h.r.lt j hj).1; omega), h.ne, h.b.setCell (p := ⟨w.heap.size + 1, n, none⟩) (Nat.le_succ _) _⟩
  exact ⟨(hF.block _ hl (by omega)).trans h.h.blk, row_fr h.h.row hF (fun j hj e => by have := (h.vlow hj).1; omega), h.h.ne, h.h.hb⟩
theorem NrM.tell {w6 : World} {n : Int × Int} {g cap : Nat} (h : NrM w wr vn ve f v hs p u P) (hown : w6.ownsRow (w.heap.size + 3) 75 2 (.slice (some ⟨g, 0, none⟩) (P.length + 1) cap) (P.length + 1) (fl ac (P ++ [n]))) (hg : u.ownBlock = some g ∨ g = wr.heap.size + 1) (hgr : wr.grownBy w6 u.ownBlock) : NrM w w6 vn ve f v hs p (.slice (some ⟨g, 0, none⟩) (P.length + 1) cap) (P ++ [n]) := by
  have hF : Fr (fun k => u.ownBlock = some k) wr w6 := ⟨hgr.os, hgr.tape, hgr.output, hgr.size, fun k hk hs => hgr.block k hk (fun e => hs e.symm)⟩
  have no : ∀ k, k < w.heap.size + 3 → ¬ u.ownBlock = some k := fun k hk h1 => by have := (h.r.lt k h1).1; omega
  have hl := h.h.lt
  refine ⟨(hF.block _ (block_lt h.g) (no _ (by omega))).trans h.g, (hF.block _ h.m.lt (no _ (by omega))).trans h.m, ⟨(hF.block _ hl (no _ (by omega))).trans h.h.blk, row_fr h.h.row hF (fun j hj e => h.ne j e hj), h.h.ne, h.h.hb⟩, by rw [List.length_append]; exact hown, ?_, h.b.trans (hF.below h.b.size (fun k hk => by have := (h.r.lt k hk).1; omega))⟩
  intro k hk hk'
  simp [Value.ownBlock] at hk
  subst hk
  rcases hg with e | e
  · exact h.ne _ e hk'
  · have := (h.vlow hk').2
    omega
end
/-- How many wait, by the world; how many are not met. -/
def lenAt (w : World) (b : Nat) : Nat := match w.cell? ⟨b, 1, none⟩ with | some (.slice _ n _) => n | _ => 0
def unmAt (w : World) (b : Nat) : Nat := ((List.range 25).filter fun i => match w.cell? ⟨b, i, none⟩ with | some (.bool true) => false | _ => true).length
theorem NrM.len {w wr : World} {vn ve v u : Value} {f : Nat → Bool} {hs : List ((Int × Int) × Int)} {p : Int} {P : List (Int × Int)} (h : NrM w wr vn ve f v hs p u P) : lenAt wr (w.heap.size + 2) = hs.length := by
  obtain ⟨_, c1, _⟩ := h.h.c
  unfold lenAt
  rw [c1]
  rcases h.h.row.2 with ⟨rfl, h1⟩ | ⟨g', cap', cur, rfl, _⟩
  · simp [h1]
  · rfl
theorem NrM.unm {w wr : World} {vn ve v u : Value} {f : Nat → Bool} {hs : List ((Int × Int) × Int)} {p : Int} {P : List (Int × Int)} (h : NrM w wr vn ve f v hs p u P) : unmAt wr (w.heap.size + 1) = unm f := by
  unfold unmAt Proofs.YtgeoghhajjlofaaGreatDoor.unm
  congr 1
  refine List.filter_congr fun i hi => ?_
  rw [h.m.cell, mcl_get _ (by simpa using hi)]
  cases f i <;> rfl
abbrev keyA (x : Int × Int) : Int := x.2
theorem ltT_key : Ad.ltT = Ad.ltK keyA := rfl
/-- What is so of what is told and waits. -/
structure NrP (ns : List Int) (es : List Ed) (r : Int) (f : Nat → Bool) (hs : List ((Int × Int) × Int)) (p : Int) (P : List (Int × Int)) : Prop where
  dj : Dj es r P (hs.map (·.1))
  mt : ∀ i : Nat, i < 25 → f i = inP P (i : Int)
  hp : Ad.IsHp keyA hs
  ln : (hs.length : Int) ≤ p
  pb : p ≤ 1 + (es.countP (fun e => inP P e.1) : Int)
  rg : ∀ x ∈ hs, x.1.1 ∈ ns
  bq : ∀ x ∈ hs, 0 ≤ x.1.2 ∧ x.1.2 ≤ 1000 * (P.length : Int)
  un : unm f + P.length = 25
  pd : ∀ n ∈ P, (1 ≤ n.1 ∧ n.1 ≤ 24) ∧ 0 ≤ n.2 ∧ n.2 ≤ 100000
/-- The same, while the edges of the last one are gone through. -/
structure NrQ (ns : List Int) (es : List Ed) (r : Int) (n : Int × Int) (f : Nat → Bool) (hs : List ((Int × Int) × Int)) (p : Int) (P P' : List (Int × Int)) (L k : Nat) : Prop where
  dk : Dk es (es.take k) r n P' (hs.map (·.1))
  mt : ∀ i : Nat, i < 25 → f i = inP P' (i : Int)
  hp : Ad.IsHp keyA hs
  ln : (hs.length : Int) ≤ p
  pb : p ≤ 1 + (es.countP (fun e => inP P e.1) : Int) + ((es.take k).countP (fun e => decide (e.1 = n.1)) : Int)
  rg : ∀ x ∈ hs, x.1.1 ∈ ns
  hl : hs.length ≤ L + k
  bq : ∀ x ∈ hs, 0 ≤ x.1.2 ∧ x.1.2 ≤ 1000 * (P'.length : Int)
  un : unm f + P'.length = 25
  nb : 0 ≤ n.2 ∧ n.2 + 1000 ≤ 1000 * (P'.length : Int)
  pd : ∀ n ∈ P', (1 ≤ n.1 ∧ n.1 ≤ 24) ∧ 0 ≤ n.2 ∧ n.2 ≤ 100000
section
variable {ns : List Int} {es : List Ed} {r : Int} {f : Nat → Bool} {hs : List ((Int × Int) × Int)} {p : Int} {P P' : List (Int × Int)} {a : (Int × Int) × Int} {n : Int × Int} {L k : Nat} {e : Ed}
theorem NrP.pop_mem (ha : hs[0]? = some a) (x : Int × Int) : x ∈ hs.map (·.1) ↔ x = a.1 ∨ x ∈ (Ad.popL Ad.ltT hs).map (·.1) := by
  have := (Ad.pop_cons Ad.ltT ha).map (·.1)
  rw [this.mem_iff, List.map_cons, List.mem_cons]
theorem NrP.pop_len (ha : hs[0]? = some a) : (Ad.popL Ad.ltT hs).length + 1 = hs.length := by
  have := (Ad.pop_cons Ad.ltT ha).length_eq
  simpa using this.symm
theorem NrP.again (h : NrP ns es r f hs p P) (hpos : PosE es) (ha : hs[0]? = some a) (hm : inP P a.1.1 = true) : NrP ns es r f (Ad.popL Ad.ltT hs) p P :=
  ⟨h.dj.again hpos (NrP.pop_mem ha) (inP_iff.1 hm), h.mt, Ad.pop_heap keyA h.hp, by have := NrP.pop_len ha; have := h.ln; omega, h.pb, fun x hx => h.rg x (by rw [(Ad.pop_cons Ad.ltT ha).mem_iff]; exact List.mem_cons_of_mem _ hx), fun x hx => h.bq x (by rw [(Ad.pop_cons Ad.ltT ha).mem_iff]; exact List.mem_cons_of_mem _ hx), h.un, h.pd⟩
theorem NrP.next (h : NrP ns es r f hs p P) (ha : hs[0]? = some a) (hm : inP P a.1.1 = false) (hr : 1 ≤ a.1.1 ∧ a.1.1 ≤ 24) : NrQ ns es r a.1 (mk1 f a.1.1.toNat) (Ad.popL Ad.ltT hs) p P (P ++ [a.1]) (Ad.popL Ad.ltT hs).length 0 := by
  have hmem : ∀ x, x ∈ Ad.popL Ad.ltT hs → x ∈ hs := fun x hx => by rw [(Ad.pop_cons Ad.ltT ha).mem_iff]; exact List.mem_cons_of_mem _ hx
  refine ⟨h.dj.next (NrP.pop_mem ha) ?_ ?_, fun i hi => ?_, Ad.pop_heap keyA h.hp, by have := NrP.pop_len ha; have := h.ln; omega, by have := h.pb; simp; omega, fun x hx => h.rg x (hmem x hx), Nat.le_refl _, fun x hx => ?_, ?_, ?_, fun x hx => ?_⟩
  · intro x hx
    obtain ⟨y, hy, rfl⟩ := List.mem_map.1 hx
    have := Ad.heap_min_mem keyA h.hp ha (hmem y hy)
    unfold Ad.leE at this
    show a.1.2 ≤ y.1.2
    simp only [keyA] at this
    omega
  · intro b hb e
    have : inP P a.1.1 = true := inP_iff.2 ⟨b, hb, e⟩
    rw [hm] at this; cases this
  · have h1 : inP (P ++ [a.1]) (i : Int) = (inP P (i : Int) || decide (a.1.1 = (i : Int))) := by simp [inP]
    rw [h1, ← h.mt i hi]
    by_cases hq : i = a.1.1.toNat
    · have : a.1.1 = (i : Int) := by omega
      rw [show mk1 f a.1.1.toNat i = true from by rw [← hq]; exact mk1_same f i, decide_eq_true this, Bool.or_true]
    · have : ¬ a.1.1 = (i : Int) := by omega
      simp [mk1, hq, this]
  · have := h.bq x (hmem x hx)
    rw [List.length_append, List.length_singleton]
    omega
  · have h1 : f a.1.1.toNat = false := by
      rw [h.mt _ (by omega), show ((a.1.1.toNat : Nat) : Int) = a.1.1 from by omega]
      exact hm
    have h2 := unm_mk1 h1 (by omega)
    have h3 := h.un
    rw [List.length_append, List.length_singleton]
    omega
  · have := h.bq a (List.mem_of_getElem? ha)
    rw [List.length_append, List.length_singleton]
    omega
  · rcases List.mem_append.1 hx with hx | hx
    · exact h.pd x hx
    · rw [List.mem_singleton.1 hx]
      have h1 := h.bq a (List.mem_of_getElem? ha)
      have h2 := h.un
      exact ⟨hr, h1.1, by omega⟩
theorem NrQ.skip (h : NrQ ns es r n f hs p P P' L k) (he : es[k]? = some e) (hn : e.1 ≠ n.1) : NrQ ns es r n f hs p P P' L (k + 1) :=
  ⟨by have := h.dk.skip hn; rw [← take_snoc he] at this; exact this, h.mt, h.hp, h.ln, by have := h.pb; rw [cnt_take he, if_neg hn]; omega, h.rg, by have := h.hl; omega, h.bq, h.un, h.nb, h.pd⟩
theorem NrQ.met (h : NrQ ns es r n f hs p P P' L k) (hpos : PosE es) (he : es[k]? = some e) (hm : inP P' e.2.1 = true) : NrQ ns es r n f hs p P P' L (k + 1) :=
  ⟨by have := h.dk.met hpos (List.mem_of_getElem? he) (inP_iff.1 hm); rw [← take_snoc he] at this; exact this, h.mt, h.hp, h.ln, by have := h.pb; rw [cnt_take he]; split <;> omega, h.rg, by have := h.hl; omega, h.bq, h.un, h.nb, h.pd⟩
theorem NrQ.push (h : NrQ ns es r n f hs p P P' L k) (hpos : PosE es) (he : es[k]? = some e) (hn : e.1 = n.1) (hm : e.2.1 ∈ ns) : NrQ ns es r n f (Ad.pushL Ad.ltT hs (e.2.1, n.2 + e.2.2) p) (p + 1) P P' L (k + 1) := by
  have hperm := Ad.pushL_perm Ad.ltT hs (e.2.1, n.2 + e.2.2) p
  have hlen := Ad.pushL_length Ad.ltT hs (e.2.1, n.2 + e.2.2) p
  refine ⟨?_, h.mt, Ad.push_heap keyA h.hp _ _, by have := h.ln; omega, by have := h.pb; rw [cnt_take he, if_pos hn]; omega, fun x hx => ?_, by have := h.hl; omega, fun x hx => ?_, h.un, h.nb, h.pd⟩
  · have := h.dk.push (Q' := (Ad.pushL Ad.ltT hs (e.2.1, n.2 + e.2.2) p).map (·.1)) hpos (List.mem_of_getElem? he) hn (fun x => by rw [(hperm.map (·.1)).mem_iff, List.map_cons, List.mem_cons])
    rw [← take_snoc he] at this
    exact this
  · rcases List.mem_cons.1 ((hperm.mem_iff).1 hx) with rfl | hx
    · exact hm
    · exact h.rg x hx
  · rcases List.mem_cons.1 ((hperm.mem_iff).1 hx) with rfl | hx
    · have h1 := h.nb
      have h2 := hpos e (List.mem_of_getElem? he)
      show 0 ≤ n.2 + e.2.2 ∧ n.2 + e.2.2 ≤ _
      omega
    · exact h.bq x hx
theorem NrQ.done (h : NrQ ns es r n f hs p P P' L es.length) (hP : P' = P ++ [n]) (hm : ∀ b ∈ P, b.1 ≠ n.1) : NrP ns es r f hs p P' := by
  have hd := h.dk
  have hb := h.pb
  rw [List.take_length] at hd hb
  refine ⟨hd.done, h.mt, h.hp, h.ln, ?_, h.rg, h.bq, h.un, h.pd⟩
  rw [hP, cnt_step P n hm]
  omega
end
end Go.Proofs.YtgeoghhajjlofaaGreatDoor
