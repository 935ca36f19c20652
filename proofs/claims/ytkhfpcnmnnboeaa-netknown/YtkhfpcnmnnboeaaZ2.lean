/- A calendar of dandelion/api.Arrive: its things sorted. A calendar of dandelion/api.Arrive: its things in order, as a list; Drop. A calendar of dandelion/api.Arrive: Sift, where keep turns nothing. The calendar's refused, where keep appends what it refuses. The calendar's Sift, where keep appends what it refuses. net: what is lost. net: Up, Now, Flying, Tick, Cut, Mend, Stop, Start. -/
import Derived.Test.YtkhfpcnmnnboeaaZ1
import Derived.Test.YtkhfpcnmnnboeaaShelf
import Derived.Sort.OwnSortedInts
import Derived.Shelf.SlSortCmp.NoneTotal
import Derived.Test.YtkhfpcnmnnboeaaGF
import Derived.Defers
import Derived.Recover
namespace Go.Proofs.Ytkhfpcnmnnboeaa.Ca.A
open Go.RowKit Go.Sort Go.Shelf

theorem less_lex (a b : Th) : aheadE less a b = true ↔ a.1.2.2 < b.1.2.2 ∨ (a.1.2.2 = b.1.2.2 ∧ a.2 < b.2) := by
  unfold aheadE less ltK
  split <;> simp [at'] <;> omega
abbrev Pt (w : World) (g : Nat) : Type := {e : Th // (∃ i : Int, w.heap[e.1.1]? = some (.cells (entA e i) 116)) ∧ e.1.1 ≠ g}
abbrev ptE {w : World} {g : Nat} (x : Pt w g) : Value := ptr x.1.1.1
def cfE {w : World} {g : Nat} (x y : Pt w g) : Int := cmE x.1.1.2.2 x.1.2 y.1.1.2.2 y.1.2
theorem ltE {w : World} {g : Nat} (x y : Pt w g) : ltOf cfE x y = aheadE less x.1 y.1 := cmE_neg at' x.1 y.1
theorem swoE (w : World) (g : Nat) : SWO (ltOf (cfE (w := w) (g := g))) where
  irrefl x := by
    rw [ltE]
    cases h : aheadE less x.1 x.1
    · rfl
    · have := (less_lex _ _).1 h; omega
  trans x y z h1 h2 := by
    rw [ltE] at *
    have a := (less_lex _ _).1 h1
    have b := (less_lex _ _).1 h2
    exact (less_lex _ _).2 (by omega)
  ntrans x y z h1 h2 := by
    rw [ltE] at *
    cases h : aheadE less x.1 z.1
    · rfl
    · have c := (less_lex _ _).1 h
      have a : ¬ (aheadE less x.1 y.1 = true) := by rw [h1]; simp
      have b : ¬ (aheadE less y.1 z.1 = true) := by rw [h2]; simp
      rw [less_lex] at a b
      omega
theorem sorted_heap {w : World} {g m k : Nat} {os : Array Obj} {α : Type} [Inhabited α] (enc : α → Value) (d : Array α) (hk : k ≠ g) (hl : k < w.heap.size) : (grow (putRow enc (Sort.ahead w m) g 0 d) os).heap[k]? = w.heap[k]? := by
  rw [heap_grow_old _ _ (by simpa using hl)]
  have : g ≠ k := fun e => hk e.symm
  simp [putRow, mapBlock, Sort.ahead, Array.getElem?_modify, this]
set_option maxRecDepth 100000 in
theorem sort_ok {w : World} {base g cap n : Nat} {es : List Th} {L : List (Tg (Int × Int × ByteArray))} (hrow : w.ownsRow base 110 1 (.slice (some ⟨g, 0, none⟩) n cap) n (fl pn (es.map fun e => e.1.1))) (hn : es.length = n)
    (hent : ∀ e ∈ es, (∃ i : Int, w.heap[e.1.1]? = some (.cells (entA e i) 116)) ∧ e.1.1 ≠ g) (hp : (es.map tg).Perm L) (hL : Ord L) (h0 : 0 < n) (hl : n ≤ 100000) :
    Calls Try.prog 79 #[.slice (some ⟨g, 0, none⟩) n cap, .func (.func 75) #[] #[]] w fun r w' => r = .returned (.tuple #[]) ∧
      ∃ es' : List Th, es'.Perm es ∧ es'.map tg = L ∧ (∀ j e, es'[j]? = some e → w'.cell? ⟨g, j, none⟩ = some (ptr e.1.1)) ∧ Fr (fun k => k = g) w w' := by
  obtain ⟨e0, he0⟩ : ∃ e0, es[0]? = some e0 := ⟨es[0], List.getElem?_eq_getElem (by omega)⟩
  haveI : Inhabited (Pt w g) := ⟨⟨e0, hent e0 (List.mem_of_getElem? he0)⟩⟩
  obtain ⟨dl, hdl⟩ : ∃ dl : List (Pt w g), dl = es.attachWith _ hent := ⟨_, rfl⟩
  have hval : dl.map Subtype.val = es := by rw [hdl]; exact List.attachWith_map_subtype_val _
  have hdn : dl.length = n := by rw [← hn, ← hval, List.length_map]
  have hgl : g < w.heap.size := by
    obtain ⟨cur, h1⟩ := row_ty hrow (j := g) rfl
    exact block_lt h1
  have hfz : ∀ j, w.frozen? ⟨g, j, none⟩ = false := by
    obtain ⟨cur, h1⟩ := row_ty hrow (j := g) rfl
    exact frozen_new h1
  have hcell : ∀ (j : Nat) (x : Pt w g), dl[j]? = some x → w.cell? ⟨g, j, none⟩ = some (ptE x) := by
    intro j x hx
    have hb : (es.map fun e => e.1.1)[j]? = some x.1.1.1 := by rw [← hval, List.getElem?_map, List.getElem?_map, hx]; rfl
    have h3 := hrow.cells (g := g) rfl (j * 1 + 0) (ptr x.1.1.1) (by rw [fl_get (cs := pn) (sz := 1) (fun _ => rfl) _ j 0 _ hb (by omega)]; rfl)
    rw [Addr.add_mid, Nat.zero_add, Nat.mul_one, Nat.add_zero] at h3
    exact h3
  have hH : Holds (ptE (w := w) (g := g)) w g 0 dl.toArray := by
    intro j hj
    have hj' : j < dl.length := by simpa using hj
    rw [Nat.zero_add]
    refine ⟨?_, hfz j⟩
    rw [hcell j dl[j] (List.getElem?_eq_getElem hj')]
    simp [hj']
  have hcmp : CmpLays1 Try.prog 75 #[] (ptE (w := w) (g := g)) cfE g 0 dl.toArray.size w := fun m os dk _ x y => by
    obtain ⟨⟨i, hi⟩, hx⟩ := x.2
    obtain ⟨⟨j, hj⟩, hy⟩ := y.2
    have h1 : (sortWorld (ptE (w := w) (g := g)) w g 0 m dk os).heap[x.1.1.1]? = some (.cells (entA x.1 i) 116) := by unfold sortWorld; rw [sorted_heap (ptE (w := w) (g := g)) dk hx (block_lt hi)]; exact hi
    have h2 : (sortWorld (ptE (w := w) (g := g)) w g 0 m dk os).heap[y.1.1.1]? = some (.cells (entA y.1 j) 116) := by unfold sortWorld; rw [sorted_heap (ptE (w := w) (g := g)) dk hy (block_lt hj)]; exact hj
    exact (order_any h1 h2).mono fun _ _ ⟨h3, q, os', h4⟩ => ⟨h3, q, os', h4⟩
  have eg : ∀ args w, (callFunc 75 args).run Try.prog w = .ok (.enter 75 args) w := enters_of Try.func75 (by kernel_rfl) rfl
  have h := Any.slices_SortFunc Try.sortPA (ptE (w := w) (g := g)) (fun _ => rfl) cfE (swoE w g) 75 #[] g 0 cap dl.toArray w eg hcmp hH hgl (by simp; omega)
  have hsz : dl.toArray.size = n := by simpa using hdn
  rw [hsz] at h
  refine Calls.mono (show Calls Try.prog 79 #[.slice (some ⟨g, 0, none⟩) n cap, .func (.func 75) #[] #[]] w _ from h) ?_
  rintro x w' ⟨rfl, d', m, os, hpm, hs, rfl⟩
  obtain ⟨hds, _, hperm⟩ := hpm
  have hdz : d'.size = n := by rw [hds, hsz]
  have e1 : d'.extract 0 n = d' := by rw [← hdz]; exact Array.extract_size
  have e2 : dl.toArray.extract 0 n = dl.toArray := by rw [← hsz]; exact Array.extract_size
  rw [e1, e2] at hperm
  have hpm1 : (d'.toList.map Subtype.val).Perm es := by
    have h1 := hperm.map Subtype.val
    rw [show dl.toArray.toList = dl from rfl, hval] at h1
    exact h1
  have hpm2 : ((d'.toList.map Subtype.val).map tg).Perm L := (hpm1.map tg).trans hp
  have hO : Ord ((d'.toList.map Subtype.val).map tg) := by
    have hnd := nd_tg hpm2 hL
    unfold Ord
    rw [List.pairwise_iff_getElem]
    intro i j hi hj hij
    have hi' : i < d'.size := by simpa using hi
    have hj' : j < d'.size := by simpa using hj
    have h1 := hs i j (Nat.zero_le _) hij (by omega)
    rw [ltE, getElem!_pos d' j hj', getElem!_pos d' i hi'] at h1
    have h2 : leE at' d'[i].1 d'[j].1 := leE_not at' (by
      have h3 : ¬ (aheadE less d'[j].1 d'[i].1 = true) := by rw [h1]; simp
      exact h3)
    have h4 : d'[i].1.2 ≠ d'[j].1.2 := fun e => by
      rw [List.Nodup, List.pairwise_map, List.pairwise_map, List.pairwise_iff_getElem] at hnd
      exact hnd i j (by simpa using hi') (by simpa using hj') hij (by simpa using e)
    simp only [List.getElem_map, Array.getElem_toList]
    exact ⟨h2, h4⟩
  refine ⟨rfl, d'.toList.map Subtype.val, hpm1, ord_eq hO hL hpm2, fun j e he => ?_, ?_⟩
  · rw [List.getElem?_map] at he
    obtain ⟨x, hx, rfl⟩ := Option.map_eq_some_iff.1 he
    have hj : j < d'.size := by have := (List.getElem?_eq_some_iff.1 hx).1; simpa using this
    have hxe : d'[j]! = x := by
      rw [getElem!_pos d' j hj]
      have := (List.getElem?_eq_some_iff.1 hx).2
      simpa using this
    have h1 := cell?_putRow (ptE (w := w) (g := g)) (Sort.ahead w m) g 0 dl.toArray d' (fun k hk => by rw [cell?_ahead]; exact hH k hk) (by rw [hds]) j hj
    rw [Nat.zero_add, hxe] at h1
    unfold sortWorld
    rw [cell?_grow _ _ _ (by simpa using hgl)]
    exact h1
  · refine ⟨rfl, rfl, rfl, ?_, fun k hk hs => sorted_heap (ptE (w := w) (g := g)) d' hs hk⟩
    unfold sortWorld
    simp
end Go.Proofs.Ytkhfpcnmnnboeaa.Ca.A
namespace Go.Proofs.Ytkhfpcnmnnboeaa.Ca.A
open Go.RowKit Go.Maps Go.Sort Go.Shelf

set_option maxRecDepth 100000 in
set_option maxHeartbeats 1000000 in
theorem sortedF_ok {w : World} {cp mb Bb : Nat} {v : Value} {es : List Th} {p : Int} {L : List (Tg (Int × Int × ByteArray))} (h : HpC w cp v mb es p) (hp : (es.map tg).Perm L) (hL : Ord L) (hl : es.length ≤ 100000) (hB : w.heap[Bb]? = some (.cells #[v] 111)) :
    Calls Try.prog 73 #[.func (.func 80) #[] #[ptr Bb], .func (.func 75) #[] #[]] w fun e w' =>
      (∃ (es' : List Th) (a : Option Addr) (cap : Nat), es'.Perm es ∧ es'.map tg = L ∧ e = .returned (.slice a es.length cap) ∧ (0 < es.length → ∃ g, a = some ⟨g, 0, none⟩ ∧ w.heap.size ≤ g ∧ g < w'.heap.size ∧ ∀ j e, es'[j]? = some e → w'.cell? ⟨g, j, none⟩ = some (ptr e.1.1))) ∧ Below w.heap.size w w' := by
  obtain ⟨ad, cap, rfl, _, hg⟩ := h.slice
  obtain ⟨g, hga⟩ : ∃ g, 0 < es.length → ad = some ⟨g, 0, none⟩ ∧ g < w.heap.size := by
    by_cases h0 : 0 < es.length
    · obtain ⟨g, h1, h2, _⟩ := hg h0
      exact ⟨g, fun _ => ⟨h1, h2⟩⟩
    · exact ⟨0, fun h => absurd h h0⟩
  have hw0 : 0 < w.heap.size := Nat.lt_of_le_of_lt (Nat.zero_le _) h.lt
  obtain ⟨g, hga, hgl⟩ : ∃ g, (0 < es.length → ad = some ⟨g, 0, none⟩) ∧ g < w.heap.size := by
    by_cases h0 : 0 < es.length
    · exact ⟨g, fun h => (hga h).1, (hga h0).2⟩
    · exact ⟨0, fun h => absurd h h0, hw0⟩
  have hxl : (es.map fun e => e.1.1).length = es.length := List.length_map _
  have hcl : ∀ j x, (es.map fun e => e.1.1)[j]? = some x → w.cell? ⟨g, j, none⟩ = some (ptr x) := fun j x hx => by
    rw [List.getElem?_map] at hx
    obtain ⟨e, he, rfl⟩ := Option.map_eq_some_iff.1 hx
    have h0 : 0 < es.length := by have := (List.getElem?_eq_some_iff.1 he).1; omega
    obtain rfl := hga h0
    exact h.at he
  have HC := hidIn (collect_ok (xs := es.map fun e => e.1.1) (by rw [hxl]; exact hB) (by rw [hxl]; exact hga) (by rw [hxl]; exact hl) hcl hgl)
  rw [hxl] at HC
  have HH := hidIn h
  have Hp := hidIn hp
  have HL := hidIn hL
  obtain ⟨n, hn⟩ : ∃ n, es.length = n := ⟨_, rfl⟩
  rw [hn] at HC hl ⊢
  have Hn := hidIn hn
  clear h hp hL hB hga hcl hxl hn hg
  go_enter Try.func73, Try.ntmps73
  go_wp2_with fail
  refine HC.out.mono ?_
  rintro e w1 ⟨⟨v', rfl, hr⟩, hb⟩
  obtain ⟨va, vc, rfl⟩ := row_shape hr
  have HB := hidIn hb
  by_cases h0 : n = 0
  · subst h0
    have HS := hidIn (by
      have L := Try.sortPA
      exact AnyF.slices_SortFunc_none { L with } va vc (.func (.func 75) #[] #[]) w1 : Calls Try.prog 79 #[.slice va 0 vc, .func (.func 75) #[] #[]] w1 fun r w' => r = .returned (.tuple #[]) ∧ w' = w1)
    clear hr hb HC
    go_wp2_with fail
    refine HS.out.mono ?_
    rintro e w2 ⟨rfl, hw2⟩
    rw [hw2]
    clear hw2 w2
    go_wp2
    go_returns
    have he0 : es = [] := List.length_eq_zero_iff.1 Hn.out
    have hLn : L = [] := by have := Hp.out; rw [he0] at this; exact this.symm.eq_nil
    exact ⟨⟨[], _, _, by rw [he0], by rw [hLn]; rfl, rfl, fun h => by omega⟩, HB.out⟩
  · rcases hr.2 with ⟨_, h1⟩ | ⟨g1, cap1, cur, h1, h2, h3, _⟩
    · omega
    · simp only [Value.slice.injEq] at h1
      obtain ⟨rfl, _, rfl⟩ := h1
      have hent : ∀ e ∈ es, (∃ i : Int, w1.heap[e.1.1]? = some (.cells (entA e i) 116)) ∧ e.1.1 ≠ g1 := fun e he => by
        obtain ⟨i, hi, rfl⟩ := List.getElem_of_mem he
        have h4 := HH.out.ent i es[i] (List.getElem?_eq_getElem hi)
        exact ⟨⟨i, (hb.block _ (block_lt h4)).trans h4⟩, by have := block_lt h4; omega⟩
      have HS := hidIn (sort_ok hr Hn.out hent Hp.out HL.out (by omega) hl)
      clear hr hb HC hent h3
      go_wp2_with fail
      refine HS.out.mono ?_
      rintro e w2 ⟨rfl, es', q1, q2, q3, q4⟩
      have Q1 := hidIn q1
      have Q2 := hidIn q2
      have Q3 := hidIn q3
      have Q4 := hidIn q4
      clear q1 q2 q3 q4 HS
      go_wp2
      go_returns
      have hg1 : g1 < w2.heap.size := by
        have hn0 : 0 < es'.length := by rw [Q1.out.length_eq, Hn.out]; omega
        exact block_lt_of_cell (a := ⟨g1, 0, none⟩) (Q3.out 0 es'[0] (List.getElem?_eq_getElem hn0))
      exact ⟨⟨es', _, _, Q1.out, Q2.out, rfl, fun _ => ⟨g1, rfl, h2, hg1, Q3.out⟩⟩, HB.out.trans (Q4.out.below HB.out.size (fun k hk => by omega))⟩
set_option maxRecDepth 100000 in
set_option maxHeartbeats 1000000 in
theorem drop_ok {w : World} {S : Nat → Prop} {cp p : Nat} {L : List (Tg (Int × Int × ByteArray))} (k : Int) (hk : (Lit.int .i64 k).wf = true) (h : Cal w S cp L p) (hp : p < 100000) (hl : L.length ≤ 100000) :
    Calls Try.prog 64 #[ptr cp, .int .i64 k] w fun e w' => e = .returned (.bool (L.any fun a => a.2 == k)) ∧ Cal w' S cp (dropT L k) p ∧ Fr S w w' := by
  obtain ⟨v, mb, es, f, h1, h2, h3, h4, h5, h6, h7, h8⟩ := h.x
  have HT := hidIn (there_yes h1.c.1)
  have c2 := h1.c.2.2.1
  have hlk := h2.look (T := 112) Try.underlying112 zeroPtr hk
  cases hf : f k with
  | none =>
    have hno : ∀ a ∈ L, a.2 ≠ k := fun a ha e => by
      obtain ⟨x, hx, hxe⟩ := List.mem_map.1 (h5.mem_iff.2 ha)
      have h9 := h3.1 x hx
      have h10 : x.2 = k := by rw [← e, ← hxe]
      rw [h10, hf] at h9
      cases h9
    have HE : Hid ((L.any fun a => a.2 == k) = false ∧ dropT L k = L) := hidIn ⟨by
      rw [List.any_eq_false]
      intro a ha
      simpa using hno a ha, dropT_none hno⟩
    rw [HE.out.1, HE.out.2]
    rw [hf] at hlk
    have HLk : Hid ((Instr.lookup 112 (.map (some mb)) (.int .i64 k) true).run Try.prog w = .ok (.tuple #[nilP, .bool false]) w) := hidIn hlk
    have HH := hidIn h
    clear h1 h2 h3 h4 h5 h6 h7 h8 h hlk hf hno
    go_enter Try.func64, Try.ntmps64
    go_wp2_with (first
      | (go_at_call 52; refine HT.out.mono ?_; rintro e w1 ⟨rfl, hw1⟩; rw [hw1]; clear hw1 w1)
      | (refine l_look9 rfl _ _ 112 true rfl HLk.out ?_))
    go_returns
    exact ⟨rfl, HH.out, Fr.refl _ _⟩
  | some x =>
    obtain ⟨a, ha, hak, rfl⟩ := h3.2 k x hf
    obtain ⟨i, hi, hia⟩ := List.getElem_of_mem ha
    have hai : es[i]? = some a := by rw [List.getElem?_eq_getElem hi, hia]
    have HR := hidIn (rem_cal h hp hl h1 h2 h3 h4 h5 h6 h7 h8 hai)
    rw [hak] at HR
    have HE : Hid ((L.any fun a => a.2 == k) = true) := hidIn (by
      rw [List.any_eq_true]
      exact ⟨tg a, h5.mem_iff.1 (List.mem_map.2 ⟨a, ha, rfl⟩), by simpa using hak⟩)
    rw [HE.out]
    rw [hf] at hlk
    have HLk : Hid ((Instr.lookup 112 (.map (some mb)) (.int .i64 k) true).run Try.prog w = .ok (.tuple #[ptr a.1.1, .bool true]) w) := hidIn hlk
    obtain ⟨A, hA⟩ : ∃ A, a.1.1 = A := ⟨_, rfl⟩
    rw [hA] at HR HLk
    clear h1 h2 h3 h4 h5 h6 h7 h8 h hlk hf ha hak hi hia hai hA
    go_enter Try.func64, Try.ntmps64
    go_wp2_with (first
      | (go_at_call 52; refine HT.out.mono ?_; rintro e w1 ⟨rfl, hw1⟩; rw [hw1]; clear hw1 w1)
      | (refine l_look9 rfl _ _ 112 true rfl HLk.out ?_))
    go_wp2_with fail
    refine HR.out.mono ?_
    rintro e w2 ⟨⟨r, rfl⟩, hC, hF⟩
    have HC := hidIn hC
    have HF := hidIn hF
    clear hC hF HR
    go_wp2
    go_returns
    exact ⟨rfl, HC.out, HF.out⟩
end Go.Proofs.Ytkhfpcnmnnboeaa.Ca.A
namespace Go.Proofs.Ytkhfpcnmnnboeaa.Ca.A
open Go.RowKit Go.Maps Go.Sort Go.Shelf

theorem idle_ok (p : Addr) (w : World) : CallsD Try.prog 72 #[.pointer (some p)] .returning w fun e u' w' => e = .returned (.tuple #[]) ∧ u' = .returning ∧ w' = w := by
  refine callsD_of_wpS Try.func72 rfl fun c₀ cs hu => ?_
  apply wpS_seq
  apply wpS_region
  simp [wpOpsS, go_sem, recoverD, hu, Try.ntmps72, Exit.thenS]
  refine wpS_cond (t := false) (by simp [Act.eval, Array.replicate]) ?_
  simp only [Bool.false_eq_true, if_false]
  refine wpS_of_wp (wp_skip ?_)
  cases c₀
  simp_all [bodyPostS, results, Try.results72]
theorem _root_.Go.Proofs.Ytkhfpcnmnnboeaa.Fr.cell9 {S : Nat → Prop} {w w' : World} (hF : Fr S w w') {b j : Nat} (hb : b < w.heap.size) (hS : ¬ S b) : w'.cell? ⟨b, j, none⟩ = w.cell? ⟨b, j, none⟩ := World.cell?_of_block (a := ⟨b, j, none⟩) (hF.block b hb hS)
structure RfS (A : Nat) (tk : Int) (wq : World) : Prop where
  c : wq.cell? ⟨A, 4, none⟩ = some (.int .i64 tk)
/-- The tickets of those that keep does not want. -/
def refT (L : List (Tg (Int × Int × ByteArray))) (kp : (Int × Int × ByteArray) → Bool) : List Int := (L.filter fun a => !kp a.1.1).map fun a => a.2
theorem refT_len (L : List (Tg (Int × Int × ByteArray))) (kp : (Int × Int × ByteArray) → Bool) : (refT L kp).length ≤ L.length := by unfold refT; rw [List.length_map]; exact List.length_filter_le _ _
theorem refT_snoc (L : List (Tg (Int × Int × ByteArray))) (a : Tg (Int × Int × ByteArray)) (kp : (Int × Int × ByteArray) → Bool) : refT (L ++ [a]) kp = if kp a.1.1 = true then refT L kp else refT L kp ++ [a.2] := by
  unfold refT
  cases h : kp a.1.1 <;> simp [List.filter_append, h]
theorem sl_i64' {w : World} {v : Value} {l : List Int} (h : SlAt ic 1 w v l) : ∃ a cap, v = .slice a l.length cap ∧ l.length ≤ 9223372036854775807 ∧ l.length ≤ cap ∧ (0 < l.length → ∃ bk o, a = some ⟨bk, o, none⟩ ∧ bk < w.heap.size ∧ ∀ j x, l[j]? = some x → w.cell? ⟨bk, o + j, none⟩ = some (.int .i64 x)) := by
  obtain ⟨a, cap, rfl, h1, h2, h3⟩ := h
  refine ⟨a, cap, rfl, h1, h2, fun h0 => ?_⟩
  obtain ⟨bk, o, rfl, hb, hc⟩ := h3 h0
  exact ⟨bk, o, rfl, hb, fun j x hx => by simpa using hc j x hx 0 _ rfl⟩
theorem dropAll (T : List Int) : ∀ L : List (Tg (Int × Int × ByteArray)), T.foldl dropT L = L.filter fun a => !T.contains a.2 := by
  induction T with
  | nil => intro L; exact (List.filter_eq_self.2 (fun _ _ => by simp)).symm
  | cons t T ih =>
    intro L
    rw [List.foldl_cons, ih]
    unfold dropT
    rw [List.filter_filter]
    congr 1
    funext a
    by_cases h : a.2 = t <;> simp [h]
theorem refused_left {L : List (Tg (Int × Int × ByteArray))} (kp : (Int × Int × ByteArray) → Bool) (hL : Ord L) : (refT L kp).foldl dropT L = L.filter fun a => kp a.1.1 := by
  rw [dropAll]
  refine List.filter_congr fun a ha => ?_
  cases h : kp a.1.1
  · have : a.2 ∈ refT L kp := List.mem_map.2 ⟨a, List.mem_filter.2 ⟨ha, by rw [h]; rfl⟩, rfl⟩
    simpa using this
  · have : ¬ a.2 ∈ refT L kp := fun hm => by
      obtain ⟨b, hb, hbe⟩ := List.mem_map.1 hm
      have hb2 := List.mem_filter.1 hb
      have : b = a := nd_inj hL.nd hb2.1 ha hbe
      rw [this, h] at hb2
      simp at hb2
    simpa using this
/-- What lies in the variable that keep appends to. -/
structure GoM (W : World) (ab base : Nat) (v : Value) (l : List (Int × Int × ByteArray)) : Prop where
  c : W.heap[ab]? = some (.cells #[v] 28)
  r : W.ownsRow base 30 3 v l.length (fl tc l)
theorem GoM.fr {W W' : World} {S : Nat → Prop} {ab base : Nat} {v : Value} {l : List (Int × Int × ByteArray)} (h : GoM W ab base v l) (hF : Fr S W W') (h1 : ¬ S ab) (h3 : ∀ j, v.ownBlock = some j → ¬ S j) : GoM W' ab base v l :=
  ⟨(hF.block _ (block_lt h.c) h1).trans h.c, row_fr h.r hF h3⟩
/-- What keep leaves. -/
def KeepG (W W' : World) (ab base : Nat) (v : Value) (l : List (Int × Int × ByteArray)) : Prop :=
  ∃ v', GoM W' ab base v' l ∧ (∀ j, v'.ownBlock = some j → v.ownBlock = some j ∨ W.heap.size ≤ j) ∧ Fr (fun j => j = ab ∨ v.ownBlock = some j) W W'
/-- A keep that appends what it refuses: it reads what K tells of, in Q's blocks. -/
structure Kp (kf : Nat) (lb : Array Value) (kp : (Int × Int × ByteArray) → Bool) (ab : Nat) (Q : Nat → Prop) (K : World → Prop) (Ok : (Int × Int × ByteArray) → Prop) : Prop where
  stay : ∀ (T : Nat → Prop) w w', K w → Fr T w w' → (∀ j, Q j → ¬ T j) → K w'
  call : ∀ W base v l x, K W → GoM W ab base v l → l.length ≤ 200000 → ab < base → base ≤ W.heap.size → Ok x → Calls Try.prog kf (#[.agg #[.int .i64 x.1, .int .i64 x.2.1, .string x.2.2]] ++ lb) W fun e W' => e = .returned (.bool (kp x)) ∧ KeepG W W' ab base v (if kp x = true then l else l ++ [x])
/-- What keep refused. -/
def gonT (L : List (Tg (Int × Int × ByteArray))) (kp : (Int × Int × ByteArray) → Bool) : List (Int × Int × ByteArray) := (L.filter fun a => !kp a.1.1).map fun a => a.1.1
theorem gonT_len (L : List (Tg (Int × Int × ByteArray))) (kp : (Int × Int × ByteArray) → Bool) : (gonT L kp).length ≤ L.length := by unfold gonT; rw [List.length_map]; exact List.length_filter_le _ _
theorem gonT_snoc (L : List (Tg (Int × Int × ByteArray))) (a : Tg (Int × Int × ByteArray)) (kp : (Int × Int × ByteArray) → Bool) : gonT (L ++ [a]) kp = if kp a.1.1 = true then gonT L kp else gonT L kp ++ [a.1.1] := by
  unfold gonT
  cases h : kp a.1.1 <;> simp [List.filter_append, h]
end Go.Proofs.Ytkhfpcnmnnboeaa.Ca.A
namespace Go.Proofs.Ytkhfpcnmnnboeaa.Ca.A
open Go.RowKit Go.Maps Go.Sort Go.Shelf

/-- Amid refused: the tickets, what keep refused. -/
def RfG (w3 wr : World) (tb ab b3 : Nat) (L : List (Tg (Int × Int × ByteArray))) (k : Nat) (kp : (Int × Int × ByteArray) → Bool) : Prop :=
  ∃ u va, wr.heap[tb]? = some (.cells #[u] 27) ∧ wr.ownsRow b3 3 1 u (refT (L.take k) kp).length (fl ic (refT (L.take k) kp)) ∧ Fr (fun j => j = tb ∨ j = ab) w3 wr ∧ GoM wr ab b3 va (gonT (L.take k) kp) ∧ ∀ j, u.ownBlock = some j → va.ownBlock ≠ some j
set_option maxRecDepth 100000 in
set_option maxHeartbeats 4000000 in
theorem refusedG_ok {w : World} {S : Nat → Prop} {cp p kf ab : Nat} {lb : Array Value} {L : List (Tg (Int × Int × ByteArray))} {kp : (Int × Int × ByteArray) → Bool} {Q : Nat → Prop} {K : World → Prop} {Ok : (Int × Int × ByteArray) → Prop} (h : Cal w S cp L p) (hl : L.length ≤ 100000)
    (hA1 : w.heap[ab]? = some (.cells #[.slice none 0 0] 28)) (hKp : Kp kf lb kp ab Q K Ok) (hK0 : K w) (hQ : ∀ j, Q j → j < w.heap.size ∧ j ≠ ab) (hOk : ∀ a ∈ L, Ok a.1.1) (hE : ∀ args w, (callFunc kf args).run Try.prog w = .ok (Next.enter kf args) w) :
    Calls Try.prog 63 #[ptr cp, .func (.func kf) #[] lb] w fun e w' => (∃ v', e = .returned v' ∧ w'.ownsRow w.heap.size 3 1 v' (refT L kp).length (fl ic (refT L kp))) ∧ (∃ va, GoM w' ab w.heap.size va (gonT L kp)) ∧ Fr (fun j => j = ab) w w' := by
  obtain ⟨v, mb, es, f, h1, h2, h3, h4, h5, h6, h7, h8⟩ := h.x
  have hes := len_is h5
  obtain ⟨tb, htb⟩ : ∃ tb, w.heap.size = tb := ⟨_, rfl⟩
  obtain ⟨W1, hW1⟩ : ∃ W1, w.alloc (.cells #[.slice none 0 0] 27) = W1 := ⟨_, rfl⟩
  have hb1 : RowKit.Below w.heap.size w W1 := by rw [← hW1]; exact (Below.refl _ w).alloc (Nat.le_refl _) _
  have hT1 : W1.heap[tb]? = some (.cells #[.slice none 0 0] 27) := by rw [← hW1, ← htb]; exact heap_alloc_last w _
  have hH1 := h1.below hb1
  have c1 := hH1.c.2.1
  obtain ⟨ad, cap, rfl, _, _⟩ := h1.slice
  have HV := hidIn (values_ok (.slice ad es.length cap) W1 ad es.length cap rfl)
  obtain ⟨W2, hW2⟩ : ∃ W2, W1.alloc (.cells #[.slice ad es.length cap] 111) = W2 := ⟨_, rfl⟩
  have hb2 : RowKit.Below W1.heap.size W1 W2 := by rw [← hW2]; exact (Below.refl _ W1).alloc (Nat.le_refl _) _
  have hB2 : W2.heap[W1.heap.size]? = some (.cells #[.slice ad es.length cap] 111) := by rw [← hW2]; exact heap_alloc_last W1 _
  have HSo := hidIn (sortedF_ok (hH1.below hb2) h5 h.o (by omega) hB2)
  have HT2 := hidIn ((hb2.block _ (block_lt hT1)).trans hT1)
  have HH2 := hidIn (hH1.below hb2)
  have HA2 : Hid (W2.heap[ab]? = some (.cells #[.slice none 0 0] 28) ∧ ab < tb) := hidIn (by
    have hbb := hb1.trans (hb2.mono hb1.size)
    exact ⟨(hbb.block _ (block_lt hA1)).trans hA1, by rw [← htb]; exact block_lt hA1⟩)
  have HK2 : Hid (K W2) := hidIn (hKp.stay (fun _ => False) _ _ hK0 (Fr.of_below (hb1.trans (hb2.mono hb1.size))) (fun _ _ h => h))
  have HKp := hidIn hKp
  have HQ : Hid (∀ j, Q j → j < tb ∧ j ≠ ab) := hidIn (fun j hj => by rw [← htb]; exact hQ j hj)
  have HOk := hidIn hOk
  have HB2 := hidIn (hb1.trans (hb2.mono hb1.size))
  have HS2 : Hid (tb + 2 ≤ W2.heap.size) := hidIn (by rw [← hW2, ← hW1]; simp; omega)
  have HW1 := hidIn hW1
  have HW2 := hidIn hW2
  have Htb := hidIn htb
  obtain ⟨n, hn⟩ : ∃ n, es.length = n := ⟨_, rfl⟩
  rw [hn] at c1 HV hW2 HSo HW2 hes
  have HLn : Hid (L.length = n) := hidIn hes.symm
  have Hn := hidIn hn
  have H5 := hidIn h5
  have hmf : ∀ (fn : Fn) (first cap : Array Value) (w : World), (Instr.makeFunc fn first cap).run Try.prog w = .ok (.func fn first cap) w := fun _ _ _ _ => rfl
  rw [htb]
  clear h1 h2 h3 h4 h5 h6 h7 h8 h hb1 hT1 hH1 hb2 hB2 hW1 hW2 hn hes hA1 hKp hK0 hQ hOk
  go_enter_defers Try.func63, Try.ntmps63
  go_upto_region 2 with fail
  try rw [HW1.out]
  clear HW1 htb
  go_wp2_with fail
  refine HV.out.mono ?_
  rintro e w2 ⟨rfl, hw2⟩
  rw [hw2, HW2.out]
  clear hw2 w2 HW2 HV
  go_wp2_with fail
  refine HSo.out.mono ?_
  rintro e w3 ⟨⟨es', a, sc, q1, q2, rfl, q3⟩, hb3⟩
  have Q1 := hidIn q1
  have Q2 := hidIn q2
  have Q3 := hidIn q3
  have HB3 := hidIn hb3
  clear q1 q2 q3 hb3 HSo c1
  go_wp2_with fail
  have hsz3 : tb + 2 ≤ w3.heap.size := by
    have e1 := HB3.out.size
    have e2 : tb + 2 ≤ W2.heap.size := HS2.out
    omega
  obtain ⟨b3, hb3⟩ : ∃ b3, w3.heap.size = b3 := ⟨_, rfl⟩
  rw [hb3] at hsz3
  have Hb3 := hidIn hb3
  have HT3 := hidIn ((HB3.out.block _ (by have := HS2.out; omega)).trans HT2.out)
  have HH3 := hidIn (HH2.out.below HB3.out)
  have hn9 : n ≤ 100000 := by rw [← HLn.out]; exact hl
  have HA3 : Hid (GoM w3 ab b3 (.slice none 0 0) [] ∧ ab < tb) := hidIn (by
    have hs := HS2.out
    obtain ⟨a1, a3⟩ := HA2.out
    exact ⟨⟨(HB3.out.block _ (by omega)).trans a1, World.ownsRow_nil _ _ _ _⟩, a3⟩)
  have HK3 : Hid (K w3) := hidIn (HKp.out.stay (fun j => W2.heap.size ≤ j) _ _ HK2.out ⟨HB3.out.os, HB3.out.tape, HB3.out.output, HB3.out.size, fun j hj hs => HB3.out.block j (by omega)⟩ (fun j hj h => by have := (HQ.out j hj).1; have := HS2.out; omega))
  clear hb3
  go_loopw [15] (fun i wr => ∃ k : Nat, k ≤ n ∧ i = .int .i64 k ∧ Hid (RfG w3 wr tb ab b3 L k kp)) (fun i _ => n - (intOf i).toNat)
  case atStart => exact ⟨0, Nat.zero_le _, rfl, hidIn ⟨_, _, HT3.out, World.ownsRow_nil _ _ _ _, Fr.refl _ _, HA3.out.1, fun j h => by simp [Value.ownBlock] at h⟩⟩
  case round =>
    obtain ⟨k, hk, rfl, HR⟩ := hrel
    obtain ⟨u, va, r1, r2, r3, ra, rd⟩ := HR.out
    clear HR
    have hab := HA3.out.2
    have htb3 : tb < b3 := by omega
    by_cases hlt : k < n
    · have hki : (k : Int) < (n : Int) := by omega
      have hk9 : (k : Int) < 100000 := by omega
      obtain ⟨gs, rfl, g1, g2, g3⟩ := Q3.out (by omega)
      have hkl : k < es'.length := by rw [Q1.out.length_eq, Hn.out]; exact hlt
      obtain ⟨e, he⟩ : ∃ e, es'[k]? = some e := ⟨es'[k], List.getElem?_eq_getElem hkl⟩
      have hLk : L[k]? = some (tg e) := by rw [← Q2.out, List.getElem?_map, he]; rfl
      have hgt : gs ≠ tb := by have := HS2.out; omega
      have hga : gs ≠ ab := by have := HS2.out; omega
      have c0 := (r3.cell9 (j := k) g2 (fun h => h.elim hgt hga)).trans (g3 k e he)
      obtain ⟨i, hi, hie⟩ := List.getElem_of_mem (Q1.out.mem_iff.1 (List.mem_of_getElem? he))
      have hent := HH3.out.ent i e (by rw [List.getElem?_eq_getElem hi, hie])
      have het : e.1.1 ≠ tb := fun x => by
        have h9 := HT3.out
        rw [← x, hent] at h9
        simp only [Option.some.injEq, Obj.cells.injEq] at h9
        exact absurd h9.2.1 (by decide)
      have hea : e.1.1 ≠ ab := fun x => by
        have h9 := HA3.out.1.c
        rw [← x, hent] at h9
        simp only [Option.some.injEq, Obj.cells.injEq] at h9
        exact absurd h9.2.1 (by decide)
      have hen := (r3.block _ (block_lt hent) (fun h => h.elim het hea)).trans hent
      have x0 := cell_of_row _ _ 0 _ _ _ hen
      have xa := cell_of_row _ _ 1 _ _ _ hen
      have xb := cell_of_row _ _ 2 _ _ _ hen
      have x2 := cell_of_row _ _ 4 _ _ _ hen
      simp at x0 xa xb x2
      have hasz : b3 ≤ wr.heap.size := by have := r3.size; have := Hb3.out; omega
      have hkl9 : (gonT (L.take k) kp).length ≤ 200000 := Nat.le_trans (gonT_len _ _) (by rw [List.length_take]; omega)
      have hKr : K wr := HKp.out.stay _ _ _ HK3.out r3 (fun j hj h => by have := HQ.out j hj; omega)
      have HX := hidIn (HKp.out.call wr b3 va _ e.1.2.1 hKr ra hkl9 (by omega) hasz (HOk.out _ (List.mem_of_getElem? hLk)))
      have hask := gonT_snoc (L.take k) (tg e) kp
      rw [← take_snoc hLk] at hask
      rw [show (if kp e.1.2.1 = true then gonT (L.take k) kp else gonT (L.take k) kp ++ [e.1.2.1]) = gonT (L.take (k + 1)) kp from hask.symm] at HX
      have hrt := refT_snoc (L.take k) (tg e) kp
      rw [← take_snoc hLk] at hrt
      have Hrt := hidIn hrt
      have hAlt : ∀ A, e.1.1 = A → A < b3 ∧ A ≠ tb ∧ A ≠ ab := fun A hA => by
        have h8 := block_lt hent
        have h9 := Hb3.out
        rw [hA] at h8
        exact ⟨by omega, by rw [← hA]; exact het, by rw [← hA]; exact hea⟩
      have R1 := hidIn r1
      have R2 := hidIn r2
      have R3 := hidIn r3
      have Ra := hidIn ra
      have Rd := hidIn rd
      have HAlt := hidIn hAlt
      have hrl : (refT (L.take k) kp).length ≤ k := Nat.le_trans (refT_len _ _) (by rw [List.length_take]; omega)
      obtain ⟨T, hT⟩ : ∃ T, refT (L.take k) kp = T := ⟨_, rfl⟩
      rw [hT] at R2 Hrt hrl
      obtain ⟨G1, hG1⟩ : ∃ G, gonT (L.take (k + 1)) kp = G := ⟨_, rfl⟩
      rw [hG1] at HX
      have HG1 := hidIn hG1
      clear hrt r1 r2 r3 ra rd g3 he hLk hi hie hent hen hT hask hAlt hkl9 hasz hKr hG1
      by_cases hkp : kp e.1.2.1 = true
      · rw [hkp] at HX
        have hE2 : Hid (refT (L.take (k + 1)) kp = T) := hidIn (by rw [Hrt.out, if_pos hkp])
        clear Hrt
        go_wp2_with fail
        refine HX.out.mono ?_
        rintro e9 w9 ⟨rfl, hw9⟩
        obtain ⟨va9, a1, a2, a3⟩ := hw9
        have hva : ∀ j, va.ownBlock = some j → b3 ≤ j := fun j hj => (Ra.out.r.lt j hj).1
        have hub : ∀ j, u.ownBlock = some j → b3 ≤ j ∧ j < wr.heap.size := fun j hj => R2.out.lt j hj
        have k1 := (a3.block tb (block_lt R1.out) (fun h => h.elim (fun e => by omega) (fun e => by have := hva _ e; omega))).trans R1.out
        have k2 := row_fr R2.out a3 (fun j hj h => h.elim (fun e => by have := (hub j hj).1; omega) (fun e => Rd.out j hj e))
        have k3 : Fr (fun j => j = tb ∨ j = ab) w3 w9 := ⟨a3.os.trans R3.out.os, a3.tape.trans R3.out.tape, a3.output.trans R3.out.output, Nat.le_trans R3.out.size a3.size, fun j hj hs => (a3.block j (Nat.lt_of_lt_of_le hj R3.out.size) (fun h => h.elim (fun e => hs (.inr e)) (fun e => by have := hva _ e; have := Hb3.out; omega))).trans (R3.out.block j hj hs)⟩
        have k4 : ∀ j, u.ownBlock = some j → va9.ownBlock ≠ some j := fun j hj e => by
          rcases a2 j e with h | h
          · exact Rd.out j hj h
          · have := (hub j hj).2
            omega
        rw [← HG1.out] at a1
        have HRel : Hid (RfG w3 w9 tb ab b3 L (k + 1) kp) := hidIn ⟨u, va9, k1, by rw [hE2.out]; exact k2, k3, a1, k4⟩
        clear k1 k2 k3 k4 a1 a2 a3 hva hub HX c0 x0 xa xb x2
        go_wp2
        go_roundw
        case rel => exact ⟨k + 1, by omega, by go_num, HRel⟩
        case measure => simp [intOf]; omega
      · have hkf : kp e.1.2.1 = false := by simpa using hkp
        rw [hkf] at HX
        have hE2 : Hid (refT (L.take (k + 1)) kp = T ++ [e.2]) := hidIn (by rw [Hrt.out, if_neg hkp])
        obtain ⟨A, hA⟩ : ∃ A, e.1.1 = A := ⟨_, rfl⟩
        rw [hA] at c0 x0 xa xb x2
        go_wp2_with fail
        refine HX.out.mono ?_
        rintro e9 w9 ⟨rfl, hw9⟩
        obtain ⟨va9, a1, a2, a3⟩ := hw9
        have hva : ∀ j, va.ownBlock = some j → b3 ≤ j := fun j hj => (Ra.out.r.lt j hj).1
        have hub : ∀ j, u.ownBlock = some j → b3 ≤ j ∧ j < wr.heap.size := fun j hj => R2.out.lt j hj
        have k1 := (a3.block tb (block_lt R1.out) (fun h => h.elim (fun e => by omega) (fun e => by have := hva _ e; omega))).trans R1.out
        have k2 := row_fr R2.out a3 (fun j hj h => h.elim (fun e => by have := (hub j hj).1; omega) (fun e => Rd.out j hj e))
        have k3 : Fr (fun j => j = tb ∨ j = ab) w3 w9 := ⟨a3.os.trans R3.out.os, a3.tape.trans R3.out.tape, a3.output.trans R3.out.output, Nat.le_trans R3.out.size a3.size, fun j hj hs => (a3.block j (Nat.lt_of_lt_of_le hj R3.out.size) (fun h => h.elim (fun e => hs (.inr e)) (fun e => by have := hva _ e; have := Hb3.out; omega))).trans (R3.out.block j hj hs)⟩
        have k4 : ∀ j, u.ownBlock = some j → va9.ownBlock ≠ some j := fun j hj e => by
          rcases a2 j e with h | h
          · exact Rd.out j hj h
          · have := (hub j hj).2
            omega
        rw [← HG1.out] at a1
        obtain ⟨tk, htk⟩ : ∃ tk, e.2 = tk := ⟨_, rfl⟩
        have hAl := HAlt.out A hA
        have x29 := (a3.cell9 (j := 4) (block_lt_of_cell x2) (fun h => h.elim hAl.2.2 (fun e => absurd hAl.1 (Nat.not_lt.2 (hva _ e))))).trans x2
        rw [htk] at x29 hE2
        obtain ⟨ua, uc, rfl⟩ := row_shape k2
        obtain ⟨wd, hwd⟩ : ∃ wd, w9.drew = wd := ⟨_, rfl⟩
        have hwh : wd.heap = w9.heap := by rw [← hwd]; rfl
        have hFd : Fr (fun j => j = tb ∨ j = ab) w3 wd := by rw [← hwd]; exact k3.drew
        have hFd0 : Fr (fun _ => False) w9 wd := by rw [← hwd]; exact (Fr.refl _ w9).drew
        have d1 : wd.heap[tb]? = some (.cells #[.slice ua T.length uc] 27) := by rw [hwh]; exact k1
        have d2 := row_heap k2 hwh
        have dA : wd.cell? ⟨A, 4, none⟩ = some (.int .i64 tk) := by rw [← hwd]; exact x29
        have hsd : b3 ≤ wd.heap.size := by have := hFd.size; have := Hb3.out; omega
        obtain ⟨g6, cap6, w6, hrun, hown, hlie, hgr, hb6⟩ := append_int d2 tk (by omega) hsd
        obtain ⟨wa, hwa⟩ : ∃ wa, wd.alloc (.cells #[.int .i64 tk] 3) = wa := ⟨_, rfl⟩
        have hba : RowKit.Below wd.heap.size wd wa := by rw [← hwa]; exact (Below.refl _ wd).alloc (Nat.le_refl _) _
        have hF6 : Fr (fun j => (Value.slice ua T.length uc).ownBlock = some j) wd w6 := ⟨hgr.os, hgr.tape, hgr.output, hgr.size, fun j hj hne => hgr.block j hj (fun e => hne e.symm)⟩
        have hur : ∀ j, (Value.slice ua T.length uc).ownBlock = some j → b3 ≤ j := fun j hj => (d2.lt j hj).1
        have htb3 : tb < b3 := by omega
        have hT6 := (hF6.block tb (block_lt d1) (fun e => by have := hur _ e; omega)).trans d1
        have hAd : A < wd.heap.size := block_lt_of_cell dA
        have hAb : A < b3 ∧ A ≠ tb := ⟨hAl.1, hAl.2.1⟩
        have dA6 : w6.cell? ⟨A, 4, none⟩ = some (.int .i64 tk) := (hF6.cell9 hAd (fun e => by have := hur _ e; omega)).trans dA
        have dAa : wa.cell? ⟨A, 4, none⟩ = some (.int .i64 tk) := (hba.cell (p := ⟨A, 4, none⟩) hAd).trans dA
        obtain ⟨w7, hw7⟩ : ∃ w7, w6.setCell ⟨tb, 0, none⟩ (.slice (some ⟨g6, 0, none⟩) (T.length + 1) cap6) = w7 := ⟨_, rfl⟩
        have hF7 : Fr (fun j => j = tb) w6 w7 := by rw [← hw7]; exact (Fr.refl (fun j => j = tb) w6).set (p := ⟨tb, 0, none⟩) rfl _
        have dA7 : w7.cell? ⟨A, 4, none⟩ = some (.int .i64 tk) := (hF7.cell9 (block_lt_of_cell dA6) hAb.2).trans dA6
        have hg6 : b3 ≤ g6 := by
          rcases hlie with e | e
          · exact hur _ e
          · omega
        have HH7 : Hid (w7.heap[tb]? = some (.cells #[.slice (some ⟨g6, 0, none⟩) (T.length + 1) cap6] 27)) := hidIn (by rw [← hw7]; exact heap_setCell_same w6 tb 0 _ _ _ hT6)
        have HR7 : Hid (w7.ownsRow b3 3 1 (.slice (some ⟨g6, 0, none⟩) (T.length + 1) cap6) (refT (L.take (k + 1)) kp).length (fl ic (refT (L.take (k + 1)) kp))) := hidIn (by
          rw [hE2.out, List.length_append]
          exact row_fr hown hF7 (fun j hj e => by simp [Value.ownBlock] at hj; omega))
        have HF7 : Hid (Fr (fun j => j = tb ∨ j = ab) w3 w7) := hidIn (Fr.trans ⟨hF6.os.trans hFd.os, hF6.tape.trans hFd.tape, hF6.output.trans hFd.output, Nat.le_trans hFd.size hF6.size, fun j hj hs => (hF6.block j (Nat.lt_of_lt_of_le hj hFd.size) (fun e => by have := hur _ e; have := Hb3.out; omega)).trans (hFd.block j hj hs)⟩ (hF7.mono (fun _ _ h => .inl h)))
        have HA7 : Hid (GoM w7 ab b3 va9 (gonT (L.take (k + 1)) kp)) := hidIn (by
          have hv9 : ∀ j, va9.ownBlock = some j → b3 ≤ j := fun j hj => (a1.r.lt j hj).1
          refine ((a1.fr hFd0 (fun h => h) (fun _ _ h => h)).fr hF6 (fun e => ?_) (fun j hj e => k4 j e hj)).fr hF7 (by omega) (fun j hj e => by have := hv9 j hj; omega)
          have := hur _ e; omega)
        have HD7 : Hid (∀ j, (Value.slice (some ⟨g6, 0, none⟩) (T.length + 1) cap6).ownBlock = some j → va9.ownBlock ≠ some j) := hidIn (fun j hj e => by
          simp [Value.ownBlock] at hj
          subst hj
          rcases hlie with h | h
          · exact k4 _ h e
          · have h1 := (a1.r.lt _ e).2
            have h2 := congrArg Array.size hwh
            omega)
        have HRun : Hid ((Builtin.append_ #[27, 27] 27 #[.slice ua T.length uc, .slice (some ⟨wd.heap.size, 0, none⟩) 1 1]).run Try.prog wa = .ok (.slice (some ⟨g6, 0, none⟩) (T.length + 1) cap6) w6) := hidIn (by rw [← hwa]; exact hrun)
        have HC6 := hidIn (cell_of_row _ _ 0 _ _ _ hT6)
        have HZ6 := hidIn (frozen_new hT6 0)
        have HW7 := hidIn hw7
        have HWa := hidIn hwa
        have HWd := hidIn hwd
        have HCd := hidIn (cell_of_row _ _ 0 _ _ _ d1)
        have HCa := hidIn (cell_of_row _ _ 0 _ _ _ ((hba.block _ (block_lt d1)).trans d1))
        have HSd := hidIn (RfS.mk dA)
        have HSa := hidIn (RfS.mk dAa)
        have HS6 := hidIn (RfS.mk dA6)
        have HS7 := hidIn (RfS.mk dA7)
        clear hrun hown hlie hgr hb6 hF6 hur hT6 hF7 dA dAa dA6 dA7 d1 d2 hFd hwh hba hw7 hwa hwd hA htk R1 R2 Hrt hrl k1 k2 k3 k4 a1 a2 a3 hva hub hFd0 hAl x29
        clear HX c0 x0 xa xb x2
        go_upto_region 6 with fail
        refine wp_region_noPanic ?_
        refine wp_region_held_drew (S := fun wx => RfS A tk wx) (by kernel_rfl) (by rw [HWd.out]; exact HSd.out) (fun hHeld => ?_)
        rw [HWd.out]
        clear hHeld
        have hSd := HSd.out
        refine wpAnyH_take (i := 1) (v := ptr A) rfl (by kernel_rfl) (by kernel_rfl) (by kernel_rfl) (fun _ _ _ h => h) (Or.inl ⟨by kernel_rfl, fun _ _ => by kernel_rfl⟩) (by assumption) ?_
        refine wpAnyH_take (i := 2) (v := ptr A) rfl (by kernel_rfl) (by kernel_rfl) (by kernel_rfl) (fun _ _ _ h => h) (Or.inl ⟨by kernel_rfl, fun _ _ => by kernel_rfl⟩) (by assumption) ?_
        refine wpAnyH_take (i := 3) (v := .pointer (some ⟨A, 4, none⟩)) rfl (by kernel_rfl) (by kernel_rfl) (by kernel_rfl) (fun _ _ _ h => h) (Or.inl ⟨by kernel_rfl, fun _ _ => by kernel_rfl⟩) (by assumption) ?_
        refine wpAnyH_take (i := 4) (v := .int .i64 tk) rfl (by kernel_rfl) (by kernel_rfl) (by kernel_rfl) (fun _ _ _ h => h) (Or.inl ⟨by kernel_rfl, fun wq hSw => by
            have s0 := hSw.c
            go_simp⟩) (by assumption) ?_
        refine wpAnyH_ready (rs := [0, 5]) (by kernel_rfl) (by simp) ?_
        refine AllReadyH.cons (i := 0) rfl ?_ (AllReadyH.cons (i := 5) rfl ?_ AllReadyH.nil)
        · have b0 := HCd.out
          go_simp
          intro K hK
          clear b0
          refine hK.out _ _ hSd (fun _ => ?_)
          clear hK K
          refine wpAnyH_ready (rs := [5]) (by kernel_rfl) (by simp) ?_
          refine AllReadyH.cons (i := 5) rfl ?_ AllReadyH.nil
          go_simp
          intro K hK
          rw [HWa.out]
          refine hK.out _ _ HSa.out (fun _ => ?_)
          clear hK K
          refine wpAnyH_ready (rs := [6]) (by kernel_rfl) (by simp) ?_
          refine AllReadyH.cons (i := 6) rfl ?_ AllReadyH.nil
          intro K hK
          refine step_append rfl (.tmp 26) (.tmp 31) 27 rfl (by kernel_rfl) (by kernel_rfl) HRun.out ?_
          refine hK.out _ _ HS6.out (fun _ => ?_)
          clear hK K
          have b0 := HC6.out
          have b1 := HZ6.out
          refine wpAnyH_ready (rs := [7]) (by kernel_rfl) (by simp) ?_
          refine AllReadyH.cons (i := 7) rfl ?_ AllReadyH.nil
          go_simp
          intro K hK
          clear b0 b1
          rw [HW7.out]
          refine hK.out _ _ HS7.out (fun _ => ?_)
          clear hK K
          refine wpAnyH_done (by kernel_rfl) ?_ _
          refine NoPanic.normal ?_
          go_wp2
          go_roundw
          case rel => exact ⟨k + 1, by omega, by go_num, hidIn ⟨_, _, HH7.out, HR7.out, HF7.out, HA7.out, HD7.out⟩⟩
          case measure => simp [intOf]; omega
        · go_simp
          intro K hK
          rw [HWa.out]
          refine hK.out _ _ HSa.out (fun _ => ?_)
          clear hK K
          have b0 := HCa.out
          refine wpAnyH_ready (rs := [0]) (by kernel_rfl) (by simp) ?_
          refine AllReadyH.cons (i := 0) rfl ?_ AllReadyH.nil
          go_simp
          intro K hK
          clear b0
          refine hK.out _ _ HSa.out (fun _ => ?_)
          clear hK K
          refine wpAnyH_ready (rs := [6]) (by kernel_rfl) (by simp) ?_
          refine AllReadyH.cons (i := 6) rfl ?_ AllReadyH.nil
          intro K hK
          refine step_append rfl (.tmp 26) (.tmp 31) 27 rfl (by kernel_rfl) (by kernel_rfl) HRun.out ?_
          refine hK.out _ _ HS6.out (fun _ => ?_)
          clear hK K
          have b0 := HC6.out
          have b1 := HZ6.out
          refine wpAnyH_ready (rs := [7]) (by kernel_rfl) (by simp) ?_
          refine AllReadyH.cons (i := 7) rfl ?_ AllReadyH.nil
          go_simp
          intro K hK
          clear b0 b1
          rw [HW7.out]
          refine hK.out _ _ HS7.out (fun _ => ?_)
          clear hK K
          refine wpAnyH_done (by kernel_rfl) ?_ _
          refine NoPanic.normal ?_
          go_wp2
          go_roundw
          case rel => exact ⟨k + 1, by omega, by go_num, hidIn ⟨_, _, HH7.out, HR7.out, HF7.out, HA7.out, HD7.out⟩⟩
          case measure => simp [intOf]; omega
    · have hke : k = n := by omega
      have hki : ¬ ((k : Int) < (n : Int)) := by omega
      have hT9 : refT (L.take k) kp = refT L kp := by rw [hke, ← HLn.out, List.take_length]
      rw [hT9] at r2
      have c9 := cell_of_row _ _ 0 _ _ _ r1
      have f9 := frozen_new r1 0
      simp at c9
      have R1 := hidIn r1
      have R2 := hidIn r2
      have R3 := hidIn r3
      obtain ⟨ua, uc, rfl⟩ := row_shape r2
      rw [show L.take k = L from by rw [hke, ← HLn.out, List.take_length]] at ra
      have Ra := hidIn ra
      clear r1 r2 r3 ra rd hT9 hke hk
      go_wp2_with fail
      obtain ⟨wz, hwz⟩ : ∃ wz, wr.setCell ⟨tb, 0, none⟩ (.slice ua (refT L kp).length uc) = wz := ⟨_, rfl⟩
      rw [hwz]
      have hz := heap_setCell_same wr tb 0 _ _ (.slice ua (refT L kp).length uc) R1.out
      rw [hwz] at hz
      have cz := cell_of_row _ _ 0 _ _ _ hz
      have hFz : Fr (fun j => j = tb) wr wz := by rw [← hwz]; exact (Fr.refl (fun j => j = tb) wr).set (p := ⟨tb, 0, none⟩) rfl _
      simp at cz
      refine leaves_cons (f := 72) (args := #[.pointer (some ⟨tb, 0, none⟩)]) (by simp) (by simp [go_sem]) ?_
      refine (idle_ok ⟨tb, 0, none⟩ _).mono ?_
      rintro e u' w'' ⟨rfl, rfl, rfl⟩
      have hrowz : w''.ownsRow tb 3 1 (.slice ua (refT L kp).length uc) (refT L kp).length (fl ic (refT L kp)) := row_low (row_fr R2.out hFz (fun j hj e => by have := (R2.out.lt j hj).1; omega)) (by omega)
      have hbz : (∃ va, GoM w'' ab tb va (gonT L kp)) ∧ Fr (fun j => j = ab) w w'' := by
        have e3 := Hb3.out
        have e4 := R3.out.size
        refine ⟨⟨va, ?_⟩, ?_⟩
        · have h := Ra.out.fr hFz (by omega) (fun j hj e => by have := (Ra.out.r.lt j hj).1; omega)
          exact ⟨h.c, row_low h.r (by omega)⟩
        · have h10 : RowKit.Below tb w W2 := by rw [← Htb.out]; exact HB2.out
          have h11 : RowKit.Below tb w w3 := h10.trans (HB3.out.mono (by have := HS2.out; omega))
          refine ⟨hFz.os.trans (R3.out.os.trans h11.os), hFz.tape.trans (R3.out.tape.trans h11.tape), hFz.output.trans (R3.out.output.trans h11.output), Nat.le_trans h11.size (Nat.le_trans e4 hFz.size), fun j hj hs => ?_⟩
          have hjt : j < tb := by rw [← Htb.out]; exact hj
          exact (hFz.block j (by omega) (by omega)).trans ((R3.out.block j (by omega) (fun h => h.elim (fun e => by omega) hs)).trans (h11.block j hjt))
      have HFin := hidIn (And.intro hrowz hbz)
      clear hrowz hbz hz hFz hwz c9 f9
      simp [Leaves, settle, results, Try.results63, go_sem, cz]
      exact HFin.out
end Go.Proofs.Ytkhfpcnmnnboeaa.Ca.A
namespace Go.Proofs.Ytkhfpcnmnnboeaa.Ca.A
open Go.RowKit Go.Maps Go.Sort Go.Shelf

set_option maxRecDepth 100000 in
set_option maxHeartbeats 2000000 in
theorem siftG_ok {w : World} {S : Nat → Prop} {cp p kf ab : Nat} {lb : Array Value} {L : List (Tg (Int × Int × ByteArray))} {kp : (Int × Int × ByteArray) → Bool} {Q : Nat → Prop} {K : World → Prop} {Ok : (Int × Int × ByteArray) → Prop} (h : Cal w S cp L p) (hp : p < 100000) (hl : L.length ≤ 100000)
    (hA1 : w.heap[ab]? = some (.cells #[.slice none 0 0] 28)) (hKp : Kp kf lb kp ab Q K Ok) (hK0 : K w) (hQ : ∀ j, Q j → j < w.heap.size ∧ j ≠ ab) (hOk : ∀ a ∈ L, Ok a.1.1) (hE : ∀ args w, (callFunc kf args).run Try.prog w = .ok (Next.enter kf args) w) (hSa : ¬ S ab) (hnf : ∀ wq : World, (binOp BinOp.eql 106 (.func (.func kf) #[] lb) Value.nilFunc).run Try.prog wq = .ok (.bool false) wq) :
    Calls Try.prog 46 #[ptr cp, .func (.func kf) #[] lb] w fun e w' => e = .returned (.int .i64 (refT L kp).length) ∧ Cal w' S cp (L.filter fun a => kp a.1.1) p ∧ (∃ va, GoM w' ab w.heap.size va (gonT L kp)) ∧ Fr (fun j => S j ∨ j = ab) w w' := by
  have HRf := hidIn (refusedG_ok h hl hA1 hKp hK0 hQ hOk hE)
  have Hab : Hid (ab < w.heap.size ∧ ¬ S ab) := hidIn ⟨block_lt hA1, hSa⟩
  have HT := hidIn (there_yes h.self.2.2)
  have h0 := h.mono (T := fun k => S k ∧ k < w.heap.size) (fun k hk hs => ⟨hs, hk⟩)
  have HC := hidIn h0
  have HLe := hidIn (refused_left kp h.o)
  have HTl := hidIn (refT_len L kp)
  have HTm : Hid (∀ t ∈ refT L kp, 1 ≤ t ∧ t ≤ (p : Int)) := hidIn (fun t ht => by
    obtain ⟨b, hb, rfl⟩ := List.mem_map.1 ht
    exact h.t b (List.mem_filter.1 hb).1)
  obtain ⟨q, hq⟩ : ∃ q, w.heap.size = q := ⟨_, rfl⟩
  rw [hq] at HRf HC Hab
  rw [hq]
  have Hq := hidIn hq
  obtain ⟨T, hT⟩ : ∃ T, refT L kp = T := ⟨_, rfl⟩
  rw [hT] at HRf HLe HTl HTm ⊢
  have ht9 : T.length ≤ 100000 := by have := HTl.out; omega
  clear h h0 hA1 hSa hKp hK0 hQ hOk hE hT hq
  go_enter Try.func46, Try.ntmps46
  go_wp2_with fail
  refine HT.out.mono ?_
  rintro e w1 ⟨rfl, hw1⟩
  rw [hw1]
  clear hw1 w1 HT
  go_wp2_with fail
  refine HRf.out.mono ?_
  rintro e w1 ⟨⟨v', rfl, hrow⟩, ⟨va9, hask⟩, hb⟩
  have HAsk := hidIn hask
  obtain ⟨va, vc, rfl⟩ := row_shape hrow
  have HRow := hidIn hrow
  have HB := hidIn hb
  have s1 : q ≤ w1.heap.size := by have := hb.size; have := Hq.out; omega
  have HC1 := hidIn (HC.out.keep hb (fun k hk hs => by rw [hs] at hk; exact Hab.out.2 hk.1))
  obtain ⟨_, _, e1, _, _, hcl⟩ := sl_i64' (slAt_of_row (cs := ic) (fun _ => rfl) hrow rfl)
  simp only [Value.slice.injEq] at e1
  obtain ⟨rfl, _, rfl⟩ := e1
  have HCl := hidIn hcl
  clear hrow hb hask HRf hcl HC
  go_wp2_with fail
  go_loopw [20] (fun i wr => ∃ k : Nat, k ≤ T.length ∧ i = .int .i64 k ∧ Hid (Cal wr (fun k => S k ∧ k < q) cp ((T.take k).foldl dropT L) p ∧ Fr (fun k => S k ∧ k < q) w1 wr)) (fun i _ => T.length - (intOf i).toNat)
  case atStart => exact ⟨0, Nat.zero_le _, rfl, hidIn ⟨HC1.out, Fr.refl _ _⟩⟩
  case round =>
    obtain ⟨k, hk, rfl, HR⟩ := hrel
    obtain ⟨r1, r2⟩ := HR.out
    clear HR
    by_cases hlt : k < T.length
    · obtain ⟨bk, o, rfl, hbk, hc⟩ := HCl.out (by omega)
      obtain ⟨t, ht⟩ : ∃ t, T[k]? = some t := ⟨T[k], List.getElem?_eq_getElem hlt⟩
      have hbq : q ≤ bk := (HRow.out.lt bk rfl).1
      have x0 := (r2.cell9 (j := o + k) hbk (fun h => by omega)).trans (hc k t ht)
      have hki : (k : Int) < (T.length : Int) := by omega
      have hk9 : (k : Int) < 100000 := by omega
      have htm := HTm.out t (List.mem_of_getElem? ht)
      have hlen : ((T.take k).foldl dropT L).length ≤ 100000 := by rw [dropAll]; exact Nat.le_trans (List.length_filter_le _ _) hl
      have HD := hidIn (drop_ok t (wf9 (by omega)) r1 hp hlen)
      have HN : Hid ((T.take (k + 1)).foldl dropT L = dropT ((T.take k).foldl dropT L) t) := hidIn (by rw [take_snoc ht, List.foldl_append]; rfl)
      have R2 := hidIn r2
      clear hc ht r1 r2
      go_wp2_with fail
      refine HD.out.mono ?_
      rintro e w2 ⟨rfl, hC2, hF2⟩
      have C2 := hidIn hC2
      have F2 := hidIn hF2
      clear hC2 hF2 HD x0
      go_wp2
      go_roundw
      case rel => exact ⟨k + 1, by omega, by go_num, hidIn ⟨by rw [HN.out]; exact C2.out, R2.out.trans F2.out⟩⟩
      case measure => simp [intOf]; omega
    · have hke : k = T.length := by omega
      have hki : ¬ ((k : Int) < (T.length : Int)) := by omega
      rw [hke, List.take_length, HLe.out] at r1
      have R1 := hidIn (r1.mono (T := S) (fun _ _ h => h.1))
      have R2 : Hid (Fr (fun j => S j ∨ j = ab) w wr) := hidIn (by
        exact (HB.out.mono (fun _ _ h => .inr h)).trans (r2.mono (fun _ _ h => .inl h.1)))
      have R3 := hidIn (HAsk.out.fr r2 (fun h => Hab.out.2 h.1) (fun j hj h => by have := (HAsk.out.r.lt j hj).1; omega))
      clear r1 r2 hke
      go_wp2
      go_returns
      exact ⟨rfl, R1.out, ⟨_, R3.out⟩, R2.out⟩
end Go.Proofs.Ytkhfpcnmnnboeaa.Ca.A
namespace Go.Proofs.Ytkhfpcnmnnboeaa.Nt
open Go.RowKit Go.Proofs.Ytkhfpcnmnnboeaa.Fa

/-- Both routers are such. -/
def ArOk (x : Ar) : Prop := (1 ≤ x.1 ∧ x.1 ≤ 24) ∧ (1 ≤ x.2.1 ∧ x.2.1 ≤ 24)
/-- Is the message's link up? -/
def upK (C : Pr → Bool) (st : Nat → Bool) (x : Ar) : Bool := !C (nm x.1 x.2.1) && (!st x.1.toNat && !st x.2.1.toNat)
/-- What lost's keep reads. -/
structure LsK (nb np q : Nat) (D : Nd) (la now : Int) (st : Nat → Bool) (C : Pr → Bool) (W : World) : Prop where
  n : W.heap[nb]? = some (.cells #[pp np] 25)
  b : NtB W np D la st now
  m : MpC W D.cm q C
theorem LsK.keep {nb np q : Nat} {D : Nd} {la now : Int} {st : Nat → Bool} {C : Pr → Bool} {W W' : World} {T : Nat → Prop} (h : LsK nb np q D la now st C W) (hF : Fr T W W') (h1 : ¬ T nb) (h2 : ¬ T np) (h3 : ¬ T D.cm) : LsK nb np q D la now st C W' :=
  ⟨(hF.block _ (block_lt h.n) h1).trans h.n, h.b.keep hF h2, h.m.keep hF h3⟩
set_option maxRecDepth 100000 in
set_option maxHeartbeats 4000000 in
theorem lkeep_ok {nb np q ab base : Nat} {D : Nd} {la now : Int} {st : Nat → Bool} {C : Pr → Bool} {W : World} {v : Value} {l : List Ar} (hk : LsK nb np q D la now st C W) (h : Ca.A.GoM W ab base v l) (hl : l.length ≤ 200000) (hab : ab < base) (hbs : base ≤ W.heap.size) (x : Ar) (hx : ArOk x) :
    Calls Try.prog 47 (#[arV x] ++ #[pp nb, pp ab]) W fun e W' => e = .returned (.bool (upK C st x)) ∧ Ca.A.KeepG W W' ab base v (if upK C st x = true then l else l ++ [x]) := by
  show Calls _ _ #[arV x, pp nb, pp ab] _ _
  obtain ⟨x0, x1, x2⟩ := x
  obtain ⟨hx0, hx1⟩ := hx
  simp only at hx0 hx1
  obtain ⟨a, rfl⟩ : ∃ a : Nat, x0 = a := ⟨x0.toNat, by omega⟩
  obtain ⟨b, rfl⟩ : ∃ a : Nat, x1 = a := ⟨x1.toNat, by omega⟩
  obtain ⟨va, vc, rfl⟩ := row_shape h.r
  obtain ⟨W1, hW1⟩ : ∃ W1, W.alloc (.cells #[.int .i64 (a : Int), .int .i64 (b : Int), .string x2] 30) = W1 := ⟨_, rfl⟩
  have b1 : Below W.heap.size W W1 := by rw [← hW1]; exact (Below.refl _ W).alloc (Nat.le_refl _) _
  have hX : W1.heap[W.heap.size]? = some (.cells #[.int .i64 (a : Int), .int .i64 (b : Int), .string x2] 30) := by rw [← hW1]; exact heap_alloc_last W _
  have hk1 := hk.keep (T := fun _ => False) (Fr.of_below b1) (fun h => h) (fun h => h) (fun h => h)
  have h1 := h.fr (S := fun _ => False) (Fr.of_below b1) (fun h => h) (fun _ _ h => h)
  have HU := hidIn (isUp_any hk1.b hk1.m (a := a) (b := b) (by omega) (by omega))
  have n0 := cell_of_row _ _ 0 _ _ _ hk1.n
  have t0 := cell_of_row _ _ 0 _ _ _ hX
  have t1 := cell_of_row _ _ 1 _ _ _ hX
  simp at n0 t0 t1
  have HX := hidIn hX
  have H1 := hidIn h1
  have HB1 := hidIn b1
  have HW := hidIn hW1
  have HH := hidIn h
  obtain ⟨up, hup⟩ : ∃ up, (!C (nm a b) && (!st a && !st b)) = up := ⟨_, rfl⟩
  rw [hup] at HU
  have hue : upK C st ((a : Int), (b : Int), x2) = up := hup
  rw [hue]
  obtain ⟨xb, hxb⟩ : ∃ xb, W.heap.size = xb := ⟨_, rfl⟩
  rw [hxb] at t0 t1 HX HB1 hbs
  have Hxb := hidIn hxb
  have hs1 : xb < W1.heap.size := block_lt HX.out
  clear hW1 b1 hX hk hk1 h h1 hup hue hx0 hx1 hxb
  cases up
  · go_enter Try.func47, Try.ntmps47
    go_upto_region 1 with fail
    rw [HW.out, Hxb.out]
    clear HW
    go_wp2_with fail
    refine HU.out.mono ?_
    rintro e w2 ⟨rfl, hb2⟩
    have hX2 := (hb2.block _ hs1).trans HX.out
    have t0 := cell_of_row _ _ 0 _ _ _ hX2
    have t1 := cell_of_row _ _ 1 _ _ _ hX2
    have t2 := cell_of_row _ _ 2 _ _ _ hX2
    have h2 := H1.out.fr (S := fun _ => False) (Fr.of_below hb2) (fun h => h) (fun _ _ h => h)
    have g0 := cell_of_row _ _ 0 _ _ _ h2.c
    simp at t0 t1 t2 g0
    have hs2 := hb2.size
    obtain ⟨g6, cap6, w6, hrun, hown, hlie, hgr, hb6⟩ := Ca.A.append_th h2.r ((a : Int), (b : Int), x2) (by omega) (by omega)
    have hF6 : Fr (fun j => (Value.slice va l.length vc).ownBlock = some j) w2 w6 := ⟨hgr.os, hgr.tape, hgr.output, hgr.size, fun j hj hne => hgr.block j hj (fun e => hne e.symm)⟩
    have hold : ∀ j, (Value.slice va l.length vc).ownBlock = some j → base ≤ j := fun j hj => (h2.r.lt j hj).1
    have c6 := (hF6.block ab (block_lt h2.c) (fun e => by have := hold _ e; omega)).trans h2.c
    have z0 := cell_of_row _ _ 0 _ _ _ c6
    have zf := frozen_new c6 0
    simp at z0
    obtain ⟨w7, hw7⟩ : ∃ w7, w6.setCell ⟨ab, 0, none⟩ (.slice (some ⟨g6, 0, none⟩) (l.length + 1) cap6) = w7 := ⟨_, rfl⟩
    have hF7 : Fr (fun j => j = ab) w6 w7 := by rw [← hw7]; exact (Fr.refl (fun j => j = ab) w6).set (p := ⟨ab, 0, none⟩) rfl _
    have c7 : w7.heap[ab]? = some (.cells #[.slice (some ⟨g6, 0, none⟩) (l.length + 1) cap6] 28) := by rw [← hw7]; exact heap_setCell_same w6 ab 0 _ _ _ c6
    have hbA : Below xb W w2 := HB1.out.trans (hb2.mono (by omega))
    have HAns : Hid (Ca.A.KeepG W w7 ab base (.slice va l.length vc) (l ++ [((a : Int), (b : Int), x2)])) := hidIn ⟨.slice (some ⟨g6, 0, none⟩) (l.length + 1) cap6, ⟨c7, by
        rw [List.length_append]
        exact row_fr hown hF7 (fun j hj e => by
          simp [Value.ownBlock] at hj
          subst hj
          rcases hlie with h | h
          · have := hold _ h; omega
          · omega)⟩, fun j hj => by
        simp [Value.ownBlock] at hj
        subst hj
        rcases hlie with e | e
        · exact .inl e
        · exact .inr (by rw [Hxb.out]; omega), ?_⟩
    · have HRun := hidIn hrun
      have HW7 := hidIn hw7
      clear hrun hown hlie hgr hb6 hF6 hF7 hold c6 c7 hw7 hX2 h2 hb2 hbA
      go_wp2_with (refine l_append rfl _ _ 28 rfl HRun.out ?_)
      rw [HW7.out]
      go_returns
      exact ⟨rfl, HAns.out⟩
    · have hf2 : Fr (fun _ => False) W w2 := Fr.of_below (by rw [Hxb.out]; exact hbA)
      exact ((hf2.mono (fun _ _ h => False.elim h)).trans (hF6.mono (fun _ _ h => .inr h))).trans (hF7.mono (fun _ _ h => .inl h))
  · go_enter Try.func47, Try.ntmps47
    go_upto_region 1 with fail
    rw [HW.out, Hxb.out]
    clear HW
    go_wp2_with fail
    refine HU.out.mono ?_
    rintro e w2 ⟨rfl, hb2⟩
    have hbA : Below xb W w2 := HB1.out.trans (hb2.mono (by omega))
    have HF2 : Hid (Fr (fun _ => False) W w2) := hidIn (Fr.of_below (by rw [Hxb.out]; exact hbA))
    clear hb2 HU hbA
    go_wp2_with fail
    go_returns
    refine ⟨rfl, _, HH.out.fr HF2.out (fun h => h) (fun _ _ h => h), fun j hj => .inl hj, HF2.out.mono (fun _ _ h => False.elim h)⟩
theorem enterL1 (args : Array Value) (w : World) : (callFunc 47 args).run Try.prog w = .ok (Next.enter 47 args) w := by kernel_rfl
theorem lkp_ok {nb np q ab : Nat} {D : Nd} {la now : Int} {st : Nat → Bool} {C : Pr → Bool} : Ca.A.Kp 47 #[pp nb, pp ab] (upK C st) ab (fun j => j = nb ∨ j = np ∨ j = D.cm) (LsK nb np q D la now st C) ArOk :=
  ⟨fun _ _ _ h hF hT => h.keep hF (hT _ (.inl rfl)) (hT _ (.inr (.inl rfl))) (hT _ (.inr (.inr rfl))), fun _ _ _ _ x hk h hl hab hbs hx => lkeep_ok hk h hl hab hbs x hx⟩
/-- What is lost, what is left. -/
def goneN (N : Nv) : List Ar := (N.L.filter fun a => !upK N.C N.st a.1.1).map fun a => a.1.1
def leftN (N : Nv) : Nv := { N with L := N.L.filter fun a => upK N.C N.st a.1.1 }
set_option maxRecDepth 100000 in
set_option maxHeartbeats 2000000 in
theorem lost_any {w : World} {np k : Nat} {D : Nd} {N : Nv} {S : Nat → Prop} (h : NtAt w np D N S) (hS : ∀ j, S j → j < w.heap.size) (hk : NvOk N k) (hk9 : k ≤ 30000) :
    Calls Try.prog 30 #[pp np] w fun e w' => (∃ v, e = .returned v ∧ w'.ownsRow w.heap.size 30 3 v (goneN N).length (fl arC (goneN N))) ∧ Res0 w w' np D (leftN N) S := by
  obtain ⟨W1, hW1⟩ : ∃ W1, (w.alloc (.cells #[pp np] 25)).alloc (.cells #[.slice none 0 0] 28) = W1 := ⟨_, rfl⟩
  have b1 : Below w.heap.size w W1 := by rw [← hW1]; exact ((Below.refl _ w).alloc (Nat.le_refl _) _).alloc (by simp) _
  have hA : W1.heap[w.heap.size]? = some (.cells #[pp np] 25) := by rw [← hW1, Below.heap_alloc _ _ _ (by simp)]; exact heap_alloc_last w _
  have hB : W1.heap[w.heap.size + 1]? = some (.cells #[.slice none 0 0] 28) := by
    rw [← hW1]
    have := heap_alloc_last (w.alloc (.cells #[pp np] 25)) (.cells #[.slice none 0 0] 28)
    rwa [World.size_alloc] at this
  have h1 := h.below b1
  have hlt := block_lt hB
  have hl3 := hk.ll
  have hp3 := hk.p
  have HSi := hidIn (Ca.A.siftG_ok (Q := fun j => j = w.heap.size ∨ j = np ∨ j = D.cm) h1.ca (by omega) (by omega) hB (lkp_ok (nb := w.heap.size) (np := np) (q := N.q) (D := D) (la := N.lt) (now := N.now) (st := N.st) (C := N.C)) ⟨hA, h1.b, h1.cu⟩ (fun j hj => by
    have := h.b.lt
    have := h.cu.lt
    omega) (fun a ha => hk.l a ha) enterL1 (fun hs => by have := hS _ hs; omega) (fun wq => by kernel_rfl))
  have c5 := h1.b.c5
  have n0 := cell_of_row _ _ 0 _ _ _ hA
  simp at n0
  have HW := hidIn hW1
  have HB1 := hidIn b1
  have HH := hidIn h
  have HS := hidIn hS
  obtain ⟨q, hq⟩ : ∃ q, w.heap.size = q := ⟨_, rfl⟩
  rw [hq] at HSi HB1 n0 hlt ⊢
  have Hq := hidIn hq
  have HE : Hid (Ca.A.gonT N.L (upK N.C N.st) = goneN N) := hidIn rfl
  rw [HE.out] at HSi
  clear hW1 b1 hA hB h1 h hS hk hq HE
  go_enter Try.func30, Try.ntmps30
  go_upto_region 2 with fail
  rw [HW.out, Hq.out]
  clear HW
  go_wp2_with fail
  refine HSi.out.mono ?_
  rintro e w2 ⟨rfl, hC, ⟨va, hG⟩, hF⟩
  have g0 := cell_of_row _ _ 0 _ _ _ hG.c
  simp at g0
  have HC := hidIn hC
  have HG := hidIn hG
  have HF := hidIn hF
  obtain ⟨ua, uc, rfl⟩ := row_shape hG.r
  clear hC hG hF HSi c5 n0
  go_wp2_with fail
  go_returns
  have hFw : Fr S w w2 := by
    have hb := HB1.out
    have hf := HF.out
    have hq := Hq.out
    have hsz := hb.size
    exact ⟨hf.os.trans hb.os, hf.tape.trans hb.tape, hf.output.trans hb.output, Nat.le_trans hsz hf.size, fun j hj hs => (hf.block j (by omega) (fun h => h.elim hs (fun e => by omega))).trans (hb.block j (by omega))⟩
  exact ⟨⟨_, rfl, row_low HG.out.r (by omega)⟩, HH.out.recal HS.out hFw HC.out (fun j hj => .inl hj), hFw.mono (fun j _ hj => .inr (.inr (.inr (.inr (.inr (.inr hj))))))⟩
end Go.Proofs.Ytkhfpcnmnnboeaa.Nt
namespace Go.Proofs.Ytkhfpcnmnnboeaa.Nt
open Go.RowKit Go.Proofs.Ytkhfpcnmnnboeaa.Fa

set_option maxRecDepth 100000 in
theorem up_any {w : World} {np k : Nat} {D : Nd} {N : Nv} {S : Nat → Prop} (h : NtAt w np D N S) (hk : NvOk N k) (a b : Int) :
    Calls Try.prog 11 #[pp np, .int .i64 a, .int .i64 b] w fun e w' => e = .returned (.bool (lkQ N a b && upQ N a b)) ∧ Below w.heap.size w w' := by
  have HL := hidIn (noLk_any h (Nat.le_trans hk.el (by omega)) a b)
  cases hlk : lkQ N a b
  · rw [show noLk N a b = 2 from by rw [noLk, hlk]; rfl] at HL
    clear hlk h hk
    go_enter Try.func11, Try.ntmps11
    go_wp2_with fail
    refine HL.out.mono ?_
    rintro e w1 ⟨rfl, hb1⟩
    have HB := hidIn hb1
    clear hb1 HL
    go_wp2_with fail
    go_returns
    exact ⟨rfl, HB.out⟩
  · rw [show noLk N a b = 0 from by rw [noLk, hlk]; rfl] at HL
    have hbd := lkQ_bd hk hlk
    obtain ⟨x, rfl⟩ : ∃ x : Nat, a = x := ⟨a.toNat, by omega⟩
    obtain ⟨y, rfl⟩ : ∃ y : Nat, b = y := ⟨b.toNat, by omega⟩
    have Hup : Hid (∀ w1, Below w.heap.size w w1 → Calls Try.prog 27 #[pp np, .int .i64 (x : Int), .int .i64 (y : Int)] w1 fun e w' => e = .returned (.bool (upQ N x y)) ∧ Below w1.heap.size w1 w') := hidIn (fun w1 hb1 => isUp_any (h.below hb1).b (h.below hb1).cu (by omega) (by omega))
    obtain ⟨u, hu⟩ : ∃ u, upQ N x y = u := ⟨_, rfl⟩
    rw [hu] at Hup ⊢
    clear hlk h hk hbd hu
    go_enter Try.func11, Try.ntmps11
    go_wp2_with fail
    refine HL.out.mono ?_
    rintro e w1 ⟨rfl, hb1⟩
    have HB := hidIn hb1
    have HU := hidIn (Hup.out w1 hb1)
    clear hb1 HL Hup
    go_wp2_with fail
    refine HU.out.mono ?_
    rintro e w2 ⟨rfl, hb2⟩
    have HB2 := hidIn (HB.out.trans (hb2.mono HB.out.size))
    clear hb2 HU
    go_wp2_with fail
    go_returns
    exact ⟨rfl, HB2.out⟩
set_option maxRecDepth 100000 in
theorem now_any {w : World} {np : Nat} {D : Nd} {N : Nv} {S : Nat → Prop} (h : NtAt w np D N S) :
    Calls Try.prog 18 #[pp np] w fun e w' => e = .returned (.int .u64 N.now) ∧ w' = w := by
  have HT := hidIn (nthere_yes h.b.c0)
  have c32 := h.b.c32
  clear h
  go_enter Try.func18, Try.ntmps18
  go_wp2_with (go_at_call 32; refine HT.out.mono ?_; rintro e w1 ⟨rfl, hw1⟩; rw [hw1]; clear hw1 w1)
  go_returns
  exact ⟨rfl, rfl⟩
set_option maxRecDepth 100000 in
theorem flying_any {w : World} {np : Nat} {D : Nd} {N : Nv} {S : Nat → Prop} (h : NtAt w np D N S) :
    Calls Try.prog 17 #[pp np] w fun e w' => e = .returned (.int .i64 N.L.length) ∧ w' = w := by
  have HT := hidIn (nthere_yes h.b.c0)
  have c5 := h.b.c5
  have HLn := hidIn (Ca.A.len_ok h.ca)
  clear h
  go_enter Try.func17, Try.ntmps17
  go_wp2_with (first
    | (go_at_call 32; refine HT.out.mono ?_; rintro e w1 ⟨rfl, hw1⟩; rw [hw1]; clear hw1 w1)
    | (go_at_call 34; refine HLn.out.mono ?_; rintro e w1 ⟨rfl, hw1⟩; rw [hw1]; clear hw1 w1))
  go_returns
  exact ⟨rfl, rfl⟩
/-- What comes at the next tick. -/
def comeN (N : Nv) : List Ar := (Ca.dueT N.L (N.now + 1)).map fun b => b.1.1
def tickN (N : Nv) : Nv := { N with now := N.now + 1, L := Ca.restT N.L (N.now + 1) }
theorem NtAt.reblk {w w' : World} {np : Nat} {D : Nd} {N : Nv} {S : Nat → Prop} {st : Nat → Bool} {now : Int} (h : NtAt w np D N S) (hb : NtB w' np D N.lt st now) (hF : Fr (fun j => j = np) w w') : NtAt w' np D { N with st := st, now := now } S := by
  have hs := h.s
  exact ⟨hb, row_fr h.vn hF (fun j hj => (hs.v j hj).2.1), row_fr h.ve hF (fun j hj => (hs.e j hj).2.1), h.pl.keep hF (fun e => hs.nP e.symm) (fun e => hs.nm e.symm), h.ca.keep hF (fun k hk e => hs.sn (e ▸ hk)), h.cu.keep hF (fun e => hs.nc e.symm), hs⟩
theorem NtAt.recut {w w' : World} {np q : Nat} {D : Nd} {N : Nv} {S : Nat → Prop} {C : Pr → Bool} (h : NtAt w np D N S) (hm : MpC w' D.cm q C) (hF : Fr (fun j => j = D.cm) w w') : NtAt w' np D { N with C := C, q := q } S := by
  have hs := h.s
  exact ⟨h.b.keep hF hs.nc, row_fr h.vn hF (fun j hj => (hs.v j hj).2.2.2.2), row_fr h.ve hF (fun j hj => (hs.e j hj).2.2.2.2), h.pl.keep hF hs.Pc hs.mc, h.ca.keep hF (fun k hk e => hs.sc (e ▸ hk)), hm, hs⟩
/-- What Tick finds in any world that is as this one. -/
structure TkR (np cp : Nat) (t : Int) (wq : World) : Prop where
  a : wq.cell? ⟨np, 5, none⟩ = some (pp cp)
  b : wq.cell? ⟨np, 32, none⟩ = some (.int .u64 t)
set_option maxRecDepth 100000 in
set_option maxHeartbeats 1000000 in
theorem tick_any {w : World} {np k : Nat} {D : Nd} {N : Nv} {S : Nat → Prop} (h : NtAt w np D N S) (hS : ∀ j, S j → j < w.heap.size) (hk : NvOk N k) (hk9 : k ≤ 30000) :
    Calls Try.prog 16 #[pp np] w fun e w' => (∃ v, e = .returned v ∧ w'.ownsRow w.heap.size 30 3 v (comeN N).length (fl arC (comeN N))) ∧ Res0 w w' np D (tickN N) S := by
  have HT := hidIn (nthere_yes h.b.c0)
  have c32 := h.b.c32
  have f32 := h.b.fz 32
  obtain ⟨t, ht⟩ : ∃ t, N.now + 1 = t := ⟨_, rfl⟩
  have hn := hk.now
  have e1 := wrap_u (x := N.now + 1) (by omega)
  obtain ⟨W1, hW1⟩ : ∃ W1, w.setCell ⟨np, 32, none⟩ (.int .u64 (N.now + 1)) = W1 := ⟨_, rfl⟩
  have hF1 : Fr (fun j => j = np) w W1 := by rw [← hW1]; exact (Fr.refl (fun j => j = np) w).set (p := ⟨np, 32, none⟩) rfl _
  have h1 := h.reblk (st := N.st) (now := N.now + 1) (by rw [← hW1]; exact h.b.setNow _) hF1
  have hs1 : W1.heap.size = w.heap.size := by rw [← hW1]; simp [World.setCell]
  have hl3 := hk.ll
  have hp3 := hk.p
  have hTk : TkR np D.cp (N.now + 1) W1 := ⟨h1.b.c5, h1.b.c32⟩
  have HTk := hidIn (Ca.A.take_ok (now := N.now + 1) (w := W1.drew) (h1.ca.keep (T := fun _ => False) ((Fr.refl _ W1).drew) (fun _ _ h => h)) (show N.p < 100000 by omega) (show N.L.length ≤ 100000 by omega))
  have HX := hidIn hTk
  have H1 := hidIn h1
  have HF1 := hidIn hF1
  have HS := hidIn hS
  have HW := hidIn hW1
  have Hs1 := hidIn hs1
  have HnS := hidIn h.s.sn
  have hng : ¬ (1099511627776 : Int) ≤ N.now := by omega
  have Hc : Hid (comeN N = (Ca.dueT N.L (N.now + 1)).map fun b => b.1.1) := hidIn rfl
  have HtN : Hid (tickN N = { N with now := N.now + 1, L := Ca.restT N.L (N.now + 1) }) := hidIn rfl
  clear hW1 h1 hF1 hs1 hTk h hS hk ht
  go_enter Try.func16, Try.ntmps16
  go_upto_region 4 with (go_at_call 32; refine HT.out.mono ?_; rintro e w1 ⟨rfl, hw1⟩; rw [hw1]; clear hw1 w1)
  rw [HW.out]
  clear HW c32 f32 e1
  refine wp_region_held_drew (S := fun wx => TkR np D.cp (N.now + 1) wx) (by kernel_rfl) ?_ (fun hHeld => ?_)
  · exact ⟨HX.out.a, HX.out.b⟩
  have hd0 : TkR np D.cp (N.now + 1) W1.drew := ⟨HX.out.a, HX.out.b⟩
  clear hHeld
  refine wpAnyH_take (i := 0) (v := pp np) rfl (by kernel_rfl) (by kernel_rfl) (by kernel_rfl) (fun _ _ _ h => h) (Or.inl ⟨by kernel_rfl, fun _ _ => by kernel_rfl⟩) (by assumption) ?_
  refine wpAnyH_take (i := 1) (v := pp np) rfl (by kernel_rfl) (by kernel_rfl) (by kernel_rfl) (fun _ _ _ h => h) (Or.inl ⟨by kernel_rfl, fun _ _ => by kernel_rfl⟩) (by assumption) ?_
  refine wpAnyH_take (i := 2) (v := .pointer (some ⟨np, 5, none⟩)) rfl (by kernel_rfl) (by kernel_rfl) (by kernel_rfl) (fun _ _ _ h => h) (Or.inl ⟨by kernel_rfl, fun _ _ => by kernel_rfl⟩) (by assumption) ?_
  refine wpAnyH_take (i := 3) (v := pp D.cp) rfl (by kernel_rfl) (by kernel_rfl) (by kernel_rfl) (fun _ _ _ h => h) (Or.inl ⟨by kernel_rfl, fun wq hSw => by
      obtain ⟨s0, s1⟩ := hSw
      go_simp⟩) (by assumption) ?_
  refine wpAnyH_take (i := 4) (v := pp np) rfl (by kernel_rfl) (by kernel_rfl) (by kernel_rfl) (fun _ _ _ h => h) (Or.inl ⟨by kernel_rfl, fun _ _ => by kernel_rfl⟩) (by assumption) ?_
  refine wpAnyH_take (i := 5) (v := pp np) rfl (by kernel_rfl) (by kernel_rfl) (by kernel_rfl) (fun _ _ _ h => h) (Or.inl ⟨by kernel_rfl, fun _ _ => by kernel_rfl⟩) (by assumption) ?_
  refine wpAnyH_take (i := 6) (v := .pointer (some ⟨np, 32, none⟩)) rfl (by kernel_rfl) (by kernel_rfl) (by kernel_rfl) (fun _ _ _ h => h) (Or.inl ⟨by kernel_rfl, fun _ _ => by kernel_rfl⟩) (by assumption) ?_
  refine wpAnyH_take (i := 7) (v := .int .u64 (N.now + 1)) rfl (by kernel_rfl) (by kernel_rfl) (by kernel_rfl) (fun _ _ _ h => h) (Or.inl ⟨by kernel_rfl, fun wq hSw => by
      obtain ⟨s0, s1⟩ := hSw
      go_simp⟩) (by assumption) ?_
  refine wpAnyH_ready (rs := [8]) (by kernel_rfl) (by simp) ?_
  refine AllReadyH.cons (i := 8) rfl ?_ AllReadyH.nil
  go_simp
  intro K hK
  refine HTk.out.mono ?_
  rintro e w3 ⟨⟨u, rfl, hrow⟩, hC, hF⟩
  have hd3 : TkR np D.cp (N.now + 1) w3 := ⟨(Ca.cellFr hF hd0.a HnS.out).trans hd0.a, (Ca.cellFr hF hd0.b HnS.out).trans hd0.b⟩
  refine hK.out _ _ hd3 (fun _ => ?_)
  clear hK K
  obtain ⟨ua, uc, rfl⟩ := row_shape hrow
  have HRow := hidIn hrow
  have HC := hidIn hC
  have HF := hidIn hF
  clear hrow hC hF HTk
  refine wpAnyH_ready (rs := [9]) (by kernel_rfl) (by simp) ?_
  refine AllReadyH.cons (i := 9) rfl ?_ AllReadyH.nil
  go_simp
  intro K hK
  refine hK.out _ _ hd3 (fun _ => ?_)
  clear hK K
  refine wpAnyH_done (by kernel_rfl) ?_ _
  go_wp2_with fail
  go_returns
  have hdr : Fr (fun _ => False) W1 W1.drew := (Fr.refl _ W1).drew
  have hSd : ∀ j, S j → j < W1.drew.heap.size := fun j hj => by
    show j < W1.heap.size
    rw [Hs1.out]
    exact HS.out j hj
  have hN := ((H1.out.keep hdr (fun _ _ h => h)).recal hSd HF.out HC.out (fun j hj => .inl hj))
  rw [HtN.out]
  refine ⟨⟨_, rfl, ?_⟩, hN, (HF1.out.mono (fun j _ hj => .inl hj)).trans ((hdr.mono (fun _ _ h => False.elim h)).trans (HF.out.mono (fun j _ hj => .inr (.inr (.inr (.inr (.inr (.inr hj))))))))⟩
  have h9 := HRow.out
  rw [show W1.drew.heap.size = w.heap.size from Hs1.out] at h9
  rw [show (comeN N).length = (Ca.dueT N.L (N.now + 1)).length from List.length_map _]
  exact h9
theorem noLk_two {N : Nv} {a b : Int} (h : lkQ N a b = false) : noLk N a b = 2 := by rw [noLk, h]; rfl
theorem noLk_zero {N : Nv} {a b : Int} (h : lkQ N a b = true) : noLk N a b = 0 := by rw [noLk, h]; rfl
theorem noRt_two {N : Nv} {a : Int} (h : hasN N.V a = false) : noRt N a = 2 := by rw [noRt, h]; rfl
theorem noRt_zero {N : Nv} {a : Int} (h : hasN N.V a = true) : noRt N a = 0 := by rw [noRt, h]; rfl
def cutN (N : Nv) (a b : Int) (v : Bool) : Nv := { N with C := setC N.C (nm a b) v, q := if v = true then N.q + 1 else N.q }
def stopN (N : Nv) (r : Int) (v : Bool) : Nv := { N with st := setS N.st r.toNat v }
/-- What Cut and Mend answer, and Stop and Start. -/
def cutE (N : Nv) (a b : Int) : Int := if lkQ N a b = true then (if cutQ N a b = true then 7 else 0) else 2
def mendE (N : Nv) (a b : Int) : Int := if lkQ N a b = true then (if cutQ N a b = true then 0 else 6) else 2
def stopE (N : Nv) (r : Int) : Int := if hasN N.V r = true then (if N.st r.toNat = true then 7 else 0) else 2
def startE (N : Nv) (r : Int) : Int := if hasN N.V r = true then (if N.st r.toNat = true then 0 else 6) else 2
/-- What Cut finds in any world that is as this one. -/
structure CuR (np cm : Nat) (wq : World) : Prop where
  a : wq.cell? ⟨np, 6, none⟩ = some (.map (some cm))
set_option maxRecDepth 100000 in
set_option maxHeartbeats 1000000 in
theorem cut_no {w : World} {np k : Nat} {D : Nd} {N : Nv} {S : Nat → Prop} (h : NtAt w np D N S) (hk : NvOk N k) (a b : Int) (hc : cutE N a b ≠ 0) :
    Calls Try.prog 12 #[pp np, .int .i64 a, .int .i64 b] w fun e w' => e = .returned (.tuple #[.slice none 0 0, .int .i64 (cutE N a b)]) ∧ Below w.heap.size w w' := by
  have HL := hidIn (noLk_any h (Nat.le_trans hk.el (by omega)) a b)
  cases hlk : lkQ N a b
  · rw [noLk_two hlk] at HL
    rw [show cutE N a b = 2 from by rw [cutE, hlk]; rfl]
    clear hlk h hk hc
    go_enter Try.func12, Try.ntmps12
    go_wp2_with fail
    refine HL.out.mono ?_
    rintro e w1 ⟨rfl, hb1⟩
    have HB := hidIn hb1
    clear hb1 HL
    go_wp2_with fail
    go_returns
    exact ⟨rfl, HB.out⟩
  · rw [noLk_zero hlk] at HL
    have hbd := lkQ_bd hk hlk
    have hcq : cutQ N a b = true := by
      unfold cutE at hc
      rw [hlk, if_pos rfl] at hc
      cases hq : cutQ N a b
      · rw [hq] at hc; exact absurd rfl hc
      · rfl
    rw [show cutE N a b = 7 from by rw [cutE, hlk, hcq]; rfl]
    have HC : Hid (∀ w1, Below w.heap.size w w1 → Calls Try.prog 28 #[pp np, .int .i64 a, .int .i64 b] w1 fun e w' => e = .returned (.bool true) ∧ Below w1.heap.size w1 w') := hidIn (fun w1 hb1 => by
      have := isCut_any (h.below hb1).b (h.below hb1).cu (a := a) (b := b) ⟨by omega, by omega⟩ ⟨by omega, by omega⟩
      rw [show N.C (nm a b) = true from hcq] at this
      exact this)
    clear hlk h hk hbd hc hcq
    go_enter Try.func12, Try.ntmps12
    go_wp2_with fail
    refine HL.out.mono ?_
    rintro e w1 ⟨rfl, hb1⟩
    have HB := hidIn hb1
    have HU := hidIn (HC.out w1 hb1)
    clear hb1 HL HC
    go_wp2_with fail
    refine HU.out.mono ?_
    rintro e w2 ⟨rfl, hb2⟩
    have HB2 := hidIn (HB.out.trans (hb2.mono HB.out.size))
    clear hb2 HU
    go_wp2_with fail
    go_returns
    exact ⟨rfl, HB2.out⟩
set_option maxRecDepth 100000 in
set_option maxHeartbeats 1000000 in
theorem cut_ok {w : World} {np k : Nat} {D : Nd} {N : Nv} {S : Nat → Prop} (h : NtAt w np D N S) (hS : ∀ j, S j → j < w.heap.size) (hk : NvOk N k) (hk9 : k ≤ 20000) (a b : Int) (hc : cutE N a b = 0) :
    Calls Try.prog 12 #[pp np, .int .i64 a, .int .i64 b] w fun e w' => (∃ v, e = .returned (.tuple #[v, .int .i64 0]) ∧ w'.ownsRow w.heap.size 30 3 v (goneN (cutN N a b true)).length (fl arC (goneN (cutN N a b true)))) ∧ Res0 w w' np D (leftN (cutN N a b true)) S := by
  have HL := hidIn (noLk_any h (Nat.le_trans hk.el (by omega)) a b)
  have hlk : lkQ N a b = true := by
    cases hq : lkQ N a b
    · rw [cutE, hq] at hc; simp at hc
    · rfl
  have hcq : cutQ N a b = false := by
    rw [cutE, hlk, if_pos rfl] at hc
    cases hq : cutQ N a b
    · rfl
    · rw [hq] at hc; simp at hc
  rw [noLk_zero hlk] at HL
  have hbd := lkQ_bd hk hlk
  have HC : Hid (∀ w1, Below w.heap.size w w1 → Calls Try.prog 28 #[pp np, .int .i64 a, .int .i64 b] w1 fun e w' => e = .returned (.bool false) ∧ Below w1.heap.size w1 w') := hidIn (fun w1 hb1 => by
    have := isCut_any (h.below hb1).b (h.below hb1).cu (a := a) (b := b) ⟨by omega, by omega⟩ ⟨by omega, by omega⟩
    rw [show N.C (nm a b) = false from hcq] at this
    exact this)
  have hwf := wf_nm (a := a) (b := b) ⟨by omega, by omega⟩ ⟨by omega, by omega⟩
  have hq3 := hk.q
  have HPut : Hid (∀ w1, Below w.heap.size w w1 → ∃ w', (Instr.mapUpdate 73 (.map (some D.cm)) (prV (nm a b)) unV).run Try.prog w1 = .ok () w' ∧ NtAt w' np D (cutN N a b true) S ∧ Fr (fun j => j = D.cm) w1 w') := hidIn (fun w1 hb1 => by
    obtain ⟨w', h1, h2, h3⟩ := (h.below hb1).cu.put (by omega) hwf
    exact ⟨w', h1, (h.below hb1).recut h2 h3, h3⟩)
  have HCu : Hid (∀ wq, Below w.heap.size w wq → CuR np D.cm wq) := hidIn (fun wq hq => ⟨(h.below hq).b.c6⟩)
  have HCk : Hid (NvOk (cutN N a b true) (k + 1)) := hidIn (by
    have h' := hk.mono (Nat.le_succ k)
    exact ⟨h'.v, h'.vl, h'.e, h'.el, h'.lt, h'.p, by show N.q + 1 ≤ _; omega, h'.a, h'.now, h'.l, h'.ll, h'.r⟩)
  have HNm := fun w => hidIn (named_any a b w)
  have HS := hidIn hS
  have Hnc := hidIn h.s.nc
  have HO := hidIn (fun j (hj : Own np D S j) => h.own_lt hS hj)
  obtain ⟨pr, hpr⟩ : ∃ k, nm a b = k := ⟨_, rfl⟩
  rw [hpr] at HPut HNm
  obtain ⟨k0, k1⟩ := pr
  clear hlk h hk hbd hc hcq hS hwf hq3 hpr
  go_enter Try.func12, Try.ntmps12
  go_wp2_with fail
  refine HL.out.mono ?_
  rintro e w1 ⟨rfl, hb1⟩
  have HB := hidIn hb1
  have HU := hidIn (HC.out w1 hb1)
  clear hb1 HL HC
  go_wp2_with fail
  refine HU.out.mono ?_
  rintro e w2 ⟨rfl, hb2⟩
  have HB2 := hidIn (HB.out.trans (hb2.mono HB.out.size))
  clear hb2 HU
  go_upto_region 6 with fail
  refine wp_region_held_drew (S := fun wx => CuR np D.cm wx) (by kernel_rfl) ?_ (fun hHeld => ?_)
  · exact HCu.out _ (HB2.out.drew)
  have hd0 : CuR np D.cm w2.drew := HCu.out _ (HB2.out.drew)
  have hbd2 : Below w.heap.size w w2.drew := HB2.out.drew
  clear hHeld
  refine wpAnyH_take (i := 0) (v := pp np) rfl (by kernel_rfl) (by kernel_rfl) (by kernel_rfl) (fun _ _ _ h => h) (Or.inl ⟨by kernel_rfl, fun _ _ => by kernel_rfl⟩) (by assumption) ?_
  refine wpAnyH_take (i := 1) (v := pp np) rfl (by kernel_rfl) (by kernel_rfl) (by kernel_rfl) (fun _ _ _ h => h) (Or.inl ⟨by kernel_rfl, fun _ _ => by kernel_rfl⟩) (by assumption) ?_
  refine wpAnyH_take (i := 2) (v := .pointer (some ⟨np, 6, none⟩)) rfl (by kernel_rfl) (by kernel_rfl) (by kernel_rfl) (fun _ _ _ h => h) (Or.inl ⟨by kernel_rfl, fun _ _ => by kernel_rfl⟩) (by assumption) ?_
  refine wpAnyH_take (i := 3) (v := .map (some D.cm)) rfl (by kernel_rfl) (by kernel_rfl) (by kernel_rfl) (fun _ _ _ h => h) (Or.inl ⟨by kernel_rfl, fun wq hSw => by
      obtain ⟨s0⟩ := hSw
      go_simp⟩) (by assumption) ?_
  refine wpAnyH_take (i := 4) (v := .int .i64 a) rfl (by kernel_rfl) (by kernel_rfl) (by kernel_rfl) (fun _ _ _ h => h) (Or.inl ⟨by kernel_rfl, fun _ _ => by kernel_rfl⟩) (by assumption) ?_
  refine wpAnyH_take (i := 5) (v := .int .i64 b) rfl (by kernel_rfl) (by kernel_rfl) (by kernel_rfl) (fun _ _ _ h => h) (Or.inl ⟨by kernel_rfl, fun _ _ => by kernel_rfl⟩) (by assumption) ?_
  refine wpAnyH_take (i := 7) (v := unV) rfl (by kernel_rfl) (by kernel_rfl) (by kernel_rfl) (fun _ _ _ h => h) (Or.inl ⟨by kernel_rfl, fun _ _ => by kernel_rfl⟩) (by assumption) ?_
  refine wpAnyH_ready (rs := [6]) (by kernel_rfl) (by simp) ?_
  refine AllReadyH.cons (i := 6) rfl ?_ AllReadyH.nil
  go_simp
  intro K hK
  refine (HNm _).out.mono ?_
  rintro e w3 ⟨rfl, hb3⟩
  have hb3' := hbd2.trans (hb3.mono hbd2.size)
  refine hK.out _ _ (HCu.out _ hb3') (fun _ => ?_)
  clear hK K
  obtain ⟨w4, hrun, hN4, hF4⟩ := HPut.out w3 hb3'
  have hd3 := HCu.out w3 hb3'
  have hd4 : CuR np D.cm w4 := ⟨(Ca.cellFr hF4 hd3.a Hnc.out).trans hd3.a⟩
  have HRun := hidIn hrun
  have HN4 := hidIn hN4
  have HF4 : Hid (Fr (Own np D S) w w4) := hidIn ((Fr.of_below hb3').trans (hF4.mono (fun j _ hj => .inr (.inr (.inr (.inl hj))))))
  have HS4 : Hid (∀ j, S j → j < w4.heap.size) := hidIn (fun j hj => Nat.lt_of_lt_of_le (HS.out j hj) HF4.out.size)
  clear hrun hN4 hF4 hb3 hb3' hbd2
  have hr8 := HRun.out
  refine wpAnyH_ready (rs := [8]) (by kernel_rfl) (by simp) ?_
  refine AllReadyH.cons (i := 8) rfl ?_ AllReadyH.nil
  go_simp
  intro K hK
  clear hr8
  refine hK.out _ _ hd4 (fun _ => ?_)
  clear hK K
  refine wpAnyH_done (by kernel_rfl) ?_ _
  have HLo := hidIn (lost_any HN4.out HS4.out HCk.out (by omega))
  go_wp2_with fail
  refine HLo.out.mono ?_
  rintro e w5 ⟨⟨v, rfl, hrow⟩, hres⟩
  have HRow := hidIn (row_low hrow HF4.out.size)
  have HRes := hidIn (show Res0 _ _ _ _ _ _ from ⟨hres.1, HF4.out.trans hres.2⟩)
  obtain ⟨va, vc, rfl⟩ := row_shape hrow
  clear hrow hres HLo
  go_wp2_with fail
  go_returns
  exact ⟨⟨_, rfl, HRow.out⟩, HRes.out⟩
set_option maxRecDepth 100000 in
set_option maxHeartbeats 1000000 in
theorem mend_no {w : World} {np k : Nat} {D : Nd} {N : Nv} {S : Nat → Prop} (h : NtAt w np D N S) (hk : NvOk N k) (a b : Int) (hc : mendE N a b ≠ 0) :
    Calls Try.prog 13 #[pp np, .int .i64 a, .int .i64 b] w fun e w' => e = .returned (.int .i64 (mendE N a b)) ∧ Below w.heap.size w w' := by
  have HL := hidIn (noLk_any h (Nat.le_trans hk.el (by omega)) a b)
  cases hlk : lkQ N a b
  · rw [noLk_two hlk] at HL
    rw [show mendE N a b = 2 from by rw [mendE, hlk]; rfl]
    clear hlk h hk hc
    go_enter Try.func13, Try.ntmps13
    go_wp2_with fail
    refine HL.out.mono ?_
    rintro e w1 ⟨rfl, hb1⟩
    have HB := hidIn hb1
    clear hb1 HL
    go_wp2_with fail
    go_returns
    exact ⟨rfl, HB.out⟩
  · rw [noLk_zero hlk] at HL
    have hbd := lkQ_bd hk hlk
    have hcq : cutQ N a b = false := by
      unfold mendE at hc
      rw [hlk, if_pos rfl] at hc
      cases hq : cutQ N a b
      · rfl
      · rw [hq] at hc; exact absurd rfl hc
    rw [show mendE N a b = 6 from by rw [mendE, hlk, hcq]; rfl]
    have HC : Hid (∀ w1, Below w.heap.size w w1 → Calls Try.prog 28 #[pp np, .int .i64 a, .int .i64 b] w1 fun e w' => e = .returned (.bool false) ∧ Below w1.heap.size w1 w') := hidIn (fun w1 hb1 => by
      have := isCut_any (h.below hb1).b (h.below hb1).cu (a := a) (b := b) ⟨by omega, by omega⟩ ⟨by omega, by omega⟩
      rw [show N.C (nm a b) = false from hcq] at this
      exact this)
    clear hlk h hk hbd hc hcq
    go_enter Try.func13, Try.ntmps13
    go_wp2_with fail
    refine HL.out.mono ?_
    rintro e w1 ⟨rfl, hb1⟩
    have HB := hidIn hb1
    have HU := hidIn (HC.out w1 hb1)
    clear hb1 HL HC
    go_wp2_with fail
    refine HU.out.mono ?_
    rintro e w2 ⟨rfl, hb2⟩
    have HB2 := hidIn (HB.out.trans (hb2.mono HB.out.size))
    clear hb2 HU
    go_wp2_with fail
    go_returns
    exact ⟨rfl, HB2.out⟩
set_option maxRecDepth 100000 in
set_option maxHeartbeats 1000000 in
theorem mend_ok {w : World} {np k : Nat} {D : Nd} {N : Nv} {S : Nat → Prop} (h : NtAt w np D N S) (hS : ∀ j, S j → j < w.heap.size) (hk : NvOk N k) (a b : Int) (hc : mendE N a b = 0) :
    Calls Try.prog 13 #[pp np, .int .i64 a, .int .i64 b] w fun e w' => e = .returned (.int .i64 0) ∧ Res w w' np D (cutN N a b false) S := by
  have HL := hidIn (noLk_any h (Nat.le_trans hk.el (by omega)) a b)
  have hlk : lkQ N a b = true := by
    cases hq : lkQ N a b
    · rw [mendE, hq] at hc; simp at hc
    · rfl
  have hcq : cutQ N a b = true := by
    rw [mendE, hlk, if_pos rfl] at hc
    cases hq : cutQ N a b
    · rw [hq] at hc; simp at hc
    · rfl
  rw [noLk_zero hlk] at HL
  have hbd := lkQ_bd hk hlk
  have HC : Hid (∀ w1, Below w.heap.size w w1 → Calls Try.prog 28 #[pp np, .int .i64 a, .int .i64 b] w1 fun e w' => e = .returned (.bool true) ∧ Below w1.heap.size w1 w') := hidIn (fun w1 hb1 => by
    have := isCut_any (h.below hb1).b (h.below hb1).cu (a := a) (b := b) ⟨by omega, by omega⟩ ⟨by omega, by omega⟩
    rw [show N.C (nm a b) = true from hcq] at this
    exact this)
  have hwf := wf_nm (a := a) (b := b) ⟨by omega, by omega⟩ ⟨by omega, by omega⟩
  have HPut : Hid (∀ w1 (ty : TypeId), Below w.heap.size w w1 → ∃ w', (Builtin.delete_ #[73, 82] ty #[.map (some D.cm), prV (nm a b)]).run Try.prog w1 = .ok (.tuple #[]) w' ∧ NtAt w' np D (cutN N a b false) S ∧ Fr (fun j => j = D.cm) w1 w') := hidIn (fun w1 ty hb1 => by
    obtain ⟨w', h1, h2, h3⟩ := (h.below hb1).cu.drop hwf ty
    exact ⟨w', h1, (h.below hb1).recut h2 h3, h3⟩)
  have HCu : Hid (∀ wq, Below w.heap.size w wq → CuR np D.cm wq) := hidIn (fun wq hq => ⟨(h.below hq).b.c6⟩)
  have HNm := fun w => hidIn (named_any a b w)
  have HS := hidIn hS
  have Hnc := hidIn h.s.nc
  obtain ⟨pr, hpr⟩ : ∃ k, nm a b = k := ⟨_, rfl⟩
  rw [hpr] at HPut HNm
  obtain ⟨k0, k1⟩ := pr
  clear hlk h hk hbd hc hcq hS hwf hpr
  go_enter Try.func13, Try.ntmps13
  go_wp2_with fail
  refine HL.out.mono ?_
  rintro e w1 ⟨rfl, hb1⟩
  have HB := hidIn hb1
  have HU := hidIn (HC.out w1 hb1)
  clear hb1 HL HC
  go_wp2_with fail
  refine HU.out.mono ?_
  rintro e w2 ⟨rfl, hb2⟩
  have HB2 := hidIn (HB.out.trans (hb2.mono HB.out.size))
  clear hb2 HU
  go_upto_region 6 with fail
  refine wp_region_held_drew (S := fun wx => CuR np D.cm wx) (by kernel_rfl) ?_ (fun hHeld => ?_)
  · exact HCu.out _ (HB2.out.drew)
  have hd0 : CuR np D.cm w2.drew := HCu.out _ (HB2.out.drew)
  have hbd2 : Below w.heap.size w w2.drew := HB2.out.drew
  clear hHeld
  refine wpAnyH_take (i := 0) (v := pp np) rfl (by kernel_rfl) (by kernel_rfl) (by kernel_rfl) (fun _ _ _ h => h) (Or.inl ⟨by kernel_rfl, fun _ _ => by kernel_rfl⟩) (by assumption) ?_
  refine wpAnyH_take (i := 1) (v := pp np) rfl (by kernel_rfl) (by kernel_rfl) (by kernel_rfl) (fun _ _ _ h => h) (Or.inl ⟨by kernel_rfl, fun _ _ => by kernel_rfl⟩) (by assumption) ?_
  refine wpAnyH_take (i := 2) (v := .pointer (some ⟨np, 6, none⟩)) rfl (by kernel_rfl) (by kernel_rfl) (by kernel_rfl) (fun _ _ _ h => h) (Or.inl ⟨by kernel_rfl, fun _ _ => by kernel_rfl⟩) (by assumption) ?_
  refine wpAnyH_take (i := 3) (v := .map (some D.cm)) rfl (by kernel_rfl) (by kernel_rfl) (by kernel_rfl) (fun _ _ _ h => h) (Or.inl ⟨by kernel_rfl, fun wq hSw => by
      obtain ⟨s0⟩ := hSw
      go_simp⟩) (by assumption) ?_
  refine wpAnyH_take (i := 4) (v := .int .i64 a) rfl (by kernel_rfl) (by kernel_rfl) (by kernel_rfl) (fun _ _ _ h => h) (Or.inl ⟨by kernel_rfl, fun _ _ => by kernel_rfl⟩) (by assumption) ?_
  refine wpAnyH_take (i := 5) (v := .int .i64 b) rfl (by kernel_rfl) (by kernel_rfl) (by kernel_rfl) (fun _ _ _ h => h) (Or.inl ⟨by kernel_rfl, fun _ _ => by kernel_rfl⟩) (by assumption) ?_
  refine wpAnyH_ready (rs := [6]) (by kernel_rfl) (by simp) ?_
  refine AllReadyH.cons (i := 6) rfl ?_ AllReadyH.nil
  go_simp
  intro K hK
  refine (HNm _).out.mono ?_
  rintro e w3 ⟨rfl, hb3⟩
  have hb3' := hbd2.trans (hb3.mono hbd2.size)
  refine hK.out _ _ (HCu.out _ hb3') (fun _ => ?_)
  clear hK K
  obtain ⟨w4, hrun, hN4, hF4⟩ := HPut.out w3 0 hb3'
  have hd3 := HCu.out w3 hb3'
  have hd4 : CuR np D.cm w4 := ⟨(Ca.cellFr hF4 hd3.a Hnc.out).trans hd3.a⟩
  have HRun := hidIn hrun
  have HN4 := hidIn hN4
  have HF4 : Hid (Fr (Own np D S) w w4) := hidIn ((Fr.of_below hb3').trans (hF4.mono (fun j _ hj => .inr (.inr (.inr (.inl hj))))))
  have HS4 : Hid (∀ j, S j → j < w4.heap.size) := hidIn (fun j hj => Nat.lt_of_lt_of_le (HS.out j hj) HF4.out.size)
  clear hrun hN4 hF4 hb3 hb3' hbd2
  have hr8 := HRun.out
  refine wpAnyH_ready (rs := [7]) (by kernel_rfl) (by simp) ?_
  refine AllReadyH.cons (i := 7) rfl ?_ AllReadyH.nil
  intro K hK
  refine Fa.step_del9 rfl (.tmp 23) (.tmp 26) 73 82 rfl (by kernel_rfl) (by kernel_rfl) HRun.out ?_
  clear hr8
  refine hK.out _ _ hd4 (fun _ => ?_)
  clear hK K
  refine wpAnyH_done (by kernel_rfl) ?_ _
  go_wp2_with fail
  go_returns
  exact ⟨rfl, S, HN4.out, fun j hj => ⟨.inl hj, HS4.out j hj⟩, HF4.out⟩
set_option maxRecDepth 100000 in
set_option maxHeartbeats 1000000 in
theorem stop_no {w : World} {np k : Nat} {D : Nd} {N : Nv} {S : Nat → Prop} (h : NtAt w np D N S) (hk : NvOk N k) (r : Int) (hc : stopE N r ≠ 0) :
    Calls Try.prog 14 #[pp np, .int .i64 r] w fun e w' => e = .returned (.tuple #[.slice none 0 0, .int .i64 (stopE N r)]) ∧ w' = w := by
  have HL := hidIn (noRt_any h r)
  cases hlk : hasN N.V r
  · rw [noRt_two hlk] at HL
    rw [show stopE N r = 2 from by rw [stopE, hlk]; rfl]
    clear hlk h hk hc
    go_enter Try.func14, Try.ntmps14
    go_wp2_with (go_at_call 31; refine HL.out.mono ?_; rintro e w1 ⟨rfl, hw1⟩; rw [hw1]; clear hw1 w1)
    go_returns
    exact ⟨rfl, rfl⟩
  · rw [noRt_zero hlk] at HL
    have hb := hk.v r (hasN_iff.1 hlk)
    obtain ⟨x, rfl⟩ : ∃ x : Nat, r = x := ⟨r.toNat, by omega⟩
    have hcq : N.st x = true := by
      rw [stopE, hlk, if_pos rfl] at hc
      cases hq : N.st x
      · rw [show ((x : Int)).toNat = x from rfl, hq] at hc; exact absurd rfl hc
      · rfl
    rw [show stopE N x = 7 from by rw [stopE, hlk, if_pos rfl, show ((x : Int)).toNat = x from rfl, hcq]; rfl]
    have c7 := h.b.c7 (k := x) (by omega)
    rw [hcq] at c7
    have hx : (x : Int) < 25 := by omega
    clear hlk h hk hc hcq hb
    go_enter Try.func14, Try.ntmps14
    go_wp2_with (go_at_call 31; refine HL.out.mono ?_; rintro e w1 ⟨rfl, hw1⟩; rw [hw1]; clear hw1 w1)
    go_returns
    exact ⟨rfl, rfl⟩
theorem NvOk.stop {N : Nv} {k : Nat} (h : NvOk N k) (r : Int) (v : Bool) : NvOk (stopN N r v) k := ⟨h.v, h.vl, h.e, h.el, h.lt, h.p, h.q, h.a, h.now, h.l, h.ll, h.r⟩
set_option maxRecDepth 100000 in
set_option maxHeartbeats 1000000 in
theorem stop_ok {w : World} {np k : Nat} {D : Nd} {N : Nv} {S : Nat → Prop} (h : NtAt w np D N S) (hS : ∀ j, S j → j < w.heap.size) (hk : NvOk N k) (hk9 : k ≤ 20000) (r : Int) (hc : stopE N r = 0) :
    Calls Try.prog 14 #[pp np, .int .i64 r] w fun e w' => (∃ v, e = .returned (.tuple #[v, .int .i64 0]) ∧ w'.ownsRow w.heap.size 30 3 v (goneN (stopN N r true)).length (fl arC (goneN (stopN N r true)))) ∧ Res0 w w' np D (leftN (stopN N r true)) S := by
  have HL := hidIn (noRt_any h r)
  have hlk : hasN N.V r = true := by
    cases hq : hasN N.V r
    · rw [stopE, hq] at hc; simp at hc
    · rfl
  rw [noRt_zero hlk] at HL
  have hb := hk.v r (hasN_iff.1 hlk)
  obtain ⟨x, rfl⟩ : ∃ x : Nat, r = x := ⟨r.toNat, by omega⟩
  have hcq : N.st x = false := by
    rw [stopE, hlk, if_pos rfl] at hc
    cases hq : N.st x
    · rfl
    · rw [show ((x : Int)).toNat = x from rfl, hq] at hc; simp at hc
  have c7 := h.b.c7 (k := x) (by omega)
  have f7 := h.b.fz (7 + x)
  rw [hcq] at c7
  have hx : (x : Int) < 25 := by omega
  obtain ⟨W1, hW1⟩ : ∃ W1, w.setCell ⟨np, 7 + x, none⟩ (.bool true) = W1 := ⟨_, rfl⟩
  have hF1 : Fr (fun j => j = np) w W1 := by rw [← hW1]; exact (Fr.refl (fun j => j = np) w).set (p := ⟨np, 7 + x, none⟩) rfl _
  have h1 : NtAt W1 np D (stopN N x true) S := h.reblk (by rw [← hW1]; exact h.b.setS (by omega) true) hF1
  have hs1 : W1.heap.size = w.heap.size := by rw [← hW1]; simp [World.setCell]
  have HF1 : Hid (Fr (Own np D S) w W1) := hidIn (hF1.mono (fun j _ hj => .inl hj))
  have HLo := hidIn (lost_any h1 (fun j hj => by rw [hs1]; exact hS j hj) (hk.stop x true) (by omega))
  rw [hs1] at HLo
  have HW := hidIn hW1
  clear hlk h hk hc hcq hb hW1 hF1 h1 hs1 hS
  go_enter Try.func14, Try.ntmps14
  go_upto_region 7 with (go_at_call 31; refine HL.out.mono ?_; rintro e w1 ⟨rfl, hw1⟩; rw [hw1]; clear hw1 w1)
  rw [HW.out]
  clear HW c7 f7
  go_wp2_with fail
  refine HLo.out.mono ?_
  rintro e w5 ⟨⟨v, rfl, hrow⟩, hres⟩
  have HRow := hidIn hrow
  have HRes := hidIn (show Res0 _ _ _ _ _ _ from ⟨hres.1, HF1.out.trans hres.2⟩)
  obtain ⟨va, vc, rfl⟩ := row_shape hrow
  clear hrow hres HLo
  go_wp2_with fail
  go_returns
  exact ⟨⟨_, rfl, HRow.out⟩, HRes.out⟩
set_option maxRecDepth 100000 in
set_option maxHeartbeats 1000000 in
theorem start_no {w : World} {np k : Nat} {D : Nd} {N : Nv} {S : Nat → Prop} (h : NtAt w np D N S) (hk : NvOk N k) (r : Int) (hc : startE N r ≠ 0) :
    Calls Try.prog 15 #[pp np, .int .i64 r] w fun e w' => e = .returned (.int .i64 (startE N r)) ∧ w' = w := by
  have HL := hidIn (noRt_any h r)
  cases hlk : hasN N.V r
  · rw [noRt_two hlk] at HL
    rw [show startE N r = 2 from by rw [startE, hlk]; rfl]
    clear hlk h hk hc
    go_enter Try.func15, Try.ntmps15
    go_wp2_with (go_at_call 31; refine HL.out.mono ?_; rintro e w1 ⟨rfl, hw1⟩; rw [hw1]; clear hw1 w1)
    go_returns
    exact ⟨rfl, rfl⟩
  · rw [noRt_zero hlk] at HL
    have hb := hk.v r (hasN_iff.1 hlk)
    obtain ⟨x, rfl⟩ : ∃ x : Nat, r = x := ⟨r.toNat, by omega⟩
    have hcq : N.st x = false := by
      rw [startE, hlk, if_pos rfl] at hc
      cases hq : N.st x
      · rfl
      · rw [show ((x : Int)).toNat = x from rfl, hq] at hc; exact absurd rfl hc
    rw [show startE N x = 6 from by rw [startE, hlk, if_pos rfl, show ((x : Int)).toNat = x from rfl, hcq]; rfl]
    have c7 := h.b.c7 (k := x) (by omega)
    rw [hcq] at c7
    have hx : (x : Int) < 25 := by omega
    clear hlk h hk hc hcq hb
    go_enter Try.func15, Try.ntmps15
    go_wp2_with (go_at_call 31; refine HL.out.mono ?_; rintro e w1 ⟨rfl, hw1⟩; rw [hw1]; clear hw1 w1)
    go_returns
    exact ⟨rfl, rfl⟩
set_option maxRecDepth 100000 in
set_option maxHeartbeats 1000000 in
theorem start_ok {w : World} {np k : Nat} {D : Nd} {N : Nv} {S : Nat → Prop} (h : NtAt w np D N S) (hS : ∀ j, S j → j < w.heap.size) (hk : NvOk N k) (r : Int) (hc : startE N r = 0) :
    Calls Try.prog 15 #[pp np, .int .i64 r] w fun e w' => e = .returned (.int .i64 0) ∧ Res w w' np D (stopN N r false) S := by
  have HL := hidIn (noRt_any h r)
  have hlk : hasN N.V r = true := by
    cases hq : hasN N.V r
    · rw [startE, hq] at hc; simp at hc
    · rfl
  rw [noRt_zero hlk] at HL
  have hb := hk.v r (hasN_iff.1 hlk)
  obtain ⟨x, rfl⟩ : ∃ x : Nat, r = x := ⟨r.toNat, by omega⟩
  have hcq : N.st x = true := by
    rw [startE, hlk, if_pos rfl] at hc
    cases hq : N.st x
    · rw [show ((x : Int)).toNat = x from rfl, hq] at hc; simp at hc
    · rfl
  have c7 := h.b.c7 (k := x) (by omega)
  have f7 := h.b.fz (7 + x)
  rw [hcq] at c7
  have hx : (x : Int) < 25 := by omega
  obtain ⟨W1, hW1⟩ : ∃ W1, w.setCell ⟨np, 7 + x, none⟩ (.bool false) = W1 := ⟨_, rfl⟩
  have hF1 : Fr (fun j => j = np) w W1 := by rw [← hW1]; exact (Fr.refl (fun j => j = np) w).set (p := ⟨np, 7 + x, none⟩) rfl _
  have h1 : NtAt W1 np D (stopN N x false) S := h.reblk (by rw [← hW1]; exact h.b.setS (by omega) false) hF1
  have hs1 : W1.heap.size = w.heap.size := by rw [← hW1]; simp [World.setCell]
  have HRes : Hid (Res w W1 np D (stopN N x false) S) := hidIn ⟨S, h1, fun j hj => ⟨.inl hj, by rw [hs1]; exact hS j hj⟩, hF1.mono (fun j _ hj => .inl hj)⟩
  have HW := hidIn hW1
  clear hlk h hk hc hcq hb hW1 hF1 h1 hs1 hS
  go_enter Try.func15, Try.ntmps15
  go_upto_region 7 with (go_at_call 31; refine HL.out.mono ?_; rintro e w1 ⟨rfl, hw1⟩; rw [hw1]; clear hw1 w1)
  rw [HW.out]
  clear HW c7 f7
  go_wp2_with fail
  go_returns
  exact ⟨rfl, HRes.out⟩
end Go.Proofs.Ytkhfpcnmnnboeaa.Nt
