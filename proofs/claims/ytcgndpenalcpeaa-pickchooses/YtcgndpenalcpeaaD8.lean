/- slices.Clone; slices.SortFunc by ranks; Rank. -/
import Derived.Test.YtcgndpenalcpeaaD4
import Derived.Test.YtcgndpenalcpeaaShelf
import Derived.Sort.OwnSortedInts
import Derived.Shelf.SlSortCmp.NoneTotal
namespace Go.Proofs.Ytcgndpenalcpeaa
open Go.RowKit Go.Sort Go.Shelf

/-- A copy. -/
theorem cclone_any {w : World} {v : Value} {l : List Int} (h : SlAt ic 1 w v l) (hn : NilOk v) (hl : l.length * 8 ≤ 140737488355328) :
    Calls Try.prog 25 #[v] w fun e w' => (∃ v', e = .returned v' ∧ w'.ownsRow w.heap.size 3 1 v' l.length (fl ic l)) ∧ Below w.heap.size w w' := by
  obtain ⟨a, cap, rfl, _, _, hc⟩ := h.ints
  rcases hn with ⟨p, n, c, he⟩ | he
  · simp only [Value.slice.injEq] at he
    obtain ⟨rfl, rfl, rfl⟩ := he
    by_cases h0 : 0 < l.length
    · obtain ⟨bk, o, hp, hb, hc2⟩ := hc h0
      simp only [Option.some.injEq] at hp
      subst hp
      refine (Try.slices_Clone_int bk o l.length cap l w (Nat.le_refl _) hl (fun j hj => ?_)).mono ?_
      · rw [hc2 j l[j] (List.getElem?_eq_getElem hj)]
        simp [List.getD_eq_getElem?_getD, List.getElem?_eq_getElem hj]
      · rintro e w' ⟨v', rfl, hr, _, hb'⟩
        rw [List.take_length, ← cints_map] at hr
        exact ⟨⟨v', rfl, hr⟩, hb'⟩
    · have hl0 : l = [] := List.length_eq_zero_iff.1 (by omega)
      subst hl0
      refine (Try.slices_Clone_int_zero p cap w).mono ?_
      rintro e w' ⟨v', rfl, hr, _, hb'⟩
      exact ⟨⟨v', rfl, hr⟩, hb'⟩
  · simp only [Value.slice.injEq] at he
    obtain ⟨rfl, h0, rfl⟩ := he
    have hl0 : l = [] := List.length_eq_zero_iff.1 h0
    subst hl0
    refine (Try.slices_Clone_int_nil 0 0 w).mono ?_
    rintro e w' ⟨rfl, rfl⟩
    exact ⟨⟨_, rfl, World.ownsRow_nil _ _ _ _⟩, Below.refl _ _⟩
/-- Who comes first of two. -/
def cfR (r : Int → Nat) (x y : Int) : Int := cmpN (r y) (r x)
theorem ltR (r : Int → Nat) (x y : Int) : ltOf (cfR r) x y = decide (r y < r x) := by
  unfold ltOf cfR cmpN
  by_cases h : r y < r x
  · simp [h]
  · by_cases h2 : r x < r y <;> simp [h, h2]
theorem swoR (r : Int → Nat) : SWO (ltOf (cfR r)) where
  irrefl x := by rw [ltR]; simp
  trans x y z h1 h2 := by rw [ltR] at *; simp at *; omega
  ntrans x y z h1 h2 := by rw [ltR] at *; simp at *; omega
theorem sorted_is {r : Int → Nat} {l : List Int} {d' : Array Int} (hp : PermIn 0 l.toArray.size l.toArray d') (hs : SortedIn (ltOf (cfR r)) 0 l.toArray.size d') (hn : l.Nodup) (hu : UnlR r l) : d' = (rankL r l).toArray := by
  obtain ⟨hsz, _, hperm⟩ := hp
  have e1 : d'.extract 0 l.toArray.size = d' := by rw [← hsz]; exact Array.extract_size
  rw [e1, Array.extract_size] at hperm
  have h : d'.toList = rankL r l := by
    refine rank_of hperm ?_ hn hu
    rw [List.pairwise_iff_getElem]
    intro i j hi hj hij
    have hi' : i < d'.size := by simpa using hi
    have hj' : j < d'.size := by simpa using hj
    have := hs i j (Nat.zero_le _) hij (by omega)
    rw [ltR, getElem!_pos d' j hj', getElem!_pos d' i hi'] at this
    simpa using this
  rw [← h]
theorem sorts_any {e : Nat} (he : e < 4294967296) {l : List Int} {w : World} {B g cap : Nat} (hH : Holds (Value.int .i64) w g 0 l.toArray) (hg : g < w.heap.size) (hB : B < w.heap.size) (hne : B ≠ g) (hc : w.cell? ⟨B, 0, none⟩ = some (rkF e)) (hl : l.length ≤ 24) (hn : l.Nodup) (hu : UnlR (mix e) l) :
    Calls Try.prog 26 #[.slice (some ⟨g, 0, none⟩) l.length cap, gfF B] w fun r w' => r = .returned (.tuple #[]) ∧ ∃ n os, w' = grow (putRow (Value.int .i64) (Sort.ahead w n) g 0 (rankL (mix e) l).toArray) os := by
  have hcmp : CmpLays1 Try.prog 32 #[.pointer (some ⟨B, 0, none⟩)] (Value.int .i64) (cfR (mix e)) g 0 l.toArray.size w := fun m os dk _ x y => by
    have hc' : (sortWorld (Value.int .i64) w g 0 m dk os).cell? ⟨B, 0, none⟩ = some (rkF e) := by
      unfold sortWorld
      rw [cell?_grow _ _ _ (by simpa using hB), cell?_putRow_other _ _ _ _ _ _ (.inl hne), cell?_ahead, hc]
    exact (less_any he hc' x y).mono fun _ _ ⟨h1, q, h2⟩ => ⟨h1, q, #[], by rw [h2, grow_empty]⟩
  have eg : ∀ args w, (callFunc 32 args).run Try.prog w = .ok (.enter 32 args) w := enters_of Try.func32 (by kernel_rfl) rfl
  have h := Any.slices_SortFunc Try.sortF (Value.int .i64) (fun _ => rfl) (cfR (mix e)) (swoR _) 32 #[.pointer (some ⟨B, 0, none⟩)] g 0 cap l.toArray w eg hcmp hH hg (by simp; omega)
  have h' : Calls Try.prog 26 #[.slice (some ⟨g, 0, none⟩) l.length cap, gfF B] w _ := h
  refine h'.mono ?_
  rintro x w' ⟨rfl, d', n, os, hp, hs, rfl⟩
  rw [sorted_is hp hs hn hu]
  exact ⟨rfl, n, os, rfl⟩
theorem sortsN_any (B : Nat) (p : Option Addr) (cap : Nat) (w : World) : Calls Try.prog 26 #[.slice p 0 cap, gfF B] w fun r w' => r = .returned (.tuple #[]) ∧ w' = w := by
  have L := Try.sortF
  exact AnyF.slices_SortFunc_none { L with } p cap (gfF B) w
/-- What Rank answers. -/
def rkL (e : Nat) (l : List Int) : List Int := if nbOk l = true then rankL (mix e) l else []
def rkE (l : List Int) : Int := if nbOk l = true then 0 else 2
theorem rk_no {l : List Int} (e : Nat) (h : nbOk l = false) : rkL e l = [] ∧ rkE l = 2 := by simp [rkL, rkE, h]
theorem rk_yes {l : List Int} (e : Nat) (h : nbOk l = true) : rkL e l = rankL (mix e) l ∧ rkE l = 0 := by simp [rkL, rkE, h]
theorem rk_len (e : Nat) (l : List Int) : (rkL e l).length ≤ l.length := by
  unfold rkL
  split
  · rw [rank_len]; exact Nat.le_refl _
  · simp
/-- Numbers in new memory beside an error. -/
def RkAns (w w' : World) (L : List Int) (n : Int) (r : Ending) : Prop := (∃ a cap, r = .returned (.tuple #[.slice a L.length cap, .int .i64 n]) ∧ w'.ownsRow w.heap.size 3 1 (.slice a L.length cap) L.length (fl ic L)) ∧ Below w.heap.size w w'
set_option maxRecDepth 100000 in
set_option maxHeartbeats 1000000 in
theorem rank2_any {e : Nat} (he : e < 4294967296) {l : List Int} {v : Value} {w : World} (h : SlAt ic 1 w v l) (hn : NilOk v) :
    Calls Try.prog 11 #[.int .u32 e, v] w fun r w' => RkAns w w' (rkL e l) (rkE l) r := by
  have HN := hidIn (areNb_any h)
  have HCl := hidIn (fun h0 => cclone_any h hn h0)
  obtain ⟨a, cap, rfl, _⟩ := h
  obtain ⟨bq, hbq⟩ : ∃ bq, nbOk l = bq := ⟨_, rfl⟩
  rw [hbq] at HN
  clear hn
  cases bq
  · have HE := hidIn (rk_no e hbq)
    generalize l.length = ln at *
    clear hbq HCl
    go_enter Try.func11, Try.ntmps11
    go_wp2_with fail
    refine HN.out.mono ?_
    rintro x w1 ⟨rfl, hw1⟩
    rw [hw1]
    clear hw1 w1 HN
    go_wp2_with fail
    go_ret2
    unfold RkAns
    rw [HE.out.1, HE.out.2]
    exact ⟨⟨none, 0, rfl, World.ownsRow_nil _ _ _ _⟩, Below.refl _ _⟩
  · have h24 := nb_len hbq
    have HE := hidIn (rk_yes e hbq)
    have HC := hidIn (HCl.out (by omega))
    have HU := hidIn (nb_unl he hbq)
    have HND := hidIn (nodup_rise (nb_rise hbq))
    have HL := hidIn (rank_len (mix e) l)
    have H24 := hidIn h24
    clear hbq HCl h24
    go_enter Try.func11, Try.ntmps11
    go_wp2_with fail
    refine HN.out.mono ?_
    rintro x w1 ⟨rfl, hw1⟩
    rw [hw1]
    clear hw1 w1 HN
    go_wp2_with fail
    refine HC.out.mono ?_
    rintro x w2 ⟨⟨v', rfl, hrow2⟩, hb2⟩
    obtain ⟨a', cap', rfl⟩ := row_shape hrow2
    have HB2 := hidIn hb2
    have HR2 := hidIn hrow2
    clear hb2 HC hrow2
    go_wp2_with fail
    refine (great_any e w2).mono ?_
    rintro x w3 ⟨rfl, hw3⟩
    have hb3 : Below w.heap.size w w3 := by rw [hw3]; exact HB2.out.alloc HB2.out.size _
    have hrow3 : w3.ownsRow w.heap.size 3 1 (.slice a' l.length cap') l.length (fl ic l) := by rw [hw3]; exact HR2.out.alloc _
    have hc3 : w3.cell? ⟨w2.heap.size, 0, none⟩ = some (rkF e) := by rw [hw3]; exact cell_of_row _ _ 0 _ _ _ (heap_alloc_last w2 _)
    have hs3 : w2.heap.size < w3.heap.size := by rw [hw3]; simp
    have hlt : ∀ g, a' = some ⟨g, 0, none⟩ → w2.heap.size ≠ g := fun g hg => by
      subst hg
      have := HR2.out.lt g rfl
      omega
    generalize w2.heap.size = B at *
    clear hw3 HB2 HR2
    rcases hrow3.2 with ⟨h1, h0⟩ | ⟨g, cap2, cur, hu, hg, hh, h1, h2, h3, h4⟩
    · have hl0 : l = [] := List.length_eq_zero_iff.1 h0
      subst hl0
      simp only [List.length_nil, Value.slice.injEq] at h1
      obtain ⟨rfl, _, rfl⟩ := h1
      have HB3 := hidIn hb3
      simp only [List.length_nil]
      clear h0 hrow3 hc3 hs3 hlt hb3
      go_wp2_with fail
      refine (sortsN_any B none 0 w3).mono ?_
      rintro x w4 ⟨rfl, hw4⟩
      rw [hw4]
      clear hw4 w4
      go_wp2_with fail
      go_ret2
      unfold RkAns
      rw [HE.out.1, HE.out.2, rank_nil]
      exact ⟨⟨none, 0, rfl, World.ownsRow_nil _ _ _ _⟩, HB3.out⟩
    · simp only [Value.slice.injEq] at hu
      obtain ⟨rfl, _, rfl⟩ := hu
      have htake : cur.toList.take l.length = l.map (Value.int .i64) := by rw [Nat.mul_one, cints_map] at h4; exact h4
      have HS := hidIn (sorts_any he (cap := cap') (holds_of_blockI hh htake) (block_lt hh) hs3 (hlt g rfl) hc3 H24.out HND.out HU.out)
      have HT : Hid (∀ n os, (grow (putRow (Value.int .i64) (Sort.ahead w3 n) g 0 (rankL (mix e) l).toArray) os).ownsRow w.heap.size 3 1 (.slice (some ⟨g, 0, none⟩) l.length cap') l.length ((rankL (mix e) l).map (Value.int .i64)) ∧ Below w.heap.size w (grow (putRow (Value.int .i64) (Sort.ahead w3 n) g 0 (rankL (mix e) l).toArray) os)) := hidIn fun n os => ⟨ownsRow_sortedI HL.out hg hh h1 h2 h3, hb3.grown (grownBy_sortedI _) hb3.size (fun k hk => by cases hk; exact hg)⟩
      clear hrow3 hc3 hs3 hlt hb3 hh h1 h2 h3 h4 htake hg
      generalize hln : l.length = ln at *
      have Hln := hidIn hln
      clear hln
      go_wp2_with fail
      refine HS.out.mono ?_
      rintro x w4 ⟨rfl, n, os, hw4⟩
      have h4 := HT.out n os
      rw [← hw4] at h4
      have H4 := hidIn h4
      clear hw4 h4 HS HT
      go_wp2_with fail
      go_ret2
      unfold RkAns
      rw [HE.out.1, HE.out.2, HL.out]
      refine ⟨⟨_, cap', rfl, ?_⟩, H4.out.2⟩
      rw [cints_map]
      exact H4.out.1
end Go.Proofs.Ytcgndpenalcpeaa
