/- The document's has, with of layer 7 (by program out of UH1); lists in blocks of numbers. What the document's Reaches keeps: costs, what is known, what is done. The document's one: a node of which all cheaper ones are known. The document's Reaches. -/
import Derived.Test.YtabnecicidkmhaaZ2
namespace Go.Proofs.Ytabnecicidkmhaa
open Go.RowKit

/-- A list of numbers in a block of numbers, or nil. -/
def NxI (lo : Nat) (w : World) (v : Value) (l : List Int) : Prop :=
  (l = [] ∧ v = .slice none 0 0) ∨ ∃ g o cap cur, v = .slice (some ⟨g, o, none⟩) l.length cap ∧ l.length ≤ cap ∧ lo ≤ g ∧ w.heap[g]? = some (.cells cur 3) ∧ ∀ j z, l[j]? = some z → w.cell? ⟨g, o + j, none⟩ = some (.int .i64 z)
theorem NxI.fr {lo : Nat} {w w' : World} {v : Value} {l : List Int} {S : Nat → Prop} (h : NxI lo w v l) (hF : Fr S w w') (hS : ∀ b cur, S b → w.heap[b]? ≠ some (.cells cur 3)) : NxI lo w' v l := by
  rcases h with h | ⟨g, o, cap, cur, rfl, hc, hlo, hg, hcell⟩
  · exact .inl h
  · have hb := hF.block g (block_lt hg) (fun e => hS g cur e hg)
    refine .inr ⟨g, o, cap, cur, rfl, hc, hlo, hb.trans hg, fun j z hz => ?_⟩
    rw [World.cell?_of_block (a := ⟨g, o + j, none⟩) hb]
    exact hcell j z hz
theorem NxI.keep {lo : Nat} {w w' : World} {v : Value} {l : List Int} {B : Nat} (h : NxI lo w v l) (hb : Below B w w') (hB : w.heap.size ≤ B) : NxI lo w' v l := by
  rcases h with h | ⟨g, o, cap, cur, rfl, hc, hlo, hg, hcell⟩
  · exact .inl h
  · have hk := hb.block g (Nat.lt_of_lt_of_le (block_lt hg) hB)
    refine .inr ⟨g, o, cap, cur, rfl, hc, hlo, hk.trans hg, fun j z hz => ?_⟩
    rw [World.cell?_of_block (a := ⟨g, o + j, none⟩) hk]
    exact hcell j z hz
theorem NxI.sl {lo : Nat} {w : World} {v : Value} {l : List Int} (h : NxI lo w v l) (hl : l.length ≤ 9223372036854775807) : SlAt ic 1 w v l := by
  rcases h with ⟨rfl, rfl⟩ | ⟨g, o, cap, cur, rfl, hc, hlo, hg, hcell⟩
  · exact slAt_nil _ _ _
  · refine ⟨_, cap, rfl, hl, hc, fun _ => ⟨g, o, rfl, block_lt hg, fun j z hz i u hu => ?_⟩⟩
    have hi : i = 0 := by
      have := (List.getElem?_eq_some_iff.1 hu).1
      simp at this
      exact this
    subst hi
    simp at hu
    subst hu
    rw [Nat.mul_one, Nat.add_zero]
    exact hcell j z hz
theorem NxI.nil {lo : Nat} {w : World} {v : Value} {l : List Int} (h : NxI lo w v l) : NilOk v := by
  rcases h with ⟨_, rfl⟩ | ⟨g, o, cap, cur, rfl, _⟩
  · exact .inr rfl
  · exact .inl ⟨_, _, _, rfl⟩
theorem NxI.shape {lo : Nat} {w : World} {v : Value} {l : List Int} (h : NxI lo w v l) : ∃ a cap, v = .slice a l.length cap := by
  rcases h with ⟨rfl, rfl⟩ | ⟨g, o, cap, cur, rfl, _⟩
  · exact ⟨none, 0, rfl⟩
  · exact ⟨_, cap, rfl⟩
theorem nxI_row {w : World} {B k : Nat} {v : Value} {l : List Int} (hr : w.ownsRow B 3 1 v k (fl ic l)) (hk : l.length = k) : NxI B w v l := by
  have hs := slAt_of_row (cs := ic) (fun _ => rfl) hr hk
  rcases hr.2 with ⟨h1, h2⟩ | ⟨g, cap, cur, rfl, hg, hh, h1, _⟩
  · exact .inl ⟨List.length_eq_zero_iff.1 (by omega), h1⟩
  · obtain ⟨a, c, he, _, _, hc⟩ := hs.ints
    simp only [Value.slice.injEq] at he
    obtain ⟨rfl, _, rfl⟩ := he
    refine .inr ⟨g, 0, cap, cur, by rw [hk], by omega, hg, hh, fun j z hz => ?_⟩
    obtain ⟨bk, o, he, _, hcell⟩ := hc (by have := (List.getElem?_eq_some_iff.1 hz).1; omega)
    simp only [Option.some.injEq, Addr.mk.injEq] at he
    obtain ⟨rfl, rfl, _⟩ := he
    exact hcell j z hz
theorem NxI.mono {lo lo' : Nat} {w : World} {v : Value} {l : List Int} (h : NxI lo w v l) (hl : lo' ≤ lo) : NxI lo' w v l := by
  rcases h with h | ⟨g, o, cap, cur, rfl, hc, hlo, hg, hcell⟩
  · exact .inl h
  · exact .inr ⟨g, o, cap, cur, rfl, hc, Nat.le_trans hl hlo, hg, hcell⟩
theorem NxI.blk {lo : Nat} {w : World} {a : Addr} {n c : Nat} {l : List Int} (h : NxI lo w (.slice (some a) n c) l) : lo ≤ a.block ∧ ∃ cur, w.heap[a.block]? = some (.cells cur 3) := by
  rcases h with ⟨_, h⟩ | ⟨g, o, cap, cur, he, _, hlo, hg, _⟩
  · simp at h
  · simp only [Value.slice.injEq, Option.some.injEq] at he
    rw [he.1]
    exact ⟨hlo, cur, hg⟩
set_option maxRecDepth 100000 in
theorem has7_any {l : List Int} {v : Value} (n : Int) {w : World} (h : SlAt ic 1 w v l) : Calls Try.prog 81 #[v, .int .i64 n] w fun e w' => e = .returned (.bool (l.contains n)) ∧ w' = w := by
  obtain ⟨a, cap, rfl, hl, _, hat⟩ := h.ints
  have Ha := hidIn hat
  obtain ⟨ln, hln⟩ : ∃ ln, l.length = ln := ⟨_, rfl⟩
  have Hln := hidIn hln
  rw [hln] at hl ⊢
  obtain ⟨bq, hbq⟩ : ∃ bq, l.contains n = bq := ⟨_, rfl⟩
  rw [hbq]
  have HQ := hidIn hbq
  clear h hat hln hbq
  go_enter Try.func81, Try.ntmps81
  go_wp2_with fail
  go_loop [5] (fun i => ∃ k : Nat, k ≤ ln ∧ i = .int .i64 k ∧ Hid ((l.take k).contains n = false)) (fun i => ln - (intOf i).toNat)
  case atStart => exact ⟨0, Nat.zero_le _, rfl, hidIn (by simp)⟩
  case round =>
    obtain ⟨k, hk, rfl, HC⟩ := hrel
    by_cases hlt : k < ln
    · obtain ⟨bk, o, rfl, hbk, hcell⟩ := Ha.out (by have := Hln.out; omega)
      obtain ⟨x, hx⟩ : ∃ x, l[k]? = some x := ⟨l[k]'(by have := Hln.out; omega), List.getElem?_eq_getElem _⟩
      have c0 := hcell k x hx
      have hki : (k : Int) < (ln : Int) := by omega
      by_cases hxn : x = n
      · have hq : (x == n) = true := by simpa using hxn
        have HE : Hid (bq = true) := hidIn (by rw [← HQ.out, ← hxn]; simpa using List.mem_of_getElem? hx)
        clear hcell hx hxn
        go_wp2_with fail
        go_ret
        exact ⟨by rw [HE.out]; rfl, rfl⟩
      · have hq : (x == n) = false := by simpa using hxn
        have HE : Hid ((l.take (k + 1)).contains n = false) := hidIn (by
          rw [take_snoc hx, List.contains_eq_mem, decide_eq_false_iff_not, List.mem_append, List.mem_singleton]
          have h1 := HC.out
          rw [List.contains_eq_mem, decide_eq_false_iff_not] at h1
          exact fun h => h.elim h1 (fun e => hxn e.symm))
        clear hcell hx hxn
        go_wp2_with fail
        go_round
        case rel => exact ⟨k + 1, by omega, by go_num, HE⟩
        case measure => simp [intOf]; omega
    · have hki : ¬ ((k : Int) < (ln : Int)) := by omega
      have HE : Hid (bq = false) := hidIn (by rw [← HQ.out]; have := HC.out; rw [List.take_of_length_le (by have := Hln.out; omega)] at this; exact this)
      go_wp2_with fail
      go_ret
      exact ⟨by rw [HE.out]; rfl, rfl⟩
/-- A number laid into a list, ahead of the first that is above it. -/
def ins7 : List Int → Int → List Int
  | [], n => [n]
  | x :: xs, n => if n < x then n :: x :: xs else x :: ins7 xs n
def abv7 (l : List Int) (n : Int) : Bool := l.any fun x => decide (n < x)
theorem ins7_put : ∀ (p : List Int) (n x : Int), abv7 p n = true → ins7 (p ++ [x]) n = ins7 p n ++ [x]
  | [], _, _, h => by simp [abv7] at h
  | y :: p, n, x, h => by
    rw [List.cons_append, ins7, ins7]
    by_cases hy : n < y
    · rw [if_pos hy, if_pos hy]; rfl
    · rw [if_neg hy, if_neg hy, ins7_put p n x (by simpa [abv7, hy] using h)]; rfl
theorem ins7_not : ∀ (p : List Int) (n : Int), abv7 p n = false → ins7 p n = p ++ [n]
  | [], _, _ => rfl
  | y :: p, n, h => by
    have h1 : ¬ n < y ∧ abv7 p n = false := by simpa [abv7] using h
    rw [ins7, if_neg h1.1, ins7_not p n h1.2]
    rfl
theorem ins7_new (p : List Int) (n x : Int) (h : abv7 p n = false) (hx : n < x) : ins7 (p ++ [x]) n = p ++ [n, x] := by
  induction p with
  | nil => simp [ins7, hx]
  | cons y p ih =>
    have h1 : ¬ n < y ∧ abv7 p n = false := by simpa [abv7] using h
    rw [List.cons_append, ins7, if_neg h1.1, ih h1.2]
    rfl
theorem abv7_snoc (p : List Int) (n x : Int) : abv7 (p ++ [x]) n = (abv7 p n || decide (n < x)) := by simp [abv7]
theorem ins7_is (n : Int) : ∀ l : List Int, ins7 l n = inL7 n l
  | [] => rfl
  | x :: l => by
    show (if n < x then n :: x :: l else x :: ins7 l n) = (if n < x then n :: x :: l else x :: inL7 n l)
    rw [ins7_is n l]
theorem with7_is (l : List Int) (n : Int) : (if l.contains n then l else ins7 l n) = withL l n := by
  unfold withL
  rw [ins7_is]
  by_cases h : n ∈ l
  · rw [if_pos h, if_pos (by simpa using h)]
  · rw [if_neg h, if_neg (by simpa using h)]
/-- What is laid out behind the first ones. -/
def wit7 (l : List Int) (n : Int) (k : Nat) : List Int := if abv7 (l.take k) n then ins7 (l.take k) n else l.take k
theorem wit7_len (l : List Int) (n : Int) (k : Nat) : (wit7 l n k).length ≤ l.length + 1 := by
  have hi : ∀ p : List Int, (ins7 p n).length = p.length + 1 := fun p => by
    induction p with
    | nil => rfl
    | cons x p ih => rw [ins7]; split <;> simp [ih]
  have hk : (l.take k).length ≤ l.length := by rw [List.length_take]; omega
  unfold wit7
  split
  · rw [hi]; omega
  · omega
set_option maxRecDepth 100000 in
set_option maxHeartbeats 2000000 in
theorem with7_any {l : List Int} {v : Value} (n : Int) {w : World} {lo : Nat} (h : NxI lo w v l) (hlo : lo ≤ w.heap.size) (hl : l.length ≤ 100000) :
    Calls Try.prog 61 #[v, .int .i64 n] w fun e w' => (∃ v', e = .returned v' ∧ NxI lo w' v' (withL l n)) ∧ Below w.heap.size w w' := by
  have HH := hidIn (has7_any n (h.sl (by omega)))
  have HW := hidIn (with7_is l n)
  have HSl := hidIn h
  have Hlo := hidIn hlo
  obtain ⟨a, cap, rfl, _, _, hat⟩ := (h.sl (by omega)).ints
  have Ha := hidIn hat
  obtain ⟨bq, hbq⟩ : ∃ bq, l.contains n = bq := ⟨_, rfl⟩
  rw [hbq] at HH HW
  have hwl := fun k => wit7_len l n k
  have Hwl := hidIn hwl
  obtain ⟨ln, hln⟩ : ∃ ln, l.length = ln := ⟨_, rfl⟩
  have Hln := hidIn hln
  rw [hln] at hl HH HSl ⊢
  clear h hat hbq hlo hwl hln
  go_enter Try.func61, Try.ntmps61
  go_wp2_with fail
  refine HH.out.mono ?_
  rintro e w1 ⟨rfl, hw1⟩
  rw [hw1]
  clear hw1 w1 HH
  cases bq
  · have HW' : Hid (ins7 l n = withL l n) := hidIn (by have := HW.out; simpa using this)
    clear HW
    go_wp2_with fail
    go_loopw [5, 6, 7] (fun u b i wr => ∃ k : Nat, k ≤ ln ∧ i = .int .i64 k ∧ b = .bool (abv7 (l.take k) n) ∧ (∃ a c, u = .slice a (wit7 l n k).length c) ∧ Hid (Below w.heap.size w wr ∧ wr.ownsRow w.heap.size 3 1 u (wit7 l n k).length (fl ic (wit7 l n k)))) (fun _ _ i _ => ln - (intOf i).toNat)
    case atStart => exact ⟨0, Nat.zero_le _, rfl, by simp [abv7], ⟨none, 0, rfl⟩, hidIn ⟨Below.refl _ _, World.ownsRow_nil _ _ _ _⟩⟩
    case round =>
      obtain ⟨k, hk, rfl, rfl, ⟨ua, uc, rfl⟩, HR⟩ := hrel
      obtain ⟨hb, hr⟩ := HR.out
      clear HR
      by_cases hlt : k < ln
      · obtain ⟨bk, o, rfl, hbk, hcell⟩ := Ha.out (by have := Hln.out; omega)
        obtain ⟨x, hx⟩ : ∃ x, l[k]? = some x := ⟨l[k]'(by have := Hln.out; omega), List.getElem?_eq_getElem _⟩
        have c0 := (hb.cell (p := ⟨bk, o + k, none⟩) hbk).trans (hcell k x hx)
        have hki : (k : Int) < (ln : Int) := by omega
        have hwk := Hwl.out k
        have hln' := Hln.out
        have ht := take_snoc hx
        obtain ⟨pb, hpb⟩ : ∃ pb, abv7 (l.take k) n = pb := ⟨_, rfl⟩
        have hab := abv7_snoc (l.take k) n x
        rw [← ht, hpb] at hab
        cases pb
        · have hwk0 : wit7 l n k = l.take k := by unfold wit7; rw [hpb]; simp
          rw [hpb]
          by_cases hnx : n < x
          · have hd : decide (n < x) = true := by simpa using hnx
            have hw1 : wit7 l n (k + 1) = wit7 l n k ++ [n, x] := by unfold wit7; rw [hab, hd, hpb, ht, ins7_new _ _ _ hpb hnx]; rfl
            obtain ⟨g, gc, w6, hrun, hown, _, _, hb6⟩ := append_int hr n (by omega) hb.size
            have hB6 := hb.trans hb6
            obtain ⟨g2, gc2, w7, hrun2, hown2, _, _, hb7⟩ := append_int hown x (by omega) hB6.size
            have c6 := (hB6.cell (p := ⟨bk, o + k, none⟩) hbk).trans (hcell k x hx)
            have HO : Hid (Below w.heap.size w w7 ∧ w7.ownsRow w.heap.size 3 1 (.slice (some ⟨g2, 0, none⟩) ((wit7 l n k).length + 1 + 1) gc2) ((wit7 l n k).length + 1 + 1) (fl ic (wit7 l n (k + 1))) ∧ (wit7 l n (k + 1)).length = (wit7 l n k).length + 1 + 1 ∧ abv7 (l.take (k + 1)) n = true) := hidIn ⟨hB6.trans hb7, by rw [hw1]; have := hown2; rw [List.append_assoc] at this; exact this, by rw [hw1]; simp, by rw [hab, hd]; rfl⟩
            have HRun := hidIn hrun
            have HRun2 := hidIn hrun2
            generalize (wit7 l n k).length = wk at *
            clear hb hr hcell hx ht hpb hab hwk0 hw1 hrun hown hb6 hB6 hrun2 hown2 hb7 hwk hln' hnx
            go_upto_region 11 with (refine l_append rfl _ _ 22 rfl HRun.out ?_)
            clear c0
            go_wp2_with (refine l_append rfl _ _ 22 rfl HRun2.out ?_)
            go_roundw
            case rel =>
              obtain ⟨h1, h2, h3, h4⟩ := HO.out
              exact ⟨k + 1, by omega, by go_num, by rw [h4], ⟨_, gc2, by rw [h3]⟩, hidIn ⟨h1, by rw [h3]; exact h2⟩⟩
            case measure => simp [intOf]; omega
          · have hd : decide (n < x) = false := by simpa using hnx
            have hw1 : wit7 l n (k + 1) = wit7 l n k ++ [x] := by
              rw [hwk0]
              unfold wit7
              rw [hab, hd, ht]
              rfl
            obtain ⟨g, gc, w6, hrun, hown, _, _, hb6⟩ := append_int hr x (by omega) hb.size
            have HO : Hid (Below w.heap.size w w6 ∧ w6.ownsRow w.heap.size 3 1 (.slice (some ⟨g, 0, none⟩) ((wit7 l n k).length + 1) gc) ((wit7 l n k).length + 1) (fl ic (wit7 l n (k + 1))) ∧ (wit7 l n (k + 1)).length = (wit7 l n k).length + 1 ∧ abv7 (l.take (k + 1)) n = false) := hidIn ⟨hb.trans hb6, by rw [hw1]; exact hown, by rw [hw1]; simp, by rw [hab, hd]; rfl⟩
            have HRun := hidIn hrun
            generalize (wit7 l n k).length = wk at *
            clear hb hr hcell hx ht hpb hab hw1 hrun hown hb6 hwk hln' hnx hwk0
            go_wp2_with (refine l_append rfl _ _ 22 rfl HRun.out ?_)
            go_roundw
            case rel =>
              obtain ⟨h1, h2, h3, h4⟩ := HO.out
              rw [← h3] at h2
              exact ⟨k + 1, by omega, by go_num, by rw [h4], ⟨_, gc, by rw [h3]⟩, hidIn ⟨h1, by rw [h3] at h2 ⊢; exact h2⟩⟩
            case measure => simp [intOf]; omega
        · rw [hpb]
          have hw1 : wit7 l n (k + 1) = wit7 l n k ++ [x] := by
            unfold wit7
            rw [hab, hpb, ht]
            simp only [Bool.true_or, if_true]
            exact ins7_put _ _ _ hpb
          obtain ⟨g, gc, w6, hrun, hown, _, _, hb6⟩ := append_int hr x (by omega) hb.size
          have HO : Hid (Below w.heap.size w w6 ∧ w6.ownsRow w.heap.size 3 1 (.slice (some ⟨g, 0, none⟩) ((wit7 l n k).length + 1) gc) ((wit7 l n k).length + 1) (fl ic (wit7 l n (k + 1))) ∧ (wit7 l n (k + 1)).length = (wit7 l n k).length + 1 ∧ abv7 (l.take (k + 1)) n = true) := hidIn ⟨hb.trans hb6, by rw [hw1]; exact hown, by rw [hw1]; simp, by rw [hab]; rfl⟩
          have HRun := hidIn hrun
          generalize (wit7 l n k).length = wk at *
          clear hb hr hcell hx ht hpb hab hw1 hrun hown hb6 hwk hln' 
          go_wp2_with (refine l_append rfl _ _ 22 rfl HRun.out ?_)
          go_roundw
          case rel =>
            obtain ⟨h1, h2, h3, h4⟩ := HO.out
            rw [← h3] at h2
            exact ⟨k + 1, by omega, by go_num, by rw [h4], ⟨_, gc, by rw [h3]⟩, hidIn ⟨h1, by rw [h3] at h2 ⊢; exact h2⟩⟩
          case measure => simp [intOf]; omega
      · have hki : ¬ ((k : Int) < (ln : Int)) := by omega
        have hte : l.take k = l := List.take_of_length_le (by have := Hln.out; omega)
        have hwk := Hwl.out k
        have hln' := Hln.out
        obtain ⟨pb, hpb⟩ : ∃ pb, abv7 (l.take k) n = pb := ⟨_, rfl⟩
        rw [hpb]
        cases pb
        · have hwk0 : wit7 l n k = l := by unfold wit7; rw [hpb, hte]; simp
          obtain ⟨g, gc, w6, hrun, hown, _, _, hb6⟩ := append_int hr n (by omega) hb.size
          have HE : Hid (NxI lo w6 (.slice (some ⟨g, 0, none⟩) ((wit7 l n k).length + 1) gc) (withL l n) ∧ Below w.heap.size w w6) := hidIn ⟨by
            rw [← HW'.out, ins7_not l n (by rw [← hte]; exact hpb)]
            refine NxI.mono (nxI_row (B := w.heap.size) ?_ (k := (wit7 l n k).length + 1) (by rw [hwk0]; simp)) Hlo.out
            rw [hwk0] at hown ⊢
            exact hown, hb.trans hb6⟩
          have HRun := hidIn hrun
          generalize (wit7 l n k).length = wk at *
          clear hb hr hpb hrun hown hb6 hwk hln' hwk0 hte
          go_wp2_with (refine l_append rfl _ _ 22 rfl HRun.out ?_)
          go_ret
          exact ⟨⟨_, rfl, HE.out.1⟩, HE.out.2⟩
        · have hwk0 : wit7 l n k = withL l n := by rw [← HW'.out]; unfold wit7; rw [hpb, hte]; simp
          have HE : Hid (NxI lo wr (.slice ua (wit7 l n k).length uc) (withL l n) ∧ Below w.heap.size w wr) := hidIn ⟨by
            refine NxI.mono (nxI_row (B := w.heap.size) ?_ (k := (wit7 l n k).length) (by rw [hwk0])) Hlo.out
            rw [hwk0] at hr ⊢
            exact hr, hb⟩
          generalize (wit7 l n k).length = wk at *
          clear hb hr hpb hwk hln' hwk0 hte
          go_wp2_with fail
          go_ret
          exact ⟨⟨_, rfl, HE.out.1⟩, HE.out.2⟩
  · have HE : Hid (NxI lo w (.slice a ln cap) (withL l n)) := hidIn (by rw [← HW.out]; simpa using HSl.out)
    go_wp2_with fail
    go_ret
    exact ⟨⟨_, rfl, HE.out⟩, Below.refl _ _⟩
end Go.Proofs.Ytabnecicidkmhaa
namespace Go.Proofs.Ytabnecicidkmhaa
open Go.RowKit

/-- What is known of a node is small. -/
def KOk (A : Rr) : Prop := 0 ≤ A.least ∧ A.least ≤ 100000 ∧ 0 ≤ A.most ∧ A.most ≤ 100000 ∧ A.next.length ≤ 24
theorem mapF_upd {α : Type} {f : Int → α} {y : Int} {a : α} : ∀ {ns : List Int} {k : Nat}, ns.Nodup → ns[k]? = some y → ns.map (fun z => if z = y then a else f z) = (ns.map f).set k a
  | [], _, _, h => by simp at h
  | x :: ns, 0, hn, h => by
    simp at h
    subst h
    rw [List.nodup_cons] at hn
    simp only [List.map_cons, List.set_cons_zero, if_true]
    congr 1
    refine List.map_congr_left fun z hz => ?_
    rw [if_neg (fun e => hn.1 (by rw [← e]; exact hz))]
  | x :: ns, k + 1, hn, h => by
    rw [List.nodup_cons] at hn
    have hk : ns[k]? = some y := by simpa using h
    have hxy : x ≠ y := fun e => hn.1 (by rw [e]; exact List.mem_of_getElem? hk)
    simp only [List.map_cons, List.set_cons_succ]
    rw [mapF_upd hn.2 hk, if_neg hxy]
theorem fl_set5 : ∀ (l : List (Rr × Value)) (p : Nat) (x : Rr × Value), p < l.length → (((((fl rwc l).set (p * 5) (.int .i64 x.1.node)).set (p * 5 + 1) (.int .i64 x.1.cost)).set (p * 5 + 2) (.int .i64 x.1.least)).set (p * 5 + 3) (.int .i64 x.1.most)).set (p * 5 + 4) x.2 = fl rwc (l.set p x)
  | [], p, x, h => by simp at h
  | y :: l, 0, x, _ => rfl
  | y :: l, p + 1, x, h => by
    show (((((rwc y ++ fl rwc l).set ((p + 1) * 5) _).set ((p + 1) * 5 + 1) _).set ((p + 1) * 5 + 2) _).set ((p + 1) * 5 + 3) _).set ((p + 1) * 5 + 4) _ = rwc y ++ fl rwc (l.set p x)
    have h5 : (rwc y).length = 5 := rfl
    rw [List.set_append_right _ _ (by rw [h5]; omega), List.set_append_right _ _ (by rw [h5]; omega), List.set_append_right _ _ (by rw [h5]; omega), List.set_append_right _ _ (by rw [h5]; omega), List.set_append_right _ _ (by rw [h5]; omega), h5]
    rw [show (p + 1) * 5 - 5 = p * 5 from by omega, show (p + 1) * 5 + 1 - 5 = p * 5 + 1 from by omega, show (p + 1) * 5 + 2 - 5 = p * 5 + 2 from by omega, show (p + 1) * 5 + 3 - 5 = p * 5 + 3 from by omega, show (p + 1) * 5 + 4 - 5 = p * 5 + 4 from by omega]
    rw [fl_set5 l p x (by simpa using h)]
theorem infoBool7 : (Try.prog.info? 4).map (fun i => (i.zero, i.size, i.bytes)) = some (some (.bool false), 1, 1) := by kernel_rfl
theorem infoReach7 : (Try.prog.info? 34).map (fun i => (i.zero, i.size, i.bytes)) = some (some (.agg #[.int .i64 0, .int .i64 0, .int .i64 0, .int .i64 0, .slice none 0 0]), 5, 56) := by kernel_rfl
theorem make_rowB (n : Nat) (hn : n ≤ 1000) (w : World) : ∃ W, (Instr.makeSlice 85 (.int .i64 (n : Int)) (.int .i64 (n : Int))).run Try.prog w = .ok (.slice (some ⟨w.heap.size, 0, none⟩) n n) W ∧ W.ownsRow w.heap.size 4 1 (.slice (some ⟨w.heap.size, 0, none⟩) n n) n (List.replicate n (.bool false)) ∧ Below w.heap.size w W := by
  obtain ⟨i0, hi, hz0, hz1, hz2⟩ := info_parts infoBool7
  have := run_make (P := Try.prog) w 85 4 i0 (.bool false) Try.underlying85 hi hz0 .i64 .i64 n n (by omega) (Int.le_refl _) (by rw [hz2]; omega) (by omega)
  rw [hz1, Nat.mul_one] at this
  refine ⟨w.alloc (.cells (madeCells #[.bool false] n) 4), by simpa [Value.cells] using this, ⟨by simp, .inr ⟨w.heap.size, n, _, rfl, Nat.le_refl _, heap_alloc_last w _, Nat.le_refl _, by unfold maxLen; omega, by rw [size_madeCells, Nat.mul_one], ?_⟩⟩, (Below.refl _ w).alloc (Nat.le_refl _) _⟩
  rw [Nat.mul_one, List.take_of_length_le (by simp [madeCells])]
  apply List.ext_getElem?
  intro j
  rw [List.getElem?_replicate]
  by_cases h : j < n
  · simp [madeCells, h, Nat.mod_one]
  · simp [madeCells, h]
theorem make_rowR (n : Nat) (hn : n ≤ 1000) (w : World) : ∃ W, (Instr.makeSlice 27 (.int .i64 (n : Int)) (.int .i64 (n : Int))).run Try.prog w = .ok (.slice (some ⟨w.heap.size, 0, none⟩) n n) W ∧ W.ownsRow w.heap.size 34 5 (.slice (some ⟨w.heap.size, 0, none⟩) n n) n (fl rwc (List.replicate n (noR, .slice none 0 0))) ∧ Below w.heap.size w W := by
  obtain ⟨i0, hi, hz0, hz1, hz2⟩ := info_parts infoReach7
  have := run_make (P := Try.prog) w 27 34 i0 (.agg #[.int .i64 0, .int .i64 0, .int .i64 0, .int .i64 0, .slice none 0 0]) Try.underlying27 hi hz0 .i64 .i64 n n (by omega) (Int.le_refl _) (by rw [hz2]; omega) (by omega)
  rw [hz1] at this
  have hfl : (fl rwc (List.replicate n (noR, Value.slice none 0 0))).length = n * 5 := by rw [fl_length (sz := 5) (fun _ => rfl), List.length_replicate]
  refine ⟨w.alloc (.cells (madeCells #[.int .i64 0, .int .i64 0, .int .i64 0, .int .i64 0, .slice none 0 0] (n * 5)) 34), by simpa [Value.cells] using this, ⟨hfl, .inr ⟨w.heap.size, n, _, rfl, Nat.le_refl _, heap_alloc_last w _, Nat.le_refl _, by unfold maxLen; omega, by rw [size_madeCells], ?_⟩⟩, (Below.refl _ w).alloc (Nat.le_refl _) _⟩
  rw [List.take_of_length_le (by simp [madeCells])]
  apply List.ext_getElem?
  intro j
  by_cases h : j < n * 5
  · obtain ⟨q, s, hq, hs, rfl⟩ : ∃ q s, q < n ∧ s < 5 ∧ j = q * 5 + s := ⟨j / 5, j % 5, by omega, by omega, by omega⟩
    rw [fl_get (sz := 5) (fun _ => rfl) _ q s (noR, .slice none 0 0) (by rw [List.getElem?_replicate, if_pos hq]) hs]
    have hm : (q * 5 + s) % 5 = s := by omega
    simp [madeCells, h, hm]
    match s, hs with
    | 0, _ => rfl
    | 1, _ => rfl
    | 2, _ => rfl
    | 3, _ => rfl
    | 4, _ => rfl
  · rw [List.getElem?_eq_none (by simp [madeCells]; omega), List.getElem?_eq_none (by rw [hfl]; omega)]
/-- What Reaches keeps. -/
structure RhM (lo : Nat) (W1 wr : World) (ns : List Int) (ln cb cc kb db : Nat) (D : Int → Int) (Dn : Int → Bool) (K : Int → Rr) (V : Int → Value) : Prop where
  b : Below W1.heap.size W1 wr
  c : wr.ownsRow W1.heap.size 3 1 (.slice (some ⟨cb, 0, none⟩) ln cc) ln (fl ic (ns.map D))
  k : wr.ownsRow W1.heap.size 34 5 (.slice (some ⟨kb, 0, none⟩) ln ln) ln (fl rwc (ns.map fun x => (K x, V x)))
  d : wr.ownsRow W1.heap.size 4 1 (.slice (some ⟨db, 0, none⟩) ln ln) ln (ns.map fun x => Value.bool (Dn x))
  v : ∀ x ∈ ns, NxI lo wr (V x) (K x).next ∧ KOk (K x)
theorem RhM.keep {lo : Nat} {W1 wr wr' : World} {ns : List Int} {ln cb cc kb db : Nat} {D : Int → Int} {Dn : Int → Bool} {K : Int → Rr} {V : Int → Value} (h : RhM lo W1 wr ns ln cb cc kb db D Dn K V) (hb : Below wr.heap.size wr wr') : RhM lo W1 wr' ns ln cb cc kb db D Dn K V :=
  ⟨h.b.trans (hb.mono h.b.size), row_below h.c hb (Nat.le_refl _), row_below h.k hb (Nat.le_refl _), row_below h.d hb (Nat.le_refl _), fun x hx => ⟨(h.v x hx).1.keep hb (Nat.le_refl _), (h.v x hx).2⟩⟩
theorem row_typed7 {w : World} {base k size g n cap : Nat} {e : TypeId} {xs : List Value} (hr : w.ownsRow base e size (.slice (some ⟨g, 0, none⟩) n cap) k xs) : base ≤ g ∧ ∃ cur, w.heap[g]? = some (.cells cur e) := by
  rcases hr.2 with ⟨h, _⟩ | ⟨g', cap', cur, h, hb, hh, _⟩
  · cases h
  · simp at h
    obtain ⟨rfl, _⟩ := h
    exact ⟨hb, cur, hh⟩
theorem row_apart {w w' : World} {base k size g n cap b : Nat} {e e' : TypeId} {xs : List Value} {cs : Array Value} (hr : w.ownsRow base e size (.slice (some ⟨g, 0, none⟩) n cap) k xs) (hF : Fr (fun j => j = b) w w') (hb : w.heap[b]? = some (.cells cs e')) (hne : e ≠ e') : w'.ownsRow base e size (.slice (some ⟨g, 0, none⟩) n cap) k xs := by
  refine row_fr hr hF fun j hj ej => ?_
  simp [Value.ownBlock] at hj
  obtain ⟨_, cur, hc⟩ := row_typed7 hr
  rw [hj, ej, hb] at hc
  simp at hc
  exact hne hc.2.symm
theorem RhM.done {lo : Nat} {W1 wr : World} {ns : List Int} {ln cb cc kb db : Nat} {D : Int → Int} {Dn : Int → Bool} {K : Int → Rr} {V : Int → Value} (h : RhM lo W1 wr ns ln cb cc kb db D Dn K V) (hn : ns.Nodup) {p : Nat} {x : Int} (hx : ns[p]? = some x) : RhM lo W1 (wr.setCell ⟨db, p, none⟩ (.bool true)) ns ln cb cc kb db D (fun z => if z = x then true else Dn z) K V := by
  obtain ⟨hb, cur, hc⟩ := row_typed7 h.d
  have hF := (Fr.refl (fun j => j = db) wr).set (p := ⟨db, p, none⟩) rfl (.bool true)
  refine ⟨h.b.setCell (p := ⟨db, p, none⟩) hb _, row_apart h.c hF hc (by decide), row_apart h.k hF hc (by decide), ?_, fun y hy => ⟨(h.v y hy).1.fr hF (fun j cu e hj => ?_), (h.v y hy).2⟩⟩
  · have h1 := row_set h.d p (.bool true)
    rw [← mapF_upd (f := fun z => Value.bool (Dn z)) (a := Value.bool true) hn hx] at h1
    rw [show (fun z => Value.bool (if z = x then true else Dn z)) = (fun z => if z = x then Value.bool true else Value.bool (Dn z)) from by funext z; split <;> rfl]
    exact h1
  · rw [e, hc] at hj
    simp at hj
theorem RhM.put {lo : Nat} {W1 wr : World} {ns : List Int} {ln cb cc kb db : Nat} {D : Int → Int} {Dn : Int → Bool} {K : Int → Rr} {V : Int → Value} (h : RhM lo W1 wr ns ln cb cc kb db D Dn K V) (hn : ns.Nodup) {p : Nat} {x : Int} (hx : ns[p]? = some x) {A : Rr} {v : Value} (hv : NxI lo wr v A.next) (hA : KOk A) :
    RhM lo W1 (((((wr.setCell ⟨kb, p * 5, none⟩ (.int .i64 A.node)).setCell ⟨kb, p * 5 + 1, none⟩ (.int .i64 A.cost)).setCell ⟨kb, p * 5 + 2, none⟩ (.int .i64 A.least)).setCell ⟨kb, p * 5 + 3, none⟩ (.int .i64 A.most)).setCell ⟨kb, p * 5 + 4, none⟩ v) ns ln cb cc kb db D Dn (fun z => if z = x then A else K z) (fun z => if z = x then v else V z) := by
  obtain ⟨hb, cur, hc⟩ := row_typed7 h.k
  have hF := (((((Fr.refl (fun j => j = kb) wr).set (p := ⟨kb, p * 5, none⟩) rfl (.int .i64 A.node)).set (p := ⟨kb, p * 5 + 1, none⟩) rfl (.int .i64 A.cost)).set (p := ⟨kb, p * 5 + 2, none⟩) rfl (.int .i64 A.least)).set (p := ⟨kb, p * 5 + 3, none⟩) rfl (.int .i64 A.most)).set (p := ⟨kb, p * 5 + 4, none⟩) rfl v
  have hty : ∀ j cu, j = kb → wr.heap[j]? ≠ some (.cells cu 3) := fun j cu e hj => by
    rw [e, hc] at hj
    simp at hj
  refine ⟨?_, row_apart h.c hF hc (by decide), ?_, row_apart h.d hF hc (by decide), fun y hy => ?_⟩
  · exact ((((h.b.setCell (p := ⟨kb, p * 5, none⟩) hb _).setCell (p := ⟨kb, p * 5 + 1, none⟩) hb _).setCell (p := ⟨kb, p * 5 + 2, none⟩) hb _).setCell (p := ⟨kb, p * 5 + 3, none⟩) hb _).setCell (p := ⟨kb, p * 5 + 4, none⟩) hb _
  · have h1 := row_set (row_set (row_set (row_set (row_set h.k (p * 5) (.int .i64 A.node)) (p * 5 + 1) (.int .i64 A.cost)) (p * 5 + 2) (.int .i64 A.least)) (p * 5 + 3) (.int .i64 A.most)) (p * 5 + 4) v
    have h2 := fl_set5 (ns.map fun x => (K x, V x)) p (A, v) (by rw [List.length_map]; exact (List.getElem?_eq_some_iff.1 hx).1)
    simp only at h2
    rw [h2, ← mapF_upd (f := fun z => (K z, V z)) (a := (A, v)) hn hx] at h1
    rw [show (fun z => ((if z = x then A else K z), (if z = x then v else V z))) = (fun z => if z = x then (A, v) else (K z, V z)) from by funext z; split <;> rfl]
    exact h1
  · by_cases hyx : y = x
    · simp only [if_pos hyx]
      exact ⟨hv.fr hF hty, hA⟩
    · simp only [if_neg hyx]
      exact ⟨(h.v y hy).1.fr hF hty, (h.v y hy).2⟩
theorem RhM.dcell {lo : Nat} {W1 wr : World} {ns : List Int} {ln cb cc kb db : Nat} {D : Int → Int} {Dn : Int → Bool} {K : Int → Rr} {V : Int → Value} (h : RhM lo W1 wr ns ln cb cc kb db D Dn K V) {p : Nat} {x : Int} (hx : ns[p]? = some x) : wr.cell? ⟨db, p, none⟩ = some (.bool (Dn x)) := by
  have := World.ownsRow.cells h.d (g := db) rfl p (.bool (Dn x)) (by rw [List.getElem?_map, hx]; rfl)
  rwa [Addr.add_mid, Nat.zero_add] at this
theorem RhM.ccell {lo : Nat} {W1 wr : World} {ns : List Int} {ln cb cc kb db : Nat} {D : Int → Int} {Dn : Int → Bool} {K : Int → Rr} {V : Int → Value} (h : RhM lo W1 wr ns ln cb cc kb db D Dn K V) {p : Nat} {x : Int} (hx : ns[p]? = some x) : wr.cell? ⟨cb, p, none⟩ = some (.int .i64 (D x)) := by
  have h1 : (fl ic (ns.map D))[p]? = some (.int .i64 (D x)) := by
    have := fl_get (cs := ic) (sz := 1) (fun _ => rfl) (ns.map D) p 0 (D x) (by rw [List.getElem?_map, hx]; rfl) (by omega)
    rw [Nat.mul_one, Nat.add_zero] at this
    rw [this]
    rfl
  have := World.ownsRow.cells h.c (g := cb) rfl p _ h1
  rwa [Addr.add_mid, Nat.zero_add] at this
theorem RhM.kcell {lo : Nat} {W1 wr : World} {ns : List Int} {ln cb cc kb db : Nat} {D : Int → Int} {Dn : Int → Bool} {K : Int → Rr} {V : Int → Value} (h : RhM lo W1 wr ns ln cb cc kb db D Dn K V) {p : Nat} {x : Int} (hx : ns[p]? = some x) : wr.cell? ⟨kb, p * 5, none⟩ = some (.int .i64 (K x).node) ∧ wr.cell? ⟨kb, p * 5 + 1, none⟩ = some (.int .i64 (K x).cost) ∧ wr.cell? ⟨kb, p * 5 + 2, none⟩ = some (.int .i64 (K x).least) ∧ wr.cell? ⟨kb, p * 5 + 3, none⟩ = some (.int .i64 (K x).most) ∧ wr.cell? ⟨kb, p * 5 + 4, none⟩ = some (V x) := by
  have h0 : ∀ i u, (rwc (K x, V x))[i]? = some u → i < 5 → wr.cell? ⟨kb, p * 5 + i, none⟩ = some u := fun i u hu hi => by
    have h1 := fl_get (cs := rwc) (sz := 5) (fun _ => rfl) (ns.map fun x => (K x, V x)) p i (K x, V x) (by rw [List.getElem?_map, hx]; rfl) hi
    have := World.ownsRow.cells h.k (g := kb) rfl (p * 5 + i) u (by rw [h1]; exact hu)
    rwa [Addr.add_mid, Nat.zero_add] at this
  exact ⟨h0 0 _ rfl (by omega), h0 1 _ rfl (by omega), h0 2 _ rfl (by omega), h0 3 _ rfl (by omega), h0 4 _ rfl (by omega)⟩
/-- What is right of a node is small. -/
theorem Right.small {ns : List Int} {es : List Ed} {r x d : Int} {A : Rr} (hok : graphOk ns es = true) (hr : r ∈ ns) (h : Right es r x d A) (hd : Ds es r x d) : KOk A := by
  have hp := graphOk_pos hok
  have hdb : d ≤ 24000 := by
    rcases bf_all hok hr x with ⟨d1, h1, _, _, h4⟩ | ⟨h1, _⟩
    · have := graphOk_n24 hok
      have := h1.uniq hd
      omega
    · exact absurd hd (h1 d)
  have h1 := (h.lw.pos hp).1
  have h2 := (h.mw.pos hp).1
  have := h.l0
  have := h.m0
  refine ⟨by omega, by omega, by omega, by omega, ?_⟩
  by_cases hx : x = r
  · rw [h.root hx]; simp
  · have hsub : ∀ y ∈ A.next, y ∈ ns := fun y hy => by
      obtain ⟨e, he, _, h3, _⟩ := (h.nx hx y).1 hy
      rw [← h3]
      exact ((graphOk_bd hok).2.1 e he).2
    have hnd : A.next.Nodup := h.np.imp fun hab => by omega
    have := nodup_le hnd hsub
    have := graphOk_n24 hok
    omega
end Go.Proofs.Ytabnecicidkmhaa
namespace Go.Proofs.Ytabnecicidkmhaa
open Go.RowKit

/-- What is told of a node, while it is gathered in the block b. -/
structure OnM (lo : Nat) (W2 wr : World) (b : Nat) (A : Rr) (v : Value) : Prop where
  fr : Fr (fun j => j = b) W2 wr
  blk : wr.heap[b]? = some (.cells #[.int .i64 A.node, .int .i64 A.cost, .int .i64 A.least, .int .i64 A.most, v] 34)
  nx : NxI lo wr v A.next
theorem OnM.keep {lo : Nat} {W2 wr wr' : World} {b : Nat} {A : Rr} {v : Value} (h : OnM lo W2 wr b A v) (hb : Below wr.heap.size wr wr') : OnM lo W2 wr' b A v :=
  ⟨h.fr.trans (Fr.of_below hb), (hb.block _ (block_lt h.blk)).trans h.blk, h.nx.keep hb (Nat.le_refl _)⟩
theorem OnM.ty {lo : Nat} {W2 wr : World} {b : Nat} {A : Rr} {v : Value} (h : OnM lo W2 wr b A v) : ∀ j cur, j = b → wr.heap[j]? ≠ some (.cells cur 3) := fun j cur e hj => by
  rw [e, h.blk] at hj
  simp at hj
theorem OnM.setL {lo : Nat} {W2 wr : World} {b : Nat} {A : Rr} {v : Value} (h : OnM lo W2 wr b A v) (y : Int) : OnM lo W2 (wr.setCell ⟨b, 2, none⟩ (.int .i64 y)) b ⟨A.node, A.cost, y, A.most, A.next⟩ v := by
  have hF := (Fr.refl (fun j => j = b) wr).set (p := ⟨b, 2, none⟩) rfl (.int .i64 y)
  refine ⟨h.fr.trans hF, ?_, h.nx.fr hF h.ty⟩
  have := heap_setCell_same wr b 2 _ _ (.int .i64 y) h.blk
  simpa using this
theorem OnM.setM {lo : Nat} {W2 wr : World} {b : Nat} {A : Rr} {v : Value} (h : OnM lo W2 wr b A v) (y : Int) : OnM lo W2 (wr.setCell ⟨b, 3, none⟩ (.int .i64 y)) b ⟨A.node, A.cost, A.least, y, A.next⟩ v := by
  have hF := (Fr.refl (fun j => j = b) wr).set (p := ⟨b, 3, none⟩) rfl (.int .i64 y)
  refine ⟨h.fr.trans hF, ?_, h.nx.fr hF h.ty⟩
  have := heap_setCell_same wr b 3 _ _ (.int .i64 y) h.blk
  simpa using this
theorem OnM.setN {lo : Nat} {W2 wr : World} {b : Nat} {A : Rr} {v u : Value} {l : List Int} (h : OnM lo W2 wr b A v) (hu : NxI lo wr u l) : OnM lo W2 (wr.setCell ⟨b, 4, none⟩ u) b ⟨A.node, A.cost, A.least, A.most, l⟩ u := by
  have hF := (Fr.refl (fun j => j = b) wr).set (p := ⟨b, 4, none⟩) rfl u
  refine ⟨h.fr.trans hF, ?_, hu.fr hF h.ty⟩
  have := heap_setCell_same wr b 4 _ _ u h.blk
  simpa using this
/-- Two cells that stay. -/
def S21 (q f : Nat) (u : Value) (nb no : Nat) (x : Int) (wx : World) : Prop := wx.cell? ⟨q, f, none⟩ = some u ∧ wx.cell? ⟨nb, no, none⟩ = some (.int .i64 x)
theorem S21.keep {q f : Nat} {u : Value} {nb no : Nat} {x : Int} {wx wy : World} (h : S21 q f u nb no x wx) (hb : Below wx.heap.size wx wy) : S21 q f u nb no x wy :=
  ⟨(hb.cell (p := ⟨q, f, none⟩) (block_lt_of_cell h.1)).trans h.1, (hb.cell (p := ⟨nb, no, none⟩) (block_lt_of_cell h.2)).trans h.2⟩
theorem cell_set_ne {wx : World} {g j b k : Nat} (h : g ≠ b) (u : Value) : (wx.setCell ⟨b, k, none⟩ u).cell? ⟨g, j, none⟩ = wx.cell? ⟨g, j, none⟩ := by
  by_cases hg : g < wx.heap.size
  · have := (((Fr.refl (fun i => i = b) wx).set (p := ⟨b, k, none⟩) rfl u).block g hg h)
    exact World.cell?_of_block (a := ⟨g, j, none⟩) this
  · have h1 : ∀ w : World, w.heap.size ≤ g → w.cell? ⟨g, j, none⟩ = none := fun w hw => by
      cases hc : w.cell? ⟨g, j, none⟩ with
      | none => rfl
      | some y => have := block_lt_of_cell hc; simp only at this; omega
    rw [h1 wx (by omega), h1 _ (by rw [World.size_setCell]; omega)]
theorem S21.set {q f : Nat} {u : Value} {nb no : Nat} {x : Int} {wx : World} {b k : Nat} (h : S21 q f u nb no x wx) (h1 : q ≠ b) (h2 : nb ≠ b) (v : Value) : S21 q f u nb no x (wx.setCell ⟨b, k, none⟩ v) :=
  ⟨by rw [cell_set_ne h1]; exact h.1, by rw [cell_set_ne h2]; exact h.2⟩


theorem withF_len : ∀ (m l : List Int), (m.foldl withL l).length ≤ l.length + m.length
  | [], l => by simp
  | n :: m, l => by
    rw [List.foldl_cons, List.length_cons]
    have := withF_len m (withL l n)
    have := withL_len (l := l) (n := n)
    omega
theorem oneF_len {r x : Int} {D : Int → Int} {K : Int → Rr} : ∀ (L : List Ed) (s : Bool × Rr), (∀ e ∈ L, (K e.1).next.length ≤ 24) → (L.foldl (oneE r x D K) s).2.next.length ≤ s.2.next.length + 25 * L.length
  | [], s, _ => by simp
  | e :: L, s, h => by
    rw [List.foldl_cons, List.length_cons]
    have h1 := oneF_len (r := r) (x := x) (D := D) (K := K) L (oneE r x D K s e) (fun f hf => h f (List.mem_cons_of_mem _ hf))
    have h2 : (oneE r x D K s e).2.next.length ≤ s.2.next.length + 25 := by
      unfold oneE
      split
      · show (List.foldl withL (if e.1 = r then withL s.2.next x else s.2.next) (K e.1).next).length ≤ _
        have h3 := withF_len (K e.1).next (if e.1 = r then withL s.2.next x else s.2.next)
        have h4 := h e List.mem_cons_self
        have h5 : (if e.1 = r then withL s.2.next x else s.2.next).length ≤ s.2.next.length + 1 := by
          split
          · exact withL_len
          · omega
        omega
      · omega
    omega
theorem oneF_snoc (r x : Int) (D : Int → Int) (K : Int → Rr) (L : List Ed) (e : Ed) : oneF r x D K (L ++ [e]) = oneE r x D K (oneF r x D K L) e := by simp [oneF, List.foldl_append]
set_option maxRecDepth 100000 in
set_option maxHeartbeats 8000000 in
theorem one_any {ns : List Int} {es : List Ed} {vn ve : Value} {w : World} (h : GrAt w vn ve ns es) (hok : graphOk ns es = true) {D : Int → Int} (hD : ∀ z, 0 ≤ D z ∧ D z ≤ 1073741824) {cv kv : Value} (hc : SlAt ic 1 w cv (ns.map D)) {K : Int → Rr} {V : Int → Value} (hk : SlAt rwc 5 w kv (ns.map fun x => (K x, V x))) {lo : Nat} (hlo : lo ≤ w.heap.size) (hV : ∀ x ∈ ns, NxI lo w (V x) (K x).next ∧ KOk (K x)) (r : Int) {i : Nat} {x : Int} (hx : ns[i]? = some x) :
    Calls Try.prog 47 #[grV vn ve, cv, kv, .int .i64 r, .int .i64 (i : Int)] w fun e w' => (∃ v, e = .returned (rchV (oneR r x D K es) v) ∧ NxI lo w' v (oneR r x D K es).next) ∧ Below w.heap.size w w' := by
  have hgr := h
  obtain ⟨na, nca, rfl, hnl, _, hna⟩ := h.n.ints
  obtain ⟨ea, eca, rfl, hel, _, hea⟩ := h.e.eds
  have hil := (List.getElem?_eq_some_iff.1 hx).1
  obtain ⟨nb, no', rfl, hnb, hncell⟩ := hna (by omega)
  have HCs := hidIn hc
  obtain ⟨ca, cca, rfl, _, _, hcc⟩ := hc.ints
  obtain ⟨cb, co, rfl, hcb, hccell⟩ := hcc (by rw [List.length_map]; omega)
  obtain ⟨ka, kca, rfl, _, _, hkk⟩ := hk.rchs
  obtain ⟨kb, ko, rfl, hkb, hkcell⟩ := hkk (by rw [List.length_map]; omega)
  obtain ⟨dx, hdx⟩ : ∃ dx, D x = dx := ⟨_, rfl⟩
  have cx0 := hncell i x hx
  have cd0 := hccell i dx (by rw [List.getElem?_map, hx]; simp [hdx])
  have Hea := hidIn hea
  have HKc : Hid (∀ y p, ns[p]? = some y → w.cell? ⟨kb, ko + p * 5, none⟩ = some (.int .i64 (K y).node) ∧ w.cell? ⟨kb, ko + p * 5 + 1, none⟩ = some (.int .i64 (K y).cost) ∧ w.cell? ⟨kb, ko + p * 5 + 2, none⟩ = some (.int .i64 (K y).least) ∧ w.cell? ⟨kb, ko + p * 5 + 3, none⟩ = some (.int .i64 (K y).most) ∧ w.cell? ⟨kb, ko + p * 5 + 4, none⟩ = some (V y)) := hidIn fun y p hp => hkcell p (K y, V y) (by rw [List.getElem?_map, hp]; rfl)
  have HV := hidIn hV
  have Hlo := hidIn hlo
  have HD := hidIn hD
  rw [List.length_map] at HCs ⊢
  rw [List.length_map]
  obtain ⟨ln, hln⟩ : ∃ ln, ns.length = ln := ⟨_, rfl⟩
  obtain ⟨le, hle⟩ : ∃ le, es.length = le := ⟨_, rfl⟩
  rw [hln] at HCs hnl hil hgr ⊢
  rw [hle] at hel hgr ⊢
  have HG := hidIn hgr
  obtain ⟨W1, hW1⟩ : ∃ W1, (w.alloc (.cells #[.slice (some ⟨nb, no', none⟩) ln nca, .slice ea le eca] 25)).alloc (.cells #[.int .i64 0, .int .i64 0, .int .i64 0, .int .i64 0, .slice none 0 0] 34) = W1 := ⟨_, rfl⟩
  have bA : Below w.heap.size w W1 := by rw [← hW1]; exact ((Below.refl _ w).alloc (Nat.le_refl _) _).alloc (by simp) _
  have hGB : W1.heap[w.heap.size]? = some (.cells #[.slice (some ⟨nb, no', none⟩) ln nca, .slice ea le eca] 25) := by rw [← hW1, Below.heap_alloc _ _ _ (by simp)]; exact heap_alloc_last w _
  have hRB : W1.heap[w.heap.size + 1]? = some (.cells #[.int .i64 0, .int .i64 0, .int .i64 0, .int .i64 0, .slice none 0 0] 34) := by
    rw [← hW1]
    have := heap_alloc_last (w.alloc (.cells #[.slice (some ⟨nb, no', none⟩) ln nca, .slice ea le eca] 25)) (.cells #[.int .i64 0, .int .i64 0, .int .i64 0, .int .i64 0, .slice none 0 0] 34)
    rwa [World.size_alloc] at this
  obtain ⟨q, hqe⟩ : ∃ q, w.heap.size = q := ⟨_, rfl⟩
  rw [hqe] at hGB hRB
  have HCl : Hid (∀ wq, Below W1.heap.size W1 wq → wq.cell? ⟨q, 0, none⟩ = some (.slice (some ⟨nb, no', none⟩) ln nca) ∧ wq.cell? ⟨nb, no' + i, none⟩ = some (.int .i64 x) ∧ wq.cell? ⟨cb, co + i, none⟩ = some (.int .i64 dx)) := hidIn fun wq hq => by
    have j0 := (hq.block _ (block_lt hGB)).trans hGB
    have hb := bA.trans (hq.mono bA.size)
    exact ⟨cell_of_row _ _ 0 _ _ _ j0, (hb.cell (p := ⟨nb, no' + i, none⟩) hnb).trans cx0, (hb.cell (p := ⟨cb, co + i, none⟩) hcb).trans cd0⟩
  have HW := hidIn hW1
  have Hln := hidIn hln
  have Hle := hidIn hle
  have HGB := hidIn hGB
  have HRB := hidIn hRB
  have HbA := hidIn bA
  have Hqe := hidIn hqe
  have Hkb := hidIn hkb
  have Hcx := hidIn (And.intro hnb cx0)
  have Hok := hidIn hok
  have Hx := hidIn hx
  have Hdx := hidIn hdx
  have hii : (i : Int) < (ln : Int) := by omega
  clear hW1 bA hGB hRB hgr h hc hk hna hea hncell hcc hccell hkk hkcell hV hD hlo hln hle hcb hnb hkb cx0 cd0 hok hx hdx
  go_enter Try.func47, Try.ntmps47
  go_upto_region 1 with fail
  rw [HW.out]
  clear HW hqe
  refine wp_region_held_drew (S := fun wx => Below W1.heap.size W1 wx) (by kernel_rfl) ((Below.refl _ W1).drew) (fun hHeld => ?_)
  have hd0 : Below W1.heap.size W1 W1.drew := hHeld
  obtain ⟨wd, hwd⟩ : ∃ wd, W1.drew = wd := ⟨_, rfl⟩
  rw [hwd] at hd0 ⊢
  clear hwd hHeld
  refine wpAnyH_take (i := 0) (v := .pointer (some ⟨q, 0, none⟩)) rfl (by kernel_rfl) (by kernel_rfl) (by kernel_rfl) (fun _ _ _ h => h) (Or.inl ⟨by kernel_rfl, fun _ _ => by kernel_rfl⟩) (by assumption) ?_
  refine wpAnyH_take (i := 1) (v := .slice (some ⟨nb, no', none⟩) ln nca) rfl (by kernel_rfl) (by kernel_rfl) (by kernel_rfl) (fun _ _ _ h => h) (Or.inl ⟨by kernel_rfl, fun wq hSw => by
      obtain ⟨s0, s1, s2⟩ := HCl.out wq hSw
      have s3 := zeroRch wq
      go_simp⟩) (by assumption) ?_
  refine wpAnyH_take (i := 2) (v := .int .i64 (i : Int)) rfl (by kernel_rfl) (by kernel_rfl) (by kernel_rfl) (fun _ _ _ h => h) (Or.inl ⟨by kernel_rfl, fun _ _ => by kernel_rfl⟩) (by assumption) ?_
  refine wpAnyH_take (i := 3) (v := .pointer (some ⟨nb, no' + i, none⟩)) rfl (by kernel_rfl) (by kernel_rfl) (by kernel_rfl) (fun _ _ _ h => h) (Or.inl ⟨by kernel_rfl, fun wq hSw => by
      obtain ⟨s0, s1, s2⟩ := HCl.out wq hSw
      have s3 := zeroRch wq
      go_simp⟩) (by assumption) ?_
  refine wpAnyH_take (i := 4) (v := .int .i64 x) rfl (by kernel_rfl) (by kernel_rfl) (by kernel_rfl) (fun _ _ _ h => h) (Or.inl ⟨by kernel_rfl, fun wq hSw => by
      obtain ⟨s0, s1, s2⟩ := HCl.out wq hSw
      have s3 := zeroRch wq
      go_simp⟩) (by assumption) ?_
  refine wpAnyH_take (i := 5) (v := .slice (some ⟨cb, co, none⟩) ln cca) rfl (by kernel_rfl) (by kernel_rfl) (by kernel_rfl) (fun _ _ _ h => h) (Or.inl ⟨by kernel_rfl, fun _ _ => by kernel_rfl⟩) (by assumption) ?_
  refine wpAnyH_take (i := 6) (v := .int .i64 (i : Int)) rfl (by kernel_rfl) (by kernel_rfl) (by kernel_rfl) (fun _ _ _ h => h) (Or.inl ⟨by kernel_rfl, fun _ _ => by kernel_rfl⟩) (by assumption) ?_
  refine wpAnyH_take (i := 7) (v := .pointer (some ⟨cb, co + i, none⟩)) rfl (by kernel_rfl) (by kernel_rfl) (by kernel_rfl) (fun _ _ _ h => h) (Or.inl ⟨by kernel_rfl, fun wq hSw => by
      obtain ⟨s0, s1, s2⟩ := HCl.out wq hSw
      have s3 := zeroRch wq
      go_simp⟩) (by assumption) ?_
  refine wpAnyH_take (i := 8) (v := .int .i64 dx) rfl (by kernel_rfl) (by kernel_rfl) (by kernel_rfl) (fun _ _ _ h => h) (Or.inl ⟨by kernel_rfl, fun wq hSw => by
      obtain ⟨s0, s1, s2⟩ := HCl.out wq hSw
      have s3 := zeroRch wq
      go_simp⟩) (by assumption) ?_
  refine wpAnyH_take (i := 9) (v := .agg #[.int .i64 x, .int .i64 dx, .int .i64 0, .int .i64 0, .slice none 0 0]) rfl (by kernel_rfl) (by kernel_rfl) (by kernel_rfl) (fun _ _ _ h => h) (Or.inl ⟨by kernel_rfl, fun wq hSw => by
      obtain ⟨s0, s1, s2⟩ := HCl.out wq hSw
      have s3 := zeroRch wq
      go_simp⟩) (by assumption) ?_
  refine wpAnyH_ready (rs := [10]) (by kernel_rfl) (by simp) ?_
  refine AllReadyH.cons (i := 10) rfl ?_ AllReadyH.nil
  have hz := heap_alloc_last wd (.cells #[.int .i64 0, .int .i64 0, .int .i64 0, .int .i64 0, .slice none 0 0] 34)
  have hbz := hd0.alloc hd0.size (.cells #[.int .i64 0, .int .i64 0, .int .i64 0, .int .i64 0, .slice none 0 0] 34)
  have zz := zeroRch wd
  go_simp
  intro K0 hK
  refine hK.out _ _ hbz (fun _ => ?_)
  clear hK K0 zz
  have hds := hd0.size
  generalize World.alloc _ _ = w6 at hz hbz ⊢
  generalize wd.heap.size = b at hz hds ⊢
  clear hd0
  refine wpAnyH_ready (rs := [11]) (by kernel_rfl) (by simp) ?_
  refine AllReadyH.cons (i := 11) rfl ?_ AllReadyH.nil
  have z0 := cell_of_row _ _ 0 _ _ _ hz
  have z1 := cell_of_row _ _ 1 _ _ _ hz
  have z2 := cell_of_row _ _ 2 _ _ _ hz
  have z3 := cell_of_row _ _ 3 _ _ _ hz
  have z4 := cell_of_row _ _ 4 _ _ _ hz
  simp at z0 z1 z2 z3 z4
  have y0 := frozen_new hz 0
  have y1 := frozen_new hz 1
  have y2 := frozen_new hz 2
  have y3 := frozen_new hz 3
  have y4 := frozen_new hz 4
  have hset := set5 (.int .i64 x) (.int .i64 dx) (.int .i64 0) (.int .i64 0) (.slice none 0 0) hz
  have hbs := below5 (.int .i64 x) (.int .i64 dx) (.int .i64 0) (.int .i64 0) (.slice none 0 0) hbz hds
  go_simp
  intro K0 hK
  generalize (((((World.setCell _ _ _).setCell _ _).setCell _ _).setCell _ _).setCell _ _) = W2 at hset hbs ⊢
  refine hK.out _ _ hbs (fun _ => ?_)
  clear hK K0 z0 z1 z2 z3 z4 y0 y1 y2 y3 y4 hz hbz w6
  refine wpAnyH_done (by kernel_rfl) ?_ _
  have Hb2 : Hid (W1.heap.size ≤ b) := hidIn hds
  have HBs := hidIn hbs
  have HM2 : Hid (OnM lo W2 W2 b ⟨x, dx, 0, 0, []⟩ (.slice none 0 0)) := hidIn ⟨Fr.refl _ _, hset, .inl ⟨rfl, rfl⟩⟩
  have HF : Hid (∀ wq, Fr (fun j => j = b) W2 wq → ((wq.cell? ⟨q, 0, none⟩ = some (.slice (some ⟨nb, no', none⟩) ln nca) ∧ wq.cell? ⟨q, 1, none⟩ = some (.slice ea le eca)) ∧ wq.cell? ⟨nb, no' + i, none⟩ = some (.int .i64 x)) ∧ wq.heap[q + 1]? = some (.cells #[.int .i64 0, .int .i64 0, .int .i64 0, .int .i64 0, .slice none 0 0] 34) ∧ Below w.heap.size w wq) := hidIn fun wq hq => by
    have h1 := block_lt HGB.out
    have h2 := block_lt HRB.out
    have h3 := HBs.out.size
    have hbw := HbA.out.trans (HBs.out.mono HbA.out.size)
    have j0 := (hq.block q (by omega) (by omega)).trans ((HBs.out.block q h1).trans HGB.out)
    have j1 := (hq.block (q + 1) (by omega) (by omega)).trans ((HBs.out.block (q + 1) h2).trans HRB.out)
    have hb := hbw.trans (hq.below hbw.size (fun k hk => by have := Hqe.out; omega))
    exact ⟨⟨⟨cell_of_row _ _ 0 _ _ _ j0, cell_of_row _ _ 1 _ _ _ j0⟩, (hb.cell (p := ⟨nb, no' + i, none⟩) Hcx.out.1).trans Hcx.out.2⟩, j1, hb⟩
  have HQb : Hid (q ≠ b) := hidIn (by have := block_lt HGB.out; omega)
  have HNb : Hid (nb ≠ b) := hidIn (by have := Hcx.out.1; have := HbA.out.size; omega)
  have HEnd : Hid (∀ wq A v, OnM lo W2 wq b A v → (((((wq.setCell ⟨q + 1, 0, none⟩ (.int .i64 A.node)).setCell ⟨q + 1, 1, none⟩ (.int .i64 A.cost)).setCell ⟨q + 1, 2, none⟩ (.int .i64 A.least)).setCell ⟨q + 1, 3, none⟩ (.int .i64 A.most)).setCell ⟨q + 1, 4, none⟩ v).heap[q + 1]? = some (.cells #[.int .i64 A.node, .int .i64 A.cost, .int .i64 A.least, .int .i64 A.most, v] 34) ∧ NxI lo (((((wq.setCell ⟨q + 1, 0, none⟩ (.int .i64 A.node)).setCell ⟨q + 1, 1, none⟩ (.int .i64 A.cost)).setCell ⟨q + 1, 2, none⟩ (.int .i64 A.least)).setCell ⟨q + 1, 3, none⟩ (.int .i64 A.most)).setCell ⟨q + 1, 4, none⟩ v) v A.next ∧ Below w.heap.size w (((((wq.setCell ⟨q + 1, 0, none⟩ (.int .i64 A.node)).setCell ⟨q + 1, 1, none⟩ (.int .i64 A.cost)).setCell ⟨q + 1, 2, none⟩ (.int .i64 A.least)).setCell ⟨q + 1, 3, none⟩ (.int .i64 A.most)).setCell ⟨q + 1, 4, none⟩ v)) := hidIn fun wq A v hM => by
    obtain ⟨_, h1, h2⟩ := HF.out wq hM.fr
    have hFr : Fr (fun j => j = q + 1) wq (((((wq.setCell ⟨q + 1, 0, none⟩ (.int .i64 A.node)).setCell ⟨q + 1, 1, none⟩ (.int .i64 A.cost)).setCell ⟨q + 1, 2, none⟩ (.int .i64 A.least)).setCell ⟨q + 1, 3, none⟩ (.int .i64 A.most)).setCell ⟨q + 1, 4, none⟩ v) := (((((Fr.refl (fun j => j = q + 1) wq).set (p := ⟨q + 1, 0, none⟩) rfl _).set (p := ⟨q + 1, 1, none⟩) rfl _).set (p := ⟨q + 1, 2, none⟩) rfl _).set (p := ⟨q + 1, 3, none⟩) rfl _).set (p := ⟨q + 1, 4, none⟩) rfl _
    refine ⟨set5 _ _ _ _ _ h1, hM.nx.fr hFr (fun j cur e hj => ?_), below5 _ _ _ _ _ h2 (by have := Hqe.out; omega)⟩
    rw [e, h1] at hj
    simp at hj
  clear hset hbs HCl
  obtain ⟨⟨⟨f0, _⟩, cx⟩, hz, _⟩ := HF.out W2 (Fr.refl _ _)
  by_cases hxr : x = r
  · have hq : (x == r) = true := by simpa using hxr
    have HR : Hid (oneR r x D K es = ⟨x, dx, 0, 0, []⟩) := hidIn (by unfold oneR; rw [if_pos hxr, Hdx.out])
    have HE := hidIn (HEnd.out _ _ _ HM2.out)
    have p0 := cell_of_row _ _ 0 _ _ _ HM2.out.blk
    have p1 := cell_of_row _ _ 1 _ _ _ HM2.out.blk
    have p2 := cell_of_row _ _ 2 _ _ _ HM2.out.blk
    have p3 := cell_of_row _ _ 3 _ _ _ HM2.out.blk
    have p4 := cell_of_row _ _ 4 _ _ _ HM2.out.blk
    have z0 := cell_of_row _ _ 0 _ _ _ hz
    have z1 := cell_of_row _ _ 1 _ _ _ hz
    have z2 := cell_of_row _ _ 2 _ _ _ hz
    have z3 := cell_of_row _ _ 3 _ _ _ hz
    have z4 := cell_of_row _ _ 4 _ _ _ hz
    simp at p0 p1 p2 p3 p4 z0 z1 z2 z3 z4
    have y0 := frozen_new hz 0
    have y1 := frozen_new hz 1
    have y2 := frozen_new hz 2
    have y3 := frozen_new hz 3
    have y4 := frozen_new hz 4
    clear hxr hz
    go_wp2_with fail
    obtain ⟨hE1, hE2, hE3⟩ := HE.out
    generalize (((((World.setCell _ _ _).setCell _ _).setCell _ _).setCell _ _).setCell _ _) = W9 at hE1 hE2 hE3 ⊢
    have e0 := cell_of_row _ _ 0 _ _ _ hE1
    have e1 := cell_of_row _ _ 1 _ _ _ hE1
    have e2 := cell_of_row _ _ 2 _ _ _ hE1
    have e3 := cell_of_row _ _ 3 _ _ _ hE1
    have e4 := cell_of_row _ _ 4 _ _ _ hE1
    simp at e0 e1 e2 e3 e4
    refine bodyPost_ret (v := rchV ⟨x, dx, 0, 0, []⟩ (.slice none 0 0)) (by simp [results, Try.results47, asAddr, Result.andThen, go_sem, e0, e1, e2, e3, e4]) rfl ⟨⟨_, by rw [HR.out], by rw [HR.out]; exact hE2⟩, hE3⟩
  · have hq : (x == r) = false := by simpa using hxr
    have HR : Hid (oneR r x D K es = (oneF r x D K es).2) := hidIn (by unfold oneR; rw [if_neg hxr])
    clear hz hxr
    have HLb : Hid (∀ k, (oneF r x D K (es.take k)).2.next.length ≤ 9600) := hidIn fun k => by
      have h1 := oneF_len (r := r) (x := x) (D := D) (K := K) (es.take k) (oneS x D) (fun e he => (HV.out _ ((graphOk_bd Hok.out).2.1 _ (List.mem_of_mem_take he)).1).2.2.2.2.2)
      have h2 : es.length ≤ 384 := by
        have := Hok.out
        simp only [graphOk, Bool.and_eq_true, decide_eq_true_eq] at this
        exact this.2.1
      have h3 : (es.take k).length ≤ es.length := by rw [List.length_take]; omega
      have h4 : (oneS x D).2.next.length = 0 := rfl
      unfold oneF
      omega
    go_wp2_with fail
    go_loopw [12, 13] (fun fs j wr => ∃ (k : Nat) (fst : Bool), k ≤ le ∧ j = .int .i64 k ∧ fs = .bool fst ∧ Hid (fst = (oneF r x D K (es.take k)).1 ∧ ∃ v, OnM lo W2 wr b (oneF r x D K (es.take k)).2 v)) (fun _ j _ => le - (intOf j).toNat)
    case atStart => exact ⟨0, true, Nat.zero_le _, rfl, rfl, hidIn ⟨rfl, _, by have := HM2.out; rw [← Hdx.out] at this; exact this⟩⟩
    case round =>
      clear HM2 f0 cx
      obtain ⟨k, fst, hk, rfl, rfl, HM⟩ := hrel
      obtain ⟨hfst, v, hM⟩ := HM.out
      clear HM
      obtain ⟨⟨⟨f0, f1⟩, cx⟩, hz, hBw⟩ := HF.out wr hM.fr
      by_cases hlt : k < le
      rotate_left
      · have hki : ¬ ((k : Int) < (le : Int)) := by omega
        have hte : es.take k = es := List.take_of_length_le (by have := Hle.out; omega)
        rw [hte] at hM hfst
        obtain ⟨A, hA⟩ : ∃ A, (oneF r x D K es).2 = A := ⟨_, rfl⟩
        rw [hA] at hM
        have HRA : Hid (oneR r x D K es = A) := hidIn (by rw [HR.out, hA])
        obtain ⟨va, vc, hvs⟩ := hM.nx.shape
        rw [hvs] at hM
        generalize A.next.length = vl at hM hvs
        have HM2 := hidIn hM
        have HE := hidIn (HEnd.out _ _ _ HM2.out)
        obtain ⟨an, ac, al, am, anx⟩ := A
        have p0 := cell_of_row _ _ 0 _ _ _ HM2.out.blk
        have p1 := cell_of_row _ _ 1 _ _ _ HM2.out.blk
        have p2 := cell_of_row _ _ 2 _ _ _ HM2.out.blk
        have p3 := cell_of_row _ _ 3 _ _ _ HM2.out.blk
        have p4 := cell_of_row _ _ 4 _ _ _ HM2.out.blk
        have z0 := cell_of_row _ _ 0 _ _ _ hz
        have z1 := cell_of_row _ _ 1 _ _ _ hz
        have z2 := cell_of_row _ _ 2 _ _ _ hz
        have z3 := cell_of_row _ _ 3 _ _ _ hz
        have z4 := cell_of_row _ _ 4 _ _ _ hz
        simp at p0 p1 p2 p3 p4 z0 z1 z2 z3 z4
        have y0 := frozen_new hz 0
        have y1 := frozen_new hz 1
        have y2 := frozen_new hz 2
        have y3 := frozen_new hz 3
        have y4 := frozen_new hz 4
        clear hz hM hA hvs hfst hte HR hBw
        go_wp2_with fail
        obtain ⟨hE1, hE2, hE3⟩ := HE.out
        generalize (((((World.setCell _ _ _).setCell _ _).setCell _ _).setCell _ _).setCell _ _) = W9 at hE1 hE2 hE3 ⊢
        have e0 := cell_of_row _ _ 0 _ _ _ hE1
        have e1 := cell_of_row _ _ 1 _ _ _ hE1
        have e2 := cell_of_row _ _ 2 _ _ _ hE1
        have e3 := cell_of_row _ _ 3 _ _ _ hE1
        have e4 := cell_of_row _ _ 4 _ _ _ hE1
        simp at e0 e1 e2 e3 e4
        refine bodyPost_ret (v := rchV ⟨an, ac, al, am, anx⟩ (.slice va vl vc)) (by simp [results, Try.results47, asAddr, Result.andThen, go_sem, e0, e1, e2, e3, e4]) rfl ⟨⟨_, by rw [HRA.out], by rw [HRA.out]; exact hE2⟩, hE3⟩
      · have hki : (k : Int) < (le : Int) := by omega
        obtain ⟨bk, o, rfl, hbk, hcell⟩ := Hea.out (by have := Hle.out; omega)
        obtain ⟨⟨ex, ey, ec⟩, hze⟩ : ∃ z, es[k]? = some z := ⟨es[k]'(by have := Hle.out; omega), List.getElem?_eq_getElem _⟩
        obtain ⟨q0, q1, q2⟩ := hcell k _ hze
        have hmem := List.mem_of_getElem? hze
        simp only at q0 q1 q2
        have c0 := (hBw.cell (p := ⟨bk, o + k * 3, none⟩) hbk).trans q0
        have c1 := (hBw.cell (p := ⟨bk, o + k * 3 + 1, none⟩) hbk).trans q1
        have c2 := (hBw.cell (p := ⟨bk, o + k * 3 + 2, none⟩) hbk).trans q2
        obtain ⟨bt, hbt⟩ : ∃ bt, tgI D (ex, ey, ec) = bt := ⟨_, rfl⟩
        obtain ⟨w3, hw3⟩ : ∃ w3, wr.alloc (.cells #[.int .i64 ex, .int .i64 ey, .int .i64 ec] 54) = w3 := ⟨_, rfl⟩
        have hb3 : Below wr.heap.size wr w3 := by rw [← hw3]; exact (Below.refl _ wr).alloc (Nat.le_refl _) _
        have hE3 : w3.heap[wr.heap.size]? = some (.cells #[.int .i64 ex, .int .i64 ey, .int .i64 ec] 54) := by rw [← hw3]; exact heap_alloc_last wr _
        have hB3 := hBw.trans (hb3.mono hBw.size)
        have hM3 := hM.keep hb3
        obtain ⟨b14, hb14⟩ : ∃ b14, wr.heap.size = b14 := ⟨_, rfl⟩
        rw [hb14] at hE3
        have HT : Hid (∀ dd os, Calls Try.prog 35 #[grV (.slice (some ⟨nb, no', none⟩) ln nca) (.slice (some ⟨bk, o, none⟩) le eca), .slice (some ⟨cb, co, none⟩) ln cca, edV (ex, ey, ec)] (Go.Sort.grow (redrawn w3 dd) os) fun e w' => e = .returned (.bool bt) ∧ Below (Go.Sort.grow (redrawn w3 dd) os).heap.size (Go.Sort.grow (redrawn w3 dd) os) w') := hidIn fun dd os => by
          have hb := below_regrown w3 dd os
          have := tight_any (HG.out.keep (hB3.trans (hb.mono hB3.size)) (Nat.le_refl _)) Hok.out (HCs.out.keep (hB3.trans (hb.mono hB3.size)) (Nat.le_refl _)) HD.out hmem
          rwa [hbt] at this
        have Hes : Hid (es.take (k + 1) = es.take k ++ [(ex, ey, ec)]) := hidIn (take_snoc hze)
        have Hsel : Hid (selE x D (ex, ey, ec) = (decide (ey = x) && bt)) := hidIn (by unfold selE; rw [hbt])
        have HM3 := hidIn hM3
        have Hfst := hidIn hfst
        have HE3 := hidIn hE3
        have Hmem := hidIn hmem
        obtain ⟨⟨⟨m0, m1⟩, mx⟩, _, _⟩ := HF.out w3 hM3.fr
        have i0 := cell_of_row _ _ 0 _ _ _ hE3
        have i1 := cell_of_row _ _ 1 _ _ _ hE3
        have i2 := cell_of_row _ _ 2 _ _ _ hE3
        simp at i0 i1 i2
        have g0 := cell_regrown m0
        have g1 := cell_regrown m1
        have g2 := cell_regrown mx
        have g3 := cell_regrown i0
        have g4 := cell_regrown i1
        have g5 := cell_regrown i2
        have HW3 := hidIn hw3
        clear hcell hze q0 q1 q2 hmem hbt hBw hbk hw3 hb3 hE3 hM hM3 hB3 hfst hz m0 m1 mx i0 i1 i2
        by_cases hyx : ey = x
        rotate_left
        · have hq2 : (ey != x) = true := by simpa using hyx
          have Hs : Hid (oneF r x D K (es.take (k + 1)) = oneF r x D K (es.take k)) := hidIn (by
            rw [Hes.out, oneF_snoc]
            unfold oneE
            rw [if_neg (by rw [Hsel.out, decide_eq_false hyx]; simp)])
          clear hyx
          go_upto_region 9 with fail
          rw [HW3.out]
          clear f0 f1 cx c0 c1 c2 hb14
          refine wp_region_quiet_below (by kernel_rfl) (by kernel_rfl) ?_
          repeat (go_big_quiet_step (first | (go_at_call 35; exact Calls.regrown_of (HT.out _ _))))
          refine wpQuiet_nil ?_
          intro _ hw'
          obtain ⟨⟨dq, osq⟩, hw''⟩ := hw'
          subst hw''
          have HMv := hidIn (HM3.out.keep (below_regrown w3 dq osq))
          generalize Go.Sort.grow (redrawn w3 dq) osq = wv at HMv ⊢
          clear g0 g1 g2 g3 g4 g5 HT
          go_wp2_with fail
          go_roundw
          case rel => exact ⟨k + 1, fst, by omega, by go_num, rfl, hidIn (by rw [Hs.out]; exact ⟨Hfst.out, _, HMv.out⟩)⟩
          case measure => simp [intOf]; omega
        have hq2 : (ey != x) = false := by simpa using hyx
        have Hyx := hidIn hyx
        clear hyx
        go_upto_region 9 with fail
        rw [HW3.out]
        clear f0 f1 cx c0 c1 c2 hb14
        refine wp_region_quiet_below (by kernel_rfl) (by kernel_rfl) ?_
        repeat (go_big_quiet_step (first | (go_at_call 35; exact Calls.regrown_of (HT.out _ _))))
        refine wpQuiet_nil ?_
        intro _ hw'
        obtain ⟨⟨dq, osq⟩, hw''⟩ := hw'
        subst hw''
        have hb := below_regrown w3 dq osq
        have HMv := hidIn (HM3.out.keep hb)
        have HEv := hidIn ((hb.block _ (block_lt HE3.out)).trans HE3.out)
        generalize Go.Sort.grow (redrawn w3 dq) osq = wv at HMv HEv ⊢
        clear g0 g1 g2 g3 g4 g5 HT hb
        cases bt
        · have Hs : Hid (oneF r x D K (es.take (k + 1)) = oneF r x D K (es.take k)) := hidIn (by
            rw [Hes.out, oneF_snoc]
            unfold oneE
            rw [if_neg (by rw [Hsel.out]; simp)])
          go_wp2_with fail
          go_roundw
          case rel => exact ⟨k + 1, fst, by omega, by go_num, rfl, hidIn (by rw [Hs.out]; exact ⟨Hfst.out, _, HMv.out⟩)⟩
          case measure => simp [intOf]; omega
        · have Hs : Hid (oneF r x D K (es.take (k + 1)) = (false, addO r x (K ex) (oneF r x D K (es.take k)).1 (oneF r x D K (es.take k)).2 (ex, ey, ec))) := hidIn (by
            rw [Hes.out, oneF_snoc]
            unfold oneE
            rw [if_pos (by rw [Hsel.out, decide_eq_true Hyx.out]; rfl)])
          rw [← Hfst.out] at Hs
          have HL0 := hidIn (HLb.out k)
          obtain ⟨⟨an, ac, al, am, anx⟩, hA⟩ : ∃ A, (oneF r x D K (es.take k)).2 = A := ⟨_, rfl⟩
          rw [hA] at HMv Hs HL0
          clear hA Hfst HM3 HE3
          obtain ⟨hexn, _⟩ := (graphOk_bd Hok.out).2.1 _ Hmem.out
          simp only at hexn
          obtain ⟨py, hpy⟩ : ∃ py, ns[py]? = some ex := List.getElem?_of_mem hexn
          have hiy := plI_some (plN_nodup (graphOk_nn Hok.out) hpy)
          have hpyl : (py : Int) < (ln : Int) := by have := (List.getElem?_eq_some_iff.1 hpy).1; have := Hln.out; omega
          obtain ⟨hNx, hK0, hK1, hK2, hK3, hK4⟩ := HV.out ex hexn
          have hkc := HKc.out ex py hpy
          have Hfin : Hid (∀ B, B.node = an → B.cost = ac → B.least = (if fst = true ∨ (K ex).least + 1 < al then (K ex).least + 1 else al) → B.most = (if fst = true ∨ am < (K ex).most + 1 then (K ex).most + 1 else am) → B.next = (K ex).next.foldl withL (if ex = r then withL anx x else anx) → oneF r x D K (es.take (k + 1)) = (false, B)) := hidIn fun B h1 h2 h3 h4 h5 => by
            rw [Hs.out]
            unfold addO
            obtain ⟨b1, b2, b3, b4, b5⟩ := B
            simp only at h1 h2 h3 h4 h5
            rw [h1, h2, h3, h4, h5]
          obtain ⟨⟨kn, kc, rl, rm, rnx⟩, hKx⟩ : ∃ A, K ex = A := ⟨_, rfl⟩
          rw [hKx] at hNx hK0 hK1 hK2 hK3 hK4 hkc Hfin
          simp only at hNx hK0 hK1 hK2 hK3 hK4 hkc Hfin HL0
          obtain ⟨ra, rc, hVx⟩ := hNx.shape
          rw [hVx] at hNx hkc
          obtain ⟨rn, hrn⟩ : ∃ rn, rnx.length = rn := ⟨_, rfl⟩
          rw [hrn] at hNx hkc hK4
          have HNx := hidIn hNx
          have Hrn := hidIn hrn
          have HP := hidIn (place_any (HG.out.keep (HF.out wv HMv.out.fr).2.2 (Nat.le_refl _)) ex)
          rw [hiy] at HP
          have Hkc := hidIn hkc
          obtain ⟨⟨⟨f0, f1⟩, _⟩, _, _⟩ := HF.out wv HMv.out.fr
          have i0 := cell_of_row _ _ 0 _ _ _ HEv.out
          simp at i0
          clear hNx hVx hKx hkc hiy hpy hexn hrn Hs
          go_wp2_with fail
          refine HP.out.mono ?_
          rintro e w3' ⟨rfl, hb3⟩
          have HM3 := hidIn (HMv.out.keep hb3)
          have hBw := (HF.out w3' HM3.out.fr).2.2
          obtain ⟨t0, t1, t2, t3, t4⟩ := Hkc.out
          have c0 := (hBw.cell (p := ⟨kb, ko + py * 5, none⟩) Hkb.out).trans t0
          have c1 := (hBw.cell (p := ⟨kb, ko + py * 5 + 1, none⟩) Hkb.out).trans t1
          have c2 := (hBw.cell (p := ⟨kb, ko + py * 5 + 2, none⟩) Hkb.out).trans t2
          have c3 := (hBw.cell (p := ⟨kb, ko + py * 5 + 3, none⟩) Hkb.out).trans t3
          have c4 := (hBw.cell (p := ⟨kb, ko + py * 5 + 4, none⟩) Hkb.out).trans t4
          have HE3 := hidIn ((hb3.block _ (block_lt HEv.out)).trans HEv.out)
          clear t0 t1 t2 t3 t4 hb3 HMv HEv HP f0 f1 i0 Hkc
          obtain ⟨w4, hw4⟩ : ∃ w4, w3'.alloc (.cells #[.int .i64 kn, .int .i64 kc, .int .i64 rl, .int .i64 rm, .slice ra rn rc] 34) = w4 := ⟨_, rfl⟩
          have hb4 : Below w3'.heap.size w3' w4 := by rw [← hw4]; exact (Below.refl _ w3').alloc (Nat.le_refl _) _
          have h15 : w4.heap[w3'.heap.size]? = some (.cells #[.int .i64 kn, .int .i64 kc, .int .i64 rl, .int .i64 rm, .slice ra rn rc] 34) := by rw [← hw4]; exact heap_alloc_last w3' _
          have HM4 := hidIn (HM3.out.keep hb4)
          have hbb : b < w3'.heap.size := block_lt HM3.out.blk
          obtain ⟨b15, hb15⟩ : ∃ b15, w3'.heap.size = b15 := ⟨_, rfl⟩
          rw [hb15] at h15 hbb
          have Hbb : Hid (b15 ≠ b) := hidIn (by omega)
          have H15 := hidIn h15
          have HE4 := hidIn ((hb4.block _ (block_lt HE3.out)).trans HE3.out)
          have HW4 := hidIn hw4
          obtain ⟨va, vc, hvs⟩ := HM4.out.nx.shape
          simp only at hvs
          obtain ⟨vl, hvl⟩ : ∃ vl, anx.length = vl := ⟨_, rfl⟩
          rw [hvl] at hvs
          rw [hvs] at HM4
          have Hvl := hidIn hvl
          have Heb : Hid (b14 ≠ b) := hidIn (fun e => by
            have h1 := HM4.out.blk
            have h2 := HE4.out
            rw [e, h1] at h2
            simp at h2)
          clear hw4 hb4 h15 hbb HM3 HE3 hvs hvl hBw
          go_upto_region 11 with fail
          rw [HW4.out]
          clear HW4 c0 c1 c2 c3 c4 hb15
          obtain ⟨nl, hnl2⟩ : ∃ nl, (if fst = true ∨ rl + 1 < al then rl + 1 else al) = nl := ⟨_, rfl⟩
          obtain ⟨nm, hnm2⟩ : ∃ nm, (if fst = true ∨ am < rm + 1 then rm + 1 else am) = nm := ⟨_, rfl⟩
          rw [hnl2, hnm2] at Hfin
          have HNl := hidIn hnl2
          have HNm := hidIn hnm2
          have hwr1 : IntKind.i64.wrap (rl + 1) = rl + 1 := by rw [IntKind.wrap_i64]; omega
          have hwr2 : IntKind.i64.wrap (rm + 1) = rm + 1 := by rw [IntKind.wrap_i64]; omega
          clear hnl2 hnm2
          obtain ⟨c1, hc1⟩ : ∃ c1, (fst || decide (rl + 1 < al)) = c1 := ⟨_, rfl⟩
          have HNl2 : Hid (nl = if c1 = true then rl + 1 else al) := hidIn (by rw [← HNl.out, ← hc1]; cases fst <;> simp)
          have r2 := cell_of_row _ _ 2 _ _ _ H15.out
          have o2 := cell_of_row _ _ 2 _ _ _ HM4.out.blk
          simp at r2 o2
          go_cut [77] (fun t wx => t = .bool c1 ∧ wx = w4)
          case first =>
            cases fst
            · by_cases hl : rl + 1 < al
              · have Hn : Hid (c1 = true) := hidIn (by rw [← hc1]; simpa using hl)
                clear hc1
                go_wp2_with fail
                go_meet
                exact ⟨by rw [Hn.out], rfl⟩
              · have Hn : Hid (c1 = false) := hidIn (by rw [← hc1]; simpa using hl)
                clear hc1
                go_wp2_with fail
                go_meet
                exact ⟨by rw [Hn.out], rfl⟩
            · have Hn : Hid (c1 = true) := hidIn (by rw [← hc1]; rfl)
              clear hc1
              go_wp2_with fail
              go_meet
              exact ⟨by rw [Hn.out], rfl⟩
          case rest =>
          obtain ⟨rfl, hwc⟩ := hcut
          rw [hwc]
          clear hwc wc hc1 HNl
          go_upto_if 77 with fail
          go_cut [12] (fun fv wx => fv = .bool fst ∧ Hid (OnM lo W2 wx b ⟨an, ac, nl, am, anx⟩ (.slice va vl vc) ∧ Fr (fun j => j = b) w4 wx))
          case first =>
            have y2 := frozen_new HM4.out.blk 2
            have HS := hidIn (And.intro (HM4.out.setL (rl + 1)) ((Fr.refl (fun j => j = b) w4).set (p := ⟨b, 2, none⟩) rfl (.int .i64 (rl + 1))))
            cases c1
            · have Hn : Hid (nl = al) := hidIn (by rw [HNl2.out]; rfl)
              go_wp2_with fail
              go_meet
              exact ⟨rfl, hidIn ⟨by rw [Hn.out]; exact HM4.out, Fr.refl _ _⟩⟩
            · have Hn : Hid (nl = rl + 1) := hidIn (by rw [HNl2.out]; rfl)
              go_wp2_with fail
              go_meet
              exact ⟨rfl, hidIn ⟨by rw [Hn.out]; exact HS.out.1, HS.out.2⟩⟩
          case rest =>
            obtain ⟨rfl, HMc⟩ := hcut
            have HM5 := hidIn HMc.out.1
            have HF5 := hidIn HMc.out.2
            clear HMc HM4 r2 o2 HNl2
            generalize wc = w5 at *
            go_upto_region 13 with fail
            obtain ⟨c2, hc2⟩ : ∃ c2, (fst || decide (am < rm + 1)) = c2 := ⟨_, rfl⟩
            have HNm2 : Hid (nm = if c2 = true then rm + 1 else am) := hidIn (by rw [← HNm.out, ← hc2]; cases fst <;> simp)
            have H15' := (HF5.out.block _ (block_lt H15.out) Hbb.out).trans H15.out
            have r3 := cell_of_row _ _ 3 _ _ _ H15'
            have o3 := cell_of_row _ _ 3 _ _ _ HM5.out.blk
            simp at r3 o3
            clear H15'
            go_cut [90] (fun t wx => t = .bool c2 ∧ wx = w5)
            case first =>
              cases fst
              · by_cases hl : am < rm + 1
                · have Hn : Hid (c2 = true) := hidIn (by rw [← hc2]; simpa using hl)
                  clear hc2
                  go_wp2_with fail
                  go_meet
                  exact ⟨by rw [Hn.out], rfl⟩
                · have Hn : Hid (c2 = false) := hidIn (by rw [← hc2]; simpa using hl)
                  clear hc2
                  go_wp2_with fail
                  go_meet
                  exact ⟨by rw [Hn.out], rfl⟩
              · have Hn : Hid (c2 = true) := hidIn (by rw [← hc2]; rfl)
                clear hc2
                go_wp2_with fail
                go_meet
                exact ⟨by rw [Hn.out], rfl⟩
            case rest =>
            obtain ⟨rfl, hwc⟩ := hcut
            rw [hwc]
            clear hwc wc hc2 HNm
            go_upto_if 90 with fail
            go_cut [12] (fun fv wx => fv = .bool fst ∧ Hid (OnM lo W2 wx b ⟨an, ac, nl, nm, anx⟩ (.slice va vl vc) ∧ Fr (fun j => j = b) w4 wx))
            case first =>
              have y3 := frozen_new HM5.out.blk 3
              have HS := hidIn (And.intro (HM5.out.setM (rm + 1)) (HF5.out.set (p := ⟨b, 3, none⟩) rfl (.int .i64 (rm + 1))))
              cases c2
              · have Hn : Hid (nm = am) := hidIn (by rw [HNm2.out]; rfl)
                go_wp2_with fail
                go_meet
                exact ⟨rfl, hidIn ⟨by rw [Hn.out]; exact HM5.out, HF5.out⟩⟩
              · have Hn : Hid (nm = rm + 1) := hidIn (by rw [HNm2.out]; rfl)
                go_wp2_with fail
                go_meet
                exact ⟨rfl, hidIn ⟨by rw [Hn.out]; exact HS.out.1, HS.out.2⟩⟩
            case rest =>
              obtain ⟨rfl, HMc⟩ := hcut
              clear HM5 HF5 hwr1 hwr2 HNm2 r3 o3
              have HM5 := hidIn HMc.out.1
              have HF5 := hidIn HMc.out.2
              clear HMc
              generalize wc = w6 at *
              obtain ⟨bx, hbx⟩ : ∃ bx, (if ex = r then withL anx x else anx) = bx := ⟨_, rfl⟩
              rw [hbx] at Hfin
              have Hbx := hidIn hbx
              have Hbl : Hid (bx.length ≤ 9601) := hidIn (by
                have h1 := HL0.out
                rw [← hbx]
                split
                · have := withL_len (l := anx) (n := x); omega
                · omega)
              clear hbx
              have HE5 := hidIn ((HF5.out.block _ (block_lt HE4.out) Heb.out).trans HE4.out)
              have i0 := cell_of_row _ _ 0 _ _ _ HE5.out
              simp at i0
              go_upto_if 98 with fail
              go_cut [12] (fun fv wx => fv = .bool false ∧ Hid ((∃ v, OnM lo W2 wx b ⟨an, ac, nl, nm, bx⟩ v) ∧ Fr (fun j => j = b) w4 wx))
              case first =>
                by_cases her : ex = r
                · have hq3 : (ex == r) = true := by simpa using her
                  have Hn : Hid (bx = withL anx x) := hidIn (by rw [← Hbx.out, if_pos her])
                  obtain ⟨⟨⟨f0, f1⟩, cx⟩, _, _⟩ := HF.out w6 HM5.out.fr
                  have HS0 : Hid (S21 q 0 (.slice (some ⟨nb, no', none⟩) ln nca) nb (no' + i) x w6.drew) := hidIn ⟨f0, cx⟩
                  have Hal : Hid (anx.length ≤ 9600) := HL0
                  have HMe := HM5
                  have HFe := HF5
                  generalize w6 = we at *
                  clear her
                  go_upto_region 17 with fail
                  refine wp_region_held_drew (S := S21 q 0 (.slice (some ⟨nb, no', none⟩) ln nca) nb (no' + i) x) (by kernel_rfl) HS0.out (fun hHeld => ?_)
                  obtain ⟨wd, hwd⟩ : ∃ wd, we.drew = wd := ⟨_, rfl⟩
                  have hMd : OnM lo W2 wd b ⟨an, ac, nl, nm, anx⟩ (.slice va vl vc) := by rw [← hwd]; exact HMe.out.keep (Below.refl _ we).drew
                  have hFd : Fr (fun j => j = b) w4 wd := by rw [← hwd]; exact HFe.out.drew
                  have hSd : S21 q 0 (.slice (some ⟨nb, no', none⟩) ln nca) nb (no' + i) x wd := by rw [← hwd]; exact hHeld
                  rw [hwd]
                  clear hwd hHeld
                  refine wpAnyH_take (i := 0) (v := .pointer (some ⟨b, 4, none⟩)) rfl (by kernel_rfl) (by kernel_rfl) (by kernel_rfl) (fun _ _ _ h => h) (Or.inl ⟨by kernel_rfl, fun _ _ => by kernel_rfl⟩) (by assumption) ?_
                  refine wpAnyH_take (i := 2) (v := .pointer (some ⟨q, 0, none⟩)) rfl (by kernel_rfl) (by kernel_rfl) (by kernel_rfl) (fun _ _ _ h => h) (Or.inl ⟨by kernel_rfl, fun _ _ => by kernel_rfl⟩) (by assumption) ?_
                  refine wpAnyH_take (i := 3) (v := .slice (some ⟨nb, no', none⟩) ln nca) rfl (by kernel_rfl) (by kernel_rfl) (by kernel_rfl) (fun _ _ _ h => h) (Or.inl ⟨by kernel_rfl, fun wq hSw => by
                      obtain ⟨s0, s1⟩ := hSw
                      go_simp⟩) (by assumption) ?_
                  refine wpAnyH_take (i := 4) (v := .int .i64 (i : Int)) rfl (by kernel_rfl) (by kernel_rfl) (by kernel_rfl) (fun _ _ _ h => h) (Or.inl ⟨by kernel_rfl, fun _ _ => by kernel_rfl⟩) (by assumption) ?_
                  refine wpAnyH_take (i := 5) (v := .pointer (some ⟨nb, no' + i, none⟩)) rfl (by kernel_rfl) (by kernel_rfl) (by kernel_rfl) (fun _ _ _ h => h) (Or.inl ⟨by kernel_rfl, fun wq hSw => by
                      obtain ⟨s0, s1⟩ := hSw
                      go_simp⟩) (by assumption) ?_
                  refine wpAnyH_take (i := 6) (v := .int .i64 x) rfl (by kernel_rfl) (by kernel_rfl) (by kernel_rfl) (fun _ _ _ h => h) (Or.inl ⟨by kernel_rfl, fun wq hSw => by
                      obtain ⟨s0, s1⟩ := hSw
                      go_simp⟩) (by assumption) ?_
                  refine wpAnyH_ready (rs := [1]) (by kernel_rfl) (by simp) ?_
                  refine AllReadyH.cons (i := 1) rfl ?_ AllReadyH.nil
                  have k4 := cell_of_row _ _ 4 _ _ _ hMd.blk
                  simp at k4
                  go_simp
                  intro K0 hK
                  refine hK.out _ _ hSd (fun _ => ?_)
                  clear hK K0 k4
                  refine wpAnyH_ready (rs := [7]) (by kernel_rfl) (by simp) ?_
                  refine AllReadyH.cons (i := 7) rfl ?_ AllReadyH.nil
                  go_simp
                  intro K0 hK
                  have hcall := with7_any x hMd.nx (Nat.le_trans Hlo.out (HF.out wd hMd.fr).2.2.size) (by have := Hal.out; simp only at this ⊢; omega)
                  simp only at hcall
                  refine hcall.mono ?_
                  rintro e wC ⟨⟨vw, rfl, hnw⟩, hbC⟩
                  have hMC := hMd.keep hbC
                  have hFC := hFd.trans (Fr.of_below hbC)
                  have hSC := S21.keep hSd hbC
                  obtain ⟨ua, uc, rfl⟩ := hnw.shape
                  have hMN := hMC.setN hnw
                  have hFN := hFC.set (p := ⟨b, 4, none⟩) rfl (.slice ua (withL anx x).length uc)
                  have hSN := S21.set (k := 4) hSC HQb.out HNb.out (.slice ua (withL anx x).length uc)
                  refine hK.out _ _ hSC (fun _ => ?_)
                  clear hK K0 hcall
                  refine wpAnyH_take (i := 8) (v := .pointer (some ⟨b, 4, none⟩)) rfl (by kernel_rfl) (by kernel_rfl) (by kernel_rfl) (fun _ _ _ h => h) (Or.inl ⟨by kernel_rfl, fun _ _ => by kernel_rfl⟩) (by assumption) ?_
                  refine wpAnyH_ready (rs := [9]) (by kernel_rfl) (by simp) ?_
                  refine AllReadyH.cons (i := 9) rfl ?_ AllReadyH.nil
                  have k4 := cell_of_row _ _ 4 _ _ _ hMC.blk
                  simp at k4
                  have y4 := frozen_new hMC.blk 4
                  go_simp
                  intro K0 hK
                  refine hK.out _ _ hSN (fun _ => ?_)
                  clear hK K0 k4 y4
                  refine wpAnyH_done (by kernel_rfl) ?_ _
                  go_wp2_with fail
                  go_meet
                  exact ⟨rfl, hidIn ⟨⟨_, by rw [Hn.out]; exact hMN⟩, hFN⟩⟩
                · have hq3 : (ex == r) = false := by simpa using her
                  have Hn : Hid (bx = anx) := hidIn (by rw [← Hbx.out, if_neg her])
                  clear her
                  go_wp2_with fail
                  go_meet
                  exact ⟨rfl, hidIn ⟨⟨_, by rw [Hn.out]; exact HM5.out⟩, HF5.out⟩⟩
              case rest =>
                obtain ⟨rfl, HMc⟩ := hcut
                clear HM5 HF5
                have HM5 := hidIn HMc.out.1
                have HF5 := hidIn HMc.out.2
                clear HMc
                generalize wc = w7 at *
                have HF15 : Hid (∀ wq, Fr (fun j => j = b) w4 wq → wq.cell? ⟨b15, 4, none⟩ = some (.slice ra rn rc)) := hidIn fun wq hq => by
                  have h1 := (hq.block _ (block_lt H15.out) Hbb.out).trans H15.out
                  exact cell_of_row _ _ 4 _ _ _ h1
                have r4 := HF15.out _ HF5.out
                go_wp2_with fail
                go_loopw [16] (fun j wr => ∃ m : Nat, m ≤ rn ∧ j = .int .i64 m ∧ Hid ((∃ v, OnM lo W2 wr b ⟨an, ac, nl, nm, (rnx.take m).foldl withL bx⟩ v) ∧ Fr (fun j => j = b) w4 wr)) (fun j _ => rn - (intOf j).toNat)
                case atStart => exact ⟨0, Nat.zero_le _, rfl, hidIn ⟨by simpa using HM5.out, HF5.out⟩⟩
                case round =>
                  clear r4 HM5 HF5
                  obtain ⟨m, hm, rfl, HMi⟩ := hrel
                  obtain ⟨⟨v2, hM2⟩, hF2⟩ := HMi.out
                  have r4 := HF15.out _ hF2
                  by_cases hlt2 : m < rn
                  · have hmi : (m : Int) < (rn : Int) := by omega
                    obtain ⟨z, hz⟩ : ∃ z, rnx[m]? = some z := ⟨rnx[m]'(by have := Hrn.out; omega), List.getElem?_eq_getElem _⟩
                    have hsl := HNx.out.sl (by have := Hrn.out; omega)
                    obtain ⟨sa, sc, hse, _, _, hsc⟩ := hsl.ints
                    simp only [Value.slice.injEq] at hse
                    obtain ⟨rfl, hxx, rfl⟩ := hse
                    clear hxx
                    obtain ⟨rb, ro, rfl, hrb, hrcell⟩ := hsc (by have := Hrn.out; omega)
                    have hBw := (HF.out wr hM2.fr).2.2
                    have cz := (hBw.cell (p := ⟨rb, ro + m, none⟩) hrb).trans (hrcell m z hz)
                    obtain ⟨acx, hacx⟩ : ∃ acx, (rnx.take m).foldl withL bx = acx := ⟨_, rfl⟩
                    rw [hacx] at hM2
                    have Hnext : Hid ((rnx.take (m + 1)).foldl withL bx = withL acx z) := hidIn (by rw [take_snoc hz, List.foldl_append, hacx]; rfl)
                    have Hal : Hid (acx.length ≤ 9700) := hidIn (by
                      have h1 := withF_len (rnx.take m) bx
                      rw [hacx, List.length_take] at h1
                      have := Hbl.out
                      omega)
                    obtain ⟨va, vc, hvs⟩ := hM2.nx.shape
                    simp only at hvs
                    obtain ⟨vl, hvl⟩ : ∃ vl, acx.length = vl := ⟨_, rfl⟩
                    rw [hvl] at hvs
                    rw [hvs] at hM2
                    have HMe := hidIn hM2
                    have HFe := hidIn hF2
                    have HS0 : Hid (S21 b15 4 (.slice (some ⟨rb, ro, none⟩) rn rc) rb (ro + m) z wr.drew) := hidIn ⟨r4, cz⟩
                    have HQb2 := Hbb
                    have HNb2 : Hid (rb ≠ b) := hidIn (by have h1 := block_lt HGB.out; have h2 := HbA.out.size; have h3 := Hb2.out; omega)
                    clear hz hsl hsc hrcell hBw hacx hvl hvs hM2 hF2 HMi hrb
                    go_upto_region 21 with fail
                    refine wp_region_held_drew (S := S21 b15 4 (.slice (some ⟨rb, ro, none⟩) rn rc) rb (ro + m) z) (by kernel_rfl) HS0.out (fun hHeld => ?_)
                    obtain ⟨wd, hwd⟩ : ∃ wd, wr.drew = wd := ⟨_, rfl⟩
                    have hMd : OnM lo W2 wd b ⟨an, ac, nl, nm, acx⟩ (.slice va vl vc) := by rw [← hwd]; exact HMe.out.keep (Below.refl _ wr).drew
                    have hFd : Fr (fun j => j = b) w4 wd := by rw [← hwd]; exact HFe.out.drew
                    have hSd : S21 b15 4 (.slice (some ⟨rb, ro, none⟩) rn rc) rb (ro + m) z wd := by rw [← hwd]; exact hHeld
                    rw [hwd]
                    clear hwd hHeld
                    refine wpAnyH_take (i := 0) (v := .pointer (some ⟨b, 4, none⟩)) rfl (by kernel_rfl) (by kernel_rfl) (by kernel_rfl) (fun _ _ _ h => h) (Or.inl ⟨by kernel_rfl, fun _ _ => by kernel_rfl⟩) (by assumption) ?_
                    refine wpAnyH_take (i := 2) (v := .pointer (some ⟨b15, 4, none⟩)) rfl (by kernel_rfl) (by kernel_rfl) (by kernel_rfl) (fun _ _ _ h => h) (Or.inl ⟨by kernel_rfl, fun _ _ => by kernel_rfl⟩) (by assumption) ?_
                    refine wpAnyH_take (i := 3) (v := .slice (some ⟨rb, ro, none⟩) rn rc) rfl (by kernel_rfl) (by kernel_rfl) (by kernel_rfl) (fun _ _ _ h => h) (Or.inl ⟨by kernel_rfl, fun wq hSw => by
                        obtain ⟨s0, s1⟩ := hSw
                        go_simp⟩) (by assumption) ?_
                    refine wpAnyH_take (i := 4) (v := .int .i64 (m : Int)) rfl (by kernel_rfl) (by kernel_rfl) (by kernel_rfl) (fun _ _ _ h => h) (Or.inl ⟨by kernel_rfl, fun _ _ => by kernel_rfl⟩) (by assumption) ?_
                    refine wpAnyH_take (i := 5) (v := .pointer (some ⟨rb, ro + m, none⟩)) rfl (by kernel_rfl) (by kernel_rfl) (by kernel_rfl) (fun _ _ _ h => h) (Or.inl ⟨by kernel_rfl, fun wq hSw => by
                        obtain ⟨s0, s1⟩ := hSw
                        go_simp⟩) (by assumption) ?_
                    refine wpAnyH_take (i := 6) (v := .int .i64 z) rfl (by kernel_rfl) (by kernel_rfl) (by kernel_rfl) (fun _ _ _ h => h) (Or.inl ⟨by kernel_rfl, fun wq hSw => by
                        obtain ⟨s0, s1⟩ := hSw
                        go_simp⟩) (by assumption) ?_
                    refine wpAnyH_ready (rs := [1]) (by kernel_rfl) (by simp) ?_
                    refine AllReadyH.cons (i := 1) rfl ?_ AllReadyH.nil
                    have k4 := cell_of_row _ _ 4 _ _ _ hMd.blk
                    simp at k4
                    go_simp
                    intro K0 hK
                    refine hK.out _ _ hSd (fun _ => ?_)
                    clear hK K0 k4
                    refine wpAnyH_ready (rs := [7]) (by kernel_rfl) (by simp) ?_
                    refine AllReadyH.cons (i := 7) rfl ?_ AllReadyH.nil
                    go_simp
                    intro K0 hK
                    have hcall := with7_any z hMd.nx (Nat.le_trans Hlo.out (HF.out wd hMd.fr).2.2.size) (by have := Hal.out; simp only at this ⊢; omega)
                    simp only at hcall
                    refine hcall.mono ?_
                    rintro e wC ⟨⟨vw, rfl, hnw⟩, hbC⟩
                    have hMC := hMd.keep hbC
                    have hFC := hFd.trans (Fr.of_below hbC)
                    have hSC := S21.keep hSd hbC
                    obtain ⟨ua, uc, rfl⟩ := hnw.shape
                    have hMN := hMC.setN hnw
                    have hFN := hFC.set (p := ⟨b, 4, none⟩) rfl (.slice ua (withL acx z).length uc)
                    have hSN := S21.set (k := 4) hSC HQb2.out HNb2.out (.slice ua (withL acx z).length uc)
                    refine hK.out _ _ hSC (fun _ => ?_)
                    clear hK K0 hcall
                    refine wpAnyH_take (i := 8) (v := .pointer (some ⟨b, 4, none⟩)) rfl (by kernel_rfl) (by kernel_rfl) (by kernel_rfl) (fun _ _ _ h => h) (Or.inl ⟨by kernel_rfl, fun _ _ => by kernel_rfl⟩) (by assumption) ?_
                    refine wpAnyH_ready (rs := [9]) (by kernel_rfl) (by simp) ?_
                    refine AllReadyH.cons (i := 9) rfl ?_ AllReadyH.nil
                    have k4 := cell_of_row _ _ 4 _ _ _ hMC.blk
                    simp at k4
                    have y4 := frozen_new hMC.blk 4
                    go_simp
                    intro K0 hK
                    refine hK.out _ _ hSN (fun _ => ?_)
                    clear hK K0 k4 y4
                    refine wpAnyH_done (by kernel_rfl) ?_ _
                    go_wp2_with fail
                    go_roundw
                    case rel =>
                      have hN := Hnext.out
                      go_light
                      exact ⟨m + 1, by omega, by go_num, hidIn ⟨⟨_, by rw [hN]; exact hMN⟩, hFN⟩⟩
                    case measure =>
                      go_light
                      simp [intOf]
                      omega
                  · have hmi : ¬ ((m : Int) < (rn : Int)) := by omega
                    have HE : Hid (oneF r x D K (es.take (k + 1)) = (false, ⟨an, ac, nl, nm, (rnx.take m).foldl withL bx⟩)) := hidIn (Hfin.out _ rfl rfl rfl rfl (by rw [List.take_of_length_le (by have := Hrn.out; omega)]))
                    have HM2 := hidIn hM2
                    clear hM2 hF2 HMi
                    go_wp2_with fail
                    go_roundw
                    case rel =>
                      have hE := HE.out
                      have hM := HM2.out
                      go_light
                      exact ⟨k + 1, false, by omega, by go_num, rfl, hidIn (by rw [hE]; exact ⟨rfl, _, hM⟩)⟩
                    case measure =>
                      go_light
                      simp [intOf]
                      omega
end Go.Proofs.Ytabnecicidkmhaa
namespace Go.Proofs.Ytabnecicidkmhaa
open Go.RowKit

def outK (Dn : Int → Bool) (K : Int → Rr) (V : Int → Value) (l : List Int) : List (Rr × Value) := (l.filter Dn).map fun x => (K x, V x)
theorem outK_no {Dn : Int → Bool} (K : Int → Rr) (V : Int → Value) {l : List Int} {y : Int} (h : Dn y = false) : outK Dn K V (l ++ [y]) = outK Dn K V l := by simp [outK, List.filter_append, h]
theorem outK_yes {Dn : Int → Bool} (K : Int → Rr) (V : Int → Value) {l : List Int} {y : Int} (h : Dn y = true) : outK Dn K V (l ++ [y]) = outK Dn K V l ++ [(K y, V y)] := by simp [outK, List.filter_append, h]
theorem outK_len (Dn : Int → Bool) (K : Int → Rr) (V : Int → Value) (l : List Int) : (outK Dn K V l).length ≤ l.length := by
  unfold outK
  rw [List.length_map]
  exact List.length_filter_le _ _
theorem outK_map (Dn : Int → Bool) (K : Int → Rr) (V : Int → Value) (l : List Int) : (outK Dn K V l).map (·.1) = (l.filter Dn).map K := by simp [outK, List.map_map, Function.comp_def]
theorem outK_mem {Dn : Int → Bool} {K : Int → Rr} {V : Int → Value} {l : List Int} {p : Rr × Value} (h : p ∈ outK Dn K V l) : ∃ x ∈ l, Dn x = true ∧ p = (K x, V x) := by
  unfold outK at h
  obtain ⟨x, h1, h2⟩ := List.mem_map.1 h
  rw [List.mem_filter] at h1
  exact ⟨x, h1.1, h1.2, h2.symm⟩
/-- What Reaches answers. -/
def RchAns (w w' : World) (ns : List Int) (es : List Ed) (r : Int) (u : Value) : Prop :=
  ∃ l : List (Rr × Value), w'.ownsRow w.heap.size 34 5 u l.length (fl rwc l) ∧ (∀ p ∈ l, NxI w.heap.size w' p.2 p.1.next ∧ KOk p.1) ∧ IsFrom ns es r (l.map (·.1))
/-- The cheapest that is not done, among the first ones. -/
def Bst (ns : List Int) (D : Int → Int) (Dn : Int → Bool) (m : Nat) (best : Int) : Prop :=
  (best = -1 ∧ ∀ j y, j < m → ns[j]? = some y → Dn y = false → ¬ D y < farC) ∨ (∃ (p : Nat) (x : Int), best = (p : Int) ∧ ns[p]? = some x ∧ Dn x = false ∧ D x < farC ∧ ∀ j y, j < m → ns[j]? = some y → Dn y = false → D y < farC → D x ≤ D y)
theorem Bst.skip {ns : List Int} {D : Int → Int} {Dn : Int → Bool} {m : Nat} {best : Int} {y : Int} (h : Bst ns D Dn m best) (hy : ns[m]? = some y) (hn : Dn y = false → ¬ D y < farC) : Bst ns D Dn (m + 1) best := by
  rcases h with ⟨h1, h2⟩ | ⟨p, x, h1, h2, h3, h4, h5⟩
  · refine .inl ⟨h1, fun j z hj hz hd => ?_⟩
    rcases Nat.lt_or_ge j m with h6 | h6
    · exact h2 j z h6 hz hd
    · obtain rfl : j = m := by omega
      rw [hy] at hz
      cases hz
      exact hn hd
  · refine .inr ⟨p, x, h1, h2, h3, h4, fun j z hj hz hd hf => ?_⟩
    rcases Nat.lt_or_ge j m with h6 | h6
    · exact h5 j z h6 hz hd hf
    · obtain rfl : j = m := by omega
      rw [hy] at hz
      cases hz
      exact absurd hf (hn hd)
theorem Bst.first {ns : List Int} {D : Int → Int} {Dn : Int → Bool} {m : Nat} {y : Int} (h : Bst ns D Dn m (-1)) (hy : ns[m]? = some y) (hd : Dn y = false) (hf : D y < farC) : Bst ns D Dn (m + 1) (m : Int) := by
  rcases h with ⟨_, h2⟩ | ⟨p, x, h1, _⟩
  · refine .inr ⟨m, y, rfl, hy, hd, hf, fun j z hj hz hd' hf' => ?_⟩
    rcases Nat.lt_or_ge j m with h6 | h6
    · exact absurd hf' (h2 j z h6 hz hd')
    · obtain rfl : j = m := by omega
      rw [hy] at hz
      cases hz
      omega
  · omega
theorem Bst.less {ns : List Int} {D : Int → Int} {Dn : Int → Bool} {m p : Nat} {x y : Int} (h : Bst ns D Dn m (p : Int)) (hx : ns[p]? = some x) (hy : ns[m]? = some y) (hd : Dn y = false) (hf : D y < farC) (hlt : D y < D x) : Bst ns D Dn (m + 1) (m : Int) := by
  rcases h with ⟨h1, _⟩ | ⟨p', x', h1, h2, h3, h4, h5⟩
  · omega
  · obtain rfl : p = p' := by omega
    rw [hx] at h2
    cases h2
    refine .inr ⟨m, y, rfl, hy, hd, hf, fun j z hj hz hd' hf' => ?_⟩
    rcases Nat.lt_or_ge j m with h6 | h6
    · have := h5 j z h6 hz hd' hf'; omega
    · obtain rfl : j = m := by omega
      rw [hy] at hz
      cases hz
      omega
theorem Bst.more {ns : List Int} {D : Int → Int} {Dn : Int → Bool} {m p : Nat} {x y : Int} (h : Bst ns D Dn m (p : Int)) (hx : ns[p]? = some x) (hy : ns[m]? = some y) (hlt : ¬ D y < D x) : Bst ns D Dn (m + 1) (p : Int) := by
  rcases h with ⟨h1, _⟩ | ⟨p', x', h1, h2, h3, h4, h5⟩
  · omega
  · obtain rfl : p = p' := by omega
    rw [hx] at h2
    cases h2
    refine .inr ⟨p, x, rfl, hx, h3, h4, fun j z hj hz hd' hf' => ?_⟩
    rcases Nat.lt_or_ge j m with h6 | h6
    · exact h5 j z h6 hz hd' hf'
    · obtain rfl : j = m := by omega
      rw [hy] at hz
      cases hz
      omega
set_option maxRecDepth 100000 in
set_option maxHeartbeats 8000000 in
theorem reaches_any {ns : List Int} {es : List Ed} {vn ve : Value} {w : World} (h : GrAt w vn ve ns es) (hok : graphOk ns es = true) {r : Int} (hr : r ∈ ns) :
    Calls Try.prog 27 #[grV vn ve, .int .i64 r] w fun e w' => (∃ u, e = .returned u ∧ RchAns w w' ns es r u) ∧ Below w.heap.size w w' := by
  have hgr := h
  obtain ⟨na, nca, rfl, hnl, _, _⟩ := h.n.ints
  obtain ⟨ea, eca, rfl, hel, _, _⟩ := h.e.eds
  obtain ⟨W1, hW1⟩ : ∃ W1, w.alloc (.cells #[.slice na ns.length nca, .slice ea es.length eca] 25) = W1 := ⟨_, rfl⟩
  have bA : Below w.heap.size w W1 := by rw [← hW1]; exact (Below.refl _ w).alloc (Nat.le_refl _) _
  have hGB : W1.heap[w.heap.size]? = some (.cells #[.slice na ns.length nca, .slice ea es.length eca] 25) := by rw [← hW1]; exact heap_alloc_last w _
  obtain ⟨q, hqe⟩ : ∃ q, w.heap.size = q := ⟨_, rfl⟩
  rw [hqe] at hGB
  have hlt0 := block_lt hGB
  have HF : Hid (∀ wq, Below W1.heap.size W1 wq → (wq.cell? ⟨q, 0, none⟩ = some (.slice na ns.length nca) ∧ wq.cell? ⟨q, 1, none⟩ = some (.slice ea es.length eca)) ∧ Below w.heap.size w wq) := hidIn fun wq h => by
    have j0 := (h.block _ hlt0).trans hGB
    exact ⟨⟨cell_of_row _ _ 0 _ _ _ j0, cell_of_row _ _ 1 _ _ _ j0⟩, bA.trans (h.mono bA.size)⟩
  have h24 := graphOk_n24 hok
  have h0l : 0 < ns.length := List.length_pos_of_mem hr
  have HCo := hidIn (costs_any (hgr.keep bA (Nat.le_refl _)) hok r)
  obtain ⟨ln, hln⟩ : ∃ ln, ns.length = ln := ⟨_, rfl⟩
  obtain ⟨le, hle⟩ : ∃ le, es.length = le := ⟨_, rfl⟩
  rw [hln, hle] at hgr
  rw [hln] at hnl HF HCo h24 h0l ⊢
  rw [hle] at hel HF HCo ⊢
  rw [hln, hle] at hW1
  have HG := hidIn hgr
  have HW := hidIn hW1
  have Hln := hidIn hln
  have HbA := hidIn bA
  have Hok := hidIn hok
  have Hr := hidIn hr
  have Hl24 := hidIn h24
  have Hl0 := hidIn h0l
  have Hqe := hidIn hqe
  clear hW1 bA hGB hlt0 hgr h hln hle hok hr
  obtain ⟨⟨f0, f1⟩, _⟩ := HF.out W1 (Below.refl _ _)
  go_enter Try.func27, Try.ntmps27
  go_upto_region 1 with fail
  rw [HW.out]
  clear HW hqe
  go_wp2_with fail
  refine HCo.out.mono ?_
  rintro e w2 ⟨⟨ca, cc, rfl, hrC⟩, hb2⟩
  obtain ⟨cb, rfl, hcb, _, _⟩ := rowI_open hrC (by rw [List.length_map]; exact Hln.out) Hl0.out
  obtain ⟨D, hD⟩ : ∃ D, bfN es r ln = D := ⟨_, rfl⟩
  rw [hD] at hrC
  have HD := hidIn hD
  obtain ⟨W3, hmk3, hr3, hb3⟩ := make_rowR ln (by omega) w2
  obtain ⟨W4, hmk4, hr4, hb4⟩ := make_rowB ln (by omega) W3
  have hB3 := hb2.trans (hb3.mono hb2.size)
  have hB4 := hB3.trans (hb4.mono hB3.size)
  have hs2 := hb2.size
  have hs3 := hB3.size
  obtain ⟨kb, hkb⟩ : ∃ kb, w2.heap.size = kb := ⟨_, rfl⟩
  obtain ⟨db, hdb⟩ : ∃ db, W3.heap.size = db := ⟨_, rfl⟩
  rw [hkb] at hmk3 hr3 hs2
  rw [hdb] at hmk4 hr4 hs3
  have HM0 : Hid (RhM w.heap.size W1 W4 ns ln cb cc kb db D (fun _ => false) (fun _ => noR) (fun _ => .slice none 0 0)) := hidIn (by
    refine ⟨hB4, row_below (row_below hrC hb3 (Nat.le_refl _)) hb4 (Nat.le_refl _), ?_, ?_, fun x _ => ⟨.inl ⟨rfl, rfl⟩, by simp [KOk, noR]⟩⟩
    · have h1 := row_below (row_low hr3 hs2) hb4 (Nat.le_refl _)
      rw [show ns.map (fun _ => (noR, Value.slice none 0 0)) = List.replicate ln (noR, Value.slice none 0 0) from by rw [List.map_const', Hln.out]]
      exact h1
    · have h1 := row_low hr4 hs3
      rw [show ns.map (fun _ => Value.bool false) = List.replicate ln (Value.bool false) from by rw [List.map_const', Hln.out]]
      exact h1)
  have HDb : Hid (∀ z, 0 ≤ D z ∧ D z ≤ 1073741824) := hidIn fun z => by
    have := bf_all Hok.out Hr.out z
    rw [Hln.out, hD] at this
    rcases this with ⟨d, _, h1, h2, h3⟩ | ⟨_, h1⟩
    · rw [h1]; omega
    · rw [h1]; unfold farC; omega
  have HB2 := hidIn hb2
  have HB3 := hidIn hB3
  have HB4 := hidIn hB4
  have HMk3 := hidIn hmk3
  have HMk4 := hidIn hmk4
  clear hrC hr3 hr4 hb3 hb4 hB3 hB4 hb2 hs2 hs3 hmk3 hmk4 hcb hD HCo f0 f1 hkb hdb
  obtain ⟨⟨f0, f1⟩, _⟩ := HF.out w2 HB2.out
  have hmk3 := HMk3.out
  go_upto_region 3 with fail
  clear hmk3 f0 f1
  obtain ⟨⟨f0, f1⟩, _⟩ := HF.out W3 HB3.out
  have hmk4 := HMk4.out
  go_upto_region 4 with fail
  clear hmk4 f0 f1 HMk3 HMk4 HB2 HB3 HB4
  go_wp2_with fail
  go_loopw [8] (fun kk wr => ∃ k : Nat, k ≤ ln ∧ kk = .int .i64 k ∧ Hid (∃ (Dn : Int → Bool) (K : Int → Rr) (V : Int → Value), RhM w.heap.size W1 wr ns ln cb cc kb db D Dn K V ∧ Knw ns es r Dn K k)) (fun kk _ => ln - (intOf kk).toNat)
  case atStart => exact ⟨0, Nat.zero_le _, rfl, hidIn ⟨_, _, _, HM0.out, Knw.start _ _ _⟩⟩
  case round =>
    clear HM0
    obtain ⟨k, hk, rfl, HR⟩ := hrel
    obtain ⟨Dn, K, V, hM, hKn⟩ := HR.out
    clear HR
    by_cases hlt : k < ln
    rotate_left
    · have hki : ¬ ((k : Int) < (ln : Int)) := by omega
      have HKe : Hid (k = ns.length) := hidIn (by have := Hln.out; omega)
      have HFin := hidIn (hKn.done Hok.out Hr.out (.inl HKe.out))
      have HM9 := hidIn hM
      have HBw := hidIn (HF.out wr hM.b).2
      obtain ⟨⟨f0, f1⟩, _⟩ := HF.out wr hM.b
      clear hM hKn
      go_wp2_with fail
      go_loopw [11, 12] (fun ov j wi => ∃ (m : Nat) (oa : Option Addr) (oc : Nat), m ≤ ln ∧ j = .int .i64 m ∧ ov = .slice oa (outK Dn K V (ns.take m)).length oc ∧ Hid (Below wr.heap.size wr wi ∧ wi.ownsRow wr.heap.size 34 5 (.slice oa (outK Dn K V (ns.take m)).length oc) (outK Dn K V (ns.take m)).length (fl rwc (outK Dn K V (ns.take m))))) (fun _ j _ => ln - (intOf j).toNat)
      case atStart => exact ⟨0, none, 0, Nat.zero_le _, rfl, rfl, hidIn ⟨Below.refl _ _, World.ownsRow_nil _ _ _ _⟩⟩
      case round =>
        clear f0 f1
        rename_i wS _
        obtain ⟨m, oa, oc, hm, rfl, rfl, HRo⟩ := hrel
        obtain ⟨hbo, hro⟩ := HRo.out
        have hMm := HM9.out.keep hbo
        obtain ⟨⟨f0, f1⟩, hBw⟩ := HF.out wr hMm.b
        have hol := outK_len Dn K V (ns.take m)
        rw [List.length_take] at hol
        by_cases hltm : m < ln
        · have hmi : (m : Int) < (ln : Int) := by omega
          obtain ⟨y, hy⟩ : ∃ y, ns[m]? = some y := ⟨ns[m]'(by have := Hln.out; omega), List.getElem?_eq_getElem _⟩
          have d0 := hMm.dcell hy
          have ht := take_snoc hy
          cases hq : Dn y with
          | false =>
            rw [hq] at d0
            have HE : Hid (outK Dn K V (ns.take (m + 1)) = outK Dn K V (ns.take m)) := hidIn (by rw [ht]; exact outK_no _ _ hq)
            have HO := hidIn (And.intro hbo hro)
            clear hbo hro hMm hBw hy ht hq HRo hol
            go_wp2_with fail
            go_roundw
            case rel => exact ⟨m + 1, oa, oc, by omega, by go_num, by rw [HE.out], hidIn (by rw [HE.out]; exact HO.out)⟩
            case measure => simp [intOf]; omega
          | true =>
            rw [hq] at d0
            have HE : Hid (outK Dn K V (ns.take (m + 1)) = outK Dn K V (ns.take m) ++ [(K y, V y)]) := hidIn (by rw [ht]; exact outK_yes _ _ hq)
            obtain ⟨k0, k1, k2, k3, k4⟩ := hMm.kcell hy
            obtain ⟨va, vc, hvs⟩ := (hMm.v y (List.mem_of_getElem? hy)).1.shape
            rw [hvs] at k4 HE
            obtain ⟨g9, gc9, w9, hrun, hown, hb9⟩ := append_rch hro (K y, .slice va (K y).next.length vc) rfl (by have := Hl24.out; omega) hbo.size
            have HRun := hidIn hrun
            have HO := hidIn (And.intro (hbo.trans hb9) hown)
            clear hbo hro hMm hBw hy ht hq HRo hrun hown hb9 hvs hol
            generalize K y = Ky at HE HRun HO k0 k1 k2 k3 k4
            go_wp2_with (refine l_append rfl _ _ 27 rfl HRun.out ?_)
            go_roundw
            case rel => exact ⟨m + 1, _, gc9, by omega, by go_num, by rw [HE.out, List.length_append]; rfl, hidIn (by rw [HE.out, List.length_append]; exact HO.out)⟩
            case measure => simp [intOf]; omega
        · have hmi : ¬ ((m : Int) < (ln : Int)) := by omega
          have hte : ns.take m = ns := List.take_of_length_le (by have := Hln.out; omega)
          have HA : Hid (RchAns w wr ns es r (.slice oa (outK Dn K V (ns.take m)).length oc) ∧ Below w.heap.size w wr) := hidIn ⟨by
            rw [hte] at hro ⊢
            refine ⟨outK Dn K V ns, row_low hro (Nat.le_trans HBw.out.size (Nat.le_refl _)), fun p hp => ?_, by rw [outK_map]; exact HFin.out⟩
            obtain ⟨x, hx, _, rfl⟩ := outK_mem hp
            exact hMm.v x hx, hBw⟩
          clear hbo hro hMm hBw HRo hte
          go_wp2_with fail
          go_ret
          exact ⟨⟨_, rfl, HA.out.1⟩, HA.out.2⟩
    have hki : (k : Int) < (ln : Int) := by omega
    obtain ⟨⟨f0, f1⟩, _⟩ := HF.out wr hM.b
    have HM := hidIn hM
    have HKn := hidIn hKn
    clear hM hKn
    go_wp2_with fail
    go_loopw [9, 10] (fun at' j wi => ∃ (m : Nat) (best : Int), m ≤ ln ∧ j = .int .i64 m ∧ at' = .int .i64 best ∧ -1 ≤ best ∧ best < ln ∧ Hid (Below wr.heap.size wr wi ∧ Bst ns D Dn m best)) (fun _ j _ => ln - (intOf j).toNat)
    case atStart => exact ⟨0, -1, Nat.zero_le _, rfl, rfl, by omega, by omega, hidIn ⟨Below.refl _ _, .inl ⟨rfl, fun j y hj => by omega⟩⟩⟩
    case round =>
      clear f0 f1
      rename_i wS _
      obtain ⟨m, best, hm, rfl, rfl, hb0, hb1, HB⟩ := hrel
      obtain ⟨hbi, hbs⟩ := HB.out
      clear HB
      have hMm := HM.out.keep hbi
      obtain ⟨⟨f0, f1⟩, hBw⟩ := HF.out wr hMm.b
      by_cases hltm : m < ln
      · have hmi : (m : Int) < (ln : Int) := by omega
        obtain ⟨y, hy⟩ : ∃ y, ns[m]? = some y := ⟨ns[m]'(by have := Hln.out; omega), List.getElem?_eq_getElem _⟩
        have d0 := hMm.dcell hy
        have c0 := hMm.ccell hy
        obtain ⟨dn, hdn⟩ : ∃ dn, Dn y = dn := ⟨_, rfl⟩
        obtain ⟨dy, hdy⟩ : ∃ dy, D y = dy := ⟨_, rfl⟩
        have hdyb := HDb.out y
        rw [hdn] at d0
        rw [hdy] at c0 hdyb
        have HBi := hidIn hbi
        have Hbs := hidIn hbs
        have Hy := hidIn hy
        have Hdn := hidIn hdn
        have Hdy := hidIn hdy
        clear hy hdn hdy hbi hbs hBw
        cases dn
        rotate_left
        · have HBn : Hid (Bst ns D Dn (m + 1) best) := hidIn (Hbs.out.skip Hy.out (fun h => by rw [Hdn.out] at h; cases h))
          clear hMm
          go_upto_region 11 with fail
          go_quiet (fail)
          go_wp2_with fail
          go_roundw
          case rel => exact ⟨m + 1, best, by omega, by go_num, rfl, hb0, hb1, hidIn ⟨below_drewN HBi.out _, HBn.out⟩⟩
          case measure => simp [intOf]; omega
        by_cases hfar : dy < 1073741824
        rotate_left
        · have HBn : Hid (Bst ns D Dn (m + 1) best) := hidIn (Hbs.out.skip Hy.out (fun _ => by rw [Hdy.out]; exact hfar))
          have hfd : decide (dy < 1073741824) = false := by simpa using hfar
          clear hMm
          go_upto_region 11 with fail
          go_quiet (fail)
          go_wp2_with fail
          go_roundw
          case rel => exact ⟨m + 1, best, by omega, by go_num, rfl, hb0, hb1, hidIn ⟨below_drewN HBi.out _, HBn.out⟩⟩
          case measure => simp [intOf]; omega
        have hfd : decide (dy < 1073741824) = true := by simpa using hfar
        rcases Hbs.out with ⟨hbe, _⟩ | ⟨p, x, hbe, hxp, hxd, hxf, _⟩
        · subst hbe
          have HBn : Hid (Bst ns D Dn (m + 1) (m : Int)) := hidIn (Hbs.out.first Hy.out Hdn.out (by rw [Hdy.out]; exact hfar))
          have hneg : decide ((-1 : Int) < 0) = true := by decide
          clear hMm
          go_upto_region 11 with fail
          go_quiet (fail)
          go_wp2_with fail
          go_roundw
          case rel => exact ⟨m + 1, m, by omega, by go_num, rfl, by omega, by omega, hidIn ⟨below_drewN HBi.out _, HBn.out⟩⟩
          case measure => simp [intOf]; omega
        · subst hbe
          have cp := hMm.ccell hxp
          obtain ⟨dx, hdx⟩ : ∃ dx, D x = dx := ⟨_, rfl⟩
          rw [hdx] at cp
          have Hdx := hidIn hdx
          have Hxp := hidIn hxp
          have hpn : ¬ ((p : Int) < 0) := by omega
          have hpd : decide ((p : Int) < 0) = false := by simp
          by_cases hyx : dy < dx
          · have HBn : Hid (Bst ns D Dn (m + 1) (m : Int)) := hidIn (Hbs.out.less hxp Hy.out Hdn.out (by rw [Hdy.out]; exact hfar) (by rw [Hdy.out, hdx]; exact hyx))
            have hyd : decide (dy < dx) = true := by simpa using hyx
            clear hMm hxp hxd hxf hdx
            go_upto_region 11 with fail
            go_quiet (fail)
            go_wp2_with fail
            go_roundw
            case rel => exact ⟨m + 1, m, by omega, by go_num, rfl, by omega, by omega, hidIn ⟨below_drewN HBi.out _, HBn.out⟩⟩
            case measure => simp [intOf]; omega
          · have HBn : Hid (Bst ns D Dn (m + 1) (p : Int)) := hidIn (Hbs.out.more hxp Hy.out (by rw [Hdy.out, hdx]; exact hyx))
            have hyd : decide (dy < dx) = false := by simpa using hyx
            clear hMm hxp hxd hxf hdx
            go_upto_region 11 with fail
            go_quiet (fail)
            go_wp2_with fail
            go_roundw
            case rel => exact ⟨m + 1, p, by omega, by go_num, rfl, by omega, by omega, hidIn ⟨below_drewN HBi.out _, HBn.out⟩⟩
            case measure => simp [intOf]; omega
      · have hmi : ¬ ((m : Int) < (ln : Int)) := by omega
        have hml : ∀ j y, ns[j]? = some y → j < m := fun j y hy => by have := (List.getElem?_eq_some_iff.1 hy).1; have := Hln.out; omega
        rcases hbs with ⟨hbe, hno⟩ | ⟨p, x, hbe, hxp, hxd, hxf, hmin⟩
        · subst hbe
          have HNo : Hid (∀ y ∈ ns, Dn y = false → ¬ bfN es r ns.length y < farC) := hidIn fun y hy hd => by
            obtain ⟨j, hj⟩ := List.getElem?_of_mem hy
            rw [Hln.out, HD.out]
            exact hno j y (hml j y hj) hj hd
          have hM := hMm
          have hKn := HKn.out
          clear hMm hno hml HM HKn hBw f0 f1 hbi
          have HFin := hidIn (hKn.done Hok.out Hr.out (.inr HNo.out))
          have HM9 := hidIn hM
          have HBw := hidIn (HF.out wr hM.b).2
          obtain ⟨⟨f0, f1⟩, _⟩ := HF.out wr hM.b
          clear hM hKn
          go_wp2_with fail
          go_loopw [11, 12] (fun ov j wi => ∃ (m : Nat) (oa : Option Addr) (oc : Nat), m ≤ ln ∧ j = .int .i64 m ∧ ov = .slice oa (outK Dn K V (ns.take m)).length oc ∧ Hid (Below wr.heap.size wr wi ∧ wi.ownsRow wr.heap.size 34 5 (.slice oa (outK Dn K V (ns.take m)).length oc) (outK Dn K V (ns.take m)).length (fl rwc (outK Dn K V (ns.take m))))) (fun _ j _ => ln - (intOf j).toNat)
          case atStart => exact ⟨0, none, 0, Nat.zero_le _, rfl, rfl, hidIn ⟨Below.refl _ _, World.ownsRow_nil _ _ _ _⟩⟩
          case round =>
            clear f0 f1
            rename_i wS _
            obtain ⟨m, oa, oc, hm, rfl, rfl, HRo⟩ := hrel
            obtain ⟨hbo, hro⟩ := HRo.out
            have hMm := HM9.out.keep hbo
            obtain ⟨⟨f0, f1⟩, hBw⟩ := HF.out wr hMm.b
            have hol := outK_len Dn K V (ns.take m)
            rw [List.length_take] at hol
            by_cases hltm : m < ln
            · have hmi : (m : Int) < (ln : Int) := by omega
              obtain ⟨y, hy⟩ : ∃ y, ns[m]? = some y := ⟨ns[m]'(by have := Hln.out; omega), List.getElem?_eq_getElem _⟩
              have d0 := hMm.dcell hy
              have ht := take_snoc hy
              cases hq : Dn y with
              | false =>
                rw [hq] at d0
                have HE : Hid (outK Dn K V (ns.take (m + 1)) = outK Dn K V (ns.take m)) := hidIn (by rw [ht]; exact outK_no _ _ hq)
                have HO := hidIn (And.intro hbo hro)
                clear hbo hro hMm hBw hy ht hq HRo hol
                go_wp2_with fail
                go_roundw
                case rel => exact ⟨m + 1, oa, oc, by omega, by go_num, by rw [HE.out], hidIn (by rw [HE.out]; exact HO.out)⟩
                case measure => simp [intOf]; omega
              | true =>
                rw [hq] at d0
                have HE : Hid (outK Dn K V (ns.take (m + 1)) = outK Dn K V (ns.take m) ++ [(K y, V y)]) := hidIn (by rw [ht]; exact outK_yes _ _ hq)
                obtain ⟨k0, k1, k2, k3, k4⟩ := hMm.kcell hy
                obtain ⟨va, vc, hvs⟩ := (hMm.v y (List.mem_of_getElem? hy)).1.shape
                rw [hvs] at k4 HE
                obtain ⟨g9, gc9, w9, hrun, hown, hb9⟩ := append_rch hro (K y, .slice va (K y).next.length vc) rfl (by have := Hl24.out; omega) hbo.size
                have HRun := hidIn hrun
                have HO := hidIn (And.intro (hbo.trans hb9) hown)
                clear hbo hro hMm hBw hy ht hq HRo hrun hown hb9 hvs hol
                generalize K y = Ky at HE HRun HO k0 k1 k2 k3 k4
                go_wp2_with (refine l_append rfl _ _ 27 rfl HRun.out ?_)
                go_roundw
                case rel => exact ⟨m + 1, _, gc9, by omega, by go_num, by rw [HE.out, List.length_append]; rfl, hidIn (by rw [HE.out, List.length_append]; exact HO.out)⟩
                case measure => simp [intOf]; omega
            · have hmi : ¬ ((m : Int) < (ln : Int)) := by omega
              have hte : ns.take m = ns := List.take_of_length_le (by have := Hln.out; omega)
              have HA : Hid (RchAns w wr ns es r (.slice oa (outK Dn K V (ns.take m)).length oc) ∧ Below w.heap.size w wr) := hidIn ⟨by
                rw [hte] at hro ⊢
                refine ⟨outK Dn K V ns, row_low hro (Nat.le_trans HBw.out.size (Nat.le_refl _)), fun p hp => ?_, by rw [outK_map]; exact HFin.out⟩
                obtain ⟨x, hx, _, rfl⟩ := outK_mem hp
                exact hMm.v x hx, hBw⟩
              clear hbo hro hMm hBw HRo hte
              go_wp2_with fail
              go_ret
              exact ⟨⟨_, rfl, HA.out.1⟩, HA.out.2⟩
        · subst hbe
          have hpn : ¬ ((p : Int) < 0) := by omega
          have hxn := List.mem_of_getElem? hxp
          have HK1 := hidIn (HKn.out.more Hok.out Hr.out hxn hxd (by rw [Hln.out, HD.out]; exact hxf) (fun z hz hd hf => by
            rw [Hln.out, HD.out] at hf ⊢
            obtain ⟨j, hj⟩ := List.getElem?_of_mem hz
            exact hmin j z (hml j z hj) hj hd hf))
          have hM1 := hMm.done (graphOk_nn Hok.out) hxp
          have d0 := hMm.dcell hxp
          have y0 := frozen_row hMm.d p
          rw [hxd] at d0
          obtain ⟨W5, hW5⟩ : ∃ W5, wr.setCell ⟨db, p, none⟩ (.bool true) = W5 := ⟨_, rfl⟩
          rw [hW5] at hM1
          have HW5 := hidIn hW5
          have HM1 := hidIn hM1
          obtain ⟨_, hBw5⟩ := HF.out W5 hM1.b
          have HOne := hidIn (one_any (HG.out.keep hBw5 (Nat.le_refl _)) Hok.out HDb.out (slAt_of_row (cs := ic) (fun _ => rfl) hM1.c (by rw [List.length_map]; exact Hln.out)) (slAt_of_row (cs := rwc) (fun _ => rfl) hM1.k (by rw [List.length_map]; exact Hln.out)) hBw5.size hM1.v r hxp)
          have HSm : Hid (KOk (oneR r x D K es)) := hidIn (by
            obtain ⟨d, h1, h2⟩ := HK1.out.right x hxn (by simp)
            simp only [if_true] at h2
            rw [Hln.out, HD.out] at h2
            exact h2.small Hok.out Hr.out h1)
          have Hxp := hidIn hxp
          obtain ⟨A, hA⟩ : ∃ A, oneR r x D K es = A := ⟨_, rfl⟩
          rw [hA] at HOne HSm
          have HKA : Hid (Knw ns es r (fun z => if z = x then true else Dn z) (fun z => if z = x then A else K z) (k + 1)) := hidIn (by
            have := HK1.out
            rw [Hln.out, HD.out, hA] at this
            exact this)
          clear hMm hmin hml HM HKn hBw hbi hxp hxd hxf hxn hM1 hW5 hBw5 HK1 hA
          go_upto_region 15 with fail
          rw [HW5.out]
          clear HW5 d0 y0 f0 f1
          obtain ⟨⟨f0, f1⟩, _⟩ := HF.out W5 HM1.out.b
          go_wp2_with fail
          refine HOne.out.mono ?_
          rintro e w6 ⟨⟨va, rfl, hnv⟩, hb6⟩
          obtain ⟨ua, uc, rfl⟩ := hnv.shape
          have hM6 := HM1.out.keep hb6
          have hMP := hM6.put (graphOk_nn Hok.out) Hxp.out hnv HSm.out
          obtain ⟨k0, k1, k2, k3, k4⟩ := hM6.kcell Hxp.out
          have z0 := frozen_row hM6.k (p * 5)
          have z1 := frozen_row hM6.k (p * 5 + 1)
          have z2 := frozen_row hM6.k (p * 5 + 2)
          have z3 := frozen_row hM6.k (p * 5 + 3)
          have z4 := frozen_row hM6.k (p * 5 + 4)
          obtain ⟨a0, a1, a2, a3, a4⟩ := A
          simp only at hMP k0 k1 k2 k3 k4
          have HMP := hidIn hMP
          have hpl : (p : Int) < (ln : Int) := by have := (List.getElem?_eq_some_iff.1 Hxp.out).1; have := Hln.out; omega
          clear hM6 hMP hb6 hnv f0 f1 HM1 HOne HSm
          go_wp2_with fail
          go_roundw
          case rel =>
            have hP := HMP.out
            have hK := HKA.out
            go_light
            exact ⟨k + 1, by omega, by go_num, hidIn ⟨_, _, _, hP, hK⟩⟩
          case measure =>
            go_light
            simp [intOf]
            omega
end Go.Proofs.Ytabnecicidkmhaa
