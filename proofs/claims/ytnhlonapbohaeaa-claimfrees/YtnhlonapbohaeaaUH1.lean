/- The document's has, With. -/
import Derived.Test.YtnhlonapbohaeaaUI0
namespace Go.Proofs.Ytnhlonapbohaeaa
open Go.RowKit

set_option maxRecDepth 100000 in
theorem dhas_any {l : List Int} {v : Value} (n : Int) {w : World} (h : SlAt ic 1 w v l) : Calls Try.prog 44 #[v, .int .i64 n] w fun e w' => e = .returned (.bool (l.contains n)) ∧ w' = w := by
  obtain ⟨a, cap, rfl, hl, _, hat⟩ := h.ints
  have Ha := hidIn hat
  obtain ⟨ln, hln⟩ : ∃ ln, l.length = ln := ⟨_, rfl⟩
  have Hln := hidIn hln
  rw [hln] at hl ⊢
  obtain ⟨bq, hbq⟩ : ∃ bq, l.contains n = bq := ⟨_, rfl⟩
  rw [hbq]
  have HQ := hidIn hbq
  clear h hat hln hbq
  go_enter Try.func44, Try.ntmps44
  go_wp2_with fail
  go_loop [5] (fun i => ∃ k : Nat, k ≤ ln ∧ i = .int .i64 k ∧ Hid ((l.take k).contains n = false)) (fun i => ln - (intOf i).toNat)
  case atStart => exact ⟨0, Nat.zero_le _, rfl, hidIn (by simp)⟩
  case round =>
    obtain ⟨k, hk, rfl, HC⟩ := hrel
    by_cases hlt : k < ln
    · obtain ⟨bk, o, rfl, hbk, hcell⟩ := Ha.out (by have := Hln.out; omega)
      obtain ⟨x, hx⟩ : ∃ x, l[k]? = some x := ⟨l[k]'(by have := Hln.out; omega), List.getElem?_eq_getElem _⟩
      have c0 := hcell k x hx
      have hki : (k : Int) < (ln : Int) := by omega
      by_cases hxn : x = n
      · have hq : (x == n) = true := by simpa using hxn
        have HE : Hid (bq = true) := hidIn (by rw [← HQ.out, ← hxn]; simpa using List.mem_of_getElem? hx)
        clear hcell hx hxn
        go_wp2_with fail
        go_ret
        exact ⟨by rw [HE.out]; rfl, rfl⟩
      · have hq : (x == n) = false := by simpa using hxn
        have HE : Hid ((l.take (k + 1)).contains n = false) := hidIn (by
          rw [take_snoc hx, List.contains_eq_mem, decide_eq_false_iff_not, List.mem_append, List.mem_singleton]
          have h1 := HC.out
          rw [List.contains_eq_mem, decide_eq_false_iff_not] at h1
          exact fun h => h.elim h1 (fun e => hxn e.symm))
        clear hcell hx hxn
        go_wp2_with fail
        go_round
        case rel => exact ⟨k + 1, by omega, by go_num, HE⟩
        case measure => simp [intOf]; omega
    · have hki : ¬ ((k : Int) < (ln : Int)) := by omega
      have HE : Hid (bq = false) := hidIn (by rw [← HQ.out]; have := HC.out; rw [List.take_of_length_le (by have := Hln.out; omega)] at this; exact this)
      go_wp2_with fail
      go_ret
      exact ⟨by rw [HE.out]; rfl, rfl⟩
/-- A number laid into a list, ahead of the first that is above it. -/
def insL : List Int → Int → List Int
  | [], n => [n]
  | x :: xs, n => if n < x then n :: x :: xs else x :: insL xs n
def abv (l : List Int) (n : Int) : Bool := l.any fun x => decide (n < x)
theorem insL_put : ∀ (p : List Int) (n x : Int), abv p n = true → insL (p ++ [x]) n = insL p n ++ [x]
  | [], _, _, h => by simp [abv] at h
  | y :: p, n, x, h => by
    rw [List.cons_append, insL, insL]
    by_cases hy : n < y
    · rw [if_pos hy, if_pos hy]; rfl
    · rw [if_neg hy, if_neg hy, insL_put p n x (by simpa [abv, hy] using h)]; rfl
theorem insL_not : ∀ (p : List Int) (n : Int), abv p n = false → insL p n = p ++ [n]
  | [], _, _ => rfl
  | y :: p, n, h => by
    have h1 : ¬ n < y ∧ abv p n = false := by simpa [abv] using h
    rw [insL, if_neg h1.1, insL_not p n h1.2]
    rfl
theorem insL_new (p : List Int) (n x : Int) (h : abv p n = false) (hx : n < x) : insL (p ++ [x]) n = p ++ [n, x] := by
  induction p with
  | nil => simp [insL, hx]
  | cons y p ih =>
    have h1 : ¬ n < y ∧ abv p n = false := by simpa [abv] using h
    rw [List.cons_append, insL, if_neg h1.1, ih h1.2]
    rfl
theorem abv_snoc (p : List Int) (n x : Int) : abv (p ++ [x]) n = (abv p n || decide (n < x)) := by simp [abv]
theorem mem_insL {y n : Int} : ∀ l : List Int, y ∈ insL l n ↔ y = n ∨ y ∈ l
  | [] => by simp [insL]
  | x :: l => by
    rw [insL]
    by_cases h : n < x
    · rw [if_pos h]; simp
    · rw [if_neg h, List.mem_cons, mem_insL l, List.mem_cons]
      constructor
      · rintro (h | h | h)
        · exact .inr (.inl h)
        · exact .inl h
        · exact .inr (.inr h)
      · rintro (h | h | h)
        · exact .inr (.inl h)
        · exact .inl h
        · exact .inr (.inr h)
theorem insL_rise {n : Int} : ∀ l : List Int, l.Pairwise (fun x y => x < y) → n ∉ l → (insL l n).Pairwise fun x y => x < y
  | [], _, _ => by simp [insL]
  | x :: l, h, hn => by
    rw [List.pairwise_cons] at h
    rw [insL]
    by_cases hx : n < x
    · rw [if_pos hx]
      refine List.pairwise_cons.2 ⟨fun y hy => ?_, List.pairwise_cons.2 h⟩
      rcases List.mem_cons.1 hy with rfl | hy
      · exact hx
      · have := h.1 y hy; omega
    · rw [if_neg hx]
      refine List.pairwise_cons.2 ⟨fun y hy => ?_, insL_rise l h.2 (fun e => hn (List.mem_cons_of_mem _ e))⟩
      rcases (mem_insL l).1 hy with rfl | hy
      · have : y ≠ x := fun e => hn (by rw [e]; exact List.mem_cons_self)
        omega
      · exact h.1 y hy
theorem with_rs {l : List Int} (n : Int) (h : l.Pairwise fun x y => x < y) : (if l.contains n then l else insL l n) = rsL (l ++ [n]) := by
  by_cases hc : l.contains n = true
  · rw [if_pos hc]
    exact crise_ext h (rsL_ok _).1 (fun x => by
      rw [(rsL_ok _).2, List.mem_append, List.mem_singleton]
      exact ⟨.inl, fun h => h.elim id (fun e => by rw [e]; simpa using hc)⟩)
  · rw [if_neg hc]
    have hn : n ∉ l := by simpa using hc
    exact crise_ext (insL_rise l h hn) (rsL_ok _).1 (fun x => by
      rw [(rsL_ok _).2, mem_insL, List.mem_append, List.mem_singleton]
      exact ⟨fun h => h.elim .inr .inl, fun h => h.elim .inr .inl⟩)
theorem rsL_rs (a : List Int) (x : Int) : rsL (rsL a ++ [x]) = rsL (a ++ [x]) := rsL_same fun y => by rw [List.mem_append, List.mem_append, (rsL_ok a).2]
/-- What is laid out behind the first ones. -/
def witK (l : List Int) (n : Int) (k : Nat) : List Int := if abv (l.take k) n then insL (l.take k) n else l.take k
theorem witK_len (l : List Int) (n : Int) (k : Nat) : (witK l n k).length ≤ l.length + 1 := by
  have hi : ∀ p : List Int, (insL p n).length = p.length + 1 := fun p => by
    induction p with
    | nil => rfl
    | cons x p ih => rw [insL]; split <;> simp [ih]
  have hk : (l.take k).length ≤ l.length := by rw [List.length_take]; omega
  unfold witK
  split
  · rw [hi]; omega
  · omega
set_option maxRecDepth 100000 in
set_option maxHeartbeats 2000000 in
theorem dwith_any {l : List Int} {v : Value} (n : Int) {w : World} (h : SlAt ic 1 w v l) (hs : l.Pairwise fun x y => x < y) (hl : l.length ≤ 100000) :
    Calls Try.prog 30 #[v, .int .i64 n] w fun e w' => (∃ v', e = .returned v' ∧ SlAt ic 1 w' v' (rsL (l ++ [n]))) ∧ Below w.heap.size w w' := by
  have HH := hidIn (dhas_any n h)
  have HW := hidIn (with_rs n hs)
  have HSl := hidIn h
  obtain ⟨a, cap, rfl, _, _, hat⟩ := h.ints
  have Ha := hidIn hat
  obtain ⟨bq, hbq⟩ : ∃ bq, l.contains n = bq := ⟨_, rfl⟩
  rw [hbq] at HH HW
  have hwl := fun k => witK_len l n k
  have Hwl := hidIn hwl
  obtain ⟨ln, hln⟩ : ∃ ln, l.length = ln := ⟨_, rfl⟩
  have Hln := hidIn hln
  rw [hln] at hl HH HSl ⊢
  clear h hat hs hbq hwl hln
  go_enter Try.func30, Try.ntmps30
  go_wp2_with fail
  refine HH.out.mono ?_
  rintro e w1 ⟨rfl, hw1⟩
  rw [hw1]
  clear hw1 w1 HH
  cases bq
  · have HW' : Hid (insL l n = rsL (l ++ [n])) := hidIn (by have := HW.out; simpa using this)
    clear HW
    go_wp2_with fail
    go_loopw [5, 6, 7] (fun u b i wr => ∃ k : Nat, k ≤ ln ∧ i = .int .i64 k ∧ b = .bool (abv (l.take k) n) ∧ (∃ a c, u = .slice a (witK l n k).length c) ∧ Hid (Below w.heap.size w wr ∧ wr.ownsRow w.heap.size 3 1 u (witK l n k).length (fl ic (witK l n k)))) (fun _ _ i _ => ln - (intOf i).toNat)
    case atStart => exact ⟨0, Nat.zero_le _, rfl, by simp [abv], ⟨none, 0, rfl⟩, hidIn ⟨Below.refl _ _, World.ownsRow_nil _ _ _ _⟩⟩
    case round =>
      obtain ⟨k, hk, rfl, rfl, ⟨ua, uc, rfl⟩, HR⟩ := hrel
      obtain ⟨hb, hr⟩ := HR.out
      clear HR
      by_cases hlt : k < ln
      · obtain ⟨bk, o, rfl, hbk, hcell⟩ := Ha.out (by have := Hln.out; omega)
        obtain ⟨x, hx⟩ : ∃ x, l[k]? = some x := ⟨l[k]'(by have := Hln.out; omega), List.getElem?_eq_getElem _⟩
        have c0 := (hb.cell (p := ⟨bk, o + k, none⟩) hbk).trans (hcell k x hx)
        have hki : (k : Int) < (ln : Int) := by omega
        have hwk := Hwl.out k
        have hln' := Hln.out
        have ht := take_snoc hx
        obtain ⟨pb, hpb⟩ : ∃ pb, abv (l.take k) n = pb := ⟨_, rfl⟩
        have hab := abv_snoc (l.take k) n x
        rw [← ht, hpb] at hab
        cases pb
        · have hwk0 : witK l n k = l.take k := by unfold witK; rw [hpb]; simp
          rw [hpb]
          by_cases hnx : n < x
          · have hd : decide (n < x) = true := by simpa using hnx
            have hw1 : witK l n (k + 1) = witK l n k ++ [n, x] := by unfold witK; rw [hab, hd, hpb, ht, insL_new _ _ _ hpb hnx]; rfl
            obtain ⟨g, gc, w6, hrun, hown, _, _, hb6⟩ := append_int hr n (by omega) hb.size
            have hB6 := hb.trans hb6
            obtain ⟨g2, gc2, w7, hrun2, hown2, _, _, hb7⟩ := append_int hown x (by omega) hB6.size
            have c6 := (hB6.cell (p := ⟨bk, o + k, none⟩) hbk).trans (hcell k x hx)
            have HO : Hid (Below w.heap.size w w7 ∧ w7.ownsRow w.heap.size 3 1 (.slice (some ⟨g2, 0, none⟩) ((witK l n k).length + 1 + 1) gc2) ((witK l n k).length + 1 + 1) (fl ic (witK l n (k + 1))) ∧ (witK l n (k + 1)).length = (witK l n k).length + 1 + 1 ∧ abv (l.take (k + 1)) n = true) := hidIn ⟨hB6.trans hb7, by rw [hw1]; have := hown2; rw [List.append_assoc] at this; exact this, by rw [hw1]; simp, by rw [hab, hd]; rfl⟩
            have HRun := hidIn hrun
            have HRun2 := hidIn hrun2
            generalize (witK l n k).length = wk at *
            clear hb hr hcell hx ht hpb hab hwk0 hw1 hrun hown hb6 hB6 hrun2 hown2 hb7 hwk hln' hnx
            go_upto_region 11 with (refine l_append rfl _ _ 30 rfl HRun.out ?_)
            clear c0
            go_wp2_with (refine l_append rfl _ _ 30 rfl HRun2.out ?_)
            go_roundw
            case rel =>
              obtain ⟨h1, h2, h3, h4⟩ := HO.out
              exact ⟨k + 1, by omega, by go_num, by rw [h4], ⟨_, gc2, by rw [h3]⟩, hidIn ⟨h1, by rw [h3]; exact h2⟩⟩
            case measure => simp [intOf]; omega
          · have hd : decide (n < x) = false := by simpa using hnx
            have hw1 : witK l n (k + 1) = witK l n k ++ [x] := by
              rw [hwk0]
              unfold witK
              rw [hab, hd, ht]
              rfl
            obtain ⟨g, gc, w6, hrun, hown, _, _, hb6⟩ := append_int hr x (by omega) hb.size
            have HO : Hid (Below w.heap.size w w6 ∧ w6.ownsRow w.heap.size 3 1 (.slice (some ⟨g, 0, none⟩) ((witK l n k).length + 1) gc) ((witK l n k).length + 1) (fl ic (witK l n (k + 1))) ∧ (witK l n (k + 1)).length = (witK l n k).length + 1 ∧ abv (l.take (k + 1)) n = false) := hidIn ⟨hb.trans hb6, by rw [hw1]; exact hown, by rw [hw1]; simp, by rw [hab, hd]; rfl⟩
            have HRun := hidIn hrun
            generalize (witK l n k).length = wk at *
            clear hb hr hcell hx ht hpb hab hw1 hrun hown hb6 hwk hln' hnx hwk0
            go_wp2_with (refine l_append rfl _ _ 30 rfl HRun.out ?_)
            go_roundw
            case rel =>
              obtain ⟨h1, h2, h3, h4⟩ := HO.out
              rw [← h3] at h2
              exact ⟨k + 1, by omega, by go_num, by rw [h4], ⟨_, gc, by rw [h3]⟩, hidIn ⟨h1, by rw [h3] at h2 ⊢; exact h2⟩⟩
            case measure => simp [intOf]; omega
        · rw [hpb]
          have hw1 : witK l n (k + 1) = witK l n k ++ [x] := by
            unfold witK
            rw [hab, hpb, ht]
            simp only [Bool.true_or, if_true]
            exact insL_put _ _ _ hpb
          obtain ⟨g, gc, w6, hrun, hown, _, _, hb6⟩ := append_int hr x (by omega) hb.size
          have HO : Hid (Below w.heap.size w w6 ∧ w6.ownsRow w.heap.size 3 1 (.slice (some ⟨g, 0, none⟩) ((witK l n k).length + 1) gc) ((witK l n k).length + 1) (fl ic (witK l n (k + 1))) ∧ (witK l n (k + 1)).length = (witK l n k).length + 1 ∧ abv (l.take (k + 1)) n = true) := hidIn ⟨hb.trans hb6, by rw [hw1]; exact hown, by rw [hw1]; simp, by rw [hab]; rfl⟩
          have HRun := hidIn hrun
          generalize (witK l n k).length = wk at *
          clear hb hr hcell hx ht hpb hab hw1 hrun hown hb6 hwk hln' 
          go_wp2_with (refine l_append rfl _ _ 30 rfl HRun.out ?_)
          go_roundw
          case rel =>
            obtain ⟨h1, h2, h3, h4⟩ := HO.out
            rw [← h3] at h2
            exact ⟨k + 1, by omega, by go_num, by rw [h4], ⟨_, gc, by rw [h3]⟩, hidIn ⟨h1, by rw [h3] at h2 ⊢; exact h2⟩⟩
          case measure => simp [intOf]; omega
      · have hki : ¬ ((k : Int) < (ln : Int)) := by omega
        have hte : l.take k = l := List.take_of_length_le (by have := Hln.out; omega)
        have hwk := Hwl.out k
        have hln' := Hln.out
        obtain ⟨pb, hpb⟩ : ∃ pb, abv (l.take k) n = pb := ⟨_, rfl⟩
        rw [hpb]
        cases pb
        · have hwk0 : witK l n k = l := by unfold witK; rw [hpb, hte]; simp
          obtain ⟨g, gc, w6, hrun, hown, _, _, hb6⟩ := append_int hr n (by omega) hb.size
          have HE : Hid (SlAt ic 1 w6 (.slice (some ⟨g, 0, none⟩) ((witK l n k).length + 1) gc) (rsL (l ++ [n])) ∧ Below w.heap.size w w6) := hidIn ⟨by
            rw [← HW'.out, insL_not l n (by rw [← hte]; exact hpb)]
            refine slAt_of_row (cs := ic) (fun _ => rfl) (by rw [hwk0] at hown ⊢; exact hown) ?_
            simp, hb.trans hb6⟩
          have HRun := hidIn hrun
          generalize (witK l n k).length = wk at *
          clear hb hr hpb hrun hown hb6 hwk hln' hwk0 hte
          go_wp2_with (refine l_append rfl _ _ 30 rfl HRun.out ?_)
          go_ret
          exact ⟨⟨_, rfl, HE.out.1⟩, HE.out.2⟩
        · have hwk0 : witK l n k = rsL (l ++ [n]) := by rw [← HW'.out]; unfold witK; rw [hpb, hte]; simp
          have HE : Hid (SlAt ic 1 wr (.slice ua (witK l n k).length uc) (rsL (l ++ [n])) ∧ Below w.heap.size w wr) := hidIn ⟨by
            refine slAt_of_row (cs := ic) (k := (witK l n k).length) (fun _ => rfl) (by rw [hwk0] at hr ⊢; exact hr) ?_
            rw [hwk0], hb⟩
          generalize (witK l n k).length = wk at *
          clear hb hr hpb hwk hln' hwk0 hte
          go_wp2_with fail
          go_ret
          exact ⟨⟨_, rfl, HE.out.1⟩, HE.out.2⟩
  · have HE : Hid (SlAt ic 1 w (.slice a ln cap) (rsL (l ++ [n]))) := hidIn (by rw [← HW.out]; simpa using HSl.out)
    go_wp2_with fail
    go_ret
    exact ⟨⟨_, rfl, HE.out⟩, Below.refl _ _⟩
end Go.Proofs.Ytnhlonapbohaeaa
