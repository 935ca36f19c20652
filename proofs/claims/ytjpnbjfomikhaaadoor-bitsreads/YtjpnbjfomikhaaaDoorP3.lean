/- bits.Parse, at the text of a bit string. -/
import Derived.Test.YtjpnbjfomikhaaaDoorP2
namespace Go.Proofs.YtjpnbjfomikhaaaDoor
open Go.RowKit Go.Shelf

/-- A string's length. -/
def strLen : Value → Nat
  | .string b => b.size
  | _ => 0
/-- The text as a string. -/
def txs (l : List Nat) : ByteArray := ⟨(txt l).toArray⟩
theorem txs_size (l : List Nat) : (txs l).size = (txt l).length := by show (txt l).toArray.size = _; simp
theorem txt_drop {l : List Nat} {k : Nat} (h : k < l.length) : (txt (l.drop (k + 1))).length < (txt (l.drop k)).length := by
  have hn : 0 < (num l[k]).length := List.length_pos_iff.2 (dec_ne _)
  rw [List.drop_eq_getElem_cons h]
  cases hd : l.drop (k + 1) with
  | nil => rw [txt_one]; simpa [txt, Lib.join_nil] using hn
  | cons p r => rw [txt_more]; simp; omega
theorem cut_words {l : List Nat} {k : Nat} (h : k < l.length) : Lib.cut (txt (l.drop k)) [32] = (num l[k], txt (l.drop (k + 1)), decide (k + 1 < l.length)) := by
  rw [List.drop_eq_getElem_cons h]
  cases hd : l.drop (k + 1) with
  | nil =>
    have hk : ¬ k + 1 < l.length := by
      have := congrArg List.length hd
      simp at this
      omega
    rw [txt_one, cut_last]
    simp [hk, txt, Lib.join_nil]
  | cons p r =>
    have hk : k + 1 < l.length := by
      have := congrArg List.length hd
      simp at this
      omega
    rw [txt_more, cut_more]
    simp [hk]
theorem cut_any (l : List Nat) (k : Nat) (h : k < l.length) (hs : (txt (l.drop k)).length ≤ 1024) (M : Int) (w : World) (hm : w.cell? ⟨1, 0, none⟩ = some (.int .i64 M)) :
    Calls Tryd.prog 42 #[.string (txs (l.drop k)), .string ⟨#[32]⟩] w fun e w' => e = .returned (.tuple #[.string ⟨(num l[k]).toArray⟩, .string (txs (l.drop (k + 1))), .bool (decide (k + 1 < l.length))]) ∧ ∃ n, w' = w.drewN n := by
  refine (Tryd.strings_Cut (txs (l.drop k)) ⟨#[32]⟩ M w (by rw [txs_size]; omega) hm).mono ?_
  rintro e w' ⟨rfl, hn⟩
  refine ⟨?_, hn⟩
  have e1 : (txs (l.drop k)).data.toList = txt (l.drop k) := rfl
  have e2 : (⟨#[32]⟩ : ByteArray).data.toList = [32] := rfl
  rw [e1, e2, cut_words h]
  rfl
/-- The number ahead of the word k; 0: none. -/
def lastOf (l : List Nat) (k : Nat) : Int := if k = 0 then 0 else (l.getD (k - 1) 0 : Int) + 1
theorem not_none (l : List Nat) (h : 0 < l.length) : ((txs l).toList == [45]) = false := by
  rw [ByteArray.toList_eq, beq_eq_false_iff_ne]
  intro e
  have e1 : txt l = [45] := e
  have hd : ∀ b ∈ num (l[0]), 48 ≤ b.toNat ∧ b.toNat ≤ 57 := dec_digit _
  have hh : ∃ t, txt l = num (l[0]) ++ t := by
    cases l with
    | nil => simp at h
    | cons m r =>
      cases r with
      | nil => exact ⟨[], by rw [txt_one]; simp⟩
      | cons p r => exact ⟨_, txt_more m p r⟩
  obtain ⟨t, ht⟩ := hh
  rw [e1] at ht
  cases hn : num (l[0]) with
  | nil => exact absurd hn (dec_ne _)
  | cons b r =>
    rw [hn] at ht hd
    have : b = 45 := by simpa using (List.cons.inj ht).1.symm
    have := hd b (by simp)
    rw [‹b = 45›] at this
    exact absurd this.1 (by decide)
set_option maxRecDepth 100000 in
set_option maxHeartbeats 1000000 in
theorem parse_some (l : List Nat) (hl0 : 0 < l.length) (hl : l.length ≤ 256) (hall : ∀ m ∈ l, m < 256) (hsort : ∀ k p m, l[k]? = some p → l[k + 1]? = some m → p < m) (M : Int) (w : World) (ht : Tabs w) (hm : w.cell? ⟨1, 0, none⟩ = some (.int .i64 M)) :
    Calls Tryd.prog 24 #[.string (txs l)] w fun e w' => e = .returned (.tuple #[bs (orL l), .int .i64 0]) ∧ Below w.heap.size w w' := by
  have hne := not_none l hl0
  have hg1 : 1 < w.heap.size := block_lt_of_cell hm
  have Hall := hidIn (And.intro hall hsort)
  have Hm := hidIn hm
  clear hall hsort hm
  go_enter Tryd.func24, Tryd.ntmps24
  go_wp2
  go_loopw [0, 5, 6] (fun s last more wr => ∃ k : Nat, k ≤ l.length ∧ s = .string (txs (l.drop k)) ∧ last = .int .i64 (lastOf l k) ∧ more = .bool (decide (k < l.length)) ∧ HasBs wr (w.heap.size + 1) (orL (l.take k)) ∧ Below (w.heap.size + 1) (w.alloc (.cells #[.int .u64 0, .int .u64 0, .int .u64 0, .int .u64 0] 24)) wr) (fun s _ _ _ => strLen s)
  case atStart =>
    refine ⟨0, Nat.zero_le _, rfl, rfl, by simp [hl0], ?_, ?_⟩
    · have := hasBs_new (w.alloc (.cells #[.int .u64 0, .int .u64 0, .int .u64 0, .int .u64 0] 24)) 0
      simpa [orL, wd_zero] using this
    · go_grown
  case round =>
    obtain ⟨k, hk, rfl, rfl, rfl, hB, hbel⟩ := hrel
    have hbw : Below w.heap.size w wr := ((Below.refl _ w).alloc (Nat.le_refl _) _).trans (hbel.mono (Nat.le_succ _))
    by_cases hlt : k < l.length
    · have hdc : decide (k < l.length) = true := decide_eq_true hlt
      have hmr : wr.cell? ⟨1, 0, none⟩ = some (.int .i64 M) := (hbw.cell (p := ⟨1, 0, none⟩) hg1).trans Hm.out
      have htl : (txt (l.drop k)).length ≤ 1024 := txt_length _ (fun m hm => Hall.out.1 m (List.mem_of_mem_drop hm)) (by simp; omega)
      have HC := hidIn (cut_any l k hlt htl M wr hmr)
      have hm256 : l[k] < 256 := Hall.out.1 _ (List.getElem_mem hlt)
      have hlast : lastOf l k < (l[k] : Int) + 1 := by
        unfold lastOf
        split
        · omega
        · have h1 : l[k - 1]? = some (l[k - 1]'(by omega)) := List.getElem?_eq_getElem (by omega)
          have h2 : l[k - 1 + 1]? = some l[k] := by rw [show k - 1 + 1 = k from by omega]; exact List.getElem?_eq_getElem hlt
          have := Hall.out.2 (k - 1) _ _ h1 h2
          rw [List.getD_eq_getElem?_getD, h1, Option.getD_some]
          omega
      have HX : Hid (orL (l.take (k + 1)) = orL (l.take k) ||| 2 ^ l[k]) := hidIn (by rw [List.take_add_one, List.getElem?_eq_getElem hlt]; exact orL_snoc _ _)
      have HLn : Hid (lastOf l (k + 1) = (l[k] : Int) + 1) := hidIn (by unfold lastOf; rw [if_neg (by omega), Nat.add_sub_cancel, List.getD_eq_getElem?_getD, List.getElem?_eq_getElem hlt, Option.getD_some])
      have HSz := hidIn (txt_drop hlt)
      have HN := hidIn (number_ok l[k] hm256)
      have htr := ht.keep hbw
      generalize hmm : l[k] = m at hm256 hlast HX HLn HN HC
      have HMM := hidIn hmm
      clear hmm hmr
      generalize orL (l.take k) = X at hB HX
      generalize lastOf l k = la at hlast
      obtain ⟨s1, hs1⟩ : ∃ s1, s1 = txs (l.drop (k + 1)) := ⟨_, rfl⟩
      rw [← hs1] at HC
      have HS1 := hidIn hs1
      clear hs1
      obtain ⟨s0, hs0⟩ : ∃ s0, s0 = txs (l.drop k) := ⟨_, rfl⟩
      rw [← hs0] at HC ⊢
      have HS0 := hidIn hs0
      clear hs0
      generalize hw0 : (⟨(num m).toArray⟩ : ByteArray) = W0 at HC HN
      clear hw0
      go_wp2_with fail
      refine HC.out.mono ?_
      rintro e w2 ⟨rfl, nq, rfl⟩
      have hb2 : Below wr.heap.size wr (wr.drewN nq) := ⟨rfl, rfl, rfl, Nat.le_refl _, fun _ _ => rfl⟩
      have hB2 := hB.keep hb2 hB.lt
      have hbel2 := hbel.trans (hb2.mono (by have := hbel.size; simp at this; omega))
      have htr2 := htr.keep hb2
      generalize wr.drewN nq = W2 at hB2 hbel2 htr2 ⊢
      go_wp2_with fail
      refine (HN.out _ htr2).mono ?_
      rintro e w3 ⟨rfl, hb3⟩
      have hB3 := hB2.keep hb3 hB2.lt
      have hbel3 := hbel2.trans (hb3.mono (by have := hbel2.size; simp at this; omega))
      clear hB hbel hb2 hB2 hbel2 hb3 htr htr2 htl hbw
      have hla : ¬ (m : Int) + 1 ≤ la := by omega
      have hS := Held.of hB3 hbel3
      go_wp2_with (go_at_call 26; refine (isBit_yes _ (by omega) (by omega) _).mono ?_; rintro e w4 ⟨rfl, hw4⟩; replace hw4 := hw4.symm; subst hw4)
      obtain ⟨c0, c1, c2, c3, f0, f1, f2, f3, lt⟩ := hB3
      go_region_with (first | (go_at_call 28; refine (only_any m hm256 _).mono ?_; rintro e w1 ⟨rfl, hb1⟩; have hS1 := Held.keep (Held.drew hS) hb1; obtain ⟨c0', c1', c2', c3', f0', f1', f2', f3', lt', hb1'⟩ := hS1) | (go_at_call 36; refine (or_any _ _ _).mono ?_; rintro e w2 ⟨rfl, hb2⟩; obtain ⟨c0'', c1'', c2'', c3'', f0'', f1'', f2'', f3'', lt'', hb2''⟩ := Held.keep ⟨c0', c1', c2', c3', f0', f1', f2', f3', lt', hb1'⟩ hb2))
      all_goals
        go_wp2
        go_roundw
        case rel => exact ⟨k + 1, by omega, by rw [HS1.out], by rw [HLn.out], rfl, by rw [HX.out]; exact HasBs.put ⟨c0'', c1'', c2'', c3'', f0'', f1'', f2'', f3'', lt''⟩ _, below_put hb2'' (Nat.le_refl _)⟩
        case measure =>
          show s1.size < s0.size
          rw [HS1.out, HS0.out, txs_size, txs_size]
          exact HSz.out
    · have hdc : decide (k < l.length) = false := decide_eq_false hlt
      have hke : k = l.length := by omega
      have hR := (hasBs_new w 0).keep hbel (by omega)
      have HT : Hid (orL (l.take k) = orL l) := by rw [hke, List.take_length]; exact rfl
      generalize orL (l.take k) = X at hB HT
      obtain ⟨c0, c1, c2, c3, f0, f1, f2, f3, lt⟩ := hB
      obtain ⟨d0, d1, d2, d3, g0, g1, g2, g3, lt'⟩ := hR
      clear hke
      generalize txs (l.drop k) = s0
      generalize lastOf l k = la
      go_wp2
      refine bodyPost_ret (v := .tuple #[bs X, .int .i64 0]) (by simp [results, Tryd.results24, go_sem, d0, d1, d2, d3]) rfl ⟨?_, ?_⟩
      · rw [← HT.out]
      · exact below_put hbw (Nat.le_refl _)
theorem parse_lst (N : Nat) (hN : N < 2 ^ 256) (hz : N ≠ 0) (hsort : ∀ k p m, (lst N)[k]? = some p → (lst N)[k + 1]? = some m → p < m) (M : Int) (w : World) (ht : Tabs w) (hm : w.cell? ⟨1, 0, none⟩ = some (.int .i64 M)) :
    Calls Tryd.prog 24 #[.string (txs (lst N))] w fun e w' => e = .returned (.tuple #[bs N, .int .i64 0]) ∧ Below w.heap.size w w' := by
  have h0 : 0 < (lst N).length := by
    rcases Nat.eq_zero_or_pos (lst N).length with h | h
    · exact absurd (lst_nil hN (List.eq_nil_of_length_eq_zero h)) hz
    · exact h
  have := parse_some (lst N) h0 (by have := cntTo_le 256 N; rw [← lst_length] at this; exact this) (fun m hm => (mem_lst.1 hm).1) hsort M w ht hm
  rw [orL_lst hN] at this
  exact this
set_option maxHeartbeats 400000 in
theorem parse_none (w : World) : Calls Tryd.prog 24 #[.string ⟨#[45]⟩] w fun e w' => e = .returned (.tuple #[bs 0, .int .i64 0]) ∧ Below w.heap.size w w' := by
  go_enter Tryd.func24, Tryd.ntmps24
  go_wp2
  refine bodyPost_ret (v := .tuple #[bs 0, .int .i64 0]) (by simp [results, Tryd.results24, go_sem, bs, wd_zero]) rfl ⟨rfl, ?_⟩
  go_grown
end Go.Proofs.YtjpnbjfomikhaaaDoor
