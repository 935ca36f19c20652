/- A calendar of string: its things in order, as a list; Drop. -/
import Derived.Test.YtaldehgggilmdaaCXS
namespace Go.Proofs.Ytaldehgggilmdaa.Ca.S
open Go.RowKit Go.Maps Go.Sort Go.Shelf

set_option maxRecDepth 100000 in
set_option maxHeartbeats 1000000 in
theorem sortedF_ok {w : World} {cp mb Bb : Nat} {v : Value} {es : List Th} {p : Int} {L : List (Tg ByteArray)} (h : HpC w cp v mb es p) (hp : (es.map tg).Perm L) (hL : Ord L) (hl : es.length ≤ 100000) (hB : w.heap[Bb]? = some (.cells #[v] 41)) :
    Calls Try.prog 34 #[.func (.func 41) #[] #[ptr Bb], .func (.func 32) #[] #[]] w fun e w' =>
      (∃ (es' : List Th) (a : Option Addr) (cap : Nat), es'.Perm es ∧ es'.map tg = L ∧ e = .returned (.slice a es.length cap) ∧ (0 < es.length → ∃ g, a = some ⟨g, 0, none⟩ ∧ w.heap.size ≤ g ∧ g < w'.heap.size ∧ ∀ j e, es'[j]? = some e → w'.cell? ⟨g, j, none⟩ = some (ptr e.1.1))) ∧ Below w.heap.size w w' := by
  obtain ⟨ad, cap, rfl, _, hg⟩ := h.slice
  obtain ⟨g, hga⟩ : ∃ g, 0 < es.length → ad = some ⟨g, 0, none⟩ ∧ g < w.heap.size := by
    by_cases h0 : 0 < es.length
    · obtain ⟨g, h1, h2, _⟩ := hg h0
      exact ⟨g, fun _ => ⟨h1, h2⟩⟩
    · exact ⟨0, fun h => absurd h h0⟩
  have hw0 : 0 < w.heap.size := Nat.lt_of_le_of_lt (Nat.zero_le _) h.lt
  obtain ⟨g, hga, hgl⟩ : ∃ g, (0 < es.length → ad = some ⟨g, 0, none⟩) ∧ g < w.heap.size := by
    by_cases h0 : 0 < es.length
    · exact ⟨g, fun h => (hga h).1, (hga h0).2⟩
    · exact ⟨0, fun h => absurd h h0, hw0⟩
  have hxl : (es.map fun e => e.1.1).length = es.length := List.length_map _
  have hcl : ∀ j x, (es.map fun e => e.1.1)[j]? = some x → w.cell? ⟨g, j, none⟩ = some (ptr x) := fun j x hx => by
    rw [List.getElem?_map] at hx
    obtain ⟨e, he, rfl⟩ := Option.map_eq_some_iff.1 hx
    have h0 : 0 < es.length := by have := (List.getElem?_eq_some_iff.1 he).1; omega
    obtain rfl := hga h0
    exact h.at he
  have HC := hidIn (collect_ok (xs := es.map fun e => e.1.1) (by rw [hxl]; exact hB) (by rw [hxl]; exact hga) (by rw [hxl]; exact hl) hcl hgl)
  rw [hxl] at HC
  have HH := hidIn h
  have Hp := hidIn hp
  have HL := hidIn hL
  obtain ⟨n, hn⟩ : ∃ n, es.length = n := ⟨_, rfl⟩
  rw [hn] at HC hl ⊢
  have Hn := hidIn hn
  clear h hp hL hB hga hcl hxl hn hg
  go_enter Try.func34, Try.ntmps34
  go_wp2_with fail
  refine HC.out.mono ?_
  rintro e w1 ⟨⟨v', rfl, hr⟩, hb⟩
  obtain ⟨va, vc, rfl⟩ := row_shape hr
  have HB := hidIn hb
  by_cases h0 : n = 0
  · subst h0
    have HS := hidIn (by
      have L := Try.sortPS
      exact AnyF.slices_SortFunc_none { L with } va vc (.func (.func 32) #[] #[]) w1 : Calls Try.prog 40 #[.slice va 0 vc, .func (.func 32) #[] #[]] w1 fun r w' => r = .returned (.tuple #[]) ∧ w' = w1)
    clear hr hb HC
    go_wp2_with fail
    refine HS.out.mono ?_
    rintro e w2 ⟨rfl, hw2⟩
    rw [hw2]
    clear hw2 w2
    go_wp2
    go_returns
    have he0 : es = [] := List.length_eq_zero_iff.1 Hn.out
    have hLn : L = [] := by have := Hp.out; rw [he0] at this; exact this.symm.eq_nil
    exact ⟨⟨[], _, _, by rw [he0], by rw [hLn]; rfl, rfl, fun h => by omega⟩, HB.out⟩
  · rcases hr.2 with ⟨_, h1⟩ | ⟨g1, cap1, cur, h1, h2, h3, _⟩
    · omega
    · simp only [Value.slice.injEq] at h1
      obtain ⟨rfl, _, rfl⟩ := h1
      have hent : ∀ e ∈ es, (∃ i : Int, w1.heap[e.1.1]? = some (.cells (entA e i) 53)) ∧ e.1.1 ≠ g1 := fun e he => by
        obtain ⟨i, hi, rfl⟩ := List.getElem_of_mem he
        have h4 := HH.out.ent i es[i] (List.getElem?_eq_getElem hi)
        exact ⟨⟨i, (hb.block _ (block_lt h4)).trans h4⟩, by have := block_lt h4; omega⟩
      have HS := hidIn (sort_ok hr Hn.out hent Hp.out HL.out (by omega) hl)
      clear hr hb HC hent h3
      go_wp2_with fail
      refine HS.out.mono ?_
      rintro e w2 ⟨rfl, es', q1, q2, q3, q4⟩
      have Q1 := hidIn q1
      have Q2 := hidIn q2
      have Q3 := hidIn q3
      have Q4 := hidIn q4
      clear q1 q2 q3 q4 HS
      go_wp2
      go_returns
      have hg1 : g1 < w2.heap.size := by
        have hn0 : 0 < es'.length := by rw [Q1.out.length_eq, Hn.out]; omega
        exact block_lt_of_cell (a := ⟨g1, 0, none⟩) (Q3.out 0 es'[0] (List.getElem?_eq_getElem hn0))
      exact ⟨⟨es', _, _, Q1.out, Q2.out, rfl, fun _ => ⟨g1, rfl, h2, hg1, Q3.out⟩⟩, HB.out.trans (Q4.out.below HB.out.size (fun k hk => by omega))⟩
set_option maxRecDepth 100000 in
set_option maxHeartbeats 1000000 in
theorem drop_ok {w : World} {S : Nat → Prop} {cp p : Nat} {L : List (Tg ByteArray)} (k : Int) (hk : (Lit.int .i64 k).wf = true) (h : Cal w S cp L p) (hp : p < 100000) (hl : L.length ≤ 100000) :
    Calls Try.prog 13 #[ptr cp, .int .i64 k] w fun e w' => e = .returned (.bool (L.any fun a => a.2 == k)) ∧ Cal w' S cp (dropT L k) p ∧ Fr S w w' := by
  obtain ⟨v, mb, es, f, h1, h2, h3, h4, h5, h6, h7, h8⟩ := h.x
  have HT := hidIn (there_yes h1.c.1)
  have c2 := h1.c.2.2.1
  have hlk := h2.look (T := 40) Try.underlying40 zeroPtr hk
  cases hf : f k with
  | none =>
    have hno : ∀ a ∈ L, a.2 ≠ k := fun a ha e => by
      obtain ⟨x, hx, hxe⟩ := List.mem_map.1 (h5.mem_iff.2 ha)
      have h9 := h3.1 x hx
      have h10 : x.2 = k := by rw [← e, ← hxe]
      rw [h10, hf] at h9
      cases h9
    have HE : Hid ((L.any fun a => a.2 == k) = false ∧ dropT L k = L) := hidIn ⟨by
      rw [List.any_eq_false]
      intro a ha
      simpa using hno a ha, dropT_none hno⟩
    rw [HE.out.1, HE.out.2]
    rw [hf] at hlk
    have HLk : Hid ((Instr.lookup 40 (.map (some mb)) (.int .i64 k) true).run Try.prog w = .ok (.tuple #[nilP, .bool false]) w) := hidIn hlk
    have HH := hidIn h
    clear h1 h2 h3 h4 h5 h6 h7 h8 h hlk hf hno
    go_enter Try.func13, Try.ntmps13
    go_wp2_with (first
      | (go_at_call 18; refine HT.out.mono ?_; rintro e w1 ⟨rfl, hw1⟩; rw [hw1]; clear hw1 w1)
      | (refine l_look9 rfl _ _ 40 true rfl HLk.out ?_))
    go_returns
    exact ⟨rfl, HH.out, Fr.refl _ _⟩
  | some x =>
    obtain ⟨a, ha, hak, rfl⟩ := h3.2 k x hf
    obtain ⟨i, hi, hia⟩ := List.getElem_of_mem ha
    have hai : es[i]? = some a := by rw [List.getElem?_eq_getElem hi, hia]
    have HR := hidIn (rem_cal h hp hl h1 h2 h3 h4 h5 h6 h7 h8 hai)
    rw [hak] at HR
    have HE : Hid ((L.any fun a => a.2 == k) = true) := hidIn (by
      rw [List.any_eq_true]
      exact ⟨tg a, h5.mem_iff.1 (List.mem_map.2 ⟨a, ha, rfl⟩), by simpa using hak⟩)
    rw [HE.out]
    rw [hf] at hlk
    have HLk : Hid ((Instr.lookup 40 (.map (some mb)) (.int .i64 k) true).run Try.prog w = .ok (.tuple #[ptr a.1.1, .bool true]) w) := hidIn hlk
    obtain ⟨A, hA⟩ : ∃ A, a.1.1 = A := ⟨_, rfl⟩
    rw [hA] at HR HLk
    clear h1 h2 h3 h4 h5 h6 h7 h8 h hlk hf ha hak hi hia hai hA
    go_enter Try.func13, Try.ntmps13
    go_wp2_with (first
      | (go_at_call 18; refine HT.out.mono ?_; rintro e w1 ⟨rfl, hw1⟩; rw [hw1]; clear hw1 w1)
      | (refine l_look9 rfl _ _ 40 true rfl HLk.out ?_))
    go_wp2_with fail
    refine HR.out.mono ?_
    rintro e w2 ⟨⟨r, rfl⟩, hC, hF⟩
    have HC := hidIn hC
    have HF := hidIn hF
    clear hC hF HR
    go_wp2
    go_returns
    exact ⟨rfl, HC.out, HF.out⟩
end Go.Proofs.Ytaldehgggilmdaa.Ca.S
