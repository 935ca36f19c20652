/- dandelionlaw01.BitsReads: the walk. -/
import Derived.Test.YtjpnbjfomikhaaaDoorY3
import Derived.Test.YtjpnbjfomikhaaaDoorLP
namespace Go.Proofs.YtjpnbjfomikhaaaDoor
open Go.RowKit

theorem orL_ne {l : List Nat} (hl : l ≠ []) (h : Ri 0 l) : orL l ≠ 0 := fun e => by
  have := lst_orL h
  rw [e, lst_zero] at this
  exact hl this.symm
/-- **Any text: both answer the same.** -/
theorem parse_both (s : ByteArray) (hs : s.size ≤ 140737488351232) : ∃ (N : Nat) (x : Int),
    (∀ (M : Int) (w : World), Tabs w → ErrV w → ErrR w → w.cell? ⟨1, 0, none⟩ = some (.int .i64 M) → Calls Tryd.prog 24 #[.string s] w fun e w' => e = .returned (.tuple #[bs N, .int .i64 x]) ∧ Below w.heap.size w w') ∧
    (∀ w, Calls Tryd.prog 25 #[.string s] w fun e w' => e = .returned (.tuple #[bs N, .int .i64 x]) ∧ Below w.heap.size w w') := by
  by_cases hd : s = ⟨#[45]⟩
  · subst hd
    refine ⟨0, 0, fun M w _ _ _ _ => parse_none w, fun w => ?_⟩
    refine (rparse_any ⟨#[45]⟩ (by decide) w).mono ?_
    have e0 : scan (⟨#[45]⟩ : ByteArray).data.toList = 0 := by decide +kernel
    rw [e0]
    rintro e w' ⟨⟨_, rfl⟩ | ⟨h, _⟩, hb⟩
    · exact ⟨rfl, hb⟩
    · exact absurd (by unfold textOf; rw [if_pos rfl]) h
  · by_cases ht : ∃ l, l ≠ [] ∧ Ri 0 l ∧ s.data.toList = txt l
    · obtain ⟨l, hl, hr, he⟩ := ht
      have es : s = txs l := ba_ext (by rw [he]; rfl)
      have hlen := hr.len
      have hpos : 0 < l.length := List.length_pos_iff.2 hl
      refine ⟨orL l, 0, fun M w ht _ _ hm => ?_, fun w => ?_⟩
      · rw [es]
        exact parse_some l hpos hlen (fun m hm' => (hr.lt m hm').2) hr.next M w ht hm
      · have hsz : s.size ≤ 1024 := by
          rw [es, txs_size]
          exact txt_length l (fun m hm' => (hr.lt m hm').2) hlen
        refine (rparse_any s hsz w).mono ?_
        rw [he, scan_of hl hr]
        rintro e w' ⟨⟨_, rfl⟩ | ⟨h, _⟩, hb⟩
        · exact ⟨rfl, hb⟩
        · refine absurd ?_ h
          unfold textOf
          rw [if_neg (orL_ne hl hr), lst_orL hr, es]
          rfl
    · have hno : NoT 0 s.data.toList := fun l hl hr e => ht ⟨l, hl, hr, e⟩
      have hne : (s.toList == [45]) = false := by
        rw [beq_eq_false_iff_ne]
        intro e
        rw [ByteArray.toList_eq] at e
        exact hd (ba_ext e)
      refine ⟨0, 4, fun M w ht he hr _ => parse_no s hne hs hno w ht he hr, fun w => ?_⟩
      by_cases hsz : s.size ≤ 1024
      · refine (rparse_any s hsz w).mono ?_
        rintro e w' ⟨⟨h, _⟩ | ⟨_, rfl⟩, hb⟩
        · exfalso
          unfold textOf at h
          by_cases hz : scan s.data.toList = 0
          · rw [if_pos hz] at h
            exact hd h.symm
          · rw [if_neg hz] at h
            refine hno (lst (scan s.data.toList)) (fun e => hz (lst_nil (scan_lt _) e)) (ri_lst _) ?_
            have := congrArg (fun b : ByteArray => b.data.toList) h
            simp only [tb] at this
            exact this.symm
        · exact ⟨rfl, hb⟩
      · exact rparse_long s (by omega) hs w

set_option maxRecDepth 100000 in
set_option maxHeartbeats 2000000 in
theorem reads_walk (s : ByteArray) (hs : s.size ≤ 140737488351232) (M : Int) (w : World) (ht : Tabs w) (he : ErrV w) (hr : ErrR w) (hm : w.cell? ⟨1, 0, none⟩ = some (.int .i64 M)) :
    Calls Tryd.prog 4 #[.string s] w fun e w' => e = .returned (.bool true) ∧ Below w.heap.size w w' := by
  obtain ⟨N, x, h1, h2⟩ := parse_both s hs
  have H1 := hidIn (h1 M w ht he hr hm)
  have H2 := hidIn h2
  have hq := eq_same N
  clear h1 h2 he hr hm hs
  go_enter Tryd.func4, Tryd.ntmps4
  go_wp2_with fail
  refine H1.out.mono ?_
  rintro e w1 ⟨rfl, hb1⟩
  have hn1 := hasBs_new w1 N
  have hB1 : Below w.heap.size w (w1.alloc (.cells #[.int .u64 (wd N 0), .int .u64 (wd N 1), .int .u64 (wd N 2), .int .u64 (wd N 3)] 24)) := hb1.trans (((Below.refl _ w1).alloc (Nat.le_refl _) _).mono hb1.size)
  clear hb1 H1
  go_wp2_with fail
  refine (H2.out _).mono ?_
  rintro e w2 ⟨rfl, hb2⟩
  have hn2 := hn1.keep hb2 hn1.lt
  have hB2 : Below w.heap.size w w2 := hB1.trans (hb2.mono hB1.size)
  have hn3 := hn2.keep ((Below.refl _ w2).alloc (Nat.le_refl _) (.cells #[.int .u64 (wd N 0), .int .u64 (wd N 1), .int .u64 (wd N 2), .int .u64 (wd N 3)] 24)) hn2.lt
  have hn4 := hasBs_new w2 N
  have hB3 : Below w.heap.size w (w2.alloc (.cells #[.int .u64 (wd N 0), .int .u64 (wd N 1), .int .u64 (wd N 2), .int .u64 (wd N 3)] 24)) := hB2.alloc hB2.size _
  have ht3 := ht.keep hB3
  clear hn1 hn2 hb2 hB1 hB2 H2
  obtain ⟨c0, c1, c2, c3, _, _, _, _, _⟩ := hn3
  obtain ⟨d0, d1, d2, d3, _, _, _, _, _⟩ := hn4
  go_wp2_with (go_at_call 23; refine (works_any _ ht3).mono ?_; rintro e w6 ⟨rfl, hb6⟩)
  go_ret
  exact ⟨rfl, hB3.trans (hb6.mono hB3.size)⟩
end Go.Proofs.YtjpnbjfomikhaaaDoor
