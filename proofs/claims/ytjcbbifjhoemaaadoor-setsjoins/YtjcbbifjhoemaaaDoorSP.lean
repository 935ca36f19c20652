/- dandelionlaw04.SetsSplits: the walk. -/
import Derived.Test.YtjcbbifjhoemaaaDoorSO
namespace Go.Proofs.YtjcbbifjhoemaaaDoor
open Go.RowKit

/-- Numbers as an argument. -/
structure IntsArg (w : World) (a : Option Addr) (cap : Nat) (zs : List Int) : Prop where
  room : zs.length ≤ cap
  len : zs.length ≤ 9223372036854775807
  no : a = none → cap = 0
  at_ : 0 < zs.length → ∃ bk o, a = some ⟨bk, o, none⟩ ∧ bk < w.heap.size ∧ ∀ j, j < zs.length → w.cell? ⟨bk, o + j, none⟩ = some (.int .i64 (zs[j]?.getD 0))
theorem IntsArg.ids {w : World} {a : Option Addr} {cap m : Nat} {zs : List Int} (h : IntsArg w a cap zs) (hm : m ≤ zs.length) : IdsAt w (.slice a m cap) (zs.take m) := by
  have hl : (zs.take m).length = m := by rw [List.length_take]; omega
  by_cases h0 : m = 0
  · subst h0; exact .inl ⟨a, cap, rfl, by simp⟩
  · obtain ⟨bk, o, rfl, hbk, hc⟩ := h.at_ (by omega)
    refine .inr ⟨bk, o, cap, by rw [hl], hbk, by rw [hl]; have := h.len; omega, fun j hj => ?_⟩
    rw [hl] at hj
    rw [hc j (by omega), List.getElem?_take_of_lt hj]
theorem IntsArg.all {w : World} {a : Option Addr} {cap m : Nat} {zs : List Int} (h : IntsArg w a cap zs) (hm : m ≤ zs.length) (h2 : m ≤ 100000) :
    ∃ v w', (Builtin.append_ #[22, 22] 22 #[.slice none 0 0, .slice a m cap]).run Tryd.prog w = .ok v w' ∧ w'.ownsRow w.heap.size 3 1 v m ((zs.take m).map fun z => Value.int .i64 z) ∧ Below w.heap.size w w' := by
  have hl : (zs.take m).length = m := by rw [List.length_take]; omega
  have := append_all (w := w) (zs := zs.take m) (a := a) (cap := cap) (by omega) h.no (fun ad e j hj => by
    rw [hl] at hj
    obtain ⟨bk, o, rfl, _, hc⟩ := h.at_ (by omega)
    cases e
    rw [Addr.add_mid, hc j (by omega), List.getElem?_take_of_lt hj]) (fun e => by
      have h0 := h.no e
      have := h.room
      have : m = 0 := by omega
      rw [this]; simp)
  rw [hl] at this
  exact this

theorem wid_pos {w : World} (h : Wid w) : 0 < w.heap.size := by
  have h1 := h.t
  unfold Lib.TabIs World.var? at h1
  rw [gWid] at h1
  simp only [Option.bind_some] at h1
  exact Nat.lt_of_le_of_lt (Nat.zero_le _) (Nat.lt_of_not_le (fun hle => by rw [Array.getElem?_eq_none hle] at h1; cases h1))
theorem row_room {w : World} {base g n cap size : Nat} {e : TypeId} {xs : List Value} (h : w.ownsRow base e size (.slice (some ⟨g, 0, none⟩) n cap) n xs) : n ≤ cap ∧ g < w.heap.size := by
  rcases h.2 with ⟨h, _⟩ | ⟨g', cap', cur, h, _, hh, hle, _⟩
  · cases h
  · cases h; exact ⟨hle, (Array.getElem?_eq_some_iff.1 hh).1⟩
set_option maxRecDepth 100000 in
set_option maxHeartbeats 2000000 in
theorem splits_bad (zs : List Int) (a : Option Addr) (cap : Nat) (W : Int) (w : World) (ht : Wid w) (hu : IntsArg w a cap zs) (hbad : ¬ IsW W ∨ ¬ allIds (zs.take 200)) :
    Calls Tryd.prog 3 #[.slice a zs.length cap, .int .i64 W] w fun e w' => e = .returned (.bool true) ∧ Below w.heap.size w w' := by
  have hmin : min (zs.length : Int) 200 = ((min zs.length 200 : Nat) : Int) := by omega
  have hadd : Option.map (fun x => x.add 0) a = a := by
    cases a with
    | none => rfl
    | some x => simp [Addr.add]
  have hmc : min zs.length 200 ≤ cap := by have := hu.room; omega
  have hm200 : min zs.length 200 ≤ 200 := by omega
  have hml : min zs.length 200 ≤ zs.length := by omega
  have htk : zs.take 200 = zs.take (min zs.length 200) := by
    by_cases h : zs.length ≤ 200
    · rw [Nat.min_eq_left h, List.take_of_length_le h, List.take_of_length_le (Nat.le_refl _)]
    · rw [Nat.min_eq_right (by omega)]
  rw [htk] at hbad
  clear htk
  generalize min zs.length 200 = m at hmin hmc hm200 hml hbad
  obtain ⟨v1, w1, hrun1, hr1, hb1⟩ := hu.all hml (by omega)
  have hidsW := hu.ids hml
  have hs1 := hb1.size
  have hpos := wid_pos ht
  obtain ⟨g, gcap, w2, hrun2, hr2, _, hs2, _, hb2⟩ := append_int (B := w1.heap.size) (c := 0) hr1 (x := .int .i64 77) rfl (by omega) hs1 (fun g hg => .inl (hr1.lt g hg).2) (by omega)
  have hroom := row_room hr2
  have hmg : m ≤ gcap := by omega
  have hb12 := hb1.trans hb2
  have ht2 := ht.keep hb12
  have hids2 := hidsW.keep hb12
  have hin2 : IdsAt w2 (.slice (some ⟨g, 0, none⟩) m gcap) (zs.take m) := by
    have hl : (zs.take m).length = m := by rw [List.length_take]; omega
    refine .inr ⟨g, 0, gcap, by rw [hl], hroom.2, by omega, fun j hj => ?_⟩
    rw [Nat.zero_add]
    refine row_cell hr2 ?_
    rw [List.getElem?_append_left (by simpa using hj), List.getElem?_map, List.getElem?_eq_getElem hj]
    rfl
  have h77 : w2.cell? ⟨g, m, none⟩ = some (.int .i64 77) := row_cell hr2 (by
    have hl : ((zs.take m).map fun z => Value.int .i64 z).length = m := by rw [List.length_map, List.length_take]; omega
    rw [List.getElem?_append_right (by rw [hl]; exact Nat.le_refl _), hl, Nat.sub_self]
    rfl)
  have HR1 := hidIn hrun1
  have HR2 := hidIn hrun2
  obtain ⟨va, vcap, rfl⟩ := row_shape hr1
  have Hzs := hidIn (rfl : zs.take m = zs.take m)
  obtain ⟨ys, hys⟩ : ∃ ys, zs.take m = ys := ⟨_, rfl⟩
  rw [hys] at hids2 hin2 hbad
  clear hrun1 hrun2 hr1 hr2 hidsW Hzs
  have HSp : Hid (Calls Tryd.prog 5 #[.slice (some ⟨g, 0, none⟩) m gcap, .int .i64 W] w2 fun e w' => e = .returned (.tuple #[.slice none 0 0, .int .i64 2]) ∧ Below w2.heap.size w2 w') := hidIn (by
    by_cases hW : IsW W
    · obtain ⟨V, rfl⟩ := Int.eq_ofNat_of_zero_le (show 0 ≤ W by unfold IsW at hW; omega)
      exact split_wrong hbad hin2 ht2
    · exact split_wide hW ht2)
  have HRs : Hid (∀ w', IdsAt w' (.slice a m cap) ys → Calls Tryd.prog 6 #[.slice a m cap, .int .i64 W] w' fun e w'' => e = .returned (.tuple #[.slice none 0 0, .int .i64 0, .int .i64 2]) ∧ Below w'.heap.size w' w'') := hidIn (fun w' h' => by
    by_cases hW : IsW W
    · obtain ⟨V, rfl⟩ := Int.eq_ofNat_of_zero_le (show 0 ≤ W by unfold IsW at hW; omega)
      exact rsplit_none hW (by rcases hbad with h | h; exact absurd hW h; exact h) h'
    · exact rsplit_wide hW)
  have HSt : Hid (∀ w', IdsAt w' (.slice (some ⟨g, 0, none⟩) m gcap) ys → Wid w' → Calls Tryd.prog 7 #[.slice (some ⟨g, 0, none⟩) m gcap, .int .i64 W] w' fun e w'' => e = .returned (.tuple #[.int .i64 0, .int .i64 2]) ∧ Below w'.heap.size w' w'') := hidIn (fun w' h' h2 => by
    by_cases hW : IsW W
    · obtain ⟨V, rfl⟩ := Int.eq_ofNat_of_zero_le (show 0 ≤ W by unfold IsW at hW; omega)
      exact sets_wrong hbad h' h2
    · exact sets_wide hW h2)
  go_enter Tryd.func3, Tryd.ntmps3
  go_wp2_with (first
    | (refine l_append rfl _ _ 22 rfl HR1.out ?_; clear HR1)
    | (refine l_append rfl _ _ 22 rfl HR2.out ?_)
    | (go_at_call 5; refine Calls.mono HSp.out ?_; rintro e w3 ⟨rfl, hb3⟩)
    | (go_at_call 6; refine (HRs.out _ (hids2.keep hb3)).mono ?_; rintro e w4 ⟨rfl, hb4⟩; have ht4 := (ht2.keep hb3).keep hb4)
    | (go_at_call 7; refine (HSt.out _ ((hin2.keep hb3).keep hb4) ht4).mono ?_; rintro e w5 ⟨rfl, hb5⟩; have ht5 := ht4.keep hb5)
    | (go_at_call 8; refine (works_any _ ht5).mono ?_; rintro e w6 ⟨rfl, hb6⟩))
  go_ret
  have s12 := hb12.size
  have s3 := hb3.size
  have s4 := hb4.size
  have s5 := hb5.size
  exact ⟨rfl, ((((hb12.trans (hb3.mono (by omega))).trans (hb4.mono (by omega))).trans (hb5.mono (by omega))).trans (hb6.mono (by omega)))⟩
end Go.Proofs.YtjcbbifjhoemaaaDoor
