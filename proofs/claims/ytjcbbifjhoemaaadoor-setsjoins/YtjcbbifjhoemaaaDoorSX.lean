/- dandelionlaw04.SetsJoins: the walk. -/
import Derived.Test.YtjcbbifjhoemaaaDoorSW
import Derived.Test.YtjcbbifjhoemaaaDoorSP
namespace Go.Proofs.YtjcbbifjhoemaaaDoor
open Go.RowKit

/-- The answers, of one list of parts in memory by two values. -/
structure JAns (v u : Value) (V : Int) (ps : List (Int × Nat)) (zs : List Int) (c : Int) : Prop where
  join : ∀ w', PartsAt w' v ps → Tb w' → Calls Tryd.prog 11 #[v, .int .i64 V] w' fun e w'' => (∃ ua un ucap, e = .returned (.tuple #[.slice ua un ucap, .int .i64 c]) ∧ IdsAt w'' (.slice ua un ucap) zs) ∧ Below w'.heap.size w' w''
  rjoin : ∀ w', PartsAt w' u ps → Calls Tryd.prog 12 #[u, .int .i64 V] w' fun e w'' => (∃ ua un ucap, e = .returned (.tuple #[.slice ua un ucap, .int .i64 c]) ∧ IdsAt w'' (.slice ua un ucap) zs) ∧ Below w'.heap.size w' w''
theorem jans (v u : Value) (V : Int) (ps : List (Int × Nat)) : ∃ zs c, JAns v u V ps zs c := by
  by_cases hW : IsW V
  · obtain ⟨W, rfl⟩ := Int.eq_ofNat_of_zero_le (show 0 ≤ V by unfold IsW at hW; omega)
    cases hj : jrun W ps with
    | error c =>
      refine ⟨[], c, fun w' h1 h2 => ?_, fun w' h1 => ?_⟩
      · refine (join_of hW h2 h1).mono ?_
        rintro e w'' ⟨⟨st, _, h, _⟩ | ⟨c', h, rfl⟩, hb⟩
        · rw [hj] at h; cases h
        · rw [hj] at h; cases h
          exact ⟨⟨none, 0, 0, rfl, .inl ⟨none, 0, rfl, rfl⟩⟩, hb⟩
      · refine (rjoin_any hW h1).mono ?_
        rintro e w'' ⟨⟨st, _, h, _⟩ | ⟨c', h, rfl⟩, hb⟩
        · rw [hj] at h; cases h
        · rw [hj] at h; cases h
          exact ⟨⟨none, 0, 0, rfl, .inl ⟨none, 0, rfl, rfl⟩⟩, hb⟩
    | ok st =>
      have ht := took_of hj
      have hi := ids_flg hW ht.fits ht.low
      have hl := rise_len_le W st.1 1024
      refine ⟨rise W st.1 1024, 0, fun w' h1 h2 => ?_, fun w' h1 => ?_⟩
      · refine (join_of hW h2 h1).mono ?_
        rintro e w'' ⟨⟨st', y, h, rfl, hr⟩ | ⟨c', h, _⟩, hb⟩
        · rw [hj] at h; cases h
          rw [hi, List.length_map] at hr
          obtain ⟨ua, ucap, rfl⟩ := row_shape hr
          exact ⟨⟨ua, _, ucap, rfl, idsAt_of_row hr (by omega)⟩, hb⟩
        · rw [hj] at h; cases h
      · refine (rjoin_any hW h1).mono ?_
        rintro e w'' ⟨⟨st', y, h, rfl, hr⟩ | ⟨c', h, _⟩, hb⟩
        · rw [hj] at h; cases h
          obtain ⟨ua, ucap, rfl⟩ := row_shape hr
          exact ⟨⟨ua, _, ucap, rfl, idsAt_of_row hr (by omega)⟩, hb⟩
        · rw [hj] at h; cases h
  · refine ⟨[], 2, fun w' _ h2 => ?_, fun w' _ => ?_⟩
    · refine (join_bad v V hW w' h2.wid).mono ?_
      rintro e w'' ⟨rfl, hb⟩
      exact ⟨⟨none, 0, 0, rfl, .inl ⟨none, 0, rfl, rfl⟩⟩, hb⟩
    · refine (rjoin_bad u V hW w').mono ?_
      rintro e w'' ⟨rfl, hb⟩
      exact ⟨⟨none, 0, 0, rfl, .inl ⟨none, 0, rfl, rfl⟩⟩, hb⟩
theorem PartsAt.keep {w w' : World} {v : Value} {ps : List (Int × Nat)} (h : PartsAt w v ps) (hb : Below w.heap.size w w') : PartsAt w' v ps := by
  rcases h with h | ⟨bk, o, cap, rfl, h⟩
  · exact .inl h
  · exact .inr ⟨bk, o, cap, rfl, h.keep hb⟩

set_option maxRecDepth 100000 in
set_option maxHeartbeats 2000000 in
theorem joins_walk (ps : List (Int × Nat)) (a : Option Addr) (cap : Nat) (V : Int) (w : World) (ht : Tb w) (hu : PartsArg w a cap ps) (hbits : ∀ p ∈ ps, p.2 < 2 ^ 256) :
    Calls Tryd.prog 4 #[.slice a ps.length cap, .int .i64 V] w fun e w' => e = .returned (.bool true) ∧ Below w.heap.size w w' := by
  have hmin : min (ps.length : Int) 200 = ((min ps.length 200 : Nat) : Int) := by omega
  have hadd : Option.map (fun x => x.add 0) a = a := by
    cases a with
    | none => rfl
    | some x => simp [Addr.add]
  have hmc : min ps.length 200 ≤ cap := by have := hu.room; omega
  have hm200 : min ps.length 200 ≤ 200 := by omega
  have hml : min ps.length 200 ≤ ps.length := by omega
  generalize min ps.length 200 = m at hmin hmc hm200 hml
  have hl : (ps.take m).length = m := by rw [List.length_take]; omega
  have hp0 := hu.head hml
  have hbit : ∀ p ∈ ps.take m, p.2 < 2 ^ 256 := fun p hp => hbits p (List.mem_of_mem_take hp)
  obtain ⟨v1, w1, hrun1, hr1, hb1⟩ := append_parts (w := w) (ps := ps.take m) (a := a) (cap := cap) (by omega) hu.no (by rw [hl]; exact hp0)
  rw [hl] at hrun1 hr1
  have hp1 := partsAt_row hbit hr1 hl (by omega)
  have hq1 := hp0.keep hb1
  have ht1 := ht.on hb1
  obtain ⟨va, vcap, rfl⟩ := row_shape hr1
  have HR1 := hidIn hrun1
  generalize ps.take m = ys at hp1 hq1
  clear hrun1 hr1 hp0 hbit hl hbits
  obtain ⟨zs, c, hA⟩ := jans (.slice va m vcap) (.slice a m cap) V ys
  have HA := hidIn hA
  clear hA
  go_enter Tryd.func4, Tryd.ntmps4
  go_wp2_with (first
    | (refine l_append rfl _ _ 23 rfl HR1.out ?_; clear HR1)
    | (go_at_call 11; refine (HA.out.join _ hp1 ht1).mono ?_; rintro e w2 ⟨⟨aa, an, acap, rfl, hi2⟩, hb2⟩; have hq2 := hq1.keep hb2; have hp2 := hp1.keep hb2; have ht2 := ht1.on hb2)
    | (go_at_call 12; refine (HA.out.rjoin _ hq2).mono ?_; rintro e w3 ⟨⟨ba, bn, bcap, rfl, hi3⟩, hb3⟩; have hq3 := hq2.keep hb3; have hp3 := hp2.keep hb3; have ht3 := ht2.on hb3; have hi3' := hi2.keep hb3)
    | (go_at_call 10; refine (sameInts_yes hi3' hi3).mono ?_; rintro e w4 ⟨rfl, hb4⟩; have hq4 := hq3.keep hb4; have hp4 := hp3.keep hb4; have ht4 := ht3.on hb4)
    | (go_at_call 9; refine (sameParts_yes hp4 hq4).mono ?_; rintro e w5 ⟨rfl, hb5⟩; have ht5 := ht4.on hb5)
    | (go_at_call 8; refine (works_any _ ht5.wid).mono ?_; rintro e w6 ⟨rfl, hb6⟩))
  go_ret
  have s1 := hb1.size
  have s2 := hb2.size
  have s3 := hb3.size
  have s4 := hb4.size
  have s5 := hb5.size
  exact ⟨rfl, ((((hb1.trans (hb2.mono (by omega))).trans (hb3.mono (by omega))).trans (hb4.mono (by omega))).trans (hb5.mono (by omega))).trans (hb6.mono (by omega))⟩
end Go.Proofs.YtjcbbifjhoemaaaDoor
