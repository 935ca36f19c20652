/- What Split, the document's Split and Sets answer, where nothing is refused. -/
import Derived.Test.YtjcbbifjhoemaaaDoorSP
namespace Go.Proofs.YtjcbbifjhoemaaaDoor
open Go.RowKit

/-- The answers, of one list in memory by two values. -/
structure Answers (v u : Value) (V : Nat) (ys : List Int) (ln : Nat) (ec : Int) (xs : List Value) (ps : List (Int × Nat)) (n : Nat) : Prop where
  hec : ec = 0 ∨ ec = 10
  hln : ln ≤ 4
  split : ∀ w', IdsAt w' v ys → Wid w' → Calls Tryd.prog 5 #[v, .int .i64 V] w' fun e w'' => (∃ pa pcap, e = .returned (.tuple #[.slice pa ln pcap, .int .i64 ec]) ∧ w''.ownsRow w'.heap.size 37 5 (.slice pa ln pcap) ln xs) ∧ Below w'.heap.size w' w''
  rsplit : ∀ w', IdsAt w' u ys → Calls Tryd.prog 6 #[u, .int .i64 V] w' fun e w'' => (∃ pa pcap, e = .returned (.tuple #[.slice pa ln pcap, .int .i64 (n : Nat), .int .i64 ec]) ∧ w''.ownsRow w'.heap.size 37 5 (.slice pa ln pcap) ln xs) ∧ Below w'.heap.size w' w''
  sets : ∀ w', IdsAt w' v ys → Wid w' → Calls Tryd.prog 7 #[v, .int .i64 V] w' fun e w'' => e = .returned (.tuple #[.int .i64 (n : Nat), .int .i64 0]) ∧ Below w'.heap.size w' w''
  parts : ∀ w' base v, w'.ownsRow base 37 5 v ln xs → PartsAt w' v ps
theorem answers {v u : Value} {V : Nat} {ys : List Int} (hW : IsW V) (hall : allIds ys) : ∃ ln ec xs ps n, Answers v u V ys ln ec xs ps n := by
  by_cases h4 : (setsOf (srt V ys)).length ≤ 4
  · refine ⟨(setsOf (srt V ys)).length, 0, pcls (srt V ys) (setsOf (srt V ys)), prts (srt V ys) (setsOf (srt V ys)), (setsOf (srt V ys)).length, ⟨.inl rfl, h4, fun w' h1 h2 => ?_, fun w' h1 => ?_, fun w' h1 h2 => sets_yes hW hall h1 h2, fun w' base v hr => partsAt_of_row (srt_lt hW ys) hr rfl (by omega)⟩⟩
    · refine (split_right hW hall h1 h2).mono ?_
      rintro e w'' ⟨⟨_, pv, rfl, hr⟩ | ⟨h, _⟩, hb⟩
      · obtain ⟨pa, pcap, rfl⟩ := row_shape hr
        exact ⟨⟨pa, pcap, rfl, hr⟩, hb⟩
      · omega
    · refine (rsplit_right hW hall h1).mono ?_
      rintro e w'' ⟨⟨_, pv, rfl, hr⟩ | ⟨h, _⟩, hb⟩
      · obtain ⟨pa, pcap, rfl⟩ := row_shape hr
        exact ⟨⟨pa, pcap, rfl, hr⟩, hb⟩
      · omega
  · refine ⟨0, 10, [], [], (setsOf (srt V ys)).length, ⟨.inr rfl, by omega, fun w' h1 h2 => ?_, fun w' h1 => ?_, fun w' h1 h2 => sets_yes hW hall h1 h2, fun w' base v hr => ?_⟩⟩
    · refine (split_right hW hall h1 h2).mono ?_
      rintro e w'' ⟨⟨h, _⟩ | ⟨_, rfl⟩, hb⟩
      · exact absurd h h4
      · exact ⟨⟨none, 0, rfl, World.ownsRow_nil _ _ _ _⟩, hb⟩
    · refine (rsplit_right hW hall h1).mono ?_
      rintro e w'' ⟨⟨h, _⟩ | ⟨_, rfl⟩, hb⟩
      · exact absurd h h4
      · exact ⟨⟨none, 0, rfl, World.ownsRow_nil _ _ _ _⟩, hb⟩
    · obtain ⟨pa, pcap, rfl⟩ := row_shape hr
      exact .inl ⟨pa, pcap, rfl, rfl⟩
end Go.Proofs.YtjcbbifjhoemaaaDoor
