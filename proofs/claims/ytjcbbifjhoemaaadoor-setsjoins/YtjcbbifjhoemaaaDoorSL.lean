/- Two parts compared; the document's SameParts, SameInts, where they are the same; its Split, where it refuses. -/
import Derived.Test.YtjcbbifjhoemaaaDoorSK
import Derived.Test.YtjcbbifjhoemaaaDoorH3
namespace Go.Proofs.YtjcbbifjhoemaaaDoor
open Go.RowKit

theorem pfields : (Tryd.prog.fieldsOf 37).toList.map (fun f => (f.name == "_", f.type, f.offset)) = [(false, 3, 0), (false, 35, 1)] := by kernel_rfl
theorem punder : Tryd.prog.underlying 37 = some (.struct (Tryd.prog.fieldsOf 37)) := by kernel_rfl
theorem pstood : Tryd.prog.stoodInHeld 37 = false := by kernel_rfl
theorem ppart {x0 x1 x2 x3 x4 : Value} (w : World) : (part 3 #[x0, x1, x2, x3, x4] 0).run Tryd.prog w = .ok x0 w ∧ (part 35 #[x0, x1, x2, x3, x4] 1).run Tryd.prog w = .ok (.agg #[x1, x2, x3, x4]) w :=
  ⟨by kernel_rfl, by kernel_rfl⟩
/-- A part is the same as itself. -/
theorem eq_part (p : Int × Nat) (hp : p.2 < 2 ^ 256) (w : World) : (Op.equalIn 10000 37 (.agg (prt p).toArray) (.agg (prt p).toArray)).run Tryd.prog w = Result.ok true w := by
  rw [run_equalIn_struct w 9999 _ _ _ punder pstood]
  have hf := pfields
  generalize (Tryd.prog.fieldsOf 37).toList = fs at hf
  obtain ⟨p0, p1⟩ := @ppart (.int .i64 p.1) (.int .u64 (wd p.2 0)) (.int .u64 (wd p.2 1)) (.int .u64 (wd p.2 2)) (.int .u64 (wd p.2 3)) w
  have e9 := eq_bs9 p.2 p.2 hp hp w
  obtain ⟨f0, r0, rfl, h0, hf⟩ := List.map_eq_cons_iff.1 hf
  obtain ⟨f1, r1, rfl, h1, hf⟩ := List.map_eq_cons_iff.1 hf
  obtain rfl := List.map_eq_nil_iff.1 hf
  simp only [Prod.mk.injEq] at h0
  obtain ⟨n0, t0, o0⟩ := h0
  simp only [Prod.mk.injEq] at h1
  obtain ⟨n1, t1, o1⟩ := h1
  rw [eqFields_cons 9999 _ _ f0 [f1] (.int .i64 p.1) (.int .i64 p.1) (p.1 == p.1) w n0 (by rw [t0, o0]; exact p0) (by rw [t0, o0]; exact p0) (by rw [t0]; exact eqI 9998 p.1 p.1 w)]
  rw [eqFields_cons 9999 _ _ f1 [] (bs p.2) (bs p.2) (p.2 == p.2) w n1 (by rw [t1, o1]; exact p1) (by rw [t1, o1]; exact p1) (by rw [t1]; exact e9)]
  simp [Op.eqFields]
/-- Parts as an argument, whatever their number. -/
theorem partsG {w : World} {v : Value} {ps : List (Int × Nat)} (h : PartsAt w v ps) : ∃ a cap, v = .slice a ps.length cap ∧ ps.length ≤ 9223372036854775807 ∧ (0 < ps.length → ∃ bk o, a = some ⟨bk, o, none⟩ ∧ PartsIn w bk o ps) := by
  rcases h with ⟨a, cap, rfl, rfl⟩ | ⟨bk, o, cap, rfl, h⟩
  · exact ⟨a, cap, rfl, by simp, fun h => by simp at h⟩
  · exact ⟨_, cap, rfl, h.len, fun _ => ⟨bk, o, rfl, h⟩⟩
set_option maxRecDepth 100000 in
set_option maxHeartbeats 1000000 in
theorem sameParts_yes {ps : List (Int × Nat)} {v u : Value} {w : World} (hv : PartsAt w v ps) (hu : PartsAt w u ps) :
    Calls Tryd.prog 9 #[v, u] w fun e w' => e = .returned (.bool true) ∧ Below w.heap.size w w' := by
  obtain ⟨a, cap, rfl, hlen, ha⟩ := partsG hv
  obtain ⟨b, bcap, rfl, _, hb⟩ := partsG hu
  have Ha := hidIn ha
  have Hb := hidIn hb
  clear hv hu ha hb
  go_enter Tryd.func9, Tryd.ntmps9
  go_wp2
  go_loopw [5] (fun i wr => ∃ k : Nat, k ≤ ps.length ∧ i = .int .i64 k ∧ Below w.heap.size w wr) (fun i _ => ps.length - (intOf i).toNat)
  case atStart => exact ⟨0, Nat.zero_le _, rfl, Below.refl _ _⟩
  case round =>
    obtain ⟨k, hk, rfl, hbel⟩ := hrel
    by_cases hlt : k < ps.length
    · obtain ⟨bk, o, rfl, hp⟩ := Ha.out (by omega)
      obtain ⟨bk2, o2, rfl, hp2⟩ := Hb.out (by omega)
      obtain ⟨p, hpk⟩ : ∃ p, ps[k]? = some p := ⟨ps[k], List.getElem?_eq_getElem hlt⟩
      have hq := eq_part p (hp.bits p (List.mem_of_getElem? hpk))
      have r1 := (hp.keep hbel).r k p hpk
      have r2 := (hp2.keep hbel).r k p hpk
      have q0 := r1 0 _ rfl
      have q1 := r1 1 _ rfl
      have q2 := r1 2 _ rfl
      have q3 := r1 3 _ rfl
      have q4 := r1 4 _ rfl
      have s0 := r2 0 _ rfl
      have s1 := r2 1 _ rfl
      have s2 := r2 2 _ rfl
      have s3 := r2 3 _ rfl
      have s4 := r2 4 _ rfl
      simp only [Nat.add_zero] at q0 s0
      clear r1 r2 hp hp2 hpk
      have hki : (k : Int) < (ps.length : Int) := by omega
      go_wp2
      go_region
      go_wp2
      go_roundw
      case rel => exact ⟨k + 1, by omega, by go_num, Below.drew hbel⟩
      case measure => simp [intOf]; omega
    · have hle : ¬ ((k : Int) < (ps.length : Int)) := by omega
      go_wp2
      go_ret
      exact ⟨rfl, hbel⟩
set_option maxRecDepth 100000 in
set_option maxHeartbeats 1000000 in
theorem sameInts_yes {zs : List Int} {v u : Value} {w : World} (hv : IdsAt w v zs) (hu : IdsAt w u zs) :
    Calls Tryd.prog 10 #[v, u] w fun e w' => e = .returned (.bool true) ∧ Below w.heap.size w w' := by
  obtain ⟨a, cap, rfl, hlen, ha⟩ := idsG hv
  obtain ⟨b, bcap, rfl, _, hb⟩ := idsG hu
  have Ha := hidIn ha
  have Hb := hidIn hb
  clear hv hu ha hb
  go_enter Tryd.func10, Tryd.ntmps10
  go_wp2
  go_loopw [5] (fun i wr => ∃ k : Nat, k ≤ zs.length ∧ i = .int .i64 k ∧ Below w.heap.size w wr) (fun i _ => zs.length - (intOf i).toNat)
  case atStart => exact ⟨0, Nat.zero_le _, rfl, Below.refl _ _⟩
  case round =>
    obtain ⟨k, hk, rfl, hbel⟩ := hrel
    by_cases hlt : k < zs.length
    · obtain ⟨bk, o, rfl, hbk, hp⟩ := Ha.out (by omega)
      obtain ⟨bk2, o2, rfl, hbk2, hp2⟩ := Hb.out (by omega)
      have q0 := (hbel.cell (p := ⟨bk, o + k, none⟩) hbk).trans (hp k hlt)
      have s0 := (hbel.cell (p := ⟨bk2, o2 + k, none⟩) hbk2).trans (hp2 k hlt)
      generalize zs[k]?.getD 0 = z at q0 s0
      clear hp hp2
      have hki : (k : Int) < (zs.length : Int) := by omega
      go_wp2
      go_region
      go_wp2
      go_roundw
      case rel => exact ⟨k + 1, by omega, by go_num, Below.drew hbel⟩
      case measure => simp [intOf]; omega
    · have hle : ¬ ((k : Int) < (zs.length : Int)) := by omega
      go_wp2
      go_ret
      exact ⟨rfl, hbel⟩
end Go.Proofs.YtjcbbifjhoemaaaDoor
