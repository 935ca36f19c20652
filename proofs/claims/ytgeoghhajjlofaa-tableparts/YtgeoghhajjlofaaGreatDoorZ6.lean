/- Tables that may be, as lists (pure). Lists of numbers in memory: the graph's. The rank, the program's and the document's. greatestFirst and its closure: who comes first of two. areNeighbours; the document's Neighbours. table.nextMayBe, entryMayBe. table.entryMayBe, at and its closure, those. table.entriesMayBe, Check. slices.MinFunc, first, Choose; the document's Best, Choose. table.Check, taken. A table that Build answers may be (pure). table.Find, Next. The walks of And, Or, AndNot, only: what each call hands back, in whatever world; what was there stands as it stood. The walks of only, isBit. Plain numbers: a bit string of 256 bits as one number, its four words, and what And, Or, AndNot make of it. The contracts of And, Or, AndNot, only, over one number a bit string. A bit string in a block; bits.Of. Two bit strings compared. bits.Has, With, Without. -/
import Derived.Test.YtgeoghhajjlofaaGreatDoorZ5
import Derived.Test.YtgeoghhajjlofaaGreatDoorG4
import Derived.Test.YtgeoghhajjlofaaGreatDoorGF
import Derived.Test.YtgeoghhajjlofaaGreatDoorRows
import Derived.WalkKit
import Derived.WalkSpells
import Derived.WalkLawsBesides
import Derived.Handy
import Derived.Laws.BitsAllLaws
import Derived.Deep.RegionHeld3
import Derived.Deep.LoopGhost
import Derived.ChangeKeysEq
import Derived.Lib.QuietBelow
import Derived.BigQuiet
import Derived.BigRegion
import Derived.Deep.RegionWith
import Derived.Deep.QuietTactic
namespace Go.Proofs.YtgeoghhajjlofaaGreatDoor

/-- Neighbours of an entry that may be. -/
def nxOk (self : Int) (l : List Int) : Bool := nbOk l && (!l.contains self && (decide (1 ≤ l.length) && decide (l.length ≤ 16)))
def enB (self wd : Int) (x : Et) : Bool := (decide (0 ≤ x.1) && decide (x.1 < 128)) && (decide (1 ≤ x.2.1) && (decide (x.2.1 ≤ wd) && ((decide (1 ≤ x.2.2.1) && decide (x.2.2.1 ≤ 24)) && (!decide (x.2.2.1 = self) && nxOk self x.2.2.2))))
/-- A place ahead of another one. -/
def plB (x y : Et) : Bool := decide (x.1 < y.1 ∨ (x.1 = y.1 ∧ x.2.1 < y.2.1))
def entsB (self wd : Int) : Option Et → List Et → Bool
  | _, [] => true
  | p, x :: l => enB self wd x && ((match p with | none => true | some y => plB y x) && entsB self wd (some x) l)
/-- The place of one's own id. -/
def opS (own : Int) (wd : Int) : Int := if own = 0 then 0 else (own - 1) / wd
def opB (own : Int) (wd : Int) : Int := if own = 0 then 0 else (own - 1) % wd + 1
def atB (s b : Int) (x : Et) : Bool := decide (x.1 = s) && decide (x.2.1 = b)
def esB (self wd own : Int) (T : List Et) : Bool := decide (T.length ≤ 24) && (entsB self wd none T && (T.filter (atB (opS own wd) (opB own wd))).isEmpty)
/-- A table that may be. -/
structure TbOk (sf wd own : Int) (T : List Et) : Prop where
  s : 1 ≤ sf ∧ sf ≤ 24
  w : IsW wd
  o : 0 ≤ own ∧ own ≤ 1024
  e : esB sf wd own T = true
theorem entsB_ok {self wd : Int} : ∀ {T : List Et} {p : Option Et}, entsB self wd p T = true → (∀ x ∈ T, enB self wd x = true) ∧ T.Pairwise (fun x y => x.1 < y.1 ∨ (x.1 = y.1 ∧ x.2.1 < y.2.1)) ∧ ∀ y, p = some y → ∀ x ∈ T, y.1 < x.1 ∨ (y.1 = x.1 ∧ y.2.1 < x.2.1)
  | [], _, _ => ⟨fun x hx => absurd hx List.not_mem_nil, List.Pairwise.nil, fun _ _ x hx => absurd hx List.not_mem_nil⟩
  | x :: l, p, h => by
    simp only [entsB, Bool.and_eq_true] at h
    obtain ⟨h1, h2, h3⟩ := h
    obtain ⟨k1, k2, k3⟩ := entsB_ok h3
    refine ⟨fun y hy => ?_, List.pairwise_cons.2 ⟨k3 x rfl, k2⟩, fun y hy z hz => ?_⟩
    · rcases List.mem_cons.1 hy with rfl | hy
      · exact h1
      · exact k1 y hy
    · subst hy
      simp only [plB, decide_eq_true_eq] at h2
      rcases List.mem_cons.1 hz with rfl | hz
      · exact h2
      · have := k3 x rfl z hz
        omega
theorem entsB_of {self wd : Int} : ∀ {T : List Et} {p : Option Et}, (∀ x ∈ T, enB self wd x = true) → T.Pairwise (fun x y => x.1 < y.1 ∨ (x.1 = y.1 ∧ x.2.1 < y.2.1)) → (∀ y, p = some y → ∀ x ∈ T, y.1 < x.1 ∨ (y.1 = x.1 ∧ y.2.1 < x.2.1)) → entsB self wd p T = true
  | [], _, _, _, _ => rfl
  | x :: l, p, h1, h2, h3 => by
    rw [List.pairwise_cons] at h2
    simp only [entsB, Bool.and_eq_true]
    refine ⟨h1 x (by simp), ?_, entsB_of (fun y hy => h1 y (by simp [hy])) h2.2 (fun y hy z hz => by
      rw [Option.some.injEq] at hy
      subst hy
      exact h2.1 z hz)⟩
    cases p with
    | none => rfl
    | some y => simp only [plB, decide_eq_true_eq]; exact h3 y rfl x (by simp)
theorem enB_ok {self wd : Int} {x : Et} : enB self wd x = true ↔ (0 ≤ x.1 ∧ x.1 < 128) ∧ (1 ≤ x.2.1 ∧ x.2.1 ≤ wd) ∧ (1 ≤ x.2.2.1 ∧ x.2.2.1 ≤ 24) ∧ x.2.2.1 ≠ self ∧ nxOk self x.2.2.2 = true := by
  simp only [enB, Bool.and_eq_true, decide_eq_true_eq, Bool.not_eq_true', decide_eq_false_iff_not]
  constructor
  · rintro ⟨h1, h2, h3, h4, h5, h6⟩; exact ⟨h1, ⟨h2, h3⟩, h4, h5, h6⟩
  · rintro ⟨h1, ⟨h2, h3⟩, h4, h5, h6⟩; exact ⟨h1, h2, h3, h4, h5, h6⟩
theorem nxOk_ok {self : Int} {l : List Int} : nxOk self l = true ↔ nbOk l = true ∧ self ∉ l ∧ 1 ≤ l.length ∧ l.length ≤ 16 := by
  simp only [nxOk, Bool.and_eq_true, decide_eq_true_eq, Bool.not_eq_true', List.contains_eq_mem, decide_eq_false_iff_not]
theorem TbOk.parts {self wd own : Int} {T : List Et} (h : TbOk self wd own T) : T.length ≤ 24 ∧ (∀ x ∈ T, enB self wd x = true) ∧ T.Pairwise (fun x y => x.1 < y.1 ∨ (x.1 = y.1 ∧ x.2.1 < y.2.1)) ∧ ∀ x ∈ T, atB (opS own wd) (opB own wd) x = false := by
  have h1 := h.e
  simp only [esB, Bool.and_eq_true, decide_eq_true_eq] at h1
  obtain ⟨h1, h2, h3⟩ := h1
  obtain ⟨k1, k2, _⟩ := entsB_ok h2
  refine ⟨h1, k1, k2, fun x hx => ?_⟩
  cases hq : atB (opS own wd) (opB own wd) x with
  | false => rfl
  | true =>
    have := List.mem_filter.2 ⟨hx, hq⟩
    rw [List.isEmpty_iff.1 h3] at this
    cases this
theorem opS_pos {k W : Nat} : opS ((k : Int) + 1) W = ((k / W : Nat) : Int) ∧ opB ((k : Int) + 1) W = ((k % W : Nat) : Int) + 1 := by
  unfold opS opB
  rw [if_neg (by omega), if_neg (by omega), Int.add_sub_cancel]
  exact ⟨rfl, rfl⟩
theorem cmR_plB (x y : Rw) (xn yn : List Int) : decide (0 ≤ cmR x y) = !plB (toE (x, xn)) (toE (y, yn)) := by
  unfold plB cmR orI cmI toE
  simp only
  rw [← decide_not, decide_eq_decide]
  split <;> split <;> (try split) <;> (try split) <;> omega
end Go.Proofs.YtgeoghhajjlofaaGreatDoor
namespace Go.Proofs.YtgeoghhajjlofaaGreatDoor
end Go.Proofs.YtgeoghhajjlofaaGreatDoor
namespace Go.Proofs.YtgeoghhajjlofaaGreatDoor
open Go.RowKit

/-- The model's words. -/
theorem rank_step (e : Nat) (n : Int) : ∃ m : Nat, m < 4294967296 ∧ IntKind.u32.wrap n = (m : Int) ∧ mix e n = mixN e m := ⟨(n % 4294967296).toNat, by omega, by rw [IntKind.wrap_u32]; omega, rfl⟩
theorem iw0 {e : Nat} (m : Nat) (he : e < 4294967296) : bits .xor .u32 (e : Int) ((m : Int) * 2654435761 % 4294967296) = ((mx0 e m : Nat) : Int) := by
  rw [show ((m : Int) * 2654435761 % 4294967296) = ((m * 2654435761 % 4294967296 : Nat) : Int) from by omega, u32_xor_nat _ _ he (by omega)]
  rfl
theorem iw1 {x : Nat} (h : x < 4294967296) : bits .xor .u32 (x : Int) ((x : Int) / 65536) = ((mx1 x : Nat) : Int) := by
  rw [show ((x : Int) / 65536) = ((x / 65536 : Nat) : Int) from by omega, u32_xor_nat _ _ h (by omega)]
  rfl
theorem iw3 {x : Nat} (h : x < 4294967296) : bits .xor .u32 (x : Int) ((x : Int) / 8192) = ((mx3 x : Nat) : Int) := by
  rw [show ((x : Int) / 8192) = ((x / 8192 : Nat) : Int) from by omega, u32_xor_nat _ _ h (by omega)]
  rfl
theorem iw2 (x : Nat) : (x : Int) * 2246822507 % 4294967296 = ((mx2 x : Nat) : Int) := by unfold mx2; omega
theorem iw4 (x : Nat) : (x : Int) * 3266489909 % 4294967296 = ((mx4 x : Nat) : Int) := by unfold mx4; omega
set_option maxRecDepth 100000 in
theorem rank_any {e : Nat} (he : e < 4294967296) (n : Int) (w : World) : Calls Tryz.prog 112 #[.int .u32 e, .int .i64 n] w fun x w' => x = .returned (.int .u32 (mix e n : Nat)) ∧ w' = w := by
  obtain ⟨m, hm, hmw, hmx⟩ := rank_step e n
  rw [hmx]
  go_enter Tryz.func112, Tryz.ntmps112
  go_wp2_with fail
  rw [iw0 m he, iw1 (mx0_lt he), iw2, iw3 (mx2_lt _), iw4, iw1 (mx4_lt _)]
  go_ret
  exact ⟨rfl, rfl⟩
/-- Two numbers held against each other. -/
def cmpN (x y : Nat) : Int := if x < y then -1 else if y < x then 1 else 0
theorem pisNaN_any (x : Int) (w : World) : Calls Tryz.prog 135 #[.int .u32 x] w fun e w' => e = .returned (.bool false) ∧ w' = w := by
  go_enter Tryz.func135, Tryz.ntmps135
  go_wp2
  go_ret
  exact ⟨by simp, rfl⟩
theorem cmp_any (x y : Nat) (w : World) : Calls Tryz.prog 130 #[.int .u32 x, .int .u32 y] w fun e w' => e = .returned (.int .i64 (cmpN x y)) ∧ w' = w := by
  by_cases h1 : x < y
  · have hd : (x : Int) < (y : Int) := by omega
    have HE : Hid (cmpN x y = -1) := hidIn (by simp [cmpN, h1])
    go_enter Tryz.func130, Tryz.ntmps130
    go_wp2_with (go_at_call 135; refine (pisNaN_any _ _).mono ?_; rintro e w1 ⟨rfl, rfl⟩)
    go_ret
    exact ⟨by rw [HE.out]; rfl, rfl⟩
  · have hd : ¬ (x : Int) < (y : Int) := by omega
    by_cases h2 : y < x
    · have hd2 : (y : Int) < (x : Int) := by omega
      have HE : Hid (cmpN x y = 1) := hidIn (by simp [cmpN, h1, h2])
      go_enter Tryz.func130, Tryz.ntmps130
      go_wp2_with (go_at_call 135; refine (pisNaN_any _ _).mono ?_; rintro e w1 ⟨rfl, rfl⟩)
      go_ret
      exact ⟨by rw [HE.out]; rfl, rfl⟩
    · have hd2 : ¬ (y : Int) < (x : Int) := by omega
      have HE : Hid (cmpN x y = 0) := hidIn (by simp [cmpN, h1, h2])
      go_enter Tryz.func130, Tryz.ntmps130
      go_wp2_with (go_at_call 135; refine (pisNaN_any _ _).mono ?_; rintro e w1 ⟨rfl, rfl⟩)
      go_ret
      exact ⟨by rw [HE.out]; rfl, rfl⟩
end Go.Proofs.YtgeoghhajjlofaaGreatDoor
namespace Go.Proofs.YtgeoghhajjlofaaGreatDoor
open Go.RowKit

/-- The method as a value. -/
abbrev rkF (e : Nat) : Value := .func (.func 112) #[.int .u32 e] #[]
abbrev gfF (B : Nat) : Value := .func (.func 129) #[] #[.pointer (some ⟨B, 0, none⟩)]
set_option maxRecDepth 100000 in
theorem great_any (e : Nat) (w : World) : Calls Tryz.prog 111 #[rkF e] w fun r w' => r = .returned (gfF w.heap.size) ∧ w' = w.alloc (.cells #[rkF e] 173) := by
  go_enter Tryz.func111, Tryz.ntmps111
  go_wp2
  go_ret
  exact ⟨rfl, rfl⟩
set_option maxRecDepth 100000 in
theorem less_any {e : Nat} (he : e < 4294967296) {B : Nat} {w : World} (hc : w.cell? ⟨B, 0, none⟩ = some (rkF e)) (x y : Int) :
    Calls Tryz.prog 129 #[.int .i64 x, .int .i64 y, .pointer (some ⟨B, 0, none⟩)] w fun r w' => r = .returned (.int .i64 (cmpN (mix e y) (mix e x))) ∧ ∃ q, w' = w.drewN q := by
  have HR := hidIn (fun n W => rank_any he n W)
  generalize mix e = r at *
  have HC := hidIn (fun W => cmp_any (r y) (r x) W)
  generalize cmpN (r y) (r x) = c at *
  go_enter Tryz.func129, Tryz.ntmps129
  go_upto_region 1 with fail
  go_quiet (first | (go_at_call 130; exact Calls.quiet_of_same (HC.out _)) | (go_at_call 112; exact Calls.quiet_of_same (HR.out _ _)))
  go_wp2_with fail
  go_ret
  exact ⟨rfl, _, rfl⟩
end Go.Proofs.YtgeoghhajjlofaaGreatDoor
namespace Go.Proofs.YtgeoghhajjlofaaGreatDoor
open Go.RowKit

theorem up_no {l : List Int} {k : Nat} {x : Int} (hx : l[k]? = some x) (h : ¬ (lastF 0 (l.take k) < x ∧ x ≤ 24)) : nbOk l = false := by
  have hs : upF 0 (l.take (k + 1)) = false := by
    rw [take_snoc hx, upF_snoc]
    have : (decide (lastF 0 (l.take k) < x) && decide (x ≤ 24)) = false := by
      rw [Bool.and_eq_false_iff, decide_eq_false_iff_not, decide_eq_false_iff_not]
      omega
    rw [this, Bool.and_false]
  unfold nbOk
  rw [← List.take_append_drop (k + 1) l, upF_app, hs, Bool.false_and]
theorem up_yes {l : List Int} {k : Nat} {x : Int} (hx : l[k]? = some x) (h0 : upF 0 (l.take k) = true) (h : lastF 0 (l.take k) < x ∧ x ≤ 24) : upF 0 (l.take (k + 1)) = true ∧ lastF 0 (l.take (k + 1)) = x := by
  rw [take_snoc hx, upF_snoc, lastF_snoc, h0]
  simp [h.1, h.2]
set_option maxRecDepth 100000 in
theorem areNb_any {l : List Int} {v : Value} {w : World} (h : SlAt ic 1 w v l) : Calls Tryz.prog 73 #[v] w fun e w' => e = .returned (.bool (nbOk l)) ∧ w' = w := by
  obtain ⟨a, cap, rfl, hl, _, hat⟩ := h.ints
  have Ha := hidIn hat
  obtain ⟨ln, hln⟩ : ∃ ln, l.length = ln := ⟨_, rfl⟩
  have Hln := hidIn hln
  rw [hln] at hl ⊢
  obtain ⟨bq, hbq⟩ : ∃ bq, nbOk l = bq := ⟨_, rfl⟩
  rw [hbq]
  have HQ := hidIn hbq
  clear h hat hln hbq
  go_enter Tryz.func73, Tryz.ntmps73
  go_wp2_with fail
  go_loop [3, 8] (fun p i => ∃ k : Nat, k ≤ ln ∧ i = .int .i64 k ∧ p = .int .i64 (lastF 0 (l.take k)) ∧ Hid (upF 0 (l.take k) = true)) (fun _ i => ln - (intOf i).toNat)
  case atStart => exact ⟨0, Nat.zero_le _, rfl, rfl, hidIn rfl⟩
  case round =>
    obtain ⟨k, hk, rfl, rfl, HC⟩ := hrel
    by_cases hlt : k < ln
    · obtain ⟨bk, o, rfl, hbk, hcell⟩ := Ha.out (by have := Hln.out; omega)
      obtain ⟨x, hx⟩ : ∃ x, l[k]? = some x := ⟨l[k]'(by have := Hln.out; omega), List.getElem?_eq_getElem _⟩
      have c0 := hcell k x hx
      have hki : (k : Int) < (ln : Int) := by omega
      obtain ⟨p, hp⟩ : ∃ p, lastF 0 (l.take k) = p := ⟨_, rfl⟩
      by_cases hxn : p < x ∧ x ≤ 24
      · have HE := hidIn (up_yes hx HC.out (by rw [hp]; exact hxn))
        rw [hp]
        obtain ⟨d1, d2⟩ := hxn
        clear hcell hx hp HC
        go_wp2_with fail
        go_round
        case rel => exact ⟨k + 1, by omega, by go_num, by rw [HE.out.2], hidIn HE.out.1⟩
        case measure => simp [intOf]; omega
      · have HE : Hid (bq = false) := hidIn (by rw [← HQ.out]; exact up_no hx (by rw [hp]; exact hxn))
        rw [hp]
        clear hcell hx hp HC
        by_cases d1 : p < x
        · have d2 : ¬ x ≤ 24 := fun h => hxn ⟨d1, h⟩
          clear hxn
          go_wp2_with fail
          go_ret
          exact ⟨by rw [HE.out]; rfl, rfl⟩
        · clear hxn
          go_wp2_with fail
          go_ret
          exact ⟨by rw [HE.out]; rfl, rfl⟩
    · have hki : ¬ ((k : Int) < (ln : Int)) := by omega
      have HE : Hid (bq = true) := hidIn (by rw [← HQ.out]; have := HC.out; rw [List.take_of_length_le (by have := Hln.out; omega)] at this; exact this)
      go_wp2_with fail
      go_ret
      exact ⟨by rw [HE.out]; rfl, rfl⟩
theorem last_get {l : List Int} {k : Nat} {x : Int} (hx : l[k]? = some x) : lastF 0 (l.take (k + 1)) = x := by rw [take_snoc hx, lastF_snoc]
end Go.Proofs.YtgeoghhajjlofaaGreatDoor
namespace Go.Proofs.YtgeoghhajjlofaaGreatDoor
open Go.RowKit

theorem nx_no {self : Int} {l : List Int} {k : Nat} {x : Int} (hx : l[k]? = some x) (h : ¬ (lastF 0 (l.take k) < x ∧ x ≤ 24) ∨ x = self) : nxOk self l = false := by
  unfold nxOk
  rcases h with h | h
  · rw [up_no hx h, Bool.false_and]
  · have : l.contains self = true := by rw [List.contains_eq_mem, decide_eq_true_eq, ← h]; exact List.mem_of_getElem? hx
    rw [this]
    simp
set_option maxRecDepth 100000 in
set_option maxHeartbeats 1000000 in
theorem nextMay_any {l : List Int} {v : Value} (self : Int) {w : World} (h : SlAt ic 1 w v l) : Calls Tryz.prog 71 #[v, .int .i64 self] w fun e w' => e = .returned (.bool (nxOk self l)) ∧ w' = w := by
  obtain ⟨a, cap, rfl, hl, _, hat⟩ := h.ints
  have Ha := hidIn hat
  obtain ⟨ln, hln⟩ : ∃ ln, l.length = ln := ⟨_, rfl⟩
  have Hln := hidIn hln
  rw [hln] at hl ⊢
  obtain ⟨bq, hbq⟩ : ∃ bq, nxOk self l = bq := ⟨_, rfl⟩
  rw [hbq]
  have HQ := hidIn hbq
  clear h hat hln hbq
  go_enter Tryz.func71, Tryz.ntmps71
  go_wp2_with fail
  go_loop [5, 10] (fun p i => ∃ k : Nat, k ≤ ln ∧ i = .int .i64 k ∧ p = .int .i64 (lastF 0 (l.take k)) ∧ Hid (upF 0 (l.take k) = true ∧ self ∉ l.take k)) (fun _ i => ln - (intOf i).toNat)
  case atStart => exact ⟨0, Nat.zero_le _, rfl, rfl, hidIn ⟨rfl, by simp⟩⟩
  case round =>
    obtain ⟨k, hk, rfl, rfl, HC⟩ := hrel
    by_cases hlt : k < ln
    · obtain ⟨bk, o, rfl, hbk, hcell⟩ := Ha.out (by have := Hln.out; omega)
      obtain ⟨x, hx⟩ : ∃ x, l[k]? = some x := ⟨l[k]'(by have := Hln.out; omega), List.getElem?_eq_getElem _⟩
      have c0 := hcell k x hx
      have hki : (k : Int) < (ln : Int) := by omega
      obtain ⟨p, hp⟩ : ∃ p, lastF 0 (l.take k) = p := ⟨_, rfl⟩
      have hp0 : 0 ≤ p := by
        rw [← hp]
        have hu := HC.out.1
        clear hp c0 hki HC
        rcases Nat.eq_zero_or_pos k with h0 | h0
        · subst h0; simp [lastF]
        · obtain ⟨y, hy⟩ : ∃ y, l[k - 1]? = some y := ⟨l[k - 1]'(by have := Hln.out; omega), List.getElem?_eq_getElem _⟩
          have h1 := last_get hy
          rw [show k - 1 + 1 = k by omega] at h1
          rw [h1]
          have := (upF_ok hu).1 y (by rw [List.mem_take_iff_getElem]; exact ⟨k - 1, by have := Hln.out; omega, by rw [List.getElem?_eq_some_iff] at hy; exact hy.2⟩)
          omega
      have hrr : (decide (1 ≤ x) && decide (x ≤ 24)) = decide (1 ≤ x ∧ x ≤ 24) := (Bool.decide_and _ _).symm
      by_cases h1 : 1 ≤ x ∧ x ≤ 24
      rotate_left
      · have HE : Hid (bq = false) := hidIn (by rw [← HQ.out]; exact nx_no hx (.inl (by rw [hp]; omega)))
        have hd : (decide (1 ≤ x) && decide (x ≤ 24)) = false := by rw [hrr]; exact decide_eq_false h1
        rw [hp]
        clear hcell hx hp HC h1 hrr
        go_wp2_with fail
        refine (tisR_any x _).mono ?_
        rintro e w1 ⟨rfl, hw1⟩
        rw [hw1, hd]
        clear hw1 w1 hd
        go_wp2_with fail
        go_ret
        exact ⟨by rw [HE.out]; rfl, rfl⟩
      have hd : (decide (1 ≤ x) && decide (x ≤ 24)) = true := by rw [hrr]; exact decide_eq_true h1
      by_cases h2 : x = self
      · have HE : Hid (bq = false) := hidIn (by rw [← HQ.out]; exact nx_no hx (.inr h2))
        have h2' : (x == self) = true := by simpa using h2
        rw [hp]
        clear hcell hx hp HC h1 h2 hrr
        go_wp2_with fail
        refine (tisR_any x _).mono ?_
        rintro e w1 ⟨rfl, hw1⟩
        rw [hw1, hd]
        clear hw1 w1 hd
        go_wp2_with fail
        go_ret
        exact ⟨by rw [HE.out]; rfl, rfl⟩
      have h2' : (x == self) = false := by simpa using h2
      by_cases h3 : p < x
      · have HE := hidIn (up_yes hx HC.out.1 (by rw [hp]; exact ⟨h3, h1.2⟩))
        have HN : Hid (self ∉ l.take (k + 1)) := hidIn (by
          rw [take_snoc hx, List.mem_append, List.mem_singleton]
          rintro (h | h)
          · exact HC.out.2 h
          · exact h2 h.symm)
        have h3' : ¬ x ≤ p := by omega
        rw [hp]
        clear hcell hx hp HC h1 h2 h3 hrr
        go_wp2_with fail
        refine (tisR_any x _).mono ?_
        rintro e w1 ⟨rfl, hw1⟩
        rw [hw1, hd]
        clear hw1 w1 hd
        go_wp2_with fail
        go_round
        case rel => exact ⟨k + 1, by omega, by go_num, by rw [HE.out.2], hidIn ⟨HE.out.1, HN.out⟩⟩
        case measure => simp [intOf]; omega
      · have HE : Hid (bq = false) := hidIn (by rw [← HQ.out]; exact nx_no hx (.inl (by rw [hp]; omega)))
        have h3' : x ≤ p := by omega
        rw [hp]
        clear hcell hx hp HC h1 h2 h3 hrr
        go_wp2_with fail
        refine (tisR_any x _).mono ?_
        rintro e w1 ⟨rfl, hw1⟩
        rw [hw1, hd]
        clear hw1 w1 hd
        go_wp2_with fail
        go_ret
        exact ⟨by rw [HE.out]; rfl, rfl⟩
    · have hki : ¬ ((k : Int) < (ln : Int)) := by omega
      have HE : Hid (bq = (decide (1 ≤ ln) && decide (ln ≤ 16))) := hidIn (by
        rw [← HQ.out]
        have := HC.out
        rw [List.take_of_length_le (by have := Hln.out; omega)] at this
        unfold nxOk
        rw [show nbOk l = true from this.1, Hln.out, show l.contains self = false by rw [List.contains_eq_mem, decide_eq_false_iff_not]; exact this.2]
        rfl)
      by_cases h1 : 1 ≤ ln
      · by_cases h2 : ln ≤ 16
        · have g1 : (1 : Int) ≤ (ln : Int) := by omega
          have g2 : (ln : Int) ≤ 16 := by omega
          have HF : Hid (bq = true) := hidIn (by rw [HE.out, decide_eq_true h1, decide_eq_true h2]; rfl)
          clear h1 h2 hlt hk
          go_wp2_with fail
          go_ret
          exact ⟨by rw [HF.out]; rfl, rfl⟩
        · have g1 : (1 : Int) ≤ (ln : Int) := by omega
          have g2 : ¬ (ln : Int) ≤ 16 := by omega
          have HF : Hid (bq = false) := hidIn (by rw [HE.out, decide_eq_false h2]; simp)
          clear h1 h2 hlt hk
          go_wp2_with fail
          go_ret
          exact ⟨by rw [HF.out]; rfl, rfl⟩
      · have g1 : ¬ (1 : Int) ≤ (ln : Int) := by omega
        have HF : Hid (bq = false) := hidIn (by rw [HE.out, decide_eq_false h1]; rfl)
        clear h1 hlt hk
        go_wp2_with fail
        go_ret
        exact ⟨by rw [HF.out]; rfl, rfl⟩
end Go.Proofs.YtgeoghhajjlofaaGreatDoor
namespace Go.Proofs.YtgeoghhajjlofaaGreatDoor
open Go.RowKit

set_option maxRecDepth 100000 in
set_option maxHeartbeats 4000000 in
theorem entryMay_any {x : En} {w : World} (hx : SlAt ic 1 w (rwS x.1) x.2) (self wd own : Int) (ua : Option Addr) (un uc : Nat) :
    Calls Tryz.prog 47 #[tbV self wd own (.slice ua un uc), enV x.1] w fun e w' => e = .returned (.bool (enB self wd (toE x))) ∧ Below w.heap.size w w' := by
  obtain ⟨⟨a0, a1, a2, a3, a4, a5⟩, an⟩ := x
  simp only at hx
  obtain ⟨W1, hW1⟩ : ∃ W1, (w.alloc (tbO self wd own (.slice ua un uc))).alloc (enO a0 a1 a2 (.slice a3 a4 a5)) = W1 := ⟨_, rfl⟩
  have hb : Below w.heap.size w W1 := by rw [← hW1]; exact ((Below.refl _ w).alloc (Nat.le_refl _) _).alloc (by simp) _
  have hA : W1.heap[w.heap.size]? = some (tbO self wd own (.slice ua un uc)) := by rw [← hW1, Below.heap_alloc _ _ _ (by simp)]; exact heap_alloc_last w _
  have hB : W1.heap[w.heap.size + 1]? = some (enO a0 a1 a2 (.slice a3 a4 a5)) := by
    rw [← hW1]
    have := heap_alloc_last (w.alloc (tbO self wd own (.slice ua un uc))) (enO a0 a1 a2 (.slice a3 a4 a5))
    rwa [World.size_alloc] at this
  obtain ⟨q, hq⟩ : ∃ q, w.heap.size = q := ⟨_, rfl⟩
  have HN := hidIn (nextMay_any self (hx.keep hb (Nat.le_refl _)))
  have HB := hidIn hb
  rw [hq] at hA hB
  have s0 := cell_of_row _ _ 0 _ _ _ hA
  have s1 := cell_of_row _ _ 1 _ _ _ hA
  have t0 := cell_of_row _ _ 0 _ _ _ hB
  have t1 := cell_of_row _ _ 1 _ _ _ hB
  have t2 := cell_of_row _ _ 2 _ _ _ hB
  have t3 := cell_of_row _ _ 3 _ _ _ hB
  simp at s0 s1 t0 t1 t2 t3
  obtain ⟨r, hr⟩ : ∃ r, enB self wd (toE (((a0, a1, a2, a3, a4, a5), an) : En)) = r := ⟨_, rfl⟩
  obtain ⟨n, hn⟩ : ∃ n, nxOk self an = n := ⟨_, rfl⟩
  have hr' : r = ((decide (0 ≤ a0) && decide (a0 < 128)) && (decide (1 ≤ a1) && (decide (a1 ≤ wd) && ((decide (1 ≤ a2) && decide (a2 ≤ 24)) && (!decide (a2 = self) && n))))) := by
    rw [← hr, ← hn]
    rfl
  rw [hr]
  rw [hn] at HN
  have HR := hidIn hr'
  have HW := hidIn hW1
  clear hx hb hA hB hr hn hr' hW1
  obtain ⟨p0, hp0⟩ : ∃ p, (decide (0 ≤ a0) && decide (a0 < 128)) = p := ⟨_, rfl⟩
  obtain ⟨p3, hp3⟩ : ∃ p, (decide (1 ≤ a2) && decide (a2 ≤ 24)) = p := ⟨_, rfl⟩
  have HS : Hid (Calls Tryz.prog 22 #[.int .i64 a0] W1 fun e w' => e = .returned (.bool p0) ∧ w' = W1) := hidIn (by rw [← hp0]; exact tisS_any a0 W1)
  have HO : Hid (Calls Tryz.prog 15 #[.int .i64 a2] W1 fun e w' => e = .returned (.bool p3) ∧ w' = W1) := hidIn (by rw [← hp3]; exact tisR_any a2 W1)
  rw [hp0, hp3] at HR
  clear hp0 hp3
  go_enter Tryz.func47, Tryz.ntmps47
  go_upto_region 1 with fail
  rw [HW.out]
  clear HW hq
  go_wp2_with fail
  refine HS.out.mono ?_
  rintro e w1 ⟨rfl, hw1⟩
  rw [hw1]
  clear hw1 w1 HS
  cases p0
  · have HE : Hid (r = false) := hidIn (by rw [HR.out]; rfl)
    go_wp2_with fail
    go_ret
    exact ⟨by rw [HE.out]; rfl, HB.out⟩
  by_cases h1 : 1 ≤ a1
  rotate_left
  · have HE : Hid (r = false) := hidIn (by rw [HR.out, decide_eq_false h1]; rfl)
    go_wp2_with fail
    go_ret
    exact ⟨by rw [HE.out]; rfl, HB.out⟩
  by_cases h2 : a1 ≤ wd
  rotate_left
  · have HE : Hid (r = false) := hidIn (by rw [HR.out, decide_eq_false h2]; simp)
    go_wp2_with fail
    go_ret
    exact ⟨by rw [HE.out]; rfl, HB.out⟩
  go_wp2_with fail
  refine HO.out.mono ?_
  rintro e w1 ⟨rfl, hw1⟩
  rw [hw1]
  clear hw1 w1 HO
  cases p3
  · have HE : Hid (r = false) := hidIn (by rw [HR.out]; simp)
    go_wp2_with fail
    go_ret
    exact ⟨by rw [HE.out]; rfl, HB.out⟩
  by_cases h4 : a2 = self
  · have HE : Hid (r = false) := hidIn (by rw [HR.out, decide_eq_true h4]; simp)
    have h4' : (a2 != self) = false := by simpa using h4
    clear h4
    go_wp2_with fail
    go_ret
    exact ⟨by rw [HE.out]; rfl, HB.out⟩
  have h4' : (a2 != self) = true := by simpa using h4
  have HE : Hid (r = n) := hidIn (by rw [HR.out, decide_eq_true h1, decide_eq_true h2, decide_eq_false h4]; rfl)
  clear h1 h2 h4 HR
  go_wp2_with fail
  refine HN.out.mono ?_
  rintro e w1 ⟨rfl, hw1⟩
  rw [hw1]
  clear hw1 w1 HN
  go_wp2_with fail
  go_ret
  exact ⟨by rw [HE.out]; rfl, HB.out⟩
/-- The closure of at, and what it has caught. -/
abbrev atC (B : Nat) : Array Value := #[.pointer (some ⟨B, 0, none⟩), .pointer (some ⟨B + 1, 0, none⟩)]
abbrev atF (B : Nat) : Value := .func (.func 72) #[] (atC B)
theorem at_any (s b : Int) (w : World) : Calls Tryz.prog 48 #[.int .i64 s, .int .i64 b] w fun e w' => e = .returned (atF w.heap.size) ∧ w' = (w.alloc (.cells #[.int .i64 s] 3)).alloc (.cells #[.int .i64 b] 3) := by
  go_enter Tryz.func48, Tryz.ntmps48
  go_wp2
  go_ret
  exact ⟨rfl, rfl⟩
theorem enter_at (args : Array Value) (w : World) : (callFunc 72 args).run Tryz.prog w = .ok (.enter 72 args) w := by kernel_rfl
set_option maxRecDepth 100000 in
set_option maxHeartbeats 1000000 in
theorem at1_any {s b : Int} {B : Nat} {w : World} (h0 : w.cell? ⟨B, 0, none⟩ = some (.int .i64 s)) (h1 : w.cell? ⟨B + 1, 0, none⟩ = some (.int .i64 b)) (x : En) :
    Calls Tryz.prog 72 (#[enV x.1] ++ atC B) w fun e w' => e = .returned (.bool (atB s b (toE x))) ∧ Below w.heap.size w w' := by
  obtain ⟨⟨a0, a1, a2, a3, a4, a5⟩, an⟩ := x
  have hlt0 := block_lt_of_cell h0
  have hlt1 := block_lt_of_cell h1
  simp only at hlt0 hlt1
  obtain ⟨W1, hW1⟩ : ∃ W1, w.alloc (enO a0 a1 a2 (.slice a3 a4 a5)) = W1 := ⟨_, rfl⟩
  have hb : Below w.heap.size w W1 := by rw [← hW1]; exact (Below.refl _ w).alloc (Nat.le_refl _) _
  have hA : W1.heap[w.heap.size]? = some (enO a0 a1 a2 (.slice a3 a4 a5)) := by rw [← hW1]; exact heap_alloc_last w _
  obtain ⟨q, hq⟩ : ∃ q, w.heap.size = q := ⟨_, rfl⟩
  have HB := hidIn hb
  have k0 := (hb.cell (p := ⟨B, 0, none⟩) hlt0).trans h0
  have k1 := (hb.cell (p := ⟨B + 1, 0, none⟩) hlt1).trans h1
  rw [hq] at hA
  have t0 := cell_of_row _ _ 0 _ _ _ hA
  have t1 := cell_of_row _ _ 1 _ _ _ hA
  simp at t0 t1
  obtain ⟨r, hr⟩ : ∃ r, atB s b (toE (((a0, a1, a2, a3, a4, a5), an) : En)) = r := ⟨_, rfl⟩
  have hr' : r = (decide (a0 = s) && decide (a1 = b)) := by rw [← hr]; rfl
  rw [hr]
  have HR := hidIn hr'
  have HW := hidIn hW1
  clear hb hA hr hr' hW1 h0 h1 hlt0 hlt1
  show Calls Tryz.prog 72 #[enV (a0, a1, a2, a3, a4, a5), .pointer (some ⟨B, 0, none⟩), .pointer (some ⟨B + 1, 0, none⟩)] w _
  go_enter Tryz.func72, Tryz.ntmps72
  go_upto_region 1 with fail
  rw [HW.out]
  clear HW hq
  by_cases g0 : a0 = s
  rotate_left
  · have d0 : (a0 == s) = false := by simpa using g0
    have HE : Hid (r = false) := hidIn (by rw [HR.out, decide_eq_false g0]; rfl)
    clear g0
    go_wp2_with fail
    go_ret
    exact ⟨by rw [HE.out]; rfl, HB.out⟩
  have d0 : (a0 == s) = true := by simpa using g0
  by_cases g1 : a1 = b
  · have d1 : (a1 == b) = true := by simpa using g1
    have HE : Hid (r = true) := hidIn (by rw [HR.out, decide_eq_true g0, decide_eq_true g1]; rfl)
    clear g0 g1
    go_wp2_with fail
    go_ret
    exact ⟨by rw [HE.out]; rfl, HB.out⟩
  · have d1 : (a1 == b) = false := by simpa using g1
    have HE : Hid (r = false) := hidIn (by rw [HR.out, decide_eq_false g1]; simp)
    clear g0 g1
    go_wp2_with fail
    go_ret
    exact ⟨by rw [HE.out]; rfl, HB.out⟩
/-- Who is asked of each entry: a function, what it has caught, what it answers. -/
structure AskS (w : World) (es : List En) where
  f : FuncId
  caps : Array Value
  q : En → Bool
  enter : ∀ args w, (callFunc f args).run Tryz.prog w = .ok (Next.enter f args) w
  call : ∀ x ∈ es, ∀ wr, Below w.heap.size w wr → Calls Tryz.prog f (#[enV x.1] ++ caps) wr fun e w' => e = .returned (.bool (q x)) ∧ Below wr.heap.size wr w'
/-- Entries in a row of their own, their neighbours shared. -/
def ThAns (w w' : World) (es : List En) (e : Ending) : Prop := ∃ a c, e = .returned (.slice a es.length c) ∧ w'.ownsRow w.heap.size 46 4 (.slice a es.length c) es.length (fl rwcs (es.map (·.1)))
set_option maxRecDepth 100000 in
set_option maxHeartbeats 4000000 in
theorem those_any {es : List En} {ua : Option Addr} {un uc : Nat} {w : World} (h : EnAt w (.slice ua un uc) es) (hn : es.length ≤ 100000) (A : AskS w es) (self wd own : Int) :
    Calls Tryz.prog 23 #[tbV self wd own (.slice ua un uc), .func (.func A.f) #[] A.caps] w fun e w' => ThAns w w' (es.filter A.q) e ∧ Below w.heap.size w w' := by
  obtain ⟨W1, hW1⟩ : ∃ W1, w.alloc (tbO self wd own (.slice ua un uc)) = W1 := ⟨_, rfl⟩
  have hb : Below w.heap.size w W1 := by rw [← hW1]; exact (Below.refl _ w).alloc (Nat.le_refl _) _
  have hA : W1.heap[w.heap.size]? = some (tbO self wd own (.slice ua un uc)) := by rw [← hW1]; exact heap_alloc_last w _
  obtain ⟨q, hq⟩ : ∃ q, w.heap.size = q := ⟨_, rfl⟩
  have hs1 : W1.heap.size = q + 1 := by rw [← hW1, World.size_alloc, hq]
  obtain ⟨a', c', he, hl, _, hcl⟩ := (h.keep hb (Nat.le_refl _)).op
  simp only [Value.slice.injEq] at he
  obtain ⟨hua, hun, huc⟩ := he
  subst hua
  clear huc
  obtain ⟨ln, hln⟩ : ∃ ln, es.length = ln := ⟨_, rfl⟩
  rw [hln] at hun hl hn
  subst hun
  have Hcl := hidIn hcl
  have Hln := hidIn hln
  have HB := hidIn hb
  have HA := hidIn hA
  have Hq := hidIn hq
  have Hs1 := hidIn hs1
  rw [hq] at hA
  have t3 := cell_of_row _ _ 3 _ _ _ hA
  simp at t3
  have HC := hidIn A.call
  have Hen := hidIn A.enter
  obtain ⟨F, caps, Q, hen, hcall⟩ := A
  simp only at HC Hen ⊢
  have HW := hidIn hW1
  clear hb hA hW1 hcl hln h hs1 hen hcall
  go_enter Tryz.func23, Tryz.ntmps23
  go_upto_region 1 with fail
  rw [HW.out]
  clear HW hq
  go_wp2_with fail
  clear t3
  go_loopw [5, 11] (fun ov i wr => ∃ (k : Nat) (oa : Option Addr) (oc : Nat), k ≤ un ∧ i = .int .i64 k ∧ ov = .slice oa ((es.take k).filter Q).length oc ∧ Hid (Below W1.heap.size W1 wr ∧ wr.ownsRow W1.heap.size 46 4 (.slice oa ((es.take k).filter Q).length oc) ((es.take k).filter Q).length (fl rwcs (((es.take k).filter Q).map (·.1))))) (fun _ i _ => un - (intOf i).toNat)
  case atStart => exact ⟨0, none, 0, Nat.zero_le _, rfl, rfl, hidIn ⟨Below.refl _ _, World.ownsRow_nil _ _ _ _⟩⟩
  case round =>
    obtain ⟨k, oa, oc, hk, rfl, rfl, HM⟩ := hrel
    obtain ⟨hbr, hro⟩ := HM.out
    clear HM
    obtain ⟨PL, hPL⟩ : ∃ PL, (es.take k).filter Q = PL := ⟨_, rfl⟩
    have hPn : PL.length ≤ 100000 := by rw [← hPL]; have := List.length_filter_le Q (es.take k); rw [List.length_take] at this; omega
    rw [hPL] at hro ⊢
    by_cases hlt : k < un
    · have hki : (k : Int) < (un : Int) := by omega
      obtain ⟨bk, o, rfl, hbk, hcell⟩ := Hcl.out (by have := Hln.out; omega)
      obtain ⟨x, hx⟩ : ∃ x, es[k]? = some x := ⟨es[k]'(by have := Hln.out; omega), List.getElem?_eq_getElem _⟩
      obtain ⟨g0, g1, g2, g3, g4, g5⟩ := hcell k x hx
      clear g4 g5
      have e0 := (hbr.cell (p := ⟨bk, o + k * 4, none⟩) hbk).trans g0
      have e1 := (hbr.cell (p := ⟨bk, o + k * 4 + 1, none⟩) hbk).trans g1
      have e2 := (hbr.cell (p := ⟨bk, o + k * 4 + 2, none⟩) hbk).trans g2
      have e3 := (hbr.cell (p := ⟨bk, o + k * 4 + 3, none⟩) hbk).trans g3
      obtain ⟨w3, hw3⟩ : ∃ w3, wr.alloc (enO x.1.1 x.1.2.1 x.1.2.2.1 (rwS x.1)) = w3 := ⟨_, rfl⟩
      have b3 : Below wr.heap.size wr w3 := by rw [← hw3]; exact (Below.refl _ wr).alloc (Nat.le_refl _) _
      have hz : w3.heap[wr.heap.size]? = some (enO x.1.1 x.1.2.1 x.1.2.2.1 (rwS x.1)) := by rw [← hw3]; exact heap_alloc_last wr _
      have hB3 := hbr.trans (b3.mono hbr.size)
      have hBw := HB.out.trans (hB3.mono HB.out.size)
      have HCx := hidIn (HC.out x (List.mem_of_getElem? hx) w3 hBw)
      have HTk : Hid ((es.take (k + 1)).filter Q = PL ++ (if Q x = true then [x] else [])) := hidIn (by rw [take_snoc hx, List.filter_append, hPL, List.filter_cons, List.filter_nil])
      obtain ⟨⟨x0, x1, x2, x3, x4, x5⟩, xn⟩ := x
      simp only at e0 e1 e2 e3 hw3 hz HCx
      obtain ⟨q3, hq3⟩ : ∃ q3, wr.heap.size = q3 := ⟨_, rfl⟩
      rw [hq3] at hz
      have HZ := hidIn hz
      have z0 := cell_of_row _ _ 0 _ _ _ hz
      have z1 := cell_of_row _ _ 1 _ _ _ hz
      have z2 := cell_of_row _ _ 2 _ _ _ hz
      have z3 := cell_of_row _ _ 3 _ _ _ hz
      simp at z0 z1 z2 z3
      have HB3 := hidIn hB3
      have HRo := hidIn (row_below hro b3 (Nat.le_refl _))
      have HW3 := hidIn hw3
      clear hcell hx g0 g1 g2 g3 hbr hro b3 hB3 hBw hz hw3 hPL hbk
      go_upto_region 5 with fail
      rw [HW3.out]
      clear HW3 hq3 e0 e1 e2 e3
      have hen := Hen.out
      go_wp2_with fail
      refine HCx.out.mono ?_
      rintro e w4 ⟨rfl, hb4⟩
      have HB4 := hidIn (HB3.out.trans (hb4.mono HB3.out.size))
      have HR4 := hidIn (row_below HRo.out hb4 (Nat.le_refl _))
      have hz4 := (hb4.block _ (block_lt HZ.out)).trans HZ.out
      have y0 := cell_of_row _ _ 0 _ _ _ hz4
      have y1 := cell_of_row _ _ 1 _ _ _ hz4
      have y2 := cell_of_row _ _ 2 _ _ _ hz4
      have y3 := cell_of_row _ _ 3 _ _ _ hz4
      simp at y0 y1 y2 y3
      obtain ⟨g9, gc9, w9, hrun, hown, hb9⟩ := append_ent HR4.out (x0, x1, x2, x3, x4, x5) (by omega) HB4.out.size
      have HRun := hidIn hrun
      have HO := hidIn (And.intro (HB4.out.trans hb9) hown)
      obtain ⟨qx, hqx⟩ : ∃ qx, Q ((x0, x1, x2, x3, x4, x5), xn) = qx := ⟨_, rfl⟩
      rw [hqx] at HTk ⊢
      clear hb4 HCx hz4 z0 z1 z2 z3 hen hrun hown hb9 hqx HRo HB3 HZ
      cases qx
      · have HT : Hid ((es.take (k + 1)).filter Q = PL) := hidIn (by rw [HTk.out]; simp)
        go_wp2_with fail
        go_roundw
        case rel => exact ⟨k + 1, oa, oc, by omega, by go_num, by rw [HT.out], hidIn (by rw [HT.out]; exact ⟨HB4.out, HR4.out⟩)⟩
        case measure => simp [intOf]; omega
      · have HT : Hid ((es.take (k + 1)).filter Q = PL ++ [((x0, x1, x2, x3, x4, x5), xn)]) := hidIn (by rw [HTk.out]; simp)
        have HL1 : Hid (((es.take (k + 1)).filter Q).length = PL.length + 1) := hidIn (by rw [HT.out, List.length_append]; rfl)
        have HO2 : Hid (Below W1.heap.size W1 w9 ∧ w9.ownsRow W1.heap.size 46 4 (.slice (some ⟨g9, 0, none⟩) ((es.take (k + 1)).filter Q).length gc9) ((es.take (k + 1)).filter Q).length (fl rwcs (((es.take (k + 1)).filter Q).map (·.1)))) := hidIn (by
          rw [HL1.out, HT.out, List.map_append]
          exact HO.out)
        go_wp2_with (refine l_append rfl _ _ 27 rfl HRun.out ?_)
        go_roundw
        case rel => exact ⟨k + 1, _, gc9, by omega, by go_num, by rw [HL1.out], HO2⟩
        case measure => simp [intOf]; omega
    · have hki : ¬ ((k : Int) < (un : Int)) := by omega
      have HE : Hid (ThAns w wr (es.filter Q) (.returned (.slice oa PL.length oc)) ∧ Below w.heap.size w wr) := hidIn (by
        have hT : PL = es.filter Q := by rw [← hPL, List.take_of_length_le (by have := Hln.out; omega)]
        rw [← hT]
        refine ⟨⟨oa, oc, rfl, row_low hro (by have := Hs1.out; have := Hq.out; omega)⟩, HB.out.trans (hbr.mono HB.out.size)⟩)
      clear hbr hro hPL
      go_wp2_with fail
      go_ret
      exact HE.out
end Go.Proofs.YtgeoghhajjlofaaGreatDoor
namespace Go.Proofs.YtgeoghhajjlofaaGreatDoor
open Go.RowKit

theorem drop_getT {es : List En} {k : Nat} {x : En} (h : es[k]? = some x) : (toT es).drop k = toE x :: (toT es).drop (k + 1) := drop_next (toT_get h)
/-- The entry ahead of the one at k. -/
def prevT (T : List Et) (k : Nat) : Option Et := if k = 0 then none else T[k - 1]?
theorem prevT_succ {T : List Et} {k : Nat} {x : Et} (h : T[k]? = some x) : prevT T (k + 1) = some x := by
  unfold prevT
  rw [if_neg (by omega), Nat.add_sub_cancel, h]
/-- The entries at a place. -/
theorem thoseAt_any {es : List En} {ua : Option Addr} {un uc qa : Nat} {S B : Int} {w : World} (h : EnAt w (.slice ua un uc) es) (hn : es.length ≤ 100000) (k0 : w.cell? ⟨qa, 0, none⟩ = some (.int .i64 S)) (k1 : w.cell? ⟨qa + 1, 0, none⟩ = some (.int .i64 B)) (self wd own : Int) :
    Calls Tryz.prog 23 #[tbV self wd own (.slice ua un uc), atF qa] w fun e w' => ThAns w w' (es.filter fun x => atB S B (toE x)) e ∧ Below w.heap.size w w' :=
  those_any h hn ⟨72, atC qa, fun x => atB S B (toE x), enter_at, fun x _ _ hbw => at1_any ((hbw.cell (p := ⟨qa, 0, none⟩) (block_lt_of_cell k0)).trans k0) ((hbw.cell (p := ⟨qa + 1, 0, none⟩) (block_lt_of_cell k1)).trans k1) x⟩ self wd own
theorem filter_toT (es : List En) (p : Et → Bool) : ((toT es).filter p).isEmpty = decide ((es.filter fun x => p (toE x)).length = 0) := by
  rw [toT, List.filter_map, List.isEmpty_map]
  show (es.filter fun x => p (toE x)).isEmpty = _
  cases es.filter fun x => p (toE x) <;> rfl
set_option maxRecDepth 100000 in
set_option maxHeartbeats 4000000 in
theorem entriesMay_any {es : List En} {u : Value} {w : World} (h : EnAt w u es) (ht : Wid w) (self own : Int) {wd : Nat} (hW : IsW wd) (ho : 0 ≤ own ∧ own ≤ 1024) :
    Calls Tryz.prog 21 #[tbV self wd own u] w fun e w' => e = .returned (.bool (esB self wd own (toT es))) ∧ Below w.heap.size w w' := by
  obtain ⟨ua, uc, rfl, hul, _, _⟩ := h.op
  obtain ⟨W1, hW1⟩ : ∃ W1, w.alloc (tbO self wd own (.slice ua es.length uc)) = W1 := ⟨_, rfl⟩
  have hb : Below w.heap.size w W1 := by rw [← hW1]; exact (Below.refl _ w).alloc (Nat.le_refl _) _
  have hA : W1.heap[w.heap.size]? = some (tbO self wd own (.slice ua es.length uc)) := by rw [← hW1]; exact heap_alloc_last w _
  obtain ⟨q, hq⟩ : ∃ q, w.heap.size = q := ⟨_, rfl⟩
  rw [hq] at hA
  have HE1 := hidIn (h.keep hb (Nat.le_refl _))
  obtain ⟨ln, hln⟩ : ∃ ln, es.length = ln := ⟨_, rfl⟩
  rw [hln] at hul hA hW1 HE1
  have Hln := hidIn hln
  have HB := hidIn hb
  have HA := hidIn hA
  have HWd := hidIn hW
  have Ho := hidIn ho
  have Ht := hidIn (ht.keep hb)
  have t3 := cell_of_row _ _ 3 _ _ _ hA
  simp at t3
  obtain ⟨r, hr⟩ : ∃ r, esB self wd own (toT es) = r := ⟨_, rfl⟩
  rw [hr]
  have HR := hidIn hr
  have HW := hidIn hW1
  rw [hln]
  clear hb hA hr hW1 h ht hln ho hW
  go_enter Tryz.func21, Tryz.ntmps21
  go_upto_region 1 with fail
  rw [HW.out]
  clear HW hq
  by_cases hlen : ln ≤ 24
  rotate_left
  · have hli : 24 < (ln : Int) := by omega
    have HE : Hid (r = false) := hidIn (by rw [← HR.out]; unfold esB; rw [List.length_map, Hln.out, decide_eq_false hlen]; rfl)
    clear hlen
    go_wp2_with fail
    go_ret
    exact ⟨by rw [HE.out]; rfl, HB.out⟩
  have hli : ¬ 24 < (ln : Int) := by omega
  have HRE : Hid (r = (entsB self wd none (toT es) && ((toT es).filter (atB (opS own wd) (opB own wd))).isEmpty)) := hidIn (by rw [← HR.out]; unfold esB; rw [List.length_map, Hln.out, decide_eq_true hlen]; rfl)
  obtain ⟨pz, hpz⟩ : ∃ pz, entsB self wd none (toT es) = pz := ⟨_, rfl⟩
  rw [hpz] at HRE
  have Hpz := hidIn hpz
  clear HR hpz
  go_wp2_with fail
  clear t3
  go_loopw [15] (fun i wr => ∃ k : Nat, k ≤ ln ∧ i = .int .i64 k ∧ Hid (Below W1.heap.size W1 wr ∧ pz = entsB self wd (prevT (toT es) k) ((toT es).drop k))) (fun i _ => ln - (intOf i).toNat)
  case atStart => exact ⟨0, Nat.zero_le _, rfl, hidIn ⟨Below.refl _ _, by rw [List.drop_zero]; exact Hpz.out.symm⟩⟩
  case round =>
    clear Hpz
    obtain ⟨k, hk, rfl, HI⟩ := hrel
    obtain ⟨hbr, hpz⟩ := HI.out
    clear HI
    by_cases hlt : k < ln
    · have hki : (k : Int) < (ln : Int) := by omega
      obtain ⟨_, _, he, _, _, hcl⟩ := (HE1.out.keep hbr (Nat.le_refl _)).op
      simp only [Value.slice.injEq] at he
      obtain ⟨hua, hxx, hyy⟩ := he
      subst hua
      clear hxx hyy
      obtain ⟨bk, o, rfl, hbk, hcell⟩ := hcl (by have := Hln.out; omega)
      obtain ⟨x, hx⟩ : ∃ x, es[k]? = some x := ⟨es[k]'(by have := Hln.out; omega), List.getElem?_eq_getElem _⟩
      obtain ⟨e0, e1, e2, e3, hxs, hx5⟩ := hcell k x hx
      clear hx5
      obtain ⟨w3, hw3⟩ : ∃ w3, wr.alloc (enO x.1.1 x.1.2.1 x.1.2.2.1 (rwS x.1)) = w3 := ⟨_, rfl⟩
      have b3 : Below wr.heap.size wr w3 := by rw [← hw3]; exact (Below.refl _ wr).alloc (Nat.le_refl _) _
      have hz : w3.heap[wr.heap.size]? = some (enO x.1.1 x.1.2.1 x.1.2.2.1 (rwS x.1)) := by rw [← hw3]; exact heap_alloc_last wr _
      have hB3 := hbr.trans (b3.mono hbr.size)
      have HCE : Hid (∀ d os, Calls Tryz.prog 47 #[tbV self wd own (.slice (some ⟨bk, o, none⟩) ln uc), enV x.1] (Go.Sort.grow (redrawn w3 d) os) fun e w' => e = .returned (.bool (enB self wd (toE x))) ∧ Below (Go.Sort.grow (redrawn w3 d) os).heap.size (Go.Sort.grow (redrawn w3 d) os) w') := hidIn fun d os => entryMay_any ((hxs.keep b3 (Nat.le_refl _)).keep (below_regrown w3 d os) (Nat.le_refl _)) self wd own _ _ _
      have hA3 := (hB3.block _ (block_lt HA.out)).trans HA.out
      have HNx : Hid (pz = (enB self wd (toE x) && ((match prevT (toT es) k with | none => true | some y => plB y (toE x)) && entsB self wd (some (toE x)) ((toT es).drop (k + 1))))) := hidIn (by rw [hpz, drop_getT hx]; rfl)
      have HPr := hidIn (prevT_succ (toT_get hx))
      obtain ⟨qx, hqx⟩ : ∃ qx, enB self wd (toE x) = qx := ⟨_, rfl⟩
      rw [hqx] at HCE HNx
      obtain ⟨q3, hq3⟩ : ∃ q3, wr.heap.size = q3 := ⟨_, rfl⟩
      rw [hq3] at hz
      have y0 := cell_of_row _ _ 0 _ _ _ hz
      have y1 := cell_of_row _ _ 1 _ _ _ hz
      have y2 := cell_of_row _ _ 2 _ _ _ hz
      have y3 := cell_of_row _ _ 3 _ _ _ hz
      have d0 := cell_of_row _ _ 0 _ _ _ hA3
      have d1 := cell_of_row _ _ 1 _ _ _ hA3
      have d2 := cell_of_row _ _ 2 _ _ _ hA3
      have d3 := cell_of_row _ _ 3 _ _ _ hA3
      have HW3 := hidIn hw3
      have HB3 := hidIn hB3
      have HPv : Hid (∀ k' p, k = k' + 1 → es[k']? = some p → w3.cell? ⟨bk, o + k' * 4, none⟩ = some (.int .i64 p.1.1) ∧ w3.cell? ⟨bk, o + k' * 4 + 1, none⟩ = some (.int .i64 p.1.2.1) ∧ w3.cell? ⟨bk, o + k' * 4 + 2, none⟩ = some (.int .i64 p.1.2.2.1) ∧ w3.cell? ⟨bk, o + k' * 4 + 3, none⟩ = some (rwS p.1) ∧ prevT (toT es) k = some (toE p)) := hidIn fun k' p hk' hp => by
        obtain ⟨c0, c1, c2, c3, _, _⟩ := hcell k' p hp
        exact ⟨(b3.cell (p := ⟨bk, o + k' * 4, none⟩) hbk).trans c0, (b3.cell (p := ⟨bk, o + k' * 4 + 1, none⟩) hbk).trans c1, (b3.cell (p := ⟨bk, o + k' * 4 + 2, none⟩) hbk).trans c2, (b3.cell (p := ⟨bk, o + k' * 4 + 3, none⟩) hbk).trans c3, by rw [hk']; exact prevT_succ (toT_get hp)⟩
      obtain ⟨⟨x0, x1, x2, x3, x4, x5⟩, xn⟩ := x
      simp only at e0 e1 e2 e3 HW3 y0 y1 y2 y3 HCE
      simp at y0 y1 y2 y3 d0 d1 d2 d3
      have z0 := cell_regrown y0
      have z1 := cell_regrown y1
      have z2 := cell_regrown y2
      have z3 := cell_regrown y3
      have a0 := cell_regrown d0
      have a1 := cell_regrown d1
      have a2 := cell_regrown d2
      have a3 := cell_regrown d3
      clear hcell hcl hx hxs b3 hB3 hz hA3 hpz hbk hw3 hqx hbr y0 y1 y2 y3 d0 d1 d2 d3
      go_upto_region 6 with fail
      rw [HW3.out]
      clear HW3 hq3 e0 e1 e2 e3
      cases qx
      · have HE : Hid (r = false) := hidIn (by rw [HRE.out, HNx.out]; rfl)
        refine wp_region_quiet_below (by kernel_rfl) (by kernel_rfl) ?_
        repeat (go_big_quiet_step (first | (go_at_call 47; exact Calls.regrown_of (HCE.out _ _))))
        refine wpQuiet_nil ?_
        intro _ hw'
        obtain ⟨⟨dq, osq⟩, hw''⟩ := hw'
        subst hw''
        have HRy := hidIn (HB3.out.trans ((below_regrown w3 dq osq).mono HB3.out.size))
        generalize Go.Sort.grow (redrawn w3 dq) osq = wy at HRy ⊢
        clear z0 z1 z2 z3 a0 a1 a2 a3 HCE
        have HBy := hidIn (HB.out.trans (HRy.out.mono HB.out.size))
        go_wp2_with fail
        go_ret
        exact ⟨by rw [HE.out]; rfl, HBy.out⟩
      by_cases hk0 : k = 0
      · have hkd : decide (0 < (k : Int)) = false := by simp; omega
        have hkd' : decide (0 < k) = false := by simp; omega
        have HF : Hid (pz = entsB self wd (some (toE ((x0, x1, x2, x3, x4, x5), xn))) ((toT es).drop (k + 1))) := hidIn (by rw [HNx.out, show prevT (toT es) k = none by rw [hk0]; rfl]; rfl)
        clear hk0
        refine wp_region_quiet_below (by kernel_rfl) (by kernel_rfl) ?_
        repeat (go_big_quiet_step (first | (go_at_call 47; exact Calls.regrown_of (HCE.out _ _))))
        refine wpQuiet_nil ?_
        intro _ hw'
        obtain ⟨⟨dq, osq⟩, hw''⟩ := hw'
        subst hw''
        have HRy := hidIn (HB3.out.trans ((below_regrown w3 dq osq).mono HB3.out.size))
        generalize Go.Sort.grow (redrawn w3 dq) osq = wy at HRy ⊢
        clear z0 z1 z2 z3 a0 a1 a2 a3 HCE
        go_wp2_with fail
        go_roundw
        case rel => exact ⟨k + 1, by omega, by go_num, hidIn ⟨HRy.out, by rw [HPr.out]; exact HF.out⟩⟩
        case measure => simp [intOf]; omega
      · obtain ⟨k', hk'⟩ : ∃ k', k = k' + 1 := ⟨k - 1, by omega⟩
        have hkd : decide (0 < (k : Int)) = true := by simp; omega
        have hkd' : decide (0 < k) = true := by simp; omega
        obtain ⟨p, hp⟩ : ∃ p, es[k']? = some p := ⟨es[k']'(by have := Hln.out; omega), List.getElem?_eq_getElem _⟩
        obtain ⟨p0, p1, p2, p3, hpv⟩ := HPv.out k' p hk' hp
        obtain ⟨⟨v0, v1, v2, v3, v4, v5⟩, vn⟩ := p
        simp only at p0 p1 p2 p3 hpv
        have g0 := cell_regrown p0
        have g1 := cell_regrown p1
        have g2 := cell_regrown p2
        have g3 := cell_regrown p3
        have hwr : IntKind.i64.wrap ((k : Int) - 1) = (k' : Int) := by rw [IntKind.wrap_i64]; omega
        have hk'n : (k' : Int) < (ln : Int) := by omega
        obtain ⟨cr, hcr⟩ : ∃ cr, cmR (v0, v1, v2, v3, v4, v5) (x0, x1, x2, x3, x4, x5) = cr := ⟨_, rfl⟩
        have hpl := cmR_plB (v0, v1, v2, v3, v4, v5) (x0, x1, x2, x3, x4, x5) vn xn
        rw [hcr] at hpl
        have HCC : Hid (∀ d os, Calls Tryz.prog 46 #[enV (v0, v1, v2, v3, v4, v5), enV (x0, x1, x2, x3, x4, x5)] (Go.Sort.grow (redrawn w3 d) os) fun e w' => e = .returned (.int .i64 cr) ∧ Below (Go.Sort.grow (redrawn w3 d) os).heap.size (Go.Sort.grow (redrawn w3 d) os) w') := hidIn fun d os => (rcomp_any (v0, v1, v2, v3, v4, v5) (x0, x1, x2, x3, x4, x5) _).mono fun e w' ⟨h1, q, os', h2⟩ => ⟨by rw [h1, hcr], by rw [h2]; exact Go.Lib.below_grow _ _ (Nat.le_refl _) q os'⟩
        obtain ⟨pb, hpb⟩ : ∃ pb, plB (toE (((v0, v1, v2, v3, v4, v5), vn) : En)) (toE ((x0, x1, x2, x3, x4, x5), xn)) = pb := ⟨_, rfl⟩
        rw [hpb] at hpl
        have HNx2 : Hid (pz = (pb && entsB self wd (some (toE ((x0, x1, x2, x3, x4, x5), xn))) ((toT es).drop (k + 1)))) := hidIn (by rw [HNx.out, hpv, ← hpb]; rfl)
        clear hk0 hp hpv p0 p1 p2 p3 hcr hpb hk'
        cases pb
        · have hcd : decide (0 ≤ cr) = true := by rw [hpl]; rfl
          have HE : Hid (r = false) := hidIn (by rw [HRE.out, HNx2.out]; rfl)
          clear hpl
          refine wp_region_quiet_below (by kernel_rfl) (by kernel_rfl) ?_
          repeat (go_big_quiet_step (first | (go_at_call 47; exact Calls.regrown_of (HCE.out _ _)) | (go_at_call 46; exact Calls.regrown_of (HCC.out _ _))))
          refine wpQuiet_nil ?_
          intro _ hw'
          obtain ⟨⟨dq, osq⟩, hw''⟩ := hw'
          subst hw''
          have HRy := hidIn (HB3.out.trans ((below_regrown w3 dq osq).mono HB3.out.size))
          generalize Go.Sort.grow (redrawn w3 dq) osq = wy at HRy ⊢
          clear z0 z1 z2 z3 a0 a1 a2 a3 HCE
          clear g0 g1 g2 g3 HCC
          have HBy := hidIn (HB.out.trans (HRy.out.mono HB.out.size))
          go_wp2_with fail
          go_ret
          exact ⟨by rw [HE.out]; rfl, HBy.out⟩
        · have hcd : decide (0 ≤ cr) = false := by rw [hpl]; rfl
          have HF : Hid (pz = entsB self wd (some (toE ((x0, x1, x2, x3, x4, x5), xn))) ((toT es).drop (k + 1))) := hidIn (by rw [HNx2.out]; rfl)
          clear hpl
          refine wp_region_quiet_below (by kernel_rfl) (by kernel_rfl) ?_
          repeat (go_big_quiet_step (first | (go_at_call 47; exact Calls.regrown_of (HCE.out _ _)) | (go_at_call 46; exact Calls.regrown_of (HCC.out _ _))))
          refine wpQuiet_nil ?_
          intro _ hw'
          obtain ⟨⟨dq, osq⟩, hw''⟩ := hw'
          subst hw''
          have HRy := hidIn (HB3.out.trans ((below_regrown w3 dq osq).mono HB3.out.size))
          generalize Go.Sort.grow (redrawn w3 dq) osq = wy at HRy ⊢
          clear z0 z1 z2 z3 a0 a1 a2 a3 HCE
          clear g0 g1 g2 g3 HCC
          go_wp2_with fail
          go_roundw
          case rel => exact ⟨k + 1, by omega, by go_num, hidIn ⟨HRy.out, by rw [HPr.out]; exact HF.out⟩⟩
          case measure => simp [intOf]; omega
    · have hki : ¬ ((k : Int) < (ln : Int)) := by omega
      have HF : Hid (r = ((toT es).filter (atB (opS own wd) (opB own wd))).isEmpty) := hidIn (by
        rw [HRE.out, hpz, List.drop_eq_nil_of_le (by rw [List.length_map]; have := Hln.out; omega)]
        rfl)
      have HBr := hidIn hbr
      have hA2 := (hbr.block _ (block_lt HA.out)).trans HA.out
      have d0 := cell_of_row _ _ 0 _ _ _ hA2
      have d1 := cell_of_row _ _ 1 _ _ _ hA2
      have d2 := cell_of_row _ _ 2 _ _ _ hA2
      have d3 := cell_of_row _ _ 3 _ _ _ hA2
      simp at d0 d1 d2 d3
      have hq2 := block_lt hA2
      obtain ⟨S, hS⟩ : ∃ S, opS own wd = S := ⟨_, rfl⟩
      obtain ⟨B, hB⟩ : ∃ B, opB own wd = B := ⟨_, rfl⟩
      rw [hS, hB] at HF
      have HPl : Hid (Calls Tryz.prog 19 #[.int .i64 own, .int .i64 wd] wr fun e w' => (∃ c, e = .returned (.tuple #[.int .i64 S, .int .i64 B, .int .i64 c])) ∧ Below wr.heap.size wr w') := hidIn (by
        have hT := Ht.out.keep hbr
        by_cases h0 : own = 0
        · refine (place_no own wd (.inr (.inl (by omega))) wr hT).mono fun e w' ⟨h1, h2⟩ => ⟨⟨2, ?_⟩, by rw [h2]; exact Below.refl _ _⟩
          rw [h1, ← hS, ← hB, h0]
          rfl
        · obtain ⟨kk, rfl⟩ : ∃ kk : Nat, own = (kk : Int) + 1 := ⟨(own - 1).toNat, by have := Ho.out; omega⟩
          refine (place_yes kk wd (by have := Ho.out; omega) HWd.out wr hT).mono fun e w' ⟨h1, h2⟩ => ⟨⟨0, ?_⟩, h2⟩
          rw [h1, ← hS, ← hB, opS_pos.1, opS_pos.2])
      clear hbr hpz HRE hA2 hS hB
      go_wp2_with fail
      refine HPl.out.mono ?_
      rintro e wy ⟨⟨c, rfl⟩, hby⟩
      have HBy := hidIn (HBr.out.trans (hby.mono HBr.out.size))
      have HCl : Hid (∀ wq, Below wy.heap.size wy wq → wq.cell? ⟨q, 0, none⟩ = some (.int .i64 self) ∧ wq.cell? ⟨q, 1, none⟩ = some (.int .i64 wd) ∧ wq.cell? ⟨q, 2, none⟩ = some (.int .i64 own) ∧ wq.cell? ⟨q, 3, none⟩ = some (.slice ua ln uc)) := hidIn fun wq h => by
        have hq3 := Nat.lt_of_lt_of_le hq2 hby.size
        exact ⟨(h.cell (p := ⟨q, 0, none⟩) hq3).trans ((hby.cell (p := ⟨q, 0, none⟩) hq2).trans d0), (h.cell (p := ⟨q, 1, none⟩) hq3).trans ((hby.cell (p := ⟨q, 1, none⟩) hq2).trans d1), (h.cell (p := ⟨q, 2, none⟩) hq3).trans ((hby.cell (p := ⟨q, 2, none⟩) hq2).trans d2), (h.cell (p := ⟨q, 3, none⟩) hq3).trans ((hby.cell (p := ⟨q, 3, none⟩) hq2).trans d3)⟩
      clear hby HPl d0 d1 d2 d3 hq2
      go_upto_region 10 with fail
      refine wp_region_held_drew (S := fun wx => Below wy.heap.size wy wx) (by kernel_rfl) ((Below.refl _ wy).drew) (fun hHeld => ?_)
      have hd0 : Below wy.heap.size wy wy.drew := hHeld
      obtain ⟨wn, hwn⟩ : ∃ wn, wy.drew = wn := ⟨_, rfl⟩
      rw [hwn] at hd0 ⊢
      clear hwn hHeld
      refine wpAnyH_take (i := 0) (v := tbV self wd own (.slice ua ln uc)) rfl (by kernel_rfl) (by kernel_rfl) (by kernel_rfl) (fun _ _ _ h => h) (Or.inl ⟨by kernel_rfl, fun wq hSw => by
        obtain ⟨u0, u1, u2, u3⟩ := HCl.out wq hSw
        go_simp⟩) (by assumption) ?_
      refine wpAnyH_take (i := 1) (v := .int .i64 S) rfl (by kernel_rfl) (by kernel_rfl) (by kernel_rfl) (fun _ _ _ h => h) (Or.inl ⟨by kernel_rfl, fun _ _ => by kernel_rfl⟩) (by assumption) ?_
      refine wpAnyH_take (i := 2) (v := .int .i64 B) rfl (by kernel_rfl) (by kernel_rfl) (by kernel_rfl) (fun _ _ _ h => h) (Or.inl ⟨by kernel_rfl, fun _ _ => by kernel_rfl⟩) (by assumption) ?_
      refine wpAnyH_ready (rs := [3]) (by kernel_rfl) (by simp) ?_
      refine AllReadyH.cons (i := 3) rfl ?_ AllReadyH.nil
      go_simp
      intro K hK
      refine (at_any S B wn).mono ?_
      rintro e w4 ⟨rfl, hw4⟩
      have hb4 : Below wy.heap.size wy w4 := by rw [hw4]; exact (hd0.alloc hd0.size _).alloc (by rw [World.size_alloc]; exact Nat.le_succ_of_le hd0.size) _
      have k0 : w4.cell? ⟨wn.heap.size, 0, none⟩ = some (.int .i64 S) := by
        have h1 : w4.heap[wn.heap.size]? = some (.cells #[.int .i64 S] 3) := by rw [hw4, Below.heap_alloc _ _ _ (by simp)]; exact heap_alloc_last wn _
        have := cell_of_row _ _ 0 _ _ _ h1
        simpa using this
      have k1 : w4.cell? ⟨wn.heap.size + 1, 0, none⟩ = some (.int .i64 B) := by
        have h1 : w4.heap[wn.heap.size + 1]? = some (.cells #[.int .i64 B] 3) := by
          rw [hw4]
          have := heap_alloc_last (wn.alloc (.cells #[.int .i64 S] 3)) (.cells #[.int .i64 B] 3)
          rwa [World.size_alloc] at this
        have := cell_of_row _ _ 0 _ _ _ h1
        simpa using this
      refine hK.out _ _ hb4 (fun _ => ?_)
      clear hK K hw4
      obtain ⟨qa, hqa⟩ : ∃ qa, wn.heap.size = qa := ⟨_, rfl⟩
      rw [hqa] at k0 k1 ⊢
      clear hqa
      have hE4 : EnAt w4 (.slice ua ln uc) es := HE1.out.keep (HBy.out.trans (hb4.mono HBy.out.size)) (Nat.le_refl _)
      have HTh := hidIn (thoseAt_any hE4 (by have := Hln.out; omega) k0 k1 self wd own)
      have HB4 := hidIn hb4
      clear hE4 k0 k1 hd0
      refine wpAnyH_ready (rs := [4]) (by kernel_rfl) (by simp) ?_
      refine AllReadyH.cons (i := 4) rfl ?_ AllReadyH.nil
      go_simp
      intro K hK
      refine HTh.out.mono ?_
      rintro e w5 ⟨⟨fa, fc, rfl, _⟩, hb5⟩
      have hb5' := hb4.trans (hb5.mono hb4.size)
      have HB5 := hidIn (HBy.out.trans (hb5'.mono HBy.out.size))
      refine hK.out _ _ hb5' (fun _ => ?_)
      clear hK K HTh hb5 hb4
      obtain ⟨fl', hfl⟩ : ∃ fl', (es.filter fun x => atB S B (toE x)).length = fl' := ⟨_, rfl⟩
      have HG : Hid (r = decide (fl' = 0)) := hidIn (by rw [HF.out, filter_toT, hfl])
      rw [hfl]
      clear hfl
      by_cases h0 : fl' = 0
      · have hz : ((fl' : Int) == 0) = true := by rw [h0]; rfl
        have HE : Hid (r = true) := hidIn (by rw [HG.out, decide_eq_true h0])
        clear h0
        refine wpAnyH_take (i := 5) (v := .int .i64 fl') rfl (by kernel_rfl) (by kernel_rfl) (by kernel_rfl) (fun _ _ _ h => h) (Or.inl ⟨by kernel_rfl, fun _ _ => by kernel_rfl⟩) (by assumption) ?_
        refine wpAnyH_take (i := 6) (v := .bool true) rfl (by kernel_rfl) (by kernel_rfl) (by kernel_rfl) (fun _ _ _ h => h) (Or.inl ⟨by kernel_rfl, fun _ _ => by go_simp⟩) (by assumption) ?_
        refine wpAnyH_take (i := 7) (v := .bool true) rfl (by kernel_rfl) (by kernel_rfl) (by kernel_rfl) (fun _ _ _ h => h) (Or.inl ⟨by kernel_rfl, fun _ _ => by kernel_rfl⟩) (by assumption) ?_
        refine wpAnyH_done (by kernel_rfl) ?_ _
        have HBe := hidIn (HB.out.trans (HB5.out.mono HB.out.size))
        go_wp2_with fail
        go_ret
        exact ⟨by rw [HE.out]; rfl, HBe.out⟩
      · have hz : ((fl' : Int) == 0) = false := by simp; omega
        have HE : Hid (r = false) := hidIn (by rw [HG.out, decide_eq_false h0])
        clear h0
        refine wpAnyH_take (i := 5) (v := .int .i64 fl') rfl (by kernel_rfl) (by kernel_rfl) (by kernel_rfl) (fun _ _ _ h => h) (Or.inl ⟨by kernel_rfl, fun _ _ => by kernel_rfl⟩) (by assumption) ?_
        refine wpAnyH_take (i := 6) (v := .bool false) rfl (by kernel_rfl) (by kernel_rfl) (by kernel_rfl) (fun _ _ _ h => h) (Or.inl ⟨by kernel_rfl, fun _ _ => by go_simp⟩) (by assumption) ?_
        refine wpAnyH_take (i := 7) (v := .bool false) rfl (by kernel_rfl) (by kernel_rfl) (by kernel_rfl) (fun _ _ _ h => h) (Or.inl ⟨by kernel_rfl, fun _ _ => by kernel_rfl⟩) (by assumption) ?_
        refine wpAnyH_done (by kernel_rfl) ?_ _
        have HBe := hidIn (HB.out.trans (HB5.out.mono HB.out.size))
        go_wp2_with fail
        go_ret
        exact ⟨by rw [HE.out]; rfl, HBe.out⟩
end Go.Proofs.YtgeoghhajjlofaaGreatDoor
namespace Go.Proofs.YtgeoghhajjlofaaGreatDoor
open Go.RowKit

theorem cmpN_neg (x y : Nat) : decide (cmpN x y < 0) = decide (x < y) := by
  unfold cmpN
  by_cases h : x < y
  · simp [h]
  · by_cases h2 : y < x <;> simp [h, h2]
theorem take_ne {l : List Int} {k : Nat} (h : 0 < k) (hl : 0 < l.length) : l.take k ≠ [] := fun e => by
  have := congrArg List.length e
  rw [List.length_take, List.length_nil] at this
  omega
theorem best_one (r : Int → Nat) {l : List Int} {x : Int} (h : l[0]? = some x) : best r (l.take 1) = x := by
  cases l with
  | nil => simp at h
  | cons y l => simp at h; subst h; rfl
theorem best_next (r : Int → Nat) {l : List Int} {k : Nat} {x : Int} (hk : 0 < k) (h : l[k]? = some x) : best r (l.take (k + 1)) = if r (best r (l.take k)) < r x then x else best r (l.take k) := by
  rw [take_snoc h, best_snoc r (take_ne hk (by have := (List.getElem?_eq_some_iff.1 h).1; omega))]
set_option maxRecDepth 100000 in
set_option maxHeartbeats 1000000 in
theorem minF_any {e : Nat} (he : e < 4294967296) {l : List Int} {v : Value} {B : Nat} {w : World} (h : SlAt ic 1 w v l) (h0 : 0 < l.length) (hc : w.cell? ⟨B, 0, none⟩ = some (rkF e)) :
    Calls Tryz.prog 110 #[v, gfF B] w fun r w' => r = .returned (.int .i64 (best (mix e) l)) ∧ ∃ q, w' = w.drewN q := by
  obtain ⟨a, cap, rfl, hl, _, hat⟩ := h.ints
  obtain ⟨bk, o, rfl, hbk, hcell⟩ := hat h0
  have HR := hidIn (fun q x y => less_any he (w := w.drewN q) (B := B) hc x y)
  generalize mix e = r at *
  obtain ⟨ln, hln⟩ : ∃ ln, l.length = ln := ⟨_, rfl⟩
  have Hln := hidIn hln
  rw [hln] at hl h0 ⊢
  obtain ⟨x0, hx0⟩ : ∃ x, l[0]? = some x := ⟨l[0]'(by omega), List.getElem?_eq_getElem _⟩
  have c00 := hcell 0 x0 hx0
  rw [Nat.add_zero] at c00
  have H0 := hidIn (best_one r hx0)
  have HCl := hidIn hcell
  have hn1 : ¬ (ln : Int) < 1 := by omega
  obtain ⟨b, hb⟩ : ∃ b, best r l = b := ⟨_, rfl⟩
  have HB := hidIn hb
  rw [hb]
  clear h hat hln hx0 hcell hb hc
  go_enter Tryz.func110, Tryz.ntmps110
  go_wp2_with fail
  go_loopw [5, 6] (fun m i wr => ∃ k q : Nat, 0 < k ∧ k ≤ ln ∧ i = .int .i64 k ∧ m = .int .i64 (best r (l.take k)) ∧ wr = w.drewN q) (fun _ i _ => ln - (intOf i).toNat)
  case atStart => exact ⟨1, 0, by omega, by omega, rfl, by rw [H0.out], rfl⟩
  case round =>
    clear c00
    obtain ⟨k, q, hk0, hk, rfl, rfl, rfl⟩ := hrel
    by_cases hlt : k < ln
    · obtain ⟨x, hx⟩ : ∃ x, l[k]? = some x := ⟨l[k]'(by have := Hln.out; omega), List.getElem?_eq_getElem _⟩
      have c0 := HCl.out k x hx
      have hki : (k : Int) < (ln : Int) := by omega
      have hbn := best_next r hk0 hx
      obtain ⟨m, hm⟩ : ∃ m, best r (l.take k) = m := ⟨_, rfl⟩
      rw [hm] at hbn ⊢
      have hneg := cmpN_neg (r m) (r x)
      have hL := HR.out q x m
      generalize cmpN (r m) (r x) = cr at hneg hL
      by_cases hlr : r m < r x
      · have HE : Hid (best r (l.take (k + 1)) = x) := hidIn (by rw [hbn, if_pos hlr])
        have hcr : cr < 0 := by have : decide (cr < 0) = true := by rw [hneg]; simpa using hlr
                                simpa using this
        have HL := hidIn hL
        clear hbn hm hneg hL hx hlr
        go_wp2_with fail
        refine HL.out.mono ?_
        rintro e1 w1 ⟨rfl, q1, hw1⟩
        rw [hw1]
        clear hw1 w1 HL
        go_wp2_with fail
        go_roundw
        case rel => exact ⟨k + 1, q + q1, by omega, by omega, by go_num, by rw [HE.out], by first | rfl | rw [World.drewN_drewN]⟩
        case measure => simp [intOf]; omega
      · have HE : Hid (best r (l.take (k + 1)) = m) := hidIn (by rw [hbn, if_neg hlr])
        have hcr : ¬ cr < 0 := by have : decide (cr < 0) = false := by rw [hneg]; simpa using hlr
                                  simpa using this
        have HL := hidIn hL
        clear hbn hm hneg hL hx hlr
        go_wp2_with fail
        refine HL.out.mono ?_
        rintro e1 w1 ⟨rfl, q1, hw1⟩
        rw [hw1]
        clear hw1 w1 HL
        go_wp2_with fail
        go_roundw
        case rel => exact ⟨k + 1, q + q1, by omega, by omega, by go_num, by rw [HE.out], by first | rfl | rw [World.drewN_drewN]⟩
        case measure => simp [intOf]; omega
    · have hki : ¬ ((k : Int) < (ln : Int)) := by omega
      have HE : best r (l.take k) = b := by rw [List.take_of_length_le (by have := Hln.out; omega)]; exact HB.out
      rw [HE]
      clear HE
      go_wp2_with fail
      go_ret
      exact ⟨rfl, q, rfl⟩
set_option maxRecDepth 100000 in
theorem pfirst_any {e : Nat} (he : e < 4294967296) {l : List Int} {v : Value} {w : World} (h : SlAt ic 1 w v l) (h0 : 0 < l.length) :
    Calls Tryz.prog 74 #[.int .u32 e, v] w fun r w' => r = .returned (.int .i64 (best (mix e) l)) ∧ Below w.heap.size w w' := by
  have HG := hidIn (great_any e w)
  have hb : Below w.heap.size w (w.alloc (.cells #[rkF e] 173)) := (Below.refl _ w).alloc (Nat.le_refl _) _
  have hcell : (w.alloc (.cells #[rkF e] 173)).cell? ⟨w.heap.size, 0, none⟩ = some (rkF e) := cell_of_row _ _ 0 _ _ _ (heap_alloc_last w _)
  have HM := hidIn (minF_any he (h.keep hb (Nat.le_refl _)) h0 hcell)
  have HB := hidIn hb
  obtain ⟨a, cap, rfl, _⟩ := h
  generalize best (mix e) l = b at *
  generalize l.length = ln at *
  clear hb hcell
  go_enter Tryz.func74, Tryz.ntmps74
  go_wp2_with fail
  refine HG.out.mono ?_
  rintro x w1 ⟨rfl, hw1⟩
  rw [hw1]
  clear hw1 w1 HG
  generalize World.alloc _ _ = W at HM HB ⊢
  go_wp2_with fail
  refine HM.out.mono ?_
  rintro x w1 ⟨rfl, q, hw1⟩
  rw [hw1]
  clear hw1 w1 HM
  go_wp2_with fail
  go_ret
  exact ⟨rfl, below_drewN HB.out _⟩
/-- What Choose answers. -/
def chN (e : Nat) (l : List Int) : Int := if nbOk l = true ∧ l ≠ [] then best (mix e) l else 0
def chE (l : List Int) : Int := if nbOk l = true then (if l = [] then 6 else 0) else 2
theorem ch_no {l : List Int} (e : Nat) (h : nbOk l = false) : chN e l = 0 ∧ chE l = 2 := by simp [chN, chE, h]
theorem ch_nil {l : List Int} (e : Nat) (h : nbOk l = true) (h0 : l.length = 0) : chN e l = 0 ∧ chE l = 6 := by
  have := List.length_eq_zero_iff.1 h0
  subst this
  simp [chN, chE, h]
theorem ch_yes {l : List Int} (e : Nat) (h : nbOk l = true) (h0 : 0 < l.length) : chN e l = best (mix e) l ∧ chE l = 0 := by
  have : l ≠ [] := fun e => by rw [e] at h0; simp at h0
  simp [chN, chE, h, this]
set_option maxRecDepth 100000 in
theorem choose_any {e : Nat} (he : e < 4294967296) {l : List Int} {v : Value} {w : World} (h : SlAt ic 1 w v l) :
    Calls Tryz.prog 49 #[.int .u32 e, v] w fun r w' => r = .returned (.tuple #[.int .i64 (chN e l), .int .i64 (chE l)]) ∧ Below w.heap.size w w' := by
  have HN := hidIn (areNb_any h)
  have HF := hidIn (fun h0 => pfirst_any he h h0)
  obtain ⟨a, cap, rfl, _⟩ := h
  obtain ⟨bq, hbq⟩ : ∃ bq, nbOk l = bq := ⟨_, rfl⟩
  rw [hbq] at HN
  cases bq
  · have HE := hidIn (ch_no e hbq)
    generalize l.length = ln at *
    generalize chN e l = c1 at *
    generalize chE l = c2 at *
    clear hbq HF
    go_enter Tryz.func49, Tryz.ntmps49
    go_wp2_with fail
    refine HN.out.mono ?_
    rintro x w1 ⟨rfl, hw1⟩
    rw [hw1]
    clear hw1 w1 HN
    go_wp2_with fail
    go_ret2
    exact ⟨by rw [HE.out.1, HE.out.2]; rfl, Below.refl _ _⟩
  · by_cases h0 : l.length = 0
    · have HE := hidIn (ch_nil e hbq h0)
      have hz : ((l.length : Int) == 0) = true := by rw [h0]; rfl
      generalize l.length = ln at *
      generalize chN e l = c1 at *
      generalize chE l = c2 at *
      clear hbq HF h0
      go_enter Tryz.func49, Tryz.ntmps49
      go_wp2_with fail
      refine HN.out.mono ?_
      rintro x w1 ⟨rfl, hw1⟩
      rw [hw1]
      clear hw1 w1 HN
      go_wp2_with fail
      go_ret2
      exact ⟨by rw [HE.out.1, HE.out.2]; rfl, Below.refl _ _⟩
    · have HE := hidIn (ch_yes e hbq (by omega))
      have hz : ((l.length : Int) == 0) = false := by simp; intro h; exact h0 (by rw [h]; rfl)
      have HF' := hidIn (HF.out (by omega))
      clear hbq HF h0
      generalize l.length = ln at *
      generalize chN e l = c1 at *
      generalize chE l = c2 at *
      generalize best (mix e) l = b at *
      go_enter Tryz.func49, Tryz.ntmps49
      go_wp2_with fail
      refine HN.out.mono ?_
      rintro x w1 ⟨rfl, hw1⟩
      rw [hw1]
      clear hw1 w1 HN
      go_wp2_with fail
      refine HF'.out.mono ?_
      rintro x w1 ⟨rfl, hb1⟩
      have HB := hidIn hb1
      clear hb1 HF'
      go_wp2_with fail
      go_ret2
      exact ⟨by rw [HE.out.1, HE.out.2]; rfl, HB.out⟩
end Go.Proofs.YtgeoghhajjlofaaGreatDoor
namespace Go.Proofs.YtgeoghhajjlofaaGreatDoor
open Go.RowKit

def wB (W : Int) : Bool := decide (W = 8 ∨ W = 16 ∨ W = 32 ∨ W = 64 ∨ W = 128 ∨ W = 256)
/-- May a table be? -/
def tbB (sf width own : Int) (T : List Et) : Bool := (decide (1 ≤ sf) && decide (sf ≤ 24)) && (wB width && (decide (0 ≤ own) && (decide (own ≤ 1024) && esB sf width own T)))
theorem wB_iff {W : Int} : wB W = true ↔ IsW W := by unfold wB IsW; rw [decide_eq_true_eq]
theorem tbB_iff {sf width own : Int} {T : List Et} : tbB sf width own T = true ↔ TbOk sf width own T := by
  unfold tbB
  simp only [Bool.and_eq_true, decide_eq_true_eq, wB_iff]
  constructor
  · rintro ⟨h1, h2, h3, h4, h5⟩; exact ⟨h1, h2, ⟨h3, h4⟩, h5⟩
  · rintro ⟨h1, h2, ⟨h3, h4⟩, h5⟩; exact ⟨h1, h2, h3, h4, h5⟩
def ckT (b : Bool) : Int := if b = true then 0 else 2
set_option maxRecDepth 100000 in
set_option maxHeartbeats 4000000 in
theorem tcheck_any {es : List En} {u : Value} {w : World} (h : EnAt w u es) (ht : Wid w) (self width own : Int) :
    Calls Tryz.prog 6 #[tbV self width own u] w fun e w' => e = .returned (.int .i64 (ckT (tbB self width own (toT es)))) ∧ Below w.heap.size w w' := by
  obtain ⟨ua, uc, rfl, hul, _, _⟩ := h.op
  obtain ⟨W1, hW1⟩ : ∃ W1, w.alloc (tbO self width own (.slice ua es.length uc)) = W1 := ⟨_, rfl⟩
  have hb : Below w.heap.size w W1 := by rw [← hW1]; exact (Below.refl _ w).alloc (Nat.le_refl _) _
  have hA : W1.heap[w.heap.size]? = some (tbO self width own (.slice ua es.length uc)) := by rw [← hW1]; exact heap_alloc_last w _
  obtain ⟨q, hq⟩ : ∃ q, w.heap.size = q := ⟨_, rfl⟩
  rw [hq] at hA
  have HE1 := hidIn (h.keep hb (Nat.le_refl _))
  have Ht := hidIn (ht.keep hb)
  have HB := hidIn hb
  obtain ⟨T, hT⟩ : ∃ T, toT es = T := ⟨_, rfl⟩
  obtain ⟨ln, hln⟩ : ∃ ln, es.length = ln := ⟨_, rfl⟩
  rw [hln] at hul hA hW1 HE1 ⊢
  have d0 := cell_of_row _ _ 0 _ _ _ hA
  have d1 := cell_of_row _ _ 1 _ _ _ hA
  have d2 := cell_of_row _ _ 2 _ _ _ hA
  have d3 := cell_of_row _ _ 3 _ _ _ hA
  simp at d0 d1 d2 d3
  obtain ⟨r, hr⟩ : ∃ r, ckT (tbB self width own (toT es)) = r := ⟨_, rfl⟩
  have hr' : r = ckT ((decide (1 ≤ self) && decide (self ≤ 24)) && (wB width && (decide (0 ≤ own) && (decide (own ≤ 1024) && esB self width own T)))) := by rw [← hr, ← hT]; rfl
  rw [hr]
  have HR := hidIn hr'
  have HT := hidIn hT
  have HW := hidIn hW1
  clear hb hA hr hr' hT hW1 h ht hln
  obtain ⟨p0, hp0⟩ : ∃ p, (decide (1 ≤ self) && decide (self ≤ 24)) = p := ⟨_, rfl⟩
  have HS : Hid (Calls Tryz.prog 15 #[.int .i64 self] W1 fun e w' => e = .returned (.bool p0) ∧ w' = W1) := hidIn (by rw [← hp0]; exact tisR_any self W1)
  obtain ⟨p1, hp1⟩ : ∃ p, wB width = p := ⟨_, rfl⟩
  have HWi : Hid (Calls Tryz.prog 16 #[.int .i64 width] W1 fun e w' => e = .returned (.bool p1) ∧ w' = W1) := hidIn (by
    cases hp : p1 with
    | true => exact wide_yes width (wB_iff.1 (hp1.trans hp)) W1 Ht.out
    | false => exact wide_no width (fun hw => by rw [wB_iff.2 hw, hp] at hp1; cases hp1) W1 Ht.out)
  have HWd : Hid (p1 = true → IsW width) := hidIn fun h => wB_iff.1 (hp1.trans h)
  rw [hp0, hp1] at HR
  clear hp0 hp1
  go_enter Tryz.func6, Tryz.ntmps6
  go_upto_region 1 with fail
  rw [HW.out]
  clear HW hq
  go_wp2_with fail
  refine HS.out.mono ?_
  rintro e w1 ⟨rfl, hw1⟩
  rw [hw1]
  clear hw1 w1 HS
  cases p0
  · have HE : Hid (r = 2) := hidIn (by rw [HR.out]; rfl)
    go_wp2_with fail
    go_ret
    exact ⟨by rw [HE.out]; rfl, HB.out⟩
  go_wp2_with fail
  refine HWi.out.mono ?_
  rintro e w1 ⟨rfl, hw1⟩
  rw [hw1]
  clear hw1 w1 HWi
  cases p1
  · have HE : Hid (r = 2) := hidIn (by rw [HR.out]; rfl)
    go_wp2_with fail
    go_ret
    exact ⟨by rw [HE.out]; rfl, HB.out⟩
  obtain ⟨wd, rfl⟩ : ∃ wd : Nat, width = (wd : Int) := ⟨width.toNat, by have := HWd.out rfl; unfold IsW at this; omega⟩
  by_cases h2 : own < 0
  · have HE : Hid (r = 2) := hidIn (by rw [HR.out, decide_eq_false (show ¬ 0 ≤ own by omega)]; rfl)
    go_wp2_with fail
    go_ret
    exact ⟨by rw [HE.out]; rfl, HB.out⟩
  by_cases h3 : 1024 < own
  · have HE : Hid (r = 2) := hidIn (by rw [HR.out, decide_eq_false (show ¬ own ≤ 1024 by omega)]; simp [ckT])
    go_wp2_with fail
    go_ret
    exact ⟨by rw [HE.out]; rfl, HB.out⟩
  obtain ⟨p4, hp4⟩ : ∃ p, esB self wd own T = p := ⟨_, rfl⟩
  have HEn : Hid (Calls Tryz.prog 21 #[tbV self wd own (.slice ua ln uc)] W1 fun e w' => e = .returned (.bool p4) ∧ Below W1.heap.size W1 w') := hidIn (by rw [← hp4, ← HT.out]; exact entriesMay_any HE1.out Ht.out self own (HWd.out rfl) (by omega))
  have HE : Hid (r = ckT p4) := hidIn (by rw [HR.out, decide_eq_true (show 0 ≤ own by omega), decide_eq_true (show own ≤ 1024 by omega), hp4]; rfl)
  clear HR hp4 HWd
  go_wp2_with fail
  refine HEn.out.mono ?_
  rintro e w1 ⟨rfl, hb1⟩
  have HB1 := hidIn (HB.out.trans (hb1.mono HB.out.size))
  clear hb1 HEn
  cases p4
  · go_wp2_with fail
    go_ret
    exact ⟨by rw [HE.out]; rfl, HB1.out⟩
  · go_wp2_with fail
    go_ret
    exact ⟨by rw [HE.out]; rfl, HB1.out⟩
set_option maxRecDepth 100000 in
theorem taken_any {e : Nat} (he : e < 4294967296) {x : En} {w : World} (hx : SlAt ic 1 w (rwS x.1) x.2) :
    Calls Tryz.prog 25 #[enV x.1, .int .u32 e] w fun r w' => r = .returned (.int .i64 (chN e x.2)) ∧ Below w.heap.size w w' := by
  obtain ⟨⟨a0, a1, a2, a3, a4, a5⟩, an⟩ := x
  simp only at hx
  obtain ⟨W1, hW1⟩ : ∃ W1, w.alloc (enO a0 a1 a2 (.slice a3 a4 a5)) = W1 := ⟨_, rfl⟩
  have hb : Below w.heap.size w W1 := by rw [← hW1]; exact (Below.refl _ w).alloc (Nat.le_refl _) _
  have hA : W1.heap[w.heap.size]? = some (enO a0 a1 a2 (.slice a3 a4 a5)) := by rw [← hW1]; exact heap_alloc_last w _
  obtain ⟨q, hq⟩ : ∃ q, w.heap.size = q := ⟨_, rfl⟩
  rw [hq] at hA
  have HCh := hidIn (choose_any he (hx.keep hb (Nat.le_refl _)))
  have HB := hidIn hb
  have t3 := cell_of_row _ _ 3 _ _ _ hA
  simp at t3
  have HW := hidIn hW1
  show Calls _ _ _ w fun r w' => r = .returned (.int .i64 (chN e an)) ∧ _
  obtain ⟨c0, hc0⟩ : ∃ c, chN e an = c := ⟨_, rfl⟩
  obtain ⟨c1, hc1⟩ : ∃ c, chE an = c := ⟨_, rfl⟩
  rw [hc0, hc1] at HCh
  rw [hc0]
  clear hx hb hA hW1 hc0 hc1
  go_enter Tryz.func25, Tryz.ntmps25
  go_upto_region 1 with fail
  rw [HW.out]
  clear HW hq
  go_wp2_with fail
  refine HCh.out.mono ?_
  rintro r w2 ⟨rfl, hb2⟩
  have HB2 := hidIn (HB.out.trans (hb2.mono HB.out.size))
  clear hb2 HCh
  go_wp2_with fail
  go_ret
  exact ⟨rfl, HB2.out⟩
end Go.Proofs.YtgeoghhajjlofaaGreatDoor
namespace Go.Proofs.YtgeoghhajjlofaaGreatDoor

/-- What is told of an id: its owner is the only one, and there is a way to it. -/
theorem toldW_mem {W : List Rr} {F : List (Int × List Int)} {t : Int × Rr} (h : t ∈ toldW W F) : ∃ f ∈ F, f.1 = t.1 ∧ ofW W (f.2.headD 0) = some t.2 := by
  unfold toldW at h
  obtain ⟨f, hf, h1⟩ := List.mem_filterMap.1 h
  obtain ⟨X, hX, rfl⟩ := Option.map_eq_some_iff.1 h1
  exact ⟨f, hf, rfl, hX⟩
theorem told_rise {W : List Rr} : ∀ {F : List (Int × List Int)}, (F.map (·.1)).Pairwise (· < ·) → ((toldW W F).map (·.1)).Pairwise (· < ·)
  | [], _ => List.Pairwise.nil
  | f :: F, h => by
    rw [List.map_cons, List.pairwise_cons] at h
    have ih := told_rise (W := W) h.2
    unfold toldW at ih ⊢
    rw [List.filterMap_cons]
    cases hq : (ofW W (f.2.headD 0)).map fun X => (f.1, X) with
    | none => exact ih
    | some t =>
      simp only
      rw [List.map_cons, List.pairwise_cons]
      refine ⟨fun i hi => ?_, ih⟩
      obtain ⟨y, hy, rfl⟩ := List.mem_map.1 hi
      obtain ⟨g, hg, e1, _⟩ := toldW_mem hy
      obtain ⟨X, _, rfl⟩ := Option.map_eq_some_iff.1 hq
      rw [← e1]
      exact h.1 _ (List.mem_map.2 ⟨g, hg, rfl⟩)
/-- All that is told, with its owner. -/
theorem told_all {l : List (Rc × Value)} {W : List Rr} {t : Int × Rr} (h : t ∈ toldW W (freeT (allC ((rcs l).filter fun x => (ofW W x.origin).isSome)))) :
    (1 ≤ t.1 ∧ t.1 ≤ 1024) ∧ ofW W t.2.node = some t.2 ∧ (t.1, [t.2.node]) ∈ freeT (allC ((rcs l).filter fun x => (ofW W x.origin).isSome)) := by
  obtain ⟨f, hf, e1, e2⟩ := toldW_mem h
  rw [← live_rcs] at hf
  obtain ⟨h1, h2, r, X, h3, h4⟩ := free_live hf
  rw [h3] at e2
  simp only [List.headD_cons] at e2
  have hn := ofW_node e2
  refine ⟨⟨by omega, by omega⟩, by rw [hn]; exact e2, ?_⟩
  rw [← live_rcs, ← e1, hn, ← h3]
  exact hf
/-- Neighbours on a way's first step. -/
theorem next_ok {rs : List Rc} (hu : Unl rs) {self : Int} (hs : 1 ≤ self ∧ self ≤ 24) {W : List Rr} (h : IsFrom (bothN rs) (bothE rs) self W) {X : Rr} (hX : X ∈ W) (hne : X.node ≠ self) : nxOk self X.next = true := by
  have hg := both_may hu
  obtain ⟨_, d, hd, hR⟩ := h.right X hX
  have hbd := graphOk_bd hg
  have hin : ∀ y ∈ X.next, ∃ e ∈ bothE rs, e.1 = self ∧ e.2.1 = y := fun y hy => by
    obtain ⟨e, he, h1, h2, _⟩ := (hR.nx hne y).1 hy
    exact ⟨e, he, h1, h2⟩
  have hc := isCost_of hu
  refine nxOk_ok.2 ⟨?_, fun hm => ?_, ?_, ?_⟩
  · refine upF_of (fun y hy => ?_) hR.np
    obtain ⟨e, he, _, rfl⟩ := hin y hy
    have := hbd.1 _ (hbd.2.1 e he).2
    omega
  · obtain ⟨e, he, h1, h2⟩ := hin self hm
    obtain ⟨a, b, _, _, h3, _, rfl⟩ := mem_laidE.1 he
    simp only at h1 h2
    have hab : a = b := by omega
    rcases isCost_pos hc hu a b with h4 | h4
    · omega
    · exact h4.2.2.2.2.2.2.1 hab
  · obtain ⟨hh, hw⟩ := hd.1
    rcases Nat.eq_zero_or_pos X.next.length with h0 | h0
    · exfalso
      have hnil := List.length_eq_zero_iff.1 h0
      have hp := graphOk_pos hg
      have key : ∀ c k, Wy (bothE rs) self X.node c k → ∃ e ∈ bothE rs, e.1 = self ∧ ∃ k', Wy (bothE rs) e.2.1 X.node (c - e.2.2) k' := fun c k hw => by
        have := hw (fun x c k => (x = self ∧ c = 0) ∨ ∃ e ∈ bothE rs, e.1 = self ∧ ∃ k', Wy (bothE rs) e.2.1 x (c - e.2.2) k') (.inl ⟨rfl, rfl⟩) (fun e he c k hS => by
          right
          rcases hS with h1 | ⟨f, hf, h1, k', h2⟩
          · exact ⟨e, he, h1.1, 0, by
              rw [show c + e.2.2 - e.2.2 = 0 by have := h1.2; omega]
              exact Wy.refl _ _⟩
          · exact ⟨f, hf, h1, k' + 1, by
              have := h2.step he
              rw [show c + e.2.2 - f.2.2 = c - f.2.2 + e.2.2 by omega]
              exact this⟩)
        rcases this with h1 | h1
        · exact absurd h1.1 hne
        · exact h1
      obtain ⟨e, he, h1, k', h2⟩ := key d hh hw
      have := (hR.nx hne e.2.1).2 ⟨e, he, h1, rfl, k', h2⟩
      rw [hnil] at this
      cases this
    · exact h0
  · have hrow := (rowE_len16 hu hc self.toNat).1
    have hsub := nodup_le13 (l := X.next) (m := (rowE (costL no2 rs) self.toNat (List.range 25)).map (·.2.1)) (hR.np.imp fun h e => by omega) (fun y hy => by
      obtain ⟨e, he, h1, rfl⟩ := hin y hy
      obtain ⟨a, b, ha, hb, h3, h4, rfl⟩ := mem_laidE.1 he
      simp only at h1
      have hab : self.toNat = a := by omega
      refine List.mem_map.2 ⟨((a : Int), (b : Int), costL no2 rs a b), ?_, rfl⟩
      unfold rowE
      rw [hab]
      exact List.mem_map.2 ⟨b, List.mem_filter.2 ⟨List.mem_range.2 hb, by rw [decide_eq_true h3, decide_eq_true h4]; rfl⟩, rfl⟩)
    rw [List.length_map] at hsub
    omega
theorem ent_lt {wd : Nat} {p q : Int × Rr} (hp : 1 ≤ p.1) (h : p.1 < q.1) : (entT wd p).1 < (entT wd q).1 ∨ ((entT wd p).1 = (entT wd q).1 ∧ (entT wd p).2.1 < (entT wd q).2.1) := by
  have h1 : (p.1.toNat - 1) / wd ≤ (q.1.toNat - 1) / wd := Nat.div_le_div_right (by omega)
  have h2 := Nat.div_add_mod (p.1.toNat - 1) wd
  have h3 := Nat.div_add_mod (q.1.toNat - 1) wd
  simp only [entT]
  rcases Nat.lt_or_eq_of_le h1 with h1 | h1
  · left; omega
  · right
    rw [h1] at h2
    refine ⟨by rw [h1], ?_⟩
    omega
theorem own_mem {self : Int} : ∀ (T : List (Int × Rr)) (o : Int), T.foldl (fun o p => if p.2.node = self then p.1 else o) o = o ∨ ∃ t ∈ T, t.2.node = self ∧ T.foldl (fun o p => if p.2.node = self then p.1 else o) o = t.1
  | [], o => .inl rfl
  | t :: T, o => by
    rw [List.foldl_cons]
    rcases own_mem T (if t.2.node = self then t.1 else o) with h | ⟨y, hy, h1, h2⟩
    · rw [h]
      split
      · rename_i hs; exact .inr ⟨t, by simp, hs, rfl⟩
      · exact .inl rfl
    · exact .inr ⟨y, by simp [hy], h1, h2⟩
theorem told_one_id : ∀ {T : List (Int × Rr)}, (T.map (·.1)).Pairwise (· < ·) → ∀ {t y : Int × Rr}, t ∈ T → y ∈ T → t.1 = y.1 → t = y
  | [], _, t, y, ht, _, _ => by cases ht
  | x :: T, h, t, y, ht, hy, e => by
    rw [List.map_cons, List.pairwise_cons] at h
    rcases List.mem_cons.1 ht with rfl | ht1
    · rcases List.mem_cons.1 hy with rfl | hy1
      · rfl
      · have := h.1 _ (List.mem_map.2 ⟨y, hy1, rfl⟩); omega
    · rcases List.mem_cons.1 hy with rfl | hy1
      · have := h.1 _ (List.mem_map.2 ⟨t, ht1, rfl⟩); omega
      · exact told_one_id h.2 ht1 hy1 e
/-- A table that Build answers may be. -/
theorem ents_ok {l : List (Rc × Value)} (hu : Unl (rcs l)) {self : Int} (hs : 1 ≤ self ∧ self ≤ 24) {wd : Nat} (hW : IsW wd) {W : List Rr} (h : WaysIs l self W) : TbOk self wd (oT self W (rcs l)) (eT self wd W (rcs l)) := by
  have hwp := isW_pos hW
  unfold oT eT
  have hall := fun t (ht : t ∈ toldW W (freeT (allC ((rcs l).filter fun x => (ofW W x.origin).isSome)))) => told_all ht
  have hrise : ((toldW W (freeT (allC ((rcs l).filter fun x => (ofW W x.origin).isSome)))).map (·.1)).Pairwise (· < ·) := told_rise (free_rise _)
  have hone : ∀ t ∈ toldW W (freeT (allC ((rcs l).filter fun x => (ofW W x.origin).isSome))), ∀ y ∈ toldW W (freeT (allC ((rcs l).filter fun x => (ofW W x.origin).isSome))), t.2.node = y.2.node → t.1 = y.1 := fun t ht y hy e => by
    have h1 := (hall t ht).2.2
    have h2 := (hall y hy).2.2
    rw [← e] at h2
    rw [← live_rcs] at h1 h2
    exact free_one (live_ok (both_unl.2 hu)) h1 h2
  have hnx : ∀ t ∈ toldW W (freeT (allC ((rcs l).filter fun x => (ofW W x.origin).isSome))), (1 ≤ t.2.node ∧ t.2.node ≤ 24) ∧ (t.2.node ≠ self → nxOk self t.2.next = true) := fun t ht => by
    have hm := List.mem_of_find?_eq_some (hall t ht).2.1
    rcases h with ⟨_, rfl⟩ | ⟨_, hF⟩
    · cases hm
    · exact ⟨(graphOk_bd (both_may hu)).1 _ (hF.right _ hm).1, fun hne => next_ok hu hs hF hm hne⟩
  generalize toldW W (freeT (allC ((rcs l).filter fun x => (ofW W x.origin).isSome))) = T at hall hrise hone hnx
  have hids : ∀ t ∈ T, 1 ≤ t.1 ∧ t.1 ≤ 1024 := fun t ht => (hall t ht).1
  have hmem : ∀ x ∈ entsT self wd T, ∃ t ∈ T, t.2.node ≠ self ∧ x = entT wd t := fun x hx => by
    obtain ⟨t, ht, rfl⟩ := List.mem_map.1 hx
    obtain ⟨h1, h2⟩ := List.mem_filter.1 ht
    exact ⟨t, h1, by simpa using h2, rfl⟩
  have hpw : (entsT self wd T).Pairwise (fun x y => x.1 < y.1 ∨ (x.1 = y.1 ∧ x.2.1 < y.2.1)) := by
    unfold entsT
    rw [List.pairwise_map]
    refine List.Pairwise.imp_of_mem ?_ ((List.pairwise_map.1 hrise).filter _)
    intro p q hp _ hlt
    exact ent_lt (hids p (List.mem_filter.1 hp).1).1 hlt
  refine ⟨hs, hW, ?_, ?_⟩
  · unfold ownT
    rcases own_mem (self := self) T 0 with h1 | ⟨t, ht, _, h1⟩
    · rw [h1]; omega
    · rw [h1]; have := hids t ht; omega
  · unfold esB
    rw [Bool.and_eq_true, Bool.and_eq_true, decide_eq_true_eq]
    refine ⟨?_, entsB_of (fun x hx => ?_) hpw (fun y hy => by cases hy), ?_⟩
    · have h1 : ((entsT self wd T).map (·.2.2.1)).Nodup := by
        unfold entsT
        rw [List.map_map]
        have : ((T.filter fun t => !decide (t.2.node = self)).map (·.2.node)).Nodup := by
          rw [List.Nodup, List.pairwise_map]
          refine List.Pairwise.imp_of_mem ?_ ((List.pairwise_map.1 hrise).filter _)
          intro p q hp hq hlt e
          have := hone p (List.mem_filter.1 hp).1 q (List.mem_filter.1 hq).1 e
          omega
        exact this
      have h2 := nodup_le13 (m := (List.range 24).map fun i : Nat => (i : Int) + 1) h1 (fun y hy => by
        obtain ⟨x, hx, rfl⟩ := List.mem_map.1 hy
        obtain ⟨t, ht, _, rfl⟩ := hmem x hx
        have h3 : 1 ≤ t.2.node ∧ t.2.node ≤ 24 := (hnx t ht).1
        show t.2.node ∈ _
        exact List.mem_map.2 ⟨(t.2.node - 1).toNat, List.mem_range.2 (by omega), by omega⟩)
      simpa using h2
    · obtain ⟨t, ht, hne, rfl⟩ := hmem x hx
      have h3 := hids t ht
      have h4 := (hnx t ht).1
      have h5 : (t.1.toNat - 1) / wd < 128 := Nat.div_lt_of_lt_mul (by omega)
      have h6 : (t.1.toNat - 1) % wd < wd := Nat.mod_lt _ (by omega)
      refine enB_ok.2 ⟨⟨?_, ?_⟩, ⟨?_, ?_⟩, h4, hne, (hnx t ht).2 hne⟩
      · exact Int.natCast_nonneg _
      · show (((t.1.toNat - 1) / wd : Nat) : Int) < 128; exact_mod_cast h5
      · show (1 : Int) ≤ (((t.1.toNat - 1) % wd : Nat) : Int) + 1; omega
      · show (((t.1.toNat - 1) % wd : Nat) : Int) + 1 ≤ (wd : Int); omega
    · rw [List.isEmpty_iff, List.filter_eq_nil_iff]
      intro x hx hq
      obtain ⟨t, ht, hne, rfl⟩ := hmem x hx
      have h3 := hids t ht
      simp only [atB, Bool.and_eq_true, decide_eq_true_eq] at hq
      unfold ownT at hq
      rcases own_mem (self := self) T 0 with h1 | ⟨y, hy, hys, h1⟩
      · rw [h1] at hq
        have h2 : (((t.1.toNat - 1) % wd : Nat) : Int) + 1 = 0 := hq.2
        omega
      · rw [h1] at hq
        have hyi := hids y hy
        obtain ⟨k, hk⟩ : ∃ k : Nat, y.1 = (k : Int) + 1 := ⟨(y.1 - 1).toNat, by omega⟩
        rw [hk, opS_pos.1, opS_pos.2] at hq
        have h2 : (((t.1.toNat - 1) / wd : Nat) : Int) = ((k / wd : Nat) : Int) := hq.1
        have h4 : (((t.1.toNat - 1) % wd : Nat) : Int) + 1 = ((k % wd : Nat) : Int) + 1 := hq.2
        have e1 := Nat.div_add_mod (t.1.toNat - 1) wd
        have e2 := Nat.div_add_mod k wd
        have h5 : (t.1.toNat - 1) / wd = k / wd := by omega
        have h6 : (t.1.toNat - 1) % wd = k % wd := by omega
        rw [h5, h6] at e1
        have hty : t.1 = y.1 := by omega
        have : t = y := told_one_id hrise ht hy hty
        rw [this] at hne
        exact hne hys
end Go.Proofs.YtgeoghhajjlofaaGreatDoor
namespace Go.Proofs.YtgeoghhajjlofaaGreatDoor
open Go.RowKit

abbrev entZ : Value := .agg #[.int .i64 0, .int .i64 0, .int .i64 0, .slice none 0 0]
theorem zeroEnt (w : World) : (zeroValue 46).run Tryz.prog w = .ok entZ w := by kernel_rfl
/-- The entry of a place. -/
def fdE (ok : Bool) (es : List En) (s b : Int) : Option En := if ok = true then es.find? (fun x => atB s b (toE x)) else none
def FdAns (w w' : World) (o : Option En) (e : Ending) : Prop := (o = none ∧ e = .returned (.tuple #[entZ, .bool false])) ∨
  ∃ x a c, o = some x ∧ e = .returned (.tuple #[.agg #[.int .i64 x.1.1, .int .i64 x.1.2.1, .int .i64 x.1.2.2.1, .slice a x.2.length c], .bool true]) ∧ w'.ownsRow w.heap.size 3 1 (.slice a x.2.length c) x.2.length (fl ic x.2)
theorem slAt_nil_ok {w : World} {a : Option Addr} {n c : Nat} {l : List Int} (h : SlAt ic 1 w (.slice a n c) l) (h0 : 0 < l.length) : NilOk (.slice a n c) := by
  obtain ⟨a', c', he, _, _, h1⟩ := h
  obtain ⟨bk, o, h2, _⟩ := h1 h0
  simp only [Value.slice.injEq] at he
  exact .inl ⟨_, _, _, by rw [he.1, h2]⟩
/-- What Next answers. -/
def nxN (e : Nat) (o : Option En) : Int := match o with | none => 0 | some x => chN e x.2
end Go.Proofs.YtgeoghhajjlofaaGreatDoor
namespace Go.Proofs.YtgeoghhajjlofaaGreatDoor.Bi
open Go.RowKit

theorem ix0 (x0 x1 x2 x3 : Value) (w : World) : (Instr.index 38 (.agg #[x0, x1, x2, x3]) (.int .i64 0)).run Tryz.prog w = .ok x0 w := by kernel_rfl
theorem ix1 (x0 x1 x2 x3 : Value) (w : World) : (Instr.index 38 (.agg #[x0, x1, x2, x3]) (.int .i64 1)).run Tryz.prog w = .ok x1 w := by kernel_rfl
theorem ix2 (x0 x1 x2 x3 : Value) (w : World) : (Instr.index 38 (.agg #[x0, x1, x2, x3]) (.int .i64 2)).run Tryz.prog w = .ok x2 w := by kernel_rfl
theorem ix3 (x0 x1 x2 x3 : Value) (w : World) : (Instr.index 38 (.agg #[x0, x1, x2, x3]) (.int .i64 3)).run Tryz.prog w = .ok x3 w := by kernel_rfl


set_option maxHeartbeats 400000 in
theorem and_walk (x0 x1 x2 x3 y0 y1 y2 y3 : Int) (w : World) :
    Calls Tryz.prog 9 #[.agg #[.int .u64 x0, .int .u64 x1, .int .u64 x2, .int .u64 x3], .agg #[.int .u64 y0, .int .u64 y1, .int .u64 y2, .int .u64 y3]] w fun e w' =>
      e = .returned (.agg #[.int .u64 (bits .and .u64 x0 y0), .int .u64 (bits .and .u64 x1 y1), .int .u64 (bits .and .u64 x2 y2), .int .u64 (bits .and .u64 x3 y3)]) ∧ Below w.heap.size w w' := by
  have i0 := ix0 (.int .u64 y0) (.int .u64 y1) (.int .u64 y2) (.int .u64 y3)
  have i1 := ix1 (.int .u64 y0) (.int .u64 y1) (.int .u64 y2) (.int .u64 y3)
  have i2 := ix2 (.int .u64 y0) (.int .u64 y1) (.int .u64 y2) (.int .u64 y3)
  have i3 := ix3 (.int .u64 y0) (.int .u64 y1) (.int .u64 y2) (.int .u64 y3)
  go_enter Tryz.func9, Tryz.ntmps9
  go_wp2
  go_rounds 5
  go_returns
  exact ⟨rfl, by go_grown⟩

set_option maxHeartbeats 400000 in
theorem or_walk (x0 x1 x2 x3 y0 y1 y2 y3 : Int) (w : World) :
    Calls Tryz.prog 10 #[.agg #[.int .u64 x0, .int .u64 x1, .int .u64 x2, .int .u64 x3], .agg #[.int .u64 y0, .int .u64 y1, .int .u64 y2, .int .u64 y3]] w fun e w' =>
      e = .returned (.agg #[.int .u64 (bits .or .u64 x0 y0), .int .u64 (bits .or .u64 x1 y1), .int .u64 (bits .or .u64 x2 y2), .int .u64 (bits .or .u64 x3 y3)]) ∧ Below w.heap.size w w' := by
  have i0 := ix0 (.int .u64 y0) (.int .u64 y1) (.int .u64 y2) (.int .u64 y3)
  have i1 := ix1 (.int .u64 y0) (.int .u64 y1) (.int .u64 y2) (.int .u64 y3)
  have i2 := ix2 (.int .u64 y0) (.int .u64 y1) (.int .u64 y2) (.int .u64 y3)
  have i3 := ix3 (.int .u64 y0) (.int .u64 y1) (.int .u64 y2) (.int .u64 y3)
  go_enter Tryz.func10, Tryz.ntmps10
  go_wp2
  go_rounds 5
  go_returns
  exact ⟨rfl, by go_grown⟩

set_option maxHeartbeats 400000 in
theorem andNot_walk (x0 x1 x2 x3 y0 y1 y2 y3 : Int) (w : World) :
    Calls Tryz.prog 32 #[.agg #[.int .u64 x0, .int .u64 x1, .int .u64 x2, .int .u64 x3], .agg #[.int .u64 y0, .int .u64 y1, .int .u64 y2, .int .u64 y3]] w fun e w' =>
      e = .returned (.agg #[.int .u64 (bits .andNot .u64 x0 y0), .int .u64 (bits .andNot .u64 x1 y1), .int .u64 (bits .andNot .u64 x2 y2), .int .u64 (bits .andNot .u64 x3 y3)]) ∧ Below w.heap.size w w' := by
  have i0 := ix0 (.int .u64 y0) (.int .u64 y1) (.int .u64 y2) (.int .u64 y3)
  have i1 := ix1 (.int .u64 y0) (.int .u64 y1) (.int .u64 y2) (.int .u64 y3)
  have i2 := ix2 (.int .u64 y0) (.int .u64 y1) (.int .u64 y2) (.int .u64 y3)
  have i3 := ix3 (.int .u64 y0) (.int .u64 y1) (.int .u64 y2) (.int .u64 y3)
  go_enter Tryz.func32, Tryz.ntmps32
  go_wp2
  go_rounds 5
  go_returns
  exact ⟨rfl, by go_grown⟩

end Go.Proofs.YtgeoghhajjlofaaGreatDoor.Bi
namespace Go.Proofs.YtgeoghhajjlofaaGreatDoor.Bi
open Go.RowKit

set_option maxHeartbeats 400000 in
theorem isBit_yes (n : Int) (h1 : 1 ≤ n) (h2 : n ≤ 256) (w : World) :
    Calls Tryz.prog 30 #[.int .i64 n] w fun e w' => e = .returned (.bool true) ∧ w' = w := by
  go_enter Tryz.func30, Tryz.ntmps30
  go_wp2
  go_ret
  exact ⟨rfl, rfl⟩

set_option maxHeartbeats 400000 in
theorem isBit_no (n : Int) (h : n < 1 ∨ 256 < n) (w : World) :
    Calls Tryz.prog 30 #[.int .i64 n] w fun e w' => e = .returned (.bool false) ∧ w' = w := by
  by_cases h1 : n < 1
  · go_enter Tryz.func30, Tryz.ntmps30
    go_wp2
    go_ret
    exact ⟨rfl, rfl⟩
  · have h2 : 256 < n := by omega
    have h3 : 1 ≤ n := by omega
    have h4 : decide (n ≤ 256) = false := by simp; omega
    clear h h1
    go_enter Tryz.func30, Tryz.ntmps30
    go_wp2
    go_ret
    exact ⟨rfl, rfl⟩

set_option maxHeartbeats 400000 in
theorem only_walk0 (m : Nat) (q : m / 64 = 0) (w : World) :
    Calls Tryz.prog 31 #[.int .i64 ((m : Int) + 1)] w fun e w' => e = .returned (.agg #[.int .u64 (IntKind.u64.wrap (2 ^ (m % 64))), .int .u64 0, .int .u64 0, .int .u64 0]) ∧ Below w.heap.size w w' := by
  have hb : m < 256 := by omega
  go_enter Tryz.func31, Tryz.ntmps31
  go_wp2
  go_returns
  exact ⟨rfl, by go_grown⟩

set_option maxHeartbeats 400000 in
theorem only_walk1 (m : Nat) (q : m / 64 = 1) (w : World) :
    Calls Tryz.prog 31 #[.int .i64 ((m : Int) + 1)] w fun e w' => e = .returned (.agg #[.int .u64 0, .int .u64 (IntKind.u64.wrap (2 ^ (m % 64))), .int .u64 0, .int .u64 0]) ∧ Below w.heap.size w w' := by
  have hb : m < 256 := by omega
  go_enter Tryz.func31, Tryz.ntmps31
  go_wp2
  go_returns
  exact ⟨rfl, by go_grown⟩

set_option maxHeartbeats 400000 in
theorem only_walk2 (m : Nat) (q : m / 64 = 2) (w : World) :
    Calls Tryz.prog 31 #[.int .i64 ((m : Int) + 1)] w fun e w' => e = .returned (.agg #[.int .u64 0, .int .u64 0, .int .u64 (IntKind.u64.wrap (2 ^ (m % 64))), .int .u64 0]) ∧ Below w.heap.size w w' := by
  have hb : m < 256 := by omega
  go_enter Tryz.func31, Tryz.ntmps31
  go_wp2
  go_returns
  exact ⟨rfl, by go_grown⟩

set_option maxHeartbeats 400000 in
theorem only_walk3 (m : Nat) (q : m / 64 = 3) (w : World) :
    Calls Tryz.prog 31 #[.int .i64 ((m : Int) + 1)] w fun e w' => e = .returned (.agg #[.int .u64 0, .int .u64 0, .int .u64 0, .int .u64 (IntKind.u64.wrap (2 ^ (m % 64)))]) ∧ Below w.heap.size w w' := by
  have hb : m < 256 := by omega
  go_enter Tryz.func31, Tryz.ntmps31
  go_wp2
  go_returns
  exact ⟨rfl, by go_grown⟩

end Go.Proofs.YtgeoghhajjlofaaGreatDoor.Bi
namespace Go.Proofs.YtgeoghhajjlofaaGreatDoor.Bi
open Go

/-- The word i of a number. -/
def wd (N i : Nat) : Nat := N / 2 ^ (64 * i) % 2 ^ 64
/-- The number of four words. -/
def ofw (a b c d : Nat) : Nat := a + 2 ^ 64 * b + 2 ^ 128 * c + 2 ^ 192 * d
/-- N without M's bits. -/
def wo (N M : Nat) : Nat := N ^^^ (N &&& M)

theorem wd_lt (N i : Nat) : wd N i < 18446744073709551616 := by
  unfold wd; exact Nat.mod_lt _ (by decide)
theorem testBit_wd (N i j : Nat) : (wd N i).testBit j = (decide (j < 64) && N.testBit (64 * i + j)) := by
  unfold wd; rw [Nat.testBit_mod_two_pow, Nat.testBit_div_two_pow, Nat.add_comm]
theorem testBit_wo (N M j : Nat) : (wo N M).testBit j = (N.testBit j && !M.testBit j) := by
  unfold wo; rw [Nat.testBit_xor, Nat.testBit_and]; cases N.testBit j <;> cases M.testBit j <;> rfl
theorem wd_and (N M i : Nat) : wd (N &&& M) i = wd N i &&& wd M i := by
  apply Nat.eq_of_testBit_eq; intro j
  rw [testBit_wd, Nat.testBit_and, Nat.testBit_and, testBit_wd, testBit_wd]
  cases decide (j < 64) <;> simp
theorem wd_or (N M i : Nat) : wd (N ||| M) i = wd N i ||| wd M i := by
  apply Nat.eq_of_testBit_eq; intro j
  rw [testBit_wd, Nat.testBit_or, Nat.testBit_or, testBit_wd, testBit_wd]
  cases decide (j < 64) <;> simp
theorem wd_wo (N M i : Nat) : wd (wo N M) i = wd N i &&& (18446744073709551615 - wd M i) := by
  apply Nat.eq_of_testBit_eq; intro j
  have e : 18446744073709551615 - wd M i = 2 ^ 64 - (wd M i + 1) := by have := wd_lt M i; omega
  rw [testBit_wd, testBit_wo, Nat.testBit_and, testBit_wd, e, Nat.testBit_two_pow_sub_succ (wd_lt M i), testBit_wd]
  cases decide (j < 64) <;> simp
theorem wd_ofw0 (a b c d : Nat) (ha : a < 18446744073709551616) : wd (ofw a b c d) 0 = a := by unfold wd ofw; omega
theorem wd_ofw1 (a b c d : Nat) (ha : a < 18446744073709551616) (hb : b < 18446744073709551616) : wd (ofw a b c d) 1 = b := by unfold wd ofw; omega
theorem wd_ofw2 (a b c d : Nat) (ha : a < 18446744073709551616) (hb : b < 18446744073709551616) (hc : c < 18446744073709551616) : wd (ofw a b c d) 2 = c := by unfold wd ofw; omega
theorem wd_ofw3 (a b c d : Nat) (ha : a < 18446744073709551616) (hb : b < 18446744073709551616) (hc : c < 18446744073709551616) (hd : d < 18446744073709551616) : wd (ofw a b c d) 3 = d := by unfold wd ofw; omega
theorem ofw_lt (a b c d : Nat) (ha : a < 18446744073709551616) (hb : b < 18446744073709551616) (hc : c < 18446744073709551616) (hd : d < 18446744073709551616) : ofw a b c d < 2 ^ 256 := by unfold ofw; omega

theorem ext_bits {N M : Nat} (hN : N < 2 ^ 256) (hM : M < 2 ^ 256) (h : ∀ j, j < 256 → N.testBit j = M.testBit j) : N = M := by
  apply Nat.eq_of_testBit_eq; intro j
  by_cases hj : j < 256
  · exact h j hj
  · have h1 : N < 2 ^ j := Nat.lt_of_lt_of_le hN (Nat.pow_le_pow_right (by decide) (by omega))
    have h2 : M < 2 ^ j := Nat.lt_of_lt_of_le hM (Nat.pow_le_pow_right (by decide) (by omega))
    rw [Nat.testBit_lt_two_pow h1, Nat.testBit_lt_two_pow h2]
theorem testBit_of_wd (N j : Nat) : N.testBit j = (wd N (j / 64)).testBit (j % 64) := by
  have h : 64 * (j / 64) + j % 64 = j := by omega
  rw [testBit_wd, h]; simp [Nat.mod_lt]
theorem ext_wd {N M : Nat} (hN : N < 2 ^ 256) (hM : M < 2 ^ 256) (h0 : wd N 0 = wd M 0) (h1 : wd N 1 = wd M 1) (h2 : wd N 2 = wd M 2) (h3 : wd N 3 = wd M 3) : N = M := by
  apply ext_bits hN hM; intro j hj
  rw [testBit_of_wd N, testBit_of_wd M]
  have hc : j / 64 = 0 ∨ j / 64 = 1 ∨ j / 64 = 2 ∨ j / 64 = 3 := by omega
  rcases hc with e | e | e | e <;> rw [e] <;> simp [*]
theorem wd_zero (i : Nat) : wd 0 i = 0 := by unfold wd; simp
theorem and_lt {N M : Nat} (hN : N < 2 ^ 256) : N &&& M < 2 ^ 256 := Nat.lt_of_le_of_lt Nat.and_le_left hN
theorem or_lt {N M : Nat} (hN : N < 2 ^ 256) (hM : M < 2 ^ 256) : N ||| M < 2 ^ 256 := Nat.or_lt_two_pow hN hM
theorem wo_lt {N M : Nat} (hN : N < 2 ^ 256) : wo N M < 2 ^ 256 := by
  unfold wo; exact Nat.xor_lt_two_pow hN (and_lt hN)

/-- The model's words. -/
theorem bits_and (N M i : Nat) : bits .and .u64 (wd N i : Int) (wd M i : Int) = (wd (N &&& M) i : Int) := by
  rw [u64_and_nat _ _ (wd_lt N i) (wd_lt M i), wd_and]
theorem bits_or (N M i : Nat) : bits .or .u64 (wd N i : Int) (wd M i : Int) = (wd (N ||| M) i : Int) := by
  rw [u64_or_nat _ _ (wd_lt N i) (wd_lt M i), wd_or]
theorem bits_wo (N M i : Nat) : bits .andNot .u64 (wd N i : Int) (wd M i : Int) = (wd (wo N M) i : Int) := by
  rw [u64_andNot_nat _ _ (wd_lt N i) (wd_lt M i), wd_wo]

/-- The number with the one bit m. -/
theorem wrap_pow (m : Nat) : IntKind.u64.wrap ((2 : Int) ^ (m % 64)) = (2 ^ (m % 64) : Nat) := by
  have h : 2 ^ (m % 64) < 2 ^ 64 := Nat.pow_lt_pow_right (by decide) (Nat.mod_lt _ (by decide))
  rw [IntKind.wrap_u64, show ((2 : Int) ^ (m % 64)) = ((2 ^ (m % 64) : Nat) : Int) from by simp]
  generalize 2 ^ (m % 64) = x at h
  omega
theorem wd_pow (m i : Nat) : wd (2 ^ m) i = if m / 64 = i then 2 ^ (m % 64) else 0 := by
  apply Nat.eq_of_testBit_eq; intro j
  rw [testBit_wd, Nat.testBit_two_pow]
  by_cases h : m / 64 = i
  · rw [if_pos h, Nat.testBit_two_pow]
    by_cases hj : j < 64
    · have : (m = 64 * i + j) ↔ (m % 64 = j) := by omega
      simp [hj, this]
    · have : ¬ (m % 64 = j) := by omega
      simp [hj, this]
  · rw [if_neg h]
    by_cases hj : j < 64
    · have : ¬ (m = 64 * i + j) := by omega
      simp [this]
    · simp [hj]
theorem pow_lt {m : Nat} (h : m < 256) : 2 ^ m < 2 ^ 256 := Nat.pow_lt_pow_right (by decide) h
end Go.Proofs.YtgeoghhajjlofaaGreatDoor.Bi
namespace Go.Proofs.YtgeoghhajjlofaaGreatDoor.Bi
open Go.RowKit

/-- A bit string as a value. -/
abbrev bs (N : Nat) : Value := .agg #[.int .u64 (wd N 0), .int .u64 (wd N 1), .int .u64 (wd N 2), .int .u64 (wd N 3)]

theorem and_any (N M : Nat) (w : World) : Calls Tryz.prog 9 #[bs N, bs M] w fun e w' => e = .returned (bs (N &&& M)) ∧ Below w.heap.size w w' := by
  refine (and_walk _ _ _ _ _ _ _ _ w).mono ?_
  rintro e w' ⟨rfl, hb⟩
  refine ⟨?_, hb⟩
  simp only [bs, bits_and]
theorem or_any (N M : Nat) (w : World) : Calls Tryz.prog 10 #[bs N, bs M] w fun e w' => e = .returned (bs (N ||| M)) ∧ Below w.heap.size w w' := by
  refine (or_walk _ _ _ _ _ _ _ _ w).mono ?_
  rintro e w' ⟨rfl, hb⟩
  refine ⟨?_, hb⟩
  simp only [bs, bits_or]
theorem wo_any (N M : Nat) (w : World) : Calls Tryz.prog 32 #[bs N, bs M] w fun e w' => e = .returned (bs (wo N M)) ∧ Below w.heap.size w w' := by
  refine (andNot_walk _ _ _ _ _ _ _ _ w).mono ?_
  rintro e w' ⟨rfl, hb⟩
  refine ⟨?_, hb⟩
  simp only [bs, bits_wo]
theorem only_any (m : Nat) (h : m < 256) (w : World) : Calls Tryz.prog 31 #[.int .i64 ((m : Int) + 1)] w fun e w' => e = .returned (bs (2 ^ m)) ∧ Below w.heap.size w w' := by
  have hc : m / 64 = 0 ∨ m / 64 = 1 ∨ m / 64 = 2 ∨ m / 64 = 3 := by omega
  rcases hc with q | q | q | q
  · refine (only_walk0 m q w).mono ?_
    rintro e w' ⟨rfl, hb⟩
    refine ⟨?_, hb⟩
    simp [bs, wd_pow, q, wrap_pow]
  · refine (only_walk1 m q w).mono ?_
    rintro e w' ⟨rfl, hb⟩
    refine ⟨?_, hb⟩
    simp [bs, wd_pow, q, wrap_pow]
  · refine (only_walk2 m q w).mono ?_
    rintro e w' ⟨rfl, hb⟩
    refine ⟨?_, hb⟩
    simp [bs, wd_pow, q, wrap_pow]
  · refine (only_walk3 m q w).mono ?_
    rintro e w' ⟨rfl, hb⟩
    refine ⟨?_, hb⟩
    simp [bs, wd_pow, q, wrap_pow]
end Go.Proofs.YtgeoghhajjlofaaGreatDoor.Bi
namespace Go.Proofs.YtgeoghhajjlofaaGreatDoor.Bi
open Go.RowKit

/-- The block b holds N's four words, and may be written. -/
structure HasBs (W : World) (b N : Nat) : Prop where
  c0 : W.cell? ⟨b, 0, none⟩ = some (.int .u64 (wd N 0))
  c1 : W.cell? ⟨b, 1, none⟩ = some (.int .u64 (wd N 1))
  c2 : W.cell? ⟨b, 2, none⟩ = some (.int .u64 (wd N 2))
  c3 : W.cell? ⟨b, 3, none⟩ = some (.int .u64 (wd N 3))
  f0 : W.frozen? ⟨b, 0, none⟩ = false
  f1 : W.frozen? ⟨b, 1, none⟩ = false
  f2 : W.frozen? ⟨b, 2, none⟩ = false
  f3 : W.frozen? ⟨b, 3, none⟩ = false
  lt : b < W.heap.size

theorem HasBs.keep {W W' : World} {b N B : Nat} (h : HasBs W b N) (hb : Below B W W') (hB : b < B) : HasBs W' b N :=
  ⟨(hb.cell (p := ⟨b, 0, none⟩) hB).trans h.c0, (hb.cell (p := ⟨b, 1, none⟩) hB).trans h.c1, (hb.cell (p := ⟨b, 2, none⟩) hB).trans h.c2, (hb.cell (p := ⟨b, 3, none⟩) hB).trans h.c3,
    (hb.frozen (p := ⟨b, 0, none⟩) hB).trans h.f0, (hb.frozen (p := ⟨b, 1, none⟩) hB).trans h.f1, (hb.frozen (p := ⟨b, 2, none⟩) hB).trans h.f2, (hb.frozen (p := ⟨b, 3, none⟩) hB).trans h.f3, Nat.lt_of_lt_of_le h.lt hb.size⟩

/-- The four stores of a whole bit string. -/
abbrev World.putBs (W : World) (b N : Nat) : World :=
  (((W.setCell ⟨b, 0, none⟩ (.int .u64 (wd N 0))).setCell ⟨b, 1, none⟩ (.int .u64 (wd N 1))).setCell ⟨b, 2, none⟩ (.int .u64 (wd N 2))).setCell ⟨b, 3, none⟩ (.int .u64 (wd N 3))

theorem HasBs.put {W : World} {b M : Nat} (h : HasBs W b M) (N : Nat) : HasBs (World.putBs W b N) b N := by
  obtain ⟨c0, c1, c2, c3, f0, f1, f2, f3, lt⟩ := h
  refine ⟨?_, ?_, ?_, ?_, ?_, ?_, ?_, ?_, ?_⟩
  all_goals simp [*, go_sem]
theorem below_put {B b N : Nat} {W0 W : World} (h : Below B W0 W) (hB : B ≤ b) : Below B W0 (World.putBs W b N) :=
  (((h.setCell (p := ⟨b, 0, none⟩) hB _).setCell (p := ⟨b, 1, none⟩) hB _).setCell (p := ⟨b, 2, none⟩) hB _).setCell (p := ⟨b, 3, none⟩) hB _
theorem hasBs_new (W : World) (N : Nat) : HasBs (W.alloc (.cells #[.int .u64 (wd N 0), .int .u64 (wd N 1), .int .u64 (wd N 2), .int .u64 (wd N 3)] 38)) W.heap.size N := by
  refine ⟨?_, ?_, ?_, ?_, ?_, ?_, ?_, ?_, ?_⟩
  all_goals simp [go_sem]

/-- What stands while a statement that reads the block b goes on: its words, and all that lay below b. -/
abbrev Held (W0 : World) (b X : Nat) (w : World) : Prop :=
  w.cell? ⟨b, 0, none⟩ = some (.int .u64 (wd X 0)) ∧ w.cell? ⟨b, 1, none⟩ = some (.int .u64 (wd X 1)) ∧ w.cell? ⟨b, 2, none⟩ = some (.int .u64 (wd X 2)) ∧ w.cell? ⟨b, 3, none⟩ = some (.int .u64 (wd X 3)) ∧
  w.frozen? ⟨b, 0, none⟩ = false ∧ w.frozen? ⟨b, 1, none⟩ = false ∧ w.frozen? ⟨b, 2, none⟩ = false ∧ w.frozen? ⟨b, 3, none⟩ = false ∧ b < w.heap.size ∧ Below b W0 w
theorem Held.of {W0 W : World} {b X : Nat} (h : HasBs W b X) (hb : Below b W0 W) : Held W0 b X W := ⟨h.c0, h.c1, h.c2, h.c3, h.f0, h.f1, h.f2, h.f3, h.lt, hb⟩
theorem Held.has {W0 W : World} {b X : Nat} (h : Held W0 b X W) : HasBs W b X ∧ Below b W0 W := by
  obtain ⟨c0, c1, c2, c3, f0, f1, f2, f3, lt, hb⟩ := h
  exact ⟨⟨c0, c1, c2, c3, f0, f1, f2, f3, lt⟩, hb⟩
theorem Held.keep {W0 W W' : World} {b X : Nat} (h : Held W0 b X W) (hb : Below W.heap.size W W') : Held W0 b X W' := by
  obtain ⟨h1, h2⟩ := h.has
  exact Held.of (h1.keep hb h1.lt) (h2.trans (hb.mono (Nat.le_of_lt h1.lt)))
theorem Held.drew {W0 W : World} {b X : Nat} (h : Held W0 b X W) : Held W0 b X W.drew := h.keep (Below.refl _ W).drew

theorem hidIn {p : Prop} (h : p) : Hid p := h

/-- The number of a list of bits. -/
def ofl (zs : List Int) : Nat := zs.foldl (fun a z => a ||| 2 ^ (z - 1).toNat) 0
/-- Are all bits? -/
def allBits (zs : List Int) : Prop := ∀ z ∈ zs, 1 ≤ z ∧ z ≤ 256
theorem ofl_snoc (zs : List Int) (z : Int) : ofl (zs ++ [z]) = ofl zs ||| 2 ^ (z - 1).toNat := by simp [ofl]

end Go.Proofs.YtgeoghhajjlofaaGreatDoor.Bi
namespace Go.Proofs.YtgeoghhajjlofaaGreatDoor.Bi
open Go.RowKit
theorem infoU : (Tryz.prog.info? 36).map (·.size) = some 1 := by kernel_rfl
theorem cellsU : Tryz.prog.cellsOf 36 = 1 := by kernel_rfl
theorem partU0 (x0 x1 x2 x3 : Value) (w : World) : (part 36 #[x0, x1, x2, x3] (0 * 1)).run Tryz.prog w = .ok x0 w := by kernel_rfl
theorem partU1 (x0 x1 x2 x3 : Value) (w : World) : (part 36 #[x0, x1, x2, x3] (1 * 1)).run Tryz.prog w = .ok x1 w := by kernel_rfl
theorem partU2 (x0 x1 x2 x3 : Value) (w : World) : (part 36 #[x0, x1, x2, x3] (2 * 1)).run Tryz.prog w = .ok x2 w := by kernel_rfl
theorem partU3 (x0 x1 x2 x3 : Value) (w : World) : (part 36 #[x0, x1, x2, x3] (3 * 1)).run Tryz.prog w = .ok x3 w := by kernel_rfl
theorem range4 : List.range 4 = [0, 1, 2, 3] := rfl
theorem eqInt (x y : Int) (w : World) : (Op.equalIn 9999 36 (.int .u64 x) (.int .u64 y)).run Tryz.prog w = .ok (x == y) w := run_equalIn_int w 9998 _ _ _ x y Tryz.underlying36

/-- '==' of two bit strings, as the model reckons it. -/
theorem eq_bits (x0 x1 x2 x3 y0 y1 y2 y3 : Int) (w : World) :
   (Op.equalIn 10000 38 (.agg #[.int .u64 x0, .int .u64 x1, .int .u64 x2, .int .u64 x3]) (.agg #[.int .u64 y0, .int .u64 y1, .int .u64 y2, .int .u64 y3])).run Tryz.prog w = Result.ok (x0 == y0 && (x1 == y1 && (x2 == y2 && x3 == y3))) w := by
  obtain ⟨i, hi⟩ : ∃ i, Tryz.prog.info? 36 = some i := by
    have := infoU
    cases h : Tryz.prog.info? 36 with
    | none => rw [h] at this; cases this
    | some i => exact ⟨i, rfl⟩
  rw [run_equalIn_array w 9999 _ _ Tryz.underlying38 hi, cellsU, range4]
  simp only [Op.eqItems, Sem.run_bind, Sem.run_ite, Sem.run_pure, partU0, partU1, partU2, partU3, Result.andThen_ok, eqInt]
  cases x0 == y0 <;> cases x1 == y1 <;> cases x2 == y2 <;> cases x3 == y3 <;> rfl
/-- Of two numbers' bit strings. -/
theorem eq_bs (N M : Nat) (hN : N < 2 ^ 256) (hM : M < 2 ^ 256) (w : World) : (Op.equalIn 10000 38 (bs N) (bs M)).run Tryz.prog w = Result.ok (N == M) w := by
  rw [eq_bits]
  congr 1
  rw [Bool.eq_iff_iff]
  simp only [Bool.and_eq_true, beq_iff_eq]
  constructor
  · rintro ⟨h0, h1, h2, h3⟩
    exact ext_wd hN hM (by omega) (by omega) (by omega) (by omega)
  · rintro rfl
    exact ⟨rfl, rfl, rfl, rfl⟩
theorem eq_zero (N : Nat) (hN : N < 2 ^ 256) (w : World) : (Op.equalIn 10000 38 (bs N) (.agg #[.int .u64 0, .int .u64 0, .int .u64 0, .int .u64 0])).run Tryz.prog w = Result.ok (N == 0) w := by
  have := eq_bs N 0 hN (by decide) w
  simp only [bs, wd_zero] at this ⊢
  exact this
end Go.Proofs.YtgeoghhajjlofaaGreatDoor.Bi
namespace Go.Proofs.YtgeoghhajjlofaaGreatDoor.Bi
open Go.RowKit

theorem and_pow (N m : Nat) : (N &&& 2 ^ m = 0) = (N.testBit m = false) := by
  apply propext
  constructor
  · intro h
    have := congrArg (fun x => x.testBit m) h
    simpa [Nat.testBit_and, Nat.testBit_two_pow] using this
  · intro h
    apply Nat.eq_of_testBit_eq
    intro j
    rw [Nat.testBit_and, Nat.testBit_two_pow]
    by_cases e : m = j
    · subst e; simp [h]
    · simp [e]

set_option maxHeartbeats 400000 in
theorem has_no (N : Nat) (n : Int) (h : n < 1 ∨ 256 < n) (w : World) :
    Calls Tryz.prog 11 #[bs N, .int .i64 n] w fun e w' => e = .returned (.bool false) ∧ Below w.heap.size w w' := by
  unfold bs
  go_enter Tryz.func11, Tryz.ntmps11
  go_wp2
  generalize hV : w.alloc _ = V
  have bV : Below w.heap.size w V := by rw [← hV]; go_grown
  have nV : HasBs V w.heap.size N := by rw [← hV]; exact hasBs_new w N
  clear hV
  have k0 := cell_regrown nV.c0
  have k1 := cell_regrown nV.c1
  have k2 := cell_regrown nV.c2
  have k3 := cell_regrown nV.c3
  refine wp_region_quiet_below (by kernel_rfl) (by kernel_rfl) ?_
  repeat (go_big_quiet_step (first
    | (go_at_call 30; exact Calls.regrown_of ((isBit_no n h _).mono (fun e w' he => ⟨he.1, by rw [he.2]; exact Below.refl _ _⟩)))))
  refine wpQuiet_nil ?_
  intro _ hw'
  obtain ⟨⟨dq, osq⟩, hw''⟩ := hw'
  subst hw''
  go_wp2
  go_ret
  exact ⟨rfl, bV.trans ((below_regrown V dq osq).mono bV.size)⟩
set_option maxRecDepth 100000 in
set_option maxHeartbeats 400000 in
theorem has_yes (N : Nat) (hN : N < 2 ^ 256) (m : Nat) (hm : m < 256) (w : World) :
    Calls Tryz.prog 11 #[bs N, .int .i64 ((m : Int) + 1)] w fun e w' => e = .returned (.bool (N.testBit m)) ∧ Below w.heap.size w w' := by
  have hq : ∀ w : World, (Op.equalIn 10000 38 (.agg #[.int .u64 (wd (N &&& 2 ^ m) 0), .int .u64 (wd (N &&& 2 ^ m) 1), .int .u64 (wd (N &&& 2 ^ m) 2), .int .u64 (wd (N &&& 2 ^ m) 3)]) (.agg #[.int .u64 0, .int .u64 0, .int .u64 0, .int .u64 0])).run Tryz.prog w = Result.ok (!N.testBit m) w := fun w => by
    have := eq_zero (N &&& 2 ^ m) (and_lt hN) w
    simp only [bs] at this
    rw [this, show (N &&& 2 ^ m == 0) = !N.testBit m from by rw [Bool.eq_iff_iff]; simp [and_pow]]
  unfold bs
  go_enter Tryz.func11, Tryz.ntmps11
  go_wp2
  generalize hV : w.alloc _ = V
  have bV : Below w.heap.size w V := by rw [← hV]; go_grown
  have nV : HasBs V w.heap.size N := by rw [← hV]; exact hasBs_new w N
  clear hV
  have k0 := cell_regrown nV.c0
  have k1 := cell_regrown nV.c1
  have k2 := cell_regrown nV.c2
  have k3 := cell_regrown nV.c3
  refine wp_region_quiet_below (by kernel_rfl) (by kernel_rfl) ?_
  repeat (go_big_quiet_step (first
    | (go_at_call 30; exact Calls.regrown_of ((isBit_yes ((m : Int) + 1) (by omega) (by omega) _).mono (fun e w' he => ⟨he.1, by rw [he.2]; exact Below.refl _ _⟩)))
    | (go_at_call 31; exact Calls.regrown_of (only_any m hm _))
    | (go_at_call 9; exact Calls.regrown_of (and_any N (2 ^ m) _))))
  refine wpQuiet_nil ?_
  intro _ hw'
  obtain ⟨⟨dq, osq⟩, hw''⟩ := hw'
  subst hw''
  go_wp2
  go_ret
  exact ⟨by simp, bV.trans ((below_regrown V dq osq).mono bV.size)⟩

set_option maxHeartbeats 400000 in
theorem with_no (N : Nat) (n : Int) (h : n < 1 ∨ 256 < n) (w : World) :
    Calls Tryz.prog 29 #[bs N, .int .i64 n] w fun e w' => e = .returned (.tuple #[bs 0, .int .i64 2]) ∧ Below w.heap.size w w' := by
  have H := hidIn h
  clear h
  unfold bs
  go_enter Tryz.func29, Tryz.ntmps29
  go_wp2_with (go_at_call 30; refine (isBit_no _ H.out _).mono ?_; rintro e w1 ⟨rfl, rfl⟩)
  go_returns
  exact ⟨by simp only [wd_zero]; rfl, by go_grown⟩
set_option maxHeartbeats 400000 in
theorem without_no (N : Nat) (n : Int) (h : n < 1 ∨ 256 < n) (w : World) :
    Calls Tryz.prog 12 #[bs N, .int .i64 n] w fun e w' => e = .returned (.tuple #[bs 0, .int .i64 2]) ∧ Below w.heap.size w w' := by
  have H := hidIn h
  clear h
  unfold bs
  go_enter Tryz.func12, Tryz.ntmps12
  go_wp2_with (go_at_call 30; refine (isBit_no _ H.out _).mono ?_; rintro e w1 ⟨rfl, rfl⟩)
  go_returns
  exact ⟨by simp only [wd_zero]; rfl, by go_grown⟩
theorem HasBs.grow {W : World} {b N : Nat} (h : HasBs W b N) (o : Obj) : HasBs (W.alloc o) b N := h.keep (Below.alloc (Below.refl _ W) (Nat.le_refl _) o) h.lt
set_option maxRecDepth 100000 in
set_option maxHeartbeats 1000000 in
theorem with_yes (N m : Nat) (hm : m < 256) (w : World) :
    Calls Tryz.prog 29 #[bs N, .int .i64 ((m : Int) + 1)] w fun e w' => e = .returned (.tuple #[bs (N ||| 2 ^ m), .int .i64 0]) ∧ Below w.heap.size w w' := by
  unfold bs
  go_enter Tryz.func29, Tryz.ntmps29
  go_wp2_with (go_at_call 30; refine (isBit_yes _ (by omega) (by omega) _).mono ?_; rintro e w1 ⟨rfl, rfl⟩)
  have rV := hasBs_new (w.alloc (.cells #[.int .u64 (wd N 0), .int .u64 (wd N 1), .int .u64 (wd N 2), .int .u64 (wd N 3)] 38)) 0
  have nV := HasBs.grow (hasBs_new w N) (.cells #[.int .u64 0, .int .u64 0, .int .u64 0, .int .u64 0] 38)
  have bV : Below w.heap.size w ((w.alloc (.cells #[.int .u64 (wd N 0), .int .u64 (wd N 1), .int .u64 (wd N 2), .int .u64 (wd N 3)] 38)).alloc (.cells #[.int .u64 0, .int .u64 0, .int .u64 0, .int .u64 0] 38)) := by go_grown
  simp only [World.size_alloc, wd_zero] at rV nV
  have rV' : HasBs ((w.alloc (.cells #[.int .u64 (wd N 0), .int .u64 (wd N 1), .int .u64 (wd N 2), .int .u64 (wd N 3)] 38)).alloc (.cells #[.int .u64 0, .int .u64 0, .int .u64 0, .int .u64 0] 38)) (w.heap.size + 1) 0 := by simpa [wd_zero] using rV
  clear rV
  generalize (w.alloc _).alloc _ = V at rV' nV bV ⊢
  have NV := hidIn nV
  have RV := hidIn rV'
  obtain ⟨c0, c1, c2, c3, _, _, _, _, _⟩ := nV
  clear rV'
  go_region_with (first | (go_at_call 31; refine (only_any m hm _).mono ?_; rintro e w1 ⟨rfl, hb1⟩; have HG := hidIn (Below.trans (Below.refl _ V).drew hb1); obtain ⟨c0', c1', c2', c3', _, _, _, _, _⟩ := NV.out.keep HG.out NV.out.lt) | (go_at_call 10; refine (or_any _ _ _).mono ?_; rintro e w2 ⟨rfl, hb2⟩; have HG2 := hidIn (Below.trans HG.out (hb2.mono HG.out.size)); have HR2 := hidIn (RV.out.keep HG2.out RV.out.lt); obtain ⟨d0, d1, d2, d3, g0, g1, g2, g3, _⟩ := HR2.out))
  all_goals
    go_wp2
    refine bodyPost_ret (v := .tuple #[bs (N ||| 2 ^ m), .int .i64 0]) (by simp [results, Tryz.results29, go_sem, d0, d1, d2, d3]) rfl ⟨rfl, ?_⟩
    exact below_put (bV.trans (HG2.out.mono bV.size)) (Nat.le_succ _)
set_option maxRecDepth 100000 in
set_option maxHeartbeats 1000000 in
theorem without_yes (N m : Nat) (hm : m < 256) (w : World) :
    Calls Tryz.prog 12 #[bs N, .int .i64 ((m : Int) + 1)] w fun e w' => e = .returned (.tuple #[bs (wo N (2 ^ m)), .int .i64 0]) ∧ Below w.heap.size w w' := by
  unfold bs
  go_enter Tryz.func12, Tryz.ntmps12
  go_wp2_with (go_at_call 30; refine (isBit_yes _ (by omega) (by omega) _).mono ?_; rintro e w1 ⟨rfl, rfl⟩)
  have rV := hasBs_new (w.alloc (.cells #[.int .u64 (wd N 0), .int .u64 (wd N 1), .int .u64 (wd N 2), .int .u64 (wd N 3)] 38)) 0
  have nV := HasBs.grow (hasBs_new w N) (.cells #[.int .u64 0, .int .u64 0, .int .u64 0, .int .u64 0] 38)
  have bV : Below w.heap.size w ((w.alloc (.cells #[.int .u64 (wd N 0), .int .u64 (wd N 1), .int .u64 (wd N 2), .int .u64 (wd N 3)] 38)).alloc (.cells #[.int .u64 0, .int .u64 0, .int .u64 0, .int .u64 0] 38)) := by go_grown
  simp only [World.size_alloc, wd_zero] at rV nV
  have rV' : HasBs ((w.alloc (.cells #[.int .u64 (wd N 0), .int .u64 (wd N 1), .int .u64 (wd N 2), .int .u64 (wd N 3)] 38)).alloc (.cells #[.int .u64 0, .int .u64 0, .int .u64 0, .int .u64 0] 38)) (w.heap.size + 1) 0 := by simpa [wd_zero] using rV
  clear rV
  generalize (w.alloc _).alloc _ = V at rV' nV bV ⊢
  have NV := hidIn nV
  have RV := hidIn rV'
  obtain ⟨c0, c1, c2, c3, _, _, _, _, _⟩ := nV
  clear rV'
  go_region_with (first | (go_at_call 31; refine (only_any m hm _).mono ?_; rintro e w1 ⟨rfl, hb1⟩; have HG := hidIn (Below.trans (Below.refl _ V).drew hb1); obtain ⟨c0', c1', c2', c3', _, _, _, _, _⟩ := NV.out.keep HG.out NV.out.lt) | (go_at_call 32; refine (wo_any _ _ _).mono ?_; rintro e w2 ⟨rfl, hb2⟩; have HG2 := hidIn (Below.trans HG.out (hb2.mono HG.out.size)); have HR2 := hidIn (RV.out.keep HG2.out RV.out.lt); obtain ⟨d0, d1, d2, d3, g0, g1, g2, g3, _⟩ := HR2.out))
  all_goals
    go_wp2
    refine bodyPost_ret (v := .tuple #[bs (wo N (2 ^ m)), .int .i64 0]) (by simp [results, Tryz.results12, go_sem, d0, d1, d2, d3]) rfl ⟨rfl, ?_⟩
    exact below_put (bV.trans (HG2.out.mono bV.size)) (Nat.le_succ _)
end Go.Proofs.YtgeoghhajjlofaaGreatDoor.Bi
