/- The law's small records, works. -/
import Derived.Test.YtpdpdhnllmlfdaaNP
namespace Go.Proofs.Ytpdpdhnllmlfdaa
open Go.RowKit Go.Maps

abbrev Te : Type := Int × Int × Int × Int
abbrev te4 (x : Te) : List Value := [.int .u8 x.1, .int .u8 x.2.1, .int .u8 x.2.2.1, .int .u8 x.2.2.2]
def TeB (L : List Te) : Prop := ∀ x ∈ L, (0 ≤ x.1 ∧ x.1 ≤ 255) ∧ (0 ≤ x.2.1 ∧ x.2.1 ≤ 255) ∧ (0 ≤ x.2.2.1 ∧ x.2.2.1 ≤ 255) ∧ 0 ≤ x.2.2.2 ∧ x.2.2.2 ≤ 255
def tellR (x : Te) : Rc := ⟨1 + x.1 % 24, 1 + x.2.1 % 4, 1 + x.2.2.1 % 4, x.2.2.2, false, []⟩
def smR (o e s : Int) : Rc := ⟨o, e, s, 0, false, []⟩
theorem nilAdj (w : World) : SlAt ac 2 w (.slice none 0 0) [] := ⟨none, 0, rfl, by simp, by simp, fun h => by simp at h⟩
set_option maxRecDepth 100000 in
theorem small_any (o e s : Int) (w : World) : Calls Try.prog 42 #[.int .i64 o, .int .u32 e, .int .u32 s] w fun x w' => x = .returned (recV (smR o e s) (.slice none 0 0)) ∧ Below w.heap.size w w' := by
  go_enter Try.func42, Try.ntmps42
  go_wp2_with fail
  exact bodyPost_ret (v := recV (smR o e s) (.slice none 0 0)) (by simp [results, Try.results42, asAddr, Result.andThen, go_sem, smR]) rfl ⟨rfl, by go_grown⟩
theorem tellR_ok {x : Te} (hD : 0 ≤ x.2.2.2 ∧ x.2.2.2 ≤ 255) : recOk (tellR x) = true := by
  obtain ⟨a, b, c, d⟩ := x
  have h1 : 0 ≤ a % 24 ∧ a % 24 < 24 := by omega
  have h2 : 0 ≤ b % 4 := by omega
  have h3 : 0 ≤ c % 4 := by omega
  simp only at hD
  show (isR (1 + a % 24) && (decide (0 < 1 + b % 4) && (decide (0 < 1 + c % 4) && (decide (0 ≤ d) && (decide (d ≤ 1024) && (decide (([] : List (Int × Int)).length ≤ 16) && adjsOk (1 + a % 24) 0 [])))))) = true
  rw [show adjsOk (1 + a % 24) 0 [] = true from rfl]
  simp only [isR, Bool.and_eq_true, decide_eq_true_eq, List.length_nil, and_true]
  omega
theorem putR_sm : (∀ F : Rf, F 1 = none → pnR F (smR 1 1 2) = 1 ∧ putR F (smR 1 1 2) = putO F 1 (smR 1 1 2)) ∧ (∀ F : Rf, F 1 = some (smR 1 1 2) → pnR F (smR 1 1 1) = -1 ∧ putR F (smR 1 1 1) = F) ∧ (∀ F : Rf, F 1 = some (smR 1 1 2) → pnR F (smR 1 2 1) = 1 ∧ putR F (smR 1 2 1) = putO F 1 (smR 1 2 1)) := by
  have k1 : recOk (smR 1 1 2) = true := by decide
  have k2 : recOk (smR 1 1 1) = true := by decide
  have k3 : recOk (smR 1 2 1) = true := by decide
  refine ⟨fun F h => ?_, fun F h => ?_, fun F h => ?_⟩
  · have hn : nwR F (smR 1 1 2) = 1 := by unfold nwR gD smR; rw [h]; decide
    exact ⟨by unfold pnR; rw [if_pos k1, hn], by unfold putR; rw [if_pos ⟨k1, hn⟩]; rfl⟩
  · have hn : nwR F (smR 1 1 1) = -1 := by unfold nwR gD smR; rw [h]; decide
    exact ⟨by unfold pnR; rw [if_pos k2, hn], by unfold putR; rw [if_neg (by rw [hn]; simp)]⟩
  · have hn : nwR F (smR 1 2 1) = 1 := by unfold nwR gD smR; rw [h]; decide
    exact ⟨by unfold pnR; rw [if_pos k3, hn], by unfold putR; rw [if_pos ⟨k3, hn⟩]; rfl⟩
theorem ck_sm : ckN (smR 1 1 2) = 0 ∧ ckN (smR 1 1 1) = 0 ∧ ckN (smR 1 2 1) = 0 := by decide
/-- Put, without memory. -/
theorem sputP {S M n : Nat} {f : Sf} {r : Rc} {va : Value} {w : World} (h : StAt w S M n f) (hn : n < 1000000) (hv : SlAt ac 2 w va r.adjs) (hp : 0 ≤ r.epoch ∧ 0 ≤ r.seq) :
    Calls Try.prog 7 #[ptr S, recV r va] w fun e w' => e = .returned (.tuple #[.int .i64 (pnR (fR f) r), .int .i64 (ckN r)]) ∧ (∃ f', StAt w' S M (n + 1) f' ∧ fR f' = putR (fR f) r) ∧ Fr (fun k => k = M) w w' :=
  (sput_any h hn hv hp).mono fun e w' h => by
    obtain ⟨f', h1, h2, h3, h4⟩ := h.pure
    exact ⟨h3, ⟨f', h1, h2⟩, h4⟩
set_option maxRecDepth 100000 in
set_option maxHeartbeats 2000000 in
theorem sworks_any (w : World) : Calls Try.prog 23 #[] w fun e w' => e = .returned (.bool true) ∧ Below w.heap.size w w' := by
  go_enter Try.func23, Try.ntmps23
  go_wp2_with fail
  refine (snew_any _).mono ?_
  rintro e w1 ⟨⟨S, M, rfl, h1, hS, hM⟩, hb1⟩
  have H1 := hidIn h1
  have HB1 := hidIn hb1
  have HM := hidIn hM
  clear h1 hb1 hS hM
  go_wp2_with fail
  refine (small_any _ _ _ _).mono ?_
  rintro e w2 ⟨rfl, hb2⟩
  have HP := hidIn (sputP (H1.out.keep hb2) (by omega) (nilAdj w2) (r := smR 1 1 2) (by decide))
  have HB2 := hidIn (HB1.out.trans (hb2.mono HB1.out.size))
  clear H1 HB1 hb2
  rw [(putR_sm.1 (fR fun _ => none) rfl).1, ck_sm.1] at HP
  simp only [smR] at HP ⊢
  go_wp2_with fail
  refine HP.out.mono ?_
  rintro e w3 ⟨rfl, ⟨f1, h3, e3⟩, hf3⟩
  have H3 := hidIn h3
  have E3 : Hid (fR f1 1 = some (smR 1 1 2)) := hidIn (by rw [e3, show (⟨1, 1, 2, 0, false, []⟩ : Rc) = smR 1 1 2 from rfl, (putR_sm.1 (fR fun _ => none) rfl).2, putO_same])
  have HB3 := hidIn (HB2.out.trans (hf3.below HB2.out.size (fun k hk => by rw [hk]; exact HM.out)))
  clear h3 e3 hf3 HB2 HP
  go_wp2_with fail
  refine (small_any _ _ _ _).mono ?_
  rintro e w4 ⟨rfl, hb4⟩
  have HP := hidIn (sputP (H3.out.keep hb4) (by omega) (nilAdj w4) (r := smR 1 1 1) (by decide))
  have HB4 := hidIn (HB3.out.trans (hb4.mono HB3.out.size))
  clear H3 HB3 hb4
  rw [(putR_sm.2.1 (fR f1) E3.out).1, ck_sm.2.1] at HP
  simp only [smR] at HP ⊢
  go_wp2_with fail
  refine HP.out.mono ?_
  rintro e w5 ⟨rfl, ⟨f2, h5, e5⟩, hf5⟩
  have H5 := hidIn h5
  have E5 : Hid (fR f2 1 = some (smR 1 1 2)) := hidIn (by rw [e5, show (⟨1, 1, 1, 0, false, []⟩ : Rc) = smR 1 1 1 from rfl, (putR_sm.2.1 (fR f1) E3.out).2]; exact E3.out)
  have HB5 := hidIn (HB4.out.trans (hf5.below HB4.out.size (fun k hk => by rw [hk]; exact HM.out)))
  clear h5 e5 hf5 HB4 HP E3
  go_wp2_with fail
  refine (small_any _ _ _ _).mono ?_
  rintro e w6 ⟨rfl, hb6⟩
  have HP := hidIn (sputP (H5.out.keep hb6) (by omega) (nilAdj w6) (r := smR 1 2 1) (by decide))
  have HB6 := hidIn (HB5.out.trans (hb6.mono HB5.out.size))
  clear H5 HB5 hb6
  rw [(putR_sm.2.2 (fR f2) E5.out).1, ck_sm.2.2] at HP
  simp only [smR] at HP ⊢
  go_wp2_with fail
  refine HP.out.mono ?_
  rintro e w7 ⟨rfl, ⟨f3, h7, e7⟩, hf7⟩
  have E7 : fR f3 1 = some (smR 1 2 1) := by rw [e7, show (⟨1, 2, 1, 0, false, []⟩ : Rc) = smR 1 2 1 from rfl, (putR_sm.2.2 (fR f2) E5.out).2, putO_same]
  have HG := hidIn (sget_any h7 (k := 1) (by decide))
  have HB7 := hidIn (HB6.out.trans (hf7.below HB6.out.size (fun k hk => by rw [hk]; exact HM.out)))
  have Er : Hid (rOf (f3 1) = smR 1 2 1) := hidIn (by rw [rOf_fR, E7]; rfl)
  have Eb : Hid ((f3 1).isSome = true) := hidIn (by
    have h := E7
    unfold fR at h
    cases h1 : f3 1 with
    | none => rw [h1] at h; cases h
    | some p => rfl)
  clear h7 e7 hf7 HB6 HP E5 E7
  go_wp2_with fail
  refine HG.out.mono ?_
  rintro e w8 ⟨⟨a, c, rfl, _, _, _⟩, hb8⟩
  have HB8 := hidIn (HB7.out.trans (hb8.mono HB7.out.size))
  rw [Er.out, Eb.out]
  simp only [smR, List.length_nil]
  clear HG hb8 HB7
  go_wp2_with fail
  go_ret
  exact ⟨rfl, HB8.out.alloc HB8.out.size _⟩
end Go.Proofs.Ytpdpdhnllmlfdaa
