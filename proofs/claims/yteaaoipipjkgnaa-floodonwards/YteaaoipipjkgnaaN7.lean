/- The law's small records, works. -/
import Derived.Test.YteaaoipipjkgnaaNP
namespace Go.Proofs.Yteaaoipipjkgnaa
open Go.RowKit Go.Maps

abbrev Te : Type := Int × Int × Int × Int
abbrev te4 (x : Te) : List Value := [.int .u8 x.1, .int .u8 x.2.1, .int .u8 x.2.2.1, .int .u8 x.2.2.2]
def TeB (L : List Te) : Prop := ∀ x ∈ L, (0 ≤ x.1 ∧ x.1 ≤ 255) ∧ (0 ≤ x.2.1 ∧ x.2.1 ≤ 255) ∧ (0 ≤ x.2.2.1 ∧ x.2.2.1 ≤ 255) ∧ 0 ≤ x.2.2.2 ∧ x.2.2.2 ≤ 255
def tellR (x : Te) : Rc := ⟨1 + x.1 % 24, 1 + x.2.1 % 4, 1 + x.2.2.1 % 4, x.2.2.2, false, []⟩
def smR (o e s : Int) : Rc := ⟨o, e, s, 0, false, []⟩
theorem nilAdj (w : World) : SlAt ac 2 w (.slice none 0 0) [] := ⟨none, 0, rfl, by simp, by simp, fun h => by simp at h⟩
theorem tellR_ok {x : Te} (hD : 0 ≤ x.2.2.2 ∧ x.2.2.2 ≤ 255) : recOk (tellR x) = true := by
  obtain ⟨a, b, c, d⟩ := x
  have h1 : 0 ≤ a % 24 ∧ a % 24 < 24 := by omega
  have h2 : 0 ≤ b % 4 := by omega
  have h3 : 0 ≤ c % 4 := by omega
  simp only at hD
  show (isR (1 + a % 24) && (decide (0 < 1 + b % 4) && (decide (0 < 1 + c % 4) && (decide (0 ≤ d) && (decide (d ≤ 1024) && (decide (([] : List (Int × Int)).length ≤ 16) && adjsOk (1 + a % 24) 0 [])))))) = true
  rw [show adjsOk (1 + a % 24) 0 [] = true from rfl]
  simp only [isR, Bool.and_eq_true, decide_eq_true_eq, List.length_nil, and_true]
  omega
theorem putR_sm : (∀ F : Rf, F 1 = none → pnR F (smR 1 1 2) = 1 ∧ putR F (smR 1 1 2) = putO F 1 (smR 1 1 2)) ∧ (∀ F : Rf, F 1 = some (smR 1 1 2) → pnR F (smR 1 1 1) = -1 ∧ putR F (smR 1 1 1) = F) ∧ (∀ F : Rf, F 1 = some (smR 1 1 2) → pnR F (smR 1 2 1) = 1 ∧ putR F (smR 1 2 1) = putO F 1 (smR 1 2 1)) := by
  have k1 : recOk (smR 1 1 2) = true := by decide
  have k2 : recOk (smR 1 1 1) = true := by decide
  have k3 : recOk (smR 1 2 1) = true := by decide
  refine ⟨fun F h => ?_, fun F h => ?_, fun F h => ?_⟩
  · have hn : nwR F (smR 1 1 2) = 1 := by unfold nwR gD smR; rw [h]; decide
    exact ⟨by unfold pnR; rw [if_pos k1, hn], by unfold putR; rw [if_pos ⟨k1, hn⟩]; rfl⟩
  · have hn : nwR F (smR 1 1 1) = -1 := by unfold nwR gD smR; rw [h]; decide
    exact ⟨by unfold pnR; rw [if_pos k2, hn], by unfold putR; rw [if_neg (by rw [hn]; simp)]⟩
  · have hn : nwR F (smR 1 2 1) = 1 := by unfold nwR gD smR; rw [h]; decide
    exact ⟨by unfold pnR; rw [if_pos k3, hn], by unfold putR; rw [if_pos ⟨k3, hn⟩]; rfl⟩
theorem ck_sm : ckN (smR 1 1 2) = 0 ∧ ckN (smR 1 1 1) = 0 ∧ ckN (smR 1 2 1) = 0 := by decide
/-- Put, without memory. -/
theorem sputP {S M n : Nat} {f : Sf} {r : Rc} {va : Value} {w : World} (h : StAt w S M n f) (hn : n < 1000000) (hv : SlAt ac 2 w va r.adjs) (hp : 0 ≤ r.epoch ∧ 0 ≤ r.seq) :
    Calls Try.prog 48 #[ptr S, recV r va] w fun e w' => e = .returned (.tuple #[.int .i64 (pnR (fR f) r), .int .i64 (ckN r)]) ∧ (∃ f', StAt w' S M (n + 1) f' ∧ fR f' = putR (fR f) r) ∧ Fr (fun k => k = M) w w' :=
  (sput_any h hn hv hp).mono fun e w' h => by
    obtain ⟨f', h1, h2, h3, h4⟩ := h.pure
    exact ⟨h3, ⟨f', h1, h2⟩, h4⟩
end Go.Proofs.Yteaaoipipjkgnaa
