/- Marks noted, as lists; the laws' works. -/
import Derived.Test.YtkkkjpdmjgafoaaA7
namespace Go.Proofs.Ytkkkjpdmjgafoaa
open Go.RowKit

abbrev Mk := Nat × Nat × Bool × Nat × Nat
abbrev mkL (m : Mk) : List Value := [.int .u8 m.1, .int .u8 m.2.1, .bool m.2.2.1, .int .u64 (Bi.wd m.2.2.2.1 0), .int .u64 (Bi.wd m.2.2.2.1 1), .int .u64 (Bi.wd m.2.2.2.1 2), .int .u64 (Bi.wd m.2.2.2.1 3), .int .u64 (Bi.wd m.2.2.2.2 0), .int .u64 (Bi.wd m.2.2.2.2 1), .int .u64 (Bi.wd m.2.2.2.2 2), .int .u64 (Bi.wd m.2.2.2.2 3)]
abbrev rtM (m : Mk) : Nat := 1 + m.1 % 24
def mC (m : Mk) : Cn := stepC m.2.2.1 (m.2.1 % 5) (Bi.cntTo 256 m.2.2.2.1) (Bi.cntTo 256 m.2.2.2.2)
theorem mC_ok (m : Mk) : OkC (mC m) := stepC_ok _ (by omega) (Bi.cntTo_le _ _) (Bi.cntTo_le _ _)
def noteT (T : Nat → Cn) (m : Mk) : Nat → Cn := putC T (rtM m) (addC (T (rtM m)) (mC m))
def runT (L : List Mk) : Nat → Cn := L.foldl noteT noT
theorem runT_snoc (L : List Mk) (m : Mk) : runT (L ++ [m]) = noteT (runT L) m := by unfold runT; rw [List.foldl_append]; rfl
theorem noteT_ok {T : Nat → Cn} (h : OkT T) (m : Mk) : OkT (noteT T m) := h.put _ (addC_ok _ _)
theorem foldT_ok : ∀ (L : List Mk) {T : Nat → Cn}, OkT T → OkT (L.foldl noteT T)
  | [], _, h => h
  | m :: L, _, h => foldT_ok L (noteT_ok h m)
theorem runT_ok (L : List Mk) : OkT (runT L) := foldT_ok L noT_ok
theorem putC_same (T : Nat → Cn) (r : Nat) (c : Cn) : putC T r c r = c := if_pos rfl
theorem putC_other (T : Nat → Cn) {r i : Nat} (c : Cn) (h : i ≠ r) : putC T r c i = T i := if_neg h
theorem SlAt.mrk {w : World} {v : Value} {l : List Mk} (h : SlAt mkL 11 w v l) : ∃ a cap, v = .slice a l.length cap ∧ l.length ≤ 9223372036854775807 ∧ l.length ≤ cap ∧ (0 < l.length → ∃ bk o, a = some ⟨bk, o, none⟩ ∧ bk < w.heap.size ∧ ∀ j m, l[j]? = some m → ∀ k u, (mkL m)[k]? = some u → w.cell? ⟨bk, o + j * 11 + k, none⟩ = some u) := by
  obtain ⟨a, cap, rfl, h0, h1, h2⟩ := h
  refine ⟨a, cap, rfl, h0, h1, fun hp => ?_⟩
  obtain ⟨bk, o, rfl, h3, h4⟩ := h2 hp
  exact ⟨bk, o, rfl, h3, fun j z hz k u hu => h4 j z hz k u hu⟩
theorem eq_refl6 (a0 a1 a2 a3 a4 a5 : Int) (w : World) : (Op.equalIn 10000 37 (.agg #[.int .u64 a0, .int .u64 a1, .int .u64 a2, .int .u64 a3, .int .u64 a4, .int .u64 a5]) (.agg #[.int .u64 a0, .int .u64 a1, .int .u64 a2, .int .u64 a3, .int .u64 a4, .int .u64 a5])).run Try.prog w = Result.ok true w := by rw [eq_counts]; simp
set_option maxRecDepth 100000 in
set_option maxHeartbeats 2000000 in
theorem tworks_any (w : World) : Calls Try.prog 21 #[] w fun e w' => e = .returned (.bool true) ∧ Below w.heap.size w w' := by
  obtain ⟨C1, hC1⟩ : ∃ C1, stepC true 2 (Bi.cntTo 256 257) (Bi.cntTo 256 0) = C1 := ⟨_, rfl⟩
  have hE : cV (putC (putC noT 3 (addC (noT 3) C1)) 3 (addC ((putC noT 3 (addC (noT 3) C1)) 3) badC) 3) = .agg #[.int .u64 2, .int .u64 1, .int .u64 2, .int .u64 2, .int .u64 0, .int .u64 1] := by rw [← hC1]; kernel_rfl
  have hO1 : OkT (putC noT 3 (addC (noT 3) C1)) := noT_ok.put _ (addC_ok _ _)
  have HN : Hid (∀ (b : Nat) (wx : World), TaAt wx b noT → ∀ a c, Calls Try.prog 11 #[tp b, .int .i64 3, dnV true (.slice a 2 c) 257 0] wx fun e w' => e = .returned (.int .i64 0) ∧ TaAt w' b (putC noT 3 (addC (noT 3) C1)) ∧ Fr (fun j => j = b) wx w') := hidIn fun b wx h a c => by
    have := tnote_yes h noT_ok (r := 3) (by omega) (by omega) true a 2 c (by omega) 257 0
    rw [hC1] at this
    exact this
  clear hC1
  obtain ⟨T1, hT1⟩ : ∃ T1, putC noT 3 (addC (noT 3) C1) = T1 := ⟨_, rfl⟩
  rw [hT1] at hE hO1 HN
  have HB : Hid (∀ (b : Nat) (wx : World), TaAt wx b T1 → Calls Try.prog 13 #[tp b, .int .i64 3] wx fun e w' => e = .returned (.int .i64 0) ∧ TaAt w' b (putC T1 3 (addC (T1 3) badC)) ∧ Fr (fun j => j = b) wx w') := hidIn fun b wx h => tbad_yes h hO1 (r := 3) (by omega) (by omega)
  obtain ⟨T2, hT2⟩ : ∃ T2, putC T1 3 (addC (T1 3) badC) = T2 := ⟨_, rfl⟩
  rw [hT2] at hE HB
  have HA : Hid (∀ (b : Nat) (wx : World), TaAt wx b T2 → Calls Try.prog 16 #[tp b, .int .i64 3] wx fun e w' => e = .returned (.tuple #[.agg #[.int .u64 2, .int .u64 1, .int .u64 2, .int .u64 2, .int .u64 0, .int .u64 1], .int .i64 0]) ∧ Below wx.heap.size wx w') := hidIn fun b wx h => by
    have := tat_yes h (r := 3) (by omega) (by omega)
    rw [hE] at this
    exact this
  have HQ := hidIn (fun wx => eq_refl6 2 1 2 2 0 1 wx)
  clear hE hO1 hT1 hT2
  go_enter Try.func21, Try.ntmps21
  go_wp2_with fail
  refine (tnew_any _).mono ?_
  rintro e w1 ⟨rfl, hw1⟩
  have HT1 : Hid (TaAt w1 w.heap.size noT) := hidIn (by rw [hw1]; exact taAt_new w noT)
  have HF1 : Hid (Below w.heap.size w w1) := hidIn (by rw [hw1]; exact (Below.refl _ w).alloc (Nat.le_refl _) _)
  obtain ⟨q, hq⟩ : ∃ q, w.heap.size = q := ⟨_, rfl⟩
  rw [hq] at HT1 ⊢
  have Hq := hidIn hq
  clear hw1 hq
  go_wp2_with fail
  refine (exampleD_any _).mono ?_
  rintro e w2 ⟨⟨a, c, rfl⟩, hb2⟩
  have HT2 := hidIn (HT1.out.keep hb2 HT1.out.lt)
  have HF2 := hidIn (HF1.out.trans (hb2.mono HF1.out.size))
  clear hb2 HT1 HF1
  go_wp2_with fail
  refine (HN.out q _ HT2.out a c).mono ?_
  rintro e w3 ⟨rfl, hA, hF⟩
  have HT3 := hidIn hA
  have HF3 := hidIn (HF2.out.trans (hF.below HF2.out.size (fun j hj => by have := Hq.out; omega)))
  clear hA hF HT2 HF2 HN
  go_wp2_with fail
  refine (HB.out q _ HT3.out).mono ?_
  rintro e w4 ⟨rfl, hA, hF⟩
  have HT4 := hidIn hA
  have HF4 := hidIn (HF3.out.trans (hF.below HF3.out.size (fun j hj => by have := Hq.out; omega)))
  clear hA hF HT3 HF3 HB
  go_wp2_with fail
  refine (HA.out q _ HT4.out).mono ?_
  rintro e w5 ⟨rfl, hb5⟩
  have HF5 := hidIn (HF4.out.trans (hb5.mono HF4.out.size))
  clear hb5 HT4 HF4 HA
  have hq6 := HQ.out
  go_wp2_with fail
  go_ret
  exact ⟨rfl, HF5.out.alloc (by have := HF5.out.size; omega) _⟩
end Go.Proofs.Ytkkkjpdmjgafoaa
