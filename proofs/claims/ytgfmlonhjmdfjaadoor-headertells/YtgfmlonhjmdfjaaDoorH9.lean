/- header.widthOf, read. -/
import Derived.Test.YtgfmlonhjmdfjaaDoorH8
import Derived.Test.YtgfmlonhjmdfjaaDoorRD
namespace Go.Proofs.YtgfmlonhjmdfjaaDoor
open Go.RowKit

set_option maxHeartbeats 400000 in
theorem widthOf_nil (w : World) : Calls Tryd.prog 31 #[.string ⟨#[]⟩] w fun e w' => e = .returned (.int .i64 0) ∧ w' = w := by
  go_enter Tryd.func31, Tryd.ntmps31
  go_wp2
  go_ret
  exact ⟨rfl, rfl⟩
theorem not_nil {s : ByteArray} (h : 0 < s.size) : (s.toList == []) = false := by
  rw [ByteArray.toList_eq]
  refine beq_eq_false_iff_ne.2 fun e => ?_
  have : s.data.toList.length = s.size := by simp
  rw [e] at this
  simp at this
  omega
set_option maxHeartbeats 400000 in
theorem widthOf_low (s : ByteArray) (h : 0 < s.size) (h1 : s[0].toNat < 16) (w : World) : Calls Tryd.prog 31 #[.string s] w fun e w' => e = .returned (.int .i64 0) ∧ w' = w := by
  have hq := not_nil h
  have h1' : decide ((s[0].toNat : Int) < 16) = true := by simp; omega
  go_enter Tryd.func31, Tryd.ntmps31
  go_wp2
  go_ret
  exact ⟨rfl, rfl⟩
set_option maxHeartbeats 400000 in
theorem widthOf_high (s : ByteArray) (h : 0 < s.size) (h1 : 22 ≤ s[0].toNat) (w : World) : Calls Tryd.prog 31 #[.string s] w fun e w' => e = .returned (.int .i64 0) ∧ w' = w := by
  have hq := not_nil h
  have h1' : decide ((s[0].toNat : Int) < 16) = false := by simp; omega
  have h2' : decide (22 ≤ (s[0].toNat : Int)) = true := by simp; omega
  go_enter Tryd.func31, Tryd.ntmps31
  go_wp2
  go_ret
  exact ⟨rfl, rfl⟩
set_option maxHeartbeats 400000 in
theorem widthOf_ok (s : ByteArray) (h : 0 < s.size) (c : Nat) (h1 : s[0].toNat = 16 + c) (hc : c ≤ 5) (w : World) (ht : Wid w) : Calls Tryd.prog 31 #[.string s] w fun e w' => e = .returned (.int .i64 (wOf c)) ∧ w' = w := by
  obtain ⟨t0, t1, t2, t3, t4, t5⟩ := ht.cells
  have hq := not_nil h
  have hcs : c = 0 ∨ c = 1 ∨ c = 2 ∨ c = 3 ∨ c = 4 ∨ c = 5 := by omega
  rcases hcs with rfl | rfl | rfl | rfl | rfl | rfl
  all_goals
    go_enter Tryd.func31, Tryd.ntmps31
    go_wp2
    go_ret
    exact ⟨rfl, rfl⟩

/-- What the closure of read stands on. -/
structure Rds (w : World) (sb ab fb : Nat) (b : ByteArray) (a : Int) : Prop where
  s : w.cell? ⟨sb, 0, none⟩ = some (.string b)
  a : w.cell? ⟨ab, 0, none⟩ = some (.int .i64 a)
  f : w.cell? ⟨fb, 0, none⟩ = some (.int .i64 0)
  ga : w.frozen? ⟨ab, 0, none⟩ = false
  gf : w.frozen? ⟨fb, 0, none⟩ = false
  ls : sb < w.heap.size
  la : ab < w.heap.size
  lf : fb < w.heap.size
theorem Rds.put {w : World} {sb ab fb : Nat} {b : ByteArray} {a : Int} (h : Rds w sb ab fb b a) (h1 : sb ≠ ab) (h2 : sb ≠ fb) (h3 : ab ≠ fb) (a' : Int) : Rds ((w.setCell ⟨fb, 0, none⟩ (.int .i64 0)).setCell ⟨ab, 0, none⟩ (.int .i64 a')) sb ab fb b a' := by
  obtain ⟨a, f, o, gf, go, la, lf, lo⟩ := h
  refine ⟨?_, ?_, ?_, ?_, ?_, ?_, ?_, ?_⟩
  all_goals simp [*, go_sem]
theorem Rds.keep {w w' : World} {sb ab fb B : Nat} {b : ByteArray} {a : Int} (h : Rds w sb ab fb b a) (hb : Below B w w') (h1 : sb < B) (h2 : ab < B) (h3 : fb < B) : Rds w' sb ab fb b a :=
  ⟨(hb.cell (p := ⟨sb, 0, none⟩) h1).trans h.s, (hb.cell (p := ⟨ab, 0, none⟩) h2).trans h.a, (hb.cell (p := ⟨fb, 0, none⟩) h3).trans h.f, (hb.frozen (p := ⟨ab, 0, none⟩) h2).trans h.ga, (hb.frozen (p := ⟨fb, 0, none⟩) h3).trans h.gf,
   Nat.lt_of_lt_of_le h.ls hb.size, Nat.lt_of_lt_of_le h.la hb.size, Nat.lt_of_lt_of_le h.lf hb.size⟩
set_option maxHeartbeats 400000 in
theorem rdnum_ok (b : ByteArray) (a n : Nat) (hb : b.size ≤ 1000000) (hn : n = 1 ∨ n = 2 ∨ n = 4 ∨ n = 8) (h : a + n ≤ b.size) (sb ab fb : Nat) (w : World) (hr : Rds w sb ab fb b a) (h3 : ab ≠ fb) :
    Calls Tryd.prog 49 #[.int .i64 n, .pointer (some ⟨sb, 0, none⟩), .pointer (some ⟨ab, 0, none⟩), .pointer (some ⟨fb, 0, none⟩)] w fun e w' => e = .returned (.int .u64 (Wi.tk b a n : Nat)) ∧ w' = (w.setCell ⟨fb, 0, none⟩ (.int .i64 0)).setCell ⟨ab, 0, none⟩ (.int .i64 ((a + n : Nat) : Int)) := by
  obtain ⟨c1, c2, c3, c4, c5, _, _, _⟩ := hr
  have HT := hidIn (Wi.take_ok b a n (by unfold maxLen; omega) hn h)
  have hn8 : n ≤ 8 := by omega
  have he : (a : Int) + (n : Int) = ((a + n : Nat) : Int) := by omega
  have HE := hidIn he
  clear hn he
  generalize Wi.tk b a n = T at HT
  go_enter Tryd.func49, Tryd.ntmps49
  go_wp2_with fail
  refine (HT.out _).mono ?_
  rintro e w1 ⟨rfl, hw⟩
  replace hw := hw.symm
  subst hw
  go_wp2
  go_ret
  exact ⟨rfl, by rw [HE.out]⟩
end Go.Proofs.YtgfmlonhjmdfjaaDoor
