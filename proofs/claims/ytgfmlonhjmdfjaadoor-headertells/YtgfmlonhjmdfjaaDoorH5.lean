/- header.lay: its closures. -/
import Derived.Test.YtgfmlonhjmdfjaaDoorH4
import Derived.Test.YtgfmlonhjmdfjaaDoorK11
import Derived.Test.YtgfmlonhjmdfjaaDoorB1
namespace Go.Proofs.YtgfmlonhjmdfjaaDoor
open Go.RowKit

set_option maxHeartbeats 400000 in
theorem add_ok (p s : ByteArray) (fb ob : Nat) (w : World) (hne : fb ≠ ob) (hf : w.cell? ⟨fb, 0, none⟩ = some (.int .i64 0)) (ho : w.cell? ⟨ob, 0, none⟩ = some (.string s)) (gf : w.frozen? ⟨fb, 0, none⟩ = false) (go : w.frozen? ⟨ob, 0, none⟩ = false)
    (hs : s.size ≤ 1000000) (hp : p.size ≤ 1000000) :
    Calls Tryd.prog 40 #[.string p, .int .i64 0, .pointer (some ⟨fb, 0, none⟩), .pointer (some ⟨ob, 0, none⟩)] w fun e w' => (∃ v, e = .returned v) ∧ w' = (w.setCell ⟨ob, 0, none⟩ (.string (s ++ p))).setCell ⟨fb, 0, none⟩ (.int .i64 0) := by
  have hq : ¬ 9223372036854775807 < s.size + p.size := by omega
  go_enter Tryd.func40, Tryd.ntmps40
  go_wp2
  go_end0
  exact ⟨⟨_, rfl⟩, rfl⟩
theorem nil_app (b : ByteArray) : (⟨#[]⟩ : ByteArray) ++ b = b := by
  apply Wi.ext_bytes
  rw [Wi.app_toList]
  rfl
theorem put_lit1 (v : Nat) (hl : v < 256) (w : World) :
    Calls Tryd.prog 42 #[.string ⟨#[]⟩, .int .u64 v, .int .i64 1] w fun e w' => e = .returned (.tuple #[.string (strOfNums (Wi.layN v 1)), .int .i64 0]) ∧ Below w.heap.size w w' := by
  have h := Wi.put_ok1 ⟨#[]⟩ v (by decide) (by omega) hl w
  rw [nil_app] at h
  exact h
theorem put_lit4 (v : Nat) (hl : v < 4294967296) (w : World) :
    Calls Tryd.prog 42 #[.string ⟨#[]⟩, .int .u64 v, .int .i64 4] w fun e w' => e = .returned (.tuple #[.string (strOfNums (Wi.layN v 4)), .int .i64 0]) ∧ Below w.heap.size w w' := by
  have h := Wi.put_ok4 ⟨#[]⟩ v (by decide) (by omega) hl w
  rw [nil_app] at h
  exact h
theorem lay_size (v n : Nat) : (strOfNums (Wi.layN v n)).size = n := by rw [strOfNums_size, Wi.layN_length]
/-- What the closures stand on: the function add, the error kept, the text laid so far. -/
structure Lays (w : World) (ab fb ob : Nat) (s : ByteArray) : Prop where
  a : w.cell? ⟨ab, 0, none⟩ = some (.func (.func 40) #[] #[.pointer (some ⟨fb, 0, none⟩), .pointer (some ⟨ob, 0, none⟩)])
  f : w.cell? ⟨fb, 0, none⟩ = some (.int .i64 0)
  o : w.cell? ⟨ob, 0, none⟩ = some (.string s)
  gf : w.frozen? ⟨fb, 0, none⟩ = false
  go : w.frozen? ⟨ob, 0, none⟩ = false
  la : ab < w.heap.size
  lf : fb < w.heap.size
  lo : ob < w.heap.size
theorem Lays.keep {w w' : World} {ab fb ob : Nat} {s : ByteArray} (h : Lays w ab fb ob s) (hb : Below w.heap.size w w') : Lays w' ab fb ob s :=
  ⟨(hb.cell (p := ⟨ab, 0, none⟩) h.la).trans h.a, (hb.cell (p := ⟨fb, 0, none⟩) h.lf).trans h.f, (hb.cell (p := ⟨ob, 0, none⟩) h.lo).trans h.o, (hb.frozen (p := ⟨fb, 0, none⟩) h.lf).trans h.gf, (hb.frozen (p := ⟨ob, 0, none⟩) h.lo).trans h.go,
   Nat.lt_of_lt_of_le h.la hb.size, Nat.lt_of_lt_of_le h.lf hb.size, Nat.lt_of_lt_of_le h.lo hb.size⟩
theorem Lays.put {w : World} {ab fb ob : Nat} {s : ByteArray} (h : Lays w ab fb ob s) (h1 : fb ≠ ob) (h2 : ab ≠ ob) (h3 : ab ≠ fb) (t : ByteArray) : Lays ((w.setCell ⟨ob, 0, none⟩ (.string t)).setCell ⟨fb, 0, none⟩ (.int .i64 0)) ab fb ob t := by
  obtain ⟨a, f, o, gf, go, la, lf, lo⟩ := h
  refine ⟨?_, ?_, ?_, ?_, ?_, ?_, ?_, ?_⟩
  all_goals simp [*, go_sem]

set_option maxHeartbeats 400000 in
theorem number1_ok (v : Nat) (hv : v < 256) (s : ByteArray) (ab fb ob : Nat) (w : World) (hl : Lays w ab fb ob s) (hne : fb ≠ ob) (hs : s.size ≤ 1000000) :
    Calls Tryd.prog 41 #[.int .u64 v, .int .i64 1, .pointer (some ⟨ab, 0, none⟩)] w fun e w' => (∃ v, e = .returned v) ∧ ∃ w1, Below w.heap.size w w1 ∧ w' = (w1.setCell ⟨ob, 0, none⟩ (.string (s ++ strOfNums (Wi.layN v 1)))).setCell ⟨fb, 0, none⟩ (.int .i64 0) := by
  have hz := lay_size v 1
  have HP := hidIn (put_lit1 v hv)
  generalize strOfNums (Wi.layN v 1) = t at hz HP
  go_enter Tryd.func41, Tryd.ntmps41
  go_wp2_with fail
  refine (HP.out _).mono ?_
  rintro e w1 ⟨rfl, hb1⟩
  have hl1 := hl.keep hb1
  have ha := hl1.a
  go_wp2_with fail
  refine (add_ok t s fb ob _ hne hl1.f hl1.o hl1.gf hl1.go hs (by omega)).mono ?_
  rintro e w2 ⟨⟨_, rfl⟩, rfl⟩
  go_wp2
  go_end0
  exact ⟨⟨_, rfl⟩, w1, hb1, rfl⟩
set_option maxHeartbeats 400000 in
theorem number4_ok (v : Nat) (hv : v < 4294967296) (s : ByteArray) (ab fb ob : Nat) (w : World) (hl : Lays w ab fb ob s) (hne : fb ≠ ob) (hs : s.size ≤ 1000000) :
    Calls Tryd.prog 41 #[.int .u64 v, .int .i64 4, .pointer (some ⟨ab, 0, none⟩)] w fun e w' => (∃ v, e = .returned v) ∧ ∃ w1, Below w.heap.size w w1 ∧ w' = (w1.setCell ⟨ob, 0, none⟩ (.string (s ++ strOfNums (Wi.layN v 4)))).setCell ⟨fb, 0, none⟩ (.int .i64 0) := by
  have hz := lay_size v 4
  have HP := hidIn (put_lit4 v hv)
  generalize strOfNums (Wi.layN v 4) = t at hz HP
  go_enter Tryd.func41, Tryd.ntmps41
  go_wp2_with fail
  refine (HP.out _).mono ?_
  rintro e w1 ⟨rfl, hb1⟩
  have hl1 := hl.keep hb1
  have ha := hl1.a
  go_wp2_with fail
  refine (add_ok t s fb ob _ hne hl1.f hl1.o hl1.gf hl1.go hs (by omega)).mono ?_
  rintro e w2 ⟨⟨_, rfl⟩, rfl⟩
  go_wp2
  go_end0
  exact ⟨⟨_, rfl⟩, w1, hb1, rfl⟩
end Go.Proofs.YtgfmlonhjmdfjaaDoor
