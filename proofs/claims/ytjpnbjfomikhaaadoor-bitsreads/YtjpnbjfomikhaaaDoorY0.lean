/- strings.Cut at a blank, of any string. -/
import Derived.Test.YtjpnbjfomikhaaaDoorP2
import Derived.Test.YtjpnbjfomikhaaaDoorShelf3
import Derived.BigQuiet
namespace Go.Proofs.YtjpnbjfomikhaaaDoor
open Go.RowKit Go.Shelf

theorem extr_data (b : ByteArray) (i j : Nat) : (b.extract i j).data.toList = (b.data.toList.take j).drop i := by
  rw [ByteArray.data_extract, Array.toList_extract, List.extract_eq_take_drop, List.drop_take]
theorem bytes_ext {a b : ByteArray} (h : a.data.toList = b.data.toList) : a = b := by
  cases a; cases b; simp at h; simp [h]
theorem below_dn (w : World) (n : Nat) : Below w.heap.size w (w.drewN n) := ⟨rfl, rfl, rfl, Nat.le_refl _, fun _ _ => rfl⟩
set_option maxRecDepth 100000 in
set_option maxHeartbeats 1000000 in
theorem slcut_yes (s : ByteArray) (o : Nat) (ho : Lib.indexByte s.data.toList 32 = (o : Int)) (h : o < s.size) (hs : s.size ≤ 140737488351232) (w : World) :
    Calls Tryd.prog 49 #[.string s, .string ⟨#[32]⟩] w fun e w' => e = .returned (.tuple #[.string (s.extract 0 o), .string (s.extract (o + 1) s.size), .bool true]) ∧ Below w.heap.size w w' := by
  have hI := Tryd.stringslite_Index_one s 32
  rw [ho] at hI
  have HI := hidIn hI
  clear hI ho
  have h0 : (0 : Int) ≤ (o : Int) := by omega
  have h1 : (o : Int) ≤ (s.size : Int) := by omega
  have h2 : (o : Int) + 1 ≤ (s.size : Int) := by omega
  have q1 : IntKind.i64.wrap ((o : Int) + 1) = (o : Int) + 1 := by rw [IntKind.wrap_i64]; omega
  have q2 : ((o : Int) + 1).toNat = o + 1 := by omega
  go_enter Tryd.func49, Tryd.ntmps49
  go_wp2_with fail
  refine (HI.out _).mono ?_
  rintro e w2 ⟨rfl, hw2⟩
  rw [hw2]
  clear hw2 w2
  go_wp2_with fail
  go_quiet (fail)
  go_wp2
  go_returns
  exact ⟨rfl, below_dn _ _⟩
set_option maxRecDepth 100000 in
set_option maxHeartbeats 1000000 in
theorem slcut_no (s : ByteArray) (ho : Lib.indexByte s.data.toList 32 = -1) (w : World) :
    Calls Tryd.prog 49 #[.string s, .string ⟨#[32]⟩] w fun e w' => e = .returned (.tuple #[.string s, .string ⟨#[]⟩, .bool false]) ∧ Below w.heap.size w w' := by
  have hI := Tryd.stringslite_Index_one s 32
  rw [ho] at hI
  have HI := hidIn hI
  clear hI ho
  go_enter Tryd.func49, Tryd.ntmps49
  go_wp2_with fail
  refine (HI.out _).mono ?_
  rintro e w2 ⟨rfl, hw2⟩
  rw [hw2]
  clear hw2 w2
  go_wp2
  go_returns
  exact ⟨rfl, Below.refl _ _⟩
/-- **strings.Cut(s, " ").** -/
theorem cut_blank (s : ByteArray) (W R : List UInt8) (more : Bool) (hs : s.size ≤ 140737488351232) (hcut : Lib.cut s.data.toList [32] = (W, R, more)) (w : World) :
    Calls Tryd.prog 42 #[.string s, .string ⟨#[32]⟩] w fun e w' => e = .returned (.tuple #[.string ⟨W.toArray⟩, .string ⟨R.toArray⟩, .bool more]) ∧ Below w.heap.size w w' := by
  have key : ∀ w, Calls Tryd.prog 49 #[.string s, .string ⟨#[32]⟩] w fun e w' => e = .returned (.tuple #[.string ⟨W.toArray⟩, .string ⟨R.toArray⟩, .bool more]) ∧ Below w.heap.size w w' := by
    intro w
    unfold Lib.cut at hcut
    rw [Lib.index_one] at hcut
    by_cases h0 : 0 ≤ Lib.indexByte s.data.toList 32
    · rw [if_pos h0] at hcut
      obtain ⟨o, ho⟩ := Int.eq_ofNat_of_zero_le h0
      rw [ho, Int.toNat_natCast] at hcut
      simp only [Prod.mk.injEq] at hcut
      obtain ⟨rfl, rfl, rfl⟩ := hcut
      have hlt := (List.getElem?_eq_some_iff.1 (Lib.indexByte_some ho).1).1
      have hsz : s.data.toList.length = s.size := by simp
      have e1 : s.extract 0 o = ⟨(s.data.toList.take o).toArray⟩ := bytes_ext (by rw [extr_data]; simp)
      have e2 : s.extract (o + 1) s.size = ⟨(s.data.toList.drop (o + ([32] : List UInt8).length)).toArray⟩ := bytes_ext (by rw [extr_data, ← hsz, List.take_length]; simp)
      have := slcut_yes s o ho (by omega) hs w
      rw [e1, e2] at this
      exact this
    · rw [if_neg h0] at hcut
      simp only [Prod.mk.injEq] at hcut
      obtain ⟨rfl, rfl, rfl⟩ := hcut
      have hm : Lib.indexByte s.data.toList 32 = -1 := by have := Lib.indexByte_ge s.data.toList 32; omega
      have := slcut_no s hm w
      exact this
  have HK := hidIn key
  clear key hcut
  generalize (⟨W.toArray⟩ : ByteArray) = W0 at HK ⊢
  generalize (⟨R.toArray⟩ : ByteArray) = R0 at HK ⊢
  go_enter Tryd.func42, Tryd.ntmps42
  go_wp2_with (go_at_call 49; refine (HK.out _).mono ?_; rintro e w2 ⟨rfl, hb2⟩)
  go_returns
  exact ⟨rfl, hb2⟩
end Go.Proofs.YtjpnbjfomikhaaaDoor
