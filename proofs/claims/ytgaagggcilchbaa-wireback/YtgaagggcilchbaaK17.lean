/- There and back: numbers, groups, digits. -/
import Derived.Test.YtgaagggcilchbaaK16
import Derived.Test.YtgaagggcilchbaaK14
import Derived.Test.YtgaagggcilchbaaK11
import Derived.Test.YtgaagggcilchbaaR3
namespace Go.Proofs.Ytgaagggcilchbaa
open Go.RowKit

theorem getD_app (b : ByteArray) (l : List Int) (i : Nat) (h : i < l.length) : (b ++ strOfNums l).data.toList.getD (b.size + i) 0 = UInt8.ofNat (l.getD i 0).toNat := by
  have hb : b.data.toList.length = b.size := by simp
  rw [app_toList, List.getD_eq_getElem?_getD, List.getElem?_append_right (by omega), strOfNums_data, hb, Nat.add_sub_cancel_left, List.getElem?_map, List.getD_eq_getElem?_getD, List.getElem?_eq_getElem h]
  rfl
theorem layD_get (u n i : Nat) (h : i < n) : (layD u n).getD i 0 = ((u / 2 ^ (8 * (n - 1 - i)) % 256 : Nat) : Int) := by
  induction n generalizing i with
  | zero => omega
  | succ n ih =>
    cases i with
    | zero => simp [layD]
    | succ i =>
      have := ih i (by omega)
      simp only [layD, List.getD_cons_succ]
      rw [this, show n + 1 - 1 - (i + 1) = n - 1 - i from by omega]
theorem tk_layD (b : ByteArray) (u n m : Nat) (h : m ≤ n) : tk (b ++ strOfNums (layD u n)) b.size m = u / 256 ^ (n - m) % 256 ^ m := by
  induction m with
  | zero => simp [tk, Nat.mod_one]
  | succ m ih =>
    have e256 : ∀ k, 2 ^ (8 * k) = 256 ^ k := fun k => by rw [Nat.pow_mul]
    simp only [tk]
    rw [ih (by omega), getD_app b _ m (by rw [layD_len]; omega), layD_get u n m (by omega), Int.toNat_natCast, UInt8.toNat_ofNat', e256]
    obtain ⟨q, hq⟩ : ∃ q, q = u / 256 ^ (n - (m + 1)) := ⟨_, rfl⟩
    have h1 : u / 256 ^ (n - m) = q / 256 := by
      rw [hq, Nat.div_div_eq_div_mul, ← Nat.pow_succ, show (n - (m + 1)).succ = n - m from by omega]
    rw [show n - 1 - m = n - (m + 1) from by omega, ← hq, h1, show (2 : Nat) ^ 8 = 256 from rfl, Nat.mod_mod, show 256 ^ (m + 1) = 256 * 256 ^ m from by rw [Nat.pow_succ, Nat.mul_comm], Nat.mod_mul]
    omega
theorem tk_back (b : ByteArray) (u n : Nat) (hn : n = 1 ∨ n = 2 ∨ n = 4 ∨ n = 8) (hu : u < 256 ^ n) : tk (b ++ strOfNums (layN u n)) b.size n = u := by
  rw [layN_layD u n hn, tk_layD b u n n (Nat.le_refl _), Nat.sub_self, Nat.pow_zero, Nat.div_one, Nat.mod_eq_of_lt hu]
theorem ahead_app (b c : ByteArray) : (b ++ c).extract 0 b.size = b := by
  apply ext_bytes
  have hb : b.data.toList.length = b.size := by simp
  rw [ByteArray.data_extract, Array.toList_extract, List.extract_eq_take_drop, List.drop_zero, Nat.sub_zero, app_toList, List.take_append_of_le_length (by omega), List.take_of_length_le (by omega)]

theorem pvU_form (v : Nat) : ∃ l c, pvU v = l ++ [c] ∧ (∀ y ∈ l, 128 ≤ y.toNat) ∧ c.toNat < 128 ∧ (c.toNat ≠ 0 ∨ l = []) := by
  induction v using Nat.strongRecOn with
  | ind v ih =>
    by_cases h : v < 128
    · exact ⟨[], UInt8.ofNat v, by rw [pvU_lo h]; rfl, by simp, by rw [UInt8.toNat_ofNat']; omega, .inr rfl⟩
    · obtain ⟨l, c, h1, h2, h3, h4⟩ := ih (v / 128) (by omega)
      refine ⟨UInt8.ofNat (v % 128 + 128) :: l, c, by rw [pvU_hi (by omega), h1]; rfl, ?_, h3, .inl ?_⟩
      · intro y hy
        rcases List.mem_cons.1 hy with rfl | hy
        · rw [UInt8.toNat_ofNat']; omega
        · exact h2 y hy
      · rcases h4 with h4 | rfl
        · exact h4
        · have := congrArg val h1
          rw [val_pvU] at this
          simp [val] at this
          omega
theorem tvF_run (c : UInt8) (r : List UInt8) (hc : c.toNat < 128) : ∀ (l pre : List UInt8), (∀ y ∈ l, 128 ≤ y.toNat) → pre.length + l.length ≤ 9 → (pre.length + l.length = 9 → c.toNat ≤ 1) → (c.toNat ≠ 0 ∨ pre.length + l.length = 0) →
    tvF pre (l ++ c :: r) = some (val (pre ++ l ++ [c]), pre.length + l.length + 1)
  | [], pre, _, h9, h1, h0 => by
    rw [List.nil_append, tvF_cons, if_neg (by intro h; have := h1 (by simpa using h.1); omega), if_neg (by intro h; rcases h0 with h0 | h0; exact h0 h.1; simp at h0; simp [h0] at h), if_pos hc]
    simp
  | y :: l, pre, hl, h9, h1, h0 => by
    have hy := hl y (by simp)
    simp only [List.length_cons] at h9 h1 h0
    rw [List.cons_append, tvF_cons, if_neg (by omega), if_neg (by omega), if_neg (by omega), tvF_run c r hc l (pre ++ [y]) (fun z hz => hl z (by simp [hz])) (by simp; omega) (by intro h; exact h1 (by simp at h; omega)) (by rcases h0 with h0 | h0; exact .inl h0; omega)]
    simp
    omega
theorem tvF_back (v : Nat) (hv : v < 18446744073709551616) (r : List UInt8) : tvF [] (pvU v ++ r) = some (v, (pvL v).length) := by
  obtain ⟨l, c, h1, h2, h3, h4⟩ := pvU_form v
  have hlen : (pvU v).length = (pvL v).length := by unfold pvU; simp
  have h10 : (pvL v).length ≤ 10 := pvL_len 9 v (by omega)
  have hll : l.length + 1 = (pvL v).length := by rw [← hlen, h1]; simp
  have hval := val_pvU v
  rw [h1] at hval
  have h9 : l.length = 9 → c.toNat ≤ 1 := by
    intro e
    rw [val_snoc, e] at hval
    omega
  rw [h1, List.append_assoc, List.singleton_append, tvF_run c r h3 l [] h2 (by simp; omega) (by simpa using h9) (by rcases h4 with h | h; exact .inl h; right; simp [h]), List.nil_append, hval]
  simp [← hll]
theorem drop_app (b : ByteArray) (v : Nat) (c : ByteArray) : (b ++ strOfNums (pvL v) ++ c).data.toList.drop b.size = pvU v ++ c.data.toList := by
  have hb : b.data.toList.length = b.size := by simp
  rw [app_toList, app_toList, List.append_assoc, List.drop_append_of_le_length (by omega), List.drop_of_length_le (by omega), List.nil_append, strOfNums_data]
  rfl
theorem hv_hexd (k : Nat) (h : k < 16) : hv (UInt8.ofNat (hexd k).toNat) = (k : Int) := by
  have : k = 0 ∨ k = 1 ∨ k = 2 ∨ k = 3 ∨ k = 4 ∨ k = 5 ∨ k = 6 ∨ k = 7 ∨ k = 8 ∨ k = 9 ∨ k = 10 ∨ k = 11 ∨ k = 12 ∨ k = 13 ∨ k = 14 ∨ k = 15 := by omega
  rcases this with rfl | rfl | rfl | rfl | rfl | rfl | rfl | rfl | rfl | rfl | rfl | rfl | rfl | rfl | rfl | rfl <;> decide +kernel
theorem unh_hex (l : List UInt8) : unh ((hexL l).map fun n => UInt8.ofNat n.toNat) = some (l.map fun c => (c.toNat : Int)) := by
  induction l with
  | nil => exact unh_nil
  | cons c l ih =>
    have hc := c.toNat_lt
    have h1 := hv_hexd (c.toNat / 16) (by omega)
    have h2 := hv_hexd (c.toNat % 16) (by omega)
    have e : (hexL (c :: l)).map (fun n => UInt8.ofNat n.toNat) = UInt8.ofNat (hexd (c.toNat / 16)).toNat :: UInt8.ofNat (hexd (c.toNat % 16)).toNat :: (hexL l).map (fun n => UInt8.ofNat n.toNat) := by
      unfold hexL
      simp
    rw [e, unh_cons, h1, h2, if_neg (by omega), ih]
    simp
    omega
theorem bytes_back (b : ByteArray) : strOfNums (b.data.toList.map fun c => (c.toNat : Int)) = b := by
  apply ext_bytes
  rw [strOfNums_data, List.map_map]
  have : ((fun n : Int => UInt8.ofNat n.toNat) ∘ fun c : UInt8 => (c.toNat : Int)) = id := by
    funext c
    simp
  rw [this, List.map_id]
end Go.Proofs.Ytgaagggcilchbaa
