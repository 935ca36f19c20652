/- Headers that may be: Encode, Decode of their bytes, of one byte more, of one fewer. -/
import Derived.Test.YtgfmlonhjmdfjaaDoorH15
namespace Go.Proofs.YtgfmlonhjmdfjaaDoor
open Go.RowKit

/-- A header that may be, as plain numbers. -/
structure Good (c S E H O G I N k : Nat) : Prop where
  hc : c ≤ 5
  hk : 2 ^ c = k
  hS : S < 128
  hE : E < 4294967296
  hH : H < 16
  hO : 1 ≤ O
  hO' : O ≤ 24
  hG : G < 8
  hI : I < 4294967296
  hN : N < 2 ^ (8 * k)
variable {c S E H O G I N k : Nat}
theorem Good.k_bd (h : Good c S E H O G I N k) : 1 ≤ k ∧ k ≤ 32 := by
  have := Go.Proofs.YtgfmlonhjmdfjaaDoor.k_bd h.hc
  rw [h.hk] at this
  exact this
theorem Good.n256 (h : Good c S E H O G I N k) : N < 2 ^ 256 :=
  Nat.lt_of_lt_of_le h.hN (Nat.pow_le_pow_right (by decide) (by have := h.k_bd; omega))
theorem Good.isW (h : Good c S E H O G I N k) : IsW (8 * (k : Int)) := by
  have := isW_k h.hc
  rw [h.hk] at this
  exact this
theorem Good.ok (h : Good c S E H O G I N k) : OkH (8 * (k : Int)) S H O G N := by
  have hb : bl N ≤ 8 * k := bl_le.2 h.hN
  have h1 := h.hS; have h2 := h.hH; have h3 := h.hO; have h4 := h.hO'; have h5 := h.hG
  refine ⟨h.isW, ?_, ?_, ?_, ?_, ?_⟩ <;> omega
theorem Good.cOf (h : Good c S E H O G I N k) : cOf (8 * (k : Int)) = c := by
  have := cOf_k h.hc
  rw [h.hk] at this
  exact this
/-- The sealed bytes. -/
def encS (c S E H O G I N k : Nat) : ByteArray := Wi.sealS (bodyS c S E H O G I N k)
theorem encS_size (c S E H O G I N k : Nat) : (encS c S E H O G I N k).size = 15 + k := by
  unfold encS
  rw [Wi.sealS_size, bodyS_size]
  omega
theorem first_eq (s : ByteArray) (h : 0 < s.size) : s[0].toNat = Wi.tk s 0 1 := by
  rw [tk1, Wi.byteAt s 0 h]
theorem encS_data (c S E H O G I N k : Nat) : ∃ r, (encS c S E H O G I N k).data.toList = UInt8.ofNat ((16 + c) % 256) :: r := by
  unfold encS
  rw [Wi.sealS_data]
  unfold Wi.sealed
  rw [bodyS_data]
  exact ⟨_, rfl⟩
theorem encS_first (hc : c ≤ 5) (h : 0 < (encS c S E H O G I N k).size) : (encS c S E H O G I N k)[0].toNat = 16 + c := by
  obtain ⟨r, hr⟩ := encS_data c S E H O G I N k
  rw [first_eq _ h, tk1, hr, List.getD_cons_zero, u8_mod]
  omega
theorem encS_more (hc : c ≤ 5) (h : 0 < (encS c S E H O G I N k ++ ⟨#[0]⟩).size) : (encS c S E H O G I N k ++ ⟨#[0]⟩)[0].toNat = 16 + c := by
  obtain ⟨r, hr⟩ := encS_data c S E H O G I N k
  rw [first_eq _ h, tk1, Wi.app_toList, hr, List.cons_append, List.getD_cons_zero, u8_mod]
  omega
theorem encS_less (hc : c ≤ 5) (n : Nat) (hn : 0 < n) (h : 0 < ((encS c S E H O G I N k).extract 0 n).size) : ((encS c S E H O G I N k).extract 0 n)[0].toNat = 16 + c := by
  obtain ⟨r, hr⟩ := encS_data c S E H O G I N k
  obtain ⟨m, rfl⟩ : ∃ m, n = m + 1 := ⟨n - 1, by omega⟩
  rw [first_eq _ h, tk1, extract_data, hr, List.drop_zero, List.take_succ_cons, List.getD_cons_zero, u8_mod]
  omega
theorem enc_good (h : Good c S E H O G I N k) (w : World) (ht : Wid w) :
    Calls Tryd.prog 11 #[hd (8 * (k : Int)) S E H O G I N] w fun e w' => e = .returned (.tuple #[.string (encS c S E H O G I N k), .int .i64 0]) ∧ Below w.heap.size w w' :=
  encode_ok c S E H O G I N k h.cOf h.ok h.hE h.hI h.n256 w ht
theorem okB_good (h : Good c S E H O G I N k) : OkB (bodyS c S E H O G I N k) k := by
  obtain ⟨_, t1, t2, t3, t4, t5, t6⟩ := body_tk c S E H O G I N k h.hc (by have := h.hS; omega) h.hE (by have := h.hH; omega) (by have := h.hO'; omega) (by have := h.hG; omega) h.hI
  unfold OkB
  rw [t1, t3, t4, t5, body_dN c S E H O G I N k h.hN]
  exact h.ok
theorem dec_good (h : Good c S E H O G I N k) (w : World) (ht : Wid w) :
    Calls Tryd.prog 18 #[.string (encS c S E H O G I N k)] w fun e w' => e = .returned (.tuple #[hd (8 * (k : Int)) S E H O G I N, .int .i64 0]) ∧ Below w.heap.size w w' := by
  obtain ⟨_, t1, t2, t3, t4, t5, t6⟩ := body_tk c S E H O G I N k h.hc (by have := h.hS; omega) h.hE (by have := h.hH; omega) (by have := h.hO'; omega) (by have := h.hG; omega) h.hI
  have hs := encS_size c S E H O G I N k
  have hk := h.hk
  have := decode_ok' (encS c S E H O G I N k) (bodyS c S E H O G I N k) c h.hc (by omega) (encS_first h.hc _) (by omega) rfl (by rw [h.hk]; exact okB_good h) w ht
  rw [t1, t2, t3, t4, t5, t6, h.hk, body_dN c S E H O G I N k h.hN] at this
  exact this
theorem dec_more (h : Good c S E H O G I N k) (w : World) (ht : Wid w) :
    Calls Tryd.prog 18 #[.string (encS c S E H O G I N k ++ ⟨#[0]⟩)] w fun e w' => e = .returned (.tuple #[hd0, .int .i64 4]) ∧ Below w.heap.size w w' := by
  have hs := encS_size c S E H O G I N k
  have hs2 := app_size (encS c S E H O G I N k) ⟨#[0]⟩
  have h1 : (⟨#[0]⟩ : ByteArray).size = 1 := rfl
  have hk := h.hk
  exact decode_len _ c h.hc (by omega) (encS_more h.hc _) (by omega) w ht
theorem dec_less (h : Good c S E H O G I N k) (w : World) (ht : Wid w) :
    Calls Tryd.prog 18 #[.string ((encS c S E H O G I N k).extract 0 (14 + k))] w fun e w' => e = .returned (.tuple #[hd0, .int .i64 4]) ∧ Below w.heap.size w w' := by
  have hs := encS_size c S E H O G I N k
  have hs2 : ((encS c S E H O G I N k).extract 0 (14 + k)).size = 14 + k := by simp; omega
  have hk := h.hk
  exact decode_len _ c h.hc (by omega) (encS_less h.hc _ (by omega) _) (by omega) w ht
end Go.Proofs.YtgfmlonhjmdfjaaDoor
