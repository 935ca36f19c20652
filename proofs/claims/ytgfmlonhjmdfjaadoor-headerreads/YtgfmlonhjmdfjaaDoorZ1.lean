/- dandelionref02.Sum, Seal, Open. The document's Decode. For the document's Decode where the seal is right: parts of bytes, number that only draws. The law HeaderBack, walked. The document's Decode where the seal is right. dandelionlaw03.HeaderReads: the walk. What the rows of layer 1 are opened and shut by: a bit string as an argument; the library's tables as the rows list them. What the rows of layer 3 are opened and shut by: a header as an argument; the table of the widths as the rows list it. -/
import Derived.Test.YtgfmlonhjmdfjaaDoorR3
import Derived.Test.YtgfmlonhjmdfjaaDoorK11
import Derived.Test.YtgfmlonhjmdfjaaDoorH17
import Derived.Test.YtgfmlonhjmdfjaaDoorRH1
import Derived.Test.YtgfmlonhjmdfjaaDoorRE
import Derived.Deep.RegionWith
import Derived.Deep.CutRange
import Derived.Test.YtgfmlonhjmdfjaaDoorH16
import Derived.Deep.DeepCutAuto
import Derived.Test.YtgfmlonhjmdfjaaDoorW6
import Derived.Test.YtgfmlonhjmdfjaaDoorRows
import Derived.WalkKit
import Derived.ProofKit
import Derived.OpenShut
import Derived.Laws.IdiomArrays
import Derived.Lib.SmallJoins
import Derived.Deep.DeepHandedRow
import Derived.Lib.LaidTab
import Derived.Test.YtgfmlonhjmdfjaaDoorH4
namespace Go.Proofs.YtgfmlonhjmdfjaaDoor.Wi
open Go.RowKit

set_option maxRecDepth 100000 in
set_option maxHeartbeats 2000000 in
theorem rsum_any (ss : Nat → ByteArray) (n b off cap : Nat) (hn : n ≤ maxLen) (hs : ∀ i, i < n → (ss i).size ≤ maxLen) (w : World)
    (hc : ∀ i, i < n → w.cell? ⟨b, off + i, none⟩ = some (.string (ss i))) :
    Calls Tryd.prog 47 #[.slice (some ⟨b, off, none⟩) n cap] w fun e w' => e = .returned (.int .u16 (sumF ss n : Nat)) ∧ w' = w := by
  unfold maxLen at hn hs
  go_enter Tryd.func47, Tryd.ntmps47
  go_wp2
  go_loop [3, 4] (fun t i => ∃ k : Nat, k ≤ n ∧ i = .int .i64 k ∧ t = .int .u16 (sumF ss k : Nat)) (fun _ i => n - (intOf i).toNat)
  case atStart => exact ⟨0, Nat.zero_le _, rfl, rfl⟩
  case round =>
    obtain ⟨k, hk, rfl, rfl⟩ := hrel
    have hS := sumF_lt ss k
    obtain ⟨S, eS⟩ : ∃ S, S = sumF ss k := ⟨_, rfl⟩
    rw [← eS] at hS ⊢
    have HS := hidIn eS
    clear eS
    by_cases hlt : k < n
    · have hck := hc k hlt
      have hsk := hs k hlt
      have HC := hidIn hc
      have HH := hidIn hs
      clear hc hs
      obtain ⟨s, es⟩ : ∃ s, s = ss k := ⟨_, rfl⟩
      rw [← es] at hck hsk
      have ES := hidIn es
      clear es
      go_wp2
      go_loop [3, 5] (fun t i => ∃ j : Nat, j ≤ s.size ∧ i = .int .i64 j ∧ t = .int .u16 (crc S (s.data.toList.take j) : Nat)) (fun _ i => s.size - (intOf i).toNat)
      case atStart => exact ⟨0, Nat.zero_le _, rfl, by simp [crc_nil]⟩
      case round =>
        obtain ⟨j, hj, rfl, rfl⟩ := hrel
        have hT : crc S (s.data.toList.take j) < 65536 := crc_lt hS _
        by_cases hjl : j < s.size
        · have HT := hidIn (crc_take S s j hjl)
          obtain ⟨T, eT⟩ : ∃ T, T = crc S (s.data.toList.take j) := ⟨_, rfl⟩
          rw [← eT] at hT HT ⊢
          clear eT
          have hb : s[j].toNat < 256 := by have := s[j].toNat_lt; omega
          have hin := u16_in' T s[j].toNat hT hb
          go_wp2
          go_loop [3, 6] (fun t i => ∃ m : Nat, m ≤ 8 ∧ i = .int .i64 m ∧ t = .int .u16 (shN m (T ^^^ (s[j].toNat * 256)) : Nat)) (fun _ i => 8 - (intOf i).toNat)
          case atStart => exact ⟨0, Nat.zero_le _, rfl, rfl⟩
          case round =>
            obtain ⟨m, hm, rfl, rfl⟩ := hrel
            have hZ := shN_lt m _ (in_lt hT hb)
            obtain ⟨Z, eZ⟩ : ∃ Z, Z = shN m (T ^^^ (s[j].toNat * 256)) := ⟨_, rfl⟩
            rw [← eZ] at hZ ⊢
            have HZ := hidIn eZ
            clear eZ hin
            by_cases hlm : m < 8
            · by_cases ht : 32768 ≤ Z
              · have ht' : (32768 : Int) ≤ (Z : Int) := by omega
                go_wp2
                refine ⟨⟨m + 1, by omega, by go_num, int_int ?_⟩, by simp [intOf]; omega⟩
                simp only [shN]
                rw [← HZ.out]
                unfold sh1
                rw [if_pos ht, IntKind.wrap_u16]
                exact u16_poly Z hZ
              · have ht' : ¬ (32768 : Int) ≤ (Z : Int) := by omega
                go_wp2
                refine ⟨⟨m + 1, by omega, by go_num, int_int ?_⟩, by simp [intOf]; omega⟩
                simp only [shN]
                rw [← HZ.out]
                unfold sh1
                rw [if_neg ht]
                omega
            · obtain rfl : m = 8 := by omega
              go_wp2
              go_round
              case rel => exact ⟨j + 1, by omega, by go_num, int_int (by rw [HT.out, HZ.out]; rfl)⟩
              case measure => simp [intOf]; omega
        · obtain rfl : j = s.size := by omega
          go_wp2
          go_round
          case rel => exact ⟨k + 1, by omega, by go_num, int_int (by rw [List.take_of_length_le (by simp), ES.out, HS.out]; rfl)⟩
          case measure => simp [intOf]; omega
    · obtain rfl : k = n := by omega
      clear hc hs
      go_wp2
      go_ret
      exact ⟨ret_int (by rw [HS.out]), rfl⟩
set_option maxHeartbeats 400000 in
theorem rsum_nil (w : World) :
    Calls Tryd.prog 47 #[.slice none 0 0] w fun e w' => e = .returned (.int .u16 65535) ∧ w' = w := by
  go_enter Tryd.func47, Tryd.ntmps47
  go_wp2
  go_loop [3, 4] (fun t i => i = .int .i64 0 ∧ t = .int .u16 65535) (fun _ _ => 0)
  case atStart => exact ⟨rfl, rfl⟩
  case round =>
    obtain ⟨rfl, rfl⟩ := hrel
    go_wp2
    go_ret
    exact ⟨rfl, rfl⟩
theorem rsum_one (s : ByteArray) (T b cap : Nat) (w : World) (hb : w.heap.size = b) (hs : s.size ≤ maxLen) :
    Calls Tryd.prog 47 #[.slice (some ⟨b, 0, none⟩) 1 cap] (w.alloc (.cells #[.string s] T)) fun e w' => e = .returned (.int .u16 (crc 65535 s.data.toList : Nat)) ∧ w' = w.alloc (.cells #[.string s] T) := by
  subst hb
  refine rsum_any (fun _ => s) 1 w.heap.size 0 cap (by decide) (fun _ _ => hs) _ (fun i hi => ?_)
  obtain rfl : i = 0 := by omega
  simp
theorem rput_lit2 (b : ByteArray) (v : Nat) (hb : b.size ≤ 1000000000000000) (hv : v < 65536) (w : World) :
    Calls Tryd.prog 46 #[.string b, .int .u64 v, .int .i64 2] w fun e w' => e = .returned (.tuple #[.string (b ++ strOfNums (layN v 2)), .int .i64 0]) ∧ Below w.heap.size w w' := rput_ok b v 2 hb (by omega) (by decide) hv w
set_option maxHeartbeats 400000 in
theorem rseal_any (b : ByteArray) (hb : b.size ≤ 1000000000000000) (w : World) :
    Calls Tryd.prog 29 #[.string b] w fun e w' => e = .returned (.string (sealS b)) ∧ Below w.heap.size w w' := by
  have hm : b.size ≤ maxLen := by unfold maxLen; omega
  have hS : crc 65535 b.data.toList < 65536 := crc_lt (by decide) _
  have HE := hidIn (seal_eq b)
  go_enter Tryd.func29, Tryd.ntmps29
  go_wp2_with (go_at_call 47; refine (rsum_one _ _ _ _ _ (by simp) hm).mono ?_; rintro e w3 ⟨rfl, rfl⟩)
  generalize crc 65535 b.data.toList = S at hS HE ⊢
  go_wp2_with (go_at_call 46; refine (rput_lit2 b S hb hS _).mono ?_; rintro e w1 ⟨rfl, hb1⟩)
  go_ret
  refine ⟨?_, ((Below.refl _ _).alloc (Nat.le_refl _) _).trans (hb1.mono (by simp))⟩
  rw [← HE.out]
  rfl
set_option maxHeartbeats 400000 in
theorem ropen_short (b : ByteArray) (hb : b.size < 2) (w : World) :
    Calls Tryd.prog 34 #[.string b] w fun e w' => e = .returned (.tuple #[.string ⟨#[]⟩, .int .i64 4]) ∧ w' = w := by
  go_enter Tryd.func34, Tryd.ntmps34
  go_wp2
  go_ret2
  exact ⟨rfl, rfl⟩
set_option maxHeartbeats 400000 in
theorem ropen_sum (b : ByteArray) (h2 : 2 ≤ b.size) (hb : b.size ≤ 1000000000000000) (hne : sealS (b.extract 0 (b.size - 2)) ≠ b) (w : World) :
    Calls Tryd.prog 34 #[.string b] w fun e w' => e = .returned (.tuple #[.string ⟨#[]⟩, .int .i64 5]) ∧ Below w.heap.size w w' := by
  have hs : (b.extract 0 (b.size - 2)).size ≤ 1000000000000000 := by rw [ahead_size]; omega
  have hq := str_ne hne
  go_enter Tryd.func34, Tryd.ntmps34
  go_wp2_with (go_at_call 29; refine (rseal_any _ hs _).mono ?_; rintro e w1 ⟨rfl, hb1⟩)
  go_ret2
  exact ⟨rfl, hb1⟩
set_option maxHeartbeats 400000 in
theorem ropen_ok (b : ByteArray) (h2 : 2 ≤ b.size) (hb : b.size ≤ 1000000000000000) (he : sealS (b.extract 0 (b.size - 2)) = b) (w : World) :
    Calls Tryd.prog 34 #[.string b] w fun e w' => e = .returned (.tuple #[.string (b.extract 0 (b.size - 2)), .int .i64 0]) ∧ Below w.heap.size w w' := by
  have hs : (b.extract 0 (b.size - 2)).size ≤ 1000000000000000 := by rw [ahead_size]; omega
  have hq := str_eq he
  have HE := hidIn he
  clear he
  go_enter Tryd.func34, Tryd.ntmps34
  go_wp2_with (go_at_call 29; refine (rseal_any _ hs _).mono ?_; rintro e w1 ⟨rfl, hb1⟩)
  go_ret2
  exact ⟨rfl, hb1⟩
theorem open_both (b : ByteArray) (hb : b.size ≤ 200000000000000) :
    ∃ (s : ByteArray) (e : Int), (∀ w, Calls Tryd.prog 32 #[.string b] w fun r w' => r = .returned (.tuple #[.string s, .int .i64 e]) ∧ Below w.heap.size w w') ∧
      (∀ w, Calls Tryd.prog 34 #[.string b] w fun r w' => r = .returned (.tuple #[.string s, .int .i64 e]) ∧ Below w.heap.size w w') := by
  by_cases h2 : b.size < 2
  · refine ⟨⟨#[]⟩, 4, fun w => (open_short b h2 w).mono ?_, fun w => (ropen_short b h2 w).mono ?_⟩
    all_goals
      rintro e w' ⟨rfl, rfl⟩
      exact ⟨rfl, Below.refl _ _⟩
  · by_cases he : sealS (b.extract 0 (b.size - 2)) = b
    · exact ⟨_, _, fun w => open_ok' b (by omega) hb he w, fun w => ropen_ok b (by omega) (by omega) he w⟩
    · exact ⟨_, _, fun w => open_sum b (by omega) (by omega) he w, fun w => ropen_sum b (by omega) (by omega) he w⟩
end Go.Proofs.YtgfmlonhjmdfjaaDoor.Wi
namespace Go.Proofs.YtgfmlonhjmdfjaaDoor
open Go.RowKit

set_option maxRecDepth 100000 in
set_option maxHeartbeats 400000 in
theorem rdecode_nil (w : World) : Calls Tryd.prog 19 #[.string ⟨#[]⟩] w fun e w' => e = .returned (.tuple #[hd0, .int .i64 4]) ∧ Below w.heap.size w w' := by
  have hn := hasHd_zero w
  obtain ⟨c0, c1, c2, c3, c4, c5, c6, c7, c8, c9, ca, f0, f1, f2, f3, f4, f5, f6, f7, f8, f9, fa, lt⟩ := hn
  go_enter Tryd.func19, Tryd.ntmps19
  go_wp2
  refine bodyPost_ret (v := .tuple #[hd0, .int .i64 4]) ?_ rfl ⟨rfl, by go_grown⟩
  simp [results, Tryd.results19, go_sem]
set_option maxRecDepth 100000 in
set_option maxHeartbeats 400000 in
theorem rdecode_low (s : ByteArray) (h : 0 < s.size) (h1 : s[0].toNat < 16) (w : World) : Calls Tryd.prog 19 #[.string s] w fun e w' => e = .returned (.tuple #[hd0, .int .i64 4]) ∧ Below w.heap.size w w' := by
  have hz : ((s.size : Int) == 0) = false := beq_eq_false_iff_ne.2 (by omega)
  have h1' : decide ((s[0].toNat : Int) < 16) = true := by simp; omega
  have hn := hasHd_zero w
  obtain ⟨c0, c1, c2, c3, c4, c5, c6, c7, c8, c9, ca, f0, f1, f2, f3, f4, f5, f6, f7, f8, f9, fa, lt⟩ := hn
  go_enter Tryd.func19, Tryd.ntmps19
  go_wp2
  refine bodyPost_ret (v := .tuple #[hd0, .int .i64 4]) ?_ rfl ⟨rfl, by go_grown⟩
  simp [results, Tryd.results19, go_sem]
set_option maxRecDepth 100000 in
set_option maxHeartbeats 400000 in
theorem rdecode_high (s : ByteArray) (h : 0 < s.size) (h1 : 22 ≤ s[0].toNat) (w : World) : Calls Tryd.prog 19 #[.string s] w fun e w' => e = .returned (.tuple #[hd0, .int .i64 4]) ∧ Below w.heap.size w w' := by
  have hz : ((s.size : Int) == 0) = false := beq_eq_false_iff_ne.2 (by omega)
  have h1' : decide ((s[0].toNat : Int) < 16) = false := by simp; omega
  have h2' : decide ((21 : Int) < (s[0].toNat : Int)) = true := by simp; omega
  have hn := hasHd_zero w
  obtain ⟨c0, c1, c2, c3, c4, c5, c6, c7, c8, c9, ca, f0, f1, f2, f3, f4, f5, f6, f7, f8, f9, fa, lt⟩ := hn
  go_enter Tryd.func19, Tryd.ntmps19
  go_wp2
  refine bodyPost_ret (v := .tuple #[hd0, .int .i64 4]) ?_ rfl ⟨rfl, by go_grown⟩
  simp [results, Tryd.results19, go_sem]
theorem rdecode_now (s : ByteArray) (h : NoW s) (w : World) : Calls Tryd.prog 19 #[.string s] w fun e w' => e = .returned (.tuple #[hd0, .int .i64 4]) ∧ Below w.heap.size w w' := by
  rcases h with h | ⟨h, h1 | h1⟩
  · have e : s = ⟨#[]⟩ := Wi.ext_bytes (List.eq_nil_of_length_eq_zero (by simpa using h))
    rw [e]
    exact rdecode_nil w
  · exact rdecode_low s h h1 w
  · exact rdecode_high s h h1 w
theorem shl8' (c : Nat) (hc : c ≤ 5) : wrap64 (8 * 2 ^ c) = 8 * ((2 ^ c : Nat) : Int) := by
  have hcs : c = 0 ∨ c = 1 ∨ c = 2 ∨ c = 3 ∨ c = 4 ∨ c = 5 := by omega
  rcases hcs with rfl | rfl | rfl | rfl | rfl | rfl <;> decide +kernel
theorem rsize_k (k : Nat) (h : IsW (8 * (k : Int))) (w : World) :
    Calls Tryd.prog 10 #[.int .i64 (8 * (k : Int))] w fun e w' => e = .returned (.tuple #[.int .i64 (15 + (k : Int)), .int .i64 0]) ∧ w' = w := by
  have := rsize_yes (8 * (k : Int)) h w
  rw [show 15 + 8 * (k : Int) / 8 = 15 + (k : Int) from by omega] at this
  exact this
set_option maxRecDepth 100000 in
set_option maxHeartbeats 400000 in
theorem rdecode_len (s : ByteArray) (c : Nat) (hc : c ≤ 5) (h : 0 < s.size) (h1 : s[0].toNat = 16 + c) (hl : s.size ≠ 15 + 2 ^ c) (w : World) :
    Calls Tryd.prog 19 #[.string s] w fun e w' => e = .returned (.tuple #[hd0, .int .i64 4]) ∧ Below w.heap.size w w' := by
  have hz : ((s.size : Int) == 0) = false := beq_eq_false_iff_ne.2 (by omega)
  have h1' : decide ((s[0].toNat : Int) < 16) = false := by simp; omega
  have h2' : decide ((21 : Int) < (s[0].toNat : Int)) = false := by simp; omega
  have h3' : (s[0].toNat : Int) - 16 = (c : Int) := by omega
  have hsh := shl8' c hc
  have HS := hidIn (rsize_k (2 ^ c) (isW_k hc))
  have hk := k_bd hc
  clear h1
  generalize hkk : (2 : Nat) ^ c = k at *
  clear hkk
  have hne : ((s.size : Int) != 15 + (k : Int)) = true := by rw [bne_iff_ne]; omega
  clear hl
  have hn := hasHd_zero w
  go_enter Tryd.func19, Tryd.ntmps19
  go_wp2_with fail
  refine (HS.out _).mono ?_
  rintro e w1 ⟨rfl, hw⟩
  replace hw := hw.symm
  subst hw
  obtain ⟨c0, c1, c2, c3, c4, c5, c6, c7, c8, c9, ca, f0, f1, f2, f3, f4, f5, f6, f7, f8, f9, fa, lt⟩ := hn
  go_wp2
  refine bodyPost_ret (v := .tuple #[hd0, .int .i64 4]) ?_ rfl ⟨rfl, by go_grown⟩
  simp [results, Tryd.results19, go_sem]
set_option maxRecDepth 100000 in
set_option maxHeartbeats 400000 in
theorem rdecode_sum (s : ByteArray) (c : Nat) (hc : c ≤ 5) (h : 0 < s.size) (h1 : s[0].toNat = 16 + c) (hl : s.size = 15 + 2 ^ c) (hne : Wi.sealS (s.extract 0 (s.size - 2)) ≠ s) (w : World) :
    Calls Tryd.prog 19 #[.string s] w fun e w' => e = .returned (.tuple #[hd0, .int .i64 5]) ∧ Below w.heap.size w w' := by
  have hz : ((s.size : Int) == 0) = false := beq_eq_false_iff_ne.2 (by omega)
  have h1' : decide ((s[0].toNat : Int) < 16) = false := by simp; omega
  have h2' : decide ((21 : Int) < (s[0].toNat : Int)) = false := by simp; omega
  have h3' : (s[0].toNat : Int) - 16 = (c : Int) := by omega
  have hsh := shl8' c hc
  have HS := hidIn (rsize_k (2 ^ c) (isW_k hc))
  have hk := k_bd hc
  have HO := hidIn (Wi.ropen_sum s (by omega) (by omega) hne)
  clear h1 hne
  generalize hkk : (2 : Nat) ^ c = k at *
  clear hkk
  have hle : ((s.size : Int) != 15 + (k : Int)) = false := by rw [bne_eq_false_iff_eq]; omega
  have HH := hidIn hl
  clear hl
  have hn := hasHd_zero w
  go_enter Tryd.func19, Tryd.ntmps19
  go_wp2_with fail
  refine (HS.out _).mono ?_
  rintro e w1 ⟨rfl, hw⟩
  replace hw := hw.symm
  subst hw
  go_wp2_with fail
  refine (HO.out _).mono ?_
  rintro e w2 ⟨rfl, hb2⟩
  obtain ⟨c0, c1, c2, c3, c4, c5, c6, c7, c8, c9, ca, f0, f1, f2, f3, f4, f5, f6, f7, f8, f9, fa, lt⟩ := hn.keep hb2 hn.lt
  have hB2 : Below w.heap.size w w2 := ((Below.refl _ w).alloc (Nat.le_refl _) _).trans (hb2.mono (by simp))
  clear hn hb2
  go_wp2
  refine bodyPost_ret (v := .tuple #[hd0, .int .i64 5]) ?_ rfl ⟨rfl, below_putHd hB2 (Nat.le_refl _) _ _ _ _ _ _ _ _ _ _ _⟩
  simp [results, Tryd.results19, go_sem, *]
end Go.Proofs.YtgfmlonhjmdfjaaDoor
namespace Go.Proofs.YtgfmlonhjmdfjaaDoor
open Go.RowKit

theorem tk_extract4 (b : ByteArray) (a : Nat) : Wi.tk (b.extract a (a + 4)) 0 4 = Wi.tk b a 4 := by
  simp only [tk4, extract_data, Nat.zero_add]
  have e : ∀ j, j < 4 → ((b.data.toList.take (a + 4)).drop a).getD j 0 = b.data.toList.getD (a + j) 0 := by
    intro j hj
    rw [List.getD_eq_getElem?_getD, List.getD_eq_getElem?_getD, List.getElem?_drop, List.getElem?_take]
    rw [if_pos (by omega)]
  have e0 := e 0 (by decide)
  rw [e0, e 1 (by decide), e 2 (by decide), e 3 (by decide), Nat.add_zero]
set_option maxHeartbeats 1000000 in
theorem number_draws (a b c d : UInt8) (w : World) :
    Calls Tryd.prog 35 #[.string ⟨#[a, b, c, d]⟩] w fun e w' => e = .returned (.int .u32 (Wi.tk ⟨#[a, b, c, d]⟩ 0 4 : Nat)) ∧ ∃ nq, w' = w.drewN nq := by
  go_enter Tryd.func35, Tryd.ntmps35
  go_wp2_with fail
  go_quiet (fail)
  go_wp2
  go_ret
  refine ⟨?_, nq, rfl⟩
  have h := num4 a.toNat b.toNat c.toNat d.toNat a.toNat_lt b.toNat_lt c.toNat_lt d.toNat_lt
  have ht : Wi.tk ⟨#[a, b, c, d]⟩ 0 4 = ((a.toNat * 256 + b.toNat) * 256 + c.toNat) * 256 + d.toNat := by rw [tk4']; rfl
  rw [ht, ← h]
  rfl
theorem number_dr (s : ByteArray) (hs : s.size = 4) (w : World) :
    Calls Tryd.prog 35 #[.string s] w fun e w' => e = .returned (.int .u32 (Wi.tk s 0 4 : Nat)) ∧ ∃ nq, w' = w.drewN nq := by
  obtain ⟨a, b, c, d, rfl⟩ : ∃ a b c d, s = ⟨#[a, b, c, d]⟩ := by
    obtain ⟨x⟩ := s
    obtain ⟨a, b, c, d, rfl⟩ := Joins.array4 (cs := x) hs
    exact ⟨a, b, c, d, rfl⟩
  exact number_draws a b c d w
theorem tk_at (b : ByteArray) (i : Nat) (h : i < b.size) : Wi.tk b i 1 = b[i].toNat := by rw [tk1, Wi.byteAt b i h]

end Go.Proofs.YtgfmlonhjmdfjaaDoor
namespace Go.Proofs.YtgfmlonhjmdfjaaDoor
open Go.RowKit

theorem HasHd.putAll {w : World} {b : Nat} {W S E H O G I : Int} {N : Nat} (h : HasHd w b W S E H O G I N) (W' S' E' H' O' G' I' : Int) (N' : Nat) : HasHd (World.putHd w b W' S' E' H' O' G' I' (wd N' 0) (wd N' 1) (wd N' 2) (wd N' 3)) b W' S' E' H' O' G' I' N' := by
  obtain ⟨c0, c1, c2, c3, c4, c5, c6, c7, c8, c9, ca, f0, f1, f2, f3, f4, f5, f6, f7, f8, f9, fa, lt⟩ := h
  refine ⟨?_, ?_, ?_, ?_, ?_, ?_, ?_, ?_, ?_, ?_, ?_, ?_, ?_, ?_, ?_, ?_, ?_, ?_, ?_, ?_, ?_, ?_, ?_⟩
  all_goals simp [*, go_sem]
theorem eq_self (W S E H O G I : Int) (N : Nat) (hN : N < 2 ^ 256) (w : World) : (Op.equalIn 10000 27 (hd W S E H O G I N) (hd W S E H O G I N)).run Tryd.prog w = Result.ok true w := by
  rw [eq_hd _ _ _ _ _ _ _ _ _ _ _ _ _ _ _ _ hN hN]
  simp
theorem wpk (k : Nat) : 15 + (k : Int) = ((15 + k : Nat) : Int) := by omega

end Go.Proofs.YtgfmlonhjmdfjaaDoor
namespace Go.Proofs.YtgfmlonhjmdfjaaDoor
open Go.RowKit

theorem u8w (x : UInt8) : IntKind.i64.wrap (x.toNat : Int) = (x.toNat : Int) := by rw [IntKind.wrap_i64]; have := x.toNat_lt; omega
theorem hdz (w : World) (n : Nat) : HasHd ((w.drewN n).alloc hob0) w.heap.size 0 0 0 0 0 0 0 0 := hasHd_zero (w.drewN n)
theorem below_d (w : World) (n : Nat) : Below w.heap.size w (w.drewN n) := ⟨rfl, rfl, rfl, Nat.le_refl _, fun _ _ => rfl⟩
theorem hdz2 (w : World) (n m : Nat) : HasHd (((w.drewN n).alloc hob0).drewN m) w.heap.size 0 0 0 0 0 0 0 0 := (hdz w n).keep (below_d _ m) (hdz w n).lt
theorem hdz3 (w : World) (n : Nat) : HasHd ((w.alloc hob0).drewN n) w.heap.size 0 0 0 0 0 0 0 0 := (hasHd_zero w).keep (below_d _ n) (hasHd_zero w).lt
theorem ext4_size (b : ByteArray) (a : Nat) (h : a + 4 ≤ b.size) : (b.extract a (a + 4)).size = 4 := by rw [ByteArray.size_extract]; omega
set_option maxRecDepth 100000 in
set_option maxHeartbeats 4000000 in
theorem rdecode_right (s b : ByteArray) (c : Nat) (hc : c ≤ 5) (h : 0 < s.size) (h1 : s[0].toNat = 16 + c) (hl : s.size = 15 + 2 ^ c) (hb : b = s.extract 0 (s.size - 2)) (he : Wi.sealS (s.extract 0 (s.size - 2)) = s) (w : World) :
    Calls Tryd.prog 19 #[.string s] w fun e w' => ((OkB b (2 ^ c) ∧ e = .returned (.tuple #[hd (8 * ((2 ^ c : Nat) : Int)) (Wi.tk b 1 1) (Wi.tk b 2 4) (Wi.tk b 6 1) (Wi.tk b 7 1) (Wi.tk b 8 1) (Wi.tk b 9 4) (dN b (2 ^ c)), .int .i64 0])) ∨ (¬ OkB b (2 ^ c) ∧ e = .returned (.tuple #[hd0, .int .i64 4]))) ∧ Below w.heap.size w w' := by
  have hz : ((s.size : Int) == 0) = false := beq_eq_false_iff_ne.2 (by omega)
  have h1' : decide ((s[0].toNat : Int) < 16) = false := by simp; omega
  have h2' : decide ((21 : Int) < (s[0].toNat : Int)) = false := by simp; omega
  have h3' : (s[0].toNat : Int) - 16 = (c : Int) := by omega
  have hsh := shl8' c hc
  have HS := hidIn (rsize_k (2 ^ c) (isW_k hc))
  have hk := k_bd hc
  have hO := Wi.ropen_ok s (by omega) (by omega) he
  rw [← hb] at hO
  have HO := hidIn hO
  have hbs : b.size = 13 + 2 ^ c := by rw [hb, Wi.ahead_size]; omega
  clear hO
  have hR := rread_ok (b.extract 13 b.size) (by rw [ByteArray.size_extract]; omega) (by rw [ByteArray.size_extract]; omega)
  rw [show (b.extract 13 b.size).size = 2 ^ c from by rw [ByteArray.size_extract]; omega] at hR
  change ∀ w : World, Calls Tryd.prog 36 #[.string (b.extract 13 b.size)] w fun e w' => e = .returned (.tuple #[bs (dN b (2 ^ c)), .int .i64 0]) ∧ Below w.heap.size w w' at hR
  have HR := hidIn hR
  clear hR
  have hN1 := number_dr (b.extract 2 6) (ext4_size b 2 (by omega))
  rw [show (6 : Nat) = 2 + 4 from rfl, tk_extract4 b 2] at hN1
  have hN2 := number_dr (b.extract 9 13) (ext4_size b 9 (by omega))
  rw [show (13 : Nat) = 9 + 4 from rfl, tk_extract4 b 9] at hN2
  simp only [Nat.reduceAdd] at hN1 hN2
  have HN1 := hidIn hN1
  have HN2 := hidIn hN2
  clear hN1 hN2
  have g1 : 1 < b.size := by omega
  have g6 : 6 < b.size := by omega
  have g7 : 7 < b.size := by omega
  have g8 : 8 < b.size := by omega
  have t1 := tk_at b 1 g1
  have t6 := tk_at b 6 g6
  have t7 := tk_at b 7 g7
  have t8 := tk_at b 8 g8
  have HOk : Hid (∀ w, Calls Tryd.prog 6 #[hd (8 * ((2 ^ c : Nat) : Int)) (Wi.tk b 1 1) (Wi.tk b 2 4) (Wi.tk b 6 1) (Wi.tk b 7 1) (Wi.tk b 8 1) (Wi.tk b 9 4) (dN b (2 ^ c))] w fun e w' => ((OkB b (2 ^ c) ∧ e = .returned (.int .i64 0)) ∨ (¬ OkB b (2 ^ c) ∧ e = .returned (.int .i64 2))) ∧ Below w.heap.size w w') := hidIn (fun w => by
    by_cases hok : OkB b (2 ^ c)
    · exact (rcheck_ok _ _ _ _ _ _ _ _ (dN_lt b (2 ^ c) hk.2) hok w).mono fun e w' ⟨h1, h2⟩ => ⟨.inl ⟨hok, h1⟩, h2⟩
    · exact (rcheck_bad _ _ _ _ _ _ _ _ (dN_lt b (2 ^ c) hk.2) hok w).mono fun e w' ⟨h1, h2⟩ => ⟨.inr ⟨hok, h1⟩, h2⟩)
  generalize OkB b (2 ^ c) = Ok at *
  generalize dN b (2 ^ c) = N at *
  rw [t1, t6, t7, t8] at HOk
  rw [t1, t6, t7, t8]
  clear t1 t6 t7 t8
  generalize Wi.tk b 2 4 = E at *
  generalize Wi.tk b 9 4 = I at *
  clear h1 he hb
  generalize hkk : (2 : Nat) ^ c = k at *
  clear hkk
  have hle : ((s.size : Int) != 15 + (k : Int)) = false := by rw [bne_eq_false_iff_eq]; omega
  have i1 : (1 : Int) < (b.size : Int) := by omega
  have i6 : (6 : Int) < (b.size : Int) := by omega
  have i7 : (7 : Int) < (b.size : Int) := by omega
  have i8 : (8 : Int) < (b.size : Int) := by omega
  have j6 : (6 : Int) ≤ (b.size : Int) := by omega
  have j13 : (13 : Int) ≤ (b.size : Int) := by omega
  have HH := hidIn hl
  have HB := hidIn hbs
  clear hl hbs
  have hn := hasHd_zero w
  go_enter Tryd.func19, Tryd.ntmps19
  go_wp2_with fail
  refine (HS.out _).mono ?_
  rintro e w1 ⟨rfl, hw⟩
  replace hw := hw.symm
  subst hw
  go_wp2_with fail
  refine (HO.out _).mono ?_
  rintro e w2 ⟨rfl, hb2⟩
  have hn2 := hn.keep hb2 hn.lt
  have hB2 : Below w.heap.size w w2 := ((Below.refl _ w).alloc (Nat.le_refl _) _).trans (hb2.mono (by simp))
  have HZ : Hid (w.heap.size < w2.heap.size) := hidIn hn2.lt
  clear hn hb2 hz h1' h2' h3' hsh hle HS HO
  have HN2' := hidIn (And.intro hn2 hB2)
  clear hn2 hB2
  go_upto_region 10 with fail
  go_cut [9] (fun p wx => p = .pointer (some ⟨w2.heap.size, 0, none⟩) ∧ HasHd wx w2.heap.size (8 * (k : Int)) (b[1].toNat : Nat) (E : Nat) (b[6].toNat : Nat) (b[7].toNat : Nat) (b[8].toNat : Nat) (I : Nat) 0 ∧ Below w2.heap.size w2 wx)
  case first =>
    have e1 := u8w b[1]
    have e6 := u8w b[6]
    have e7 := u8w b[7]
    have e8 := u8w b[8]
    have zc0 := fun n => (hdz w2 n).c0
    have zc1 := fun n => (hdz w2 n).c1
    have zc2 := fun n => (hdz w2 n).c2
    have zc3 := fun n => (hdz w2 n).c3
    have zc4 := fun n => (hdz w2 n).c4
    have zc5 := fun n => (hdz w2 n).c5
    have zc6 := fun n => (hdz w2 n).c6
    have zc7 := fun n => (hdz w2 n).c7
    have zc8 := fun n => (hdz w2 n).c8
    have zc9 := fun n => (hdz w2 n).c9
    have zca := fun n => (hdz w2 n).ca
    have zf0 := fun n => (hdz w2 n).f0
    have zf1 := fun n => (hdz w2 n).f1
    have zf2 := fun n => (hdz w2 n).f2
    have zf3 := fun n => (hdz w2 n).f3
    have zf4 := fun n => (hdz w2 n).f4
    have zf5 := fun n => (hdz w2 n).f5
    have zf6 := fun n => (hdz w2 n).f6
    have zf7 := fun n => (hdz w2 n).f7
    have zf8 := fun n => (hdz w2 n).f8
    have zf9 := fun n => (hdz w2 n).f9
    have zfa := fun n => (hdz w2 n).fa
    refine wp_region_any (by kernel_rfl) ?_
    try (change wpAny _ _ _ _ _ _ _ (World.drew _))
    refine wpAny_take (i := 0) (v := ?_) rfl (by kernel_rfl) (by kernel_rfl) (by kernel_rfl) (fun _ _ _ h => h) (Or.inl ⟨by rfl, ?_⟩) ?_
    rotate_left
    · intro w
      go_simp
      try (with_reducible rfl)
    refine wpAny_take (i := 1) (v := ?_) rfl (by kernel_rfl) (by kernel_rfl) (by kernel_rfl) (fun _ _ _ h => h) (Or.inl ⟨by rfl, ?_⟩) ?_
    rotate_left
    · intro w
      go_simp
      try (with_reducible rfl)
    refine wpAny_take (i := 2) (v := ?_) rfl (by kernel_rfl) (by kernel_rfl) (by kernel_rfl) (fun _ _ _ h => h) (Or.inl ⟨by rfl, ?_⟩) ?_
    rotate_left
    · intro w
      go_simp
      try (with_reducible rfl)
    refine wpAny_take (i := 3) (v := ?_) rfl (by kernel_rfl) (by kernel_rfl) (by kernel_rfl) (fun _ _ _ h => h) (Or.inl ⟨by rfl, ?_⟩) ?_
    rotate_left
    · intro w
      go_simp
      try (with_reducible rfl)
    refine wpAny_take (i := 4) (v := ?_) rfl (by kernel_rfl) (by kernel_rfl) (by kernel_rfl) (fun _ _ _ h => h) (Or.inl ⟨by rfl, ?_⟩) ?_
    rotate_left
    · intro w
      go_simp
      try (with_reducible rfl)
    refine wpAny_take (i := 5) (v := ?_) rfl (by kernel_rfl) (by kernel_rfl) (by kernel_rfl) (fun _ _ _ h => h) (Or.inl ⟨by rfl, ?_⟩) ?_
    rotate_left
    · intro w
      go_simp
      try (with_reducible rfl)
    refine wpAny_take (i := 7) (v := ?_) rfl (by kernel_rfl) (by kernel_rfl) (by kernel_rfl) (fun _ _ _ h => h) (Or.inl ⟨by rfl, ?_⟩) ?_
    rotate_left
    · intro w
      go_simp
      try (with_reducible rfl)
    refine wpAny_take (i := 8) (v := ?_) rfl (by kernel_rfl) (by kernel_rfl) (by kernel_rfl) (fun _ _ _ h => h) (Or.inl ⟨by rfl, ?_⟩) ?_
    rotate_left
    · intro w
      go_simp
      try (with_reducible rfl)
    refine wpAny_take (i := 9) (v := ?_) rfl (by kernel_rfl) (by kernel_rfl) (by kernel_rfl) (fun _ _ _ h => h) (Or.inl ⟨by rfl, ?_⟩) ?_
    rotate_left
    · intro w
      go_simp
      try (with_reducible rfl)
    refine wpAny_take (i := 10) (v := ?_) rfl (by kernel_rfl) (by kernel_rfl) (by kernel_rfl) (fun _ _ _ h => h) (Or.inl ⟨by rfl, ?_⟩) ?_
    rotate_left
    · intro w
      go_simp
      try (with_reducible rfl)
    refine wpAny_take (i := 11) (v := ?_) rfl (by kernel_rfl) (by kernel_rfl) (by kernel_rfl) (fun _ _ _ h => h) (Or.inl ⟨by rfl, ?_⟩) ?_
    rotate_left
    · intro w
      go_simp
      try (with_reducible rfl)
    refine wpAny_take (i := 12) (v := ?_) rfl (by kernel_rfl) (by kernel_rfl) (by kernel_rfl) (fun _ _ _ h => h) (Or.inl ⟨by rfl, ?_⟩) ?_
    rotate_left
    · intro w
      go_simp
      try (with_reducible rfl)
    refine wpAny_take (i := 13) (v := ?_) rfl (by kernel_rfl) (by kernel_rfl) (by kernel_rfl) (fun _ _ _ h => h) (Or.inl ⟨by rfl, ?_⟩) ?_
    rotate_left
    · intro w
      go_simp
      try (with_reducible rfl)
    refine wpAny_take (i := 14) (v := ?_) rfl (by kernel_rfl) (by kernel_rfl) (by kernel_rfl) (fun _ _ _ h => h) (Or.inl ⟨by rfl, ?_⟩) ?_
    rotate_left
    · intro w
      go_simp
      try (with_reducible rfl)
    refine wpAny_take (i := 15) (v := ?_) rfl (by kernel_rfl) (by kernel_rfl) (by kernel_rfl) (fun _ _ _ h => h) (Or.inl ⟨by rfl, ?_⟩) ?_
    rotate_left
    · intro w
      go_simp
      try (with_reducible rfl)
    refine wpAny_take (i := 16) (v := ?_) rfl (by kernel_rfl) (by kernel_rfl) (by kernel_rfl) (fun _ _ _ h => h) (Or.inl ⟨by rfl, ?_⟩) ?_
    rotate_left
    · intro w
      go_simp
      try (with_reducible rfl)
    refine wpAny_take (i := 17) (v := ?_) rfl (by kernel_rfl) (by kernel_rfl) (by kernel_rfl) (fun _ _ _ h => h) (Or.inl ⟨by rfl, ?_⟩) ?_
    rotate_left
    · intro w
      go_simp
      try (with_reducible rfl)
    refine wpAny_ready (rs := [6, 20]) (by kernel_rfl) (by simp) ?_
    refine AllReady.cons rfl (fun K hK => ?_) ?_
    · skip
      go_simp
      refine (HN1.out _).mono ?_
      rintro e wa ⟨rfl, na, hw⟩
      subst hw
      refine hK _ _ ?_
      clear hK K
      refine wpAny_ready (rs := [18, 20]) (by kernel_rfl) (by simp) ?_
      refine AllReady.cons rfl (fun K hK => ?_) ?_
      · skip
        go_simp
        refine (HN2.out _).mono ?_
        rintro e wb ⟨rfl, nb, hw⟩
        subst hw
        refine hK _ _ ?_
        clear hK K
        refine wpAny_take (i := 19) (v := ?_) rfl (by kernel_rfl) (by kernel_rfl) (by kernel_rfl) (fun _ _ _ h => h) (Or.inl ⟨by rfl, ?_⟩) ?_
        rotate_left
        · intro w
          go_simp
          try (with_reducible rfl)
        refine wpAny_ready (rs := [20]) (by kernel_rfl) (by simp) ?_
        refine AllReady.cons rfl (fun K hK => ?_) AllReady.nil
        go_simp
        refine hK _ _ ?_
        clear hK K
        refine wpAny_ready (rs := [21]) (by kernel_rfl) (by simp) ?_
        refine AllReady.cons rfl (fun K hK => ?_) AllReady.nil
        go_simp
        refine hK _ _ ?_
        clear hK K
        refine wpAny_done (by kernel_rfl) ?_ _
        go_wp2_with fail
        go_meet
        exact ⟨rfl, (hdz w2 (1 + na + nb)).putAll (8 * (k : Int)) (b[1].toNat : Nat) (E : Nat) (b[6].toNat : Nat) (b[7].toNat : Nat) (b[8].toNat : Nat) (I : Nat) 0, below_putHd ((below_d w2 (1 + na + nb)).alloc (Nat.le_refl _) hob0) (Nat.le_refl _) _ _ _ _ _ _ _ _ _ _ _⟩
      · refine AllReady.cons rfl (fun K hK => ?_) AllReady.nil
        go_simp
        refine hK _ _ ?_
        clear hK K
        refine wpAny_ready (rs := [18]) (by kernel_rfl) (by simp) ?_
        refine AllReady.cons rfl (fun K hK => ?_) AllReady.nil
        go_simp
        refine (HN2.out _).mono ?_
        rintro e wb ⟨rfl, nb, hw⟩
        subst hw
        refine hK _ _ ?_
        clear hK K
        refine wpAny_take (i := 19) (v := ?_) rfl (by kernel_rfl) (by kernel_rfl) (by kernel_rfl) (fun _ _ _ h => h) (Or.inl ⟨by rfl, ?_⟩) ?_
        rotate_left
        · intro w
          go_simp
          try (with_reducible rfl)
        refine wpAny_ready (rs := [21]) (by kernel_rfl) (by simp) ?_
        refine AllReady.cons rfl (fun K hK => ?_) AllReady.nil
        go_simp
        refine hK _ _ ?_
        clear hK K
        refine wpAny_done (by kernel_rfl) ?_ _
        go_wp2_with fail
        go_meet
        exact ⟨rfl, (hdz2 w2 (1 + na) nb).putAll (8 * (k : Int)) (b[1].toNat : Nat) (E : Nat) (b[6].toNat : Nat) (b[7].toNat : Nat) (b[8].toNat : Nat) (I : Nat) 0, below_putHd (((below_d w2 (1 + na)).alloc (Nat.le_refl _) hob0).trans ((below_d _ nb).mono (by simp))) (Nat.le_refl _) _ _ _ _ _ _ _ _ _ _ _⟩
    · refine AllReady.cons rfl (fun K hK => ?_) AllReady.nil
      go_simp
      refine hK _ _ ?_
      clear hK K
      refine wpAny_ready (rs := [6]) (by kernel_rfl) (by simp) ?_
      refine AllReady.cons rfl (fun K hK => ?_) AllReady.nil
      go_simp
      refine (HN1.out _).mono ?_
      rintro e wa ⟨rfl, na, hw⟩
      subst hw
      refine hK _ _ ?_
      clear hK K
      refine wpAny_ready (rs := [18]) (by kernel_rfl) (by simp) ?_
      refine AllReady.cons rfl (fun K hK => ?_) AllReady.nil
      go_simp
      refine (HN2.out _).mono ?_
      rintro e wb ⟨rfl, nb, hw⟩
      subst hw
      refine hK _ _ ?_
      clear hK K
      refine wpAny_take (i := 19) (v := ?_) rfl (by kernel_rfl) (by kernel_rfl) (by kernel_rfl) (fun _ _ _ h => h) (Or.inl ⟨by rfl, ?_⟩) ?_
      rotate_left
      · intro w
        go_simp
        try (with_reducible rfl)
      refine wpAny_ready (rs := [21]) (by kernel_rfl) (by simp) ?_
      refine AllReady.cons rfl (fun K hK => ?_) AllReady.nil
      go_simp
      refine hK _ _ ?_
      clear hK K
      refine wpAny_done (by kernel_rfl) ?_ _
      go_wp2_with fail
      go_meet
      exact ⟨rfl, (hdz3 w2 (1 + na + nb)).putAll (8 * (k : Int)) (b[1].toNat : Nat) (E : Nat) (b[6].toNat : Nat) (b[7].toNat : Nat) (b[8].toNat : Nat) (I : Nat) 0, below_putHd (((Below.refl _ w2).alloc (Nat.le_refl _) hob0).trans ((below_d _ (1 + na + nb)).mono (by simp))) (Nat.le_refl _) _ _ _ _ _ _ _ _ _ _ _⟩
  case rest =>
    obtain ⟨rfl, hn, hb⟩ := hcut
    obtain ⟨hz2, hB2⟩ := HN2'.out
    have hz3 := hz2.keep hb hz2.lt
    have hB3 : Below w.heap.size w wc := hB2.trans (hb.mono hB2.size)
    have hzw : w.heap.size < w2.heap.size := HZ.out
    clear hz2 hB2 HN2' HN1 HN2 hb HZ i1 i6 i7 i8 j6
    generalize w2.heap.size = g at *
    go_wp2_with fail
    refine (HR.out _).mono ?_
    rintro e w4 ⟨rfl, hb4⟩
    have hn4 := hn.keep hb4 hn.lt
    have hz4 := hz3.keep hb4 hz3.lt
    have hB4 : Below w.heap.size w w4 := hB3.trans (hb4.mono hB3.size)
    clear hn hz3 hb4 hB3 HR
    have k7 := hn4.c7
    have k8 := hn4.c8
    have k9 := hn4.c9
    have ka := hn4.ca
    have l7 := hn4.f7
    have l8 := hn4.f8
    have l9 := hn4.f9
    have la := hn4.fa
    have hn5 := hn4.setN N
    have hz5 := (((hz4.other (show g ≠ w.heap.size by omega) 7 (.int .u64 (wd N 0))).other (show g ≠ w.heap.size by omega) 8 (.int .u64 (wd N 1))).other (show g ≠ w.heap.size by omega) 9 (.int .u64 (wd N 2))).other (show g ≠ w.heap.size by omega) 10 (.int .u64 (wd N 3))
    have hB5 := (((hB4.setCell (p := ⟨g, 7, none⟩) (show w.heap.size ≤ g by omega) (.int .u64 (wd N 0))).setCell (p := ⟨g, 8, none⟩) (show w.heap.size ≤ g by omega) (.int .u64 (wd N 1))).setCell (p := ⟨g, 9, none⟩) (show w.heap.size ≤ g by omega) (.int .u64 (wd N 2))).setCell (p := ⟨g, 10, none⟩) (show w.heap.size ≤ g by omega) (.int .u64 (wd N 3))
    have H5 := hidIn (And.intro hn5 (And.intro hz5 hB5))
    clear hn4 hz4 hB4 hn5 hz5 hB5
    go_upto_region 12 with fail
    clear k7 k8 k9 ka l7 l8 l9 la
    generalize World.setCell _ _ _ = w5 at H5 ⊢
    obtain ⟨hn5, hz5, hB5⟩ := H5.out
    clear H5
    have e0 := hn5.c0
    have e1 := hn5.c1
    have e2 := hn5.c2
    have e3 := hn5.c3
    have e4 := hn5.c4
    have e5 := hn5.c5
    have e6 := hn5.c6
    have e7 := hn5.c7
    have e8 := hn5.c8
    have e9 := hn5.c9
    have ea := hn5.ca
    go_wp2_with fail
    refine (HOk.out _).mono ?_
    rintro e w6 ⟨hor, hb6⟩
    have hn6 := hn5.keep hb6 hn5.lt
    have hz6 := hz5.keep hb6 hz5.lt
    have hB6 : Below w.heap.size w w6 := hB5.trans (hb6.mono hB5.size)
    clear e0 e1 e2 e3 e4 e5 e6 e7 e8 e9 ea hn5 hz5 hB5 hb6 HOk
    obtain ⟨c0, c1, c2, c3, c4, c5, c6, c7, c8, c9, ca, f0, f1, f2, f3, f4, f5, f6, f7, f8, f9, fa, lt⟩ := hz6
    obtain ⟨d0, d1, d2, d3, d4, d5, d6, d7, d8, d9, da, g0, g1', g2, g3, g4, g5, g6', g7', g8', g9, ga, lt'⟩ := hn6
    clear g0 g1' g2 g3 g4 g5 g6' g7' g8' g9 ga
    rcases hor with ⟨hok, rfl⟩ | ⟨hno, rfl⟩
    · go_wp2
      refine bodyPost_ret (v := .tuple #[hd (8 * (k : Int)) (b[1].toNat : Nat) E (b[6].toNat : Nat) (b[7].toNat : Nat) (b[8].toNat : Nat) I N, .int .i64 0]) ?_ rfl ⟨.inl ⟨hok, rfl⟩, below_putHd hB6 (Nat.le_refl _) _ _ _ _ _ _ _ _ _ _ _⟩
      simp [results, Tryd.results19, go_sem, *]
    · go_wp2
      refine bodyPost_ret (v := .tuple #[hd0, .int .i64 4]) ?_ rfl ⟨.inr ⟨hno, rfl⟩, below_putHd hB6 (Nat.le_refl _) _ _ _ _ _ _ _ _ _ _ _⟩
      simp [results, Tryd.results19, go_sem, *]
end Go.Proofs.YtgfmlonhjmdfjaaDoor
namespace Go.Proofs.YtgfmlonhjmdfjaaDoor
open Go.RowKit

/-- **Any bytes: both answer the same.** -/
theorem dec_both (Y : ByteArray) : ∃ (W S E H O G I : Int) (N : Nat) (x : Int), N < 2 ^ 256 ∧
    (∀ w, Wid w → Calls Tryd.prog 18 #[.string Y] w fun e w' => e = .returned (.tuple #[hd W S E H O G I N, .int .i64 x]) ∧ Below w.heap.size w w') ∧
    (∀ w, Calls Tryd.prog 19 #[.string Y] w fun e w' => e = .returned (.tuple #[hd W S E H O G I N, .int .i64 x]) ∧ Below w.heap.size w w') := by
  by_cases hn : NoW Y
  · refine ⟨0, 0, 0, 0, 0, 0, 0, 0, 4, Nat.two_pow_pos 256, ?_, ?_⟩
    · rw [hd0_eq]; exact fun w ht => decode_now Y hn w ht
    · rw [hd0_eq]; exact fun w => rdecode_now Y hn w
  · obtain ⟨h0, c, hc, h1⟩ : ∃ h0 : 0 < Y.size, ∃ c, c ≤ 5 ∧ Y[0].toNat = 16 + c := by
      have h0 : 0 < Y.size := by
        rcases Nat.eq_zero_or_pos Y.size with e | e
        · exact absurd (.inl e) hn
        · exact e
      have h2 : ¬ (Y[0].toNat < 16 ∨ 22 ≤ Y[0].toNat) := fun e => hn (.inr ⟨h0, e⟩)
      exact ⟨h0, Y[0].toNat - 16, by omega, by omega⟩
    by_cases hl : Y.size = 15 + 2 ^ c
    · have hk := k_bd hc
      obtain ⟨b, hb⟩ : ∃ b, b = Y.extract 0 (Y.size - 2) := ⟨_, rfl⟩
      by_cases hs : Wi.sealS (Y.extract 0 (Y.size - 2)) = Y
      · have he : Wi.sealS b = Y := by rw [hb]; exact hs
        by_cases hok : OkB b (2 ^ c)
        · refine ⟨8 * ((2 ^ c : Nat) : Int), Wi.tk b 1 1, Wi.tk b 2 4, Wi.tk b 6 1, Wi.tk b 7 1, Wi.tk b 8 1, Wi.tk b 9 4, dN b (2 ^ c), 0, dN_lt b (2 ^ c) hk.2, fun w ht => decode_ok' Y b c hc h0 h1 hl he hok w ht, fun w => ?_⟩
          refine (rdecode_right Y b c hc h0 h1 hl hb hs w).mono ?_
          rintro e w' ⟨⟨_, rfl⟩ | ⟨hno, _⟩, hbl⟩
          · exact ⟨rfl, hbl⟩
          · exact absurd hok hno
        · refine ⟨0, 0, 0, 0, 0, 0, 0, 0, 4, Nat.two_pow_pos 256, ?_, ?_⟩
          · rw [hd0_eq]; exact fun w ht => decode_bad Y b c hc h0 h1 hl he hok w ht
          · rw [hd0_eq]
            intro w
            refine (rdecode_right Y b c hc h0 h1 hl hb hs w).mono ?_
            rintro e w' ⟨⟨hyes, _⟩ | ⟨_, rfl⟩, hbl⟩
            · exact absurd hyes hok
            · exact ⟨rfl, hbl⟩
      · refine ⟨0, 0, 0, 0, 0, 0, 0, 0, 5, Nat.two_pow_pos 256, ?_, ?_⟩
        · rw [hd0_eq]; exact fun w ht => decode_sum Y c hc h0 h1 hl hs w ht
        · rw [hd0_eq]; exact fun w => rdecode_sum Y c hc h0 h1 hl hs w
    · refine ⟨0, 0, 0, 0, 0, 0, 0, 0, 4, Nat.two_pow_pos 256, ?_, ?_⟩
      · rw [hd0_eq]; exact fun w ht => decode_len Y c hc h0 h1 hl w ht
      · rw [hd0_eq]; exact fun w => rdecode_len Y c hc h0 h1 hl w

set_option maxRecDepth 100000 in
set_option maxHeartbeats 2000000 in
theorem reads_walk (Y : ByteArray) (_hY : Y.size ≤ 140737488351232) (w : World) (ht : Wid w) :
    Calls Tryd.prog 4 #[.string Y] w fun e w' => e = .returned (.bool true) ∧ Below w.heap.size w w' := by
  obtain ⟨W, S, E, H, O, G, I, N, x, hN, hD, hR⟩ := dec_both Y
  have HD := hidIn hD
  have HR := hidIn hR
  have hq := eq_self W S E H O G I N hN
  clear hD hR hN
  go_enter Tryd.func4, Tryd.ntmps4
  go_wp2_with fail
  refine (HD.out _ ht).mono ?_
  rintro e w1 ⟨rfl, hb1⟩
  have hn1 := hasHd_new w1 W S E H O G I N
  have hB1 : Below w.heap.size w (w1.alloc (hob W S E H O G I N)) := hb1.trans (((Below.refl _ w1).alloc (Nat.le_refl _) _).mono hb1.size)
  have ht1 := ht.keep hB1
  clear hb1 HD
  go_wp2_with fail
  refine (HR.out _).mono ?_
  rintro e w2 ⟨rfl, hb2⟩
  have hn2 := hn1.keep hb2 hn1.lt
  have hB2 : Below w.heap.size w w2 := hB1.trans (hb2.mono hB1.size)
  have hn3 := hn2.keep ((Below.refl _ w2).alloc (Nat.le_refl _) (hob W S E H O G I N)) hn2.lt
  have hn4 := hasHd_new w2 W S E H O G I N
  have hB3 : Below w.heap.size w (w2.alloc (hob W S E H O G I N)) := hB2.alloc hB2.size _
  have ht3 := ht.keep hB3
  clear hn1 hn2 hb2 hB1 hB2 HR ht1
  obtain ⟨c0, c1, c2, c3, c4, c5, c6, c7, c8, c9, ca, f0, f1, f2, f3, f4, f5, f6, f7, f8, f9, fa, lt⟩ := hn3
  obtain ⟨d0, d1, d2, d3, d4, d5, d6, d7, d8, d9, da, g0, g1, g2, g3, g4, g5, g6, g7, g8, g9, ga, lt'⟩ := hn4
  clear f0 f1 f2 f3 f4 f5 f6 f7 f8 f9 fa g0 g1 g2 g3 g4 g5 g6 g7 g8 g9 ga
  go_wp2_with (go_at_call 17; refine (works_any _ ht3).mono ?_; rintro e w6 ⟨rfl, hb6⟩)
  go_ret
  exact ⟨rfl, hB3.trans (hb6.mono hB3.size)⟩
end Go.Proofs.YtgfmlonhjmdfjaaDoor
namespace Go.Proofs.YtgfmlonhjmdfjaaDoor
open Go.ChangeShapes Go.WideShapes Go.ChangeAt Go.RowKit

theorem own : ownKnob Tryd.prog.godebug = none := by kernel_rfl
theorem cellsBits : Tryd.prog.cellsOf 25 = 4 := by kernel_rfl
theorem cellsWord : Tryd.prog.cellsOf 23 = 1 := by kernel_rfl

/-- A bit string as a datum. -/
abbrev bsd {H : Type} (N : Nat) : DataW H := .agg [.lit (.int .u64 (wd N 0)), .lit (.int .u64 (wd N 1)), .lit (.int .u64 (wd N 2)), .lit (.int .u64 (wd N 3))]

set_option maxRecDepth 100000 in
theorem open_bits {H : Type} {enc : TypeId × Value → H} {W : World} {base : Nat} {v : Value} {d : DataW H} {p : List MemPlace}
    (hval : Value.okWide Tryd.prog W .any base 25 v) (h : DataW.Trod enc Tryd.prog W 0 (fun _ => true) true 25 v d p) : ∃ N, N < 2 ^ 256 ∧ v = bs N ∧ d = bsd N ∧ p = [] := by
  obtain ⟨cs, rfl, hsz, _⟩ : ∃ cs, v = .agg cs ∧ cs.size = Tryd.prog.cellsOf 25 ∧ Row.okWide Tryd.prog W .any base 25 cs := by
    simpa [Value.okWide, Tryd.underlying25] using hval
  rw [cellsBits] at hsz
  obtain ⟨c0, c1, c2, c3, rfl⟩ := Joins.array4 hsz
  obtain ⟨fuel, hf⟩ := h
  obtain ⟨y0, y1, y2, y3, m, hx, hy0, hy1, hy2, hy3⟩ := trod_array4 Tryd.underlying25 cellsWord hf
  obtain ⟨x0, e0, rfl, w0⟩ := DataW.trod_int Tryd.underlying23 hy0
  obtain ⟨x1, e1, rfl, w1⟩ := DataW.trod_int Tryd.underlying23 hy1
  obtain ⟨x2, e2, rfl, w2⟩ := DataW.trod_int Tryd.underlying23 hy2
  obtain ⟨x3, e3, rfl, w3⟩ := DataW.trod_int Tryd.underlying23 hy3
  simp at e0 e1 e2 e3
  subst e0 e1 e2 e3
  simp only [Prod.mk.injEq] at hx
  obtain ⟨rfl, rfl⟩ := hx
  have b0 := bounds_u64 w0
  have b1 := bounds_u64 w1
  have b2 := bounds_u64 w2
  have b3 := bounds_u64 w3
  obtain ⟨n0, rfl⟩ := Int.eq_ofNat_of_zero_le b0.1
  obtain ⟨n1, rfl⟩ := Int.eq_ofNat_of_zero_le b1.1
  obtain ⟨n2, rfl⟩ := Int.eq_ofNat_of_zero_le b2.1
  obtain ⟨n3, rfl⟩ := Int.eq_ofNat_of_zero_le b3.1
  have l0 : n0 < 18446744073709551616 := by omega
  have l1 : n1 < 18446744073709551616 := by omega
  have l2 : n2 < 18446744073709551616 := by omega
  have l3 : n3 < 18446744073709551616 := by omega
  refine ⟨ofw n0 n1 n2 n3, ofw_lt _ _ _ _ l0 l1 l2 l3, ?_, ?_, rfl⟩
  · simp only [bs, wd_ofw0 _ _ _ _ l0, wd_ofw1 _ _ _ _ l0 l1, wd_ofw2 _ _ _ _ l0 l1 l2, wd_ofw3 _ _ _ _ l0 l1 l2 l3]
  · simp only [bsd, wd_ofw0 _ _ _ _ l0, wd_ofw1 _ _ _ _ l0 l1, wd_ofw2 _ _ _ _ l0 l1 l2, wd_ofw3 _ _ _ _ l0 l1 l2 l3]

theorem wf_wd (N i : Nat) : (Lit.int .u64 (wd N i)).wf = true := by
  have := wd_lt N i
  simp [Lit.wf, IntKind.min, IntKind.max, IntKind.bits, IntKind.signed]
  omega
theorem shut_bits {H : Type} {enc : TypeId × Value → H} {W : World} {sp : Nat → Bool} (N : Nat) : DataW.Trod enc Tryd.prog W 0 sp true 25 (bs N) (bsd N) [] :=
  ⟨2, by simp [DataW.trod, Value.cells, Tryd.underlying25, Tryd.underlying23, cellsBits, cellsWord, wf_wd, show List.range 4 = [0, 1, 2, 3] from rfl]⟩

theorem laid_tab {W : World} {name : String} {k : IntKind} {zs : List Int} {rest : List (String × DataW Unit)} {g : Nat} {t e : TypeId} {n : Nat} {ps : List MemPlace} {P : Program}
    (hg : P.globalNamed name = some g) (hty : (P.globals[g]?).map (·.type) = some t) (ht : P.underlying t = some (.array n e)) (he : P.underlying e = some (.int k)) (hce : P.cellsOf e = 1) (hct : P.cellsOf t = n)
    (h : DataW.LaidVars P W ((name, Lib.tabData k zs) :: rest) ps) : Lib.TabIs P W name k zs := by
  obtain ⟨g', t', cs, fuel, p, q, hg', ht', hvar, hd, _, _⟩ := h
  obtain rfl := Option.some.inj (hg.symm.trans hg')
  obtain rfl := Option.some.inj (hty.symm.trans ht')
  unfold Lib.TabIs
  rw [hvar, ← Lib.cells_of_tab ht he hce hct hd]
theorem laid_rest {P : Program} {W : World} {x : String × DataW Unit} {rest : List (String × DataW Unit)} {ps : List MemPlace} (h : DataW.LaidVars P W (x :: rest) ps) : ∃ q, DataW.LaidVars P W rest q := by
  obtain ⟨g', t', cs, fuel, p, q, hg', ht', hvar, hd, h1, h2⟩ := h
  exact ⟨q, by first | exact h1 | exact h2⟩
end Go.Proofs.YtgfmlonhjmdfjaaDoor
namespace Go.Proofs.YtgfmlonhjmdfjaaDoor
open Go.ChangeShapes Go.WideShapes Go.ChangeAt Go.RowKit

theorem cellsHd : Tryd.prog.cellsOf 27 = 11 := by kernel_rfl
theorem cellsInt : Tryd.prog.cellsOf 3 = 1 := by kernel_rfl
theorem cellsU32 : Tryd.prog.cellsOf 22 = 1 := by kernel_rfl
theorem eight {α : Type} {l : List α} (h : l.length = 8) : ∃ y0 y1 y2 y3 y4 y5 y6 y7, l = [y0, y1, y2, y3, y4, y5, y6, y7] := by
  match l, h with
  | [a, b, c, d, e, f, g, i], _ => exact ⟨a, b, c, d, e, f, g, i, rfl⟩
theorem eleven {α : Type} {cs : Array α} (h : cs.size = 11) : ∃ c0 c1 c2 c3 c4 c5 c6 c7 c8 c9 ca, cs = #[c0, c1, c2, c3, c4, c5, c6, c7, c8, c9, ca] := by
  obtain ⟨l⟩ := cs
  match l, h with
  | [a, b, c, d, e, f, g, i, j, k, m], _ => exact ⟨a, b, c, d, e, f, g, i, j, k, m, rfl⟩
theorem hfs : ∃ f0 f1 f2 f3 f4 f5 f6 f7 : Field, Tryd.prog.underlying 27 = some (.struct #[f0, f1, f2, f3, f4, f5, f6, f7]) ∧
    (f0.type = 3 ∧ f0.offset = 0) ∧ (f1.type = 3 ∧ f1.offset = 1) ∧ (f2.type = 22 ∧ f2.offset = 2) ∧ (f3.type = 3 ∧ f3.offset = 3) ∧ (f4.type = 3 ∧ f4.offset = 4) ∧ (f5.type = 3 ∧ f5.offset = 5) ∧ (f6.type = 22 ∧ f6.offset = 6) ∧ (f7.type = 25 ∧ f7.offset = 7) := by
  have hf := hfields
  have hu := hunder
  generalize Tryd.prog.fieldsOf 27 = F at hf hu
  obtain ⟨fs⟩ := F
  simp only at hf
  obtain ⟨f0, r0, rfl, h0, hf⟩ := List.map_eq_cons_iff.1 hf
  obtain ⟨f1, r1, rfl, h1, hf⟩ := List.map_eq_cons_iff.1 hf
  obtain ⟨f2, r2, rfl, h2, hf⟩ := List.map_eq_cons_iff.1 hf
  obtain ⟨f3, r3, rfl, h3, hf⟩ := List.map_eq_cons_iff.1 hf
  obtain ⟨f4, r4, rfl, h4, hf⟩ := List.map_eq_cons_iff.1 hf
  obtain ⟨f5, r5, rfl, h5, hf⟩ := List.map_eq_cons_iff.1 hf
  obtain ⟨f6, r6, rfl, h6, hf⟩ := List.map_eq_cons_iff.1 hf
  obtain ⟨f7, r7, rfl, h7, hf⟩ := List.map_eq_cons_iff.1 hf
  obtain rfl := List.map_eq_nil_iff.1 hf
  simp only [Prod.mk.injEq] at h0
  simp only [Prod.mk.injEq] at h1
  simp only [Prod.mk.injEq] at h2
  simp only [Prod.mk.injEq] at h3
  simp only [Prod.mk.injEq] at h4
  simp only [Prod.mk.injEq] at h5
  simp only [Prod.mk.injEq] at h6
  simp only [Prod.mk.injEq] at h7
  exact ⟨f0, f1, f2, f3, f4, f5, f6, f7, hu, h0.2, h1.2, h2.2, h3.2, h4.2, h5.2, h6.2, h7.2⟩
set_option maxRecDepth 100000 in
theorem open_bits_cells {T : Type} {enc : TypeId × Value → T} {w : World} {base : Nat} {spare : Nat → Bool} {held : Bool} {fuel : Nat} {c0 c1 c2 c3 : Value} {x : DataW T × List MemPlace}
    (hf : DataW.trod enc Tryd.prog w base spare held fuel 25 [c0, c1, c2, c3] = some x) : ∃ N, N < 2 ^ 256 ∧ Value.agg #[c0, c1, c2, c3] = bs N ∧ x.1 = bsd N ∧ x.2 = [] := by
  obtain ⟨y0, y1, y2, y3, m, hx, hy0, hy1, hy2, hy3⟩ := trod_array4 Tryd.underlying25 cellsWord hf
  obtain ⟨x0, e0, rfl, w0⟩ := DataW.trod_int Tryd.underlying23 hy0
  obtain ⟨x1, e1, rfl, w1⟩ := DataW.trod_int Tryd.underlying23 hy1
  obtain ⟨x2, e2, rfl, w2⟩ := DataW.trod_int Tryd.underlying23 hy2
  obtain ⟨x3, e3, rfl, w3⟩ := DataW.trod_int Tryd.underlying23 hy3
  simp at e0 e1 e2 e3
  subst e0 e1 e2 e3
  subst hx
  have b0 := bounds_u64 w0
  have b1 := bounds_u64 w1
  have b2 := bounds_u64 w2
  have b3 := bounds_u64 w3
  obtain ⟨n0, rfl⟩ := Int.eq_ofNat_of_zero_le b0.1
  obtain ⟨n1, rfl⟩ := Int.eq_ofNat_of_zero_le b1.1
  obtain ⟨n2, rfl⟩ := Int.eq_ofNat_of_zero_le b2.1
  obtain ⟨n3, rfl⟩ := Int.eq_ofNat_of_zero_le b3.1
  have l0 : n0 < 18446744073709551616 := by omega
  have l1 : n1 < 18446744073709551616 := by omega
  have l2 : n2 < 18446744073709551616 := by omega
  have l3 : n3 < 18446744073709551616 := by omega
  refine ⟨ofw n0 n1 n2 n3, ofw_lt _ _ _ _ l0 l1 l2 l3, ?_, ?_, rfl⟩
  · simp only [bs, wd_ofw0 _ _ _ _ l0, wd_ofw1 _ _ _ _ l0 l1, wd_ofw2 _ _ _ _ l0 l1 l2, wd_ofw3 _ _ _ _ l0 l1 l2 l3]
  · simp only [bsd, wd_ofw0 _ _ _ _ l0, wd_ofw1 _ _ _ _ l0 l1, wd_ofw2 _ _ _ _ l0 l1 l2, wd_ofw3 _ _ _ _ l0 l1 l2 l3]
/-- A header as a datum. -/
abbrev hdd {T : Type} (W S E H O G I : Int) (N : Nat) : DataW T := .agg [.lit (.int .i64 W), .lit (.int .i64 S), .lit (.int .u32 E), .lit (.int .i64 H), .lit (.int .i64 O), .lit (.int .i64 G), .lit (.int .u32 I), bsd N]
/-- The numbers of a header are of their kinds. -/
def WfH (W S E H O G I : Int) : Prop := (Lit.int .i64 W).wf = true ∧ (Lit.int .i64 S).wf = true ∧ (Lit.int .u32 E).wf = true ∧ (Lit.int .i64 H).wf = true ∧ (Lit.int .i64 O).wf = true ∧ (Lit.int .i64 G).wf = true ∧ (Lit.int .u32 I).wf = true
theorem WfH.e {W S E H O G I : Int} (h : WfH W S E H O G I) : 0 ≤ E ∧ E < 4294967296 := by
  have := h.2.2.1
  simp [Lit.wf, IntKind.min, IntKind.max, IntKind.bits, IntKind.signed] at this
  omega
theorem WfH.i {W S E H O G I : Int} (h : WfH W S E H O G I) : 0 ≤ I ∧ I < 4294967296 := by
  have := h.2.2.2.2.2.2
  simp [Lit.wf, IntKind.min, IntKind.max, IntKind.bits, IntKind.signed] at this
  omega
set_option maxRecDepth 100000 in
theorem open_hd {T : Type} {enc : TypeId × Value → T} {w : World} {base : Nat} {v : Value} {d : DataW T} {p : List MemPlace}
    (hval : Value.okWide Tryd.prog w .any base 27 v) (h : DataW.Trod enc Tryd.prog w 0 (fun _ => true) true 27 v d p) :
    ∃ (W S E H O G I : Int) (N : Nat), N < 2 ^ 256 ∧ WfH W S E H O G I ∧ v = hd W S E H O G I N ∧ d = hdd W S E H O G I N ∧ p = [] := by
  obtain ⟨f0, f1, f2, f3, f4, f5, f6, f7, hu, ⟨t0, o0⟩, ⟨t1, o1⟩, ⟨t2, o2⟩, ⟨t3, o3⟩, ⟨t4, o4⟩, ⟨t5, o5⟩, ⟨t6, o6⟩, ⟨t7, o7⟩⟩ := hfs
  obtain ⟨cs, rfl, hsz⟩ := okWide_struct hu hval
  rw [cellsHd] at hsz
  obtain ⟨c0, c1, c2, c3, c4, c5, c6, c7, c8, c9, ca, rfl⟩ := eleven hsz
  obtain ⟨fuel, hf⟩ := h
  obtain ⟨xs, n, _, hx, hl, hlen, hfd⟩ := DataW.trod_struct hu hf
  obtain ⟨y0, y1, y2, y3, y4, y5, y6, y7, rfl⟩ := eight (by simpa using hlen)
  have g0 := hfd 0 f0 rfl
  have g1 := hfd 1 f1 rfl
  have g2 := hfd 2 f2 rfl
  have g3 := hfd 3 f3 rfl
  have g4 := hfd 4 f4 rfl
  have g5 := hfd 5 f5 rfl
  have g6 := hfd 6 f6 rfl
  have g7 := hfd 7 f7 rfl
  clear hfd
  rw [t0, o0, cellsInt] at g0
  rw [t1, o1, cellsInt] at g1
  rw [t2, o2, cellsU32] at g2
  rw [t3, o3, cellsInt] at g3
  rw [t4, o4, cellsInt] at g4
  rw [t5, o5, cellsInt] at g5
  rw [t6, o6, cellsU32] at g6
  rw [t7, o7, cellsBits] at g7
  simp [Value.cells] at g0 g1 g2 g3 g4 g5 g6 g7
  obtain ⟨W, e0, rfl, w0⟩ := DataW.trod_int Tryd.underlying3 g0
  obtain ⟨S, e1, rfl, w1⟩ := DataW.trod_int Tryd.underlying3 g1
  obtain ⟨E, e2, rfl, w2⟩ := DataW.trod_int Tryd.underlying22 g2
  obtain ⟨H, e3, rfl, w3⟩ := DataW.trod_int Tryd.underlying3 g3
  obtain ⟨O, e4, rfl, w4⟩ := DataW.trod_int Tryd.underlying3 g4
  obtain ⟨G, e5, rfl, w5⟩ := DataW.trod_int Tryd.underlying3 g5
  obtain ⟨I, e6, rfl, w6⟩ := DataW.trod_int Tryd.underlying22 g6
  simp at e0 e1 e2 e3 e4 e5 e6
  subst e0 e1 e2 e3 e4 e5 e6
  obtain ⟨N, hN, hv, hd', hp⟩ := open_bits_cells g7
  obtain ⟨d7, p7⟩ := y7
  simp only at hd' hp
  subst hd' hp
  simp only [Value.agg.injEq] at hv
  simp only [Prod.mk.injEq] at hx
  obtain ⟨rfl, rfl⟩ := hx
  refine ⟨W, S, E, H, O, G, I, N, hN, ⟨w0, w1, w2, w3, w4, w5, w6⟩, ?_, by simp, by simp⟩
  obtain ⟨rfl, rfl, rfl, rfl⟩ : c7 = .int .u64 (wd N 0) ∧ c8 = .int .u64 (wd N 1) ∧ c9 = .int .u64 (wd N 2) ∧ ca = .int .u64 (wd N 3) := by simpa using hv
  rfl
set_option maxRecDepth 100000 in
theorem shut_hd {T : Type} {enc : TypeId × Value → T} {w : World} {sp : Nat → Bool} {W S E H O G I : Int} (N : Nat) (h : WfH W S E H O G I) : DataW.Trod enc Tryd.prog w 0 sp true 27 (hd W S E H O G I N) (hdd W S E H O G I N) [] := by
  obtain ⟨f0, f1, f2, f3, f4, f5, f6, f7, hu, ⟨t0, o0⟩, ⟨t1, o1⟩, ⟨t2, o2⟩, ⟨t3, o3⟩, ⟨t4, o4⟩, ⟨t5, o5⟩, ⟨t6, o6⟩, ⟨t7, o7⟩⟩ := hfs
  obtain ⟨w0, w1, w2, w3, w4, w5, w6⟩ := h
  have hb : DataW.trod enc Tryd.prog w 0 sp true 2 25 [.int .u64 (wd N 0), .int .u64 (wd N 1), .int .u64 (wd N 2), .int .u64 (wd N 3)] = some (bsd N, []) := by
    simp [DataW.trod, Tryd.underlying25, Tryd.underlying23, cellsBits, cellsWord, wf_wd, show List.range 4 = [0, 1, 2, 3] from rfl]
  have hm := trod_struct_mk (enc := enc) (w := w) (base := 0) (spare := sp) (held := true) (n := 2) (cs := [.int .i64 W, .int .i64 S, .int .u32 E, .int .i64 H, .int .i64 O, .int .i64 G, .int .u32 I, .int .u64 (wd N 0), .int .u64 (wd N 1), .int .u64 (wd N 2), .int .u64 (wd N 3)])
    (xs := [(.lit (.int .i64 W), []), (.lit (.int .i64 S), []), (.lit (.int .u32 E), []), (.lit (.int .i64 H), []), (.lit (.int .i64 O), []), (.lit (.int .i64 G), []), (.lit (.int .u32 I), []), (bsd N, [])]) hu (by rw [cellsHd]; rfl) (by
    simp only [List.mapM_cons, List.mapM_nil, t0, t1, t2, t3, t4, t5, t6, t7, o0, o1, o2, o3, o4, o5, o6, o7, cellsInt, cellsU32, cellsBits]
    simp [hb, trod_int_mk 1 Tryd.underlying3 w0, trod_int_mk 1 Tryd.underlying3 w1, trod_int_mk 1 Tryd.underlying22 w2, trod_int_mk 1 Tryd.underlying3 w3, trod_int_mk 1 Tryd.underlying3 w4, trod_int_mk 1 Tryd.underlying3 w5, trod_int_mk 1 Tryd.underlying22 w6])
  exact ⟨3, by simpa [Value.cells] using hm⟩
theorem gWidType : (Tryd.prog.globals[0]?).map (·.type) = some 63 := by kernel_rfl
theorem wid_of {w : World} {rest : List (String × DataW Unit)} (h : laidMet Tryd.prog (("dandelion/header.widths", Rows.laid_dandelion_header_widths) :: rest) w) : Wid w := by
  obtain ⟨ps, h, _⟩ := h
  exact ⟨laid_tab gWid gWidType Tryd.underlying63 Tryd.underlying3 (by kernel_rfl) (by kernel_rfl) h⟩
end Go.Proofs.YtgfmlonhjmdfjaaDoor
