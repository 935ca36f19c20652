/- Records as bytes: plain lists and numbers. -/
import Derived.Test.YteaaoipipjkgnaaK7
import Derived.Test.YteaaoipipjkgnaaG1
namespace Go.Proofs.Yteaaoipipjkgnaa
open Go.RowKit

/-- A number in n bytes. -/
def ly (v n : Nat) : ByteArray := strOfNums (Wi.layN v n)
theorem ly_size (v n : Nat) : (ly v n).size = n := by unfold ly; rw [strOfNums_size, Wi.layN_length]
theorem app_size (a b : ByteArray) : (a ++ b).size = a.size + b.size := ByteArray.size_append
theorem app_data (a b : ByteArray) : (a ++ b).data.toList = a.data.toList ++ b.data.toList := by simp
theorem ext_data {a b : ByteArray} (h : a.data.toList = b.data.toList) : a = b := by
  cases a; cases b
  congr 1
  exact Array.toList_inj.1 h
theorem ly1_data (v : Nat) : (ly v 1).data.toList = [UInt8.ofNat (v % 256)] := by
  unfold ly
  rw [strOfNums_data]
  simp [Wi.layN, List.range_succ]
  congr 1
theorem ly2_data (v : Nat) : (ly v 2).data.toList = [UInt8.ofNat (v / 256 % 256), UInt8.ofNat (v % 256)] := by
  unfold ly
  rw [strOfNums_data]
  simp [Wi.layN, List.range_succ]
  refine ⟨?_, ?_⟩ <;> congr 1
theorem ly4_data (v : Nat) : (ly v 4).data.toList = [UInt8.ofNat (v / 16777216 % 256), UInt8.ofNat (v / 65536 % 256), UInt8.ofNat (v / 256 % 256), UInt8.ofNat (v % 256)] := by
  unfold ly
  rw [strOfNums_data]
  simp [Wi.layN, List.range_succ]
  refine ⟨?_, ?_, ?_, ?_⟩ <;> congr 1
theorem u8_mod (n : Nat) : (UInt8.ofNat (n % 256)).toNat = n % 256 := by simp

/-- A stamp's bytes; a record's ahead of its neighbours; neighbours behind bytes; a record's. -/
def stS (o e s : Nat) : ByteArray := ((⟨#[]⟩ ++ ly o 1) ++ ly e 4) ++ ly s 4
def ingN (b : Bool) : Nat := if b then 1 else 0
def hdS (r : Rc) : ByteArray := ((stS r.origin.toNat r.epoch.toNat r.seq.toNat ++ ly r.claim.toNat 2) ++ ly (ingN r.ing) 1) ++ ly r.adjs.length 1
def adS (b : ByteArray) (l : List (Int × Int)) : ByteArray := l.foldl (fun s a => (s ++ ly a.1.toNat 1) ++ ly a.2.toNat 2) b
def encS (r : Rc) : ByteArray := adS (hdS r) r.adjs
theorem adS_snoc (b : ByteArray) (l : List (Int × Int)) (a : Int × Int) : adS b (l ++ [a]) = (adS b l ++ ly a.1.toNat 1) ++ ly a.2.toNat 2 := by simp [adS, List.foldl_append]
theorem adS_size (b : ByteArray) (l : List (Int × Int)) : (adS b l).size = b.size + 3 * l.length := by
  induction l generalizing b with
  | nil => simp [adS]
  | cons a l ih =>
    show (adS ((b ++ ly a.1.toNat 1) ++ ly a.2.toNat 2) l).size = _
    rw [ih, app_size, app_size, ly_size, ly_size, List.length_cons]
    omega
theorem stS_size (o e s : Nat) : (stS o e s).size = 9 := by
  unfold stS
  simp only [app_size, ly_size]
  rfl
theorem hdS_size (r : Rc) : (hdS r).size = 13 := by
  unfold hdS
  simp only [app_size, ly_size, stS_size]
theorem encS_size (r : Rc) : (encS r).size = 13 + 3 * r.adjs.length := by unfold encS; rw [adS_size, hdS_size]
/-- The same as lists of bytes. -/
def stL (o e s : Nat) : List UInt8 := [UInt8.ofNat (o % 256), UInt8.ofNat (e / 16777216 % 256), UInt8.ofNat (e / 65536 % 256), UInt8.ofNat (e / 256 % 256), UInt8.ofNat (e % 256), UInt8.ofNat (s / 16777216 % 256), UInt8.ofNat (s / 65536 % 256), UInt8.ofNat (s / 256 % 256), UInt8.ofNat (s % 256)]
def adL (l : List (Int × Int)) : List UInt8 := l.flatMap fun a => [UInt8.ofNat (a.1.toNat % 256), UInt8.ofNat (a.2.toNat / 256 % 256), UInt8.ofNat (a.2.toNat % 256)]
def hdL (r : Rc) : List UInt8 := stL r.origin.toNat r.epoch.toNat r.seq.toNat ++ [UInt8.ofNat (r.claim.toNat / 256 % 256), UInt8.ofNat (r.claim.toNat % 256), UInt8.ofNat (ingN r.ing % 256), UInt8.ofNat (r.adjs.length % 256)]
theorem stS_data (o e s : Nat) : (stS o e s).data.toList = stL o e s := by
  unfold stS stL
  simp only [app_data, ly1_data, ly4_data]
  rfl
theorem hdS_data (r : Rc) : (hdS r).data.toList = hdL r := by
  unfold hdS hdL
  simp only [app_data, stS_data, ly1_data, ly2_data, List.append_assoc]
  rfl
theorem adS_data (b : ByteArray) (l : List (Int × Int)) : (adS b l).data.toList = b.data.toList ++ adL l := by
  induction l generalizing b with
  | nil => simp [adS, adL]
  | cons a l ih =>
    show (adS ((b ++ ly a.1.toNat 1) ++ ly a.2.toNat 2) l).data.toList = _
    rw [ih]
    simp only [app_data, ly1_data, ly2_data, adL, List.flatMap_cons, List.append_assoc]
    rfl
theorem encS_data (r : Rc) : (encS r).data.toList = hdL r ++ adL r.adjs := by unfold encS; rw [adS_data, hdS_data]
/-- A number read; past the end 0. -/
def tkz (b : ByteArray) (a n : Nat) : Nat := if a + n ≤ b.size then Wi.tk b a n else 0
theorem tk1 (b : ByteArray) (a : Nat) : Wi.tk b a 1 = (b.data.toList.getD a 0).toNat := by simp [Wi.tk]
theorem tk2 (b : ByteArray) (a : Nat) : Wi.tk b a 2 = (b.data.toList.getD a 0).toNat * 256 + (b.data.toList.getD (a + 1) 0).toNat := by simp [Wi.tk]
theorem tk4 (b : ByteArray) (a : Nat) : Wi.tk b a 4 = (((b.data.toList.getD a 0).toNat * 256 + (b.data.toList.getD (a + 1) 0).toNat) * 256 + (b.data.toList.getD (a + 2) 0).toNat) * 256 + (b.data.toList.getD (a + 3) 0).toNat := by simp [Wi.tk]
theorem tkz_lt (b : ByteArray) (a n : Nat) : tkz b a n < 256 ^ n := by
  unfold tkz
  split
  · exact Wi.tk_lt b a n
  · exact Nat.pow_pos (by decide)
/-- A stamp read; a record read; is it right? -/
def rdA (b : ByteArray) (k : Nat) : List (Int × Int) := (List.range k).map fun i => (((tkz b (13 + 3 * i) 1 : Nat) : Int), ((tkz b (14 + 3 * i) 2 : Nat) : Int))
def rdR (b : ByteArray) : Rc := ⟨(tkz b 0 1 : Nat), (tkz b 1 4 : Nat), (tkz b 5 4 : Nat), (tkz b 9 2 : Nat), decide (tkz b 11 1 = 1), rdA b (tkz b 12 1)⟩
def rdOk (b : ByteArray) : Bool := decide (13 + 3 * tkz b 12 1 = b.size) && (decide (tkz b 11 1 ≤ 1) && recOk (rdR b))
def mayS (o e s : Int) : Bool := isR o && (decide (0 < e) && decide (0 < s))
def stOk (b : ByteArray) : Bool := decide (9 = b.size) && mayS (tkz b 0 1 : Nat) (tkz b 1 4 : Nat) (tkz b 5 4 : Nat)
theorem rdA_succ (b : ByteArray) (k : Nat) : rdA b (k + 1) = rdA b k ++ [(((tkz b (13 + 3 * k) 1 : Nat) : Int), ((tkz b (14 + 3 * k) 2 : Nat) : Int))] := by simp [rdA, List.range_succ]
theorem rdA_len (b : ByteArray) (k : Nat) : (rdA b k).length = k := by simp [rdA]
/-- Numbers that lie in their bytes. -/
structure RcB (r : Rc) : Prop where
  e0 : 0 ≤ r.epoch
  e1 : r.epoch < 4294967296
  s0 : 0 ≤ r.seq
  s1 : r.seq < 4294967296
theorem adL_len (l : List (Int × Int)) : (adL l).length = 3 * l.length := by
  induction l with
  | nil => rfl
  | cons a l ih =>
    have : adL (a :: l) = [UInt8.ofNat (a.1.toNat % 256), UInt8.ofNat (a.2.toNat / 256 % 256), UInt8.ofNat (a.2.toNat % 256)] ++ adL l := by simp [adL]
    rw [this, List.length_append, ih, List.length_cons]
    simp
    omega
theorem adL_get : ∀ (l : List (Int × Int)) (i : Nat) (a : Int × Int), l[i]? = some a → (adL l).getD (3 * i) 0 = UInt8.ofNat (a.1.toNat % 256) ∧ (adL l).getD (3 * i + 1) 0 = UInt8.ofNat (a.2.toNat / 256 % 256) ∧ (adL l).getD (3 * i + 2) 0 = UInt8.ofNat (a.2.toNat % 256)
  | [], i, a, h => by simp at h
  | c :: l, 0, a, h => by
    simp at h
    subst h
    exact ⟨rfl, rfl, rfl⟩
  | c :: l, i + 1, a, h => by
    have := adL_get l i a (by simpa using h)
    have e : adL (c :: l) = UInt8.ofNat (c.1.toNat % 256) :: UInt8.ofNat (c.2.toNat / 256 % 256) :: UInt8.ofNat (c.2.toNat % 256) :: adL l := by simp [adL]
    rw [e, show 3 * (i + 1) = 3 * i + 1 + 1 + 1 from by omega, show 3 * i + 1 + 1 + 1 + 1 = 3 * i + 1 + 1 + 1 + 1 from rfl, show 3 * i + 1 + 1 + 1 + 2 = 3 * i + 2 + 1 + 1 + 1 from by omega]
    simp only [List.getD_cons_succ]
    exact this
theorem getD_right (l m : List UInt8) (i : Nat) : (l ++ m).getD (l.length + i) 0 = m.getD i 0 := by
  rw [List.getD_eq_getElem?_getD, List.getD_eq_getElem?_getD, List.getElem?_append_right (by omega), Nat.add_sub_cancel_left]
theorem hdL_len (r : Rc) : (hdL r).length = 13 := rfl
/-- A record comes back from its bytes. -/
theorem rd_enc {r : Rc} (h : recOk r = true) (hb : RcB r) : rdR (encS r) = r ∧ tkz (encS r) 11 1 = ingN r.ing ∧ tkz (encS r) 12 1 = r.adjs.length := by
  have hsz := encS_size r
  have hd := encS_data r
  obtain ⟨⟨ho1, ho2⟩, hl, hadj⟩ := recOk_parts h
  have hc : 0 ≤ r.claim ∧ r.claim ≤ 1024 := by
    simp only [recOk, Bool.and_eq_true, decide_eq_true_eq] at h
    exact ⟨h.2.2.2.1, h.2.2.2.2.1⟩
  have hcell : ∀ i, (encS r).data.toList.getD i 0 = (hdL r ++ adL r.adjs).getD i 0 := fun i => by rw [hd]
  have h12 : tkz (encS r) 12 1 = r.adjs.length := by
    unfold tkz
    rw [if_pos (by omega), tk1, hcell]
    show (UInt8.ofNat (r.adjs.length % 256)).toNat = _
    rw [u8_mod]
    omega
  have h11 : tkz (encS r) 11 1 = ingN r.ing := by
    unfold tkz
    rw [if_pos (by omega), tk1, hcell]
    show (UInt8.ofNat (ingN r.ing % 256)).toNat = _
    rw [u8_mod]
    unfold ingN
    split <;> rfl
  refine ⟨?_, h11, h12⟩
  have e0 : ((tkz (encS r) 0 1 : Nat) : Int) = r.origin := by
    unfold tkz
    rw [if_pos (by omega), tk1, hcell]
    show (((UInt8.ofNat (r.origin.toNat % 256)).toNat : Nat) : Int) = _
    rw [u8_mod]
    omega
  have e1 : ((tkz (encS r) 1 4 : Nat) : Int) = r.epoch := by
    unfold tkz
    rw [if_pos (by omega), tk4, hcell, hcell, hcell, hcell]
    show ((((((UInt8.ofNat (r.epoch.toNat / 16777216 % 256)).toNat * 256 + (UInt8.ofNat (r.epoch.toNat / 65536 % 256)).toNat) * 256 + (UInt8.ofNat (r.epoch.toNat / 256 % 256)).toNat) * 256 + (UInt8.ofNat (r.epoch.toNat % 256)).toNat : Nat)) : Int) = _
    rw [u8_mod, u8_mod, u8_mod, u8_mod]
    have := hb.e0
    have := hb.e1
    omega
  have e2 : ((tkz (encS r) 5 4 : Nat) : Int) = r.seq := by
    unfold tkz
    rw [if_pos (by omega), tk4, hcell, hcell, hcell, hcell]
    show ((((((UInt8.ofNat (r.seq.toNat / 16777216 % 256)).toNat * 256 + (UInt8.ofNat (r.seq.toNat / 65536 % 256)).toNat) * 256 + (UInt8.ofNat (r.seq.toNat / 256 % 256)).toNat) * 256 + (UInt8.ofNat (r.seq.toNat % 256)).toNat : Nat)) : Int) = _
    rw [u8_mod, u8_mod, u8_mod, u8_mod]
    have := hb.s0
    have := hb.s1
    omega
  have e3 : ((tkz (encS r) 9 2 : Nat) : Int) = r.claim := by
    unfold tkz
    rw [if_pos (by omega), tk2, hcell, hcell]
    show ((((UInt8.ofNat (r.claim.toNat / 256 % 256)).toNat * 256 + (UInt8.ofNat (r.claim.toNat % 256)).toNat : Nat)) : Int) = _
    rw [u8_mod, u8_mod]
    omega
  have e4 : decide (tkz (encS r) 11 1 = 1) = r.ing := by
    rw [h11]
    unfold ingN
    cases r.ing <;> rfl
  have e5 : rdA (encS r) (tkz (encS r) 12 1) = r.adjs := by
    rw [h12]
    apply List.ext_getElem?
    intro i
    by_cases hi : i < r.adjs.length
    · obtain ⟨a, ha⟩ : ∃ a, r.adjs[i]? = some a := ⟨r.adjs[i], List.getElem?_eq_getElem hi⟩
      have hab := adjsOk_all _ _ _ hadj a (List.mem_of_getElem? ha)
      obtain ⟨g0, g1, g2⟩ := adL_get r.adjs i a ha
      have k0 := getD_right (hdL r) (adL r.adjs) (3 * i)
      have k1 := getD_right (hdL r) (adL r.adjs) (3 * i + 1)
      have k2 := getD_right (hdL r) (adL r.adjs) (3 * i + 2)
      rw [hdL_len] at k0 k1 k2
      rw [ha]
      unfold rdA
      rw [List.getElem?_map, List.getElem?_range hi]
      simp only [Option.map_some]
      congr 1
      apply Prod.ext
      · show ((tkz (encS r) (13 + 3 * i) 1 : Nat) : Int) = a.1
        unfold tkz
        rw [if_pos (by omega), tk1, hcell, k0, g0, u8_mod]
        omega
      · show ((tkz (encS r) (14 + 3 * i) 2 : Nat) : Int) = a.2
        unfold tkz
        rw [if_pos (by omega), tk2, hcell, hcell, show 14 + 3 * i = 13 + (3 * i + 1) from by omega, show 13 + (3 * i + 1) + 1 = 13 + (3 * i + 2) from by omega, k1, k2, g1, g2, u8_mod, u8_mod]
        omega
    · rw [List.getElem?_eq_none (by rw [rdA_len]; omega), List.getElem?_eq_none (by omega)]
  unfold rdR
  rw [e0, e1, e2, e3, e4, e5]
theorem enc_ok {r : Rc} (h : recOk r = true) (hb : RcB r) : rdOk (encS r) = true := by
  obtain ⟨h1, h2, h3⟩ := rd_enc h hb
  unfold rdOk
  rw [h1, h2, h3, h, encS_size]
  unfold ingN
  cases r.ing <;> simp
theorem rdR_b (b : ByteArray) : RcB (rdR b) := by
  have h1 := tkz_lt b 1 4
  have h2 := tkz_lt b 5 4
  exact ⟨by show (0 : Int) ≤ (tkz b 1 4 : Nat); omega, by show ((tkz b 1 4 : Nat) : Int) < _; omega, by show (0 : Int) ≤ (tkz b 5 4 : Nat); omega, by show ((tkz b 5 4 : Nat) : Int) < _; omega⟩
theorem u8_of (x : UInt8) : UInt8.ofNat (x.toNat % 256) = x := by
  have := x.toNat_lt
  rw [Nat.mod_eq_of_lt (by omega)]
  simp
theorem list_getD {l m : List UInt8} (hl : l.length = m.length) (h : ∀ i, i < l.length → l.getD i 0 = m.getD i 0) : l = m := by
  apply List.ext_getElem?
  intro i
  by_cases hi : i < l.length
  · have := h i hi
    rw [List.getD_eq_getElem?_getD, List.getD_eq_getElem?_getD, List.getElem?_eq_getElem hi, List.getElem?_eq_getElem (by omega)] at this
    rw [List.getElem?_eq_getElem hi, List.getElem?_eq_getElem (by omega)]
    simpa using this
  · rw [List.getElem?_eq_none (by omega), List.getElem?_eq_none (by omega)]
theorem u8_byte (x : UInt8) (n : Nat) (h : n % 256 = x.toNat) : UInt8.ofNat (n % 256) = x := by rw [h]; simp
/-- Bytes that are right are those of what is read of them. -/
theorem enc_rd {b : ByteArray} (h : rdOk b = true) : encS (rdR b) = b := by
  unfold rdOk at h
  simp only [Bool.and_eq_true, decide_eq_true_eq] at h
  obtain ⟨h1, h2, h3⟩ := h
  apply ext_data
  have hbl : b.data.toList.length = b.size := by simp
  apply list_getD
  · rw [encS_data, List.length_append, hdL_len, adL_len]
    show 13 + 3 * (rdA b (tkz b 12 1)).length = _
    rw [rdA_len, hbl, h1]
  · intro i hi
    have hi' : i < b.size := by
      rw [encS_data, List.length_append, hdL_len, adL_len] at hi
      have : (rdR b).adjs.length = tkz b 12 1 := rdA_len b _
      omega
    rw [encS_data]
    have hu := fun j => (b.data.toList.getD j 0).toNat_lt
    have z0 : tkz b 0 1 = (b.data.toList.getD 0 0).toNat := by unfold tkz; rw [if_pos (by omega), tk1]
    have z1 : tkz b 1 4 = (((b.data.toList.getD 1 0).toNat * 256 + (b.data.toList.getD (1 + 1) 0).toNat) * 256 + (b.data.toList.getD (1 + 2) 0).toNat) * 256 + (b.data.toList.getD (1 + 3) 0).toNat := by unfold tkz; rw [if_pos (by omega), tk4]
    have z5 : tkz b 5 4 = (((b.data.toList.getD 5 0).toNat * 256 + (b.data.toList.getD (5 + 1) 0).toNat) * 256 + (b.data.toList.getD (5 + 2) 0).toNat) * 256 + (b.data.toList.getD (5 + 3) 0).toNat := by unfold tkz; rw [if_pos (by omega), tk4]
    have z9 : tkz b 9 2 = (b.data.toList.getD 9 0).toNat * 256 + (b.data.toList.getD (9 + 1) 0).toNat := by unfold tkz; rw [if_pos (by omega), tk2]
    have z11 : tkz b 11 1 = (b.data.toList.getD 11 0).toNat := by unfold tkz; rw [if_pos (by omega), tk1]
    have z12 : tkz b 12 1 = (b.data.toList.getD 12 0).toNat := by unfold tkz; rw [if_pos (by omega), tk1]
    have hing : ingN (rdR b).ing = tkz b 11 1 := by
      show ingN (decide (tkz b 11 1 = 1)) = _
      unfold ingN
      by_cases h : tkz b 11 1 = 1
      · simp [h]
      · simp [h]; omega
    by_cases h13 : i < 13
    · rw [List.getD_eq_getElem?_getD, List.getElem?_append_left (by rw [hdL_len]; exact h13), ← List.getD_eq_getElem?_getD]
      have hE : (rdR b).epoch.toNat = tkz b 1 4 := rfl
      have hS : (rdR b).seq.toNat = tkz b 5 4 := rfl
      have hO : (rdR b).origin.toNat = tkz b 0 1 := rfl
      have hC : (rdR b).claim.toNat = tkz b 9 2 := rfl
      have hN : (rdR b).adjs.length = tkz b 12 1 := rdA_len b _
      unfold hdL stL
      rw [hE, hS, hO, hC, hing, hN]
      match i, h13 with
      | 0, _ => exact u8_byte _ _ (by have := hu 0; omega)
      | 1, _ => exact u8_byte _ _ (by have := hu 1; have := hu 2; have := hu 3; have := hu 4; simp only [Nat.reduceAdd] at z1; omega)
      | 2, _ => exact u8_byte _ _ (by have := hu 1; have := hu 2; have := hu 3; have := hu 4; simp only [Nat.reduceAdd] at z1; omega)
      | 3, _ => exact u8_byte _ _ (by have := hu 1; have := hu 2; have := hu 3; have := hu 4; simp only [Nat.reduceAdd] at z1; omega)
      | 4, _ => exact u8_byte _ _ (by have := hu 1; have := hu 2; have := hu 3; have := hu 4; simp only [Nat.reduceAdd] at z1; omega)
      | 5, _ => exact u8_byte _ _ (by have := hu 5; have := hu 6; have := hu 7; have := hu 8; simp only [Nat.reduceAdd] at z5; omega)
      | 6, _ => exact u8_byte _ _ (by have := hu 5; have := hu 6; have := hu 7; have := hu 8; simp only [Nat.reduceAdd] at z5; omega)
      | 7, _ => exact u8_byte _ _ (by have := hu 5; have := hu 6; have := hu 7; have := hu 8; simp only [Nat.reduceAdd] at z5; omega)
      | 8, _ => exact u8_byte _ _ (by have := hu 5; have := hu 6; have := hu 7; have := hu 8; simp only [Nat.reduceAdd] at z5; omega)
      | 9, _ => exact u8_byte _ _ (by have := hu 9; have := hu 10; simp only [Nat.reduceAdd] at z9; omega)
      | 10, _ => exact u8_byte _ _ (by have := hu 9; have := hu 10; simp only [Nat.reduceAdd] at z9; omega)
      | 11, _ => exact u8_byte _ _ (by have := hu 11; omega)
      | 12, _ => exact u8_byte _ _ (by have := hu 12; omega)
    · obtain ⟨q, hq⟩ : ∃ q, q = (i - 13) / 3 := ⟨_, rfl⟩
      have hql : q < tkz b 12 1 := by omega
      have ha : (rdR b).adjs[q]? = some (((tkz b (13 + 3 * q) 1 : Nat) : Int), ((tkz b (14 + 3 * q) 2 : Nat) : Int)) := by
        show (rdA b (tkz b 12 1))[q]? = _
        unfold rdA
        rw [List.getElem?_map, List.getElem?_range hql]
        rfl
      obtain ⟨g0, g1, g2⟩ := adL_get _ q _ ha
      simp only [Int.toNat_natCast] at g0 g1 g2
      have y0 : tkz b (13 + 3 * q) 1 = (b.data.toList.getD (13 + 3 * q) 0).toNat := by unfold tkz; rw [if_pos (by omega), tk1]
      have y1 : tkz b (14 + 3 * q) 2 = (b.data.toList.getD (14 + 3 * q) 0).toNat * 256 + (b.data.toList.getD (14 + 3 * q + 1) 0).toNat := by unfold tkz; rw [if_pos (by omega), tk2]
      have k := getD_right (hdL (rdR b)) (adL (rdR b).adjs) (i - 13)
      rw [hdL_len, show 13 + (i - 13) = i from by omega] at k
      rw [k]
      have hu0 := hu (13 + 3 * q)
      have hu1 := hu (14 + 3 * q)
      have hu2 := hu (14 + 3 * q + 1)
      have hcase : i - 13 = 3 * q ∨ i - 13 = 3 * q + 1 ∨ i - 13 = 3 * q + 2 := by omega
      rcases hcase with e | e | e
      · rw [e, g0, show i = 13 + 3 * q from by omega]
        exact u8_byte _ _ (by omega)
      · rw [e, g1, show i = 14 + 3 * q from by omega]
        exact u8_byte _ _ (by omega)
      · rw [e, g2, show i = 14 + 3 * q + 1 from by omega]
        exact u8_byte _ _ (by omega)
/-- No bytes of a record are the beginning of another one's. -/
theorem rd_more {b : ByteArray} (h : rdOk b = true) (m : ByteArray) (hm : 0 < m.size) : rdOk (b ++ m) = false := by
  apply Bool.eq_false_iff.2
  intro h'
  unfold rdOk at h h'
  simp only [Bool.and_eq_true, decide_eq_true_eq] at h h'
  have h1 := h.1
  have h2 := h'.1
  have hbl : b.data.toList.length = b.size := by simp
  rw [app_size] at h2
  have e : tkz (b ++ m) 12 1 = tkz b 12 1 := by
    unfold tkz
    rw [if_pos (by rw [app_size]; omega), if_pos (by omega), tk1, tk1, app_data]
    rw [List.getD_eq_getElem?_getD, List.getElem?_append_left (by omega), ← List.getD_eq_getElem?_getD]
  omega
theorem extract_data (b : ByteArray) (j : Nat) : (b.extract 0 j).data.toList = b.data.toList.take j := by
  rw [ByteArray.data_extract, Array.toList_extract, List.extract_eq_take_drop]
  simp
theorem rd_less {b : ByteArray} (h : rdOk b = true) (j : Nat) (hj : j < b.size) : rdOk (b.extract 0 j) = false := by
  apply Bool.eq_false_iff.2
  intro h'
  unfold rdOk at h h'
  simp only [Bool.and_eq_true, decide_eq_true_eq] at h h'
  have h1 := h.1
  have h2 := h'.1
  have hbl : b.data.toList.length = b.size := by simp
  have hsz : (b.extract 0 j).size = j := by
    have := congrArg List.length (extract_data b j)
    rw [List.length_take, hbl] at this
    simp at this
    simp
    omega
  rw [hsz] at h2
  have e : tkz (b.extract 0 j) 12 1 = tkz b 12 1 := by
    unfold tkz
    rw [if_pos (by rw [hsz]; omega), if_pos (by omega), tk1, tk1, extract_data]
    rw [List.getD_eq_getElem?_getD, List.getD_eq_getElem?_getD, List.getElem?_take, if_pos (by omega)]
  omega
/-- Stamps, there and back. -/
theorem st_rd {b : ByteArray} (h : 9 = b.size) : stS (tkz b 0 1) (tkz b 1 4) (tkz b 5 4) = b := by
  apply ext_data
  have hbl : b.data.toList.length = b.size := by simp
  rw [stS_data]
  have hu := fun j => (b.data.toList.getD j 0).toNat_lt
  have z0 : tkz b 0 1 = (b.data.toList.getD 0 0).toNat := by unfold tkz; rw [if_pos (by omega), tk1]
  have z1 : tkz b 1 4 = (((b.data.toList.getD 1 0).toNat * 256 + (b.data.toList.getD (1 + 1) 0).toNat) * 256 + (b.data.toList.getD (1 + 2) 0).toNat) * 256 + (b.data.toList.getD (1 + 3) 0).toNat := by unfold tkz; rw [if_pos (by omega), tk4]
  have z5 : tkz b 5 4 = (((b.data.toList.getD 5 0).toNat * 256 + (b.data.toList.getD (5 + 1) 0).toNat) * 256 + (b.data.toList.getD (5 + 2) 0).toNat) * 256 + (b.data.toList.getD (5 + 3) 0).toNat := by unfold tkz; rw [if_pos (by omega), tk4]
  apply list_getD
  · rw [hbl, ← h]; rfl
  · intro i hi
    have hi9 : i < 9 := hi
    unfold stL
    match i, hi9 with
    | 0, _ => exact u8_byte _ _ (by have := hu 0; omega)
    | 1, _ => exact u8_byte _ _ (by have := hu 1; have := hu 2; have := hu 3; have := hu 4; simp only [Nat.reduceAdd] at z1; omega)
    | 2, _ => exact u8_byte _ _ (by have := hu 1; have := hu 2; have := hu 3; have := hu 4; simp only [Nat.reduceAdd] at z1; omega)
    | 3, _ => exact u8_byte _ _ (by have := hu 1; have := hu 2; have := hu 3; have := hu 4; simp only [Nat.reduceAdd] at z1; omega)
    | 4, _ => exact u8_byte _ _ (by have := hu 1; have := hu 2; have := hu 3; have := hu 4; simp only [Nat.reduceAdd] at z1; omega)
    | 5, _ => exact u8_byte _ _ (by have := hu 5; have := hu 6; have := hu 7; have := hu 8; simp only [Nat.reduceAdd] at z5; omega)
    | 6, _ => exact u8_byte _ _ (by have := hu 5; have := hu 6; have := hu 7; have := hu 8; simp only [Nat.reduceAdd] at z5; omega)
    | 7, _ => exact u8_byte _ _ (by have := hu 5; have := hu 6; have := hu 7; have := hu 8; simp only [Nat.reduceAdd] at z5; omega)
    | 8, _ => exact u8_byte _ _ (by have := hu 5; have := hu 6; have := hu 7; have := hu 8; simp only [Nat.reduceAdd] at z5; omega)
theorem rd_st {o e s : Nat} (ho : o < 256) (he : e < 4294967296) (hs : s < 4294967296) : tkz (stS o e s) 0 1 = o ∧ tkz (stS o e s) 1 4 = e ∧ tkz (stS o e s) 5 4 = s := by
  have hsz := stS_size o e s
  have hcell : ∀ i, (stS o e s).data.toList.getD i 0 = (stL o e s).getD i 0 := fun i => by rw [stS_data]
  refine ⟨?_, ?_, ?_⟩
  · unfold tkz
    rw [if_pos (by omega), tk1, hcell]
    show (UInt8.ofNat (o % 256)).toNat = _
    rw [u8_mod]
    omega
  · unfold tkz
    rw [if_pos (by omega), tk4, hcell, hcell, hcell, hcell]
    show (((UInt8.ofNat (e / 16777216 % 256)).toNat * 256 + (UInt8.ofNat (e / 65536 % 256)).toNat) * 256 + (UInt8.ofNat (e / 256 % 256)).toNat) * 256 + (UInt8.ofNat (e % 256)).toNat = _
    rw [u8_mod, u8_mod, u8_mod, u8_mod]
    omega
  · unfold tkz
    rw [if_pos (by omega), tk4, hcell, hcell, hcell, hcell]
    show (((UInt8.ofNat (s / 16777216 % 256)).toNat * 256 + (UInt8.ofNat (s / 65536 % 256)).toNat) * 256 + (UInt8.ofNat (s / 256 % 256)).toNat) * 256 + (UInt8.ofNat (s % 256)).toNat = _
    rw [u8_mod, u8_mod, u8_mod, u8_mod]
    omega
/-- The first nine bytes of a record are its stamp's. -/
theorem enc_st (r : Rc) : (encS r).extract 0 9 = stS r.origin.toNat r.epoch.toNat r.seq.toNat := by
  apply ext_data
  rw [extract_data, encS_data, stS_data]
  rfl
end Go.Proofs.Yteaaoipipjkgnaa
