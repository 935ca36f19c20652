/- wire.isSize, wire.addByte, wire.Take. Bytes that a call gathers for itself: append, and the string of them. wire.lay. wire.Sum. wire.Put, wire.Take, wire.PutVar. Records as bytes: plain lists and numbers. record's isRouter, isCost, adjsMayBe, stampMayBe, Stamp, oneIf, Check. The graph of records may be; its parts. has; a record more behind an own row. Records by their origins in a map, as a function; one store's memory. Numbers that rise, each once; the claims of records, as lists. Slices of numbers by numbers, in a map: as a function. A copy of numbers; rising; the keys of a map, sorted. Claims in memory; who claims what, gathered. All. -/
import Derived.Test.YtgeoghhajjlofaaGreatDoorProg
import Derived.Test.YtgeoghhajjlofaaGreatDoorZ1
import Derived.WalkKit
import Derived.WalkSpells
import Derived.WalkLawsBesides
import Derived.Handy
import Derived.Laws.BytesArg
import Derived.Laws.OwnMore
import Derived.Deep.AppendLies
import Derived.Deep.OwnRows
import Derived.Test.YtgeoghhajjlofaaGreatDoorG1
import Derived.Test.YtgeoghhajjlofaaGreatDoorG7
import Derived.Test.YtgeoghhajjlofaaGreatDoorGP
import Derived.Test.YtgeoghhajjlofaaGreatDoorGF
import Derived.Test.YtgeoghhajjlofaaGreatDoorGH
import Derived.Maps.Own
import Derived.Maps.OwnSet
import Derived.Deep.RegionHeld3
import Derived.Lib.SlicesCompact
import Derived.Lib.SlKeysI
import Derived.Test.YtgeoghhajjlofaaGreatDoorShelf
import Derived.Sort.OwnSortedInts
import Derived.Lib.OwnBridge
import Derived.Shelf.SlIterI.Sorted
namespace Go.Proofs.YtgeoghhajjlofaaGreatDoor.Wi
open Go.RowKit

theorem hidIn {p : Prop} (h : p) : Hid p := h
theorem ret_int {k : IntKind} {a b : Int} (h : a = b) : Ending.returned (.int k a) = .returned (.int k b) := by rw [h]
theorem int_int {k : IntKind} {a b : Int} (h : a = b) : Value.int k a = .int k b := by rw [h]

theorem u16_in' (s c : Nat) (h : s < 65536) (hc : c < 256) : bits .xor .u16 (s : Int) (c * 256 : Int) = ((s ^^^ (c * 256) : Nat) : Int) := by
  rw [show ((c : Int) * 256) = ((c * 256 : Nat) : Int) from by omega, u16_xor_nat _ _ h (by omega)]

end Go.Proofs.YtgeoghhajjlofaaGreatDoor.Wi
namespace Go.Proofs.YtgeoghhajjlofaaGreatDoor.Wi
open Go.RowKit

theorem binfo : (Tryz.prog.info? 5).map (fun i => (i.zero, i.size, i.bytes)) = some (some (.int .u8 0), 1, 1) := by kernel_rfl
theorem addr_add' (b o j : Nat) : (⟨b, o, none⟩ : Addr).add j = ⟨b, o + j, none⟩ := by unfold Addr.add; split <;> simp_all

/-- v owns the bytes l. -/
def OwnB (W : World) (base : Nat) (v : Value) (l : List Int) : Prop := W.ownsRow base 5 1 v l.length (l.map (Value.int .u8))
theorem ownB_nil (W : World) (base : Nat) : OwnB W base (.slice none 0 0) [] := World.ownsRow_nil _ _ _ _
theorem OwnB.alloc {W : World} {base : Nat} {v : Value} {l : List Int} (h : OwnB W base v l) (o : Obj) : OwnB (W.alloc o) base v l := World.ownsRow.alloc h o
theorem below_grown {w w' : World} {base : Nat} {v : Value} {l : List Int} (h : OwnB w base v l) (hb : base ≤ w.heap.size) (hg : w.grownBy w' v.ownBlock) : Below base w w' :=
  ⟨hg.os, hg.tape, hg.output, hg.size, fun k hk => hg.block k (by omega) (by
    intro e
    have := (World.ownsRow.lt h k e.symm).1
    omega)⟩

end Go.Proofs.YtgeoghhajjlofaaGreatDoor.Wi
namespace Go.Proofs.YtgeoghhajjlofaaGreatDoor.Wi
open Go.RowKit

/-- A number laid in n bytes. -/
def layN (v n : Nat) : List Int := (List.range n).map fun i => ((v / 2 ^ (8 * (n - 1 - i)) % 256 : Nat) : Int)

end Go.Proofs.YtgeoghhajjlofaaGreatDoor.Wi
namespace Go.Proofs.YtgeoghhajjlofaaGreatDoor.Wi
open Go.RowKit

/-- The sum of the first k strings. -/
def sumF (ss : Nat → ByteArray) : Nat → Nat
  | 0 => 65535
  | k + 1 => crc (sumF ss k) (ss k).data.toList
theorem sumF_lt (ss : Nat → ByteArray) (k : Nat) : sumF ss k < 65536 := by
  induction k with
  | zero => show 65535 < 65536; decide
  | succ k ih => exact crc_lt ih _
theorem take_snoc (s : ByteArray) (k : Nat) (h : k < s.size) : s.data.toList.take (k + 1) = s.data.toList.take k ++ [s[k]] := by
  rw [List.take_succ_eq_append_getElem (by simpa using h)]; rfl
theorem crc_take (S : Nat) (s : ByteArray) (k : Nat) (h : k < s.size) : crc S (s.data.toList.take (k + 1)) = add1 (crc S (s.data.toList.take k)) s[k].toNat := by
  rw [take_snoc s k h, crc_append, crc_one]

end Go.Proofs.YtgeoghhajjlofaaGreatDoor.Wi
namespace Go.Proofs.YtgeoghhajjlofaaGreatDoor.Wi
open Go.RowKit

theorem layN_length (v n : Nat) : (layN v n).length = n := by unfold layN; simp
/-- The number in k bytes of b from a on. -/
def tk (b : ByteArray) (a : Nat) : Nat → Nat
  | 0 => 0
  | k + 1 => tk b a k * 256 + (b.data.toList.getD (a + k) 0).toNat
theorem tk_lt (b : ByteArray) (a k : Nat) : tk b a k < 256 ^ k := by
  induction k with
  | zero => show 0 < 1; decide
  | succ k ih =>
    have := (b.data.toList.getD (a + k) 0).toNat_lt
    simp only [tk]
    rw [Nat.pow_succ]
    omega
theorem byteAt (b : ByteArray) (i : Nat) (h : i < b.size) : b.data.toList.getD i 0 = b[i] := by
  rw [List.getD_eq_getElem?_getD, List.getElem?_eq_getElem (by simpa using h)]
  rfl
theorem or_byte (V c : Nat) (hV : V < 72057594037927936) (hc : c < 256) : bits .or .u64 ((V : Int) * 256) (c : Int) = ((V * 256 + c : Nat) : Int) := by
  rw [show (V : Int) * 256 = ((V * 256 : Nat) : Int) from by simp, u64_or_nat _ _ (by omega) (by omega), nat_join 8 _ _ (by omega) (by omega)]
end Go.Proofs.YtgeoghhajjlofaaGreatDoor.Wi
namespace Go.Proofs.YtgeoghhajjlofaaGreatDoor
open Go.RowKit

/-- A number in n bytes. -/
def ly (v n : Nat) : ByteArray := strOfNums (Wi.layN v n)
theorem ly_size (v n : Nat) : (ly v n).size = n := by unfold ly; rw [strOfNums_size, Wi.layN_length]
theorem app_size (a b : ByteArray) : (a ++ b).size = a.size + b.size := ByteArray.size_append
theorem app_data (a b : ByteArray) : (a ++ b).data.toList = a.data.toList ++ b.data.toList := by simp
theorem ext_data {a b : ByteArray} (h : a.data.toList = b.data.toList) : a = b := by
  cases a; cases b
  congr 1
  exact Array.toList_inj.1 h
theorem ly1_data (v : Nat) : (ly v 1).data.toList = [UInt8.ofNat (v % 256)] := by
  unfold ly
  rw [strOfNums_data]
  simp [Wi.layN, List.range_succ]
  congr 1
theorem ly2_data (v : Nat) : (ly v 2).data.toList = [UInt8.ofNat (v / 256 % 256), UInt8.ofNat (v % 256)] := by
  unfold ly
  rw [strOfNums_data]
  simp [Wi.layN, List.range_succ]
  refine ⟨?_, ?_⟩ <;> congr 1
theorem ly4_data (v : Nat) : (ly v 4).data.toList = [UInt8.ofNat (v / 16777216 % 256), UInt8.ofNat (v / 65536 % 256), UInt8.ofNat (v / 256 % 256), UInt8.ofNat (v % 256)] := by
  unfold ly
  rw [strOfNums_data]
  simp [Wi.layN, List.range_succ]
  refine ⟨?_, ?_, ?_, ?_⟩ <;> congr 1
theorem u8_mod (n : Nat) : (UInt8.ofNat (n % 256)).toNat = n % 256 := by simp

/-- A stamp's bytes; a record's ahead of its neighbours; neighbours behind bytes; a record's. -/
def stS (o e s : Nat) : ByteArray := ((⟨#[]⟩ ++ ly o 1) ++ ly e 4) ++ ly s 4
def ingN (b : Bool) : Nat := if b then 1 else 0
def hdS (r : Rc) : ByteArray := ((stS r.origin.toNat r.epoch.toNat r.seq.toNat ++ ly r.claim.toNat 2) ++ ly (ingN r.ing) 1) ++ ly r.adjs.length 1
def adS (b : ByteArray) (l : List (Int × Int)) : ByteArray := l.foldl (fun s a => (s ++ ly a.1.toNat 1) ++ ly a.2.toNat 2) b
def encS (r : Rc) : ByteArray := adS (hdS r) r.adjs
theorem adS_snoc (b : ByteArray) (l : List (Int × Int)) (a : Int × Int) : adS b (l ++ [a]) = (adS b l ++ ly a.1.toNat 1) ++ ly a.2.toNat 2 := by simp [adS, List.foldl_append]
theorem adS_size (b : ByteArray) (l : List (Int × Int)) : (adS b l).size = b.size + 3 * l.length := by
  induction l generalizing b with
  | nil => simp [adS]
  | cons a l ih =>
    show (adS ((b ++ ly a.1.toNat 1) ++ ly a.2.toNat 2) l).size = _
    rw [ih, app_size, app_size, ly_size, ly_size, List.length_cons]
    omega
theorem stS_size (o e s : Nat) : (stS o e s).size = 9 := by
  unfold stS
  simp only [app_size, ly_size]
  rfl
theorem hdS_size (r : Rc) : (hdS r).size = 13 := by
  unfold hdS
  simp only [app_size, ly_size, stS_size]
theorem encS_size (r : Rc) : (encS r).size = 13 + 3 * r.adjs.length := by unfold encS; rw [adS_size, hdS_size]
/-- The same as lists of bytes. -/
def stL (o e s : Nat) : List UInt8 := [UInt8.ofNat (o % 256), UInt8.ofNat (e / 16777216 % 256), UInt8.ofNat (e / 65536 % 256), UInt8.ofNat (e / 256 % 256), UInt8.ofNat (e % 256), UInt8.ofNat (s / 16777216 % 256), UInt8.ofNat (s / 65536 % 256), UInt8.ofNat (s / 256 % 256), UInt8.ofNat (s % 256)]
def adL (l : List (Int × Int)) : List UInt8 := l.flatMap fun a => [UInt8.ofNat (a.1.toNat % 256), UInt8.ofNat (a.2.toNat / 256 % 256), UInt8.ofNat (a.2.toNat % 256)]
def hdL (r : Rc) : List UInt8 := stL r.origin.toNat r.epoch.toNat r.seq.toNat ++ [UInt8.ofNat (r.claim.toNat / 256 % 256), UInt8.ofNat (r.claim.toNat % 256), UInt8.ofNat (ingN r.ing % 256), UInt8.ofNat (r.adjs.length % 256)]
theorem stS_data (o e s : Nat) : (stS o e s).data.toList = stL o e s := by
  unfold stS stL
  simp only [app_data, ly1_data, ly4_data]
  rfl
theorem hdS_data (r : Rc) : (hdS r).data.toList = hdL r := by
  unfold hdS hdL
  simp only [app_data, stS_data, ly1_data, ly2_data, List.append_assoc]
  rfl
theorem adS_data (b : ByteArray) (l : List (Int × Int)) : (adS b l).data.toList = b.data.toList ++ adL l := by
  induction l generalizing b with
  | nil => simp [adS, adL]
  | cons a l ih =>
    show (adS ((b ++ ly a.1.toNat 1) ++ ly a.2.toNat 2) l).data.toList = _
    rw [ih]
    simp only [app_data, ly1_data, ly2_data, adL, List.flatMap_cons, List.append_assoc]
    rfl
theorem encS_data (r : Rc) : (encS r).data.toList = hdL r ++ adL r.adjs := by unfold encS; rw [adS_data, hdS_data]
/-- A number read; past the end 0. -/
def tkz (b : ByteArray) (a n : Nat) : Nat := if a + n ≤ b.size then Wi.tk b a n else 0
theorem tk1 (b : ByteArray) (a : Nat) : Wi.tk b a 1 = (b.data.toList.getD a 0).toNat := by simp [Wi.tk]
theorem tk2 (b : ByteArray) (a : Nat) : Wi.tk b a 2 = (b.data.toList.getD a 0).toNat * 256 + (b.data.toList.getD (a + 1) 0).toNat := by simp [Wi.tk]
theorem tk4 (b : ByteArray) (a : Nat) : Wi.tk b a 4 = (((b.data.toList.getD a 0).toNat * 256 + (b.data.toList.getD (a + 1) 0).toNat) * 256 + (b.data.toList.getD (a + 2) 0).toNat) * 256 + (b.data.toList.getD (a + 3) 0).toNat := by simp [Wi.tk]
theorem tkz_lt (b : ByteArray) (a n : Nat) : tkz b a n < 256 ^ n := by
  unfold tkz
  split
  · exact Wi.tk_lt b a n
  · exact Nat.pow_pos (by decide)
/-- A stamp read; a record read; is it right? -/
def rdA (b : ByteArray) (k : Nat) : List (Int × Int) := (List.range k).map fun i => (((tkz b (13 + 3 * i) 1 : Nat) : Int), ((tkz b (14 + 3 * i) 2 : Nat) : Int))
def rdR (b : ByteArray) : Rc := ⟨(tkz b 0 1 : Nat), (tkz b 1 4 : Nat), (tkz b 5 4 : Nat), (tkz b 9 2 : Nat), decide (tkz b 11 1 = 1), rdA b (tkz b 12 1)⟩
def rdOk (b : ByteArray) : Bool := decide (13 + 3 * tkz b 12 1 = b.size) && (decide (tkz b 11 1 ≤ 1) && recOk (rdR b))
def mayS (o e s : Int) : Bool := isR o && (decide (0 < e) && decide (0 < s))
def stOk (b : ByteArray) : Bool := decide (9 = b.size) && mayS (tkz b 0 1 : Nat) (tkz b 1 4 : Nat) (tkz b 5 4 : Nat)
theorem rdA_succ (b : ByteArray) (k : Nat) : rdA b (k + 1) = rdA b k ++ [(((tkz b (13 + 3 * k) 1 : Nat) : Int), ((tkz b (14 + 3 * k) 2 : Nat) : Int))] := by simp [rdA, List.range_succ]
theorem rdA_len (b : ByteArray) (k : Nat) : (rdA b k).length = k := by simp [rdA]
/-- Numbers that lie in their bytes. -/
structure RcB (r : Rc) : Prop where
  e0 : 0 ≤ r.epoch
  e1 : r.epoch < 4294967296
  s0 : 0 ≤ r.seq
  s1 : r.seq < 4294967296
theorem adL_len (l : List (Int × Int)) : (adL l).length = 3 * l.length := by
  induction l with
  | nil => rfl
  | cons a l ih =>
    have : adL (a :: l) = [UInt8.ofNat (a.1.toNat % 256), UInt8.ofNat (a.2.toNat / 256 % 256), UInt8.ofNat (a.2.toNat % 256)] ++ adL l := by simp [adL]
    rw [this, List.length_append, ih, List.length_cons]
    simp
    omega
theorem adL_get : ∀ (l : List (Int × Int)) (i : Nat) (a : Int × Int), l[i]? = some a → (adL l).getD (3 * i) 0 = UInt8.ofNat (a.1.toNat % 256) ∧ (adL l).getD (3 * i + 1) 0 = UInt8.ofNat (a.2.toNat / 256 % 256) ∧ (adL l).getD (3 * i + 2) 0 = UInt8.ofNat (a.2.toNat % 256)
  | [], i, a, h => by simp at h
  | c :: l, 0, a, h => by
    simp at h
    subst h
    exact ⟨rfl, rfl, rfl⟩
  | c :: l, i + 1, a, h => by
    have := adL_get l i a (by simpa using h)
    have e : adL (c :: l) = UInt8.ofNat (c.1.toNat % 256) :: UInt8.ofNat (c.2.toNat / 256 % 256) :: UInt8.ofNat (c.2.toNat % 256) :: adL l := by simp [adL]
    rw [e, show 3 * (i + 1) = 3 * i + 1 + 1 + 1 from by omega, show 3 * i + 1 + 1 + 1 + 1 = 3 * i + 1 + 1 + 1 + 1 from rfl, show 3 * i + 1 + 1 + 1 + 2 = 3 * i + 2 + 1 + 1 + 1 from by omega]
    simp only [List.getD_cons_succ]
    exact this
theorem getD_right (l m : List UInt8) (i : Nat) : (l ++ m).getD (l.length + i) 0 = m.getD i 0 := by
  rw [List.getD_eq_getElem?_getD, List.getD_eq_getElem?_getD, List.getElem?_append_right (by omega), Nat.add_sub_cancel_left]
theorem hdL_len (r : Rc) : (hdL r).length = 13 := rfl
/-- A record comes back from its bytes. -/
theorem rd_enc {r : Rc} (h : recOk r = true) (hb : RcB r) : rdR (encS r) = r ∧ tkz (encS r) 11 1 = ingN r.ing ∧ tkz (encS r) 12 1 = r.adjs.length := by
  have hsz := encS_size r
  have hd := encS_data r
  obtain ⟨⟨ho1, ho2⟩, hl, hadj⟩ := recOk_parts h
  have hc : 0 ≤ r.claim ∧ r.claim ≤ 1024 := by
    simp only [recOk, Bool.and_eq_true, decide_eq_true_eq] at h
    exact ⟨h.2.2.2.1, h.2.2.2.2.1⟩
  have hcell : ∀ i, (encS r).data.toList.getD i 0 = (hdL r ++ adL r.adjs).getD i 0 := fun i => by rw [hd]
  have h12 : tkz (encS r) 12 1 = r.adjs.length := by
    unfold tkz
    rw [if_pos (by omega), tk1, hcell]
    show (UInt8.ofNat (r.adjs.length % 256)).toNat = _
    rw [u8_mod]
    omega
  have h11 : tkz (encS r) 11 1 = ingN r.ing := by
    unfold tkz
    rw [if_pos (by omega), tk1, hcell]
    show (UInt8.ofNat (ingN r.ing % 256)).toNat = _
    rw [u8_mod]
    unfold ingN
    split <;> rfl
  refine ⟨?_, h11, h12⟩
  have e0 : ((tkz (encS r) 0 1 : Nat) : Int) = r.origin := by
    unfold tkz
    rw [if_pos (by omega), tk1, hcell]
    show (((UInt8.ofNat (r.origin.toNat % 256)).toNat : Nat) : Int) = _
    rw [u8_mod]
    omega
  have e1 : ((tkz (encS r) 1 4 : Nat) : Int) = r.epoch := by
    unfold tkz
    rw [if_pos (by omega), tk4, hcell, hcell, hcell, hcell]
    show ((((((UInt8.ofNat (r.epoch.toNat / 16777216 % 256)).toNat * 256 + (UInt8.ofNat (r.epoch.toNat / 65536 % 256)).toNat) * 256 + (UInt8.ofNat (r.epoch.toNat / 256 % 256)).toNat) * 256 + (UInt8.ofNat (r.epoch.toNat % 256)).toNat : Nat)) : Int) = _
    rw [u8_mod, u8_mod, u8_mod, u8_mod]
    have := hb.e0
    have := hb.e1
    omega
  have e2 : ((tkz (encS r) 5 4 : Nat) : Int) = r.seq := by
    unfold tkz
    rw [if_pos (by omega), tk4, hcell, hcell, hcell, hcell]
    show ((((((UInt8.ofNat (r.seq.toNat / 16777216 % 256)).toNat * 256 + (UInt8.ofNat (r.seq.toNat / 65536 % 256)).toNat) * 256 + (UInt8.ofNat (r.seq.toNat / 256 % 256)).toNat) * 256 + (UInt8.ofNat (r.seq.toNat % 256)).toNat : Nat)) : Int) = _
    rw [u8_mod, u8_mod, u8_mod, u8_mod]
    have := hb.s0
    have := hb.s1
    omega
  have e3 : ((tkz (encS r) 9 2 : Nat) : Int) = r.claim := by
    unfold tkz
    rw [if_pos (by omega), tk2, hcell, hcell]
    show ((((UInt8.ofNat (r.claim.toNat / 256 % 256)).toNat * 256 + (UInt8.ofNat (r.claim.toNat % 256)).toNat : Nat)) : Int) = _
    rw [u8_mod, u8_mod]
    omega
  have e4 : decide (tkz (encS r) 11 1 = 1) = r.ing := by
    rw [h11]
    unfold ingN
    cases r.ing <;> rfl
  have e5 : rdA (encS r) (tkz (encS r) 12 1) = r.adjs := by
    rw [h12]
    apply List.ext_getElem?
    intro i
    by_cases hi : i < r.adjs.length
    · obtain ⟨a, ha⟩ : ∃ a, r.adjs[i]? = some a := ⟨r.adjs[i], List.getElem?_eq_getElem hi⟩
      have hab := adjsOk_all _ _ _ hadj a (List.mem_of_getElem? ha)
      obtain ⟨g0, g1, g2⟩ := adL_get r.adjs i a ha
      have k0 := getD_right (hdL r) (adL r.adjs) (3 * i)
      have k1 := getD_right (hdL r) (adL r.adjs) (3 * i + 1)
      have k2 := getD_right (hdL r) (adL r.adjs) (3 * i + 2)
      rw [hdL_len] at k0 k1 k2
      rw [ha]
      unfold rdA
      rw [List.getElem?_map, List.getElem?_range hi]
      simp only [Option.map_some]
      congr 1
      apply Prod.ext
      · show ((tkz (encS r) (13 + 3 * i) 1 : Nat) : Int) = a.1
        unfold tkz
        rw [if_pos (by omega), tk1, hcell, k0, g0, u8_mod]
        omega
      · show ((tkz (encS r) (14 + 3 * i) 2 : Nat) : Int) = a.2
        unfold tkz
        rw [if_pos (by omega), tk2, hcell, hcell, show 14 + 3 * i = 13 + (3 * i + 1) from by omega, show 13 + (3 * i + 1) + 1 = 13 + (3 * i + 2) from by omega, k1, k2, g1, g2, u8_mod, u8_mod]
        omega
    · rw [List.getElem?_eq_none (by rw [rdA_len]; omega), List.getElem?_eq_none (by omega)]
  unfold rdR
  rw [e0, e1, e2, e3, e4, e5]
theorem enc_ok {r : Rc} (h : recOk r = true) (hb : RcB r) : rdOk (encS r) = true := by
  obtain ⟨h1, h2, h3⟩ := rd_enc h hb
  unfold rdOk
  rw [h1, h2, h3, h, encS_size]
  unfold ingN
  cases r.ing <;> simp
theorem rdR_b (b : ByteArray) : RcB (rdR b) := by
  have h1 := tkz_lt b 1 4
  have h2 := tkz_lt b 5 4
  exact ⟨by show (0 : Int) ≤ (tkz b 1 4 : Nat); omega, by show ((tkz b 1 4 : Nat) : Int) < _; omega, by show (0 : Int) ≤ (tkz b 5 4 : Nat); omega, by show ((tkz b 5 4 : Nat) : Int) < _; omega⟩
theorem u8_of (x : UInt8) : UInt8.ofNat (x.toNat % 256) = x := by
  have := x.toNat_lt
  rw [Nat.mod_eq_of_lt (by omega)]
  simp
theorem list_getD {l m : List UInt8} (hl : l.length = m.length) (h : ∀ i, i < l.length → l.getD i 0 = m.getD i 0) : l = m := by
  apply List.ext_getElem?
  intro i
  by_cases hi : i < l.length
  · have := h i hi
    rw [List.getD_eq_getElem?_getD, List.getD_eq_getElem?_getD, List.getElem?_eq_getElem hi, List.getElem?_eq_getElem (by omega)] at this
    rw [List.getElem?_eq_getElem hi, List.getElem?_eq_getElem (by omega)]
    simpa using this
  · rw [List.getElem?_eq_none (by omega), List.getElem?_eq_none (by omega)]
theorem u8_byte (x : UInt8) (n : Nat) (h : n % 256 = x.toNat) : UInt8.ofNat (n % 256) = x := by rw [h]; simp
/-- Bytes that are right are those of what is read of them. -/
theorem enc_rd {b : ByteArray} (h : rdOk b = true) : encS (rdR b) = b := by
  unfold rdOk at h
  simp only [Bool.and_eq_true, decide_eq_true_eq] at h
  obtain ⟨h1, h2, h3⟩ := h
  apply ext_data
  have hbl : b.data.toList.length = b.size := by simp
  apply list_getD
  · rw [encS_data, List.length_append, hdL_len, adL_len]
    show 13 + 3 * (rdA b (tkz b 12 1)).length = _
    rw [rdA_len, hbl, h1]
  · intro i hi
    have hi' : i < b.size := by
      rw [encS_data, List.length_append, hdL_len, adL_len] at hi
      have : (rdR b).adjs.length = tkz b 12 1 := rdA_len b _
      omega
    rw [encS_data]
    have hu := fun j => (b.data.toList.getD j 0).toNat_lt
    have z0 : tkz b 0 1 = (b.data.toList.getD 0 0).toNat := by unfold tkz; rw [if_pos (by omega), tk1]
    have z1 : tkz b 1 4 = (((b.data.toList.getD 1 0).toNat * 256 + (b.data.toList.getD (1 + 1) 0).toNat) * 256 + (b.data.toList.getD (1 + 2) 0).toNat) * 256 + (b.data.toList.getD (1 + 3) 0).toNat := by unfold tkz; rw [if_pos (by omega), tk4]
    have z5 : tkz b 5 4 = (((b.data.toList.getD 5 0).toNat * 256 + (b.data.toList.getD (5 + 1) 0).toNat) * 256 + (b.data.toList.getD (5 + 2) 0).toNat) * 256 + (b.data.toList.getD (5 + 3) 0).toNat := by unfold tkz; rw [if_pos (by omega), tk4]
    have z9 : tkz b 9 2 = (b.data.toList.getD 9 0).toNat * 256 + (b.data.toList.getD (9 + 1) 0).toNat := by unfold tkz; rw [if_pos (by omega), tk2]
    have z11 : tkz b 11 1 = (b.data.toList.getD 11 0).toNat := by unfold tkz; rw [if_pos (by omega), tk1]
    have z12 : tkz b 12 1 = (b.data.toList.getD 12 0).toNat := by unfold tkz; rw [if_pos (by omega), tk1]
    have hing : ingN (rdR b).ing = tkz b 11 1 := by
      show ingN (decide (tkz b 11 1 = 1)) = _
      unfold ingN
      by_cases h : tkz b 11 1 = 1
      · simp [h]
      · simp [h]; omega
    by_cases h13 : i < 13
    · rw [List.getD_eq_getElem?_getD, List.getElem?_append_left (by rw [hdL_len]; exact h13), ← List.getD_eq_getElem?_getD]
      have hE : (rdR b).epoch.toNat = tkz b 1 4 := rfl
      have hS : (rdR b).seq.toNat = tkz b 5 4 := rfl
      have hO : (rdR b).origin.toNat = tkz b 0 1 := rfl
      have hC : (rdR b).claim.toNat = tkz b 9 2 := rfl
      have hN : (rdR b).adjs.length = tkz b 12 1 := rdA_len b _
      unfold hdL stL
      rw [hE, hS, hO, hC, hing, hN]
      match i, h13 with
      | 0, _ => exact u8_byte _ _ (by have := hu 0; omega)
      | 1, _ => exact u8_byte _ _ (by have := hu 1; have := hu 2; have := hu 3; have := hu 4; simp only [Nat.reduceAdd] at z1; omega)
      | 2, _ => exact u8_byte _ _ (by have := hu 1; have := hu 2; have := hu 3; have := hu 4; simp only [Nat.reduceAdd] at z1; omega)
      | 3, _ => exact u8_byte _ _ (by have := hu 1; have := hu 2; have := hu 3; have := hu 4; simp only [Nat.reduceAdd] at z1; omega)
      | 4, _ => exact u8_byte _ _ (by have := hu 1; have := hu 2; have := hu 3; have := hu 4; simp only [Nat.reduceAdd] at z1; omega)
      | 5, _ => exact u8_byte _ _ (by have := hu 5; have := hu 6; have := hu 7; have := hu 8; simp only [Nat.reduceAdd] at z5; omega)
      | 6, _ => exact u8_byte _ _ (by have := hu 5; have := hu 6; have := hu 7; have := hu 8; simp only [Nat.reduceAdd] at z5; omega)
      | 7, _ => exact u8_byte _ _ (by have := hu 5; have := hu 6; have := hu 7; have := hu 8; simp only [Nat.reduceAdd] at z5; omega)
      | 8, _ => exact u8_byte _ _ (by have := hu 5; have := hu 6; have := hu 7; have := hu 8; simp only [Nat.reduceAdd] at z5; omega)
      | 9, _ => exact u8_byte _ _ (by have := hu 9; have := hu 10; simp only [Nat.reduceAdd] at z9; omega)
      | 10, _ => exact u8_byte _ _ (by have := hu 9; have := hu 10; simp only [Nat.reduceAdd] at z9; omega)
      | 11, _ => exact u8_byte _ _ (by have := hu 11; omega)
      | 12, _ => exact u8_byte _ _ (by have := hu 12; omega)
    · obtain ⟨q, hq⟩ : ∃ q, q = (i - 13) / 3 := ⟨_, rfl⟩
      have hql : q < tkz b 12 1 := by omega
      have ha : (rdR b).adjs[q]? = some (((tkz b (13 + 3 * q) 1 : Nat) : Int), ((tkz b (14 + 3 * q) 2 : Nat) : Int)) := by
        show (rdA b (tkz b 12 1))[q]? = _
        unfold rdA
        rw [List.getElem?_map, List.getElem?_range hql]
        rfl
      obtain ⟨g0, g1, g2⟩ := adL_get _ q _ ha
      simp only [Int.toNat_natCast] at g0 g1 g2
      have y0 : tkz b (13 + 3 * q) 1 = (b.data.toList.getD (13 + 3 * q) 0).toNat := by unfold tkz; rw [if_pos (by omega), tk1]
      have y1 : tkz b (14 + 3 * q) 2 = (b.data.toList.getD (14 + 3 * q) 0).toNat * 256 + (b.data.toList.getD (14 + 3 * q + 1) 0).toNat := by unfold tkz; rw [if_pos (by omega), tk2]
      have k := getD_right (hdL (rdR b)) (adL (rdR b).adjs) (i - 13)
      rw [hdL_len, show 13 + (i - 13) = i from by omega] at k
      rw [k]
      have hu0 := hu (13 + 3 * q)
      have hu1 := hu (14 + 3 * q)
      have hu2 := hu (14 + 3 * q + 1)
      have hcase : i - 13 = 3 * q ∨ i - 13 = 3 * q + 1 ∨ i - 13 = 3 * q + 2 := by omega
      rcases hcase with e | e | e
      · rw [e, g0, show i = 13 + 3 * q from by omega]
        exact u8_byte _ _ (by omega)
      · rw [e, g1, show i = 14 + 3 * q from by omega]
        exact u8_byte _ _ (by omega)
      · rw [e, g2, show i = 14 + 3 * q + 1 from by omega]
        exact u8_byte _ _ (by omega)
/-- No bytes of a record are the beginning of another one's. -/
theorem rd_more {b : ByteArray} (h : rdOk b = true) (m : ByteArray) (hm : 0 < m.size) : rdOk (b ++ m) = false := by
  apply Bool.eq_false_iff.2
  intro h'
  unfold rdOk at h h'
  simp only [Bool.and_eq_true, decide_eq_true_eq] at h h'
  have h1 := h.1
  have h2 := h'.1
  have hbl : b.data.toList.length = b.size := by simp
  rw [app_size] at h2
  have e : tkz (b ++ m) 12 1 = tkz b 12 1 := by
    unfold tkz
    rw [if_pos (by rw [app_size]; omega), if_pos (by omega), tk1, tk1, app_data]
    rw [List.getD_eq_getElem?_getD, List.getElem?_append_left (by omega), ← List.getD_eq_getElem?_getD]
  omega
theorem extract_data (b : ByteArray) (j : Nat) : (b.extract 0 j).data.toList = b.data.toList.take j := by
  rw [ByteArray.data_extract, Array.toList_extract, List.extract_eq_take_drop]
  simp
theorem rd_less {b : ByteArray} (h : rdOk b = true) (j : Nat) (hj : j < b.size) : rdOk (b.extract 0 j) = false := by
  apply Bool.eq_false_iff.2
  intro h'
  unfold rdOk at h h'
  simp only [Bool.and_eq_true, decide_eq_true_eq] at h h'
  have h1 := h.1
  have h2 := h'.1
  have hbl : b.data.toList.length = b.size := by simp
  have hsz : (b.extract 0 j).size = j := by
    have := congrArg List.length (extract_data b j)
    rw [List.length_take, hbl] at this
    simp at this
    simp
    omega
  rw [hsz] at h2
  have e : tkz (b.extract 0 j) 12 1 = tkz b 12 1 := by
    unfold tkz
    rw [if_pos (by rw [hsz]; omega), if_pos (by omega), tk1, tk1, extract_data]
    rw [List.getD_eq_getElem?_getD, List.getD_eq_getElem?_getD, List.getElem?_take, if_pos (by omega)]
  omega
/-- Stamps, there and back. -/
theorem st_rd {b : ByteArray} (h : 9 = b.size) : stS (tkz b 0 1) (tkz b 1 4) (tkz b 5 4) = b := by
  apply ext_data
  have hbl : b.data.toList.length = b.size := by simp
  rw [stS_data]
  have hu := fun j => (b.data.toList.getD j 0).toNat_lt
  have z0 : tkz b 0 1 = (b.data.toList.getD 0 0).toNat := by unfold tkz; rw [if_pos (by omega), tk1]
  have z1 : tkz b 1 4 = (((b.data.toList.getD 1 0).toNat * 256 + (b.data.toList.getD (1 + 1) 0).toNat) * 256 + (b.data.toList.getD (1 + 2) 0).toNat) * 256 + (b.data.toList.getD (1 + 3) 0).toNat := by unfold tkz; rw [if_pos (by omega), tk4]
  have z5 : tkz b 5 4 = (((b.data.toList.getD 5 0).toNat * 256 + (b.data.toList.getD (5 + 1) 0).toNat) * 256 + (b.data.toList.getD (5 + 2) 0).toNat) * 256 + (b.data.toList.getD (5 + 3) 0).toNat := by unfold tkz; rw [if_pos (by omega), tk4]
  apply list_getD
  · rw [hbl, ← h]; rfl
  · intro i hi
    have hi9 : i < 9 := hi
    unfold stL
    match i, hi9 with
    | 0, _ => exact u8_byte _ _ (by have := hu 0; omega)
    | 1, _ => exact u8_byte _ _ (by have := hu 1; have := hu 2; have := hu 3; have := hu 4; simp only [Nat.reduceAdd] at z1; omega)
    | 2, _ => exact u8_byte _ _ (by have := hu 1; have := hu 2; have := hu 3; have := hu 4; simp only [Nat.reduceAdd] at z1; omega)
    | 3, _ => exact u8_byte _ _ (by have := hu 1; have := hu 2; have := hu 3; have := hu 4; simp only [Nat.reduceAdd] at z1; omega)
    | 4, _ => exact u8_byte _ _ (by have := hu 1; have := hu 2; have := hu 3; have := hu 4; simp only [Nat.reduceAdd] at z1; omega)
    | 5, _ => exact u8_byte _ _ (by have := hu 5; have := hu 6; have := hu 7; have := hu 8; simp only [Nat.reduceAdd] at z5; omega)
    | 6, _ => exact u8_byte _ _ (by have := hu 5; have := hu 6; have := hu 7; have := hu 8; simp only [Nat.reduceAdd] at z5; omega)
    | 7, _ => exact u8_byte _ _ (by have := hu 5; have := hu 6; have := hu 7; have := hu 8; simp only [Nat.reduceAdd] at z5; omega)
    | 8, _ => exact u8_byte _ _ (by have := hu 5; have := hu 6; have := hu 7; have := hu 8; simp only [Nat.reduceAdd] at z5; omega)
theorem rd_st {o e s : Nat} (ho : o < 256) (he : e < 4294967296) (hs : s < 4294967296) : tkz (stS o e s) 0 1 = o ∧ tkz (stS o e s) 1 4 = e ∧ tkz (stS o e s) 5 4 = s := by
  have hsz := stS_size o e s
  have hcell : ∀ i, (stS o e s).data.toList.getD i 0 = (stL o e s).getD i 0 := fun i => by rw [stS_data]
  refine ⟨?_, ?_, ?_⟩
  · unfold tkz
    rw [if_pos (by omega), tk1, hcell]
    show (UInt8.ofNat (o % 256)).toNat = _
    rw [u8_mod]
    omega
  · unfold tkz
    rw [if_pos (by omega), tk4, hcell, hcell, hcell, hcell]
    show (((UInt8.ofNat (e / 16777216 % 256)).toNat * 256 + (UInt8.ofNat (e / 65536 % 256)).toNat) * 256 + (UInt8.ofNat (e / 256 % 256)).toNat) * 256 + (UInt8.ofNat (e % 256)).toNat = _
    rw [u8_mod, u8_mod, u8_mod, u8_mod]
    omega
  · unfold tkz
    rw [if_pos (by omega), tk4, hcell, hcell, hcell, hcell]
    show (((UInt8.ofNat (s / 16777216 % 256)).toNat * 256 + (UInt8.ofNat (s / 65536 % 256)).toNat) * 256 + (UInt8.ofNat (s / 256 % 256)).toNat) * 256 + (UInt8.ofNat (s % 256)).toNat = _
    rw [u8_mod, u8_mod, u8_mod, u8_mod]
    omega
/-- The first nine bytes of a record are its stamp's. -/
theorem enc_st (r : Rc) : (encS r).extract 0 9 = stS r.origin.toNat r.epoch.toNat r.seq.toNat := by
  apply ext_data
  rw [extract_data, encS_data, stS_data]
  rfl
end Go.Proofs.YtgeoghhajjlofaaGreatDoor
namespace Go.Proofs.YtgeoghhajjlofaaGreatDoor
open Go.RowKit

theorem risR_any (n : Int) (w : World) : Calls Tryz.prog 123 #[.int .i64 n] w fun e w' => e = .returned (.bool (isR n)) ∧ w' = w := by
  by_cases h1 : 1 ≤ n
  · by_cases h2 : n ≤ 24
    · go_enter Tryz.func123, Tryz.ntmps123
      go_wp2
      go_ret
      exact ⟨by simp [isR, h1, h2], rfl⟩
    · go_enter Tryz.func123, Tryz.ntmps123
      go_wp2
      go_ret
      exact ⟨by simp [isR, h1]; omega, rfl⟩
  · go_enter Tryz.func123, Tryz.ntmps123
    go_wp2
    go_ret
    exact ⟨by simp [isR]; omega, rfl⟩
theorem risC_any (n : Int) (w : World) : Calls Tryz.prog 124 #[.int .i64 n] w fun e w' => e = .returned (.bool (isC n)) ∧ w' = w := by
  by_cases h1 : 1 ≤ n
  · by_cases h2 : n ≤ 1000
    · go_enter Tryz.func124, Tryz.ntmps124
      go_wp2
      go_ret
      exact ⟨by simp [isC, h1, h2], rfl⟩
    · go_enter Tryz.func124, Tryz.ntmps124
      go_wp2
      go_ret
      exact ⟨by simp [isC, h1]; omega, rfl⟩
  · go_enter Tryz.func124, Tryz.ntmps124
    go_wp2
    go_ret
    exact ⟨by simp [isC]; omega, rfl⟩
set_option maxRecDepth 100000 in
set_option maxHeartbeats 1000000 in
theorem radjs_any {r : Rc} {va : Value} {w : World} (hv : SlAt ac 2 w va r.adjs) :
    Calls Tryz.prog 98 #[recV r va] w fun e w' => e = .returned (.bool (decide (r.adjs.length ≤ 16) && adjsOk r.origin 0 r.adjs)) ∧ Below w.heap.size w w' := by
  obtain ⟨orig, epo, sq, cl, ig, as'⟩ := r
  simp only at hv ⊢
  obtain ⟨a, cap, rfl, hl, _, hat⟩ := hv.ads
  have Ha := hidIn hat
  clear hat hv
  by_cases h16 : as'.length ≤ 16
  · have h16' : ¬ (16 : Int) < (as'.length : Int) := by omega
    have Hd : Hid ((decide (as'.length ≤ 16) && adjsOk orig 0 as') = adjsOk orig 0 as') := hidIn (by simp [h16])
    rw [Hd.out]
    clear Hd
    have hb0 := heap_alloc_last w (recO ⟨orig, epo, sq, cl, ig, as'⟩ (.slice a as'.length cap))
    have hbl0 : Below w.heap.size w (w.alloc (recO ⟨orig, epo, sq, cl, ig, as'⟩ (.slice a as'.length cap))) := (Below.refl _ w).alloc (Nat.le_refl _) _
    go_enter Tryz.func98, Tryz.ntmps98
    go_wp2
    go_loopw [3, 13] (fun x i wr => ∃ (k : Nat) (last : Int), k ≤ as'.length ∧ i = .int .i64 k ∧ x = .int .i64 last ∧ Hid (wr.cell? ⟨w.heap.size, 0, none⟩ = some (.int .i64 orig) ∧ w.heap.size < wr.heap.size ∧ Below w.heap.size w wr ∧ adjsOk orig 0 as' = adjsOk orig last (as'.drop k))) (fun _ i _ => as'.length - (intOf i).toNat)
    case atStart => exact ⟨0, 0, Nat.zero_le _, rfl, rfl, hidIn ⟨cell_of_row _ _ 0 _ _ _ hb0, by simp, hbl0, by rw [List.drop_zero]⟩⟩
    case round =>
      obtain ⟨k, last, hk, rfl, rfl, HR⟩ := hrel
      obtain ⟨ho, hlt0, hbel, hrest⟩ := HR.out
      clear HR hb0 hbl0
      by_cases hlt : k < as'.length
      · obtain ⟨bk, o, rfl, hbk, hcell⟩ := Ha.out (by omega)
        obtain ⟨⟨x, y⟩, hz⟩ : ∃ z, as'[k]? = some z := ⟨as'[k], List.getElem?_eq_getElem hlt⟩
        obtain ⟨q0, q1⟩ := hcell k _ hz
        have c0 := (hbel.cell (p := ⟨bk, o + k * 2, none⟩) hbk).trans q0
        have c1 := (hbel.cell (p := ⟨bk, o + k * 2 + 1, none⟩) hbk).trans q1
        simp only at c0 c1
        have HN : Hid (adjsOk orig 0 as' = (adjOk orig last (x, y) && adjsOk orig x (as'.drop (k + 1)))) := hidIn (by rw [hrest, drop_next hz, adjsOk])
        have HB := hidIn (hbel.alloc hbel.size (.cells #[.int .i64 x, .int .i64 y] 75))
        have HO := hidIn ho
        have hki : (k : Int) < (as'.length : Int) := by omega
        clear hcell q0 q1 hz hrest hbel
        go_wp2_with fail
        refine (risR_any x _).mono ?_
        rintro e' w2 ⟨rfl, hw2⟩
        rw [hw2]
        clear hw2 w2
        obtain ⟨b1, hb1⟩ : ∃ b1, isR x = b1 := ⟨_, rfl⟩
        have Hb1 := hidIn hb1
        rw [hb1]
        clear hb1
        cases b1
        · go_wp2_with fail
          go_returns
          exact ⟨by rw [HN.out]; simp [adjOk, Hb1.out], HB.out⟩
        by_cases hxo : x = orig
        · have hxo' : (x == orig) = true := by simpa using hxo
          have Hx := hidIn hxo
          clear hxo
          go_wp2_with fail
          go_returns
          exact ⟨by rw [HN.out]; simp [adjOk, Hx.out], HB.out⟩
        have hxo' : (x == orig) = false := by simpa using hxo
        by_cases hxl : x ≤ last
        · go_wp2_with fail
          go_returns
          exact ⟨by rw [HN.out]; simp [adjOk]; intro _ _ _; omega, HB.out⟩
        go_wp2_with fail
        refine (risC_any y _).mono ?_
        rintro e' w2 ⟨rfl, hw2⟩
        rw [hw2]
        clear hw2 w2
        obtain ⟨b1, hb1⟩ : ∃ b1, isC y = b1 := ⟨_, rfl⟩
        have Hb2 := hidIn hb1
        rw [hb1]
        clear hb1
        cases b1
        · go_wp2_with fail
          go_returns
          exact ⟨by rw [HN.out]; simp [adjOk, Hb2.out], HB.out⟩
        go_wp2_with fail
        go_roundw
        case rel =>
          refine ⟨k + 1, x, by omega, by go_num, rfl, hidIn ⟨?_, by simp; omega, HB.out, ?_⟩⟩
          · exact ((((Below.refl _ wr).alloc (Nat.le_refl _) _).cell (p := ⟨w.heap.size, 0, none⟩) hlt0)).trans HO.out
          · rw [HN.out]; simp [adjOk, Hb1.out, Hb2.out, hxo]; intro h; omega
        case measure => simp [intOf]; omega
      · have HB := hidIn hbel
        have hke : k = as'.length := by omega
        have HE : Hid (adjsOk orig 0 as' = true) := hidIn (by rw [hrest, hke, List.drop_length]; rfl)
        have hki : ¬ ((k : Int) < (as'.length : Int)) := by omega
        clear hbel hrest
        go_wp2_with fail
        go_returns
        exact ⟨by rw [HE.out]; rfl, HB.out⟩
  · have h16' : (16 : Int) < (as'.length : Int) := by omega
    go_enter Tryz.func98, Tryz.ntmps98
    go_wp2
    go_ret
    exact ⟨by simp [h16], by go_grown⟩
abbrev stV (o e s : Int) : Value := .agg #[.int .i64 o, .int .u32 e, .int .u32 s]
abbrev stO (o e s : Int) : Obj := .cells #[.int .i64 o, .int .u32 e, .int .u32 s] 164
set_option maxRecDepth 100000 in
set_option maxHeartbeats 1000000 in
theorem mayS_any (o e s : Int) (w : World) : Calls Tryz.prog 96 #[stV o e s] w fun r w' => r = .returned (.bool (mayS o e s)) ∧ Below w.heap.size w w' := by
  have hb0 : Below w.heap.size w (w.alloc (stO o e s)) := (Below.refl _ w).alloc (Nat.le_refl _) _
  go_enter Tryz.func96, Tryz.ntmps96
  go_wp2_with fail
  refine (risR_any o _).mono ?_
  rintro e' w2 ⟨rfl, hw2⟩
  rw [hw2]
  clear hw2 w2
  obtain ⟨b1, hb1⟩ : ∃ b1, isR o = b1 := ⟨_, rfl⟩
  have Hb1 := hidIn hb1
  rw [hb1]
  clear hb1
  cases b1
  · go_wp2_with fail
    go_ret
    exact ⟨by simp [mayS, Hb1.out], hb0⟩
  by_cases h1 : 0 < e
  · by_cases h2 : 0 < s
    · go_wp2_with fail
      go_ret
      exact ⟨by simp [mayS, Hb1.out, h1, h2], hb0⟩
    · go_wp2_with fail
      go_ret
      exact ⟨by simp [mayS, Hb1.out]; omega, hb0⟩
  · go_wp2_with fail
    go_ret
    exact ⟨by simp [mayS, Hb1.out]; omega, hb0⟩
set_option maxRecDepth 100000 in
set_option maxHeartbeats 1000000 in
theorem stamp_any (r : Rc) (a : Option Addr) (n cap : Nat) (w : World) : Calls Tryz.prog 97 #[recV r (.slice a n cap)] w fun e w' => e = .returned (stV r.origin r.epoch r.seq) ∧ Below w.heap.size w w' := by
  obtain ⟨orig, epo, sq, cl, ig, as'⟩ := r
  simp only
  go_enter Tryz.func97, Tryz.ntmps97
  go_wp2_with fail
  exact bodyPost_ret (v := stV orig epo sq) (by simp [results, Tryz.results97, asAddr, Result.andThen, go_sem]) rfl ⟨rfl, by go_grown⟩
theorem recOk_may (r : Rc) : recOk r = (mayS r.origin r.epoch r.seq && (decide (0 ≤ r.claim) && (decide (r.claim ≤ 1024) && (decide (r.adjs.length ≤ 16) && adjsOk r.origin 0 r.adjs)))) := by
  simp [recOk, mayS, Bool.and_assoc]
/-- What Check answers. -/
def ckN (r : Rc) : Int := if recOk r then 0 else 2
set_option maxRecDepth 100000 in
set_option maxHeartbeats 1000000 in
theorem rcheck_any {r : Rc} {va : Value} {w : World} (hv : SlAt ac 2 w va r.adjs) :
    Calls Tryz.prog 63 #[recV r va] w fun e w' => e = .returned (.int .i64 (ckN r)) ∧ Below w.heap.size w w' := by
  have HA := hidIn (fun w1 (hb : Below w.heap.size w w1) => radjs_any (r := r) (hv.keep hb (Nat.le_refl _)))
  obtain ⟨aa, acap, rfl, _⟩ := hv.ads
  clear hv
  have HS := hidIn (fun w1 => stamp_any r aa r.adjs.length acap w1)
  have HR := hidIn (recOk_may r)
  obtain ⟨b2, hb2⟩ : ∃ b2, (decide (r.adjs.length ≤ 16) && adjsOk r.origin 0 r.adjs) = b2 := ⟨_, rfl⟩
  rw [hb2] at HA HR
  have hb0 : Below w.heap.size w (w.alloc (recO r (.slice aa r.adjs.length acap))) := (Below.refl _ w).alloc (Nat.le_refl _) _
  have hB0 := heap_alloc_last w (recO r (.slice aa r.adjs.length acap))
  obtain ⟨W0, hW0⟩ : ∃ W0, w.alloc (recO r (.slice aa r.adjs.length acap)) = W0 := ⟨_, rfl⟩
  rw [hW0] at hb0 hB0
  obtain ⟨orig, epo, sq, cl, ig, as'⟩ := r
  simp only at HA HS HR hB0 hW0 ⊢
  obtain ⟨res, hres⟩ : ∃ res, ckN ⟨orig, epo, sq, cl, ig, as'⟩ = res := ⟨_, rfl⟩
  rw [hres]
  have Hres := hidIn hres
  have HW := hidIn hW0
  have HB0 := hidIn hB0
  clear hres hb2 hW0
  have c0 := cell_of_row _ _ 0 _ _ _ hB0
  have c1 := cell_of_row _ _ 1 _ _ _ hB0
  have c2 := cell_of_row _ _ 2 _ _ _ hB0
  have c3 := cell_of_row _ _ 3 _ _ _ hB0
  have c4 := cell_of_row _ _ 4 _ _ _ hB0
  have c5 := cell_of_row _ _ 5 _ _ _ hB0
  simp at c0 c1 c2 c3 c4 c5
  clear hB0
  go_enter Tryz.func63, Tryz.ntmps63
  go_upto_region 1 with fail
  rw [HW.out]
  clear HW
  go_wp2_with fail
  refine (HS.out _).mono ?_
  rintro e2 w2 ⟨rfl, hb2⟩
  have hB2 := (hb2.block _ (block_lt HB0.out)).trans HB0.out
  have b2' := hb0.trans (hb2.mono hb0.size)
  clear hb2 HS HB0 hb0 c0 c1 c2 c3 c4 c5
  go_wp2_with fail
  refine (mayS_any _ _ _ _).mono ?_
  rintro e3 w3 ⟨rfl, hb3⟩
  have hB3 := (hb3.block _ (block_lt hB2)).trans hB2
  have b3' := b2'.trans (hb3.mono b2'.size)
  have HA3 := hidIn (HA.out w3 b3')
  have HB3 := hidIn b3'
  clear hb3 hB2 b2' b3' HA
  have c0 := cell_of_row _ _ 0 _ _ _ hB3
  have c1 := cell_of_row _ _ 1 _ _ _ hB3
  have c2 := cell_of_row _ _ 2 _ _ _ hB3
  have c3 := cell_of_row _ _ 3 _ _ _ hB3
  have c4 := cell_of_row _ _ 4 _ _ _ hB3
  have c5 := cell_of_row _ _ 5 _ _ _ hB3
  simp at c0 c1 c2 c3 c4 c5
  clear hB3
  obtain ⟨b1, hb1⟩ : ∃ b1, mayS orig epo sq = b1 := ⟨_, rfl⟩
  rw [hb1] at HR ⊢
  clear hb1
  cases b1
  · go_wp2_with fail
    go_returns
    exact ⟨by rw [← Hres.out]; unfold ckN; rw [HR.out]; rfl, HB3.out⟩
  by_cases h3 : 0 ≤ cl
  · by_cases h4 : cl ≤ 1024
    · have h3' : ¬ cl < 0 := by omega
      have h4' : ¬ 1024 < cl := by omega
      go_wp2_with fail
      refine HA3.out.mono ?_
      rintro e4 w4 ⟨rfl, hb4⟩
      have HB4 := hidIn (HB3.out.trans (hb4.mono HB3.out.size))
      clear hb4 c0 c1 c2 c3 c4 c5 HA3
      cases b2
      · go_wp2_with fail
        go_returns
        exact ⟨by rw [← Hres.out]; unfold ckN; rw [HR.out]; simp, HB4.out⟩
      · go_wp2_with fail
        go_returns
        exact ⟨by rw [← Hres.out]; unfold ckN; rw [HR.out]; simp [h3, h4], HB4.out⟩
    · have h4' : 1024 < cl := by omega
      go_wp2_with fail
      go_returns
      exact ⟨by rw [← Hres.out]; unfold ckN; rw [HR.out]; simp; intro _ _; omega, HB3.out⟩
  · have h3' : cl < 0 := by omega
    go_wp2_with fail
    go_returns
    exact ⟨by rw [← Hres.out]; unfold ckN; rw [HR.out]; simp; intro _ _; omega, HB3.out⟩
end Go.Proofs.YtgeoghhajjlofaaGreatDoor
namespace Go.Proofs.YtgeoghhajjlofaaGreatDoor

theorem nodesOk_of : ∀ (l : List Nat) (last : Int), l.Pairwise (· < ·) → (∀ x ∈ l, 1 ≤ x ∧ x ≤ 24 ∧ last < (x : Int)) → nodesOk last (l.map fun (i : Nat) => (i : Int)) = true
  | [], _, _, _ => rfl
  | x :: l, last, hp, hb => by
    have h1 := hb x (by simp)
    have h2 := List.pairwise_cons.1 hp
    simp only [List.map_cons, nodesOk, Bool.and_eq_true, decide_eq_true_eq, isR_iff]
    refine ⟨⟨by omega, by omega⟩, h1.2.2, nodesOk_of l x h2.2 fun y hy => ?_⟩
    have := hb y (by simp [hy])
    have := h2.1 y hy
    omega
theorem edgesOk_of {ns : List Int} : ∀ (es : List Ed) (last : Ed), es.Pairwise (fun a b => risesE a b = true) → (∀ e ∈ es, hasN ns e.1 = true ∧ hasN ns e.2.1 = true ∧ e.1 ≠ e.2.1 ∧ isC e.2.2 = true ∧ risesE last e = true) → edgesOk ns last es = true
  | [], _, _, _ => rfl
  | x :: es, last, hp, hb => by
    have h1 := hb x (by simp)
    have h2 := List.pairwise_cons.1 hp
    simp only [edgesOk, edgeOk, Bool.and_eq_true, Bool.not_eq_true', decide_eq_false_iff_not]
    refine ⟨⟨h1.1, h1.2.1, h1.2.2.1, h1.2.2.2.1, h1.2.2.2.2⟩, edgesOk_of es x h2.2 fun y hy => ?_⟩
    have h3 := hb y (by simp [hy])
    exact ⟨h3.1, h3.2.1, h3.2.2.1, h3.2.2.2.1, h2.1 y hy⟩
theorem risesE_iff {a b : Ed} : risesE a b = true ↔ a.1 < b.1 ∨ (a.1 = b.1 ∧ a.2.1 < b.2.1) := by simp [risesE]
theorem rowE_pairwise (c : Nat → Nat → Int) (a : Nat) : (rowE c a (List.range 25)).Pairwise fun x y => risesE x y = true := by
  unfold rowE
  rw [List.pairwise_map]
  refine (List.pairwise_lt_range.filter _).imp fun {x y} h => ?_
  rw [risesE_iff]
  right
  simp
  omega
theorem laidE_pairwise (c : Nat → Nat → Int) : (laidE c).Pairwise fun x y => risesE x y = true := by
  unfold laidE
  rw [List.pairwise_flatMap]
  refine ⟨fun a _ => rowE_pairwise c a, List.pairwise_lt_range.imp fun {a b} h x hx y hy => ?_⟩
  rw [risesE_iff]
  left
  unfold rowE at hx hy
  obtain ⟨p, _, rfl⟩ := List.mem_map.1 hx
  obtain ⟨q, _, rfl⟩ := List.mem_map.1 hy
  simp
  omega
theorem count_tos : ∀ (l : List (Int × Int)) (p : List Nat), p.Nodup → (p.filter fun b => l.any fun x => decide (x.1.toNat = b)).length ≤ l.length
  | [], p, _ => by simp
  | x :: l, p, hp => by
    have h1 := count_tos l p hp
    have h2 : (p.filter fun b => (x :: l).any fun x => decide (x.1.toNat = b)).length ≤ (p.filter fun b => decide (x.1.toNat = b)).length + (p.filter fun b => l.any fun x => decide (x.1.toNat = b)).length := by
      clear h1 hp
      induction p with
      | nil => simp
      | cons b p ih =>
        simp only [List.filter_cons, List.any_cons]
        cases h3 : decide (x.1.toNat = b) <;> cases h4 : (l.any fun x => decide (x.1.toNat = b)) <;> simp at ih ⊢ <;> omega
    have h3 : (p.filter fun b => decide (x.1.toNat = b)).length ≤ 1 := by
      clear h1 h2
      induction p with
      | nil => simp
      | cons b p ih =>
        have hn := List.nodup_cons.1 hp
        by_cases hb : x.1.toNat = b
        · have : (p.filter fun b => decide (x.1.toNat = b)) = [] := by
            rw [List.filter_eq_nil_iff]
            intro y hy h
            simp at h
            exact hn.1 (by rw [← hb, h]; exact hy)
          simp [hb]
          rw [hb] at this
          simpa using this
        · simp [hb]
          exact ih hn.2
    simp only [List.length_cons]
    omega
theorem filter_len {α : Type} {p q : α → Bool} : ∀ (l : List α), (∀ x ∈ l, p x = true → q x = true) → (l.filter p).length ≤ (l.filter q).length
  | [], _ => by simp
  | x :: l, h => by
    have h1 := filter_len l fun y hy => h y (by simp [hy])
    have h2 := h x (by simp)
    simp only [List.filter_cons]
    cases hp : p x
    · cases hq : q x <;> simp <;> omega
    · rw [h2 hp]
      simp
      omega
theorem Unl.one : ∀ {rs : List Rc}, Unl rs → ∀ {a b : Rc}, a ∈ rs → b ∈ rs → a.origin.toNat = b.origin.toNat → a = b
  | [], _, _, _, h, _, _ => by simp at h
  | r :: rs, hu, a, b, ha, hb, e => by
    have hp := List.pairwise_cons.1 hu.2
    rcases List.mem_cons.1 ha with h1 | h1
    · rcases List.mem_cons.1 hb with h2 | h2
      · rw [h1, h2]
      · rw [h1] at e; exact absurd e (hp.1 b h2)
    · rcases List.mem_cons.1 hb with h2 | h2
      · rw [h2] at e; exact absurd e.symm (hp.1 a h1)
      · exact Unl.one (rs := rs) ⟨fun x hx => hu.1 x (by simp [hx]), hp.2⟩ h1 h2 e
theorem rowE_len16 {rs : List Rc} {c : Nat → Nat → Int} (hu : Unl rs) (hc : IsCost rs c) (a : Nat) : (rowE c a (List.range 25)).length ≤ 16 ∧ (a = 0 → rowE c a (List.range 25) = []) := by
  refine ⟨?_, fun h0 => ?_⟩
  · by_cases h : ∃ r ∈ rs, r.origin.toNat = a
    · obtain ⟨r, hr, rfl⟩ := h
      have h1 := (recOk_parts (hu.1 r hr)).2.1
      have h2 := count_tos r.adjs (List.range 25) List.nodup_range
      have h3 : (rowE c r.origin.toNat (List.range 25)).length ≤ ((List.range 25).filter fun b => r.adjs.any fun x => decide (x.1.toNat = b)).length := by
        unfold rowE
        rw [List.length_map]
        refine filter_len _ fun b _ hb => ?_
        simp only [Bool.and_eq_true, decide_eq_true_eq] at hb
        obtain ⟨r', hr', x, hx, h4, h5⟩ := hc.from' r.origin.toNat b (by omega)
        have : r' = r := hu.one hr' hr h4
        rw [List.any_eq_true]
        exact ⟨x, by rw [← this]; exact hx, by simpa using h5⟩
      omega
    · have : rowE c a (List.range 25) = [] := by
        unfold rowE
        rw [List.map_eq_nil_iff, List.filter_eq_nil_iff]
        intro b _ hb
        simp only [Bool.and_eq_true, decide_eq_true_eq] at hb
        obtain ⟨r, hr, _, _, h1, _⟩ := hc.from' a b (by omega)
        exact h ⟨r, hr, h1⟩
      rw [this]; simp
  · subst h0
    unfold rowE
    rw [List.map_eq_nil_iff, List.filter_eq_nil_iff]
    intro b _ hb
    simp only [Bool.and_eq_true, decide_eq_true_eq] at hb
    rcases isCost_pos hc hu 0 b with h | h <;> omega
theorem sum16 (c : Nat → Nat → Int) (h0 : rowE c 0 (List.range 25) = []) (h : ∀ a, (rowE c a (List.range 25)).length ≤ 16) : ∀ a, ((List.range (a + 1)).flatMap fun a => rowE c a (List.range 25)).length ≤ 16 * a
  | 0 => by simp [h0]
  | a + 1 => by
    have h1 := sum16 c h0 h a
    have h2 := h (a + 1)
    rw [show List.range (a + 1 + 1) = List.range (a + 1) ++ [a + 1] from List.range_succ, List.flatMap_append, List.length_append]
    simp only [List.flatMap_cons, List.flatMap_nil, List.append_nil]
    omega
/-- What Both answers may be. -/
theorem both_may {rs : List Rc} (hu : Unl rs) : graphOk (bothN rs) (bothE rs) = true := by
  have hc := isCost_of hu
  simp only [graphOk, Bool.and_eq_true, decide_eq_true_eq]
  refine ⟨?_, ?_, ?_⟩
  · refine nodesOk_of _ 0 (List.pairwise_lt_range.filter _) fun x hx => ?_
    obtain ⟨_, h2⟩ := List.mem_filter.1 hx
    rcases (thereL_iff rs no1 x).1 h2 with h | ⟨r, hr, rfl⟩
    · simp [no1] at h
    · have := (recOk_parts (hu.1 r hr)).1
      omega
  · exact sum16 _ ((rowE_len16 hu hc 0).2 rfl) (fun a => (rowE_len16 hu hc a).1) 24
  · refine edgesOk_of _ _ (laidE_pairwise _) fun e he => ?_
    obtain ⟨a, b, ha, hb, h1, h2, rfl⟩ := mem_laidE.1 he
    have k1 := isCost_pos hc hu a b
    have k2 := isCost_pos hc hu b a
    have k3 : 1 ≤ costL no2 rs a b ∧ costL no2 rs a b ≤ 1000 ∧ 1 ≤ a ∧ a ≤ 24 ∧ 1 ≤ b ∧ b ≤ 24 ∧ a ≠ b ∧ thereL no1 rs a = true := by
      rcases k1 with h | h
      · omega
      · exact h
    have k4 : thereL no1 rs b = true := by
      rcases k2 with h | h
      · omega
      · exact h.2.2.2.2.2.2.2
    refine ⟨hasN_iff.2 (mem_markedL.2 ⟨a, ha, k3.2.2.2.2.2.2.2, rfl⟩), hasN_iff.2 (mem_markedL.2 ⟨b, hb, k4, rfl⟩), by simp; omega, isC_iff.2 ⟨k3.1, k3.2.1⟩, risesE_iff.2 (.inl ?_)⟩
    simp
    omega
def cnt (f : Nat → Bool) : Nat := ((List.range 25).filter f).length
theorem cnt_unm (f : Nat → Bool) : cnt f + unm f = 25 := by
  unfold cnt unm
  have : ∀ l : List Nat, (l.filter f).length + (l.filter fun i => !f i).length = l.length := by
    intro l
    induction l with
    | nil => rfl
    | cons x l ih =>
      simp only [List.filter_cons]
      cases f x <;> simp <;> omega
  simpa using this (List.range 25)
theorem cnt_there : ∀ (rs : List Rc) (f : Nat → Bool), Unl rs → (∀ r ∈ rs, f r.origin.toNat = false) → cnt (thereL f rs) = cnt f + rs.length
  | [], _, _, _ => rfl
  | r :: rs, f, hu, hf => by
    have hp := List.pairwise_cons.1 hu.2
    have h1 := hf r (by simp)
    have h2 := (recOk_parts (hu.1 r (by simp))).1
    have h3 := cnt_there rs (mk1 f r.origin.toNat) ⟨fun x hx => hu.1 x (by simp [hx]), hp.2⟩ fun x hx => by
      cases h4 : mk1 f r.origin.toNat x.origin.toNat with
      | false => rfl
      | true =>
        rcases mk1_iff.1 h4 with h | h
        · exact absurd h.symm (hp.1 x hx)
        · rw [hf x (by simp [hx])] at h; cases h
    have h5 := unm_mk1 h1 (show r.origin.toNat < 25 by omega)
    have h6 := cnt_unm f
    have h7 := cnt_unm (mk1 f r.origin.toNat)
    show cnt (thereL (mk1 f r.origin.toNat) rs) = _
    rw [h3, List.length_cons]
    omega
theorem bothN_len {rs : List Rc} (hu : Unl rs) : (bothN rs).length = rs.length := by
  have h := cnt_there rs no1 hu fun _ _ => rfl
  have h0 : cnt no1 = 0 := rfl
  unfold bothN markedL
  rw [List.length_map]
  unfold cnt at h h0
  omega
/-- Has a graph an edge? -/
def hasE (es : List Ed) (a b : Int) : Bool := es.any fun e => decide (e.1 = a) && decide (e.2.1 = b)
theorem hasE_iff {es : List Ed} {a b : Int} : hasE es a b = true ↔ ∃ e ∈ es, e.1 = a ∧ e.2.1 = b := by
  unfold hasE
  rw [List.any_eq_true]
  constructor
  · rintro ⟨e, he, h⟩
    simp at h
    exact ⟨e, he, h⟩
  · rintro ⟨e, he, h⟩
    exact ⟨e, he, by simp [h]⟩
theorem both_back {rs : List Rc} {e : Ed} (h : e ∈ bothE rs) : hasE (bothE rs) e.2.1 e.1 = true := hasE_iff.2 (laidE_sym h)
/-- A part is that of each of its nodes. -/
theorem part_one {es : List Ed} (hs : ∀ e ∈ es, ∃ e' ∈ es, e'.1 = e.2.1 ∧ e'.2.1 = e.1) {x y : Int} {f g : Nat → Bool} (hf : IsPart es x f) (hy : y ∈ markedL f) (hg : IsPart es y g) : markedL g = markedL f := by
  obtain ⟨i, hi, hfi, rfl⟩ := mem_markedL.1 hy
  have h1 := hf.sound i hfi
  have h2 := h1.symm hs
  refine markedL_congr fun j hj => ?_
  have h3 : g j = true ↔ f j = true := ⟨fun h => hf.full j hj (h1.trans (hg.sound j h)), fun h => hg.full j hj (h2.trans (hf.sound j h))⟩
  cases h4 : g j <;> cases h5 : f j <;> simp [h4, h5] at h3 <;> rfl
theorem part_self {es : List Ed} {x : Int} {f : Nat → Bool} (hb : 1 ≤ x ∧ x ≤ 24) (hf : IsPart es x f) : x ∈ markedL f := by
  refine mem_markedL.2 ⟨x.toNat, by omega, hf.full _ (by omega) ?_, by omega⟩
  rw [Int.toNat_of_nonneg (by omega)]
  exact Rch.refl _ _
theorem part_mem {es : List Ed} {ns : List Int} {x y : Int} {f : Nat → Bool} (hx : x ∈ ns) (he : ∀ e ∈ es, e.1 ∈ ns ∧ e.2.1 ∈ ns) (hf : IsPart es x f) (hy : y ∈ markedL f) : y ∈ ns := by
  obtain ⟨i, hi, hfi, rfl⟩ := mem_markedL.1 hy
  exact (hf.sound i hfi).mem hx he
theorem markedL_len (f : Nat → Bool) : (markedL f).length ≤ 25 := by
  unfold markedL
  rw [List.length_map]
  have := List.length_filter_le f (List.range 25)
  simpa using this
end Go.Proofs.YtgeoghhajjlofaaGreatDoor
namespace Go.Proofs.YtgeoghhajjlofaaGreatDoor
open Go.RowKit

theorem hasE_drop {es : List Ed} {k : Nat} {x y c a b : Int} (h : es[k]? = some (x, y, c)) : hasE (es.drop k) a b = ((decide (x = a) && decide (y = b)) || hasE (es.drop (k + 1)) a b) := by
  rw [drop_next h, hasE, List.any_cons]
  rfl
theorem infoRec : (Tryz.prog.info? 73).map (fun i => (i.zero, i.size, i.bytes)) = some (some (.agg #[.int .i64 0, .int .u32 0, .int .u32 0, .int .i64 0, .bool false, .slice none 0 0]), 6, 56) := by kernel_rfl
/-- One record more. -/
theorem append_rec {W : World} {base k : Nat} {u : Value} {l : List (Rc × Value)} (hr : W.ownsRow base 73 6 u k (fl rcc l)) (x : Rc × Value) (hx : x.2.oneCell' = true) (hk : (k + 1) * 56 ≤ 140737488355328) (hbase : base ≤ W.heap.size) :
    ∃ g cap w6, (Builtin.append_ #[33, 33] 33 #[u, .slice (some ⟨W.heap.size, 0, none⟩) 1 1]).run Tryz.prog (W.alloc (.cells (rcc x).toArray 73)) = .ok (.slice (some ⟨g, 0, none⟩) (k + 1) cap) w6 ∧
      w6.ownsRow base 73 6 (.slice (some ⟨g, 0, none⟩) (k + 1) cap) (k + 1) (fl rcc (l ++ [x])) ∧ Below base W w6 := by
  obtain ⟨i0, hi, hz0, hz1, hz2⟩ := info_parts infoRec
  obtain ⟨g, cap, w6, hrun, hown, hgrow, _, _⟩ := run_append_lies (P := Tryz.prog) (W.alloc (.cells (rcc x).toArray 73)) 33 33 base 73 i0 _ 6 56 Tryz.underlying33 hi hz0 hz1 hz2 rfl (by decide) u k (fl rcc l) (hr.alloc _) ⟨W.heap.size, 0, none⟩ 1 1 (rcc x) rfl (fun j v hv => by
    rw [Addr.add_mid, Nat.zero_add, cell_of_row _ _ j (rcc x).toArray 73 (0, 0) (heap_alloc_last W _)]
    simpa using hv) (by simp only [rcc, List.mem_cons, List.not_mem_nil, or_false]; rintro u (rfl | rfl | rfl | rfl | rfl | rfl) <;> first | rfl | exact hx) (by omega) (by unfold maxLen; omega) hk (by simp; omega) (W.heap.size + 1) (by simp)
  refine ⟨g, cap, w6, hrun, by rw [fl_snoc]; exact hown, ?_⟩
  exact ((Below.refl _ W).alloc hbase _).grown hgrow (by simp; omega) (fun j e => by
    rcases hr.2 with ⟨rfl, _⟩ | ⟨g', cap', cur, rfl, hb, _⟩
    · simp [Value.ownBlock] at e
    · simp [Value.ownBlock] at e; omega)
end Go.Proofs.YtgeoghhajjlofaaGreatDoor
namespace Go.Proofs.YtgeoghhajjlofaaGreatDoor
open Go.RowKit Go.Maps

/-- An element reads as itself. -/
def selfR (v : Value) : Option (DataW Value × List MemPlace) := some (.held v, [])
theorem keyI9 : Keyed Tryz.prog 3 := int_keyed Tryz.underlying3
theorem key_int {k : Int} (hk : (Lit.int .i64 k).wf = true) : keyOf Tryz.prog 3 (.int .i64 k) = some (.int .i64 k) := keyOf_int_mk Tryz.underlying3 hk
theorem wf9 {k : Int} (h : 0 ≤ k ∧ k ≤ 1000000) : (Lit.int .i64 k).wf = true := WalkArith.wf_i64 (by omega)
theorem key_lit (k : Int) : WideAt.IsKeyLit (Lit.int .i64 k) := by first | trivial | simp [WideAt.IsKeyLit]
abbrev noRec : Value := .agg #[.int .i64 0, .int .u32 0, .int .u32 0, .int .i64 0, .bool false, .slice none 0 0]
theorem zeroRec (w : World) : (zeroValue 73).run Tryz.prog w = .ok noRec w := by kernel_rfl
/-- What a map has, by keys. -/
def MpAt (w : World) (B n : Nat) (f : Int → Option Value) : Prop :=
  ∃ D : DataW Value, w.ownsMap Tryz.prog 3 selfR B n D ∧ ∀ k, (Lit.int .i64 k).wf = true → Maps.has D (.int .i64 k) = (f k).isSome ∧ D.atKey (.int .i64 k) (.held noRec) = .held ((f k).getD noRec)
theorem mpAt_new (w : World) : MpAt (w.alloc (.map #[] 0)) w.heap.size 0 (fun _ => none) :=
  ⟨.map [], World.ownsMap_made _ _ _ _, fun _ _ => ⟨rfl, rfl⟩⟩
theorem MpAt.lt {w : World} {B n : Nat} {f : Int → Option Value} (h : MpAt w B n f) : B < w.heap.size := by
  obtain ⟨D, h1, _⟩ := h
  exact h1.lt
theorem MpAt.keep {w w' : World} {B n : Nat} {f : Int → Option Value} {T : Nat → Prop} (h : MpAt w B n f) (hF : Fr T w w') (hT : ¬ T B) : MpAt w' B n f := by
  obtain ⟨D, ⟨es, clock, hb, r⟩, h2⟩ := h
  exact ⟨D, ⟨es, clock, (hF.block B (Array.getElem?_eq_some_iff.1 hb).1 hT).trans hb, r⟩, h2⟩
theorem MpAt.mono {w : World} {B n m : Nat} {f : Int → Option Value} (h : MpAt w B n f) (hn : n ≤ m) : MpAt w B m f := by
  obtain ⟨D, h1, h2⟩ := h
  exact ⟨D, h1.mono hn, h2⟩
def putO {β : Type} (f : Int → Option β) (k : Int) (v : β) : Int → Option β := fun j => if j = k then some v else f j
theorem putO_same {β : Type} (f : Int → Option β) (k : Int) (v : β) : putO f k v k = some v := by simp [putO]
theorem putO_other {β : Type} (f : Int → Option β) {j k : Int} (v : β) (h : j ≠ k) : putO f k v j = f j := by simp [putO, h]
theorem held_inj {v u : Value} {ps : List MemPlace} (h : selfR v = some (.held u, ps)) : v = u := by
  simp [selfR] at h
  exact h.1
/-- What a store has, by origins: the record, and where its neighbours lie. -/
abbrev Sf : Type := Int → Option (Rc × Value)
def sV (f : Sf) : Int → Option Value := fun k => (f k).map fun p => recV p.1 p.2
end Go.Proofs.YtgeoghhajjlofaaGreatDoor
namespace Go.Proofs.YtgeoghhajjlofaaGreatDoor

theorem carr_get {l : List Int} {m : Nat} (h : m < l.length) : l.toArray[m]! = l[m] := by simp [h]
theorem cupTo_ok {l : List Int} (hs : l.Pairwise fun a b => a ≤ b) : ∀ m, m ≤ l.length → (Lib.compactUpTo l.toArray m).Pairwise (fun a b => a < b) ∧ ∀ x, x ∈ Lib.compactUpTo l.toArray m ↔ x ∈ l.take m
  | 0, _ => by simp [Lib.compactUpTo]
  | m + 1, h => by
    obtain ⟨h1, h2⟩ := cupTo_ok hs m (by omega)
    have hm : m < l.length := by omega
    have hle : ∀ x ∈ l.take m, x ≤ l[m] := fun x hx => by
      obtain ⟨k, hk, rfl⟩ := List.getElem_of_mem hx
      rw [List.length_take] at hk
      rw [List.getElem_take]
      exact List.pairwise_iff_getElem.1 hs k m (by omega) hm (by omega)
    have htk : l.take (m + 1) = l.take m ++ [l[m]] := by rw [List.take_add_one, List.getElem?_eq_getElem hm]; rfl
    rw [Lib.compactUpTo_succ, carr_get hm, htk]
    by_cases hk : Lib.keeps l.toArray m = true
    · rw [if_pos hk]
      refine ⟨List.pairwise_append.2 ⟨h1, by simp, fun x hx y hy => ?_⟩, fun x => by rw [List.mem_append, List.mem_append, h2 x]⟩
      rw [List.mem_singleton.1 hy]
      have hx' := (h2 x).1 hx
      have h3 := hle x hx'
      have h4 : x ≠ l[m] := by
        intro e
        have hm0 : m ≠ 0 := by rintro rfl; simp at hx'
        have hk' : l.toArray[m]! ≠ l.toArray[m - 1]! := by
          unfold Lib.keeps at hk
          simp only [decide_eq_true_eq] at hk
          exact hk.resolve_left hm0
        rw [carr_get hm, carr_get (show m - 1 < l.length by omega)] at hk'
        obtain ⟨k, hkk, he⟩ := List.getElem_of_mem hx'
        rw [List.length_take] at hkk
        rw [List.getElem_take] at he
        have h5 : l[k] ≤ l[m - 1] := by
          by_cases hkm : k = m - 1
          · subst hkm; exact Int.le_refl _
          · exact List.pairwise_iff_getElem.1 hs k (m - 1) (by omega) (by omega) (by omega)
        have h6 : l[m - 1] ≤ l[m] := List.pairwise_iff_getElem.1 hs (m - 1) m (by omega) hm (by omega)
        apply hk'
        omega
      omega
    · rw [if_neg hk, List.append_nil]
      refine ⟨h1, fun x => ?_⟩
      rw [h2 x, List.mem_append, List.mem_singleton]
      refine ⟨.inl, fun h3 => h3.elim id (fun e => ?_)⟩
      have hk2 : ¬ (m = 0 ∨ l.toArray[m]! ≠ l.toArray[m - 1]!) := by
        unfold Lib.keeps at hk
        simpa only [decide_eq_true_eq] using hk
      have hm0 : m ≠ 0 := fun e => hk2 (.inl e)
      have he : l.toArray[m]! = l.toArray[m - 1]! := Classical.byContradiction fun h => hk2 (.inr h)
      rw [carr_get hm, carr_get (show m - 1 < l.length by omega)] at he
      rw [e, he]
      exact List.mem_take_iff_getElem.2 ⟨m - 1, by omega, rfl⟩
/-- Rising, each once. -/
def rsL (l : List Int) : List Int := Lib.compact (l.mergeSort fun x y => decide (x ≤ y))
theorem rsL_ok (l : List Int) : (rsL l).Pairwise (fun x y => x < y) ∧ ∀ x, x ∈ rsL l ↔ x ∈ l := by
  have hs : (l.mergeSort fun x y => decide (x ≤ y)).Pairwise fun x y => x ≤ y := by
    have := List.pairwise_mergeSort (le := fun x y : Int => decide (x ≤ y)) (by intro x y z h1 h2; simp at *; omega) (by intro x y; simp; omega) l
    exact this.imp (fun h => by simpa using h)
  obtain ⟨h1, h2⟩ := cupTo_ok hs _ (Nat.le_refl _)
  refine ⟨h1, fun x => ?_⟩
  show x ∈ Lib.compactUpTo _ _ ↔ _
  rw [h2 x, List.take_length, List.mem_mergeSort]
/-- Lists that rise and have the same numbers are one. -/
theorem crise_ext : ∀ {l m : List Int}, l.Pairwise (fun a b => a < b) → m.Pairwise (fun a b => a < b) → (∀ x, x ∈ l ↔ x ∈ m) → l = m
  | [], [], _, _, _ => rfl
  | [], b :: m, _, _, h => absurd ((h b).2 (by simp)) (by simp)
  | a :: l, [], _, _, h => absurd ((h a).1 (by simp)) (by simp)
  | a :: l, b :: m, hl, hm, h => by
    rw [List.pairwise_cons] at hl hm
    have h1 : a = b := by
      rcases List.mem_cons.1 ((h a).1 (by simp)) with h2 | h2
      · exact h2
      · rcases List.mem_cons.1 ((h b).2 (by simp)) with h3 | h3
        · exact h3.symm
        · have := hl.1 b h3; have := hm.1 a h2; omega
    subst h1
    rw [crise_ext hl.2 hm.2 (fun x => ?_)]
    constructor
    · intro hx
      rcases List.mem_cons.1 ((h x).1 (by simp [hx])) with h2 | h2
      · have := hl.1 x hx; omega
      · exact h2
    · intro hx
      rcases List.mem_cons.1 ((h x).2 (by simp [hx])) with h2 | h2
      · have := hm.1 x hx; omega
      · exact h2
theorem rsL_same {l m : List Int} (h : ∀ x, x ∈ l ↔ x ∈ m) : rsL l = rsL m :=
  crise_ext (rsL_ok l).1 (rsL_ok m).1 (fun x => by rw [(rsL_ok l).2, (rsL_ok m).2, h])
theorem rsL_of {l : List Int} (h : l.Pairwise fun x y => x < y) : rsL l = l := crise_ext (rsL_ok l).1 h (rsL_ok l).2
theorem rsL_nil : rsL [] = [] := rsL_of (by simp)
theorem rsL_len (l : List Int) : (rsL l).length ≤ l.length := by
  unfold rsL Lib.compact Lib.compactUpTo
  rw [List.length_map]
  exact Nat.le_trans (List.length_filter_le _ _) (by simp)
theorem rsL_ne {l : List Int} (h : l ≠ []) : rsL l ≠ [] := fun e => by
  obtain ⟨x, hx⟩ := List.exists_mem_of_ne_nil l h
  have := ((rsL_ok l).2 x).2 hx
  rw [e] at this
  cases this
/-- Who claims an id. -/
def gat (rs : List Rc) (id : Int) : List Int := (rs.filter fun r => decide (r.claim = id) && !decide (r.claim = 0)).map Rc.origin
theorem gat_nil (id : Int) : gat [] id = [] := rfl
theorem gat_snoc (rs : List Rc) (r : Rc) (id : Int) : gat (rs ++ [r]) id = gat rs id ++ (if r.claim = id ∧ r.claim ≠ 0 then [r.origin] else []) := by
  unfold gat
  rw [List.filter_append, List.map_append]
  congr 1
  by_cases h : r.claim = id ∧ r.claim ≠ 0
  · rw [if_pos h]
    simp [h.1, h.1 ▸ h.2]
  · rw [if_neg h]
    have : (decide (r.claim = id) && !decide (r.claim = 0)) = false := by
      cases h1 : decide (r.claim = id)
      · rfl
      · cases h2 : decide (r.claim = 0)
        · exact absurd ⟨of_decide_eq_true h1, of_decide_eq_false h2⟩ h
        · rfl
    rw [List.filter_cons, this]
    rfl
theorem mem_gat {rs : List Rc} {id x : Int} : x ∈ gat rs id ↔ ∃ r ∈ rs, r.claim = id ∧ r.claim ≠ 0 ∧ r.origin = x := by
  unfold gat
  simp only [List.mem_map, List.mem_filter, Bool.and_eq_true, Bool.not_eq_true', decide_eq_true_eq, decide_eq_false_iff_not]
  constructor
  · rintro ⟨r, ⟨h1, h2, h3⟩, h4⟩
    exact ⟨r, h1, h2, h3, h4⟩
  · rintro ⟨r, h1, h2, h3, h4⟩
    exact ⟨r, ⟨h1, h2, h3⟩, h4⟩
theorem gat_len (rs : List Rc) (id : Int) : (gat rs id).length ≤ rs.length := by
  unfold gat
  rw [List.length_map]
  exact List.length_filter_le _ _
/-- All ids. -/
def allI : List Int := (List.range 1024).map fun (i : Nat) => (i : Int) + 1
theorem mem_allI {x : Int} : x ∈ allI ↔ 1 ≤ x ∧ x ≤ 1024 := by
  unfold allI
  simp only [List.mem_map, List.mem_range]
  constructor
  · rintro ⟨a, h1, h2⟩
    omega
  · intro h
    exact ⟨x.toNat - 1, by omega, by omega⟩
theorem allI_rise : allI.Pairwise fun x y => x < y := by
  unfold allI
  rw [List.pairwise_map]
  exact List.pairwise_lt_range.imp fun h => by omega
def idsL (rs : List Rc) : List Int := allI.filter fun id => !(gat rs id).isEmpty
theorem mem_idsL {rs : List Rc} {x : Int} : x ∈ idsL rs ↔ (1 ≤ x ∧ x ≤ 1024) ∧ gat rs x ≠ [] := by
  unfold idsL
  rw [List.mem_filter, mem_allI]
  simp
theorem idsL_rise (rs : List Rc) : (idsL rs).Pairwise fun x y => x < y := allI_rise.sublist List.filter_sublist
/-- The claims of records. -/
def allC (rs : List Rc) : List (Int × List Int) := (idsL rs).map fun id => (id, rsL (gat rs id))
/-- The records are of routers, no two of one. -/
theorem bothOk_all : ∀ (f : Nat → Bool) (rs : List Rc), bothOk f rs = true → (∀ r ∈ rs, recOk r = true ∧ f r.origin.toNat = false) ∧ (rs.map Rc.origin).Nodup
  | _, [], _ => ⟨fun _ h => absurd h List.not_mem_nil, List.nodup_nil⟩
  | f, r :: rs, h => by
    rw [bothOk] at h
    simp only [Bool.and_eq_true, Bool.not_eq_true'] at h
    obtain ⟨h1, h2, h3⟩ := h
    obtain ⟨g1, g2⟩ := bothOk_all _ rs h3
    have hr := (recOk_parts h1).1
    have key : ∀ s ∈ rs, f s.origin.toNat = false ∧ s.origin ≠ r.origin := fun s hs => by
      have h4 := (g1 s hs).2
      unfold mk1 at h4
      by_cases e : s.origin.toNat = r.origin.toNat
      · simp [e] at h4
      · simp [e] at h4
        exact ⟨h4, fun e' => e (by rw [e'])⟩
    refine ⟨fun s hs => ?_, ?_⟩
    · rcases List.mem_cons.1 hs with rfl | hs
      · exact ⟨h1, h2⟩
      · exact ⟨(g1 s hs).1, (key s hs).1⟩
    · rw [List.map_cons, List.nodup_cons]
      refine ⟨fun hm => ?_, g2⟩
      obtain ⟨s, hs, e⟩ := List.mem_map.1 hm
      exact (key s hs).2 e
end Go.Proofs.YtgeoghhajjlofaaGreatDoor
namespace Go.Proofs.YtgeoghhajjlofaaGreatDoor
open Go.RowKit Go.Maps

abbrev nilS : Value := .slice none 0 0
theorem zeroSl (w : World) : (zeroValue 39).run Tryz.prog w = .ok nilS w := by kernel_rfl
/-- What a map has, by keys. -/
def MpZ (w : World) (B n : Nat) (f : Int → Option Value) : Prop :=
  ∃ D : DataW Value, w.ownsMap Tryz.prog 3 selfR B n D ∧ ∀ k, (Lit.int .i64 k).wf = true → Maps.has D (.int .i64 k) = (f k).isSome ∧ D.atKey (.int .i64 k) (.held nilS) = .held ((f k).getD nilS)
theorem mpZ_new (w : World) : MpZ (w.alloc (.map #[] 0)) w.heap.size 0 (fun _ => none) :=
  ⟨.map [], World.ownsMap_made _ _ _ _, fun _ _ => ⟨rfl, rfl⟩⟩
theorem MpZ.lt {w : World} {B n : Nat} {f : Int → Option Value} (h : MpZ w B n f) : B < w.heap.size := by
  obtain ⟨D, h1, _⟩ := h
  exact h1.lt
theorem MpZ.isMap {w : World} {B n : Nat} {f : Int → Option Value} (h : MpZ w B n f) : ∃ es cl, w.heap[B]? = some (.map es cl) := by
  obtain ⟨D, ⟨es, clock, hb, _⟩, _⟩ := h
  exact ⟨es, clock, hb⟩
theorem MpZ.keep {w w' : World} {B n : Nat} {f : Int → Option Value} {T : Nat → Prop} (h : MpZ w B n f) (hF : Fr T w w') (hT : ¬ T B) : MpZ w' B n f := by
  obtain ⟨D, ⟨es, clock, hb, r⟩, h2⟩ := h
  exact ⟨D, ⟨es, clock, (hF.block B (Array.getElem?_eq_some_iff.1 hb).1 hT).trans hb, r⟩, h2⟩
theorem MpZ.mono {w : World} {B n m : Nat} {f : Int → Option Value} (h : MpZ w B n f) (hn : n ≤ m) : MpZ w B m f := by
  obtain ⟨D, h1, h2⟩ := h
  exact ⟨D, h1.mono hn, h2⟩
theorem MpZ.put {w : World} {B n : Nat} {f : Int → Option Value} (h : MpZ w B n f) (hn : n < 1000000) {x : Int} (hx : (Lit.int .i64 x).wf = true) (v : Value) :
    ∃ w', (Instr.mapUpdate 129 (.map (some B)) (.int .i64 x) v).run Tryz.prog w = .ok () w' ∧ MpZ w' B (n + 1) (putO f x v) ∧ Fr (fun k => k = B) w w' := by
  obtain ⟨D, h1, h2⟩ := h
  obtain ⟨w', hrun, ho, hg⟩ := h1.update (t := 129) keyI9 Tryz.underlying129 (by unfold maxLen; omega) (key_int hx) (d := .held v) (ps := []) rfl
  refine ⟨w', hrun, ⟨_, ho, fun k hk => ?_⟩, ⟨hg.os, hg.tape, hg.output, hg.size, fun k hk hs => hg.block k hk (fun e => hs (Option.some.inj e))⟩⟩
  by_cases hkx : k = x
  · subst hkx
    rw [has_put_same h1.isMap (key_lit k), atKey_put_same h1.isMap (key_lit k), putO_same]
    exact ⟨rfl, rfl⟩
  · have hne : (Lit.int .i64 k) ≠ .int .i64 x := fun h => hkx (by injection h)
    rw [has_put_other hne, atKey_put_other hne, putO_other f v hkx]
    exact h2 k hk
/-- 'm[k]'. -/
theorem MpZ.look1 {w : World} {B n : Nat} {f : Int → Option Value} (h : MpZ w B n f) {x : Int} (hx : (Lit.int .i64 x).wf = true) :
    (Instr.lookup 129 (.map (some B)) (.int .i64 x) false).run Tryz.prog w = .ok ((f x).getD nilS) w := by
  obtain ⟨D, h1, h2⟩ := h
  obtain ⟨v, ps, hrun, hv⟩ := h1.lookup (t := 129) keyI9 Tryz.underlying129 (zeroSl w) (zd := .held nilS) (zp := []) rfl (key_int hx)
  rw [(h2 x hx).2] at hv
  rw [held_inj hv] at hrun
  exact hrun
/-- The keys, sorted. -/
theorem MpZ.keys {w : World} {B n : Nat} {f : Int → Option Value} (h : MpZ w B n f) (ks : List Int) (hr : ks.Pairwise fun x y => x < y) (hk : ∀ x, x ∈ ks ↔ (Lit.int .i64 x).wf = true ∧ (f x).isSome = true) :
    ∃ D : DataW Value, w.ownsMap Tryz.prog 3 selfR B n D ∧ ∀ ss : List Int, ss.Perm (intKeys D) → ss.length = ks.length ∧ (ss.mergeSort fun x y => decide (x ≤ y)) = ks := by
  obtain ⟨D, h1, h2⟩ := h
  have hc : CollectedI D (fun _ => false) ks := ⟨hr.imp (fun h => by omega), fun x => by
    rw [hk x]
    by_cases hw : (Lit.int .i64 x).wf = true
    · rw [(h2 x hw).1]
      simp [hw]
    · simp only [hw]
      constructor
      · rintro ⟨h, _⟩
        cases h
      · rintro ⟨hh, _⟩
        exfalso
        refine hw ?_
        obtain ⟨es, rfl, hko⟩ := h1.keysOf
        rw [has_eq, List.any_eq_true] at hh
        obtain ⟨p, hp, hs⟩ := hh
        obtain ⟨v, hv⟩ := hko p hp
        obtain ⟨y, _, hy, hl⟩ := Maps.keyOf_i64 Tryz.underlying3 hv
        rw [hy] at hs
        have : x = y := by simpa [Lit.sameKey, eq_comm] using hs
        rw [this]
        exact hl⟩
  have hp := hc.perm h1 keyI9 Tryz.underlying3 (fun _ => rfl)
  refine ⟨D, h1, fun ss hss => ?_⟩
  have hps := hss.trans hp.symm
  refine ⟨hps.length_eq, ?_⟩
  have h3 := mergeSort_of_perm_i hps
  have h4 : ks.mergeSort leI = ks := List.mergeSort_of_pairwise (hr.imp fun h => by simp [leI]; omega)
  exact h3.trans h4
end Go.Proofs.YtgeoghhajjlofaaGreatDoor
namespace Go.Proofs.YtgeoghhajjlofaaGreatDoor
open Go.RowKit Go.Maps Go.Sort Go.Shelf

theorem cints_map (l : List Int) : fl ic l = l.map (Value.int .i64) := by
  induction l with
  | nil => rfl
  | cons a l ih => unfold fl at ih ⊢; rw [List.flatMap_cons, ih]; rfl
/-- A copy. -/
theorem cclone_any {w : World} {v : Value} {l : List Int} (h : SlAt ic 1 w v l) (hn : NilOk v) (hl : l.length * 8 ≤ 140737488355328) :
    Calls Tryz.prog 62 #[v] w fun e w' => (∃ v', e = .returned v' ∧ w'.ownsRow w.heap.size 3 1 v' l.length (fl ic l)) ∧ Below w.heap.size w w' := by
  obtain ⟨a, cap, rfl, _, _, hc⟩ := h.ints
  rcases hn with ⟨p, n, c, he⟩ | he
  · simp only [Value.slice.injEq] at he
    obtain ⟨rfl, rfl, rfl⟩ := he
    by_cases h0 : 0 < l.length
    · obtain ⟨bk, o, hp, hb, hc2⟩ := hc h0
      simp only [Option.some.injEq] at hp
      subst hp
      refine (Tryz.slices_Clone_int bk o l.length cap l w (Nat.le_refl _) hl (fun j hj => ?_)).mono ?_
      · rw [hc2 j l[j] (List.getElem?_eq_getElem hj)]
        simp [List.getD_eq_getElem?_getD, List.getElem?_eq_getElem hj]
      · rintro e w' ⟨v', rfl, hr, _, hb'⟩
        rw [List.take_length, ← cints_map] at hr
        exact ⟨⟨v', rfl, hr⟩, hb'⟩
    · have hl0 : l = [] := List.length_eq_zero_iff.1 (by omega)
      subst hl0
      refine (Tryz.slices_Clone_int_zero p cap w).mono ?_
      rintro e w' ⟨v', rfl, hr, _, hb'⟩
      exact ⟨⟨v', rfl, hr⟩, hb'⟩
  · simp only [Value.slice.injEq] at he
    obtain ⟨rfl, h0, rfl⟩ := he
    have hl0 : l = [] := List.length_eq_zero_iff.1 h0
    subst hl0
    refine (Tryz.slices_Clone_int_nil 0 0 w).mono ?_
    rintro e w' ⟨rfl, rfl⟩
    exact ⟨⟨_, rfl, World.ownsRow_nil _ _ _ _⟩, Below.refl _ _⟩
theorem ccompact_len (l : List Int) : (Lib.compact l).length ≤ l.length := by
  unfold Lib.compact Lib.compactUpTo
  rw [List.length_map]
  exact Nat.le_trans (List.length_filter_le _ _) (by simp)
set_option maxRecDepth 100000 in
set_option maxHeartbeats 2000000 in
theorem rising_any {l : List Int} {v : Value} {w : World} (h : SlAt ic 1 w v l) (hn : NilOk v) (hll : l.length ≤ 20000) :
    Calls Tryz.prog 66 #[v] w fun e w' => (∃ a cap, e = .returned (.slice a (rsL l).length cap) ∧ w'.ownsRow w.heap.size 3 1 (.slice a (rsL l).length cap) (rsL l).length (fl ic (rsL l))) ∧ Below w.heap.size w w' := by
  have HC := hidIn (cclone_any h hn (by omega))
  obtain ⟨a0, c0, rfl, _⟩ := h
  clear hn
  obtain ⟨jj, hjj⟩ : ∃ jj, rsL l = jj := ⟨_, rfl⟩
  have HJ : Hid (jj = Lib.compact (l.mergeSort fun x y => decide (x ≤ y))) := hidIn (by rw [← hjj]; rfl)
  rw [hjj]
  clear hjj
  go_enter Tryz.func66, Tryz.ntmps66
  go_wp2_with fail
  refine HC.out.mono ?_
  rintro e w2 ⟨⟨v', rfl, hrow2⟩, hb2⟩
  obtain ⟨a, cap, rfl⟩ := row_shape hrow2
  have HB2 := hidIn hb2
  clear hb2 HC
  rcases hrow2.2 with ⟨h1, h0⟩ | ⟨g, cap', cur, hu, hg, hh, h1, h2, h3, h4⟩
  · have hl0 : l = [] := List.length_eq_zero_iff.1 h0
    subst hl0
    simp at h1
    obtain ⟨rfl, rfl⟩ := h1
    have HS := hidIn (Tryz.slices_Sort_int_none none 0 w2)
    have HCp := hidIn (Tryz.slices_Compact_int_empty none 0 w2)
    have HJ0 : Hid (jj = []) := hidIn (by rw [HJ.out]; simp [Lib.compact, Lib.compactUpTo])
    simp only [List.length_nil]
    clear h0 hrow2
    go_wp2_with fail
    refine HS.out.mono ?_
    rintro e w3 ⟨rfl, hw3⟩
    rw [hw3]
    clear hw3 w3 HS
    go_wp2_with fail
    refine HCp.out.mono ?_
    rintro e w3 ⟨rfl, hw3⟩
    rw [hw3]
    clear hw3 w3 HCp
    go_wp2_with fail
    go_ret
    exact ⟨⟨none, 0, by rw [HJ0.out]; rfl, by rw [HJ0.out]; exact World.ownsRow_nil _ _ _ _⟩, HB2.out⟩
  · simp at hu
    obtain ⟨rfl, rfl⟩ := hu
    obtain ⟨ts, hts⟩ : ∃ ts, (l.mergeSort fun x y => decide (x ≤ y)) = ts := ⟨_, rfl⟩
    have htl : ts.length = l.length := by rw [← hts, List.length_mergeSort]
    have htake : cur.toList.take l.length = l.map (Value.int .i64) := by rw [Nat.mul_one, cints_map] at h4; exact h4
    have hS := Tryz.slices_Sort_int g 0 cap l w2 (holds_of_blockI hh htake) (block_lt hh) (by omega)
    rw [hts] at hS HJ
    have HS := hidIn hS
    have HT : Hid (∀ n os, (Sort.grow (Sort.putRow (Value.int .i64) (Sort.ahead w2 n) g 0 ts.toArray) os).ownsRow w.heap.size 3 1 (.slice (some ⟨g, 0, none⟩) l.length cap) l.length (ts.map (Value.int .i64)) ∧ Below w.heap.size w (Sort.grow (Sort.putRow (Value.int .i64) (Sort.ahead w2 n) g 0 ts.toArray) os)) := hidIn fun n os => ⟨ownsRow_sortedI htl hg hh h1 h2 h3, HB2.out.grown (grownBy_sortedI _) HB2.out.size (fun k hk => by cases hk; exact hg)⟩
    clear hS hts
    go_wp2_with fail
    refine HS.out.mono ?_
    rintro e w3 ⟨rfl, n, os, hw3⟩
    have h3' := HT.out n os
    rw [← hw3] at h3'
    obtain ⟨hrow3, hb3⟩ := h3'
    clear hw3 HS HT
    rw [← htl] at hrow3 ⊢
    have hcap3 : ts.length ≤ cap := by omega
    obtain ⟨cur3, hh3, ht3⟩ : ∃ cur3, w3.heap[g]? = some (.cells cur3 3 (0, 0)) ∧ cur3.toList.take ts.length = ts.map (Value.int .i64) := by
      rcases hrow3.2 with ⟨h, _⟩ | ⟨g', cap', cur3, h, _, hh3, _, _, _, h5⟩
      · simp at h
      · simp at h
        obtain ⟨rfl, _⟩ := h
        exact ⟨cur3, hh3, by rw [Nat.mul_one] at h5; exact h5⟩
    have HCp := hidIn (Tryz.slices_Compact_int g 0 cap ts w3 (holds_of_blockI hh3 ht3) (by omega) hcap3)
    have hcl := ccompact_len ts
    have HR3 : Hid (∀ q, (Sort.putRow (Value.int .i64) (Sort.ahead w3 q) g 0 (Lib.compact ts ++ List.replicate (ts.length - (Lib.compact ts).length) 0).toArray).ownsRow w.heap.size 3 1 (.slice (some ⟨g, 0, none⟩) (Lib.compact ts).length cap) (Lib.compact ts).length (fl ic (Lib.compact ts)) ∧ Below w.heap.size w (Sort.putRow (Value.int .i64) (Sort.ahead w3 q) g 0 (Lib.compact ts ++ List.replicate (ts.length - (Lib.compact ts).length) 0).toArray)) := hidIn fun q => by
      refine ⟨?_, Lib.below_putRow hb3 hg⟩
      have := Lib.ownsRow_putRow (q := q) (k := (Lib.compact ts).length) (ys := Lib.compact ts ++ List.replicate (ts.length - (Lib.compact ts).length) 0) hrow3 (by simp; omega) hcl
      rw [List.take_left] at this
      rw [cints_map]
      exact this
    clear hrow3 hb3 hh3 ht3 htl hcl
    go_wp2_with fail
    refine HCp.out.mono ?_
    rintro e w4 ⟨rfl, q, hw4⟩
    have h4' := HR3.out q
    rw [← hw4] at h4'
    have H4 := hidIn h4'
    clear hw4 HR3 HCp h4'
    go_wp2_with fail
    go_ret
    exact ⟨⟨_, _, by rw [HJ.out]; rfl, by rw [HJ.out]; exact H4.out.1⟩, H4.out.2⟩
/-- What maps.Keys hands back. -/
abbrev keyF (B : Nat) : Value := .func (.func 100) #[] #[.pointer (some ⟨B, 0, none⟩)]
theorem keysC_any (M : Nat) (w : World) : Calls Tryz.prog 65 #[.map (some M)] w fun e w' => e = .returned (keyF w.heap.size) ∧ w' = w.alloc (.cells #[.map (some M)] 129) :=
  (callsIn_wide (n := 5)).1 (AnyZI.keys_in Tryz.keysA Fence.wide 5 trivial rfl (some M) w)
theorem sortsA (m : Nat) : AnyZI.SortsIn Tryz.prog Tryz.sortedA_ren Fence.wide m :=
  ⟨fun blk off cap ss W hH hblk hsz => callsIn_wide.2 (Tryz.slices_Sort_int blk off cap ss W hH hblk hsz),
   fun p cap W => callsIn_wide.2 (Tryz.slices_Sort_int_none p cap W)⟩
set_option maxHeartbeats 1000000 in
theorem sortedC_any {w : World} {M n : Nat} {f : Int → Option Value} (h : MpZ w M n f) (hn : n ≤ 100000) (ks : List Int) (hr : ks.Pairwise fun x y => x < y) (hk : ∀ x, x ∈ ks ↔ (Lit.int .i64 x).wf = true ∧ (f x).isSome = true) :
    Calls Tryz.prog 64 #[keyF w.heap.size] (w.alloc (.cells #[.map (some M)] 129)) fun e w' => (∃ a cap, e = .returned (.slice a ks.length cap) ∧ w'.ownsRow w.heap.size 3 1 (.slice a ks.length cap) ks.length (fl ic ks)) ∧ Below w.heap.size w w' := by
  obtain ⟨D, hown, hks⟩ := h.keys ks hr hk
  have hsz : Maps.size D ≤ n := by
    obtain ⟨es, clock, hb, F, hs, rfl⟩ := hown
    simpa [Maps.size, length_sorted] using hs
  have hbl := hown.lt
  have hseq : SeqGives Fence.wide 2 Tryz.prog 100 #[.pointer (some ⟨w.heap.size, 0, none⟩)] encZ (fun ss => ss.Perm (intKeys D)) (Maps.size D) (w.alloc (.cells #[.map (some M)] 129)) :=
    AnyZI.keys_gives (ρ := Tryz.keysA_ren) { Tryz.keysA with } Fence.wide _ trivial rfl (by omega) w.heap.size M n D _ (by simp) (by simp) (by
      obtain ⟨es, clock, hb, Ft, hs, hD⟩ := hown
      exact ⟨es, clock, (Below.heap_alloc _ _ M hbl).trans hb, Ft, hs, hD⟩)
  have cS := AnyZI.sorted_in Tryz.sortedA Fence.wide 5 trivial trivial trivial trivial rfl (by omega) (sortsA _) (enters_of Tryz.func26 (by kernel_rfl) rfl) 100 #[.pointer (some ⟨w.heap.size, 0, none⟩)] trivial (enters_of Tryz.func100 (by kernel_rfl) rfl) _ _ (by unfold maxLen; omega) (by omega) _ hseq
  refine ((callsIn_wide (n := 5)).1 cS).mono ?_
  rintro e w' ⟨v, ss, rfl, hp, hrow, _, hb⟩
  obtain ⟨h1, h2⟩ := hks ss hp
  rw [h2, h1] at hrow
  have hrow' := row_low hrow (show w.heap.size ≤ (w.alloc (.cells #[.map (some M)] 129)).heap.size by simp)
  obtain ⟨a, cap, rfl⟩ := row_shape hrow'
  exact ⟨⟨a, cap, rfl, by rw [cints_map]; exact hrow'⟩, ((Below.refl _ w).alloc (Nat.le_refl _) _).trans (hb.mono (by simp))⟩
end Go.Proofs.YtgeoghhajjlofaaGreatDoor
namespace Go.Proofs.YtgeoghhajjlofaaGreatDoor
open Go.RowKit Go.Maps

theorem crowTy {w : World} {base k size : Nat} {e : TypeId} {u : Value} {xs : List Value} (h : w.ownsRow base e size u k xs) {j : Nat} (hj : u.ownBlock = some j) : ∃ cur, w.heap[j]? = some (Obj.cells cur e) := by
  rcases h.2 with ⟨rfl, _⟩ | ⟨g, cap, cur, rfl, _, hh, _⟩
  · simp [Value.ownBlock] at hj
  · simp [Value.ownBlock] at hj
    subst hj
    exact ⟨cur, hh⟩
/-- A claim, as cells: its id, where its routers lie. -/
abbrev clc (x : Int × List Int × Value) : List Value := [.int .i64 x.1, x.2.2]
abbrev cls (L : List (Int × List Int × Value)) : List (Int × List Int) := L.map fun x => (x.1, x.2.1)
theorem infoClaim : (Tryz.prog.info? 108).map (fun i => (i.zero, i.size, i.bytes)) = some (some (.agg #[.int .i64 0, .slice none 0 0]), 2, 32) := by kernel_rfl
theorem append_clm {W : World} {base k : Nat} {u : Value} {l : List (Int × List Int × Value)} (hr : W.ownsRow base 108 2 u k (fl clc l)) (x : Int × List Int × Value) (hx : x.2.2.oneCell' = true) (hk : (k + 1) * 32 ≤ 140737488355328) (hbase : base ≤ W.heap.size) :
    ∃ g cap w6, (Builtin.append_ #[103, 103] 103 #[u, .slice (some ⟨W.heap.size, 0, none⟩) 1 1]).run Tryz.prog (W.alloc (.cells (clc x).toArray 108)) = .ok (.slice (some ⟨g, 0, none⟩) (k + 1) cap) w6 ∧
      w6.ownsRow base 108 2 (.slice (some ⟨g, 0, none⟩) (k + 1) cap) (k + 1) (fl clc (l ++ [x])) ∧ Below base W w6 ∧ Fr (fun j => u.ownBlock = some j) W w6 := by
  obtain ⟨i0, hi, hz0, hz1, hz2⟩ := info_parts infoClaim
  obtain ⟨g, cap, w6, hrun, hown, hgrow, _, _⟩ := run_append_lies (P := Tryz.prog) (W.alloc (.cells (clc x).toArray 108)) 103 103 base 108 i0 _ 2 32 Tryz.underlying103 hi hz0 hz1 hz2 rfl (by decide) u k (fl clc l) (hr.alloc _) ⟨W.heap.size, 0, none⟩ 1 1 (clc x) rfl (fun j v hv => by
    rw [Addr.add_mid, Nat.zero_add, cell_of_row _ _ j (clc x).toArray 108 (0, 0) (heap_alloc_last W _)]
    simpa using hv) (by simp only [clc, List.mem_cons, List.not_mem_nil, or_false]; rintro u (rfl | rfl) <;> first | rfl | exact hx) (by omega) (by unfold maxLen; omega) hk (by simp; omega) (W.heap.size + 1) (by simp)
  refine ⟨g, cap, w6, hrun, by rw [fl_snoc]; exact hown, ?_, ?_⟩
  · exact ((Below.refl _ W).alloc hbase _).grown hgrow (by simp; omega) (fun j e => by
      rcases hr.2 with ⟨rfl, _⟩ | ⟨g', cap', cur, rfl, hb, _⟩
      · simp [Value.ownBlock] at e
      · simp [Value.ownBlock] at e; omega)
  · refine ⟨hgrow.os, hgrow.tape, hgrow.output, Nat.le_trans (by simp) hgrow.size, fun j hj hn => ?_⟩
    rw [hgrow.block j (by simp; omega) (fun e => hn e.symm), Below.heap_alloc _ _ _ hj]
/-- Claims that a call has made: all in memory of its own. -/
def ClsAns (w w' : World) (T : List (Int × List Int)) (u : Value) : Prop := ∃ L, w'.ownsRow w.heap.size 108 2 u L.length (fl clc L) ∧ cls L = T ∧ ∀ x ∈ L, w'.ownsRow w.heap.size 3 1 x.2.2 x.2.1.length (fl ic x.2.1)
/-- Claims handed in. -/
structure ClsAt (w : World) (u : Value) (L : List (Int × List Int × Value)) : Prop where
  r : SlAt clc 2 w u L
  a : ∀ x ∈ L, SlAt ic 1 w x.2.2 x.2.1 ∧ NilOk x.2.2
theorem ClsAt.keep {w w' : World} {u : Value} {L : List (Int × List Int × Value)} {B : Nat} (h : ClsAt w u L) (hb : Below B w w') (hB : w.heap.size ≤ B) : ClsAt w' u L := ⟨h.r.keep hb hB, fun x hx => ⟨(h.a x hx).1.keep hb hB, (h.a x hx).2⟩⟩
theorem row_nilOk {w : World} {base : Nat} {e : TypeId} {size k : Nat} {v : Value} {xs : List Value} (hr : w.ownsRow base e size v k xs) : NilOk v := by
  rcases hr.2 with ⟨rfl, rfl⟩ | ⟨g', cap', cur, rfl, _⟩
  · exact .inr rfl
  · exact .inl ⟨_, _, _, rfl⟩
theorem ClsAns.at {w w' : World} {T : List (Int × List Int)} {u : Value} (h : ClsAns w w' T u) : ∃ L, ClsAt w' u L ∧ cls L = T := by
  obtain ⟨L, h1, h2, h3⟩ := h
  exact ⟨L, ⟨slAt_of_row (cs := clc) (fun _ => rfl) h1 rfl, fun x hx => ⟨slAt_of_row (cs := ic) (fun _ => rfl) (h3 x hx) rfl, row_nilOk (h3 x hx)⟩⟩, h2⟩
theorem SlAt.clms {w : World} {v : Value} {l : List (Int × List Int × Value)} (h : SlAt clc 2 w v l) : ∃ a cap, v = .slice a l.length cap ∧ l.length ≤ 9223372036854775807 ∧ l.length ≤ cap ∧ (0 < l.length → ∃ bk o, a = some ⟨bk, o, none⟩ ∧ bk < w.heap.size ∧ ∀ j x, l[j]? = some x → w.cell? ⟨bk, o + j * 2, none⟩ = some (.int .i64 x.1) ∧ w.cell? ⟨bk, o + j * 2 + 1, none⟩ = some x.2.2) := by
  obtain ⟨a, cap, rfl, h0, h1, h2⟩ := h
  refine ⟨a, cap, rfl, h0, h1, fun hp => ?_⟩
  obtain ⟨bk, o, rfl, h3, h4⟩ := h2 hp
  exact ⟨bk, o, rfl, h3, fun j z hz => ⟨h4 j z hz 0 _ rfl, h4 j z hz 1 _ rfl⟩⟩
theorem zeroMet (w : World) : (zeroValue 84).run Tryz.prog w = .ok (.agg (mcl no1).toArray) w := by kernel_rfl
theorem makeZ (w : World) : (Instr.makeMap 129 none).run Tryz.prog w = .ok (.map (some w.heap.size)) (w.alloc (.map #[] 0)) := by kernel_rfl
/-- Numbers gathered by numbers. -/
structure GaM (w wr : World) (M n : Nat) (g : Int → List Int) (v : Int → Value) : Prop where
  m : MpZ wr M n (fun k => if (g k).isEmpty then none else some (v k))
  r : ∀ k, wr.ownsRow w.heap.size 3 1 (v k) (g k).length (fl ic (g k))
  z : ∀ k, g k = [] → v k = nilS
  d : ∀ k k' j, k ≠ k' → (v k).ownBlock = some j → (v k').ownBlock ≠ some j
  b : Below w.heap.size w wr
  l : w.heap.size ≤ M
theorem gaM_new {w W : World} (hb : Below w.heap.size w W) : GaM w (W.alloc (.map #[] 0)) W.heap.size 0 (fun _ => []) (fun _ => nilS) :=
  ⟨mpZ_new W, fun _ => World.ownsRow_nil _ _ _ _, fun _ _ => rfl, fun _ _ _ _ h => by simp [Value.ownBlock] at h, hb.alloc hb.size _, hb.size⟩
theorem GaM.fr {w wr w' : World} {M n : Nat} {g : Int → List Int} {v : Int → Value} {T : Nat → Prop} (h : GaM w wr M n g v) (hF : Fr T wr w') (hT : ∀ j, T j → j < wr.heap.size → ∃ (cur : Array Value) (t : TypeId), wr.heap[j]? = some (Obj.cells cur t) ∧ t ≠ 3) (hb : Below w.heap.size w w') : GaM w w' M n g v := by
  refine ⟨h.m.keep hF (fun ht => ?_), fun k => row_fr (h.r k) hF (fun j hj ht => ?_), h.z, h.d, hb, h.l⟩
  · obtain ⟨cur, t, h1, _⟩ := hT _ ht h.m.lt
    obtain ⟨es, cl, h2⟩ := h.m.isMap
    rw [h1] at h2
    cases h2
  · obtain ⟨cur, h1⟩ := crowTy (h.r k) hj
    obtain ⟨cur', t, h2, h3⟩ := hT _ ht (block_lt h1)
    rw [h1] at h2
    simp only [Option.some.injEq, Obj.cells.injEq] at h2
    exact h3 h2.2.1.symm
theorem GaM.keep {w wr w' : World} {M n : Nat} {g : Int → List Int} {v : Int → Value} (h : GaM w wr M n g v) (hb : Below wr.heap.size wr w') : GaM w w' M n g v :=
  h.fr (T := fun _ => False) (Fr.of_below hb) (fun _ h => h.elim) (h.b.trans (hb.mono h.b.size))
/-- A cell of another kind is turned. -/
theorem GaM.set {w wr : World} {M n : Nat} {g : Int → List Int} {v : Int → Value} (h : GaM w wr M n g v) {b : Nat} {cs : Array Value} {t : TypeId} (hb : wr.heap[b]? = some (Obj.cells cs t)) (ht : t ≠ 3) (hl : w.heap.size ≤ b) (k : Nat) (u : Value) : GaM w (wr.setCell ⟨b, k, none⟩ u) M n g v :=
  h.fr (T := fun j => j = b) ((Fr.refl (fun j => j = b) wr).set (p := ⟨b, k, none⟩) rfl _) (fun j hj _ => ⟨cs, t, by rw [hj]; exact hb, ht⟩) (h.b.setCell (p := ⟨b, k, none⟩) hl _)
theorem GaM.look {w wr : World} {M n : Nat} {g : Int → List Int} {v : Int → Value} (h : GaM w wr M n g v) {x : Int} (hx : (Lit.int .i64 x).wf = true) : (Instr.lookup 129 (.map (some M)) (.int .i64 x) false).run Tryz.prog wr = .ok (v x) wr := by
  rw [h.m.look1 hx]
  by_cases hg : g x = []
  · rw [h.z x hg, hg]; rfl
  · have : (g x).isEmpty = false := by simpa using hg
    rw [this]; rfl
def setF {β : Type} (g : Int → β) (c : Int) (y : β) : Int → β := fun k => if k = c then y else g k
theorem setF_same {β : Type} (g : Int → β) (c : Int) (y : β) : setF g c y c = y := by simp [setF]
theorem setF_other {β : Type} (g : Int → β) {c k : Int} (y : β) (h : k ≠ c) : setF g c y k = g k := by simp [setF, h]
theorem GaM.add {w W : World} {M n : Nat} {g : Int → List Int} {v : Int → Value} (h : GaM w W M n g v) (hn : n < 100000) {c : Int} (hc : (Lit.int .i64 c).wf = true) (hl : (g c).length < 100000) (x : Int) :
    ∃ a cap w6 w7, (Builtin.append_ #[39, 39] 39 #[v c, .slice (some ⟨W.heap.size, 0, none⟩) 1 1]).run Tryz.prog (W.alloc (.cells #[.int .i64 x] 3)) = .ok (.slice a ((g c).length + 1) cap) w6 ∧
      (Instr.mapUpdate 129 (.map (some M)) (.int .i64 c) (.slice a ((g c).length + 1) cap)).run Tryz.prog w6 = .ok () w7 ∧ GaM w w7 M (n + 1) (setF g c (g c ++ [x])) (setF v c (.slice a ((g c).length + 1) cap)) ∧ Below w.heap.size W w6 ∧ Below w.heap.size W w7 ∧ ∀ (j : Nat) (cs : Array Value) (t : TypeId), W.heap[j]? = some (Obj.cells cs t) → t ≠ 3 → w6.heap[j]? = some (Obj.cells cs t) ∧ w7.heap[j]? = some (Obj.cells cs t) := by
  obtain ⟨a, cap, w6, hrun, hown, hlie, hgr, hb6⟩ := append_int (h.r c) x (by omega) h.b.size
  have hF6 : Fr (fun j => (v c).ownBlock = some j) W w6 := ⟨hgr.os, hgr.tape, hgr.output, hgr.size, fun j hj hn => hgr.block j hj (fun e => hn e.symm)⟩
  have hty : ∀ j, (v c).ownBlock = some j → ∃ cur, W.heap[j]? = some (Obj.cells cur 3) := fun j hj => crowTy (h.r c) hj
  have hm6 : MpZ w6 M n (fun k => if (g k).isEmpty then none else some (v k)) := h.m.keep hF6 (fun e => by
    obtain ⟨cur, h1⟩ := hty _ e
    obtain ⟨es, cl, h2⟩ := h.m.isMap
    rw [h1] at h2
    cases h2)
  obtain ⟨w7, hput, hm7, hF7⟩ := hm6.put (by omega) hc (.slice (some ⟨a, 0, none⟩) ((g c).length + 1) cap)
  have hb7 : Below w.heap.size w6 w7 := hF7.below (by have := h.b.size; have := hb6.size; omega) (fun j hj => by have := h.l; omega)
  have hk7 : ∀ (j : Nat) (cs : Array Value) (t : TypeId), W.heap[j]? = some (Obj.cells cs t) → t ≠ 3 → w6.heap[j]? = some (Obj.cells cs t) ∧ w7.heap[j]? = some (Obj.cells cs t) := fun j cs t hj ht => by
    have h6 : w6.heap[j]? = some (Obj.cells cs t) := (hF6.block _ (block_lt hj) (fun e => by
      obtain ⟨cur, h1⟩ := hty _ e
      rw [hj] at h1
      simp only [Option.some.injEq, Obj.cells.injEq] at h1
      exact ht h1.2.1)).trans hj
    refine ⟨h6, (hF7.block _ (block_lt h6) (fun e => ?_)).trans h6⟩
    obtain ⟨es, cl, h2⟩ := hm6.isMap
    rw [← e, h6] at h2
    cases h2
  have hmap6 : ∀ (j : Nat) (cur : Array Value), w6.heap[j]? = some (Obj.cells cur 3) → ¬ j = M := fun j cur hj e => by
    obtain ⟨es, cl, h2⟩ := hm6.isMap
    rw [← e, hj] at h2
    cases h2
  refine ⟨_, cap, w6, w7, hrun, hput, ⟨?_, fun k => ?_, fun k hk => ?_, fun k k' j hkk hj => ?_, h.b.trans (hb6.trans hb7), h.l⟩, hb6, hb6.trans hb7, hk7⟩
  · obtain ⟨D, h1, h2⟩ := hm7
    refine ⟨D, h1, fun k hk => ?_⟩
    rw [(h2 k hk).1, (h2 k hk).2]
    dsimp only
    by_cases hkc : k = c
    · subst hkc
      rw [putO_same, setF_same, setF_same]
      have : (g k ++ [x]).isEmpty = false := by simp
      rw [this]
      exact ⟨rfl, rfl⟩
    · rw [putO_other _ _ hkc, setF_other _ _ hkc, setF_other _ _ hkc]
      exact ⟨rfl, rfl⟩
  · by_cases hkc : k = c
    · subst hkc
      rw [setF_same, setF_same, List.length_append, List.length_singleton]
      exact row_fr hown hF7 (fun j hj => by obtain ⟨cur, h1⟩ := crowTy hown hj; exact hmap6 j cur h1)
    · rw [setF_other _ _ hkc, setF_other _ _ hkc]
      have h6 := row_fr (h.r k) hF6 (fun j hj e => h.d k c j hkc hj e)
      exact row_fr h6 hF7 (fun j hj => by obtain ⟨cur, h1⟩ := crowTy h6 hj; exact hmap6 j cur h1)
  · by_cases hkc : k = c
    · subst hkc
      rw [setF_same] at hk
      simp at hk
    · rw [setF_other _ _ hkc] at hk ⊢
      exact h.z k hk
  · have hnew : ∀ i, i ≠ c → (v i).ownBlock ≠ some a := fun i hi e => by
      rcases hlie with h1 | h1
      · exact h.d i c a hi e h1
      · obtain ⟨cur, h2⟩ := crowTy (h.r i) e
        have := block_lt h2
        omega
    by_cases hkc : k = c
    · subst hkc
      rw [setF_same] at hj
      simp [Value.ownBlock] at hj
      subst hj
      rw [setF_other _ _ (fun e => hkk e.symm)]
      exact hnew k' (fun e => hkk e.symm)
    · rw [setF_other _ _ hkc] at hj
      by_cases hkc' : k' = c
      · subst hkc'
        rw [setF_same]
        intro e
        simp [Value.ownBlock] at e
        subst e
        exact hnew k hkc hj
      · rw [setF_other _ _ hkc']
        exact h.d k k' j hkk hj
end Go.Proofs.YtgeoghhajjlofaaGreatDoor
namespace Go.Proofs.YtgeoghhajjlofaaGreatDoor
open Go.RowKit Go.Maps

/-- What All answers. -/
def AllA (w w' : World) (rs : List Rc) (e : Ending) : Prop :=
  (bothOk no1 rs = true ∧ ∃ u, e = .returned (.tuple #[u, .int .i64 0]) ∧ ClsAns w w' (allC rs) u) ∨ (bothOk no1 rs = false ∧ e = .returned (.tuple #[nilS, .int .i64 2]))
theorem gat_set (rs : List Rc) (r : Rc) (h : r.claim ≠ 0) : gat (rs ++ [r]) = setF (gat rs) r.claim (gat rs r.claim ++ [r.origin]) := by
  funext k
  rw [gat_snoc]
  by_cases hk : k = r.claim
  · subst hk
    rw [setF_same, if_pos ⟨rfl, h⟩]
  · rw [setF_other _ _ hk, if_neg (fun e => hk e.1.symm), List.append_nil]
theorem gat_none (rs : List Rc) (r : Rc) (h : r.claim = 0) : gat (rs ++ [r]) = gat rs := by
  funext k
  rw [gat_snoc, if_neg (fun e => e.2 h), List.append_nil]
/-- What All has behind some records. -/
structure CaM (w wr : World) (F : Nat → Bool) (n : Nat) (g : Int → List Int) : Prop where
  t : Arr wr w.heap.size 84 (mcl F)
  g : ∃ v, GaM w wr (w.heap.size + 1) n g v
theorem CaM.keep {w wr w' : World} {F : Nat → Bool} {n : Nat} {g : Int → List Int} (h : CaM w wr F n g) (hb : Below wr.heap.size wr w') : CaM w w' F n g := by
  obtain ⟨v, hv⟩ := h.g
  exact ⟨h.t.keep hb h.t.lt, v, hv.keep hb⟩
theorem CaM.b {w wr : World} {F : Nat → Bool} {n : Nat} {g : Int → List Int} (h : CaM w wr F n g) : Below w.heap.size w wr := by
  obtain ⟨v, hv⟩ := h.g
  exact hv.b
theorem CaM.mark {w wr : World} {F : Nat → Bool} {n : Nat} {g : Int → List Int} (h : CaM w wr F n g) {k : Nat} (hk : k < 25) : CaM w (wr.setCell ⟨w.heap.size, k, none⟩ (.bool true)) (mk1 F k) n g := by
  obtain ⟨v, hv⟩ := h.g
  exact ⟨by rw [← mcl_set F hk]; exact h.t.set k _, v, hv.set h.t (by decide) (Nat.le_refl _) k _⟩
/-- A record's block is read. -/
def rdC (br : Nat) (m cl : Int) (wx : World) : Prop := wx.cell? ⟨br, 0, none⟩ = some (.int .i64 m) ∧ wx.cell? ⟨br, 3, none⟩ = some (.int .i64 cl)
theorem eq_sl (a : Option Addr) (n c : Nat) : (Value.slice a n c).oneCell' = true := rfl

set_option maxRecDepth 100000 in
set_option maxHeartbeats 4000000 in
theorem all_any {l : List (Rc × Value)} {v : Value} {w : World} (h : RecsAt w v l) (hlen : l.length ≤ 10000) :
    Calls Tryz.prog 42 #[v] w fun e w' => AllA w w' (rcs l) e ∧ Below w.heap.size w w' := by
  obtain ⟨a, cap, rfl, hl, _, hat⟩ := h.r.recs
  have Ha := hidIn hat
  have HA := hidIn h.a
  have Hlen := hidIn hlen
  clear hat h hlen
  have hzm := zeroMet
  have hmk := makeZ
  obtain ⟨W0, hW0⟩ : ∃ W0, (w.alloc (.cells (mcl no1).toArray 84)).alloc (.map #[] 0) = W0 := ⟨_, rfl⟩
  have HM0 : Hid (CaM w W0 no1 0 (gat [])) := hidIn (by
    have b0 : Below w.heap.size w (w.alloc (.cells (mcl no1).toArray 84)) := (Below.refl _ w).alloc (Nat.le_refl _) _
    rw [← hW0]
    refine ⟨?_, fun _ => nilS, ?_⟩
    · unfold Arr
      rw [Below.heap_alloc _ _ _ (by simp)]
      exact heap_alloc_last w _
    · have := gaM_new b0
      rw [World.size_alloc] at this
      exact this)
  have HW := hidIn hW0
  clear hW0
  go_enter Tryz.func42, Tryz.ntmps42
  go_upto_region 3 with fail
  rw [HW.out]
  clear HW hzm hmk
  go_wp2_with fail
  go_loopw [14] (fun i wr => ∃ (k n : Nat), k ≤ l.length ∧ i = .int .i64 k ∧ Hid (CaM w wr (thereL no1 (rcs (l.take k))) n (gat (rcs (l.take k))) ∧ n ≤ k ∧ bothOk no1 (rcs l) = bothOk (thereL no1 (rcs (l.take k))) (rcs (l.drop k)))) (fun i _ => l.length - (intOf i).toNat)
  case atStart => exact ⟨0, 0, Nat.zero_le _, rfl, hidIn ⟨HM0.out, Nat.le_refl _, by rw [List.drop_zero]; rfl⟩⟩
  case round =>
    obtain ⟨k, n, hk, rfl, HR⟩ := hrel
    clear HM0
    by_cases hlt : k < l.length
    · obtain ⟨bk, o, rfl, hbk, hcell⟩ := Ha.out (by omega)
      obtain ⟨⟨⟨orig, epo, sq, cl, ig, as'⟩, va⟩, hz⟩ : ∃ z, l[k]? = some z := ⟨l[k], List.getElem?_eq_getElem hlt⟩
      obtain ⟨hM, hnk, hrest⟩ := HR.out
      clear HR
      obtain ⟨q0, q1, q2, q3, q4, q5⟩ := hcell k _ hz
      have hbel := hM.b
      have c0 := (hbel.cell (p := ⟨bk, o + k * 6, none⟩) hbk).trans q0
      have c1 := (hbel.cell (p := ⟨bk, o + k * 6 + 1, none⟩) hbk).trans q1
      have c2 := (hbel.cell (p := ⟨bk, o + k * 6 + 2, none⟩) hbk).trans q2
      have c3 := (hbel.cell (p := ⟨bk, o + k * 6 + 3, none⟩) hbk).trans q3
      have c4 := (hbel.cell (p := ⟨bk, o + k * 6 + 4, none⟩) hbk).trans q4
      have c5 := (hbel.cell (p := ⟨bk, o + k * 6 + 5, none⟩) hbk).trans q5
      simp only at c0 c1 c2 c3 c4 c5
      have hva := HA.out (⟨orig, epo, sq, cl, ig, as'⟩, va) (List.mem_of_getElem? hz)
      simp only at hva
      obtain ⟨aa, acap, rfl, hal, _, haat⟩ := hva.ads
      clear haat
      have HN : Hid (bothOk no1 (rcs l) = (recOk ⟨orig, epo, sq, cl, ig, as'⟩ && (!thereL no1 (rcs (l.take k)) orig.toNat && bothOk (mk1 (thereL no1 (rcs (l.take k))) orig.toNat) (rcs (l.drop (k + 1)))))) := hidIn (by
        rw [hrest, drop_next hz]
        show bothOk _ (⟨orig, epo, sq, cl, ig, as'⟩ :: rcs (l.drop (k + 1))) = _
        rw [bothOk])
      have HT : Hid (thereL no1 (rcs (l.take (k + 1))) = mk1 (thereL no1 (rcs (l.take k))) orig.toNat) := hidIn (by rw [take_snoc hz, rcs, List.map_append]; exact thereL_snoc _ _ _)
      have HG : Hid (rcs (l.take (k + 1)) = rcs (l.take k) ++ [⟨orig, epo, sq, cl, ig, as'⟩]) := hidIn (by rw [take_snoc hz, rcs, List.map_append]; rfl)
      have HGl : Hid (∀ id, (gat (rcs (l.take k)) id).length ≤ k) := hidIn fun id => Nat.le_trans (gat_len _ _) (by rw [rcs, List.length_map]; exact List.length_take_le _ _)
      generalize thereL no1 (rcs (l.take k)) = F at *
      obtain ⟨W1, hW1⟩ : ∃ W1, wr.alloc (recO ⟨orig, epo, sq, cl, ig, as'⟩ (.slice aa as'.length acap)) = W1 := ⟨_, rfl⟩
      have hb1 : Below wr.heap.size wr W1 := by rw [← hW1]; exact (Below.refl _ wr).alloc (Nat.le_refl _) _
      have hbx : W1.heap[wr.heap.size]? = some (recO ⟨orig, epo, sq, cl, ig, as'⟩ (.slice aa as'.length acap)) := by rw [← hW1]; exact heap_alloc_last wr _
      have hM1 := hM.keep hb1
      obtain ⟨br, hbr⟩ : ∃ br, wr.heap.size = br := ⟨_, rfl⟩
      rw [hbr] at hbx
      have b0 := cell_of_row _ _ 0 _ _ _ hbx
      have b1 := cell_of_row _ _ 1 _ _ _ hbx
      have b2 := cell_of_row _ _ 2 _ _ _ hbx
      have b3 := cell_of_row _ _ 3 _ _ _ hbx
      have b4 := cell_of_row _ _ 4 _ _ _ hbx
      have b5 := cell_of_row _ _ 5 _ _ _ hbx
      simp at b0 b1 b2 b3 b4 b5
      have HW := hidIn hW1
      have HM1 := hidIn hM1
      have HBX := hidIn hbx
      have hki : (k : Int) < (l.length : Int) := by omega
      have HC := hidIn (rcheck_any (r := ⟨orig, epo, sq, cl, ig, as'⟩) (hva.keep hM1.b (Nat.le_refl _)))
      have hltx := block_lt hbx
      have hwr := hM.t.lt
      rw [hbr] at hwr
      clear hcell q0 q1 q2 q3 q4 q5 hz hrest hbel hM hva hb1 hW1 hM1 hbx
      go_upto_region 6 with fail
      rw [HW.out]
      clear HW c0 c1 c2 c3 c4 c5
      go_wp2_with fail
      refine HC.out.mono ?_
      rintro e' w2 ⟨rfl, hb2⟩
      have hM2 := HM1.out.keep hb2
      have hbx2 := (hb2.block _ hltx).trans HBX.out
      clear b0 b1 b2 b3 b4 b5 HM1 HBX HC hb2 hltx hbr
      obtain ⟨b1, hb1⟩ : ∃ b1, recOk ⟨orig, epo, sq, cl, ig, as'⟩ = b1 := ⟨_, rfl⟩
      have Hb1 := hidIn hb1
      have hck : ckN ⟨orig, epo, sq, cl, ig, as'⟩ = if b1 then 0 else 2 := by unfold ckN; rw [hb1]
      rw [hck]
      clear hb1 hck
      have HM2 := hidIn hM2
      cases b1
      · have HB := hidIn hM2.b
        clear hbx2 hM2
        simp only [Bool.false_eq_true, if_false]
        go_wp2_with fail
        go_ret2
        exact ⟨.inr ⟨by rw [HN.out, Hb1.out]; rfl, rfl⟩, HB.out⟩
      · have hp := (recOk_parts Hb1.out).1
        simp only at hp
        obtain ⟨ho1, ho2⟩ := hp
        have hcl : 0 ≤ cl ∧ cl ≤ 1024 := by
          have := Hb1.out
          simp only [recOk, Bool.and_eq_true, decide_eq_true_eq] at this
          exact ⟨this.2.2.2.1, this.2.2.2.2.1⟩
        obtain ⟨m, rfl⟩ : ∃ m : Nat, orig = (m : Int) := ⟨orig.toNat, by omega⟩
        have hm : m < 25 := by omega
        have hmi : (m : Int) < 25 := by omega
        rw [Int.toNat_natCast] at HN HT
        have mc := hM2.t.cell m
        rw [mcl_get _ hm] at mc
        have mf := hM2.t.frozen m
        have x0 := cell_of_row _ _ 0 _ _ _ hbx2
        have x3 := cell_of_row _ _ 3 _ _ _ hbx2
        simp at x0 x3
        obtain ⟨b2, hb2⟩ : ∃ b2, F m = b2 := ⟨_, rfl⟩
        have Hb2 := hidIn hb2
        rw [hb2] at mc
        have HB := hidIn hM2.b
        clear hb2
        simp only [if_true]
        cases b2
        · have hM3 := hM2.mark hm
          have hne : ¬ br = w.heap.size := by omega
          have hbx3 : (w2.setCell ⟨w.heap.size, m, none⟩ (.bool true)).heap[br]? = some (recO ⟨(m : Int), epo, sq, cl, ig, as'⟩ (.slice aa as'.length acap)) := (Below.heap_setCell _ _ _ _ (by show br ≠ w.heap.size; exact hne)).trans hbx2
          have HM3 := hidIn hM3
          have HX3 := hidIn hbx3
          have y3 := cell_of_row _ _ 3 _ _ _ hbx3
          have y0 := cell_of_row _ _ 0 _ _ _ hbx3
          simp at y0 y3
          obtain ⟨W3, hW3⟩ : ∃ W3, w2.setCell ⟨w.heap.size, m, none⟩ (.bool true) = W3 := ⟨_, rfl⟩
          rw [hW3] at HM3 HX3 y0 y3
          have HW3 := hidIn hW3
          clear hM2 hbx2 hM3 hbx3 hW3
          go_upto_region 9 with fail
          rw [HW3.out]
          clear mc mf x0 x3 HB HM2 HW3
          by_cases hc0 : cl = 0
          · subst hc0
            go_wp2_with fail
            go_roundw
            case rel => exact ⟨k + 1, n, by omega, by go_num, hidIn ⟨by rw [HT.out, HG.out, gat_none _ _ rfl]; exact HM3.out, by omega, by rw [HN.out, HT.out, Hb1.out, Hb2.out]; simp⟩⟩
            case measure => simp [intOf]; omega
          · have hcne : ¬ cl = 0 := hc0
            have hwf : (Lit.int .i64 cl).wf = true := wf9 (by omega)
            obtain ⟨vv, hvv⟩ := HM3.out.g
            obtain ⟨Wd, hWd⟩ : ∃ Wd, W3.drew = Wd := ⟨_, rfl⟩
            have hbd : Below W3.heap.size W3 Wd := by rw [← hWd]; exact (Below.refl _ W3).drew
            have hvd := hvv.keep hbd
            have hxd := (hbd.block _ (block_lt HX3.out)).trans HX3.out
            obtain ⟨ga, gcap, w6, w7, hrun, hput, hg7, hb6, hb7, hk7⟩ := hvd.add (by have := Hlen.out; omega) hwf (by have := HGl.out cl; have := Hlen.out; omega) (m : Int)
            have ht7 : Arr w7 w.heap.size 84 (mcl (mk1 F m)) := (hk7 _ _ _ (HM3.out.t.keep hbd HM3.out.t.lt) (by decide)).2
            have HR7 : Hid (CaM w w7 (mk1 F m) (n + 1) (gat (rcs (l.take k) ++ [⟨(m : Int), epo, sq, cl, ig, as'⟩]))) := hidIn ⟨ht7, _, by rw [gat_set _ _ hcne]; exact hg7⟩
            have hba : Below Wd.heap.size Wd (Wd.alloc (.cells #[.int .i64 (m : Int)] 3)) := (Below.refl _ Wd).alloc (Nat.le_refl _) _
            have hcs : ∀ wq : World, wq.heap[br]? = some (recO ⟨(m : Int), epo, sq, cl, ig, as'⟩ (.slice aa as'.length acap)) → rdC br (m : Int) cl wq := fun wq e1 => by
              have d0 := cell_of_row _ _ 0 _ _ _ e1
              have d3 := cell_of_row _ _ 3 _ _ _ e1
              simp at d0 d3
              exact ⟨d0, d3⟩
            have HSd := hidIn (hcs _ hxd)
            have HSa := hidIn (hcs _ ((hba.block _ (block_lt hxd)).trans hxd))
            have HS6 := hidIn (hcs _ (hk7 _ _ _ hxd (by decide)).1)
            have HS7 := hidIn (hcs _ (hk7 _ _ _ hxd (by decide)).2)
            have HLd := hidIn (hvd.look hwf)
            have HLa := hidIn ((hvd.keep hba).look hwf)
            obtain ⟨gl, hgl⟩ : ∃ gl, (gat (rcs (l.take k)) cl).length = gl := ⟨_, rfl⟩
            rw [hgl] at hrun hput
            have HRun := hidIn hrun
            have HPut := hidIn hput
            have HWd := hidIn hWd
            obtain ⟨va, vc, hvc⟩ := row_shape (hvd.r cl)
            rw [hgl] at hvc
            rw [hvc] at HLd HLa HRun
            clear hrun hput hg7 hb6 hb7 hk7 ht7 hvv hvd hbd hWd hgl HM3 HX3 hvc hba hcs hxd y0
            go_upto_region 10 with fail
            clear y3
            refine wp_region_held_drew (S := fun wx => rdC br (m : Int) cl wx) (by kernel_rfl) (by rw [HWd.out]; exact HSd.out) (fun hHeld => ?_)
            rw [HWd.out] at hHeld ⊢
            refine wpAnyH_take (i := 0) (v := ?_) rfl (by kernel_rfl) (by kernel_rfl) (by kernel_rfl) (fun _ _ _ h => h) (Or.inl ⟨by rfl, ?_⟩) (by assumption) ?_
            rotate_left
            · intro wq hSw
              clear hSw
              go_simp
              try (with_reducible rfl)
            refine wpAnyH_take (i := 1) (v := ?_) rfl (by kernel_rfl) (by kernel_rfl) (by kernel_rfl) (fun _ _ _ h => h) (Or.inl ⟨by rfl, ?_⟩) (by assumption) ?_
            rotate_left
            · intro wq hSw
              clear hSw
              go_simp
              try (with_reducible rfl)
            refine wpAnyH_take (i := 2) (v := ?_) rfl (by kernel_rfl) (by kernel_rfl) (by kernel_rfl) (fun _ _ _ h => h) (Or.inl ⟨by rfl, ?_⟩) (by assumption) ?_
            rotate_left
            · intro wq hSw
              obtain ⟨zz0, zz3⟩ := hSw
              have hSw := zz0
              clear hSw
              go_simp
              try (with_reducible rfl)
            refine wpAnyH_take (i := 3) (v := ?_) rfl (by kernel_rfl) (by kernel_rfl) (by kernel_rfl) (fun _ _ _ h => h) (Or.inl ⟨by rfl, ?_⟩) (by assumption) ?_
            rotate_left
            · intro wq hSw
              clear hSw
              go_simp
              try (with_reducible rfl)
            refine wpAnyH_take (i := 4) (v := ?_) rfl (by kernel_rfl) (by kernel_rfl) (by kernel_rfl) (fun _ _ _ h => h) (Or.inl ⟨by rfl, ?_⟩) (by assumption) ?_
            rotate_left
            · intro wq hSw
              clear hSw
              go_simp
              try (with_reducible rfl)
            refine wpAnyH_take (i := 5) (v := ?_) rfl (by kernel_rfl) (by kernel_rfl) (by kernel_rfl) (fun _ _ _ h => h) (Or.inl ⟨by rfl, ?_⟩) (by assumption) ?_
            rotate_left
            · intro wq hSw
              obtain ⟨zz0, zz3⟩ := hSw
              have hSw := zz0
              clear hSw
              go_simp
              try (with_reducible rfl)
            refine wpAnyH_take (i := 7) (v := ?_) rfl (by kernel_rfl) (by kernel_rfl) (by kernel_rfl) (fun _ _ _ h => h) (Or.inl ⟨by rfl, ?_⟩) (by assumption) ?_
            rotate_left
            · intro wq hSw
              clear hSw
              go_simp
              try (with_reducible rfl)
            refine wpAnyH_take (i := 8) (v := ?_) rfl (by kernel_rfl) (by kernel_rfl) (by kernel_rfl) (fun _ _ _ h => h) (Or.inl ⟨by rfl, ?_⟩) (by assumption) ?_
            rotate_left
            · intro wq hSw
              obtain ⟨zz0, zz3⟩ := hSw
              have hSw := zz0
              clear hSw
              go_simp
              try (with_reducible rfl)
            refine wpAnyH_ready (rs := [6, 9]) (by kernel_rfl) (by simp) ?_
            refine AllReadyH.cons (i := 6) rfl ?_ (AllReadyH.cons (i := 9) rfl ?_ AllReadyH.nil)
            · have hru := HLd.out
              go_simp
              clear hru
              intro K hK
              refine hK.out _ _ HSd.out (fun _ => ?_)
              clear hK K
              refine wpAnyH_ready (rs := [9]) (by kernel_rfl) (by simp) ?_
              refine AllReadyH.cons (i := 9) rfl ?_ AllReadyH.nil
              go_simp
              intro K hK
              refine hK.out _ _ HSa.out (fun _ => ?_)
              clear hK K
              refine wpAnyH_ready (rs := [10]) (by kernel_rfl) (by simp) ?_
              refine AllReadyH.cons (i := 10) rfl (fun K hK => ?_) AllReadyH.nil
              refine step_append rfl (.tmp 39) (.tmp 42) 39 rfl (by kernel_rfl) (by kernel_rfl) HRun.out ?_
              refine hK.out _ _ HS6.out (fun _ => ?_)
              clear hK K
              refine wpAnyH_ready (rs := [11]) (by kernel_rfl) (by simp) ?_
              refine AllReadyH.cons (i := 11) rfl ?_ AllReadyH.nil
              have hru := HPut.out
              go_simp
              clear hru
              intro K hK
              refine hK.out _ _ HS7.out (fun _ => ?_)
              clear hK K
              refine wpAnyH_done (by kernel_rfl) ?_ _
              go_wp2_with fail
              go_roundw
              case rel => exact ⟨k + 1, n + 1, by omega, by go_num, hidIn ⟨by rw [HT.out, HG.out]; exact HR7.out, by omega, by rw [HN.out, HT.out, Hb1.out, Hb2.out]; simp⟩⟩
              case measure => simp [intOf]; omega
            · go_simp
              intro K hK
              refine hK.out _ _ HSa.out (fun _ => ?_)
              clear hK K
              refine wpAnyH_ready (rs := [6]) (by kernel_rfl) (by simp) ?_
              refine AllReadyH.cons (i := 6) rfl ?_ AllReadyH.nil
              have hru := HLa.out
              go_simp
              clear hru
              intro K hK
              refine hK.out _ _ HSa.out (fun _ => ?_)
              clear hK K
              refine wpAnyH_ready (rs := [10]) (by kernel_rfl) (by simp) ?_
              refine AllReadyH.cons (i := 10) rfl (fun K hK => ?_) AllReadyH.nil
              refine step_append rfl (.tmp 39) (.tmp 42) 39 rfl (by kernel_rfl) (by kernel_rfl) HRun.out ?_
              refine hK.out _ _ HS6.out (fun _ => ?_)
              clear hK K
              refine wpAnyH_ready (rs := [11]) (by kernel_rfl) (by simp) ?_
              refine AllReadyH.cons (i := 11) rfl ?_ AllReadyH.nil
              have hru := HPut.out
              go_simp
              clear hru
              intro K hK
              refine hK.out _ _ HS7.out (fun _ => ?_)
              clear hK K
              refine wpAnyH_done (by kernel_rfl) ?_ _
              go_wp2_with fail
              go_roundw
              case rel => exact ⟨k + 1, n + 1, by omega, by go_num, hidIn ⟨by rw [HT.out, HG.out]; exact HR7.out, by omega, by rw [HN.out, HT.out, Hb1.out, Hb2.out]; simp⟩⟩
              case measure => simp [intOf]; omega
        · clear hM2 hbx2
          go_wp2_with fail
          go_ret2
          exact ⟨.inr ⟨by rw [HN.out, Hb1.out, Hb2.out]; rfl, rfl⟩, HB.out⟩
    · have hke : k = l.length := by omega
      obtain ⟨hM, hnk, hrest⟩ := HR.out
      rw [hke, List.take_length] at hM
      rw [hke, List.drop_length] at hrest
      have HOk : Hid (bothOk no1 (rcs l) = true) := hidIn (by rw [hrest]; rfl)
      have hki : ¬ ((k : Int) < (l.length : Int)) := by omega
      obtain ⟨vv, hG⟩ := hM.g
      have hidr : ∀ x, x ∈ idsL (rcs l) ↔ (Lit.int .i64 x).wf = true ∧ ((fun k => if (gat (rcs l) k).isEmpty then none else some (vv k)) x).isSome = true := fun x => by
        rw [mem_idsL]
        constructor
        · rintro ⟨h1, h2⟩
          refine ⟨wf9 (by omega), ?_⟩
          have : (gat (rcs l) x).isEmpty = false := by simpa using h2
          dsimp only
          rw [this]
          rfl
        · rintro ⟨_, h2⟩
          dsimp only at h2
          have h3 : gat (rcs l) x ≠ [] := fun e => by rw [e] at h2; cases h2
          refine ⟨?_, h3⟩
          obtain ⟨y, hy⟩ := List.exists_mem_of_ne_nil _ h3
          obtain ⟨r, hr, h4, h5, _⟩ := mem_gat.1 hy
          have h6 := ((bothOk_all _ _ HOk.out).1 r hr).1
          simp only [recOk, Bool.and_eq_true, decide_eq_true_eq] at h6
          omega
      obtain ⟨ks, hks⟩ : ∃ ks, idsL (rcs l) = ks := ⟨_, rfl⟩
      have HKs := hidIn hks
      have hrise := idsL_rise (rcs l)
      have HBd : Hid (∀ x ∈ ks, 1 ≤ x ∧ x ≤ 1024) := hidIn fun x hx => by rw [← hks] at hx; exact (mem_idsL.1 hx).1
      rw [hks] at hidr hrise
      have HKl : Hid (ks.length ≤ 1024) := hidIn (by rw [← hks]; unfold idsL; exact Nat.le_trans (List.length_filter_le _ _) (by simp [allI]))
      have HSo := hidIn (sortedC_any hG.m (by have := Hlen.out; omega) ks hrise hidr)
      have HKy := hidIn (keysC_any (w.heap.size + 1) wr)
      have HG := hidIn hG
      obtain ⟨W1, hW1⟩ : ∃ W1, wr.alloc (.cells #[.map (some (w.heap.size + 1))] 129) = W1 := ⟨_, rfl⟩
      rw [hW1] at HSo HKy
      clear hM hnk hrest hidr hrise hG HR hks hW1
      go_wp2_with fail
      refine HKy.out.mono ?_
      rintro e w2 ⟨rfl, hw2⟩
      rw [hw2]
      clear hw2 w2 HKy
      go_wp2_with fail
      refine HSo.out.mono ?_
      rintro e w3 ⟨⟨ka, kc, rfl, hrow⟩, hb3⟩
      have HG3 := hidIn (HG.out.keep hb3)
      have HK3 := hidIn (row_low hrow HG.out.b.size)
      clear hrow hb3 HSo HG
      obtain ⟨kl, hkl⟩ : ∃ kl, ks.length = kl := ⟨_, rfl⟩
      rw [hkl] at HK3 HKl ⊢
      have Hkl := hidIn hkl
      clear hkl
      go_wp2_with fail
      go_loopw [8, 49] (fun u i wz => ∃ (j : Nat) (L : List (Int × List Int × Value)), j ≤ kl ∧ i = .int .i64 j ∧ (∃ a c, u = .slice a j c) ∧ Hid (GaM w wz (w.heap.size + 1) n (gat (rcs l)) vv ∧ wz.ownsRow w.heap.size 3 1 (.slice ka kl kc) kl (fl ic ks) ∧ wz.ownsRow w.heap.size 108 2 u j (fl clc L) ∧ L.length = j ∧ cls L = (ks.take j).map (fun id => (id, rsL (gat (rcs l) id))) ∧ ∀ x ∈ L, wz.ownsRow w.heap.size 3 1 x.2.2 x.2.1.length (fl ic x.2.1))) (fun _ i _ => kl - (intOf i).toNat)
      case atStart => exact ⟨0, [], Nat.zero_le _, rfl, ⟨none, 0, rfl⟩, hidIn ⟨HG3.out, HK3.out, World.ownsRow_nil _ _ _ _, rfl, rfl, fun _ h => absurd h List.not_mem_nil⟩⟩
      case round =>
        clear HG3 HK3
        obtain ⟨j, L, hj, rfl, ⟨ua, uc, rfl⟩, HR⟩ := hrel
        obtain ⟨hG, hK, hu, hLl', hLc, hLr⟩ := HR.out
        have hLl := hidIn hLl'
        clear HR hLl'
        by_cases hlt : j < kl
        · obtain ⟨id, hid⟩ : ∃ id, ks[j]? = some id := ⟨ks[j]'(by have := Hkl.out; omega), List.getElem?_eq_getElem _⟩
          obtain ⟨ka', kc', hke', _, _, hkc⟩ := (slAt_of_row (cs := ic) (fun _ => rfl) hK Hkl.out).ints
          simp only [Value.slice.injEq] at hke'
          obtain ⟨rfl, hz9, rfl⟩ := hke'
          clear hz9
          obtain ⟨bk, o, rfl, hbk, hcell⟩ := hkc (by have := Hkl.out; omega)
          have q0 := hcell j id hid
          have hidb := HBd.out id (List.mem_of_getElem? hid)
          have hwf : (Lit.int .i64 id).wf = true := wf9 (by omega)
          have hlk := hG.look hwf
          have hgl : (gat (rcs l) id).length ≤ 10000 := Nat.le_trans (gat_len _ _) (by rw [rcs, List.length_map]; exact Hlen.out)
          have HRi := hidIn (rising_any (slAt_of_row (cs := ic) (fun _ => rfl) (hG.r id) rfl) (row_nilOk (hG.r id)) (by omega))
          have HG := hidIn hG
          have HK := hidIn hK
          have Hu := hidIn hu
          have HLr := hidIn hLr
          have HLc : Hid (cls L ++ [(id, rsL (gat (rcs l) id))] = (ks.take (j + 1)).map (fun id => (id, rsL (gat (rcs l) id)))) := hidIn (by rw [take_snoc hid, List.map_append, ← hLc]; rfl)
          obtain ⟨rn, hrn⟩ : ∃ rn, (rsL (gat (rcs l) id)).length = rn := ⟨_, rfl⟩
          have Hrn := hidIn hrn
          rw [hrn] at HRi
          obtain ⟨va, vc, hvv⟩ := row_shape (hG.r id)
          rw [hvv] at hlk HRi
          have hji : (j : Int) < (kl : Int) := by omega
          have hkb := HKl.out
          clear hG hK hu hLr hLc hrn hvv hcell hkc hid hgl
          go_wp2_with fail
          refine HRi.out.mono ?_
          rintro e w4 ⟨⟨ra, rc, rfl, hrr⟩, hb4⟩
          have hG4 := HG.out.keep hb4
          have hK4 := row_below HK.out hb4 (Nat.le_refl _)
          have hu4 := row_below Hu.out hb4 (Nat.le_refl _)
          have hr4 := row_low hrr HG.out.b.size
          obtain ⟨g5, cap5, w5, hrun, hown, hb5, hF5⟩ := append_clm hu4 (id, rsL (gat (rcs l) id), .slice ra rn rc) rfl (by have := HKl.out; omega) hG4.b.size
          have hT : ∀ i, (Value.slice ua j uc).ownBlock = some i → i < w4.heap.size → ∃ (cur : Array Value) (t : TypeId), w4.heap[i]? = some (Obj.cells cur t) ∧ t ≠ 3 := fun i hi _ => by
            obtain ⟨cur, h1⟩ := crowTy hu4 hi
            exact ⟨cur, _, h1, by decide⟩
          have hnI : ∀ {base k : Nat} {x : Value} {xs : List Value}, w4.ownsRow base 3 1 x k xs → w5.ownsRow base 3 1 x k xs := fun {base k x xs} hx => row_fr hx hF5 (fun i hi e => by
            obtain ⟨cur, h1⟩ := crowTy hx hi
            obtain ⟨cur', t, h2, h3⟩ := hT i e (block_lt h1)
            rw [h1] at h2
            simp only [Option.some.injEq, Obj.cells.injEq] at h2
            exact h3 h2.2.1.symm)
          have HO : Hid (GaM w w5 (w.heap.size + 1) n (gat (rcs l)) vv ∧ w5.ownsRow w.heap.size 3 1 (.slice (some ⟨bk, o, none⟩) kl kc) kl (fl ic ks) ∧ w5.ownsRow w.heap.size 108 2 (.slice (some ⟨g5, 0, none⟩) (j + 1) cap5) (j + 1) (fl clc (L ++ [(id, rsL (gat (rcs l) id), .slice ra rn rc)])) ∧ (L ++ [(id, rsL (gat (rcs l) id), Value.slice ra rn rc)]).length = j + 1 ∧ cls (L ++ [(id, rsL (gat (rcs l) id), Value.slice ra rn rc)]) = (ks.take (j + 1)).map (fun id => (id, rsL (gat (rcs l) id))) ∧ ∀ x ∈ L ++ [(id, rsL (gat (rcs l) id), Value.slice ra rn rc)], w5.ownsRow w.heap.size 3 1 x.2.2 x.2.1.length (fl ic x.2.1)) := hidIn (by
            refine ⟨hG4.fr hF5 hT (hG4.b.trans hb5), hnI hK4, hown, by rw [List.length_append, hLl.out]; rfl, by rw [← HLc.out, cls, List.map_append]; rfl, fun x hx => ?_⟩
            rcases List.mem_append.1 hx with hx | hx
            · exact hnI (row_below (HLr.out x hx) hb4 (Nat.le_refl _))
            · rw [List.mem_singleton.1 hx]
              refine hnI ?_
              show w4.ownsRow _ _ 1 (.slice ra rn rc) (rsL (gat (rcs l) id)).length _
              rw [Hrn.out]
              exact hr4)
          have HRun := hidIn hrun
          clear hG4 hK4 hu4 hr4 hrun hown hb5 hF5 hT hnI hrr hb4 hlk q0 HRi HG HK Hu HLr HLc
          go_wp2_with (refine l_append rfl _ _ 103 rfl HRun.out ?_)
          go_roundw
          case rel => exact ⟨j + 1, _, by omega, by go_num, ⟨_, _, rfl⟩, HO⟩
          case measure => simp [intOf]; omega
        · have hje : j = kl := by omega
          have hji : ¬ ((j : Int) < (kl : Int)) := by omega
          have HE : Hid (ClsAns w wr (allC (rcs l)) (.slice ua j uc) ∧ Below w.heap.size w wr) := hidIn ⟨⟨L, by rw [hLl.out]; exact hu, by rw [hLc, hje, ← Hkl.out, List.take_length, ← HKs.out]; rfl, hLr⟩, hG.b⟩
          clear hG hK hu hLl hLc hLr hje
          go_wp2_with fail
          go_ret2
          exact ⟨.inl ⟨HOk.out, _, rfl, HE.out.1⟩, HE.out.2⟩
end Go.Proofs.YtgeoghhajjlofaaGreatDoor
