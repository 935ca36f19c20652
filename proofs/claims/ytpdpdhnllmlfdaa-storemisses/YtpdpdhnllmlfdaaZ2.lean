/- The document's find: the stamp of an origin; its Get: the record of an origin. The document's Get: the record of an origin. The document's Put as lists (pure): a record laid into records that rise. RecordAgain. RecordBack. The law's own. The document's Same; RecordSame. The document's SameAll of records that are alike. StoreWhole. The law's owned: a record with neighbours of its own, 20 at most. dandelionref02.size, Put. dandelionref02.Take. The document's router, MayStamp, put, take, Newer, EncodeStamp. The document's Check. The document's Encode. RecordTells. The document's Put. -/
import Derived.Test.YtpdpdhnllmlfdaaZ1
import Derived.Test.YtpdpdhnllmlfdaaX6
import Derived.Test.YtpdpdhnllmlfdaaXE
import Derived.Test.YtpdpdhnllmlfdaaGF
import Derived.Test.YtpdpdhnllmlfdaaK7
import Derived.Test.YtpdpdhnllmlfdaaXO
import Derived.Deep.RegionHeld3
namespace Go.Proofs.Ytpdpdhnllmlfdaa
open Go.RowKit Go.Maps

def fdS (l : List Ed) (x : Int) : Option Ed := l.find? fun y => y.1 == x
def sD (o : Option Ed) : Ed := o.getD (0, 0, 0)
theorem fdS_no {l : List Ed} {k : Nat} {y : Ed} {x : Int} (h : l[k]? = some y) (hn : ¬ y.1 = x) : fdS (l.drop k) x = fdS (l.drop (k + 1)) x := by
  rw [drop_next h, fdS, List.find?_cons, show (y.1 == x) = false by simpa using hn]
  rfl
theorem fdS_yes {l : List Ed} {k : Nat} {y : Ed} {x : Int} (h : l[k]? = some y) (hn : y.1 = x) : fdS (l.drop k) x = some y := by
  rw [drop_next h, fdS, List.find?_cons, show (y.1 == x) = true by simpa using hn]
theorem fdS_end {l : List Ed} {x : Int} : fdS (l.drop l.length) x = none := by rw [List.drop_length]; rfl
def FdAns (o : Option Ed) (e : Ending) : Prop := e = .returned (.tuple #[stV (sD o).1 (sD o).2.1 (sD o).2.2, .bool o.isSome])
def stZ (w wr : World) : Prop := wr.heap[w.heap.size]? = some (.cells #[.int .i64 0, .int .u32 0, .int .u32 0] 71) ∧ Below w.heap.size w wr
set_option maxRecDepth 100000 in
set_option maxHeartbeats 2000000 in
theorem find_any {l : List Ed} {v : Value} {w : World} (h : SlAt sc3 3 w v l) (x : Int) :
    Calls Try.prog 47 #[v, .int .i64 x] w fun e w' => FdAns (fdS l x) e ∧ Below w.heap.size w w' := by
  have HV := hidIn h
  obtain ⟨a, cap, rfl, hl, hq⟩ := h
  obtain ⟨LL, hLL⟩ : ∃ LL, l.length = LL := ⟨_, rfl⟩
  rw [hLL] at HV hl ⊢
  have HLL := hidIn hLL
  clear hq hLL
  go_enter Try.func47, Try.ntmps47
  go_wp2_with fail
  go_loopw [6] (fun i wr => wr = w.alloc (.cells #[.int .i64 0, .int .u32 0, .int .u32 0] 71) ∧ ∃ k : Nat, k ≤ LL ∧ i = .int .i64 k ∧ Hid (fdS l x = fdS (l.drop k) x)) (fun i _ => LL - (intOf i).toNat)
  case atStart => exact ⟨rfl, 0, Nat.zero_le _, rfl, hidIn (by rw [List.drop_zero])⟩
  case round =>
    obtain ⟨hwr, k, hk, rfl, HE⟩ := hrel
    rw [hwr]
    clear hwr
    by_cases hlt : k < LL
    · obtain ⟨bk, o, rfl, hbk, hcell⟩ := HV.out.sts (by omega)
      obtain ⟨⟨s0, s1, s2⟩, hz⟩ : ∃ z, l[k]? = some z := ⟨l[k]'(by rw [HLL.out]; exact hlt), List.getElem?_eq_getElem _⟩
      obtain ⟨c0, c1, c2⟩ := hcell k _ hz
      simp only at c0 c1 c2
      have hki : (k : Int) < (LL : Int) := by omega
      have HZ := hidIn hz
      clear hcell hz
      by_cases hx : s0 = x
      · have h1 : (s0 == x) = true := by simpa using hx
        have HX := hidIn hx
        clear hx
        have hz : (w.alloc (.cells #[.int .i64 0, .int .u32 0, .int .u32 0] 71)).heap[w.heap.size]? = _ := heap_alloc_last w _
        obtain ⟨W, hW⟩ : ∃ W, w.alloc (.cells #[.int .i64 0, .int .u32 0, .int .u32 0] 71) = W := ⟨_, rfl⟩
        have HBW : Hid (Below w.heap.size w W) := hidIn (by rw [← hW]; exact (Below.refl _ w).alloc (Nat.le_refl _) _)
        rw [hW] at hz ⊢
        clear hW
        replace c0 := (HBW.out.cell (p := ⟨bk, o + k * 3, none⟩) hbk).trans c0
        replace c1 := (HBW.out.cell (p := ⟨bk, o + k * 3 + 1, none⟩) hbk).trans c1
        replace c2 := (HBW.out.cell (p := ⟨bk, o + k * 3 + 2, none⟩) hbk).trans c2
        have z0 := cell_of_row _ _ 0 _ _ _ hz
        have z1 := cell_of_row _ _ 1 _ _ _ hz
        have z2 := cell_of_row _ _ 2 _ _ _ hz
        have y0 := frozen_new hz 0
        have y1 := frozen_new hz 1
        have y2 := frozen_new hz 2
        simp at z0 z1 z2
        clear hz
        go_wp2_with fail
        refine bodyPost_ret (v := .tuple #[stV s0 s1 s2, .bool true]) (by simp [results, Try.results47, asAddr, Result.andThen, go_sem, z0, z1, z2]) rfl ⟨?_, ?_⟩
        · rw [HE.out, fdS_yes HZ.out HX.out]
          rfl
        · exact HBW.out.trans (by go_grown)
      · have h1 : (s0 == x) = false := by simpa using hx
        have HX := hidIn hx
        clear hx
        go_wp2_with fail
        go_roundw
        case rel => exact ⟨trivial, k + 1, by omega, by go_num, hidIn (HE.out.trans (fdS_no HZ.out HX.out))⟩
        case measure => simp [intOf]; omega
    · obtain rfl : k = LL := by omega
      have HN : Hid (fdS l x = none) := hidIn (by rw [HE.out, ← HLL.out]; exact fdS_end)
      clear HE
      have hz : (w.alloc (.cells #[.int .i64 0, .int .u32 0, .int .u32 0] 71)).heap[w.heap.size]? = _ := heap_alloc_last w _
      obtain ⟨W, hW⟩ : ∃ W, w.alloc (.cells #[.int .i64 0, .int .u32 0, .int .u32 0] 71) = W := ⟨_, rfl⟩
      have HBW : Hid (Below w.heap.size w W) := hidIn (by rw [← hW]; exact (Below.refl _ w).alloc (Nat.le_refl _) _)
      rw [hW] at hz ⊢
      clear hW
      have z0 := cell_of_row _ _ 0 _ _ _ hz
      have z1 := cell_of_row _ _ 1 _ _ _ hz
      have z2 := cell_of_row _ _ 2 _ _ _ hz
      have y0 := frozen_new hz 0
      have y1 := frozen_new hz 1
      have y2 := frozen_new hz 2
      simp at z0 z1 z2
      clear hz
      go_wp2_with fail
      refine bodyPost_ret (v := .tuple #[stV 0 0 0, .bool false]) (by simp [results, Try.results47, asAddr, Result.andThen, go_sem, z0, z1, z2]) rfl ⟨?_, ?_⟩
      · rw [HN.out]
        rfl
      · exact HBW.out.trans (by go_grown)
end Go.Proofs.Ytpdpdhnllmlfdaa
namespace Go.Proofs.Ytpdpdhnllmlfdaa
open Go.RowKit Go.Maps

def fdR (l : List (Rc × Value)) (x : Int) : Option (Rc × Value) := l.find? fun y => y.1.origin == x
theorem fdR_no {l : List (Rc × Value)} {k : Nat} {y : Rc × Value} {x : Int} (h : l[k]? = some y) (hn : ¬ y.1.origin = x) : fdR (l.drop k) x = fdR (l.drop (k + 1)) x := by
  rw [drop_next h, fdR, List.find?_cons, show (y.1.origin == x) = false by simpa using hn]
  rfl
theorem fdR_yes {l : List (Rc × Value)} {k : Nat} {y : Rc × Value} {x : Int} (h : l[k]? = some y) (hn : y.1.origin = x) : fdR (l.drop k) x = some y := by
  rw [drop_next h, fdR, List.find?_cons, show (y.1.origin == x) = true by simpa using hn]
theorem fdR_end {l : List (Rc × Value)} {x : Int} : fdR (l.drop l.length) x = none := by rw [List.drop_length]; rfl
def GdAns (o : Option (Rc × Value)) (e : Ending) : Prop := e = .returned (.tuple #[recV (rOf o) (uOf o), .bool o.isSome])
set_option maxRecDepth 100000 in
set_option maxHeartbeats 2000000 in
theorem dget_any {l : List (Rc × Value)} {v : Value} {w : World} (h : RecsAt w v l) (x : Int) :
    Calls Try.prog 16 #[v, .int .i64 x] w fun e w' => GdAns (fdR l x) e ∧ Below w.heap.size w w' := by
  obtain ⟨a, cap, rfl, hl, hcap, hat⟩ := h.r.recs
  have HA := hidIn h.a
  obtain ⟨LL, hLL⟩ : ∃ LL, l.length = LL := ⟨_, rfl⟩
  rw [hLL] at hat hl ⊢
  have Hat := hidIn hat
  have HLL := hidIn hLL
  clear hat hLL h hcap
  go_enter Try.func16, Try.ntmps16
  go_wp2_with fail
  go_loopw [6] (fun i wr => wr = w.alloc (.cells #[.int .i64 0, .int .u32 0, .int .u32 0, .int .i64 0, .bool false, .slice none 0 0] 28) ∧ ∃ k : Nat, k ≤ LL ∧ i = .int .i64 k ∧ Hid (fdR l x = fdR (l.drop k) x)) (fun i _ => LL - (intOf i).toNat)
  case atStart => exact ⟨rfl, 0, Nat.zero_le _, rfl, hidIn (by rw [List.drop_zero])⟩
  case round =>
    obtain ⟨hwr, k, hk, rfl, HE⟩ := hrel
    rw [hwr]
    clear hwr
    by_cases hlt : k < LL
    · obtain ⟨bk, o, rfl, hbk, hcell⟩ := Hat.out (by omega)
      obtain ⟨⟨⟨s0, s1, s2, s3, s4, as'⟩, va⟩, hz⟩ : ∃ z, l[k]? = some z := ⟨l[k]'(by rw [HLL.out]; exact hlt), List.getElem?_eq_getElem _⟩
      have hva := HA.out _ (List.mem_of_getElem? hz)
      simp only at hva
      obtain ⟨aa, acap, rfl, _⟩ := hva
      obtain ⟨an, han⟩ : ∃ an, as'.length = an := ⟨_, rfl⟩
      obtain ⟨c0, c1, c2, c3, c4, c5⟩ := hcell k _ hz
      simp only [han] at c0 c1 c2 c3 c4 c5
      rw [han] at hz
      have Han := hidIn han
      have hki : (k : Int) < (LL : Int) := by omega
      have HZ := hidIn hz
      clear hcell hz han
      by_cases hx : s0 = x
      · have h1 : (s0 == x) = true := by simpa using hx
        have HX := hidIn hx
        clear hx
        have hz : (w.alloc (.cells #[.int .i64 0, .int .u32 0, .int .u32 0, .int .i64 0, .bool false, .slice none 0 0] 28)).heap[w.heap.size]? = _ := heap_alloc_last w _
        obtain ⟨W, hW⟩ : ∃ W, w.alloc (.cells #[.int .i64 0, .int .u32 0, .int .u32 0, .int .i64 0, .bool false, .slice none 0 0] 28) = W := ⟨_, rfl⟩
        have HBW : Hid (Below w.heap.size w W) := hidIn (by rw [← hW]; exact (Below.refl _ w).alloc (Nat.le_refl _) _)
        rw [hW] at hz ⊢
        clear hW
        replace c0 := (HBW.out.cell (p := ⟨bk, o + k * 6, none⟩) hbk).trans c0
        replace c1 := (HBW.out.cell (p := ⟨bk, o + k * 6 + 1, none⟩) hbk).trans c1
        replace c2 := (HBW.out.cell (p := ⟨bk, o + k * 6 + 2, none⟩) hbk).trans c2
        replace c3 := (HBW.out.cell (p := ⟨bk, o + k * 6 + 3, none⟩) hbk).trans c3
        replace c4 := (HBW.out.cell (p := ⟨bk, o + k * 6 + 4, none⟩) hbk).trans c4
        replace c5 := (HBW.out.cell (p := ⟨bk, o + k * 6 + 5, none⟩) hbk).trans c5
        have z0 := cell_of_row _ _ 0 _ _ _ hz
        have z1 := cell_of_row _ _ 1 _ _ _ hz
        have z2 := cell_of_row _ _ 2 _ _ _ hz
        have z3 := cell_of_row _ _ 3 _ _ _ hz
        have z4 := cell_of_row _ _ 4 _ _ _ hz
        have z5 := cell_of_row _ _ 5 _ _ _ hz
        have y0 := frozen_new hz 0
        have y1 := frozen_new hz 1
        have y2 := frozen_new hz 2
        have y3 := frozen_new hz 3
        have y4 := frozen_new hz 4
        have y5 := frozen_new hz 5
        simp at z0 z1 z2 z3 z4 z5
        clear hz
        go_wp2_with fail
        refine bodyPost_ret (v := .tuple #[recV ⟨s0, s1, s2, s3, s4, as'⟩ (.slice aa an acap), .bool true]) (by simp [results, Try.results16, asAddr, Result.andThen, go_sem, z0, z1, z2, z3, z4, z5]) rfl ⟨?_, ?_⟩
        · rw [HE.out, fdR_yes HZ.out HX.out]
          rfl
        · exact HBW.out.trans (by go_grown)
      · have h1 : (s0 == x) = false := by simpa using hx
        have HX := hidIn hx
        clear hx
        go_wp2_with fail
        go_roundw
        case rel => exact ⟨trivial, k + 1, by omega, by go_num, hidIn (HE.out.trans (fdR_no HZ.out HX.out))⟩
        case measure => simp [intOf]; omega
    · obtain rfl : k = LL := by omega
      have HN : Hid (fdR l x = none) := hidIn (by rw [HE.out, ← HLL.out]; exact fdR_end)
      clear HE
      have hz : (w.alloc (.cells #[.int .i64 0, .int .u32 0, .int .u32 0, .int .i64 0, .bool false, .slice none 0 0] 28)).heap[w.heap.size]? = _ := heap_alloc_last w _
      obtain ⟨W, hW⟩ : ∃ W, w.alloc (.cells #[.int .i64 0, .int .u32 0, .int .u32 0, .int .i64 0, .bool false, .slice none 0 0] 28) = W := ⟨_, rfl⟩
      have HBW : Hid (Below w.heap.size w W) := hidIn (by rw [← hW]; exact (Below.refl _ w).alloc (Nat.le_refl _) _)
      rw [hW] at hz ⊢
      clear hW
      have z0 := cell_of_row _ _ 0 _ _ _ hz
      have z1 := cell_of_row _ _ 1 _ _ _ hz
      have z2 := cell_of_row _ _ 2 _ _ _ hz
      have z3 := cell_of_row _ _ 3 _ _ _ hz
      have z4 := cell_of_row _ _ 4 _ _ _ hz
      have z5 := cell_of_row _ _ 5 _ _ _ hz
      have y0 := frozen_new hz 0
      have y1 := frozen_new hz 1
      have y2 := frozen_new hz 2
      have y3 := frozen_new hz 3
      have y4 := frozen_new hz 4
      have y5 := frozen_new hz 5
      simp at z0 z1 z2 z3 z4 z5
      clear hz
      go_wp2_with fail
      refine bodyPost_ret (v := .tuple #[recV rc0 (.slice none 0 0), .bool false]) (by simp [results, Try.results16, asAddr, Result.andThen, go_sem, z0, z1, z2, z3, z4, z5, rc0]) rfl ⟨?_, ?_⟩
      · rw [HN.out]
        rfl
      · exact HBW.out.trans (by go_grown)
end Go.Proofs.Ytpdpdhnllmlfdaa
namespace Go.Proofs.Ytpdpdhnllmlfdaa
open Go.RowKit Go.Maps

/-- A record laid among others: those of its origin go, it stands ahead of the first that is above it. -/
def insR (r : Rc) : List Rc → Bool → List Rc
  | [], b => if b = true then [] else [r]
  | y :: l, b => if y.origin = r.origin then insR r l b else if b = false ∧ r.origin < y.origin then r :: y :: insR r l true else y :: insR r l b
def insP (x : Rc × Value) : List (Rc × Value) → Bool → List (Rc × Value)
  | [], b => if b = true then [] else [x]
  | y :: l, b => if y.1.origin = x.1.origin then insP x l b else if b = false ∧ x.1.origin < y.1.origin then x :: y :: insP x l true else y :: insP x l b
theorem insP_rcs (x : Rc × Value) : ∀ (l : List (Rc × Value)) (b : Bool), rcs (insP x l b) = insR x.1 (rcs l) b
  | [], b => by cases b <;> rfl
  | y :: l, b => by
    show rcs (insP x (y :: l) b) = insR x.1 (y.1 :: rcs l) b
    unfold insP insR
    by_cases h1 : y.1.origin = x.1.origin
    · rw [if_pos h1, if_pos h1]; exact insP_rcs x l b
    · rw [if_neg h1, if_neg h1]
      by_cases h2 : b = false ∧ x.1.origin < y.1.origin
      · rw [if_pos h2, if_pos h2]
        show x.1 :: y.1 :: rcs (insP x l true) = _
        rw [insP_rcs x l true]
      · rw [if_neg h2, if_neg h2]
        show y.1 :: rcs (insP x l b) = _
        rw [insP_rcs x l b]
theorem insP_mem (x : Rc × Value) : ∀ (l : List (Rc × Value)) (b : Bool) (y : Rc × Value), y ∈ insP x l b → y = x ∨ y ∈ l
  | [], b, y, h => by
    cases b
    · exact .inl (by simpa [insP] using h)
    · simp [insP] at h
  | z :: l, b, y, h => by
    unfold insP at h
    by_cases h1 : z.1.origin = x.1.origin
    · rw [if_pos h1] at h
      exact (insP_mem x l b y h).imp id fun h => List.mem_cons_of_mem _ h
    · rw [if_neg h1] at h
      by_cases h2 : b = false ∧ x.1.origin < z.1.origin
      · rw [if_pos h2] at h
        simp only [List.mem_cons] at h ⊢
        rcases h with h | h | h
        · exact .inl h
        · exact .inr (.inl h)
        · exact (insP_mem x l true y h).imp id .inr
      · rw [if_neg h2] at h
        simp only [List.mem_cons] at h ⊢
        rcases h with h | h
        · exact .inr (.inl h)
        · exact (insP_mem x l b y h).imp id .inr
theorem insP_len (x : Rc × Value) : ∀ (l : List (Rc × Value)) (b : Bool), (insP x l b).length ≤ l.length + 1
  | [], b => by cases b <;> simp [insP]
  | z :: l, b => by
    have h3 := insP_len x l b
    have h4 : (insP x l true).length ≤ l.length := insT_len x l
    unfold insP
    split
    · simp; omega
    · split
      · simp; omega
      · simp; omega
where insT_len (x : Rc × Value) : ∀ (l : List (Rc × Value)), (insP x l true).length ≤ l.length
  | [] => by simp [insP]
  | z :: l => by
    have h3 := insT_len x l
    unfold insP
    split
    · simp; omega
    · rw [if_neg (by simp)]
      simp; omega
/-- A stretch of a store's records. -/
def seg (F : Rf) : Nat → Nat → List Rc
  | _, 0 => []
  | s, n + 1 => match F (s : Int) with
    | none => seg F (s + 1) n
    | some g => g :: seg F (s + 1) n
theorem seg_some {F : Rf} {s n : Nat} {g : Rc} (h : F (s : Int) = some g) : seg F s (n + 1) = g :: seg F (s + 1) n := by simp [seg, h]
theorem seg_none {F : Rf} {s n : Nat} (h : F (s : Int) = none) : seg F s (n + 1) = seg F (s + 1) n := by simp [seg, h]
theorem seg_put {F : Rf} {o : Int} {r : Rc} : ∀ (n s : Nat), o < (s : Int) → seg (putO F o r) s n = seg F s n
  | 0, _, _ => rfl
  | n + 1, s, h => by
    have h1 : putO F o r (s : Int) = F (s : Int) := by unfold putO; rw [if_neg (by omega)]
    have h2 := seg_put (F := F) (o := o) (r := r) n (s + 1) (by omega)
    cases h3 : F (s : Int) with
    | none => rw [seg_none h3, seg_none (h1.trans h3), h2]
    | some g => rw [seg_some h3, seg_some (h1.trans h3), h2]
theorem ins_true {F : Rf} (hF : OkF F) {r : Rc} : ∀ (n s : Nat), r.origin < (s : Int) → insR r (seg F s n) true = seg F s n
  | 0, _, _ => rfl
  | n + 1, s, h => by
    have h2 := ins_true hF (r := r) n (s + 1) (by omega)
    cases h3 : F (s : Int) with
    | none => rw [seg_none h3, h2]
    | some g =>
      have h4 := (hF _ _ h3).2
      rw [seg_some h3]
      unfold insR
      rw [if_neg (by omega), if_neg (by simp), h2]
theorem ins_front {F : Rf} (hF : OkF F) {r : Rc} : ∀ (n s : Nat), r.origin < (s : Int) → insR r (seg F s n) false = r :: seg F s n
  | 0, _, _ => rfl
  | n + 1, s, h => by
    cases h3 : F (s : Int) with
    | none => rw [seg_none h3, ins_front hF n (s + 1) (by omega)]
    | some g =>
      have h4 := (hF _ _ h3).2
      rw [seg_some h3]
      unfold insR
      rw [if_neg (by omega), if_pos ⟨rfl, by omega⟩, ins_true hF n (s + 1) (by omega)]
theorem ins_seg {F : Rf} (hF : OkF F) {r : Rc} : ∀ (n s : Nat), (s : Int) ≤ r.origin → r.origin < (s : Int) + (n : Int) → insR r (seg F s n) false = seg (putO F r.origin r) s n
  | 0, s, h1, h2 => by omega
  | n + 1, s, h1, h2 => by
    by_cases he : (s : Int) = r.origin
    · have h5 : putO F r.origin r (s : Int) = some r := by unfold putO; rw [if_pos he]
      rw [seg_some h5, seg_put n (s + 1) (by omega)]
      cases h3 : F (s : Int) with
      | none => rw [seg_none h3, ins_front hF n (s + 1) (by omega)]
      | some g =>
        have h4 := (hF _ _ h3).2
        rw [seg_some h3]
        unfold insR
        rw [if_pos (by omega), ins_front hF n (s + 1) (by omega)]
    · have h5 : putO F r.origin r (s : Int) = F (s : Int) := by unfold putO; rw [if_neg he]
      have h6 := ins_seg hF (r := r) n (s + 1) (by omega) (by omega)
      cases h3 : F (s : Int) with
      | none => rw [seg_none h3, seg_none (h5.trans h3), h6]
      | some g =>
        have h4 := (hF _ _ h3).2
        rw [seg_some h3, seg_some (h5.trans h3)]
        unfold insR
        rw [if_neg (by omega), if_neg (by omega), h6]
theorem seg_snoc (F : Rf) : ∀ (n s : Nat), seg F s (n + 1) = seg F s n ++ (F ((s + n : Nat) : Int)).toList
  | 0, s => by
    cases h : F (s : Int) with
    | none => rw [seg_none h]; simp [seg]
    | some g => rw [seg_some h]; simp [seg]
  | n + 1, s => by
    have h2 := seg_snoc F n (s + 1)
    rw [show s + 1 + n = s + (n + 1) by omega] at h2
    cases h : F (s : Int) with
    | none => rw [seg_none h, seg_none h, h2]
    | some g => rw [seg_some h, seg_some h, h2]; rfl
theorem allR_seg (F : Rf) : ∀ n, allR F n = seg F 1 n
  | 0 => rfl
  | n + 1 => by
    rw [seg_snoc, ← allR_seg F n]
    unfold allR
    rw [List.range_succ, List.filterMap_append]
    congr 1
    rw [show ((1 + n : Nat) : Int) = (n : Int) + 1 by omega]
    cases h : F ((n : Int) + 1) <;> simp [h]
/-- What Put does to the records, rising. -/
theorem insP_all {F : Rf} (hF : OkF F) {x : Rc × Value} (hx : recOk x.1 = true) {l : List (Rc × Value)} (hl : rcs l = allR F 24) : rcs (insP x l false) = allR (putO F x.1.origin x.1) 24 := by
  have h := recOk_pos hx
  rw [insP_rcs, hl, allR_seg, allR_seg]
  exact ins_seg hF 24 1 (by omega) (by omega)
theorem seg_find {F : Rf} (hF : OkF F) : ∀ (n s : Nat) (o : Int), (s : Int) ≤ o → o < (s : Int) + (n : Int) → (seg F s n).find? (fun y => y.origin == o) = F o
  | 0, s, o, h1, h2 => by omega
  | n + 1, s, o, h1, h2 => by
    by_cases he : (s : Int) = o
    · subst he
      cases h3 : F (s : Int) with
      | none =>
        rw [seg_none h3]
        refine List.find?_eq_none.2 fun y hy => ?_
        have := seg_mem hF n (s + 1) y hy
        simp; omega
      | some g => rw [seg_some h3, List.find?_cons, show (g.origin == (s : Int)) = true by simpa using (hF _ _ h3).2]
    · cases h3 : F (s : Int) with
      | none => rw [seg_none h3]; exact seg_find hF n (s + 1) o (by omega) (by omega)
      | some g =>
        rw [seg_some h3, List.find?_cons, show (g.origin == o) = false by have := (hF _ _ h3).2; simp; omega]
        exact seg_find hF n (s + 1) o (by omega) (by omega)
where seg_mem {F : Rf} (hF : OkF F) : ∀ (n s : Nat) (y : Rc), y ∈ seg F s n → (s : Int) ≤ y.origin
  | 0, s, y, h => by simp [seg] at h
  | n + 1, s, y, h => by
    cases h3 : F (s : Int) with
    | none => rw [seg_none h3] at h; have := seg_mem hF n (s + 1) y h; omega
    | some g =>
      rw [seg_some h3] at h
      rcases List.mem_cons.1 h with rfl | h
      · have := (hF _ _ h3).2; omega
      · have := seg_mem hF n (s + 1) y h; omega
/-- What Get finds. -/
theorem fdR_all {F : Rf} (hF : OkF F) {l : List (Rc × Value)} (hl : rcs l = allR F 24) {o : Int} (h1 : 1 ≤ o) (h2 : o ≤ 24) : (fdR l o).map (·.1) = F o := by
  rw [← seg_find hF 24 1 o (by omega) (by omega), ← allR_seg, ← hl]
  unfold fdR rcs
  rw [List.find?_map]
  rfl
end Go.Proofs.Ytpdpdhnllmlfdaa
namespace Go.Proofs.Ytpdpdhnllmlfdaa
open Go.RowKit

theorem deA_yes {b : ByteArray} (h : rdOk b = true) : deA b = (rdR b, 0) := by unfold deA; rw [h]; rfl
theorem deA_no {b : ByteArray} (h : rdOk b = false) : deA b = (zeroR, 4) := by unfold deA; rw [h]; rfl
theorem rdOk_parts {b : ByteArray} (h : rdOk b = true) : 13 + 3 * tkz b 12 1 = b.size ∧ recOk (rdR b) = true := by
  unfold rdOk at h
  simp only [Bool.and_eq_true, decide_eq_true_eq] at h
  exact ⟨h.1, h.2.2⟩
theorem enA_rd {b : ByteArray} (h : rdOk b = true) : enA (rdR b) = (b, 0) := by
  unfold enA
  rw [(rdOk_parts h).2, enc_rd h]
  rfl
theorem dsA_yes {b : ByteArray} (h : stOk b = true) : dsA b = ((((tkz b 0 1 : Nat) : Int), ((tkz b 1 4 : Nat) : Int), ((tkz b 5 4 : Nat) : Int)), 0) := by unfold dsA; rw [h]; rfl
theorem dsA_no {b : ByteArray} (h : stOk b = false) : dsA b = ((0, 0, 0), 4) := by unfold dsA; rw [h]; rfl
theorem stOk_parts {b : ByteArray} (h : stOk b = true) : 9 = b.size ∧ mayS (tkz b 0 1 : Nat) (tkz b 1 4 : Nat) (tkz b 5 4 : Nat) = true := by
  unfold stOk at h
  simpa using h
theorem esA_st {b : ByteArray} (h : stOk b = true) : esA (tkz b 0 1 : Nat) (tkz b 1 4 : Nat) (tkz b 5 4 : Nat) = (b, 0) := by
  unfold esA
  rw [(stOk_parts h).2]
  simp only [Int.toNat_natCast]
  rw [st_rd (stOk_parts h).1]
  rfl
end Go.Proofs.Ytpdpdhnllmlfdaa
namespace Go.Proofs.Ytpdpdhnllmlfdaa
open Go.RowKit

theorem enA_yes {r : Rc} (h : recOk r = true) : enA r = (encS r, 0) := by unfold enA; rw [h]; rfl
theorem enA_no {r : Rc} (h : recOk r = false) : enA r = (⟨#[]⟩, 2) := by unfold enA; rw [h]; rfl
theorem ckN_yes {r : Rc} (h : recOk r = true) : ckN r = 0 := by unfold ckN; rw [h]; rfl
theorem ckN_no {r : Rc} (h : recOk r = false) : ckN r = 2 := by unfold ckN; rw [h]; rfl
theorem deA_enc {r : Rc} (h : recOk r = true) (hb : RcB r) : deA (encS r) = (r, 0) := by rw [deA_yes (enc_ok h hb), (rd_enc h hb).1]
theorem sameB_self (r : Rc) : sameB r r = true := by simp [sameB]
theorem recOk_mayS {r : Rc} (h : recOk r = true) : mayS r.origin r.epoch r.seq = true := by rw [recOk_may] at h; simp only [Bool.and_eq_true] at h; exact h.1
theorem esA_rec {r : Rc} (h : recOk r = true) : esA r.origin r.epoch r.seq = (stS r.origin.toNat r.epoch.toNat r.seq.toNat, 0) := by unfold esA; rw [recOk_mayS h]; rfl
theorem dsA_st {o e q : Int} (h : mayS o e q = true) (he : 0 ≤ e ∧ e < 4294967296) (hq : 0 ≤ q ∧ q < 4294967296) : dsA (stS o.toNat e.toNat q.toNat) = ((o, e, q), 0) := by
  have h1 := (mayS_iff.1 h).1
  obtain ⟨t0, t1, t2⟩ := rd_st (o := o.toNat) (e := e.toNat) (s := q.toNat) (by omega) (by omega) (by omega)
  have e0 : ((o.toNat : Nat) : Int) = o := by omega
  have e1 : ((e.toNat : Nat) : Int) = e := by omega
  have e2 : ((q.toNat : Nat) : Int) = q := by omega
  have hok : stOk (stS o.toNat e.toNat q.toNat) = true := by
    unfold stOk
    rw [t0, t1, t2, e0, e1, e2, h, stS_size]
    rfl
  rw [dsA_yes hok, t0, t1, t2, e0, e1, e2]
/-- A record's own block, what lies behind it, in all worlds behind. -/
structure RkM (w V : World) (r : Rc) (va : Value) : Prop where
  x : V.heap[w.heap.size]? = some (recO r va)
  b : Below w.heap.size w V
theorem RkM.keep {w V V' : World} {r : Rc} {va : Value} (h : RkM w V r va) (hb : Below V.heap.size V V') : RkM w V' r va := ⟨(hb.block _ (block_lt h.x)).trans h.x, h.b.trans (hb.mono h.b.size)⟩
end Go.Proofs.Ytpdpdhnllmlfdaa
namespace Go.Proofs.Ytpdpdhnllmlfdaa
open Go.RowKit

/-- A record in memory of its own. -/
def OwnR (w w' : World) (r : Rc) (e : Ending) : Prop := ∃ g c, e = .returned (recV r (.slice (some ⟨g, 0, none⟩) r.adjs.length c)) ∧ w'.ownsRow w.heap.size 75 2 (.slice (some ⟨g, 0, none⟩) (r.adjs.length + 1) c) (r.adjs.length + 1) (fl ac (r.adjs ++ [(0, 77)]))
end Go.Proofs.Ytpdpdhnllmlfdaa
namespace Go.Proofs.Ytpdpdhnllmlfdaa
open Go.RowKit

set_option maxRecDepth 100000 in
set_option maxHeartbeats 2000000 in
theorem dsame_any {r s : Rc} {va vb : Value} {w : World} (ha : SlAt ac 2 w va r.adjs) (hb : SlAt ac 2 w vb s.adjs) :
    Calls Try.prog 17 #[recV r va, recV s vb] w fun e w' => e = .returned (.bool (sameB r s)) ∧ Below w.heap.size w w' := by
  obtain ⟨W1, hW1⟩ : ∃ W1, (w.alloc (recO r va)).alloc (recO s vb) = W1 := ⟨_, rfl⟩
  have b1 : Below w.heap.size w W1 := by rw [← hW1]; exact ((Below.refl _ w).alloc (Nat.le_refl _) _).alloc (by simp) _
  have hX : W1.heap[w.heap.size]? = some (recO r va) := by rw [← hW1, Below.heap_alloc _ _ _ (by simp)]; exact heap_alloc_last w _
  have hY : W1.heap[w.heap.size + 1]? = some (recO s vb) := by
    rw [← hW1]
    have := heap_alloc_last (w.alloc (recO r va)) (recO s vb)
    rw [World.size_alloc] at this
    exact this
  obtain ⟨aa, acap, rfl, hla, _, hca⟩ := ha.ads
  obtain ⟨ba, bcap, rfl, hlb, _, hcb⟩ := hb.ads
  have Ha := hidIn hca
  have Hb := hidIn hcb
  obtain ⟨res, hres⟩ : ∃ res, sameB r s = res := ⟨_, rfl⟩
  rw [hres]
  have Hres := hidIn hres
  obtain ⟨o1, e1, q1, c1, i1, l1⟩ := r
  obtain ⟨o2, e2, q2, c2, i2, l2⟩ := s
  have HW := hidIn hW1
  have HB1 := hidIn b1
  have HK : Hid (∀ wq, Below W1.heap.size W1 wq → wq.cell? ⟨w.heap.size, 5, none⟩ = some (.slice aa l1.length acap) ∧ wq.cell? ⟨w.heap.size + 1, 5, none⟩ = some (.slice ba l2.length bcap)) := hidIn fun wq h => ⟨cell_of_row _ _ 5 _ _ _ ((h.block _ (block_lt hX)).trans hX), cell_of_row _ _ 5 _ _ _ ((h.block _ (block_lt hY)).trans hY)⟩
  have x0 := cell_of_row _ _ 0 _ _ _ hX
  have y0 := cell_of_row _ _ 0 _ _ _ hY
  have x1 := cell_of_row _ _ 1 _ _ _ hX
  have y1 := cell_of_row _ _ 1 _ _ _ hY
  have x2 := cell_of_row _ _ 2 _ _ _ hX
  have y2 := cell_of_row _ _ 2 _ _ _ hY
  have x3 := cell_of_row _ _ 3 _ _ _ hX
  have y3 := cell_of_row _ _ 3 _ _ _ hY
  have x4 := cell_of_row _ _ 4 _ _ _ hX
  have y4 := cell_of_row _ _ 4 _ _ _ hY
  have x5 := cell_of_row _ _ 5 _ _ _ hX
  have y5 := cell_of_row _ _ 5 _ _ _ hY
  simp at x0 x1 x2 x3 x4 x5 y0 y1 y2 y3 y4 y5
  simp only at Ha Hb hla hlb HW ⊢
  clear hW1 b1 hX hY ha hb hca hcb hres
  go_enter Try.func17, Try.ntmps17
  go_upto_region 1 with fail
  rw [show (w.alloc _).alloc _ = W1 from HW.out]
  clear HW
  by_cases ho : o1 = o2
  case neg =>
    have t : (o1 != o2) = true := by simpa using ho
    have HE : Hid ((o1 == o2) = false) := hidIn (by simpa using ho)
    clear ho
    go_wp2_with fail
    go_returns
    exact ⟨by rw [← Hres.out]; unfold sameB; simp only; rw [HE.out]; simp, HB1.out⟩
  subst ho
  have tno : (o1 != o1) = false := by simp
  by_cases he : e1 = e2
  case neg =>
    have t : (e1 != e2) = true := by simpa using he
    have HE : Hid ((e1 == e2) = false) := hidIn (by simpa using he)
    clear he
    go_wp2_with fail
    go_returns
    exact ⟨by rw [← Hres.out]; unfold sameB; simp only; rw [HE.out]; simp, HB1.out⟩
  subst he
  have tne : (e1 != e1) = false := by simp
  by_cases hq : q1 = q2
  case neg =>
    have t : (q1 != q2) = true := by simpa using hq
    have HE : Hid ((q1 == q2) = false) := hidIn (by simpa using hq)
    clear hq
    go_wp2_with fail
    go_returns
    exact ⟨by rw [← Hres.out]; unfold sameB; simp only; rw [HE.out]; simp, HB1.out⟩
  subst hq
  have tnq : (q1 != q1) = false := by simp
  by_cases hc : c1 = c2
  case neg =>
    have t : (c1 != c2) = true := by simpa using hc
    have HE : Hid ((c1 == c2) = false) := hidIn (by simpa using hc)
    clear hc
    go_wp2_with fail
    go_returns
    exact ⟨by rw [← Hres.out]; unfold sameB; simp only; rw [HE.out]; simp, HB1.out⟩
  subst hc
  have tnc : (c1 != c1) = false := by simp
  by_cases hi : i1 = i2
  case neg =>
    cases i1 <;> cases i2 <;> first | exact absurd rfl hi | skip
    all_goals
      clear hi
      go_wp2_with fail
      go_returns
      exact ⟨by rw [← Hres.out]; simp [sameB], HB1.out⟩
  subst hi
  have tni : (i1 != i1) = false := by simp
  have HEq : Hid (res = decide (l1 = l2)) := hidIn (by rw [← Hres.out]; simp [sameB])
  by_cases hlen : l1.length = l2.length
  case neg =>
    have t : ((l1.length : Int) != (l2.length : Int)) = true := by simp; omega
    have HE : Hid (res = false) := hidIn (by rw [HEq.out]; simp; intro h; exact hlen (by rw [h]))
    clear hlen
    go_wp2_with fail
    go_returns
    exact ⟨by rw [HE.out]; rfl, HB1.out⟩
  obtain ⟨m, hm⟩ : ∃ m, l2.length = m := ⟨_, rfl⟩
  have hlen2 : l1.length = m := by rw [hlen, hm]
  rw [hm] at hlb Hb HK y5
  rw [hlen2] at hla Ha HK x5
  have Hm := hidIn hm
  have HL := hidIn hlen2
  rw [hlen2, hm]
  clear hm hlen2 hlen
  have tl : ((m : Int) != (m : Int)) = false := by simp
  go_wp2_with fail
  clear x0 x1 x2 x3 x4 x5 y0 y1 y2 y3 y4 y5
  go_loopw [5] (fun i wr => ∃ k : Nat, k ≤ m ∧ i = .int .i64 k ∧ Hid (Below W1.heap.size W1 wr ∧ decide (l1 = l2) = decide (l1.drop k = l2.drop k))) (fun i _ => m - (intOf i).toNat)
  case atStart => exact ⟨0, Nat.zero_le _, rfl, hidIn ⟨Below.refl _ _, by rw [List.drop_zero, List.drop_zero]⟩⟩
  case round =>
    obtain ⟨k, hk, rfl, HR⟩ := hrel
    obtain ⟨x5, y5⟩ := HK.out wr HR.out.1
    by_cases hlt : k < m
    · obtain ⟨b1, p1, rfl, hb1, hc1⟩ := Ha.out (by omega)
      obtain ⟨b2, p2, rfl, hb2, hc2⟩ := Hb.out (by omega)
      obtain ⟨⟨u0, u1⟩, hu⟩ : ∃ z, l1[k]? = some z := ⟨l1[k]'(by rw [HL.out]; exact hlt), List.getElem?_eq_getElem _⟩
      obtain ⟨⟨v0, v1⟩, hv⟩ : ∃ z, l2[k]? = some z := ⟨l2[k]'(by rw [Hm.out]; exact hlt), List.getElem?_eq_getElem _⟩
      obtain ⟨g0, g1⟩ := hc1 k _ hu
      obtain ⟨h0, h1⟩ := hc2 k _ hv
      have hbw := HB1.out.trans (HR.out.1.mono HB1.out.size)
      have c0 := (hbw.cell (p := ⟨b1, p1 + k * 2, none⟩) hb1).trans g0
      have c1 := (hbw.cell (p := ⟨b1, p1 + k * 2 + 1, none⟩) hb1).trans g1
      have d0 := (hbw.cell (p := ⟨b2, p2 + k * 2, none⟩) hb2).trans h0
      have d1 := (hbw.cell (p := ⟨b2, p2 + k * 2 + 1, none⟩) hb2).trans h1
      simp only at c0 c1 d0 d1
      have HD : Hid (decide (l1 = l2) = (decide ((u0, u1) = (v0, v1)) && decide (l1.drop (k + 1) = l2.drop (k + 1)))) := hidIn (by rw [HR.out.2, dropEq hu hv])
      have hki : (k : Int) < (m : Int) := by omega
      obtain ⟨qb, hqb⟩ : ∃ qb, (u0 == v0 && u1 == v1) = qb := ⟨_, rfl⟩
      have hq : ∀ w, (Op.equalIn 10000 75 (.agg #[.int .i64 u0, .int .i64 u1]) (.agg #[.int .i64 v0, .int .i64 v1])).run Try.prog w = Result.ok qb w := fun w => by rw [eq_adj, hqb]
      have HQ : Hid (decide ((u0, u1) = (v0, v1)) = qb) := hidIn (by rw [← hqb]; by_cases a1 : u0 = v0 <;> by_cases a2 : u1 = v1 <;> simp [a1, a2])
      have HBr := hidIn HR.out.1
      clear hc1 hc2 hu hv g0 g1 h0 h1 hqb hbw HR
      go_upto_region 6 with fail
      go_quiet (fail)
      clear c0 c1 d0 d1 x5 y5
      generalize hV : World.drewN wr _ = V
      have HBV : Hid (Below W1.heap.size W1 V) := hidIn (by rw [← hV]; exact HBr.out.trans (((Fr.refl (fun _ => False) wr).drewN _).below HBr.out.size (fun _ h => h.elim)))
      clear hV HBr hq
      cases qb
      · go_wp2_with fail
        go_returns
        exact ⟨by rw [HEq.out, HD.out, HQ.out]; rfl, HB1.out.trans (HBV.out.mono HB1.out.size)⟩
      · go_wp2_with fail
        go_roundw
        case rel => exact ⟨k + 1, by omega, by go_num, hidIn ⟨HBV.out, by rw [HD.out, HQ.out]; rfl⟩⟩
        case measure => simp [intOf]; omega
    · have hki : ¬ ((k : Int) < (m : Int)) := by omega
      have HE : Hid (res = true) := hidIn (by rw [HEq.out, HR.out.2, List.drop_eq_nil_of_le (by rw [HL.out]; omega), List.drop_eq_nil_of_le (by rw [Hm.out]; omega)]; rfl)
      go_wp2_with fail
      go_returns
      exact ⟨by rw [HE.out]; rfl, HB1.out.trans (HR.out.1.mono HB1.out.size)⟩
end Go.Proofs.Ytpdpdhnllmlfdaa
namespace Go.Proofs.Ytpdpdhnllmlfdaa
open Go.RowKit Go.Maps

set_option maxRecDepth 100000 in
set_option maxHeartbeats 2000000 in
theorem sameAll_yes {l m : List (Rc × Value)} {v1 v2 : Value} {w : World} (h1 : RecsAt w v1 l) (h2 : RecsAt w v2 m) (he : rcs l = rcs m) :
    Calls Try.prog 11 #[v1, v2] w fun e w' => e = .returned (.bool true) ∧ Below w.heap.size w w' := by
  obtain ⟨a1, cap1, rfl, hl, _, hat1⟩ := h1.r.recs
  obtain ⟨a2, cap2, rfl, _, _, hat2⟩ := h2.r.recs
  have hlen : m.length = l.length := by have := congrArg List.length he; simpa using this.symm
  have HL : Hid (∀ (k : Nat) (x : Rc × Value), l[k]? = some x → ∃ u, m[k]? = some (x.1, u)) := hidIn fun k x hx => by
    have h3 : (rcs l)[k]? = some x.1 := by simp [rcs, hx]
    rw [he] at h3
    simp only [rcs, List.getElem?_map, Option.map_eq_some_iff] at h3
    obtain ⟨⟨y, u⟩, h4, h5⟩ := h3
    exact ⟨u, by rw [h4, ← h5]⟩
  have HA := hidIn h1.a
  have HC := hidIn h2.a
  obtain ⟨LL, hLL⟩ : ∃ LL, l.length = LL := ⟨_, rfl⟩
  rw [hlen] at hat2 ⊢
  rw [hLL] at hat1 hat2 hl ⊢
  have H1 := hidIn hat1
  have H2 := hidIn hat2
  have HLL := hidIn hLL
  clear hat1 hat2 h1 h2 he hlen hLL
  go_enter Try.func11, Try.ntmps11
  go_wp2_with fail
  go_loopw [5] (fun i wr => ∃ k : Nat, k ≤ LL ∧ i = .int .i64 k ∧ Hid (Below w.heap.size w wr)) (fun i _ => LL - (intOf i).toNat)
  case atStart => exact ⟨0, Nat.zero_le _, rfl, hidIn (Below.refl _ _)⟩
  case round =>
    obtain ⟨k, hk, rfl, HB⟩ := hrel
    by_cases hlt : k < LL
    · obtain ⟨b1, o1, rfl, hb1, hc1⟩ := H1.out (by omega)
      obtain ⟨b2, o2, rfl, hb2, hc2⟩ := H2.out (by omega)
      obtain ⟨⟨⟨s0, s1, s2, s3, s4, as'⟩, va⟩, hz⟩ : ∃ z, l[k]? = some z := ⟨l[k]'(by rw [HLL.out]; exact hlt), List.getElem?_eq_getElem _⟩
      obtain ⟨vb, hy⟩ := HL.out k _ hz
      have hva := HA.out _ (List.mem_of_getElem? hz)
      have hvb := HC.out _ (List.mem_of_getElem? hy)
      simp only at hva hvb hy
      have HS : Hid (∀ wq, Below wr.heap.size wr wq → Calls Try.prog 17 #[recV ⟨s0, s1, s2, s3, s4, as'⟩ va, recV ⟨s0, s1, s2, s3, s4, as'⟩ vb] wq fun e w' => e = .returned (.bool true) ∧ Below wq.heap.size wq w') := hidIn fun wq hq => by
        have hb := HB.out.trans (hq.mono HB.out.size)
        have := dsame_any (r := ⟨s0, s1, s2, s3, s4, as'⟩) (s := ⟨s0, s1, s2, s3, s4, as'⟩) (hva.keep hb (Nat.le_refl _)) (hvb.keep hb (Nat.le_refl _))
        rwa [sameB_self] at this
      obtain ⟨aa, acap, rfl, _⟩ := hva
      obtain ⟨ba, bcap, rfl, _⟩ := hvb
      obtain ⟨an, han⟩ : ∃ an, as'.length = an := ⟨_, rfl⟩
      obtain ⟨p0, p1, p2, p3, p4, p5⟩ := hc1 k _ hz
      have c0 := (HB.out.cell (p := ⟨b1, o1 + k * 6, none⟩) hb1).trans p0
      have c1 := (HB.out.cell (p := ⟨b1, o1 + k * 6 + 1, none⟩) hb1).trans p1
      have c2 := (HB.out.cell (p := ⟨b1, o1 + k * 6 + 2, none⟩) hb1).trans p2
      have c3 := (HB.out.cell (p := ⟨b1, o1 + k * 6 + 3, none⟩) hb1).trans p3
      have c4 := (HB.out.cell (p := ⟨b1, o1 + k * 6 + 4, none⟩) hb1).trans p4
      have c5 := (HB.out.cell (p := ⟨b1, o1 + k * 6 + 5, none⟩) hb1).trans p5
      obtain ⟨q0, q1, q2, q3, q4, q5⟩ := hc2 k _ hy
      have d0 := (HB.out.cell (p := ⟨b2, o2 + k * 6, none⟩) hb2).trans q0
      have d1 := (HB.out.cell (p := ⟨b2, o2 + k * 6 + 1, none⟩) hb2).trans q1
      have d2 := (HB.out.cell (p := ⟨b2, o2 + k * 6 + 2, none⟩) hb2).trans q2
      have d3 := (HB.out.cell (p := ⟨b2, o2 + k * 6 + 3, none⟩) hb2).trans q3
      have d4 := (HB.out.cell (p := ⟨b2, o2 + k * 6 + 4, none⟩) hb2).trans q4
      have d5 := (HB.out.cell (p := ⟨b2, o2 + k * 6 + 5, none⟩) hb2).trans q5
      simp only [han] at c0 c1 c2 c3 c4 c5 d0 d1 d2 d3 d4 d5 HS
      have hki : (k : Int) < (LL : Int) := by omega
      have hb1' : b1 < wr.heap.size := Nat.lt_of_lt_of_le hb1 HB.out.size
      have hb2' : b2 < wr.heap.size := Nat.lt_of_lt_of_le hb2 HB.out.size
      clear hc1 hc2 p0 p1 p2 p3 p4 p5 q0 q1 q2 q3 q4 q5 hz hy han
      have kc0 := cell_regrown c0
      have kc1 := cell_regrown c1
      have kc2 := cell_regrown c2
      have kc3 := cell_regrown c3
      have kc4 := cell_regrown c4
      have kc5 := cell_regrown c5
      have kd0 := cell_regrown d0
      have kd1 := cell_regrown d1
      have kd2 := cell_regrown d2
      have kd3 := cell_regrown d3
      have kd4 := cell_regrown d4
      have kd5 := cell_regrown d5
      go_upto_region 6 with fail
      refine wp_region_quiet_below (by kernel_rfl) (by kernel_rfl) ?_
      repeat (go_big_quiet_step (first
        | (go_at_call 17; exact Calls.regrown_of (HS.out _ (below_regrown _ _ _)))))
      refine wpQuiet_nil ?_
      rintro _ ⟨⟨dq, osq⟩, rfl⟩
      have hbr := below_regrown wr dq osq
      generalize Go.Sort.grow (redrawn wr dq) osq = W4 at hbr ⊢
      have HB4 := hidIn (HB.out.trans (hbr.mono HB.out.size))
      clear hbr HS c0 c1 c2 c3 c4 c5 d0 d1 d2 d3 d4 d5 kc0 kc1 kc2 kc3 kc4 kc5 kd0 kd1 kd2 kd3 kd4 kd5
      go_wp2_with fail
      go_roundw
      case rel => exact ⟨k + 1, by omega, by go_num, HB4⟩
      case measure => simp [intOf]; omega
    · obtain rfl : k = LL := by omega
      go_wp2_with fail
      go_ret
      exact ⟨rfl, HB.out⟩
end Go.Proofs.Ytpdpdhnllmlfdaa
namespace Go.Proofs.Ytpdpdhnllmlfdaa
open Go.RowKit Go.Maps

def Bd (F : Rf) : Prop := ∀ k g, F k = some g → g.epoch ≤ 4 ∧ g.seq ≤ 4
theorem bd_ov {B F : Rf} {s : List Rc} (h : Ov B F s) (hB : Bd B) (hs : ∀ x ∈ s, x.epoch ≤ 4 ∧ x.seq ≤ 4) : Bd F := fun k g hk => by
  by_cases he : ∃ x ∈ s, x.origin = k
  · obtain ⟨x, hx, hxk⟩ := he
    have := h.has x hx
    rw [hxk, hk] at this
    cases this
    exact hs _ hx
  · have := h.out k (fun x hx e => he ⟨x, hx, e⟩)
    rw [hk] at this
    exact hB k g this.symm
theorem bd_run {L : List Te} (_hL : TeB L) (t : Bool) : Bd (runR (ordT t L)) := fun k g hk => by
  have h := ((runR_is _ k).1 g hk).mem
  unfold ordT at h
  obtain ⟨x, _, rfl⟩ := List.mem_map.1 h
  show 1 + x.2.1 % 4 ≤ 4 ∧ 1 + x.2.2.1 % 4 ≤ 4
  omega
theorem sts_bd {F : Rf} (hF : OkF F) (hB : Bd F) {y : Ed} (hy : y ∈ (allR F 24).map stOf) : (0 ≤ y.2.1 ∧ y.2.1 < 4294967296) ∧ 0 ≤ y.2.2 ∧ y.2.2 < 4294967296 := by
  obtain ⟨g, hg, rfl⟩ := List.mem_map.1 hy
  obtain ⟨k, hk⟩ := allR_of hg
  have h1 := recOk_pos (hF k g hk).1
  have h2 := hB k g hk
  show (0 ≤ g.epoch ∧ g.epoch < 4294967296) ∧ 0 ≤ g.seq ∧ g.seq < 4294967296
  omega
theorem StAt.okF {w : World} {S M n : Nat} {f : Sf} (h : StAt w S M n f) : OkF (fR f) := fun _ _ hk => ⟨(h.org hk).1, (h.org hk).2.1⟩
theorem StAt.keepM {w w' : World} {S M n M2 : Nat} {f : Sf} (h : StAt w S M n f) (hF : Fr (fun j => j = M2) w w') (hm : ∃ es cl, w.heap[M2]? = some (.map es cl)) (hne : ¬ M = M2) : StAt w' S M n f := by
  have hS : ¬ S = M2 := fun e => by
    obtain ⟨es, cl, hb⟩ := hm
    have := h.p
    rw [e, hb] at this
    cases this
  exact ⟨(hF.block S (block_lt h.p) hS).trans h.p, h.m.keep hF hne, fun k r u hk => by
    obtain ⟨h1, h2, h3, h4⟩ := h.v k r u hk
    exact ⟨h1, h2, h3.keepM hF hm (by omega) (fun _ => rfl), h4⟩⟩
theorem FrRec.keepM {w w' w'' : World} {x : Rc × Value} {M2 : Nat} (h : FrRec w w' x) (hF : Fr (fun j => j = M2) w' w'') (hm : ∃ es cl, w'.heap[M2]? = some (.map es cl)) : FrRec w w'' x :=
  h.fr hF (fun g cur hg e => by
    obtain ⟨es, cl, hb⟩ := hm
    rw [e, hb] at hg
    cases hg)
end Go.Proofs.Ytpdpdhnllmlfdaa
namespace Go.Proofs.Ytpdpdhnllmlfdaa
open Go.RowKit Go.Maps

theorem SlAt.some20 {α : Type} {cs : α → List Value} {sz : Nat} {w : World} {a : Option Addr} {n cap : Nat} {l : List α} (h : SlAt cs sz w (.slice a n cap) l) (k : Nat) : SlAt cs sz w (.slice a (l.take k).length cap) (l.take k) := by
  obtain ⟨a', cap', e, h0, h1, h2⟩ := h
  cases e
  have hk : (l.take k).length ≤ l.length := by rw [List.length_take]; omega
  refine ⟨_, _, rfl, by omega, by omega, fun hp => ?_⟩
  obtain ⟨bk, o, rfl, h3, h4⟩ := h2 (by omega)
  refine ⟨bk, o, rfl, h3, fun j x hx i u hu => h4 j x ?_ i u hu⟩
  rw [List.getElem?_take] at hx
  split at hx
  · exact hx
  · cases hx
def cut20 (r : Rc) : Rc := { r with adjs := r.adjs.take 20 }
set_option maxRecDepth 100000 in
set_option maxHeartbeats 2000000 in
theorem owned_any {r : Rc} {va : Value} {w : World} (hv : SlAt ac 2 w va r.adjs) (hn : NilOk va) :
    Calls Try.prog 6 #[recV r va] w fun e w' => CpAns w w' (cut20 r) e ∧ Below w.heap.size w w' := by
  obtain ⟨W1, hW1⟩ : ∃ W1, (w.alloc (recO r va)).alloc zeroO = W1 := ⟨_, rfl⟩
  have b1 : Below w.heap.size w W1 := by rw [← hW1]; exact ((Below.refl _ w).alloc (Nat.le_refl _) _).alloc (by simp) _
  have hX : W1.heap[w.heap.size]? = some (recO r va) := by rw [← hW1, Below.heap_alloc _ _ _ (by simp)]; exact heap_alloc_last w _
  have hY : W1.heap[w.heap.size + 1]? = some zeroO := by
    rw [← hW1]
    have := heap_alloc_last (w.alloc (recO r va)) zeroO
    rw [World.size_alloc] at this
    exact this
  obtain ⟨aa, acap, rfl, hal, hac, hq⟩ := hv.ads
  have hm20 : (r.adjs.take 20).length ≤ 20 ∧ (r.adjs.take 20).length ≤ r.adjs.length ∧ (if (20 : Int) < (r.adjs.length : Int) then (20 : Int) else (r.adjs.length : Int)) = ((r.adjs.take 20).length : Int) := by
    rw [List.length_take]
    refine ⟨by omega, by omega, ?_⟩
    split <;> omega
  have hv1 := (hv.keep b1 (Nat.le_refl _)).some20 20
  have hnil1 : (∃ a n c, Value.slice aa (r.adjs.take 20).length acap = .slice (some a) n c) ∨ (Value.slice aa (r.adjs.take 20).length acap = .slice none 0 0 ∧ r.adjs.take 20 = []) := by
    rcases hn with ⟨a, n, c, h⟩ | h
    · cases h
      exact .inl ⟨_, _, _, rfl⟩
    · simp at h
      obtain ⟨rfl, h1, rfl⟩ := h
      have : r.adjs = [] := h1
      rw [this]
      exact .inr ⟨rfl, rfl⟩
  obtain ⟨v1, w6, hrun1, hrow1, hb6, _⟩ := append_all (P := Try.prog) (cs := ac) (sz := 2) (T := 26) (fun _ => rfl) (fun _ => by simp [Value.oneCell']) Try.underlying26 infoAdj rfl (by decide) (W := W1) (base := W1.heap.size) (k := 0) (u := .slice none 0 0) (l := []) (World.ownsRow_nil _ _ _ _) hv1 (by have := hm20.1; omega) (by have := hm20.1; unfold maxLen; omega) (Nat.le_refl _) (hnil1.imp id fun h => ⟨h.1, rfl⟩)
  rw [Nat.zero_add, List.nil_append] at hrow1
  have hlt1 : w.heap.size + 1 < W1.heap.size := block_lt hY
  have hX6 := (hb6.block _ (block_lt hX)).trans hX
  have hY6 := (hb6.block _ (block_lt hY)).trans hY
  have hbw := b1.trans (hb6.mono b1.size)
  obtain ⟨xa, xcap, rfl⟩ := row_shape hrow1
  obtain ⟨W7, hW7⟩ : ∃ W7, w6.setCell ⟨w.heap.size, 5, none⟩ (.slice xa (r.adjs.take 20).length xcap) = W7 := ⟨_, rfl⟩
  have hF7 : Fr (fun k => k ≤ w.heap.size + 1) w6 W7 := by rw [← hW7]; exact (Fr.refl (fun k => k ≤ w.heap.size + 1) w6).set (p := ⟨w.heap.size, 5, none⟩) (Nat.le_succ _) _
  have hX7 : W7.heap[w.heap.size]? = some (recO r (.slice xa (r.adjs.take 20).length xcap)) := by
    rw [← hW7]
    have := heap_setCell_same w6 w.heap.size 5 _ _ (.slice xa (r.adjs.take 20).length xcap) hX6
    simpa using this
  have hY7 : W7.heap[w.heap.size + 1]? = some zeroO := by rw [← hW7]; exact (Below.heap_setCell _ _ _ _ (by show w.heap.size + 1 ≠ w.heap.size; omega)).trans hY6
  have hb7 : Below w.heap.size w W7 := by rw [← hW7]; exact hbw.setCell (p := ⟨w.heap.size, 5, none⟩) (Nat.le_refl _) _
  have HR2 := hidIn hrow1
  have HX7 := hidIn hX7
  have HY7 := hidIn hY7
  have HB7 := hidIn hb7
  have HF7 := hidIn hF7
  have HW := hidIn hW1
  have HW7 := hidIn hW7
  have HRun1 := hidIn hrun1
  have Hlt := hidIn hlt1
  obtain ⟨O, E, Q, C, I, L⟩ := r
  have a5 := cell_of_row _ _ 5 _ _ _ hX
  have k5 := cell_of_row _ _ 5 _ _ _ hX6
  simp at a5 k5
  have f5 := frozen_new hX6 5
  simp only at HR2 HX7 HW HW7 HRun1 hal hac hm20 ⊢
  obtain ⟨m, hm⟩ : ∃ m, (L.take 20).length = m := ⟨_, rfl⟩
  obtain ⟨n, hnl⟩ : ∃ n, L.length = n := ⟨_, rfl⟩
  rw [hm] at HX7 HW7 HRun1 hm20 HR2
  rw [hnl] at HW hal hac a5 k5 hm20 ⊢
  obtain ⟨hm1, hm2, hmin⟩ := hm20
  have Hm := hidIn hm
  have hmi : (m : Int) ≤ (acap : Int) := by omega
  have hmn : (m : Int) ≤ (n : Int) := by omega
  clear hW1 b1 hX hY hrun1 hrow1 hb6 hX6 hY6 hbw hW7 hF7 hX7 hY7 hb7 hv hn hnl hq hv1 hnil1 hm hlt1
  go_enter Try.func6, Try.ntmps6
  go_upto_region 1 with fail
  rw [show (w.alloc _).alloc _ = W1 from HW.out]
  clear HW
  go_upto_region 3 with (first | (refine l_append rfl _ _ 26 rfl HRun1.out ?_))
  rw [HW7.out]
  clear HW7 HRun1 a5 k5 f5
  have x0 := cell_of_row _ _ 0 _ _ _ HX7.out
  have x1 := cell_of_row _ _ 1 _ _ _ HX7.out
  have x2 := cell_of_row _ _ 2 _ _ _ HX7.out
  have x3 := cell_of_row _ _ 3 _ _ _ HX7.out
  have x4 := cell_of_row _ _ 4 _ _ _ HX7.out
  have x5 := cell_of_row _ _ 5 _ _ _ HX7.out
  have y0 := cell_of_row _ _ 0 _ _ _ HY7.out
  have y1 := cell_of_row _ _ 1 _ _ _ HY7.out
  have y2 := cell_of_row _ _ 2 _ _ _ HY7.out
  have y3 := cell_of_row _ _ 3 _ _ _ HY7.out
  have y4 := cell_of_row _ _ 4 _ _ _ HY7.out
  have y5 := cell_of_row _ _ 5 _ _ _ HY7.out
  have g0 := frozen_new HY7.out 0
  have g1 := frozen_new HY7.out 1
  have g2 := frozen_new HY7.out 2
  have g3 := frozen_new HY7.out 3
  have g4 := frozen_new HY7.out 4
  have g5 := frozen_new HY7.out 5
  simp at x0 x1 x2 x3 x4 x5 y0 y1 y2 y3 y4 y5
  go_wp2_with fail
  have hV := set6 (.int .i64 O) (.int .u32 E) (.int .u32 Q) (.int .i64 C) (.bool I) (.slice xa m xcap) HY7.out
  have hFV := fr6 (S := fun k => k ≤ w.heap.size + 1) HF7.out (Nat.le_refl _) (.int .i64 O) (.int .u32 E) (.int .u32 Q) (.int .i64 C) (.bool I) (.slice xa m xcap)
  have hF2 := fr6 (S := fun k => k = w.heap.size + 1) (Fr.refl _ W7) rfl (.int .i64 O) (.int .u32 E) (.int .u32 Q) (.int .i64 C) (.bool I) (.slice xa m xcap)
  have HBV := hidIn (HB7.out.trans (hF2.below HB7.out.size (fun k hk => by omega)))
  have HRV := hidIn (row_fr HR2.out hFV (fun j hj e => by have := (HR2.out.lt j hj).1; have := Hlt.out; omega))
  clear hFV hF2
  generalize (((((World.setCell _ _ _).setCell _ _).setCell _ _).setCell _ _).setCell _ _).setCell _ _ = Z at hV HBV HRV ⊢
  clear x0 x1 x2 x3 x4 x5 y0 y1 y2 y3 y4 y5 g0 g1 g2 g3 g4 g5
  have e0 := cell_of_row _ _ 0 _ _ _ hV
  have e1 := cell_of_row _ _ 1 _ _ _ hV
  have e2 := cell_of_row _ _ 2 _ _ _ hV
  have e3 := cell_of_row _ _ 3 _ _ _ hV
  have e4 := cell_of_row _ _ 4 _ _ _ hV
  have e5 := cell_of_row _ _ 5 _ _ _ hV
  simp at e0 e1 e2 e3 e4 e5
  refine bodyPost_ret (v := .agg #[.int .i64 O, .int .u32 E, .int .u32 Q, .int .i64 C, .bool I, .slice xa m xcap]) (by simp [results, Try.results6, asAddr, Result.andThen, go_sem, e0, e1, e2, e3, e4, e5]) rfl ⟨⟨xa, xcap, by show _ = Ending.returned (recV _ (.slice xa (L.take 20).length xcap)); rw [Hm.out]; rfl, ?_, ?_, ?_⟩, HBV.out⟩
  · show SlAt ac 2 Z (.slice xa (L.take 20).length xcap) (L.take 20)
    rw [Hm.out]
    exact slAt_of_row (cs := ac) (fun _ => rfl) HRV.out Hm.out
  · show NilOk (.slice xa (L.take 20).length xcap)
    rw [Hm.out]
    rcases HRV.out.2 with ⟨h, _⟩ | ⟨g', c', cur, h, _⟩
    · exact .inr h
    · exact .inl ⟨_, _, _, h⟩
  · intro p hp
    rcases HRV.out.2 with ⟨h, _⟩ | ⟨g', c', cur, h, h2, h3, _⟩
    · rw [hp] at h; simp at h
    · rw [hp] at h
      simp at h
      exact ⟨g', h.1, by have := Hlt.out; omega, cur, h3⟩
end Go.Proofs.Ytpdpdhnllmlfdaa
namespace Go.Proofs.Ytpdpdhnllmlfdaa.Wi
open Go.RowKit

theorem ext_bytes' {a b : ByteArray} (h : a.data.toList = b.data.toList) : a = b := by
  cases a; cases b; simp at h; simp [h]
theorem str_app (b : ByteArray) (l m : List Int) : b ++ strOfNums l ++ strOfNums m = b ++ strOfNums (l ++ m) := by
  apply ext_bytes'
  simp [strOfNums_data]
theorem str_nil (b : ByteArray) : b ++ strOfNums [] = b := by
  apply ext_bytes'
  simp [strOfNums_data]
theorem conv_one (W : World) (x : Int) (T : TypeId) : (convert 123 9 (.slice (some ⟨W.heap.size, 0, none⟩) 1 1)).run Try.prog (W.alloc (.cells #[.int .u8 x] T)) = .ok (.string (strOfNums [x])) (W.alloc (.cells #[.int .u8 x] T)) := by
  refine run_convert_bytes_arg _ 123 5 Try.underlying123 Try.underlying5 W.heap.size 0 1 1 [x] rfl (fun i hi => ?_) 9 Try.underlying9
  obtain rfl : i = 0 := by omega
  simp

/-- A number laid in n bytes, the highest first. -/
def layD (v : Nat) : Nat → List Int
  | 0 => []
  | m + 1 => ((v / 2 ^ (8 * m) % 256 : Nat) : Int) :: layD v m
theorem layD_len (v n : Nat) : (layD v n).length = n := by
  induction n with
  | zero => rfl
  | succ n ih => simp [layD, ih]
theorem layN_layD (v n : Nat) (hn : n = 1 ∨ n = 2 ∨ n = 4 ∨ n = 8) : layN v n = layD v n := by
  rcases hn with rfl | rfl | rfl | rfl <;> simp [layN, layD, List.range_succ]
end Go.Proofs.Ytpdpdhnllmlfdaa.Wi
namespace Go.Proofs.Ytpdpdhnllmlfdaa.Wi
open Go.RowKit

end Go.Proofs.Ytpdpdhnllmlfdaa.Wi
namespace Go.Proofs.Ytpdpdhnllmlfdaa
open Go.RowKit

theorem drt_any (n : Int) (w : World) : Calls Try.prog 52 #[.int .i64 n] w fun e w' => e = .returned (.bool (isR n)) ∧ w' = w := by
  by_cases h1 : 1 ≤ n
  · by_cases h2 : n ≤ 24
    · go_enter Try.func52, Try.ntmps52
      go_wp2
      go_ret
      exact ⟨by simp [isR, h1, h2], rfl⟩
    · go_enter Try.func52, Try.ntmps52
      go_wp2
      go_ret
      exact ⟨by simp [isR, h1]; omega, rfl⟩
  · go_enter Try.func52, Try.ntmps52
    go_wp2
    go_ret
    exact ⟨by simp [isR]; omega, rfl⟩
set_option maxHeartbeats 1000000 in
theorem dmayS_any (o e s : Int) (w : World) : Calls Try.prog 46 #[stV o e s] w fun r w' => r = .returned (.bool (mayS o e s)) ∧ Below w.heap.size w w' := by
  have hb0 : Below w.heap.size w (w.alloc (stO o e s)) := (Below.refl _ w).alloc (Nat.le_refl _) _
  go_enter Try.func46, Try.ntmps46
  go_wp2_with fail
  refine (drt_any o _).mono ?_
  rintro e' w2 ⟨rfl, hw2⟩
  rw [hw2]
  clear hw2 w2
  obtain ⟨b1, hb1⟩ : ∃ b1, isR o = b1 := ⟨_, rfl⟩
  have Hb1 := hidIn hb1
  rw [hb1]
  clear hb1
  cases b1
  · go_wp2_with fail
    go_ret
    exact ⟨by simp [mayS, Hb1.out], hb0⟩
  by_cases h1 : 0 < e
  · by_cases h2 : 0 < s
    · go_wp2_with fail
      go_ret
      exact ⟨by simp [mayS, Hb1.out, h1, h2], hb0⟩
    · go_wp2_with fail
      go_ret
      exact ⟨by simp [mayS, Hb1.out]; omega, hb0⟩
  · go_wp2_with fail
    go_ret
    exact ⟨by simp [mayS, Hb1.out]; omega, hb0⟩
/-- Numbers laid behind one another. -/
abbrev uc (z : Nat) : List Value := [.int .u64 (z : Nat)]
def putS (ps : List (Nat × Nat)) : ByteArray := ps.foldl (fun s p => s ++ ly p.1 p.2) ⟨#[]⟩
def flP (ps : List (Nat × Nat)) : List Nat := ps.flatMap fun p => [p.1, p.2]
theorem putS_snoc (ps : List (Nat × Nat)) (p : Nat × Nat) : putS (ps ++ [p]) = putS ps ++ ly p.1 p.2 := by simp [putS, List.foldl_append]
theorem flP_get : ∀ (ps : List (Nat × Nat)) (k : Nat) (p : Nat × Nat), ps[k]? = some p → (flP ps)[2 * k]? = some p.1 ∧ (flP ps)[2 * k + 1]? = some p.2
  | [], k, p, h => by simp at h
  | q :: ps, 0, p, h => by simp at h; subst h; exact ⟨rfl, rfl⟩
  | q :: ps, k + 1, p, h => by
    have := flP_get ps k p (by simpa using h)
    have e : flP (q :: ps) = q.1 :: q.2 :: flP ps := by simp [flP]
    rw [e, show 2 * (k + 1) = 2 * k + 1 + 1 from by omega]
    simpa using this
theorem flP_len (ps : List (Nat × Nat)) : (flP ps).length = 2 * ps.length := by
  induction ps with
  | nil => rfl
  | cons q ps ih =>
    have e : flP (q :: ps) = q.1 :: q.2 :: flP ps := by simp [flP]
    rw [e]
    simp [ih]
    omega
theorem putS_size : ∀ (ps : List (Nat × Nat)), (∀ p ∈ ps, NumB p.1 p.2) → ∀ k, (putS (ps.take k)).size ≤ 4 * k := by
  intro ps h k
  induction k with
  | zero => exact Nat.le_refl 0
  | succ k ih =>
    by_cases hk : k < ps.length
    · rw [List.take_succ_eq_append_getElem hk, putS_snoc, app_size, ly_size]
      have := h ps[k] (List.getElem_mem hk)
      unfold NumB at this
      omega
    · rw [List.take_of_length_le (by omega)] at ih ⊢
      omega
set_option maxHeartbeats 1000000 in
theorem dnewer_any (e q f r : Nat) (he : e < 4294967296) (hq : q < 4294967296) (hf : f < 4294967296) (hr : r < 4294967296) (o' p' : Int) (w : World) : Calls Try.prog 35 #[stV o' e q, stV p' f r] w fun x w' => x = .returned (.int .i64 (newI e q f r)) ∧ Below w.heap.size w w' := by
  obtain ⟨res, hres⟩ : ∃ res, newI (e : Int) (q : Int) (f : Int) (r : Int) = res := ⟨_, rfl⟩
  rw [hres]
  have Hres := hidIn hres
  clear hres
  by_cases h1 : (e : Int) * 4294967296 + q < (f : Int) * 4294967296 + r
  · have HV : Hid (res = -1) := hidIn (by rw [← Hres.out]; exact (newI_low _ _ _ _).2 (by omega))
    go_enter Try.func35, Try.ntmps35
    go_wp2_with fail
    go_ret
    exact ⟨by rw [HV.out]; rfl, by go_grown⟩
  by_cases h2 : (f : Int) * 4294967296 + r < (e : Int) * 4294967296 + q
  · have HV : Hid (res = 1) := hidIn (by rw [← Hres.out]; exact (newI_pos _ _ _ _).2 (by omega))
    go_enter Try.func35, Try.ntmps35
    go_wp2_with fail
    go_ret
    exact ⟨by rw [HV.out]; rfl, by go_grown⟩
  · have HV : Hid (res = 0) := hidIn (by rw [← Hres.out]; exact (newI_zero _ _ _ _).2 (by omega))
    go_enter Try.func35, Try.ntmps35
    go_wp2_with fail
    go_ret
    exact ⟨by rw [HV.out]; rfl, by go_grown⟩
end Go.Proofs.Ytpdpdhnllmlfdaa
namespace Go.Proofs.Ytpdpdhnllmlfdaa
open Go.RowKit

theorem drtB_any (n : Int) (w : World) : Calls Try.prog 52 #[.int .i64 n] w fun e w' => e = .returned (.bool (isR n)) ∧ Below w.heap.size w w' := (drt_any n w).mono fun _ _ h => ⟨h.1, by rw [h.2]; exact Below.refl _ _⟩
def lastA (l : List (Int × Int)) : Nat → Int
  | 0 => 0
  | k + 1 => (l[k]?.getD (0, 0)).1
theorem rec_no1 {r : Rc} (h : isR r.origin = false) : recOk r = false := by simp [recOk, h]
theorem rec_rest {r : Rc} (h1 : isR r.origin = true) (h2 : 0 < r.epoch) (h3 : 0 < r.seq) (h4 : 0 ≤ r.claim) (h5 : r.claim ≤ 1024) (h6 : r.adjs.length ≤ 16) : recOk r = adjsOk r.origin 0 r.adjs := by simp [recOk, h1, h2, h3, h4, h5, h6]

set_option maxRecDepth 100000 in
set_option maxHeartbeats 2000000 in
theorem dcheck_any {r : Rc} {va : Value} {w : World} (hv : SlAt ac 2 w va r.adjs) (hep : 0 ≤ r.epoch) (hse : 0 ≤ r.seq) :
    Calls Try.prog 34 #[recV r va] w fun e w' => e = .returned (.int .i64 (ckN r)) ∧ Below w.heap.size w w' := by
  obtain ⟨orig, epo, sq, cl, ig, as'⟩ := r
  simp only at hv hep hse ⊢
  obtain ⟨a, cap, rfl, hl, _, hat⟩ := hv.ads
  have Ha := hidIn hat
  clear hat hv
  obtain ⟨W1, hW1⟩ : ∃ W1, w.alloc (recO ⟨orig, epo, sq, cl, ig, as'⟩ (.slice a as'.length cap)) = W1 := ⟨_, rfl⟩
  have bA : Below w.heap.size w W1 := by rw [← hW1]; exact (Below.refl _ w).alloc (Nat.le_refl _) _
  have hGB : W1.heap[w.heap.size]? = some (recO ⟨orig, epo, sq, cl, ig, as'⟩ (.slice a as'.length cap)) := by rw [← hW1]; exact heap_alloc_last w _
  have hlt0 := block_lt hGB
  have HF : Hid (∀ wq, Below W1.heap.size W1 wq → (wq.cell? ⟨w.heap.size, 0, none⟩ = some (.int .i64 orig) ∧ wq.cell? ⟨w.heap.size, 5, none⟩ = some (.slice a as'.length cap)) ∧ Below w.heap.size w wq) := hidIn fun wq h => by
    have j0 := (h.block _ hlt0).trans hGB
    exact ⟨⟨cell_of_row _ _ 0 _ _ _ j0, cell_of_row _ _ 5 _ _ _ j0⟩, bA.trans (h.mono bA.size)⟩
  have g0 : W1.cell? ⟨w.heap.size, 0, none⟩ = some (.int .i64 orig) := cell_of_row _ _ 0 _ _ _ hGB
  have g1 : W1.cell? ⟨w.heap.size, 1, none⟩ = some (.int .u32 epo) := cell_of_row _ _ 1 _ _ _ hGB
  have g2 : W1.cell? ⟨w.heap.size, 2, none⟩ = some (.int .u32 sq) := cell_of_row _ _ 2 _ _ _ hGB
  have g3 : W1.cell? ⟨w.heap.size, 3, none⟩ = some (.int .i64 cl) := cell_of_row _ _ 3 _ _ _ hGB
  have g5 : W1.cell? ⟨w.heap.size, 5, none⟩ = some (.slice a as'.length cap) := cell_of_row _ _ 5 _ _ _ hGB
  have HW := hidIn hW1
  have HB1 := hidIn bA
  clear hW1 bA hGB
  go_enter Try.func34, Try.ntmps34
  go_upto_region 1 with fail
  rw [HW.out]
  clear HW
  go_wp2_with fail
  refine (drtB_any orig W1).mono ?_
  rintro e w2 ⟨rfl, hb2⟩
  have HB2 := hidIn hb2
  have g0 := (hb2.cell (p := ⟨w.heap.size, 0, none⟩) hlt0).trans g0
  have g1 := (hb2.cell (p := ⟨w.heap.size, 1, none⟩) hlt0).trans g1
  have g2 := (hb2.cell (p := ⟨w.heap.size, 2, none⟩) hlt0).trans g2
  have g3 := (hb2.cell (p := ⟨w.heap.size, 3, none⟩) hlt0).trans g3
  have g5 := (hb2.cell (p := ⟨w.heap.size, 5, none⟩) hlt0).trans g5
  have HBW2 := hidIn (HF.out w2 HB2.out).2
  clear hb2
  obtain ⟨b1, hb1⟩ : ∃ b1, isR orig = b1 := ⟨_, rfl⟩
  have Hb1 := hidIn hb1
  rw [hb1]
  clear hb1
  cases b1
  · go_wp2_with fail
    go_ret
    exact ⟨by unfold ckN; rw [rec_no1 Hb1.out]; rfl, HBW2.out⟩
  by_cases he0 : epo = 0
  · have hq : (epo == 0) = true := by simpa using he0
    have He := hidIn he0
    clear he0
    go_wp2_with fail
    go_ret
    exact ⟨by unfold ckN; rw [show recOk ⟨orig, epo, sq, cl, ig, as'⟩ = false by simp [recOk, He.out]]; rfl, HBW2.out⟩
  have hqe : (epo == 0) = false := by simpa using he0
  by_cases hs0 : sq = 0
  · have hq : (sq == 0) = true := by simpa using hs0
    have He := hidIn hs0
    clear hs0
    go_wp2_with fail
    go_ret
    exact ⟨by unfold ckN; rw [show recOk ⟨orig, epo, sq, cl, ig, as'⟩ = false by simp [recOk, He.out]]; rfl, HBW2.out⟩
  have hqs : (sq == 0) = false := by simpa using hs0
  by_cases hc0 : cl < 0
  · go_wp2_with fail
    go_ret
    exact ⟨by unfold ckN; rw [show recOk ⟨orig, epo, sq, cl, ig, as'⟩ = false by simp [recOk]; intro _ _ _ h; omega]; rfl, HBW2.out⟩
  by_cases hc1 : 1024 < cl
  · go_wp2_with fail
    go_ret
    exact ⟨by unfold ckN; rw [show recOk ⟨orig, epo, sq, cl, ig, as'⟩ = false by simp [recOk]; intro _ _ _ _ h; omega]; rfl, HBW2.out⟩
  by_cases h16 : as'.length ≤ 16
  · have h16' : ¬ (16 : Int) < (as'.length : Int) := by omega
    have HG : Hid (recOk ⟨orig, epo, sq, cl, ig, as'⟩ = adjsOk orig 0 as') := hidIn (rec_rest Hb1.out (by show 0 < epo; omega) (by show 0 < sq; omega) (by show 0 ≤ cl; omega) (by show cl ≤ 1024; omega) h16)
    go_wp2_with fail
    clear g0 g1 g2 g3 g5
    go_loopw [3] (fun i wr => ∃ k : Nat, k ≤ as'.length ∧ i = .int .i64 k ∧ Hid (Below W1.heap.size W1 wr ∧ adjsOk orig 0 as' = adjsOk orig (lastA as' k) (as'.drop k))) (fun i _ => as'.length - (intOf i).toNat)
    case atStart => exact ⟨0, Nat.zero_le _, rfl, hidIn ⟨HB2.out, by rw [List.drop_zero]; rfl⟩⟩
    case round =>
      obtain ⟨k, hk, rfl, HR⟩ := hrel
      obtain ⟨hbel, hrest⟩ := HR.out
      have HB := hidIn hbel
      have HE := hidIn hrest
      clear HR hbel hrest
      obtain ⟨⟨f0, f1⟩, hbw⟩ := HF.out wr HB.out
      by_cases hlt : k < as'.length
      · obtain ⟨bk, o, rfl, hbk, hcell⟩ := Ha.out (by omega)
        obtain ⟨⟨x, y⟩, hz⟩ : ∃ z, as'[k]? = some z := ⟨as'[k], List.getElem?_eq_getElem hlt⟩
        have HN : Hid (adjsOk orig 0 as' = (adjOk orig (lastA as' k) (x, y) && adjsOk orig (lastA as' (k + 1)) (as'.drop (k + 1)))) := hidIn (by rw [HE.out, drop_next hz, adjsOk, lastA, hz]; rfl)
        obtain ⟨q0, q1⟩ := hcell k _ hz
        have c0 := (hbw.cell (p := ⟨bk, o + k * 2, none⟩) hbk).trans q0
        have c1 := (hbw.cell (p := ⟨bk, o + k * 2 + 1, none⟩) hbk).trans q1
        simp only at c0 c1
        have hki : (k : Int) < (as'.length : Int) := by omega
        obtain ⟨W5, hW5⟩ : ∃ W5, wr.alloc (.cells #[.int .i64 x, .int .i64 y] 75) = W5 := ⟨_, rfl⟩
        have bA : Below wr.heap.size wr W5 := by rw [← hW5]; exact (Below.refl _ wr).alloc (Nat.le_refl _) _
        have hXB : W5.heap[wr.heap.size]? = some (.cells #[.int .i64 x, .int .i64 y] 75) := by rw [← hW5]; exact heap_alloc_last wr _
        have x0 : W5.cell? ⟨wr.heap.size, 0, none⟩ = some (.int .i64 x) := cell_of_row _ _ 0 _ _ _ hXB
        have x1 : W5.cell? ⟨wr.heap.size, 1, none⟩ = some (.int .i64 y) := cell_of_row _ _ 1 _ _ _ hXB
        have HB5 := hidIn (HB.out.trans (bA.mono HB.out.size))
        obtain ⟨⟨e0, e5⟩, hbw5⟩ := HF.out W5 HB5.out
        have r0 := cell_regrown x0
        have r1 := cell_regrown x1
        have r2 := cell_regrown e0
        have r3 := cell_regrown e5
        have HY : Hid (0 < k → ∃ p, lastA as' k = p ∧ ∀ dd os, (Go.Sort.grow (redrawn W5 dd) os).cell? ⟨bk, o + (k - 1) * 2, none⟩ = some (.int .i64 p)) := hidIn fun h0 => by
          obtain ⟨⟨p, q⟩, hp⟩ : ∃ z, as'[k - 1]? = some z := ⟨as'[k - 1], List.getElem?_eq_getElem (by omega)⟩
          refine ⟨p, ?_, cell_regrown ((hbw5.cell (p := ⟨bk, o + (k - 1) * 2, none⟩) hbk).trans (hcell (k - 1) _ hp).1)⟩
          cases k with
          | zero => omega
          | succ j => simp only [Nat.add_sub_cancel] at hp; rw [lastA, hp]; rfl
        obtain ⟨b2, hb2⟩ : ∃ b2, isR x = b2 := ⟨_, rfl⟩
        have HRt : Hid (∀ dd os, Calls Try.prog 52 #[.int .i64 x] (Go.Sort.grow (redrawn W5 dd) os) fun e w' => e = .returned (.bool b2) ∧ Below (Go.Sort.grow (redrawn W5 dd) os).heap.size (Go.Sort.grow (redrawn W5 dd) os) w') := hidIn fun dd os => by rw [← hb2]; exact drtB_any x _
        have Hb2 := hidIn hb2
        have HW := hidIn hW5
        obtain ⟨res, hres⟩ : ∃ res, res = !adjOk orig (lastA as' k) (x, y) := ⟨_, rfl⟩
        have Hres := hidIn hres
        clear hcell q0 q1 hz hW5 bA hXB x0 x1 e0 e5 hb2 hres
        go_upto_region 7 with fail
        rw [HW.out]
        clear HW c0 c1 f0 f1 hbw
        go_cut [83] (fun x1 wx => x1 = .bool res ∧ Below W1.heap.size W1 wx)
        case first =>
          cases b2
          · refine wp_region_quiet_below (by kernel_rfl) (by kernel_rfl) ?_
            repeat (go_big_quiet_step (first | (go_at_call 52; exact Calls.regrown_of (HRt.out _ _))))
            refine wpQuiet_nil ?_
            intro _ hw'
            obtain ⟨⟨dq, osq⟩, hw''⟩ := hw'
            subst hw''
            have HB4 := hidIn (HB5.out.trans ((below_regrown W5 dq osq).mono HB5.out.size))
            generalize Go.Sort.grow (redrawn W5 dq) osq = W4 at HB4 ⊢
            clear r0 r1 r2 r3 HRt
            go_wp2_with fail
            go_meet
            refine ⟨?_, HB4.out⟩
            rw [Hres.out]
            simp [adjOk, Hb2.out]
          by_cases hxo : x = orig
          · have hq : (x == orig) = true := by simpa using hxo
            have Hxo := hidIn hxo
            clear hxo
            refine wp_region_quiet_below (by kernel_rfl) (by kernel_rfl) ?_
            repeat (go_big_quiet_step (first | (go_at_call 52; exact Calls.regrown_of (HRt.out _ _))))
            refine wpQuiet_nil ?_
            intro _ hw'
            obtain ⟨⟨dq, osq⟩, hw''⟩ := hw'
            subst hw''
            have HB4 := hidIn (HB5.out.trans ((below_regrown W5 dq osq).mono HB5.out.size))
            generalize Go.Sort.grow (redrawn W5 dq) osq = W4 at HB4 ⊢
            clear r0 r1 r2 r3 HRt
            go_wp2_with fail
            go_meet
            refine ⟨?_, HB4.out⟩
            rw [Hres.out]
            simp [adjOk, Hxo.out]
          have hqo : (x == orig) = false := by simpa using hxo
          have Hxo := hidIn hxo
          clear hxo
          by_cases hy1 : y < 1
          · have hcc : isC y = false := by simp [isC]; omega
            have Hcc := hidIn hcc
            clear hcc
            refine wp_region_quiet_below (by kernel_rfl) (by kernel_rfl) ?_
            repeat (go_big_quiet_step (first | (go_at_call 52; exact Calls.regrown_of (HRt.out _ _))))
            refine wpQuiet_nil ?_
            intro _ hw'
            obtain ⟨⟨dq, osq⟩, hw''⟩ := hw'
            subst hw''
            have HB4 := hidIn (HB5.out.trans ((below_regrown W5 dq osq).mono HB5.out.size))
            generalize Go.Sort.grow (redrawn W5 dq) osq = W4 at HB4 ⊢
            clear r0 r1 r2 r3 HRt
            go_wp2_with fail
            go_meet
            refine ⟨?_, HB4.out⟩
            rw [Hres.out]
            simp [adjOk, Hcc.out]
          have hd1 : decide (y < 1) = false := by simpa using hy1
          by_cases hy2 : 1000 < y
          · have hcc : isC y = false := by simp [isC]; omega
            have Hcc := hidIn hcc
            clear hcc
            refine wp_region_quiet_below (by kernel_rfl) (by kernel_rfl) ?_
            repeat (go_big_quiet_step (first | (go_at_call 52; exact Calls.regrown_of (HRt.out _ _))))
            refine wpQuiet_nil ?_
            intro _ hw'
            obtain ⟨⟨dq, osq⟩, hw''⟩ := hw'
            subst hw''
            have HB4 := hidIn (HB5.out.trans ((below_regrown W5 dq osq).mono HB5.out.size))
            generalize Go.Sort.grow (redrawn W5 dq) osq = W4 at HB4 ⊢
            clear r0 r1 r2 r3 HRt
            go_wp2_with fail
            go_meet
            refine ⟨?_, HB4.out⟩
            rw [Hres.out]
            simp [adjOk, Hcc.out]
          have hd2 : decide (1000 < y) = false := by simpa using hy2
          have Hcc : Hid (isC y = true) := hidIn (isC_iff.2 ⟨by omega, by omega⟩)
          cases k with
          | zero =>
            refine wp_region_quiet_below (by kernel_rfl) (by kernel_rfl) ?_
            repeat (go_big_quiet_step (first | (go_at_call 52; exact Calls.regrown_of (HRt.out _ _))))
            refine wpQuiet_nil ?_
            intro _ hw'
            obtain ⟨⟨dq, osq⟩, hw''⟩ := hw'
            subst hw''
            have HB4 := hidIn (HB5.out.trans ((below_regrown W5 dq osq).mono HB5.out.size))
            generalize Go.Sort.grow (redrawn W5 dq) osq = W4 at HB4 ⊢
            clear r0 r1 r2 r3 HRt
            go_wp2_with fail
            go_meet
            refine ⟨?_, HB4.out⟩
            rw [Hres.out]
            have h1 := isR_iff.1 Hb2.out
            have h2 : decide (lastA as' 0 < x) = true := decide_eq_true (show (0 : Int) < x by omega)
            simp only [adjOk, Hb2.out, Hcc.out, h2, Hxo.out]
            rfl
          | succ j =>
            obtain ⟨p, hp, r4⟩ := HY.out (by omega)
            simp only [Nat.add_sub_cancel] at r4
            have Hp := hidIn hp
            clear hp HY
            have wr1 : IntKind.i64.wrap ((j : Int) + 1 - 1) = (j : Int) := by rw [IntKind.wrap_i64]; omega
            have wr2 : IntKind.i64.wrap (j : Int) = (j : Int) := by rw [IntKind.wrap_i64]; omega
            have hj0 : (0 : Int) < (j : Int) + 1 := by omega
            have hj1 : (j : Int) < (as'.length : Int) := by omega
            by_cases hxp : x ≤ p
            · refine wp_region_quiet_below (by kernel_rfl) (by kernel_rfl) ?_
              repeat (go_big_quiet_step (first | (go_at_call 52; exact Calls.regrown_of (HRt.out _ _))))
              refine wpQuiet_nil ?_
              intro _ hw'
              obtain ⟨⟨dq, osq⟩, hw''⟩ := hw'
              subst hw''
              have HB4 := hidIn (HB5.out.trans ((below_regrown W5 dq osq).mono HB5.out.size))
              generalize Go.Sort.grow (redrawn W5 dq) osq = W4 at HB4 ⊢
              clear r0 r1 r2 r3 HRt r4
              go_wp2_with fail
              go_meet
              refine ⟨?_, HB4.out⟩
              rw [Hres.out]
              have h2 : decide (lastA as' (j + 1) < x) = false := by rw [Hp.out]; simp; omega
              simp [adjOk, h2]
            · have hd3 : decide (x ≤ p) = false := by simpa using hxp
              refine wp_region_quiet_below (by kernel_rfl) (by kernel_rfl) ?_
              repeat (go_big_quiet_step (first | (go_at_call 52; exact Calls.regrown_of (HRt.out _ _))))
              refine wpQuiet_nil ?_
              intro _ hw'
              obtain ⟨⟨dq, osq⟩, hw''⟩ := hw'
              subst hw''
              have HB4 := hidIn (HB5.out.trans ((below_regrown W5 dq osq).mono HB5.out.size))
              generalize Go.Sort.grow (redrawn W5 dq) osq = W4 at HB4 ⊢
              clear r0 r1 r2 r3 HRt r4
              go_wp2_with fail
              go_meet
              refine ⟨?_, HB4.out⟩
              rw [Hres.out]
              have h2 : decide (lastA as' (j + 1) < x) = true := by rw [Hp.out]; simp; omega
              simp only [adjOk, Hb2.out, Hcc.out, h2, Hxo.out]
              rfl
        case rest =>
          obtain ⟨rfl, hbc⟩ := hcut
          have HBc := hidIn hbc
          have HBWc := hidIn (HF.out wc hbc).2
          clear hbc r0 r1 r2 r3 HRt HY
          cases res
          · have HA : Hid (adjOk orig (lastA as' k) (x, y) = true) := hidIn (by have := Hres.out; simpa using this.symm)
            go_wp2_with fail
            go_roundw
            case rel =>
              refine ⟨k + 1, by omega, by go_num, hidIn ⟨HBc.out, ?_⟩⟩
              rw [HN.out, HA.out]
              rfl
            case measure => simp [intOf]; omega
          · have HA : Hid (adjOk orig (lastA as' k) (x, y) = false) := hidIn (by have := Hres.out; simpa using this.symm)
            go_wp2_with fail
            go_returns
            exact ⟨by unfold ckN; rw [HG.out, HN.out, HA.out]; rfl, HBWc.out⟩
      · have hki : ¬ ((k : Int) < (as'.length : Int)) := by omega
        have HT : Hid (recOk ⟨orig, epo, sq, cl, ig, as'⟩ = true) := hidIn (by rw [HG.out, HE.out, List.drop_eq_nil_of_le (by omega)]; rfl)
        go_wp2_with fail
        go_returns
        exact ⟨by unfold ckN; rw [HT.out]; rfl, hbw⟩
  · have h16' : (16 : Int) < (as'.length : Int) := by omega
    go_wp2_with fail
    go_ret
    exact ⟨by unfold ckN; rw [show recOk ⟨orig, epo, sq, cl, ig, as'⟩ = false by simp [recOk, h16]]; rfl, HBW2.out⟩
end Go.Proofs.Ytpdpdhnllmlfdaa
namespace Go.Proofs.Ytpdpdhnllmlfdaa
open Go.RowKit

theorem putS_two (S : ByteArray) (x y : Nat) : (S ++ ly x 1) ++ ly y 2 = S ++ putS [(x, 1), (y, 2)] := by
  apply ext_data
  simp [putS]
end Go.Proofs.Ytpdpdhnllmlfdaa
namespace Go.Proofs.Ytpdpdhnllmlfdaa
open Go.RowKit

set_option maxRecDepth 100000 in
set_option maxHeartbeats 1000000 in
theorem dstamp_any (r : Rc) (a : Option Addr) (n cap : Nat) (w : World) : Calls Try.prog 36 #[recV r (.slice a n cap)] w fun e w' => e = .returned (stV r.origin r.epoch r.seq) ∧ Below w.heap.size w w' := by
  obtain ⟨orig, epo, sq, cl, ig, as'⟩ := r
  simp only
  go_enter Try.func36, Try.ntmps36
  go_wp2_with fail
  exact bodyPost_ret (v := stV orig epo sq) (by simp [results, Try.results36, asAddr, Result.andThen, go_sem]) rfl ⟨rfl, by go_grown⟩
theorem dstamp_lit (o e q c : Int) (i : Bool) (a : Option Addr) (n cap : Nat) (w : World) : Calls Try.prog 36 #[.agg #[.int .i64 o, .int .u32 e, .int .u32 q, .int .i64 c, .bool i, .slice a n cap]] w fun r w' => r = .returned (.agg #[.int .i64 o, .int .u32 e, .int .u32 q]) ∧ Below w.heap.size w w' := dstamp_any ⟨o, e, q, c, i, []⟩ a n cap w
theorem own_last {w : World} {base g c n : Nat} {l : List (Int × Int)} (hn : l.length = n) (hrow : w.ownsRow base 75 2 (.slice (some ⟨g, 0, none⟩) (n + 1) c) (n + 1) (fl ac (l ++ [(0, 77)]))) : n + 1 ≤ c ∧ w.cell? ⟨g, n * 2 + 1, none⟩ = some (.int .i64 77) := by
  subst hn
  obtain ⟨a, cap, he, _, h2, h3⟩ := (slAt_of_row (cs := ac) (fun _ => rfl) hrow (by simp)).ads
  simp at he
  obtain ⟨rfl, rfl⟩ := he
  obtain ⟨bk, o, h4, _, h6⟩ := h3 (by simp)
  simp at h4
  obtain ⟨rfl, rfl⟩ := h4
  have h := (h6 l.length (0, 77) (by simp)).2
  simp at h2 h
  exact ⟨h2, h⟩
end Go.Proofs.Ytpdpdhnllmlfdaa
namespace Go.Proofs.Ytpdpdhnllmlfdaa
open Go.RowKit Go.Maps

/-- What the document's Put has laid so far. -/
def DpM (W wr : World) (u : Value) (L : List (Rc × Value)) (x : Rc × Value) (k : Nat) (b : Bool) : Prop := ∃ O, wr.ownsRow W.heap.size 28 6 u O.length (fl rcc O) ∧ O ++ insP x (L.drop k) b = insP x L false ∧ O.length ≤ k + b.toNat ∧ Below W.heap.size W wr
/-- What the document's Put answers. -/
def DpAns (w w' : World) (v : Value) (L : List (Rc × Value)) (x : Rc × Value) (e : Ending) : Prop :=
  (recOk x.1 = false ∧ e = .returned (.tuple #[v, .int .i64 0, .int .i64 2])) ∨
  (recOk x.1 = true ∧ ∃ old, fdR L x.1.origin = some old ∧ newI x.1.epoch x.1.seq old.1.epoch old.1.seq ≤ 0 ∧ e = .returned (.tuple #[v, .int .i64 (newI x.1.epoch x.1.seq old.1.epoch old.1.seq), .int .i64 0])) ∨
  (recOk x.1 = true ∧ (∀ old, fdR L x.1.origin = some old → 0 < newI x.1.epoch x.1.seq old.1.epoch old.1.seq) ∧ ∃ u, e = .returned (.tuple #[u, .int .i64 1, .int .i64 0]) ∧ w'.ownsRow w.heap.size 28 6 u (insP x L false).length (fl rcc (insP x L false)))
def U32 (r : Rc) : Prop := 0 ≤ r.epoch ∧ r.epoch < 4294967296 ∧ 0 ≤ r.seq ∧ r.seq < 4294967296
theorem insP_skip {L : List (Rc × Value)} {k : Nat} {x y : Rc × Value} {b : Bool} (h : L[k]? = some y) (he : y.1.origin = x.1.origin) : insP x (L.drop k) b = insP x (L.drop (k + 1)) b := by
  rw [drop_next h]
  show (if y.1.origin = x.1.origin then _ else _) = _
  rw [if_pos he]
theorem insP_over {L : List (Rc × Value)} {k : Nat} {x y : Rc × Value} {b : Bool} (h : L[k]? = some y) (he : ¬ y.1.origin = x.1.origin) (hb : ¬ (b = false ∧ x.1.origin < y.1.origin)) : insP x (L.drop k) b = y :: insP x (L.drop (k + 1)) b := by
  rw [drop_next h]
  show (if y.1.origin = x.1.origin then _ else _) = _
  rw [if_neg he, if_neg hb]
theorem insP_in {L : List (Rc × Value)} {k : Nat} {x y : Rc × Value} (h : L[k]? = some y) (he : ¬ y.1.origin = x.1.origin) (hb : x.1.origin < y.1.origin) : insP x (L.drop k) false = x :: y :: insP x (L.drop (k + 1)) true := by
  rw [drop_next h]
  show (if y.1.origin = x.1.origin then _ else _) = _
  rw [if_neg he, if_pos ⟨rfl, hb⟩]
theorem dnewI {e q f g : Int} (h1 : 0 ≤ e ∧ e < 4294967296 ∧ 0 ≤ q ∧ q < 4294967296) (h2 : 0 ≤ f ∧ f < 4294967296 ∧ 0 ≤ g ∧ g < 4294967296) (o' p' : Int) (w : World) : Calls Try.prog 35 #[stV o' e q, stV p' f g] w fun x w' => x = .returned (.int .i64 (newI e q f g)) ∧ Below w.heap.size w w' := by
  obtain ⟨e, rfl⟩ := Int.eq_ofNat_of_zero_le h1.1
  obtain ⟨q, rfl⟩ := Int.eq_ofNat_of_zero_le h1.2.2.1
  obtain ⟨f, rfl⟩ := Int.eq_ofNat_of_zero_le h2.1
  obtain ⟨g, rfl⟩ := Int.eq_ofNat_of_zero_le h2.2.2.1
  exact dnewer_any e q f g (by omega) (by omega) (by omega) (by omega) o' p' w
set_option maxRecDepth 100000 in
set_option maxHeartbeats 4000000 in
theorem dput9_any {L : List (Rc × Value)} {v : Value} {r : Rc} {va : Value} {w : World} (hR : RecsAt w v L) (hv : SlAt ac 2 w va r.adjs) (hr : U32 r) (hL : ∀ y ∈ L, U32 y.1) (hl : L.length ≤ 24) :
    Calls Try.prog 9 #[v, recV r va] w fun e w' => DpAns w w' v L (r, va) e ∧ Below w.heap.size w w' := by
  have HC : Hid (∀ wq, Below w.heap.size w wq → Calls Try.prog 34 #[recV r va] wq fun e w' => e = .returned (.int .i64 (ckN r)) ∧ Below wq.heap.size wq w') := hidIn fun wq hq => dcheck_any (hv.keep hq (Nat.le_refl _)) hr.1 hr.2.2.1
  have HG : Hid (∀ wq, Below w.heap.size w wq → Calls Try.prog 16 #[v, .int .i64 r.origin] wq fun e w' => GdAns (fdR L r.origin) e ∧ Below wq.heap.size wq w') := hidIn fun wq hq => dget_any (hR.keep hq (Nat.le_refl _)) _
  have Hr := hidIn hr
  have HL := hidIn hL
  obtain ⟨aa, cap, rfl, hq⟩ := hv
  obtain ⟨va, lcap, rfl, hl9, _, hat⟩ := hR.r.recs
  have HA := hidIn hR.a
  obtain ⟨LL, hLL⟩ : ∃ LL, L.length = LL := ⟨_, rfl⟩
  obtain ⟨nl, hnl⟩ : ∃ nl, r.adjs.length = nl := ⟨_, rfl⟩
  rw [hLL] at hat hl HG hl9 ⊢
  rw [hnl] at HC ⊢
  have Hat := hidIn hat
  have HLL := hidIn hLL
  have Hnl := hidIn hnl
  obtain ⟨ck, hck⟩ : ∃ ck, ckN r = ck := ⟨_, rfl⟩
  rw [hck] at HC
  have Hck := hidIn hck
  obtain ⟨W1, hW1⟩ : ∃ W1, w.alloc (.cells #[.int .i64 r.origin, .int .u32 r.epoch, .int .u32 r.seq, .int .i64 r.claim, .bool r.ing, .slice aa nl cap] 28) = W1 := ⟨_, rfl⟩
  have b1 : Below w.heap.size w W1 := by rw [← hW1]; exact (Below.refl _ w).alloc (Nat.le_refl _) _
  have hX : W1.heap[w.heap.size]? = some (.cells #[.int .i64 r.origin, .int .u32 r.epoch, .int .u32 r.seq, .int .i64 r.claim, .bool r.ing, .slice aa nl cap] 28) := by rw [← hW1]; exact heap_alloc_last w _
  obtain ⟨bx, hbx⟩ : ∃ bx, w.heap.size = bx := ⟨_, rfl⟩
  have Hbx := hidIn hbx
  rw [hbx] at hX
  have HW := hidIn hW1
  have Hb1 := hidIn b1
  have HX := hidIn hX
  clear hW1 b1 hX hq hat hR hr hL hLL hnl hck
  go_enter Try.func9, Try.ntmps9
  go_upto_region 1 with fail
  rw [HW.out]
  clear HW
  clear hbx
  have x0 := cell_of_row _ _ 0 _ _ _ HX.out
  have x1 := cell_of_row _ _ 1 _ _ _ HX.out
  have x2 := cell_of_row _ _ 2 _ _ _ HX.out
  have x3 := cell_of_row _ _ 3 _ _ _ HX.out
  have x4 := cell_of_row _ _ 4 _ _ _ HX.out
  have x5 := cell_of_row _ _ 5 _ _ _ HX.out
  simp at x0 x1 x2 x3 x4 x5
  go_wp2_with fail
  refine (HC.out _ Hb1.out).mono ?_
  rintro e w2 ⟨rfl, hb2⟩
  have HX2 := hidIn ((hb2.block _ (block_lt HX.out)).trans HX.out)
  have Hb2 := hidIn (Hb1.out.trans (hb2.mono Hb1.out.size))
  clear HC hb2 x0 x1 x2 x3 x4 x5 HX Hb1
  by_cases hok : recOk r = true
  · have Hok := hidIn hok
    have hck0 : ck = 0 := by rw [← Hck.out]; unfold ckN; rw [if_pos hok]
    subst hck0
    clear hok Hck
    have x0 := cell_of_row _ _ 0 _ _ _ HX2.out
    have x1 := cell_of_row _ _ 1 _ _ _ HX2.out
    have x2 := cell_of_row _ _ 2 _ _ _ HX2.out
    have x3 := cell_of_row _ _ 3 _ _ _ HX2.out
    have x4 := cell_of_row _ _ 4 _ _ _ HX2.out
    have x5 := cell_of_row _ _ 5 _ _ _ HX2.out
    simp at x0 x1 x2 x3 x4 x5
    go_wp2_with fail
    refine (HG.out _ Hb2.out).mono ?_
    rintro e w3 ⟨h3, hb3⟩
    have HX3 := hidIn ((hb3.block _ (block_lt HX2.out)).trans HX2.out)
    have Hb3 := hidIn (Hb2.out.trans (hb3.mono Hb2.out.size))
    clear HG hb3 x0 x1 x2 x3 x4 x5 HX2 Hb2
    unfold GdAns at h3
    subst h3
    obtain ⟨fo, hfo⟩ : ∃ fo, fdR L r.origin = fo := ⟨_, rfl⟩
    have Hfo := hidIn hfo
    rw [hfo]
    clear hfo
    cases fo with
    | none =>
      simp only [rOf, uOf, Option.map, Option.getD, Option.isSome, rc0]
      obtain ⟨W5, hW5⟩ : ∃ W5, w3.alloc (.cells #[.int .i64 0, .int .u32 0, .int .u32 0, .int .i64 0, .bool false, .slice none 0 0] 28) = W5 := ⟨_, rfl⟩
      have hb5 : Below w3.heap.size w3 W5 := by rw [← hW5]; exact (Below.refl _ w3).alloc (Nat.le_refl _) _
      have HB5 := hidIn (Hb3.out.trans (hb5.mono Hb3.out.size))
      have HX5 := hidIn ((hb5.block _ (block_lt HX3.out)).trans HX3.out)
      have Hnew : Hid (∀ old, fdR L r.origin = some old → 0 < newI r.epoch r.seq old.1.epoch old.1.seq) := hidIn fun old h => by rw [Hfo.out] at h; cases h
      have HW5 := hidIn hW5
      clear hb5 hW5 HX3 Hb3 Hfo
      go_wp2_with fail
      rw [HW5.out]
      clear HW5
      go_loopw [10, 11, 12] (fun u p i wr => ∃ (k : Nat) (b : Bool), k ≤ LL ∧ i = .int .i64 k ∧ p = .bool b ∧ Hid (DpM W5 wr u L (r, .slice aa nl cap) k b)) (fun _ _ i _ => LL - (intOf i).toNat)
      case atStart => exact ⟨0, false, Nat.zero_le _, rfl, rfl, hidIn ⟨[], World.ownsRow_nil _ _ _ _, by rw [List.drop_zero, List.nil_append], Nat.zero_le _, Below.refl _ _⟩⟩
      case round =>
        obtain ⟨k, b, hk, rfl, rfl, HM⟩ := hrel
        obtain ⟨O, hrow, hin, hOk, hbel⟩ := HM.out
        clear HM
        have HBr := hidIn (HB5.out.trans (hbel.mono HB5.out.size))
        have HXr := hidIn ((hbel.block _ (block_lt HX5.out)).trans HX5.out)
        have Hbel := hidIn hbel
        have HRow := hidIn hrow
        have HIn := hidIn hin
        obtain ⟨ua, ucap, rfl⟩ := row_shape hrow
        obtain ⟨On, hOn⟩ : ∃ On, O.length = On := ⟨_, rfl⟩
        rw [hOn] at hOk HRow ⊢
        have HOn := hidIn hOn
        have HOk := hidIn hOk
        have HOk1 : Hid (On ≤ 25) := hidIn (by have := Bool.toNat_le b; omega)
        clear hrow hin hbel hOn hOk
        by_cases hlt : k < LL
        · obtain ⟨bk, o, rfl, hbk, hcell⟩ := Hat.out (by omega)
          obtain ⟨⟨⟨s0, s1, s2, s3, s4, as'⟩, va⟩, hz⟩ : ∃ z, L[k]? = some z := ⟨L[k]'(by rw [HLL.out]; exact hlt), List.getElem?_eq_getElem _⟩
          have hva := HA.out _ (List.mem_of_getElem? hz)
          simp only at hva
          obtain ⟨ba, bcap, rfl, _⟩ := hva
          obtain ⟨an, han⟩ : ∃ an, as'.length = an := ⟨_, rfl⟩
          rw [han] at hz
          obtain ⟨p0, p1, p2, p3, p4, p5⟩ := hcell k _ hz
          have HZ := hidIn hz
          have HCell : Hid (∀ wq, Below w.heap.size w wq → wq.cell? ⟨bk, o + k * 6, none⟩ = some (.int .i64 s0) ∧ wq.cell? ⟨bk, o + k * 6 + 1, none⟩ = some (.int .u32 s1) ∧ wq.cell? ⟨bk, o + k * 6 + 2, none⟩ = some (.int .u32 s2) ∧ wq.cell? ⟨bk, o + k * 6 + 3, none⟩ = some (.int .i64 s3) ∧ wq.cell? ⟨bk, o + k * 6 + 4, none⟩ = some (.bool s4) ∧ wq.cell? ⟨bk, o + k * 6 + 5, none⟩ = some (.slice ba an bcap)) := hidIn fun wq hq =>
            ⟨(hq.cell (p := ⟨bk, o + k * 6, none⟩) hbk).trans p0, (hq.cell (p := ⟨bk, o + k * 6 + 1, none⟩) hbk).trans p1, (hq.cell (p := ⟨bk, o + k * 6 + 2, none⟩) hbk).trans p2, (hq.cell (p := ⟨bk, o + k * 6 + 3, none⟩) hbk).trans p3, (hq.cell (p := ⟨bk, o + k * 6 + 4, none⟩) hbk).trans p4, (hq.cell (p := ⟨bk, o + k * 6 + 5, none⟩) hbk).trans p5⟩
          have hki : (k : Int) < (LL : Int) := by omega
          clear hcell hz han p0 p1 p2 p3 p4 p5
          have c0 := (HCell.out _ HBr.out).1
          have x0 := cell_of_row _ _ 0 _ _ _ HXr.out
          simp at x0
          have kc0 := cell_regrown c0
          have kx0 := cell_regrown x0
          go_upto_region 13 with fail
          refine wp_region_quiet_below (by kernel_rfl) (by kernel_rfl) ?_
          repeat (go_big_quiet_step (fail))
          refine wpQuiet_nil ?_
          rintro _ ⟨⟨dq, osq⟩, rfl⟩
          have hbr := below_regrown wr dq osq
          generalize Go.Sort.grow (redrawn wr dq) osq = W6 at hbr ⊢
          have HB6 := hidIn (HBr.out.trans (hbr.mono HBr.out.size))
          have HX6 := hidIn ((hbr.block _ (block_lt HXr.out)).trans HXr.out)
          have Hbel6 := hidIn (Hbel.out.trans (hbr.mono Hbel.out.size))
          have HRow6 := hidIn (row_below HRow.out hbr (Nat.le_refl _))
          clear hbr
          clear c0 x0 kc0 kx0 HBr HXr Hbel HRow
          by_cases hso : s0 = r.origin
          · have h1 : (s0 == r.origin) = true := by simpa using hso
            have HO : Hid (DpM W5 W6 (.slice ua On ucap) L (r, .slice aa nl cap) (k + 1) b) := hidIn ⟨O, by rw [HOn.out]; exact HRow6.out, by rw [← insP_skip HZ.out hso]; exact HIn.out, by rw [HOn.out]; have := HOk.out; omega, Hbel6.out⟩
            clear hso
            go_wp2_with fail
            go_roundw
            case rel => exact ⟨k + 1, b, by omega, by go_num, rfl, HO⟩
            case measure => simp [intOf]; omega
          · have h1 : (s0 == r.origin) = false := by simpa using hso
            have Hso := hidIn hso
            clear hso
            have c0 := (HCell.out _ HB6.out).1
            have x0 := cell_of_row _ _ 0 _ _ _ HX6.out
            simp at x0
            have kc0 := cell_regrown c0
            have kx0 := cell_regrown x0
            cases b with
            | true =>
              go_upto_region 14 with fail
              refine wp_region_quiet_below (by kernel_rfl) (by kernel_rfl) ?_
              repeat (go_big_quiet_step (fail))
              refine wpQuiet_nil ?_
              rintro _ ⟨⟨dq, osq⟩, rfl⟩
              have hbr := below_regrown W6 dq osq
              generalize Go.Sort.grow (redrawn W6 dq) osq = W7 at hbr ⊢
              have HB7 := hidIn (HB6.out.trans (hbr.mono HB6.out.size))
              have HX7 := hidIn ((hbr.block _ (block_lt HX6.out)).trans HX6.out)
              have Hbel7 := hidIn (Hbel6.out.trans (hbr.mono Hbel6.out.size))
              have HRow7 := hidIn (row_below HRow6.out hbr (Nat.le_refl _))
              clear hbr
              clear c0 x0 kc0 kx0 HB6 HX6 Hbel6 HRow6
              have HBW := HB7
              have HbelW := Hbel7
              obtain ⟨c0, c1, c2, c3, c4, c5⟩ := HCell.out _ HBW.out
              obtain ⟨g, gcap, w9, hrun, hown, hb9, _⟩ := append_recF HRow7.out (⟨s0, s1, s2, s3, s4, as'⟩, .slice ba an bcap) rfl (by have := HOk1.out; omega) HbelW.out.size
              have HRun := hidIn hrun
              have HO : Hid (DpM W5 w9 (.slice (some ⟨g, 0, none⟩) (On + 1) gcap) L (r, .slice aa nl cap) (k + 1) true) := hidIn (by
                have hlen : (O ++ [(((⟨s0, s1, s2, s3, s4, as'⟩, .slice ba an bcap) : Rc × Value))]).length = On + 1 := by simp [HOn.out]
                refine ⟨O ++ [(⟨s0, s1, s2, s3, s4, as'⟩, .slice ba an bcap)], by rw [hlen]; exact hown, by rw [List.append_assoc, List.singleton_append, ← insP_over HZ.out Hso.out (by simp)]; exact HIn.out, by rw [hlen]; have := HOk.out; simp at this ⊢; omega, HbelW.out.trans hb9⟩)
              clear hrun hown hb9
              go_wp2_with (refine l_append rfl _ _ 22 rfl HRun.out ?_)
              go_roundw
              case rel => exact ⟨k + 1, true, by omega, by go_num, rfl, HO⟩
              case measure => simp [intOf]; omega
            | false =>
              by_cases hgt : r.origin < s0
              · have Hgt := hidIn hgt
                have hgd : decide (r.origin < s0) = true := by simpa using hgt
                go_upto_region 14 with fail
                refine wp_region_quiet_below (by kernel_rfl) (by kernel_rfl) ?_
                repeat (go_big_quiet_step (fail))
                refine wpQuiet_nil ?_
                rintro _ ⟨⟨dq, osq⟩, rfl⟩
                have hbr := below_regrown W6 dq osq
                generalize Go.Sort.grow (redrawn W6 dq) osq = W7 at hbr ⊢
                have HB7 := hidIn (HB6.out.trans (hbr.mono HB6.out.size))
                have HX7 := hidIn ((hbr.block _ (block_lt HX6.out)).trans HX6.out)
                have Hbel7 := hidIn (Hbel6.out.trans (hbr.mono Hbel6.out.size))
                have HRow7 := hidIn (row_below HRow6.out hbr (Nat.le_refl _))
                clear hbr
                clear c0 x0 kc0 kx0 HB6 HX6 Hbel6 HRow6
                have x0 := cell_of_row _ _ 0 _ _ _ HX7.out
                have x1 := cell_of_row _ _ 1 _ _ _ HX7.out
                have x2 := cell_of_row _ _ 2 _ _ _ HX7.out
                have x3 := cell_of_row _ _ 3 _ _ _ HX7.out
                have x4 := cell_of_row _ _ 4 _ _ _ HX7.out
                have x5 := cell_of_row _ _ 5 _ _ _ HX7.out
                simp at x0 x1 x2 x3 x4 x5
                obtain ⟨g1, gcap1, w8, hrun1, hown1, hb8, _⟩ := append_recF HRow7.out (r, .slice aa nl cap) rfl (by have := HOk1.out; omega) Hbel7.out.size
                have HRun1 := hidIn hrun1
                have HRow8 := hidIn hown1
                have HbelW := hidIn (Hbel7.out.trans hb8)
                have HBW := hidIn (HB5.out.trans (HbelW.out.mono HB5.out.size))
                clear hrun1 hown1 hb8
                go_upto_region 16 with (refine l_append rfl _ _ 22 rfl HRun1.out ?_)
                clear x0 x1 x2 x3 x4 x5 HRun1
                obtain ⟨c0, c1, c2, c3, c4, c5⟩ := HCell.out _ HBW.out
                obtain ⟨g, gcap, w9, hrun, hown, hb9, _⟩ := append_recF HRow8.out (⟨s0, s1, s2, s3, s4, as'⟩, .slice ba an bcap) rfl (by have := HOk1.out; omega) HbelW.out.size
                have HRun := hidIn hrun
                have HO : Hid (DpM W5 w9 (.slice (some ⟨g, 0, none⟩) ((On + 1) + 1) gcap) L (r, .slice aa nl cap) (k + 1) true) := hidIn (by
                  have hlen : ((O ++ [((r, .slice aa nl cap) : Rc × Value)]) ++ [(((⟨s0, s1, s2, s3, s4, as'⟩, .slice ba an bcap) : Rc × Value))]).length = (On + 1) + 1 := by simp [HOn.out]
                  refine ⟨(O ++ [((r, .slice aa nl cap) : Rc × Value)]) ++ [(⟨s0, s1, s2, s3, s4, as'⟩, .slice ba an bcap)], by rw [hlen]; exact hown, by rw [List.append_assoc, List.append_assoc, List.singleton_append, List.singleton_append, ← insP_in HZ.out Hso.out Hgt.out]; exact HIn.out, by rw [hlen]; have := HOk.out; simp at this ⊢; omega, HbelW.out.trans hb9⟩)
                clear hrun hown hb9
                go_wp2_with (refine l_append rfl _ _ 22 rfl HRun.out ?_)
                go_roundw
                case rel => exact ⟨k + 1, true, by omega, by go_num, rfl, HO⟩
                case measure => simp [intOf]; omega
              · have Hgt := hidIn hgt
                have hgd : decide (r.origin < s0) = false := by simpa using hgt
                go_upto_region 14 with fail
                refine wp_region_quiet_below (by kernel_rfl) (by kernel_rfl) ?_
                repeat (go_big_quiet_step (fail))
                refine wpQuiet_nil ?_
                rintro _ ⟨⟨dq, osq⟩, rfl⟩
                have hbr := below_regrown W6 dq osq
                generalize Go.Sort.grow (redrawn W6 dq) osq = W7 at hbr ⊢
                have HB7 := hidIn (HB6.out.trans (hbr.mono HB6.out.size))
                have HX7 := hidIn ((hbr.block _ (block_lt HX6.out)).trans HX6.out)
                have Hbel7 := hidIn (Hbel6.out.trans (hbr.mono Hbel6.out.size))
                have HRow7 := hidIn (row_below HRow6.out hbr (Nat.le_refl _))
                clear hbr
                clear c0 x0 kc0 kx0 HB6 HX6 Hbel6 HRow6
                have HBW := HB7
                have HbelW := Hbel7
                obtain ⟨c0, c1, c2, c3, c4, c5⟩ := HCell.out _ HBW.out
                obtain ⟨g, gcap, w9, hrun, hown, hb9, _⟩ := append_recF HRow7.out (⟨s0, s1, s2, s3, s4, as'⟩, .slice ba an bcap) rfl (by have := HOk1.out; omega) HbelW.out.size
                have HRun := hidIn hrun
                have HO : Hid (DpM W5 w9 (.slice (some ⟨g, 0, none⟩) (On + 1) gcap) L (r, .slice aa nl cap) (k + 1) false) := hidIn (by
                  have hlen : (O ++ [(((⟨s0, s1, s2, s3, s4, as'⟩, .slice ba an bcap) : Rc × Value))]).length = On + 1 := by simp [HOn.out]
                  refine ⟨O ++ [(⟨s0, s1, s2, s3, s4, as'⟩, .slice ba an bcap)], by rw [hlen]; exact hown, by rw [List.append_assoc, List.singleton_append, ← insP_over HZ.out Hso.out (fun h => Hgt.out h.2)]; exact HIn.out, by rw [hlen]; have := HOk.out; simp at this ⊢; omega, HbelW.out.trans hb9⟩)
                clear hrun hown hb9
                go_wp2_with (refine l_append rfl _ _ 22 rfl HRun.out ?_)
                go_roundw
                case rel => exact ⟨k + 1, false, by omega, by go_num, rfl, HO⟩
                case measure => simp [intOf]; omega
        · obtain rfl : k = LL := by omega
          have HEnd : Hid (O ++ insP (r, .slice aa nl cap) [] b = insP (r, .slice aa nl cap) L false) := hidIn (by have := HIn.out; rwa [← HLL.out, List.drop_length] at this)
          cases b with
          | true =>
            have HAns : Hid (wr.ownsRow w.heap.size 28 6 (.slice ua On ucap) (insP (r, .slice aa nl cap) L false).length (fl rcc (insP (r, .slice aa nl cap) L false))) := hidIn (by
              rw [← HEnd.out]
              simp only [insP, if_true, List.append_nil]
              rw [HOn.out]
              exact row_low HRow.out HB5.out.size)
            go_wp2_with fail
            go_returns
            exact ⟨.inr (.inr ⟨Hok.out, Hnew.out, _, rfl, HAns.out⟩), HBr.out⟩
          | false =>
            have x0 := cell_of_row _ _ 0 _ _ _ HXr.out
            have x1 := cell_of_row _ _ 1 _ _ _ HXr.out
            have x2 := cell_of_row _ _ 2 _ _ _ HXr.out
            have x3 := cell_of_row _ _ 3 _ _ _ HXr.out
            have x4 := cell_of_row _ _ 4 _ _ _ HXr.out
            have x5 := cell_of_row _ _ 5 _ _ _ HXr.out
            simp at x0 x1 x2 x3 x4 x5
            obtain ⟨g1, gcap1, w8, hrun1, hown1, hb8, _⟩ := append_recF HRow.out (r, .slice aa nl cap) rfl (by have := HOk1.out; omega) Hbel.out.size
            have HRun1 := hidIn hrun1
            have HAns : Hid (w8.ownsRow w.heap.size 28 6 (.slice (some ⟨g1, 0, none⟩) (On + 1) gcap1) (insP (r, .slice aa nl cap) L false).length (fl rcc (insP (r, .slice aa nl cap) L false))) := hidIn (by
              rw [← HEnd.out]
              simp only [insP, Bool.false_eq_true, if_false]
              rw [List.length_append, HOn.out]
              exact row_low hown1 HB5.out.size)
            have HB8 := hidIn (HBr.out.trans (hb8.mono HB5.out.size))
            clear hrun1 hown1 hb8
            go_wp2_with (refine l_append rfl _ _ 22 rfl HRun1.out ?_)
            go_returns
            exact ⟨.inr (.inr ⟨Hok.out, Hnew.out, _, rfl, HAns.out⟩), HB8.out⟩
    | some old =>
      obtain ⟨⟨q0, q1, q2, q3, q4, qa⟩, vo⟩ := old
      have hmem : (⟨⟨q0, q1, q2, q3, q4, qa⟩, vo⟩ : Rc × Value) ∈ L := List.mem_of_find?_eq_some Hfo.out
      have hvo := HA.out _ hmem
      have hU := HL.out _ hmem
      simp only [U32] at hvo hU
      obtain ⟨oa, ocap, rfl, _⟩ := hvo
      obtain ⟨on, hon⟩ : ∃ on, qa.length = on := ⟨_, rfl⟩
      rw [hon] at Hfo ⊢
      have HNw : Hid (∀ wq, Calls Try.prog 35 #[.agg #[.int .i64 r.origin, .int .u32 r.epoch, .int .u32 r.seq], .agg #[.int .i64 q0, .int .u32 q1, .int .u32 q2]] wq fun e w' => e = .returned (.int .i64 (newI r.epoch r.seq q1 q2)) ∧ Below wq.heap.size wq w') := hidIn fun wq => dnewI Hr.out hU _ _ wq
      obtain ⟨nn, hnn⟩ : ∃ nn, newI r.epoch r.seq q1 q2 = nn := ⟨_, rfl⟩
      rw [hnn] at HNw
      have Hnn := hidIn hnn
      clear hmem hU hon hnn
      simp only [rOf, uOf, Option.map, Option.getD, Option.isSome]
      obtain ⟨W4, hW4⟩ : ∃ W4, w3.alloc (.cells #[.int .i64 q0, .int .u32 q1, .int .u32 q2, .int .i64 q3, .bool q4, .slice oa on ocap] 28) = W4 := ⟨_, rfl⟩
      have hb4 : Below w3.heap.size w3 W4 := by rw [← hW4]; exact (Below.refl _ w3).alloc (Nat.le_refl _) _
      have HB4 := hidIn (Hb3.out.trans (hb4.mono Hb3.out.size))
      have HX4 := hidIn ((hb4.block _ (block_lt HX3.out)).trans HX3.out)
      have HY4 : Hid (W4.heap[w3.heap.size]? = some (.cells #[.int .i64 q0, .int .u32 q1, .int .u32 q2, .int .i64 q3, .bool q4, .slice oa on ocap] 28)) := hidIn (by rw [← hW4]; exact heap_alloc_last w3 _)
      have HW4 := hidIn hW4
      clear hb4 hW4 HX3 Hb3
      have x0 := cell_of_row _ _ 0 _ _ _ HX4.out
      have x1 := cell_of_row _ _ 1 _ _ _ HX4.out
      have x2 := cell_of_row _ _ 2 _ _ _ HX4.out
      have x3 := cell_of_row _ _ 3 _ _ _ HX4.out
      have x4 := cell_of_row _ _ 4 _ _ _ HX4.out
      have x5 := cell_of_row _ _ 5 _ _ _ HX4.out
      simp at x0 x1 x2 x3 x4 x5
      have z0 := cell_of_row _ _ 0 _ _ _ HY4.out
      have z1 := cell_of_row _ _ 1 _ _ _ HY4.out
      have z2 := cell_of_row _ _ 2 _ _ _ HY4.out
      have z3 := cell_of_row _ _ 3 _ _ _ HY4.out
      have z4 := cell_of_row _ _ 4 _ _ _ HY4.out
      have z5 := cell_of_row _ _ 5 _ _ _ HY4.out
      simp at z0 z1 z2 z3 z4 z5
      have kx0 := cell_regrown x0
      have kx1 := cell_regrown x1
      have kx2 := cell_regrown x2
      have kx3 := cell_regrown x3
      have kx4 := cell_regrown x4
      have kx5 := cell_regrown x5
      have kz0 := cell_regrown z0
      have kz1 := cell_regrown z1
      have kz2 := cell_regrown z2
      have kz3 := cell_regrown z3
      have kz4 := cell_regrown z4
      have kz5 := cell_regrown z5
      go_upto_region 5 with fail
      rw [HW4.out]
      clear HW4
      refine wp_region_quiet_below (by kernel_rfl) (by kernel_rfl) ?_
      repeat (go_big_quiet_step (first
        | (go_at_call 36; exact Calls.regrown_of (dstamp_lit _ _ _ _ _ _ _ _ _))
        | (go_at_call 35; exact Calls.regrown_of (HNw.out _))))
      refine wpQuiet_nil ?_
      rintro _ ⟨⟨dq, osq⟩, rfl⟩
      have hbr := below_regrown W4 dq osq
      generalize Go.Sort.grow (redrawn W4 dq) osq = W5 at hbr ⊢
      have HB5 := hidIn (HB4.out.trans (hbr.mono HB4.out.size))
      have HX5 := hidIn ((hbr.block _ (block_lt HX4.out)).trans HX4.out)
      clear hbr HB4 HX4 HY4 HNw x0 x1 x2 x3 x4 x5 z0 z1 z2 z3 z4 z5 kx0 kx1 kx2 kx3 kx4 kx5 kz0 kz1 kz2 kz3 kz4 kz5
      by_cases hle : nn ≤ 0
      · have hd : decide (nn ≤ 0) = true := by simpa using hle
        have HAns : Hid (DpAns w W5 (.slice va LL lcap) L (r, .slice aa nl cap) (.returned (.tuple #[.slice va LL lcap, .int .i64 nn, .int .i64 0]))) := hidIn (.inr (.inl ⟨Hok.out, _, Hfo.out, by show newI r.epoch r.seq q1 q2 ≤ 0; rw [Hnn.out]; exact hle, by show _ = Ending.returned (.tuple #[_, .int .i64 (newI r.epoch r.seq q1 q2), _]); rw [Hnn.out]⟩))
        go_wp2_with fail
        go_returns
        exact ⟨HAns.out, HB5.out⟩
      · have hd : decide (nn ≤ 0) = false := by simpa using hle
        have Hnew : Hid (∀ old, fdR L r.origin = some old → 0 < newI r.epoch r.seq old.1.epoch old.1.seq) := hidIn fun old h => by
          rw [Hfo.out] at h
          cases h
          show 0 < newI r.epoch r.seq q1 q2
          rw [Hnn.out]
          omega
        clear Hfo Hnn hle
        go_wp2_with fail
        go_loopw [10, 11, 12] (fun u p i wr => ∃ (k : Nat) (b : Bool), k ≤ LL ∧ i = .int .i64 k ∧ p = .bool b ∧ Hid (DpM W5 wr u L (r, .slice aa nl cap) k b)) (fun _ _ i _ => LL - (intOf i).toNat)
        case atStart => exact ⟨0, false, Nat.zero_le _, rfl, rfl, hidIn ⟨[], World.ownsRow_nil _ _ _ _, by rw [List.drop_zero, List.nil_append], Nat.zero_le _, Below.refl _ _⟩⟩
        case round =>
          obtain ⟨k, b, hk, rfl, rfl, HM⟩ := hrel
          obtain ⟨O, hrow, hin, hOk, hbel⟩ := HM.out
          clear HM
          have HBr := hidIn (HB5.out.trans (hbel.mono HB5.out.size))
          have HXr := hidIn ((hbel.block _ (block_lt HX5.out)).trans HX5.out)
          have Hbel := hidIn hbel
          have HRow := hidIn hrow
          have HIn := hidIn hin
          obtain ⟨ua, ucap, rfl⟩ := row_shape hrow
          obtain ⟨On, hOn⟩ : ∃ On, O.length = On := ⟨_, rfl⟩
          rw [hOn] at hOk HRow ⊢
          have HOn := hidIn hOn
          have HOk := hidIn hOk
          have HOk1 : Hid (On ≤ 25) := hidIn (by have := Bool.toNat_le b; omega)
          clear hrow hin hbel hOn hOk
          by_cases hlt : k < LL
          · obtain ⟨bk, o, rfl, hbk, hcell⟩ := Hat.out (by omega)
            obtain ⟨⟨⟨s0, s1, s2, s3, s4, as'⟩, va⟩, hz⟩ : ∃ z, L[k]? = some z := ⟨L[k]'(by rw [HLL.out]; exact hlt), List.getElem?_eq_getElem _⟩
            have hva := HA.out _ (List.mem_of_getElem? hz)
            simp only at hva
            obtain ⟨ba, bcap, rfl, _⟩ := hva
            obtain ⟨an, han⟩ : ∃ an, as'.length = an := ⟨_, rfl⟩
            rw [han] at hz
            obtain ⟨p0, p1, p2, p3, p4, p5⟩ := hcell k _ hz
            have HZ := hidIn hz
            have HCell : Hid (∀ wq, Below w.heap.size w wq → wq.cell? ⟨bk, o + k * 6, none⟩ = some (.int .i64 s0) ∧ wq.cell? ⟨bk, o + k * 6 + 1, none⟩ = some (.int .u32 s1) ∧ wq.cell? ⟨bk, o + k * 6 + 2, none⟩ = some (.int .u32 s2) ∧ wq.cell? ⟨bk, o + k * 6 + 3, none⟩ = some (.int .i64 s3) ∧ wq.cell? ⟨bk, o + k * 6 + 4, none⟩ = some (.bool s4) ∧ wq.cell? ⟨bk, o + k * 6 + 5, none⟩ = some (.slice ba an bcap)) := hidIn fun wq hq =>
              ⟨(hq.cell (p := ⟨bk, o + k * 6, none⟩) hbk).trans p0, (hq.cell (p := ⟨bk, o + k * 6 + 1, none⟩) hbk).trans p1, (hq.cell (p := ⟨bk, o + k * 6 + 2, none⟩) hbk).trans p2, (hq.cell (p := ⟨bk, o + k * 6 + 3, none⟩) hbk).trans p3, (hq.cell (p := ⟨bk, o + k * 6 + 4, none⟩) hbk).trans p4, (hq.cell (p := ⟨bk, o + k * 6 + 5, none⟩) hbk).trans p5⟩
            have hki : (k : Int) < (LL : Int) := by omega
            clear hcell hz han p0 p1 p2 p3 p4 p5
            have c0 := (HCell.out _ HBr.out).1
            have x0 := cell_of_row _ _ 0 _ _ _ HXr.out
            simp at x0
            have kc0 := cell_regrown c0
            have kx0 := cell_regrown x0
            go_upto_region 13 with fail
            refine wp_region_quiet_below (by kernel_rfl) (by kernel_rfl) ?_
            repeat (go_big_quiet_step (fail))
            refine wpQuiet_nil ?_
            rintro _ ⟨⟨dq, osq⟩, rfl⟩
            have hbr := below_regrown wr dq osq
            generalize Go.Sort.grow (redrawn wr dq) osq = W6 at hbr ⊢
            have HB6 := hidIn (HBr.out.trans (hbr.mono HBr.out.size))
            have HX6 := hidIn ((hbr.block _ (block_lt HXr.out)).trans HXr.out)
            have Hbel6 := hidIn (Hbel.out.trans (hbr.mono Hbel.out.size))
            have HRow6 := hidIn (row_below HRow.out hbr (Nat.le_refl _))
            clear hbr
            clear c0 x0 kc0 kx0 HBr HXr Hbel HRow
            by_cases hso : s0 = r.origin
            · have h1 : (s0 == r.origin) = true := by simpa using hso
              have HO : Hid (DpM W5 W6 (.slice ua On ucap) L (r, .slice aa nl cap) (k + 1) b) := hidIn ⟨O, by rw [HOn.out]; exact HRow6.out, by rw [← insP_skip HZ.out hso]; exact HIn.out, by rw [HOn.out]; have := HOk.out; omega, Hbel6.out⟩
              clear hso
              go_wp2_with fail
              go_roundw
              case rel => exact ⟨k + 1, b, by omega, by go_num, rfl, HO⟩
              case measure => simp [intOf]; omega
            · have h1 : (s0 == r.origin) = false := by simpa using hso
              have Hso := hidIn hso
              clear hso
              have c0 := (HCell.out _ HB6.out).1
              have x0 := cell_of_row _ _ 0 _ _ _ HX6.out
              simp at x0
              have kc0 := cell_regrown c0
              have kx0 := cell_regrown x0
              cases b with
              | true =>
                go_upto_region 14 with fail
                refine wp_region_quiet_below (by kernel_rfl) (by kernel_rfl) ?_
                repeat (go_big_quiet_step (fail))
                refine wpQuiet_nil ?_
                rintro _ ⟨⟨dq, osq⟩, rfl⟩
                have hbr := below_regrown W6 dq osq
                generalize Go.Sort.grow (redrawn W6 dq) osq = W7 at hbr ⊢
                have HB7 := hidIn (HB6.out.trans (hbr.mono HB6.out.size))
                have HX7 := hidIn ((hbr.block _ (block_lt HX6.out)).trans HX6.out)
                have Hbel7 := hidIn (Hbel6.out.trans (hbr.mono Hbel6.out.size))
                have HRow7 := hidIn (row_below HRow6.out hbr (Nat.le_refl _))
                clear hbr
                clear c0 x0 kc0 kx0 HB6 HX6 Hbel6 HRow6
                have HBW := HB7
                have HbelW := Hbel7
                obtain ⟨c0, c1, c2, c3, c4, c5⟩ := HCell.out _ HBW.out
                obtain ⟨g, gcap, w9, hrun, hown, hb9, _⟩ := append_recF HRow7.out (⟨s0, s1, s2, s3, s4, as'⟩, .slice ba an bcap) rfl (by have := HOk1.out; omega) HbelW.out.size
                have HRun := hidIn hrun
                have HO : Hid (DpM W5 w9 (.slice (some ⟨g, 0, none⟩) (On + 1) gcap) L (r, .slice aa nl cap) (k + 1) true) := hidIn (by
                  have hlen : (O ++ [(((⟨s0, s1, s2, s3, s4, as'⟩, .slice ba an bcap) : Rc × Value))]).length = On + 1 := by simp [HOn.out]
                  refine ⟨O ++ [(⟨s0, s1, s2, s3, s4, as'⟩, .slice ba an bcap)], by rw [hlen]; exact hown, by rw [List.append_assoc, List.singleton_append, ← insP_over HZ.out Hso.out (by simp)]; exact HIn.out, by rw [hlen]; have := HOk.out; simp at this ⊢; omega, HbelW.out.trans hb9⟩)
                clear hrun hown hb9
                go_wp2_with (refine l_append rfl _ _ 22 rfl HRun.out ?_)
                go_roundw
                case rel => exact ⟨k + 1, true, by omega, by go_num, rfl, HO⟩
                case measure => simp [intOf]; omega
              | false =>
                by_cases hgt : r.origin < s0
                · have Hgt := hidIn hgt
                  have hgd : decide (r.origin < s0) = true := by simpa using hgt
                  go_upto_region 14 with fail
                  refine wp_region_quiet_below (by kernel_rfl) (by kernel_rfl) ?_
                  repeat (go_big_quiet_step (fail))
                  refine wpQuiet_nil ?_
                  rintro _ ⟨⟨dq, osq⟩, rfl⟩
                  have hbr := below_regrown W6 dq osq
                  generalize Go.Sort.grow (redrawn W6 dq) osq = W7 at hbr ⊢
                  have HB7 := hidIn (HB6.out.trans (hbr.mono HB6.out.size))
                  have HX7 := hidIn ((hbr.block _ (block_lt HX6.out)).trans HX6.out)
                  have Hbel7 := hidIn (Hbel6.out.trans (hbr.mono Hbel6.out.size))
                  have HRow7 := hidIn (row_below HRow6.out hbr (Nat.le_refl _))
                  clear hbr
                  clear c0 x0 kc0 kx0 HB6 HX6 Hbel6 HRow6
                  have x0 := cell_of_row _ _ 0 _ _ _ HX7.out
                  have x1 := cell_of_row _ _ 1 _ _ _ HX7.out
                  have x2 := cell_of_row _ _ 2 _ _ _ HX7.out
                  have x3 := cell_of_row _ _ 3 _ _ _ HX7.out
                  have x4 := cell_of_row _ _ 4 _ _ _ HX7.out
                  have x5 := cell_of_row _ _ 5 _ _ _ HX7.out
                  simp at x0 x1 x2 x3 x4 x5
                  obtain ⟨g1, gcap1, w8, hrun1, hown1, hb8, _⟩ := append_recF HRow7.out (r, .slice aa nl cap) rfl (by have := HOk1.out; omega) Hbel7.out.size
                  have HRun1 := hidIn hrun1
                  have HRow8 := hidIn hown1
                  have HbelW := hidIn (Hbel7.out.trans hb8)
                  have HBW := hidIn (HB5.out.trans (HbelW.out.mono HB5.out.size))
                  clear hrun1 hown1 hb8
                  go_upto_region 16 with (refine l_append rfl _ _ 22 rfl HRun1.out ?_)
                  clear x0 x1 x2 x3 x4 x5 HRun1
                  obtain ⟨c0, c1, c2, c3, c4, c5⟩ := HCell.out _ HBW.out
                  obtain ⟨g, gcap, w9, hrun, hown, hb9, _⟩ := append_recF HRow8.out (⟨s0, s1, s2, s3, s4, as'⟩, .slice ba an bcap) rfl (by have := HOk1.out; omega) HbelW.out.size
                  have HRun := hidIn hrun
                  have HO : Hid (DpM W5 w9 (.slice (some ⟨g, 0, none⟩) ((On + 1) + 1) gcap) L (r, .slice aa nl cap) (k + 1) true) := hidIn (by
                    have hlen : ((O ++ [((r, .slice aa nl cap) : Rc × Value)]) ++ [(((⟨s0, s1, s2, s3, s4, as'⟩, .slice ba an bcap) : Rc × Value))]).length = (On + 1) + 1 := by simp [HOn.out]
                    refine ⟨(O ++ [((r, .slice aa nl cap) : Rc × Value)]) ++ [(⟨s0, s1, s2, s3, s4, as'⟩, .slice ba an bcap)], by rw [hlen]; exact hown, by rw [List.append_assoc, List.append_assoc, List.singleton_append, List.singleton_append, ← insP_in HZ.out Hso.out Hgt.out]; exact HIn.out, by rw [hlen]; have := HOk.out; simp at this ⊢; omega, HbelW.out.trans hb9⟩)
                  clear hrun hown hb9
                  go_wp2_with (refine l_append rfl _ _ 22 rfl HRun.out ?_)
                  go_roundw
                  case rel => exact ⟨k + 1, true, by omega, by go_num, rfl, HO⟩
                  case measure => simp [intOf]; omega
                · have Hgt := hidIn hgt
                  have hgd : decide (r.origin < s0) = false := by simpa using hgt
                  go_upto_region 14 with fail
                  refine wp_region_quiet_below (by kernel_rfl) (by kernel_rfl) ?_
                  repeat (go_big_quiet_step (fail))
                  refine wpQuiet_nil ?_
                  rintro _ ⟨⟨dq, osq⟩, rfl⟩
                  have hbr := below_regrown W6 dq osq
                  generalize Go.Sort.grow (redrawn W6 dq) osq = W7 at hbr ⊢
                  have HB7 := hidIn (HB6.out.trans (hbr.mono HB6.out.size))
                  have HX7 := hidIn ((hbr.block _ (block_lt HX6.out)).trans HX6.out)
                  have Hbel7 := hidIn (Hbel6.out.trans (hbr.mono Hbel6.out.size))
                  have HRow7 := hidIn (row_below HRow6.out hbr (Nat.le_refl _))
                  clear hbr
                  clear c0 x0 kc0 kx0 HB6 HX6 Hbel6 HRow6
                  have HBW := HB7
                  have HbelW := Hbel7
                  obtain ⟨c0, c1, c2, c3, c4, c5⟩ := HCell.out _ HBW.out
                  obtain ⟨g, gcap, w9, hrun, hown, hb9, _⟩ := append_recF HRow7.out (⟨s0, s1, s2, s3, s4, as'⟩, .slice ba an bcap) rfl (by have := HOk1.out; omega) HbelW.out.size
                  have HRun := hidIn hrun
                  have HO : Hid (DpM W5 w9 (.slice (some ⟨g, 0, none⟩) (On + 1) gcap) L (r, .slice aa nl cap) (k + 1) false) := hidIn (by
                    have hlen : (O ++ [(((⟨s0, s1, s2, s3, s4, as'⟩, .slice ba an bcap) : Rc × Value))]).length = On + 1 := by simp [HOn.out]
                    refine ⟨O ++ [(⟨s0, s1, s2, s3, s4, as'⟩, .slice ba an bcap)], by rw [hlen]; exact hown, by rw [List.append_assoc, List.singleton_append, ← insP_over HZ.out Hso.out (fun h => Hgt.out h.2)]; exact HIn.out, by rw [hlen]; have := HOk.out; simp at this ⊢; omega, HbelW.out.trans hb9⟩)
                  clear hrun hown hb9
                  go_wp2_with (refine l_append rfl _ _ 22 rfl HRun.out ?_)
                  go_roundw
                  case rel => exact ⟨k + 1, false, by omega, by go_num, rfl, HO⟩
                  case measure => simp [intOf]; omega
          · obtain rfl : k = LL := by omega
            have HEnd : Hid (O ++ insP (r, .slice aa nl cap) [] b = insP (r, .slice aa nl cap) L false) := hidIn (by have := HIn.out; rwa [← HLL.out, List.drop_length] at this)
            cases b with
            | true =>
              have HAns : Hid (wr.ownsRow w.heap.size 28 6 (.slice ua On ucap) (insP (r, .slice aa nl cap) L false).length (fl rcc (insP (r, .slice aa nl cap) L false))) := hidIn (by
                rw [← HEnd.out]
                simp only [insP, if_true, List.append_nil]
                rw [HOn.out]
                exact row_low HRow.out HB5.out.size)
              go_wp2_with fail
              go_returns
              exact ⟨.inr (.inr ⟨Hok.out, Hnew.out, _, rfl, HAns.out⟩), HBr.out⟩
            | false =>
              have x0 := cell_of_row _ _ 0 _ _ _ HXr.out
              have x1 := cell_of_row _ _ 1 _ _ _ HXr.out
              have x2 := cell_of_row _ _ 2 _ _ _ HXr.out
              have x3 := cell_of_row _ _ 3 _ _ _ HXr.out
              have x4 := cell_of_row _ _ 4 _ _ _ HXr.out
              have x5 := cell_of_row _ _ 5 _ _ _ HXr.out
              simp at x0 x1 x2 x3 x4 x5
              obtain ⟨g1, gcap1, w8, hrun1, hown1, hb8, _⟩ := append_recF HRow.out (r, .slice aa nl cap) rfl (by have := HOk1.out; omega) Hbel.out.size
              have HRun1 := hidIn hrun1
              have HAns : Hid (w8.ownsRow w.heap.size 28 6 (.slice (some ⟨g1, 0, none⟩) (On + 1) gcap1) (insP (r, .slice aa nl cap) L false).length (fl rcc (insP (r, .slice aa nl cap) L false))) := hidIn (by
                rw [← HEnd.out]
                simp only [insP, Bool.false_eq_true, if_false]
                rw [List.length_append, HOn.out]
                exact row_low hown1 HB5.out.size)
              have HB8 := hidIn (HBr.out.trans (hb8.mono HB5.out.size))
              clear hrun1 hown1 hb8
              go_wp2_with (refine l_append rfl _ _ 22 rfl HRun1.out ?_)
              go_returns
              exact ⟨.inr (.inr ⟨Hok.out, Hnew.out, _, rfl, HAns.out⟩), HB8.out⟩
  · have hck0 : ck = 2 := by rw [← Hck.out]; unfold ckN; rw [if_neg hok]
    subst hck0
    have Hok := hidIn hok
    clear hok
    go_wp2_with fail
    go_returns
    exact ⟨.inl ⟨by simpa using Hok.out, rfl⟩, Hb2.out⟩
end Go.Proofs.Ytpdpdhnllmlfdaa
