/- The law's step: the kinds one by one. -/
import Derived.Test.YtaldehgggilmdaaDP9
import Derived.Test.YtaldehgggilmdaaDPT
import Derived.Test.YtaldehgggilmdaaCCS
namespace Go.Proofs.Ytaldehgggilmdaa.Ca.S
open Go.RowKit Go.Maps

theorem Twin.below {w w' : World} {q cp mp p : Nat} {L : List (Tg ByteArray)} (h : Twin w q cp mp L p) (hb : Below w.heap.size w w') : Twin w' q cp mp L p := by
  obtain ⟨S, D, h1, h2, h3, h4, h5⟩ := h
  exact ⟨S, D, h1.below hb, h2.below hb, h3, fun k hk => ⟨(h4 k hk).1, Nat.lt_of_lt_of_le (h4 k hk).2 hb.size⟩, fun k hk => ⟨(h5 k hk).1, Nat.lt_of_lt_of_le (h5 k hk).2 hb.size⟩⟩
theorem below_drew (w : World) : Below w.heap.size w w.drew := ⟨rfl, rfl, rfl, Nat.le_refl _, fun _ _ => rfl⟩
theorem wfI {k : Int} (h : -9223372036854775808 ≤ k ∧ k ≤ 9223372036854775807) : IntKind.i64.wrap k = k := by rw [IntKind.wrap_i64]; omega
theorem seven_in {k m : Int} (h : k.tmod 7 = m) : -7 < m ∧ m < 7 := by
  subst h
  have h1 := Int.tmod_lt_of_pos k (show (0 : Int) < 7 by omega)
  have h2 := Int.tmod_lt_of_pos (-k) (show (0 : Int) < 7 by omega)
  rw [Int.neg_tmod] at h2
  omega
/-- Both calendars, amid a step; the block z is nobody's. -/
def Twin2 (w : World) (q z cp mp : Nat) (L : List (Tg ByteArray)) (p : Nat) (M : List (Tg ByteArray)) (o : Nat) : Prop :=
  ∃ S D : Nat → Prop, Cal w S cp L p ∧ RfAt w D mp M o ∧ (∀ k, S k → ¬ D k) ∧ (∀ k, S k → q ≤ k ∧ k < w.heap.size ∧ k ≠ z) ∧ (∀ k, D k → q ≤ k ∧ k < w.heap.size ∧ k ≠ z)
theorem Twin2.one {w : World} {q z cp mp p : Nat} {L : List (Tg ByteArray)} (h : Twin2 w q z cp mp L p L p) : Twin w q cp mp L p := by
  obtain ⟨S, D, h1, h2, h3, h4, h5⟩ := h
  exact ⟨S, D, h1, h2, h3, fun k hk => ⟨(h4 k hk).1, (h4 k hk).2.1⟩, fun k hk => ⟨(h5 k hk).1, (h5 k hk).2.1⟩⟩
theorem Twin.two {w w' : World} {q cp mp p : Nat} {L : List (Tg ByteArray)} (h : Twin w q cp mp L p) (hb : Below w.heap.size w w') : Twin2 w' q w.heap.size cp mp L p L p := by
  obtain ⟨S, D, h1, h2, h3, h4, h5⟩ := h
  have := hb.size
  exact ⟨S, D, h1.below hb, h2.below hb, h3, fun k hk => ⟨(h4 k hk).1, by have := (h4 k hk).2; omega, by have := (h4 k hk).2; omega⟩, fun k hk => ⟨(h5 k hk).1, by have := (h5 k hk).2; omega, by have := (h5 k hk).2; omega⟩⟩
/-- The program's half turned. -/
theorem Twin2.left {w w' : World} {q z cp mp p' o : Nat} {L' M : List (Tg ByteArray)} {S D : Nat → Prop} (h2 : RfAt w D mp M o) (h3 : ∀ k, S k → ¬ D k) (h4 : ∀ k, S k → q ≤ k ∧ k < w.heap.size ∧ k ≠ z) (h5 : ∀ k, D k → q ≤ k ∧ k < w.heap.size ∧ k ≠ z) (hq : q ≤ w.heap.size) (hz : z < w.heap.size)
    (hC : Cal w' (ext S w w') cp L' p') (hF : Fr S w w') : Twin2 w' q z cp mp L' p' M o ∧ Below q w w' ∧ w'.heap[z]? = w.heap[z]? := by
  have hs := hF.size
  refine ⟨⟨ext S w w', D, hC, h2.keep hF (fun k hk hs => h3 k hs hk), fun k hk hd => ?_, fun k hk => ?_, fun k hk => ⟨(h5 k hk).1, by have := (h5 k hk).2.1; omega, (h5 k hk).2.2⟩⟩, hF.below hq (fun k hk => (h4 k hk).1), hF.block z hz (fun h => (h4 z h).2.2 rfl)⟩
  · rcases hk with h | h
    · exact h3 k h hd
    · have := (h5 k hd).2.1; omega
  · rcases hk with h | h
    · exact ⟨(h4 k h).1, by have := (h4 k h).2.1; omega, (h4 k h).2.2⟩
    · exact ⟨by omega, by omega, by omega⟩
/-- The document's half turned. -/
theorem Twin2.right {w w' : World} {q z cp mp p o' : Nat} {L M' : List (Tg ByteArray)} {S D : Nat → Prop} (h1 : Cal w S cp L p) (h3 : ∀ k, S k → ¬ D k) (h4 : ∀ k, S k → q ≤ k ∧ k < w.heap.size ∧ k ≠ z) (h5 : ∀ k, D k → q ≤ k ∧ k < w.heap.size ∧ k ≠ z) (hq : q ≤ w.heap.size) (hz : z < w.heap.size)
    (hR : RfAt w' (ext D w w') mp M' o') (hF : Fr D w w') : Twin2 w' q z cp mp L p M' o' ∧ Below q w w' ∧ w'.heap[z]? = w.heap[z]? := by
  have hs := hF.size
  refine ⟨⟨S, ext D w w', h1.keep hF (fun k hk hd => h3 k hk hd), hR, fun k hk hd => ?_, fun k hk => ⟨(h4 k hk).1, by have := (h4 k hk).2.1; omega, (h4 k hk).2.2⟩, fun k hk => ?_⟩, hF.below hq (fun k hk => (h5 k hk).1), hF.block z hz (fun h => (h5 z h).2.2 rfl)⟩
  · rcases hd with h | h
    · exact h3 k hk h
    · have := (h4 k hk).2.1; omega
  · rcases hk with h | h
    · exact ⟨(h5 k h).1, by have := (h5 k h).2.1; omega, (h5 k h).2.2⟩
    · exact ⟨by omega, by omega, by omega⟩
theorem Twin2.put {w : World} {q z cp mp p o : Nat} {L M : List (Tg ByteArray)} (x : ByteArray) (at0 : Int) (h : Twin2 w q z cp mp L p M o) (hq : q ≤ w.heap.size) (hz : z < w.heap.size) (hp : p < 90000) (hl : L.length < 90000) :
    Calls Try.prog 11 #[ptr cp, .int .u64 at0, .string x] w fun e w' => e = .returned (.int .i64 ((p + 1 : Nat) : Int)) ∧ Twin2 w' q z cp mp (insL L ((x, at0), ((p + 1 : Nat) : Int))) (p + 1) M o ∧ Below q w w' ∧ w'.heap[z]? = w.heap[z]? := by
  obtain ⟨S, D, h1, h2, h3, h4, h5⟩ := h
  refine (put_ok x at0 h1 hp hl).mono ?_
  rintro e w' ⟨rfl, hC, hF⟩
  exact ⟨rfl, Twin2.left h2 h3 h4 h5 hq hz hC hF⟩
theorem Twin2.dput {w : World} {q z cp mp p o : Nat} {L M : List (Tg ByteArray)} (x : ByteArray) (at0 : Int) (h : Twin2 w q z cp mp L p M o) (ho : Ord M) (hq : q ≤ w.heap.size) (hz : z < w.heap.size) (hp : o < 90000) (hl : M.length < 90000) :
    Calls Try.prog 12 #[ptr mp, .int .u64 at0, .string x] w fun e w' => e = .returned (.int .i64 ((o + 1 : Nat) : Int)) ∧ Twin2 w' q z cp mp L p (insL M ((x, at0), ((o + 1 : Nat) : Int))) (o + 1) ∧ Below q w w' ∧ w'.heap[z]? = w.heap[z]? := by
  obtain ⟨S, D, h1, h2, h3, h4, h5⟩ := h
  have hc : ((o + 1 : Nat) : Int) = (o : Int) + 1 := by omega
  refine (dput_any (x := x) (at0 := at0) h2 (by omega) ho (by omega)).mono ?_
  rintro e w' ⟨rfl, hR, hF⟩
  rw [← hc] at hR ⊢
  exact ⟨rfl, Twin2.right h1 h3 h4 h5 hq hz hR hF⟩
theorem Twin2.drop {w : World} {q z cp mp p o : Nat} {L M : List (Tg ByteArray)} (k : Int) (hk : (Lit.int .i64 k).wf = true) (h : Twin2 w q z cp mp L p M o) (hq : q ≤ w.heap.size) (hz : z < w.heap.size) (hp : p < 90000) (hl : L.length < 90000) :
    Calls Try.prog 13 #[ptr cp, .int .i64 k] w fun e w' => e = .returned (.bool (L.any fun a => a.2 == k)) ∧ Twin2 w' q z cp mp (dropT L k) p M o ∧ Below q w w' ∧ w'.heap[z]? = w.heap[z]? := by
  obtain ⟨S, D, h1, h2, h3, h4, h5⟩ := h
  refine (drop_ok k hk h1 (by omega) (by omega)).mono ?_
  rintro e w' ⟨rfl, hC, hF⟩
  exact ⟨rfl, Twin2.left h2 h3 h4 h5 hq hz (hC.mono fun _ _ h => .inl h) hF⟩
theorem Twin2.ddrop {w : World} {q z cp mp p o : Nat} {L M : List (Tg ByteArray)} (k : Int) (h : Twin2 w q z cp mp L p M o) (ho : Ord M) (hq : q ≤ w.heap.size) (hz : z < w.heap.size) (hl : M.length < 90000) :
    Calls Try.prog 14 #[ptr mp, .int .i64 k] w fun e w' => e = .returned (.bool (M.any fun a => a.2 == k)) ∧ Twin2 w' q z cp mp L p (dropT M k) o ∧ Below q w w' ∧ w'.heap[z]? = w.heap[z]? := by
  obtain ⟨S, D, h1, h2, h3, h4, h5⟩ := h
  refine (ddrop_any h2 (by omega) ho.nd).mono ?_
  rintro e w' ⟨rfl, hR, hF⟩
  exact ⟨rfl, Twin2.right h1 h3 h4 h5 hq hz hR hF⟩
theorem Twin2.ord {w : World} {q z cp mp p o : Nat} {L M : List (Tg ByteArray)} (h : Twin2 w q z cp mp L p M o) : Ord L := by
  obtain ⟨S, D, h1, _⟩ := h
  exact h1.o
theorem Twin2.below {w w' : World} {q z cp mp p o : Nat} {L M : List (Tg ByteArray)} (h : Twin2 w q z cp mp L p M o) (hb : Below w.heap.size w w') : Twin2 w' q z cp mp L p M o := by
  obtain ⟨S, D, h1, h2, h3, h4, h5⟩ := h
  have := hb.size
  exact ⟨S, D, h1.below hb, h2.below hb, h3, fun k hk => ⟨(h4 k hk).1, by have := (h4 k hk).2.1; omega, (h4 k hk).2.2⟩, fun k hk => ⟨(h5 k hk).1, by have := (h5 k hk).2.1; omega, (h5 k hk).2.2⟩⟩
structure XDo (b : Nat) (k at0 tk : Int) (x : ByteArray) (w : World) : Prop where
  h : w.heap[b]? = some (.cells #[.int .i64 k, .int .u64 at0, .int .i64 tk, .string x] 33)
theorem XDo.cells {b : Nat} {k at0 tk : Int} {x : ByteArray} {w : World} (h : XDo b k at0 tk x w) : w.cell? ⟨b, 1, none⟩ = some (.int .u64 at0) ∧ w.cell? ⟨b, 2, none⟩ = some (.int .i64 tk) ∧ w.cell? ⟨b, 3, none⟩ = some (.string x) :=
  ⟨cell_of_row _ _ 1 _ _ _ h.h, cell_of_row _ _ 2 _ _ _ h.h, cell_of_row _ _ 3 _ _ _ h.h⟩
set_option maxRecDepth 100000 in
set_option maxHeartbeats 4000000 in
theorem lstep_5 {w : World} {q cp mp p : Nat} {L : List (Tg ByteArray)} {k m at0 tk : Int} {x : ByteArray} (h : Twin w q cp mp L p) (hq : q ≤ w.heap.size) (hp : p < 80000) (hl : L.length < 80000) (h1 : k.tmod 7 = m) (h2 : (m + 7).tmod 7 = 5) :
    Calls Try.prog 5 #[ptr cp, ptr mp, .agg #[.int .i64 k, .int .u64 at0, .int .i64 tk, .string x]] w fun e w' => e = .returned (.tuple #[ptr cp, .bool true]) ∧ Twin w' q cp mp (L.filter fun a => keptK x a.1.1) p ∧ Below q w w' := by
  obtain ⟨W1, hW1⟩ : ∃ W1, w.alloc (.cells #[.int .i64 k, .int .u64 at0, .int .i64 tk, .string x] 33) = W1 := ⟨_, rfl⟩
  have b1 : Below w.heap.size w W1 := by rw [← hW1]; exact (Below.refl _ w).alloc (Nat.le_refl _) _
  have hx := heap_alloc_last w (.cells #[.int .i64 k, .int .u64 at0, .int .i64 tk, .string x] 33)
  rw [hW1] at hx
  have hT2 := h.two b1
  have hqw : q ≤ W1.heap.size := Nat.le_trans hq b1.size
  obtain ⟨xb, hxb⟩ : ∃ b, w.heap.size = b := ⟨_, rfl⟩
  rw [hxb] at hx hT2
  have hzx := block_lt hx
  have x0 := cell_of_row _ _ 0 _ _ _ hx
  have x1 := cell_of_row _ _ 1 _ _ _ hx
  have x2 := cell_of_row _ _ 2 _ _ _ hx
  have x3 := cell_of_row _ _ 3 _ _ _ hx
  simp at x0 x1 x2 x3
  have hm := seven_in h1
  have hw1 : IntKind.i64.wrap (k.tmod 7) = m := by rw [h1]; exact wfI (by omega)
  have hw2 : IntKind.i64.wrap (m + 7) = m + 7 := wfI (by omega)
  have hw3 : IntKind.i64.wrap ((m + 7).tmod 7) = 5 := by rw [h2]; exact wfI (by omega)
  have HB := hidIn (b1.mono hq)
  have HW1 := hidIn hW1
  have HX := hidIn (XDo.mk (x := x) hx)
  have HT := hidIn (lsift_any (gone := x) hT2.one hqw (by omega) (by omega))
  clear h b1 hx hW1 hT2
  go_enter Try.func5, Try.ntmps5
  go_upto_region 1 with fail
  rw [HW1.out]
  try simp only [hxb]
  go_wp2_with (refine HT.out.mono ?_)
  rintro e w2 ⟨rfl, hT, hb⟩
  clear x0 x1 x2 x3
  go_wp2_with fail
  go_returns
  exact ⟨rfl, hT, HB.out.trans hb⟩
set_option maxRecDepth 100000 in
set_option maxHeartbeats 4000000 in
theorem lstep_0 {w : World} {q cp mp p : Nat} {L : List (Tg ByteArray)} {k m at0 tk : Int} {x : ByteArray} (h : Twin w q cp mp L p) (hq : q ≤ w.heap.size) (hp : p < 80000) (hl : L.length < 80000) (h1 : k.tmod 7 = m) (h2 : (m + 7).tmod 7 = 0) :
    Calls Try.prog 5 #[ptr cp, ptr mp, .agg #[.int .i64 k, .int .u64 at0, .int .i64 tk, .string x]] w fun e w' => e = .returned (.tuple #[ptr cp, .bool true]) ∧ Twin w' q cp mp (insL L ((x, at0), ((p + 1 : Nat) : Int))) (p + 1) ∧ Below q w w' := by
  obtain ⟨W1, hW1⟩ : ∃ W1, w.alloc (.cells #[.int .i64 k, .int .u64 at0, .int .i64 tk, .string x] 33) = W1 := ⟨_, rfl⟩
  have b1 : Below w.heap.size w W1 := by rw [← hW1]; exact (Below.refl _ w).alloc (Nat.le_refl _) _
  have hx := heap_alloc_last w (.cells #[.int .i64 k, .int .u64 at0, .int .i64 tk, .string x] 33)
  rw [hW1] at hx
  have hT2 := h.two b1
  have hqw : q ≤ W1.heap.size := Nat.le_trans hq b1.size
  obtain ⟨xb, hxb⟩ : ∃ b, w.heap.size = b := ⟨_, rfl⟩
  rw [hxb] at hx hT2
  have hzx := block_lt hx
  have x0 := cell_of_row _ _ 0 _ _ _ hx
  have x1 := cell_of_row _ _ 1 _ _ _ hx
  have x2 := cell_of_row _ _ 2 _ _ _ hx
  have x3 := cell_of_row _ _ 3 _ _ _ hx
  simp at x0 x1 x2 x3
  have hm := seven_in h1
  have hw1 : IntKind.i64.wrap (k.tmod 7) = m := by rw [h1]; exact wfI (by omega)
  have hw2 : IntKind.i64.wrap (m + 7) = m + 7 := wfI (by omega)
  have hw3 : IntKind.i64.wrap ((m + 7).tmod 7) = 0 := by rw [h2]; exact wfI (by omega)
  have HB := hidIn (b1.mono hq)
  have HW1 := hidIn hW1
  have HX := hidIn (XDo.mk (x := x) hx)
  obtain ⟨Wd, hWd⟩ : ∃ Wd, W1.drew = Wd := ⟨_, rfl⟩
  have bd : Below W1.heap.size W1 Wd := by rw [← hWd]; exact below_drew W1
  have HX0 : Hid (XDo xb k at0 tk x W1.drew) := hidIn ⟨hx⟩
  have HXd : Hid (XDo xb k at0 tk x Wd) := hidIn (by rw [← hWd]; exact ⟨hx⟩)
  have HBd := hidIn (HB.out.trans (bd.mono hqw))
  have hqd : q ≤ Wd.heap.size := Nat.le_trans hqw bd.size
  have hzd := block_lt HXd.out.h
  have HWd := hidIn hWd
  have hTd := hT2.below bd
  have Ho := hidIn hT2.ord
  have HT := hidIn (hTd.put x at0 hqd hzd (by omega) (by omega))
  clear h b1 hx hW1 hT2 bd hWd hTd
  go_enter Try.func5, Try.ntmps5
  go_upto_region 1 with fail
  rw [HW1.out]
  try simp only [hxb]
  go_upto_region 3 with fail
  refine wp_region_noPanic ?_
  refine wp_region_held_drew (S := fun wx => XDo xb k at0 tk x wx) (by kernel_rfl) HX0.out (fun hHeld => ?_)
  rw [HWd.out]
  clear hHeld x0 x1 x2 x3
  have hSd := HXd.out
  refine wpAnyH_take (i := 0) (v := ptr cp) rfl (by kernel_rfl) (by kernel_rfl) (by kernel_rfl) (fun _ _ _ h => h) (Or.inl ⟨by kernel_rfl, fun wq hSw => by kernel_rfl⟩) (by assumption) ?_
  refine wpAnyH_take (i := 1) (v := ptr cp) rfl (by kernel_rfl) (by kernel_rfl) (by kernel_rfl) (fun _ _ _ h => h) (Or.inl ⟨by kernel_rfl, fun wq hSw => by kernel_rfl⟩) (by assumption) ?_
  refine wpAnyH_take (i := 2) (v := .pointer (some ⟨xb, 1, none⟩)) rfl (by kernel_rfl) (by kernel_rfl) (by kernel_rfl) (fun _ _ _ h => h) (Or.inl ⟨by kernel_rfl, fun wq hSw => by kernel_rfl⟩) (by assumption) ?_
  refine wpAnyH_take (i := 3) (v := .int .u64 at0) rfl (by kernel_rfl) (by kernel_rfl) (by kernel_rfl) (fun _ _ _ h => h) (Or.inl ⟨by kernel_rfl, fun wq hSw => by obtain ⟨u1, u2, u3⟩ := hSw.cells; go_simp⟩) (by assumption) ?_
  refine wpAnyH_take (i := 4) (v := .pointer (some ⟨xb, 3, none⟩)) rfl (by kernel_rfl) (by kernel_rfl) (by kernel_rfl) (fun _ _ _ h => h) (Or.inl ⟨by kernel_rfl, fun wq hSw => by kernel_rfl⟩) (by assumption) ?_
  refine wpAnyH_take (i := 5) (v := .string x) rfl (by kernel_rfl) (by kernel_rfl) (by kernel_rfl) (fun _ _ _ h => h) (Or.inl ⟨by kernel_rfl, fun wq hSw => by obtain ⟨u1, u2, u3⟩ := hSw.cells; go_simp⟩) (by assumption) ?_
  refine wpAnyH_take (i := 7) (v := ptr mp) rfl (by kernel_rfl) (by kernel_rfl) (by kernel_rfl) (fun _ _ _ h => h) (Or.inl ⟨by kernel_rfl, fun wq hSw => by kernel_rfl⟩) (by assumption) ?_
  refine wpAnyH_take (i := 8) (v := .pointer (some ⟨xb, 1, none⟩)) rfl (by kernel_rfl) (by kernel_rfl) (by kernel_rfl) (fun _ _ _ h => h) (Or.inl ⟨by kernel_rfl, fun wq hSw => by kernel_rfl⟩) (by assumption) ?_
  refine wpAnyH_take (i := 9) (v := .int .u64 at0) rfl (by kernel_rfl) (by kernel_rfl) (by kernel_rfl) (fun _ _ _ h => h) (Or.inl ⟨by kernel_rfl, fun wq hSw => by obtain ⟨u1, u2, u3⟩ := hSw.cells; go_simp⟩) (by assumption) ?_
  refine wpAnyH_take (i := 10) (v := .pointer (some ⟨xb, 3, none⟩)) rfl (by kernel_rfl) (by kernel_rfl) (by kernel_rfl) (fun _ _ _ h => h) (Or.inl ⟨by kernel_rfl, fun wq hSw => by kernel_rfl⟩) (by assumption) ?_
  refine wpAnyH_take (i := 11) (v := .string x) rfl (by kernel_rfl) (by kernel_rfl) (by kernel_rfl) (fun _ _ _ h => h) (Or.inl ⟨by kernel_rfl, fun wq hSw => by obtain ⟨u1, u2, u3⟩ := hSw.cells; go_simp⟩) (by assumption) ?_
  refine wpAnyH_ready (rs := [6]) (by kernel_rfl) (by simp) ?_
  refine AllReadyH.cons (i := 6) rfl ?_ AllReadyH.nil
  go_simp
  intro K hK
  refine HT.out.mono ?_
  rintro e w3 ⟨rfl, hT3, hb3, hz3⟩
  have hX3 : XDo xb k at0 tk x w3 := ⟨hz3.trans HXd.out.h⟩
  have hs3 : q ≤ w3.heap.size := Nat.le_trans hqd hb3.size
  have hz3' := block_lt hX3.h
  refine hK.out _ _ hX3 (fun _ => ?_)
  clear hK K
  refine wpAnyH_ready (rs := [12]) (by kernel_rfl) (by simp) ?_
  refine AllReadyH.cons (i := 12) rfl ?_ AllReadyH.nil
  go_simp
  intro K hK
  refine (hT3.dput x at0 Ho.out hs3 hz3' (by omega) (by omega)).mono ?_
  rintro e w4 ⟨rfl, hT4, hb4, hz4⟩
  have hX4 : XDo xb k at0 tk x w4 := ⟨hz4.trans hX3.h⟩
  refine hK.out _ _ hX4 (fun _ => ?_)
  clear hK K
  refine wpAnyH_take (i := 13) (v := .bool true) rfl (by kernel_rfl) (by kernel_rfl) (by kernel_rfl) (fun _ _ _ h => h) (Or.inl ⟨by kernel_rfl, fun wq hSw => by go_simp⟩) (by assumption) ?_
  refine wpAnyH_take (i := 14) (v := ptr cp) rfl (by kernel_rfl) (by kernel_rfl) (by kernel_rfl) (fun _ _ _ h => h) (Or.inl ⟨by kernel_rfl, fun wq hSw => by kernel_rfl⟩) (by assumption) ?_
  refine wpAnyH_ready (rs := [15]) (by kernel_rfl) (by simp) ?_
  refine AllReadyH.cons (i := 15) rfl ?_ AllReadyH.nil
  go_simp
  intro K hK
  refine hK.out _ _ hX4 (fun _ => ?_)
  clear hK K
  refine wpAnyH_done (by kernel_rfl) ?_ _
  refine NoPanic.normal ?_
  go_wp2_with fail
  go_returns
  exact ⟨rfl, hT4.one, (HBd.out.trans hb3).trans hb4⟩
set_option maxRecDepth 100000 in
set_option maxHeartbeats 4000000 in
theorem lstep_1 {w : World} {q cp mp p : Nat} {L : List (Tg ByteArray)} {k m at0 tk : Int} {x : ByteArray} (h : Twin w q cp mp L p) (hq : q ≤ w.heap.size) (hp : p < 80000) (hl : L.length < 80000) (h1 : k.tmod 7 = m) (h2 : (m + 7).tmod 7 = 1) (htk : (Lit.int .i64 tk).wf = true) :
    Calls Try.prog 5 #[ptr cp, ptr mp, .agg #[.int .i64 k, .int .u64 at0, .int .i64 tk, .string x]] w fun e w' => e = .returned (.tuple #[ptr cp, .bool true]) ∧ Twin w' q cp mp (dropT L tk) p ∧ Below q w w' := by
  obtain ⟨W1, hW1⟩ : ∃ W1, w.alloc (.cells #[.int .i64 k, .int .u64 at0, .int .i64 tk, .string x] 33) = W1 := ⟨_, rfl⟩
  have b1 : Below w.heap.size w W1 := by rw [← hW1]; exact (Below.refl _ w).alloc (Nat.le_refl _) _
  have hx := heap_alloc_last w (.cells #[.int .i64 k, .int .u64 at0, .int .i64 tk, .string x] 33)
  rw [hW1] at hx
  have hT2 := h.two b1
  have hqw : q ≤ W1.heap.size := Nat.le_trans hq b1.size
  obtain ⟨xb, hxb⟩ : ∃ b, w.heap.size = b := ⟨_, rfl⟩
  rw [hxb] at hx hT2
  have hzx := block_lt hx
  have x0 := cell_of_row _ _ 0 _ _ _ hx
  have x1 := cell_of_row _ _ 1 _ _ _ hx
  have x2 := cell_of_row _ _ 2 _ _ _ hx
  have x3 := cell_of_row _ _ 3 _ _ _ hx
  simp at x0 x1 x2 x3
  have hm := seven_in h1
  have hw1 : IntKind.i64.wrap (k.tmod 7) = m := by rw [h1]; exact wfI (by omega)
  have hw2 : IntKind.i64.wrap (m + 7) = m + 7 := wfI (by omega)
  have hw3 : IntKind.i64.wrap ((m + 7).tmod 7) = 1 := by rw [h2]; exact wfI (by omega)
  have HB := hidIn (b1.mono hq)
  have HW1 := hidIn hW1
  have HX := hidIn (XDo.mk (x := x) hx)
  obtain ⟨Wd, hWd⟩ : ∃ Wd, W1.drew = Wd := ⟨_, rfl⟩
  have bd : Below W1.heap.size W1 Wd := by rw [← hWd]; exact below_drew W1
  have HX0 : Hid (XDo xb k at0 tk x W1.drew) := hidIn ⟨hx⟩
  have HXd : Hid (XDo xb k at0 tk x Wd) := hidIn (by rw [← hWd]; exact ⟨hx⟩)
  have HBd := hidIn (HB.out.trans (bd.mono hqw))
  have hqd : q ≤ Wd.heap.size := Nat.le_trans hqw bd.size
  have hzd := block_lt HXd.out.h
  have HWd := hidIn hWd
  have hTd := hT2.below bd
  have Ho := hidIn hT2.ord
  have HT := hidIn (hTd.drop tk htk hqd hzd (by omega) (by omega))
  obtain ⟨an, han⟩ : ∃ b, (L.any fun a => a.2 == tk) = b := ⟨_, rfl⟩
  rw [han] at HT
  have hD := fun w3 (hT3 : Twin2 w3 q xb cp mp (dropT L tk) p L p) hs3 hz3 => hT3.ddrop tk Ho.out hs3 hz3 (by omega)
  rw [han] at hD
  have HD := hidIn hD
  clear h b1 hx hW1 hT2 bd hWd hTd hD han
  go_enter Try.func5, Try.ntmps5
  go_upto_region 1 with fail
  rw [HW1.out]
  try simp only [hxb]
  go_upto_region 5 with fail
  refine wp_region_noPanic ?_
  refine wp_region_held_drew (S := fun wx => XDo xb k at0 tk x wx) (by kernel_rfl) HX0.out (fun hHeld => ?_)
  rw [HWd.out]
  clear hHeld x0 x1 x2 x3
  have hSd := HXd.out
  refine wpAnyH_take (i := 0) (v := ptr cp) rfl (by kernel_rfl) (by kernel_rfl) (by kernel_rfl) (fun _ _ _ h => h) (Or.inl ⟨by kernel_rfl, fun wq hSw => by kernel_rfl⟩) (by assumption) ?_
  refine wpAnyH_take (i := 1) (v := ptr cp) rfl (by kernel_rfl) (by kernel_rfl) (by kernel_rfl) (fun _ _ _ h => h) (Or.inl ⟨by kernel_rfl, fun wq hSw => by kernel_rfl⟩) (by assumption) ?_
  refine wpAnyH_take (i := 2) (v := .pointer (some ⟨xb, 2, none⟩)) rfl (by kernel_rfl) (by kernel_rfl) (by kernel_rfl) (fun _ _ _ h => h) (Or.inl ⟨by kernel_rfl, fun wq hSw => by kernel_rfl⟩) (by assumption) ?_
  refine wpAnyH_take (i := 3) (v := .int .i64 tk) rfl (by kernel_rfl) (by kernel_rfl) (by kernel_rfl) (fun _ _ _ h => h) (Or.inl ⟨by kernel_rfl, fun wq hSw => by obtain ⟨u1, u2, u3⟩ := hSw.cells; go_simp⟩) (by assumption) ?_
  refine wpAnyH_take (i := 5) (v := ptr mp) rfl (by kernel_rfl) (by kernel_rfl) (by kernel_rfl) (fun _ _ _ h => h) (Or.inl ⟨by kernel_rfl, fun wq hSw => by kernel_rfl⟩) (by assumption) ?_
  refine wpAnyH_take (i := 6) (v := .pointer (some ⟨xb, 2, none⟩)) rfl (by kernel_rfl) (by kernel_rfl) (by kernel_rfl) (fun _ _ _ h => h) (Or.inl ⟨by kernel_rfl, fun wq hSw => by kernel_rfl⟩) (by assumption) ?_
  refine wpAnyH_take (i := 7) (v := .int .i64 tk) rfl (by kernel_rfl) (by kernel_rfl) (by kernel_rfl) (fun _ _ _ h => h) (Or.inl ⟨by kernel_rfl, fun wq hSw => by obtain ⟨u1, u2, u3⟩ := hSw.cells; go_simp⟩) (by assumption) ?_
  refine wpAnyH_ready (rs := [4]) (by kernel_rfl) (by simp) ?_
  refine AllReadyH.cons (i := 4) rfl ?_ AllReadyH.nil
  go_simp
  intro K hK
  refine HT.out.mono ?_
  rintro e w3 ⟨rfl, hT3, hb3, hz3⟩
  have hX3 : XDo xb k at0 tk x w3 := ⟨hz3.trans HXd.out.h⟩
  have hs3 : q ≤ w3.heap.size := Nat.le_trans hqd hb3.size
  have hz3' := block_lt hX3.h
  refine hK.out _ _ hX3 (fun _ => ?_)
  clear hK K
  refine wpAnyH_ready (rs := [8]) (by kernel_rfl) (by simp) ?_
  refine AllReadyH.cons (i := 8) rfl ?_ AllReadyH.nil
  go_simp
  intro K hK
  refine (HD.out _ hT3 hs3 hz3').mono ?_
  rintro e w4 ⟨rfl, hT4, hb4, hz4⟩
  have hX4 : XDo xb k at0 tk x w4 := ⟨hz4.trans hX3.h⟩
  refine hK.out _ _ hX4 (fun _ => ?_)
  clear hK K
  refine wpAnyH_take (i := 9) (v := .bool true) rfl (by kernel_rfl) (by kernel_rfl) (by kernel_rfl) (fun _ _ _ h => h) (Or.inl ⟨by kernel_rfl, fun wq hSw => by cases an <;> go_simp⟩) (by assumption) ?_
  refine wpAnyH_take (i := 10) (v := ptr cp) rfl (by kernel_rfl) (by kernel_rfl) (by kernel_rfl) (fun _ _ _ h => h) (Or.inl ⟨by kernel_rfl, fun wq hSw => by kernel_rfl⟩) (by assumption) ?_
  refine wpAnyH_ready (rs := [11]) (by kernel_rfl) (by simp) ?_
  refine AllReadyH.cons (i := 11) rfl ?_ AllReadyH.nil
  go_simp
  intro K hK
  refine hK.out _ _ hX4 (fun _ => ?_)
  clear hK K
  refine wpAnyH_done (by kernel_rfl) ?_ _
  refine NoPanic.normal ?_
  go_wp2_with fail
  go_returns
  exact ⟨rfl, hT4.one, (HBd.out.trans hb3).trans hb4⟩
end Go.Proofs.Ytaldehgggilmdaa.Ca.S
