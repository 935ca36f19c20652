/- The law's step: Take. -/
import Derived.Test.YtaldehgggilmdaaDPB
namespace Go.Proofs.Ytaldehgggilmdaa.Ca.S
open Go.RowKit Go.Maps

theorem row_write9 {w : World} {base n cap sz : Nat} {a : Option Addr} {e : TypeId} {xs : List Value} (hr : w.ownsRow base e sz (.slice a n cap) n xs) (h0 : 0 < n) : ∃ g, a = some ⟨g, 0, none⟩ ∧ base ≤ g ∧ g < w.heap.size ∧ (∀ j, j < n * sz → ∃ v, w.cell? ⟨g, j, none⟩ = some v) ∧ ∀ j, w.frozen? ⟨g, j, none⟩ = false := by
  rcases hr.2 with ⟨_, h⟩ | ⟨g, cap', cur, h, hb, hh, h1, _, h3, _⟩
  · omega
  · simp at h
    obtain ⟨rfl, rfl⟩ := h
    refine ⟨g, rfl, hb, block_lt hh, fun j hj => ?_, fun j => frozen_new hh j⟩
    have : n * sz ≤ cap * sz := Nat.mul_le_mul_right _ h1
    rw [cell_of_row w g j cur e _ hh]
    exact ⟨cur[j]'(by omega), Array.getElem?_eq_getElem _⟩

theorem dueT_le (L : List (Tg ByteArray)) (now : Int) : (dueT L now).length ≤ L.length := by
  induction L with
  | nil => simp [(due_nil now).1]
  | cons b L ih =>
    by_cases h : tick b.1 ≤ now
    · rw [(due_yes h).1, List.length_cons, List.length_cons]; omega
    · rw [(due_no h).1]; simp
set_option maxRecDepth 100000 in
set_option maxHeartbeats 4000000 in
theorem lstep_2 {w : World} {q cp mp p : Nat} {L : List (Tg ByteArray)} {k m at0 tk : Int} {x : ByteArray} (h : Twin w q cp mp L p) (hq : q ≤ w.heap.size) (hp : p < 80000) (hl : L.length < 80000) (h1 : k.tmod 7 = m) (h2 : (m + 7).tmod 7 = 2) :
    Calls Try.prog 5 #[ptr cp, ptr mp, .agg #[.int .i64 k, .int .u64 at0, .int .i64 tk, .string x]] w fun e w' => e = .returned (.tuple #[ptr cp, .bool true]) ∧ Twin w' q cp mp (restT L at0) p ∧ Below q w w' := by
  obtain ⟨W1, hW1⟩ : ∃ W1, w.alloc (.cells #[.int .i64 k, .int .u64 at0, .int .i64 tk, .string x] 33) = W1 := ⟨_, rfl⟩
  have b1 : Below w.heap.size w W1 := by rw [← hW1]; exact (Below.refl _ w).alloc (Nat.le_refl _) _
  have hx := heap_alloc_last w (.cells #[.int .i64 k, .int .u64 at0, .int .i64 tk, .string x] 33)
  rw [hW1] at hx
  have hT2 := h.two b1
  have hqw : q ≤ W1.heap.size := Nat.le_trans hq b1.size
  obtain ⟨xb, hxb⟩ : ∃ b, w.heap.size = b := ⟨_, rfl⟩
  rw [hxb] at hx hT2
  have hzx := block_lt hx
  have x0 := cell_of_row _ _ 0 _ _ _ hx
  have x1 := cell_of_row _ _ 1 _ _ _ hx
  have x2 := cell_of_row _ _ 2 _ _ _ hx
  have x3 := cell_of_row _ _ 3 _ _ _ hx
  simp at x0 x1 x2 x3
  have hm := seven_in h1
  have hw1 : IntKind.i64.wrap (k.tmod 7) = m := by rw [h1]; exact wfI (by omega)
  have hw2 : IntKind.i64.wrap (m + 7) = m + 7 := wfI (by omega)
  have hw3 : IntKind.i64.wrap ((m + 7).tmod 7) = 2 := by rw [h2]; exact wfI (by omega)
  have HB := hidIn (b1.mono hq)
  have HW1 := hidIn hW1
  have HX := hidIn (XDo.mk (x := x) hx)
  obtain ⟨S, D, k1, k2, k3, k4, k5⟩ := hT2
  have HT := hidIn (take_ok (now := at0) k1 (by omega) (by omega))
  have K2 := hidIn k2
  have KA := hidIn (And.intro k3 (And.intro k4 k5))
  obtain ⟨n, hn⟩ : ∃ n, (dueT L at0).length = n := ⟨_, rfl⟩
  rw [hn] at HT
  have hn9 : n ≤ 80000 := by have := dueT_le L at0; omega
  have Hn := hidIn hn
  clear h b1 hW1 k1 k2 k3 k4 k5 hn
  go_enter Try.func5, Try.ntmps5
  go_upto_region 1 with fail
  rw [HW1.out]
  try simp only [hxb]
  go_wp2_with (refine HT.out.mono ?_)
  rintro e w3 ⟨⟨u, rfl, hrow⟩, hC3, hF3⟩
  obtain ⟨ua, uc, rfl⟩ := row_shape hrow
  have hX3 : w3.heap[xb]? = some (.cells #[.int .i64 k, .int .u64 at0, .int .i64 tk, .string x] 33) := (hF3.block xb hzx (fun h => (KA.out.2.1 _ h).2.2 rfl)).trans hx
  have y1 := cell_of_row _ _ 1 _ _ _ hX3
  simp at y1
  have HD := hidIn (dtake_any (now := at0) (K2.out.keep hF3 (fun k hk hs => KA.out.1 k hs hk)) (by omega))
  rw [Hn.out] at HD
  have C3 := hidIn hC3
  have F3 := hidIn hF3
  have R3 := hidIn hrow
  clear hC3 hF3 hrow HT x0 x1 x2 x3 hX3
  go_wp2_with (first | refine HD.out.mono ?_)
  rintro e w4 ⟨⟨u4, rfl, hrow4⟩, hR4, hF4⟩
  obtain ⟨va, vc, rfl⟩ := row_shape hrow4
  have hr4 := row_fr R3.out hF4 (fun j hj hd => by have h1 := (R3.out.lt j hj).1; have h2 := (KA.out.2.2 j hd).2.1; omega)
  have HSm := hidIn (dsame_any (slAt_of_row (cs := tc) (fun _ => rfl) hr4 (by rw [List.length_map, Hn.out])) (slAt_of_row (cs := tc) (fun _ => rfl) hrow4 (by rw [List.length_map, Hn.out])))
  rw [decide_eq_true rfl] at HSm
  have HR4 := hidIn hr4
  have R4 := hidIn hR4
  have F4 := hidIn hF4
  clear hr4 hrow4 hR4 hF4 HD y1
  go_wp2_with (refine HSm.out.mono ?_)
  rintro e w5 ⟨rfl, hb5⟩
  obtain ⟨B1, hB1⟩ : ∃ b, W1.heap.size = b := ⟨_, rfl⟩
  have HB1 := hidIn hB1
  have HR5 : Hid (w5.ownsRow B1 9 1 (.slice ua n uc) n (fl tc ((dueT L at0).map fun b => b.1.1))) := hidIn (by rw [← hB1]; exact row_fr HR4.out (Fr.of_below (S := fun _ => False) hb5) (fun _ _ h => h))
  have HB5 := hidIn hb5
  clear hb5 HSm hB1 HR4
  go_wp2_with fail
  go_loopw [10] (fun i wr => ∃ k : Nat, k ≤ n ∧ i = .int .i64 k ∧ Hid (∃ xs, wr.ownsRow B1 9 1 (.slice ua n uc) n xs ∧ Fr (fun j => B1 ≤ j) w5 wr)) (fun i _ => n - (intOf i).toNat)
  case atStart => exact ⟨0, Nat.zero_le _, rfl, hidIn ⟨_, HR5.out, Fr.refl _ _⟩⟩
  case round =>
    obtain ⟨k, hk, rfl, HR⟩ := hrel
    obtain ⟨xs, r1, r2⟩ := HR.out
    clear HR
    by_cases hlt : k < n
    · have hki : (k : Int) < (n : Int) := by omega
      obtain ⟨g, rfl, g1, g2, g3, g4⟩ := row_write9 r1 (by omega)
      obtain ⟨v0, c0⟩ := g3 k (by omega)
      have f0 := g4 k
      have hcap : (n : Int) ≤ (uc : Int) := by
        rcases r1.2 with ⟨h, _⟩ | ⟨_, _, _, h, _, _, h1, _⟩
        · simp at h
        · simp at h
          omega
      have hkc : (k : Int) ≤ (uc : Int) := by omega
      have hkc1 : (k : Int) + 1 ≤ (uc : Int) := by omega
      have HNew := fun x : Value => hidIn (And.intro (row_set r1 k x) (r2.trans (Fr.set (S := fun j => B1 ≤ j) (Fr.refl _ wr) (p := ⟨g, k, none⟩) g1 x)))
      have HN := hidIn HNew
      clear r1 r2 g3 g4 HNew
      go_wp2_with fail
      go_roundw
      case rel => exact ⟨k + 1, by omega, by go_num, hidIn ⟨_, (HN.out _).out⟩⟩
      case measure => simp [intOf]; omega
    · have hki : ¬ (k : Int) < (n : Int) := by omega
      have HFin : Hid (Twin wr q cp mp (restT L at0) p ∧ Below q w wr) := hidIn (by
        have s3 := F3.out.size
        have s4 := F4.out.size
        have s5 := HB5.out.size
        have s6 := r2.size
        have e1 := HB1.out
        obtain ⟨k3, k4, k5⟩ := KA.out
        refine ⟨⟨S, D, ((C3.out.keep F4.out (fun k hk hd => k3 k hk hd)).below HB5.out).keep r2 (fun k hk hd => by have := (k4 k hk).2.1; omega), ((R4.out).below HB5.out).keep r2 (fun k hk hd => by have := (k5 k hk).2.1; omega), k3, fun k hk => ⟨(k4 k hk).1, by have := (k4 k hk).2.1; omega⟩, fun k hk => ⟨(k5 k hk).1, by have := (k5 k hk).2.1; omega⟩⟩, ?_⟩
        exact (((HB.out.trans (F3.out.below hqw (fun k hk => (k4 k hk).1))).trans (F4.out.below (by omega) (fun k hk => (k5 k hk).1))).trans (HB5.out.mono (by omega))).trans (r2.below (by omega) (fun k hk => by omega)))
      clear r1 r2
      go_wp2_with fail
      go_returns
      exact ⟨rfl, HFin.out⟩
end Go.Proofs.Ytaldehgggilmdaa.Ca.S
