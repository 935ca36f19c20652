/- has; a record more behind an own row. -/
import Derived.Test.YtpifkhcjogilfaaGF
import Derived.Test.YtpifkhcjogilfaaGQ
namespace Go.Proofs.Ytpifkhcjogilfaa
open Go.RowKit

theorem hasE_drop {es : List Ed} {k : Nat} {x y c a b : Int} (h : es[k]? = some (x, y, c)) : hasE (es.drop k) a b = ((decide (x = a) && decide (y = b)) || hasE (es.drop (k + 1)) a b) := by
  rw [drop_next h, hasE, List.any_cons]
  rfl
set_option maxRecDepth 100000 in
set_option maxHeartbeats 1000000 in
theorem has_any {es : List Ed} {vn ve : Value} {w : World} (he : SlAt ec 3 w ve es) (a b : Int) :
    Calls Try.prog 27 #[grV vn ve, .int .i64 a, .int .i64 b] w fun e w' => e = .returned (.bool (hasE es a b)) ∧ Below w.heap.size w w' := by
  obtain ⟨ea, cap, rfl, hl, _, hat⟩ := he.eds
  have Ha := hidIn hat
  clear hat he
  have hgB := heap_alloc_last w (.cells #[vn, .slice ea es.length cap] 25)
  have g1 : (w.alloc (.cells #[vn, .slice ea es.length cap] 25)).cell? ⟨w.heap.size, 1, none⟩ = some (.slice ea es.length cap) := cell_of_row _ _ 1 _ _ _ hgB
  have hb0 : Below w.heap.size w (w.alloc (.cells #[vn, .slice ea es.length cap] 25)) := (Below.refl _ w).alloc (Nat.le_refl _) _
  go_enter Try.func27, Try.ntmps27
  go_upto_region 1 with fail
  clear hgB
  generalize w.alloc (.cells #[vn, .slice ea es.length cap] 25) = W1 at *
  go_wp2_with fail
  go_loopw [7] (fun i wr => wr = W1 ∧ ∃ k : Nat, k ≤ es.length ∧ i = .int .i64 k ∧ Hid (hasE es a b = hasE (es.drop k) a b)) (fun i _ => es.length - (intOf i).toNat)
  case atStart => exact ⟨rfl, 0, Nat.zero_le _, rfl, hidIn (by rw [List.drop_zero])⟩
  case round =>
    obtain ⟨hwr, k, hk, rfl, HH⟩ := hrel
    rw [hwr]
    clear hwr
    by_cases hlt : k < es.length
    · obtain ⟨bk, o, rfl, hbk, hcell⟩ := Ha.out (by omega)
      obtain ⟨⟨x, y, c⟩, hz⟩ : ∃ z, es[k]? = some z := ⟨es[k], List.getElem?_eq_getElem hlt⟩
      obtain ⟨q0, q1, q2⟩ := hcell k _ hz
      have c0 := (hb0.cell (p := ⟨bk, o + k * 3, none⟩) hbk).trans q0
      have c1 := (hb0.cell (p := ⟨bk, o + k * 3 + 1, none⟩) hbk).trans q1
      simp only at c0 c1
      have HN : Hid (hasE es a b = ((decide (x = a) && decide (y = b)) || hasE (es.drop (k + 1)) a b)) := hidIn (by rw [HH.out, hasE_drop hz])
      clear hcell hz q0 q1 q2
      have hki : (k : Int) < (es.length : Int) := by omega
      by_cases hxa : x = a
      · have h1 : (x == a) = true := by simpa using hxa
        by_cases hyb : y = b
        · have h2 : (y == b) = true := by simpa using hyb
          have Hx := hidIn hxa
          have Hy := hidIn hyb
          clear hxa hyb
          go_wp2_with fail
          go_returns
          exact ⟨by rw [HN.out]; simp [Hx.out, Hy.out], hb0⟩
        · have h2 : (y == b) = false := by simpa using hyb
          have Hx := hidIn hxa
          have Hy := hidIn hyb
          clear hxa hyb
          go_wp2_with fail
          go_roundw
          case rel => exact ⟨trivial, k + 1, by omega, by go_num, hidIn (by rw [HN.out]; simp [Hy.out])⟩
          case measure => simp [intOf]; omega
      · have h1 : (x == a) = false := by simpa using hxa
        have Hx := hidIn hxa
        clear hxa
        go_wp2_with fail
        go_roundw
        case rel => exact ⟨trivial, k + 1, by omega, by go_num, hidIn (by rw [HN.out]; simp [Hx.out])⟩
        case measure => simp [intOf]; omega
    · have hki : ¬ ((k : Int) < (es.length : Int)) := by omega
      have hke : k = es.length := by omega
      go_wp2_with fail
      go_returns
      exact ⟨by rw [HH.out, hke, List.drop_length]; rfl, hb0⟩
theorem infoRec : (Try.prog.info? 55).map (fun i => (i.zero, i.size, i.bytes)) = some (some (.agg #[.int .i64 0, .int .u32 0, .int .u32 0, .int .i64 0, .bool false, .slice none 0 0]), 6, 56) := by kernel_rfl
/-- One record more. -/
theorem append_rec {W : World} {base k : Nat} {u : Value} {l : List (Rc × Value)} (hr : W.ownsRow base 55 6 u k (fl rcc l)) (x : Rc × Value) (hx : x.2.oneCell' = true) (hk : (k + 1) * 56 ≤ 140737488355328) (hbase : base ≤ W.heap.size) :
    ∃ g cap w6, (Builtin.append_ #[41, 41] 41 #[u, .slice (some ⟨W.heap.size, 0, none⟩) 1 1]).run Try.prog (W.alloc (.cells (rcc x).toArray 55)) = .ok (.slice (some ⟨g, 0, none⟩) (k + 1) cap) w6 ∧
      w6.ownsRow base 55 6 (.slice (some ⟨g, 0, none⟩) (k + 1) cap) (k + 1) (fl rcc (l ++ [x])) ∧ Below base W w6 := by
  obtain ⟨i0, hi, hz0, hz1, hz2⟩ := info_parts infoRec
  obtain ⟨g, cap, w6, hrun, hown, hgrow, _, _⟩ := run_append_lies (P := Try.prog) (W.alloc (.cells (rcc x).toArray 55)) 41 41 base 55 i0 _ 6 56 Try.underlying41 hi hz0 hz1 hz2 rfl (by decide) u k (fl rcc l) (hr.alloc _) ⟨W.heap.size, 0, none⟩ 1 1 (rcc x) rfl (fun j v hv => by
    rw [Addr.add_mid, Nat.zero_add, cell_of_row _ _ j (rcc x).toArray 55 (0, 0) (heap_alloc_last W _)]
    simpa using hv) (by simp only [rcc, List.mem_cons, List.not_mem_nil, or_false]; rintro u (rfl | rfl | rfl | rfl | rfl | rfl) <;> first | rfl | exact hx) (by omega) (by unfold maxLen; omega) hk (by simp; omega) (W.heap.size + 1) (by simp)
  refine ⟨g, cap, w6, hrun, by rw [fl_snoc]; exact hown, ?_⟩
  exact ((Below.refl _ W).alloc hbase _).grown hgrow (by simp; omega) (fun j e => by
    rcases hr.2 with ⟨rfl, _⟩ | ⟨g', cap', cur, rfl, hb, _⟩
    · simp [Value.ownBlock] at e
    · simp [Value.ownBlock] at e; omega)
end Go.Proofs.Ytpifkhcjogilfaa
