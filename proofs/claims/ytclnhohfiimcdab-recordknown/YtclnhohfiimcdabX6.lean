/- The law's works. -/
import Derived.Test.YtclnhohfiimcdabX5
import Derived.Test.YtclnhohfiimcdabGC
namespace Go.Proofs.Ytclnhohfiimcdab
open Go.RowKit

def exR : Rc := ⟨1, 1, 2, 258, true, [(2, 5)]⟩
def exB : ByteArray := ⟨#[1, 0, 0, 0, 1, 0, 0, 0, 2, 1, 2, 1, 1, 2, 0, 5]⟩
theorem ex_en : enA exR = (exB, 0) := by
  have h : recOk exR = true := by decide
  unfold enA
  rw [h]
  show (encS exR, (0 : Int)) = (exB, 0)
  rw [show encS exR = exB from ext_data (by rw [encS_data]; rfl)]
theorem exR_b : RcB exR := ⟨by decide, by decide, by decide, by decide⟩
theorem ex_de : deA exB = (exR, 0) := by
  have h : recOk exR = true := by decide
  have he : encS exR = exB := ext_data (by rw [encS_data]; rfl)
  unfold deA
  rw [← he, enc_ok h exR_b, (rd_enc h exR_b).1]
  rfl
set_option maxRecDepth 100000 in
set_option maxHeartbeats 2000000 in
theorem rworks_any (w : World) : Calls Try.prog 5 #[] w fun e w' => e = .returned (.bool true) ∧ Below w.heap.size w w' := by
  have HD := hidIn (fun w1 => decode_any exB (by decide) w1)
  rw [ex_de] at HD
  have heq : ∀ w, (Op.equalIn 10000 35 (.agg #[.int .i64 2, .int .i64 5]) (.agg #[.int .i64 2, .int .i64 5])).run Try.prog w = Result.ok true w := fun w => by rw [eq_adj]; rfl
  go_enter Try.func5, Try.ntmps5
  go_wp2_with fail
  refine (HD.out _).mono ?_
  rintro e w2 ⟨⟨v, rfl, hrow⟩, hb2⟩
  have hs := slAt_of_row (cs := ac) (fun _ => rfl) hrow rfl
  simp only [exR] at hs hrow ⊢
  obtain ⟨va, cap, rfl, _, _, hc⟩ := hs.ads
  obtain ⟨bk, o, rfl, hbk, hc⟩ := hc (by simp)
  obtain ⟨q0, q1⟩ := hc 0 _ rfl
  simp at q0 q1
  clear hc hs hrow HD
  obtain ⟨W3, hW3⟩ : ∃ W3, w2.alloc (.cells #[.int .i64 1, .int .u32 1, .int .u32 2, .int .i64 258, .bool true, .slice (some ⟨bk, o, none⟩) 1 cap] 30) = W3 := ⟨_, rfl⟩
  obtain ⟨W4, hW4⟩ : ∃ W4, W3.alloc (.cells #[.int .i64 2, .int .i64 5] 35) = W4 := ⟨_, rfl⟩
  have b3 : Below w2.heap.size w2 W3 := by rw [← hW3]; exact (Below.refl _ w2).alloc (Nat.le_refl _) _
  have b4 : Below W3.heap.size W3 W4 := by rw [← hW4]; exact (Below.refl _ W3).alloc (Nat.le_refl _) _
  have hX3 : W3.heap[w2.heap.size]? = some (.cells #[.int .i64 1, .int .u32 1, .int .u32 2, .int .i64 258, .bool true, .slice (some ⟨bk, o, none⟩) 1 cap] 30) := by rw [← hW3]; exact heap_alloc_last w2 _
  have hS : SlAt ac 2 W4 (.slice (some ⟨W3.heap.size, 0, none⟩) 1 1) exR.adjs := by
    rw [← hW4]
    exact slAt_block (cs := ac) (sz := 2) (l := exR.adjs) (fun _ => rfl) (T := 35) (heap_alloc_last W3 _) (by decide)
  have hE := encode_any hS exR_b
  rw [ex_en] at hE
  simp only [exR] at hE
  have HE := hidIn hE
  have b24 := b3.trans (b4.mono b3.size)
  have hX4 := (b4.block _ (block_lt hX3)).trans hX3
  have HB4 := hidIn (hb2.trans (b24.mono hb2.size))
  have HK : Hid (∀ wq, Below W4.heap.size W4 wq → (wq.cell? ⟨bk, o, none⟩ = some (.int .i64 2) ∧ wq.cell? ⟨bk, o + 1, none⟩ = some (.int .i64 5)) ∧ wq.heap[w2.heap.size]? = some (.cells #[.int .i64 1, .int .u32 1, .int .u32 2, .int .i64 258, .bool true, .slice (some ⟨bk, o, none⟩) 1 cap] 30)) := hidIn fun wq h => by
    have h2 := b24.trans (h.mono b24.size)
    exact ⟨⟨(h2.cell (p := ⟨bk, o, none⟩) hbk).trans q0, (h2.cell (p := ⟨bk, o + 1, none⟩) hbk).trans q1⟩, (h.block _ (block_lt hX4)).trans hX4⟩
  have HW3 := hidIn hW3
  have HW4 := hidIn hW4
  obtain ⟨xb, hxb⟩ : ∃ xb, w2.heap.size = xb := ⟨_, rfl⟩
  rw [hxb] at HK
  have Hxb := hidIn hxb
  clear hW3 hW4 b3 b4 hX3 hX4 hS hE b24 hb2 q0 q1 hbk hxb
  simp only [List.length_cons, List.length_nil, Nat.zero_add]
  go_upto_region 2 with fail
  rw [HW3.out, Hxb.out]
  clear HW3 Hxb
  go_wp2_with fail
  rw [HW4.out]
  clear HW4
  refine HE.out.mono ?_
  rintro e w5 ⟨rfl, hb5⟩
  obtain ⟨⟨q0, q1⟩, hX⟩ := HK.out w5 hb5
  have HB5 := hidIn (HB4.out.trans (hb5.mono HB4.out.size))
  have x3 := cell_of_row _ _ 3 _ _ _ hX
  have x4 := cell_of_row _ _ 4 _ _ _ hX
  have x5 := cell_of_row _ _ 5 _ _ _ hX
  simp at x3 x4 x5
  clear hX hb5 HK HB4 HE
  simp only [exB]
  go_wp2_with fail
  go_ret
  exact ⟨rfl, HB5.out⟩
end Go.Proofs.Ytclnhohfiimcdab
