/- The document's Same; RecordSame. -/
import Derived.Test.YtclnhohfiimcdaaXW
namespace Go.Proofs.Ytclnhohfiimcdaa
open Go.RowKit

set_option maxRecDepth 100000 in
set_option maxHeartbeats 2000000 in
theorem dsame_any {r s : Rc} {va vb : Value} {w : World} (ha : SlAt ac 2 w va r.adjs) (hb : SlAt ac 2 w vb s.adjs) :
    Calls Try.prog 16 #[recV r va, recV s vb] w fun e w' => e = .returned (.bool (sameB r s)) ∧ Below w.heap.size w w' := by
  obtain ⟨W1, hW1⟩ : ∃ W1, (w.alloc (recO r va)).alloc (recO s vb) = W1 := ⟨_, rfl⟩
  have b1 : Below w.heap.size w W1 := by rw [← hW1]; exact ((Below.refl _ w).alloc (Nat.le_refl _) _).alloc (by simp) _
  have hX : W1.heap[w.heap.size]? = some (recO r va) := by rw [← hW1, Below.heap_alloc _ _ _ (by simp)]; exact heap_alloc_last w _
  have hY : W1.heap[w.heap.size + 1]? = some (recO s vb) := by
    rw [← hW1]
    have := heap_alloc_last (w.alloc (recO r va)) (recO s vb)
    rw [World.size_alloc] at this
    exact this
  obtain ⟨aa, acap, rfl, hla, _, hca⟩ := ha.ads
  obtain ⟨ba, bcap, rfl, hlb, _, hcb⟩ := hb.ads
  have Ha := hidIn hca
  have Hb := hidIn hcb
  obtain ⟨res, hres⟩ : ∃ res, sameB r s = res := ⟨_, rfl⟩
  rw [hres]
  have Hres := hidIn hres
  obtain ⟨o1, e1, q1, c1, i1, l1⟩ := r
  obtain ⟨o2, e2, q2, c2, i2, l2⟩ := s
  have HW := hidIn hW1
  have HB1 := hidIn b1
  have HK : Hid (∀ wq, Below W1.heap.size W1 wq → wq.cell? ⟨w.heap.size, 5, none⟩ = some (.slice aa l1.length acap) ∧ wq.cell? ⟨w.heap.size + 1, 5, none⟩ = some (.slice ba l2.length bcap)) := hidIn fun wq h => ⟨cell_of_row _ _ 5 _ _ _ ((h.block _ (block_lt hX)).trans hX), cell_of_row _ _ 5 _ _ _ ((h.block _ (block_lt hY)).trans hY)⟩
  have x0 := cell_of_row _ _ 0 _ _ _ hX
  have y0 := cell_of_row _ _ 0 _ _ _ hY
  have x1 := cell_of_row _ _ 1 _ _ _ hX
  have y1 := cell_of_row _ _ 1 _ _ _ hY
  have x2 := cell_of_row _ _ 2 _ _ _ hX
  have y2 := cell_of_row _ _ 2 _ _ _ hY
  have x3 := cell_of_row _ _ 3 _ _ _ hX
  have y3 := cell_of_row _ _ 3 _ _ _ hY
  have x4 := cell_of_row _ _ 4 _ _ _ hX
  have y4 := cell_of_row _ _ 4 _ _ _ hY
  have x5 := cell_of_row _ _ 5 _ _ _ hX
  have y5 := cell_of_row _ _ 5 _ _ _ hY
  simp at x0 x1 x2 x3 x4 x5 y0 y1 y2 y3 y4 y5
  simp only at Ha Hb hla hlb HW ⊢
  clear hW1 b1 hX hY ha hb hca hcb hres
  go_enter Try.func16, Try.ntmps16
  go_upto_region 1 with fail
  rw [show (w.alloc _).alloc _ = W1 from HW.out]
  clear HW
  by_cases ho : o1 = o2
  case neg =>
    have t : (o1 != o2) = true := by simpa using ho
    have HE : Hid ((o1 == o2) = false) := hidIn (by simpa using ho)
    clear ho
    go_wp2_with fail
    go_returns
    exact ⟨by rw [← Hres.out]; unfold sameB; simp only; rw [HE.out]; simp, HB1.out⟩
  subst ho
  have tno : (o1 != o1) = false := by simp
  by_cases he : e1 = e2
  case neg =>
    have t : (e1 != e2) = true := by simpa using he
    have HE : Hid ((e1 == e2) = false) := hidIn (by simpa using he)
    clear he
    go_wp2_with fail
    go_returns
    exact ⟨by rw [← Hres.out]; unfold sameB; simp only; rw [HE.out]; simp, HB1.out⟩
  subst he
  have tne : (e1 != e1) = false := by simp
  by_cases hq : q1 = q2
  case neg =>
    have t : (q1 != q2) = true := by simpa using hq
    have HE : Hid ((q1 == q2) = false) := hidIn (by simpa using hq)
    clear hq
    go_wp2_with fail
    go_returns
    exact ⟨by rw [← Hres.out]; unfold sameB; simp only; rw [HE.out]; simp, HB1.out⟩
  subst hq
  have tnq : (q1 != q1) = false := by simp
  by_cases hc : c1 = c2
  case neg =>
    have t : (c1 != c2) = true := by simpa using hc
    have HE : Hid ((c1 == c2) = false) := hidIn (by simpa using hc)
    clear hc
    go_wp2_with fail
    go_returns
    exact ⟨by rw [← Hres.out]; unfold sameB; simp only; rw [HE.out]; simp, HB1.out⟩
  subst hc
  have tnc : (c1 != c1) = false := by simp
  by_cases hi : i1 = i2
  case neg =>
    cases i1 <;> cases i2 <;> first | exact absurd rfl hi | skip
    all_goals
      clear hi
      go_wp2_with fail
      go_returns
      exact ⟨by rw [← Hres.out]; simp [sameB], HB1.out⟩
  subst hi
  have tni : (i1 != i1) = false := by simp
  have HEq : Hid (res = decide (l1 = l2)) := hidIn (by rw [← Hres.out]; simp [sameB])
  by_cases hlen : l1.length = l2.length
  case neg =>
    have t : ((l1.length : Int) != (l2.length : Int)) = true := by simp; omega
    have HE : Hid (res = false) := hidIn (by rw [HEq.out]; simp; intro h; exact hlen (by rw [h]))
    clear hlen
    go_wp2_with fail
    go_returns
    exact ⟨by rw [HE.out]; rfl, HB1.out⟩
  obtain ⟨m, hm⟩ : ∃ m, l2.length = m := ⟨_, rfl⟩
  have hlen2 : l1.length = m := by rw [hlen, hm]
  rw [hm] at hlb Hb HK y5
  rw [hlen2] at hla Ha HK x5
  have Hm := hidIn hm
  have HL := hidIn hlen2
  rw [hlen2, hm]
  clear hm hlen2 hlen
  have tl : ((m : Int) != (m : Int)) = false := by simp
  go_wp2_with fail
  clear x0 x1 x2 x3 x4 x5 y0 y1 y2 y3 y4 y5
  go_loopw [5] (fun i wr => ∃ k : Nat, k ≤ m ∧ i = .int .i64 k ∧ Hid (Below W1.heap.size W1 wr ∧ decide (l1 = l2) = decide (l1.drop k = l2.drop k))) (fun i _ => m - (intOf i).toNat)
  case atStart => exact ⟨0, Nat.zero_le _, rfl, hidIn ⟨Below.refl _ _, by rw [List.drop_zero, List.drop_zero]⟩⟩
  case round =>
    obtain ⟨k, hk, rfl, HR⟩ := hrel
    obtain ⟨x5, y5⟩ := HK.out wr HR.out.1
    by_cases hlt : k < m
    · obtain ⟨b1, p1, rfl, hb1, hc1⟩ := Ha.out (by omega)
      obtain ⟨b2, p2, rfl, hb2, hc2⟩ := Hb.out (by omega)
      obtain ⟨⟨u0, u1⟩, hu⟩ : ∃ z, l1[k]? = some z := ⟨l1[k]'(by rw [HL.out]; exact hlt), List.getElem?_eq_getElem _⟩
      obtain ⟨⟨v0, v1⟩, hv⟩ : ∃ z, l2[k]? = some z := ⟨l2[k]'(by rw [Hm.out]; exact hlt), List.getElem?_eq_getElem _⟩
      obtain ⟨g0, g1⟩ := hc1 k _ hu
      obtain ⟨h0, h1⟩ := hc2 k _ hv
      have hbw := HB1.out.trans (HR.out.1.mono HB1.out.size)
      have c0 := (hbw.cell (p := ⟨b1, p1 + k * 2, none⟩) hb1).trans g0
      have c1 := (hbw.cell (p := ⟨b1, p1 + k * 2 + 1, none⟩) hb1).trans g1
      have d0 := (hbw.cell (p := ⟨b2, p2 + k * 2, none⟩) hb2).trans h0
      have d1 := (hbw.cell (p := ⟨b2, p2 + k * 2 + 1, none⟩) hb2).trans h1
      simp only at c0 c1 d0 d1
      have HD : Hid (decide (l1 = l2) = (decide ((u0, u1) = (v0, v1)) && decide (l1.drop (k + 1) = l2.drop (k + 1)))) := hidIn (by rw [HR.out.2, dropEq hu hv])
      have hki : (k : Int) < (m : Int) := by omega
      obtain ⟨qb, hqb⟩ : ∃ qb, (u0 == v0 && u1 == v1) = qb := ⟨_, rfl⟩
      have hq : ∀ w, (Op.equalIn 10000 36 (.agg #[.int .i64 u0, .int .i64 u1]) (.agg #[.int .i64 v0, .int .i64 v1])).run Try.prog w = Result.ok qb w := fun w => by rw [eq_adj, hqb]
      have HQ : Hid (decide ((u0, u1) = (v0, v1)) = qb) := hidIn (by rw [← hqb]; by_cases a1 : u0 = v0 <;> by_cases a2 : u1 = v1 <;> simp [a1, a2])
      have HBr := hidIn HR.out.1
      clear hc1 hc2 hu hv g0 g1 h0 h1 hqb hbw HR
      go_upto_region 6 with fail
      go_quiet (fail)
      clear c0 c1 d0 d1 x5 y5
      generalize hV : World.drewN wr _ = V
      have HBV : Hid (Below W1.heap.size W1 V) := hidIn (by rw [← hV]; exact HBr.out.trans (((Fr.refl (fun _ => False) wr).drewN _).below HBr.out.size (fun _ h => h.elim)))
      clear hV HBr hq
      cases qb
      · go_wp2_with fail
        go_returns
        exact ⟨by rw [HEq.out, HD.out, HQ.out]; rfl, HB1.out.trans (HBV.out.mono HB1.out.size)⟩
      · go_wp2_with fail
        go_roundw
        case rel => exact ⟨k + 1, by omega, by go_num, hidIn ⟨HBV.out, by rw [HD.out, HQ.out]; rfl⟩⟩
        case measure => simp [intOf]; omega
    · have hki : ¬ ((k : Int) < (m : Int)) := by omega
      have HE : Hid (res = true) := hidIn (by rw [HEq.out, HR.out.2, List.drop_eq_nil_of_le (by rw [HL.out]; omega), List.drop_eq_nil_of_le (by rw [Hm.out]; omega)]; rfl)
      go_wp2_with fail
      go_returns
      exact ⟨by rw [HE.out]; rfl, HB1.out.trans (HR.out.1.mono HB1.out.size)⟩
end Go.Proofs.Ytclnhohfiimcdaa
