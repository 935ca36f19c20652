/- The calendar's Sift, where keep appends to what was asked of. -/
import Derived.Test.YtaldehgggilmdaaDP7
namespace Go.Proofs.Ytaldehgggilmdaa.Ca.S
open Go.RowKit Go.Maps Go.Sort Go.Shelf

set_option maxRecDepth 100000 in
set_option maxHeartbeats 2000000 in
theorem siftA_ok {w : World} {S : Nat → Prop} {cp p ab gb : Nat} {L : List (Tg ByteArray)} {gone : ByteArray} (h : Cal w S cp L p) (hp : p < 100000) (hl : L.length ≤ 100000)
    (hA1 : w.heap[ab]? = some (.cells #[.slice none 0 0] 36)) (hA2 : w.heap[gb]? = some (.cells #[.string gone] 9)) (hSa : ¬ S ab) (hSg : ¬ S gb) :
    Calls Try.prog 24 #[ptr cp, .func (.func 25) #[] #[ptr ab, ptr gb]] w fun e w' => e = .returned (.int .i64 (refT L (keptK gone)).length) ∧ Cal w' S cp (L.filter fun a => keptK gone a.1.1) p ∧ (∃ va, AskM w' ab gb w.heap.size va (L.map fun b => b.1.1) gone) ∧ Fr (fun j => S j ∨ j = ab) w w' := by
  have HRf := hidIn (refusedA_ok h hl hA1 hA2)
  obtain ⟨kp, hkp9⟩ : ∃ kp, keptK gone = kp := ⟨_, rfl⟩
  rw [hkp9] at HRf ⊢
  have Hab : Hid (ab < w.heap.size ∧ gb < w.heap.size ∧ ¬ S ab ∧ ¬ S gb) := hidIn ⟨block_lt hA1, block_lt hA2, hSa, hSg⟩
  have HT := hidIn (there_yes h.self.2.2)
  have h0 := h.mono (T := fun k => S k ∧ k < w.heap.size) (fun k hk hs => ⟨hs, hk⟩)
  have HC := hidIn h0
  have HLe := hidIn (refused_left kp h.o)
  have HTl := hidIn (refT_len L kp)
  have HTm : Hid (∀ t ∈ refT L kp, 1 ≤ t ∧ t ≤ (p : Int)) := hidIn (fun t ht => by
    obtain ⟨b, hb, rfl⟩ := List.mem_map.1 ht
    exact h.t b (List.mem_filter.1 hb).1)
  obtain ⟨q, hq⟩ : ∃ q, w.heap.size = q := ⟨_, rfl⟩
  rw [hq] at HRf HC Hab
  rw [hq]
  have Hq := hidIn hq
  obtain ⟨T, hT⟩ : ∃ T, refT L kp = T := ⟨_, rfl⟩
  rw [hT] at HRf HLe HTl HTm ⊢
  have hnf : ∀ wq : World, (binOp BinOp.eql 59 (.func (.func 25) #[] #[ptr ab, ptr gb]) Value.nilFunc).run Try.prog wq = .ok (.bool false) wq := fun wq => by kernel_rfl
  have ht9 : T.length ≤ 100000 := by have := HTl.out; omega
  clear h h0 hA1 hA2 hSa hSg hkp9 hT hq
  go_enter Try.func24, Try.ntmps24
  go_wp2_with fail
  refine HT.out.mono ?_
  rintro e w1 ⟨rfl, hw1⟩
  rw [hw1]
  clear hw1 w1 HT
  go_wp2_with fail
  refine HRf.out.mono ?_
  rintro e w1 ⟨⟨v', rfl, hrow⟩, ⟨va9, hask⟩, hb⟩
  have HAsk := hidIn hask
  obtain ⟨va, vc, rfl⟩ := row_shape hrow
  have HRow := hidIn hrow
  have HB := hidIn hb
  have s1 : q ≤ w1.heap.size := by have := hb.size; have := Hq.out; omega
  have HC1 := hidIn (HC.out.keep hb (fun k hk hs => by rw [hs] at hk; exact Hab.out.2.2.1 hk.1))
  obtain ⟨_, _, e1, _, _, hcl⟩ := sl_i64' (slAt_of_row (cs := ic) (fun _ => rfl) hrow rfl)
  simp only [Value.slice.injEq] at e1
  obtain ⟨rfl, _, rfl⟩ := e1
  have HCl := hidIn hcl
  clear hrow hb hask HRf hcl HC
  go_wp2_with fail
  go_loopw [20] (fun i wr => ∃ k : Nat, k ≤ T.length ∧ i = .int .i64 k ∧ Hid (Cal wr (fun k => S k ∧ k < q) cp ((T.take k).foldl dropT L) p ∧ Fr (fun k => S k ∧ k < q) w1 wr)) (fun i _ => T.length - (intOf i).toNat)
  case atStart => exact ⟨0, Nat.zero_le _, rfl, hidIn ⟨HC1.out, Fr.refl _ _⟩⟩
  case round =>
    obtain ⟨k, hk, rfl, HR⟩ := hrel
    obtain ⟨r1, r2⟩ := HR.out
    clear HR
    by_cases hlt : k < T.length
    · obtain ⟨bk, o, rfl, hbk, hc⟩ := HCl.out (by omega)
      obtain ⟨t, ht⟩ : ∃ t, T[k]? = some t := ⟨T[k], List.getElem?_eq_getElem hlt⟩
      have hbq : q ≤ bk := (HRow.out.lt bk rfl).1
      have x0 := (r2.cell9 (j := o + k) hbk (fun h => by omega)).trans (hc k t ht)
      have hki : (k : Int) < (T.length : Int) := by omega
      have hk9 : (k : Int) < 100000 := by omega
      have htm := HTm.out t (List.mem_of_getElem? ht)
      have hlen : ((T.take k).foldl dropT L).length ≤ 100000 := by rw [dropAll]; exact Nat.le_trans (List.length_filter_le _ _) hl
      have HD := hidIn (drop_ok t (wf9 (by omega)) r1 hp hlen)
      have HN : Hid ((T.take (k + 1)).foldl dropT L = dropT ((T.take k).foldl dropT L) t) := hidIn (by rw [take_snoc ht, List.foldl_append]; rfl)
      have R2 := hidIn r2
      clear hc ht r1 r2
      go_wp2_with fail
      refine HD.out.mono ?_
      rintro e w2 ⟨rfl, hC2, hF2⟩
      have C2 := hidIn hC2
      have F2 := hidIn hF2
      clear hC2 hF2 HD x0
      go_wp2
      go_roundw
      case rel => exact ⟨k + 1, by omega, by go_num, hidIn ⟨by rw [HN.out]; exact C2.out, R2.out.trans F2.out⟩⟩
      case measure => simp [intOf]; omega
    · have hke : k = T.length := by omega
      have hki : ¬ ((k : Int) < (T.length : Int)) := by omega
      rw [hke, List.take_length, HLe.out] at r1
      have R1 := hidIn (r1.mono (T := S) (fun _ _ h => h.1))
      have R2 : Hid (Fr (fun j => S j ∨ j = ab) w wr) := hidIn (by
        exact (HB.out.mono (fun _ _ h => .inr h)).trans (r2.mono (fun _ _ h => .inl h.1)))
      have R3 := hidIn (HAsk.out.fr r2 (fun h => Hab.out.2.2.1 h.1) (fun h => Hab.out.2.2.2 h.1) (fun j hj h => by have := (HAsk.out.r.lt j hj).1; omega))
      clear r1 r2 hke
      go_wp2
      go_returns
      exact ⟨rfl, R1.out, ⟨_, R3.out⟩, R2.out⟩
end Go.Proofs.Ytaldehgggilmdaa.Ca.S
