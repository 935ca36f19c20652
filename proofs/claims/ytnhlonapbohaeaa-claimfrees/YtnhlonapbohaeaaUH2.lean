/- The document's Free. -/
import Derived.Test.YtnhlonapbohaeaaUF
import Derived.Test.YtnhlonapbohaeaaUH1
namespace Go.Proofs.Ytnhlonapbohaeaa
open Go.RowKit

set_option maxRecDepth 100000 in
set_option maxHeartbeats 2000000 in
theorem dfree_T {T : List (Int × List Int)} {v : Value} {w : World} (h : TAt w v T) (hl : T.length ≤ 100000) :
    Calls Try.prog 13 #[v] w fun e w' => (∃ u, e = .returned u ∧ TAt w' u (freeT T)) ∧ Below w.heap.size w w' := by
  obtain ⟨L, h1, h2⟩ := h
  have hlen : L.length = T.length := by rw [← h2, List.length_map]
  obtain ⟨a, cap, rfl, hn, _, hat⟩ := h1.r.clms
  have Ha := hidIn hat
  have HA := hidIn h1.a
  have H2 := hidIn h2
  obtain ⟨n, hnn⟩ : ∃ n, L.length = n := ⟨_, rfl⟩
  rw [hnn] at hn ⊢
  have Hn := hidIn hnn
  have hn2 : n ≤ 100000 := by omega
  have HTl : Hid (T.length = n) := hidIn (by omega)
  clear hat h1 h2 hnn hlen hl
  go_enter Try.func13, Try.ntmps13
  go_wp2_with fail
  go_loopw [3, 4] (fun u i wr => ∃ (k : Nat) (F : List Cl) (fn : Nat), k ≤ n ∧ i = .int .i64 k ∧ (∃ a c, u = .slice a fn c) ∧ Hid (Below w.heap.size w wr ∧ wr.ownsRow w.heap.size 33 2 u fn (fl clc F) ∧ F.length = fn ∧ fn ≤ k ∧ cls F = freeT (T.take k) ∧ ∀ x ∈ F, SlAt ic 1 w x.2.2 x.2.1 ∧ NilOk x.2.2)) (fun _ i _ => n - (intOf i).toNat)
  case atStart => exact ⟨0, [], 0, Nat.zero_le _, rfl, ⟨none, 0, rfl⟩, hidIn ⟨Below.refl _ _, World.ownsRow_nil _ _ _ _, rfl, Nat.le_refl _, rfl, fun _ h => absurd h List.not_mem_nil⟩⟩
  case round =>
    obtain ⟨k, F, fn, hk, rfl, ⟨ua, uc, rfl⟩, HR⟩ := hrel
    obtain ⟨hb, hu, hFl, hfk, hFc, hFr⟩ := HR.out
    clear HR
    by_cases hlt : k < n
    · obtain ⟨bk, o, rfl, hbk, hcell⟩ := Ha.out (by have := Hn.out; omega)
      obtain ⟨⟨id, xs, xv⟩, hz⟩ : ∃ z, L[k]? = some z := ⟨L[k]'(by have := Hn.out; omega), List.getElem?_eq_getElem _⟩
      obtain ⟨q0, q1⟩ := hcell k _ hz
      have hxa := HA.out _ (List.mem_of_getElem? hz)
      simp only at q0 q1 hxa
      have hTk : T[k]? = some (id, xs) := by rw [← H2.out, List.getElem?_map, hz]; rfl
      have c0 := (hb.cell (p := ⟨bk, o + k * 2, none⟩) hbk).trans q0
      have c1 := (hb.cell (p := ⟨bk, o + k * 2 + 1, none⟩) hbk).trans q1
      have HXa := hidIn hxa
      obtain ⟨xa, xc, hxv, _⟩ := hxa.1
      subst hxv
      have hki : (k : Int) < (n : Int) := by omega
      have HT1 := hidIn (take_snoc hTk)
      obtain ⟨xn, hxn'⟩ : ∃ xn, xs.length = xn := ⟨_, rfl⟩
      have Hxn := hidIn hxn'
      rw [hxn'] at c1
      by_cases hone : xn = 1
      · subst hone
        obtain ⟨g, gc, w6, hrun, hown, hb6, hF6⟩ := append_clm hu (id, xs, .slice xa xs.length xc) rfl (by omega) hb.size
        rw [hxn'] at hrun
        have HO : Hid (Below w.heap.size w w6 ∧ w6.ownsRow w.heap.size 33 2 (.slice (some ⟨g, 0, none⟩) (fn + 1) gc) (fn + 1) (fl clc (F ++ [(id, xs, .slice xa xs.length xc)])) ∧ (F ++ [(id, xs, Value.slice xa xs.length xc)]).length = fn + 1 ∧ fn + 1 ≤ k + 1 ∧ cls (F ++ [(id, xs, Value.slice xa xs.length xc)]) = freeT (T.take (k + 1)) ∧ ∀ x ∈ F ++ [(id, xs, Value.slice xa xs.length xc)], SlAt ic 1 w x.2.2 x.2.1 ∧ NilOk x.2.2) := hidIn (by
          refine ⟨hb.trans hb6, hown, by rw [List.length_append, hFl]; rfl, by omega, by rw [HT1.out, freeT_yes _ (by simp only; exact hxn'), ← hFc, cls, List.map_append]; rfl, fun x hx => ?_⟩
          rcases List.mem_append.1 hx with hx | hx
          · exact hFr x hx
          · rw [List.mem_singleton.1 hx]
            exact HXa.out)
        have HRun := hidIn hrun
        clear hcell q0 q1 hxa hz hTk hb hu hFl hFc hFr hrun hown hb6 hF6 hxn' hfk
        go_wp2_with (refine l_append rfl _ _ 23 rfl HRun.out ?_)
        go_roundw
        case rel => exact ⟨k + 1, _, fn + 1, by omega, by go_num, ⟨_, _, rfl⟩, HO⟩
        case measure => simp [intOf]; omega
      · have hi : ((xn : Int) == 1) = false := by simpa using (show ¬ (xn : Int) = 1 by omega)
        have HO : Hid (Below w.heap.size w wr ∧ wr.ownsRow w.heap.size 33 2 (.slice ua fn uc) fn (fl clc F) ∧ F.length = fn ∧ fn ≤ k + 1 ∧ cls F = freeT (T.take (k + 1)) ∧ ∀ x ∈ F, SlAt ic 1 w x.2.2 x.2.1 ∧ NilOk x.2.2) := hidIn ⟨hb, hu, hFl, by omega, by rw [HT1.out, freeT_no _ (by simp only; rw [hxn']; exact hone), hFc], hFr⟩
        clear hcell q0 q1 hxa hz hTk hb hu hFl hFc hFr hxn' hone hfk
        go_wp2_with fail
        go_roundw
        case rel => exact ⟨k + 1, F, fn, by omega, by go_num, ⟨_, _, rfl⟩, HO⟩
        case measure => simp [intOf]; omega
    · have hke : T.take k = T := List.take_of_length_le (by have := HTl.out; omega)
      rw [hke] at hFc
      have hki : ¬ ((k : Int) < (n : Int)) := by omega
      have HE : Hid (TAt wr (.slice ua fn uc) (freeT T) ∧ Below w.heap.size w wr) := hidIn ⟨⟨F, ⟨slAt_of_row (cs := clc) (fun _ => rfl) hu hFl, fun x hx => ⟨(hFr x hx).1.keep hb (Nat.le_refl _), (hFr x hx).2⟩⟩, hFc⟩, hb⟩
      clear hb hu hFl hfk hFc hFr hke
      go_wp2_with fail
      go_ret
      exact ⟨⟨_, rfl, HE.out.1⟩, HE.out.2⟩
end Go.Proofs.Ytnhlonapbohaeaa
