/- A store filled. -/
import Derived.Test.YtllmocfiobbofaaN7
namespace Go.Proofs.Ytllmocfiobbofaa
open Go.RowKit Go.Maps

/-- A store that was made. -/
def FilAns (w w' : World) (rs : List Rc) (e : Ending) : Prop := ∃ S M f, e = .returned (ptr S) ∧ StAt w' S M 40 f ∧ fR f = runR rs ∧ w.heap.size ≤ S ∧ w.heap.size ≤ M
def ordT (t : Bool) (l : List Te) : List Rc := (if t = true then l.reverse else l).map tellR
theorem SlAt.tes {w : World} {v : Value} {l : List Te} (h : SlAt te4 4 w v l) : ∃ a cap, v = .slice a l.length cap ∧ l.length ≤ 9223372036854775807 ∧ l.length ≤ cap ∧ (0 < l.length → ∃ bk o, a = some ⟨bk, o, none⟩ ∧ bk < w.heap.size ∧ ∀ j x, l[j]? = some x → w.cell? ⟨bk, o + j * 4, none⟩ = some (.int .u8 x.1) ∧ w.cell? ⟨bk, o + j * 4 + 1, none⟩ = some (.int .u8 x.2.1) ∧ w.cell? ⟨bk, o + j * 4 + 2, none⟩ = some (.int .u8 x.2.2.1) ∧ w.cell? ⟨bk, o + j * 4 + 3, none⟩ = some (.int .u8 x.2.2.2)) := by
  obtain ⟨a, cap, rfl, h0, h1, h2⟩ := h
  refine ⟨a, cap, rfl, h0, h1, fun hp => ?_⟩
  obtain ⟨bk, o, rfl, h3, h4⟩ := h2 hp
  exact ⟨bk, o, rfl, h3, fun j z hz => ⟨h4 j z hz 0 _ rfl, h4 j z hz 1 _ rfl, h4 j z hz 2 _ rfl, h4 j z hz 3 _ rfl⟩⟩
theorem ordT_at {t : Bool} {l : List Te} {k : Nat} (hk : k < l.length) : ∃ j x, j < l.length ∧ l[j]? = some x ∧ (ordT t l)[k]? = some (tellR x) ∧ j = (if t = true then l.length - 1 - k else k) := by
  unfold ordT
  cases t with
  | false => exact ⟨k, l[k], hk, List.getElem?_eq_getElem hk, by simp [hk], by simp⟩
  | true =>
    refine ⟨l.length - 1 - k, l[l.length - 1 - k], by omega, List.getElem?_eq_getElem _, ?_, by simp⟩
    simp only [if_true, List.getElem?_map]
    rw [List.getElem?_reverse hk, List.getElem?_eq_getElem (by omega)]
    rfl
set_option maxRecDepth 100000 in
set_option maxHeartbeats 2000000 in
theorem filled_any {L : List Te} {v : Value} {t : Bool} {w : World} (h : SlAt te4 4 w v L) (hB : TeB L) :
    Calls Try.prog 31 #[v, .bool t] w fun e w' => FilAns w w' (ordT t (L.take 40)) e ∧ Below w.heap.size w w' := by
  obtain ⟨aa, cap, rfl, hl, _, hat⟩ := h.tes
  obtain ⟨LL, hLL⟩ : ∃ LL, L.length = LL := ⟨_, rfl⟩
  obtain ⟨n, hn⟩ : ∃ n, min LL 40 = n := ⟨_, rfl⟩
  have hTn : (L.take 40).length = n := by rw [List.length_take, hLL]; omega
  rw [hLL] at hat hl ⊢
  have hmin : (if (40 : Int) < (LL : Int) then (40 : Int) else (LL : Int)) = (n : Int) := by split <;> omega
  have hnL : n ≤ LL := by omega
  have hn40 : n ≤ 40 := by omega
  have hO : (ordT t (L.take 40)).length = n := by unfold ordT; cases t <;> simp <;> omega
  have HEl : Hid (∀ k, k < n → ∃ j x, j < n ∧ L[j]? = some x ∧ (ordT t (L.take 40))[k]? = some (tellR x) ∧ j = (if t = true then n - 1 - k else k)) := hidIn fun k hk => by
    obtain ⟨j, x, h1, h2, h3, h4⟩ := ordT_at (t := t) (l := L.take 40) (k := k) (by omega)
    rw [hTn] at h1 h4
    rw [List.getElem?_take] at h2
    split at h2
    · exact ⟨j, x, h1, h2, h3, h4⟩
    · cases h2
  have Hat := hidIn hat
  have HBt := hidIn hB
  generalize ordT t (L.take 40) = O at hO HEl ⊢
  have HO := hidIn hO
  clear hat h hB hLL hn hTn hO
  go_enter Try.func31, Try.ntmps31
  go_wp2_with fail
  refine (snew_any _).mono ?_
  rintro e w1 ⟨⟨S, M, rfl, h1, hS, hM⟩, hb1⟩
  have H1 := hidIn h1
  have HB1 := hidIn hb1
  have HSM := hidIn (And.intro hS hM)
  clear h1 hb1 hS hM
  go_wp2_with fail
  go_loopw [7] (fun i wr => ∃ k : Nat, k ≤ n ∧ i = .int .i64 k ∧ Hid (∃ f, StAt wr S M k f ∧ fR f = runR (O.take k) ∧ Below w.heap.size w wr)) (fun i _ => n - (intOf i).toNat)
  case atStart => exact ⟨0, Nat.zero_le _, rfl, hidIn ⟨_, H1.out, rfl, HB1.out⟩⟩
  case round =>
    clear H1 HB1
    obtain ⟨k, hk, rfl, HR⟩ := hrel
    by_cases hlt : k < n
    · have hki : (k : Int) < (n : Int) := by omega
      obtain ⟨f, hst, hf, hbel⟩ := HR.out
      obtain ⟨j, x, hj, hx, hOk, hjt⟩ := HEl.out k hlt
      obtain ⟨bk, o, rfl, hbk, hcell⟩ := Hat.out (by omega)
      obtain ⟨q0, q1, q2, q3⟩ := hcell j x hx
      have hxB := HBt.out x (List.mem_of_getElem? hx)
      have p0 := (hbel.cell (p := ⟨bk, o + j * 4, none⟩) hbk).trans q0
      have p1 := (hbel.cell (p := ⟨bk, o + j * 4 + 1, none⟩) hbk).trans q1
      have p2 := (hbel.cell (p := ⟨bk, o + j * 4 + 2, none⟩) hbk).trans q2
      have p3 := (hbel.cell (p := ⟨bk, o + j * 4 + 3, none⟩) hbk).trans q3
      obtain ⟨xA, xB, xC, xD⟩ := x
      simp only at p0 p1 p2 p3 hxB
      have HOf := hidIn (fun wq => lof_any hxB.1 hxB.2.1 hxB.2.2.1 hxB.2.2.2 wq)
      have hok := tellR_ok (x := (xA, xB, xC, xD)) hxB.2.2.2
      have HT : Hid (O.take (k + 1) = O.take k ++ [tellR (xA, xB, xC, xD)]) := hidIn (by rw [List.take_add_one, hOk]; rfl)
      have hr0 : (tellR (xA, xB, xC, xD)).adjs = [] := rfl
      generalize tellR (xA, xB, xC, xD) = r at HOf hok HT hr0
      have Hst := hidIn hst
      have Hf := hidIn hf
      have HBel := hidIn hbel
      have Hok := hidIn hok
      have Hr0 := hidIn hr0
      have hjL : (j : Int) < (LL : Int) := by omega
      have e0 : (if t = true then n - 1 - k else k) = j := hjt.symm
      clear HR hst hf hbel hx hOk hcell q0 q1 q2 q3 hxB hok hr0 hbk hjt
      cases t with
      | false =>
        simp only [Bool.false_eq_true, if_false] at e0
        subst e0
        go_wp2_with fail
        refine (HOf.out _).mono ?_
        rintro e w3 ⟨rfl, hb3⟩
        have HP := hidIn (sputP (Hst.out.keep hb3) (by omega) (r := r) (va := .slice none 0 0) (by rw [Hr0.out]; exact nilAdj w3) (by have := recOk_pos Hok.out; omega))
        have HB3 := hidIn (HBel.out.trans (hb3.mono HBel.out.size))
        clear hb3 HOf p0 p1 p2 p3
        go_wp2_with fail
        refine HP.out.mono ?_
        rintro e w4 ⟨rfl, ⟨f4, h4, e4⟩, hf4⟩
        have HO4 : Hid (∃ f, StAt w4 S M (k + 1) f ∧ fR f = runR (O.take (k + 1)) ∧ Below w.heap.size w w4) := hidIn ⟨f4, h4, by rw [e4, Hf.out, HT.out, runR_snoc], HB3.out.trans (hf4.below HB3.out.size (fun k hk => by rw [hk]; exact HSM.out.2))⟩
        clear h4 e4 hf4 HP HB3
        go_wp2_with fail
        go_roundw
        case rel => exact ⟨k + 1, by omega, by go_num, HO4⟩
        case measure => simp [intOf]; omega
      | true =>
        simp only [if_true] at e0
        have hsub : (n : Int) - 1 - (k : Int) = (j : Int) := by omega
        clear e0
        go_wp2_with fail
        refine (HOf.out _).mono ?_
        rintro e w3 ⟨rfl, hb3⟩
        have HP := hidIn (sputP (Hst.out.keep hb3) (by omega) (r := r) (va := .slice none 0 0) (by rw [Hr0.out]; exact nilAdj w3) (by have := recOk_pos Hok.out; omega))
        have HB3 := hidIn (HBel.out.trans (hb3.mono HBel.out.size))
        clear hb3 HOf p0 p1 p2 p3
        go_wp2_with fail
        refine HP.out.mono ?_
        rintro e w4 ⟨rfl, ⟨f4, h4, e4⟩, hf4⟩
        have HO4 : Hid (∃ f, StAt w4 S M (k + 1) f ∧ fR f = runR (O.take (k + 1)) ∧ Below w.heap.size w w4) := hidIn ⟨f4, h4, by rw [e4, Hf.out, HT.out, runR_snoc], HB3.out.trans (hf4.below HB3.out.size (fun k hk => by rw [hk]; exact HSM.out.2))⟩
        clear h4 e4 hf4 HP HB3
        go_wp2_with fail
        go_roundw
        case rel => exact ⟨k + 1, by omega, by go_num, HO4⟩
        case measure => simp [intOf]; omega
    · have hki : ¬ ((k : Int) < (n : Int)) := by omega
      obtain ⟨f, h1, h2, h3⟩ := HR.out
      have HO2 : Hid (StAt wr S M 40 f ∧ fR f = runR O ∧ Below w.heap.size w wr) := hidIn ⟨h1.mono (by omega), by rw [h2, List.take_of_length_le (by rw [HO.out]; omega)], h3⟩
      clear HR h1 h2 h3
      go_wp2_with fail
      go_ret
      exact ⟨⟨S, M, f, rfl, HO2.out.1, HO2.out.2.1, HSM.out⟩, HO2.out.2.2⟩
end Go.Proofs.Ytllmocfiobbofaa
