/- The document's All. -/
import Derived.Test.YtnhlonapbohaeaaUG0
import Derived.Test.YtnhlonapbohaeaaUGT
import Derived.Test.YtnhlonapbohaeaaGU1
namespace Go.Proofs.Ytnhlonapbohaeaa
open Go.RowKit

/-- Those behind the first records. -/
def docJ (rs : List Rc) (id : Int) (m j : Nat) : List Int := docR rs id m ++ ((rs.take j).filter fun r => decide (r.origin = (m : Int) + 1) && decide (r.claim = id)).map fun _ => (m : Int) + 1
theorem docJ_zero (rs : List Rc) (id : Int) (m : Nat) : docJ rs id m 0 = docR rs id m := by simp [docJ]
theorem docJ_all (rs : List Rc) (id : Int) (m : Nat) : docJ rs id m rs.length = docR rs id (m + 1) := by unfold docJ; rw [List.take_length, docR_succ]
theorem docJ_yes {rs : List Rc} {id : Int} {m j : Nat} {r : Rc} (hr : rs[j]? = some r) (h1 : r.origin = (m : Int) + 1) (h2 : r.claim = id) : docJ rs id m (j + 1) = docJ rs id m j ++ [(m : Int) + 1] := by
  unfold docJ
  rw [take_snoc hr, List.filter_append, List.map_append, List.append_assoc]
  simp [h1, h2]
theorem docJ_no {rs : List Rc} {id : Int} {m j : Nat} {r : Rc} (hr : rs[j]? = some r) (h : ¬ (r.origin = (m : Int) + 1 ∧ r.claim = id)) : docJ rs id m (j + 1) = docJ rs id m j := by
  unfold docJ
  rw [take_snoc hr, List.filter_append, List.map_append]
  have : (decide (r.origin = (m : Int) + 1) && decide (r.claim = id)) = false := by
    cases h1 : decide (r.origin = (m : Int) + 1)
    · rfl
    · cases h2 : decide (r.claim = id)
      · rfl
      · exact absurd ⟨of_decide_eq_true h1, of_decide_eq_true h2⟩ h
  simp [this]
theorem docJ_len (rs : List Rc) (id : Int) (m j : Nat) (hm : m ≤ 24) : (docJ rs id m j).length ≤ 25 * rs.length := by
  have key : ∀ k, (docR rs id k).length ≤ k * rs.length := fun k => by
    induction k with
    | zero => simp [docR]
    | succ k ih =>
      rw [docR_succ, List.length_append, List.length_map, Nat.succ_mul]
      have := List.length_filter_le (fun r : Rc => decide (r.origin = (k : Int) + 1) && decide (r.claim = id)) rs
      omega
  unfold docJ
  rw [List.length_append, List.length_map]
  have h1 := List.length_filter_le (fun r : Rc => decide (r.origin = (m : Int) + 1) && decide (r.claim = id)) (rs.take j)
  have h2 : (rs.take j).length ≤ rs.length := by rw [List.length_take]; omega
  have h3 := key m
  have h4 : m * rs.length ≤ 24 * rs.length := Nat.mul_le_mul_right _ hm
  omega
/-- One id's claim in the making. -/
structure DcM (w0 wz : World) (id : Int) (l : List Int) : Prop where
  c : ∃ a cp, wz.heap[w0.heap.size]? = some (.cells #[.int .i64 id, .slice a l.length cp] 33) ∧ wz.ownsRow (w0.heap.size + 1) 3 1 (.slice a l.length cp) l.length (fl ic l)
  b : Below w0.heap.size w0 wz
  s : w0.heap.size + 1 ≤ wz.heap.size
set_option maxRecDepth 100000 in
set_option maxHeartbeats 8000000 in
theorem dall_any {l : List (Rc × Value)} {v : Value} {w : World} (h : RecsAt w v l) (hg : ∀ y ∈ l, RecG w y) (hlen : l.length ≤ 1000) :
    Calls Try.prog 8 #[v] w fun e w' => AllA w w' (rcs l) e ∧ Below w.heap.size w w' := by
  have HUn := hidIn (unlike_any h hg)
  obtain ⟨a, cap, rfl, hl, _, hat⟩ := h.r.recs
  have Ha := hidIn hat
  obtain ⟨ok, hok⟩ : ∃ ok, bothOk no1 (rcs l) = ok := ⟨_, rfl⟩
  rw [hok] at HUn
  have Hok := hidIn hok
  obtain ⟨n, hn⟩ : ∃ n, l.length = n := ⟨_, rfl⟩
  have Hn := hidIn hn
  rw [hn] at HUn hl hlen ⊢
  clear h hg hat hok hn
  go_enter Try.func8, Try.ntmps8
  go_wp2_with fail
  refine HUn.out.mono ?_
  rintro e w1 ⟨rfl, hb1⟩
  have HB1 := hidIn hb1
  clear hb1 HUn
  cases ok
  · go_wp2_with fail
    go_ret2
    exact ⟨.inr ⟨Hok.out, rfl⟩, HB1.out⟩
  · go_wp2_with fail
    go_loopw [4, 5] (fun u i wr => ∃ (k : Nat) (L : List (Int × List Int × Value)), k ≤ 1024 ∧ i = .int .i64 ((k : Int) + 1) ∧ (∃ a c, u = .slice a L.length c) ∧ Hid (Below w.heap.size w wr ∧ wr.ownsRow w.heap.size 33 2 u L.length (fl clc L) ∧ L.length ≤ k ∧ cls L = docA (rcs l) k ∧ ∀ x ∈ L, wr.ownsRow w.heap.size 3 1 x.2.2 x.2.1.length (fl ic x.2.1))) (fun _ i _ => 1025 - (intOf i).toNat)
    case atStart => exact ⟨0, [], Nat.zero_le _, rfl, ⟨none, 0, rfl⟩, hidIn ⟨HB1.out, World.ownsRow_nil _ _ _ _, Nat.le_refl _, rfl, fun _ h => absurd h List.not_mem_nil⟩⟩
    case round =>
      clear HB1
      obtain ⟨k, L, hk, rfl, ⟨ua, uc, rfl⟩, HR⟩ := hrel
      by_cases hlt : k < 1024
      · have hki : (k : Int) + 1 ≤ 1024 := by omega
        obtain ⟨W1, hW1⟩ : ∃ W1, wr.alloc (.cells #[.int .i64 ((k : Int) + 1), .slice none 0 0] 33) = W1 := ⟨_, rfl⟩
        have hX : W1.heap[wr.heap.size]? = some (.cells #[.int .i64 ((k : Int) + 1), .slice none 0 0] 33) := by rw [← hW1]; exact heap_alloc_last wr _
        have HD0 : Hid (DcM wr W1 ((k : Int) + 1) (docR (rcs l) ((k : Int) + 1) 0)) := hidIn ⟨⟨none, 0, hX, World.ownsRow_nil _ _ _ _⟩, by rw [← hW1]; exact (Below.refl _ wr).alloc (Nat.le_refl _) _, by rw [← hW1]; simp⟩
        obtain ⟨br, hbr⟩ : ∃ br, wr.heap.size = br := ⟨_, rfl⟩
        have HW := hidIn hW1
        have Hbr := hidIn hbr
        clear hX hW1
        go_upto_region 8 with fail
        rw [HW.out]
        clear HW hbr
        go_wp2_with fail
        generalize hwo : wr = wo at *
        clear hwo
        go_loopw [7] (fun i wz => ∃ m : Nat, m ≤ 24 ∧ i = .int .i64 ((m : Int) + 1) ∧ Hid (DcM wo wz ((k : Int) + 1) (docR (rcs l) ((k : Int) + 1) m))) (fun i _ => 25 - (intOf i).toNat)
        case atStart => exact ⟨0, Nat.zero_le _, rfl, HD0⟩
        case round =>
          clear HD0
          obtain ⟨m, hm, rfl, HD⟩ := hrel
          by_cases hltm : m < 24
          · have hmi : (m : Int) + 1 ≤ 24 := by omega
            have HD' : Hid (DcM wo wr ((k : Int) + 1) (docJ (rcs l) ((k : Int) + 1) m 0)) := hidIn (by rw [docJ_zero]; exact HD.out)
            clear HD
            go_wp2_with fail
            go_loopw [8] (fun i wz => ∃ j : Nat, j ≤ n ∧ i = .int .i64 j ∧ Hid (DcM wo wz ((k : Int) + 1) (docJ (rcs l) ((k : Int) + 1) m j))) (fun i _ => n - (intOf i).toNat)
            case atStart => exact ⟨0, Nat.zero_le _, rfl, HD'⟩
            case round =>
              clear HD'
              obtain ⟨j, hj, rfl, HD⟩ := hrel
              by_cases hltj : j < n
              · obtain ⟨bk, o, rfl, hbk, hcell⟩ := Ha.out (by have := Hn.out; omega)
                obtain ⟨⟨⟨orig, epo, sq, cl, ig, as'⟩, va⟩, hz⟩ : ∃ z, l[j]? = some z := ⟨l[j]'(by have := Hn.out; omega), List.getElem?_eq_getElem _⟩
                obtain ⟨q0, _, _, q3, _, _⟩ := hcell j _ hz
                have hbw : Below w.heap.size w wr := HR.out.1.trans (HD.out.b.mono HR.out.1.size)
                have c0 := (hbw.cell (p := ⟨bk, o + j * 6, none⟩) hbk).trans q0
                have c3 := (hbw.cell (p := ⟨bk, o + j * 6 + 3, none⟩) hbk).trans q3
                simp only at c0 c3
                have Hz : Hid ((rcs l)[j]? = some ⟨orig, epo, sq, cl, ig, as'⟩) := hidIn (by rw [rcs, List.getElem?_map, hz]; rfl)
                have hji : (j : Int) < (n : Int) := by omega
                clear hcell q0 q3 hz hbw
                by_cases ho : orig = (m : Int) + 1
                · have ho1 : (orig == (m : Int) + 1) = true := by simpa using ho
                  by_cases hcl : cl = (k : Int) + 1
                  · have hc1 : (cl == (k : Int) + 1) = true := by simpa using hcl
                    have HJ := hidIn (docJ_yes Hz.out ho hcl)
                    have hjl := docJ_len (rcs l) ((k : Int) + 1) m j (by omega)
                    have hjn : (rcs l).length ≤ 1000 := by rw [rcs, List.length_map, Hn.out]; omega
                    obtain ⟨⟨ca, cp, hX, hrw⟩, hDb, hDs⟩ := HD.out
                    obtain ⟨g, gc, w6, hrun, hown, _, _, hb6⟩ := append_int hrw ((m : Int) + 1) (by omega) hDs
                    have hX6 := (hb6.block _ (Nat.lt_succ_self _)).trans hX
                    have x1 := cell_of_row _ _ 1 _ _ _ hX
                    have y1 := cell_of_row _ _ 1 _ _ _ hX6
                    have yf := frozen_new hX6 1
                    simp at x1 y1
                    rw [Hbr.out] at x1 y1 yf
                    have hX7 := heap_setCell_same w6 wo.heap.size 1 _ _ (.slice (some ⟨g, 0, none⟩) ((docJ (rcs l) ((k : Int) + 1) m j).length + 1) gc) hX6
                    simp at hX7
                    have hF7 : Fr (fun i => i = wo.heap.size) w6 (w6.setCell ⟨wo.heap.size, 1, none⟩ (.slice (some ⟨g, 0, none⟩) ((docJ (rcs l) ((k : Int) + 1) m j).length + 1) gc)) := (Fr.refl (fun i => i = wo.heap.size) w6).set (p := ⟨wo.heap.size, 1, none⟩) rfl _
                    have HD7 : Hid (DcM wo (w6.setCell ⟨wo.heap.size, 1, none⟩ (.slice (some ⟨g, 0, none⟩) ((docJ (rcs l) ((k : Int) + 1) m j).length + 1) gc)) ((k : Int) + 1) (docJ (rcs l) ((k : Int) + 1) m (j + 1))) := hidIn (by
                      rw [HJ.out]
                      refine ⟨⟨some ⟨g, 0, none⟩, gc, by rw [List.length_append]; exact hX7, ?_⟩, hDb.trans ((hb6.mono (Nat.le_succ _)).setCell (p := ⟨wo.heap.size, 1, none⟩) (Nat.le_refl _) _), by have := hb6.size; simp; omega⟩
                      rw [List.length_append, List.length_singleton]
                      exact row_fr hown hF7 (fun i hi e => by have := (hown.lt i hi).1; omega))
                    obtain ⟨jn, hjn'⟩ : ∃ jn, (docJ (rcs l) ((k : Int) + 1) m j).length = jn := ⟨_, rfl⟩
                    rw [hjn'] at hrun x1 y1 HD7
                    rw [Hbr.out] at HD7
                    obtain ⟨W7, hW7⟩ : ∃ W7, w6.setCell ⟨br, 1, none⟩ (.slice (some ⟨g, 0, none⟩) (jn + 1) gc) = W7 := ⟨_, rfl⟩
                    rw [hW7] at HD7
                    have HW7 := hidIn hW7
                    have HRun := hidIn hrun
                    clear HD hX hrw hDb hDs hrun hown hb6 hX6 hX7 hF7 hjl hjn hjn' hW7 HJ ho hcl
                    go_wp2_with (refine l_append rfl _ _ 30 rfl HRun.out ?_)
                    rw [HW7.out]
                    go_roundw
                    case rel => exact ⟨j + 1, by omega, by go_num, HD7⟩
                    case measure => simp [intOf]; omega
                  · have hc1 : (cl == (k : Int) + 1) = false := by simpa using hcl
                    have HD7 : Hid (DcM wo wr ((k : Int) + 1) (docJ (rcs l) ((k : Int) + 1) m (j + 1))) := hidIn (by rw [docJ_no Hz.out (fun e => hcl e.2)]; exact HD.out)
                    clear HD ho hcl
                    go_wp2_with fail
                    go_roundw
                    case rel => exact ⟨j + 1, by omega, by go_num, HD7⟩
                    case measure => simp [intOf]; omega
                · have ho1 : (orig == (m : Int) + 1) = false := by simpa using ho
                  have HD7 : Hid (DcM wo wr ((k : Int) + 1) (docJ (rcs l) ((k : Int) + 1) m (j + 1))) := hidIn (by rw [docJ_no Hz.out (fun e => ho e.1)]; exact HD.out)
                  clear HD ho
                  go_wp2_with fail
                  go_roundw
                  case rel => exact ⟨j + 1, by omega, by go_num, HD7⟩
                  case measure => simp [intOf]; omega
              · have hji : ¬ ((j : Int) < (n : Int)) := by omega
                have HD2 : Hid (DcM wo wr ((k : Int) + 1) (docR (rcs l) ((k : Int) + 1) (m + 1))) := hidIn (by
                  have e := docJ_all (rcs l) ((k : Int) + 1) m
                  rw [show (rcs l).length = j by rw [rcs, List.length_map, Hn.out]; omega] at e
                  rw [← e]
                  exact HD.out)
                clear HD
                go_wp2_with fail
                go_roundw
                case rel => exact ⟨m + 1, by omega, by go_num, HD2⟩
                case measure => simp [intOf]; omega
          · have hme : m = 24 := by omega
            have hmi : ¬ ((m : Int) + 1 ≤ 24) := by omega
            have hD24 : DcM wo wr ((k : Int) + 1) (docR (rcs l) ((k : Int) + 1) 24) := by rw [hme] at HD; exact HD.out
            have HS := hidIn (docA_succ (rcs l) k)
            have hdl : (docR (rcs l) ((k : Int) + 1) 24).length ≤ 25000 := by
              have := docJ_len (rcs l) ((k : Int) + 1) 24 0 (Nat.le_refl _)
              rw [docJ_zero] at this
              have hjn : (rcs l).length ≤ 1000 := by rw [rcs, List.length_map, Hn.out]; omega
              omega
            generalize docR (rcs l) ((k : Int) + 1) 24 = ds at hD24 HS hdl
            clear HD hme
            obtain ⟨⟨ca, cp, hX, hrw⟩, hDb, hDs⟩ := hD24
            obtain ⟨hbo, hu, hLk, hLc, hLr⟩ := HR.out
            have x0 := cell_of_row _ _ 0 _ _ _ hX
            have x1 := cell_of_row _ _ 1 _ _ _ hX
            simp at x0 x1
            rw [Hbr.out] at x0 x1
            have hbr' : Below w.heap.size w wr := hbo.trans (hDb.mono hbo.size)
            have hu' := row_below hu hDb (Nat.le_refl _)
            obtain ⟨dn, hdn⟩ : ∃ dn, ds.length = dn := ⟨_, rfl⟩
            rcases Nat.eq_zero_or_pos dn with h0 | h0
            · have hds : ds = [] := List.length_eq_zero_iff.1 (by omega)
              subst hds
              have HO : Hid (Below w.heap.size w wr ∧ wr.ownsRow w.heap.size 33 2 (.slice ua L.length uc) L.length (fl clc L) ∧ L.length ≤ k + 1 ∧ cls L = docA (rcs l) (k + 1) ∧ ∀ x ∈ L, wr.ownsRow w.heap.size 3 1 x.2.2 x.2.1.length (fl ic x.2.1)) := hidIn ⟨hbr', hu', by omega, by rw [HS.out, hLc]; simp, fun x hx => row_below (hLr x hx) hDb (Nat.le_refl _)⟩
              simp only [List.length_nil] at x1
              clear hX hrw hDb hDs hbo hu hLk hLc hLr hbr' hu' hdn h0 HS HR
              go_wp2_with fail
              go_roundw
              case rel => exact ⟨k + 1, L, by omega, by go_num, ⟨_, _, rfl⟩, HO⟩
              case measure => simp [intOf]; omega
            · have hdi : (0 : Int) < (dn : Int) := by omega
              obtain ⟨g, gc, w6, hrun, hown, hb6, hF6⟩ := append_clm hu' ((k : Int) + 1, ds, .slice ca dn cp) rfl (by omega) hbr'.size
              have hnI : ∀ {base i : Nat} {x : Value} {xs : List Value}, wr.ownsRow base 3 1 x i xs → w6.ownsRow base 3 1 x i xs := fun {base i x xs} hx => row_fr hx hF6 (fun i hi e => by
                obtain ⟨cur, h1⟩ := crowTy hx hi
                obtain ⟨cur', h2⟩ := crowTy hu' e
                rw [h1] at h2
                simp only [Option.some.injEq, Obj.cells.injEq] at h2
                exact absurd h2.2.1 (by decide))
              have hne : ds.isEmpty = false := by cases ds with | nil => simp at hdn; omega | cons x y => rfl
              have HO : Hid (Below w.heap.size w w6 ∧ w6.ownsRow w.heap.size 33 2 (.slice (some ⟨g, 0, none⟩) (L.length + 1) gc) (L.length + 1) (fl clc (L ++ [((k : Int) + 1, ds, .slice ca dn cp)])) ∧ L.length + 1 ≤ k + 1 ∧ cls (L ++ [((k : Int) + 1, ds, .slice ca dn cp)]) = docA (rcs l) (k + 1) ∧ ∀ x ∈ L ++ [((k : Int) + 1, ds, .slice ca dn cp)], w6.ownsRow w.heap.size 3 1 x.2.2 x.2.1.length (fl ic x.2.1)) := hidIn (by
                refine ⟨hbr'.trans hb6, hown, by omega, by rw [HS.out, ← hLc, hne, cls, List.map_append]; rfl, fun x hx => ?_⟩
                rcases List.mem_append.1 hx with hx | hx
                · exact hnI (row_below (hLr x hx) hDb (Nat.le_refl _))
                · rw [List.mem_singleton.1 hx]
                  refine hnI ?_
                  show wr.ownsRow _ _ 1 (.slice ca dn cp) ds.length _
                  have := row_low hrw (show w.heap.size ≤ wo.heap.size + 1 by have := hbo.size; omega)
                  rw [hdn] at this ⊢
                  exact this)
              rw [hdn] at x1
              have HRun := hidIn hrun
              have hLl : (L ++ [((k : Int) + 1, ds, Value.slice ca dn cp)]).length = L.length + 1 := by simp
              rw [← hLl] at HO
              have HL := hidIn hLl
              clear hX hrw hDb hDs hbo hu hLk hLc hLr hbr' hu' hdn h0 HS HR hrun hown hb6 hF6 hnI hne hLl
              go_wp2_with (refine l_append rfl _ _ 23 rfl HRun.out ?_)
              go_roundw
              case rel => exact ⟨k + 1, _, by omega, by go_num, ⟨_, _, by rw [HL.out]⟩, by rw [← HL.out]; exact HO⟩
              case measure => simp [intOf]; omega
      · have hke : k = 1024 := by omega
        have hki : ¬ ((k : Int) + 1 ≤ 1024) := by omega
        obtain ⟨hbo, hu, hLk, hLc, hLr⟩ := HR.out
        have HE : Hid (ClsAns w wr (allC (rcs l)) (.slice ua L.length uc) ∧ Below w.heap.size w wr) := hidIn ⟨⟨L, hu, by rw [hLc, hke, docA_all Hok.out], hLr⟩, hbo⟩
        clear hbo hu hLk hLc hLr HR hke
        go_wp2_with fail
        go_ret2
        exact ⟨.inl ⟨Hok.out, _, rfl, HE.out.1⟩, HE.out.2⟩
end Go.Proofs.Ytnhlonapbohaeaa
