/- along: the edges on least-cost ways are told. -/
import Derived.Test.YtgeoghhajjlofaaGreatDoorV4
namespace Go.Proofs.YtgeoghhajjlofaaGreatDoor
open Go.RowKit

/-- What a node costs: no way there is cheaper. -/
def Ds (es : List Ed) (r x c : Int) : Prop := (∃ h, Wy es r x c h) ∧ ∀ c' h', Wy es r x c' h' → c ≤ c'
theorem Ds.uniq {es : List Ed} {r x c c' : Int} (h : Ds es r x c) (k : Ds es r x c') : c = c' := by
  obtain ⟨⟨a, ha⟩, h1⟩ := h
  obtain ⟨⟨b, hb⟩, k1⟩ := k
  have := h1 _ _ hb
  have := k1 _ _ ha
  omega
theorem IsNear.ds {es : List Ed} {r : Int} {P : List (Int × Int)} (h : IsNear es r P) {n : Int × Int} (hn : n ∈ P) : Ds es r n.1 n.2 := by
  refine ⟨h.wp n hn, fun c' h' hw => ?_⟩
  obtain ⟨b, hb, h1, h2⟩ := h.mn _ _ _ hw
  have := nodup_fst h.nd hb hn h1
  rw [this] at h2
  exact h2
theorem cP_at : ∀ {P : List (Int × Int)}, (P.map (·.1)).Nodup → (∀ n ∈ P, 0 ≤ n.1) → ∀ n ∈ P, ∀ c : Nat → Int, (P.foldl (fun c n => put1 c n.1.toNat n.2) c) n.1.toNat = n.2
  | [], _, _, n, hn, _ => by simp at hn
  | a :: P, hd, h0, n, hn, c => by
    rw [List.map_cons, List.nodup_cons] at hd
    rw [List.foldl_cons]
    rcases List.mem_cons.1 hn with rfl | hn
    · have key : ∀ (l : List (Int × Int)) (c : Nat → Int), (∀ b ∈ l, b.1 ≠ n.1 ∧ 0 ≤ b.1) → (l.foldl (fun c n => put1 c n.1.toNat n.2) c) n.1.toNat = c n.1.toNat := by
        intro l
        induction l with
        | nil => intro c _; rfl
        | cons b l ih =>
          intro c hb
          rw [List.foldl_cons, ih _ (fun x hx => hb x (by simp [hx]))]
          have h1 := hb b (by simp)
          have h2 := h0 n (by simp)
          unfold put1
          rw [if_neg (by omega)]
      rw [key P _ (fun b hb => ⟨fun e => hd.1 (List.mem_map.2 ⟨b, hb, e⟩), h0 b (by simp [hb])⟩)]
      simp [put1]
    · exact cP_at hd.2 (fun b hb => h0 b (by simp [hb])) n hn _
theorem IsNear.cP {es : List Ed} {r : Int} {P : List (Int × Int)} (h : IsNear es r P) (h0 : ∀ n ∈ P, 0 ≤ n.1) {n : Int × Int} (hn : n ∈ P) : cP P n.1.toNat = n.2 := cP_at h.nd h0 n hn _
/-- An edge on a least-cost way; c: what the way costs with it. -/
def Tgt (es : List Ed) (r : Int) (e : Ed) (c : Int) : Prop := e ∈ es ∧ Ds es r e.1 (c - e.2.2) ∧ Ds es r e.2.1 c
theorem IsNear.tgt {es : List Ed} {r : Int} {P : List (Int × Int)} (h : IsNear es r P) (h0 : ∀ n ∈ P, 0 ≤ n.1) {e : Ed} (ht : tgt es (Proofs.YtgeoghhajjlofaaGreatDoor.cP P) P e = true) : Tgt es r e (Proofs.YtgeoghhajjlofaaGreatDoor.cP P e.2.1.toNat) := by
  simp only [Proofs.YtgeoghhajjlofaaGreatDoor.tgt, Bool.and_eq_true, decide_eq_true_eq, List.any_eq_true] at ht
  obtain ⟨he, n, hn, h1, h2⟩ := ht
  have hd := h.ds hn
  obtain ⟨hh, hw⟩ := h.wp n hn
  rw [← h1] at hw
  obtain ⟨b, hb, hb1, _⟩ := h.mn _ _ _ (hw.step he)
  have hc := h.cP h0 hb
  rw [hb1] at hc
  refine ⟨he, ?_, ?_⟩
  · rw [← h2, h1]
    have : n.2 + e.2.2 - e.2.2 = n.2 := by omega
    rw [this]
    exact hd
  · rw [hc, ← hb1]
    exact h.ds hb
/-- What is told. -/
def told (es : List Ed) (P : List (Int × Int)) : List (Int × Int) → List Ed
  | [] => []
  | n :: Q => (es.filter fun e => decide (e.1 = n.1) && tgt es (cP P) P e) ++ told es P Q
theorem told_snoc (es : List Ed) (P : List (Int × Int)) : ∀ (Q : List (Int × Int)) (n : Int × Int), told es P (Q ++ [n]) = told es P Q ++ es.filter fun e => decide (e.1 = n.1) && tgt es (cP P) P e
  | [], n => by simp [told]
  | a :: Q, n => by rw [List.cons_append, told, told_snoc es P Q n, told, List.append_assoc]
theorem told_len (es : List Ed) (P : List (Int × Int)) : ∀ Q : List (Int × Int), (told es P Q).length ≤ Q.length * es.length
  | [] => by simp [told]
  | a :: Q => by
    rw [told, List.length_append, List.length_cons, Nat.succ_mul]
    have h1 := told_len es P Q
    have h2 := List.length_filter_le (fun e => decide (e.1 = a.1) && tgt es (cP P) P e) es
    omega
/-- Who is told: a function, what it has caught, what it may write, what it wants of the world when so much has been told. -/
structure TellS (es : List Ed) (r : Int) where
  f : FuncId
  caps : Array Value
  C : Nat → Prop
  I : List Ed → World → Prop
  call : ∀ T e c w, T.length ≤ 10000 → Tgt es r e c → I T w → Calls Tryz.prog f (#[edV e, .int .i64 c] ++ caps) w fun x w' => (∃ v, x = .returned v) ∧ I (T ++ [e]) w' ∧ Fr C w w'
  keep : ∀ T w w', I T w → Below w.heap.size w w' → I T w'
  enter : ∀ args w, (callFunc f args).run Tryz.prog w = .ok (Next.enter f args) w
/-- The memory of along: the graph, the part, the map. -/
structure AlM (w0 w wr : World) (vn ve pv : Value) (ns : List Int) (es : List Ed) (P : List (Int × Int)) (B : Nat) (c : Nat → Int) : Prop where
  g : wr.heap[w.heap.size]? = some (.cells #[vn, ve] 53)
  p : wr.ownsRow w.heap.size 75 2 pv P.length (fl ac P)
  m : HasE wr B 20000 (tgt es c P) (fun e => c e.2.1.toNat)
  b : Below w0.heap.size w0 wr
theorem AlM.fr {w0 w wr w' : World} {vn ve pv : Value} {ns : List Int} {es : List Ed} {P : List (Int × Int)} {B : Nat} {c : Nat → Int} {C : Nat → Prop} (h : AlM w0 w wr vn ve pv ns es P B c) (hB : w.heap.size ≤ B) (hC : ∀ k, C k → w0.heap.size ≤ k ∧ k < w.heap.size) (hF : Fr C wr w') : AlM w0 w w' vn ve pv ns es P B c :=
  ⟨(hF.block _ (block_lt h.g) (fun hk => by have := hC _ hk; omega)).trans h.g, row_fr h.p hF (fun j hj hk => by have := hC _ hk; have := (h.p.lt j hj).1; omega), h.m.keep hF (fun hk => by have := hC _ hk; omega), h.b.trans (hF.below h.b.size (fun k hk => (hC k hk).1))⟩
theorem AlM.keep {w0 w wr w' : World} {vn ve pv : Value} {ns : List Int} {es : List Ed} {P : List (Int × Int)} {B : Nat} {c : Nat → Int} (h : AlM w0 w wr vn ve pv ns es P B c) (hb : Below wr.heap.size wr w') : AlM w0 w w' vn ve pv ns es P B c :=
  ⟨(hb.block _ (block_lt h.g)).trans h.g, row_below h.p hb (Nat.le_refl _), h.m.keep (T := fun _ => False) (Fr.of_below hb) (fun h => h), h.b.trans (hb.mono h.b.size)⟩
set_option maxRecDepth 100000 in
set_option maxHeartbeats 4000000 in
theorem along_any {ns : List Int} {es : List Ed} {vn ve : Value} {w0 w : World} {r : Int} (h : GrAt w0 vn ve ns es) (hok : graphOk ns es = true) (hr : r ∈ ns) (hb0 : Below w0.heap.size w0 w) (S : TellS es r) (hC : ∀ k, S.C k → w0.heap.size ≤ k ∧ k < w.heap.size) (hI : S.I [] w) :
    Calls Tryz.prog 38 #[grV vn ve, .int .i64 r, .func (.func S.f) #[] S.caps] w fun e w' => (∃ v, e = .returned v) ∧ (∃ P, IsNear es r P ∧ NdOk P ∧ S.I (told es P P) w') ∧ Fr S.C w w' := by
  have HBd := hidIn (graphOk_bd hok)
  have HPos := hidIn (graphOk_pos hok)
  have h384 := HBd.out.2.2
  have HG0 := hidIn h
  obtain ⟨ea, eca, rfl, hel, _, hea⟩ := h.e.eds
  obtain ⟨na, nca, rfl, _⟩ := h.n
  have Hea := hidIn hea
  have hb0s := hb0.size
  have hE := S.enter
  obtain ⟨W1, hW1⟩ : ∃ W1, w.alloc (.cells #[.slice na ns.length nca, .slice ea es.length eca] 53) = W1 := ⟨_, rfl⟩
  have bA : Below w.heap.size w W1 := by rw [← hW1]; exact (Below.refl _ w).alloc (Nat.le_refl _) _
  have hGB : W1.heap[w.heap.size]? = some (.cells #[.slice na ns.length nca, .slice ea es.length eca] 53) := by rw [← hW1]; exact heap_alloc_last w _
  have hb1 := hb0.trans (bA.mono hb0.size)
  have HN := hidIn (nearest_any (h.keep hb1 (Nat.le_refl _)) hok hr)
  have g0 : W1.cell? ⟨w.heap.size, 0, none⟩ = some (.slice na ns.length nca) := cell_of_row _ _ 0 _ _ _ hGB
  have g1 : W1.cell? ⟨w.heap.size, 1, none⟩ = some (.slice ea es.length eca) := cell_of_row _ _ 1 _ _ _ hGB
  have HB1 := hidIn hb1
  have HA := hidIn bA
  have HGB := hidIn hGB
  have HI := hidIn hI
  have Hok := hidIn hok
  have hlt1 := block_lt hGB
  have HW := hidIn hW1
  clear hW1 bA hGB hb1 h hea hI hok
  go_enter Tryz.func38, Tryz.ntmps38
  go_upto_region 1 with fail
  rw [HW.out]
  clear HW
  go_wp2_with fail
  refine HN.out.mono ?_
  rintro e w2 ⟨⟨P, pv, rfl, ⟨hN, hND⟩, hrow⟩, hb2⟩
  have hG2 := (hb2.block _ hlt1).trans HGB.out
  have hrow2 := row_low hrow (show w.heap.size ≤ W1.heap.size from HA.out.size)
  have HN2 := hidIn hN
  have HND := hidIn hND
  have HB2 := hidIn (HB1.out.trans (hb2.mono HB1.out.size))
  have HA2 := hidIn (HA.out.trans (hb2.mono HA.out.size))
  have hLe := least_any (HG0.out.keep HB2.out (Nat.le_refl _)) Hok.out (slAt_of_row (cs := ac) (fun _ => rfl) hrow rfl) hND
  have HLe := hidIn hLe
  have HRow := hidIn hrow2
  have HG2 := hidIn hG2
  clear hb2 HN g0 g1 hrow hrow2 hN hLe HB1 HA HGB
  obtain ⟨pa, pcap, rfl⟩ := row_shape HRow.out
  have g0 : w2.cell? ⟨w.heap.size, 0, none⟩ = some (.slice na ns.length nca) := cell_of_row _ _ 0 _ _ _ hG2
  have g1 : w2.cell? ⟨w.heap.size, 1, none⟩ = some (.slice ea es.length eca) := cell_of_row _ _ 1 _ _ _ hG2
  clear hG2
  go_wp2_with fail
  refine HLe.out.mono ?_
  rintro e w3 ⟨⟨B, rfl, hB, hH⟩, hb3⟩
  have hBw : w.heap.size ≤ B := Nat.le_trans HA2.out.size hB
  have HA3 := hidIn (HA2.out.trans (hb3.mono HA2.out.size))
  have HM3 : Hid (AlM w0 w w3 (.slice na ns.length nca) (.slice ea es.length eca) (.slice pa P.length pcap) ns es P B (cP P)) := hidIn ⟨(hb3.block _ (block_lt HG2.out)).trans HG2.out, row_below HRow.out hb3 (Nat.le_refl _), hH, HB2.out.trans (hb3.mono HB2.out.size)⟩
  have HI3 := hidIn (S.keep _ _ _ HI.out HA3.out)
  have HF3 : Hid (Fr S.C w w3) := hidIn (Fr.of_below HA3.out)
  have Hcb := hidIn (fun i => cP_bd hND.2 i)
  have h25 := hND.1
  have HTg : Hid (∀ e, tgt es (cP P) P e = true → Tgt es r e (cP P e.2.1.toNat)) := hidIn fun e he => HN2.out.tgt (fun n hn => by have := (hND.2 n hn).1; omega) he
  clear hb3 HLe g0 g1 hH HG2 HRow HB2 HA2 HA3 HI hND
  go_wp2_with fail
  go_loopw [22] (fun i wr => ∃ k : Nat, k ≤ P.length ∧ i = .int .i64 k ∧ Hid (AlM w0 w wr (.slice na ns.length nca) (.slice ea es.length eca) (.slice pa P.length pcap) ns es P B (cP P) ∧ S.I (told es P (P.take k)) wr ∧ Fr S.C w wr)) (fun i _ => P.length - (intOf i).toNat)
  case atStart => exact ⟨0, Nat.zero_le _, rfl, hidIn ⟨HM3.out, HI3.out, HF3.out⟩⟩
  case round =>
    clear HM3 HI3 HF3
    obtain ⟨k, hk, rfl, HR⟩ := hrel
    obtain ⟨hM, hI, hF⟩ := HR.out
    clear HR
    by_cases hlt : k < P.length
    · obtain ⟨a', cap', he, _, _, hcell⟩ := (show SlAt ac 2 wr (.slice pa P.length pcap) P from slAt_of_row (cs := ac) (fun _ => rfl) hM.p rfl).ads
      simp only [Value.slice.injEq, true_and] at he
      obtain ⟨rfl, rfl⟩ := he
      obtain ⟨bk, o, rfl, hbk, hcell⟩ := hcell (by omega)
      obtain ⟨⟨x, y⟩, hx⟩ : ∃ z, P[k]? = some z := ⟨P[k], List.getElem?_eq_getElem hlt⟩
      obtain ⟨c0, c1⟩ := hcell k _ hx
      simp only at c0 c1
      have hki : (k : Int) < (P.length : Int) := by omega
      have HT : Hid (P.take (k + 1) = P.take k ++ [(x, y)]) := hidIn (take_snoc hx)
      obtain ⟨W4, hW4⟩ : ∃ W4, wr.alloc (.cells #[.int .i64 x, .int .i64 y] 75) = W4 := ⟨_, rfl⟩
      have bA : Below wr.heap.size wr W4 := by rw [← hW4]; exact (Below.refl _ wr).alloc (Nat.le_refl _) _
      have hX : W4.heap[wr.heap.size]? = some (.cells #[.int .i64 x, .int .i64 y] 75) := by rw [← hW4]; exact heap_alloc_last wr _
      have hM4 := hM.keep bA
      have hbxl : w.heap.size < wr.heap.size := block_lt hM.g
      have g1 : W4.cell? ⟨w.heap.size, 1, none⟩ = some (.slice ea es.length eca) := cell_of_row _ _ 1 _ _ _ hM4.g
      have HM4 := hidIn hM4
      have HI4 := hidIn (S.keep _ _ _ hI bA)
      have HF4 := hidIn (hF.trans (Fr.of_below bA))
      have HX := hidIn hX
      have HW := hidIn hW4
      clear hcell hx hM hI hF bA hX hW4 hM4
      go_upto_region 6 with fail
      rw [HW.out]
      clear HW c0 c1
      generalize wr.heap.size = bx at *
      go_wp2_with fail
      clear g1
      go_loopw [29] (fun i wr => ∃ j : Nat, j ≤ es.length ∧ i = .int .i64 j ∧ Hid (AlM w0 w wr (.slice na ns.length nca) (.slice ea es.length eca) (.slice (some ⟨bk, o, none⟩) P.length pcap) ns es P B (cP P) ∧ S.I (told es P (P.take k) ++ (es.take j).filter fun e => decide (e.1 = x) && tgt es (cP P) P e) wr ∧ Fr S.C w wr ∧ wr.heap[bx]? = some (.cells #[.int .i64 x, .int .i64 y] 75))) (fun i _ => es.length - (intOf i).toNat)
      case atStart => exact ⟨0, Nat.zero_le _, rfl, hidIn ⟨HM4.out, by simpa using HI4.out, HF4.out, HX.out⟩⟩
      case round =>
        clear HM4 HI4 HF4 HX
        obtain ⟨j, hj, rfl, HR⟩ := hrel
        obtain ⟨hM, hI, hF, hX⟩ := HR.out
        clear HR
        by_cases hlt2 : j < es.length
        · obtain ⟨eb, eo, rfl, heb, hecell⟩ := Hea.out (by omega)
          obtain ⟨⟨a, b, d⟩, hz⟩ : ∃ z, es[j]? = some z := ⟨es[j], List.getElem?_eq_getElem hlt2⟩
          obtain ⟨q0, q1, q2⟩ := hecell j _ hz
          have c0 := (hM.b.cell (p := ⟨eb, eo + j * 3, none⟩) heb).trans q0
          have c1 := (hM.b.cell (p := ⟨eb, eo + j * 3 + 1, none⟩) heb).trans q1
          have c2 := (hM.b.cell (p := ⟨eb, eo + j * 3 + 2, none⟩) heb).trans q2
          simp only at c0 c1 c2
          have hji : (j : Int) < (es.length : Int) := by omega
          have hmem := List.mem_of_getElem? hz
          have hends := HBd.out.2.1 _ hmem
          have har := HBd.out.1 _ hends.1
          have hbr := HBd.out.1 _ hends.2
          have hdr := HPos.out _ hmem
          simp only at hends har hbr hdr
          have HTj : Hid (es.take (j + 1) = es.take j ++ [(a, b, d)]) := hidIn (take_snoc hz)
          obtain ⟨W5, hW5⟩ : ∃ W5, wr.alloc (.cells #[.int .i64 a, .int .i64 b, .int .i64 d] 97) = W5 := ⟨_, rfl⟩
          have bA : Below wr.heap.size wr W5 := by rw [← hW5]; exact (Below.refl _ wr).alloc (Nat.le_refl _) _
          have hE5 : W5.heap[wr.heap.size]? = some (.cells #[.int .i64 a, .int .i64 b, .int .i64 d] 97) := by rw [← hW5]; exact heap_alloc_last wr _
          have hM5 := hM.keep bA
          have hX5 := (bA.block _ (block_lt hX)).trans hX
          have l0 := cell_of_row _ _ 0 _ _ _ hE5
          have l1 := cell_of_row _ _ 1 _ _ _ hE5
          have l2 := cell_of_row _ _ 2 _ _ _ hE5
          have x0 := cell_of_row _ _ 0 _ _ _ hX5
          simp at l0 l1 l2 x0
          have hwfE : wfE (a, b, d) := ⟨wf_small (by omega) (by show a ≤ _; omega), wf_small (by show 0 ≤ b; omega) (by show b ≤ _; omega), wf_small (by show 0 ≤ d; omega) (by show d ≤ _; omega)⟩
          obtain ⟨cv, hlook, hcv⟩ := hM5.m.look hwfE
          simp only at hlook
          have HI5 := hidIn (S.keep _ _ _ hI bA)
          have HF5 := hidIn (hF.trans (Fr.of_below bA))
          have HM5 := hidIn hM5
          have HX5 := hidIn hX5
          have Hcv := hidIn hcv
          have HW := hidIn hW5
          clear hecell q0 q1 q2 hz hmem hM hI hF hX bA hE5 hW5 hM5 hX5 hends hwfE hcv
          go_upto_region 9 with fail
          rw [HW.out]
          clear HW c0 c1 c2
          generalize wr.heap.size = be at *
          by_cases e1 : a = x
          · have t1 : (a == x) = true := by simpa using e1
            obtain ⟨tb, htb⟩ : ∃ tb, tgt es (cP P) P (a, b, d) = tb := ⟨_, rfl⟩
            rw [htb] at hlook
            have Htb := hidIn htb
            have He1 := hidIn e1
            clear htb e1
            cases tb
            · have HL : Hid (((es.take (j + 1)).filter fun e => decide (e.1 = x) && tgt es (cP P) P e) = (es.take j).filter fun e => decide (e.1 = x) && tgt es (cP P) P e) := hidIn (by rw [HTj.out, List.filter_append]; simp [Htb.out])
              go_wp2_with fail
              go_roundw
              case rel => exact ⟨j + 1, by omega, by go_num, hidIn ⟨HM5.out, by rw [HL.out]; exact HI5.out, HF5.out, HX5.out⟩⟩
              case measure => simp [intOf]; omega
            · have HL : Hid (((es.take (j + 1)).filter fun e => decide (e.1 = x) && tgt es (cP P) P e) = ((es.take j).filter fun e => decide (e.1 = x) && tgt es (cP P) P e) ++ [(a, b, d)]) := hidIn (by rw [HTj.out, List.filter_append, List.filter_cons_of_pos (by show (decide (a = x) && tgt es (cP P) P (a, b, d)) = true; rw [Htb.out, decide_eq_true He1.out]; rfl), List.filter_nil])
              have hcveq := Hcv.out Htb.out
              subst hcveq
              have hTl : (told es P (P.take k) ++ (es.take j).filter fun e => decide (e.1 = x) && tgt es (cP P) P e).length ≤ 10000 := by
                rw [List.length_append]
                have h1 := told_len es P (P.take k)
                have h2 := List.length_filter_le (fun e => decide (e.1 = x) && tgt es (cP P) P e) (es.take j)
                rw [List.length_take] at h1 h2
                have h3 : min k P.length * es.length ≤ 25 * 384 := Nat.mul_le_mul (by omega) h384
                omega
              have HCall := hidIn (S.call _ (a, b, d) _ _ hTl (HTg.out _ Htb.out) HI5.out)
              simp only at HCall hlook
              go_wp2_with fail
              refine HCall.out.mono ?_
              rintro e w6 ⟨⟨v6, rfl⟩, hI6, hF6⟩
              have HM6 := hidIn (HM5.out.fr hBw hC hF6)
              have HX6 : Hid (w6.heap[bx]? = some (.cells #[.int .i64 x, .int .i64 y] 75)) := hidIn ((hF6.block _ (block_lt HX5.out) (fun hk => by have := hC _ hk; omega)).trans HX5.out)
              have HI6 := hidIn hI6
              have HF6 := hidIn (HF5.out.trans hF6)
              clear hI6 hF6 HCall hlook l0 l1 l2 x0 HM5 HX5 HI5 HF5
              go_wp2_with fail
              go_roundw
              case rel => exact ⟨j + 1, by omega, by go_num, hidIn ⟨HM6.out, by rw [HL.out, ← List.append_assoc]; exact HI6.out, HF6.out, HX6.out⟩⟩
              case measure => simp [intOf]; omega
          · have t1 : (a == x) = false := by simpa using e1
            have HL : Hid (((es.take (j + 1)).filter fun e => decide (e.1 = x) && tgt es (cP P) P e) = (es.take j).filter fun e => decide (e.1 = x) && tgt es (cP P) P e) := hidIn (by rw [HTj.out, List.filter_append]; simp [e1])
            clear e1 hlook
            go_wp2_with fail
            go_roundw
            case rel => exact ⟨j + 1, by omega, by go_num, hidIn ⟨HM5.out, by rw [HL.out]; exact HI5.out, HF5.out, HX5.out⟩⟩
            case measure => simp [intOf]; omega
        · have hji : ¬ ((j : Int) < (es.length : Int)) := by omega
          have hje : es.take j = es := List.take_of_length_le (by omega)
          rw [hje] at hI
          have HMf := hidIn hM
          have HFf := hidIn hF
          have HIf : Hid (S.I (told es P (P.take (k + 1))) wr) := hidIn (by rw [HT.out, told_snoc]; exact hI)
          clear hM hI hF hX hje
          go_wp2_with fail
          go_roundw
          case rel => exact ⟨k + 1, by omega, by go_num, hidIn ⟨HMf.out, HIf.out, HFf.out⟩⟩
          case measure => simp [intOf]; omega
    · have hki : ¬ ((k : Int) < (P.length : Int)) := by omega
      have hke : P.take k = P := List.take_of_length_le (by omega)
      rw [hke] at hI
      have HIf := hidIn hI
      have HFf := hidIn hF
      clear hM hI hF hke
      go_wp2_with fail
      go_returns
      exact ⟨⟨_, rfl⟩, ⟨P, HN2.out, HND.out, HIf.out⟩, HFf.out⟩
end Go.Proofs.YtgeoghhajjlofaaGreatDoor
