/- Cost of a way. -/
import Derived.Test.YtbggingacoheiaaGreatDoorV6
namespace Go.Proofs.YtbggingacoheiaaGreatDoor
open Go.RowKit

/-- What edges cost, by their two nodes. -/
def cE (es : List Ed) : Nat → Nat → Int := es.foldl (fun c e => put2 c e.1.toNat e.2.1.toNat e.2.2) no2
theorem cE_snoc (es : List Ed) (e : Ed) : cE (es ++ [e]) = put2 (cE es) e.1.toNat e.2.1.toNat e.2.2 := by simp [cE, List.foldl_append]
/-- What a way costs, if all its steps are edges. -/
def wayR (c : Nat → Nat → Int) : Int → Int → List Int → Option Int
  | s, _, [] => some s
  | s, a, b :: l => if c a.toNat b.toNat = 0 then none else wayR c (s + c a.toNat b.toNat) b l
/-- What Cost answers. -/
def wayA (ns : List Int) (es : List Ed) : List Int → Int × Int
  | [] => (0, 2)
  | a :: l => if ndAll ns es (a :: l) = true then (match wayR (cE es) 0 a l with | none => (0, 6) | some s => (s, 0)) else (0, 2)
theorem infoI625 : (Tryz.prog.info? 130).map (fun i => (i.zero, i.size)) = some (some (.agg (ccl no2).toArray), 625) := by kernel_rfl
theorem zeroI625 (w : World) : (zeroValue 130).run Tryz.prog w = .ok (.agg (ccl no2).toArray) w := (zero_of_info infoI625).1 w
theorem cE_bd {es : List Ed} (hp : PosE es) (i j : Nat) : 0 ≤ cE es i j ∧ cE es i j ≤ 1000 := by
  unfold cE
  have key : ∀ (l : List Ed) (c : Nat → Nat → Int), (∀ e ∈ l, e ∈ es) → (∀ i j, 0 ≤ c i j ∧ c i j ≤ 1000) → ∀ i j, 0 ≤ (l.foldl (fun c e => put2 c e.1.toNat e.2.1.toNat e.2.2) c) i j ∧ (l.foldl (fun c e => put2 c e.1.toNat e.2.1.toNat e.2.2) c) i j ≤ 1000 := by
    intro l
    induction l with
    | nil => intro c _ hc i j; exact hc i j
    | cons a l ih =>
      intro c hl hc i j
      refine ih _ (fun n hn => hl n (by simp [hn])) (fun x y => ?_) i j
      show 0 ≤ (if x = a.1.toNat ∧ y = a.2.1.toNat then a.2.2 else c x y) ∧ (if x = a.1.toNat ∧ y = a.2.1.toNat then a.2.2 else c x y) ≤ 1000
      have := hp a (hl a (by simp))
      split
      · omega
      · exact hc x y
  exact key es _ (fun _ h => h) (fun _ _ => by simp [no2]) i j
/-- The memory of Cost: the graph, the costs. -/
structure CoM (w wr : World) (vn ve : Value) (B : Nat) (c : Nat → Nat → Int) : Prop where
  g : wr.heap[w.heap.size]? = some (.cells #[vn, ve] 67)
  k : Arr wr B 130 (ccl c)
  b : Below w.heap.size w wr
theorem CoM.keep {w wr w' : World} {vn ve : Value} {B : Nat} {c : Nat → Nat → Int} (h : CoM w wr vn ve B c) (hb : Below wr.heap.size wr w') : CoM w w' vn ve B c :=
  ⟨(hb.block _ (block_lt h.g)).trans h.g, h.k.keep hb h.k.lt, h.b.trans (hb.mono h.b.size)⟩
theorem CoM.put {w wr : World} {vn ve : Value} {B : Nat} {c : Nat → Nat → Int} (h : CoM w wr vn ve B c) (hB : w.heap.size < B) {a b : Nat} (ha : a < 25) (hb : b < 25) (v : Int) : CoM w (wr.setCell ⟨B, a * 25 + b, none⟩ (.int .i64 v)).drew vn ve B (put2 c a b v) :=
  ⟨(Below.heap_setCell _ _ _ _ (by show w.heap.size ≠ B; omega)).trans h.g, by rw [← ccl_set c ha hb]; exact h.k.set _ _, (h.b.setCell (p := ⟨B, a * 25 + b, none⟩) (Nat.le_of_lt hB) _).drew⟩
set_option maxRecDepth 100000 in
set_option maxHeartbeats 4000000 in
theorem pcost_any {ns : List Int} {es : List Ed} {vn ve v : Value} {way : List Int} {w : World} (h : GrAt w vn ve ns es) (hv : SlAt ic 1 w v way) (hlen : way.length ≤ 1000000000000) :
    Calls Tryz.prog 36 #[grV vn ve, v] w fun e w' => e = .returned (.tuple #[.int .i64 (wayA ns es way).1, .int .i64 (wayA ns es way).2]) ∧ Below w.heap.size w w' := by
  have HG0 := hidIn h
  have HV := hidIn hv
  obtain ⟨ea, eca, rfl, hel, _, hea⟩ := h.e.eds
  obtain ⟨na, nca, rfl, _⟩ := h.n
  obtain ⟨a, cap, rfl, hl, hcap, hat⟩ := hv.ints
  have Ha := hidIn hat
  have Hea := hidIn hea
  have hz := zeroI625
  obtain ⟨W1, hW1⟩ : ∃ W1, w.alloc (.cells #[.slice na ns.length nca, .slice ea es.length eca] 67) = W1 := ⟨_, rfl⟩
  have bA : Below w.heap.size w W1 := by rw [← hW1]; exact (Below.refl _ w).alloc (Nat.le_refl _) _
  have hGB : W1.heap[w.heap.size]? = some (.cells #[.slice na ns.length nca, .slice ea es.length eca] 67) := by rw [← hW1]; exact heap_alloc_last w _
  have g0 : W1.cell? ⟨w.heap.size, 0, none⟩ = some (.slice na ns.length nca) := cell_of_row _ _ 0 _ _ _ hGB
  have g1 : W1.cell? ⟨w.heap.size, 1, none⟩ = some (.slice ea es.length eca) := cell_of_row _ _ 1 _ _ _ hGB
  have HGB := hidIn hGB
  have HA := hidIn bA
  have hlt1 := block_lt hGB
  have HW := hidIn hW1
  clear hW1 bA hGB h hv hat hea
  cases way with
  | nil =>
    have hl0 : (([] : List Int).length : Int) = 0 := rfl
    simp only [List.length_nil] at *
    go_enter Tryz.func36, Tryz.ntmps36
    go_upto_region 1 with fail
    rw [HW.out]
    clear HW
    go_wp2_with fail
    go_ret2
    exact ⟨rfl, HA.out⟩
  | cons z0 l =>
    obtain ⟨b1, hb1⟩ : ∃ b1, ndAll ns es (z0 :: l) = b1 := ⟨_, rfl⟩
    have hC := areNodes_any (l := z0 :: l) (HG0.out.keep HA.out (Nat.le_refl _)) (HV.out.keep HA.out (Nat.le_refl _))
    rw [hb1] at hC
    have HC := hidIn hC
    have Hb1 := hidIn hb1
    clear hC hb1
    obtain ⟨bk, o, rfl, hbk, hcell⟩ := Ha.out (by simp)
    have Hcell := hidIn hcell
    clear hcell Ha
    have hln : (z0 :: l).length = l.length + 1 := rfl
    rw [hln] at HC hl hcap hlen ⊢
    go_enter Tryz.func36, Tryz.ntmps36
    go_upto_region 1 with fail
    rw [HW.out]
    clear HW
    have hnz : (((l.length + 1 : Nat) : Int) == 0) = false := by simp; omega
    have hnz2 : ((l.length : Int) + 1 == 0) = false := by simp; omega
    go_wp2_with fail
    refine HC.out.mono ?_
    rintro e w2 ⟨rfl, hb2⟩
    have HB2 := hidIn (HA.out.trans (hb2.mono HA.out.size))
    have HG2 := hidIn ((hb2.block _ hlt1).trans HGB.out)
    clear hb2 HC g0 g1
    cases b1
    · go_wp2_with fail
      go_ret2
      exact ⟨by simp [wayA, Hb1.out], HB2.out⟩
    have hnd := Hb1.out
    simp only [ndAll, Bool.and_eq_true, List.all_eq_true] at hnd
    have HBd := hidIn (graphOk_bd hnd.1)
    have HPos := hidIn (graphOk_pos hnd.1)
    have HNd : Hid (∀ n ∈ z0 :: l, 1 ≤ n ∧ n ≤ 24) := hidIn fun n hn => HBd.out.1 _ (hasN_iff.1 (hnd.2 n hn))
    have h384 := HBd.out.2.2
    clear hnd
    obtain ⟨W3, hW3⟩ : ∃ W3, w2.alloc (.cells (ccl no2).toArray 130) = W3 := ⟨_, rfl⟩
    have b3 : Below w2.heap.size w2 W3 := by rw [← hW3]; exact (Below.refl _ w2).alloc (Nat.le_refl _) _
    have hM3 : CoM w W3 (.slice na ns.length nca) (.slice ea es.length eca) w2.heap.size (cE []) := ⟨(b3.block _ (block_lt HG2.out)).trans HG2.out, by rw [← hW3]; exact arr_new w2 _ _, HB2.out.trans (b3.mono HB2.out.size)⟩
    have hBl : w.heap.size < w2.heap.size := block_lt HG2.out
    have g1 : W3.cell? ⟨w.heap.size, 1, none⟩ = some (.slice ea es.length eca) := cell_of_row _ _ 1 _ _ _ hM3.g
    have HM3 := hidIn hM3
    have HW := hidIn hW3
    clear hW3 b3 hM3
    go_upto_region 4 with fail
    rw [HW.out]
    clear HW hz
    generalize w2.heap.size = B at *
    go_wp2_with fail
    clear g1
    go_loopw [25] (fun i wr => ∃ k : Nat, k ≤ es.length ∧ i = .int .i64 k ∧ Hid (CoM w wr (.slice na ns.length nca) (.slice ea es.length eca) B (cE (es.take k)))) (fun i _ => es.length - (intOf i).toNat)
    case atStart => exact ⟨0, Nat.zero_le _, rfl, HM3⟩
    case round =>
      clear HM3
      obtain ⟨k, hk, rfl, HR⟩ := hrel
      by_cases hlt : k < es.length
      · obtain ⟨eb, eo, rfl, heb, hecell⟩ := Hea.out (by omega)
        obtain ⟨⟨x, y, d⟩, hx⟩ : ∃ z, es[k]? = some z := ⟨es[k], List.getElem?_eq_getElem hlt⟩
        obtain ⟨q0, q1, q2⟩ := hecell k _ hx
        have c0 := (HR.out.b.cell (p := ⟨eb, eo + k * 3, none⟩) heb).trans q0
        have c1 := (HR.out.b.cell (p := ⟨eb, eo + k * 3 + 1, none⟩) heb).trans q1
        have c2 := (HR.out.b.cell (p := ⟨eb, eo + k * 3 + 2, none⟩) heb).trans q2
        simp only at c0 c1 c2
        have hki : (k : Int) < (es.length : Int) := by omega
        have hends := HBd.out.2.1 _ (List.mem_of_getElem? hx)
        have hxr := HBd.out.1 _ hends.1
        have hyr := HBd.out.1 _ hends.2
        simp only at hxr hyr
        have HT : Hid (cE (es.take (k + 1)) = put2 (cE (es.take k)) x.toNat y.toNat d) := hidIn (by rw [take_snoc hx, cE_snoc])
        obtain ⟨W4, hW4⟩ : ∃ W4, wr.alloc (.cells #[.int .i64 x, .int .i64 y, .int .i64 d] 122) = W4 := ⟨_, rfl⟩
        have bA : Below wr.heap.size wr W4 := by rw [← hW4]; exact (Below.refl _ wr).alloc (Nat.le_refl _) _
        have hE4 : W4.heap[wr.heap.size]? = some (.cells #[.int .i64 x, .int .i64 y, .int .i64 d] 122) := by rw [← hW4]; exact heap_alloc_last wr _
        have hM4 := HR.out.keep bA
        have l0 := cell_of_row _ _ 0 _ _ _ hE4
        have l1 := cell_of_row _ _ 1 _ _ _ hE4
        have l2 := cell_of_row _ _ 2 _ _ _ hE4
        simp at l0 l1 l2
        have hbe : B ≠ wr.heap.size := by have := HR.out.k.lt; omega
        obtain ⟨i, rfl⟩ : ∃ i : Nat, x = (i : Int) := ⟨x.toNat, by omega⟩
        obtain ⟨j, rfl⟩ : ∃ j : Nat, y = (j : Int) := ⟨y.toNat, by omega⟩
        have hi : i < 25 := by omega
        have hj : j < 25 := by omega
        have hii : (i : Int) < 25 := by omega
        have hji : (j : Int) < 25 := by omega
        have mc := hM4.k.cell (i * 25 + j)
        rw [ccl_get _ (by omega)] at mc
        have mf := hM4.k.frozen (i * 25 + j)
        rw [Int.toNat_natCast, Int.toNat_natCast] at HT
        have HM5 := hidIn (hM4.put hBl hi hj d)
        have HW := hidIn hW4
        clear hecell q0 q1 q2 hx hM4 bA hE4 hW4 HR hends
        go_upto_region 7 with fail
        rw [HW.out]
        clear HW c0 c1 c2
        generalize wr.heap.size = be at *
        go_region
        clear l0 l1 l2 mc mf
        generalize World.drew _ = V5 at HM5 ⊢
        go_wp2_with fail
        go_roundw
        case rel => exact ⟨k + 1, by omega, by go_num, hidIn (by rw [HT.out]; exact HM5.out)⟩
        case measure => simp [intOf]; omega
      · have hki : ¬ ((k : Int) < (es.length : Int)) := by omega
        have hM := HR.out
        rw [List.take_of_length_le (by omega)] at hM
        have HM := hidIn hM
        have Hcb := hidIn (fun i j => cE_bd HPos.out i j)
        have HR0 : Hid ((match wayR (cE es) 0 z0 l with | none => ((0, 6) : Int × Int) | some s => (s, 0)) = wayA ns es (z0 :: l)) := hidIn (by simp [wayA, Hb1.out])
        obtain ⟨c, hc⟩ : ∃ c, cE es = c := ⟨_, rfl⟩
        rw [hc] at HM Hcb HR0
        clear hM HR hc hlt
        have hs1 : ¬ ((l.length : Int) + 1 < 1) := by omega
        by_cases hcap1 : cap = 1
        · have hll : l.length = 0 := by omega
          have hl0 : l = [] := List.length_eq_zero_iff.1 hll
          subst hl0
          have hf : ¬ ((0 : Int) < 0) := by omega
          simp only [List.length_nil, Nat.zero_add] at *
          subst hcap1
          have HBf := hidIn HM.out.b
          go_wp2_with fail
          go_loopw [9, 41] (fun s i wr => s = .int .i64 0 ∧ i = .int .i64 0 ∧ Hid (Below w.heap.size w wr)) (fun _ _ _ => 0)
          case atStart => exact ⟨rfl, rfl, HBf⟩
          case round =>
            obtain ⟨rfl, rfl, HR⟩ := hrel
            go_wp2_with fail
            go_ret2
            exact ⟨by rw [← HR0.out]; rfl, HR.out⟩
        · go_wp2_with fail
          go_loopw [9, 41] (fun sv i wr => ∃ (k : Nat) (s : Int), k ≤ l.length ∧ i = .int .i64 k ∧ sv = .int .i64 s ∧ 0 ≤ s ∧ s ≤ 1000 * k ∧ Hid (CoM w wr (.slice na ns.length nca) (.slice ea es.length eca) B c ∧ ∃ a, (z0 :: l)[k]? = some a ∧ wayR c 0 z0 l = wayR c s a (l.drop k))) (fun _ i _ => l.length - (intOf i).toNat)
          case atStart => exact ⟨0, 0, Nat.zero_le _, rfl, rfl, by omega, by omega, hidIn ⟨HM.out, z0, rfl, by rw [List.drop_zero]⟩⟩
          case round =>
            clear HM
            obtain ⟨k, s, hk, rfl, rfl, hs0, hsk, HR⟩ := hrel
            obtain ⟨hM, a, ha, hrest⟩ := HR.out
            clear HR
            by_cases hlt : k < l.length
            · obtain ⟨b, hb⟩ : ∃ b, l[k]? = some b := ⟨l[k], List.getElem?_eq_getElem hlt⟩
              have hb' : (z0 :: l)[k + 1]? = some b := by simpa using hb
              have d0 := (hM.b.cell (p := ⟨bk, o + k, none⟩) hbk).trans (Hcell.out k a ha)
              have d1 := (hM.b.cell (p := ⟨bk, o + (k + 1), none⟩) hbk).trans (Hcell.out (k + 1) b hb')
              rw [show o + (k + 1) = o + 1 + k from by omega] at d1
              have hki : (k : Int) < (l.length : Int) := by omega
              have hki2 : (k : Int) < (l.length : Int) + 1 := by omega
              have har := HNd.out a (List.mem_of_getElem? ha)
              have hbr := HNd.out b (List.mem_of_getElem? hb')
              have HN : Hid (wayR c 0 z0 l = if c a.toNat b.toNat = 0 then none else wayR c (s + c a.toNat b.toNat) b (l.drop (k + 1))) := hidIn (by rw [hrest, drop_next hb]; rfl)
              obtain ⟨i, rfl⟩ : ∃ i : Nat, a = (i : Int) := ⟨a.toNat, by omega⟩
              obtain ⟨j, rfl⟩ : ∃ j : Nat, b = (j : Int) := ⟨b.toNat, by omega⟩
              rw [Int.toNat_natCast, Int.toNat_natCast] at HN
              have hi : i < 25 := by omega
              have hj : j < 25 := by omega
              have hii : (i : Int) < 25 := by omega
              have hji : (j : Int) < 25 := by omega
              have mc := hM.k.cell (i * 25 + j)
              rw [ccl_get _ (by omega), show (i * 25 + j) / 25 = i from by omega, show (i * 25 + j) % 25 = j from by omega] at mc
              have hcb := Hcb.out i j
              have HM := hidIn hM
              have HB' := hidIn hb'
              obtain ⟨cv, hcv⟩ : ∃ cv, c i j = cv := ⟨_, rfl⟩
              rw [hcv] at mc HN hcb
              clear hcv hM ha hrest hb hb'
              by_cases hc0 : cv = 0
              · have t1 : (cv == 0) = true := by simpa using hc0
                have Hc0 := hidIn hc0
                have HBf := hidIn HM.out.b
                clear hc0
                go_wp2_with fail
                go_ret2
                exact ⟨by rw [← HR0.out, HN.out, if_pos Hc0.out]; rfl, HBf.out⟩
              · have t1 : (cv == 0) = false := by simpa using hc0
                have Hc0 := hidIn hc0
                have hw1 : IntKind.i64.wrap (s + cv) = s + cv := by rw [IntKind.wrap_i64]; omega
                clear hc0
                go_wp2_with fail
                go_roundw
                case rel => exact ⟨k + 1, s + cv, by omega, by go_num, by go_num, by omega, by omega, hidIn ⟨HM.out, (j : Int), HB'.out, by rw [HN.out, if_neg Hc0.out]⟩⟩
                case measure => simp [intOf]; omega
            · have hki : ¬ ((k : Int) < (l.length : Int)) := by omega
              rw [List.drop_eq_nil_of_le (by omega)] at hrest
              have HF : Hid (wayR c 0 z0 l = some s) := hidIn hrest
              have HBf := hidIn hM.b
              clear hM hrest ha
              go_wp2_with fail
              go_ret2
              exact ⟨by rw [← HR0.out, HF.out]; rfl, HBf.out⟩
end Go.Proofs.YtbggingacoheiaaGreatDoor
