/- The law's of: the table. -/
import Derived.Test.YtfbojelflplflaaVL4
import Derived.Deep.RegionLaw
namespace Go.Proofs.Ytfbojelflplflaa
open Go.RowKit

theorem SlAt.lks {w : World} {v : Value} {l : List Ed} (h : SlAt lc3 3 w v l) : ∃ a cap, v = .slice a l.length cap ∧ l.length ≤ 9223372036854775807 ∧ l.length ≤ cap ∧ (0 < l.length → ∃ bk o, a = some ⟨bk, o, none⟩ ∧ bk < w.heap.size ∧ ∀ j x, l[j]? = some x → w.cell? ⟨bk, o + j * 3, none⟩ = some (.int .u8 x.1) ∧ w.cell? ⟨bk, o + j * 3 + 1, none⟩ = some (.int .u8 x.2.1) ∧ w.cell? ⟨bk, o + j * 3 + 2, none⟩ = some (.int .u8 x.2.2)) := by
  obtain ⟨a, cap, rfl, hl, hc, h⟩ := h
  refine ⟨a, cap, rfl, hl, hc, fun h0 => ?_⟩
  obtain ⟨bk, o, rfl, hb, h⟩ := h h0
  exact ⟨bk, o, rfl, hb, fun j x hx => ⟨h j x hx 0 _ rfl, h j x hx 1 _ rfl, h j x hx 2 _ rfl⟩⟩
theorem make_tab (w : World) : (Instr.makeSlice 22 (.int .i64 256) (.int .i64 256)).run Try.prog w = .ok (.slice (some ⟨w.heap.size, 0, none⟩) 256 256) (w.alloc (.cells (tcl fun _ => 0).toArray 3)) := by kernel_rfl
/-- A graph in new memory. -/
structure GrOwn (base : Nat) (w : World) (a b : Value) (N : List Int) (E : List Ed) : Prop where
  n : w.ownsRow base 3 1 a N.length (fl ic N)
  e : w.ownsRow base 54 3 b E.length (fl ec E)
theorem GrOwn.at {base : Nat} {w : World} {a b : Value} {N : List Int} {E : List Ed} (h : GrOwn base w a b N E) : GrAt w a b N E := ⟨slAt_of_row (cs := ic) (fun _ => rfl) h.n rfl, slAt_of_row (cs := ec) (fun _ => rfl) h.e rfl⟩
theorem GrOwn.low {base base' : Nat} {w : World} {a b : Value} {N : List Int} {E : List Ed} (h : GrOwn base w a b N E) (hb : base' ≤ base) : GrOwn base' w a b N E := ⟨row_low h.n hb, row_low h.e hb⟩
theorem GrOwn.fr {base : Nat} {w w' : World} {S : Nat → Prop} {a b : Value} {N : List Int} {E : List Ed} (h : GrOwn base w a b N E) (hF : Fr S w w') (hS : ∀ k, S k → k < base) : GrOwn base w' a b N E :=
  ⟨row_fr h.n hF (fun j hj e => by have := (h.n.lt j hj).1; have := hS j e; omega), row_fr h.e hF (fun j hj e => by have := (h.e.lt j hj).1; have := hS j e; omega)⟩
/-- Links of small numbers. -/
def LkB (L : List Ed) : Prop := ∀ x ∈ L, (0 ≤ x.1 ∧ x.1 ≤ 255) ∧ (0 ≤ x.2.1 ∧ x.2.1 ≤ 255) ∧ 0 ≤ x.2.2 ∧ x.2.2 ≤ 255
/-- The law's blocks ahead of its graph: the answer's, the table. -/
structure TbM (w wr : World) (c : Nat → Int) : Prop where
  r : wr.heap[w.heap.size]? = some nilG
  t : Arr wr (w.heap.size + 1) 3 (tcl c)
  b : Below w.heap.size w wr
theorem TbM.drewN {w wr : World} {c : Nat → Int} (h : TbM w wr c) (n : Nat) : TbM w (wr.drewN n) c := ⟨h.r, h.t, ⟨h.b.os, h.b.tape, h.b.output, h.b.size, h.b.block⟩⟩
theorem TbM.put {w wr : World} {c : Nat → Int} (h : TbM w wr c) {i : Nat} (hi : i < 256) (v : Int) : TbM w (wr.setCell ⟨w.heap.size + 1, i, none⟩ (.int .i64 v)) (putV c i v) :=
  ⟨(Below.heap_setCell _ _ _ _ (by show w.heap.size ≠ w.heap.size + 1; omega)).trans h.r, by rw [← tcl_set c hi]; exact h.t.set i _, h.b.setCell (p := ⟨w.heap.size + 1, i, none⟩) (Nat.le_succ _) _⟩
/-- The law's graph in its block, so far. -/
structure LgM (w wr : World) (gb : Nat) (c : Nat → Int) (u v : Value) (N : List Int) (E : List Ed) : Prop where
  g : wr.heap[gb]? = some (.cells #[u, v] 25)
  n : wr.ownsRow (gb + 1) 3 1 u N.length (fl ic N)
  e : wr.ownsRow (gb + 1) 54 3 v E.length (fl ec E)
  d : ∀ j, u.ownBlock = some j → v.ownBlock ≠ some j
  r : wr.heap[w.heap.size]? = some nilG
  t : Arr wr (w.heap.size + 1) 3 (tcl c)
  b : Below w.heap.size w wr
  l : w.heap.size + 1 < gb
  s : gb < wr.heap.size
theorem tabN_len (n : Nat) : (tabN n).length = n := by simp [tabN]
theorem ownBlock_lt {W : World} {base k sz : Nat} {e : TypeId} {v : Value} {xs : List Value} (h : W.ownsRow base e sz v k xs) {j : Nat} (hj : v.ownBlock = some j) : j < W.heap.size := by
  rcases h.2 with ⟨rfl, _⟩ | ⟨g, cap, cur, rfl, _, hh, _⟩
  · simp [Value.ownBlock] at hj
  · simp [Value.ownBlock] at hj
    subst hj
    exact block_lt hh
theorem LgM.drew {w wr : World} {gb : Nat} {c : Nat → Int} {u v : Value} {N : List Int} {E : List Ed} (h : LgM w wr gb c u v N E) : LgM w wr.drew gb c u v N E :=
  ⟨h.g, row_fr h.n (Fr.refl (fun _ => False) wr).drew (fun _ _ h => h), row_fr h.e (Fr.refl (fun _ => False) wr).drew (fun _ _ h => h), h.d, h.r, h.t, h.b.drew, h.l, h.s⟩
theorem LgM.addN {w wr : World} {gb : Nat} {c : Nat → Int} {u v : Value} {N : List Int} {E : List Ed} (h : LgM w wr gb c u v N E) (x : Int) (hl : N.length ≤ 1000) :
    ∃ g cap w6, (Builtin.append_ #[22, 22] 22 #[u, .slice (some ⟨wr.heap.size, 0, none⟩) 1 1]).run Try.prog (wr.alloc (.cells (ic x).toArray 3)) = .ok (.slice (some ⟨g, 0, none⟩) (N.length + 1) cap) w6 ∧
      w6.cell? ⟨gb, 0, none⟩ = some u ∧ w6.frozen? ⟨gb, 0, none⟩ = false ∧ LgM w (w6.setCell ⟨gb, 0, none⟩ (.slice (some ⟨g, 0, none⟩) (N.length + 1) cap)) gb c (.slice (some ⟨g, 0, none⟩) (N.length + 1) cap) v (N ++ [x]) E := by
  obtain ⟨g, cap, w6, hrun, hown, hlie, hgrow, hb⟩ := append_int h.n x (by omega) (by have := h.s; omega)
  have hg6 : w6.heap[gb]? = some (.cells #[u, v] 25) := (hb.block _ (Nat.lt_succ_self _)).trans h.g
  have hv6 : w6.ownsRow (gb + 1) 54 3 v E.length (fl ec E) := h.e.kept hgrow (by
    cases hv : v.ownBlock with
    | none => exact .inl rfl
    | some j => exact .inr (fun e => h.d j e.symm hv))
  have hF := (Fr.refl (fun k => k = gb) w6).set (p := ⟨gb, 0, none⟩) rfl (.slice (some ⟨g, 0, none⟩) (N.length + 1) cap)
  have hl' := h.l
  refine ⟨g, cap, w6, hrun, cell_of_row _ _ 0 _ _ _ hg6, frozen_new hg6 0, ?_, ?_, ?_, ?_, ?_, ?_, ?_, h.l, ?_⟩
  · have := heap_setCell_same w6 gb 0 _ _ (.slice (some ⟨g, 0, none⟩) (N.length + 1) cap) hg6
    simpa using this
  · rw [List.length_append]
    exact row_fr hown hF (fun j hj e => by have := (hown.lt j hj).1; omega)
  · exact row_fr hv6 hF (fun j hj e => by have := (hv6.lt j hj).1; omega)
  · intro j hj
    simp [Value.ownBlock] at hj
    subst hj
    rcases hlie with h1 | h1
    · exact h.d g h1
    · intro h2
      have := ownBlock_lt h.e h2
      omega
  · exact (hF.block _ (by have := hb.size; have := h.s; omega) (by omega)).trans ((hb.block _ (by omega)).trans h.r)
  · exact (h.t.keep hb (by omega)).other (by show w.heap.size + 1 ≠ gb; omega) _
  · exact (h.b.trans (hb.mono (by omega))).setCell (p := ⟨gb, 0, none⟩) (by show w.heap.size ≤ gb; omega) _
  · have h1 := hb.size
    have h2 := hF.size
    have := h.s
    omega
theorem LgM.addE {w wr : World} {gb : Nat} {c : Nat → Int} {u v : Value} {N : List Int} {E : List Ed} (h : LgM w wr gb c u v N E) (x : Ed) (hl : E.length ≤ 1000) :
    ∃ g cap w6, (Builtin.append_ #[23, 23] 23 #[v, .slice (some ⟨wr.heap.size, 0, none⟩) 1 1]).run Try.prog (wr.alloc (.cells (ec x).toArray 54)) = .ok (.slice (some ⟨g, 0, none⟩) (E.length + 1) cap) w6 ∧
      w6.cell? ⟨gb, 1, none⟩ = some v ∧ w6.frozen? ⟨gb, 1, none⟩ = false ∧ Arr w6 (w.heap.size + 1) 3 (tcl c) ∧ LgM w (w6.setCell ⟨gb, 1, none⟩ (.slice (some ⟨g, 0, none⟩) (E.length + 1) cap)) gb c u (.slice (some ⟨g, 0, none⟩) (E.length + 1) cap) N (E ++ [x]) := by
  obtain ⟨g, cap, w6, hrun, hown, hlie, hgrow, hb⟩ := append_edge h.e x (by omega) (by have := h.s; omega)
  have hg6 : w6.heap[gb]? = some (.cells #[u, v] 25) := (hb.block _ (Nat.lt_succ_self _)).trans h.g
  have hv6 : w6.ownsRow (gb + 1) 3 1 u N.length (fl ic N) := h.n.kept hgrow (by
    cases hu : u.ownBlock with
    | none => exact .inl rfl
    | some j => exact .inr (fun e => h.d j hu e.symm))
  have hF := (Fr.refl (fun k => k = gb) w6).set (p := ⟨gb, 1, none⟩) rfl (.slice (some ⟨g, 0, none⟩) (E.length + 1) cap)
  have hl' := h.l
  refine ⟨g, cap, w6, hrun, cell_of_row _ _ 1 _ _ _ hg6, frozen_new hg6 1, h.t.keep hb (by omega), ?_, ?_, ?_, ?_, ?_, ?_, ?_, h.l, ?_⟩
  · have := heap_setCell_same w6 gb 1 _ _ (.slice (some ⟨g, 0, none⟩) (E.length + 1) cap) hg6
    simpa using this
  · exact row_fr hv6 hF (fun j hj e => by have := (hv6.lt j hj).1; omega)
  · rw [List.length_append]
    exact row_fr hown hF (fun j hj e => by have := (hown.lt j hj).1; omega)
  · intro j hj h2
    simp [Value.ownBlock] at h2
    subst h2
    rcases hlie with h1 | h1
    · exact h.d g hj h1
    · have := ownBlock_lt h.n hj
      omega
  · exact (hF.block _ (by have := hb.size; have := h.s; omega) (by omega)).trans ((hb.block _ (by omega)).trans h.r)
  · exact (h.t.keep hb (by omega)).other (by show w.heap.size + 1 ≠ gb; omega) _
  · exact (h.b.trans (hb.mono (by omega))).setCell (p := ⟨gb, 1, none⟩) (by show w.heap.size ≤ gb; omega) _
  · have h1 := hb.size
    have h2 := hF.size
    have := h.s
    omega
set_option maxRecDepth 100000 in
set_option maxHeartbeats 4000000 in
theorem lawOf_any {n : Nat} {L : List Ed} {v : Value} {w : World} (h : SlAt lc3 3 w v L) (hL : LkB L) (h0 : 0 < n) (hn : n ≤ 7) :
    Calls Try.prog 25 #[v, .int .i64 n] w fun e w' => (∃ a b, e = .returned (grV a b) ∧ GrOwn w.heap.size w' a b (tabN n) (tabE (tabT n (L.take 12)) n n)) ∧ Below w.heap.size w w' := by
  obtain ⟨la, lcap, rfl, hll, _, hlc⟩ := h.lks
  have Hlc := hidIn hlc
  have HL := hidIn hL
  clear hlc h hL
  have hmk := make_tab
  obtain ⟨W1, hW1⟩ : ∃ W1, (w.alloc nilG).alloc (.cells (tcl fun _ => 0).toArray 3) = W1 := ⟨_, rfl⟩
  have HM0 : Hid (TbM w W1 (tabT n [])) := hidIn (by
    rw [← hW1]
    refine ⟨?_, ?_, ((Below.refl _ w).alloc (Nat.le_refl _) _).alloc (by simp) _⟩
    · rw [Below.heap_alloc _ _ _ (by simp)]
      exact heap_alloc_last w _
    · have := heap_alloc_last (w.alloc nilG) (.cells (tcl fun _ => 0).toArray 3)
      rw [World.size_alloc] at this
      exact this)
  have HW := hidIn hW1
  have hn0 : (n : Int) ≠ 0 := by omega
  have hnb : ((n : Int) == 0) = false := by simpa using hn0
  have Hn := hidIn hn
  clear hW1
  go_enter Try.func25, Try.ntmps25
  go_upto_region 2 with fail
  rw [HW.out]
  clear HW hmk
  go_wp2_with fail
  go_loopw [6] (fun i wr => ∃ k : Nat, k ≤ 12 ∧ k ≤ L.length ∧ i = .int .i64 k ∧ Hid (TbM w wr (tabT n (L.take k)))) (fun i _ => 12 - (intOf i).toNat)
  case atStart => exact ⟨0, by omega, Nat.zero_le _, rfl, HM0⟩
  case round =>
    clear HM0
    obtain ⟨k, hk12, hk, rfl, HR⟩ := hrel
    by_cases hlt : k < L.length ∧ k < 12
    · obtain ⟨hlt, hlt12⟩ := hlt
      obtain ⟨bk, o, rfl, hbk, hcell⟩ := Hlc.out (by omega)
      obtain ⟨⟨x, y, z⟩, hx⟩ : ∃ z, L[k]? = some z := ⟨L[k], List.getElem?_eq_getElem hlt⟩
      obtain ⟨q0, q1, q2⟩ := hcell k _ hx
      have c0 := (HR.out.b.cell (p := ⟨bk, o + k * 3, none⟩) hbk).trans q0
      have c1 := (HR.out.b.cell (p := ⟨bk, o + k * 3 + 1, none⟩) hbk).trans q1
      have c2 := (HR.out.b.cell (p := ⟨bk, o + k * 3 + 2, none⟩) hbk).trans q2
      simp only at c0 c1 c2
      obtain ⟨⟨hx0, hx1⟩, ⟨hy0, hy1⟩, hz0, hz1⟩ := HL.out _ (List.mem_of_getElem? hx)
      simp only at hx0 hx1 hy0 hy1 hz0 hz1
      obtain ⟨X, rfl⟩ : ∃ X : Nat, x = (X : Int) := ⟨x.toNat, by omega⟩
      obtain ⟨Y, rfl⟩ : ∃ Y : Nat, y = (Y : Int) := ⟨y.toNat, by omega⟩
      obtain ⟨Z, rfl⟩ : ∃ Z : Nat, z = (Z : Int) := ⟨z.toNat, by omega⟩
      have HT : Hid (tabT n (L.take (k + 1)) = tabL n (tabT n (L.take k)) ((X : Int), (Y : Int), (Z : Int))) := hidIn (by rw [take_snoc hx, tabT_snoc])
      obtain ⟨C, hC⟩ : ∃ C, tabT n (L.take k) = C := ⟨_, rfl⟩
      rw [hC] at HR HT
      clear hC hx hcell q0 q1 q2
      obtain ⟨a, ha⟩ : ∃ a, X % n = a := ⟨_, rfl⟩
      obtain ⟨b, hb⟩ : ∃ b, Y % n = b := ⟨_, rfl⟩
      have han : a < n := by rw [← ha]; exact Nat.mod_lt _ h0
      have hbn : b < n := by rw [← hb]; exact Nat.mod_lt _ h0
      have mX : (X : Int).tmod (n : Int) = (a : Int) := by rw [← ha, Int.tmod_eq_emod_of_nonneg (by omega)]; rfl
      have mY : (Y : Int).tmod (n : Int) = (b : Int) := by rw [← hb, Int.tmod_eq_emod_of_nonneg (by omega)]; rfl
      have HT2 : Hid (tabT n (L.take (k + 1)) = if a ≠ b ∧ C (16 * a + b) = 0 then putV (putV C (16 * a + b) (1 + (Z : Int) % 5)) (16 * b + a) (1 + (Z : Int) % 5) else C) := hidIn (by rw [HT.out]; unfold tabL; simp only [Int.toNat_natCast]; rw [ha, hb])
      have hki : (k : Int) < (L.length : Int) := by omega
      have hki2 : (k : Int) < 12 := by omega
      have hxi1 : (X : Int) ≤ 255 := hx1
      have hyi1 : (Y : Int) ≤ 255 := hy1
      have Ha := hidIn ha
      have Hb := hidIn hb
      clear HT ha hb hx0 hy0 hz0 hx1 hy1
      go_upto_region 5 with fail
      go_quiet (fail)
      clear c0 c1 mX mY hxi1 hyi1
      generalize hV : World.drewN wr _ = V
      have hM : TbM w V C := by rw [← hV]; exact HR.out.drewN _
      have e2 : V.cell? ⟨bk, o + k * 3 + 2, none⟩ = some (.int .u8 (Z : Int)) := by rw [← hV]; exact c2
      have HM := hidIn hM
      have t0 := hM.t.cell (16 * a + b)
      rw [tcl_get _ (by have := Hn.out; omega)] at t0
      have tf0 := hM.t.frozen (16 * a + b)
      have tf1 := hM.t.frozen (16 * b + a)
      have hbw : bk ≠ w.heap.size + 1 := by omega
      have hai : (a : Int) < 7 := by have := Hn.out; omega
      have hbi : (b : Int) < 7 := by have := Hn.out; omega
      clear hV hM HR c2
      by_cases hab : a = b
      · have hd : ((a : Int) != (b : Int)) = false := by rw [hab]; simp
        have HE : Hid (tabT n (L.take (k + 1)) = C) := hidIn (by rw [HT2.out, if_neg (fun h => h.1 hab)])
        clear hab t0 tf0 tf1 e2
        go_wp2_with fail
        go_roundw
        case rel => exact ⟨k + 1, by omega, by omega, by go_num, hidIn (by rw [HE.out]; exact HM.out)⟩
        case measure => simp [intOf]; omega
      have hd : ((a : Int) != (b : Int)) = true := by simp; omega
      by_cases hc : C (16 * a + b) = 0
      · rw [hc] at t0
        have HE : Hid (tabT n (L.take (k + 1)) = putV (putV C (16 * a + b) (1 + (Z : Int) % 5)) (16 * b + a) (1 + (Z : Int) % 5)) := hidIn (by rw [HT2.out, if_pos ⟨hab, hc⟩])
        clear hc
        obtain ⟨z, hz⟩ : ∃ z, Z % 5 = z := ⟨_, rfl⟩
        have hz5 : z < 5 := by omega
        have mZ : (Z : Int).tmod 5 = (z : Int) := by rw [← hz, Int.tmod_eq_emod_of_nonneg (by omega)]; rfl
        have HZ : Hid (1 + (Z : Int) % 5 = 1 + (z : Int)) := hidIn (by rw [← hz]; rfl)
        rw [HZ.out] at HE
        clear hz hz1
        have h256 : 16 * a + b < 256 := by omega
        have h256' : 16 * b + a < 256 := by omega
        have hi256 : 16 * (a : Int) + (b : Int) < 256 := by omega
        have hi256' : 16 * (b : Int) + (a : Int) < 256 := by omega
        go_upto_region 7 with fail
        go_upto_region 8 with fail
        have hM2 := HM.out.put h256 (1 + (z : Int))
        generalize World.setCell _ _ _ = V2 at hM2 ⊢
        have HM2 := hidIn hM2
        have s0 := hM2.t.cell (16 * a + b)
        rw [tcl_get _ h256, putV_same] at s0
        have s1 := hM2.t.cell (16 * b + a)
        rw [tcl_get _ h256'] at s1
        have sf1 := hM2.t.frozen (16 * b + a)
        clear hM2 t0 tf0 tf1 e2 mZ HM
        go_wp2_with fail
        go_roundw
        case rel => exact ⟨k + 1, by omega, by omega, by go_num, hidIn (by rw [HE.out]; exact HM2.out.put h256' _)⟩
        case measure => simp [intOf]; omega
      · have hc0 : (C (16 * a + b) == 0) = false := by simpa using hc
        have HE : Hid (tabT n (L.take (k + 1)) = C) := hidIn (by rw [HT2.out, if_neg (fun h => hc h.2)])
        clear hc tf0 tf1 e2
        go_wp2_with fail
        go_roundw
        case rel => exact ⟨k + 1, by omega, by omega, by go_num, hidIn (by rw [HE.out]; exact HM.out)⟩
        case measure => simp [intOf]; omega
    · have hni : ¬ ((k : Int) < (L.length : Int) ∧ (k : Int) < 12) := by omega
      have HT : Hid (TbM w wr (tabT n (L.take 12))) := hidIn (by
        have := HR.out
        rw [show L.take k = L.take 12 from by
          by_cases h : k = 12
          · rw [h]
          · rw [List.take_of_length_le (by omega), List.take_of_length_le (by omega)]] at this
        exact this)
      clear HR
      obtain ⟨C, hC⟩ : ∃ C, tabT n (L.take 12) = C := ⟨_, rfl⟩
      rw [hC] at HT
      have HC12 := hidIn hC
      clear hC
      go_upto_region 3 with fail
      go_cut [20] (fun c wx => c = .bool false ∧ wx = wr)
      case first =>
        by_cases h1 : k < L.length
        · have h1i : (k : Int) < (L.length : Int) := by omega
          have h2i : ¬ (k : Int) < 12 := by omega
          clear hlt hni
          go_wp2_with fail
          go_meet
          exact ⟨rfl, rfl⟩
        · have h1i : ¬ (k : Int) < (L.length : Int) := by omega
          clear hlt hni
          go_wp2_with fail
          go_meet
          exact ⟨rfl, rfl⟩
      case rest =>
        obtain ⟨rfl, hwc⟩ := hcut
        rw [hwc]
        clear hwc wc hlt hni
        obtain ⟨W2, hW2⟩ : ∃ W2, wr.alloc nilG = W2 := ⟨_, rfl⟩
        obtain ⟨gb, hgb⟩ : ∃ gb, wr.heap.size = gb := ⟨_, rfl⟩
        have HM0 : Hid (LgM w W2 gb C (.slice none 0 0) (.slice none 0 0) (tabN 0) (tabE C n 0)) := hidIn (by
          have bA : Below wr.heap.size wr W2 := by rw [← hW2]; exact (Below.refl _ wr).alloc (Nat.le_refl _) _
          have hlt := HT.out.t.lt
          refine ⟨by rw [← hW2, ← hgb]; exact heap_alloc_last wr _, World.ownsRow_nil _ _ _ _, World.ownsRow_nil _ _ _ _, fun j hj => by simp [Value.ownBlock] at hj, (bA.block _ (by omega)).trans HT.out.r, HT.out.t.keep bA hlt, HT.out.b.trans (bA.mono HT.out.b.size), by omega, by rw [← hW2, ← hgb]; simp⟩)
        have HW2 := hidIn hW2
        have Hgb := hidIn hgb
        clear hW2 hgb HT
        go_upto_region 10 with fail
        rw [HW2.out, Hgb.out]
        clear HW2 Hgb
        go_wp2_with fail
        go_loopw [10] (fun i wz => ∃ a : Nat, a ≤ n ∧ i = .int .i64 a ∧ Hid (∃ u v, LgM w wz gb C u v (tabN a) (tabE C n a))) (fun i _ => n - (intOf i).toNat)
        case atStart => exact ⟨0, Nat.zero_le _, rfl, hidIn ⟨_, _, HM0.out⟩⟩
        case round =>
          clear HM0
          obtain ⟨a, ha, rfl, HR⟩ := hrel
          obtain ⟨u, v, hM⟩ := HR.out
          clear HR
          by_cases hlt : a < n
          · have hai : (a : Int) < (n : Int) := by omega
            obtain ⟨g, cap, w6, hrun, h1, h2, h3⟩ := hM.addN ((a : Int) + 1) (by rw [tabN_len]; omega)
            have d0 := cell_of_row _ _ 0 _ _ _ hM.g
            simp at d0
            have HRun := hidIn hrun
            have H3 : Hid (LgM w _ gb C _ v (tabN (a + 1)) (tabE C n a)) := hidIn (by rw [tabN_succ]; exact h3)
            clear hrun h3 hM
            go_wp2_with (refine l_append rfl _ _ 22 rfl HRun.out ?_)
            generalize World.setCell _ _ _ = W4 at H3 ⊢
            clear d0 h1 h2 HRun
            have htl : (tabE C n a).length ≤ 49 := Nat.le_trans (tabE_len C n a) (Nat.le_trans (Nat.mul_le_mul (show a ≤ 7 by omega) hn) (by omega))
            go_loopw [11] (fun i wz => ∃ b : Nat, b ≤ n ∧ i = .int .i64 b ∧ Hid (∃ v', LgM w wz gb C (.slice (some ⟨g, 0, none⟩) ((tabN a).length + 1) cap) v' (tabN (a + 1)) (tabE C n a ++ rwE C a b))) (fun i _ => n - (intOf i).toNat)
            case atStart => exact ⟨0, Nat.zero_le _, rfl, hidIn ⟨v, by simpa [rwE] using H3.out⟩⟩
            case round =>
              clear H3
              obtain ⟨b, hb, rfl, HR⟩ := hrel
              obtain ⟨v', hM⟩ := HR.out
              clear HR
              by_cases hlt2 : b < n
              · have hbi : (b : Int) < (n : Int) := by omega
                have hai7 : (a : Int) < 7 := by omega
                have hbi7 : (b : Int) < 7 := by omega
                have h256 : 16 * a + b < 256 := by omega
                have hi256 : 16 * (a : Int) + (b : Int) < 256 := by omega
                have t0 := hM.t.cell (16 * a + b)
                rw [tcl_get _ h256] at t0
                have hrl := rwE_len C a b
                have HRS := hidIn (rwE_succ C a b)
                have HM := hidIn hM
                have hgs := hM.s
                have hts := hM.t.lt
                have d1 := cell_of_row _ _ 1 _ _ _ hM.g
                simp at d1
                clear hM
                obtain ⟨cv, hcv⟩ : ∃ cv, C (16 * a + b) = cv := ⟨_, rfl⟩
                rw [hcv] at t0 HRS
                clear hcv
                by_cases hc : 0 < cv
                · rw [if_pos hc] at HRS
                  obtain ⟨EE, hEE⟩ : ∃ EE, tabE C n a ++ rwE C a b = EE := ⟨_, rfl⟩
                  have hEl : EE.length ≤ 1000 := by rw [← hEE, List.length_append]; omega
                  have HEE : Hid (tabE C n a ++ rwE C a (b + 1) = EE ++ [((a : Int) + 1, (b : Int) + 1, cv)]) := hidIn (by rw [HRS.out, ← List.append_assoc, hEE])
                  rw [hEE] at HM
                  clear hEE HRS hrl
                  obtain ⟨g2, cap2, w7, hrun, k1, k2, kt, h3⟩ := HM.out.drew.addE ((a : Int) + 1, (b : Int) + 1, cv) hEl
                  have HRun := hidIn hrun
                  have H3 := hidIn h3
                  have HK := hidIn kt
                  clear hrun h3 kt
                  go_upto_region 18 with fail
                  have hw1 : IntKind.i64.wrap (16 * (a : Int)) = 16 * (a : Int) := by rw [IntKind.wrap_i64]; omega
                  have hw2 : IntKind.i64.wrap (16 * (a : Int) + (b : Int)) = 16 * (a : Int) + (b : Int) := by rw [IntKind.wrap_i64]; omega
                  have hw3 : IntKind.i64.wrap ((a : Int) + 1) = (a : Int) + 1 := by rw [IntKind.wrap_i64]; omega
                  have hw4 : IntKind.i64.wrap ((b : Int) + 1) = (b : Int) + 1 := by rw [IntKind.wrap_i64]; omega
                  have hw5 : (16 * (a : Int) + (b : Int)).toNat = 16 * a + b := by omega
                  have hw6 : 0 ≤ 16 * (a : Int) + (b : Int) := by omega
                  go_region_law ((refine step_append rfl (.tmp 105) (.tmp 118) 23 rfl (by kernel_rfl) (by kernel_rfl) HRun.out ?_))
                  all_goals
                    go_wp2_with fail
                    go_roundw
                    case rel => exact ⟨b + 1, by omega, by go_num, hidIn ⟨_, by rw [HEE.out]; exact H3.out⟩⟩
                    case measure => simp [intOf]; omega
                · rw [if_neg hc, List.append_nil] at HRS
                  clear d1
                  go_wp2_with fail
                  go_roundw
                  case rel => exact ⟨b + 1, by omega, by go_num, hidIn ⟨v', by rw [HRS.out]; exact HM.out⟩⟩
                  case measure => simp [intOf]; omega
              · have hbi : ¬ (b : Int) < (n : Int) := by omega
                have hbn : b = n := by omega
                have HM : Hid (LgM w wr gb C (.slice (some ⟨g, 0, none⟩) ((tabN a).length + 1) cap) v' (tabN (a + 1)) (tabE C n (a + 1))) := hidIn (by rw [tabE_succ]; rw [hbn] at hM; exact hM)
                clear hM hbn
                go_wp2_with fail
                go_roundw
                case rel => exact ⟨a + 1, by omega, by go_num, hidIn ⟨_, v', HM.out⟩⟩
                case measure => simp [intOf]; omega
          · have hai : ¬ (a : Int) < (n : Int) := by omega
            have han : a = n := by omega
            rw [han] at hM
            clear han
            obtain ⟨ua, ucap, rfl⟩ := row_shape hM.n
            obtain ⟨va, vcap, rfl⟩ := row_shape hM.e
            have d0 := cell_of_row _ _ 0 _ _ _ hM.g
            have d1 := cell_of_row _ _ 1 _ _ _ hM.g
            have r0 := cell_of_row _ _ 0 _ _ _ hM.r
            have r1 := cell_of_row _ _ 1 _ _ _ hM.r
            simp at d0 d1 r0 r1
            have f0 := frozen_new hM.r 0
            have f1 := frozen_new hM.r 1
            have HM := hidIn hM
            have hlg := hM.l
            clear hM
            obtain ⟨NN, hNN⟩ : ∃ NN, tabN n = NN := ⟨_, rfl⟩
            obtain ⟨EE, hEE⟩ : ∃ EE, tabE C n n = EE := ⟨_, rfl⟩
            rw [hNN, hEE] at HM
            rw [hNN] at d0
            rw [hEE] at d1
            have HNN := hidIn hNN
            have HEE := hidIn hEE
            clear hNN hEE
            go_wp2_with fail
            have e0 : ((wr.setCell ⟨w.heap.size, 0, none⟩ (.slice ua NN.length ucap)).setCell ⟨w.heap.size, 1, none⟩ (.slice va EE.length vcap)).cell? ⟨w.heap.size, 0, none⟩ = some (.slice ua NN.length ucap) := by simp [go_sem, r0]
            have e1 : ((wr.setCell ⟨w.heap.size, 0, none⟩ (.slice ua NN.length ucap)).setCell ⟨w.heap.size, 1, none⟩ (.slice va EE.length vcap)).cell? ⟨w.heap.size, 1, none⟩ = some (.slice va EE.length vcap) := by simp [go_sem, r1]
            have HF : Hid (Fr (fun k => k = w.heap.size) wr ((wr.setCell ⟨w.heap.size, 0, none⟩ (.slice ua NN.length ucap)).setCell ⟨w.heap.size, 1, none⟩ (.slice va EE.length vcap))) := hidIn (((Fr.refl (fun k => k = w.heap.size) wr).set (p := ⟨w.heap.size, 0, none⟩) rfl _).set (p := ⟨w.heap.size, 1, none⟩) rfl _)
            generalize (wr.setCell ⟨w.heap.size, 0, none⟩ (.slice ua NN.length ucap)).setCell ⟨w.heap.size, 1, none⟩ (.slice va EE.length vcap) = V at *
            refine bodyPost_ret (v := grV (.slice ua NN.length ucap) (.slice va EE.length vcap)) (by simp [results, Try.results25, asAddr, Result.andThen, go_sem, e0, e1]) rfl ⟨⟨_, _, rfl, ?_, ?_⟩, ?_⟩
            · rw [HNN.out]
              exact row_low (row_fr HM.out.n HF.out (fun j hj e => by have := (HM.out.n.lt j hj).1; omega)) (by omega)
            · rw [HC12.out, HEE.out]
              exact row_low (row_fr HM.out.e HF.out (fun j hj e => by have := (HM.out.e.lt j hj).1; omega)) (by omega)
            · exact HM.out.b.trans (HF.out.below HM.out.b.size (fun k hk => by omega))
end Go.Proofs.Ytfbojelflplflaa
