/- Who owns an id. -/
import Derived.Test.YtgpinecfmhenkaaDoorU6
namespace Go.Proofs.YtgpinecfmhenkaaDoor
open Go.RowKit

theorem SoleA.low {w w2 w' : World} {id : Int} {rs : List Int} {e : Ending} (h : SoleA w2 w' id rs e) (hs : w.heap.size ≤ w2.heap.size) : SoleA w w' id rs e := by
  rcases h with ⟨h1, b, h2, h3, h4⟩ | h | ⟨h1, c, u, h2, h3, h4, h5⟩
  · exact .inl ⟨h1, b, h2, by omega, h4⟩
  · exact .inr (.inl h)
  · exact .inr (.inr ⟨h1, c, u, h2, by omega, h4, row_low h5 hs⟩)
/-- A fault. -/
def FltA (w w' : World) (k : Int) (e : Ending) : Prop := ∃ b, e = .returned (.tuple #[.int .i64 0, rfs (pfa b)]) ∧ w.heap.size ≤ b ∧ w'.heap[b]? = some (.cells #[.int .i64 k, .int .i64 0] 62)
abbrev Cl : Type := Int × List Int × Value
/-- The claim of an id. -/
def clOf (L : List Cl) (id : Int) : Option Cl := L.find? fun x => x.1 == id
/-- What Owner answers. -/
def OwnrA (w w' : World) (L : List Cl) (id : Int) (e : Ending) : Prop :=
  (¬ (1 ≤ id ∧ id ≤ 1024) ∧ FltA w w' 2 e) ∨ ((1 ≤ id ∧ id ≤ 1024) ∧ clOf L id = none ∧ FltA w w' 6 e) ∨ ((1 ≤ id ∧ id ≤ 1024) ∧ ∃ x, clOf L id = some x ∧ SoleA w w' id x.2.1 e)
theorem find_drop {L : List Cl} {id : Int} {k : Nat} {x : Cl} (hn : ∀ y ∈ L.take k, y.1 ≠ id) (hx : L[k]? = some x) (hi : x.1 = id) : clOf L id = some x := by
  have h : L = L.take k ++ x :: L.drop (k + 1) := by rw [← drop_next hx, List.take_append_drop]
  unfold clOf
  rw [h, List.find?_append, List.find?_eq_none.2 (fun y hy => by simpa using hn y hy), List.find?_cons]
  simp [hi]
theorem find_none {L : List Cl} {id : Int} (hn : ∀ y ∈ L, y.1 ≠ id) : clOf L id = none := List.find?_eq_none.2 (fun y hy => by simpa using hn y hy)
set_option maxRecDepth 100000 in
set_option maxHeartbeats 2000000 in
theorem owner_any {L : List Cl} {v : Value} {id : Int} {w : World} (h : ClsAt w v L) (hl : ∀ x ∈ L, x.2.1.length ≤ 10000) :
    Calls Tryd.prog 6 #[v, .int .i64 id] w fun e w' => OwnrA w w' L id e ∧ Below w.heap.size w w' := by
  obtain ⟨a, cap, rfl, hn, _, hat⟩ := h.r.clms
  have Ha := hidIn hat
  have HA := hidIn h.a
  have HL := hidIn hl
  clear hat h hl
  by_cases hid : 1 ≤ id ∧ id ≤ 1024
  · have h1 : ¬ id < 1 := by omega
    have h2 : ¬ 1024 < id := by omega
    have Hid' := hidIn hid
    clear hid
    go_enter Tryd.func6, Tryd.ntmps6
    go_wp2_with fail
    go_loopw [17] (fun i wr => ∃ k : Nat, k ≤ L.length ∧ i = .int .i64 k ∧ Hid (Below w.heap.size w wr ∧ ∀ y ∈ L.take k, y.1 ≠ id)) (fun i _ => L.length - (intOf i).toNat)
    case atStart => exact ⟨0, Nat.zero_le _, rfl, hidIn ⟨Below.refl _ _, fun y hy => absurd hy (by simp)⟩⟩
    case round =>
      obtain ⟨k, hk, rfl, HR⟩ := hrel
      obtain ⟨hb, hne⟩ := HR.out
      clear HR
      by_cases hlt : k < L.length
      · obtain ⟨bk, o, rfl, hbk, hcell⟩ := Ha.out (by omega)
        obtain ⟨⟨x, xs, xv⟩, hz⟩ : ∃ z, L[k]? = some z := ⟨L[k], List.getElem?_eq_getElem hlt⟩
        obtain ⟨q0, q1⟩ := hcell k _ hz
        obtain ⟨hxs, hxn⟩ := HA.out _ (List.mem_of_getElem? hz)
        have hxl := HL.out _ (List.mem_of_getElem? hz)
        simp only at q0 q1 hxs hxn hxl
        have c0 := (hb.cell (p := ⟨bk, o + k * 2, none⟩) hbk).trans q0
        have c1 := (hb.cell (p := ⟨bk, o + k * 2 + 1, none⟩) hbk).trans q1
        obtain ⟨xa, xc, hxv⟩ : ∃ xa xc, xv = .slice xa xs.length xc := by
          obtain ⟨xa, xc, h, _⟩ := hxs
          exact ⟨xa, xc, h⟩
        subst hxv
        obtain ⟨W1, hW1⟩ : ∃ W1, wr.alloc (.cells #[.int .i64 x, .slice xa xs.length xc] 31) = W1 := ⟨_, rfl⟩
        have b1 : Below wr.heap.size wr W1 := by rw [← hW1]; exact (Below.refl _ wr).alloc (Nat.le_refl _) _
        have hX := heap_alloc_last wr (.cells #[.int .i64 x, .slice xa xs.length xc] 31)
        rw [hW1] at hX
        obtain ⟨br, hbr⟩ : ∃ br, wr.heap.size = br := ⟨_, rfl⟩
        rw [hbr] at hX
        have x0 := cell_of_row _ _ 0 _ _ _ hX
        have x1 := cell_of_row _ _ 1 _ _ _ hX
        simp at x0 x1
        have hB1 := hb.trans (b1.mono hb.size)
        have HS := hidIn (sole_any (id := x) (hxs.keep hB1 (Nat.le_refl _)) hxn hxl)
        have HB1 := hidIn hB1
        have HW := hidIn hW1
        have Hz := hidIn hz
        have Hne := hidIn hne
        have hki : (k : Int) < (L.length : Int) := by omega
        clear hcell q0 q1 hxs hxn hxl hX b1 hB1 hW1 hz hne hb
        go_upto_region 6 with fail
        rw [HW.out]
        clear HW c0 c1 hbr
        by_cases hxi : x = id
        · subst hxi
          go_wp2_with fail
          refine HS.out.mono ?_
          rintro e w2 ⟨hs, hb2⟩
          have HB2 := hidIn (HB1.out.trans (hb2.mono HB1.out.size))
          have HE : Hid (OwnrA w w2 L x e) := hidIn (.inr (.inr ⟨Hid'.out, _, find_drop Hne.out Hz.out rfl, hs.low HB1.out.size⟩))
          rcases hs with ⟨_, b, rfl, _⟩ | ⟨y, _, rfl⟩ | ⟨_, c, u, rfl, _⟩
          all_goals
            clear hb2 HS x0 x1
            go_wp2_with fail
            go_ret2
            exact ⟨HE.out, HB2.out⟩
        · have hxi' : ¬ x = id := hxi
          go_wp2_with fail
          go_roundw
          case rel =>
            refine ⟨k + 1, by omega, by go_num, hidIn ⟨HB1.out, fun y hy => ?_⟩⟩
            rw [take_snoc Hz.out] at hy
            rcases List.mem_append.1 hy with hy | hy
            · exact Hne.out y hy
            · rw [List.mem_singleton.1 hy]
              exact hxi'
          case measure => simp [intOf]; omega
      · have hki : ¬ ((k : Int) < (L.length : Int)) := by omega
        have HF := hidIn (fault_any 6 wr)
        have HE : Hid (∀ e, e = Ending.returned (.tuple #[.int .i64 0, rfs (pfa wr.heap.size)]) → OwnrA w (wr.alloc (.cells #[.int .i64 6, .int .i64 0] 62)) L id e) := hidIn fun e he => .inr (.inl ⟨Hid'.out, find_none (fun y hy => hne y (by rw [List.take_of_length_le (by omega)]; exact hy)), _, he, hb.size, heap_alloc_last _ _⟩)
        have HB : Hid (Below w.heap.size w (wr.alloc (.cells #[.int .i64 6, .int .i64 0] 62))) := hidIn (hb.alloc hb.size _)
        clear hb hne
        go_wp2_with fail
        refine HF.out.mono ?_
        rintro e w2 ⟨rfl, hw2⟩
        rw [hw2]
        clear hw2 w2 HF
        go_wp2_with fail
        go_ret2
        exact ⟨HE.out _ rfl, HB.out⟩
  · have HF := hidIn (fault_any 2 w)
    have HE : Hid (OwnrA w (w.alloc (.cells #[.int .i64 2, .int .i64 0] 62)) L id (.returned (.tuple #[.int .i64 0, rfs (pfa w.heap.size)]))) := hidIn (.inl ⟨hid, _, rfl, Nat.le_refl _, heap_alloc_last _ _⟩)
    have HB : Hid (Below w.heap.size w (w.alloc (.cells #[.int .i64 2, .int .i64 0] 62))) := hidIn ((Below.refl _ w).alloc (Nat.le_refl _) _)
    rcases Int.lt_or_le id 1 with h1 | h1
    · clear hid
      go_enter Tryd.func6, Tryd.ntmps6
      go_wp2_with fail
      refine HF.out.mono ?_
      rintro e w2 ⟨rfl, hw2⟩
      rw [hw2]
      clear hw2 w2 HF
      go_wp2_with fail
      go_ret2
      exact ⟨HE.out, HB.out⟩
    · have h2 : 1024 < id := by omega
      have h1' : ¬ id < 1 := by omega
      clear hid
      go_enter Tryd.func6, Tryd.ntmps6
      go_wp2_with fail
      refine HF.out.mono ?_
      rintro e w2 ⟨rfl, hw2⟩
      rw [hw2]
      clear hw2 w2 HF
      go_wp2_with fail
      go_ret2
      exact ⟨HE.out, HB.out⟩
end Go.Proofs.YtgpinecfmhenkaaDoor
