/- A claim's one router; who owns an id. -/
import Derived.Test.YtgpinecfmhenkaaDoorU5
namespace Go.Proofs.YtgpinecfmhenkaaDoor
open Go.RowKit

theorem fault_any (k : Int) (w : World) : Calls Tryd.prog 19 #[.int .i64 k] w fun e w' => e = .returned (rfs (pfa w.heap.size)) ∧ w' = w.alloc (.cells #[.int .i64 k, .int .i64 0] 62) := by
  go_enter Tryd.func19, Tryd.ntmps19
  go_wp2
  go_ret
  exact ⟨rfl, rfl⟩
theorem isFree_any (id : Int) (a : Option Addr) (n c : Nat) (w : World) : Calls Tryd.prog 30 #[.agg #[.int .i64 id, .slice a n c]] w fun e w' => e = .returned (.bool (n == 1)) ∧ Below w.heap.size w w' := by
  by_cases h : n = 1
  · subst h
    go_enter Tryd.func30, Tryd.ntmps30
    go_wp2
    go_ret
    exact ⟨rfl, by go_grown⟩
  · have h' : ¬ ((n : Int) = 1) := by omega
    have hb : (n == 1) = false := by simpa using h
    have hi : ((n : Int) == 1) = false := by simpa using h'
    rw [hb]
    clear hb h h'
    go_enter Tryd.func30, Tryd.ntmps30
    go_wp2
    go_ret
    exact ⟨rfl, by go_grown⟩
/-- What is told of a claim's one router: the router; that it has none; a conflict with a copy of its routers. -/
def SoleA (w w' : World) (id : Int) (rs : List Int) (e : Ending) : Prop :=
  (rs = [] ∧ ∃ b, e = .returned (.tuple #[.int .i64 0, rfs (pfa b)]) ∧ w.heap.size ≤ b ∧ w'.heap[b]? = some (.cells #[.int .i64 6, .int .i64 0] 62)) ∨
  (∃ x, rs = [x] ∧ e = .returned (.tuple #[.int .i64 x, .nilIface])) ∨
  (2 ≤ rs.length ∧ ∃ c u, e = .returned (.tuple #[.int .i64 0, rfs (pcf c)]) ∧ w.heap.size ≤ c ∧ w'.heap[c]? = some (.cells #[.int .i64 id, u] 54) ∧ w'.ownsRow w.heap.size 3 1 u rs.length (fl ic rs))
set_option maxRecDepth 100000 in
set_option maxHeartbeats 2000000 in
theorem sole_any {id : Int} {v : Value} {rs : List Int} {w : World} (h : SlAt ic 1 w v rs) (hn : NilOk v) (hl : rs.length ≤ 10000) :
    Calls Tryd.prog 20 #[.agg #[.int .i64 id, v]] w fun e w' => SoleA w w' id rs e ∧ Below w.heap.size w w' := by
  have h0 := h
  obtain ⟨a, c, rfl, _, _, hc⟩ := h.ints
  obtain ⟨W1, hW1⟩ : ∃ W1, w.alloc (.cells #[.int .i64 id, .slice a rs.length c] 31) = W1 := ⟨_, rfl⟩
  have b1 : Below w.heap.size w W1 := by rw [← hW1]; exact (Below.refl _ w).alloc (Nat.le_refl _) _
  have hX := heap_alloc_last w (.cells #[.int .i64 id, .slice a rs.length c] 31)
  rw [hW1] at hX
  obtain ⟨b, hb⟩ : ∃ b, w.heap.size = b := ⟨_, rfl⟩
  rw [hb] at hX
  have x0 := cell_of_row _ _ 0 _ _ _ hX
  have x1 := cell_of_row _ _ 1 _ _ _ hX
  simp at x0 x1
  have HW := hidIn hW1
  have HX := hidIn hX
  have HB1 := hidIn b1
  have Hwb := hidIn hb
  rcases Nat.lt_or_ge rs.length 1 with hz | hz
  · have hr : rs = [] := List.length_eq_zero_iff.1 (by omega)
    subst hr
    have HF := hidIn (fault_any 6 W1)
    have HX2 := hidIn (heap_alloc_last W1 (.cells #[.int .i64 6, .int .i64 0] 62))
    have HB2 : Hid (Below w.heap.size w (W1.alloc (.cells #[.int .i64 6, .int .i64 0] 62))) := hidIn (b1.alloc b1.size _)
    have HS := hidIn b1.size
    simp only [List.length_nil] at *
    clear hX b1 hW1 h0 h hn hc
    go_enter Tryd.func20, Tryd.ntmps20
    go_upto_region 1 with fail
    rw [HW.out]
    clear HW hb
    go_wp2_with fail
    refine HF.out.mono ?_
    rintro e w2 ⟨rfl, hw2⟩
    rw [hw2]
    clear hw2 w2 HF
    go_wp2_with fail
    go_ret2
    exact ⟨.inl ⟨rfl, _, rfl, HS.out, HX2.out⟩, HB2.out⟩
  · by_cases h1 : rs.length = 1
    · obtain ⟨x, rfl⟩ : ∃ x, rs = [x] := List.length_eq_one_iff.1 h1
      obtain ⟨bk, o, rfl, hbk, hcell⟩ := hc (by simp)
      have q0 := (b1.cell (p := ⟨bk, o + 0, none⟩) hbk).trans (hcell 0 x rfl)
      simp only [List.length_cons, List.length_nil, Nat.add_zero] at *
      clear hX b1 hW1 h0 h hn hc hcell
      go_enter Tryd.func20, Tryd.ntmps20
      go_upto_region 1 with fail
      rw [HW.out]
      clear HW hb
      go_wp2_with fail
      go_ret2
      exact ⟨.inr (.inl ⟨x, rfl, rfl⟩), HB1.out⟩
    · obtain ⟨rn, hrn⟩ : ∃ rn, rs.length = rn := ⟨_, rfl⟩
      have Hrn := hidIn hrn
      have hr0 : ¬ ((rn : Int) = 0) := by omega
      have hr1 : ¬ ((rn : Int) = 1) := by omega
      have HCl : Hid (∀ wq, Below W1.heap.size W1 wq → Calls Tryd.prog 31 #[.slice a rn c] wq fun e w' => (∃ v', e = .returned v' ∧ w'.ownsRow wq.heap.size 3 1 v' rn (fl ic rs)) ∧ Below wq.heap.size wq w') := hidIn fun wq hq => by
        have := cclone_any (h0.keep (b1.trans (hq.mono b1.size)) (Nat.le_refl _)) hn (by omega)
        rw [hrn] at this
        exact this
      rw [hrn] at HW x1 HX ⊢
      have HRd : Hid (∀ wq, Below W1.heap.size W1 wq → wq.cell? ⟨b, 0, none⟩ = some (.int .i64 id) ∧ wq.cell? ⟨b, 1, none⟩ = some (.slice a rn c)) := hidIn fun wq hq => ⟨(hq.cell (p := ⟨b, 0, none⟩) (block_lt HX.out)).trans x0, (hq.cell (p := ⟨b, 1, none⟩) (block_lt HX.out)).trans x1⟩
      clear hX b1 hW1 h0 h hn hc hrn
      go_enter Tryd.func20, Tryd.ntmps20
      go_upto_region 1 with fail
      rw [HW.out]
      clear HW hb
      go_upto_region 6 with fail
      refine wp_region_held_drew (S := fun wx => Below W1.heap.size W1 wx) (by kernel_rfl) ((Below.refl _ W1).drew) (fun hHeld => ?_)
      have hh : Below W1.heap.size W1 W1.drew := hHeld
      refine wpAnyH_take (i := 0) (v := ?_) rfl (by kernel_rfl) (by kernel_rfl) (by kernel_rfl) (fun _ _ _ h => h) (Or.inl ⟨by rfl, ?_⟩) (by assumption) ?_
      rotate_left
      · intro wq hSw
        clear hSw
        go_simp
        try (with_reducible rfl)
      refine wpAnyH_take (i := 1) (v := ?_) rfl (by kernel_rfl) (by kernel_rfl) (by kernel_rfl) (fun _ _ _ h => h) (Or.inl ⟨by rfl, ?_⟩) (by assumption) ?_
      rotate_left
      · intro wq hSw
        obtain ⟨zz0, zz1⟩ := HRd.out wq hSw
        clear hSw
        go_simp
        try (with_reducible rfl)
      refine wpAnyH_take (i := 2) (v := ?_) rfl (by kernel_rfl) (by kernel_rfl) (by kernel_rfl) (fun _ _ _ h => h) (Or.inl ⟨by rfl, ?_⟩) (by assumption) ?_
      rotate_left
      · intro wq hSw
        clear hSw
        go_simp
        try (with_reducible rfl)
      refine wpAnyH_take (i := 3) (v := ?_) rfl (by kernel_rfl) (by kernel_rfl) (by kernel_rfl) (fun _ _ _ h => h) (Or.inl ⟨by rfl, ?_⟩) (by assumption) ?_
      rotate_left
      · intro wq hSw
        obtain ⟨zz0, zz1⟩ := HRd.out wq hSw
        clear hSw
        go_simp
        try (with_reducible rfl)
      refine wpAnyH_ready (rs := [4]) (by kernel_rfl) (by simp) ?_
      refine AllReadyH.cons (i := 4) rfl (fun K hK => ?_) AllReadyH.nil
      go_simp
      refine (HCl.out _ hh).mono ?_
      rintro e w5 ⟨⟨v', rfl, hr5⟩, hbx⟩
      have h5 : Below W1.heap.size W1 w5 := hh.trans (hbx.mono hh.size)
      obtain ⟨ra, rc, rfl⟩ := row_shape hr5
      refine hK.out _ _ h5 (fun _ => ?_)
      clear hK K
      refine wpAnyH_take (i := 5) (v := ?_) rfl (by kernel_rfl) (by kernel_rfl) (by kernel_rfl) (fun _ _ _ h => h) (Or.inl ⟨by rfl, ?_⟩) (by assumption) ?_
      rotate_left
      · intro wq hSw
        clear hSw
        go_simp
        try (with_reducible rfl)
      refine wpAnyH_take (i := 10) (v := ?_) rfl (by kernel_rfl) (by kernel_rfl) (by kernel_rfl) (fun _ _ _ h => h) (Or.inl ⟨by rfl, ?_⟩) (by assumption) ?_
      rotate_left
      · intro wq hSw
        clear hSw
        go_simp
        try (with_reducible rfl)
      refine wpAnyH_ready (rs := [6]) (by kernel_rfl) (by simp) ?_
      refine AllReadyH.cons (i := 6) rfl ?_ AllReadyH.nil
      go_simp
      intro K hK
      obtain ⟨w6, hw6⟩ : ∃ w6, w5.alloc (.cells #[.int .i64 id, .slice ra rn rc] 54) = w6 := ⟨_, rfl⟩
      have b6 : Below w5.heap.size w5 w6 := by rw [← hw6]; exact (Below.refl _ w5).alloc (Nat.le_refl _) _
      have h6 : Below W1.heap.size W1 w6 := h5.trans (b6.mono h5.size)
      have hz6 : w6.heap[w5.heap.size]? = some (.cells #[.int .i64 id, .slice ra rn rc] 54) := by rw [← hw6]; exact heap_alloc_last w5 _
      have hr6 := row_below (row_low hr5 (Nat.le_trans HB1.out.size hh.size)) b6 (Nat.le_refl _)
      have hs6 : w.heap.size ≤ w5.heap.size := Nat.le_trans HB1.out.size h5.size
      have HE : Hid (SoleA w w6 id rs (.returned (.tuple #[.int .i64 0, rfs (pcf w5.heap.size)])) ∧ Below w.heap.size w w6) := hidIn ⟨.inr (.inr ⟨by have := Hrn.out; omega, _, _, rfl, hs6, hz6, by rw [Hrn.out]; exact hr6⟩), HB1.out.trans (h6.mono HB1.out.size)⟩
      rw [hw6]
      refine hK.out _ _ h6 (fun _ => ?_)
      clear hK K hw6 b6 hz6 hr6 hs6 hr5 hbx
      refine wpAnyH_take (i := 7) (v := ?_) rfl (by kernel_rfl) (by kernel_rfl) (by kernel_rfl) (fun _ _ _ h => h) (Or.inl ⟨by rfl, ?_⟩) (by assumption) ?_
      rotate_left
      · intro wq hSw
        clear hSw
        go_simp
        try (with_reducible rfl)
      refine wpAnyH_take (i := 8) (v := ?_) rfl (by kernel_rfl) (by kernel_rfl) (by kernel_rfl) (fun _ _ _ h => h) (Or.inl ⟨by rfl, ?_⟩) (by assumption) ?_
      rotate_left
      · intro wq hSw
        clear hSw
        go_simp
        try (with_reducible rfl)
      refine wpAnyH_take (i := 9) (v := ?_) rfl (by kernel_rfl) (by kernel_rfl) (by kernel_rfl) (fun _ _ _ h => h) (Or.inl ⟨by rfl, ?_⟩) (by assumption) ?_
      rotate_left
      · intro wq hSw
        clear hSw
        go_simp
        try (with_reducible rfl)
      refine wpAnyH_take (i := 11) (v := ?_) rfl (by kernel_rfl) (by kernel_rfl) (by kernel_rfl) (fun _ _ _ h => h) (Or.inl ⟨by rfl, ?_⟩) (by assumption) ?_
      rotate_left
      · intro wq hSw
        clear hSw
        go_simp
        try (with_reducible rfl)
      refine wpAnyH_done (by kernel_rfl) ?_ _
      go_wp2_with fail
      go_ret2
      exact HE.out
end Go.Proofs.YtgpinecfmhenkaaDoor
