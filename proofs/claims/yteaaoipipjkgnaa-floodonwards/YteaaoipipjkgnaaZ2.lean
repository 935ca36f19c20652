/- Tick, all of it. Pending. outrun. Take. The law's rec, is; what stays of sends. -/
import Derived.Test.YteaaoipipjkgnaaZ1
import Derived.Maps.RangeWalk
import Derived.Test.YteaaoipipjkgnaaXO
namespace Go.Proofs.Yteaaoipipjkgnaa
open Go.RowKit Go.Maps

def dueO (s : Fp) (p now : Int) : List Int := match s.ow p with
  | some d => dueL d now s.again 24
  | none => []
def Fp.tickL (s : Fp) (ps : List Int) (now : Int) : Fp := ps.foldl (fun s p => s.oweO p (dueO s p now) now) s
def tkT (s : Fp) (f : Sf) (ps : List Int) (now : Int) : List (Int × Rc) := ps.flatMap fun p => (dueO s p now).map fun o => (p, rOf (f o))
theorem tickL_snoc (s : Fp) (ps : List Int) (p now : Int) : s.tickL (ps ++ [p]) now = (s.tickL ps now).oweO p (dueO (s.tickL ps now) p now) now := by unfold Fp.tickL; rw [List.foldl_append]; rfl
theorem tkT_snoc (s : Fp) (f : Sf) (ps : List Int) (p now : Int) : tkT s f (ps ++ [p]) now = tkT s f ps now ++ (dueO s p now).map fun o => (p, rOf (f o)) := by unfold tkT; rw [List.flatMap_append]; simp
theorem tickL_up (now k : Int) : ∀ (ps : List Int) (s : Fp), ((s.tickL ps now).ow k).isSome = (s.ow k).isSome
  | [], _ => rfl
  | p :: ps, s => by
    show (((s.oweO p (dueO s p now) now).tickL ps now).ow k).isSome = _
    rw [tickL_up now k ps, oweO_up]
theorem tickL_other (now : Int) {k : Int} : ∀ (ps : List Int) (s : Fp), k ∉ ps → (s.tickL ps now).ow k = s.ow k
  | [], _, _ => rfl
  | p :: ps, s, h => by
    show ((s.oweO p (dueO s p now) now).tickL ps now).ow k = _
    rw [tickL_other now ps _ (fun h' => h (List.mem_cons_of_mem _ h')), oweO_other p now (fun e => h (by rw [e]; exact List.mem_cons_self))]
theorem tickL_again (now : Int) : ∀ (ps : List Int) (s : Fp), (s.tickL ps now).again = s.again
  | [], _ => rfl
  | p :: ps, s => by
    show ((s.oweO p (dueO s p now) now).tickL ps now).again = _
    rw [tickL_again now ps, (oweO_rest p now _ s).1]
theorem dueO_tick (now : Int) {p : Int} (ps : List Int) (s : Fp) (h : p ∉ ps) : dueO (s.tickL ps now) p now = dueO s p now := by
  unfold dueO
  rw [tickL_other now ps s h, tickL_again now ps s]
theorem dueO_len (s : Fp) (p now : Int) : (dueO s p now).length ≤ 24 := by
  unfold dueO
  split
  · exact dueL_len _ _ _ _
  · simp
theorem tkT_len (s : Fp) (f : Sf) (now : Int) : ∀ ps : List Int, (tkT s f ps now).length ≤ 24 * ps.length
  | [] => by simp [tkT]
  | p :: ps => by
    have h1 := tkT_len s f now ps
    have h2 := dueO_len s p now
    have : tkT s f (p :: ps) now = (dueO s p now).map (fun o => (p, rOf (f o))) ++ tkT s f ps now := by unfold tkT; rw [List.flatMap_cons]
    rw [this, List.length_append, List.length_map, List.length_cons]
    omega
theorem upL_lt {s : Fp} {left : Int} {n : Nat} {p : Int} (h : p ∈ upL s left n) : 1 ≤ p ∧ p ≤ (n : Int) ∧ (s.ow p).isSome = true ∧ p ≠ left := by
  unfold upL at h
  obtain ⟨i, hi, hq⟩ := List.mem_filterMap.1 h
  have hi' : i < n := by simpa using hi
  split at hq
  · rename_i hc
    cases hq
    exact ⟨by omega, by omega, hc.1, hc.2⟩
  · cases hq
set_option maxRecDepth 100000 in
set_option maxHeartbeats 2000000 in
theorem tick_each {P O S M n : Nat} {s : Fp} {f : Sf} {ob : Int → Option Nat} {w0 w : World} {B : Nat} {now : Int} (h : Amid w0 w P O S M n s f ob B now []) {b2 b3 b6 : Nat} (h2 : w.heap[b2]? = some (.cells #[ptr P] 26)) (h3 : w.heap[b3]? = some (.cells #[.int .u64 now] 39)) (h6 : w.heap[b6]? = some (.cells #[oweF B] 105)) (hbb : b2 ≠ B + 2 ∧ b3 ≠ B + 2 ∧ b6 ≠ B + 2) :
    Calls Try.prog 50 #[ptr P, .int .i64 0, .func (.func 52) #[] #[ptr b2, ptr b3, ptr b6]] w fun e w' => (∃ x, e = .returned x) ∧ Amid w0 w' P O S M n (s.tickL (upL s 0 24) now) f ob B now (tkT s f (upL s 0 24) now) ∧ Fr (TchF ob B) w w' ∧ OwFr B w w' := by
  have H := hidIn h
  have H2 := hidIn h2
  have H3 := hidIn h3
  have H6 := hidIn h6
  have Hbb := hidIn hbb
  clear h h2 h3 h6 hbb
  go_enter Try.func50, Try.ntmps50
  go_wp2_with fail
  go_loopw [6] (fun q wr => ∃ i : Nat, i ≤ 24 ∧ q = .int .i64 ((i : Int) + 1) ∧ Hid (Amid w0 wr P O S M n (s.tickL (upL s 0 i) now) f ob B now (tkT s f (upL s 0 i) now) ∧ Fr (TchF ob B) w wr ∧ OwFr B w wr)) (fun q _ => 25 - (intOf q).toNat)
  case atStart => exact ⟨0, Nat.zero_le _, rfl, hidIn ⟨by simpa [upL, Fp.tickL, tkT] using H.out, Fr.refl _ _, OwFr.refl _ _⟩⟩
  case round =>
    obtain ⟨i, hi, rfl, HR⟩ := hrel
    by_cases hlt : i < 24
    · have hil : (i : Int) + 1 ≤ 24 := by omega
      have HU := hidIn (fup_any (k := (i : Int) + 1) HR.out.1.f (wf9 (by omega)))
      rw [tickL_up] at HU
      go_wp2_with fail
      refine HU.out.mono ?_
      rintro e w1 ⟨rfl, h1⟩
      rw [h1]
      clear HU h1 w1
      cases hup : (s.ow ((i : Int) + 1)).isSome with
      | false =>
        have HE : Hid (upL s 0 (i + 1) = upL s 0 i) := hidIn (by rw [upL_succ, if_neg (by rw [hup]; simp), List.append_nil])
        clear hup
        go_wp2_with fail
        go_roundw
        case rel => exact ⟨i + 1, by omega, by go_num, by rw [HE.out]; exact HR⟩
        case measure => simp [intOf]; omega
      | true =>
        have hle' : (((i : Int) + 1) != 0) = true := by simp; omega
        have HE : Hid (upL s 0 (i + 1) = upL s 0 i ++ [(i : Int) + 1]) := hidIn (by rw [upL_succ, if_pos ⟨hup, by omega⟩])
        have hnot : ((i : Int) + 1) ∉ upL s 0 i := fun hm => by have := upL_lt hm; omega
        obtain ⟨d, hd⟩ := Option.isSome_iff_exists.1 hup
        have hd2 : (s.tickL (upL s 0 i) now).ow ((i : Int) + 1) = some d := by rw [tickL_other now _ _ hnot]; exact hd
        have HDu : Hid (dueO (s.tickL (upL s 0 i) now) ((i : Int) + 1) now = dueL d now (s.tickL (upL s 0 i) now).again 24 ∧ dueO s ((i : Int) + 1) now = dueL d now (s.tickL (upL s 0 i) now).again 24) := hidIn (by
          rw [dueO_tick now _ _ hnot]
          unfold dueO
          rw [hd, tickL_again]
          exact ⟨rfl, rfl⟩)
        have HC := hidIn (tick1_any HR.out.1 (HR.out.2.2 b2 _ H2.out Hbb.out.1 (by simp) (by simp)) (HR.out.2.2 b3 _ H3.out Hbb.out.2.1 (by simp) (by simp)) (HR.out.2.2 b6 _ H6.out Hbb.out.2.2 (by simp) (by simp)) Hbb.out hd2 (by have := tkT_len s f now (upL s 0 i); have := upL_len s 0 i; omega))
        clear hup hnot hd hd2
        go_wp2_with fail
        refine HC.out.mono ?_
        rintro e w2 ⟨⟨x, rfl⟩, h2, h3, h4⟩
        have HO : Hid (Amid w0 w2 P O S M n (s.tickL (upL s 0 (i + 1)) now) f ob B now (tkT s f (upL s 0 (i + 1)) now) ∧ Fr (TchF ob B) w w2 ∧ OwFr B w w2) := hidIn ⟨by rw [HE.out, tickL_snoc, tkT_snoc, HDu.out.1, HDu.out.2]; exact h2, HR.out.2.1.trans h3, HR.out.2.2.trans h4⟩
        clear HC h2 h3 h4 HR
        go_wp2_with fail
        go_roundw
        case rel => exact ⟨i + 1, by omega, by go_num, HO⟩
        case measure => simp [intOf]; omega
    · have hil : ¬ (i : Int) + 1 ≤ 24 := by omega
      obtain rfl : i = 24 := by omega
      go_wp2_with fail
      go_returns
      exact ⟨⟨_, rfl⟩, HR.out⟩
/-- What Tick answers. -/
def TickAns (w w' : World) (P O S M n : Nat) (s : Fp) (f : Sf) (ob : Int → Option Nat) (now : Int) (e : Ending) : Prop :=
  (tkOk s now = false ∧ e = .returned (.tuple #[.slice none 0 0, .int .i64 2]) ∧ Below w.heap.size w w') ∨
  (tkOk s now = true ∧ ∃ u, e = .returned (.tuple #[u, .int .i64 0]) ∧ FlAt w' P O S M n ((s.tick now).tickL (upL s 0 24) now) f ob ∧ SndAns w w' (tkT s f (upL s 0 24) now) u ∧ Fr (FlB P O M ob) w w')
set_option maxRecDepth 100000 in
set_option maxHeartbeats 4000000 in
theorem ftick2_any {P O S M n : Nat} {s : Fp} {f : Sf} {ob : Int → Option Nat} {w : World} (h : FlAt w P O S M n s f ob) (now : Int) :
    Calls Try.prog 18 #[ptr P, .int .u64 now] w fun e w' => TickAns w w' P O S M n s f ob now e := by
  obtain ⟨W1, hW1⟩ : ∃ W1, (w.alloc (.cells #[ptr P] 26)).alloc (.cells #[.int .u64 now] 39) = W1 := ⟨_, rfl⟩
  have b1 : Below w.heap.size w W1 := by rw [← hW1]; exact ((Below.refl _ w).alloc (Nat.le_refl _) _).alloc (by simp) _
  have hA : W1.heap[w.heap.size]? = some (.cells #[ptr P] 26) := by rw [← hW1, Below.heap_alloc _ _ _ (by simp)]; exact heap_alloc_last w _
  have hB : W1.heap[w.heap.size + 1]? = some (.cells #[.int .u64 now] 39) := by
    rw [← hW1]
    have := heap_alloc_last (w.alloc (.cells #[ptr P] 26)) (.cells #[.int .u64 now] 39)
    rw [World.size_alloc] at this
    exact this
  obtain ⟨b2, hb2⟩ : ∃ b2, w.heap.size = b2 := ⟨_, rfl⟩
  have hPl : P < b2 := by rw [← hb2]; exact block_lt h.p
  rw [hb2] at hA hB
  have HF1 := hidIn (h.keep b1)
  have HX2 := hidIn hA
  have HX3 := hidIn hB
  have HB1 := hidIn b1
  have HT := hidIn (fthere_any HF1.out)
  have HTk := hidIn (ftick_any HF1.out now)
  have HW1 := hidIn hW1
  have a0 := cell_of_row _ _ 0 _ _ _ hA
  have a1 := cell_of_row _ _ 0 _ _ _ hB
  simp at a0 a1
  clear h b1 hA hB hW1
  go_enter Try.func18, Try.ntmps18
  go_upto_region 1 with fail
  rw [HW1.out]
  clear HW1 hb2
  go_wp2_with fail
  refine HT.out.mono ?_
  rintro e w1 ⟨rfl, h1⟩
  rw [h1]
  clear HT h1 w1
  go_wp2_with fail
  refine HTk.out.mono ?_
  rintro e w1 ⟨rfl, h1⟩
  rw [h1]
  clear HTk h1 w1
  cases htk : tkOk s now with
  | false =>
    have HO : Hid (TickAns w W1 P O S M n s f ob now (.returned (.tuple #[.slice none 0 0, .int .i64 2]))) := hidIn (.inl ⟨htk, rfl, HB1.out⟩)
    clear htk
    go_wp2_with fail
    go_returns
    exact HO.out
  | true =>
    have htk2 : s.last ≤ now ∧ now ≤ 1099511627776 := by have := htk; unfold tkOk at this; simpa using this
    have Htk := hidIn htk
    have HTl := hidIn (telling_any HF1.out htk2.1 htk2.2)
    clear htk htk2
    go_wp2_with fail
    refine HTl.out.mono ?_
    rintro e w8 ⟨rfl, h8, h9, h10⟩
    obtain ⟨W9, hW9⟩ : ∃ W9, w8.alloc (.cells #[oweF W1.heap.size] 105) = W9 := ⟨_, rfl⟩
    have b9 : Below w8.heap.size w8 W9 := by rw [← hW9]; exact (Below.refl _ w8).alloc (Nat.le_refl _) _
    have hX9 : W9.heap[w8.heap.size]? = some (.cells #[oweF W1.heap.size] 105) := by rw [← hW9]; exact heap_alloc_last w8 _
    have hl2 := block_lt HX2.out
    have hl3 := block_lt HX3.out
    have hX29 := (b9.block _ (by have := h10.size; omega)).trans ((h10.block b2 hl2 (by omega)).trans HX2.out)
    have hX39 := (b9.block _ (by have := h10.size; omega)).trans ((h10.block (b2 + 1) hl3 (by omega)).trans HX3.out)
    have ham : Amid W1 W9 P O S M n (s.tick now) f ob W1.heap.size now [] := ⟨h8.keep b9, ⟨[], h9.keep b9, rfl⟩, rfl⟩
    have hsz8 : W1.heap.size + 2 < w8.heap.size := by obtain ⟨u, hu, _⟩ := h9.c; exact block_lt hu
    have HE := hidIn (tick_each ham hX29 hX39 hX9 ⟨by omega, by omega, by omega⟩)
    have HF9 : Hid (Fr (fun j => j = P) W1 W9) := hidIn (h10.trans (Fr.of_below b9))
    obtain ⟨b6, hb6⟩ : ∃ b6, w8.heap.size = b6 := ⟨_, rfl⟩
    rw [hb6] at HE
    have y0 := cell_of_row _ _ 0 _ _ _ hX29
    simp at y0
    have HW9 := hidIn hW9
    clear hX9 hX29 hX39 ham h8 h9 h10 b9 hW9 hsz8 a0 a1 HTl hl2 hl3
    go_upto_region 6 with fail
    rw [HW9.out]
    clear HW9 hb6
    go_wp2_with fail
    refine HE.out.mono ?_
    rintro e w10 ⟨⟨x, rfl⟩, ham, hfr, _⟩
    obtain ⟨L, htl, hsl⟩ := ham.t
    have HTo := hidIn (told_any htl)
    have HO : Hid (∀ u, w10.ownsRow (W1.heap.size + 3) 81 7 u L.length (fl sdc L) → TickAns w w10 P O S M n s f ob now (.returned (.tuple #[u, .int .i64 0]))) := hidIn fun u hu => by
      have hw1 := HB1.out.size
      have hup : upL (s.tick now) 0 24 = upL s 0 24 := rfl
      have htk : tkT (s.tick now) f (upL s 0 24) now = tkT s f (upL s 0 24) now := rfl
      have hFw : Fr (FlB P O M ob) w w10 := by
        have g0 : Fr (fun j => FlB P O M ob j ∨ W1.heap.size ≤ j) w W1 := Fr.of_below HB1.out
        have g1 := g0.trans ((HF9.out.mono fun k _ hk => .inl (.inl hk)).trans (hfr.mono fun k _ hk => by rcases hk with hk | hk; exact .inl (.inr (.inr (.inr hk))); exact .inr (by omega)))
        exact g1.mono fun k hk h => by rcases h with h | h; exact h; omega
      refine .inr ⟨Htk.out, u, rfl, ham.f, ⟨L, row_low hu (by omega), by rw [hsl]; exact htk, fun x hx => ?_⟩, hFw⟩
      obtain ⟨a, c, e1, e2, e3, e4⟩ := htl.r x hx
      exact ⟨a, c, e1, e2, e3, fun q hq => by obtain ⟨g, e5, e6, e7⟩ := e4 q hq; exact ⟨g, e5, Nat.le_trans hw1 e6, e7⟩⟩
    clear ham hfr htl hsl HE HF9 y0
    go_wp2_with fail
    refine HTo.out.mono ?_
    rintro e w11 ⟨⟨u, rfl, hu⟩, h11⟩
    rw [h11]
    have HA := hidIn (HO.out u hu)
    obtain ⟨ua, uc, rfl⟩ := row_shape hu
    clear hu HTo HO h11
    go_wp2_with fail
    go_returns
    exact HA.out
end Go.Proofs.Yteaaoipipjkgnaa
namespace Go.Proofs.Yteaaoipipjkgnaa
open Go.RowKit Go.Maps

theorem l_len {P : Program} {ops : Array Oper} {rest : List Oper} {o : Oper} {a : Act} {w : World} {v : Value} {Q : Exit → Act → World → Prop}
    (hg : o.guard = none) (m : Operand) (t : TypeId) (hop : o.op = Op.call { callee := Callee.builtin Builtin.len, args := #[m], argTypes := #[t] })
    (hrun : (Builtin.len_ #[t] o.type #[a.eval m]).run P w = .ok v w) (h : wpList P ops Q rest (a.put o.dst v) w) : wpList P ops Q (o :: rest) a w := by
  refine wpList_plain hg fun K hK => ?_
  unfold Oper.wp
  simp [execOp, hop, resolve, invoke, builtin, hrun, Result.andThen]
  exact hK _ _ h
/-- How many are owed to a port. -/
def cnO (s : Fp) (k : Int) : Nat := match s.ow k with
  | some d => cn d
  | none => 0
def pendN (s : Fp) (L : Int → Bool) : Nat → Nat
  | 0 => 0
  | n + 1 => pendN s L n + if L ((n : Int) + 1) = true then 0 else cnO s ((n : Int) + 1)
/-- How many are owed, over all ports. -/
def pendA (s : Fp) : Nat := pendN s (fun _ => false) 24
theorem pendN_le (s : Fp) (L : Int → Bool) : ∀ n, pendN s L n ≤ 24 * n
  | 0 => Nat.le_refl _
  | n + 1 => by
    have h1 := pendN_le s L n
    have h2 : cnO s ((n : Int) + 1) ≤ 24 := by
      unfold cnO
      split
      · exact cn_le _
      · omega
    show pendN s L n + (if L ((n : Int) + 1) = true then 0 else cnO s ((n : Int) + 1)) ≤ 24 * (n + 1)
    split <;> omega
theorem pendN_same (s : Fp) {L L' : Int → Bool} : ∀ n : Nat, (∀ k : Int, 1 ≤ k → k ≤ (n : Int) → cnO s k = 0 ∨ L k = L' k) → pendN s L n = pendN s L' n
  | 0, _ => rfl
  | n + 1, h => by
    have h1 := pendN_same s n (fun k h2 h3 => h k h2 (by omega))
    show pendN s L n + (if L ((n : Int) + 1) = true then 0 else cnO s ((n : Int) + 1)) = pendN s L' n + (if L' ((n : Int) + 1) = true then 0 else cnO s ((n : Int) + 1))
    rw [h1]
    rcases h ((n : Int) + 1) (by omega) (by omega) with h2 | h2
    · rw [h2]; simp
    · rw [h2]
theorem pendN_step (s : Fp) {L L' : Int → Bool} {x : Int} (hx : L x = true) (hx' : L' x = false) (ho : ∀ k, k ≠ x → L' k = L k) : ∀ n : Nat, pendN s L' n = pendN s L n + if 1 ≤ x ∧ x ≤ (n : Int) then cnO s x else 0
  | 0 => by rw [if_neg (by omega)]; rfl
  | n + 1 => by
    have h1 := pendN_step s hx hx' ho n
    show pendN s L' n + (if L' ((n : Int) + 1) = true then 0 else cnO s ((n : Int) + 1)) = pendN s L n + (if L ((n : Int) + 1) = true then 0 else cnO s ((n : Int) + 1)) + _
    by_cases hq : (n : Int) + 1 = x
    · subst hq
      rw [if_neg (show ¬ (1 ≤ (n : Int) + 1 ∧ (n : Int) + 1 ≤ (n : Int)) by omega)] at h1
      rw [h1, hx, hx', if_pos (show 1 ≤ (n : Int) + 1 ∧ (n : Int) + 1 ≤ ((n + 1 : Nat) : Int) by omega)]
      simp
    · rw [h1, ho _ hq]
      by_cases hc : 1 ≤ x ∧ x ≤ (n : Int)
      · rw [if_pos hc, if_pos (show 1 ≤ x ∧ x ≤ ((n + 1 : Nat) : Int) by omega)]; omega
      · rw [if_neg hc, if_neg (show ¬ (1 ≤ x ∧ x ≤ ((n + 1 : Nat) : Int)) by omega)]; omega
theorem pendN_all (s : Fp) : ∀ n, pendN s (fun _ => true) n = 0
  | 0 => rfl
  | n + 1 => by
    show pendN s (fun _ => true) n + _ = 0
    rw [pendN_all s n]
    rfl
set_option maxRecDepth 100000 in
set_option maxHeartbeats 2000000 in
theorem fpend_any {P O S M n : Nat} {s : Fp} {f : Sf} {ob : Int → Option Nat} {w : World} (h : FlAt w P O S M n s f ob) :
    Calls Try.prog 12 #[ptr P] w fun e w' => e = .returned (.int .i64 (pendA s)) ∧ Below w.heap.size w w' := by
  have x5 := cell_of_row _ _ 5 _ _ _ h.p
  simp at x5
  have HT := hidIn (fthere_any h)
  have Hh := hidIn h
  obtain ⟨D, hown, hD1, _, _⟩ := h.o
  have HOw := hidIn hown
  have HD1 := hidIn hD1
  clear h hown hD1
  go_enter Try.func12, Try.ntmps12
  go_wp2_with fail
  refine HT.out.mono ?_
  rintro e w1 ⟨rfl, h1⟩
  rw [h1]
  clear HT h1 w1
  go_wp2_with (at_range; refine wpList_range_own _ rfl _ 89 rfl 3 99 keyI9 Try.underlying89 _ O 24 D rfl HOw.out ?_; intro w2 hrg hgr hsz)
  have HRg := hidIn hrg
  have HB2 : Hid (Below w.heap.size w w2) := hidIn ⟨hgr.os, hgr.tape, hgr.output, hgr.size, fun j hj => hgr.block j hj (by simp)⟩
  clear hrg hgr hsz x5 HOw
  go_frame
  go_loopw [3] (fun acc wr => ∃ left cnt, acc = .int .i64 (pendN s (fun k => left (.int .i64 k)) 24) ∧ Hid (wr.ranges Try.prog 3 selfR O w.heap.size 24 D left cnt ∧ Below w.heap.size w wr ∧ ∀ kl, left kl = true → Maps.has D kl = true)) (fun _ wr => wr.rangeLeft O w.heap.size)
  case atStart =>
    refine ⟨_, _, ?_, hidIn ⟨HRg.out, HB2.out, fun kl h => h⟩⟩
    rw [pendN_same s (L' := fun _ => true) 24 (fun k h1 h2 => ?_), pendN_all]
    · rfl
    · have h3 := (HD1.out k (wf9 (by omega))).1
      rw [Option.isSome_map, Hh.out.up] at h3
      cases hk : s.ow k with
      | none => left; unfold cnO; rw [hk]
      | some d => right; rw [hk] at h3; exact h3
  case round =>
    obtain ⟨left, cnt, rfl, HI⟩ := hrel
    have HPn : Hid (pendN s (fun k => left (.int .i64 k)) 24 ≤ 576) := hidIn (pendN_le s _ 24)
    go_wp2_with (at_next; refine wpList_next_ranges (β := Value) _ rfl _ rfl 3 keyI9 selfR (Value.int .i64) id (fun key kl hkey => by obtain ⟨x, rfl, _⟩ := Maps.keyOf_int_inv Try.underlying3 hkey; exact ⟨x, rfl⟩) (fun v y _ => ⟨v, rfl⟩) O w.heap.size 24 D left cnt rfl HI.out.1 ?_ ?_)
    · intro _ hl0
      have HO : Hid (pendN s (fun k => left (.int .i64 k)) 24 = pendA s) := hidIn (pendN_same s 24 (fun k _ _ => .inr (hl0 _)))
      rw [HO.out]
      clear hl0
      go_wp2_with fail
      go_ret
      exact ⟨rfl, HI.out.2.1⟩
    · intro x c kl y1 y2 w3 cnt' hkey hlk hv hat hrg hlt hgr hsz hen
      obtain ⟨x', ex, rfl, hwx⟩ := Maps.keyOf_int_inv Try.underlying3 hkey
      cases ex
      have hyc : y1 = .held c := by
        have h9 : some ((DataW.held c : DataW Value), ([] : List MemPlace)) = some (y1, y2) := hv
        simp only [Option.some.injEq, Prod.mk.injEq] at h9
        exact h9.1.symm
      have hc : c = ((ob x).map mB).getD zM := by
        have h1 := (HD1.out x hwx).2
        rw [hat, hyc] at h1
        simpa using h1
      have hox : (ob x).isSome = true := by
        have h1 := (HD1.out x hwx).1
        rw [HI.out.2.2 _ hlk, Option.isSome_map] at h1
        exact h1.symm
      obtain ⟨b, hb⟩ := Option.isSome_iff_exists.1 hox
      rw [hb] at hc
      simp only [Option.map_some, Option.getD_some] at hc
      subst hc
      obtain ⟨d, hd, hm⟩ := Hh.out.i x b hb
      have hx24 := Hh.out.rg (k := x) (by rw [hd]; rfl)
      have hb3 : Below w.heap.size w w3 := HI.out.2.1.trans ⟨hgr.os, hgr.tape, hgr.output, hgr.size, fun j hj => hgr.block j (Nat.lt_of_lt_of_le hj HI.out.2.1.size) (fun e => by have := Option.some.inj e; omega)⟩
      have hlen := (hm.keep (Fr.of_below (S := fun _ => False) hb3) (fun h => h)).len Try.underlying99 3
      rw [cn_map] at hlen
      have HStep : Hid (pendN s (fun k => left (.int .i64 k) && !(Lit.int .i64 k).sameKey (.int .i64 x)) 24 = pendN s (fun k => left (.int .i64 k)) 24 + cn d) := hidIn (by
        rw [pendN_step s (L := fun k => left (.int .i64 k)) (L' := fun k => left (.int .i64 k) && !(Lit.int .i64 k).sameKey (.int .i64 x)) (x := x) hlk (by simp [WideAt.sameKey_self (key_lit x)]) (fun k hk => by
          have hne : (Lit.int .i64 k) ≠ .int .i64 x := fun h => hk (by injection h)
          simp [sameKey_ne hne]) 24, if_pos (by omega)]
        unfold cnO
        rw [hd])
      have HO : Hid (w3.ranges Try.prog 3 selfR O w.heap.size 24 D (fun z => left z && !z.sameKey (.int .i64 x)) cnt' ∧ Below w.heap.size w w3 ∧ ∀ kl, (left kl && !kl.sameKey (.int .i64 x)) = true → Maps.has D kl = true) := hidIn ⟨hrg, hb3, fun kl h => HI.out.2.2 kl (by simp at h; exact h.1)⟩
      have Hlt : Hid (w3.rangeLeft O w.heap.size < wr.rangeLeft O w.heap.size) := hidIn (by rw [hrg.left_eq, HI.out.1.left_eq]; exact hlt)
      have hcn := cn_le d
      have hpn := HPn.out
      obtain ⟨pn, hpn'⟩ : ∃ pn, pendN s (fun k => left (.int .i64 k)) 24 = pn := ⟨_, rfl⟩
      obtain ⟨cd, hcd⟩ : ∃ cd, cn d = cd := ⟨_, rfl⟩
      rw [hpn'] at hpn HStep ⊢
      rw [hcd] at hcn HStep hlen
      clear hkey hlk hv hat hrg hlt hgr hsz hyc hox hb hd hm hb3 hpn' hcd HPn
      go_wp2_with (refine l_len rfl _ 99 rfl hlen ?_)
      go_roundw
      case rel => exact ⟨_, cnt', by rw [HStep.out]; go_num, HO⟩
      case measure => exact Hlt.out
end Go.Proofs.Yteaaoipipjkgnaa
namespace Go.Proofs.Yteaaoipipjkgnaa
open Go.RowKit Go.Maps

/-- What outrun answers. -/
def OutAns (w0 w w' : World) (P O S M n : Nat) (s : Fp) (f : Sf) (ob : Int → Option Nat) (B : Nat) (now : Int) (T : List (Int × Rc)) (p : Int) (r : Rc) (ch : Bool) (n' : Nat) (s' : Fp) (f' : Sf) (T' : List (Int × Rc)) : Prop :=
  Amid w0 w' P O S M n' s' f' ob B now T' ∧ Fr (fun j => j = M ∨ TchF ob B j) w w' ∧
  (((f s.self).isSome = false ∧ ch = false ∧ n' = n ∧ s' = s ∧ f' = f ∧ T' = T) ∨
  ((f s.self).isSome = true ∧ ((rOf (f s.self)).epoch ≠ r.epoch ∨ r.seq = 4294967295) ∧ ch = false ∧ n' = n ∧ s' = s.owe p s.self now ∧ f' = f ∧ T' = T ++ [(p, rOf (f s.self))]) ∨
  ((f s.self).isSome = true ∧ (rOf (f s.self)).epoch = r.epoch ∧ r.seq ≠ 4294967295 ∧ ch = true ∧ n' = n + 1 ∧ s' = s.oweL (upL s 0 24) s.self now ∧ fR f' = putR (fR f) { rOf (f s.self) with seq := r.seq + 1 } ∧ T' = T ++ (upL s 0 24).map (fun q => (q, rOf (f' s.self)))))
def OutE (w0 w w' : World) (P O S M n : Nat) (s : Fp) (f : Sf) (ob : Int → Option Nat) (B : Nat) (now : Int) (T : List (Int × Rc)) (p : Int) (r : Rc) (e : Ending) : Prop := ∃ ch n' s' f' T', e = .returned (.bool ch) ∧ OutAns w0 w w' P O S M n s f ob B now T p r ch n' s' f' T'
set_option maxRecDepth 100000 in
set_option maxHeartbeats 8000000 in
theorem outrun_any {P O S M n : Nat} {s : Fp} {f : Sf} {ob : Int → Option Nat} {w0 w : World} {B : Nat} {now : Int} {T : List (Int × Rc)} (h : Amid w0 w P O S M n s f ob B now T) (hn : n < 900000) {p : Int} {r : Rc} {ra : Option Addr} {rn rc : Nat} (hp : (s.ow p).isSome = true) (hr : 0 ≤ r.seq ∧ r.seq < 4294967296) (hT : T.length ≤ 800000) :
    Calls Try.prog 56 #[ptr P, .int .i64 p, .agg #[.int .i64 r.origin, .int .u32 r.epoch, .int .u32 r.seq, .int .i64 r.claim, .bool r.ing, .slice ra rn rc], oweF B] w fun e w' => OutE w0 w w' P O S M n s f ob B now T p r e := by
  obtain ⟨W1, hW1⟩ : ∃ W1, ((w.alloc (.cells #[ptr P] 26)).alloc (.cells #[.int .i64 r.origin, .int .u32 r.epoch, .int .u32 r.seq, .int .i64 r.claim, .bool r.ing, .slice ra rn rc] 38)).alloc (.cells #[oweF B] 105) = W1 := ⟨_, rfl⟩
  have b1 : Below w.heap.size w W1 := by rw [← hW1]; exact (((Below.refl _ w).alloc (Nat.le_refl _) _).alloc (by simp) _).alloc (by simp; omega) _
  have hX4 : W1.heap[w.heap.size]? = some (.cells #[ptr P] 26) := by rw [← hW1, Below.heap_alloc _ _ _ (by simp; omega), Below.heap_alloc _ _ _ (by simp)]; exact heap_alloc_last w _
  have hX6 : W1.heap[w.heap.size + 1]? = some (.cells #[.int .i64 r.origin, .int .u32 r.epoch, .int .u32 r.seq, .int .i64 r.claim, .bool r.ing, .slice ra rn rc] 38) := by
    rw [← hW1, Below.heap_alloc _ _ _ (by simp)]
    have := heap_alloc_last (w.alloc (.cells #[ptr P] 26)) (.cells #[.int .i64 r.origin, .int .u32 r.epoch, .int .u32 r.seq, .int .i64 r.claim, .bool r.ing, .slice ra rn rc] 38)
    rw [World.size_alloc] at this
    exact this
  have hX7 : W1.heap[w.heap.size + 2]? = some (.cells #[oweF B] 105) := by
    rw [← hW1]
    have := heap_alloc_last ((w.alloc (.cells #[ptr P] 26)).alloc (.cells #[.int .i64 r.origin, .int .u32 r.epoch, .int .u32 r.seq, .int .i64 r.claim, .bool r.ing, .slice ra rn rc] 38)) (.cells #[oweF B] 105)
    simp only [World.size_alloc] at this
    exact this
  have hBw : B + 2 < w.heap.size := by obtain ⟨L, htl, _⟩ := h.t; obtain ⟨u, hu, _⟩ := htl.c; exact block_lt hu
  obtain ⟨b4, hb4⟩ : ∃ b4, w.heap.size = b4 := ⟨_, rfl⟩
  rw [hb4] at hX4 hX6 hX7 hBw
  have hse := h.f.ok.se
  have HA1 := hidIn (h.keep b1)
  have HX4 := hidIn hX4
  have HX6 := hidIn hX6
  have HX7 := hidIn hX7
  have HB1 := hidIn b1
  have HG := hidIn (fun wq (hq : Below W1.heap.size W1 wq) => sget_any (HA1.out.f.keep hq).st (k := s.self) (wf9 (by omega)))
  have HCl : Hid (∀ wq, Below W1.heap.size W1 wq → wq.cell? ⟨b4, 0, none⟩ = some (ptr P) ∧ wq.cell? ⟨P, 0, none⟩ = some (.int .i64 s.self) ∧ wq.cell? ⟨P, 4, none⟩ = some (ptr S)) := hidIn fun wq hq => by
    have e1 := (hq.block _ (block_lt HX4.out)).trans HX4.out
    have e2 := (hq.block _ (block_lt HA1.out.f.p)).trans HA1.out.f.p
    have c1 := cell_of_row _ _ 0 _ _ _ e1
    have c2 := cell_of_row _ _ 0 _ _ _ e2
    have c4 := cell_of_row _ _ 4 _ _ _ e2
    simp at c1 c2 c4
    exact ⟨c1, c2, c4⟩
  have HW1 := hidIn hW1
  have Hp := hidIn hp
  have HLn := hidIn hT
  obtain ⟨xr, hxr⟩ : ∃ xr, rOf (f s.self) = xr := ⟨_, rfl⟩
  have Hxr := hidIn hxr
  unfold GtAns at HG
  rw [hxr] at HG
  obtain ⟨xb, hxb⟩ : ∃ xb, (f s.self).isSome = xb := ⟨_, rfl⟩
  have Hxb := hidIn hxb
  rw [hxb] at HG
  have Hxe : Hid (xb = true → 0 ≤ xr.epoch) := hidIn fun hb => by
    rw [← hxr]
    cases hq : f s.self with
    | none => rw [hq] at hxb; rw [← hxb] at hb; cases hb
    | some y => obtain ⟨r', u⟩ := y; exact (h.f.st.v _ r' u hq).2.2.2.2.1
  obtain ⟨xo, xe, xs, xcl, xi, xl⟩ := xr
  obtain ⟨xn, hxn⟩ : ∃ xn, xl.length = xn := ⟨_, rfl⟩
  simp only [hxn] at HG
  simp only at Hxe
  have Hxn := hidIn hxn
  clear h b1 hX4 hX6 hX7 hW1 hxr hxb hxn hp hT
  go_enter Try.func56, Try.ntmps56
  go_upto_region 1 with fail
  rw [show (World.alloc (World.alloc (World.alloc w _) _) _) = W1 from HW1.out]
  clear HW1 hb4
  go_cut [9, 10] (fun x y wx => ∃ bx a cc, x = ptr bx ∧ wx.heap[bx]? = some (.cells #[.int .i64 xo, .int .u32 xe, .int .u32 xs, .int .i64 xcl, .bool xi, .slice a xn cc] 38) ∧ y = .bool xb ∧ SlAt ac 2 wx (.slice a xn cc) xl ∧ NilOk (.slice a xn cc) ∧ W1.heap.size ≤ bx ∧ Below W1.heap.size W1 wx)
  case first =>
    refine wp_region_held_drew (S := fun wx => Below W1.heap.size W1 wx) (by kernel_rfl) ((Below.refl _ W1).drew) (fun hHeld => ?_)
    have hh : Below W1.heap.size W1 W1.drew := hHeld
    refine wpAnyH_take (i := 0) (v := ?_) rfl (by kernel_rfl) (by kernel_rfl) (by kernel_rfl) (fun _ _ _ h => h) (Or.inl ⟨by rfl, ?_⟩) (by assumption) ?_
    rotate_left
    · intro wq hSw
      obtain ⟨z0, _, _⟩ := HCl.out wq hSw
      clear hSw
      go_simp
      try (with_reducible rfl)
    refine wpAnyH_take (i := 1) (v := ?_) rfl (by kernel_rfl) (by kernel_rfl) (by kernel_rfl) (fun _ _ _ h => h) (Or.inl ⟨by rfl, ?_⟩) (by assumption) ?_
    rotate_left
    · intro wq hSw
      clear hSw
      go_simp
      try (with_reducible rfl)
    refine wpAnyH_take (i := 2) (v := ?_) rfl (by kernel_rfl) (by kernel_rfl) (by kernel_rfl) (fun _ _ _ h => h) (Or.inl ⟨by rfl, ?_⟩) (by assumption) ?_
    rotate_left
    · intro wq hSw
      clear hSw
      go_simp
      try (with_reducible rfl)
    refine wpAnyH_take (i := 3) (v := ?_) rfl (by kernel_rfl) (by kernel_rfl) (by kernel_rfl) (fun _ _ _ h => h) (Or.inl ⟨by rfl, ?_⟩) (by assumption) ?_
    rotate_left
    · intro wq hSw
      obtain ⟨_, _, z0⟩ := HCl.out wq hSw
      clear hSw
      go_simp
      try (with_reducible rfl)
    refine wpAnyH_take (i := 4) (v := ?_) rfl (by kernel_rfl) (by kernel_rfl) (by kernel_rfl) (fun _ _ _ h => h) (Or.inl ⟨by rfl, ?_⟩) (by assumption) ?_
    rotate_left
    · intro wq hSw
      obtain ⟨z0, _, _⟩ := HCl.out wq hSw
      clear hSw
      go_simp
      try (with_reducible rfl)
    refine wpAnyH_take (i := 5) (v := ?_) rfl (by kernel_rfl) (by kernel_rfl) (by kernel_rfl) (fun _ _ _ h => h) (Or.inl ⟨by rfl, ?_⟩) (by assumption) ?_
    rotate_left
    · intro wq hSw
      clear hSw
      go_simp
      try (with_reducible rfl)
    refine wpAnyH_take (i := 6) (v := ?_) rfl (by kernel_rfl) (by kernel_rfl) (by kernel_rfl) (fun _ _ _ h => h) (Or.inl ⟨by rfl, ?_⟩) (by assumption) ?_
    rotate_left
    · intro wq hSw
      clear hSw
      go_simp
      try (with_reducible rfl)
    refine wpAnyH_take (i := 7) (v := ?_) rfl (by kernel_rfl) (by kernel_rfl) (by kernel_rfl) (fun _ _ _ h => h) (Or.inl ⟨by rfl, ?_⟩) (by assumption) ?_
    rotate_left
    · intro wq hSw
      obtain ⟨_, z0, _⟩ := HCl.out wq hSw
      clear hSw
      go_simp
      try (with_reducible rfl)
    refine wpAnyH_ready (rs := [8, 12]) (by kernel_rfl) (by simp) ?_
    refine AllReadyH.cons rfl (fun K hK => ?_) (AllReadyH.cons rfl (fun K hK => ?_) AllReadyH.nil)
    · go_simp
      refine (HG.out _ hh).mono ?_
      rintro e w5 ⟨⟨a, cc, rfl, hsl, hnl, hfr⟩, hbx⟩
      have h5 : Below W1.heap.size W1 w5 := hh.trans (hbx.mono hh.size)
      refine hK.out _ _ h5 (fun _ => ?_)
      clear hK K
      refine wpAnyH_take (i := 9) (v := ?_) rfl (by kernel_rfl) (by kernel_rfl) (by kernel_rfl) (fun _ _ _ h => h) (Or.inl ⟨by rfl, ?_⟩) (by assumption) ?_
      rotate_left
      · intro wq hSw
        clear hSw
        go_simp
        try (with_reducible rfl)
      refine wpAnyH_take (i := 10) (v := ?_) rfl (by kernel_rfl) (by kernel_rfl) (by kernel_rfl) (fun _ _ _ h => h) (Or.inl ⟨by rfl, ?_⟩) (by assumption) ?_
      rotate_left
      · intro wq hSw
        clear hSw
        go_simp
        try (with_reducible rfl)
      refine wpAnyH_take (i := 11) (v := ?_) rfl (by kernel_rfl) (by kernel_rfl) (by kernel_rfl) (fun _ _ _ h => h) (Or.inl ⟨by rfl, ?_⟩) (by assumption) ?_
      rotate_left
      · intro wq hSw
        clear hSw
        go_simp
        try (with_reducible rfl)
      refine wpAnyH_ready (rs := [12]) (by kernel_rfl) (by simp) ?_
      refine AllReadyH.cons rfl (fun K hK => ?_) AllReadyH.nil
      go_simp
      obtain ⟨W6, hW6⟩ : ∃ W6, w5.alloc (.cells #[.int .i64 0, .int .u32 0, .int .u32 0, .int .i64 0, .bool false, .slice none 0 0] 38) = W6 := ⟨_, rfl⟩
      have b6 : Below w5.heap.size w5 W6 := by rw [← hW6]; exact (Below.refl _ w5).alloc (Nat.le_refl _) _
      have h6 : Below W1.heap.size W1 W6 := h5.trans (b6.mono h5.size)
      have hz8 : W6.heap[w5.heap.size]? = some (.cells #[.int .i64 0, .int .u32 0, .int .u32 0, .int .i64 0, .bool false, .slice none 0 0] 38) := by rw [← hW6]; exact heap_alloc_last w5 _
      rw [hW6]
      have h58 := h5.size
      have hsl6 := hsl.keep b6 (Nat.le_refl _)
      have hne : ∀ p, a = some p → ¬ p.block = w5.heap.size := fun p hp e => by
        obtain ⟨g, rfl, _, cur, hc⟩ := hfr p hp
        have := block_lt hc
        simp at e
        omega
      obtain ⟨b8, hb8⟩ : ∃ b8, w5.heap.size = b8 := ⟨_, rfl⟩
      rw [hb8] at hz8 h58 hne ⊢
      refine hK.out _ _ h6 (fun _ => ?_)
      clear hK K hW6 hb8
      refine wpAnyH_ready (rs := [13]) (by kernel_rfl) (by simp) ?_
      refine AllReadyH.cons rfl (fun K hK => ?_) AllReadyH.nil
      have zz0 := cell_of_row _ _ 0 _ _ _ hz8
      have zz1 := cell_of_row _ _ 1 _ _ _ hz8
      have zz2 := cell_of_row _ _ 2 _ _ _ hz8
      have zz3 := cell_of_row _ _ 3 _ _ _ hz8
      have zz4 := cell_of_row _ _ 4 _ _ _ hz8
      have zz5 := cell_of_row _ _ 5 _ _ _ hz8
      simp at zz0 zz1 zz2 zz3 zz4 zz5
      have yy0 := frozen_new hz8 0
      have yy1 := frozen_new hz8 1
      have yy2 := frozen_new hz8 2
      have yy3 := frozen_new hz8 3
      have yy4 := frozen_new hz8 4
      have yy5 := frozen_new hz8 5
      go_simp
      have hset := set6 (.int .i64 xo) (.int .u32 xe) (.int .u32 xs) (.int .i64 xcl) (.bool xi) (.slice a xn cc) hz8
      have hbs : Below W1.heap.size W1 ((((((W6.setCell ⟨b8, 0, none⟩ (.int .i64 xo)).setCell ⟨b8, 1, none⟩ (.int .u32 xe)).setCell ⟨b8, 2, none⟩ (.int .u32 xs)).setCell ⟨b8, 3, none⟩ (.int .i64 xcl)).setCell ⟨b8, 4, none⟩ (.bool xi)).setCell ⟨b8, 5, none⟩ (.slice a xn cc)) := (((((h6.setCell (p := ⟨b8, 0, none⟩) h58 _).setCell (p := ⟨b8, 1, none⟩) h58 _).setCell (p := ⟨b8, 2, none⟩) h58 _).setCell (p := ⟨b8, 3, none⟩) h58 _).setCell (p := ⟨b8, 4, none⟩) h58 _).setCell (p := ⟨b8, 5, none⟩) h58 _
      have hfs := fr6 (S := fun k => k = b8) (Fr.refl _ W6) rfl (.int .i64 xo) (.int .u32 xe) (.int .u32 xs) (.int .i64 xcl) (.bool xi) (.slice a xn cc)
      generalize (((((World.setCell _ _ _).setCell _ _).setCell _ _).setCell _ _).setCell _ _).setCell _ _ = W9 at hset hbs hfs ⊢
      have hsl9 := hsl6.frP hfs (fun _ p hp _ e => hne p hp e)
      refine hK.out _ _ hbs (fun _ => ?_)
      clear hK K zz0 zz1 zz2 zz3 zz4 zz5 yy0 yy1 yy2 yy3 yy4 yy5
      refine wpAnyH_take (i := 14) (v := ?_) rfl (by kernel_rfl) (by kernel_rfl) (by kernel_rfl) (fun _ _ _ h => h) (Or.inl ⟨by rfl, ?_⟩) (by assumption) ?_
      rotate_left
      · intro wq hSw
        clear hSw
        go_simp
        try (with_reducible rfl)
      refine wpAnyH_done (by kernel_rfl) ?_ _
      go_wp2_with fail
      go_meet
      exact ⟨b8, a, cc, rfl, hset, rfl, hsl9, hnl, h58, hbs⟩
    · go_simp
      obtain ⟨W4, hW4⟩ : ∃ W4, (W1.alloc (.cells #[.int .i64 0, .int .u32 0, .int .u32 0, .int .i64 0, .bool false, .slice none 0 0] 38)).drew = W4 := ⟨_, rfl⟩
      have h4 : Below W1.heap.size W1 W4 := by rw [← hW4]; exact ((Below.refl _ W1).alloc (Nat.le_refl _) _).drew
      have hz4 : W4.heap[W1.heap.size]? = some (.cells #[.int .i64 0, .int .u32 0, .int .u32 0, .int .i64 0, .bool false, .slice none 0 0] 38) := by rw [← hW4]; exact heap_alloc_last W1 _
      rw [hW4]
      obtain ⟨b8, hb8⟩ : ∃ b8, W1.heap.size = b8 := ⟨_, rfl⟩
      have h58 : W1.heap.size ≤ b8 := Nat.le_of_eq hb8
      rw [hb8] at hz4 ⊢
      refine hK.out _ _ h4 (fun _ => ?_)
      clear hK K hW4
      refine wpAnyH_ready (rs := [8]) (by kernel_rfl) (by simp) ?_
      refine AllReadyH.cons rfl (fun K hK => ?_) AllReadyH.nil
      go_simp
      refine (HG.out _ h4).mono ?_
      rintro e W6 ⟨⟨a, cc, rfl, hsl6, hnl, hfr⟩, hbx⟩
      have h6 : Below W1.heap.size W1 W6 := h4.trans (hbx.mono h4.size)
      have hz8 := (hbx.block _ (block_lt hz4)).trans hz4
      have hne : ∀ p, a = some p → ¬ p.block = b8 := fun p hp e => by
        obtain ⟨g, rfl, hg, _⟩ := hfr p hp
        have := block_lt hz4
        simp at e
        omega
      refine hK.out _ _ h6 (fun _ => ?_)
      clear hK K hbx hz4 h4
      refine wpAnyH_take (i := 9) (v := ?_) rfl (by kernel_rfl) (by kernel_rfl) (by kernel_rfl) (fun _ _ _ h => h) (Or.inl ⟨by rfl, ?_⟩) (by assumption) ?_
      rotate_left
      · intro wq hSw
        clear hSw
        go_simp
        try (with_reducible rfl)
      refine wpAnyH_take (i := 10) (v := ?_) rfl (by kernel_rfl) (by kernel_rfl) (by kernel_rfl) (fun _ _ _ h => h) (Or.inl ⟨by rfl, ?_⟩) (by assumption) ?_
      rotate_left
      · intro wq hSw
        clear hSw
        go_simp
        try (with_reducible rfl)
      refine wpAnyH_take (i := 11) (v := ?_) rfl (by kernel_rfl) (by kernel_rfl) (by kernel_rfl) (fun _ _ _ h => h) (Or.inl ⟨by rfl, ?_⟩) (by assumption) ?_
      rotate_left
      · intro wq hSw
        clear hSw
        go_simp
        try (with_reducible rfl)
      refine wpAnyH_ready (rs := [13]) (by kernel_rfl) (by simp) ?_
      refine AllReadyH.cons rfl (fun K hK => ?_) AllReadyH.nil
      have zz0 := cell_of_row _ _ 0 _ _ _ hz8
      have zz1 := cell_of_row _ _ 1 _ _ _ hz8
      have zz2 := cell_of_row _ _ 2 _ _ _ hz8
      have zz3 := cell_of_row _ _ 3 _ _ _ hz8
      have zz4 := cell_of_row _ _ 4 _ _ _ hz8
      have zz5 := cell_of_row _ _ 5 _ _ _ hz8
      simp at zz0 zz1 zz2 zz3 zz4 zz5
      have yy0 := frozen_new hz8 0
      have yy1 := frozen_new hz8 1
      have yy2 := frozen_new hz8 2
      have yy3 := frozen_new hz8 3
      have yy4 := frozen_new hz8 4
      have yy5 := frozen_new hz8 5
      go_simp
      have hset := set6 (.int .i64 xo) (.int .u32 xe) (.int .u32 xs) (.int .i64 xcl) (.bool xi) (.slice a xn cc) hz8
      have hbs : Below W1.heap.size W1 ((((((W6.setCell ⟨b8, 0, none⟩ (.int .i64 xo)).setCell ⟨b8, 1, none⟩ (.int .u32 xe)).setCell ⟨b8, 2, none⟩ (.int .u32 xs)).setCell ⟨b8, 3, none⟩ (.int .i64 xcl)).setCell ⟨b8, 4, none⟩ (.bool xi)).setCell ⟨b8, 5, none⟩ (.slice a xn cc)) := (((((h6.setCell (p := ⟨b8, 0, none⟩) h58 _).setCell (p := ⟨b8, 1, none⟩) h58 _).setCell (p := ⟨b8, 2, none⟩) h58 _).setCell (p := ⟨b8, 3, none⟩) h58 _).setCell (p := ⟨b8, 4, none⟩) h58 _).setCell (p := ⟨b8, 5, none⟩) h58 _
      have hfs := fr6 (S := fun k => k = b8) (Fr.refl _ W6) rfl (.int .i64 xo) (.int .u32 xe) (.int .u32 xs) (.int .i64 xcl) (.bool xi) (.slice a xn cc)
      generalize (((((World.setCell _ _ _).setCell _ _).setCell _ _).setCell _ _).setCell _ _).setCell _ _ = W9 at hset hbs hfs ⊢
      have hsl9 := hsl6.frP hfs (fun _ p hp _ e => hne p hp e)
      refine hK.out _ _ hbs (fun _ => ?_)
      clear hK K zz0 zz1 zz2 zz3 zz4 zz5 yy0 yy1 yy2 yy3 yy4 yy5
      refine wpAnyH_take (i := 14) (v := ?_) rfl (by kernel_rfl) (by kernel_rfl) (by kernel_rfl) (fun _ _ _ h => h) (Or.inl ⟨by rfl, ?_⟩) (by assumption) ?_
      rotate_left
      · intro wq hSw
        clear hSw
        go_simp
        try (with_reducible rfl)
      refine wpAnyH_done (by kernel_rfl) ?_ _
      go_wp2_with fail
      go_meet
      exact ⟨b8, a, cc, rfl, hset, rfl, hsl9, hnl, h58, hbs⟩
  case rest =>
    obtain ⟨bx, xa, xc, rfl, hxr2, rfl, hsx, hnx, hbx, hbc⟩ := hcut
    have HAc := hidIn (HA1.out.keep hbc)
    have HX4c := hidIn ((hbc.block _ (block_lt HX4.out)).trans HX4.out)
    have HX6c := hidIn ((hbc.block _ (block_lt HX6.out)).trans HX6.out)
    have HX7c := hidIn ((hbc.block _ (block_lt HX7.out)).trans HX7.out)
    have HFc : Hid (Below w.heap.size w wc) := hidIn (HB1.out.trans (hbc.mono HB1.out.size))
    have HXr := hidIn hxr2
    have Hsx := hidIn hsx
    have Hbx : Hid (b4 + 2 < bx) := hidIn (Nat.lt_of_lt_of_le (block_lt HX7.out) hbx)
    obtain ⟨w2, hw2⟩ : ∃ w2, w2 = wc := ⟨_, rfl⟩
    rw [← hw2] at HAc HX4c HX6c HX7c HFc HXr Hsx ⊢
    clear hxr2 hsx hnx hbx hbc hw2 HA1 HX4 HX6 HX7 HB1 HG HCl
    cases xb with
    | false =>
      have HO : Hid (OutAns w0 w w2 P O S M n s f ob B now T p r false n s f T) := hidIn ⟨HAc.out, Fr.of_below HFc.out, .inl ⟨Hxb.out, rfl, rfl, rfl, rfl, rfl⟩⟩
      go_wp2_with fail
      go_ret
      exact ⟨_, _, _, _, _, rfl, HO.out⟩
    | true =>
      have z0 := cell_of_row _ _ 0 _ _ _ HXr.out
      have z1 := cell_of_row _ _ 1 _ _ _ HXr.out
      have z2 := cell_of_row _ _ 2 _ _ _ HXr.out
      have z3 := cell_of_row _ _ 3 _ _ _ HXr.out
      have z4 := cell_of_row _ _ 4 _ _ _ HXr.out
      have z5 := cell_of_row _ _ 5 _ _ _ HXr.out
      simp at z0 z1 z2 z3 z4 z5
      have y0 := cell_of_row _ _ 0 _ _ _ HX6c.out
      have y1 := cell_of_row _ _ 1 _ _ _ HX6c.out
      have y2 := cell_of_row _ _ 2 _ _ _ HX6c.out
      have y3 := cell_of_row _ _ 3 _ _ _ HX6c.out
      have y4 := cell_of_row _ _ 4 _ _ _ HX6c.out
      have y5 := cell_of_row _ _ 5 _ _ _ HX6c.out
      simp at y0 y1 y2 y3 y4 y5
      by_cases hep : xe = r.epoch
      · have hep' : (xe != r.epoch) = false := by simpa using hep
        have Hep := hidIn hep
        clear hep
        by_cases hmx : r.seq = 4294967295
        · have hmx' : (r.seq == 4294967295) = true := by simpa using hmx
          have Hbad : Hid (xe ≠ r.epoch ∨ r.seq = 4294967295) := hidIn (.inr hmx)
          clear hmx
          have HOw := hidIn (owe_amid (p := p) (o := s.self) (HAc.out.keep (Below.refl _ w2).drew) Hp.out hse (by have := HLn.out; omega))
          have x0 := cell_of_row _ _ 0 _ _ _ HX4c.out
          have x1 := cell_of_row _ _ 0 _ _ _ HX7c.out
          have x2 := cell_of_row _ _ 0 _ _ _ HAc.out.f.p
          simp at x0 x1 x2
          go_upto_region 5 with fail
          clear z0 z1 z2 z3 z4 z5 y0 y1 y2 y3 y4 y5
          go_cut [8] (fun x wx => x = .bool false ∧ ∃ sv, sv = s.owe p s.self now ∧ Amid w0 wx P O S M n sv f ob B now (T ++ [(p, rOf (f s.self))]) ∧ Fr (TchF ob B) w2 wx)
          case first =>
            go_region_with (go_at_call 79; refine HOw.out.mono ?_; rintro e w3 ⟨⟨x, rfl⟩, h2⟩; have H2 := hidIn h2; clear HOw h2 x0 x1 x2)
            all_goals go_wp2_with fail
            all_goals go_meet
            all_goals exact ⟨rfl, _, rfl, H2.out.1, (Fr.of_below (Below.refl _ w2).drew).trans H2.out.2.1⟩
          case rest =>
            obtain ⟨rfl, sv, rfl, g1, g2⟩ := hcut
            have HO : Hid (OutAns w0 w wc P O S M n s f ob B now T p r false n (s.owe p s.self now) f (T ++ [(p, rOf (f s.self))])) := hidIn ⟨g1, (Fr.of_below HFc.out).trans (g2.mono fun k _ hk => .inr hk), .inr (.inl ⟨Hxb.out, by rw [Hxr.out]; exact Hbad.out, rfl, rfl, rfl, rfl, rfl⟩)⟩
            clear g1 g2 HOw x0 x1 x2
            go_wp2_with fail
            go_ret
            exact ⟨_, _, _, _, _, rfl, HO.out⟩
        · have hmx' : (r.seq == 4294967295) = false := by simpa using hmx
          have Hmx := hidIn hmx
          have hwr : IntKind.u32.wrap (r.seq + 1) = r.seq + 1 := by rw [show IntKind.u32.wrap (r.seq + 1) = (r.seq + 1) % 4294967296 from rfl]; omega
          have pf := frozen_new HXr.out 2
          obtain ⟨W5, hW5⟩ : ∃ W5, w2.setCell ⟨bx, 2, none⟩ (.int .u32 (r.seq + 1)) = W5 := ⟨_, rfl⟩
          have hF5 : Fr (fun j => j = bx) w2 W5 := by rw [← hW5]; exact (Fr.refl (fun j => j = bx) w2).set (p := ⟨bx, 2, none⟩) rfl _
          have hset5 : W5.heap[bx]? = some (.cells #[.int .i64 xo, .int .u32 xe, .int .u32 (r.seq + 1), .int .i64 xcl, .bool xi, .slice xa xn xc] 38) := by
            rw [← hW5]
            have := heap_setCell_same w2 bx 2 _ _ (.int .u32 (r.seq + 1)) HXr.out
            simp at this
            exact this
          have hTb : ∀ j, j = bx → j < w2.heap.size → ∃ (cur : Array Value) (t : TypeId), w2.heap[j]? = some (Obj.cells cur t) ∧ t ≠ 91 ∧ t ≠ 125 ∧ t ≠ 98 := fun j hj _ => by
            subst hj
            exact ⟨_, _, HXr.out, by decide, by decide, by decide⟩
          have htl5 : TlP w0 W5 B P now T := by
            obtain ⟨L, htl, hsl⟩ := HAc.out.t
            obtain ⟨u, hu1, hu2⟩ := htl.c
            have hnr : ∀ j (cs : Array Value) t, w2.heap[j]? = some (Obj.cells cs t) → t ≠ 38 → ¬ j = bx := fun j cs t hj ht e => by
              rw [e, HXr.out] at hj
              simp only [Option.some.injEq, Obj.cells.injEq] at hj
              exact ht hj.2.1.symm
            refine ⟨L, ⟨(hF5.block _ (block_lt htl.a) (hnr _ _ _ htl.a (by decide))).trans htl.a, (hF5.block _ (block_lt htl.b) (hnr _ _ _ htl.b (by decide))).trans htl.b, ⟨u, (hF5.block _ (block_lt hu1) (hnr _ _ _ hu1 (by decide))).trans hu1, row_fr hu2 hF5 (fun j hj => ?_)⟩, fun x hx => (htl.r x hx).fr hF5 (fun g cur hg => hnr g _ _ hg (by decide)), htl.l⟩, hsl⟩
            obtain ⟨cur, hc⟩ := rowTy hu2 hj
            exact hnr j _ _ hc (by decide)
          have HAe : Hid (Amid w0 W5 P O S M n s f ob B now T) := hidIn ⟨HAc.out.f.frT hF5 hTb, htl5, HAc.out.l⟩
          have hn4 : ¬ b4 = bx := by have := Hbx.out; omega
          have hn7 : ¬ b4 + 2 = bx := by have := Hbx.out; omega
          have HX4e := hidIn ((hF5.block _ (block_lt HX4c.out) hn4).trans HX4c.out)
          have HX7e := hidIn ((hF5.block _ (block_lt HX7c.out) hn7).trans HX7c.out)
          have HRe := hidIn hset5
          have HSe : Hid (SlAt ac 2 W5 (.slice xa xn xc) xl) := hidIn (Hsx.out.keepU hF5 (fun b hb e => by
            obtain ⟨o, q1, q2, g1, g2⟩ := Hsx.out.adj2 hb
            subst e
            rw [cell_of_row _ _ _ _ _ (0, 0) HXr.out] at g1 g2
            match o, g1, g2 with
            | 0, _, g2 => simp at g2
            | 1, g1, _ => simp at g1
            | 2, g1, _ => simp at g1
            | 3, _, g2 => simp at g2
            | 4, g1, _ => simp at g1
            | 5, g1, _ => simp at g1
            | o + 6, g1, _ => simp at g1))
          have HFe : Hid (Fr (fun j => j = M ∨ TchF ob B j) w W5) := hidIn ((Fr.of_below HFc.out).trans (hF5.mono fun k _ hk => .inr (.inr (by have := Hbx.out; omega))))
          have HPu : Hid (Calls Try.prog 48 #[ptr S, .agg #[.int .i64 xo, .int .u32 xe, .int .u32 (r.seq + 1), .int .i64 xcl, .bool xi, .slice xa xn xc]] W5.drew fun e w' => ∃ f', FlAt w' P O S M (n + 1) s f' ob ∧ fR f' = putR (fR f) ⟨xo, xe, r.seq + 1, xcl, xi, xl⟩ ∧ (∃ x, e = .returned x) ∧ Fr (fun j => j = M) W5 w') := hidIn (by
            have hd : Below W5.heap.size W5 W5.drew := (Below.refl _ W5).drew
            have hsl := HSe.out.keep hd (Nat.le_refl _)
            rw [← Hxn.out] at hsl ⊢
            refine (sput_any (r := ⟨xo, xe, r.seq + 1, xcl, xi, xl⟩) (HAe.out.f.keep hd).st (by omega) hsl ⟨Hxe.out rfl, by show 0 ≤ r.seq + 1; omega⟩).mono ?_
            intro e w' hp
            have hp0 := hp.1
            obtain ⟨f', g1, g2, g3⟩ := (HAe.out.f.keep hd).put hp
            exact ⟨f', g1, g2, ⟨_, hp0⟩, (Fr.of_below hd).trans g3⟩)
          have hMm := HAe.out.f.st.m.isMap
          have hnb4 : ¬ b4 = M := fun e => by obtain ⟨es, cl, hm⟩ := hMm; rw [← e, HX4e.out] at hm; cases hm
          have hnb7 : ¬ b4 + 2 = M := fun e => by obtain ⟨es, cl, hm⟩ := hMm; rw [← e, HX7e.out] at hm; cases hm
          have hnbx : ¬ bx = M := fun e => by obtain ⟨es, cl, hm⟩ := hMm; rw [← e, HRe.out] at hm; cases hm
          have HMm := hidIn hMm
          have HW5 := hidIn hW5
          clear hmx hF5 hset5 hTb htl5 hn4 hn7 hW5 hMm
          go_upto_region 8 with fail
          rw [HW5.out]
          clear HW5 z0 z1 z2 z3 z4 z5 y0 y1 y2 y3 y4 y5 pf hwr
          go_cut [1] (fun x wx => x = .int .i64 p ∧ ∃ f', FlAt wx P O S M (n + 1) s f' ob ∧ fR f' = putR (fR f) ⟨xo, xe, r.seq + 1, xcl, xi, xl⟩ ∧ Fr (fun j => j = M) W5 wx)
          case first =>
            refine wp_region_held_drew (S := fun wx => Fr (fun j => j = M) W5 wx) (by kernel_rfl) ((Fr.refl _ W5).drew) (fun hHeld => ?_)
            refine wpAnyH_take (i := 0) (v := ?_) rfl (by kernel_rfl) (by kernel_rfl) (by kernel_rfl) (fun _ _ _ h => h) (Or.inl ⟨by rfl, ?_⟩) (by assumption) ?_
            rotate_left
            · intro wq hSw
              have e5 := (hSw.block _ (block_lt HX4e.out) hnb4).trans HX4e.out
              have z0 := cell_of_row _ _ 0 _ _ _ e5
              simp at z0
              clear e5
              clear hSw
              go_simp
              try (with_reducible rfl)
            refine wpAnyH_take (i := 1) (v := ?_) rfl (by kernel_rfl) (by kernel_rfl) (by kernel_rfl) (fun _ _ _ h => h) (Or.inl ⟨by rfl, ?_⟩) (by assumption) ?_
            rotate_left
            · intro wq hSw
              clear hSw
              go_simp
              try (with_reducible rfl)
            refine wpAnyH_take (i := 2) (v := ?_) rfl (by kernel_rfl) (by kernel_rfl) (by kernel_rfl) (fun _ _ _ h => h) (Or.inl ⟨by rfl, ?_⟩) (by assumption) ?_
            rotate_left
            · intro wq hSw
              clear hSw
              go_simp
              try (with_reducible rfl)
            refine wpAnyH_take (i := 3) (v := ?_) rfl (by kernel_rfl) (by kernel_rfl) (by kernel_rfl) (fun _ _ _ h => h) (Or.inl ⟨by rfl, ?_⟩) (by assumption) ?_
            rotate_left
            · intro wq hSw
              have e5 := (hSw.block _ (block_lt HAe.out.f.p) (fun e => HAe.out.f.neP.2.1 e.symm)).trans HAe.out.f.p
              have z0 := cell_of_row _ _ 4 _ _ _ e5
              simp at z0
              clear e5
              clear hSw
              go_simp
              try (with_reducible rfl)
            refine wpAnyH_take (i := 4) (v := ?_) rfl (by kernel_rfl) (by kernel_rfl) (by kernel_rfl) (fun _ _ _ h => h) (Or.inl ⟨by rfl, ?_⟩) (by assumption) ?_
            rotate_left
            · intro wq hSw
              have e5 := (hSw.block _ (block_lt HRe.out) hnbx).trans HRe.out
              have z0 := cell_of_row _ _ 0 _ _ _ e5
              have z1 := cell_of_row _ _ 1 _ _ _ e5
              have z2 := cell_of_row _ _ 2 _ _ _ e5
              have z3 := cell_of_row _ _ 3 _ _ _ e5
              have z4 := cell_of_row _ _ 4 _ _ _ e5
              have z5 := cell_of_row _ _ 5 _ _ _ e5
              simp at z0 z1 z2 z3 z4 z5
              clear e5
              clear hSw
              go_simp
              try (with_reducible rfl)
            refine wpAnyH_ready (rs := [5]) (by kernel_rfl) (by simp) ?_
            refine AllReadyH.cons (i := 5) rfl ?_ AllReadyH.nil
            go_simp
            intro K hK
            refine HPu.out.mono ?_
            rintro e w7 ⟨f', g1, g2, ⟨x, rfl⟩, g3⟩
            refine hK.out _ _ g3 (fun _ => ?_)
            clear hK K
            refine wpAnyH_done (by kernel_rfl) ?_ _
            go_wp2_with fail
            go_meet
            exact ⟨rfl, f', g1, g2, g3⟩
          case rest =>
            obtain ⟨rfl, f', g1, g2, g3⟩ := hcut
            have hX4f := (g3.block _ (block_lt HX4e.out) hnb4).trans HX4e.out
            have hX7f := (g3.block _ (block_lt HX7e.out) hnb7).trans HX7e.out
            have htl : TlP w0 wc B P now T := by
              obtain ⟨L, htl, hsl⟩ := HAe.out.t
              exact ⟨L, htl.fr g3 (fun j hj => .inl (by subst hj; exact HMm.out)), hsl⟩
            have ham : Amid w0 wc P O S M (n + 1) s f' ob B now T := ⟨g1, htl, HAe.out.l⟩
            have HE := hidIn (outr_each (left := 0) (o := s.self) ham hX7f hX4f rfl ⟨by omega, by omega⟩ (by have := HLn.out; omega))
            have Hf' := hidIn g2
            have HFf : Hid (Fr (fun j => j = M ∨ TchF ob B j) w wc) := hidIn (HFe.out.trans (g3.mono fun k _ hk => .inl hk))
            have x0 := cell_of_row _ _ 0 _ _ _ hX4f
            simp at x0
            clear g1 g2 g3 hX4f hX7f htl ham HPu HAe HX4e HX7e HRe HSe HFe hnb4 hnb7 hnbx
            go_wp2_with fail
            refine HE.out.mono ?_
            rintro e w9 ⟨⟨x, rfl⟩, ham, hfr, _⟩
            have HO : Hid (OutAns w0 w w9 P O S M n s f ob B now T p r true (n + 1) (s.oweL (upL s 0 24) s.self now) f' (T ++ (upL s 0 24).map (fun q => (q, rOf (f' s.self))))) := hidIn ⟨ham, HFf.out.trans (hfr.mono fun k _ hk => .inr hk), .inr (.inr ⟨Hxb.out, by rw [Hxr.out]; exact Hep.out, Hmx.out, rfl, rfl, rfl, by rw [Hxr.out]; exact Hf'.out, rfl⟩)⟩
            clear ham hfr HE x0
            go_wp2_with fail
            go_ret
            exact ⟨_, _, _, _, _, rfl, HO.out⟩
      · have hep' : (xe != r.epoch) = true := by simpa using hep
        have Hbad : Hid (xe ≠ r.epoch ∨ r.seq = 4294967295) := hidIn (.inl hep)
        clear hep
        have HOw := hidIn (owe_amid (p := p) (o := s.self) (HAc.out.keep (Below.refl _ w2).drew) Hp.out hse (by have := HLn.out; omega))
        have x0 := cell_of_row _ _ 0 _ _ _ HX4c.out
        have x1 := cell_of_row _ _ 0 _ _ _ HX7c.out
        have x2 := cell_of_row _ _ 0 _ _ _ HAc.out.f.p
        simp at x0 x1 x2
        go_upto_region 5 with fail
        clear z0 z1 z2 z3 z4 z5 y0 y1 y2 y3 y4 y5
        go_cut [8] (fun x wx => x = .bool false ∧ ∃ sv, sv = s.owe p s.self now ∧ Amid w0 wx P O S M n sv f ob B now (T ++ [(p, rOf (f s.self))]) ∧ Fr (TchF ob B) w2 wx)
        case first =>
          go_region_with (go_at_call 79; refine HOw.out.mono ?_; rintro e w3 ⟨⟨x, rfl⟩, h2⟩; have H2 := hidIn h2; clear HOw h2 x0 x1 x2)
          all_goals go_wp2_with fail
          all_goals go_meet
          all_goals exact ⟨rfl, _, rfl, H2.out.1, (Fr.of_below (Below.refl _ w2).drew).trans H2.out.2.1⟩
        case rest =>
          obtain ⟨rfl, sv, rfl, g1, g2⟩ := hcut
          have HO : Hid (OutAns w0 w wc P O S M n s f ob B now T p r false n (s.owe p s.self now) f (T ++ [(p, rOf (f s.self))])) := hidIn ⟨g1, (Fr.of_below HFc.out).trans (g2.mono fun k _ hk => .inr hk), .inr (.inl ⟨Hxb.out, by rw [Hxr.out]; exact Hbad.out, rfl, rfl, rfl, rfl, rfl⟩)⟩
          clear g1 g2 HOw x0 x1 x2
          go_wp2_with fail
          go_ret
          exact ⟨_, _, _, _, _, rfl, HO.out⟩
end Go.Proofs.Yteaaoipipjkgnaa
namespace Go.Proofs.Yteaaoipipjkgnaa
open Go.RowKit Go.Maps

/-- What outrun does, without memory. -/
def OutR (s : Fp) (f : Sf) (p : Int) (r : Rc) (now : Int) (n : Nat) (T : List (Int × Rc)) (ch : Bool) (n' : Nat) (s' : Fp) (f' : Sf) (T' : List (Int × Rc)) : Prop :=
  ((f s.self).isSome = false ∧ ch = false ∧ n' = n ∧ s' = s ∧ f' = f ∧ T' = T) ∨
  ((f s.self).isSome = true ∧ ((rOf (f s.self)).epoch ≠ r.epoch ∨ r.seq = 4294967295) ∧ ch = false ∧ n' = n ∧ s' = s.owe p s.self now ∧ f' = f ∧ T' = T ++ [(p, rOf (f s.self))]) ∨
  ((f s.self).isSome = true ∧ (rOf (f s.self)).epoch = r.epoch ∧ r.seq ≠ 4294967295 ∧ ch = true ∧ n' = n + 1 ∧ s' = s.oweL (upL s 0 24) s.self now ∧ fR f' = putR (fR f) { rOf (f s.self) with seq := r.seq + 1 } ∧ T' = T ++ (upL s 0 24).map (fun q => (q, rOf (f' s.self))))
/-- What Take does, without memory. -/
def TkR (s : Fp) (f : Sf) (p : Int) (r : Rc) (now : Int) (n : Nat) (ch : Bool) (n' : Nat) (s' : Fp) (f' : Sf) (T : List (Int × Rc)) : Prop :=
  (newI r.epoch r.seq (rOf (f r.origin)).epoch (rOf (f r.origin)).seq = 0 ∧ ch = false ∧ n' = n ∧ s' = s.free p r.origin ∧ f' = f ∧ T = []) ∨
  (newI r.epoch r.seq (rOf (f r.origin)).epoch (rOf (f r.origin)).seq = -1 ∧ ch = false ∧ n' = n ∧ s' = s.owe p r.origin now ∧ f' = f ∧ T = [(p, rOf (f r.origin))]) ∨
  (newI r.epoch r.seq (rOf (f r.origin)).epoch (rOf (f r.origin)).seq = 1 ∧ r.origin = s.self ∧ OutR s f p r now n [] ch n' s' f' T) ∨
  (newI r.epoch r.seq (rOf (f r.origin)).epoch (rOf (f r.origin)).seq = 1 ∧ r.origin ≠ s.self ∧ ch = true ∧ n' = n + 1 ∧ s' = (s.free p r.origin).oweL (upL (s.free p r.origin) p 24) r.origin now ∧ fR f' = putR (fR f) r ∧ T = (upL (s.free p r.origin) p 24).map (fun q => (q, rOf (f' r.origin))))
/-- What Take answers. -/
def TakeAns (w w' : World) (P O S M n : Nat) (s : Fp) (f : Sf) (ob : Int → Option Nat) (p : Int) (r : Rc) (now : Int) (e : Ending) : Prop :=
  ((isOth s p = false ∨ recOk r = false ∨ tkOk s now = false) ∧ e = .returned (.tuple #[.bool false, .slice none 0 0, .int .i64 2]) ∧ Below w.heap.size w w') ∨
  (isOth s p = true ∧ recOk r = true ∧ tkOk s now = true ∧ (s.ow p).isSome = false ∧ e = .returned (.tuple #[.bool false, .slice none 0 0, .int .i64 9]) ∧ Below w.heap.size w w') ∨
  (isOth s p = true ∧ recOk r = true ∧ tkOk s now = true ∧ (s.ow p).isSome = true ∧ ∃ ch u n' s' f' T, e = .returned (.tuple #[.bool ch, u, .int .i64 0]) ∧ FlAt w' P O S M n' s' f' ob ∧ SndAns w w' T u ∧ Fr (FlB P O M ob) w w' ∧ TkR (s.tick now) f p r now n ch n' s' f' T)
theorem free_up (s : Fp) (p o k : Int) : ((s.free p o).ow k).isSome = (s.ow k).isSome := by
  unfold Fp.free
  by_cases h : k = p
  · subst h
    simp
  · simp [h]
set_option maxRecDepth 100000 in
set_option maxHeartbeats 16000000 in
theorem ftake_any {P O S M n : Nat} {s : Fp} {f : Sf} {ob : Int → Option Nat} {w : World} (h : FlAt w P O S M n s f ob) (hn : n < 900000) {p now : Int} {r : Rc} {ra : Option Addr} {rn rc : Nat} (hv : SlAt ac 2 w (.slice ra rn rc) r.adjs) (hr : (0 ≤ r.epoch ∧ r.epoch < 4294967296) ∧ 0 ≤ r.seq ∧ r.seq < 4294967296) :
    Calls Try.prog 21 #[ptr P, .int .i64 p, .agg #[.int .i64 r.origin, .int .u32 r.epoch, .int .u32 r.seq, .int .i64 r.claim, .bool r.ing, .slice ra rn rc], .int .u64 now] w fun e w' => TakeAns w w' P O S M n s f ob p r now e := by
  obtain ⟨W1, hW1⟩ : ∃ W1, w.alloc (.cells #[.int .i64 r.origin, .int .u32 r.epoch, .int .u32 r.seq, .int .i64 r.claim, .bool r.ing, .slice ra rn rc] 38) = W1 := ⟨_, rfl⟩
  have b1 : Below w.heap.size w W1 := by rw [← hW1]; exact (Below.refl _ w).alloc (Nat.le_refl _) _
  have hX1 : W1.heap[w.heap.size]? = some (.cells #[.int .i64 r.origin, .int .u32 r.epoch, .int .u32 r.seq, .int .i64 r.claim, .bool r.ing, .slice ra rn rc] 38) := by rw [← hW1]; exact heap_alloc_last w _
  obtain ⟨b6, hb6⟩ : ∃ b6, w.heap.size = b6 := ⟨_, rfl⟩
  rw [hb6] at hX1
  have hPl : P < b6 := by rw [← hb6]; exact block_lt h.p
  have HF1 := hidIn (h.keep b1)
  have HX1 := hidIn hX1
  have HB1 := hidIn b1
  have HV1 := hidIn (hv.keep b1 (Nat.le_refl _))
  have HT1 := hidIn (fthere_any HF1.out)
  have HOt := hidIn (fother_any HF1.out p)
  have HCk : Hid (Calls Try.prog 22 #[.agg #[.int .i64 r.origin, .int .u32 r.epoch, .int .u32 r.seq, .int .i64 r.claim, .bool r.ing, .slice ra rn rc]] W1 fun e w' => e = .returned (.int .i64 (ckN r)) ∧ Below W1.heap.size W1 w') := hidIn (rcheck_any (r := r) HV1.out)
  have HW1 := hidIn hW1
  have Hb6 := hidIn hb6
  clear h b1 hX1 hW1 hv
  go_enter Try.func21, Try.ntmps21
  go_upto_region 1 with fail
  rw [HW1.out]
  clear HW1 hb6
  go_wp2_with fail
  refine HT1.out.mono ?_
  rintro e w1 ⟨rfl, h1⟩
  rw [h1]
  clear HT1 h1 w1
  go_wp2_with fail
  refine HOt.out.mono ?_
  rintro e w1 ⟨rfl, h1⟩
  rw [h1]
  clear HOt h1 w1
  cases hot : isOth s p with
  | false =>
    have HO : Hid (TakeAns w W1 P O S M n s f ob p r now (.returned (.tuple #[.bool false, .slice none 0 0, .int .i64 2]))) := hidIn (.inl ⟨.inl hot, rfl, HB1.out⟩)
    clear hot
    go_wp2_with fail
    go_returns
    exact HO.out
  | true =>
    have h24 := (isOth_iff.1 hot).1
    have Hot := hidIn hot
    clear hot
    have x0 := cell_of_row _ _ 0 _ _ _ HX1.out
    have x1 := cell_of_row _ _ 1 _ _ _ HX1.out
    have x2 := cell_of_row _ _ 2 _ _ _ HX1.out
    have x3 := cell_of_row _ _ 3 _ _ _ HX1.out
    have x4 := cell_of_row _ _ 4 _ _ _ HX1.out
    have x5 := cell_of_row _ _ 5 _ _ _ HX1.out
    simp at x0 x1 x2 x3 x4 x5
    go_wp2_with fail
    refine HCk.out.mono ?_
    rintro e w2 ⟨rfl, hb2⟩
    have HF2 := hidIn (HF1.out.keep hb2)
    have HX2 := hidIn ((hb2.block _ (block_lt HX1.out)).trans HX1.out)
    have HV2 := hidIn (HV1.out.keep hb2 (Nat.le_refl _))
    have HB2 := hidIn (HB1.out.trans (hb2.mono HB1.out.size))
    clear hb2 x0 x1 x2 x3 x4 x5 HF1 HX1 HV1 HB1 HCk
    by_cases hok : recOk r = true
    · have hck : ckN r = 0 := by unfold ckN; rw [if_pos hok]
      have Hok := hidIn hok
      have HTk := hidIn (ftick_any HF2.out now)
      rw [hck]
      clear hck hok
      go_wp2_with fail
      refine HTk.out.mono ?_
      rintro e w1 ⟨rfl, h1⟩
      rw [h1]
      clear HTk h1 w1
      cases htk : tkOk s now with
      | false =>
        have HO : Hid (TakeAns w w2 P O S M n s f ob p r now (.returned (.tuple #[.bool false, .slice none 0 0, .int .i64 2]))) := hidIn (.inl ⟨.inr (.inr htk), rfl, HB2.out⟩)
        clear htk
        go_wp2_with fail
        go_returns
        exact HO.out
      | true =>
        have htk2 : s.last ≤ now ∧ now ≤ 1099511627776 := by have := htk; unfold tkOk at this; simpa using this
        have Htk := hidIn htk
        have HU := hidIn (fup_any (k := p) HF2.out (wf9 (by omega)))
        have HTl := hidIn (telling_any HF2.out htk2.1 htk2.2)
        clear htk htk2
        go_wp2_with fail
        refine HU.out.mono ?_
        rintro e w1 ⟨rfl, h1⟩
        rw [h1]
        clear HU h1 w1
        cases hup : (s.ow p).isSome with
        | false =>
          have HO : Hid (TakeAns w w2 P O S M n s f ob p r now (.returned (.tuple #[.bool false, .slice none 0 0, .int .i64 9]))) := hidIn (.inr (.inl ⟨Hot.out, Hok.out, Htk.out, hup, rfl, HB2.out⟩))
          clear hup
          go_wp2_with fail
          go_returns
          exact HO.out
        | true =>
          have Hup := hidIn hup
          clear hup
          go_wp2_with fail
          refine HTl.out.mono ?_
          rintro e w3 ⟨rfl, h8, h9, h10⟩
          obtain ⟨W4, hW4⟩ : ∃ W4, w3.alloc (.cells #[oweF w2.heap.size] 105) = W4 := ⟨_, rfl⟩
          have b4 : Below w3.heap.size w3 W4 := by rw [← hW4]; exact (Below.refl _ w3).alloc (Nat.le_refl _) _
          have hX11 : W4.heap[w3.heap.size]? = some (.cells #[oweF w2.heap.size] 105) := by rw [← hW4]; exact heap_alloc_last w3 _
          have hb6l := block_lt HX2.out
          have HX4 := hidIn ((b4.block _ (by have := h10.size; omega)).trans ((h10.block b6 hb6l (by omega)).trans HX2.out))
          have HA4 : Hid (Amid w2 W4 P O S M n (s.tick now) f ob w2.heap.size now []) := hidIn ⟨h8.keep b4, ⟨[], h9.keep b4, rfl⟩, rfl⟩
          have hsz3 : w2.heap.size + 2 < w3.heap.size := by obtain ⟨u, hu, _⟩ := h9.c; exact block_lt hu
          have HF4 : Hid (Fr (fun j => FlB P O M ob j ∨ w2.heap.size ≤ j) w W4) := hidIn ((Fr.of_below HB2.out).trans ((h10.mono fun k _ hk => .inl (.inl hk)).trans (Fr.of_below b4)))
          have HV4 : Hid (SlAt ac 2 W4 (.slice ra rn rc) r.adjs) := hidIn ((HV2.out.keepU h10 (fun b hb e => by
            obtain ⟨o, q1, q2, g1, g2⟩ := HV2.out.adj2 hb
            subst e
            rw [cell_of_row _ _ _ _ _ (0, 0) HF2.out.p] at g1 g2
            match o, g1, g2 with
            | 0, _, g2 => simp at g2
            | 1, g1, _ => simp at g1
            | 2, g1, _ => simp at g1
            | 3, g1, _ => simp at g1
            | 4, g1, _ => simp at g1
            | 5, g1, _ => simp at g1
            | o + 6, g1, _ => simp at g1)).keep b4 (Nat.le_refl _))
          obtain ⟨B, hB⟩ : ∃ B, w2.heap.size = B := ⟨_, rfl⟩
          have HwB : Hid (w.heap.size ≤ B) := hidIn (by rw [← hB]; exact HB2.out.size)
          obtain ⟨b11, hb11⟩ : ∃ b11, w3.heap.size = b11 := ⟨_, rfl⟩
          rw [hB] at HA4 HF4 hX11 hb6l hsz3 ⊢
          rw [hb11] at hX11 hsz3
          have HX11 := hidIn hX11
          have HW4 := hidIn hW4
          have HBB := hidIn hB
          clear h8 h9 h10 hW4 b4 hX11 HTl HF2 HX2 HV2 hB
          go_upto_region 8 with fail
          rw [show w3.alloc _ = W4 by rw [← HW4.out, HBB.out]]
          clear HW4 hb11
          have hor : 1 ≤ r.origin ∧ r.origin ≤ 24 := (recOk_parts Hok.out).1
          have HG := hidIn (fun wq (hq : Below W4.heap.size W4 wq) => sget_any (HA4.out.f.keep hq).st (k := r.origin) (wf9 (by omega)))
          have HCl : Hid (∀ wq, Below W4.heap.size W4 wq → wq.cell? ⟨b6, 0, none⟩ = some (.int .i64 r.origin) ∧ wq.cell? ⟨P, 4, none⟩ = some (ptr S)) := hidIn fun wq hq => by
            have e1 := (hq.block _ (block_lt HX4.out)).trans HX4.out
            have e2 := (hq.block _ (block_lt HA4.out.f.p)).trans HA4.out.f.p
            have c1 := cell_of_row _ _ 0 _ _ _ e1
            have c4 := cell_of_row _ _ 4 _ _ _ e2
            simp at c1 c4
            exact ⟨c1, c4⟩
          obtain ⟨xr, hxr⟩ : ∃ xr, rOf (f r.origin) = xr := ⟨_, rfl⟩
          have Hxr := hidIn hxr
          unfold GtAns at HG
          rw [hxr] at HG
          generalize (f r.origin).isSome = xb at HG
          obtain ⟨xo, xe, xs, xcl, xi, xl⟩ := xr
          obtain ⟨xn, hxn⟩ : ∃ xn, xl.length = xn := ⟨_, rfl⟩
          simp only [hxn] at HG
          clear hxr hxn
          go_cut [13, 14] (fun x y wx => ∃ bx a cc, x = ptr bx ∧ wx.heap[bx]? = some (.cells #[.int .i64 xo, .int .u32 xe, .int .u32 xs, .int .i64 xcl, .bool xi, .slice a xn cc] 38) ∧ y = .bool xb ∧ SlAt ac 2 wx (.slice a xn cc) xl ∧ NilOk (.slice a xn cc) ∧ W4.heap.size ≤ bx ∧ Below W4.heap.size W4 wx)
          case first =>
            refine wp_region_held_drew (S := fun wx => Below W4.heap.size W4 wx) (by kernel_rfl) ((Below.refl _ W4).drew) (fun hHeld => ?_)
            have hh : Below W4.heap.size W4 W4.drew := hHeld
            refine wpAnyH_take (i := 0) (v := ?_) rfl (by kernel_rfl) (by kernel_rfl) (by kernel_rfl) (fun _ _ _ h => h) (Or.inl ⟨by rfl, ?_⟩) (by assumption) ?_
            rotate_left
            · intro wq hSw
              clear hSw
              go_simp
              try (with_reducible rfl)
            refine wpAnyH_take (i := 1) (v := ?_) rfl (by kernel_rfl) (by kernel_rfl) (by kernel_rfl) (fun _ _ _ h => h) (Or.inl ⟨by rfl, ?_⟩) (by assumption) ?_
            rotate_left
            · intro wq hSw
              clear hSw
              go_simp
              try (with_reducible rfl)
            refine wpAnyH_take (i := 2) (v := ?_) rfl (by kernel_rfl) (by kernel_rfl) (by kernel_rfl) (fun _ _ _ h => h) (Or.inl ⟨by rfl, ?_⟩) (by assumption) ?_
            rotate_left
            · intro wq hSw
              clear hSw
              go_simp
              try (with_reducible rfl)
            refine wpAnyH_take (i := 3) (v := ?_) rfl (by kernel_rfl) (by kernel_rfl) (by kernel_rfl) (fun _ _ _ h => h) (Or.inl ⟨by rfl, ?_⟩) (by assumption) ?_
            rotate_left
            · intro wq hSw
              obtain ⟨_, z0⟩ := HCl.out wq hSw
              clear hSw
              go_simp
              try (with_reducible rfl)
            refine wpAnyH_take (i := 4) (v := ?_) rfl (by kernel_rfl) (by kernel_rfl) (by kernel_rfl) (fun _ _ _ h => h) (Or.inl ⟨by rfl, ?_⟩) (by assumption) ?_
            rotate_left
            · intro wq hSw
              clear hSw
              go_simp
              try (with_reducible rfl)
            refine wpAnyH_take (i := 5) (v := ?_) rfl (by kernel_rfl) (by kernel_rfl) (by kernel_rfl) (fun _ _ _ h => h) (Or.inl ⟨by rfl, ?_⟩) (by assumption) ?_
            rotate_left
            · intro wq hSw
              obtain ⟨z0, _⟩ := HCl.out wq hSw
              clear hSw
              go_simp
              try (with_reducible rfl)
            refine wpAnyH_ready (rs := [6, 10]) (by kernel_rfl) (by simp) ?_
            refine AllReadyH.cons rfl (fun K hK => ?_) (AllReadyH.cons rfl (fun K hK => ?_) AllReadyH.nil)
            · go_simp
              refine (HG.out _ hh).mono ?_
              rintro e w5 ⟨⟨a, cc, rfl, hsl, hnl, hfr⟩, hbx⟩
              have h5 : Below W4.heap.size W4 w5 := hh.trans (hbx.mono hh.size)
              refine hK.out _ _ h5 (fun _ => ?_)
              clear hK K
              refine wpAnyH_take (i := 7) (v := ?_) rfl (by kernel_rfl) (by kernel_rfl) (by kernel_rfl) (fun _ _ _ h => h) (Or.inl ⟨by rfl, ?_⟩) (by assumption) ?_
              rotate_left
              · intro wq hSw
                clear hSw
                go_simp
                try (with_reducible rfl)
              refine wpAnyH_take (i := 8) (v := ?_) rfl (by kernel_rfl) (by kernel_rfl) (by kernel_rfl) (fun _ _ _ h => h) (Or.inl ⟨by rfl, ?_⟩) (by assumption) ?_
              rotate_left
              · intro wq hSw
                clear hSw
                go_simp
                try (with_reducible rfl)
              refine wpAnyH_take (i := 9) (v := ?_) rfl (by kernel_rfl) (by kernel_rfl) (by kernel_rfl) (fun _ _ _ h => h) (Or.inl ⟨by rfl, ?_⟩) (by assumption) ?_
              rotate_left
              · intro wq hSw
                clear hSw
                go_simp
                try (with_reducible rfl)
              refine wpAnyH_ready (rs := [10]) (by kernel_rfl) (by simp) ?_
              refine AllReadyH.cons rfl (fun K hK => ?_) AllReadyH.nil
              go_simp
              obtain ⟨W6, hW6⟩ : ∃ W6, w5.alloc (.cells #[.int .i64 0, .int .u32 0, .int .u32 0, .int .i64 0, .bool false, .slice none 0 0] 38) = W6 := ⟨_, rfl⟩
              have b6 : Below w5.heap.size w5 W6 := by rw [← hW6]; exact (Below.refl _ w5).alloc (Nat.le_refl _) _
              have h6 : Below W4.heap.size W4 W6 := h5.trans (b6.mono h5.size)
              have hz8 : W6.heap[w5.heap.size]? = some (.cells #[.int .i64 0, .int .u32 0, .int .u32 0, .int .i64 0, .bool false, .slice none 0 0] 38) := by rw [← hW6]; exact heap_alloc_last w5 _
              rw [hW6]
              have h58 := h5.size
              have hsl6 := hsl.keep b6 (Nat.le_refl _)
              have hne : ∀ p, a = some p → ¬ p.block = w5.heap.size := fun p hp e => by
                obtain ⟨g, rfl, _, cur, hc⟩ := hfr p hp
                have := block_lt hc
                simp at e
                omega
              obtain ⟨b8, hb8⟩ : ∃ b8, w5.heap.size = b8 := ⟨_, rfl⟩
              rw [hb8] at hz8 h58 hne ⊢
              refine hK.out _ _ h6 (fun _ => ?_)
              clear hK K hW6 hb8
              refine wpAnyH_ready (rs := [11]) (by kernel_rfl) (by simp) ?_
              refine AllReadyH.cons rfl (fun K hK => ?_) AllReadyH.nil
              have zz0 := cell_of_row _ _ 0 _ _ _ hz8
              have zz1 := cell_of_row _ _ 1 _ _ _ hz8
              have zz2 := cell_of_row _ _ 2 _ _ _ hz8
              have zz3 := cell_of_row _ _ 3 _ _ _ hz8
              have zz4 := cell_of_row _ _ 4 _ _ _ hz8
              have zz5 := cell_of_row _ _ 5 _ _ _ hz8
              simp at zz0 zz1 zz2 zz3 zz4 zz5
              have yy0 := frozen_new hz8 0
              have yy1 := frozen_new hz8 1
              have yy2 := frozen_new hz8 2
              have yy3 := frozen_new hz8 3
              have yy4 := frozen_new hz8 4
              have yy5 := frozen_new hz8 5
              go_simp
              have hset := set6 (.int .i64 xo) (.int .u32 xe) (.int .u32 xs) (.int .i64 xcl) (.bool xi) (.slice a xn cc) hz8
              have hbs : Below W4.heap.size W4 ((((((W6.setCell ⟨b8, 0, none⟩ (.int .i64 xo)).setCell ⟨b8, 1, none⟩ (.int .u32 xe)).setCell ⟨b8, 2, none⟩ (.int .u32 xs)).setCell ⟨b8, 3, none⟩ (.int .i64 xcl)).setCell ⟨b8, 4, none⟩ (.bool xi)).setCell ⟨b8, 5, none⟩ (.slice a xn cc)) := (((((h6.setCell (p := ⟨b8, 0, none⟩) h58 _).setCell (p := ⟨b8, 1, none⟩) h58 _).setCell (p := ⟨b8, 2, none⟩) h58 _).setCell (p := ⟨b8, 3, none⟩) h58 _).setCell (p := ⟨b8, 4, none⟩) h58 _).setCell (p := ⟨b8, 5, none⟩) h58 _
              have hfs := fr6 (S := fun k => k = b8) (Fr.refl _ W6) rfl (.int .i64 xo) (.int .u32 xe) (.int .u32 xs) (.int .i64 xcl) (.bool xi) (.slice a xn cc)
              generalize (((((World.setCell _ _ _).setCell _ _).setCell _ _).setCell _ _).setCell _ _).setCell _ _ = W9 at hset hbs hfs ⊢
              have hsl9 := hsl6.frP hfs (fun _ p hp _ e => hne p hp e)
              refine hK.out _ _ hbs (fun _ => ?_)
              clear hK K zz0 zz1 zz2 zz3 zz4 zz5 yy0 yy1 yy2 yy3 yy4 yy5
              refine wpAnyH_take (i := 12) (v := ?_) rfl (by kernel_rfl) (by kernel_rfl) (by kernel_rfl) (fun _ _ _ h => h) (Or.inl ⟨by rfl, ?_⟩) (by assumption) ?_
              rotate_left
              · intro wq hSw
                clear hSw
                go_simp
                try (with_reducible rfl)
              refine wpAnyH_done (by kernel_rfl) ?_ _
              go_wp2_with fail
              go_meet
              exact ⟨b8, a, cc, rfl, hset, rfl, hsl9, hnl, h58, hbs⟩
            · go_simp
              obtain ⟨Wq4, hW4⟩ : ∃ Wq4, (W4.alloc (.cells #[.int .i64 0, .int .u32 0, .int .u32 0, .int .i64 0, .bool false, .slice none 0 0] 38)).drew = Wq4 := ⟨_, rfl⟩
              have h4 : Below W4.heap.size W4 Wq4 := by rw [← hW4]; exact ((Below.refl _ W4).alloc (Nat.le_refl _) _).drew
              have hz4 : Wq4.heap[W4.heap.size]? = some (.cells #[.int .i64 0, .int .u32 0, .int .u32 0, .int .i64 0, .bool false, .slice none 0 0] 38) := by rw [← hW4]; exact heap_alloc_last W4 _
              rw [hW4]
              obtain ⟨b8, hb8⟩ : ∃ b8, W4.heap.size = b8 := ⟨_, rfl⟩
              have h58 : W4.heap.size ≤ b8 := Nat.le_of_eq hb8
              rw [hb8] at hz4 ⊢
              refine hK.out _ _ h4 (fun _ => ?_)
              clear hK K hW4
              refine wpAnyH_ready (rs := [6]) (by kernel_rfl) (by simp) ?_
              refine AllReadyH.cons rfl (fun K hK => ?_) AllReadyH.nil
              go_simp
              refine (HG.out _ h4).mono ?_
              rintro e W6 ⟨⟨a, cc, rfl, hsl6, hnl, hfr⟩, hbx⟩
              have h6 : Below W4.heap.size W4 W6 := h4.trans (hbx.mono h4.size)
              have hz8 := (hbx.block _ (block_lt hz4)).trans hz4
              have hne : ∀ p, a = some p → ¬ p.block = b8 := fun p hp e => by
                obtain ⟨g, rfl, hg, _⟩ := hfr p hp
                have := block_lt hz4
                simp at e
                omega
              refine hK.out _ _ h6 (fun _ => ?_)
              clear hK K hbx hz4 h4
              refine wpAnyH_take (i := 7) (v := ?_) rfl (by kernel_rfl) (by kernel_rfl) (by kernel_rfl) (fun _ _ _ h => h) (Or.inl ⟨by rfl, ?_⟩) (by assumption) ?_
              rotate_left
              · intro wq hSw
                clear hSw
                go_simp
                try (with_reducible rfl)
              refine wpAnyH_take (i := 8) (v := ?_) rfl (by kernel_rfl) (by kernel_rfl) (by kernel_rfl) (fun _ _ _ h => h) (Or.inl ⟨by rfl, ?_⟩) (by assumption) ?_
              rotate_left
              · intro wq hSw
                clear hSw
                go_simp
                try (with_reducible rfl)
              refine wpAnyH_take (i := 9) (v := ?_) rfl (by kernel_rfl) (by kernel_rfl) (by kernel_rfl) (fun _ _ _ h => h) (Or.inl ⟨by rfl, ?_⟩) (by assumption) ?_
              rotate_left
              · intro wq hSw
                clear hSw
                go_simp
                try (with_reducible rfl)
              refine wpAnyH_ready (rs := [11]) (by kernel_rfl) (by simp) ?_
              refine AllReadyH.cons rfl (fun K hK => ?_) AllReadyH.nil
              have zz0 := cell_of_row _ _ 0 _ _ _ hz8
              have zz1 := cell_of_row _ _ 1 _ _ _ hz8
              have zz2 := cell_of_row _ _ 2 _ _ _ hz8
              have zz3 := cell_of_row _ _ 3 _ _ _ hz8
              have zz4 := cell_of_row _ _ 4 _ _ _ hz8
              have zz5 := cell_of_row _ _ 5 _ _ _ hz8
              simp at zz0 zz1 zz2 zz3 zz4 zz5
              have yy0 := frozen_new hz8 0
              have yy1 := frozen_new hz8 1
              have yy2 := frozen_new hz8 2
              have yy3 := frozen_new hz8 3
              have yy4 := frozen_new hz8 4
              have yy5 := frozen_new hz8 5
              go_simp
              have hset := set6 (.int .i64 xo) (.int .u32 xe) (.int .u32 xs) (.int .i64 xcl) (.bool xi) (.slice a xn cc) hz8
              have hbs : Below W4.heap.size W4 ((((((W6.setCell ⟨b8, 0, none⟩ (.int .i64 xo)).setCell ⟨b8, 1, none⟩ (.int .u32 xe)).setCell ⟨b8, 2, none⟩ (.int .u32 xs)).setCell ⟨b8, 3, none⟩ (.int .i64 xcl)).setCell ⟨b8, 4, none⟩ (.bool xi)).setCell ⟨b8, 5, none⟩ (.slice a xn cc)) := (((((h6.setCell (p := ⟨b8, 0, none⟩) h58 _).setCell (p := ⟨b8, 1, none⟩) h58 _).setCell (p := ⟨b8, 2, none⟩) h58 _).setCell (p := ⟨b8, 3, none⟩) h58 _).setCell (p := ⟨b8, 4, none⟩) h58 _).setCell (p := ⟨b8, 5, none⟩) h58 _
              have hfs := fr6 (S := fun k => k = b8) (Fr.refl _ W6) rfl (.int .i64 xo) (.int .u32 xe) (.int .u32 xs) (.int .i64 xcl) (.bool xi) (.slice a xn cc)
              generalize (((((World.setCell _ _ _).setCell _ _).setCell _ _).setCell _ _).setCell _ _).setCell _ _ = W9 at hset hbs hfs ⊢
              have hsl9 := hsl6.frP hfs (fun _ p hp _ e => hne p hp e)
              refine hK.out _ _ hbs (fun _ => ?_)
              clear hK K zz0 zz1 zz2 zz3 zz4 zz5 yy0 yy1 yy2 yy3 yy4 yy5
              refine wpAnyH_take (i := 12) (v := ?_) rfl (by kernel_rfl) (by kernel_rfl) (by kernel_rfl) (fun _ _ _ h => h) (Or.inl ⟨by rfl, ?_⟩) (by assumption) ?_
              rotate_left
              · intro wq hSw
                clear hSw
                go_simp
                try (with_reducible rfl)
              refine wpAnyH_done (by kernel_rfl) ?_ _
              go_wp2_with fail
              go_meet
              exact ⟨b8, a, cc, rfl, hset, rfl, hsl9, hnl, h58, hbs⟩
          case rest =>
            obtain ⟨bx, xa, xc, rfl, hxr2, rfl, hsx, hnx, hbx, hbc⟩ := hcut
            have HXr := hidIn hxr2
            have HA5 := hidIn (HA4.out.keep hbc)
            have HX5 := hidIn ((hbc.block _ (block_lt HX4.out)).trans HX4.out)
            have HY5 := hidIn ((hbc.block _ (block_lt HX11.out)).trans HX11.out)
            have HV5 := hidIn (HV4.out.keep hbc (Nat.le_refl _))
            have HF5 := hidIn (HF4.out.trans (Fr.of_below hbc))
            obtain ⟨w5, hw5⟩ : ∃ w5, w5 = wc := ⟨_, rfl⟩
            rw [← hw5] at HXr HA5 HX5 HY5 HV5 HF5 ⊢
            have z0 := cell_of_row _ _ 0 _ _ _ HXr.out
            have z1 := cell_of_row _ _ 1 _ _ _ HXr.out
            have z2 := cell_of_row _ _ 2 _ _ _ HXr.out
            have z3 := cell_of_row _ _ 3 _ _ _ HXr.out
            have z4 := cell_of_row _ _ 4 _ _ _ HXr.out
            have z5 := cell_of_row _ _ 5 _ _ _ HXr.out
            simp at z0 z1 z2 z3 z4 z5
            have y0 := cell_of_row _ _ 0 _ _ _ HX5.out
            have y1 := cell_of_row _ _ 1 _ _ _ HX5.out
            have y2 := cell_of_row _ _ 2 _ _ _ HX5.out
            have y3 := cell_of_row _ _ 3 _ _ _ HX5.out
            have y4 := cell_of_row _ _ 4 _ _ _ HX5.out
            have y5 := cell_of_row _ _ 5 _ _ _ HX5.out
            simp at y0 y1 y2 y3 y4 y5
            have kz0 := cell_regrown z0
            have kz1 := cell_regrown z1
            have kz2 := cell_regrown z2
            have kz3 := cell_regrown z3
            have kz4 := cell_regrown z4
            have kz5 := cell_regrown z5
            have ky0 := cell_regrown y0
            have ky1 := cell_regrown y1
            have ky2 := cell_regrown y2
            have ky3 := cell_regrown y3
            have ky4 := cell_regrown y4
            have ky5 := cell_regrown y5
            clear hsx hnx hbx hbc hxr2 hw5 HG HCl HA4 HX4 HX11 HV4 HF4
            go_upto_region 9 with fail
            refine wp_region_quiet_below (by kernel_rfl) (by kernel_rfl) ?_
            repeat (go_big_quiet_step (first
              | (go_at_call 23; exact Calls.regrown_of (stamp_lit _ _ _ _ _ _ _ _ _))
              | (go_at_call 24; exact Calls.regrown_of (newer_any _ _ _ _ _ _ _))))
            refine wpQuiet_nil ?_
            rintro _ ⟨⟨dq, osq⟩, rfl⟩
            have hbr := below_regrown w5 dq osq
            generalize Go.Sort.grow (redrawn w5 dq) osq = W6 at hbr ⊢
            have HA6 := hidIn (HA5.out.keep hbr)
            have HX6 := hidIn ((hbr.block _ (block_lt HX5.out)).trans HX5.out)
            have HY6 := hidIn ((hbr.block _ (block_lt HY5.out)).trans HY5.out)
            have HV6 := hidIn (HV5.out.keep hbr (Nat.le_refl _))
            have HF6 := hidIn (HF5.out.trans (Fr.of_below hbr))
            clear hbr z0 z1 z2 z3 z4 z5 y0 y1 y2 y3 y4 y5 kz0 kz1 kz2 kz3 kz4 kz5 ky0 ky1 ky2 ky3 ky4 ky5 HA5 HX5 HY5 HV5 HF5 HXr
            have Hnw : Hid (newI r.epoch r.seq (rOf (f r.origin)).epoch (rOf (f r.origin)).seq = newI r.epoch r.seq xe xs) := hidIn (by rw [Hxr.out])
            obtain ⟨nw, hnw⟩ : ∃ nw, newI r.epoch r.seq xe xs = nw := ⟨_, rfl⟩
            have hvals := newI_vals r.epoch r.seq xe xs
            rw [hnw] at Hnw hvals ⊢
            clear hnw
            have hupt : ((s.tick now).ow p).isSome = true := Hup.out
            rcases hvals with rfl | rfl | rfl
            · have x0 := cell_of_row _ _ 0 _ _ _ HX6.out
              have x1 := cell_of_row _ _ 0 _ _ _ HY6.out
              simp at x0 x1
              have HOw := hidIn (owe_amid (p := p) (o := r.origin) HA6.out hupt hor (by simp))
              go_wp2_with fail
              refine HOw.out.mono ?_
              rintro e w7 ⟨⟨x, rfl⟩, ham, hfr, _⟩
              have hFz : Fr (fun j => FlB P O M ob j ∨ B ≤ j) w w7 := HF6.out.trans (hfr.mono fun k _ hk => by rcases hk with hk | hk; exact .inl (.inr (.inr (.inr hk))); exact .inr (by omega))
              have hTk : TkR (s.tick now) f p r now n false n ((s.tick now).owe p r.origin now) f ([] ++ [(p, rOf (f r.origin))]) := .inr (.inl ⟨Hnw.out, rfl, rfl, rfl, rfl, rfl⟩)
              clear hfr HOw x0 x1 HA6 HX6 HY6 HV6 HF6 hupt
              obtain ⟨L, htl, hsl⟩ := ham.t
              have HTo := hidIn (told_any htl)
              have HO : Hid (∀ u, w7.ownsRow (B + 3) 81 7 u L.length (fl sdc L) → TakeAns w w7 P O S M n s f ob p r now (.returned (.tuple #[.bool false, u, .int .i64 0]))) := hidIn fun u hu => by
                refine .inr (.inr ⟨Hot.out, Hok.out, Htk.out, Hup.out, false, u, _, _, _, _, rfl, ham.f, ⟨L, row_low hu (by have := HwB.out; omega), hsl, fun x hx => ?_⟩, hFz.mono (fun k hk h => by rcases h with h | h; exact h; have := HwB.out; omega), hTk⟩)
                obtain ⟨a, c, e1, e2, e3, e4⟩ := htl.r x hx
                exact ⟨a, c, e1, e2, e3, fun q hq => by obtain ⟨g, e5, e6, e7⟩ := e4 q hq; exact ⟨g, e5, by have := HwB.out; rw [← HBB.out] at this; omega, e7⟩⟩
              clear ham htl hsl hFz hTk
              go_wp2_with fail
              refine HTo.out.mono ?_
              rintro e w11 ⟨⟨u, rfl, hu⟩, h11⟩
              rw [h11]
              have HA := hidIn (HO.out u hu)
              obtain ⟨va, vc, rfl⟩ := row_shape hu
              clear hu HTo HO h11
              go_wp2_with fail
              go_returns
              exact HA.out
            · go_upto_region 15 with fail
              obtain ⟨b, w', hb, hrun, hfl, hfr, hmap, hcl⟩ := free_mem (o := r.origin) HA6.out.f hupt hor
              have hbb : b6 ≠ b := fun e => by
                obtain ⟨es, cl, hm⟩ := hmap
                rw [← e, HX6.out] at hm
                cases hm
              have HD : Hid (∀ wq, Fr (fun j => j = b) W6 wq → wq.cell? ⟨P, 5, none⟩ = some (.map (some O)) ∧ (Instr.lookup 89 (.map (some O)) (.int .i64 p) false).run Try.prog wq = .ok (.map (some b)) wq ∧ wq.cell? ⟨b6, 0, none⟩ = some (.int .i64 r.origin)) := hidIn fun wq hq => by
                have e1 := (hq.block _ (block_lt HX6.out) hbb).trans HX6.out
                have c1 := cell_of_row _ _ 0 _ _ _ e1
                simp at c1
                exact ⟨(hcl wq hq).1, (hcl wq hq).2, c1⟩
              have HRu := hidIn hrun
              have HFn := hidIn hfr
              have htl' : TlP w2 w' B P now [] := by
                obtain ⟨L, htl, hsl⟩ := HA6.out.t
                exact ⟨L, htl.fr hfr (fun j hj => .inl (by subst hj; exact hmap)), hsl⟩
              have ham : Amid w2 w' P O S M n ((s.tick now).free p r.origin) f ob B now [] := ⟨hfl, htl', HA6.out.l⟩
              have hFz : Fr (fun j => FlB P O M ob j ∨ B ≤ j) w w' := HF6.out.trans (hfr.mono fun k _ hk => .inl (.inr (.inr (.inr ⟨p, by rw [hk]; exact hb⟩))))
              have hTk : TkR (s.tick now) f p r now n false n ((s.tick now).free p r.origin) f [] := .inl ⟨Hnw.out, rfl, rfl, rfl, rfl, rfl⟩
              have Ham := hidIn ham
              have HFz := hidIn hFz
              have HTK := hidIn hTk
              clear hb hrun hfl hfr hmap hcl hbb htl' ham hFz hTk HA6 HX6 HY6 HV6 HF6 hupt
              refine wp_region_held_drew (S := fun wx => Fr (fun j => j = b) W6 wx) (by kernel_rfl) ((Fr.refl _ W6).drew) (fun hHeld => ?_)
              refine wpAnyH_take (i := 0) (v := ?_) rfl (by kernel_rfl) (by kernel_rfl) (by kernel_rfl) (fun _ _ _ h => h) (Or.inl ⟨by rfl, ?_⟩) (by assumption) ?_
              rotate_left
              · intro wq hSw
                clear hSw
                go_simp
                try (with_reducible rfl)
              refine wpAnyH_take (i := 1) (v := ?_) rfl (by kernel_rfl) (by kernel_rfl) (by kernel_rfl) (fun _ _ _ h => h) (Or.inl ⟨by rfl, ?_⟩) (by assumption) ?_
              rotate_left
              · intro wq hSw
                clear hSw
                go_simp
                try (with_reducible rfl)
              refine wpAnyH_take (i := 2) (v := ?_) rfl (by kernel_rfl) (by kernel_rfl) (by kernel_rfl) (fun _ _ _ h => h) (Or.inl ⟨by rfl, ?_⟩) (by assumption) ?_
              rotate_left
              · intro wq hSw
                clear hSw
                go_simp
                try (with_reducible rfl)
              refine wpAnyH_take (i := 3) (v := ?_) rfl (by kernel_rfl) (by kernel_rfl) (by kernel_rfl) (fun _ _ _ h => h) (Or.inl ⟨by rfl, ?_⟩) (by assumption) ?_
              rotate_left
              · intro wq hSw
                obtain ⟨z0, _, _⟩ := HD.out wq hSw
                clear hSw
                go_simp
                try (with_reducible rfl)
              refine wpAnyH_take (i := 4) (v := ?_) rfl (by kernel_rfl) (by kernel_rfl) (by kernel_rfl) (fun _ _ _ h => h) (Or.inl ⟨by rfl, ?_⟩) (by assumption) ?_
              rotate_left
              · intro wq hSw
                clear hSw
                go_simp
                try (with_reducible rfl)
              refine wpAnyH_take (i := 5) (v := ?_) rfl (by kernel_rfl) (by kernel_rfl) (by kernel_rfl) (fun _ _ _ h => h) (Or.inl ⟨by rfl, ?_⟩) (by assumption) ?_
              rotate_left
              · intro wq hSw
                obtain ⟨_, z0, _⟩ := HD.out wq hSw
                clear hSw
                go_simp
                try (with_reducible rfl)
              refine wpAnyH_take (i := 6) (v := ?_) rfl (by kernel_rfl) (by kernel_rfl) (by kernel_rfl) (fun _ _ _ h => h) (Or.inl ⟨by rfl, ?_⟩) (by assumption) ?_
              rotate_left
              · intro wq hSw
                clear hSw
                go_simp
                try (with_reducible rfl)
              refine wpAnyH_take (i := 7) (v := ?_) rfl (by kernel_rfl) (by kernel_rfl) (by kernel_rfl) (fun _ _ _ h => h) (Or.inl ⟨by rfl, ?_⟩) (by assumption) ?_
              rotate_left
              · intro wq hSw
                obtain ⟨_, _, z0⟩ := HD.out wq hSw
                clear hSw
                go_simp
                try (with_reducible rfl)
              refine wpAnyH_ready (rs := [8]) (by kernel_rfl) (by simp) ?_
              have hru := HRu.out
              refine AllReadyH.cons (i := 8) rfl ?_ AllReadyH.nil
              go_simp
              clear hru
              intro K hK
              refine hK.out _ _ HFn.out (fun _ => ?_)
              clear hK K hHeld
              refine wpAnyH_done (by kernel_rfl) ?_ _
              clear HRu HFn HD
              have ham := Ham.out
              have hFz := HFz.out
              have hTk := HTK.out
              clear Ham HFz HTK
              obtain ⟨L, htl, hsl⟩ := ham.t
              have HTo := hidIn (told_any htl)
              have HO : Hid (∀ u, w'.ownsRow (B + 3) 81 7 u L.length (fl sdc L) → TakeAns w w' P O S M n s f ob p r now (.returned (.tuple #[.bool false, u, .int .i64 0]))) := hidIn fun u hu => by
                refine .inr (.inr ⟨Hot.out, Hok.out, Htk.out, Hup.out, false, u, _, _, _, _, rfl, ham.f, ⟨L, row_low hu (by have := HwB.out; omega), hsl, fun x hx => ?_⟩, hFz.mono (fun k hk h => by rcases h with h | h; exact h; have := HwB.out; omega), hTk⟩)
                obtain ⟨a, c, e1, e2, e3, e4⟩ := htl.r x hx
                exact ⟨a, c, e1, e2, e3, fun q hq => by obtain ⟨g, e5, e6, e7⟩ := e4 q hq; exact ⟨g, e5, by have := HwB.out; rw [← HBB.out] at this; omega, e7⟩⟩
              clear ham htl hsl hFz hTk
              go_wp2_with fail
              refine HTo.out.mono ?_
              rintro e w11 ⟨⟨u, rfl, hu⟩, h11⟩
              rw [h11]
              have HA := hidIn (HO.out u hu)
              obtain ⟨va, vc, rfl⟩ := row_shape hu
              clear hu HTo HO h11
              go_wp2_with fail
              go_returns
              exact HA.out
            · have x0 := cell_of_row _ _ 0 _ _ _ HX6.out
              have xp := cell_of_row _ _ 0 _ _ _ HA6.out.f.p
              simp at x0 xp
              have kx0 := cell_regrown x0
              have kxp := cell_regrown xp
              have hse0 : (s.tick now).self = s.self := rfl
              rw [hse0] at xp kxp
              go_upto_region 18 with fail
              refine wp_region_quiet_below (by kernel_rfl) (by kernel_rfl) ?_
              repeat (go_big_quiet_step (fail))
              refine wpQuiet_nil ?_
              rintro _ ⟨⟨dq, osq⟩, rfl⟩
              have hbr := below_regrown W6 dq osq
              generalize Go.Sort.grow (redrawn W6 dq) osq = W7 at hbr ⊢
              have HA7 := hidIn (HA6.out.keep hbr)
              have HX7 := hidIn ((hbr.block _ (block_lt HX6.out)).trans HX6.out)
              have HY7 := hidIn ((hbr.block _ (block_lt HY6.out)).trans HY6.out)
              have HV7 := hidIn (HV6.out.keep hbr (Nat.le_refl _))
              have HF7 := hidIn (HF6.out.trans (Fr.of_below hbr))
              clear hbr x0 xp kx0 kxp hse0 HA6 HX6 HY6 HV6 HF6
              by_cases hse : r.origin = s.self
              · have hse' : (r.origin == s.self) = true := by simpa using hse
                have Hse := hidIn hse
                clear hse
                have x0 := cell_of_row _ _ 0 _ _ _ HX7.out
                have x1 := cell_of_row _ _ 1 _ _ _ HX7.out
                have x2 := cell_of_row _ _ 2 _ _ _ HX7.out
                have x3 := cell_of_row _ _ 3 _ _ _ HX7.out
                have x4 := cell_of_row _ _ 4 _ _ _ HX7.out
                have x5 := cell_of_row _ _ 5 _ _ _ HX7.out
                simp at x0 x1 x2 x3 x4 x5
                have y0 := cell_of_row _ _ 0 _ _ _ HY7.out
                simp at y0
                have HOu := hidIn (outrun_any (p := p) (r := r) (ra := ra) (rn := rn) (rc := rc) HA7.out hn hupt hr.2 (by simp))
                go_wp2_with fail
                refine HOu.out.mono ?_
                rintro e w8 ⟨ch, n', s', f', T', rfl, ham, hfr, hout⟩
                have hFz : Fr (fun j => FlB P O M ob j ∨ B ≤ j) w w8 := HF7.out.trans (hfr.mono fun k _ hk => by rcases hk with hk | hk | hk; exact .inl (.inr (.inr (.inl hk))); exact .inl (.inr (.inr (.inr hk))); exact .inr (by omega))
                have hTk : TkR (s.tick now) f p r now n ch n' s' f' T' := .inr (.inr (.inl ⟨Hnw.out, Hse.out, hout⟩))
                clear hfr hout HOu x0 x1 x2 x3 x4 x5 y0 HA7 HX7 HY7 HV7 HF7 hupt
                obtain ⟨L, htl, hsl⟩ := ham.t
                have HTo := hidIn (told_any htl)
                have HO : Hid (∀ u, w8.ownsRow (B + 3) 81 7 u L.length (fl sdc L) → TakeAns w w8 P O S M n s f ob p r now (.returned (.tuple #[.bool ch, u, .int .i64 0]))) := hidIn fun u hu => by
                  refine .inr (.inr ⟨Hot.out, Hok.out, Htk.out, Hup.out, ch, u, _, _, _, _, rfl, ham.f, ⟨L, row_low hu (by have := HwB.out; omega), hsl, fun x hx => ?_⟩, hFz.mono (fun k hk h => by rcases h with h | h; exact h; have := HwB.out; omega), hTk⟩)
                  obtain ⟨a, c, e1, e2, e3, e4⟩ := htl.r x hx
                  exact ⟨a, c, e1, e2, e3, fun q hq => by obtain ⟨g, e5, e6, e7⟩ := e4 q hq; exact ⟨g, e5, by have := HwB.out; rw [← HBB.out] at this; omega, e7⟩⟩
                clear ham htl hsl hFz hTk
                go_wp2_with fail
                refine HTo.out.mono ?_
                rintro e w11 ⟨⟨u, rfl, hu⟩, h11⟩
                rw [h11]
                have HA := hidIn (HO.out u hu)
                obtain ⟨va, vc, rfl⟩ := row_shape hu
                clear hu HTo HO h11
                go_wp2_with fail
                go_returns
                exact HA.out
              · have hse' : (r.origin == s.self) = false := by simpa using hse
                have Hse := hidIn hse
                clear hse
                rw [hse']
                have HPu : Hid (Calls Try.prog 48 #[ptr S, .agg #[.int .i64 r.origin, .int .u32 r.epoch, .int .u32 r.seq, .int .i64 r.claim, .bool r.ing, .slice ra rn rc]] W7.drew fun e w' => ∃ f', FlAt w' P O S M (n + 1) (s.tick now) f' ob ∧ fR f' = putR (fR f) r ∧ (∃ x, e = .returned x) ∧ Fr (fun j => j = M) W7 w') := hidIn (by
                  have hd : Below W7.heap.size W7 W7.drew := (Below.refl _ W7).drew
                  refine (sput_any (r := r) (HA7.out.f.keep hd).st (by omega) (HV7.out.keep hd (Nat.le_refl _)) ⟨hr.1.1, hr.2.1⟩).mono ?_
                  intro e w' hp
                  have hp0 := hp.1
                  obtain ⟨f', g1, g2, g3⟩ := (HA7.out.f.keep hd).put hp
                  exact ⟨f', g1, g2, ⟨_, hp0⟩, (Fr.of_below hd).trans g3⟩)
                have hMm := HA7.out.f.st.m.isMap
                have hnb6 : ¬ b6 = M := fun e => by obtain ⟨es, cl, hm⟩ := hMm; rw [← e, HX7.out] at hm; cases hm
                have hnb11 : ¬ b11 = M := fun e => by obtain ⟨es, cl, hm⟩ := hMm; rw [← e, HY7.out] at hm; cases hm
                have HMm := hidIn hMm
                clear hMm
                go_upto_region 10 with fail
                go_cut [1] (fun x wx => x = .int .i64 p ∧ ∃ f', FlAt wx P O S M (n + 1) (s.tick now) f' ob ∧ fR f' = putR (fR f) r ∧ Fr (fun j => j = M) W7 wx)
                case first =>
                  refine wp_region_held_drew (S := fun wx => Fr (fun j => j = M) W7 wx) (by kernel_rfl) ((Fr.refl _ W7).drew) (fun hHeld => ?_)
                  refine wpAnyH_take (i := 0) (v := ?_) rfl (by kernel_rfl) (by kernel_rfl) (by kernel_rfl) (fun _ _ _ h => h) (Or.inl ⟨by rfl, ?_⟩) (by assumption) ?_
                  rotate_left
                  · intro wq hSw
                    clear hSw
                    go_simp
                    try (with_reducible rfl)
                  refine wpAnyH_take (i := 1) (v := ?_) rfl (by kernel_rfl) (by kernel_rfl) (by kernel_rfl) (fun _ _ _ h => h) (Or.inl ⟨by rfl, ?_⟩) (by assumption) ?_
                  rotate_left
                  · intro wq hSw
                    clear hSw
                    go_simp
                    try (with_reducible rfl)
                  refine wpAnyH_take (i := 2) (v := ?_) rfl (by kernel_rfl) (by kernel_rfl) (by kernel_rfl) (fun _ _ _ h => h) (Or.inl ⟨by rfl, ?_⟩) (by assumption) ?_
                  rotate_left
                  · intro wq hSw
                    clear hSw
                    go_simp
                    try (with_reducible rfl)
                  refine wpAnyH_take (i := 3) (v := ?_) rfl (by kernel_rfl) (by kernel_rfl) (by kernel_rfl) (fun _ _ _ h => h) (Or.inl ⟨by rfl, ?_⟩) (by assumption) ?_
                  rotate_left
                  · intro wq hSw
                    have e5 := (hSw.block _ (block_lt HA7.out.f.p) (fun e => HA7.out.f.neP.2.1 e.symm)).trans HA7.out.f.p
                    have z0 := cell_of_row _ _ 4 _ _ _ e5
                    simp at z0
                    clear e5
                    clear hSw
                    go_simp
                    try (with_reducible rfl)
                  refine wpAnyH_take (i := 4) (v := ?_) rfl (by kernel_rfl) (by kernel_rfl) (by kernel_rfl) (fun _ _ _ h => h) (Or.inl ⟨by rfl, ?_⟩) (by assumption) ?_
                  rotate_left
                  · intro wq hSw
                    have e5 := (hSw.block _ (block_lt HX7.out) hnb6).trans HX7.out
                    have z0 := cell_of_row _ _ 0 _ _ _ e5
                    have z1 := cell_of_row _ _ 1 _ _ _ e5
                    have z2 := cell_of_row _ _ 2 _ _ _ e5
                    have z3 := cell_of_row _ _ 3 _ _ _ e5
                    have z4 := cell_of_row _ _ 4 _ _ _ e5
                    have z5 := cell_of_row _ _ 5 _ _ _ e5
                    simp at z0 z1 z2 z3 z4 z5
                    clear e5
                    clear hSw
                    go_simp
                    try (with_reducible rfl)
                  refine wpAnyH_ready (rs := [5]) (by kernel_rfl) (by simp) ?_
                  refine AllReadyH.cons (i := 5) rfl ?_ AllReadyH.nil
                  go_simp
                  intro K hK
                  refine HPu.out.mono ?_
                  rintro e w8 ⟨f', g1, g2, ⟨x, rfl⟩, g3⟩
                  refine hK.out _ _ g3 (fun _ => ?_)
                  clear hK K
                  refine wpAnyH_done (by kernel_rfl) ?_ _
                  go_wp2_with fail
                  go_meet
                  exact ⟨rfl, f', g1, g2, g3⟩
                case rest =>
                  obtain ⟨rfl, f', g1, g2, g3⟩ := hcut
                  have HX8 := hidIn ((g3.block _ (block_lt HX7.out) hnb6).trans HX7.out)
                  have HY8 := hidIn ((g3.block _ (block_lt HY7.out) hnb11).trans HY7.out)
                  have HA8 : Hid (Amid w2 wc P O S M (n + 1) (s.tick now) f' ob B now []) := hidIn ⟨g1, by
                    obtain ⟨L, htl, hsl⟩ := HA7.out.t
                    exact ⟨L, htl.fr g3 (fun j hj => .inl (by subst hj; exact HMm.out)), hsl⟩, rfl⟩
                  have HF8 := hidIn (HF7.out.trans (g3.mono fun k _ hk => .inl (.inr (.inr (.inl hk)))))
                  have Hf' := hidIn g2
                  obtain ⟨w8, hw8⟩ : ∃ w8, w8 = wc := ⟨_, rfl⟩
                  rw [← hw8] at HX8 HY8 HA8 HF8 ⊢
                  clear g1 g2 g3 hw8 HPu HA7 HX7 HY7 HV7 HF7 hnb6 hnb11
                  obtain ⟨b, w', hb, hrun, hfl, hfr, hmap, hcl⟩ := free_mem (o := r.origin) HA8.out.f hupt hor
                  have hbb : b6 ≠ b := fun e => by
                    obtain ⟨es, cl, hm⟩ := hmap
                    rw [← e, HX8.out] at hm
                    cases hm
                  have HD : Hid (∀ wq, Fr (fun j => j = b) w8 wq → wq.cell? ⟨P, 5, none⟩ = some (.map (some O)) ∧ (Instr.lookup 89 (.map (some O)) (.int .i64 p) false).run Try.prog wq = .ok (.map (some b)) wq ∧ wq.cell? ⟨b6, 0, none⟩ = some (.int .i64 r.origin)) := hidIn fun wq hq => by
                    have e1 := (hq.block _ (block_lt HX8.out) hbb).trans HX8.out
                    have c1 := cell_of_row _ _ 0 _ _ _ e1
                    simp at c1
                    exact ⟨(hcl wq hq).1, (hcl wq hq).2, c1⟩
                  have HRu := hidIn hrun
                  have HFn := hidIn hfr
                  have htl' : TlP w2 w' B P now [] := by
                    obtain ⟨L, htl, hsl⟩ := HA8.out.t
                    exact ⟨L, htl.fr hfr (fun j hj => .inl (by subst hj; exact hmap)), hsl⟩
                  have HX9 := hidIn ((hfr.block _ (block_lt HX8.out) hbb).trans HX8.out)
                  have hbb11 : b11 ≠ b := fun e => by
                    obtain ⟨es, cl, hm⟩ := hmap
                    rw [← e, HY8.out] at hm
                    cases hm
                  have HY9 := hidIn ((hfr.block _ (block_lt HY8.out) hbb11).trans HY8.out)
                  have HA9 : Hid (Amid w2 w' P O S M (n + 1) ((s.tick now).free p r.origin) f' ob B now []) := hidIn ⟨hfl, htl', HA8.out.l⟩
                  have HF9 : Hid (Fr (fun j => FlB P O M ob j ∨ B ≤ j) w w') := hidIn (HF8.out.trans (hfr.mono fun k _ hk => .inl (.inr (.inr (.inr ⟨p, by rw [hk]; exact hb⟩)))))
                  have HE := hidIn (take_each (left := p) (o := r.origin) HA9.out HY9.out HX9.out (by simp) hor ⟨by omega, by omega⟩ (by simp))
                  clear hb hrun hfl hfr hmap hcl hbb hbb11 htl' HA8 HX8 HY8 HF8 hupt
                  go_upto_region 11 with fail
                  refine wp_region_held_drew (S := fun wx => Fr (fun j => j = b) w8 wx) (by kernel_rfl) ((Fr.refl _ w8).drew) (fun hHeld => ?_)
                  refine wpAnyH_take (i := 0) (v := ?_) rfl (by kernel_rfl) (by kernel_rfl) (by kernel_rfl) (fun _ _ _ h => h) (Or.inl ⟨by rfl, ?_⟩) (by assumption) ?_
                  rotate_left
                  · intro wq hSw
                    clear hSw
                    go_simp
                    try (with_reducible rfl)
                  refine wpAnyH_take (i := 1) (v := ?_) rfl (by kernel_rfl) (by kernel_rfl) (by kernel_rfl) (fun _ _ _ h => h) (Or.inl ⟨by rfl, ?_⟩) (by assumption) ?_
                  rotate_left
                  · intro wq hSw
                    clear hSw
                    go_simp
                    try (with_reducible rfl)
                  refine wpAnyH_take (i := 2) (v := ?_) rfl (by kernel_rfl) (by kernel_rfl) (by kernel_rfl) (fun _ _ _ h => h) (Or.inl ⟨by rfl, ?_⟩) (by assumption) ?_
                  rotate_left
                  · intro wq hSw
                    clear hSw
                    go_simp
                    try (with_reducible rfl)
                  refine wpAnyH_take (i := 3) (v := ?_) rfl (by kernel_rfl) (by kernel_rfl) (by kernel_rfl) (fun _ _ _ h => h) (Or.inl ⟨by rfl, ?_⟩) (by assumption) ?_
                  rotate_left
                  · intro wq hSw
                    obtain ⟨z0, _, _⟩ := HD.out wq hSw
                    clear hSw
                    go_simp
                    try (with_reducible rfl)
                  refine wpAnyH_take (i := 4) (v := ?_) rfl (by kernel_rfl) (by kernel_rfl) (by kernel_rfl) (fun _ _ _ h => h) (Or.inl ⟨by rfl, ?_⟩) (by assumption) ?_
                  rotate_left
                  · intro wq hSw
                    clear hSw
                    go_simp
                    try (with_reducible rfl)
                  refine wpAnyH_take (i := 5) (v := ?_) rfl (by kernel_rfl) (by kernel_rfl) (by kernel_rfl) (fun _ _ _ h => h) (Or.inl ⟨by rfl, ?_⟩) (by assumption) ?_
                  rotate_left
                  · intro wq hSw
                    obtain ⟨_, z0, _⟩ := HD.out wq hSw
                    clear hSw
                    go_simp
                    try (with_reducible rfl)
                  refine wpAnyH_take (i := 6) (v := ?_) rfl (by kernel_rfl) (by kernel_rfl) (by kernel_rfl) (fun _ _ _ h => h) (Or.inl ⟨by rfl, ?_⟩) (by assumption) ?_
                  rotate_left
                  · intro wq hSw
                    clear hSw
                    go_simp
                    try (with_reducible rfl)
                  refine wpAnyH_take (i := 7) (v := ?_) rfl (by kernel_rfl) (by kernel_rfl) (by kernel_rfl) (fun _ _ _ h => h) (Or.inl ⟨by rfl, ?_⟩) (by assumption) ?_
                  rotate_left
                  · intro wq hSw
                    obtain ⟨_, _, z0⟩ := HD.out wq hSw
                    clear hSw
                    go_simp
                    try (with_reducible rfl)
                  refine wpAnyH_ready (rs := [8]) (by kernel_rfl) (by simp) ?_
                  have hru := HRu.out
                  refine AllReadyH.cons (i := 8) rfl ?_ AllReadyH.nil
                  go_simp
                  clear hru
                  intro K hK
                  refine hK.out _ _ HFn.out (fun _ => ?_)
                  clear hK K hHeld
                  refine wpAnyH_done (by kernel_rfl) ?_ _
                  clear HRu HFn HD
                  go_wp2_with fail
                  refine HE.out.mono ?_
                  rintro e w10 ⟨⟨x, rfl⟩, ham, hfr, _⟩
                  have hFz : Fr (fun j => FlB P O M ob j ∨ B ≤ j) w w10 := HF9.out.trans (hfr.mono fun k _ hk => by rcases hk with hk | hk; exact .inl (.inr (.inr (.inr hk))); exact .inr (by omega))
                  have hTk : TkR (s.tick now) f p r now n true (n + 1) (((s.tick now).free p r.origin).oweL (upL ((s.tick now).free p r.origin) p 24) r.origin now) f' ([] ++ (upL ((s.tick now).free p r.origin) p 24).map (fun q => (q, rOf (f' r.origin)))) := .inr (.inr (.inr ⟨Hnw.out, Hse.out, rfl, rfl, rfl, Hf'.out, rfl⟩))
                  clear hfr HE HA9 HX9 HY9 HF9
                  obtain ⟨L, htl, hsl⟩ := ham.t
                  have HTo := hidIn (told_any htl)
                  have HO : Hid (∀ u, w10.ownsRow (B + 3) 81 7 u L.length (fl sdc L) → TakeAns w w10 P O S M n s f ob p r now (.returned (.tuple #[.bool true, u, .int .i64 0]))) := hidIn fun u hu => by
                    refine .inr (.inr ⟨Hot.out, Hok.out, Htk.out, Hup.out, true, u, _, _, _, _, rfl, ham.f, ⟨L, row_low hu (by have := HwB.out; omega), hsl, fun x hx => ?_⟩, hFz.mono (fun k hk h => by rcases h with h | h; exact h; have := HwB.out; omega), hTk⟩)
                    obtain ⟨a, c, e1, e2, e3, e4⟩ := htl.r x hx
                    exact ⟨a, c, e1, e2, e3, fun q hq => by obtain ⟨g, e5, e6, e7⟩ := e4 q hq; exact ⟨g, e5, by have := HwB.out; rw [← HBB.out] at this; omega, e7⟩⟩
                  clear ham htl hsl hFz hTk
                  go_wp2_with fail
                  refine HTo.out.mono ?_
                  rintro e w11 ⟨⟨u, rfl, hu⟩, h11⟩
                  rw [h11]
                  have HA := hidIn (HO.out u hu)
                  obtain ⟨va, vc, rfl⟩ := row_shape hu
                  clear hu HTo HO h11
                  go_wp2_with fail
                  go_returns
                  exact HA.out
    · have hck : ckN r = 2 := by unfold ckN; rw [if_neg hok]
      have HO : Hid (TakeAns w w2 P O S M n s f ob p r now (.returned (.tuple #[.bool false, .slice none 0 0, .int .i64 2]))) := hidIn (.inl ⟨.inr (.inl (by simpa using hok)), rfl, HB2.out⟩)
      rw [hck]
      clear hck hok
      go_wp2_with fail
      go_returns
      exact HO.out
end Go.Proofs.Yteaaoipipjkgnaa
namespace Go.Proofs.Yteaaoipipjkgnaa
open Go.RowKit Go.Maps

/-- A block of cells that is no flood's is none that a call turns. -/
theorem FlAt.noB {w : World} {P O S M n : Nat} {s : Fp} {f : Sf} {ob : Int → Option Nat} (h : FlAt w P O S M n s f ob) {j : Nat} {cs : Array Value} {t : TypeId} (hj : w.heap[j]? = some (Obj.cells cs t)) (ht : t ≠ 91) : ¬ FlB P O M ob j := by
  have hm : ∀ B, (∃ es cl, w.heap[B]? = some (Obj.map es cl)) → j ≠ B := fun B hB e => by
    obtain ⟨es, cl, hb⟩ := hB
    rw [← e, hj] at hb
    cases hb
  rintro (e | e | e | ⟨k, e⟩)
  · rw [e, h.p] at hj
    simp only [Option.some.injEq, Obj.cells.injEq] at hj
    exact ht hj.2.1.symm
  · exact hm O h.o.isMap e
  · exact hm M h.st.m.isMap e
  · obtain ⟨d, _, h2⟩ := h.i k j e
    exact hm j h2.isMap rfl
theorem SndAns.call {w0 w w' : World} {P O S M n : Nat} {s : Fp} {f : Sf} {ob : Int → Option Nat} {T : List (Int × Rc)} {u : Value} (h : SndAns w0 w T u) (hf : FlAt w P O S M n s f ob) (hF : Fr (FlB P O M ob) w w') : SndAns w0 w' T u := by
  obtain ⟨L, h1, h2, h3⟩ := h
  refine ⟨L, row_fr h1 hF (fun j hj => ?_), h2, fun x hx => (h3 x hx).fr hF (fun g cur hg => hf.noB hg (by decide))⟩
  obtain ⟨cur, hc⟩ := rowTy h1 hj
  exact hf.noB hc (by decide)
theorem SndAns.keep {w0 w w' : World} {T : List (Int × Rc)} {u : Value} (h : SndAns w0 w T u) (hb : Below w.heap.size w w') : SndAns w0 w' T u := by
  obtain ⟨L, h1, h2, h3⟩ := h
  exact ⟨L, row_below h1 hb (Nat.le_refl _), h2, fun x hx => (h3 x hx).keep hb⟩
theorem SndAns.shape {w0 w : World} {T : List (Int × Rc)} {u : Value} (h : SndAns w0 w T u) : ∃ a c, u = .slice a T.length c := by
  obtain ⟨L, h1, h2, _⟩ := h
  obtain ⟨a, c, e⟩ := row_shape h1
  exact ⟨a, c, by rw [← h2, sdl_len]; exact e⟩
set_option maxRecDepth 100000 in
theorem lrec_any (o e q : Int) (w : World) : Calls Try.prog 26 #[.int .i64 o, .int .u32 e, .int .u32 q] w fun r w' => r = .returned (.agg #[.int .i64 o, .int .u32 e, .int .u32 q, .int .i64 0, .bool false, .slice none 0 0]) ∧ Below w.heap.size w w' := by
  obtain ⟨W1, hW1⟩ : ∃ W1, w.alloc (.cells #[.int .i64 0, .int .u32 0, .int .u32 0, .int .i64 0, .bool false, .slice none 0 0] 38) = W1 := ⟨_, rfl⟩
  have b1 : Below w.heap.size w W1 := by rw [← hW1]; exact (Below.refl _ w).alloc (Nat.le_refl _) _
  have hz : W1.heap[w.heap.size]? = some (.cells #[.int .i64 0, .int .u32 0, .int .u32 0, .int .i64 0, .bool false, .slice none 0 0] 38) := by rw [← hW1]; exact heap_alloc_last w _
  obtain ⟨b6, hb6⟩ : ∃ b6, w.heap.size = b6 := ⟨_, rfl⟩
  have hb6l : w.heap.size ≤ b6 := Nat.le_of_eq hb6
  rw [hb6] at hz
  have z0 := cell_of_row _ _ 0 _ _ _ hz
  have z1 := cell_of_row _ _ 1 _ _ _ hz
  have z2 := cell_of_row _ _ 2 _ _ _ hz
  have z3 := cell_of_row _ _ 3 _ _ _ hz
  have z4 := cell_of_row _ _ 4 _ _ _ hz
  have z5 := cell_of_row _ _ 5 _ _ _ hz
  have y0 := frozen_new hz 0
  have y1 := frozen_new hz 1
  have y2 := frozen_new hz 2
  have y3 := frozen_new hz 3
  have y4 := frozen_new hz 4
  have y5 := frozen_new hz 5
  simp at z0 z1 z2 z3 z4 z5
  have HW := hidIn hW1
  have HB1 := hidIn b1
  have Hz := hidIn hz
  have Hl := hidIn hb6l
  clear hW1 b1 hz hb6l
  go_enter Try.func26, Try.ntmps26
  go_upto_region 1 with fail
  rw [HW.out]
  clear HW hb6
  go_wp2_with fail
  have hset := set6 (.int .i64 o) (.int .u32 e) (.int .u32 q) (.int .i64 0) (.bool false) (.slice none 0 0) Hz.out
  have hbs := (((((HB1.out.setCell (p := ⟨b6, 0, none⟩) Hl.out (.int .i64 o)).setCell (p := ⟨b6, 1, none⟩) Hl.out (.int .u32 e)).setCell (p := ⟨b6, 2, none⟩) Hl.out (.int .u32 q)).setCell (p := ⟨b6, 3, none⟩) Hl.out (.int .i64 0)).setCell (p := ⟨b6, 4, none⟩) Hl.out (.bool false)).setCell (p := ⟨b6, 5, none⟩) Hl.out (.slice none 0 0)
  generalize (((((World.setCell _ _ _).setCell _ _).setCell _ _).setCell _ _).setCell _ _).setCell _ _ = Z at hset hbs ⊢
  clear z0 z1 z2 z3 z4 z5 y0 y1 y2 y3 y4 y5
  have e0 := cell_of_row _ _ 0 _ _ _ hset
  have e1 := cell_of_row _ _ 1 _ _ _ hset
  have e2 := cell_of_row _ _ 2 _ _ _ hset
  have e3 := cell_of_row _ _ 3 _ _ _ hset
  have e4 := cell_of_row _ _ 4 _ _ _ hset
  have e5 := cell_of_row _ _ 5 _ _ _ hset
  simp at e0 e1 e2 e3 e4 e5
  exact bodyPost_ret (v := .agg #[.int .i64 o, .int .u32 e, .int .u32 q, .int .i64 0, .bool false, .slice none 0 0]) (by simp [results, Try.results26, asAddr, Result.andThen, go_sem, e0, e1, e2, e3, e4, e5]) rfl ⟨rfl, hbs⟩
set_option maxRecDepth 100000 in
set_option maxHeartbeats 2000000 in
theorem is_yes {w0 w : World} {u : Value} {tt : Int} {r : Rc} {ra : Option Addr} {rc : Nat} (h : SndAns w0 w [(tt, r)] u) (hv : SlAt ac 2 w (.slice ra r.adjs.length rc) r.adjs) :
    Calls Try.prog 27 #[u, .int .i64 tt, recV r (.slice ra r.adjs.length rc)] w fun e w' => e = .returned (.bool true) ∧ Below w.heap.size w w' := by
  obtain ⟨L, h1, h2, h3⟩ := h
  obtain ⟨⟨t', r', v'⟩, rfl⟩ : ∃ x, L = [x] := by
    have : L.length = 1 := by have := congrArg List.length h2; rw [sdl_len] at this; exact this
    match L, this with
    | [x], _ => exact ⟨x, rfl⟩
  simp only [sdl, List.map_cons, List.map_nil, List.cons.injEq, Prod.mk.injEq, and_true] at h2
  obtain ⟨rfl, rfl⟩ := h2
  have hfr := h3 _ (List.mem_singleton.2 rfl)
  obtain ⟨va, vc, e1, e2, _, _⟩ := hfr
  simp only at e1 e2
  subst e1
  obtain ⟨a, cap, hu, _, _, hcell⟩ := slAt_of_row (cs := sdc) (fun _ => rfl) h1 rfl
  obtain ⟨bk, o, rfl, hbk, hc⟩ := hcell (by simp)
  subst hu
  have c0 := hc 0 _ rfl 0 _ rfl
  have c1 := hc 0 _ rfl 1 _ rfl
  have c2 := hc 0 _ rfl 2 _ rfl
  have c3 := hc 0 _ rfl 3 _ rfl
  have c4 := hc 0 _ rfl 4 _ rfl
  have c5 := hc 0 _ rfl 5 _ rfl
  have c6 := hc 0 _ rfl 6 _ rfl
  simp only [Nat.zero_mul, Nat.add_zero] at c0 c1 c2 c3 c4 c5 c6
  obtain ⟨W1, hW1⟩ : ∃ W1, w.alloc (recO r' (.slice ra r'.adjs.length rc)) = W1 := ⟨_, rfl⟩
  have b1 : Below w.heap.size w W1 := by rw [← hW1]; exact (Below.refl _ w).alloc (Nat.le_refl _) _
  have hX : W1.heap[w.heap.size]? = some (recO r' (.slice ra r'.adjs.length rc)) := by rw [← hW1]; exact heap_alloc_last w _
  have HSm : Hid (∀ dd os, Calls Try.prog 28 #[recV r' (.slice va r'.adjs.length vc), recV r' (.slice ra r'.adjs.length rc)] (Go.Sort.grow (redrawn W1 dd) os) fun e w' => e = .returned (.bool true) ∧ Below (Go.Sort.grow (redrawn W1 dd) os).heap.size (Go.Sort.grow (redrawn W1 dd) os) w') := hidIn fun dd os => by
    have hbb := b1.trans ((below_regrown W1 dd os).mono b1.size)
    have := recSame_any (e2.keep hbb (Nat.le_refl _)) (hv.keep hbb (Nat.le_refl _))
    rwa [show sameB r' r' = true by simp [sameB]] at this
  obtain ⟨ro, re, rq, rcl, ri, rl⟩ := r'
  simp only at HSm hX hW1 c1 c2 c3 c4 c5 c6 ⊢
  generalize rl.length = rn at HSm hX hW1 c6 ⊢
  replace c0 := (b1.cell (p := ⟨bk, o, none⟩) hbk).trans c0
  replace c1 := (b1.cell (p := ⟨bk, o + 1, none⟩) hbk).trans c1
  replace c2 := (b1.cell (p := ⟨bk, o + 2, none⟩) hbk).trans c2
  replace c3 := (b1.cell (p := ⟨bk, o + 3, none⟩) hbk).trans c3
  replace c4 := (b1.cell (p := ⟨bk, o + 4, none⟩) hbk).trans c4
  replace c5 := (b1.cell (p := ⟨bk, o + 5, none⟩) hbk).trans c5
  replace c6 := (b1.cell (p := ⟨bk, o + 6, none⟩) hbk).trans c6
  obtain ⟨b5, hb5⟩ : ∃ b5, w.heap.size = b5 := ⟨_, rfl⟩
  rw [hb5] at hX
  have x0 := cell_of_row _ _ 0 _ _ _ hX
  have x1 := cell_of_row _ _ 1 _ _ _ hX
  have x2 := cell_of_row _ _ 2 _ _ _ hX
  have x3 := cell_of_row _ _ 3 _ _ _ hX
  have x4 := cell_of_row _ _ 4 _ _ _ hX
  have x5 := cell_of_row _ _ 5 _ _ _ hX
  simp at x0 x1 x2 x3 x4 x5
  have k0 := cell_regrown c0
  have k1 := cell_regrown c1
  have k2 := cell_regrown c2
  have k3 := cell_regrown c3
  have k4 := cell_regrown c4
  have k5 := cell_regrown c5
  have k6 := cell_regrown c6
  have y0 := cell_regrown x0
  have y1 := cell_regrown x1
  have y2 := cell_regrown x2
  have y3 := cell_regrown x3
  have y4 := cell_regrown x4
  have y5 := cell_regrown x5
  have HW := hidIn hW1
  have HB1 := hidIn b1
  clear hW1 b1 hX h1 h3 hv e2 hcell hc hbk
  go_enter Try.func27, Try.ntmps27
  go_upto_region 1 with fail
  rw [show w.alloc _ = W1 from HW.out]
  clear HW hb5
  refine wp_region_quiet_below (by kernel_rfl) (by kernel_rfl) ?_
  repeat (go_big_quiet_step (first
    | (go_at_call 28; exact Calls.regrown_of (HSm.out _ _))))
  refine wpQuiet_nil ?_
  rintro _ ⟨⟨dq, osq⟩, rfl⟩
  have hbr := below_regrown W1 dq osq
  generalize Go.Sort.grow (redrawn W1 dq) osq = W2 at hbr ⊢
  have HO := hidIn (HB1.out.trans (hbr.mono HB1.out.size))
  clear hbr c0 c1 c2 c3 c4 c5 c6 k0 k1 k2 k3 k4 k5 k6 x0 x1 x2 x3 x4 x5 y0 y1 y2 y3 y4 y5
  go_wp2_with fail
  go_ret
  exact ⟨rfl, HO.out⟩
end Go.Proofs.Yteaaoipipjkgnaa
