/- To all ports but one. -/
import Derived.Test.YteaaoipipjkgnaaQ2
namespace Go.Proofs.Yteaaoipipjkgnaa
open Go.RowKit Go.Maps

def sdl (L : List (Int × Rc × Value)) : List (Int × Rc) := L.map fun x => (x.1, x.2.1)
theorem sdl_len (L : List (Int × Rc × Value)) : (sdl L).length = L.length := List.length_map _
/-- What has been told so far, without where it lies. -/
def TlP (w0 w : World) (B P : Nat) (now : Int) (T : List (Int × Rc)) : Prop := ∃ L, TlM w0 w B P now L ∧ sdl L = T
theorem TlP.keep {w0 w w' : World} {B P : Nat} {now : Int} {T : List (Int × Rc)} (h : TlP w0 w B P now T) (hb : Below w.heap.size w w') : TlP w0 w' B P now T := by
  obtain ⟨L, h1, h2⟩ := h
  exact ⟨L, h1.keep hb, h2⟩
/-- Amid a call: the flood, what has been told, and what else stands. -/
structure Amid (w0 w : World) (P O S M n : Nat) (s : Fp) (f : Sf) (ob : Int → Option Nat) (B : Nat) (now : Int) (T : List (Int × Rc)) : Prop where
  f : FlAt w P O S M n s f ob
  t : TlP w0 w B P now T
  l : s.last = now
theorem Amid.keep {w0 w w' : World} {P O S M n : Nat} {s : Fp} {f : Sf} {ob : Int → Option Nat} {B : Nat} {now : Int} {T : List (Int × Rc)} (h : Amid w0 w P O S M n s f ob B now T) (hb : Below w.heap.size w w') : Amid w0 w' P O S M n s f ob B now T := ⟨h.f.keep hb, h.t.keep hb, h.l⟩
/-- What a call may touch. -/
abbrev TchF (ob : Int → Option Nat) (B : Nat) : Nat → Prop := fun j => (∃ k, ob k = some j) ∨ B + 2 ≤ j
theorem owe_amid {P O S M n : Nat} {s : Fp} {f : Sf} {ob : Int → Option Nat} {w0 w : World} {B : Nat} {now : Int} {T : List (Int × Rc)} (h : Amid w0 w P O S M n s f ob B now T) {p o : Int} (hp : (s.ow p).isSome = true) (ho : 1 ≤ o ∧ o ≤ 24) (hL : T.length ≤ 1000000) :
    Calls Try.prog 79 #[.int .i64 p, .int .i64 o, ptr (B + 1), ptr B, ptr (B + 2)] w fun e w' => (∃ x, e = .returned x) ∧ Amid w0 w' P O S M n (s.owe p o now) f ob B now (T ++ [(p, rOf (f o))]) ∧ Fr (TchF ob B) w w' ∧ OwFr B w w' := by
  obtain ⟨L, h1, h2⟩ := h.t
  refine (owe_any h.f h1 hp ho h.l (by rw [← sdl_len, h2]; exact hL)).mono ?_
  rintro e w' ⟨hx, h3, ⟨v, h4⟩, h5, h6⟩
  exact ⟨hx, ⟨h3, ⟨_, h4, by unfold sdl at h2 ⊢; rw [List.map_append, h2]; rfl⟩, h.l⟩, h5, h6⟩
theorem owe_up (s : Fp) (p o now k : Int) : ((s.owe p o now).ow k).isSome = (s.ow k).isSome := by
  unfold Fp.owe
  by_cases h : k = p
  · subst h
    simp
  · simp [h]
/-- The ports that are up, but one. -/
def upL (s : Fp) (left : Int) (n : Nat) : List Int := (List.range n).filterMap fun (i : Nat) => if (s.ow ((i : Int) + 1)).isSome = true ∧ (i : Int) + 1 ≠ left then some ((i : Int) + 1) else none
theorem upL_succ (s : Fp) (left : Int) (n : Nat) : upL s left (n + 1) = upL s left n ++ (if (s.ow ((n : Int) + 1)).isSome = true ∧ (n : Int) + 1 ≠ left then [(n : Int) + 1] else []) := by
  unfold upL
  rw [List.range_succ, List.filterMap_append]
  by_cases h : (s.ow ((n : Int) + 1)).isSome = true ∧ (n : Int) + 1 ≠ left
  · simp [h.1, h.2]
  · rw [if_neg h]
    simp only [List.filterMap_cons, if_neg h, List.filterMap_nil]
theorem upL_len (s : Fp) (left : Int) (n : Nat) : (upL s left n).length ≤ n := by
  unfold upL
  exact Nat.le_trans (List.length_filterMap_le _ _) (by simp)
def Fp.oweL (s : Fp) (ps : List Int) (o now : Int) : Fp := ps.foldl (fun s p => s.owe p o now) s
theorem oweL_snoc (s : Fp) (ps : List Int) (p o now : Int) : s.oweL (ps ++ [p]) o now = (s.oweL ps o now).owe p o now := by unfold Fp.oweL; rw [List.foldl_append]; rfl
theorem oweL_up (s : Fp) (o now k : Int) : ∀ ps : List Int, ((s.oweL ps o now).ow k).isSome = (s.ow k).isSome := by
  intro ps
  induction ps generalizing s with
  | nil => rfl
  | cons p ps ih =>
    show (((s.owe p o now).oweL ps o now).ow k).isSome = _
    rw [ih, owe_up]
theorem oweL_self (s : Fp) (o now : Int) : ∀ ps : List Int, (s.oweL ps o now).self = s.self := by
  intro ps
  induction ps generalizing s with
  | nil => rfl
  | cons p ps ih =>
    show ((s.owe p o now).oweL ps o now).self = _
    rw [ih]
    rfl
set_option maxRecDepth 100000 in
set_option maxHeartbeats 1000000 in
theorem own1_any {P O S M n : Nat} {s : Fp} {f : Sf} {ob : Int → Option Nat} {w0 w : World} {B : Nat} {now : Int} {T : List (Int × Rc)} (h : Amid w0 w P O S M n s f ob B now T) {p o : Int} {bo bf : Nat} (hbo : w.heap[bo]? = some (.cells #[oweF B] 105)) (hbf : w.heap[bf]? = some (.cells #[ptr P] 26)) (ho : s.self = o) (hp : (s.ow p).isSome = true) (hL : T.length ≤ 1000000) :
    Calls Try.prog 51 #[.int .i64 p, ptr bo, ptr bf] w fun e w' => (∃ x, e = .returned x) ∧ Amid w0 w' P O S M n (s.owe p o now) f ob B now (T ++ [(p, rOf (f o))]) ∧ Fr (TchF ob B) w w' ∧ OwFr B w w' := by
  have x0 := cell_of_row _ _ 0 _ _ _ hbo
  simp at x0
  have x1 := cell_of_row _ _ 0 _ _ _ hbf
  have x2 := cell_of_row _ _ 0 _ _ _ h.f.p
  simp at x1 x2
  rw [ho] at x2
  have HO := hidIn (owe_amid (h.keep (Below.refl _ w).drew) (o := o) hp (by rw [← ho]; exact h.f.ok.se) hL)
  clear h hbo hbf ho hL hp
  go_enter Try.func51, Try.ntmps51
  go_upto_region 0 with fail
  go_region_with (go_at_call 79; refine HO.out.mono ?_; rintro e w2 ⟨⟨x, rfl⟩, h2⟩; have H2 := hidIn h2; clear HO h2 x0 x1 x2)
  all_goals go_returns
  all_goals exact ⟨⟨_, rfl⟩, H2.out.1, (Fr.of_below (Below.refl _ w).drew).trans H2.out.2.1, (OwFr.of_below (Below.refl _ w).drew).trans H2.out.2.2⟩
set_option maxRecDepth 100000 in
set_option maxHeartbeats 2000000 in
theorem own_each {P O S M n : Nat} {s : Fp} {f : Sf} {ob : Int → Option Nat} {w0 w : World} {B : Nat} {now : Int} {T : List (Int × Rc)} (h : Amid w0 w P O S M n s f ob B now T) {left o : Int} {bo bf : Nat} (hbo : w.heap[bo]? = some (.cells #[oweF B] 105)) (hbf : w.heap[bf]? = some (.cells #[ptr P] 26)) (ho : s.self = o) (hbb : bo ≠ B + 2 ∧ bf ≠ B + 2) (hL : T.length ≤ 900000) :
    Calls Try.prog 50 #[ptr P, .int .i64 left, .func (.func 51) #[] #[ptr bo, ptr bf]] w fun e w' => (∃ x, e = .returned x) ∧ Amid w0 w' P O S M n (s.oweL (upL s left 24) o now) f ob B now (T ++ (upL s left 24).map (fun p => (p, rOf (f o)))) ∧ Fr (TchF ob B) w w' ∧ OwFr B w w' := by
  have H := hidIn h
  have Hbo := hidIn hbo
  have Hbf := hidIn hbf
  have Ho := hidIn ho
  have Hbb := hidIn hbb
  have HL := hidIn hL
  clear h hbo hbf ho hbb hL
  go_enter Try.func50, Try.ntmps50
  go_wp2_with fail
  go_loopw [6] (fun q wr => ∃ i : Nat, i ≤ 24 ∧ q = .int .i64 ((i : Int) + 1) ∧ Hid (Amid w0 wr P O S M n (s.oweL (upL s left i) o now) f ob B now (T ++ (upL s left i).map (fun p => (p, rOf (f o)))) ∧ Fr (TchF ob B) w wr ∧ OwFr B w wr)) (fun q _ => 25 - (intOf q).toNat)
  case atStart => exact ⟨0, Nat.zero_le _, rfl, hidIn ⟨by simpa [upL, Fp.oweL] using H.out, Fr.refl _ _, OwFr.refl _ _⟩⟩
  case round =>
    obtain ⟨i, hi, rfl, HR⟩ := hrel
    by_cases hlt : i < 24
    · have hil : (i : Int) + 1 ≤ 24 := by omega
      have HU := hidIn (fup_any (k := (i : Int) + 1) HR.out.1.f (wf9 (by omega)))
      rw [oweL_up] at HU
      go_wp2_with fail
      refine HU.out.mono ?_
      rintro e w1 ⟨rfl, h1⟩
      rw [h1]
      clear HU h1 w1
      cases hup : (s.ow ((i : Int) + 1)).isSome with
      | false =>
        have HE : Hid (upL s left (i + 1) = upL s left i) := hidIn (by rw [upL_succ, if_neg (by rw [hup]; simp), List.append_nil])
        clear hup
        go_wp2_with fail
        go_roundw
        case rel => exact ⟨i + 1, by omega, by go_num, by rw [HE.out]; exact HR⟩
        case measure => simp [intOf]; omega
      | true =>
        by_cases hle : (i : Int) + 1 = left
        · have HE : Hid (upL s left (i + 1) = upL s left i) := hidIn (by rw [upL_succ, if_neg (by intro h; exact h.2 hle), List.append_nil])
          have hle' : (((i : Int) + 1) != left) = false := by simpa using hle
          clear hup
          go_wp2_with fail
          go_roundw
          case rel => exact ⟨i + 1, by omega, by go_num, by rw [HE.out]; exact HR⟩
          case measure => simp [intOf]; omega
        · have HE : Hid (upL s left (i + 1) = upL s left i ++ [(i : Int) + 1]) := hidIn (by rw [upL_succ, if_pos ⟨hup, hle⟩])
          have hle' : (((i : Int) + 1) != left) = true := by simpa using hle
          have HC := hidIn (own1_any (p := (i : Int) + 1) (o := o) HR.out.1 (HR.out.2.2 bo _ Hbo.out (by have := Hbb.out; omega) (by simp) (by simp)) (HR.out.2.2 bf _ Hbf.out (by have := Hbb.out; omega) (by simp) (by simp)) (by rw [oweL_self]; exact Ho.out) (by rw [oweL_up]; exact hup) (by rw [List.length_append, List.length_map]; have := upL_len s left i; have := HL.out; omega))
          clear hup
          go_wp2_with fail
          refine HC.out.mono ?_
          rintro e w2 ⟨⟨x, rfl⟩, h2, h3, h4⟩
          have HO : Hid (Amid w0 w2 P O S M n (s.oweL (upL s left (i + 1)) o now) f ob B now (T ++ (upL s left (i + 1)).map (fun p => (p, rOf (f o)))) ∧ Fr (TchF ob B) w w2 ∧ OwFr B w w2) := hidIn ⟨by rw [HE.out, oweL_snoc, List.map_append, ← List.append_assoc]; exact h2, HR.out.2.1.trans h3, HR.out.2.2.trans h4⟩
          clear HC h2 h3 h4 HR
          go_wp2_with fail
          go_roundw
          case rel => exact ⟨i + 1, by omega, by go_num, HO⟩
          case measure => simp [intOf]; omega
    · have hil : ¬ (i : Int) + 1 ≤ 24 := by omega
      obtain rfl : i = 24 := by omega
      go_wp2_with fail
      go_returns
      exact ⟨⟨_, rfl⟩, HR.out⟩
set_option maxRecDepth 100000 in
set_option maxHeartbeats 1000000 in
theorem outr1_any {P O S M n : Nat} {s : Fp} {f : Sf} {ob : Int → Option Nat} {w0 w : World} {B : Nat} {now : Int} {T : List (Int × Rc)} (h : Amid w0 w P O S M n s f ob B now T) {p o : Int} {bo bf : Nat} (hbo : w.heap[bo]? = some (.cells #[oweF B] 105)) (hbf : w.heap[bf]? = some (.cells #[ptr P] 26)) (ho : s.self = o) (hp : (s.ow p).isSome = true) (hL : T.length ≤ 1000000) :
    Calls Try.prog 81 #[.int .i64 p, ptr bo, ptr bf] w fun e w' => (∃ x, e = .returned x) ∧ Amid w0 w' P O S M n (s.owe p o now) f ob B now (T ++ [(p, rOf (f o))]) ∧ Fr (TchF ob B) w w' ∧ OwFr B w w' := by
  have x0 := cell_of_row _ _ 0 _ _ _ hbo
  simp at x0
  have x1 := cell_of_row _ _ 0 _ _ _ hbf
  have x2 := cell_of_row _ _ 0 _ _ _ h.f.p
  simp at x1 x2
  rw [ho] at x2
  have HO := hidIn (owe_amid (h.keep (Below.refl _ w).drew) (o := o) hp (by rw [← ho]; exact h.f.ok.se) hL)
  clear h hbo hbf ho hL hp
  go_enter Try.func81, Try.ntmps81
  go_upto_region 0 with fail
  go_region_with (go_at_call 79; refine HO.out.mono ?_; rintro e w2 ⟨⟨x, rfl⟩, h2⟩; have H2 := hidIn h2; clear HO h2 x0 x1 x2)
  all_goals go_returns
  all_goals exact ⟨⟨_, rfl⟩, H2.out.1, (Fr.of_below (Below.refl _ w).drew).trans H2.out.2.1, (OwFr.of_below (Below.refl _ w).drew).trans H2.out.2.2⟩
set_option maxRecDepth 100000 in
set_option maxHeartbeats 2000000 in
theorem outr_each {P O S M n : Nat} {s : Fp} {f : Sf} {ob : Int → Option Nat} {w0 w : World} {B : Nat} {now : Int} {T : List (Int × Rc)} (h : Amid w0 w P O S M n s f ob B now T) {left o : Int} {bo bf : Nat} (hbo : w.heap[bo]? = some (.cells #[oweF B] 105)) (hbf : w.heap[bf]? = some (.cells #[ptr P] 26)) (ho : s.self = o) (hbb : bo ≠ B + 2 ∧ bf ≠ B + 2) (hL : T.length ≤ 900000) :
    Calls Try.prog 50 #[ptr P, .int .i64 left, .func (.func 81) #[] #[ptr bo, ptr bf]] w fun e w' => (∃ x, e = .returned x) ∧ Amid w0 w' P O S M n (s.oweL (upL s left 24) o now) f ob B now (T ++ (upL s left 24).map (fun p => (p, rOf (f o)))) ∧ Fr (TchF ob B) w w' ∧ OwFr B w w' := by
  have H := hidIn h
  have Hbo := hidIn hbo
  have Hbf := hidIn hbf
  have Ho := hidIn ho
  have Hbb := hidIn hbb
  have HL := hidIn hL
  clear h hbo hbf ho hbb hL
  go_enter Try.func50, Try.ntmps50
  go_wp2_with fail
  go_loopw [6] (fun q wr => ∃ i : Nat, i ≤ 24 ∧ q = .int .i64 ((i : Int) + 1) ∧ Hid (Amid w0 wr P O S M n (s.oweL (upL s left i) o now) f ob B now (T ++ (upL s left i).map (fun p => (p, rOf (f o)))) ∧ Fr (TchF ob B) w wr ∧ OwFr B w wr)) (fun q _ => 25 - (intOf q).toNat)
  case atStart => exact ⟨0, Nat.zero_le _, rfl, hidIn ⟨by simpa [upL, Fp.oweL] using H.out, Fr.refl _ _, OwFr.refl _ _⟩⟩
  case round =>
    obtain ⟨i, hi, rfl, HR⟩ := hrel
    by_cases hlt : i < 24
    · have hil : (i : Int) + 1 ≤ 24 := by omega
      have HU := hidIn (fup_any (k := (i : Int) + 1) HR.out.1.f (wf9 (by omega)))
      rw [oweL_up] at HU
      go_wp2_with fail
      refine HU.out.mono ?_
      rintro e w1 ⟨rfl, h1⟩
      rw [h1]
      clear HU h1 w1
      cases hup : (s.ow ((i : Int) + 1)).isSome with
      | false =>
        have HE : Hid (upL s left (i + 1) = upL s left i) := hidIn (by rw [upL_succ, if_neg (by rw [hup]; simp), List.append_nil])
        clear hup
        go_wp2_with fail
        go_roundw
        case rel => exact ⟨i + 1, by omega, by go_num, by rw [HE.out]; exact HR⟩
        case measure => simp [intOf]; omega
      | true =>
        by_cases hle : (i : Int) + 1 = left
        · have HE : Hid (upL s left (i + 1) = upL s left i) := hidIn (by rw [upL_succ, if_neg (by intro h; exact h.2 hle), List.append_nil])
          have hle' : (((i : Int) + 1) != left) = false := by simpa using hle
          clear hup
          go_wp2_with fail
          go_roundw
          case rel => exact ⟨i + 1, by omega, by go_num, by rw [HE.out]; exact HR⟩
          case measure => simp [intOf]; omega
        · have HE : Hid (upL s left (i + 1) = upL s left i ++ [(i : Int) + 1]) := hidIn (by rw [upL_succ, if_pos ⟨hup, hle⟩])
          have hle' : (((i : Int) + 1) != left) = true := by simpa using hle
          have HC := hidIn (outr1_any (p := (i : Int) + 1) (o := o) HR.out.1 (HR.out.2.2 bo _ Hbo.out (by have := Hbb.out; omega) (by simp) (by simp)) (HR.out.2.2 bf _ Hbf.out (by have := Hbb.out; omega) (by simp) (by simp)) (by rw [oweL_self]; exact Ho.out) (by rw [oweL_up]; exact hup) (by rw [List.length_append, List.length_map]; have := upL_len s left i; have := HL.out; omega))
          clear hup
          go_wp2_with fail
          refine HC.out.mono ?_
          rintro e w2 ⟨⟨x, rfl⟩, h2, h3, h4⟩
          have HO : Hid (Amid w0 w2 P O S M n (s.oweL (upL s left (i + 1)) o now) f ob B now (T ++ (upL s left (i + 1)).map (fun p => (p, rOf (f o)))) ∧ Fr (TchF ob B) w w2 ∧ OwFr B w w2) := hidIn ⟨by rw [HE.out, oweL_snoc, List.map_append, ← List.append_assoc]; exact h2, HR.out.2.1.trans h3, HR.out.2.2.trans h4⟩
          clear HC h2 h3 h4 HR
          go_wp2_with fail
          go_roundw
          case rel => exact ⟨i + 1, by omega, by go_num, HO⟩
          case measure => simp [intOf]; omega
    · have hil : ¬ (i : Int) + 1 ≤ 24 := by omega
      obtain rfl : i = 24 := by omega
      go_wp2_with fail
      go_returns
      exact ⟨⟨_, rfl⟩, HR.out⟩
set_option maxRecDepth 100000 in
set_option maxHeartbeats 1000000 in
theorem take1_any {P O S M n : Nat} {s : Fp} {f : Sf} {ob : Int → Option Nat} {w0 w : World} {B : Nat} {now : Int} {T : List (Int × Rc)} (h : Amid w0 w P O S M n s f ob B now T) {p o : Int} {bo bf : Nat} (hbo : w.heap[bo]? = some (.cells #[oweF B] 105)) (hbf : w.cell? ⟨bf, 0, none⟩ = some (.int .i64 o)) (ho : 1 ≤ o ∧ o ≤ 24) (hp : (s.ow p).isSome = true) (hL : T.length ≤ 1000000) :
    Calls Try.prog 57 #[.int .i64 p, ptr bo, ptr bf] w fun e w' => (∃ x, e = .returned x) ∧ Amid w0 w' P O S M n (s.owe p o now) f ob B now (T ++ [(p, rOf (f o))]) ∧ Fr (TchF ob B) w w' ∧ OwFr B w w' := by
  have x0 := cell_of_row _ _ 0 _ _ _ hbo
  simp at x0
  have HO := hidIn (owe_amid h hp ho hL)
  clear h hbo ho hL hp
  go_enter Try.func57, Try.ntmps57
  go_wp2_with fail
  refine HO.out.mono ?_
  rintro e w2 ⟨⟨x, rfl⟩, h2⟩
  have H2 := hidIn h2
  clear HO h2
  go_wp2_with fail
  go_returns
  exact ⟨⟨_, rfl⟩, H2.out⟩
set_option maxRecDepth 100000 in
set_option maxHeartbeats 2000000 in
theorem take_each {P O S M n : Nat} {s : Fp} {f : Sf} {ob : Int → Option Nat} {w0 w : World} {B : Nat} {now : Int} {T : List (Int × Rc)} (h : Amid w0 w P O S M n s f ob B now T) {left o : Int} {bo bf : Nat} (hbo : w.heap[bo]? = some (.cells #[oweF B] 105)) {ro : Array Value} (hbf : w.heap[bf]? = some (.cells ro 38)) (hro : ro[0]? = some (.int .i64 o)) (ho : 1 ≤ o ∧ o ≤ 24) (hbb : bo ≠ B + 2 ∧ bf ≠ B + 2) (hL : T.length ≤ 900000) :
    Calls Try.prog 50 #[ptr P, .int .i64 left, .func (.func 57) #[] #[ptr bo, ptr bf]] w fun e w' => (∃ x, e = .returned x) ∧ Amid w0 w' P O S M n (s.oweL (upL s left 24) o now) f ob B now (T ++ (upL s left 24).map (fun p => (p, rOf (f o)))) ∧ Fr (TchF ob B) w w' ∧ OwFr B w w' := by
  have H := hidIn h
  have Hbo := hidIn hbo
  have Hbf := hidIn hbf
  have Ho := hidIn ho
  have Hbb := hidIn hbb
  have HL := hidIn hL
  have Hro := hidIn hro
  clear hro
  clear h hbo hbf ho hbb hL
  go_enter Try.func50, Try.ntmps50
  go_wp2_with fail
  go_loopw [6] (fun q wr => ∃ i : Nat, i ≤ 24 ∧ q = .int .i64 ((i : Int) + 1) ∧ Hid (Amid w0 wr P O S M n (s.oweL (upL s left i) o now) f ob B now (T ++ (upL s left i).map (fun p => (p, rOf (f o)))) ∧ Fr (TchF ob B) w wr ∧ OwFr B w wr)) (fun q _ => 25 - (intOf q).toNat)
  case atStart => exact ⟨0, Nat.zero_le _, rfl, hidIn ⟨by simpa [upL, Fp.oweL] using H.out, Fr.refl _ _, OwFr.refl _ _⟩⟩
  case round =>
    obtain ⟨i, hi, rfl, HR⟩ := hrel
    by_cases hlt : i < 24
    · have hil : (i : Int) + 1 ≤ 24 := by omega
      have HU := hidIn (fup_any (k := (i : Int) + 1) HR.out.1.f (wf9 (by omega)))
      rw [oweL_up] at HU
      go_wp2_with fail
      refine HU.out.mono ?_
      rintro e w1 ⟨rfl, h1⟩
      rw [h1]
      clear HU h1 w1
      cases hup : (s.ow ((i : Int) + 1)).isSome with
      | false =>
        have HE : Hid (upL s left (i + 1) = upL s left i) := hidIn (by rw [upL_succ, if_neg (by rw [hup]; simp), List.append_nil])
        clear hup
        go_wp2_with fail
        go_roundw
        case rel => exact ⟨i + 1, by omega, by go_num, by rw [HE.out]; exact HR⟩
        case measure => simp [intOf]; omega
      | true =>
        by_cases hle : (i : Int) + 1 = left
        · have HE : Hid (upL s left (i + 1) = upL s left i) := hidIn (by rw [upL_succ, if_neg (by intro h; exact h.2 hle), List.append_nil])
          have hle' : (((i : Int) + 1) != left) = false := by simpa using hle
          clear hup
          go_wp2_with fail
          go_roundw
          case rel => exact ⟨i + 1, by omega, by go_num, by rw [HE.out]; exact HR⟩
          case measure => simp [intOf]; omega
        · have HE : Hid (upL s left (i + 1) = upL s left i ++ [(i : Int) + 1]) := hidIn (by rw [upL_succ, if_pos ⟨hup, hle⟩])
          have hle' : (((i : Int) + 1) != left) = true := by simpa using hle
          have HC := hidIn (take1_any (p := (i : Int) + 1) (o := o) HR.out.1 (HR.out.2.2 bo _ Hbo.out (by have := Hbb.out; omega) (by simp) (by simp)) (by rw [cell_of_row _ _ _ _ _ (0, 0) (HR.out.2.2 bf _ Hbf.out (by have := Hbb.out; omega) (by simp) (by simp))]; exact Hro.out) Ho.out (by rw [oweL_up]; exact hup) (by rw [List.length_append, List.length_map]; have := upL_len s left i; have := HL.out; omega))
          clear hup
          go_wp2_with fail
          refine HC.out.mono ?_
          rintro e w2 ⟨⟨x, rfl⟩, h2, h3, h4⟩
          have HO : Hid (Amid w0 w2 P O S M n (s.oweL (upL s left (i + 1)) o now) f ob B now (T ++ (upL s left (i + 1)).map (fun p => (p, rOf (f o)))) ∧ Fr (TchF ob B) w w2 ∧ OwFr B w w2) := hidIn ⟨by rw [HE.out, oweL_snoc, List.map_append, ← List.append_assoc]; exact h2, HR.out.2.1.trans h3, HR.out.2.2.trans h4⟩
          clear HC h2 h3 h4 HR
          go_wp2_with fail
          go_roundw
          case rel => exact ⟨i + 1, by omega, by go_num, HO⟩
          case measure => simp [intOf]; omega
    · have hil : ¬ (i : Int) + 1 ≤ 24 := by omega
      obtain rfl : i = 24 := by omega
      go_wp2_with fail
      go_returns
      exact ⟨⟨_, rfl⟩, HR.out⟩
end Go.Proofs.Yteaaoipipjkgnaa
