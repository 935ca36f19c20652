/- The document's Number and Text. -/
import Derived.Test.YtjpnbjfomikhaaaDoorRU
import Derived.Deep.RegionHeld
import Derived.Deep.WholeRow
namespace Go.Proofs.YtjpnbjfomikhaaaDoor
open Go.RowKit

theorem conv_one {W : World} {g : Nat} {x : Int} (h0 : W.cell? ⟨g, 0, none⟩ = some (.int .u8 x)) : (convert 58 9 (.slice (some ⟨g, 0, none⟩) 1 1)).run Tryd.prog W = .ok (.string (strOfNums [x])) W :=
  run_convert_bytes_arg _ 58 5 Tryd.underlying58 Tryd.underlying5 g 0 1 1 [x] rfl (fun i hi => by
    have hi' : i < 1 := hi
    match i, hi' with
    | 0, _ => exact h0) 9 Tryd.underlying9
/-- Digits, as a string. -/
def dig (n : Nat) : ByteArray := ⟨(Lib.decDigits n).toArray⟩
theorem ba_ext {a b : ByteArray} (h : a.data.toList = b.data.toList) : a = b := by
  cases a; cases b; simp at h; simp [h]
theorem app_tl (a b : ByteArray) : (a ++ b).data.toList = a.data.toList ++ b.data.toList := by simp
theorem dig_low (n : Nat) (h : n < 10) : strOfNums [48 + (n : Int)] = dig n := by
  apply ba_ext
  rw [strOfNums_data]
  unfold dig
  rw [Lib.decDigits_one h]
  simp only [List.map_cons, List.map_nil]
  rw [show (48 + (n : Int)).toNat = 48 + n from by omega]
theorem dig_more (n : Nat) (h : 10 ≤ n) : dig (n / 10) ++ strOfNums [48 + ((n % 10 : Nat) : Int)] = dig n := by
  apply ba_ext
  have e : Lib.decDigits n = Lib.decDigits (n / 10) ++ [UInt8.ofNat (48 + n % 10)] := by rw [Lib.decDigits, dif_neg (by omega)]
  have h2 : (strOfNums [48 + ((n % 10 : Nat) : Int)]).data.toList = [UInt8.ofNat (48 + n % 10)] := by
    rw [strOfNums_data]
    simp only [List.map_cons, List.map_nil]
    rw [show (48 + ((n % 10 : Nat) : Int)).toNat = 48 + n % 10 from by omega]
  unfold dig
  rw [e, app_tl, h2]
theorem dec_len (n : Nat) : (Lib.decDigits n).length ≤ n + 1 := by
  induction n using Nat.strongRecOn with
  | ind n ih =>
    rw [Lib.decDigits]
    split
    · simp
    · have := ih (n / 10) (by omega)
      rw [List.length_append]
      simp
      omega
theorem dig_size (n : Nat) : (dig n).size ≤ n + 1 := by
  have := dec_len n
  show ((Lib.decDigits n).toArray).size ≤ n + 1
  simpa using this
set_option maxRecDepth 100000 in
set_option maxHeartbeats 400000 in
theorem number_low (n : Nat) (h : n < 10) (w : World) : Calls Tryd.prog 35 #[.int .i64 n] w fun e w' => e = .returned (.string (dig n)) ∧ Below w.heap.size w w' := by
  rw [← dig_low n h]
  have q1 : IntKind.u8.wrap (48 + (n : Int)) = 48 + (n : Int) := by rw [show IntKind.u8.wrap (48 + (n : Int)) = (48 + (n : Int)) % 256 from rfl]; omega
  have hcv := conv_one (W := w.alloc (.cells #[.int .u8 (48 + (n : Int))] 5)) (g := w.heap.size) (cell_of_row _ _ 0 _ _ _ (heap_alloc_last _ _))
  go_enter Tryd.func35, Tryd.ntmps35
  go_wp2
  go_ret
  exact ⟨rfl, by go_grown⟩
set_option maxRecDepth 100000 in
set_option maxHeartbeats 1000000 in
theorem number_more (n : Nat) (h : 10 ≤ n) (h2 : n ≤ 100000) (ih : ∀ w, Calls Tryd.prog 35 #[.int .i64 ((n / 10 : Nat) : Int)] w fun e w' => e = .returned (.string (dig (n / 10))) ∧ Below w.heap.size w w') (w : World) :
    Calls Tryd.prog 35 #[.int .i64 n] w fun e w' => e = .returned (.string (dig n)) ∧ Below w.heap.size w w' := by
  have HE := hidIn (dig_more n h)
  have HI := hidIn ih
  have hd : (dig (n / 10)).size ≤ 1000000 := by have := dig_size (n / 10); omega
  have hq : ((n : Int) / 10) = ((n / 10 : Nat) : Int) := by omega
  have hr : ((n : Int) % 10) = ((n % 10 : Nat) : Int) := by omega
  have hr9 : n % 10 < 10 := Nat.mod_lt _ (by decide)
  have hz1 : (strOfNums [48 + ((n % 10 : Nat) : Int)]).size = 1 := by rw [strOfNums_size]; rfl
  clear ih
  generalize dig n = D at HE ⊢
  generalize dig (n / 10) = d at HE HI hd
  generalize n / 10 = q at HI hq
  generalize n % 10 = r at HE hr hr9 hz1
  have hdd : ¬ (9223372036854775807 < d.size + 1) := by omega
  have q1 : IntKind.u8.wrap (48 + (r : Int)) = 48 + (r : Int) := by rw [show IntKind.u8.wrap (48 + (r : Int)) = (48 + (r : Int)) % 256 from rfl]; omega
  have q2 : IntKind.i64.wrap (48 + (r : Int)) = 48 + (r : Int) := by rw [IntKind.wrap_i64]; omega
  have q3 : IntKind.i64.wrap ((q : Int)) = (q : Int) := by rw [IntKind.wrap_i64]; omega
  have q4 : IntKind.i64.wrap ((r : Int)) = (r : Int) := by rw [IntKind.wrap_i64]; omega
  have q5 : (n : Int).tdiv 10 = (q : Int) := by rw [← hq]; exact Int.tdiv_eq_ediv_of_nonneg (by omega)
  have q6 : (n : Int).tmod 10 = (r : Int) := by rw [← hr]; exact Int.tmod_eq_emod_of_nonneg (by omega)
  have q0 : ¬ (n : Int) < 10 := by omega
  go_enter Tryd.func35, Tryd.ntmps35
  go_wp2_with fail
  refine wp_region_any (by kernel_rfl) ?_
  try (change wpAny _ _ _ _ _ _ _ (World.drew _))
  refine wpAny_take (i := 0) (v := ?_) rfl (by kernel_rfl) (by kernel_rfl) (by kernel_rfl) (fun _ _ _ h => h) (Or.inl ⟨by rfl, ?_⟩) ?_
  rotate_left
  · intro wq
    go_simp
    try (with_reducible rfl)
  refine wpAny_take (i := 1) (v := ?_) rfl (by kernel_rfl) (by kernel_rfl) (by kernel_rfl) (fun _ _ _ h => h) (Or.inl ⟨by rfl, ?_⟩) ?_
  rotate_left
  · intro wq
    go_simp
    try (with_reducible rfl)
  refine wpAny_take (i := 3) (v := ?_) rfl (by kernel_rfl) (by kernel_rfl) (by kernel_rfl) (fun _ _ _ h => h) (Or.inl ⟨by rfl, ?_⟩) ?_
  rotate_left
  · intro wq
    go_simp
    try (with_reducible rfl)
  refine wpAny_take (i := 4) (v := ?_) rfl (by kernel_rfl) (by kernel_rfl) (by kernel_rfl) (fun _ _ _ h => h) (Or.inl ⟨by rfl, ?_⟩) ?_
  rotate_left
  · intro wq
    go_simp
    try (with_reducible rfl)
  refine wpAny_take (i := 5) (v := ?_) rfl (by kernel_rfl) (by kernel_rfl) (by kernel_rfl) (fun _ _ _ h => h) (Or.inl ⟨by rfl, ?_⟩) ?_
  rotate_left
  · intro wq
    go_simp
    try (with_reducible rfl)
  refine wpAny_take (i := 6) (v := ?_) rfl (by kernel_rfl) (by kernel_rfl) (by kernel_rfl) (fun _ _ _ h => h) (Or.inl ⟨by rfl, ?_⟩) ?_
  rotate_left
  · intro wq
    go_simp
    try (with_reducible rfl)
  refine wpAny_ready (rs := [2, 7]) (by kernel_rfl) (by simp) ?_
  refine AllReady.cons rfl (fun K hK => ?_) ?_
  · skip
    go_simp
    refine (HI.out _).mono ?_
    rintro e w5 ⟨rfl, hb5⟩
    refine hK _ _ ?_
    clear hK K
    refine wpAny_ready (rs := [7]) (by kernel_rfl) (by simp) ?_
    refine AllReady.cons rfl (fun K hK => ?_) AllReady.nil
    go_simp
    refine hK _ _ ?_
    clear hK K
    have x0 : (w5.alloc (Obj.cells #[.int .u8 (48 + (r : Int))] 5)).cell? ⟨w5.heap.size, 0, none⟩ = some (.int .u8 (48 + (r : Int))) := cell_of_row _ _ 0 _ _ _ (heap_alloc_last _ _)
    have bA : Below w.heap.size w (w5.alloc (Obj.cells #[.int .u8 (48 + (r : Int))] 5)) := (Below.trans (Below.drew (Below.refl _ w)) hb5).alloc hb5.size _
    generalize World.alloc _ _ = V at x0 bA ⊢
    refine wpAny_ready (rs := [8]) (by kernel_rfl) (by simp) ?_
    refine AllReady.cons rfl (fun K hK => ?_) AllReady.nil
    have hcv := conv_one x0
    go_simp
    refine hK _ _ ?_
    clear hK K hcv
    refine wpAny_take (i := 9) (v := ?_) rfl (by kernel_rfl) (by kernel_rfl) (by kernel_rfl) (fun _ _ _ h => h) (Or.inl ⟨by rfl, ?_⟩) ?_
    rotate_left
    · intro wq
      go_simp
      try (with_reducible rfl)
    refine wpAny_take (i := 10) (v := ?_) rfl (by kernel_rfl) (by kernel_rfl) (by kernel_rfl) (fun _ _ _ h => h) (Or.inl ⟨by rfl, ?_⟩) ?_
    rotate_left
    · intro wq
      go_simp
      try (with_reducible rfl)
    refine wpAny_done (by kernel_rfl) ?_ _
    go_wp2
    go_ret
    exact ⟨by rw [← HE.out]; rfl, bA⟩
  · refine AllReady.cons rfl (fun K hK => ?_) AllReady.nil
    go_simp
    refine hK _ _ ?_
    clear hK K
    have x0 : ((w.alloc (Obj.cells #[.int .u8 (48 + (r : Int))] 5)).drew).cell? ⟨w.heap.size, 0, none⟩ = some (.int .u8 (48 + (r : Int))) := cell_of_row _ _ 0 _ _ _ (heap_alloc_last _ _)
    have bA : Below w.heap.size w (w.alloc (Obj.cells #[.int .u8 (48 + (r : Int))] 5)).drew := Below.drew ((Below.refl _ w).alloc (Nat.le_refl _) _)
    generalize World.drew (World.alloc _ _) = V at x0 bA ⊢
    refine wpAny_ready (rs := [2, 8]) (by kernel_rfl) (by simp) ?_
    refine AllReady.cons rfl (fun K hK => ?_) ?_
    · skip
      go_simp
      refine (HI.out _).mono ?_
      rintro e w5 ⟨rfl, hb5⟩
      refine hK _ _ ?_
      clear hK K
      replace x0 := (hb5.cell (p := ⟨w.heap.size, 0, none⟩) (block_lt_of_cell x0)).trans x0
      refine wpAny_ready (rs := [8]) (by kernel_rfl) (by simp) ?_
      refine AllReady.cons rfl (fun K hK => ?_) AllReady.nil
      have hcv := conv_one x0
      go_simp
      refine hK _ _ ?_
      clear hK K hcv
      refine wpAny_take (i := 9) (v := ?_) rfl (by kernel_rfl) (by kernel_rfl) (by kernel_rfl) (fun _ _ _ h => h) (Or.inl ⟨by rfl, ?_⟩) ?_
      rotate_left
      · intro wq
        go_simp
        try (with_reducible rfl)
      refine wpAny_take (i := 10) (v := ?_) rfl (by kernel_rfl) (by kernel_rfl) (by kernel_rfl) (fun _ _ _ h => h) (Or.inl ⟨by rfl, ?_⟩) ?_
      rotate_left
      · intro wq
        go_simp
        try (with_reducible rfl)
      refine wpAny_done (by kernel_rfl) ?_ _
      go_wp2
      go_ret
      exact ⟨by rw [← HE.out]; rfl, bA.trans (hb5.mono bA.size)⟩
    · refine AllReady.cons rfl (fun K hK => ?_) AllReady.nil
      have hcv := conv_one x0
      go_simp
      refine hK _ _ ?_
      clear hK K hcv
      refine wpAny_ready (rs := [2]) (by kernel_rfl) (by simp) ?_
      refine AllReady.cons rfl (fun K hK => ?_) AllReady.nil
      go_simp
      refine (HI.out _).mono ?_
      rintro e w5 ⟨rfl, hb5⟩
      refine hK _ _ ?_
      clear hK K
      refine wpAny_take (i := 9) (v := ?_) rfl (by kernel_rfl) (by kernel_rfl) (by kernel_rfl) (fun _ _ _ h => h) (Or.inl ⟨by rfl, ?_⟩) ?_
      rotate_left
      · intro wq
        go_simp
        try (with_reducible rfl)
      refine wpAny_take (i := 10) (v := ?_) rfl (by kernel_rfl) (by kernel_rfl) (by kernel_rfl) (fun _ _ _ h => h) (Or.inl ⟨by rfl, ?_⟩) ?_
      rotate_left
      · intro wq
        go_simp
        try (with_reducible rfl)
      refine wpAny_done (by kernel_rfl) ?_ _
      go_wp2
      go_ret
      exact ⟨by rw [← HE.out]; rfl, bA.trans (hb5.mono bA.size)⟩
theorem number_any (n : Nat) (h : n < 1000) (w : World) : Calls Tryd.prog 35 #[.int .i64 n] w fun e w' => e = .returned (.string (dig n)) ∧ Below w.heap.size w w' := by
  have one : ∀ n : Nat, n < 10 → ∀ w, Calls Tryd.prog 35 #[.int .i64 n] w fun e w' => e = .returned (.string (dig n)) ∧ Below w.heap.size w w' := fun n h w => number_low n h w
  have two : ∀ n : Nat, n < 100 → ∀ w, Calls Tryd.prog 35 #[.int .i64 n] w fun e w' => e = .returned (.string (dig n)) ∧ Below w.heap.size w w' := fun n h w => by
    by_cases h1 : n < 10
    · exact one n h1 w
    · exact number_more n (by omega) (by omega) (one (n / 10) (by omega)) w
  by_cases h1 : n < 10
  · exact one n h1 w
  · exact number_more n (by omega) (by omega) (two (n / 10) (by omega)) w
/-- The text of bits, as a string. -/
def tb (l : List Nat) : ByteArray := ⟨(txt l).toArray⟩
theorem tb_first (m : Nat) : (⟨#[]⟩ : ByteArray) ++ dig (m + 1) = tb [m] := by
  apply ba_ext
  unfold tb txt dig
  rw [List.map_cons, List.map_nil, Lib.join_one]
  simp [num]
theorem join_snoc (xs : List (List UInt8)) (h : xs ≠ []) (x sep : List UInt8) : Lib.join (xs ++ [x]) sep = Lib.join xs sep ++ sep ++ x := by
  match xs, h with
  | y :: r, _ =>
    rw [List.cons_append, Lib.join_cons, Lib.join_cons]
    have := Lib.joinTail_take_succ sep (r ++ [x]) r.length x (by simp)
    rw [List.take_of_length_le (by simp), List.take_left] at this
    rw [this]
    simp
theorem tb_snoc (l : List Nat) (h : l ≠ []) (m : Nat) : (tb l ++ ⟨#[32]⟩) ++ dig (m + 1) = tb (l ++ [m]) := by
  apply ba_ext
  unfold tb txt dig
  rw [List.map_append, List.map_cons, List.map_nil, join_snoc _ (by simpa using h)]
  simp [num]
set_option maxRecDepth 100000 in
set_option maxHeartbeats 1000000 in
theorem rtext_none (w : World) : Calls Tryd.prog 14 #[bs 0] w fun e w' => e = .returned (.string ⟨#[45]⟩) ∧ Below w.heap.size w w' := by
  unfold bs
  go_enter Tryd.func14, Tryd.ntmps14
  go_wp2_with fail
  refine (rlist_slice 0 _).mono ?_
  rintro e w1 ⟨a, cap, rfl, _, hb1⟩
  rw [lst_zero]
  go_wp2
  go_ret
  exact ⟨rfl, Below.trans (by go_grown) (hb1.mono (by simp))⟩
set_option maxRecDepth 100000 in
set_option maxHeartbeats 1000000 in
theorem rtext_some (N : Nat) (hN : N < 2 ^ 256) (hz : N ≠ 0) (w : World) : Calls Tryd.prog 14 #[bs N] w fun e w' => e = .returned (.string (tb (lst N))) ∧ Below w.heap.size w w' := by
  have hlen : (lst N).length ≤ 256 := by have := cntTo_le 256 N; rw [← lst_length] at this; exact this
  have hpos := lst_pos hN hz
  have hmem : ∀ m ∈ lst N, m < 256 := fun m hm => (mem_lst.1 hm).1
  have hts : ∀ k, (tb ((lst N).take k)).size ≤ 1024 := fun k => by
    have := txt_length ((lst N).take k) (fun m hm => hmem m (List.mem_of_mem_take hm)) (by rw [List.length_take]; omega)
    show ((txt ((lst N).take k)).toArray).size ≤ 1024
    simpa using this
  unfold bs
  go_enter Tryd.func14, Tryd.ntmps14
  go_wp2_with fail
  refine (rlist_slice N _).mono ?_
  rintro e w1 ⟨a, cap, rfl, hat, hb1⟩
  have hB1 : Below w.heap.size w w1 := Below.trans ((Below.refl _ w).alloc (Nat.le_refl _) _) (hb1.mono (by simp))
  have Hat := hidIn hat
  have Hm := hidIn hmem
  have Hts := hidIn hts
  obtain ⟨l, hl⟩ : ∃ l, lst N = l := ⟨_, rfl⟩
  rw [hl] at Hat Hm Hts hlen hpos ⊢
  have HL := hidIn hl
  clear hat hb1 hmem hts hl hz hN
  have hd : ((l.length : Int) == 0) = false := beq_eq_false_iff_ne.2 (by omega)
  go_wp2
  go_loopw [4, 5] (fun out i wr => ∃ k : Nat, k ≤ l.length ∧ i = .int .i64 k ∧ out = .string (tb (l.take k)) ∧ Below w1.heap.size w1 wr) (fun _ i _ => l.length - (intOf i).toNat)
  case atStart => exact ⟨0, Nat.zero_le _, rfl, rfl, Below.refl _ _⟩
  case round =>
    obtain ⟨k, hk, rfl, rfl, hbel⟩ := hrel
    by_cases hlt : k < l.length
    · have hki : (k : Int) < (l.length : Int) := by omega
      obtain ⟨m, hm⟩ : ∃ m, l[k]? = some m := ⟨l[k], List.getElem?_eq_getElem hlt⟩
      obtain ⟨g, rfl, _, hg, hc⟩ := Hat.out k m hm
      have hc' := (hbel.cell (p := ⟨g, k, none⟩) hg).trans hc
      have hm256 := Hm.out m (List.mem_of_getElem? hm)
      have HNum := hidIn (number_any (m + 1) (by omega))
      have hds : (dig (m + 1)).size ≤ 300 := by have := dig_size (m + 1); omega
      have hs := Hts.out k
      have HT : Hid (l.take (k + 1) = l.take k ++ [m]) := hidIn (by rw [List.take_add_one, hm]; rfl)
      by_cases h0 : k = 0
      · subst h0
        have HF := hidIn (tb_first m)
        have HT2 : Hid (l.take (0 + 1) = [m]) := hidIn (by have := HT.out; simpa using this)
        rw [show tb (l.take 0) = ⟨#[]⟩ from rfl]
        clear HT hm hc hm256 hs
        generalize dig (m + 1) = d at HNum hds HF
        go_wp2_with (go_at_call 35; refine (HNum.out _).mono ?_; rintro e w3 ⟨rfl, hb3⟩)
        go_roundw
        case rel => exact ⟨0 + 1, by omega, by go_num, by rw [HT2.out, ← HF.out], hbel.trans (hb3.mono hbel.size)⟩
        case measure => simp [intOf]; omega
      · have hki0 : (0 : Int) < (k : Int) := by omega
        have HF := hidIn (tb_snoc (l.take k) (List.ne_nil_of_length_pos (by rw [List.length_take]; omega)) m)
        rw [← HT.out] at HF
        have hs2 : (tb (l.take k) ++ ⟨#[32]⟩).size ≤ 1025 := by rw [ByteArray.size_append]; have : (⟨#[32]⟩ : ByteArray).size = 1 := rfl; omega
        clear HT hm hc hm256
        generalize dig (m + 1) = d at HNum hds HF
        generalize tb (l.take k) = t at HF hs hs2
        go_wp2_with (go_at_call 35; refine (HNum.out _).mono ?_; rintro e w3 ⟨rfl, hb3⟩)
        go_roundw
        case rel => exact ⟨k + 1, by omega, by go_num, by rw [← HF.out], hbel.trans (hb3.mono hbel.size)⟩
        case measure => simp [intOf]; omega
    · have hke : k = l.length := by omega
      have hle : ¬ ((k : Int) < (l.length : Int)) := by omega
      rw [hke, List.take_length]
      go_wp2
      go_ret
      exact ⟨by rw [HL.out]; rfl, hB1.trans (hbel.mono hB1.size)⟩
end Go.Proofs.YtjpnbjfomikhaaaDoor
