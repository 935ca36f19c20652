/- FateOnce: rules. -/
import Derived.Test.YtkkgbcoclfpicaaFO0
import Derived.Test.YtkkgbcoclfpicaaFA9
namespace Go.Proofs.Ytkkgbcoclfpicaa.Fa
open Go.RowKit

abbrev tuC (t : Tu) : List Value := [.int .u8 t.1, .int .u8 t.2.1, .int .u8 t.2.2.1, .int .u8 t.2.2.2.1, .int .u8 t.2.2.2.2]
def Tu8 (t : Tu) : Prop := t.1 < 256 ∧ t.2.1 < 256 ∧ t.2.2.1 < 256 ∧ t.2.2.2.1 < 256 ∧ t.2.2.2.2 < 256
theorem infoRu : (Try.prog.info? 32).map (fun i => (i.zero, i.size, i.bytes)) = some (some (.agg #[.int .i64 0, .int .i64 0, .int .i64 0, .int .i64 0, .int .i64 0]), 5, 40) := by kernel_rfl
theorem append_ru {W : World} {base k : Nat} {u : Value} {l : List Ru} (hr : W.ownsRow base 32 5 u k (fl ruC l)) (x : Ru) (hk : k ≤ 1000) (hbase : base ≤ W.heap.size) :
    ∃ g cap w6, (Builtin.append_ #[22, 22] 22 #[u, .slice (some ⟨W.heap.size, 0, none⟩) 1 1]).run Try.prog (W.alloc (.cells #[.int .i64 x.1, .int .i64 x.2.1, .int .i64 x.2.2.1, .int .i64 x.2.2.2.1, .int .i64 x.2.2.2.2] 32)) = .ok (.slice (some ⟨g, 0, none⟩) (k + 1) cap) w6 ∧
      w6.ownsRow base 32 5 (.slice (some ⟨g, 0, none⟩) (k + 1) cap) (k + 1) (fl ruC (l ++ [x])) ∧ (u.ownBlock = some g ∨ g = W.heap.size + 1) ∧ W.grownBy w6 u.ownBlock ∧ Below base W w6 :=
  append_one (P := Try.prog) (cs := ruC) (T := 22) (fun _ => rfl) (fun _ => by simp [Value.oneCell']) Try.underlying22 infoRu rfl (by decide) hr x (by omega) (by unfold maxLen; omega) hbase
theorem SlAt_tus {w : World} {v : Value} {l : List Tu} (h : SlAt tuC 5 w v l) : ∃ a cap, v = .slice a l.length cap ∧ (0 < l.length → ∃ bk o, a = some ⟨bk, o, none⟩ ∧ bk < w.heap.size ∧ ∀ j e, l[j]? = some e → w.cell? ⟨bk, o + j * 5, none⟩ = some (.int .u8 e.1) ∧ w.cell? ⟨bk, o + j * 5 + 1, none⟩ = some (.int .u8 e.2.1) ∧ w.cell? ⟨bk, o + j * 5 + 2, none⟩ = some (.int .u8 e.2.2.1) ∧ w.cell? ⟨bk, o + j * 5 + 3, none⟩ = some (.int .u8 e.2.2.2.1) ∧ w.cell? ⟨bk, o + j * 5 + 4, none⟩ = some (.int .u8 e.2.2.2.2)) := by
  obtain ⟨a, cap, rfl, h0, h1, h2⟩ := h
  refine ⟨a, cap, rfl, fun hp => ?_⟩
  obtain ⟨bk, o, rfl, h3, h4⟩ := h2 hp
  exact ⟨bk, o, rfl, h3, fun j z hz => ⟨h4 j z hz 0 _ rfl, h4 j z hz 1 _ rfl, h4 j z hz 2 _ rfl, h4 j z hz 3 _ rfl, h4 j z hz 4 _ rfl⟩⟩
/-- A small number modulo another one. -/
theorem tm8 {x : Nat} (m : Nat) (h : 0 < m ∧ m ≤ 64) : (x : Int).tmod (m : Int) = ((x % m : Nat) : Int) ∧ IntKind.u8.wrap ((x % m : Nat) : Int) = ((x % m : Nat) : Int) ∧ IntKind.i64.wrap ((x % m : Nat) : Int) = ((x % m : Nat) : Int) ∧ IntKind.i64.wrap (1 + ((x % m : Nat) : Int)) = 1 + ((x % m : Nat) : Int) := by
  have hm : x % m < m := Nat.mod_lt _ h.1
  refine ⟨by rw [Int.tmod_eq_emod_of_nonneg (by omega)]; rfl, by rw [IntKind.wrap_u8]; omega, by rw [IntKind.wrap_i64]; omega, by rw [IntKind.wrap_i64]; omega⟩
theorem agB_take {out : List Ru} {k : Nat} {s r : Ru} (h : out[k]? = some s) : ((r.1 == r.2.1) || (out.take (k + 1)).any (fun s => (s.1 == r.1) && ((s.2.1 == r.2.1) && (s.2.2.1 == r.2.2.1)))) = (((r.1 == r.2.1) || (out.take k).any (fun s => (s.1 == r.1) && ((s.2.1 == r.2.1) && (s.2.2.1 == r.2.2.1)))) || ((s.1 == r.1) && ((s.2.1 == r.2.1) && (s.2.2.1 == r.2.2.1)))) := by
  rw [take_snoc h, List.any_append]
  simp [Bool.or_assoc]
set_option maxRecDepth 100000 in
set_option maxHeartbeats 20000000 in
theorem frules_any {L : List Tu} {v : Value} {w : World} (h : SlAt tuC 5 w v L) (hL : ∀ y ∈ L, Tu8 y) (hlen : L.length ≤ 140737488355328) :
    Calls Try.prog 17 #[v] w fun e w' => (∃ a cap, e = .returned (.slice a (rlL (L.take 30)).length cap) ∧ w'.ownsRow w.heap.size 32 5 (.slice a (rlL (L.take 30)).length cap) (rlL (L.take 30)).length (fl ruC (rlL (L.take 30)))) ∧ Below w.heap.size w w' := by
  obtain ⟨va, vc, rfl, hcell⟩ := SlAt_tus h
  have HCell := hidIn hcell
  have HL := hidIn hL
  obtain ⟨n, hn⟩ : ∃ n, L.length = n := ⟨_, rfl⟩
  rw [hn] at hlen HCell ⊢
  have Hn := hidIn hn
  clear h hL hcell hn
  go_enter Try.func17, Try.ntmps17
  go_wp2_with fail
  go_loopw [3, 4] (fun u i wr => ∃ k : Nat, k ≤ 30 ∧ k ≤ n ∧ i = .int .i64 k ∧ (∃ a c, u = .slice a (rlL (L.take k)).length c) ∧ Hid (wr.ownsRow w.heap.size 32 5 u (rlL (L.take k)).length (fl ruC (rlL (L.take k))) ∧ Below w.heap.size w wr)) (fun _ i _ => 30 - (intOf i).toNat)
  case atStart => exact ⟨0, by omega, by omega, rfl, ⟨none, 0, rfl⟩, hidIn ⟨World.ownsRow_nil _ _ _ _, Below.refl _ _⟩⟩
  case round =>
    obtain ⟨k, hk30, hkn, rfl, ⟨ua, uc, rfl⟩, HR⟩ := hrel
    by_cases hlt : k < n ∧ k < 30
    · obtain ⟨hlt, hlt30⟩ := hlt
      have hki : (k : Int) < (n : Int) := by omega
      have hki30 : (k : Int) < 30 := by omega
      obtain ⟨bk, o, rfl, hbk, hce⟩ := HCell.out (by omega)
      obtain ⟨⟨t0, t1, t2, t3, t4⟩, hm⟩ : ∃ z, L[k]? = some z := ⟨L[k]'(by have := Hn.out; omega), List.getElem?_eq_getElem _⟩
      obtain ⟨b0, b1, b2, b3, b4⟩ := HL.out _ (List.mem_of_getElem? hm)
      have hcs := hce k _ hm
      have HT : Hid (rlL (L.take (k + 1)) = adT (rlL (L.take k)) (t0, t1, t2, t3, t4)) := hidIn (by rw [take_snoc hm, rlL_snoc])
      have hlo : (rlL (L.take k)).length ≤ 30 := (rlL_ok (by rw [List.length_take]; omega)).2
      obtain ⟨hrow, hbel⟩ := HR.out
      have HCl : Hid (∀ wq, Below wr.heap.size wr wq → wq.cell? ⟨bk, o + k * 5, none⟩ = some (.int .u8 t0) ∧ wq.cell? ⟨bk, o + k * 5 + 1, none⟩ = some (.int .u8 t1) ∧ wq.cell? ⟨bk, o + k * 5 + 2, none⟩ = some (.int .u8 t2) ∧ wq.cell? ⟨bk, o + k * 5 + 3, none⟩ = some (.int .u8 t3) ∧ wq.cell? ⟨bk, o + k * 5 + 4, none⟩ = some (.int .u8 t4)) := hidIn fun wq hF => by
        have hb := hbel.trans (hF.mono hbel.size)
        exact ⟨(hb.cell (p := ⟨bk, o + k * 5, none⟩) hbk).trans hcs.1, (hb.cell (p := ⟨bk, o + k * 5 + 1, none⟩) hbk).trans hcs.2.1, (hb.cell (p := ⟨bk, o + k * 5 + 2, none⟩) hbk).trans hcs.2.2.1, (hb.cell (p := ⟨bk, o + k * 5 + 3, none⟩) hbk).trans hcs.2.2.2.1, (hb.cell (p := ⟨bk, o + k * 5 + 4, none⟩) hbk).trans hcs.2.2.2.2⟩
      obtain ⟨m0, p0, q0, z0⟩ := tm8 (x := t0) 4 (by omega)
      obtain ⟨m1, p1, q1, z1⟩ := tm8 (x := t1) 4 (by omega)
      obtain ⟨m2, p2, q2, z2⟩ := tm8 (x := t2) 6 (by omega)
      obtain ⟨m3, p3, q3, z3⟩ := tm8 (x := t3) 3 (by omega)
      obtain ⟨m4, p4, q4, z4⟩ := tm8 (x := t4) 64 (by omega)
      have hx4 : (t0 % 4 : Nat) < 4 ∧ (t1 % 4 : Nat) < 4 ∧ (t2 % 6 : Nat) < 6 ∧ (t3 % 3 : Nat) < 3 ∧ (t4 % 64 : Nat) < 64 := by omega
      have HMk : Hid (mkT (t0, t1, t2, t3, t4) = (1 + ((t0 % 4 : Nat) : Int), 1 + ((t1 % 4 : Nat) : Int), 1 + ((t2 % 6 : Nat) : Int), 1 + ((t3 % 3 : Nat) : Int), if t3 % 3 = 0 then 0 else 1 + ((t4 % 64 : Nat) : Int))) := hidIn rfl
      obtain ⟨y0, hy0⟩ : ∃ y, t0 % 4 = y := ⟨_, rfl⟩
      obtain ⟨y1, hy1⟩ : ∃ y, t1 % 4 = y := ⟨_, rfl⟩
      obtain ⟨y2, hy2⟩ : ∃ y, t2 % 6 = y := ⟨_, rfl⟩
      obtain ⟨y3, hy3⟩ : ∃ y, t3 % 3 = y := ⟨_, rfl⟩
      obtain ⟨y4, hy4⟩ : ∃ y, t4 % 64 = y := ⟨_, rfl⟩
      rw [hy0] at m0 p0 q0 z0 hx4 HMk
      rw [hy1] at m1 p1 q1 z1 hx4 HMk
      rw [hy2] at m2 p2 q2 z2 hx4 HMk
      rw [hy3] at m3 p3 q3 z3 hx4 HMk
      rw [hy4] at m4 p4 q4 z4 hx4 HMk
      have HX4 := hidIn hx4
      have HRow := hidIn hrow
      have HBel := hidIn hbel
      have Hm := hidIn hm
      simp only at b0 b1 b2 b3 b4
      have e0 : (t0 : Int) ≤ 255 := by omega
      have e1 : (t1 : Int) ≤ 255 := by omega
      have e2 : (t2 : Int) ≤ 255 := by omega
      have e3 : (t3 : Int) ≤ 255 := by omega
      have e4 : (t4 : Int) ≤ 255 := by omega
      have m0 : (t0 : Int).tmod 4 = (y0 : Int) := m0
      have m1 : (t1 : Int).tmod 4 = (y1 : Int) := m1
      have m2 : (t2 : Int).tmod 6 = (y2 : Int) := m2
      have m3 : (t3 : Int).tmod 3 = (y3 : Int) := m3
      have m4 : (t4 : Int).tmod 64 = (y4 : Int) := m4
      clear HR hce hcs hm hy0 hy1 hy2 hy3 hy4 hrow hbel hx4 b0 b1 b2 b3 b4
      go_upto_region 5 with fail
      refine wp_region_held_drew (S := fun wx => Below wr.heap.size wr wx) (by kernel_rfl) ((Below.refl _ wr).drew) (fun hHeld => ?_)
      have hd0 : Below wr.heap.size wr wr.drew := hHeld
      clear hHeld
      refine wpAnyH_take (i := 0) (v := ?_) rfl (by kernel_rfl) (by kernel_rfl) (by kernel_rfl) (fun _ _ _ h => h) (Or.inl ⟨by rfl, ?_⟩) (by assumption) ?_
      rotate_left
      · intro wq hSw
        clear hSw
        go_simp
        try (with_reducible rfl)
      refine wpAnyH_take (i := 1) (v := ?_) rfl (by kernel_rfl) (by kernel_rfl) (by kernel_rfl) (fun _ _ _ h => h) (Or.inl ⟨by rfl, ?_⟩) (by assumption) ?_
      rotate_left
      · intro wq hSw
        clear hSw
        go_simp
        try (with_reducible rfl)
      refine wpAnyH_take (i := 2) (v := ?_) rfl (by kernel_rfl) (by kernel_rfl) (by kernel_rfl) (fun _ _ _ h => h) (Or.inl ⟨by rfl, ?_⟩) (by assumption) ?_
      rotate_left
      · intro wq hSw
        clear hSw
        go_simp
        try (with_reducible rfl)
      refine wpAnyH_take (i := 3) (v := ?_) rfl (by kernel_rfl) (by kernel_rfl) (by kernel_rfl) (fun _ _ _ h => h) (Or.inl ⟨by rfl, ?_⟩) (by assumption) ?_
      rotate_left
      · intro wq hSw
        clear hSw
        go_simp
        try (with_reducible rfl)
      refine wpAnyH_take (i := 4) (v := ?_) rfl (by kernel_rfl) (by kernel_rfl) (by kernel_rfl) (fun _ _ _ h => h) (Or.inl ⟨by rfl, ?_⟩) (by assumption) ?_
      rotate_left
      · intro wq hSw
        obtain ⟨s0, s1, s2, s3, s4⟩ := HCl.out wq hSw
        clear hSw
        go_simp
        try (with_reducible rfl)
      refine wpAnyH_take (i := 5) (v := ?_) rfl (by kernel_rfl) (by kernel_rfl) (by kernel_rfl) (fun _ _ _ h => h) (Or.inl ⟨by rfl, ?_⟩) (by assumption) ?_
      rotate_left
      · intro wq hSw
        clear hSw
        go_simp
        try (with_reducible rfl)
      refine wpAnyH_take (i := 6) (v := ?_) rfl (by kernel_rfl) (by kernel_rfl) (by kernel_rfl) (fun _ _ _ h => h) (Or.inl ⟨by rfl, ?_⟩) (by assumption) ?_
      rotate_left
      · intro wq hSw
        clear hSw
        go_simp
        try (with_reducible rfl)
      refine wpAnyH_take (i := 7) (v := ?_) rfl (by kernel_rfl) (by kernel_rfl) (by kernel_rfl) (fun _ _ _ h => h) (Or.inl ⟨by rfl, ?_⟩) (by assumption) ?_
      rotate_left
      · intro wq hSw
        clear hSw
        go_simp
        try (with_reducible rfl)
      refine wpAnyH_take (i := 8) (v := ?_) rfl (by kernel_rfl) (by kernel_rfl) (by kernel_rfl) (fun _ _ _ h => h) (Or.inl ⟨by rfl, ?_⟩) (by assumption) ?_
      rotate_left
      · intro wq hSw
        clear hSw
        go_simp
        try (with_reducible rfl)
      refine wpAnyH_take (i := 9) (v := ?_) rfl (by kernel_rfl) (by kernel_rfl) (by kernel_rfl) (fun _ _ _ h => h) (Or.inl ⟨by rfl, ?_⟩) (by assumption) ?_
      rotate_left
      · intro wq hSw
        clear hSw
        go_simp
        try (with_reducible rfl)
      refine wpAnyH_take (i := 10) (v := ?_) rfl (by kernel_rfl) (by kernel_rfl) (by kernel_rfl) (fun _ _ _ h => h) (Or.inl ⟨by rfl, ?_⟩) (by assumption) ?_
      rotate_left
      · intro wq hSw
        clear hSw
        go_simp
        try (with_reducible rfl)
      refine wpAnyH_take (i := 11) (v := ?_) rfl (by kernel_rfl) (by kernel_rfl) (by kernel_rfl) (fun _ _ _ h => h) (Or.inl ⟨by rfl, ?_⟩) (by assumption) ?_
      rotate_left
      · intro wq hSw
        clear hSw
        go_simp
        try (with_reducible rfl)
      refine wpAnyH_take (i := 12) (v := ?_) rfl (by kernel_rfl) (by kernel_rfl) (by kernel_rfl) (fun _ _ _ h => h) (Or.inl ⟨by rfl, ?_⟩) (by assumption) ?_
      rotate_left
      · intro wq hSw
        obtain ⟨s0, s1, s2, s3, s4⟩ := HCl.out wq hSw
        clear hSw
        go_simp
        try (with_reducible rfl)
      refine wpAnyH_take (i := 13) (v := ?_) rfl (by kernel_rfl) (by kernel_rfl) (by kernel_rfl) (fun _ _ _ h => h) (Or.inl ⟨by rfl, ?_⟩) (by assumption) ?_
      rotate_left
      · intro wq hSw
        clear hSw
        go_simp
        try (with_reducible rfl)
      refine wpAnyH_take (i := 14) (v := ?_) rfl (by kernel_rfl) (by kernel_rfl) (by kernel_rfl) (fun _ _ _ h => h) (Or.inl ⟨by rfl, ?_⟩) (by assumption) ?_
      rotate_left
      · intro wq hSw
        clear hSw
        go_simp
        try (with_reducible rfl)
      refine wpAnyH_take (i := 15) (v := ?_) rfl (by kernel_rfl) (by kernel_rfl) (by kernel_rfl) (fun _ _ _ h => h) (Or.inl ⟨by rfl, ?_⟩) (by assumption) ?_
      rotate_left
      · intro wq hSw
        clear hSw
        go_simp
        try (with_reducible rfl)
      refine wpAnyH_take (i := 16) (v := ?_) rfl (by kernel_rfl) (by kernel_rfl) (by kernel_rfl) (fun _ _ _ h => h) (Or.inl ⟨by rfl, ?_⟩) (by assumption) ?_
      rotate_left
      · intro wq hSw
        clear hSw
        go_simp
        try (with_reducible rfl)
      refine wpAnyH_take (i := 17) (v := ?_) rfl (by kernel_rfl) (by kernel_rfl) (by kernel_rfl) (fun _ _ _ h => h) (Or.inl ⟨by rfl, ?_⟩) (by assumption) ?_
      rotate_left
      · intro wq hSw
        clear hSw
        go_simp
        try (with_reducible rfl)
      refine wpAnyH_take (i := 18) (v := ?_) rfl (by kernel_rfl) (by kernel_rfl) (by kernel_rfl) (fun _ _ _ h => h) (Or.inl ⟨by rfl, ?_⟩) (by assumption) ?_
      rotate_left
      · intro wq hSw
        clear hSw
        go_simp
        try (with_reducible rfl)
      refine wpAnyH_take (i := 19) (v := ?_) rfl (by kernel_rfl) (by kernel_rfl) (by kernel_rfl) (fun _ _ _ h => h) (Or.inl ⟨by rfl, ?_⟩) (by assumption) ?_
      rotate_left
      · intro wq hSw
        clear hSw
        go_simp
        try (with_reducible rfl)
      refine wpAnyH_take (i := 20) (v := ?_) rfl (by kernel_rfl) (by kernel_rfl) (by kernel_rfl) (fun _ _ _ h => h) (Or.inl ⟨by rfl, ?_⟩) (by assumption) ?_
      rotate_left
      · intro wq hSw
        obtain ⟨s0, s1, s2, s3, s4⟩ := HCl.out wq hSw
        clear hSw
        go_simp
        try (with_reducible rfl)
      refine wpAnyH_take (i := 21) (v := ?_) rfl (by kernel_rfl) (by kernel_rfl) (by kernel_rfl) (fun _ _ _ h => h) (Or.inl ⟨by rfl, ?_⟩) (by assumption) ?_
      rotate_left
      · intro wq hSw
        clear hSw
        go_simp
        try (with_reducible rfl)
      refine wpAnyH_take (i := 22) (v := ?_) rfl (by kernel_rfl) (by kernel_rfl) (by kernel_rfl) (fun _ _ _ h => h) (Or.inl ⟨by rfl, ?_⟩) (by assumption) ?_
      rotate_left
      · intro wq hSw
        clear hSw
        go_simp
        try (with_reducible rfl)
      refine wpAnyH_take (i := 23) (v := ?_) rfl (by kernel_rfl) (by kernel_rfl) (by kernel_rfl) (fun _ _ _ h => h) (Or.inl ⟨by rfl, ?_⟩) (by assumption) ?_
      rotate_left
      · intro wq hSw
        clear hSw
        go_simp
        try (with_reducible rfl)
      refine wpAnyH_take (i := 24) (v := ?_) rfl (by kernel_rfl) (by kernel_rfl) (by kernel_rfl) (fun _ _ _ h => h) (Or.inl ⟨by rfl, ?_⟩) (by assumption) ?_
      rotate_left
      · intro wq hSw
        clear hSw
        go_simp
        try (with_reducible rfl)
      refine wpAnyH_take (i := 25) (v := ?_) rfl (by kernel_rfl) (by kernel_rfl) (by kernel_rfl) (fun _ _ _ h => h) (Or.inl ⟨by rfl, ?_⟩) (by assumption) ?_
      rotate_left
      · intro wq hSw
        clear hSw
        go_simp
        try (with_reducible rfl)
      refine wpAnyH_take (i := 26) (v := ?_) rfl (by kernel_rfl) (by kernel_rfl) (by kernel_rfl) (fun _ _ _ h => h) (Or.inl ⟨by rfl, ?_⟩) (by assumption) ?_
      rotate_left
      · intro wq hSw
        clear hSw
        go_simp
        try (with_reducible rfl)
      refine wpAnyH_take (i := 27) (v := ?_) rfl (by kernel_rfl) (by kernel_rfl) (by kernel_rfl) (fun _ _ _ h => h) (Or.inl ⟨by rfl, ?_⟩) (by assumption) ?_
      rotate_left
      · intro wq hSw
        clear hSw
        go_simp
        try (with_reducible rfl)
      refine wpAnyH_take (i := 28) (v := ?_) rfl (by kernel_rfl) (by kernel_rfl) (by kernel_rfl) (fun _ _ _ h => h) (Or.inl ⟨by rfl, ?_⟩) (by assumption) ?_
      rotate_left
      · intro wq hSw
        obtain ⟨s0, s1, s2, s3, s4⟩ := HCl.out wq hSw
        clear hSw
        go_simp
        try (with_reducible rfl)
      refine wpAnyH_take (i := 29) (v := ?_) rfl (by kernel_rfl) (by kernel_rfl) (by kernel_rfl) (fun _ _ _ h => h) (Or.inl ⟨by rfl, ?_⟩) (by assumption) ?_
      rotate_left
      · intro wq hSw
        clear hSw
        go_simp
        try (with_reducible rfl)
      refine wpAnyH_take (i := 30) (v := ?_) rfl (by kernel_rfl) (by kernel_rfl) (by kernel_rfl) (fun _ _ _ h => h) (Or.inl ⟨by rfl, ?_⟩) (by assumption) ?_
      rotate_left
      · intro wq hSw
        clear hSw
        go_simp
        try (with_reducible rfl)
      refine wpAnyH_take (i := 31) (v := ?_) rfl (by kernel_rfl) (by kernel_rfl) (by kernel_rfl) (fun _ _ _ h => h) (Or.inl ⟨by rfl, ?_⟩) (by assumption) ?_
      rotate_left
      · intro wq hSw
        clear hSw
        go_simp
        try (with_reducible rfl)
      refine wpAnyH_take (i := 32) (v := ?_) rfl (by kernel_rfl) (by kernel_rfl) (by kernel_rfl) (fun _ _ _ h => h) (Or.inl ⟨by rfl, ?_⟩) (by assumption) ?_
      rotate_left
      · intro wq hSw
        clear hSw
        go_simp
        try (with_reducible rfl)
      refine wpAnyH_ready (rs := [33]) (by kernel_rfl) (by simp) ?_
      refine AllReadyH.cons (i := 33) rfl ?_ AllReadyH.nil
      go_simp
      intro K hK
      refine hK.out _ _ (((Below.refl _ wr).alloc (Nat.le_refl _) _).drew) (fun _ => ?_)
      clear hK K
      refine wpAnyH_ready (rs := [34]) (by kernel_rfl) (by simp) ?_
      refine AllReadyH.cons (i := 34) rfl ?_ AllReadyH.nil
      go_simp
      intro K hK
      refine hK.out _ _ (((Below.refl _ wr).alloc (Nat.le_refl _) _).drew) (fun _ => ?_)
      clear hK K
      refine wpAnyH_done (by kernel_rfl) ?_ _
      have hx3 : (y3 : Nat) < 3 := HX4.out.2.2.2.1
      obtain ⟨bb, hbb⟩ : ∃ b : Int, (if y3 = 0 then 0 else 1 + (y4 : Int)) = b := ⟨_, rfl⟩
      have hk1 : y3 = 0 → (1 + (y3 : Int) != 1) = false := fun h => by simp [h]
      have hk2 : y3 ≠ 0 → (1 + (y3 : Int) != 1) = true := fun h => by simp; omega
      rw [hbb] at HMk
      have HBB := hidIn hbb
      have HK1 := hidIn hk1
      have HK2 := hidIn hk2
      clear hd0 hbb hk1 hk2
      obtain ⟨r0, hr0⟩ : ∃ r, 1 + (y0 : Int) = r := ⟨_, rfl⟩
      obtain ⟨r1, hr1⟩ : ∃ r, 1 + (y1 : Int) = r := ⟨_, rfl⟩
      obtain ⟨r2, hr2⟩ : ∃ r, 1 + (y2 : Int) = r := ⟨_, rfl⟩
      obtain ⟨r3, hr3⟩ : ∃ r, 1 + (y3 : Int) = r := ⟨_, rfl⟩
      rw [hr0, hr1, hr2, hr3] at HMk
      rw [hr3] at HK1 HK2
      rw [hr0, hr1, hr2, hr3]
      clear hr0 hr1 hr2 hr3 m0 m1 m2 m3 p0 p1 p2 p3 q0 q1 q2 q3 z0 z1 z2 z3
      obtain ⟨p, hp⟩ : ∃ p, wr.heap.size = p := ⟨_, rfl⟩
      obtain ⟨W1, hW1⟩ : ∃ W1, (wr.alloc (.cells #[.int .i64 r0, .int .i64 r1, .int .i64 r2, .int .i64 r3, .int .i64 0] 32)).drew = W1 := ⟨_, rfl⟩
      have hb1 : Below wr.heap.size wr W1 := by rw [← hW1]; exact ((Below.refl _ wr).alloc (Nat.le_refl _) _).drew
      have hX1 : W1.heap[p]? = some (.cells #[.int .i64 r0, .int .i64 r1, .int .i64 r2, .int .i64 r3, .int .i64 0] 32) := by rw [← hW1, ← hp]; exact heap_alloc_last wr _
      have HRow1 := hidIn (row_below HRow.out hb1 (Nat.le_refl _))
      have HBel1 := hidIn (HBel.out.trans (hb1.mono HBel.out.size))
      have HPw : Hid (w.heap.size ≤ p ∧ ∀ i, (Value.slice ua (rlL (L.take k)).length uc).ownBlock = some i → i ≠ p) := hidIn ⟨by have := HBel.out.size; omega, fun i hi => by have := (HRow.out.lt i hi).2; omega⟩
      have HCl4 : Hid (∀ wq, Below wr.heap.size wr wq → wq.cell? ⟨bk, o + k * 5 + 4, none⟩ = some (.int .u8 t4)) := hidIn fun wq hF => (HCl.out wq hF).2.2.2.2
      have hb1' := hb1
      have HW1 := hidIn hW1
      have HX1 := hidIn hX1
      obtain ⟨mo, hmo⟩ : ∃ mo, (rlL (L.take k)).length = mo := ⟨_, rfl⟩
      obtain ⟨out, hout⟩ : ∃ out, rlL (L.take k) = out := ⟨_, rfl⟩
      rw [hout] at hmo
      rw [hout, hmo] at HRow1 HPw
      rw [hout] at hlo HT
      rw [hmo] at hlo
      rw [hout, hmo, hp, HW1.out]
      have Hmo := hidIn hmo
      clear HCl HRow HBel hb1 hW1 HW1 hX1 hmo hout hp
      have c3 := cell_of_row _ _ 3 _ _ _ HX1.out
      have c4 := cell_of_row _ _ 4 _ _ _ HX1.out
      have f4 := frozen_new HX1.out 4
      simp at c3 c4
      have HCl4 : Hid (W1.cell? ⟨bk, o + k * 5 + 4, none⟩ = some (.int .u8 t4)) := hidIn (HCl4.out W1 hb1')
      clear hb1'
      go_upto_if 53 with fail
      clear c3
      go_cut [] (fun wx => Hid (wx.heap[p]? = some (.cells #[.int .i64 r0, .int .i64 r1, .int .i64 r2, .int .i64 r3, .int .i64 bb] 32) ∧ Fr (fun j => j = p) W1 wx))
      case first =>
        by_cases hy3 : y3 = 0
        · have hk := HK1.out hy3
          have hbz : bb = 0 := by rw [← HBB.out, if_pos hy3]
          clear hy3
          go_wp2_with fail
          go_meet
          exact hidIn ⟨by rw [hbz]; exact HX1.out, Fr.refl _ _⟩
        · have hk := HK2.out hy3
          have hbz : bb = 1 + (y4 : Int) := by rw [← HBB.out, if_neg hy3]
          have s4 := HCl4.out
          clear hy3
          go_wp2_with fail
          go_meet
          refine hidIn ⟨?_, Fr.set (S := fun j => j = p) (Fr.refl _ W1) (p := ⟨p, 4, none⟩) rfl _⟩
          rw [hbz]
          exact heap_setCell_same _ _ _ _ _ _ HX1.out
      case rest =>
        have HX2 := hidIn hcut.out.1
        have HF2 := hidIn hcut.out.2
        have HRow2 := hidIn (row_fr HRow1.out HF2.out (fun j hj e => HPw.out.2 j hj e))
        have HBel2 := hidIn (HBel1.out.trans (HF2.out.below HBel1.out.size (fun j hj => by have := HPw.out.1; omega)))
        clear hcut HRow1 HBel1 HX1 HF2 c4 f4 HCl4 m4 q4 z4 p4 HK1 HK2 HBB HX4
        have c0 := cell_of_row _ _ 0 _ _ _ HX2.out
        have c1 := cell_of_row _ _ 1 _ _ _ HX2.out
        simp at c0 c1
        go_wp2_with fail
        go_loopw [6, 7] (fun ag kv wz => ∃ j : Nat, j ≤ mo ∧ kv = .int .i64 j ∧ ag = .bool ((r0 == r1) || (out.take j).any (fun s => (s.1 == r0) && ((s.2.1 == r1) && (s.2.2.1 == r2)))) ∧ Hid (Below wc.heap.size wc wz)) (fun _ kv _ => mo - (intOf kv).toNat)
        case atStart => exact ⟨0, Nat.zero_le _, rfl, by simp, hidIn (Below.refl _ _)⟩
        case round =>
          clear c0 c1
          obtain ⟨j, hj, rfl, rfl, HZ⟩ := hrel
          have hXz := (HZ.out.block p (block_lt HX2.out)).trans HX2.out
          have hpw := block_lt hXz
          by_cases hlj : j < mo
          · obtain ⟨⟨s0, s1, s2, s3, s4⟩, hs⟩ : ∃ z, out[j]? = some z := ⟨out[j]'(by have := Hmo.out; omega), List.getElem?_eq_getElem _⟩
            obtain ⟨a9, c9, h9, _, hsc⟩ := SlAt_rus (slAt_of_row (cs := ruC) (fun _ => rfl) HRow2.out Hmo.out)
            simp at h9
            obtain ⟨rfl, hx9, rfl⟩ := h9
            clear hx9
            obtain ⟨g9, o9, rfl, hg9, hsc⟩ := hsc (by have := Hmo.out; omega)
            obtain ⟨v0, v1, v2, _, _⟩ := hsc j _ hs
            have w0 := cell_regrown ((HZ.out.cell (p := ⟨g9, o9 + j * 5, none⟩) hg9).trans v0)
            have w1 := cell_regrown ((HZ.out.cell (p := ⟨g9, o9 + j * 5 + 1, none⟩) hg9).trans v1)
            have w2 := cell_regrown ((HZ.out.cell (p := ⟨g9, o9 + j * 5 + 2, none⟩) hg9).trans v2)
            have x0 := cell_regrown (cell_of_row _ _ 0 _ _ _ hXz)
            have x1 := cell_regrown (cell_of_row _ _ 1 _ _ _ hXz)
            have x2 := cell_regrown (cell_of_row _ _ 2 _ _ _ hXz)
            simp at x0 x1 x2 w0 w1 w2
            have hji : (j : Int) < (mo : Int) := by omega
            obtain ⟨g, hg⟩ : ∃ g, ((r0 == r1) || (out.take j).any (fun s => (s.1 == r0) && ((s.2.1 == r1) && (s.2.2.1 == r2)))) = g := ⟨_, rfl⟩
            obtain ⟨e1, he1⟩ : ∃ e, (s0 == r0) = e := ⟨_, rfl⟩
            obtain ⟨e2, he2⟩ : ∃ e, (s1 == r1) = e := ⟨_, rfl⟩
            obtain ⟨e3, he3⟩ : ∃ e, (s2 == r2) = e := ⟨_, rfl⟩
            have HAn : Hid (((r0 == r1) || (out.take (j + 1)).any (fun s => (s.1 == r0) && ((s.2.1 == r1) && (s.2.2.1 == r2)))) = (g || (e1 && (e2 && e3)))) := hidIn (by
              have := agB_take (r := (r0, r1, r2, r3, bb)) hs
              simp only at this
              rw [this, hg, he1, he2, he3])
            have hbz := HZ.out
            rw [hg]
            clear hg hs v0 v1 v2 hsc HZ hXz hpw
            cases g with
            | true =>
              clear he1 he2 he3 w0 w1 w2 x0 x1 x2
              go_wp2_with fail
              refine wp_region_quiet_below (by kernel_rfl) (by kernel_rfl) ?_
              repeat (go_big_quiet_step (fail))
              refine wpQuiet_nil ?_
              intro _ hw'
              obtain ⟨⟨dq, osq⟩, hw''⟩ := hw'
              subst hw''
              have HB5 := hidIn (hbz.trans ((below_regrown wr dq osq).mono hbz.size))
              generalize Go.Sort.grow (redrawn wr dq) osq = W5 at HB5 ⊢
              go_wp2_with fail
              go_roundw
              case rel => exact ⟨j + 1, by omega, by go_num, by rw [HAn.out]; rfl, hidIn HB5.out⟩
              case measure => simp [intOf]; omega
            | false =>
              cases e1 with
              | false =>
                clear he2 he3 w1 w2 x1 x2
                go_wp2_with fail
                refine wp_region_quiet_below (by kernel_rfl) (by kernel_rfl) ?_
                repeat (go_big_quiet_step (fail))
                refine wpQuiet_nil ?_
                intro _ hw'
                obtain ⟨⟨dq, osq⟩, hw''⟩ := hw'
                subst hw''
                have HB5 := hidIn (hbz.trans ((below_regrown wr dq osq).mono hbz.size))
                generalize Go.Sort.grow (redrawn wr dq) osq = W5 at HB5 ⊢
                go_wp2_with fail
                go_roundw
                case rel => exact ⟨j + 1, by omega, by go_num, by rw [HAn.out]; rfl, hidIn HB5.out⟩
                case measure => simp [intOf]; omega
              | true =>
                cases e2 with
                | false =>
                  clear he3 w2 x2
                  go_wp2_with fail
                  refine wp_region_quiet_below (by kernel_rfl) (by kernel_rfl) ?_
                  repeat (go_big_quiet_step (fail))
                  refine wpQuiet_nil ?_
                  intro _ hw'
                  obtain ⟨⟨dq, osq⟩, hw''⟩ := hw'
                  subst hw''
                  have HB5 := hidIn (hbz.trans ((below_regrown wr dq osq).mono hbz.size))
                  generalize Go.Sort.grow (redrawn wr dq) osq = W5 at HB5 ⊢
                  go_wp2_with fail
                  go_roundw
                  case rel => exact ⟨j + 1, by omega, by go_num, by rw [HAn.out]; rfl, hidIn HB5.out⟩
                  case measure => simp [intOf]; omega
                | true =>
                  go_wp2_with fail
                  refine wp_region_quiet_below (by kernel_rfl) (by kernel_rfl) ?_
                  repeat (go_big_quiet_step (fail))
                  refine wpQuiet_nil ?_
                  intro _ hw'
                  obtain ⟨⟨dq, osq⟩, hw''⟩ := hw'
                  subst hw''
                  have HB5 := hidIn (hbz.trans ((below_regrown wr dq osq).mono hbz.size))
                  generalize Go.Sort.grow (redrawn wr dq) osq = W5 at HB5 ⊢
                  go_wp2_with fail
                  go_roundw
                  case rel => exact ⟨j + 1, by omega, by go_num, by rw [HAn.out]; rfl, hidIn HB5.out⟩
                  case measure => simp [intOf]; omega
          · have hje : j = mo := by omega
            have HG : Hid (((r0 == r1) || (out.take j).any (fun s => (s.1 == r0) && ((s.2.1 == r1) && (s.2.2.1 == r2)))) = agB out (mkT (t0, t1, t2, t3, t4))) := hidIn (by rw [hje, ← Hmo.out, List.take_length, HMk.out]; rfl)
            have hji : ¬ (j : Int) < (mo : Int) := by omega
            rw [HG.out]
            have hrow := row_below HRow2.out HZ.out (Nat.le_refl _)
            have hbel := HBel2.out.trans (HZ.out.mono HBel2.out.size)
            clear HG hje HRow2 HX2 HBel2 HZ
            obtain ⟨g, hg⟩ : ∃ g, agB out (mkT (t0, t1, t2, t3, t4)) = g := ⟨_, rfl⟩
            rw [hg]
            cases g with
            | true =>
              have HTn : Hid (rlL (L.take (k + 1)) = out) := hidIn (by rw [HT.out, adT, if_pos hg])
              have HRow := hidIn hrow
              have HBel := hidIn hbel
              clear hg hrow hbel hXz hpw
              go_wp2_with fail
              go_roundw
              case rel => exact ⟨k + 1, by omega, by omega, by go_num, ⟨_, uc, by rw [HTn.out, Hmo.out]⟩, hidIn ⟨by rw [HTn.out, Hmo.out]; exact HRow.out, HBel.out⟩⟩
              case measure => simp [intOf]; omega
            | false =>
              have hTn : rlL (L.take (k + 1)) = out ++ [(r0, r1, r2, r3, bb)] := by rw [HT.out, adT, if_neg (by rw [hg]; simp), HMk.out]
              have hTl : (rlL (L.take (k + 1))).length = mo + 1 := by rw [hTn, List.length_append, List.length_singleton, Hmo.out]
              obtain ⟨g9, c9, w6, hrun, hown, _, _, hb6⟩ := append_ru hrow (r0, r1, r2, r3, bb) (by omega) hbel.size
              rw [← hTn] at hown
              have HRun : Hid ((Builtin.append_ #[22, 22] 22 #[.slice ua mo uc, .slice (some ⟨wr.heap.size, 0, none⟩) 1 1]).run Try.prog (wr.alloc (.cells #[.int .i64 r0, .int .i64 r1, .int .i64 r2, .int .i64 r3, .int .i64 bb] 32)) = .ok (.slice (some ⟨g9, 0, none⟩) (mo + 1) c9) w6) := hidIn hrun
              have HRow := hidIn hown
              have HBel := hidIn (hbel.trans hb6)
              have HTl := hidIn hTl
              have x0 := cell_of_row _ _ 0 _ _ _ hXz
              have x1 := cell_of_row _ _ 1 _ _ _ hXz
              have x2 := cell_of_row _ _ 2 _ _ _ hXz
              have x3 := cell_of_row _ _ 3 _ _ _ hXz
              have x4 := cell_of_row _ _ 4 _ _ _ hXz
              simp at x0 x1 x2 x3 x4
              clear hg hrow hbel hXz hpw hTn hrun hown hb6 hTl
              go_wp2_with (refine l_append rfl _ _ 22 rfl HRun.out ?_)
              go_roundw
              case rel => exact ⟨k + 1, by omega, by omega, by go_num, ⟨_, c9, by rw [HTl.out]⟩, hidIn ⟨by rw [HTl.out]; exact HRow.out, HBel.out⟩⟩
              case measure => simp [intOf]; omega
    · have hend : L.take k = L.take 30 := by
        rcases Nat.lt_or_ge k 30 with h | h
        · rw [List.take_of_length_le (by have := Hn.out; omega), List.take_of_length_le (by have := Hn.out; omega)]
        · rw [show k = 30 from by omega]
      rw [hend] at HR
      have HE : Hid ((rlL (L.take k)).length = (rlL (L.take 30)).length) := hidIn (by rw [hend])
      rw [HE.out]
      by_cases h1 : k < n
      · have h1i : (k : Int) < (n : Int) := by omega
        have h2i : ¬ (k : Int) < 30 := by omega
        clear hlt hend
        go_wp2_with fail
        go_returns
        exact ⟨⟨ua, uc, rfl, HR.out.1⟩, HR.out.2⟩
      · have h1i : ¬ (k : Int) < (n : Int) := by omega
        clear hlt hend
        go_wp2_with fail
        go_returns
        exact ⟨⟨ua, uc, rfl, HR.out.1⟩, HR.out.2⟩
end Go.Proofs.Ytkkgbcoclfpicaa.Fa
