/- sets.sorted. -/
import Derived.Test.YtjcbbifjhoemaaaDoorS2
namespace Go.Proofs.YtjcbbifjhoemaaaDoor
open Go.RowKit

/-- Another bit string for one set. -/
def upd (f : Nat → Nat) (s N : Nat) : Nat → Nat := fun i => if i = s then N else f i
/-- One id more. -/
def addId (W : Nat) (f : Nat → Nat) (z : Int) : Nat → Nat := upd f ((z - 1).toNat / W) (f ((z - 1).toNat / W) ||| 2 ^ ((z - 1).toNat % W))
/-- The ids, sorted by sets. -/
def srt (W : Nat) (zs : List Int) : Nat → Nat := zs.foldl (addId W) none0
theorem srt_snoc (W : Nat) (zs : List Int) (z : Int) : srt W (zs ++ [z]) = addId W (srt W zs) z := by simp [srt, List.foldl_append]
def allIds (zs : List Int) : Prop := ∀ z ∈ zs, 1 ≤ z ∧ z ≤ 1024
theorem cl_get (f : Nat → Nat) (j : Nat) (h : j < 512) : (cl f)[j]? = some (.int .u64 (wd (f (j / 4)) (j % 4))) := by
  simp only [cl, List.getElem?_map]
  rw [List.getElem?_range h]
  rfl
/-- The four cells of one set. -/
abbrev four (N : Nat) : List Value := [.int .u64 (wd N 0), .int .u64 (wd N 1), .int .u64 (wd N 2), .int .u64 (wd N 3)]
theorem four_get (N j : Nat) (h : j < 4) : (four N)[j]? = some (.int .u64 (wd N j)) := by
  match j, h with
  | 0, _ => rfl
  | 1, _ => rfl
  | 2, _ => rfl
  | 3, _ => rfl
theorem HasAll.cell {w : World} {b : Nat} {f : Nat → Nat} (h : HasAll w b f) (j : Nat) (hj : j < 512) : w.cell? ⟨b, j, none⟩ = some (.int .u64 (wd (f (j / 4)) (j % 4))) := by
  have := h.r j _ (cl_get f j hj)
  rwa [Nat.zero_add] at this
theorem HasAll.one {w : World} {b : Nat} {f : Nat → Nat} (h : HasAll w b f) (s : Nat) (hs : s < 128) : w.rangeAt b (s * 4) (four (f s)) := by
  intro j v hv
  have hj : j < 4 := by have := (List.getElem?_eq_some_iff.1 hv).1; simpa using this
  rw [four_get _ _ hj] at hv
  rw [h.cell (s * 4 + j) (by omega), ← hv, show (s * 4 + j) / 4 = s from by omega, show (s * 4 + j) % 4 = j from by omega]
theorem HasAll.set {w : World} {b : Nat} {f : Nat → Nat} (h : HasAll w b f) (s N : Nat) (hs : s < 128) : HasAll (w.setCells b (s * 4) (four N)) b (upd f s N) := by
  have hth : w.there b (s * 4) 4 := fun j hj => by have := h.t (s * 4 + j) (by omega); rwa [Nat.zero_add] at this
  have hc : ∀ j, j < 512 → (w.setCells b (s * 4) (four N)).cell? ⟨b, j, none⟩ = some (.int .u64 (wd (upd f s N (j / 4)) (j % 4))) := fun j hj => by
    by_cases hin : j / 4 = s
    · have := World.rangeAt_setCells_same w b (s * 4) (four N) hth (j % 4) _ (four_get N (j % 4) (by omega))
      rw [show s * 4 + j % 4 = j from by omega] at this
      rw [this, upd, if_pos hin]
    · rw [World.cell?_setCells_out b (four N) (s * 4) w ⟨b, j, none⟩ (fun _ _ => by show j < s * 4 ∨ s * 4 + 4 ≤ j; omega), h.cell j hj, upd, if_neg hin]
  refine ⟨fun j v hv => ?_, fun j hj => ⟨World.isSome_setCells b _ _ w _ (h.t j hj).1, ?_⟩, by rw [size_setCells]; exact h.lt⟩
  · have hj : j < 512 := by have := (List.getElem?_eq_some_iff.1 hv).1; rwa [cl_len] at this
    rw [cl_get _ _ hj] at hv
    rw [Nat.zero_add, hc j hj, hv]
  · rw [World.frozen?_setCells]; exact (h.t j hj).2
theorem under_bits : Tryd.prog.underlying 35 = some (.array 4 33) := by kernel_rfl
theorem size_bits : (Tryd.prog.info? 35).map (·.size) = some 4 := by kernel_rfl
theorem l_load1 {ops : Array Oper} {rest : List Oper} {o : Oper} {a : Act} {w : World} {Q : Exit → Act → World → Prop} (hgd : o.guard = none) (x : Operand) (ho : o.op = .load 35 x)
    (b off s : Nat) (f : Nat → Nat) (hx : a.eval x = .pointer (some ⟨b, off, none⟩)) (hoff : off = s * 4) (hs : s < 128) (hA : HasAll w b f)
    (h : wpList Tryd.prog ops Q rest (a.put o.dst (bs (f s))) w) : wpList Tryd.prog ops Q (o :: rest) a w := by
  subst hoff
  exact wpList_load_mid hgd 35 x ho b (s * 4) hx (four (f s)) (.array 4 33) (hA.one s hs) under_bits rfl size_bits h
theorem l_store1 {ops : Array Oper} {rest : List Oper} {o : Oper} {a : Act} {w : World} {Q : Exit → Act → World → Prop} (hgd : o.guard = none) (x y : Operand) (ho : o.op = .store 35 x y)
    (b off s N : Nat) (f : Nat → Nat) (hx : a.eval x = .pointer (some ⟨b, off, none⟩)) (hy : a.eval y = bs N) (hoff : off = s * 4) (hs : s < 128) (hA : HasAll w b f)
    (h : ∀ W, HasAll W b (upd f s N) → (∀ B, B ≤ b → Below B w W) → W.heap.size = w.heap.size → wpList Tryd.prog ops Q rest (a.put o.dst undef) W) : wpList Tryd.prog ops Q (o :: rest) a w := by
  subst hoff
  refine wpList_store_mid hgd 35 x y ho b (s * 4) (four N).toArray hx hy (fun j hj => by have hj' : j < 4 := hj; have := hA.t (s * 4 + j) (by omega); rwa [Nat.zero_add] at this) size_bits (by simp [Value.oneCell']) ?_
  exact h _ (hA.set s N hs) (fun B hB => below_setCells b _ _ w B hB) (size_setCells b _ _ w)
theorem take_next {zs : List Int} {k : Nat} (h : k < zs.length) : zs.take (k + 1) = zs.take k ++ [zs[k]?.getD 0] := by
  rw [List.take_add_one, List.getElem?_eq_getElem h]; rfl
theorem allIds_next {zs : List Int} {k : Nat} (h : k < zs.length) (ha : allIds (zs.take k)) (hz : 1 ≤ zs[k]?.getD 0 ∧ zs[k]?.getD 0 ≤ 1024) : allIds (zs.take (k + 1)) := by
  rw [take_next h]
  intro z hz'
  rcases List.mem_append.1 hz' with h' | h'
  · exact ha z h'
  · simp at h'; rw [h']; exact hz
/-- What sorted answers. -/
abbrev srtV (f : Nat → Nat) (e : Int) : Value := .tuple #[.agg (cl f).toArray, .int .i64 e]
/-- The block of no bits. -/
abbrev ob0 : Obj := .cells (cl none0).toArray 44

set_option maxRecDepth 100000 in
set_option maxHeartbeats 2000000 in
theorem sorted_all (zs : List Int) (bk o cap W : Nat) (hW : IsW W) (w : World) (ht : Wid w) (hl : zs.length ≤ 9223372036854775807) (hcell : ∀ j, j < zs.length → w.cell? ⟨bk, o + j, none⟩ = some (.int .i64 (zs[j]?.getD 0))) (hbk : bk < w.heap.size) :
    Calls Tryd.prog 13 #[.slice (some ⟨bk, o, none⟩) zs.length cap, .int .i64 W] w fun e w' => ((allIds zs ∧ e = .returned (srtV (srt W zs) 0)) ∨ (¬ allIds zs ∧ e = .returned (srtV none0 2))) ∧ Below w.heap.size w w' := by
  have Hc := hidIn hcell
  clear hcell
  have hz := zero_by
  have hA0 := hasAll_new w none0
  have hA1 := hasAll_new (w.alloc ob0) none0
  rw [World.size_alloc] at hA1
  have b1 : Below w.heap.size w (w.alloc ob0) := (Below.refl _ w).alloc (Nat.le_refl _) _
  have b2 : Below (w.heap.size + 1) (w.alloc ob0) ((w.alloc ob0).alloc ob0) := (Below.refl _ _).alloc (by simp) _
  go_enter Tryd.func13, Tryd.ntmps13
  go_wp2_with (go_at_call 20; refine (wide_yes W hW _ (ht.keep b1)).mono ?_; rintro e w1 ⟨rfl, rfl⟩)
  go_loopw [18] (fun i wr => ∃ k : Nat, k ≤ zs.length ∧ i = .int .i64 k ∧ Hid (allIds (zs.take k)) ∧ HasAll wr (w.heap.size + 1) (srt W (zs.take k)) ∧ Below (w.heap.size + 1) (w.alloc ob0) wr) (fun i _ => zs.length - (intOf i).toNat)
  case atStart => exact ⟨0, Nat.zero_le _, rfl, hidIn (by intro z hz; simp at hz), hA1, b2⟩
  case round =>
    obtain ⟨k, hk, rfl, HP, hB, hbel⟩ := hrel
    have ht1 := (ht.keep b1).keep (by rw [World.size_alloc]; exact hbel)
    have hR := hA0.keep hbel (by omega)
    by_cases hlt : k < zs.length
    · have hcc : wr.cell? ⟨bk, o + k, none⟩ = some (.int .i64 (zs[k]?.getD 0)) := by
        rw [hbel.cell (p := ⟨bk, o + k, none⟩) (show bk < w.heap.size + 1 by omega)]
        exact cell_later b1 (Hc.out k hlt)
      by_cases hgood : 1 ≤ zs[k]?.getD 0 ∧ zs[k]?.getD 0 ≤ 1024
      · obtain ⟨m, hm, hzm⟩ : ∃ m : Nat, m < 1024 ∧ zs[k]?.getD 0 = (m : Int) + 1 := ⟨(zs[k]?.getD 0 - 1).toNat, by omega, by omega⟩
        have HP1 : Hid (allIds (zs.take (k + 1))) := hidIn (allIds_next hlt HP.out hgood)
        have HX : Hid (srt W (zs.take (k + 1)) = upd (srt W (zs.take k)) (m / W) (srt W (zs.take k) (m / W) ||| 2 ^ (m % W))) := hidIn (by
          rw [take_next hlt, srt_snoc, hzm, addId, Int.add_sub_cancel, Int.toNat_natCast])
        rw [hzm] at hcc
        clear hgood hzm
        generalize srt W (zs.take k) = F at hB HX
        have hWb := isW_pos hW
        have hs : m / W < 128 := by
          have : m / W ≤ m / 8 := Nat.div_le_div_left hWb.1 (by omega)
          omega
        have hr : m % W < 256 := by have := Nat.mod_lt m (show 0 < W by omega); omega
        have hpl := fun w' h' => place_yes m W hm hW w' h'
        generalize m / W = S at hs HX hpl
        generalize m % W = R at hr HX hpl
        have Hp := hidIn hpl
        clear hpl
        go_wp2_with (first
          | (go_at_call 19; refine (Hp.out _ ht1).mono ?_; rintro e w3 ⟨rfl, hb3⟩; have hB3 := hB.keep hb3 hB.lt)
          | (refine l_load1 rfl _ rfl _ _ S _ rfl (by simp) hs hB3 ?_)
          | (go_at_call 27; refine (with_yes _ R hr _).mono ?_; rintro e w4 ⟨rfl, hb4⟩; have hB4 := hB3.keep hb4 hB3.lt)
          | (refine l_store1 rfl _ _ rfl _ _ S _ _ rfl rfl (by simp) hs hB4 ?_; intro V hV bV sV))
        have hsz := hbel.size
        rw [World.size_alloc] at hsz
        have hsz3 := hb3.size
        exact ⟨⟨k + 1, by omega, by go_num, HP1, by rw [HX.out]; exact hV, ((hbel.trans (hb3.mono hsz)).trans (hb4.mono (Nat.le_trans hsz hsz3))).trans (bV _ (Nat.le_refl _))⟩, by simp [intOf]; omega⟩
      · have hno : Hid (¬ allIds zs) := hidIn (fun h => hgood (h _ (by rw [List.getElem?_eq_getElem hlt]; simp)))
        have hbad : zs[k]?.getD 0 < 1 ∨ 1024 < zs[k]?.getD 0 := by omega
        clear hgood
        generalize zs[k]?.getD 0 = z at hcc hbad
        go_wp2_with (first
          | (go_at_call 19; refine (place_no _ _ (.inr hbad) _ ht1).mono ?_; rintro e w3 ⟨rfl, rfl⟩)
          | (refine l_build rfl rfl ?_)
          | (refine l_store rfl _ _ rfl _ _ _ rfl rfl hR ?_; intro V hV bV sV))
        refine bodyPost_ret (v := srtV none0 2) (by simp [results, Tryd.results13, asAddr, Result.andThen, load_all hV]) rfl ⟨.inr ⟨hno.out, rfl⟩, ?_⟩
        exact (b1.trans (hbel.mono (Nat.le_succ _))).trans (bV _ (Nat.le_refl _))
    · have hke : k = zs.length := by omega
      have HT : Hid (srt W (zs.take k) = srt W zs) := by rw [hke, List.take_length]; exact rfl
      have hyes : Hid (allIds zs) := by have := HP.out; rw [hke, List.take_length] at this; exact this
      generalize srt W (zs.take k) = F at hB HT
      have hle : ¬ ((k : Int) < (zs.length : Int)) := by omega
      clear hke
      go_wp2_with (first
        | (refine l_load rfl _ rfl _ _ rfl hB ?_)
        | (refine l_store rfl _ _ rfl _ _ _ rfl rfl hR ?_; intro V hV bV sV))
      refine bodyPost_ret (v := srtV F 0) (by simp [results, Tryd.results13, asAddr, Result.andThen, load_all hV]) rfl ⟨.inl ⟨hyes.out, by rw [HT.out]⟩, ?_⟩
      exact (b1.trans (hbel.mono (Nat.le_succ _))).trans (bV _ (Nat.le_refl _))

set_option maxRecDepth 100000 in
set_option maxHeartbeats 1000000 in
theorem sorted_nil (a : Option Addr) (cap W : Nat) (hW : IsW W) (w : World) (ht : Wid w) :
    Calls Tryd.prog 13 #[.slice a 0 cap, .int .i64 W] w fun e w' => e = .returned (srtV none0 0) ∧ Below w.heap.size w w' := by
  have hz := zero_by
  have hA0 := hasAll_new w none0
  have hA1 := hasAll_new (w.alloc ob0) none0
  rw [World.size_alloc] at hA1
  have b1 : Below w.heap.size w (w.alloc ob0) := (Below.refl _ w).alloc (Nat.le_refl _) _
  have b2 : Below (w.heap.size + 1) (w.alloc ob0) ((w.alloc ob0).alloc ob0) := (Below.refl _ _).alloc (by simp) _
  have hR := hA0.keep b2 (Nat.lt_succ_self _)
  go_enter Tryd.func13, Tryd.ntmps13
  go_wp2_with (go_at_call 20; refine (wide_yes W hW _ (ht.keep b1)).mono ?_; rintro e w1 ⟨rfl, rfl⟩)
  go_loopw [18] (fun i wr => i = .int .i64 0 ∧ wr = (w.alloc ob0).alloc ob0) (fun _ _ => 0)
  case atStart => exact ⟨rfl, rfl⟩
  obtain ⟨rfl, rfl⟩ := hrel
  go_wp2_with (first
    | (refine l_load rfl _ rfl _ _ rfl hA1 ?_)
    | (refine l_store rfl _ _ rfl _ _ _ rfl rfl hR ?_; intro V hV bV sV))
  refine bodyPost_ret (v := srtV none0 0) (by simp [results, Tryd.results13, asAddr, Result.andThen, load_all hV]) rfl ⟨rfl, ?_⟩
  exact (b1.trans (b2.mono (Nat.le_succ _))).trans (bV _ (Nat.le_refl _))
end Go.Proofs.YtjcbbifjhoemaaaDoor
