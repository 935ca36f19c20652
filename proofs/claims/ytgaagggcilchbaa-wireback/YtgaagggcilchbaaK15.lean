/- wire.Hex. -/
import Derived.Test.YtgaagggcilchbaaK5
import Derived.Test.YtgaagggcilchbaaK4
import Derived.Deep.RegionHeld3
import Derived.Deep.RegionLaw
import Derived.Deep.DeepAppendRoom
namespace Go.Proofs.Ytgaagggcilchbaa
open Go.RowKit

theorem step_append_bytes {w : World} {ops : Array Oper} {o : Oper} {a : Act} {K : Act → World → Prop} {Q : Exit → Act → World → Prop} {E : Prop} (hgd : o.guard = none) (s x : Operand)
    (ho : o.op = .call { callee := .builtin .append, args := #[s, x], argTypes := #[36, 36] }) (base : Nat) (v : Value) (l : List Int) (hs : a.eval s = v) (hown : OwnB w base v l)
    (b c : Nat) (news : List Int) (hx : a.eval x = .slice (some ⟨b, 0, none⟩) news.length c) (hnews : ∀ j, j < news.length → w.cell? ⟨b, j, none⟩ = some (.int .u8 (news.getD j 0)))
    (hlen : l.length + news.length ≤ 140737488355328) (hbase : base ≤ w.heap.size)
    (h : ∀ v' w', OwnB w' base v' (l ++ news) → Below base w w' → K (a.put o.dst v') w') : if Region.wanted o (yielded ops a.tmps) = true then Oper.wp Try.prog o a w K Q else E := by
  have hw : Region.wanted o (yielded ops a.tmps) = true := by simp [Region.wanted, hgd]
  rw [if_pos hw]
  obtain ⟨i0, hi, hz0, hz1, hz2⟩ := info_parts binfo
  refine wp_append_own w s x 36 ho base 5 i0 (.int .u8 0) 1 1 Try.underlying36 hi hz0 hz1 hz2 rfl (by decide) v l.length (l.map (Value.int .u8)) hs hown
    ⟨b, 0, none⟩ news.length c (news.map (Value.int .u8)) hx (by simp) ?_ ?_ (by unfold maxLen; omega) (by omega) hbase ?_
  · intro j u hu
    rw [List.getElem?_map] at hu
    cases hj : news[j]? with
    | none => rw [hj] at hu; cases hu
    | some z =>
      rw [hj] at hu
      rw [addr_add', Nat.zero_add, hnews j (List.getElem?_eq_some_iff.1 hj).1, List.getD_eq_getElem?_getD, hj]
      exact hu
  · intro u hu
    obtain ⟨z, _, rfl⟩ := List.mem_map.1 hu
    rfl
  · intro v' w' hown' hg _
    refine h v' w' ?_ (below_grown hown hbase hg)
    unfold OwnB
    rw [List.length_append, List.map_append]
    exact hown'
theorem step_append_bytes2 {w0 w : World} {T : TypeId} {n m : Int} {ops : Array Oper} {o : Oper} {a : Act} {K : Act → World → Prop} {Q : Exit → Act → World → Prop} {E : Prop} (hgd : o.guard = none) (s x : Operand)
    (ho : o.op = .call { callee := .builtin .append, args := #[s, x], argTypes := #[36, 36] }) (v : Value) (l : List Int) (hs : a.eval s = v) (hown : OwnB w w0.heap.size v l) (hbel : Below w0.heap.size w0 w)
    (b c : Nat) (hb : w.heap.size = b) (hx : a.eval x = .slice (some ⟨b, 0, none⟩) 2 c) (hlen : l.length + 2 ≤ 140737488355328)
    (h : ∀ v' w', OwnB w' w0.heap.size v' (l ++ [n, m]) → Below w0.heap.size w0 w' → K (a.put o.dst v') w') : if Region.wanted o (yielded ops a.tmps) = true then Oper.wp Try.prog o a (w.alloc (.cells #[.int .u8 n, .int .u8 m] T)) K Q else E := by
  subst hb
  have hbase := hbel.size
  refine step_append_bytes hgd s x ho w0.heap.size v l hs (hown.alloc _) w.heap.size c [n, m] hx ?_ hlen (by simp; omega) ?_
  · intro j hj
    have : j = 0 ∨ j = 1 := by simp at hj; omega
    rcases this with rfl | rfl <;> simp
  · intro v' w' h1 h2
    exact h v' w' h1 ((hbel.alloc hbase _).trans h2)
theorem step_append_spare2 {w0 w : World} {T : TypeId} {n m : Int} {ops : Array Oper} {o : Oper} {a : Act} {K : Act → World → Prop} {Q : Exit → Act → World → Prop} {E : Prop} (hgd : o.guard = none) (s x : Operand)
    (ho : o.op = .call { callee := .builtin .append, args := #[s, x], argTypes := #[36, 36] }) (g k cap : Nat) (l : List Int) (hs : a.eval s = .slice (some ⟨g, 0, none⟩) k cap) (hl : l.length = k)
    (hown : OwnB w w0.heap.size (.slice (some ⟨g, 0, none⟩) k cap) l) (hbel : Below w0.heap.size w0 w)
    (b c : Nat) (hb : w.heap.size = b) (hx : a.eval x = .slice (some ⟨b, 0, none⟩) 2 c) (hroom : k + 2 ≤ cap)
    (h : ∀ w', OwnB w' w0.heap.size (.slice (some ⟨g, 0, none⟩) (k + 2) cap) (l ++ [n, m]) → Below w0.heap.size w0 w' → K (a.put o.dst (.slice (some ⟨g, 0, none⟩) (k + 2) cap)) w') : if Region.wanted o (yielded ops a.tmps) = true then Oper.wp Try.prog o a (w.alloc (.cells #[.int .u8 n, .int .u8 m] T)) K Q else E := by
  subst hb
  subst hl
  have hw : Region.wanted o (yielded ops a.tmps) = true := by simp [Region.wanted, hgd]
  rw [if_pos hw]
  obtain ⟨i0, hi, hz0, hz1, hz2⟩ := info_parts binfo
  have hbase := hbel.size
  have hown2 := hown.alloc (.cells #[.int .u8 n, .int .u8 m] T)
  refine wp_append_own_spare _ s x 36 ho w0.heap.size 5 i0 1 Try.underlying36 hi hz1 g l.length cap (l.map (Value.int .u8)) hs hown2 ⟨w.heap.size, 0, none⟩ 2 c ([n, m].map (Value.int .u8)) hx rfl ?_ ?_ hroom ?_
  · intro j u hu
    rw [addr_add', Nat.zero_add]
    have : j = 0 ∨ j = 1 ∨ 2 ≤ j := by omega
    rcases this with rfl | rfl | h2
    · simpa using hu
    · simpa using hu
    · rw [List.getElem?_eq_none (by simpa using h2)] at hu
      cases hu
  · intro u hu
    obtain ⟨z, _, rfl⟩ := List.mem_map.1 hu
    rfl
  · intro w' h1 hg
    refine h w' ?_ ((hbel.alloc hbase _).trans (below_grown hown2 (by simp; omega) hg))
    unfold OwnB
    rw [List.length_append, List.map_append]
    exact h1
theorem make_bytes (c : Nat) (hc : c ≤ 281474976710656) (w : World) : (Instr.makeSlice 36 (.int .i64 0) (.int .i64 (c : Int))).run Try.prog w = .ok (.slice (some ⟨w.heap.size, 0, none⟩) 0 c) (w.alloc (.cells (madeCells #[.int .u8 0] c) 5)) := by
  obtain ⟨i0, hi, hz0, hz1, hz2⟩ := info_parts binfo
  have := run_make (P := Try.prog) w 36 5 i0 (.int .u8 0) Try.underlying36 hi hz0 .i64 .i64 0 c (Int.le_refl _) (by omega) (by rw [hz2]; omega) (by omega)
  rw [hz1, Nat.mul_one] at this
  simpa [Value.cells] using this
theorem ownB_made (w : World) (c : Nat) (hc : c ≤ 281474976710656) : OwnB (w.alloc (.cells (madeCells #[.int .u8 0] c) 5)) w.heap.size (.slice (some ⟨w.heap.size, 0, none⟩) 0 c) [] := by
  unfold OwnB
  exact World.ownsRow_made w _ c (Nat.le_refl _) (by unfold maxLen; omega) (by simp [size_madeCells])

/-- A digit's letter. -/
def hexd (k : Nat) : Int := if k < 10 then 48 + (k : Int) else 87 + (k : Int)
/-- Bytes as digits. -/
def hexL (l : List UInt8) : List Int := l.flatMap fun c => [hexd (c.toNat / 16), hexd (c.toNat % 16)]
theorem hexL_len (l : List UInt8) : (hexL l).length = 2 * l.length := by
  induction l with
  | nil => rfl
  | cons c l ih =>
    unfold hexL at ih ⊢
    rw [List.flatMap_cons, List.length_append, ih]
    simp
    omega
theorem hexL_snoc (l : List UInt8) (c : UInt8) : hexL (l ++ [c]) = hexL l ++ [hexd (c.toNat / 16), hexd (c.toNat % 16)] := by
  unfold hexL
  rw [List.flatMap_append]
  simp
theorem and_15 (x : UInt8) : bits .and .u8 (x.toNat : Int) 15 = ((x.toNat % 16 : Nat) : Int) := by
  have := u8_and_nat x.toNat 15 (by have := x.toNat_lt; omega) (by decide)
  rw [show ((15 : Nat) : Int) = 15 from rfl] at this
  rw [this, nat_mask4]
abbrev digs : ByteArray := ⟨#[48, 49, 50, 51, 52, 53, 54, 55, 56, 57, 97, 98, 99, 100, 101, 102]⟩
theorem hexd_get (i : Int) (n : Nat) (hi : i.toNat = n) (hn : n < 16) (h : i.toNat < digs.size) : ((digs[i.toNat]'h).toNat : Int) = hexd n := by
  subst hi
  generalize i.toNat = n at hn h
  have : n = 0 ∨ n = 1 ∨ n = 2 ∨ n = 3 ∨ n = 4 ∨ n = 5 ∨ n = 6 ∨ n = 7 ∨ n = 8 ∨ n = 9 ∨ n = 10 ∨ n = 11 ∨ n = 12 ∨ n = 13 ∨ n = 14 ∨ n = 15 := by omega
  rcases this with rfl | rfl | rfl | rfl | rfl | rfl | rfl | rfl | rfl | rfl | rfl | rfl | rfl | rfl | rfl | rfl <;> rfl
set_option maxHeartbeats 1000000 in
theorem hex_any (b : ByteArray) (hb : b.size ≤ 140737488355328) (w : World) :
    Calls Try.prog 7 #[.string b] w fun e w' => e = .returned (.string (strOfNums (hexL b.data.toList))) ∧ Below w.heap.size w w' := by
  have hmk := make_bytes (2 * b.size) (by omega)
  have hmd := ownB_made w (2 * b.size) (by omega)
  rw [show ((2 * b.size : Nat) : Int) = 2 * (b.size : Int) from by simp] at hmk
  have HM := hidIn hmd
  clear hmd
  go_enter Try.func7, Try.ntmps7
  go_wp2
  go_loopw [3, 11] (fun v i wr => ∃ k : Nat, k ≤ b.size ∧ i = .int .i64 k ∧ v = .slice (some ⟨w.heap.size, 0, none⟩) (2 * k) (2 * b.size) ∧ OwnB wr w.heap.size v (hexL (b.data.toList.take k)) ∧ Below w.heap.size w wr) (fun _ i _ => b.size - (intOf i).toNat)
  case atStart => exact ⟨0, Nat.zero_le _, rfl, rfl, HM.out, (Below.refl _ _).alloc (Nat.le_refl _) _⟩
  case round =>
    obtain ⟨k, hk, rfl, rfl, hown, hbel⟩ := hrel
    by_cases hlt : k < b.size
    · have hX := b[k].toNat_lt
      have hAN := and_15 b[k]
      have hi0 : (0 : Int) ≤ (b[k].toNat : Int) / 16 := by omega
      have hi1 : (b[k].toNat : Int) / 16 < 16 := by omega
      have hi2 : (0 : Int) ≤ (b[k].toNat : Int) % 16 := by omega
      have hi3 : (b[k].toNat : Int) % 16 < 16 := by omega
      have hll : (hexL (b.data.toList.take k)).length = 2 * k := by
        rw [hexL_len, List.length_take, Nat.min_eq_left (by simp; omega)]
      have hrm : 2 * k + 2 ≤ 2 * b.size := by omega
      have HO := hidIn (show OwnB wr.drew w.heap.size _ (hexL (b.data.toList.take k)) from hown)
      have HD := hidIn (show Below w.heap.size w wr.drew from hbel.drew)
      clear hown hmk
      go_wp2
      go_region_law ((refine step_append_spare2 (w0 := w) (w := wr.drew) rfl (.tmp 14) (.tmp 25) rfl w.heap.size (2 * k) (2 * b.size) (hexL (b.data.toList.take k)) (by simp [Act.eval]) hll HO.out HD.out wr.heap.size 2 rfl (by simp [Act.eval]) hrm ?_; intro w1 h1 b1))
      all_goals
        go_wp2
        go_roundw
        case rel =>
          refine ⟨k + 1, by omega, by go_num, rfl, ?_, b1⟩
          rw [take_snoc b k hlt, hexL_snoc, ← hexd_get ((b[k].toNat : Int) / 16) (b[k].toNat / 16) (by omega) (by omega) (by show _ < 16; omega), ← hexd_get ((b[k].toNat : Int) % 16) (b[k].toNat % 16) (by omega) (by omega) (by show _ < 16; omega)]
          exact h1
        case measure => simp [intOf]; omega
    · obtain rfl : k = b.size := by omega
      have hc := hown.string
      rw [List.take_of_length_le (by simp)] at hc
      go_wp2
      go_ret
      exact ⟨rfl, hbel⟩
end Go.Proofs.Ytgaagggcilchbaa
