/- Plain numbers: how many bits a number has; the library's way to count them. -/
import Derived.Test.YtkkkjpdmjgafoaaM1
namespace Go.Proofs.Ytkkkjpdmjgafoaa.Bi
open Go

/-- How many of the lowest n bits are set. -/
def cntTo (n x : Nat) : Nat := ((List.range n).filter fun k => x.testBit k).length

theorem cntTo_add (a b x : Nat) : cntTo (a + b) x = cntTo a x + cntTo b (x / 2 ^ a) := by
  unfold cntTo
  rw [List.range_add, List.filter_append, List.length_append, List.filter_map, List.length_map]
  congr 1
  congr 1
  apply List.filter_congr
  intro k _
  simp [Nat.testBit_div_two_pow, Nat.add_comm]
theorem cntTo_mod (n x : Nat) : cntTo n (x % 2 ^ n) = cntTo n x := by
  unfold cntTo
  congr 1
  apply List.filter_congr
  intro k hk
  have : k < n := by simpa using hk
  simp [Nat.testBit_mod_two_pow, this]
theorem cntTo_le (n x : Nat) : cntTo n x ≤ n := by
  unfold cntTo
  have := List.length_filter_le (fun k => x.testBit k) (List.range n)
  simpa using this

/-- A byte n times. -/
def rep (mb : Nat) : Nat → Nat
  | 0 => 0
  | n + 1 => mb + 256 * rep mb n
/-- f at each of n bytes. -/
def vs (f : Nat → Nat) : Nat → Nat → Nat
  | 0, _ => 0
  | n + 1, x => f (x % 256) + 256 * vs f n (x / 256)

theorem and_byte (x mb M : Nat) (h : mb < 256) : x &&& (mb + 256 * M) = (x % 256 &&& mb) + 256 * (x / 256 &&& M) := by
  have e1 : (x &&& (mb + 256 * M)) % 2 ^ 8 = x % 2 ^ 8 &&& (mb + 256 * M) % 2 ^ 8 := Nat.and_mod_two_pow ..
  have e2 : (x &&& (mb + 256 * M)) / 2 ^ 8 = x / 2 ^ 8 &&& (mb + 256 * M) / 2 ^ 8 := Nat.and_div_two_pow ..
  have e3 : (mb + 256 * M) % 2 ^ 8 = mb := by omega
  have e4 : (mb + 256 * M) / 2 ^ 8 = M := by omega
  rw [e3] at e1; rw [e4] at e2
  have := Nat.div_add_mod (x &&& (mb + 256 * M)) (2 ^ 8)
  rw [e1, e2] at this
  simp only [show 2 ^ 8 = 256 from rfl] at this
  omega

def g1 (b : Nat) : Nat := (b / 2 &&& 85) + (b &&& 85)
def g2 (b : Nat) : Nat := (b / 4 &&& 51) + (b &&& 51)
def g12 (b : Nat) : Nat := g2 (g1 b)
def pcb (b : Nat) : Nat := g12 b / 16 + g12 b % 16

theorem low1 : ∀ b : Fin 256, ∀ c : Fin 2, ((b.val / 2 + 128 * c.val) &&& 85) = (b.val / 2 &&& 85) := by decide +kernel
theorem low2 : ∀ b : Fin 256, ∀ c : Fin 4, ((b.val / 4 + 64 * c.val) &&& 51) = (b.val / 4 &&& 51) := by decide +kernel
theorem byte_facts : ∀ b : Fin 256, g1 b.val < 256 ∧ g12 b.val < 256 ∧ g12 b.val % 16 ≤ 4 ∧ g12 b.val / 16 ≤ 4 ∧ pcb b.val = cntTo 8 b.val := by decide +kernel

theorem vs1 (n x : Nat) : (x / 2 &&& rep 85 n) + (x &&& rep 85 n) = vs g1 n x := by
  induction n generalizing x with
  | zero => simp [rep, vs]
  | succ n ih =>
    simp only [rep, vs]
    rw [and_byte _ _ _ (by omega), and_byte _ _ _ (by omega), ← ih (x / 256)]
    have e1 : x / 2 % 256 = x % 256 / 2 + 128 * (x / 256 % 2) := by omega
    have e2 : x / 2 / 256 = x / 256 / 2 := by omega
    have e3 := low1 ⟨x % 256, by omega⟩ ⟨x / 256 % 2, by omega⟩
    simp only at e3
    rw [e1, e2, e3]
    unfold g1
    omega
theorem vs2 (n x : Nat) : (x / 4 &&& rep 51 n) + (x &&& rep 51 n) = vs g2 n x := by
  induction n generalizing x with
  | zero => simp [rep, vs]
  | succ n ih =>
    simp only [rep, vs]
    rw [and_byte _ _ _ (by omega), and_byte _ _ _ (by omega), ← ih (x / 256)]
    have e1 : x / 4 % 256 = x % 256 / 4 + 64 * (x / 256 % 4) := by omega
    have e2 : x / 4 / 256 = x / 256 / 4 := by omega
    have e3 := low2 ⟨x % 256, by omega⟩ ⟨x / 256 % 4, by omega⟩
    simp only at e3
    rw [e1, e2, e3]
    unfold g2
    omega
theorem vs12 (n x : Nat) : vs g2 n (vs g1 n x) = vs g12 n x := by
  induction n generalizing x with
  | zero => simp [vs]
  | succ n ih =>
    have h := (byte_facts ⟨x % 256, by omega⟩).1
    simp only at h
    have e1 : (g1 (x % 256) + 256 * vs g1 n (x / 256)) % 256 = g1 (x % 256) := by omega
    have e2 : (g1 (x % 256) + 256 * vs g1 n (x / 256)) / 256 = vs g1 n (x / 256) := by omega
    simp only [vs]
    rw [e1, e2, ih]
    rfl
theorem vs_low (n x : Nat) : vs g12 n x % 16 ≤ 4 := by
  cases n with
  | zero => simp [vs]
  | succ n =>
    have h := (byte_facts ⟨x % 256, by omega⟩).2.2.1
    simp only at h
    simp only [vs]
    omega
theorem vs3 (n x : Nat) : (vs g12 n x / 16 + vs g12 n x) &&& rep 15 n = vs pcb n x := by
  induction n generalizing x with
  | zero => simp [rep, vs]
  | succ n ih =>
    have h := byte_facts ⟨x % 256, by omega⟩
    simp only at h
    have hl := vs_low n (x / 256)
    simp only [rep, vs]
    have e : (g12 (x % 256) + 256 * vs g12 n (x / 256)) / 16 + (g12 (x % 256) + 256 * vs g12 n (x / 256)) = (g12 (x % 256) / 16 + g12 (x % 256) + 16 * (vs g12 n (x / 256) % 16)) + 256 * (vs g12 n (x / 256) / 16 + vs g12 n (x / 256)) := by omega
    rw [e, and_byte _ _ _ (by omega), ← ih (x / 256)]
    have e1 : ((g12 (x % 256) / 16 + g12 (x % 256) + 16 * (vs g12 n (x / 256) % 16)) + 256 * (vs g12 n (x / 256) / 16 + vs g12 n (x / 256))) % 256 = g12 (x % 256) / 16 + g12 (x % 256) + 16 * (vs g12 n (x / 256) % 16) := by omega
    have e2 : ((g12 (x % 256) / 16 + g12 (x % 256) + 16 * (vs g12 n (x / 256) % 16)) + 256 * (vs g12 n (x / 256) / 16 + vs g12 n (x / 256))) / 256 = vs g12 n (x / 256) / 16 + vs g12 n (x / 256) := by omega
    rw [e1, e2]
    have e3 : (g12 (x % 256) / 16 + g12 (x % 256) + 16 * (vs g12 n (x / 256) % 16)) &&& 15 = pcb (x % 256) := by
      rw [show (15 : Nat) = 2 ^ 4 - 1 from rfl, Nat.and_two_pow_sub_one_eq_mod]
      unfold pcb
      omega
    rw [e3]
theorem vs_g1_le (n x : Nat) : vs g1 n x < 256 ^ n := by
  induction n generalizing x with
  | zero => simp [vs]
  | succ n ih =>
    have h := (byte_facts ⟨x % 256, by omega⟩).1
    have h2 := ih (x / 256)
    simp only [vs, Nat.pow_succ]
    simp only at h
    omega
theorem vs_g12_le (n x : Nat) : vs g12 n x ≤ rep 68 n := by
  induction n generalizing x with
  | zero => simp [vs, rep]
  | succ n ih =>
    have h := byte_facts ⟨x % 256, by omega⟩
    have h2 := ih (x / 256)
    simp only [vs, rep]
    simp only at h
    omega

theorem cnt8 (y : Nat) : pcb (y % 256) = cntTo 8 y := by
  have h := (byte_facts ⟨y % 256, by omega⟩).2.2.2.2
  simp only at h
  rw [h]
  exact cntTo_mod 8 y
theorem cnt64 (x : Nat) : cntTo 64 x = cntTo 8 x + (cntTo 8 (x / 256) + (cntTo 8 (x / 256 / 256) + (cntTo 8 (x / 256 / 256 / 256) + (cntTo 8 (x / 256 / 256 / 256 / 256) + (cntTo 8 (x / 256 / 256 / 256 / 256 / 256) + (cntTo 8 (x / 256 / 256 / 256 / 256 / 256 / 256) + cntTo 8 (x / 256 / 256 / 256 / 256 / 256 / 256 / 256))))))) := by
  rw [show 64 = 8 + (8 + (8 + (8 + (8 + (8 + (8 + 8)))))) from rfl]
  simp only [cntTo_add]

theorem fold8 (p0 p1 p2 p3 p4 p5 p6 p7 x3 x4 x5 x6 : Nat) (b0 : p0 ≤ 8) (b1 : p1 ≤ 8) (b2 : p2 ≤ 8) (b3 : p3 ≤ 8) (b4 : p4 ≤ 8) (b5 : p5 ≤ 8) (b6 : p6 ≤ 8) (b7 : p7 ≤ 8) (h3 : x3 = p0 + 256 * (p1 + 256 * (p2 + 256 * (p3 + 256 * (p4 + 256 * (p5 + 256 * (p6 + 256 * (p7 + 256 * 0)))))))) (h4 : x4 = x3 + x3 / 256) (h5 : x5 = x4 + x4 / 65536) (h6 : x6 = x5 + x5 / 4294967296) :
    x3 < 1085102592571150096 ∧ x4 < 9223372036854775808 ∧ x5 < 9223372036854775808 ∧ x6 < 9223372036854775808 ∧ x6 % 128 = p0 + (p1 + (p2 + (p3 + (p4 + (p5 + (p6 + p7)))))) := by
  have q1 : x3 / 256 = (p1) + 256 * (p2) + 65536 * (p3) + 16777216 * (p4) + 4294967296 * (p5) + 1099511627776 * (p6) + 281474976710656 * (p7) := by omega
  have k4 : x4 = (p0 + p1) + 256 * (p1 + p2) + 65536 * (p2 + p3) + 16777216 * (p3 + p4) + 4294967296 * (p4 + p5) + 1099511627776 * (p5 + p6) + 281474976710656 * (p6 + p7) + 72057594037927936 * (p7) := by omega
  clear h4 q1
  have l3 : x3 < 1085102592571150096 := by omega
  clear h3
  have q2 : x4 / 65536 = (p2 + p3) + 256 * (p3 + p4) + 65536 * (p4 + p5) + 16777216 * (p5 + p6) + 4294967296 * (p6 + p7) + 1099511627776 * (p7) := by omega
  have k5 : x5 = (p0 + p1 + p2 + p3) + 256 * (p1 + p2 + p3 + p4) + 65536 * (p2 + p3 + p4 + p5) + 16777216 * (p3 + p4 + p5 + p6) + 4294967296 * (p4 + p5 + p6 + p7) + 1099511627776 * (p5 + p6 + p7) + 281474976710656 * (p6 + p7) + 72057594037927936 * (p7) := by omega
  have l4 : x4 < 9223372036854775808 := by omega
  clear h5 q2 k4
  have q3 : x5 / 4294967296 = (p4 + p5 + p6 + p7) + 256 * (p5 + p6 + p7) + 65536 * (p6 + p7) + 16777216 * (p7) := by omega
  have k6 : x6 = (p0 + p1 + p2 + p3 + p4 + p5 + p6 + p7) + 256 * (p1 + p2 + p3 + p4 + p5 + p6 + p7) + 65536 * (p2 + p3 + p4 + p5 + p6 + p7) + 16777216 * (p3 + p4 + p5 + p6 + p7) + 4294967296 * (p4 + p5 + p6 + p7) + 1099511627776 * (p5 + p6 + p7) + 281474976710656 * (p6 + p7) + 72057594037927936 * (p7) := by omega
  have l5 : x5 < 9223372036854775808 := by omega
  clear h6 q3 k5
  have l6 : x6 < 9223372036854775808 := by omega
  have r : x6 % 128 = p0 + (p1 + (p2 + (p3 + (p4 + (p5 + (p6 + p7)))))) := by omega
  exact ⟨l3, l4, l5, l6, r⟩

/-- The library's steps, one by one. -/
theorem ones_steps (x : Nat) : ∃ x1 x2 x3 x4 x5 x6 : Nat,
    x1 = (x / 2 &&& 6148914691236517205) + (x &&& 6148914691236517205) ∧ x1 < 18446744073709551616 ∧
    x2 = (x1 / 4 &&& 3689348814741910323) + (x1 &&& 3689348814741910323) ∧ x2 < 9223372036854775808 ∧
    x3 = ((x2 / 16 + x2) &&& 1085102592571150095) ∧ x3 < 1085102592571150096 ∧
    x4 = x3 + x3 / 256 ∧ x4 < 9223372036854775808 ∧ x5 = x4 + x4 / 65536 ∧ x5 < 9223372036854775808 ∧ x6 = x5 + x5 / 4294967296 ∧ x6 < 9223372036854775808 ∧ x6 % 128 = cntTo 64 x := by
  have r1 : rep 85 8 = 6148914691236517205 := by decide
  have r2 : rep 51 8 = 3689348814741910323 := by decide
  have r3 : rep 15 8 = 1085102592571150095 := by decide
  have r4 : rep 68 8 = 4919131752989213764 := by decide
  have e1 := vs1 8 x
  rw [r1] at e1
  have e2 := vs2 8 (vs g1 8 x)
  rw [r2, vs12] at e2
  have e3 := vs3 8 x
  rw [r3] at e3
  have l1 := vs_g1_le 8 x
  have l2 := vs_g12_le 8 x
  rw [r4] at l2
  have l1' : vs g1 8 x < 18446744073709551616 := by simpa using l1
  have hv : vs pcb 8 x = pcb (x % 256) + 256 * (pcb (x / 256 % 256) + 256 * (pcb (x / 256 / 256 % 256) + 256 * (pcb (x / 256 / 256 / 256 % 256) + 256 * (pcb (x / 256 / 256 / 256 / 256 % 256) + 256 * (pcb (x / 256 / 256 / 256 / 256 / 256 % 256) + 256 * (pcb (x / 256 / 256 / 256 / 256 / 256 / 256 % 256) + 256 * (pcb (x / 256 / 256 / 256 / 256 / 256 / 256 / 256 % 256) + 256 * 0))))))) := rfl
  have hc := cnt64 x
  simp only [← cnt8] at hc
  have b0 := cntTo_le 8 x; rw [← cnt8] at b0
  have b1 := cntTo_le 8 (x / 256); rw [← cnt8] at b1
  have b2 := cntTo_le 8 (x / 256 / 256); rw [← cnt8] at b2
  have b3 := cntTo_le 8 (x / 256 / 256 / 256); rw [← cnt8] at b3
  have b4 := cntTo_le 8 (x / 256 / 256 / 256 / 256); rw [← cnt8] at b4
  have b5 := cntTo_le 8 (x / 256 / 256 / 256 / 256 / 256); rw [← cnt8] at b5
  have b6 := cntTo_le 8 (x / 256 / 256 / 256 / 256 / 256 / 256); rw [← cnt8] at b6
  have b7 := cntTo_le 8 (x / 256 / 256 / 256 / 256 / 256 / 256 / 256); rw [← cnt8] at b7
  obtain ⟨l3, l4, l5, l6, r⟩ := fold8 _ _ _ _ _ _ _ _ _ _ _ _ b0 b1 b2 b3 b4 b5 b6 b7 hv rfl rfl rfl
  exact ⟨vs g1 8 x, vs g12 8 x, vs pcb 8 x, _, _, _, e1.symm, l1', e2.symm, by omega, e3.symm, l3, rfl, l4, rfl, l5, rfl, l6, by rw [r, hc]⟩
end Go.Proofs.Ytkkkjpdmjgafoaa.Bi
