/- Routers and links, ad lists. -/
import Derived.Test.YtkhfpcnmnnboeaaGUP
namespace Go.Proofs.Ytkhfpcnmnnboeaa

def rOk : (Nat → Bool) → List Int → Bool
  | _, [] => true
  | f, n :: ns => isR n && (!f n.toNat && rOk (mk1 f n.toNat) ns)
def rF (f : Nat → Bool) (ns : List Int) : Nat → Bool := ns.foldl (fun f n => mk1 f n.toNat) f
theorem rF_snoc (f : Nat → Bool) (ns : List Int) (n : Int) : rF f (ns ++ [n]) = mk1 (rF f ns) n.toNat := by simp [rF, List.foldl_append]
/-- May a link be, among routers? -/
def lkOk (f : Nat → Bool) (k : Ed) : Bool := isR k.1 && (isR k.2.1 && (f k.1.toNat && (f k.2.1.toNat && (!decide (k.1 = k.2.1) && isC k.2.2))))
def put4 (c : Nat → Nat → Int) (k : Ed) : Nat → Nat → Int := put2 (put2 c k.1.toNat k.2.1.toNat k.2.2) k.2.1.toNat k.1.toNat k.2.2
def lkC (f : Nat → Bool) : (Nat → Nat → Int) → List Ed → Int
  | _, [] => 0
  | c, k :: ls => if lkOk f k = true then (if c k.1.toNat k.2.1.toNat = 0 then lkC f (put4 c k) ls else 7) else 2
def lkF (c : Nat → Nat → Int) (ls : List Ed) : Nat → Nat → Int := ls.foldl put4 c
theorem lkF_snoc (c : Nat → Nat → Int) (ls : List Ed) (k : Ed) : lkF c (ls ++ [k]) = put4 (lkF c ls) k := by simp [lkF, List.foldl_append]
theorem lkC_bad {f : Nat → Bool} {c : Nat → Nat → Int} {k : Ed} {ls : List Ed} (h : lkOk f k = false) : lkC f c (k :: ls) = 2 := by simp [lkC, h]
theorem lkC_busy {f : Nat → Bool} {c : Nat → Nat → Int} {k : Ed} {ls : List Ed} (h : lkOk f k = true) (h2 : c k.1.toNat k.2.1.toNat ≠ 0) : lkC f c (k :: ls) = 7 := by simp [lkC, h, h2]
theorem lkC_on {f : Nat → Bool} {c : Nat → Nat → Int} {k : Ed} {ls : List Ed} (h : lkOk f k = true) (h2 : c k.1.toNat k.2.1.toNat = 0) : lkC f c (k :: ls) = lkC f (put4 c k) ls := by simp [lkC, h, h2]
/-- What Of answers. -/
def ofC (ns : List Int) (ls : List Ed) : Int := if rOk no1 ns = true then (if ls.length ≤ 48 then lkC (rF no1 ns) no2 ls else 3) else 2
def ofN (ns : List Int) (ls : List Ed) : List Int := if ofC ns ls = 0 then markedL (rF no1 ns) else []
def ofE (ns : List Int) (ls : List Ed) : List Ed := if ofC ns ls = 0 then laidE (lkF no2 ls) else []
theorem lkOk_parts {f : Nat → Bool} {k : Ed} (h : lkOk f k = true) : (1 ≤ k.1 ∧ k.1 ≤ 24) ∧ (1 ≤ k.2.1 ∧ k.2.1 ≤ 24) ∧ f k.1.toNat = true ∧ f k.2.1.toNat = true ∧ k.1 ≠ k.2.1 ∧ 1 ≤ k.2.2 ∧ k.2.2 ≤ 1000 := by
  simp only [lkOk, Bool.and_eq_true, isR_iff, isC_iff, Bool.not_eq_true', decide_eq_false_iff_not] at h
  exact ⟨h.1, h.2.1, h.2.2.1, h.2.2.2.1, h.2.2.2.2.1, h.2.2.2.2.2⟩
end Go.Proofs.Ytkhfpcnmnnboeaa
