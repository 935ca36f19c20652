/- Of GraphLess: appends, slices, remainders. -/
import Derived.Test.YtpifkhcjogilfabGXP
import Derived.Test.YtpifkhcjogilfabGU3
namespace Go.Proofs.Ytpifkhcjogilfab
open Go.RowKit

theorem append_allA {W : World} {base n : Nat} {u v : Value} {l m : List (Int × Int)} (hr : W.ownsRow base 41 2 u n (fl ac l)) (hv : SlAt ac 2 W v m) (hk : (n + m.length) * 16 ≤ 140737488355328) (hbase : base ≤ W.heap.size) (hnil : (∃ a n c, v = .slice (some a) n c) ∨ (v = .slice none 0 0 ∧ u = .slice none 0 0)) :
    ∃ v' w6, (Builtin.append_ #[31, 31] 31 #[u, v]).run Try.prog W = .ok v' w6 ∧ w6.ownsRow base 41 2 v' (n + m.length) (fl ac (l ++ m)) ∧ Below base W w6 ∧ W.grownBy w6 u.ownBlock :=
  append_all (P := Try.prog) (cs := ac) (T := 31) (fun _ => rfl) (fun _ => by simp [Value.oneCell']) Try.underlying31 infoAdj rfl (by decide) hr hv hk (by unfold maxLen; omega) hbase hnil
theorem fl_set : ∀ (l : List (Rc × Value)) (k : Nat) (r : Rc) (v0 v' : Value) (ad : List (Int × Int)), l[k]? = some (r, v0) → (fl rcc l).set (k * 6 + 5) v' = fl rcc (l.set k ({ r with adjs := ad }, v'))
  | [], k, r, v0, v', ad, h => by simp at h
  | y :: l, 0, r, v0, v', ad, h => by
    simp at h
    subst h
    rfl
  | y :: l, k + 1, r, v0, v', ad, h => by
    show (rcc y ++ fl rcc l).set ((k + 1) * 6 + 5) v' = rcc y ++ fl rcc (l.set k _)
    have h6 : (rcc y).length = 6 := rfl
    rw [List.set_append_right _ _ (by rw [h6]; omega), h6, show (k + 1) * 6 + 5 - 6 = k * 6 + 5 from by omega, fl_set l k r v0 v' ad (by simpa using h)]
theorem slAt_take {α : Type} {cs : α → List Value} {sz : Nat} {w : World} {b o n cap : Nat} {l : List α} (h : ∀ j x, l[j]? = some x → ∀ i u, (cs x)[i]? = some u → w.cell? ⟨b, o + j * sz + i, none⟩ = some u) (hl : l.length = n) (hn : n ≤ 9223372036854775807) (hcap : n ≤ cap) (hb : b < w.heap.size) {k : Nat} (hk : k ≤ n) : SlAt cs sz w (.slice (some ⟨b, o, none⟩) k cap) (l.take k) := by
  have hkl : (l.take k).length = k := by rw [List.length_take]; omega
  refine ⟨_, cap, by rw [hkl], by omega, by omega, fun _ => ⟨b, o, rfl, hb, fun j x hx i u hu => h j x ?_ i u hu⟩⟩
  rw [List.getElem?_take] at hx
  split at hx
  · exact hx
  · cases hx
theorem slAt_drop {α : Type} {cs : α → List Value} {sz : Nat} {w : World} {b o n cap : Nat} {l : List α} (h : ∀ j x, l[j]? = some x → ∀ i u, (cs x)[i]? = some u → w.cell? ⟨b, o + j * sz + i, none⟩ = some u) (hn : n ≤ 9223372036854775807) (hcap : n ≤ cap) (hb : b < w.heap.size) {k : Nat} (hl : l.length = k + n) : SlAt cs sz w (.slice (some ⟨b, o + k * sz, none⟩) n cap) (l.drop k) := by
  have hkl : (l.drop k).length = n := by rw [List.length_drop]; omega
  refine ⟨_, cap, by rw [hkl], by omega, by omega, fun _ => ⟨b, o + k * sz, rfl, hb, fun j x hx i u hu => ?_⟩⟩
  rw [List.getElem?_drop] at hx
  have := h _ x hx i u hu
  rw [Nat.add_mul, ← Nat.add_assoc] at this
  exact this
theorem rem_nat (N : Int) (n : Nat) (hn : 0 < n) : ∃ (t : Int) (k : Nat), N.tmod (n : Int) = t ∧ -(n : Int) < t ∧ t < (n : Int) ∧ k < n ∧ (t + (n : Int)) % (n : Int) = (k : Int) ∧ (t + (n : Int)).tmod (n : Int) = (k : Int) := by
  have h0 : (0 : Int) < (n : Int) := by omega
  have h1 := Int.tmod_lt_of_pos N h0
  have h2 := Int.lt_tmod_of_pos N h0
  have h3 := Int.emod_nonneg (N.tmod n + n) (show (n : Int) ≠ 0 by omega)
  have h4 := Int.emod_lt_of_pos (N.tmod n + n) h0
  refine ⟨N.tmod n, ((N.tmod n + n) % n).toNat, rfl, h2, h1, by omega, (Int.toNat_of_nonneg h3).symm, ?_⟩
  rw [Int.tmod_eq_emod_of_nonneg (by omega)]
  exact (Int.toNat_of_nonneg h3).symm
end Go.Proofs.Ytpifkhcjogilfab
