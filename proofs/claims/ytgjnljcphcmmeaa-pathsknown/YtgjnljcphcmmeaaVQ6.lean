/- How many ways of so many hops and such a cost there are; the same, turned round. -/
import Derived.Test.YtgjnljcphcmmeaaVQ4
import Derived.Test.YtgjnljcphcmmeaaVQ5
namespace Go.Proofs.Ytgjnljcphcmmeaa

def wh (es : List Ed) (a : Int) : Nat → Int → Int → Nat
  | 0, x, c => if x = a ∧ c = 0 then 1 else 0
  | h + 1, x, c => (es.map fun e => if e.2.1 = x then wh es a h e.1 (c - e.2.2) else 0).sum
theorem sum_add (es : List Ed) (F G : Ed → Nat) : (es.map fun e => F e + G e).sum = (es.map F).sum + (es.map G).sum := by
  induction es with
  | nil => rfl
  | cons e es ih => simp only [List.map_cons, List.sum_cons, ih]; omega
theorem sum_swap (fs : List Ed) (G : Ed → Ed → Nat) : ∀ es : List Ed, (es.map fun e => (fs.map fun f => G e f).sum).sum = (fs.map fun f => (es.map fun e => G e f).sum).sum
  | [] => by
    have : ∀ fs : List Ed, (fs.map fun _ => 0).sum = 0 := fun fs => by induction fs with | nil => rfl | cons f fs ih => rw [List.map_cons, List.sum_cons, ih]
    simp only [List.map_nil, List.sum_nil]
    exact (this fs).symm
  | e :: es => by
    simp only [List.map_cons, List.sum_cons]
    rw [sum_swap fs G es, sum_add]
theorem sum_if (es : List Ed) (p : Prop) [Decidable p] (F : Ed → Nat) : (if p then (es.map F).sum else 0) = (es.map fun e => if p then F e else 0).sum := by
  by_cases h : p
  · simp only [h, if_true]
  · simp only [h, if_false]
    induction es with
    | nil => rfl
    | cons e es ih => rw [List.map_cons, List.sum_cons, ← ih]
theorem sum_congr {es : List Ed} {F G : Ed → Nat} (h : ∀ e ∈ es, F e = G e) : (es.map F).sum = (es.map G).sum := by
  rw [List.map_congr_left h]
theorem wh_first (es : List Ed) : ∀ (h : Nat) (a x c : Int), wh es a (h + 1) x c = (es.map fun e => if e.1 = a then wh es e.2.1 h x (c - e.2.2) else 0).sum
  | 0, a, x, c => by
    refine sum_congr fun e _ => ?_
    simp only [wh]
    by_cases h1 : e.2.1 = x <;> by_cases h2 : e.1 = a <;> simp [h1, h2]
    intro h3
    exact absurd h3.symm h1
  | h + 1, a, x, c => by
    have h1 : wh es a (h + 2) x c = (es.map fun e => (es.map fun f => if e.2.1 = x then (if f.1 = a then wh es f.2.1 h e.1 (c - e.2.2 - f.2.2) else 0) else 0).sum).sum := by
      refine sum_congr fun e _ => ?_
      rw [wh_first es h a e.1 (c - e.2.2), sum_if]
    have h2 : (es.map fun f => if f.1 = a then wh es f.2.1 (h + 1) x (c - f.2.2) else 0).sum = (es.map fun f => (es.map fun e => if f.1 = a then (if e.2.1 = x then wh es f.2.1 h e.1 (c - f.2.2 - e.2.2) else 0) else 0).sum).sum := by
      refine sum_congr fun f _ => ?_
      rw [← sum_if]
      rfl
    rw [h1, h2, sum_swap]
    refine sum_congr fun f _ => sum_congr fun e _ => ?_
    by_cases g1 : e.2.1 = x <;> by_cases g2 : f.1 = a <;> simp [g1, g2]
    congr 1
    omega
def turnE (e : Ed) : Ed := (e.2.1, e.1, e.2.2)
theorem turn_perm {es : List Ed} (hd : es.Nodup) (hs : BothW es) : (es.map turnE).Perm es := by
  have hinj : (es.map turnE).Nodup := by
    refine List.Pairwise.map _ ?_ hd
    intro a b hab e
    apply hab
    obtain ⟨a1, a2, a3⟩ := a
    obtain ⟨b1, b2, b3⟩ := b
    simp only [turnE, Prod.mk.injEq] at e ⊢
    exact ⟨e.2.1, e.1, e.2.2⟩
  rw [List.perm_ext_iff_of_nodup hinj hd]
  intro e
  constructor
  · intro h
    obtain ⟨f, hf, rfl⟩ := List.mem_map.1 h
    exact hs f hf
  · intro h
    exact List.mem_map.2 ⟨_, hs e h, rfl⟩
theorem wh_turn {es : List Ed} (hd : es.Nodup) (hs : BothW es) : ∀ (h : Nat) (a x c : Int), wh es a h x c = wh es x h a c
  | 0, a, x, c => by
    simp only [wh]
    by_cases e : x = a
    · subst e; rfl
    · rw [if_neg (fun h => e h.1), if_neg (fun h => e h.1.symm)]
  | h + 1, a, x, c => by
    rw [wh_first es h x a c]
    show (es.map fun e => if e.2.1 = x then wh es a h e.1 (c - e.2.2) else 0).sum = _
    rw [← ((turn_perm hd hs).map fun e => if e.2.1 = x then wh es a h e.1 (c - e.2.2) else 0).sum_nat, List.map_map]
    refine sum_congr fun e _ => ?_
    show (if e.1 = x then wh es a h e.2.1 (c - e.2.2) else 0) = _
    rw [wh_turn hd hs h a e.2.1]
/-- Where there are such ways, there is one. -/
theorem wh_wy {es : List Ed} {a : Int} : ∀ {h : Nat} {x c : Int}, 0 < wh es a h x c → Wy es a x c h
  | 0, x, c, hw => by
    simp only [wh] at hw
    split at hw
    · rename_i h1
      rw [h1.1, h1.2]
      exact Wy.refl _ _
    · omega
  | h + 1, x, c, hw => by
    have : ∃ e ∈ es, e.2.1 = x ∧ 0 < wh es a h e.1 (c - e.2.2) := Classical.byContradiction fun hno => by
      have h0 : wh es a (h + 1) x c = (es.map fun _ => 0).sum := sum_congr fun e he => by
        by_cases h1 : e.2.1 = x
        · rw [if_pos h1]
          exact Nat.eq_zero_of_not_pos fun h2 => hno ⟨e, he, h1, h2⟩
        · rw [if_neg h1]
      have hz : (es.map fun _ => 0).sum = 0 := by
        clear h0 hw hno
        induction es with
        | nil => rfl
        | cons e es ih => rw [List.map_cons, List.sum_cons, ih]
      omega
    obtain ⟨e, he, h1, h2⟩ := this
    have h3 := (wh_wy h2).step he
    rw [h1, Int.sub_add_cancel] at h3
    exact h3
end Go.Proofs.Ytgjnljcphcmmeaa
