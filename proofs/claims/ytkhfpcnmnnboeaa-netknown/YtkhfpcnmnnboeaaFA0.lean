/- Rules, plans and fates as lists and functions. -/
import Derived.Test.YtkhfpcnmnnboeaaG1
namespace Go.Proofs.Ytkhfpcnmnnboeaa.Fa

/-- A rule: from, to, number, kind, by; a message: from, to, number; a fate: copies, late, second. -/
abbrev Ru := Int × Int × Int × Int × Int
abbrev Ky := Int × Int × Int
abbrev Ft := Int × Int × Int
def kR (r : Ru) : Ky := (r.1, r.2.1, r.2.2.1)
def isP (a b : Int) : Bool := isR a && (isR b && !(a == b))
theorem isP_iff {a b : Int} : isP a b = true ↔ (1 ≤ a ∧ a ≤ 24) ∧ (1 ≤ b ∧ b ≤ 24) ∧ a ≠ b := by simp [isP, isR_iff]
def byOk (k b : Int) : Bool := if k = 1 then b == 0 else if k = 2 ∨ k = 3 then decide (1 ≤ b) && decide (b ≤ 64) else false
def ruOk (r : Ru) : Bool := isP r.1 r.2.1 && (decide (1 ≤ r.2.2.1) && (decide (r.2.2.1 ≤ 1048576) && byOk r.2.2.2.1 r.2.2.2.2))
theorem ruOk_bd {r : Ru} (h : ruOk r = true) : ((1 ≤ r.1 ∧ r.1 ≤ 24) ∧ (1 ≤ r.2.1 ∧ r.2.1 ≤ 24) ∧ r.1 ≠ r.2.1) ∧ (1 ≤ r.2.2.1 ∧ r.2.2.1 ≤ 1048576) := by
  unfold ruOk at h
  simp only [Bool.and_eq_true, decide_eq_true_eq] at h
  exact ⟨isP_iff.1 h.1, h.2.1, h.2.2.1⟩
def findR (l : List Ru) (k : Ky) : Option Ru := l.find? (fun r => decide (kR r = k))
def dropR (l : List Ru) (k : Ky) : List Ru := l.filter (fun r => !decide (kR r = k))
theorem findR_some {l : List Ru} {k : Ky} {r : Ru} (h : findR l k = some r) : r ∈ l ∧ kR r = k :=
  ⟨List.mem_of_find?_eq_some h, by simpa using List.find?_some h⟩
theorem findR_none {l : List Ru} {k : Ky} : findR l k = none ↔ ∀ r ∈ l, kR r ≠ k := by
  unfold findR
  rw [List.find?_eq_none]
  simp
theorem findR_snoc (l : List Ru) (r : Ru) (k : Ky) : findR (l ++ [r]) k = (findR l k).or (if kR r = k then some r else none) := by
  unfold findR
  rw [List.find?_append]
  congr 1
  by_cases h : kR r = k <;> simp [h]
theorem key_nodup {l : List Ru} (hn : (l.map kR).Nodup) : ∀ a ∈ l, ∀ b ∈ l, kR a = kR b → a = b := by
  induction l with
  | nil => intro a ha; simp at ha
  | cons x l ih =>
    rw [List.map_cons, List.nodup_cons] at hn
    intro a ha b hb hab
    rcases List.mem_cons.1 ha with rfl | ha'
    · rcases List.mem_cons.1 hb with rfl | hb'
      · rfl
      · exact absurd (List.mem_map.2 ⟨b, hb', hab.symm⟩) hn.1
    · rcases List.mem_cons.1 hb with rfl | hb'
      · exact absurd (List.mem_map.2 ⟨a, ha', hab⟩) hn.1
      · exact ih hn.2 a ha' b hb' hab
theorem findR_mem {l : List Ru} (hn : (l.map kR).Nodup) {r : Ru} (h : r ∈ l) : findR l (kR r) = some r := by
  cases hf : findR l (kR r) with
  | none => exact absurd rfl (findR_none.1 hf r h)
  | some s =>
    obtain ⟨h1, h2⟩ := findR_some hf
    rw [key_nodup hn s h1 r h h2]
theorem findR_perm {l m : List Ru} (hn : (l.map kR).Nodup) (hp : l.Perm m) (k : Ky) : findR m k = findR l k := by
  have hm : (m.map kR).Nodup := (hp.map kR).nodup_iff.1 hn
  cases hf : findR l k with
  | none => exact findR_none.2 fun r hr => findR_none.1 hf r (hp.mem_iff.2 hr)
  | some s =>
    obtain ⟨h1, h2⟩ := findR_some hf
    rw [← h2]
    exact findR_mem hm (hp.mem_iff.1 h1)
theorem findR_drop_same (l : List Ru) (k : Ky) : findR (dropR l k) k = none := by
  rw [findR_none]
  intro r hr
  simpa using (List.mem_filter.1 hr).2
theorem findR_drop_other (l : List Ru) {k j : Ky} (h : j ≠ k) : findR (dropR l k) j = findR l j := by
  unfold findR dropR
  rw [List.find?_filter]
  congr 1
  funext r
  by_cases hj : kR r = j
  · simp [hj, h]
  · simp [hj]
theorem drop_none {l : List Ru} {k : Ky} (h : findR l k = none) : dropR l k = l := by
  unfold dropR
  rw [List.filter_eq_self]
  intro r hr
  simpa using findR_none.1 h r hr
theorem drop_len : ∀ {l : List Ru} (_ : (l.map kR).Nodup) {k : Ky} (_ : (findR l k).isSome = true), (dropR l k).length + 1 = l.length
  | [], _, k, h => by simp [findR] at h
  | x :: l, hn, k, h => by
    rw [List.map_cons, List.nodup_cons] at hn
    by_cases hx : kR x = k
    · have h1 : dropR (x :: l) k = dropR l k := by simp [dropR, hx]
      have h2 : findR l k = none := findR_none.2 fun r hr e => hn.1 (List.mem_map.2 ⟨r, hr, e.trans hx.symm⟩)
      rw [h1, drop_none h2, List.length_cons]
    · have h1 : dropR (x :: l) k = x :: dropR l k := by simp [dropR, hx]
      have h2 : findR (x :: l) k = findR l k := by simp [findR, hx]
      rw [h2] at h
      have := drop_len hn.2 h
      rw [h1, List.length_cons, List.length_cons]
      omega
theorem drop_nodup {l : List Ru} (hn : (l.map kR).Nodup) (k : Ky) : ((dropR l k).map kR).Nodup := hn.sublist (List.filter_sublist.map kR)
/-- What a rule makes of its message. -/
def byR (r : Ru) : Ft := if r.2.2.2.1 = 1 then (0, 0, 0) else if r.2.2.2.1 = 2 then (2, 0, r.2.2.2.2) else (1, r.2.2.2.2, 0)
def ftO : Option Ru → Ft
  | none => (1, 0, 0)
  | some r => byR r
/-- What is wrong with the rule at a place. -/
def badAt (l : List Ru) (i : Nat) : Int := match l[i]? with
  | none => 0
  | some r => if ruOk r = true then (if (findR (l.take i) (kR r)).isSome = true then 7 else 0) else 2
def chkR (l : List Ru) : Int × Int := if 64 < l.length then (64, 3) else
  match (List.range l.length).find? (fun i => !(badAt l i == 0)) with
  | some i => ((i : Int), badAt l i)
  | none => (0, 0)
theorem chk_long {l : List Ru} (h : 64 < l.length) : chkR l = (64, 3) := by simp [chkR, h]
theorem chk_stop {l : List Ru} (h : l.length ≤ 64) {i : Nat} (hi : i < l.length) (h0 : ∀ j, j < i → badAt l j = 0) {e : Int} (he : badAt l i = e) (hne : e ≠ 0) : chkR l = ((i : Int), e) := by
  unfold chkR
  rw [if_neg (by omega)]
  have : (List.range l.length).find? (fun i => !(badAt l i == 0)) = some i := by
    rw [List.find?_range_eq_some]
    refine ⟨by simpa [he] using hne, by simpa using hi, fun j hj => by simpa using h0 j hj⟩
  rw [this]
  simp [he]
theorem chk_done {l : List Ru} (h : l.length ≤ 64) (h0 : ∀ j, j < l.length → badAt l j = 0) : chkR l = (0, 0) := by
  unfold chkR
  rw [if_neg (by omega)]
  have : (List.range l.length).find? (fun i => !(badAt l i == 0)) = none := by
    rw [List.find?_eq_none]
    intro x hx
    simpa using h0 x (by simpa using hx)
  rw [this]
/-- Rules that may stand together. -/
structure RsOk (l : List Ru) : Prop where
  len : l.length ≤ 64
  ok : ∀ r ∈ l, ruOk r = true
  uniq : (l.map kR).Nodup
theorem bad_ok {l : List Ru} {i : Nat} {r : Ru} (hr : l[i]? = some r) (h : badAt l i = 0) : ruOk r = true ∧ findR (l.take i) (kR r) = none := by
  unfold badAt at h
  rw [hr] at h
  dsimp only at h
  by_cases h1 : ruOk r = true
  · rw [if_pos h1] at h
    refine ⟨h1, ?_⟩
    by_cases h2 : (findR (l.take i) (kR r)).isSome = true
    · rw [if_pos h2] at h; omega
    · simpa using h2
  · rw [if_neg h1] at h; omega
theorem rsOk_upto {l : List Ru} (hl : l.length ≤ 64) : ∀ i, i ≤ l.length → (∀ j, j < i → badAt l j = 0) → RsOk (l.take i)
  | 0, _, _ => ⟨by simp, by simp, by simp⟩
  | i + 1, hi, h => by
    obtain ⟨r, hr⟩ : ∃ r, l[i]? = some r := ⟨l[i], List.getElem?_eq_getElem (by omega)⟩
    have ih := rsOk_upto hl i (by omega) fun j hj => h j (by omega)
    obtain ⟨h1, h2⟩ := bad_ok hr (h i (by omega))
    have ht : l.take (i + 1) = l.take i ++ [r] := by rw [List.take_add_one, hr]; rfl
    rw [ht]
    refine ⟨by rw [List.length_append, List.length_take, List.length_singleton]; omega, fun s hs => ?_, ?_⟩
    · rcases List.mem_append.1 hs with hs | hs
      · exact ih.ok s hs
      · rw [List.mem_singleton.1 hs]; exact h1
    · rw [List.map_append, List.nodup_append]
      refine ⟨ih.uniq, by simp, fun a ha b hb => ?_⟩
      obtain ⟨s, hs, rfl⟩ := List.mem_map.1 ha
      simp at hb
      rw [hb]
      exact findR_none.1 h2 s hs
theorem chk_ok {l : List Ru} {n : Int} (h : chkR l = (n, 0)) : RsOk l ∧ n = 0 := by
  have hl : l.length ≤ 64 := by
    refine Nat.le_of_not_lt fun h1 => ?_
    rw [chk_long h1] at h
    simp at h
  unfold chkR at h
  rw [if_neg (by omega)] at h
  cases hf : (List.range l.length).find? (fun i => !(badAt l i == 0)) with
  | some i =>
    rw [hf] at h
    have := List.find?_some hf
    simp at h this
    exact absurd h.2 this
  | none =>
    rw [hf] at h
    simp at h
    rw [List.find?_eq_none] at hf
    have := rsOk_upto hl l.length (Nat.le_refl _) fun j hj => by simpa using hf j (by simpa using hj)
    rw [List.take_length] at this
    exact ⟨this, h.symm⟩
/-- The rules whose messages have not come yet. -/
def restR (l : List Ru) (c : Nat → Nat → Int) : List Ru := l.filter fun r => decide (c r.1.toNat r.2.1.toNat < r.2.2.1)
theorem rest_new {l : List Ru} (h : RsOk l) : restR l no2 = l := by
  unfold restR
  rw [List.filter_eq_self]
  intro r hr
  have := (ruOk_bd (h.ok r hr)).2
  exact decide_eq_true (show (0 : Int) < r.2.2.1 by omega)
theorem rest_find (l : List Ru) (c : Nat → Nat → Int) {a b : Nat} : findR (restR l c) ((a : Int), (b : Int), c a b + 1) = findR l ((a : Int), (b : Int), c a b + 1) := by
  unfold findR restR
  rw [List.find?_filter]
  congr 1
  funext r
  by_cases hk : kR r = ((a : Int), (b : Int), c a b + 1)
  · have h1 : r.1 = (a : Int) := congrArg (·.1) hk
    have h2 : r.2.1 = (b : Int) := congrArg (·.2.1) hk
    have h3 : r.2.2.1 = c a b + 1 := congrArg (·.2.2) hk
    simp [hk, h1, h2, h3]
    omega
  · simp [hk]
theorem rest_drop {l : List Ru} (h : RsOk l) (c : Nat → Nat → Int) {a b : Nat} : dropR (restR l c) ((a : Int), (b : Int), c a b + 1) = restR l (put2 c a b (c a b + 1)) := by
  unfold dropR restR
  rw [List.filter_filter]
  refine List.filter_congr fun r hr => ?_
  have hb := ruOk_bd (h.ok r hr)
  by_cases hab : r.1 = (a : Int) ∧ r.2.1 = (b : Int)
  · obtain ⟨h1, h2⟩ := hab
    have e1 : r.1.toNat = a := by omega
    have e2 : r.2.1.toNat = b := by omega
    rw [e1, e2]
    have hk : kR r = ((a : Int), (b : Int), c a b + 1) ↔ r.2.2.1 = c a b + 1 := by
      unfold kR
      rw [h1, h2]
      simp
    simp only [put2, and_self, if_true, hk]
    by_cases h3 : r.2.2.1 = c a b + 1
    · simp [h3]
    · by_cases h4 : c a b < r.2.2.1
      · have : c a b + 1 < r.2.2.1 := by omega
        simp [h3, h4, this]
      · have : ¬ c a b + 1 < r.2.2.1 := by omega
        simp [h3, h4, this]
  · have hk : kR r ≠ ((a : Int), (b : Int), c a b + 1) := fun e => hab ⟨congrArg (·.1) e, congrArg (·.2.1) e⟩
    have hp : put2 c a b (c a b + 1) r.1.toNat r.2.1.toNat = c r.1.toNat r.2.1.toNat := by
      unfold put2
      rw [if_neg]
      rintro ⟨e1, e2⟩
      exact hab ⟨by omega, by omega⟩
    rw [hp]
    simp [hk]
theorem rest_ok {l : List Ru} (h : RsOk l) (c : Nat → Nat → Int) : RsOk (restR l c) :=
  ⟨Nat.le_trans (List.length_filter_le _ _) h.len, fun r hr => h.ok r (List.mem_filter.1 hr).1, h.uniq.sublist (List.filter_sublist.map kR)⟩
end Go.Proofs.Ytkhfpcnmnnboeaa.Fa
