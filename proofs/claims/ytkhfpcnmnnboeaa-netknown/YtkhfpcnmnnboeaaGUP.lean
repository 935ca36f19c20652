/- The document's Both, ad lists. -/
import Derived.Test.YtkhfpcnmnnboeaaGQ
namespace Go.Proofs.Ytkhfpcnmnnboeaa

/-- What a record of an origin tells of a neighbour. -/
def costF : List Rc → Int → Int → Int
  | [], _, _ => 0
  | r :: rs, a, b => if r.origin = a then (match r.adjs.find? fun x => decide (x.1 = b) with | some x => x.2 | none => costF rs a b) else costF rs a b
theorem costF_cons_ne {r : Rc} {rs : List Rc} {a b : Int} (h : r.origin ≠ a) : costF (r :: rs) a b = costF rs a b := by simp [costF, h]

def pickN (rs : List Rc) (n : Int) : List Int := (rs.filter fun r => decide (r.origin = n)).map fun _ => n
theorem pickN_yes {rs : List Rc} {r : Rc} {n : Int} (h : r.origin = n) : pickN (rs ++ [r]) n = pickN rs n ++ [n] := by simp [pickN, List.filter_append, h]
theorem pickN_no {rs : List Rc} {r : Rc} {n : Int} (h : r.origin ≠ n) : pickN (rs ++ [r]) n = pickN rs n := by simp [pickN, List.filter_append, h]
theorem pickN_len (rs : List Rc) (n : Int) : (pickN rs n).length ≤ rs.length := by unfold pickN; rw [List.length_map]; exact List.length_filter_le _ _
theorem pickN_none {rs : List Rc} {n : Int} (h : ∀ r ∈ rs, r.origin ≠ n) : pickN rs n = [] := by
  unfold pickN
  rw [List.map_eq_nil_iff, List.filter_eq_nil_iff]
  intro r hr
  simpa using h r hr
theorem Unl.tail {r : Rc} {rs : List Rc} (h : Unl (r :: rs)) : Unl rs := ⟨fun x hx => h.1 x (by simp [hx]), (List.pairwise_cons.1 h.2).2⟩
theorem Unl.ne {r x : Rc} {rs : List Rc} (h : Unl (r :: rs)) (hx : x ∈ rs) : r.origin ≠ x.origin := fun e => (List.pairwise_cons.1 h.2).1 x hx (by rw [e])
theorem pickN_one : ∀ {rs : List Rc} {r : Rc}, Unl rs → r ∈ rs → pickN rs r.origin = [r.origin]
  | [], r, _, h => by simp at h
  | q :: rs, r, hu, h => by
    rcases List.mem_cons.1 h with rfl | h
    · have := pickN_none (rs := rs) (n := r.origin) fun x hx e => hu.ne hx e.symm
      unfold pickN at this ⊢
      rw [List.filter_cons]
      simp only [decide_true, if_true, List.map_cons, this]
    · have h1 := pickN_one hu.tail h
      have h2 := hu.ne h
      unfold pickN at h1 ⊢
      rw [List.filter_cons]
      simp only [decide_eq_true_eq, h2, if_false]
      exact h1
theorem pickN_there {rs : List Rc} (hu : Unl rs) (n : Nat) : pickN rs (n : Int) = if thereL no1 rs n = true then [(n : Int)] else [] := by
  by_cases h : thereL no1 rs n = true
  · rw [if_pos h]
    rcases (thereL_iff rs no1 n).1 h with h | ⟨r, hr, e⟩
    · simp [no1] at h
    · have h1 := (recOk_parts (hu.1 r hr)).1
      have h2 : r.origin = (n : Int) := by omega
      rw [← h2]
      exact pickN_one hu hr
  · rw [if_neg h]
    refine pickN_none fun r hr e => h ((thereL_iff rs no1 n).2 (.inr ⟨r, hr, by omega⟩))
def outN (rs : List Rc) (n : Nat) : List Int := (List.range n).flatMap fun (m : Nat) => pickN rs (m : Int)
theorem outN_succ (rs : List Rc) (n : Nat) : outN rs (n + 1) = outN rs n ++ pickN rs (n : Int) := by simp [outN, List.range_succ, List.flatMap_append]
theorem outN_len (rs : List Rc) : ∀ n, (outN rs n).length ≤ n * rs.length
  | 0 => by simp [outN]
  | n + 1 => by
    rw [outN_succ, List.length_append, Nat.succ_mul]
    have h1 := outN_len rs n
    have h2 := pickN_len rs n
    omega
theorem outN_one {rs : List Rc} (hu : Unl rs) : outN rs 1 = [] := by
  rw [outN_succ]
  show [] ++ pickN rs _ = []
  rw [List.nil_append]
  exact pickN_none fun r hr e => by have := (recOk_parts (hu.1 r hr)).1; omega
theorem flat_if (f : Nat → Bool) : ∀ l : List Nat, (l.flatMap fun m => if f m = true then [(m : Int)] else []) = (l.filter f).map fun (i : Nat) => (i : Int)
  | [] => rfl
  | x :: l => by
    rw [List.flatMap_cons, flat_if f l, List.filter_cons]
    by_cases h : f x = true <;> simp [h]
theorem outN_both {rs : List Rc} (hu : Unl rs) : outN rs 25 = bothN rs := by
  unfold outN bothN markedL
  rw [← flat_if]
  congr 1
  funext m
  exact pickN_there hu m
theorem unl_len {rs : List Rc} (hu : Unl rs) : rs.length ≤ 25 := by
  rw [← bothN_len hu]
  unfold bothN markedL
  rw [List.length_map]
  exact Nat.le_trans (List.length_filter_le _ _) (by simp)
def rowI (c : Int → Int → Int) (a : Int) (l : List Int) : List Ed := (l.filter fun b => decide (0 < c a b) && decide (0 < c b a)).map fun b => (a, b, c a b)
def outI (c : Int → Int → Int) (ns l : List Int) : List Ed := l.flatMap fun a => rowI c a ns
theorem rowI_yes {c : Int → Int → Int} {a b : Int} {l : List Int} (h1 : 0 < c a b) (h2 : 0 < c b a) : rowI c a (l ++ [b]) = rowI c a l ++ [(a, b, c a b)] := by simp [rowI, List.filter_append, h1, h2]
theorem rowI_no {c : Int → Int → Int} {a b : Int} {l : List Int} (h : ¬ (0 < c a b ∧ 0 < c b a)) : rowI c a (l ++ [b]) = rowI c a l := by
  have : (decide (0 < c a b) && decide (0 < c b a)) = false := by simpa using h
  simp only [rowI, List.filter_append, List.filter_cons, this, List.filter_nil]
  simp
theorem rowI_len (c : Int → Int → Int) (a : Int) (l : List Int) : (rowI c a l).length ≤ l.length := by unfold rowI; rw [List.length_map]; exact List.length_filter_le _ _
theorem outI_snoc (c : Int → Int → Int) (ns l : List Int) (a : Int) : outI c ns (l ++ [a]) = outI c ns l ++ rowI c a ns := by simp [outI, List.flatMap_append]
theorem outI_len (c : Int → Int → Int) (ns : List Int) : ∀ l : List Int, (outI c ns l).length ≤ l.length * ns.length
  | [] => by simp [outI]
  | a :: l => by
    have h1 := outI_len c ns l
    have h2 := rowI_len c a ns
    unfold outI at h1 ⊢
    rw [List.flatMap_cons, List.length_append, List.length_cons, Nat.succ_mul]
    omega
theorem find_adj : ∀ {ad : List (Int × Int)} {o last : Int} {x : Int × Int}, adjsOk o last ad = true → x ∈ ad → (ad.find? fun y => decide (y.1 = x.1)) = some x
  | [], _, _, _, _, h => by simp at h
  | a :: ad, o, last, x, hk, h => by
    have hk' := hk
    simp only [adjsOk, Bool.and_eq_true] at hk
    rcases List.mem_cons.1 h with rfl | h
    · simp
    · have h1 := adjsOk_all o ad a.1 hk.2 x h
      have h2 : ¬ a.1 = x.1 := by omega
      rw [List.find?_cons]
      simp only [h2, decide_false]
      exact find_adj hk.2 h
theorem costF_at : ∀ {rs : List Rc}, Unl rs → ∀ r ∈ rs, ∀ x ∈ r.adjs, costF rs r.origin x.1 = x.2
  | [], _, r, hr, _, _ => by simp at hr
  | q :: rs, hu, r, hr, x, hx => by
    rcases List.mem_cons.1 hr with rfl | hr
    · unfold costF
      rw [if_pos rfl, find_adj (recOk_parts (hu.1 r (by simp))).2.2 hx]
    · rw [costF_cons_ne (hu.ne hr)]
      exact costF_at hu.tail r hr x hx
theorem costF_from : ∀ {rs : List Rc} {a b : Int}, costF rs a b ≠ 0 → ∃ r ∈ rs, ∃ x ∈ r.adjs, r.origin = a ∧ x.1 = b
  | [], _, _, h => absurd rfl h
  | q :: rs, a, b, h => by
    unfold costF at h
    by_cases h1 : q.origin = a
    · rw [if_pos h1] at h
      cases h2 : q.adjs.find? fun x => decide (x.1 = b) with
      | some x => exact ⟨q, by simp, x, List.mem_of_find?_eq_some h2, h1, by have := List.find?_some h2; simpa using this⟩
      | none =>
        rw [h2] at h
        obtain ⟨r, hr, x, hx, e⟩ := costF_from h
        exact ⟨r, by simp [hr], x, hx, e⟩
    · rw [if_neg h1] at h
      obtain ⟨r, hr, x, hx, e⟩ := costF_from h
      exact ⟨r, by simp [hr], x, hx, e⟩
theorem isCost_F {rs : List Rc} (hu : Unl rs) : IsCost rs fun i j => costF rs (i : Int) (j : Int) := by
  refine ⟨fun r hr x hx => ?_, fun i j h => ?_⟩
  · have h1 := (recOk_parts (hu.1 r hr)).1
    have h2 := recOk_adj (hu.1 r hr) hx
    show costF rs (r.origin.toNat : Int) (x.1.toNat : Int) = x.2
    rw [Int.toNat_of_nonneg (by omega), Int.toNat_of_nonneg (by omega)]
    exact costF_at hu r hr x hx
  · obtain ⟨r, hr, x, hx, e1, e2⟩ := costF_from h
    exact ⟨r, hr, x, hx, by omega, by omega⟩
theorem flat_filter {α : Type} (f : Nat → Bool) (g : Nat → List α) (h : ∀ a, f a = false → g a = []) : ∀ l : List Nat, (l.filter f).flatMap g = l.flatMap g
  | [] => rfl
  | x :: l => by
    rw [List.filter_cons, List.flatMap_cons]
    by_cases hx : f x = true
    · rw [if_pos hx, List.flatMap_cons, flat_filter f g h l]
    · rw [if_neg hx, flat_filter f g h l, h x (by simpa using hx)]; rfl
theorem rowI_cast (c : Int → Int → Int) (a : Nat) : ∀ l : List Nat, rowI c (a : Int) (l.map fun (i : Nat) => (i : Int)) = rowE (fun i j => c (i : Int) (j : Int)) a l
  | [] => rfl
  | x :: l => by
    have h := rowI_cast c a l
    unfold rowI rowE at h ⊢
    rw [List.map_cons, List.filter_cons, List.filter_cons]
    by_cases hx : (decide (0 < c (a : Int) (x : Int)) && decide (0 < c (x : Int) (a : Int))) = true
    · rw [if_pos hx, if_pos hx, List.map_cons, List.map_cons, h]
    · rw [if_neg hx, if_neg hx, h]
theorem rowE_filter {c : Nat → Nat → Int} {f : Nat → Bool} {a : Nat} (h : ∀ b, 0 < c b a → f b = true) (l : List Nat) : rowE c a (l.filter f) = rowE c a l := by
  unfold rowE
  rw [List.filter_filter]
  congr 1
  refine List.filter_congr fun b _ => ?_
  by_cases h2 : 0 < c b a
  · simp [h b h2]
  · simp [h2]
theorem rowE_none {c : Nat → Nat → Int} {a : Nat} (h : ∀ b, ¬ 0 < c a b) (l : List Nat) : rowE c a l = [] := by
  unfold rowE
  rw [List.map_eq_nil_iff, List.filter_eq_nil_iff]
  intro b _
  simp [h b]
theorem outI_both {rs : List Rc} (hu : Unl rs) : outI (costF rs) (bothN rs) (bothN rs) = bothE rs := by
  have hc := isCost_F hu
  have hp := isCost_pos hc hu
  have h1 : bothE rs = laidE fun i j => costF rs (i : Int) (j : Int) := laidE_congr ((isCost_of hu).same hc fun _ => Iff.rfl)
  rw [h1]
  unfold outI laidE
  have h2 : ∀ a : Nat, rowI (costF rs) (a : Int) (bothN rs) = rowE (fun i j => costF rs (i : Int) (j : Int)) a (List.range 25) := fun a => by
    unfold bothN markedL
    rw [rowI_cast, rowE_filter]
    intro b hb
    rcases hp b a with h | h
    · rw [h] at hb; omega
    · exact h.2.2.2.2.2.2.2
  have h3 : (bothN rs).flatMap (fun a => rowI (costF rs) a (bothN rs)) = ((List.range 25).filter (thereL no1 rs)).flatMap fun (a : Nat) => rowI (costF rs) (a : Int) (bothN rs) := by
    show (((List.range 25).filter (thereL no1 rs)).map fun (i : Nat) => (i : Int)).flatMap (fun a => rowI (costF rs) a (bothN rs)) = _
    rw [List.flatMap_map]
  rw [h3]
  have h4 : (fun a : Nat => rowI (costF rs) (a : Int) (bothN rs)) = fun a => rowE (fun i j => costF rs (i : Int) (j : Int)) a (List.range 25) := funext h2
  rw [h4]
  refine flat_filter _ _ (fun a ha => rowE_none (fun b hb => ?_) _) _
  rcases hp a b with h | h
  · rw [h] at hb; omega
  · rw [h.2.2.2.2.2.2.2] at ha; cases ha
end Go.Proofs.Ytkhfpcnmnnboeaa
