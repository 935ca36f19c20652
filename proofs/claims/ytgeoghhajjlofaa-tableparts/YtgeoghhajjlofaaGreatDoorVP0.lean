/- Least-cost ways, ad lists: what is come to, what it costs; the nearest first. -/
import Derived.Test.YtgeoghhajjlofaaGreatDoorGP
namespace Go.Proofs.YtgeoghhajjlofaaGreatDoor

/-- A way from r to x that costs c and has h hops. -/
def Wy (es : List Ed) (r x c : Int) (h : Nat) : Prop := ∀ S : Int → Int → Nat → Prop, S r 0 0 → (∀ e ∈ es, ∀ c h, S e.1 c h → S e.2.1 (c + e.2.2) (h + 1)) → S x c h
theorem Wy.refl (es : List Ed) (r : Int) : Wy es r r 0 0 := fun _ h _ => h
theorem Wy.step {es : List Ed} {r c : Int} {h : Nat} {e : Ed} (k : Wy es r e.1 c h) (he : e ∈ es) : Wy es r e.2.1 (c + e.2.2) (h + 1) := fun S h1 h2 => h2 e he c h (k S h1 h2)
theorem Wy.trans {es : List Ed} {a b d c c' : Int} {h h' : Nat} (k : Wy es a b c h) (k' : Wy es b d c' h') : Wy es a d (c + c') (h + h') := by
  have := k' (fun x y z => Wy es a x (c + y) (h + z)) (by simpa using k) (fun e he y z hs => by
    have := hs.step he
    rwa [Int.add_assoc, Nat.add_assoc] at this)
  exact this
theorem Wy.one {es : List Ed} {e : Ed} (he : e ∈ es) : Wy es e.1 e.2.1 e.2.2 1 := by
  have := (Wy.refl es e.1).step he
  simpa using this
def PosE (es : List Ed) : Prop := ∀ e ∈ es, 1 ≤ e.2.2 ∧ e.2.2 ≤ 1000
theorem Wy.pos {es : List Ed} (hp : PosE es) {r x c : Int} {h : Nat} (k : Wy es r x c h) : (h : Int) ≤ c ∧ c ≤ 1000 * h :=
  k (fun _ c h => (h : Int) ≤ c ∧ c ≤ 1000 * h) (by simp) (fun e he c h hs => by have := hp e he; omega)
theorem Wy.zero {es : List Ed} {r x c : Int} {h : Nat} (k : Wy es r x c h) : h = 0 → x = r ∧ c = 0 :=
  k (fun x c h => h = 0 → x = r ∧ c = 0) (fun _ => ⟨rfl, rfl⟩) (fun e he c h hs h0 => by omega)
/-- The last step of a way. -/
theorem Wy.last {es : List Ed} {r x c : Int} {h : Nat} (k : Wy es r x c h) : (x = r ∧ c = 0 ∧ h = 0) ∨ ∃ e ∈ es, ∃ c' h', Wy es r e.1 c' h' ∧ x = e.2.1 ∧ c = c' + e.2.2 ∧ h = h' + 1 := by
  have := k (fun x c h => Wy es r x c h ∧ ((x = r ∧ c = 0 ∧ h = 0) ∨ ∃ e ∈ es, ∃ c' h', Wy es r e.1 c' h' ∧ x = e.2.1 ∧ c = c' + e.2.2 ∧ h = h' + 1)) ⟨Wy.refl _ _, .inl ⟨rfl, rfl, rfl⟩⟩ (fun e he c h hs => ⟨hs.1.step he, .inr ⟨e, he, c, h, hs.1, rfl, rfl, rfl⟩⟩)
  exact this.2
theorem graphOk_pos {ns : List Int} {es : List Ed} (h : graphOk ns es = true) : PosE es := by
  simp only [graphOk, Bool.and_eq_true] at h
  have key : ∀ (es : List Ed) (last : Ed), edgesOk ns last es = true → PosE es := by
    intro es
    induction es with
    | nil => intro _ _ e he; simp at he
    | cons a es ih =>
      intro last h e he
      simp only [edgesOk, edgeOk, Bool.and_eq_true, isC_iff] at h
      rcases List.mem_cons.1 he with rfl | he
      · exact h.1.2.2.2.1
      · exact ih a h.2 e he
  exact key es _ h.2.2
theorem Wy.rch {es : List Ed} {r x c : Int} {h : Nat} (k : Wy es r x c h) : Rch es r x := fun S h1 h2 => k (fun x _ _ => S x) h1 (fun e he _ _ hs => h2 e he hs)
theorem Rch.wy {es : List Ed} {r x : Int} (k : Rch es r x) : ∃ c h, Wy es r x c h :=
  k (fun x => ∃ c h, Wy es r x c h) ⟨0, 0, Wy.refl _ _⟩ (fun _ he ⟨_, _, hw⟩ => ⟨_, _, hw.step he⟩)

/-- The nodes of r's part with what they cost, the cheapest first. -/
structure IsNear (es : List Ed) (r : Int) (P : List (Int × Int)) : Prop where
  wp : ∀ n ∈ P, ∃ h, Wy es r n.1 n.2 h
  nd : (P.map (·.1)).Nodup
  ord : P.Pairwise fun a b => a.2 ≤ b.2
  mn : ∀ x c h, Wy es r x c h → ∃ b ∈ P, b.1 = x ∧ b.2 ≤ c
/-- As far as it has come: some told, some waiting. -/
structure Dj (es : List Ed) (r : Int) (P Q : List (Int × Int)) : Prop where
  wp : ∀ n ∈ P, ∃ h, Wy es r n.1 n.2 h
  wq : ∀ n ∈ Q, ∃ h, Wy es r n.1 n.2 h
  nd : (P.map (·.1)).Nodup
  ord : P.Pairwise fun a b => a.2 ≤ b.2
  le : ∀ a ∈ P, ∀ b ∈ Q, a.2 ≤ b.2
  cl : ∀ a ∈ P, ∀ e ∈ es, e.1 = a.1 → (∃ b ∈ P, b.1 = e.2.1 ∧ b.2 ≤ a.2 + e.2.2) ∨ (∃ b ∈ Q, b.1 = e.2.1 ∧ b.2 ≤ a.2 + e.2.2)
  rt : (r, 0) ∈ P ∨ (r, 0) ∈ Q
/-- The same, while the edges of the last one, n, are gone through. -/
structure Dk (es done : List Ed) (r : Int) (n : Int × Int) (P Q : List (Int × Int)) : Prop where
  wp : ∀ n ∈ P, ∃ h, Wy es r n.1 n.2 h
  wq : ∀ n ∈ Q, ∃ h, Wy es r n.1 n.2 h
  nd : (P.map (·.1)).Nodup
  ord : P.Pairwise fun a b => a.2 ≤ b.2
  le : ∀ a ∈ P, ∀ b ∈ Q, a.2 ≤ b.2
  cl : ∀ a ∈ P, ∀ e ∈ es, (a.1 = n.1 → e ∈ done) → e.1 = a.1 → (∃ b ∈ P, b.1 = e.2.1 ∧ b.2 ≤ a.2 + e.2.2) ∨ (∃ b ∈ Q, b.1 = e.2.1 ∧ b.2 ≤ a.2 + e.2.2)
  rt : (r, 0) ∈ P ∨ (r, 0) ∈ Q
  mem : n ∈ P
  mx : ∀ a ∈ P, a.2 ≤ n.2
theorem dj_start (es : List Ed) (r : Int) : Dj es r [] [(r, 0)] := by
  refine ⟨fun n hn => by simp at hn, fun n hn => ?_, by simp, by simp, fun a ha => by simp at ha, fun a ha => by simp at ha, .inr (by simp)⟩
  rw [List.mem_singleton.1 hn]
  exact ⟨0, Wy.refl _ _⟩
theorem Dj.again {es : List Ed} {r : Int} {P Q Q' : List (Int × Int)} {n : Int × Int} (h : Dj es r P Q) (hp : PosE es) (hq : ∀ x, x ∈ Q ↔ x = n ∨ x ∈ Q') (hm : ∃ b ∈ P, b.1 = n.1) : Dj es r P Q' := by
  obtain ⟨b, hb, hbn⟩ := hm
  have hle := h.le b hb n ((hq n).2 (.inl rfl))
  refine ⟨h.wp, fun x hx => h.wq x ((hq x).2 (.inr hx)), h.nd, h.ord, fun a ha x hx => h.le a ha x ((hq x).2 (.inr hx)), fun a ha e he h1 => ?_, ?_⟩
  · rcases h.cl a ha e he h1 with h2 | ⟨x, hx, h2, h3⟩
    · exact .inl h2
    · rcases (hq x).1 hx with rfl | hx
      · exact .inl ⟨b, hb, by rw [hbn, h2], by omega⟩
      · exact .inr ⟨x, hx, h2, h3⟩
  · rcases h.rt with h2 | h2
    · exact .inl h2
    · rcases (hq _).1 h2 with h3 | h3
      · subst h3
        obtain ⟨hh, hw⟩ := h.wp b hb
        have := (hw.pos hp).1
        simp only at hbn hle
        have h4 : b = (r, 0) := by
          obtain ⟨b1, b2⟩ := b
          simp only at hbn hle this
          have : b2 = 0 := by omega
          rw [hbn, this]
        rw [← h4]
        exact .inl hb
      · exact .inr h3
theorem Dj.next {es : List Ed} {r : Int} {P Q Q' : List (Int × Int)} {n : Int × Int} (h : Dj es r P Q) (hq : ∀ x, x ∈ Q ↔ x = n ∨ x ∈ Q') (hl : ∀ x ∈ Q', n.2 ≤ x.2) (hm : ∀ b ∈ P, b.1 ≠ n.1) : Dk es [] r n (P ++ [n]) Q' := by
  have hn := (hq n).2 (.inl rfl)
  have hmem : ∀ a, a ∈ P ++ [n] ↔ a ∈ P ∨ a = n := fun a => by simp
  refine ⟨fun a ha => ?_, fun x hx => h.wq x ((hq x).2 (.inr hx)), ?_, ?_, fun a ha x hx => ?_, fun a ha e he hd h1 => ?_, ?_, by simp, fun a ha => ?_⟩
  · rcases (hmem a).1 ha with ha | rfl
    · exact h.wp a ha
    · exact h.wq _ hn
  · rw [List.map_append, List.nodup_append]
    refine ⟨h.nd, by simp, fun x hx y hy e => ?_⟩
    obtain ⟨b, hb, rfl⟩ := List.mem_map.1 hx
    simp at hy
    exact hm b hb (by rw [e, hy])
  · rw [List.pairwise_append]
    refine ⟨h.ord, by simp, fun a ha b hb => ?_⟩
    rw [List.mem_singleton.1 hb]
    exact h.le a ha n hn
  · rcases (hmem a).1 ha with ha | rfl
    · exact h.le a ha x ((hq x).2 (.inr hx))
    · exact hl x hx
  · rcases (hmem a).1 ha with ha | rfl
    · rcases h.cl a ha e he h1 with ⟨b, hb, h2⟩ | ⟨x, hx, h2, h3⟩
      · exact .inl ⟨b, (hmem b).2 (.inl hb), h2⟩
      · rcases (hq x).1 hx with rfl | hx
        · exact .inl ⟨x, (hmem x).2 (.inr rfl), h2, h3⟩
        · exact .inr ⟨x, hx, h2, h3⟩
    · have := hd rfl
      simp at this
  · rcases h.rt with h2 | h2
    · exact .inl ((hmem _).2 (.inl h2))
    · rcases (hq _).1 h2 with h3 | h3
      · exact .inl ((hmem _).2 (.inr h3))
      · exact .inr h3
  · rcases (hmem a).1 ha with ha | rfl
    · exact h.le a ha n hn
    · exact Int.le_refl _
theorem nodup_fst {P : List (Int × Int)} (h : (P.map (·.1)).Nodup) {a b : Int × Int} (ha : a ∈ P) (hb : b ∈ P) (e : a.1 = b.1) : a = b := by
  induction P with
  | nil => simp at ha
  | cons p P ih =>
    rw [List.map_cons, List.nodup_cons] at h
    rcases List.mem_cons.1 ha with ha1 | ha1
    · rcases List.mem_cons.1 hb with hb1 | hb1
      · rw [ha1, hb1]
      · exact absurd (List.mem_map.2 ⟨b, hb1, by rw [← e, ha1]⟩) h.1
    · rcases List.mem_cons.1 hb with hb1 | hb1
      · exact absurd (List.mem_map.2 ⟨a, ha1, by rw [e, hb1]⟩) h.1
      · exact ih h.2 ha1 hb1
theorem Dk.skip {es done : List Ed} {r : Int} {n : Int × Int} {P Q : List (Int × Int)} {e : Ed} (h : Dk es done r n P Q) (he : e.1 ≠ n.1) : Dk es (done ++ [e]) r n P Q := by
  refine ⟨h.wp, h.wq, h.nd, h.ord, h.le, fun a ha x hx hd h1 => h.cl a ha x hx (fun h2 => ?_) h1, h.rt, h.mem, h.mx⟩
  rcases List.mem_append.1 (hd h2) with h3 | h3
  · exact h3
  · rw [List.mem_singleton.1 h3] at h1
    exact absurd (h1.trans h2) he
theorem Dk.met {es done : List Ed} {r : Int} {n : Int × Int} {P Q : List (Int × Int)} {e : Ed} (h : Dk es done r n P Q) (hp : PosE es) (hee : e ∈ es) (hm : ∃ b ∈ P, b.1 = e.2.1) : Dk es (done ++ [e]) r n P Q := by
  obtain ⟨b, hb, hbe⟩ := hm
  refine ⟨h.wp, h.wq, h.nd, h.ord, h.le, fun a ha x hx hd h1 => ?_, h.rt, h.mem, h.mx⟩
  by_cases hxe : x = e
  · subst hxe
    by_cases han : a.1 = n.1
    · refine .inl ⟨b, hb, hbe, ?_⟩
      have h2 := h.mx b hb
      have h3 : a = n := by
        have h4 := h.nd
        have h5 := h.mem
        exact nodup_fst h4 ha h5 han
      have := hp x hx
      rw [h3]
      omega
    · exact h.cl a ha x hx (fun h2 => absurd h2 han) h1
  · refine h.cl a ha x hx (fun h2 => ?_) h1
    rcases List.mem_append.1 (hd h2) with h3 | h3
    · exact h3
    · exact absurd (List.mem_singleton.1 h3) hxe
theorem Dk.push {es done : List Ed} {r : Int} {n : Int × Int} {P Q Q' : List (Int × Int)} {e : Ed} (h : Dk es done r n P Q) (hp : PosE es) (hee : e ∈ es) (hen : e.1 = n.1) (hq : ∀ x, x ∈ Q' ↔ x = (e.2.1, n.2 + e.2.2) ∨ x ∈ Q) : Dk es (done ++ [e]) r n P Q' := by
  have hpe := hp e hee
  refine ⟨h.wp, fun x hx => ?_, h.nd, h.ord, fun a ha x hx => ?_, fun a ha x hx hd h1 => ?_, ?_, h.mem, h.mx⟩
  · rcases (hq x).1 hx with rfl | hx
    · obtain ⟨hh, hw⟩ := h.wp n h.mem
      rw [← hen] at hw
      exact ⟨hh + 1, hw.step hee⟩
    · exact h.wq x hx
  · rcases (hq x).1 hx with rfl | hx
    · have := h.mx a ha
      show a.2 ≤ n.2 + e.2.2
      omega
    · exact h.le a ha x hx
  · by_cases hxe : x = e
    · subst hxe
      refine .inr ⟨(x.2.1, n.2 + x.2.2), (hq _).2 (.inl rfl), rfl, ?_⟩
      have h3 : a = n := nodup_fst h.nd ha h.mem (by rw [← h1, hen])
      rw [h3]
      exact Int.le_refl _
    · rcases h.cl a ha x hx (fun h2 => by
        rcases List.mem_append.1 (hd h2) with h3 | h3
        · exact h3
        · exact absurd (List.mem_singleton.1 h3) hxe) h1 with h2 | ⟨b, hb, h2⟩
      · exact .inl h2
      · exact .inr ⟨b, (hq b).2 (.inr hb), h2⟩
  · rcases h.rt with h2 | h2
    · exact .inl h2
    · exact .inr ((hq _).2 (.inr h2))
theorem Dk.done {es : List Ed} {r : Int} {n : Int × Int} {P Q : List (Int × Int)} (h : Dk es es r n P Q) : Dj es r P Q :=
  ⟨h.wp, h.wq, h.nd, h.ord, h.le, fun a ha e he h1 => h.cl a ha e he (fun _ => he) h1, h.rt⟩
theorem Dj.near {es : List Ed} {r : Int} {P : List (Int × Int)} (h : Dj es r P []) : IsNear es r P := by
  refine ⟨h.wp, h.nd, h.ord, fun x c hh hw => ?_⟩
  refine hw (fun x c _ => ∃ b ∈ P, b.1 = x ∧ b.2 ≤ c) ?_ ?_
  · rcases h.rt with h1 | h1
    · exact ⟨_, h1, rfl, Int.le_refl _⟩
    · simp at h1
  · rintro e he c _ ⟨b, hb, h1, h2⟩
    rcases h.cl b hb e he h1.symm with ⟨b', hb', h3, h4⟩ | ⟨b', hb', _⟩
    · exact ⟨b', hb', h3, by omega⟩
    · simp at hb'
/-- What is so of the nodes of a part. -/
def NdOk (P : List (Int × Int)) : Prop := P.length ≤ 25 ∧ ∀ n ∈ P, (1 ≤ n.1 ∧ n.1 ≤ 24) ∧ 0 ≤ n.2 ∧ n.2 ≤ 100000
/-- Is a node among those that are told? -/
def inP (P : List (Int × Int)) (x : Int) : Bool := P.any fun b => decide (b.1 = x)
theorem inP_iff {P : List (Int × Int)} {x : Int} : inP P x = true ↔ ∃ b ∈ P, b.1 = x := by simp [inP]
theorem cnt_step (P : List (Int × Int)) (n : Int × Int) (hm : ∀ b ∈ P, b.1 ≠ n.1) : ∀ es : List Ed, es.countP (fun e => inP (P ++ [n]) e.1) = es.countP (fun e => inP P e.1) + es.countP fun e => decide (e.1 = n.1)
  | [] => rfl
  | e :: es => by
    rw [List.countP_cons, List.countP_cons, List.countP_cons, cnt_step P n hm es]
    have h1 : inP (P ++ [n]) e.1 = (inP P e.1 || decide (n.1 = e.1)) := by simp [inP]
    rw [h1]
    by_cases h2 : n.1 = e.1
    · have h3 : inP P e.1 = false := by
        cases h4 : inP P e.1 with
        | false => rfl
        | true =>
          obtain ⟨b, hb, h5⟩ := inP_iff.1 h4
          exact absurd (h5.trans h2.symm) (hm b hb)
      rw [h3]
      simp [h2]
      omega
    · have h3 : ¬ e.1 = n.1 := fun h => h2 h.symm
      simp [h2, h3]
      omega
theorem cnt_le (P : List (Int × Int)) (es : List Ed) : es.countP (fun e => inP P e.1) ≤ es.length := List.countP_le_length
theorem cnt_take {es : List Ed} {k : Nat} {e : Ed} {x : Int} (h : es[k]? = some e) : (es.take (k + 1)).countP (fun e => decide (e.1 = x)) = (es.take k).countP (fun e => decide (e.1 = x)) + if e.1 = x then 1 else 0 := by
  rw [List.take_add_one, h, List.countP_append]
  simp [List.countP_cons]
end Go.Proofs.YtgeoghhajjlofaaGreatDoor
