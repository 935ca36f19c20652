/- A calendar of dandelion/api.Arrive as an ordered list: New, Len, Next, Put. -/
import Derived.Test.YtkhfpcnmnnboeaaC6A
namespace Go.Proofs.Ytkhfpcnmnnboeaa.Ca.A
open Go.RowKit Go.Maps

/-- What a call turns besides what was there: its own, and what is new. -/
def ext (S : Nat → Prop) (w w' : World) (k : Nat) : Prop := S k ∨ (w.heap.size ≤ k ∧ k < w'.heap.size)
/-- A calendar that has L, in order, and gave p tickets; all its blocks are in S. -/
structure Cal (w : World) (S : Nat → Prop) (cp : Nat) (L : List (Tg (Int × Int × ByteArray))) (p : Nat) : Prop where
  x : ∃ v mb es f, HpC w cp v mb es p ∧ MpE w mb p f ∧ MapOk f es ∧ IsHp at' es ∧ (es.map tg).Perm L ∧ S cp ∧ S mb ∧ ∀ k, ownH v es k → S k
  o : Ord L
  t : ∀ a ∈ L, 1 ≤ a.2 ∧ a.2 ≤ (p : Int)
theorem Cal.mono {w : World} {S T : Nat → Prop} {cp p : Nat} {L : List (Tg (Int × Int × ByteArray))} (h : Cal w S cp L p) (hT : ∀ k, k < w.heap.size → S k → T k) : Cal w T cp L p := by
  obtain ⟨v, mb, es, f, h1, h2, h3, h4, h5, h6, h7, h8⟩ := h.x
  exact ⟨⟨v, mb, es, f, h1, h2, h3, h4, h5, hT _ h1.lt h6, hT _ h2.lt h7, fun k hk => hT _ (h1.own_lt hk) (h8 k hk)⟩, h.o, h.t⟩
theorem Cal.keep {w w' : World} {S T : Nat → Prop} {cp p : Nat} {L : List (Tg (Int × Int × ByteArray))} (h : Cal w S cp L p) (hF : Fr T w w') (hT : ∀ k, S k → ¬ T k) : Cal w' S cp L p := by
  obtain ⟨v, mb, es, f, h1, h2, h3, h4, h5, h6, h7, h8⟩ := h.x
  exact ⟨⟨v, mb, es, f, h1.keep hF (hT _ h6) (fun k hk => hT _ (h8 k hk)), h2.keep hF (hT _ h7), h3, h4, h5, h6, h7, h8⟩, h.o, h.t⟩
theorem Cal.below {w w' : World} {S : Nat → Prop} {cp p : Nat} {L : List (Tg (Int × Int × ByteArray))} (h : Cal w S cp L p) (hb : Below w.heap.size w w') : Cal w' S cp L p :=
  h.keep (T := fun _ => False) (Fr.of_below hb) (fun _ _ h => h)
theorem Cal.self {w : World} {S : Nat → Prop} {cp p : Nat} {L : List (Tg (Int × Int × ByteArray))} (h : Cal w S cp L p) : S cp ∧ cp < w.heap.size ∧ w.cell? ⟨cp, 0, none⟩ = some (ptr cp) := by
  obtain ⟨v, mb, es, f, h1, h2, h3, h4, h5, h6, h7, h8⟩ := h.x
  exact ⟨h6, h1.lt, h1.c.1⟩
set_option maxRecDepth 100000 in
theorem new_ok (w : World) : Calls Try.prog 37 #[] w fun e w' => ∃ cp, e = .returned (ptr cp) ∧ Cal w' (fun k => w.heap.size ≤ k ∧ k < w'.heap.size) cp [] 0 ∧ Below w.heap.size w w' := by
  have hm := makeM
  go_enter Try.func37, Try.ntmps37
  go_wp2
  go_ret
  obtain ⟨V, hV⟩ : ∃ V, (w.alloc (.map #[] 0)).alloc (.cells #[ptr (w.heap.size + 1), .slice none 0 0, .map (some w.heap.size), .int .i64 0] 114) = V := ⟨_, rfl⟩
  have hz0 := heap_alloc_last (w.alloc (.map #[] 0)) (.cells #[ptr (w.heap.size + 1), .slice none 0 0, .map (some w.heap.size), .int .i64 0] 114)
  rw [World.size_alloc, hV] at hz0
  have hbel : Below w.heap.size w V := by rw [← hV]; exact ((Below.refl _ w).alloc (Nat.le_refl _) _).alloc (by simp) _
  have hmp : MpE V w.heap.size 0 (fun _ => none) := by
    rw [← hV]
    exact (mpE_new w).keep (T := fun _ => False) (Fr.of_below ((Below.refl _ _).alloc (Nat.le_refl _) _)) (fun h => h)
  have hs : w.heap.size + 1 < V.heap.size := block_lt hz0
  refine ⟨w.heap.size + 1, rfl, ?_, ?_⟩
  · rw [hV]
    refine ⟨⟨.slice none 0 0, w.heap.size, [], fun _ => none, ⟨hz0, World.ownsRow_nil _ _ _ _, fun i e he => by simp at he⟩, hmp, ⟨fun e he => by simp at he, fun k x hk => by cases hk⟩, fun j _ a b ha => by simp at ha, List.Perm.refl _, ⟨by omega, hs⟩, ⟨Nat.le_refl _, by omega⟩, fun k hk => ?_⟩, List.Pairwise.nil, fun a ha => by simp at ha⟩
    rcases hk with hk | ⟨e, he, _⟩
    · simp [Value.ownBlock] at hk
    · simp at he
  · rw [hV]; exact hbel
set_option maxRecDepth 100000 in
theorem len_ok {w : World} {S : Nat → Prop} {cp p : Nat} {L : List (Tg (Int × Int × ByteArray))} (h : Cal w S cp L p) :
    Calls Try.prog 34 #[ptr cp] w fun e w' => e = .returned (.int .i64 L.length) ∧ w' = w := by
  obtain ⟨v, mb, es, f, h1, h2, h3, h4, h5, _⟩ := h.x
  have HT := hidIn (there_yes h1.c.1)
  obtain ⟨ad, cap, rfl, _, _⟩ := h1.slice
  have c1 := h1.c.2.1
  rw [len_is h5] at c1
  clear h1 h2 h3 h4 h5 h
  go_enter Try.func34, Try.ntmps34
  go_wp2_with (go_at_call 52; refine HT.out.mono ?_; rintro e w1 ⟨rfl, hw1⟩; rw [hw1]; clear hw1 w1)
  go_ret
  exact ⟨rfl, rfl⟩
set_option maxRecDepth 100000 in
theorem next_none {w : World} {S : Nat → Prop} {cp p : Nat} (h : Cal w S cp [] p) :
    Calls Try.prog 50 #[ptr cp] w fun e w' => e = .returned (.tuple #[.int .u64 0, .bool false]) ∧ w' = w := by
  have HL := hidIn (len_ok h)
  go_enter Try.func50, Try.ntmps50
  go_wp2_with (go_at_call 34; refine HL.out.mono ?_; rintro e w1 ⟨rfl, hw1⟩; rw [hw1]; clear hw1 w1)
  go_returns
  exact ⟨rfl, rfl⟩
theorem Cal.first {w : World} {S : Nat → Prop} {cp p : Nat} {b : Tg (Int × Int × ByteArray)} {L : List (Tg (Int × Int × ByteArray))} (h : Cal w S cp (b :: L) p) : ∃ g cap n A i, w.cell? ⟨cp, 1, none⟩ = some (.slice (some ⟨g, 0, none⟩) (n + 1) cap) ∧ w.cell? ⟨g, 0, none⟩ = some (ptr A) ∧ w.heap[A]? = some (.cells (entA ((A, b.1), b.2) i) 116) := by
  obtain ⟨v, mb, es, f, h1, h2, h3, h4, h5, _⟩ := h.x
  have hl := len_is h5
  simp at hl
  obtain ⟨a, ha⟩ : ∃ a, es[0]? = some a := ⟨es[0], List.getElem?_eq_getElem (by omega)⟩
  obtain ⟨L', hL⟩ := first_is h4 h5 h.o ha
  obtain ⟨ad, cap, rfl, _, hg⟩ := h1.slice
  obtain ⟨g, rfl, _⟩ := hg (by omega)
  have hb : b = tg a := by cases hL; rfl
  refine ⟨g, cap, L.length, a.1.1, 0, by rw [h1.c.2.1, hl], h1.at ha, ?_⟩
  rw [hb]
  exact h1.ent 0 a ha
set_option maxRecDepth 100000 in
theorem next_some {w : World} {S : Nat → Prop} {cp p : Nat} {b : Tg (Int × Int × ByteArray)} {L : List (Tg (Int × Int × ByteArray))} (h : Cal w S cp (b :: L) p) :
    Calls Try.prog 50 #[ptr cp] w fun e w' => e = .returned (.tuple #[.int .u64 b.1.2, .bool true]) ∧ w' = w := by
  have HL := hidIn (len_ok h)
  obtain ⟨g, cap, n, A, i, c1, g0, hA⟩ := h.first
  have a1 := cell_of_row _ _ 3 _ _ _ hA
  simp at a1
  rw [List.length_cons] at HL
  have hp : ((L.length + 1 : Nat) : Int) ≠ 0 := by omega
  have hpe : (((L.length + 1 : Nat) : Int) == 0) = false := by simpa using hp
  have hn0 : (0 : Int) < (n : Int) + 1 := by omega
  generalize ((L.length + 1 : Nat) : Int) = ln at HL hp hpe
  clear h hA hp
  go_enter Try.func50, Try.ntmps50
  go_wp2_with (go_at_call 34; refine HL.out.mono ?_; rintro e w1 ⟨rfl, hw1⟩; rw [hw1]; clear hw1 w1)
  go_returns
  exact ⟨rfl, rfl⟩
end Go.Proofs.Ytkhfpcnmnnboeaa.Ca.A
