/- A calendar of dandelion/api.Arrive: ahead, firstBelow, swap. -/
import Derived.Test.YtkhfpcnmnnboeaaC1A
namespace Go.Proofs.Ytkhfpcnmnnboeaa.Ca.A
open Go.RowKit Go.Maps

abbrev less : Nat × (Int × Int × ByteArray) × Int → Nat × (Int × Int × ByteArray) × Int → Bool := ltK at'
theorem below_grow {W : World} (q : Nat) (os : Array Obj) : Below W.heap.size W (Go.Sort.grow (W.drewN q) os) :=
  ⟨rfl, rfl, rfl, by simp [Go.Sort.grow, World.drewN], fun k hk => by simp [Go.Sort.grow, World.drewN, Array.getElem?_append, hk]⟩
set_option maxRecDepth 100000 in
set_option maxHeartbeats 2000000 in
theorem ahead_ok {w : World} {cp mb i j : Nat} {v : Value} {es : List Th} {p : Int} {a b : Th} (h : HpC w cp v mb es p) (hl : es.length ≤ 100000) (ha : es[i]? = some a) (hb : es[j]? = some b) :
    Calls Try.prog 71 #[ptr cp, .int .i64 i, .int .i64 j] w fun e w' => e = .returned (.bool (aheadE less a b)) ∧ Below w.heap.size w w' := by
  have hi := (List.getElem?_eq_some_iff.1 ha).1
  have hj := (List.getElem?_eq_some_iff.1 hb).1
  have hO : ∀ W, Below w.heap.size w W → Calls Try.prog 75 #[ptr a.1.1, ptr b.1.1] W fun e w' => e = .returned (.int .i64 (cmE a.1.2.2 a.2 b.1.2.2 b.2)) ∧ Below W.heap.size W w' := fun W hb' =>
    (order_any (W := W) ((hb'.block _ (block_lt (h.ent i a ha))).trans (h.ent i a ha)) ((hb'.block _ (block_lt (h.ent j b hb))).trans (h.ent j b hb))).mono fun e w' he => ⟨he.1, by obtain ⟨q, os, rfl⟩ := he.2; exact below_grow q os⟩
  obtain ⟨ad, cap, rfl, _, hg⟩ := h.slice
  obtain ⟨g, rfl, hgl, _⟩ := hg (by omega)
  have c1 := cell_regrown h.c.2.1
  have ga := cell_regrown (h.at ha)
  have gb := cell_regrown (h.at hb)
  have hi' : (i : Int) < (es.length : Int) := by omega
  have hj' : (j : Int) < (es.length : Int) := by omega
  have HE : Hid (aheadE less a b = decide (cmE a.1.2.2 a.2 b.1.2.2 b.2 < 0)) := hidIn (cmE_neg at' a b).symm
  rw [HE.out]
  have HO := hidIn hO
  clear hO ha hb hi hj h hg
  generalize cmE a.1.2.2 a.2 b.1.2.2 b.2 = cc at *
  generalize es.length = n at *
  generalize a.1.1 = A at *
  generalize b.1.1 = B at *
  go_enter Try.func71, Try.ntmps71
  go_wp2_with fail
  refine wp_region_quiet_below (by kernel_rfl) (by kernel_rfl) ?_
  repeat (go_big_quiet_step (first | (go_at_call 75; exact Calls.regrown_of (HO.out _ (below_regrown w _ _)))))
  refine wpQuiet_nil ?_
  intro _ hw'
  obtain ⟨⟨dq, osq⟩, hw''⟩ := hw'
  subst hw''
  have hbr := below_regrown w dq osq
  generalize Go.Sort.grow (redrawn w dq) osq = W4 at hbr ⊢
  clear c1 ga gb
  go_wp2
  go_ret
  exact ⟨rfl, hbr⟩
end Go.Proofs.Ytkhfpcnmnnboeaa.Ca.A
