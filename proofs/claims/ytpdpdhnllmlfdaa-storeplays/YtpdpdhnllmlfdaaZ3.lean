/- Records and stamps as arguments. Small numbers of four, stamps, as arguments. Records as an argument, with what a uint32 holds. StoreMisses. The law's spoil: a record's neighbours are overwritten. What spoiling leaves of a store, of records beside it. The document's Stamps; its SameStamps of stamps that are alike. Graph and Live of a store. Live. The document's Router, has, Check. The document's MayRecord. -/
import Derived.Test.YtpdpdhnllmlfdaaX1
import Derived.Test.YtpdpdhnllmlfdaaGH
import Derived.Test.YtpdpdhnllmlfdaaN8
import Derived.Test.YtpdpdhnllmlfdaaZ2
import Derived.Test.YtpdpdhnllmlfdaaZ1
import Derived.Test.YtpdpdhnllmlfdaaGD
import Derived.Test.YtpdpdhnllmlfdaaN10
import Derived.Test.YtpdpdhnllmlfdaaGB
import Derived.Test.YtpdpdhnllmlfdaaGQ
import Derived.Test.YtpdpdhnllmlfdaaGF
namespace Go.Proofs.Ytpdpdhnllmlfdaa
open Go.ChangeShapes Go.WideShapes Go.ChangeAt Go.RowKit

section
variable {H : Type} {enc : TypeId × Value → H} {W : World}
theorem six {α : Type} {cs : Array α} (h : cs.size = 6) : ∃ c0 c1 c2 c3 c4 c5, cs = #[c0, c1, c2, c3, c4, c5] := by
  obtain ⟨l⟩ := cs
  match l, h with
  | [a, b, c, d, e, f], _ => exact ⟨a, b, c, d, e, f, rfl⟩
theorem bAdj : Try.prog.bytesOf 75 = 16 := by kernel_rfl
theorem cStamp : Try.prog.cellsOf 71 = 3 := by kernel_rfl
theorem stampF : Try.prog.underlying 71 = some (.struct #[(Try.prog.fieldsOf 71)[0]!, (Try.prog.fieldsOf 71)[1]!, (Try.prog.fieldsOf 71)[2]!]) := by kernel_rfl
theorem stampF' : ((Try.prog.fieldsOf 71)[0]!).type = 3 ∧ ((Try.prog.fieldsOf 71)[1]!).type = 25 ∧ ((Try.prog.fieldsOf 71)[2]!).type = 25 := ⟨by kernel_rfl, by kernel_rfl, by kernel_rfl⟩
set_option maxRecDepth 100000 in
/-- A stamp as an argument. -/
theorem stamp_arg {r : Reach} {b0 : Nat} {v : Value} {d : DataW H} {p : List MemPlace} (hv : Value.okWide Try.prog W r b0 71 v) (h : DataW.Trod enc Try.prog W 0 (fun _ => true) true 71 v d p) :
    ∃ o e q : Int, v = stV o e q ∧ (0 ≤ e ∧ e < 4294967296) ∧ (0 ≤ q ∧ q < 4294967296) := by
  obtain ⟨v0, v1, v2, y0, y1, y2, m, rfl, _, _, h0, h1, h2⟩ := Joins.open_agg3 stampF (by kernel_rfl) cStamp hv h
  rw [stampF'.1] at h0
  rw [stampF'.2.1] at h1
  rw [stampF'.2.2] at h2
  obtain ⟨o, ho, _⟩ := DataW.trod_int Try.underlying3 h0
  obtain ⟨e, he, _, we⟩ := DataW.trod_int Try.underlying25 h1
  obtain ⟨q, hq, _, wq⟩ := DataW.trod_int Try.underlying25 h2
  simp at ho he hq
  have b1 := bounds_u32 we
  have b2 := bounds_u32 wq
  exact ⟨o, e, q, by rw [ho, he, hq], by omega, by omega⟩
set_option maxRecDepth 100000 in
/-- A record as an argument. -/
theorem rec_arg {r : Reach} {b0 : Nat} {v : Value} {d : DataW H} {p : List MemPlace} (hv : Value.okWide Try.prog W r b0 28 v) (h : DataW.Trod enc Try.prog W 0 (fun _ => true) true 28 v d p) (hw : ∀ n ∈ d.weights Try.prog 28, n ≤ reachBytes) :
    ∃ (y : Rc) (va : Value), v = recV y va ∧ SlAt ac 2 W va y.adjs ∧ NilOk va ∧ RcB y ∧ (y.adjs.length + 1) * 16 ≤ 140737488355328 := by
  obtain ⟨cs, rfl, hsz⟩ := okWide_struct recF hv
  rw [cRec] at hsz
  obtain ⟨v0, v1, v2, v3, v4, v5, rfl⟩ := six hsz
  obtain ⟨fuel, hf⟩ := h
  obtain ⟨xs, k, _, hx, hlen, hxl, hfd⟩ := DataW.trod_struct recF hf
  match xs, hxl with
  | [z0, z1, z2, z3, z4, z5], _ =>
    have g0 := hfd 0 ((Try.prog.fieldsOf 28)[0]!) rfl
    have g1 := hfd 1 ((Try.prog.fieldsOf 28)[1]!) rfl
    have g2 := hfd 2 ((Try.prog.fieldsOf 28)[2]!) rfl
    have g3 := hfd 3 ((Try.prog.fieldsOf 28)[3]!) rfl
    have g4 := hfd 4 ((Try.prog.fieldsOf 28)[4]!) rfl
    have g5 := hfd 5 ((Try.prog.fieldsOf 28)[5]!) rfl
    rw [(recF' 0 (by omega)).1, (recF' 0 (by omega)).2] at g0
    rw [(recF' 1 (by omega)).1, (recF' 1 (by omega)).2] at g1
    rw [(recF' 2 (by omega)).1, (recF' 2 (by omega)).2] at g2
    rw [(recF' 3 (by omega)).1, (recF' 3 (by omega)).2] at g3
    rw [(recF' 4 (by omega)).1, (recF' 4 (by omega)).2] at g4
    rw [(recF' 5 (by omega)).1, (recF' 5 (by omega)).2] at g5
    simp [cInt, cU32, cBool, cAdjs, Value.cells] at g0 g1 g2 g3 g4 g5
    obtain ⟨o, ho, _⟩ := DataW.trod_int Try.underlying3 g0
    obtain ⟨e, he, _, wfe⟩ := DataW.trod_int Try.underlying25 g1
    obtain ⟨s, hs, _, wfs⟩ := DataW.trod_int Try.underlying25 g2
    obtain ⟨c, hc, _⟩ := DataW.trod_int Try.underlying3 g3
    obtain ⟨b, hb, _⟩ := DataW.trod_bool Try.underlying4 g4
    obtain ⟨l, hl, hn, _, hll⟩ := open_sl (0, 0) (cs := ac) (sz := 2) (fun _ => rfl) (by omega) Try.underlying26 cAdj (fun n cs' x h => adj_cells h) g5
    simp at ho he hs hc hb
    have b1 := bounds_u32 wfe
    have b2 := bounds_u32 wfs
    refine ⟨⟨o, e, s, c, b, l⟩, v5, by simp [ho, he, hs, hc, hb], hl, hn, ⟨by show 0 ≤ e; omega, by show e < _; omega, by show 0 ≤ s; omega, by show s < _; omega⟩, ?_⟩
    simp only [Prod.mk.injEq] at hx
    have hd := hx.1
    refine slice_weight (d := z5.1) Try.underlying26 bAdj (by omega) (fun n hn => hw n ?_) (by rcases hll with rfl | h; exact .inl rfl; exact .inr h)
    rw [hd]
    simp only [DataW.weights, recF, List.map_cons, List.map_nil, DataW.weightsEach, (recF' 0 (by omega)).1, (recF' 1 (by omega)).1, (recF' 2 (by omega)).1, (recF' 3 (by omega)).1, (recF' 4 (by omega)).1, (recF' 5 (by omega)).1, List.append_nil, List.mem_append]
    simp [hn]
end
end Go.Proofs.Ytpdpdhnllmlfdaa
namespace Go.Proofs.Ytpdpdhnllmlfdaa
open Go.ChangeShapes Go.WideShapes Go.ChangeAt Go.RowKit

section
variable {H : Type} {enc : TypeId × Value → H} {W : World}
theorem cU8' : Try.prog.cellsOf 5 = 1 := by kernel_rfl
theorem bSt : Try.prog.bytesOf 71 = 16 := by kernel_rfl
theorem stF2 : (((Try.prog.fieldsOf 71)[0]!).type = 3 ∧ ((Try.prog.fieldsOf 71)[0]!).offset = 0) ∧ (((Try.prog.fieldsOf 71)[1]!).type = 25 ∧ ((Try.prog.fieldsOf 71)[1]!).offset = 1) ∧ ((Try.prog.fieldsOf 71)[2]!).type = 25 ∧ ((Try.prog.fieldsOf 71)[2]!).offset = 2 := ⟨⟨by kernel_rfl, by kernel_rfl⟩, ⟨by kernel_rfl, by kernel_rfl⟩, by kernel_rfl, by kernel_rfl⟩
set_option maxRecDepth 100000 in
theorem st_cells {n : Nat} {cs' : List Value} {x : DataW H × List MemPlace} (h : DataW.trod enc Try.prog W 0 (fun _ => true) true n 71 cs' = some x) : ∃ y : Ed, cs' = sc3 y ∧ (0 ≤ y.2.1 ∧ y.2.1 < 4294967296) ∧ 0 ≤ y.2.2 ∧ y.2.2 < 4294967296 := by
  obtain ⟨y0, y1, y2, k, _, hlen, h0, h1, h2⟩ := Deep.trod_struct3 stampF h
  obtain ⟨⟨a0, b0⟩, ⟨a1, b1⟩, a2, b2⟩ := stF2
  rw [cStamp] at hlen
  match cs', hlen with
  | [v0, v1, v2], _ =>
    rw [a0, b0, cInt] at h0
    rw [a1, b1, cU32] at h1
    rw [a2, b2, cU32] at h2
    obtain ⟨p, hp, _, wp⟩ := DataW.trod_int Try.underlying3 h0
    obtain ⟨q, hq, _, wq⟩ := DataW.trod_int Try.underlying25 h1
    obtain ⟨r, hr, _, wr⟩ := DataW.trod_int Try.underlying25 h2
    simp at hp hq hr
    have b1 := bounds_u32 wq
    have b2 := bounds_u32 wr
    exact ⟨(p, q, r), by rw [hp, hq, hr], by simp only; omega, by simp only; omega⟩
set_option maxRecDepth 100000 in
theorem st_arg {a : Option Addr} {len cap : Nat} {d : DataW H} {p : List MemPlace} (h : DataW.Trod enc Try.prog W 0 (fun _ => true) true 39 (.slice a len cap) d p) (hw : ∀ n ∈ d.weights Try.prog 39, n ≤ reachBytes) :
    ∃ ls, SlAt sc3 3 W (.slice a len cap) ls ∧ (∀ y ∈ ls, (0 ≤ y.2.1 ∧ y.2.1 < 4294967296) ∧ 0 ≤ y.2.2 ∧ y.2.2 < 4294967296) ∧ NilOk (.slice a len cap) ∧ (ls.length + 1) * 16 ≤ 140737488355328 := by
  obtain ⟨fuel, hf⟩ := h
  obtain ⟨ns, hn1, hn2, hG, hn3⟩ := open_sl (0, 0, 0) (cs := sc3) (sz := 3) (fun _ => rfl) (by omega) Try.underlying39 cStamp (fun n cs' x h => st_cells h) (by simpa [Value.cells] using hf)
  exact ⟨ns, hn1, hG, hn2, slice_weight Try.underlying39 bSt (by omega) hw (by rcases hn3 with rfl | h; exact .inl rfl; exact .inr h)⟩
end
end Go.Proofs.Ytpdpdhnllmlfdaa
namespace Go.Proofs.Ytpdpdhnllmlfdaa
open Go.ChangeShapes Go.WideShapes Go.ChangeAt Go.RowKit

section
variable {H : Type} {enc : TypeId × Value → H} {W : World}


/-- What is known of a record: its neighbours lie there, its numbers are of 32 bits. -/
def RecB (W : World) (y : Rc × Value) : Prop := RecG W y ∧ y.1.epoch < 4294967296 ∧ y.1.seq < 4294967296 ∧ (Lit.int .i64 y.1.origin).wf = true
set_option maxRecDepth 100000 in
theorem rec_cells32 {n : Nat} {cs' : List Value} {x : DataW H × List MemPlace} (h : DataW.trod enc Try.prog W 0 (fun _ => true) true n 28 cs' = some x) : ∃ y : Rc × Value, cs' = rcc y ∧ RecB W y := by
  obtain ⟨xs, k, _, _, hlen, hxl, hf⟩ := DataW.trod_struct recF h
  rw [cRec] at hlen
  match cs', hlen with
  | [v0, v1, v2, v3, v4, v5], _ =>
    match xs, hxl with
    | [z0, z1, z2, z3, z4, z5], _ =>
      have g0 := hf 0 ((Try.prog.fieldsOf 28)[0]!) rfl
      have g1 := hf 1 ((Try.prog.fieldsOf 28)[1]!) rfl
      have g2 := hf 2 ((Try.prog.fieldsOf 28)[2]!) rfl
      have g3 := hf 3 ((Try.prog.fieldsOf 28)[3]!) rfl
      have g4 := hf 4 ((Try.prog.fieldsOf 28)[4]!) rfl
      have g5 := hf 5 ((Try.prog.fieldsOf 28)[5]!) rfl
      rw [(recF' 0 (by omega)).1, (recF' 0 (by omega)).2] at g0
      rw [(recF' 1 (by omega)).1, (recF' 1 (by omega)).2] at g1
      rw [(recF' 2 (by omega)).1, (recF' 2 (by omega)).2] at g2
      rw [(recF' 3 (by omega)).1, (recF' 3 (by omega)).2] at g3
      rw [(recF' 4 (by omega)).1, (recF' 4 (by omega)).2] at g4
      rw [(recF' 5 (by omega)).1, (recF' 5 (by omega)).2] at g5
      simp [cInt, cU32, cBool, cAdjs] at g0 g1 g2 g3 g4 g5
      obtain ⟨o, ho, _, wfo⟩ := DataW.trod_int Try.underlying3 g0
      obtain ⟨e, he, _, wfe⟩ := DataW.trod_int Try.underlying25 g1
      obtain ⟨s, hs, _, wfs⟩ := DataW.trod_int Try.underlying25 g2
      obtain ⟨c, hc, _⟩ := DataW.trod_int Try.underlying3 g3
      obtain ⟨b, hb, _⟩ := DataW.trod_bool Try.underlying4 g4
      obtain ⟨l, hl, hn, _⟩ := open_sl (0, 0) (cs := ac) (sz := 2) (fun _ => rfl) (by omega) Try.underlying26 cAdj (fun n cs' x h => adj_cells h) g5
      simp at ho he hs hc hb
      refine ⟨(⟨o, e, s, c, b, l⟩, v5), by simp [rcc, ho, he, hs, hc, hb], ⟨hl, hn, (bounds_u32 wfe).1, (bounds_u32 wfs).1⟩, ?_, ?_, wfo⟩
      · have := (bounds_u32 wfe).2; show e < 4294967296; omega
      · have := (bounds_u32 wfs).2; show s < 4294967296; omega
set_option maxRecDepth 100000 in
/-- Records as an argument. -/
theorem recs32_arg {a : Option Addr} {len cap : Nat} {d : DataW H} {p : List MemPlace} (h : DataW.Trod enc Try.prog W 0 (fun _ => true) true 22 (.slice a len cap) d p) (hw : ∀ n ∈ d.weights Try.prog 22, n ≤ reachBytes) :
    ∃ l, RecsAt W (.slice a len cap) l ∧ NilOk (.slice a len cap) ∧ (∀ y ∈ l, RecB W y) ∧ (l.length + 1) * 56 ≤ 140737488355328 := by
  obtain ⟨fuel, hf⟩ := h
  obtain ⟨l, hn1, hn2, hG, hn3⟩ := open_sl (⟨0, 0, 0, 0, false, []⟩, .slice none 0 0) (cs := rcc) (sz := 6) (fun _ => rfl) (by omega) Try.underlying22 cRec (fun n cs' x h => rec_cells32 h) (by simpa [Value.cells] using hf)
  exact ⟨l, ⟨hn1, fun y hy => (hG y hy).1.1⟩, hn2, hG, slice_weight Try.underlying22 bRec (by omega) hw (by rcases hn3 with rfl | h; exact .inl rfl; exact .inr h)⟩
end
end Go.Proofs.Ytpdpdhnllmlfdaa
namespace Go.Proofs.Ytpdpdhnllmlfdaa
open Go.RowKit Go.Maps

theorem RecsAt.keepM {w w' : World} {v : Value} {l : List (Rc × Value)} {M : Nat} (h : RecsAt w v l) (hF : Fr (fun k => k = M) w w') (hM : ∃ es cl, w.heap[M]? = some (.map es cl)) : RecsAt w' v l :=
  ⟨h.r.keepM hF hM (by omega) (fun _ => rfl), fun x hx => (h.a x hx).keepM hF hM (by omega) (fun _ => rfl)⟩
/-- The store, and the document's list beside it. -/
structure Besd (wr : World) (S M n : Nat) (u : Value) (f : Sf) (L : List (Rc × Value)) : Prop where
  s : StAt wr S M n f
  r : RecsAt wr u L
  a : rcs L = allR (fR f) 24
  u : ∀ y ∈ L, U32 y.1
theorem Besd.keep {w w' : World} {S M n : Nat} {u : Value} {f : Sf} {L : List (Rc × Value)} (h : Besd w S M n u f L) (hb : Below w.heap.size w w') : Besd w' S M n u f L := ⟨h.s.keep hb, h.r.keep hb (Nat.le_refl _), h.a, h.u⟩
theorem Besd.len {w : World} {S M n : Nat} {u : Value} {f : Sf} {L : List (Rc × Value)} (h : Besd w S M n u f L) : L.length ≤ 24 := by
  have h1 : (rcs L).length = L.length := List.length_map _
  rw [← h1, h.a]
  exact allL_len f 24
/-- One record put into both. -/
theorem put_both {w3 w4 : World} {S M n : Nat} {u : Value} {f f' : Sf} {L : List (Rc × Value)} {r : Rc} {v : Value} {e : Ending} (hs : StAt w3 S M (n + 1) f') (hf : fR f' = putR (fR f) r) (hr : RecsAt w3 u L) (ha : rcs L = allR (fR f) 24) (hu : ∀ y ∈ L, U32 y.1) (hF : OkF (fR f)) (hv : SlAt ac 2 w3 v r.adjs) (h32 : U32 r) (h : DpAns w3 w4 u L (r, v) e) (hb : Below w3.heap.size w3 w4) :
    ∃ u' m L', e = .returned (.tuple #[u', .int .i64 m, .int .i64 (ckN r)]) ∧ m = pnR (fR f) r ∧ Besd w4 S M (n + 1) u' f' L' ∧ ((u' = u ∧ L' = L) ∨ (L' = insP (r, v) L false ∧ w4.ownsRow w3.heap.size 28 6 u' L'.length (fl rcc L'))) := by
  have hfd : recOk r = true → (fdR L r.origin).map (·.1) = fR f r.origin := fun hok => by
    have := recOk_pos hok
    exact fdR_all hF ha (by omega) (by omega)
  rcases h with ⟨h1, rfl⟩ | ⟨h1, old, h2, h3, rfl⟩ | ⟨h1, h2, u', rfl, h3⟩
  · have h1' : recOk r = false := h1
    have e1 : putR (fR f) r = fR f := by unfold putR; rw [if_neg (by rw [h1']; simp)]
    refine ⟨u, 0, L, ?_, ?_, ⟨hs.keep hb, hr.keep hb (Nat.le_refl _), by rw [hf, e1]; exact ha, hu⟩, .inl ⟨rfl, rfl⟩⟩
    · unfold ckN; rw [if_neg (by rw [h1']; simp)]
    · unfold pnR; rw [if_neg (by rw [h1']; simp)]
  · have h1' : recOk r = true := h1
    have h2' : fdR L r.origin = some old := h2
    have h4 : fR f r.origin = some old.1 := by rw [← hfd h1', h2']; rfl
    have h5 : nwR (fR f) r = newI r.epoch r.seq old.1.epoch old.1.seq := by unfold nwR; rw [h4]; rfl
    have h3' : newI r.epoch r.seq old.1.epoch old.1.seq ≤ 0 := h3
    have e1 : putR (fR f) r = fR f := by unfold putR; rw [if_neg (by rw [h5]; omega)]
    refine ⟨u, newI r.epoch r.seq old.1.epoch old.1.seq, L, ?_, ?_, ⟨hs.keep hb, hr.keep hb (Nat.le_refl _), by rw [hf, e1]; exact ha, hu⟩, .inl ⟨rfl, rfl⟩⟩
    · unfold ckN; rw [if_pos h1']
    · unfold pnR; rw [if_pos h1', h5]
  · have h1' : recOk r = true := h1
    have h5 : nwR (fR f) r = 1 := by
      have hv := newI_vals r.epoch r.seq (gD (fR f r.origin)).epoch (gD (fR f r.origin)).seq
      have h6 : 0 < newI r.epoch r.seq (gD (fR f r.origin)).epoch (gD (fR f r.origin)).seq := by
        cases h7 : fdR L r.origin with
        | none =>
          have h8 : fR f r.origin = none := by rw [← hfd h1', h7]; rfl
          rw [h8]
          have := recOk_pos h1'
          show 0 < newI r.epoch r.seq 0 0
          have h9 := (newI_pos r.epoch r.seq 0 0).2 (by omega)
          omega
        | some old =>
          have h8 : fR f r.origin = some old.1 := by rw [← hfd h1', h7]; rfl
          rw [h8]
          exact h2 old h7
      unfold nwR
      omega
    have e1 : putR (fR f) r = putO (fR f) r.origin r := by unfold putR; rw [if_pos ⟨h1', h5⟩]
    refine ⟨u', 1, insP (r, v) L false, ?_, ?_, ⟨hs.keep hb, ⟨slAt_of_row (cs := rcc) (fun _ => rfl) h3 rfl, fun x hx => ?_⟩, by rw [hf, e1]; exact insP_all hF h1' ha, fun y hy => ?_⟩, .inr ⟨rfl, h3⟩⟩
    · unfold ckN; rw [if_pos h1']
    · unfold pnR; rw [if_pos h1', h5]
    · rcases insP_mem _ _ _ _ hx with rfl | hx
      · exact hv.keep hb (Nat.le_refl _)
      · exact (hr.a x hx).keep hb (Nat.le_refl _)
    · rcases insP_mem _ _ _ _ hy with rfl | hy
      · exact h32
      · exact hu y hy
set_option maxRecDepth 100000 in
set_option maxHeartbeats 8000000 in
theorem storeMisses_walk {l : List (Rc × Value)} {ls : List Ed} {v sv : Value} {w : World} (hR : RecsAt w v l) (hg : ∀ y ∈ l, RecB w y) (hS : SlAt sc3 3 w sv ls) (hB : ∀ y ∈ ls, (0 ≤ y.2.1 ∧ y.2.1 < 4294967296) ∧ 0 ≤ y.2.2 ∧ y.2.2 < 4294967296) (hn : NilOk sv) :
    Calls Try.prog 4 #[v, sv] w fun e w' => e = .returned (.bool true) ∧ Below w.heap.size w w' := by
  obtain ⟨va, lcap, rfl, hl, _, hat⟩ := hR.r.recs
  obtain ⟨sa, scap, rfl, hsl, hsc, hsq⟩ := hS
  have HSt : Hid (SlAt sc3 3 w (.slice sa ls.length scap) ls) := hidIn ⟨sa, scap, rfl, hsl, hsc, hsq⟩
  obtain ⟨LL, hLL⟩ : ∃ LL, l.length = LL := ⟨_, rfl⟩
  obtain ⟨SL, hSL⟩ : ∃ SL, ls.length = SL := ⟨_, rfl⟩
  have HBd : Hid (∀ y ∈ ls.take 40, (0 ≤ y.2.1 ∧ y.2.1 < 4294967296) ∧ 0 ≤ y.2.2 ∧ y.2.2 < 4294967296) := hidIn fun y hy => hB y (List.mem_of_mem_take hy)
  have hm40 : (ls.take 40).length ≤ 40 ∧ (ls.take 40).length ≤ SL ∧ (if (40 : Int) < (SL : Int) then (40 : Int) else (SL : Int)) = ((ls.take 40).length : Int) := by
    rw [List.length_take, hSL]
    refine ⟨by omega, by omega, ?_⟩
    split <;> omega
  have HNil : Hid (((∃ a n c, Value.slice sa (ls.take 40).length scap = .slice (some a) n c) ∨ (Value.slice sa (ls.take 40).length scap = .slice none 0 0 ∧ ls.take 40 = []))) := hidIn (by
    rcases hn with ⟨a, n, c, h⟩ | h
    · cases h
      exact .inl ⟨_, _, _, rfl⟩
    · simp at h
      obtain ⟨rfl, h1, rfl⟩ := h
      have : ls = [] := h1
      rw [this]
      exact .inr ⟨rfl, rfl⟩)
  have HT40 := hidIn (HSt.out.some20 40)
  rw [hLL] at hat hl ⊢
  rw [hSL] at hsl hsc ⊢
  have Hat := hidIn hat
  have Hg := hidIn hg
  have HLL := hidIn hLL
  generalize ls.take 40 = T at HBd hm40 HNil HT40
  obtain ⟨m, hm⟩ : ∃ m, T.length = m := ⟨_, rfl⟩
  rw [hm] at hm40 HNil HT40
  obtain ⟨hm1, hm2, hmin⟩ := hm40
  have hmi : (m : Int) ≤ (scap : Int) := by omega
  have hmn : (m : Int) ≤ (SL : Int) := by omega
  have Hm := hidIn hm
  clear hat hg hLL hSL hB hsq hn HSt hR hm
  go_enter Try.func4, Try.ntmps4
  go_wp2_with fail
  refine (snew_any _).mono ?_
  rintro e w1 ⟨⟨S, M, rfl, h1, hS, hM⟩, hb1⟩
  have H1 := hidIn h1
  have HB1 := hidIn hb1
  have HSM := hidIn (And.intro hS hM)
  clear h1 hb1 hS hM
  go_wp2_with fail
  go_loopw [6, 7] (fun u i wr => ∃ k : Nat, k ≤ LL ∧ k ≤ 30 ∧ i = .int .i64 k ∧ Hid (∃ f L, Besd wr S M k u f L ∧ Below w.heap.size w wr)) (fun _ i _ => LL - (intOf i).toNat)
  case atStart => exact ⟨0, Nat.zero_le _, by omega, rfl, hidIn ⟨_, [], ⟨H1.out, ⟨slAt_of_row (cs := rcc) (fun _ => rfl) (World.ownsRow_nil w1 0 28 6) rfl, fun x hx => by simp at hx⟩, by rfl, fun x hx => by simp at hx⟩, HB1.out⟩⟩
  case round =>
    clear H1 HB1
    obtain ⟨k, hk, hk30, rfl, HR⟩ := hrel
    by_cases hlt : k < LL ∧ k < 30
    · have hki : (k : Int) < (LL : Int) := by omega
      have hk3 : (k : Int) < 30 := by omega
      obtain ⟨f, L, hbs, hbel⟩ := HR.out
      obtain ⟨ua, ucap, hue, _⟩ := hbs.r.r
      obtain ⟨bk, o, rfl, hbk, hcell⟩ := Hat.out (by omega)
      obtain ⟨⟨⟨s0, s1, s2, s3, s4, as'⟩, va⟩, hz⟩ : ∃ z, l[k]? = some z := ⟨l[k]'(by rw [HLL.out]; exact hlt.1), List.getElem?_eq_getElem _⟩
      obtain ⟨⟨hva, hvn, hp1, hp2⟩, hp3, hp4, _⟩ := Hg.out _ (List.mem_of_getElem? hz)
      simp only at hva hvn hp1 hp2 hp3 hp4
      have HCell : Hid (∀ wq, Below w.heap.size w wq → wq.cell? ⟨bk, o + k * 6, none⟩ = some (.int .i64 s0) ∧ wq.cell? ⟨bk, o + k * 6 + 1, none⟩ = some (.int .u32 s1) ∧ wq.cell? ⟨bk, o + k * 6 + 2, none⟩ = some (.int .u32 s2) ∧ wq.cell? ⟨bk, o + k * 6 + 3, none⟩ = some (.int .i64 s3) ∧ wq.cell? ⟨bk, o + k * 6 + 4, none⟩ = some (.bool s4) ∧ wq.cell? ⟨bk, o + k * 6 + 5, none⟩ = some va) := hidIn fun wq hq => by
        obtain ⟨p0, p1, p2, p3, p4, p5⟩ := hcell k _ hz
        exact ⟨(hq.cell (p := ⟨bk, o + k * 6, none⟩) hbk).trans p0, (hq.cell (p := ⟨bk, o + k * 6 + 1, none⟩) hbk).trans p1, (hq.cell (p := ⟨bk, o + k * 6 + 2, none⟩) hbk).trans p2, (hq.cell (p := ⟨bk, o + k * 6 + 3, none⟩) hbk).trans p3, (hq.cell (p := ⟨bk, o + k * 6 + 4, none⟩) hbk).trans p4, (hq.cell (p := ⟨bk, o + k * 6 + 5, none⟩) hbk).trans p5⟩
      have HOw : Hid (∀ wq, Below w.heap.size w wq → Calls Try.prog 6 #[recV ⟨s0, s1, s2, s3, s4, as'⟩ va] wq fun e w' => CpAns wq w' (cut20 ⟨s0, s1, s2, s3, s4, as'⟩) e ∧ Below wq.heap.size wq w') := hidIn fun wq hq => owned_any (r := ⟨s0, s1, s2, s3, s4, as'⟩) (hva.keep hq (Nat.le_refl _)) hvn
      have HU : Hid (U32 (cut20 ⟨s0, s1, s2, s3, s4, as'⟩)) := hidIn ⟨hp1, hp3, hp2, hp4⟩
      obtain ⟨aa, acap, rfl, _⟩ := hva
      rw [hue] at hbs ⊢
      have Hbs := hidIn hbs
      have HBel := hidIn hbel
      generalize as'.length = an at HCell HOw
      have Hr4 : Hid ((cut20 ⟨s0, s1, s2, s3, s4, as'⟩).origin = s0 ∧ True) := hidIn ⟨rfl, trivial⟩
      obtain ⟨r, hr⟩ : ∃ r, cut20 ⟨s0, s1, s2, s3, s4, as'⟩ = r := ⟨_, rfl⟩
      rw [hr] at HOw HU
      clear hbs hbel HR hcell hz hvn hp1 hp2 hp3 hp4 hbk hue Hr4 hr
      generalize L.length = nl at Hbs ⊢
      obtain ⟨p0, p1, p2, p3, p4, p5⟩ := HCell.out _ HBel.out
      go_wp2_with fail
      refine (HOw.out _ HBel.out).mono ?_
      rintro e w3 ⟨⟨a, c, rfl, hsl3, hnl3, _⟩, hb3⟩
      have HB3 := hidIn (HBel.out.trans (hb3.mono HBel.out.size))
      have Hbs3 := hidIn (Hbs.out.keep hb3)
      have HP := hidIn (sputP Hbs3.out.s (by omega) hsl3 ⟨HU.out.1, HU.out.2.2.1⟩)
      clear hsl3 hnl3 hb3 Hbs HBel p0 p1 p2 p3 p4 p5
      obtain ⟨ro, re, rs, rc, ri, rl⟩ := r
      simp only at HP ⊢
      generalize rl.length = rn at HP ⊢
      go_wp2_with fail
      refine HP.out.mono ?_
      rintro e w4 ⟨rfl, ⟨f4, h4, e4⟩, hf4⟩
      have HB4 := hidIn (HB3.out.trans (hf4.below HB3.out.size (fun j hj => by rw [hj]; exact HSM.out.2)))
      have Hs4 := hidIn h4
      have He4 := hidIn e4
      have Hr4 := hidIn (Hbs3.out.r.keepM hf4 Hbs3.out.s.m.isMap)
      have Hrest := hidIn (And.intro Hbs3.out.a (And.intro Hbs3.out.u (And.intro Hbs3.out.s.okF Hbs3.out.len)))
      clear h4 e4 hf4 HP Hbs3 HB3
      generalize pnR (fR f) ⟨ro, re, rs, rc, ri, rl⟩ = pn
      obtain ⟨ck, hck⟩ : ∃ ck, ckN ⟨ro, re, rs, rc, ri, rl⟩ = ck := ⟨_, rfl⟩
      rw [hck]
      have Hck := hidIn hck
      clear hck
      obtain ⟨p0, p1, p2, p3, p4, p5⟩ := HCell.out _ HB4.out
      go_wp2_with fail
      refine (HOw.out _ HB4.out).mono ?_
      rintro e w5 ⟨⟨a5, c5, rfl, hsl5, hnl5, _⟩, hb5⟩
      have HB5 := hidIn (HB4.out.trans (hb5.mono HB4.out.size))
      have Hs5 := hidIn (Hs4.out.keep hb5)
      have Hr5 := hidIn (Hr4.out.keep hb5 (Nat.le_refl _))
      have Hv5 := hidIn hsl5
      have HD := hidIn (dput9_any Hr5.out hsl5 HU.out Hrest.out.2.1 Hrest.out.2.2.2)
      clear hsl5 hnl5 hb5 Hs4 Hr4 HB4 p0 p1 p2 p3 p4 p5
      simp only at HD Hv5 ⊢
      generalize rl.length = rn5 at HD Hv5 ⊢
      go_wp2_with fail
      refine HD.out.mono ?_
      rintro e w6 ⟨h6, hb6⟩
      obtain ⟨u', m6, L', rfl, _, hbs6, _⟩ := put_both Hs5.out He4.out Hr5.out Hrest.out.1 Hrest.out.2.1 Hrest.out.2.2.1 Hv5.out HU.out h6 hb6
      have HO : Hid (∃ f L, Besd w6 S M (k + 1) u' f L ∧ Below w.heap.size w w6) := hidIn ⟨_, _, hbs6, HB5.out.trans (hb6.mono HB5.out.size)⟩
      rw [Hck.out]
      clear h6 hb6 hbs6 HD Hs5 Hr5 Hv5 Hrest HB5
      go_wp2_with fail
      go_roundw
      case rel => exact ⟨k + 1, by omega, by omega, by go_num, HO⟩
      case measure => simp [intOf]; omega
    · obtain ⟨f, L, hbs, hbel⟩ := HR.out
      obtain ⟨ua, ucap, hue, _⟩ := hbs.r.r
      obtain ⟨wa, rfl⟩ : ∃ wa, wa = wr := ⟨_, rfl⟩
      obtain ⟨v1, w6, hrun1, hrow1, hb6, _⟩ := append_all (P := Try.prog) (cs := sc3) (sz := 3) (T := 39) (fun _ => rfl) (fun _ => by simp [Value.oneCell']) Try.underlying39 infoSt rfl (by decide) (W := wa) (base := wa.heap.size) (k := 0) (u := .slice none 0 0) (l := []) (World.ownsRow_nil _ _ _ _) (by have := HT40.out.keep hbel (Nat.le_refl _); rw [Hm.out] at *; exact this) (by rw [Hm.out]; omega) (by rw [Hm.out]; unfold maxLen; omega) (Nat.le_refl _) (HNil.out.imp id fun h => ⟨h.1, rfl⟩)
      rw [Nat.zero_add, List.nil_append, Hm.out] at hrow1
      obtain ⟨xa, xcap, rfl⟩ := row_shape hrow1
      have HRun := hidIn hrun1
      have HIn := hidIn (slAt_of_row (cs := sc3) (fun _ => rfl) hrow1 Hm.out)
      rw [hue] at hbs ⊢
      have HOk := hidIn hbs.s.okF
      have Hbs6 := hidIn (hbs.keep hb6)
      have HB6 := hidIn (hbel.trans (hb6.mono hbel.size))
      have HMi := hidIn (smissing_any Hbs6.out.s HIn.out HBd.out)
      clear hrun1 hrow1 hbs hbel hb6 HR hue
      generalize L.length = nl at Hbs6 ⊢
      have hcond : decide ((k : Int) < (LL : Int)) = true → ¬ (k : Int) < 30 := fun h h' => by
        have := of_decide_eq_true h
        omega
      by_cases hA : (k : Int) < (LL : Int)
      all_goals
        first
          | (have hB : ¬ (k : Int) < 30 := by omega)
          | skip
        clear hcond
        go_wp2_with (first | (refine l_append rfl _ _ 39 rfl HRun.out ?_))
        refine HMi.out.mono ?_
        rintro e w7 ⟨h7, hb7⟩
        have HIn7 := hidIn (HIn.out.keep hb7 (Nat.le_refl _))
        have Hbs7 := hidIn (Hbs6.out.keep hb7)
        have HB7 := hidIn (HB6.out.trans (hb7.mono HB6.out.size))
        have HDm := hidIn (dmissing_any HOk.out Hbs7.out.r Hbs7.out.a Hbs7.out.u HIn7.out HBd.out)
        obtain ⟨bo, hbo⟩ : ∃ bo, byS T = bo := ⟨_, rfl⟩
        rw [hbo] at h7 HDm
        clear hbo hb7 HMi HB6 Hbs6 HIn
        obtain ⟨a1, n1, k1, a2, n2, k2, c1, A1, B1, rfl, hx1, hy1, hc1⟩ : ∃ a1 n1 k1 a2 n2 k2, ∃ (c1 : Int) (A1 : List (Rc × Value)) (B1 : List Int), e = .returned (.tuple #[.slice a1 n1 k1, .slice a2 n2 k2, .int .i64 c1]) ∧ RecsAt w7 (.slice a1 n1 k1) A1 ∧ SlAt ic 1 w7 (.slice a2 n2 k2) B1 ∧ ((bo = none ∧ c1 = 2 ∧ A1 = [] ∧ B1 = []) ∨ ∃ g, bo = some g ∧ c1 = 0 ∧ rcs A1 = sndG (fR f) g 25 ∧ B1 = wntG (fR f) g 25) := by
          rcases h7 with ⟨hn, rfl⟩ | ⟨g, u, v, O, hg, rfl, hr1, hr2, hr3, hr4⟩
          · exact ⟨_, _, _, _, _, _, _, [], [], rfl, ⟨slAt_of_row (cs := rcc) (fun _ => rfl) (World.ownsRow_nil w7 0 28 6) rfl, fun x hx => by simp at hx⟩, slAt_of_row (cs := ic) (fun _ => rfl) (World.ownsRow_nil w7 0 3 1) rfl, .inl ⟨hn, rfl, rfl, rfl⟩⟩
          · obtain ⟨a1, k1, rfl⟩ := row_shape hr1
            obtain ⟨a2, k2, rfl⟩ := row_shape hr4
            refine ⟨_, _, _, _, _, _, _, O, _, rfl, ⟨slAt_of_row (cs := rcc) (fun _ => rfl) hr1 rfl, fun x hx => ?_⟩, slAt_of_row (cs := ic) (fun _ => rfl) hr4 rfl, .inr ⟨g, hg, rfl, hr2, rfl⟩⟩
            obtain ⟨_, _, _, h, _⟩ := hr3 x hx
            exact h
        have Hx1 := hidIn hx1
        have Hy1 := hidIn hy1
        have Hc1 := hidIn hc1
        clear h7 hx1 hy1 hc1
        go_wp2_with fail
        refine HDm.out.mono ?_
        rintro e w8 ⟨h8, hb8⟩
        obtain ⟨a3, n3, k3, a4, n4, k4, c2, A2, B2, rfl, hx2, hy2, hc2⟩ : ∃ a1 n1 k1 a2 n2 k2, ∃ (c1 : Int) (A1 : List (Rc × Value)) (B1 : List Int), e = .returned (.tuple #[.slice a1 n1 k1, .slice a2 n2 k2, .int .i64 c1]) ∧ RecsAt w8 (.slice a1 n1 k1) A1 ∧ SlAt ic 1 w8 (.slice a2 n2 k2) B1 ∧ ((bo = none ∧ c1 = 2 ∧ A1 = [] ∧ B1 = []) ∨ ∃ g, bo = some g ∧ c1 = 0 ∧ rcs A1 = sndG (fR f) g 25 ∧ B1 = wntG (fR f) g 25) := by
          rcases h8 with ⟨hn, rfl⟩ | ⟨g, u, v, O, hg, rfl, hr1, hr2, hr3, hr4⟩
          · exact ⟨_, _, _, _, _, _, _, [], [], rfl, ⟨slAt_of_row (cs := rcc) (fun _ => rfl) (World.ownsRow_nil w8 0 28 6) rfl, fun x hx => by simp at hx⟩, slAt_of_row (cs := ic) (fun _ => rfl) (World.ownsRow_nil w8 0 3 1) rfl, .inl ⟨hn, rfl, rfl, rfl⟩⟩
          · obtain ⟨a1, k1, rfl⟩ := row_shape hr1
            obtain ⟨a2, k2, rfl⟩ := row_shape hr4
            exact ⟨_, _, _, _, _, _, _, O, _, rfl, ⟨slAt_of_row (cs := rcc) (fun _ => rfl) hr1 rfl, fun x hx => (Hbs7.out.r.a x (hr3 x hx)).keep hb8 (Nat.le_refl _)⟩, slAt_of_row (cs := ic) (fun _ => rfl) hr4 rfl, .inr ⟨g, hg, rfl, hr2, rfl⟩⟩
        have hsame : rcs A1 = rcs A2 ∧ B1 = B2 ∧ c1 = c2 := by
          rcases Hc1.out with ⟨h1, h2, h3, h4⟩ | ⟨g, h1, h2, h3, h4⟩ <;> rcases hc2 with ⟨g1, g2, g3, g4⟩ | ⟨g', g1, g2, g3, g4⟩
          · rw [h2, h3, h4, g2, g3, g4]; exact ⟨rfl, rfl, rfl⟩
          · rw [h1] at g1; cases g1
          · rw [h1] at g1; cases g1
          · rw [h1] at g1
            cases g1
            rw [h2, h3, h4, g2, g3, g4]
            exact ⟨rfl, rfl, rfl⟩
        obtain ⟨hs1, rfl, rfl⟩ := hsame
        have HB8 := hidIn (HB7.out.trans (hb8.mono HB7.out.size))
        have HS1 := hidIn (sameAll_yes (Hx1.out.keep hb8 (Nat.le_refl _)) hx2 hs1)
        have HS2 : Hid (∀ wq, Below w8.heap.size w8 wq → Calls Try.prog 27 #[.slice a2 n2 k2, .slice a4 n4 k4] wq fun e w' => e = .returned (.bool true) ∧ Below wq.heap.size wq w') := hidIn fun wq hq => by
          have := sameInts ((Hy1.out.keep hb8 (Nat.le_refl _)).keep hq (Nat.le_refl _)) (hy2.keep hq (Nat.le_refl _))
          simpa using this
        clear h8 hx2 hy2 hc2 hs1 hb8 Hx1 Hy1 Hc1 HDm HB7 Hbs7 HIn7
        go_wp2_with fail
        refine HS1.out.mono ?_
        rintro e w9 ⟨rfl, hb9⟩
        have HB9 := hidIn (HB8.out.trans (hb9.mono HB8.out.size))
        have HS3 := hidIn (HS2.out w9 hb9)
        clear HS1 HS2 HB8 hb9
        go_wp2_with fail
        refine HS3.out.mono ?_
        rintro e w10 ⟨rfl, hb10⟩
        have HB10 := hidIn (HB9.out.trans (hb10.mono HB9.out.size))
        clear HS3 HB9 hb10
        go_wp2_with fail
        refine (sworks_any _).mono ?_
        rintro e wz ⟨rfl, hbz⟩
        have HBz := hidIn (HB10.out.trans (hbz.mono HB10.out.size))
        clear hbz HB10
        go_wp2_with fail
        go_ret
        exact ⟨rfl, HBz.out⟩
end Go.Proofs.Ytpdpdhnllmlfdaa
namespace Go.Proofs.Ytpdpdhnllmlfdaa
open Go.RowKit Go.Maps

/-- A slice of neighbours that can be overwritten. -/
def SpOk (w : World) (a : Option Addr) (n : Nat) : Prop := n ≤ 1000 ∧ (0 < n → ∃ (g : Nat) (cur : Array Value), a = some ⟨g, 0, none⟩ ∧ w.heap[g]? = some (Obj.cells cur 75) ∧ n * 2 ≤ cur.size)
/-- What overwriting leaves. -/
def Spl (w w' : World) (a : Option Addr) : Prop := Fr (fun j => (∃ cur : Array Value, w.heap[j]? = some (Obj.cells cur 75)) ∧ ∃ p, a = some p ∧ p.block = j) w w' ∧ ∀ (g : Nat) (cur : Array Value), w.heap[g]? = some (Obj.cells cur 75) → ∃ cur' : Array Value, w'.heap[g]? = some (Obj.cells cur' 75) ∧ cur'.size = cur.size
theorem SpOk.of {w0 w : World} {a : Option Addr} {c : Nat} {l : List (Int × Int)} (h : SlAt ac 2 w (.slice a l.length c) l) (hf : Fresh w0 w a) (hn : l.length ≤ 1000) : SpOk w a l.length := by
  refine ⟨hn, fun hp => ?_⟩
  obtain ⟨a', c', he, _, _, h2⟩ := h.ads
  cases he
  obtain ⟨bk, o, rfl, _, h3⟩ := h2 hp
  obtain ⟨g, hg, _, cur, h4⟩ := hf _ rfl
  simp only [Addr.mk.injEq, and_true] at hg
  obtain ⟨rfl, rfl⟩ := hg
  refine ⟨bk, cur, rfl, h4, ?_⟩
  obtain ⟨e, he⟩ : ∃ e, l[l.length - 1]? = some e := ⟨l[l.length - 1]'(by omega), List.getElem?_eq_getElem _⟩
  have h5 := (h3 _ _ he).2
  rw [Nat.zero_add, cell_of_row _ _ _ _ _ (0, 0) h4] at h5
  have h6 : (l.length - 1) * 2 + 1 < cur.size := (Array.getElem?_eq_some_iff.1 h5).1
  omega
theorem SpOk.keep {w w' : World} {a b : Option Addr} {n : Nat} (h : SpOk w a n) (hs : Spl w w' b) : SpOk w' a n := by
  refine ⟨h.1, fun hp => ?_⟩
  obtain ⟨g, cur, h1, h2, h3⟩ := h.2 hp
  obtain ⟨cur', h4, h5⟩ := hs.2 g cur h2
  exact ⟨g, cur', h1, h4, by omega⟩
theorem SpOk.keepB {w w' : World} {a : Option Addr} {n : Nat} (h : SpOk w a n) (hb : Below w.heap.size w w') : SpOk w' a n := by
  refine ⟨h.1, fun hp => ?_⟩
  obtain ⟨g, cur, h1, h2, h3⟩ := h.2 hp
  exact ⟨g, cur, h1, (hb.block _ (block_lt h2)).trans h2, h3⟩
set_option maxRecDepth 100000 in
set_option maxHeartbeats 2000000 in
theorem spoil_any {r : Rc} {a : Option Addr} {n c : Nat} {w : World} (h : SpOk w a n) :
    Calls Try.prog 8 #[recV r (.slice a n c)] w fun e w' => (∃ x, e = .returned x) ∧ Spl w w' a := by
  obtain ⟨hn, hg⟩ := h
  obtain ⟨W1, hW1⟩ : ∃ W1, w.alloc (recO r (.slice a n c)) = W1 := ⟨_, rfl⟩
  have b1 : Below w.heap.size w W1 := by rw [← hW1]; exact (Below.refl _ w).alloc (Nat.le_refl _) _
  have hX : W1.heap[w.heap.size]? = some (recO r (.slice a n c)) := by rw [← hW1]; exact heap_alloc_last w _
  obtain ⟨bx, hbx⟩ : ∃ bx, w.heap.size = bx := ⟨_, rfl⟩
  rw [hbx] at hX
  have HX := hidIn hX
  have HB1 := hidIn b1
  have HW := hidIn hW1
  obtain ⟨ro, re, rs, rc, ri, rl⟩ := r
  by_cases h0 : 0 < n
  · obtain ⟨g, cur, rfl, h1, h2⟩ := hg h0
    have hgb : g < bx := by rw [← hbx]; exact block_lt h1
    have Hg := hidIn ((b1.block _ (block_lt h1)).trans h1)
    have H1 := hidIn h1
    have H2 := hidIn h2
    clear hX b1 hW1 hg h1 h2
    go_enter Try.func8, Try.ntmps8
    go_upto_region 1 with fail
    rw [show w.alloc _ = W1 from HW.out]
    clear HW
    go_wp2_with fail
    go_loopw [2] (fun i wr => ∃ k : Nat, k ≤ n ∧ i = .int .i64 k ∧ Hid (Fr (fun j => j = g) W1 wr ∧ ∃ cur', wr.heap[g]? = some (.cells cur' 75) ∧ cur'.size = cur.size)) (fun i _ => n - (intOf i).toNat)
    case atStart => exact ⟨0, Nat.zero_le _, rfl, hidIn ⟨Fr.refl _ _, cur, Hg.out, rfl⟩⟩
    case round =>
      obtain ⟨k, hk, rfl, HI⟩ := hrel
      obtain ⟨hF, cur', hc1, hc2⟩ := HI.out
      have x5 := cell_of_row _ _ 5 _ _ _ ((hF.block bx (block_lt HX.out) (by omega)).trans HX.out)
      simp at x5
      by_cases hlt : k < n
      · have hki : (k : Int) < (n : Int) := by omega
        have h2 := H2.out
        have p0 : wr.cell? ⟨g, k * 2, none⟩ = some (cur'[k * 2]'(by omega)) := by
          rw [cell_of_row _ _ _ _ _ (0, 0) hc1]
          exact Array.getElem?_eq_getElem _
        have p1 : wr.cell? ⟨g, k * 2 + 1, none⟩ = some (cur'[k * 2 + 1]'(by omega)) := by
          rw [cell_of_row _ _ _ _ _ (0, 0) hc1]
          exact Array.getElem?_eq_getElem _
        have f0 := frozen_new hc1 (k * 2)
        have f1 := frozen_new hc1 (k * 2 + 1)
        have HF := hidIn hF
        have HC := hidIn (And.intro hc1 hc2)
        generalize cur'[k * 2]'(by omega) = q0 at p0
        generalize cur'[k * 2 + 1]'(by omega) = q1 at p1
        clear hF hc1 hc2 HI h2
        go_wp2_with fail
        go_roundw
        case rel =>
          refine ⟨k + 1, by omega, by go_num, hidIn ⟨(HF.out.set (p := ⟨g, k * 2, none⟩) rfl _).set (p := ⟨g, k * 2 + 1, none⟩) rfl _, _, heap_setCell_same _ g (k * 2 + 1) _ _ _ (heap_setCell_same _ g (k * 2) _ _ _ HC.out.1), ?_⟩⟩
          rw [Array.size_setIfInBounds, Array.size_setIfInBounds]
          first | done | exact HC.out.2
        case measure => simp [intOf]; omega
      · have hki : ¬ (k : Int) < (n : Int) := by omega
        have HO : Hid (Spl w wr (some ⟨g, 0, none⟩)) := hidIn (by
          refine ⟨?_, fun g' cg hg' => ?_⟩
          · refine ⟨hF.os.trans HB1.out.os, hF.tape.trans HB1.out.tape, hF.output.trans HB1.out.output, Nat.le_trans HB1.out.size hF.size, fun j hj hn => ?_⟩
            rw [hF.block j (Nat.lt_of_lt_of_le hj HB1.out.size) (fun e => hn ⟨⟨cur, by rw [e]; exact H1.out⟩, _, rfl, e.symm⟩)]
            exact HB1.out.block j hj
          · by_cases he : g' = g
            · subst he
              rw [H1.out] at hg'
              cases hg'
              exact ⟨cur', hc1, hc2⟩
            · exact ⟨cg, ((hF.block g' (Nat.lt_of_lt_of_le (block_lt hg') HB1.out.size) he).trans (HB1.out.block _ (block_lt hg'))).trans hg', rfl⟩)
        clear hF hc1 hc2 HI
        go_wp2_with fail
        go_returns
        exact ⟨⟨_, rfl⟩, HO.out⟩
  · obtain rfl : n = 0 := by omega
    have HO : Hid (Spl w W1 a) := hidIn ⟨Fr.of_below b1, fun g cur hg => ⟨cur, (b1.block _ (block_lt hg)).trans hg, rfl⟩⟩
    have x5 := cell_of_row _ _ 5 _ _ _ hX
    simp at x5
    clear hX b1 hW1 hg
    go_enter Try.func8, Try.ntmps8
    go_upto_region 1 with fail
    rw [show w.alloc _ = W1 from HW.out]
    clear HW
    go_wp2_with fail
    go_loopw [2] (fun i wr => wr = W1 ∧ i = .int .i64 0) (fun _ _ => 0)
    case atStart => exact ⟨rfl, rfl⟩
    case round =>
      obtain ⟨rfl, rfl⟩ := hrel
      go_wp2_with fail
      go_returns
      exact ⟨⟨_, rfl⟩, HO.out⟩
end Go.Proofs.Ytpdpdhnllmlfdaa
namespace Go.Proofs.Ytpdpdhnllmlfdaa
open Go.RowKit Go.Maps

theorem SlAt.frP {α : Type} {cs : α → List Value} {sz : Nat} {w w' : World} {a : Option Addr} {n cap : Nat} {l : List α} {T : Nat → Prop} (h : SlAt cs sz w (.slice a n cap) l) (hF : Fr T w w') (hT : 0 < n → ∀ p, a = some p → p.block < w.heap.size → ¬ T p.block) : SlAt cs sz w' (.slice a n cap) l := by
  obtain ⟨a', cap', he, h1, h2, h3⟩ := h
  simp only [Value.slice.injEq] at he
  obtain ⟨rfl, rfl, rfl⟩ := he
  refine ⟨_, _, rfl, h1, h2, fun hp => ?_⟩
  obtain ⟨bk, o, rfl, h4, h5⟩ := h3 hp
  exact ⟨bk, o, rfl, Nat.lt_of_lt_of_le h4 hF.size, fun j x hx i u hu => (World.cell?_of_block (a := ⟨bk, o + j * sz + i, none⟩) (hF.block bk h4 (hT hp _ rfl h4))).trans (h5 j x hx i u hu)⟩
/-- A block of a slice that is not empty. -/
def UsB (u : Value) (b : Nat) : Prop := ∃ n c o, u = .slice (some ⟨b, o, none⟩) n c ∧ 0 < n
theorem SlAt.usB {α : Type} {cs : α → List Value} {sz : Nat} {w : World} {u : Value} {l : List α} {b : Nat} (h : SlAt cs sz w u l) (hu : UsB u b) : b < w.heap.size := by
  obtain ⟨n, c, o, rfl, hn⟩ := hu
  obtain ⟨a', cap', he, _, _, h6⟩ := h
  simp only [Value.slice.injEq] at he
  obtain ⟨rfl, rfl, rfl⟩ := he
  obtain ⟨bk, o', h7, h8, _⟩ := h6 hn
  cases h7
  exact h8
theorem SlAt.keepU {α : Type} {cs : α → List Value} {sz : Nat} {w w' : World} {u : Value} {l : List α} {T : Nat → Prop} (h : SlAt cs sz w u l) (hF : Fr T w w') (hT : ∀ b, UsB u b → ¬ T b) : SlAt cs sz w' u l := by
  obtain ⟨a, cap, rfl, h1, h2, h3⟩ := h
  refine ⟨_, _, rfl, h1, h2, fun hp => ?_⟩
  obtain ⟨bk, o, rfl, h4, h5⟩ := h3 hp
  exact ⟨bk, o, rfl, Nat.lt_of_lt_of_le h4 hF.size, fun j x hx i u hu => (World.cell?_of_block (a := ⟨bk, o + j * sz + i, none⟩) (hF.block bk h4 (hT bk ⟨_, _, _, rfl, hp⟩))).trans (h5 j x hx i u hu)⟩
theorem StAt.fr {w w' : World} {S M n : Nat} {f : Sf} {T : Nat → Prop} (h : StAt w S M n f) (hF : Fr T w w') (hS : ¬ T S) (hM : ¬ T M) (hT : ∀ k r u b, f k = some (r, u) → UsB u b → ¬ T b) : StAt w' S M n f :=
  ⟨(hF.block S (block_lt h.p) hS).trans h.p, h.m.keep hF hM, fun k r u hk => by
    obtain ⟨g1, g2, g3, g4⟩ := h.v k r u hk
    exact ⟨g1, g2, g3.keepU hF (fun b hb => hT k r u b hk hb), g4⟩⟩
/-- A record put into a store, then spoilt where it was handed in. -/
theorem put_spoil {wr w1 W2 w3 w4 : World} {S M n : Nat} {f : Sf} {r : Rc} {a1 : Option Addr} {e : Ending} (hst : StAt wr S M n f) (h1 : Below wr.heap.size wr w1) (h12 : Below w1.heap.size w1 W2) (hf : Fresh wr w1 a1) (h3 : PutAns W2 w3 S M n f r e) (hs : Spl w3 w4 a1) :
    ∃ f', StAt w4 S M (n + 1) f' ∧ fR f' = putR (fR f) r ∧ Fr (fun j => j = M ∨ wr.heap.size ≤ j) wr w4 := by
  have hlt := hst.lts
  have hT : ∀ j, (∃ cur : Array Value, w3.heap[j]? = some (Obj.cells cur 75)) ∧ (∃ p, a1 = some p ∧ p.block = j) → wr.heap.size ≤ j ∧ j < w1.heap.size := fun j hj => by
    obtain ⟨_, p, hp, rfl⟩ := hj
    obtain ⟨g, rfl, hg, cur, hc⟩ := hf p hp
    exact ⟨hg, block_lt hc⟩
  have b02 : Below wr.heap.size wr W2 := h1.trans (h12.mono h1.size)
  obtain ⟨_, hF, hput⟩ := h3
  have hF3 : Fr (fun j => j = M ∨ wr.heap.size ≤ j) wr w3 := by
    have g1 : Fr (fun j => j = M ∨ wr.heap.size ≤ j) wr W2 := Fr.of_below b02
    exact g1.trans (hF.mono fun k _ hk => .inl hk)
  have hF4 : Fr (fun j => j = M ∨ wr.heap.size ≤ j) wr w4 := hF3.trans (hs.1.mono fun k _ hk => .inr (hT k hk).1)
  have hold : ∀ k r u b, f k = some (r, u) → UsB u b → ¬ ((∃ cur : Array Value, w3.heap[b]? = some (Obj.cells cur 75)) ∧ (∃ p, a1 = some p ∧ p.block = b)) := fun k r u b hk hu ht => by
    have g1 := (hst.v k r u hk).2.2.1.usB hu
    have g2 := (hT b ht).1
    omega
  rcases hput with ⟨h4, h5, a9, c9, h6, h7⟩ | ⟨h4, h6⟩
  · refine ⟨_, h6.fr hs.1 (fun h => by have := (hT S h).1; omega) (fun h => by have := (hT M h).1; omega) (fun k rr u b hk hu ht => ?_), ?_, hF4⟩
    · unfold putO at hk
      by_cases hq : k = r.origin
      · rw [if_pos hq] at hk
        cases hk
        obtain ⟨n', c', o', he, _⟩ := hu
        simp only [Value.slice.injEq] at he
        obtain ⟨g, hg1, hg2, _⟩ := h7 _ he.1
        simp only [Addr.mk.injEq, and_true] at hg1
        have g3 := (hT b ht).2
        have g4 := h12.size
        omega
      · rw [if_neg hq] at hk
        exact hold k rr u b hk hu ht
    · rw [fR_put]
      unfold putR
      rw [stdN_fR] at h5
      rw [if_pos ⟨h4, h5⟩]
  · refine ⟨_, h6.fr hs.1 (fun h => by have := (hT S h).1; omega) (fun h => by have := (hT M h).1; omega) hold, ?_, hF4⟩
    unfold putR
    rw [stdN_fR] at h4
    rw [if_neg h4]
theorem RecsAt.frM {w w' : World} {v : Value} {l : List (Rc × Value)} {M : Nat} (h : RecsAt w v l) (hF : Fr (fun j => j = M ∨ w.heap.size ≤ j) w w') (hM : ∃ es cl, w.heap[M]? = some (.map es cl)) : RecsAt w' v l :=
  h.keepM (hF.mono fun k hk h => by rcases h with h | h; exact h; omega) hM
/-- Records that were told, each of which can be spoilt. -/
def ToldM (w0 w : World) (u : Value) (L : List (Rc × Value)) : Prop := w.ownsRow w0.heap.size 28 6 u L.length (fl rcc L) ∧ (∀ x ∈ L, ∃ a c, x.2 = .slice a x.1.adjs.length c ∧ SpOk w a x.1.adjs.length ∧ ∀ p, a = some p → w0.heap.size ≤ p.block) ∧ Below w0.heap.size w0 w
theorem ToldM.keep {w0 w w' : World} {u : Value} {L : List (Rc × Value)} (h : ToldM w0 w u L) (hb : Below w.heap.size w w') : ToldM w0 w' u L := by
  obtain ⟨h1, h2, h3⟩ := h
  refine ⟨row_below h1 hb (Nat.le_refl _), fun x hx => ?_, h3.trans (hb.mono h3.size)⟩
  obtain ⟨a, c, e1, e2, e3⟩ := h2 x hx
  exact ⟨a, c, e1, e2.keepB hb, e3⟩
theorem ToldM.spl {w0 w w' : World} {u : Value} {L : List (Rc × Value)} {a : Option Addr} (h : ToldM w0 w u L) (hs : Spl w w' a) (ha : ∀ p, a = some p → w0.heap.size ≤ p.block) : ToldM w0 w' u L := by
  obtain ⟨h1, h2, h3⟩ := h
  refine ⟨row_fr h1 hs.1 (fun j hj ht => ?_), fun x hx => ?_, h3.trans (hs.1.below h3.size (fun k hk => ?_))⟩
  · obtain ⟨cur, hc⟩ := row_ty h1 hj
    obtain ⟨⟨cur', hc'⟩, _⟩ := ht
    rw [hc] at hc'
    simp at hc'
  · obtain ⟨a, c, e1, e2, e3⟩ := h2 x hx
    exact ⟨a, c, e1, e2.keep hs, e3⟩
  · obtain ⟨_, p, hp, rfl⟩ := hk
    exact ha p hp
/-- What Get finds, wherever. -/
theorem fdR_any {F : Rf} (hF : OkF F) {l : List (Rc × Value)} (hl : rcs l = allR F 24) (o : Int) : (fdR l o).map (·.1) = F o := by
  by_cases h : 1 ≤ o ∧ o ≤ 24
  · exact fdR_all hF hl h.1 h.2
  · rw [hF.out h]
    cases hq : fdR l o with
    | none => rfl
    | some y =>
      have h1 : y ∈ l := List.mem_of_find?_eq_some hq
      have h2 : y.1.origin = o := by have := List.find?_some hq; simpa using this
      have h3 : y.1 ∈ allR F 24 := by rw [← hl]; exact List.mem_map_of_mem h1
      obtain ⟨k, hk⟩ := allR_of h3
      have h4 := hF k _ hk
      have h5 := recOk_pos h4.1
      omega
end Go.Proofs.Ytpdpdhnllmlfdaa
namespace Go.Proofs.Ytpdpdhnllmlfdaa
open Go.RowKit Go.Maps

set_option maxRecDepth 100000 in
set_option maxHeartbeats 2000000 in
theorem dstamps9_any {L : List (Rc × Value)} {v : Value} {w : World} (hR : RecsAt w v L) (hl : L.length ≤ 1000) :
    Calls Try.prog 14 #[v] w fun e w' => StsAns w w' ((rcs L).map stOf) e ∧ Below w.heap.size w w' := by
  obtain ⟨va, lcap, rfl, _, _, hat⟩ := hR.r.recs
  have HA := hidIn hR.a
  have Hat := hidIn hat
  obtain ⟨LL, hLL⟩ : ∃ LL, L.length = LL := ⟨_, rfl⟩
  rw [hLL] at Hat hl ⊢
  have HLL := hidIn hLL
  clear hat hLL hR
  go_enter Try.func14, Try.ntmps14
  go_wp2_with fail
  go_loopw [3, 4] (fun u i wr => ∃ k : Nat, k ≤ LL ∧ i = .int .i64 k ∧ Hid (wr.ownsRow w.heap.size 71 3 u k (fl sc3 ((rcs (L.take k)).map stOf)) ∧ Below w.heap.size w wr)) (fun _ i _ => LL - (intOf i).toNat)
  case atStart => exact ⟨0, Nat.zero_le _, rfl, hidIn ⟨World.ownsRow_nil _ _ _ _, Below.refl _ _⟩⟩
  case round =>
    obtain ⟨k, hk, rfl, HI⟩ := hrel
    obtain ⟨hrow, hbel⟩ := HI.out
    obtain ⟨ua, ucap, rfl⟩ := row_shape hrow
    have HRow := hidIn hrow
    have HBel := hidIn hbel
    clear HI hrow hbel
    by_cases hlt : k < LL
    · obtain ⟨bk, o, rfl, hbk, hcell⟩ := Hat.out (by omega)
      obtain ⟨⟨⟨s0, s1, s2, s3, s4, as'⟩, va⟩, hz⟩ : ∃ z, L[k]? = some z := ⟨L[k]'(by rw [HLL.out]; exact hlt), List.getElem?_eq_getElem _⟩
      have hva := HA.out _ (List.mem_of_getElem? hz)
      simp only at hva
      obtain ⟨aa, acap, rfl, _⟩ := hva
      generalize hlen : as'.length = an at hz
      have HT : Hid ((rcs (L.take (k + 1))).map stOf = (rcs (L.take k)).map stOf ++ [(s0, s1, s2)]) := hidIn (by rw [List.take_add_one, hz]; simp [rcs, stOf])
      obtain ⟨p0, p1, p2, p3, p4, p5⟩ := hcell k _ hz
      have c0 := (HBel.out.cell (p := ⟨bk, o + k * 6, none⟩) hbk).trans p0
      have c1 := (HBel.out.cell (p := ⟨bk, o + k * 6 + 1, none⟩) hbk).trans p1
      have c2 := (HBel.out.cell (p := ⟨bk, o + k * 6 + 2, none⟩) hbk).trans p2
      have c3 := (HBel.out.cell (p := ⟨bk, o + k * 6 + 3, none⟩) hbk).trans p3
      have c4 := (HBel.out.cell (p := ⟨bk, o + k * 6 + 4, none⟩) hbk).trans p4
      have c5 := (HBel.out.cell (p := ⟨bk, o + k * 6 + 5, none⟩) hbk).trans p5
      simp only at c0 c1 c2 c3 c4 c5
      have hki : (k : Int) < (LL : Int) := by omega
      clear hcell hz hlen p0 p1 p2 p3 p4 p5
      go_wp2_with fail
      refine (dstamp_lit _ _ _ _ _ _ _ _ _).mono ?_
      rintro e w3 ⟨rfl, hb3⟩
      obtain ⟨g, gcap, w6, hrun, hown, _, _, hb6⟩ := append_st (row_below HRow.out hb3 (Nat.le_refl _)) (s0, s1, s2) (by omega) (Nat.le_trans HBel.out.size hb3.size)
      have HRun := hidIn hrun
      have HO : Hid (w6.ownsRow w.heap.size 71 3 (.slice (some ⟨g, 0, none⟩) (k + 1) gcap) (k + 1) (fl sc3 ((rcs (L.take (k + 1))).map stOf)) ∧ Below w.heap.size w w6) := hidIn ⟨by rw [HT.out]; exact hown, (HBel.out.trans (hb3.mono HBel.out.size)).trans hb6⟩
      clear hrun hown hb3 hb6 c0 c1 c2 c3 c4 c5 HRow HBel HT
      go_wp2_with (refine l_append rfl _ _ 39 rfl HRun.out ?_)
      go_roundw
      case rel => exact ⟨k + 1, by omega, by go_num, HO⟩
      case measure => simp [intOf]; omega
    · have hki : ¬ (k : Int) < (LL : Int) := by omega
      obtain rfl : k = LL := by omega
      have HO : Hid (wr.ownsRow w.heap.size 71 3 (.slice ua k ucap) ((rcs L).map stOf).length (fl sc3 ((rcs L).map stOf))) := hidIn (by
        have := HRow.out
        rw [List.take_of_length_le (by rw [HLL.out]; exact Nat.le_refl _)] at this
        rw [List.length_map, List.length_map, HLL.out]
        exact this)
      clear HRow
      go_wp2_with fail
      go_ret
      exact ⟨⟨_, rfl, by simpa using HO.out⟩, HBel.out⟩
set_option maxRecDepth 100000 in
set_option maxHeartbeats 2000000 in
theorem sameStamps_yes {T : List Ed} {v1 v2 : Value} {w : World} (h1 : SlAt sc3 3 w v1 T) (h2 : SlAt sc3 3 w v2 T) :
    Calls Try.prog 12 #[v1, v2] w fun e w' => e = .returned (.bool true) ∧ Below w.heap.size w w' := by
  obtain ⟨a1, k1, rfl, hl, _, _⟩ := id h1
  obtain ⟨a2, k2, rfl, _, _, _⟩ := id h2
  have Hcx := hidIn h1.sts
  have Hcy := hidIn h2.sts
  obtain ⟨TL, hTL⟩ : ∃ TL, T.length = TL := ⟨_, rfl⟩
  rw [hTL] at Hcx Hcy hl ⊢
  have HTL := hidIn hTL
  clear h1 h2 hTL
  go_enter Try.func12, Try.ntmps12
  go_wp2_with fail
  go_loopw [5] (fun q wr => ∃ j : Nat, j ≤ TL ∧ q = .int .i64 j ∧ Hid (Below w.heap.size w wr)) (fun q _ => TL - (intOf q).toNat)
  case atStart => exact ⟨0, Nat.zero_le _, rfl, hidIn (Below.refl _ _)⟩
  case round =>
    obtain ⟨j, hj, rfl, HI⟩ := hrel
    by_cases hjk : j < TL
    · have hji : (j : Int) < (TL : Int) := by omega
      obtain ⟨b1, o1, rfl, hb1, hc1⟩ := Hcx.out (by omega)
      obtain ⟨b2, o2, rfl, hb2, hc2⟩ := Hcy.out (by omega)
      obtain ⟨y, hy⟩ : ∃ y, T[j]? = some y := ⟨T[j]'(by rw [HTL.out]; exact hjk), List.getElem?_eq_getElem _⟩
      obtain ⟨p0, p1, p2⟩ := hc1 j y hy
      obtain ⟨q0, q1, q2⟩ := hc2 j y hy
      have x0 := (HI.out.cell (p := ⟨b1, o1 + j * 3, none⟩) hb1).trans p0
      have x1 := (HI.out.cell (p := ⟨b1, o1 + j * 3 + 1, none⟩) hb1).trans p1
      have x2 := (HI.out.cell (p := ⟨b1, o1 + j * 3 + 2, none⟩) hb1).trans p2
      have z0 := (HI.out.cell (p := ⟨b2, o2 + j * 3, none⟩) hb2).trans q0
      have z1 := (HI.out.cell (p := ⟨b2, o2 + j * 3 + 1, none⟩) hb2).trans q1
      have z2 := (HI.out.cell (p := ⟨b2, o2 + j * 3 + 2, none⟩) hb2).trans q2
      have heq : ∀ w, (Op.equalIn 10000 71 (.agg #[.int .i64 y.1, .int .u32 y.2.1, .int .u32 y.2.2]) (.agg #[.int .i64 y.1, .int .u32 y.2.1, .int .u32 y.2.2])).run Try.prog w = Result.ok true w := fun w => (eqSt y y w).trans (by simp)
      clear p0 p1 p2 q0 q1 q2 hc1 hc2 hy
      go_upto_region 6 with fail
      go_quiet (fail)
      generalize hV : World.drewN wr _ = V
      have HBV : Hid (Below w.heap.size w V) := hidIn (by rw [← hV]; exact HI.out.trans (((Fr.refl (fun _ => False) wr).drewN _).below HI.out.size (fun _ h => h.elim)))
      clear hV HI x0 x1 x2 z0 z1 z2 heq
      go_wp2_with fail
      go_roundw
      case rel => exact ⟨j + 1, by omega, by go_num, HBV⟩
      case measure => simp [intOf]; omega
    · have hji : ¬ (j : Int) < (TL : Int) := by omega
      go_wp2_with fail
      go_ret
      exact ⟨rfl, HI.out⟩
end Go.Proofs.Ytpdpdhnllmlfdaa
namespace Go.Proofs.Ytpdpdhnllmlfdaa
open Go.RowKit Go.Maps

theorem unl_all {w : World} {S M n : Nat} {f : Sf} (h : StAt w S M n f) : Unl (allR (fR f) 24) := by
  refine ⟨fun r hr => ?_, ?_⟩
  · obtain ⟨k, hk⟩ := allR_of hr
    exact (h.org hk).1
  · have hr := (allR_rise (F := fR f) (fun k g hk => (h.org hk).2.1) 24).1
    refine hr.imp_of_mem ?_
    intro a b ha hb hab
    obtain ⟨k, hk⟩ := allR_of ha
    have := recOk_pos (h.org hk).1
    omega
/-- What Graph answers. -/
def GrfAns (w w' : World) (rs : List Rc) (e : Ending) : Prop := ∃ u v, e = .returned (.tuple #[grV u v, .int .i64 0]) ∧ w'.ownsRow w.heap.size 3 1 u (bothN rs).length (fl ic (bothN rs)) ∧ w'.ownsRow w.heap.size 79 3 v (bothE rs).length (fl ec (bothE rs))
set_option maxRecDepth 100000 in
set_option maxHeartbeats 2000000 in
theorem sgraph_any {S M n : Nat} {f : Sf} {w : World} (h : StAt w S M n f) :
    Calls Try.prog 18 #[ptr S] w fun e w' => GrfAns w w' (allR (fR f) 24) e ∧ Below w.heap.size w w' := by
  have HS := hidIn h
  have HU := hidIn (both_unl.2 (unl_all h))
  have HT : Hid (∀ wq, Below w.heap.size w wq → Calls Try.prog 28 #[ptr S] wq fun e w' => e = .returned (.bool true) ∧ w' = wq) := hidIn fun wq hq => there_any (h.keep hq)
  have HA : Hid (∀ wq, Below w.heap.size w wq → Calls Try.prog 10 #[ptr S] wq fun e w' => AllAns wq w' (allR (fR f) 24) e ∧ Below wq.heap.size wq w') := hidIn fun wq hq => sall_any (h.keep hq)
  clear h
  go_enter Try.func18, Try.ntmps18
  go_wp2_with fail
  refine (HT.out _ (by go_grown)).mono ?_
  rintro e w1 ⟨rfl, h1⟩
  rw [h1]
  clear HT h1 w1
  go_wp2_with fail
  refine (HA.out _ (by go_grown)).mono ?_
  rintro e w2 ⟨⟨u, L, rfl, hrow, hrs, hfr⟩, hb2⟩
  have HB := hidIn (both_any (w := w2) (v := u) (l := L) ⟨slAt_of_row (cs := rcc) (fun _ => rfl) hrow rfl, fun x hx => by obtain ⟨_, _, _, h, _⟩ := hfr x hx; exact h⟩)
  have Hrs := hidIn hrs
  obtain ⟨ra, rcap, rfl⟩ := row_shape hrow
  have hz := (hb2.block w.heap.size (by simp)).trans (heap_alloc_last w _)
  have HB2 := hidIn (((Below.refl _ w).alloc (Nat.le_refl _) _).trans (hb2.mono (by simp)))
  have Hlt : Hid (w.heap.size < w2.heap.size) := hidIn (block_lt hz)
  have Hz := hidIn hz
  clear hrow hrs hfr hb2 HA hz
  go_wp2_with fail
  refine HB.out.mono ?_
  rintro e w3 ⟨h3, hb3⟩
  rcases h3 with ⟨_, gu, gv, rfl, hru, hrv⟩ | ⟨h3, _⟩
  case inr => rw [Hrs.out, HU.out] at h3; cases h3
  rw [Hrs.out] at hru hrv
  have hz := (hb3.block w.heap.size Hlt.out).trans Hz.out
  have z0 := cell_of_row _ _ 0 _ _ _ hz
  have z1 := cell_of_row _ _ 1 _ _ _ hz
  have y0 := frozen_new hz 0
  have y1 := frozen_new hz 1
  simp at z0 z1
  have HB3 := hidIn (HB2.out.trans (hb3.mono HB2.out.size))
  have Hru := hidIn hru
  have Hrv := hidIn hrv
  obtain ⟨ga, gcap, rfl⟩ := row_shape hru
  obtain ⟨gb, gcap2, rfl⟩ := row_shape hrv
  obtain ⟨NN, hNN⟩ : ∃ NN, (bothN (allR (fR f) 24)).length = NN := ⟨_, rfl⟩
  obtain ⟨EE, hEE⟩ : ∃ EE, (bothE (allR (fR f) 24)).length = EE := ⟨_, rfl⟩
  rw [hNN] at Hru ⊢
  rw [hEE] at Hrv ⊢
  have HNE := hidIn (And.intro hNN hEE)
  clear hru hrv hb3 hz HB hNN hEE
  go_wp2_with fail
  have hlt := Hlt.out
  refine bodyPost_ret (v := .tuple #[grV (.slice ga NN gcap) (.slice gb EE gcap2), .int .i64 0]) (by simp [results, Try.results18, asAddr, Result.andThen, go_sem, z0, z1]) rfl ⟨⟨_, _, rfl, ?_, ?_⟩, ?_⟩
  · rw [HNE.out.1]
    exact row_low (row_fr Hru.out ((((Fr.refl (fun j => j = w.heap.size) w3).set (p := ⟨w.heap.size, 0, none⟩) rfl _).set (p := ⟨w.heap.size, 1, none⟩) rfl _)) (fun j hj e => by
      rcases Hru.out.2 with ⟨h, _⟩ | ⟨g, cap, cur, h, hb, _⟩
      · rw [h] at hj; simp [Value.ownBlock] at hj
      · rw [h] at hj; simp [Value.ownBlock] at hj; omega)) (Nat.le_of_lt hlt)
  · rw [HNE.out.2]
    exact row_low (row_fr Hrv.out ((((Fr.refl (fun j => j = w.heap.size) w3).set (p := ⟨w.heap.size, 0, none⟩) rfl _).set (p := ⟨w.heap.size, 1, none⟩) rfl _)) (fun j hj e => by
      rcases Hrv.out.2 with ⟨h, _⟩ | ⟨g, cap, cur, h, hb, _⟩
      · rw [h] at hj; simp [Value.ownBlock] at hj
      · rw [h] at hj; simp [Value.ownBlock] at hj; omega)) (Nat.le_of_lt hlt)
  · exact (HB3.out.setCell (p := ⟨w.heap.size, 0, none⟩) (Nat.le_refl _) _).setCell (p := ⟨w.heap.size, 1, none⟩) (Nat.le_refl _) _
end Go.Proofs.Ytpdpdhnllmlfdaa
namespace Go.Proofs.Ytpdpdhnllmlfdaa
open Go.RowKit Go.Maps

set_option maxRecDepth 100000 in
theorem sisR_any (n : Int) (w : World) : Calls Try.prog 40 #[.int .i64 n] w fun e w' => e = .returned (.bool (isR n)) ∧ w' = w := by
  by_cases h1 : 1 ≤ n
  · by_cases h2 : n ≤ 24
    · have : isR n = true := isR_iff.2 ⟨h1, h2⟩
      rw [this]
      go_enter Try.func40, Try.ntmps40
      go_wp2
      go_ret
      exact ⟨rfl, rfl⟩
    · have : isR n = false := by simp [isR]; omega
      rw [this]
      go_enter Try.func40, Try.ntmps40
      go_wp2
      go_ret
      exact ⟨rfl, rfl⟩
  · have : isR n = false := by simp [isR]; omega
    rw [this]
    go_enter Try.func40, Try.ntmps40
    go_wp2
    go_ret
    exact ⟨rfl, rfl⟩
theorem bothN_has {F : Rf} (hF : ∀ k g, F k = some g → g.origin = k ∧ 1 ≤ k ∧ k ≤ 24) {r : Int} (h : (F r).isSome = true) : hasN (bothN (allR F 24)) r = true := by
  obtain ⟨g, hg⟩ := Option.isSome_iff_exists.1 h
  obtain ⟨h1, h2, h3⟩ := hF r g hg
  rw [hasN_iff]
  unfold bothN
  rw [mem_markedL]
  refine ⟨r.toNat, by omega, ?_, by omega⟩
  rw [thereL_iff]
  right
  refine ⟨g, ?_, by omega⟩
  unfold allR
  refine List.mem_filterMap.2 ⟨r.toNat - 1, by simp; omega, ?_⟩
  rw [show (((r.toNat - 1 : Nat) : Int) + 1) = r from by omega]
  exact hg
/-- What Live answers. -/
def LvAns (w w' : World) (f : Sf) (root : Int) (e : Ending) : Prop :=
  (isR root = false ∧ e = .returned (.tuple #[.slice none 0 0, .int .i64 2])) ∨ (isR root = true ∧ (f root).isSome = false ∧ e = .returned (.tuple #[.slice none 0 0, .int .i64 0])) ∨
    (isR root = true ∧ (f root).isSome = true ∧ ∃ p u L, IsPart (bothE (allR (fR f) 24)) root p ∧ e = .returned (.tuple #[u, .int .i64 0]) ∧ w'.ownsRow w.heap.size 28 6 u L.length (fl rcc L) ∧ rcs L = (markedL p).map (fun k => rOf (f k)) ∧ ∀ x ∈ L, FrRec w w' x)
set_option maxRecDepth 100000 in
set_option maxHeartbeats 2000000 in
theorem slive_any {S M n : Nat} {f : Sf} {w : World} (h : StAt w S M n f) {root : Int} (hk : (Lit.int .i64 root).wf = true) :
    Calls Try.prog 21 #[ptr S, .int .i64 root] w fun e w' => LvAns w w' f root e ∧ Below w.heap.size w w' := by
  have HS := hidIn h
  have HG := hidIn (sgraph_any h)
  have Hok := hidIn (both_may (unl_all h))
  have hbn : (f root).isSome = true → hasN (bothN (allR (fR f) 24)) root = true := fun hs => bothN_has (fun k g hg => by have h1 := h.org hg; have h2 := recOk_pos h1.1; omega) (by unfold fR; cases hq : f root <;> simp_all)
  have Hbn := hidIn hbn
  have HLk := hidIn (fun wq (hq : Below w.heap.size w wq) => (by
    have := (h.keep hq).m.look hk
    rw [sV_get, sV_some] at this
    exact this : (Instr.lookup 65 (.map (some M)) (.int .i64 root) true).run Try.prog wq = .ok (.tuple #[recV (rOf (f root)) (uOf (f root)), .bool (f root).isSome]) wq))
  obtain ⟨ru, hru⟩ : ∃ a c, uOf (f root) = .slice a (rOf (f root)).adjs.length c := by obtain ⟨a, c, e, _⟩ := (h.u root).1; exact ⟨a, c, e⟩
  obtain ⟨rcu, hru⟩ := hru
  rw [hru] at HLk
  clear h hk hbn hru
  go_enter Try.func21, Try.ntmps21
  go_wp2_with fail
  refine HG.out.mono ?_
  rintro e w2 ⟨⟨gu, gv, rfl, hru, hrv⟩, hb2⟩
  have HGA : Hid (GrAt w2 gu gv (bothN (allR (fR f) 24)) (bothE (allR (fR f) 24))) := hidIn ⟨slAt_of_row (cs := ic) (fun _ => rfl) hru rfl, slAt_of_row (cs := ec) (fun _ => rfl) hrv rfl⟩
  obtain ⟨ga, gcap, rfl⟩ := row_shape hru
  obtain ⟨gb, gcap2, rfl⟩ := row_shape hrv
  have HB2 := hidIn hb2
  generalize (bothN (allR (fR f) 24)).length = NN at HGA ⊢
  generalize (bothE (allR (fR f) 24)).length = EE at HGA ⊢
  clear hru hrv hb2 HG
  obtain ⟨W3, hW3⟩ : ∃ W3, w2.alloc (.cells #[.slice ga NN gcap, .slice gb EE gcap2] 49) = W3 := ⟨_, rfl⟩
  have b3 : Below w2.heap.size w2 W3 := by rw [← hW3]; exact (Below.refl _ w2).alloc (Nat.le_refl _) _
  have HX3 : Hid (W3.heap[w2.heap.size]? = some (.cells #[.slice ga NN gcap, .slice gb EE gcap2] 49)) := hidIn (by rw [← hW3]; exact heap_alloc_last w2 _)
  have HGA3 := hidIn (HGA.out.keep b3 (Nat.le_refl _))
  have HB3 := hidIn (HB2.out.trans (b3.mono HB2.out.size))
  have HW := hidIn hW3
  obtain ⟨b6, hb6⟩ : ∃ b6, w2.heap.size = b6 := ⟨_, rfl⟩
  rw [hb6] at HX3
  clear b3 hW3 HGA HB2
  go_upto_region 2 with fail
  rw [HW.out]
  clear HW hb6
  go_wp2_with fail
  refine (sisR_any root _).mono ?_
  rintro e w1 ⟨rfl, h1⟩
  rw [h1]
  clear h1 w1
  by_cases hR : isR root = true
  · rw [hR]
    have HR := hidIn hR
    have h0 := (HS.out.keep HB3.out).slot
    have hl := HLk.out W3 HB3.out
    have HS3 := hidIn (HS.out.keep HB3.out)
    clear hR HLk
    cases hsm : (f root).isSome with
    | false =>
      have Hsm := hidIn hsm
      rw [hsm] at hl
      clear hsm
      generalize rOf (f root) = r0 at hl
      obtain ⟨ro, re, rs, rc, ri, rl⟩ := r0
      simp only at hl
      generalize rl.length = nl at hl
      go_wp2_with (refine l_look rfl _ _ 65 true rfl hl ?_)
      go_returns
      exact ⟨.inr (.inl ⟨HR.out, Hsm.out, rfl⟩), HB3.out.alloc HB3.out.size _⟩
    | true =>
      have Hsm := hidIn hsm
      rw [hsm] at hl
      clear hsm
      generalize rOf (f root) = r0 at hl
      obtain ⟨ro, re, rs, rc, ri, rl⟩ := r0
      simp only at hl
      generalize rl.length = nl at hl
      obtain ⟨W4, hW4⟩ : ∃ W4, W3.alloc (.cells #[.int .i64 ro, .int .u32 re, .int .u32 rs, .int .i64 rc, .bool ri, .slice ru nl rcu] 28) = W4 := ⟨_, rfl⟩
      have b4 : Below W3.heap.size W3 W4 := by rw [← hW4]; exact (Below.refl _ W3).alloc (Nat.le_refl _) _
      have hX4 := (b4.block _ (block_lt HX3.out)).trans HX3.out
      have HPt := hidIn (part_any (HGA3.out.keep b4 (Nat.le_refl _)) root)
      have HB4 := hidIn (HB3.out.trans (b4.mono HB3.out.size))
      have HW := hidIn hW4
      have x0 := cell_of_row _ _ 0 _ _ _ hX4
      have x1 := cell_of_row _ _ 1 _ _ _ hX4
      simp at x0 x1
      clear b4 hW4 hX4 HX3 HGA3 HB3
      go_upto_region 9 with (refine l_look rfl _ _ 65 true rfl hl ?_)
      rw [HW.out]
      clear HW h0 hl
      go_wp2_with fail
      refine HPt.out.mono ?_
      rintro e w5 ⟨h5, hb5⟩
      rcases h5 with ⟨_, p, up, hp, rfl, hrp⟩ | ⟨h5, _⟩
      case inr =>
        rw [Hok.out, Hbn.out Hsm.out] at h5
        cases h5
      have HB5 := hidIn (HB4.out.trans (hb5.mono HB4.out.size))
      obtain ⟨pa, pcap, rfl, hpl, _, hpc⟩ := (slAt_of_row (cs := ic) (fun _ => rfl) hrp rfl).ints
      have Hpc := hidIn hpc
      have Hp := hidIn hp
      have hm25 := markedL_len p
      obtain ⟨ML, hML⟩ : ∃ ML, (markedL p).length = ML := ⟨_, rfl⟩
      have HML := hidIn hML
      rw [hML] at Hpc hm25 hpl ⊢
      clear hb5 hrp hpc hp hML HPt x0 x1 HB4
      have HS5 := hidIn (HS.out.keep HB5.out)
      go_wp2_with fail
      go_loopw [11, 44] (fun u q wr => ∃ k : Nat, k ≤ ML ∧ q = .int .i64 k ∧ Hid (∃ L, wr.ownsRow w5.heap.size 28 6 u L.length (fl rcc L) ∧ rcs L = ((markedL p).take k).map (fun k => rOf (f k)) ∧ (∀ x ∈ L, FrRec w5 wr x) ∧ L.length = k ∧ Below w5.heap.size w5 wr)) (fun _ q _ => ML - (intOf q).toNat)
      case atStart => exact ⟨0, Nat.zero_le _, rfl, hidIn ⟨[], World.ownsRow_nil _ _ _ _, rfl, fun x hx => by simp at hx, rfl, Below.refl _ _⟩⟩
      case round =>
        obtain ⟨k, hk, rfl, HR2⟩ := hrel
        by_cases hlt : k < ML
        · have hki : (k : Int) < (ML : Int) := by omega
          obtain ⟨L, hrow, hrs, hfr, hLk, hbel⟩ := HR2.out
          obtain ⟨z, hz⟩ : ∃ z, (markedL p)[k]? = some z := ⟨(markedL p)[k]'(by rw [HML.out]; exact hlt), List.getElem?_eq_getElem _⟩
          obtain ⟨i, hi, _, hzi⟩ := mem_markedL.1 (List.mem_of_getElem? hz)
          obtain ⟨bk, o, rfl, hbk, hcell⟩ := Hpc.out (by omega)
          have p0 := (hbel.cell (p := ⟨bk, o + k, none⟩) hbk).trans (hcell k z hz)
          have HT : Hid (((markedL p).take (k + 1)).map (fun k => rOf (f k)) = ((markedL p).take k).map (fun k => rOf (f k)) ++ [rOf (f z)]) := hidIn (by rw [List.take_add_one, hz]; simp)
          have hSr := HS5.out.keep hbel
          have h0 := hSr.slot
          have HL : Hid ((Instr.lookup 65 (.map (some M)) (.int .i64 z) false).run Try.prog wr = .ok (recV (rOf (f z)) (uOf (f z))) wr) := hidIn (by
            have := hSr.m.look1 (x := z) (wf9 (by omega))
            rw [sV_get] at this
            exact this)
          obtain ⟨hu, hu16, _⟩ := hSr.u z
          have HC := hidIn (copied_any hu (by omega))
          obtain ⟨ua, ucap, hue, _⟩ := hu
          rw [hue] at HL HC
          obtain ⟨va, vcap, rfl⟩ := row_shape hrow
          have Hrow := hidIn hrow
          have Hrs := hidIn hrs
          have Hfr := hidIn hfr
          have HBel := hidIn hbel
          have HLk := hidIn hLk
          clear HR2 hrow hrs hfr hbel hz hi hzi hcell hbk hSr hue hu16
          generalize hro : rOf (f z) = r at HL HC HT
          clear hro
          obtain ⟨ro, re, rs, rc, ri, rl⟩ := r
          simp only at HL HC
          generalize hnl2 : rl.length = nl2 at HL HC
          clear hnl2
          rw [hLk] at Hrow ⊢
          clear hLk
          go_wp2_with (refine l_look rfl _ _ 65 false rfl HL.out ?_)
          refine HC.out.mono ?_
          rintro e w6 ⟨⟨a, c, rfl, hs, hn, hf⟩, hb6⟩
          simp only at hs hn ⊢
          have HBel6 := HBel.out.trans (hb6.mono HBel.out.size)
          have hx6 : FrRec w5 w6 (⟨ro, re, rs, rc, ri, rl⟩, .slice a rl.length c) := ⟨a, c, rfl, hs, hn, (show Fresh wr w6 a from hf).old HBel.out.size⟩
          obtain ⟨gg, gcap3, w7, hrun, hown, hb7, hF7⟩ := append_recF (row_below Hrow.out hb6 (Nat.le_refl _)) (⟨ro, re, rs, rc, ri, rl⟩, .slice a rl.length c) rfl (by omega) HBel6.size
          have HRun := hidIn hrun
          have HO : Hid (∃ L, w7.ownsRow w5.heap.size 28 6 (.slice (some ⟨gg, 0, none⟩) (k + 1) gcap3) L.length (fl rcc L) ∧ rcs L = ((markedL p).take (k + 1)).map (fun k => rOf (f k)) ∧ (∀ x ∈ L, FrRec w5 w7 x) ∧ L.length = k + 1 ∧ Below w5.heap.size w5 w7) := hidIn (by
            have hno : ∀ (j : Nat) (cur : Array Value), w6.heap[j]? = some (Obj.cells cur 75) → ¬ ∃ cur, w6.heap[j]? = some (Obj.cells cur 28) := fun j cur h ⟨cur', h'⟩ => by
              rw [h] at h'
              simp at h'
            have hl2 : (L ++ [((⟨ro, re, rs, rc, ri, rl⟩ : Rc), Value.slice a rl.length c)]).length = k + 1 := by rw [List.length_append, HLk.out]; rfl
            refine ⟨L ++ [(⟨ro, re, rs, rc, ri, rl⟩, .slice a rl.length c)], by rw [hl2]; exact hown, by rw [HT.out, ← Hrs.out]; simp, fun x hx => ?_, hl2, HBel6.trans hb7⟩
            rcases List.mem_append.1 hx with hx | hx
            · exact ((Hfr.out x hx).keep hb6).fr hF7 hno
            · rw [List.mem_singleton.1 hx]; exact hx6.fr hF7 hno)
          clear hrun hown hb7 hF7 hx6 HBel6 hs hn hf hb6 HC HL h0 p0 Hrow Hrs Hfr HBel HT
          generalize rl.length = nl3 at HRun ⊢
          go_wp2_with (refine l_append rfl _ _ 22 rfl HRun.out ?_)
          go_roundw
          case rel => exact ⟨k + 1, by omega, by go_num, HO⟩
          case measure => simp [intOf]; omega
        · have hki : ¬ (k : Int) < (ML : Int) := by omega
          obtain ⟨L, hrow, hrs, hfr, hLk, hbel⟩ := HR2.out
          obtain ⟨va, vcap, rfl⟩ := row_shape hrow
          have HO : Hid (LvAns w wr f root (.returned (.tuple #[.slice va L.length vcap, .int .i64 0])) ∧ Below w.heap.size w wr) := hidIn ⟨.inr (.inr ⟨HR.out, Hsm.out, p, _, L, Hp.out, rfl, row_low hrow HB5.out.size, by rw [hrs, List.take_of_length_le (by rw [HML.out]; omega)], fun x hx => by
            obtain ⟨a', c', e1, e2, e3, e4⟩ := hfr x hx
            exact ⟨a', c', e1, e2, e3, e4.old HB5.out.size⟩⟩), HB5.out.trans (hbel.mono HB5.out.size)⟩
          clear HR2 hrow hrs hfr hLk hbel
          generalize L.length = ll at HO ⊢
          go_wp2_with fail
          go_returns
          exact HO.out
  · have hR' : isR root = false := by simpa using hR
    have HR := hidIn hR'
    rw [hR']
    clear hR hR'
    go_wp2_with fail
    go_returns
    exact ⟨.inl ⟨HR.out, rfl⟩, HB3.out⟩
end Go.Proofs.Ytpdpdhnllmlfdaa
namespace Go.Proofs.Ytpdpdhnllmlfdaa
open Go.RowKit

theorem rrouter_any (n : Int) (w : World) : Calls Try.prog 22 #[.int .i64 n] w fun e w' => e = .returned (.bool (isR n)) ∧ Below w.heap.size w w' := by
  by_cases h1 : 1 ≤ n
  · by_cases h2 : n ≤ 24
    · go_enter Try.func22, Try.ntmps22
      go_wp2
      go_ret
      exact ⟨by simp [isR, h1, h2], Below.refl _ _⟩
    · go_enter Try.func22, Try.ntmps22
      go_wp2
      go_ret
      exact ⟨by simp [isR, h1]; omega, Below.refl _ _⟩
  · go_enter Try.func22, Try.ntmps22
    go_wp2
    go_ret
    exact ⟨by simp [isR]; omega, Below.refl _ _⟩
set_option maxRecDepth 100000 in
theorem rhas_any {zs : List Int} {v : Value} {w : World} (hv : SlAt ic 1 w v zs) (n : Int) :
    Calls Try.prog 62 #[v, .int .i64 n] w fun e w' => e = .returned (.bool (hasN zs n)) ∧ w' = w := by
  obtain ⟨a, cap, rfl, hl, _, hat⟩ := hv.ints
  have Ha := hidIn hat
  clear hat hv
  go_enter Try.func62, Try.ntmps62
  go_wp2
  go_loopw [5] (fun i wr => wr = w ∧ ∃ k : Nat, k ≤ zs.length ∧ i = .int .i64 k ∧ Hid (hasN zs n = hasN (zs.drop k) n)) (fun i _ => zs.length - (intOf i).toNat)
  case atStart => exact ⟨rfl, 0, Nat.zero_le _, rfl, hidIn (by rw [List.drop_zero])⟩
  case round =>
    obtain ⟨hwr, k, hk, rfl, HH⟩ := hrel
    rw [hwr]
    clear hwr
    by_cases hlt : k < zs.length
    · obtain ⟨bk, o, rfl, hbk, hcell⟩ := Ha.out (by omega)
      obtain ⟨z, hz⟩ : ∃ z, zs[k]? = some z := ⟨zs[k], List.getElem?_eq_getElem hlt⟩
      have hc := hcell k z hz
      have HN := hidIn (hasN_drop (n := n) hz)
      clear hcell hz
      have hki : (k : Int) < (zs.length : Int) := by omega
      by_cases hzn : z = n
      · have hq : (z == n) = true := by simpa using hzn
        have Hz := hidIn hzn
        clear hzn
        go_wp2
        go_returns
        exact ⟨by rw [HH.out, HN.out]; simp [Hz.out], rfl⟩
      · have hne : (z == n) = false := by simpa using hzn
        have Hz := hidIn hzn
        clear hzn
        go_wp2
        go_roundw
        case rel => exact ⟨trivial, k + 1, by omega, by go_num, hidIn (by rw [HH.out, HN.out]; simp [Hz.out])⟩
        case measure => simp [intOf]; omega
    · have hki : ¬ ((k : Int) < (zs.length : Int)) := by omega
      have hke : k = zs.length := by omega
      go_wp2
      go_returns
      refine ⟨?_, rfl⟩
      rw [HH.out, hke, List.drop_length]
      rfl
def lastN (ns : List Int) : Nat → Int
  | 0 => 0
  | k + 1 => ns[k]?.getD 0
def lastE (es : List Ed) : Nat → Ed
  | 0 => (0, 0, 0)
  | k + 1 => es[k]?.getD (0, 0, 0)
def ckC (ns : List Int) (es : List Ed) : Int := if graphOk ns es = true then 0 else 2
theorem ckC_no {ns : List Int} {es : List Ed} (h : graphOk ns es = false) : ckC ns es = 2 := by unfold ckC; rw [h]; rfl
theorem ckC_yes {ns : List Int} {es : List Ed} (h : graphOk ns es = true) : ckC ns es = 0 := by unfold ckC; rw [h]; rfl
set_option maxRecDepth 100000 in
set_option maxHeartbeats 2000000 in
theorem gcheck_any {ns : List Int} {es : List Ed} {vn ve : Value} {w : World} (h : GrAt w vn ve ns es) :
    Calls Try.prog 61 #[grV vn ve] w fun e w' => e = .returned (.int .i64 (ckC ns es)) ∧ Below w.heap.size w w' := by
  obtain ⟨na, nca, rfl, hnl, _, hna⟩ := h.n.ints
  obtain ⟨ea, eca, rfl, hel, _, hea⟩ := h.e.eds
  have Hna := hidIn hna
  have Hea := hidIn hea
  have Hn := hidIn h.n
  clear hna hea h
  obtain ⟨W1, hW1⟩ : ∃ W1, w.alloc (.cells #[.slice na ns.length nca, .slice ea es.length eca] 49) = W1 := ⟨_, rfl⟩
  have bA : Below w.heap.size w W1 := by rw [← hW1]; exact (Below.refl _ w).alloc (Nat.le_refl _) _
  have hGB : W1.heap[w.heap.size]? = some (.cells #[.slice na ns.length nca, .slice ea es.length eca] 49) := by rw [← hW1]; exact heap_alloc_last w _
  have hlt0 := block_lt hGB
  have HF : Hid (∀ wq, Below W1.heap.size W1 wq → (wq.cell? ⟨w.heap.size, 0, none⟩ = some (.slice na ns.length nca) ∧ wq.cell? ⟨w.heap.size, 1, none⟩ = some (.slice ea es.length eca)) ∧ Below w.heap.size w wq) := hidIn fun wq h => by
    have j0 := (h.block _ hlt0).trans hGB
    exact ⟨⟨cell_of_row _ _ 0 _ _ _ j0, cell_of_row _ _ 1 _ _ _ j0⟩, bA.trans (h.mono bA.size)⟩
  have HW := hidIn hW1
  clear hW1 bA hGB
  go_enter Try.func61, Try.ntmps61
  go_upto_region 1 with fail
  rw [HW.out]
  clear HW
  go_wp2_with fail
  go_loopw [3] (fun i wr => ∃ k : Nat, k ≤ ns.length ∧ i = .int .i64 k ∧ Hid (Below W1.heap.size W1 wr ∧ nodesOk 0 ns = nodesOk (lastN ns k) (ns.drop k))) (fun i _ => ns.length - (intOf i).toNat)
  case atStart => exact ⟨0, Nat.zero_le _, rfl, hidIn ⟨Below.refl _ _, by rw [List.drop_zero]; rfl⟩⟩
  case round =>
    obtain ⟨k, hk, rfl, HR⟩ := hrel
    obtain ⟨hbel, hrest⟩ := HR.out
    have HB := hidIn hbel
    have HE := hidIn hrest
    clear HR hbel hrest
    obtain ⟨⟨f0, f1⟩, hbw⟩ := HF.out wr HB.out
    by_cases hlt : k < ns.length
    · obtain ⟨bk, o, rfl, hbk, hcell⟩ := Hna.out (by omega)
      obtain ⟨z, hz⟩ : ∃ z, ns[k]? = some z := ⟨ns[k], List.getElem?_eq_getElem hlt⟩
      have HN : Hid (nodesOk 0 ns = (isR z && (decide (lastN ns k < z) && nodesOk (lastN ns (k + 1)) (ns.drop (k + 1))))) := hidIn (by rw [HE.out, drop_next hz, nodesOk, lastN, hz]; rfl)
      have c0 := (hbw.cell (p := ⟨bk, o + k, none⟩) hbk).trans (hcell k z hz)
      have hki : (k : Int) < (ns.length : Int) := by omega
      obtain ⟨b1, hb1⟩ : ∃ b1, isR z = b1 := ⟨_, rfl⟩
      have HRt : Hid (∀ d os, Calls Try.prog 22 #[.int .i64 z] (Go.Sort.grow (redrawn wr d) os) fun e w' => e = .returned (.bool b1) ∧ Below (Go.Sort.grow (redrawn wr d) os).heap.size (Go.Sort.grow (redrawn wr d) os) w') := hidIn fun d os => by rw [← hb1]; exact rrouter_any z _
      have Hb1 := hidIn hb1
      have r0 := cell_regrown c0
      have r1 := cell_regrown f0
      clear hb1 hz
      cases b1
      · go_upto_region 4 with fail
        clear c0 f0 f1 hcell
        refine wp_region_quiet_below (by kernel_rfl) (by kernel_rfl) ?_
        repeat (go_big_quiet_step (first | (go_at_call 22; exact Calls.regrown_of (HRt.out _ _))))
        refine wpQuiet_nil ?_
        intro _ hw'
        obtain ⟨⟨dq, osq⟩, hw''⟩ := hw'
        subst hw''
        have HB4 := hidIn (hbw.trans ((below_regrown wr dq osq).mono hbw.size))
        generalize Go.Sort.grow (redrawn wr dq) osq = W4 at HB4 ⊢
        clear r0 r1 HRt
        go_wp2_with fail
        go_returns
        exact ⟨by rw [ckC_no (by unfold graphOk; rw [HN.out, Hb1.out]; rfl)]; rfl, HB4.out⟩
      · cases k with
        | zero =>
          simp only [Nat.add_zero] at r0
          go_upto_region 4 with fail
          clear c0 f0 f1 hcell
          refine wp_region_quiet_below (by kernel_rfl) (by kernel_rfl) ?_
          repeat (go_big_quiet_step (first | (go_at_call 22; exact Calls.regrown_of (HRt.out _ _))))
          refine wpQuiet_nil ?_
          intro _ hw'
          obtain ⟨⟨dq, osq⟩, hw''⟩ := hw'
          subst hw''
          have HB4 := hidIn (HB.out.trans ((below_regrown wr dq osq).mono HB.out.size))
          generalize Go.Sort.grow (redrawn wr dq) osq = W4 at HB4 ⊢
          clear r0 r1 HRt
          go_wp2_with fail
          go_roundw
          case rel =>
            refine ⟨1, by omega, rfl, hidIn ⟨HB4.out, ?_⟩⟩
            have := isR_iff.1 Hb1.out
            have h0 : decide (lastN ns 0 < z) = true := decide_eq_true (show (0 : Int) < z by omega)
            rw [HN.out, Hb1.out, h0]
            rfl
          case measure => simp [intOf]; omega
        | succ j =>
          obtain ⟨y, hy⟩ : ∃ y, ns[j]? = some y := ⟨ns[j], List.getElem?_eq_getElem (by omega)⟩
          have c1 := (hbw.cell (p := ⟨bk, o + j, none⟩) hbk).trans (hcell j y hy)
          have r2 := cell_regrown c1
          have Hl : Hid (lastN ns (j + 1) = y) := hidIn (by rw [lastN, hy]; rfl)
          have wr1 : IntKind.i64.wrap ((j : Int) + 1 - 1) = (j : Int) := by rw [IntKind.wrap_i64]; omega
          have wr2 : IntKind.i64.wrap (j : Int) = (j : Int) := by rw [IntKind.wrap_i64]; omega
          have hj0 : (0 : Int) < (j : Int) + 1 := by omega
          have hj1 : (j : Int) < (ns.length : Int) := by omega
          by_cases hzy : z ≤ y
          · go_upto_region 4 with fail
            clear c0 c1 f0 f1 hcell hy
            refine wp_region_quiet_below (by kernel_rfl) (by kernel_rfl) ?_
            repeat (go_big_quiet_step (first | (go_at_call 22; exact Calls.regrown_of (HRt.out _ _))))
            refine wpQuiet_nil ?_
            intro _ hw'
            obtain ⟨⟨dq, osq⟩, hw''⟩ := hw'
            subst hw''
            have HB4 := hidIn (hbw.trans ((below_regrown wr dq osq).mono hbw.size))
            generalize Go.Sort.grow (redrawn wr dq) osq = W4 at HB4 ⊢
            clear r0 r1 r2 HRt
            go_wp2_with fail
            go_returns
            refine ⟨?_, HB4.out⟩
            have : decide (y < z) = false := by simp; omega
            rw [ckC_no (by unfold graphOk; rw [HN.out, Hb1.out, Hl.out, this]; rfl)]
            rfl
          · have hd : decide (z ≤ y) = false := by simpa using hzy
            go_upto_region 4 with fail
            clear c0 c1 f0 f1 hcell hy
            refine wp_region_quiet_below (by kernel_rfl) (by kernel_rfl) ?_
            repeat (go_big_quiet_step (first | (go_at_call 22; exact Calls.regrown_of (HRt.out _ _))))
            refine wpQuiet_nil ?_
            intro _ hw'
            obtain ⟨⟨dq, osq⟩, hw''⟩ := hw'
            subst hw''
            have HB4 := hidIn (HB.out.trans ((below_regrown wr dq osq).mono HB.out.size))
            generalize Go.Sort.grow (redrawn wr dq) osq = W4 at HB4 ⊢
            clear r0 r1 r2 HRt hd
            go_wp2_with fail
            go_roundw
            case rel =>
              refine ⟨j + 1 + 1, by omega, by go_num, hidIn ⟨HB4.out, ?_⟩⟩
              rw [HN.out, Hb1.out, Hl.out]
              have : decide (y < z) = true := by simp; omega
              rw [this]
              rfl
            case measure => simp [intOf]; omega
    · have hki : ¬ ((k : Int) < (ns.length : Int)) := by omega
      have HT : Hid (nodesOk 0 ns = true) := hidIn (by rw [HE.out, List.drop_eq_nil_of_le (by omega)]; rfl)
      have Hbd : Hid (∀ n ∈ ns, 1 ≤ n) := hidIn fun n hn => (nodesOk_bd ns 0 HT.out n hn).1
      by_cases h384 : es.length ≤ 384
      · have h384' : ¬ (384 : Int) < (es.length : Int) := by omega
        have HG : Hid (graphOk ns es = edgesOk ns (0, 0, 0) es) := hidIn (by unfold graphOk; rw [HT.out]; simp [h384])
        clear HE
        generalize hwo : wr = wo at *
        clear hwo
        go_wp2_with fail
        clear f0 f1 hbw
        go_loopw [4] (fun i wr => ∃ k : Nat, k ≤ es.length ∧ i = .int .i64 k ∧ Hid (Below W1.heap.size W1 wr ∧ edgesOk ns (0, 0, 0) es = edgesOk ns (lastE es k) (es.drop k))) (fun i _ => es.length - (intOf i).toNat)
        case atStart => exact ⟨0, Nat.zero_le _, rfl, hidIn ⟨HB.out, by rw [List.drop_zero]; rfl⟩⟩
        case round =>
          obtain ⟨j, hj, rfl, HR⟩ := hrel
          obtain ⟨hbel, hrest⟩ := HR.out
          have HB2 := hidIn hbel
          have HE := hidIn hrest
          clear HR hbel hrest
          obtain ⟨⟨f0, f1⟩, hbw⟩ := HF.out wr HB2.out
          by_cases hlt : j < es.length
          · obtain ⟨bk, o, rfl, hbk, hcell⟩ := Hea.out (by omega)
            obtain ⟨⟨x, y, c⟩, hz⟩ : ∃ z, es[j]? = some z := ⟨es[j], List.getElem?_eq_getElem hlt⟩
            have HN : Hid (edgesOk ns (0, 0, 0) es = (edgeOk ns (lastE es j) (x, y, c) && edgesOk ns (lastE es (j + 1)) (es.drop (j + 1)))) := hidIn (by rw [HE.out, drop_next hz, edgesOk, lastE, hz]; rfl)
            obtain ⟨q0, q1, q2⟩ := hcell j _ hz
            have c0 := (hbw.cell (p := ⟨bk, o + j * 3, none⟩) hbk).trans q0
            have c1 := (hbw.cell (p := ⟨bk, o + j * 3 + 1, none⟩) hbk).trans q1
            have c2 := (hbw.cell (p := ⟨bk, o + j * 3 + 2, none⟩) hbk).trans q2
            simp only at c0 c1 c2
            have hji : (j : Int) < (es.length : Int) := by omega
            obtain ⟨W5, hW5⟩ : ∃ W5, wr.alloc (.cells #[.int .i64 x, .int .i64 y, .int .i64 c] 79) = W5 := ⟨_, rfl⟩
            have bA : Below wr.heap.size wr W5 := by rw [← hW5]; exact (Below.refl _ wr).alloc (Nat.le_refl _) _
            have hXB : W5.heap[wr.heap.size]? = some (.cells #[.int .i64 x, .int .i64 y, .int .i64 c] 79) := by rw [← hW5]; exact heap_alloc_last wr _
            have x0 : W5.cell? ⟨wr.heap.size, 0, none⟩ = some (.int .i64 x) := cell_of_row _ _ 0 _ _ _ hXB
            have x1 : W5.cell? ⟨wr.heap.size, 1, none⟩ = some (.int .i64 y) := cell_of_row _ _ 1 _ _ _ hXB
            have x2 : W5.cell? ⟨wr.heap.size, 2, none⟩ = some (.int .i64 c) := cell_of_row _ _ 2 _ _ _ hXB
            have HB5 := hidIn (HB2.out.trans (bA.mono HB2.out.size))
            obtain ⟨⟨g0, g1⟩, hbw5⟩ := HF.out W5 HB5.out
            have HH := hidIn (fun n => rhas_any (Hn.out.keep hbw5 (Nat.le_refl _)) n)
            have HW := hidIn hW5
            have HXB := hidIn hXB
            have HY : Hid (0 < j → ∃ p q r, es[j - 1]? = some (p, q, r) ∧ lastE es j = (p, q, r) ∧ W5.cell? ⟨bk, o + (j - 1) * 3, none⟩ = some (.int .i64 p) ∧ W5.cell? ⟨bk, o + (j - 1) * 3 + 1, none⟩ = some (.int .i64 q) ∧ W5.cell? ⟨bk, o + (j - 1) * 3 + 2, none⟩ = some (.int .i64 r)) := hidIn fun h0 => by
              obtain ⟨⟨p, q, r⟩, hp⟩ : ∃ z, es[j - 1]? = some z := ⟨es[j - 1], List.getElem?_eq_getElem (by omega)⟩
              obtain ⟨e0, e1, e2⟩ := hcell (j - 1) _ hp
              refine ⟨p, q, r, hp, ?_, (hbw5.cell (p := ⟨bk, o + (j - 1) * 3, none⟩) hbk).trans e0, (hbw5.cell (p := ⟨bk, o + (j - 1) * 3 + 1, none⟩) hbk).trans e1, (hbw5.cell (p := ⟨bk, o + (j - 1) * 3 + 2, none⟩) hbk).trans e2⟩
              cases j with
              | zero => omega
              | succ j => simp only [Nat.add_sub_cancel] at hp; rw [lastE, hp]; rfl
            clear hcell q0 q1 q2 hz hW5 bA hXB
            go_upto_region 12 with fail
            rw [HW.out]
            clear HW c0 c1 c2 f0 f1 hbw
            by_cases hxy : x = y
            · have hq : (x == y) = true := by simpa using hxy
              have Hxy := hidIn hxy
              clear hxy
              go_wp2_with fail
              go_returns
              exact ⟨by rw [ckC_no (by rw [HG.out, HN.out]; simp [edgeOk, Hxy.out])]; rfl, hbw5⟩
            have hq : (x == y) = false := by simpa using hxy
            go_wp2_with fail
            refine (HH.out x).mono ?_
            rintro e w6 ⟨rfl, hw6⟩
            rw [hw6]
            clear hw6 w6
            obtain ⟨b1, hb1⟩ : ∃ b1, hasN ns x = b1 := ⟨_, rfl⟩
            have Hb1 := hidIn hb1
            rw [hb1]
            clear hb1
            cases b1
            · go_wp2_with fail
              go_returns
              exact ⟨by rw [ckC_no (by rw [HG.out, HN.out]; simp [edgeOk, Hb1.out])]; rfl, hbw5⟩
            go_wp2_with fail
            refine (HH.out y).mono ?_
            rintro e w6 ⟨rfl, hw6⟩
            rw [hw6]
            clear hw6 w6
            obtain ⟨b2, hb2⟩ : ∃ b2, hasN ns y = b2 := ⟨_, rfl⟩
            have Hb2 := hidIn hb2
            rw [hb2]
            clear hb2
            cases b2
            · go_wp2_with fail
              go_returns
              exact ⟨by rw [ckC_no (by rw [HG.out, HN.out]; simp [edgeOk, Hb2.out])]; rfl, hbw5⟩
            by_cases hc1 : c < 1
            · go_wp2_with fail
              go_returns
              have hcc : isC c = false := by simp [isC]; omega
              exact ⟨by rw [ckC_no (by rw [HG.out, HN.out]; simp [edgeOk, hcc])]; rfl, hbw5⟩
            by_cases hc2 : 1000 < c
            · go_wp2_with fail
              go_returns
              have hcc : isC c = false := by simp [isC]; omega
              exact ⟨by rw [ckC_no (by rw [HG.out, HN.out]; simp [edgeOk, hcc])]; rfl, hbw5⟩
            have Hcc : Hid (isC c = true) := hidIn (isC_iff.2 ⟨by omega, by omega⟩)
            cases j with
            | zero =>
              go_wp2_with fail
              go_roundw
              case rel =>
                refine ⟨1, by omega, rfl, hidIn ⟨HB5.out, ?_⟩⟩
                have h1 := Hbd.out x (hasN_iff.1 Hb1.out)
                have h2 : risesE (lastE es 0) (x, y, c) = true := risesE_iff.2 (.inl (show (0 : Int) < x by omega))
                rw [HN.out]
                simp [edgeOk, Hb1.out, Hb2.out, Hcc.out, hxy, h2]
              case measure => simp [intOf]; omega
            | succ i =>
              obtain ⟨p, q, r, _, hl, y0, y1, y2⟩ := HY.out (by omega)
              have Hl := hidIn hl
              simp only [Nat.add_sub_cancel] at y0 y1 y2
              have hi0 : (0 : Int) < (i : Int) + 1 := by omega
              have hi1 : (i : Int) < (es.length : Int) := by omega
              obtain ⟨W7, hW7⟩ : ∃ W7, W5.alloc (.cells #[.int .i64 p, .int .i64 q, .int .i64 r] 79) = W7 := ⟨_, rfl⟩
              have bA7 : Below W5.heap.size W5 W7 := by rw [← hW7]; exact (Below.refl _ W5).alloc (Nat.le_refl _) _
              have hYB : W7.heap[W5.heap.size]? = some (.cells #[.int .i64 p, .int .i64 q, .int .i64 r] 79) := by rw [← hW7]; exact heap_alloc_last W5 _
              have hXB7 := (bA7.block _ (block_lt HXB.out)).trans HXB.out
              have p0 : W7.cell? ⟨W5.heap.size, 0, none⟩ = some (.int .i64 p) := cell_of_row _ _ 0 _ _ _ hYB
              have p1 : W7.cell? ⟨W5.heap.size, 1, none⟩ = some (.int .i64 q) := cell_of_row _ _ 1 _ _ _ hYB
              have s0 : W7.cell? ⟨wr.heap.size, 0, none⟩ = some (.int .i64 x) := cell_of_row _ _ 0 _ _ _ hXB7
              have s1 : W7.cell? ⟨wr.heap.size, 1, none⟩ = some (.int .i64 y) := cell_of_row _ _ 1 _ _ _ hXB7
              have HB7 := hidIn (HB5.out.trans (bA7.mono HB5.out.size))
              have HBW7 := hidIn (HF.out W7 HB7.out).2
              have HW := hidIn hW7
              clear hl HY hW7 bA7 hYB hXB7
              go_upto_region 16 with fail
              rw [HW.out]
              clear HW
              by_cases hpx : x < p
              · go_wp2_with fail
                go_returns
                have hri : risesE (lastE es (i + 1)) (x, y, c) = false := by
                  rw [Hl.out]
                  apply Bool.eq_false_iff.2
                  intro h
                  have := risesE_iff.1 h
                  simp only at this
                  omega
                exact ⟨by rw [ckC_no (by rw [HG.out, HN.out]; simp [edgeOk, hri])]; rfl, HBW7.out⟩
              by_cases hpe : p = x
              · have hpq : (p == x) = true := by simpa using hpe
                have Hpe := hidIn hpe
                clear hpe
                by_cases hqy : y ≤ q
                · go_wp2_with fail
                  go_returns
                  have hri : risesE (lastE es (i + 1)) (x, y, c) = false := by
                    rw [Hl.out]
                    apply Bool.eq_false_iff.2
                    intro h
                    have := risesE_iff.1 h
                    simp only at this
                    have := Hpe.out
                    omega
                  exact ⟨by rw [ckC_no (by rw [HG.out, HN.out]; simp [edgeOk, hri])]; rfl, HBW7.out⟩
                · go_wp2_with fail
                  go_roundw
                  case rel =>
                    refine ⟨i + 1 + 1, by omega, by go_num, hidIn ⟨HB7.out, ?_⟩⟩
                    have h2 : risesE (lastE es (i + 1)) (x, y, c) = true := by rw [Hl.out]; exact risesE_iff.2 (.inr ⟨Hpe.out, by simp only; omega⟩)
                    rw [HN.out]
                    simp [edgeOk, Hb1.out, Hb2.out, Hcc.out, hxy, h2]
                  case measure => simp [intOf]; omega
              · have hpq : (p == x) = false := by simpa using hpe
                go_wp2_with fail
                go_roundw
                case rel =>
                  refine ⟨i + 1 + 1, by omega, by go_num, hidIn ⟨HB7.out, ?_⟩⟩
                  have h2 : risesE (lastE es (i + 1)) (x, y, c) = true := by rw [Hl.out]; exact risesE_iff.2 (.inl (by simp only; omega))
                  rw [HN.out]
                  simp [edgeOk, Hb1.out, Hb2.out, Hcc.out, hxy, h2]
                case measure => simp [intOf]; omega
          · have hji : ¬ ((j : Int) < (es.length : Int)) := by omega
            have HT2 : Hid (graphOk ns es = true) := hidIn (by rw [HG.out, HE.out, List.drop_eq_nil_of_le (by omega)]; rfl)
            go_wp2_with fail
            go_returns
            exact ⟨by rw [ckC_yes HT2.out]; rfl, hbw⟩
      · have h384' : (384 : Int) < (es.length : Int) := by omega
        go_wp2_with fail
        go_returns
        exact ⟨by rw [ckC_no (by unfold graphOk; simp [h384])]; rfl, hbw⟩
end Go.Proofs.Ytpdpdhnllmlfdaa
namespace Go.Proofs.Ytpdpdhnllmlfdaa
open Go.RowKit

def lastG (l : List (Int × Int)) : Nat → Int
  | 0 => 0
  | k + 1 => (l[k]?.getD (0, 0)).1
theorem rec_noG {r : Rc} (h : isR r.origin = false) : recOk r = false := by simp [recOk, h]
theorem rec_restG {r : Rc} (h1 : isR r.origin = true) (h2 : 0 < r.epoch) (h3 : 0 < r.seq) (h4 : 0 ≤ r.claim) (h5 : r.claim ≤ 1024) (h6 : r.adjs.length ≤ 16) : recOk r = adjsOk r.origin 0 r.adjs := by simp [recOk, h1, h2, h3, h4, h5, h6]

set_option maxRecDepth 100000 in
set_option maxHeartbeats 2000000 in
theorem mayrec_any {r : Rc} {va : Value} {w : World} (hv : SlAt ac 2 w va r.adjs) (hep : 0 ≤ r.epoch) (hse : 0 ≤ r.seq) :
    Calls Try.prog 55 #[recV r va] w fun e w' => e = .returned (.bool (recOk r)) ∧ Below w.heap.size w w' := by
  obtain ⟨orig, epo, sq, cl, ig, as'⟩ := r
  simp only at hv hep hse ⊢
  obtain ⟨a, cap, rfl, hl, _, hat⟩ := hv.ads
  have Ha := hidIn hat
  clear hat hv
  obtain ⟨W1, hW1⟩ : ∃ W1, w.alloc (recO ⟨orig, epo, sq, cl, ig, as'⟩ (.slice a as'.length cap)) = W1 := ⟨_, rfl⟩
  have bA : Below w.heap.size w W1 := by rw [← hW1]; exact (Below.refl _ w).alloc (Nat.le_refl _) _
  have hGB : W1.heap[w.heap.size]? = some (recO ⟨orig, epo, sq, cl, ig, as'⟩ (.slice a as'.length cap)) := by rw [← hW1]; exact heap_alloc_last w _
  have hlt0 := block_lt hGB
  have HF : Hid (∀ wq, Below W1.heap.size W1 wq → (wq.cell? ⟨w.heap.size, 0, none⟩ = some (.int .i64 orig) ∧ wq.cell? ⟨w.heap.size, 5, none⟩ = some (.slice a as'.length cap)) ∧ Below w.heap.size w wq) := hidIn fun wq h => by
    have j0 := (h.block _ hlt0).trans hGB
    exact ⟨⟨cell_of_row _ _ 0 _ _ _ j0, cell_of_row _ _ 5 _ _ _ j0⟩, bA.trans (h.mono bA.size)⟩
  have g0 : W1.cell? ⟨w.heap.size, 0, none⟩ = some (.int .i64 orig) := cell_of_row _ _ 0 _ _ _ hGB
  have g1 : W1.cell? ⟨w.heap.size, 1, none⟩ = some (.int .u32 epo) := cell_of_row _ _ 1 _ _ _ hGB
  have g2 : W1.cell? ⟨w.heap.size, 2, none⟩ = some (.int .u32 sq) := cell_of_row _ _ 2 _ _ _ hGB
  have g3 : W1.cell? ⟨w.heap.size, 3, none⟩ = some (.int .i64 cl) := cell_of_row _ _ 3 _ _ _ hGB
  have g5 : W1.cell? ⟨w.heap.size, 5, none⟩ = some (.slice a as'.length cap) := cell_of_row _ _ 5 _ _ _ hGB
  have HW := hidIn hW1
  have HB1 := hidIn bA
  clear hW1 bA hGB
  go_enter Try.func55, Try.ntmps55
  go_upto_region 1 with fail
  rw [HW.out]
  clear HW
  go_wp2_with fail
  refine (rrouter_any orig W1).mono ?_
  rintro e w2 ⟨rfl, hb2⟩
  have HB2 := hidIn hb2
  have g0 := (hb2.cell (p := ⟨w.heap.size, 0, none⟩) hlt0).trans g0
  have g1 := (hb2.cell (p := ⟨w.heap.size, 1, none⟩) hlt0).trans g1
  have g2 := (hb2.cell (p := ⟨w.heap.size, 2, none⟩) hlt0).trans g2
  have g3 := (hb2.cell (p := ⟨w.heap.size, 3, none⟩) hlt0).trans g3
  have g5 := (hb2.cell (p := ⟨w.heap.size, 5, none⟩) hlt0).trans g5
  have HBW2 := hidIn (HF.out w2 HB2.out).2
  clear hb2
  obtain ⟨b1, hb1⟩ : ∃ b1, isR orig = b1 := ⟨_, rfl⟩
  have Hb1 := hidIn hb1
  rw [hb1]
  clear hb1
  cases b1
  · go_wp2_with fail
    go_ret
    exact ⟨by rw [rec_noG Hb1.out]; rfl, HBW2.out⟩
  by_cases he0 : epo = 0
  · have hq : (epo == 0) = true := by simpa using he0
    have He := hidIn he0
    clear he0
    go_wp2_with fail
    go_ret
    exact ⟨by rw [show recOk ⟨orig, epo, sq, cl, ig, as'⟩ = false by simp [recOk, He.out]]; rfl, HBW2.out⟩
  have hqe : (epo == 0) = false := by simpa using he0
  by_cases hs0 : sq = 0
  · have hq : (sq == 0) = true := by simpa using hs0
    have He := hidIn hs0
    clear hs0
    go_wp2_with fail
    go_ret
    exact ⟨by rw [show recOk ⟨orig, epo, sq, cl, ig, as'⟩ = false by simp [recOk, He.out]]; rfl, HBW2.out⟩
  have hqs : (sq == 0) = false := by simpa using hs0
  by_cases hc0 : cl < 0
  · go_wp2_with fail
    go_ret
    exact ⟨by rw [show recOk ⟨orig, epo, sq, cl, ig, as'⟩ = false by simp [recOk]; intro _ _ _ h; omega]; rfl, HBW2.out⟩
  by_cases hc1 : 1024 < cl
  · go_wp2_with fail
    go_ret
    exact ⟨by rw [show recOk ⟨orig, epo, sq, cl, ig, as'⟩ = false by simp [recOk]; intro _ _ _ _ h; omega]; rfl, HBW2.out⟩
  by_cases h16 : as'.length ≤ 16
  · have h16' : ¬ (16 : Int) < (as'.length : Int) := by omega
    have HG : Hid (recOk ⟨orig, epo, sq, cl, ig, as'⟩ = adjsOk orig 0 as') := hidIn (rec_restG Hb1.out (by show 0 < epo; omega) (by show 0 < sq; omega) (by show 0 ≤ cl; omega) (by show cl ≤ 1024; omega) h16)
    go_wp2_with fail
    clear g0 g1 g2 g3 g5
    go_loopw [3] (fun i wr => ∃ k : Nat, k ≤ as'.length ∧ i = .int .i64 k ∧ Hid (Below W1.heap.size W1 wr ∧ adjsOk orig 0 as' = adjsOk orig (lastG as' k) (as'.drop k))) (fun i _ => as'.length - (intOf i).toNat)
    case atStart => exact ⟨0, Nat.zero_le _, rfl, hidIn ⟨HB2.out, by rw [List.drop_zero]; rfl⟩⟩
    case round =>
      obtain ⟨k, hk, rfl, HR⟩ := hrel
      obtain ⟨hbel, hrest⟩ := HR.out
      have HB := hidIn hbel
      have HE := hidIn hrest
      clear HR hbel hrest
      obtain ⟨⟨f0, f1⟩, hbw⟩ := HF.out wr HB.out
      by_cases hlt : k < as'.length
      · obtain ⟨bk, o, rfl, hbk, hcell⟩ := Ha.out (by omega)
        obtain ⟨⟨x, y⟩, hz⟩ : ∃ z, as'[k]? = some z := ⟨as'[k], List.getElem?_eq_getElem hlt⟩
        have HN : Hid (adjsOk orig 0 as' = (adjOk orig (lastG as' k) (x, y) && adjsOk orig (lastG as' (k + 1)) (as'.drop (k + 1)))) := hidIn (by rw [HE.out, drop_next hz, adjsOk, lastG, hz]; rfl)
        obtain ⟨q0, q1⟩ := hcell k _ hz
        have c0 := (hbw.cell (p := ⟨bk, o + k * 2, none⟩) hbk).trans q0
        have c1 := (hbw.cell (p := ⟨bk, o + k * 2 + 1, none⟩) hbk).trans q1
        simp only at c0 c1
        have hki : (k : Int) < (as'.length : Int) := by omega
        obtain ⟨W5, hW5⟩ : ∃ W5, wr.alloc (.cells #[.int .i64 x, .int .i64 y] 75) = W5 := ⟨_, rfl⟩
        have bA : Below wr.heap.size wr W5 := by rw [← hW5]; exact (Below.refl _ wr).alloc (Nat.le_refl _) _
        have hXB : W5.heap[wr.heap.size]? = some (.cells #[.int .i64 x, .int .i64 y] 75) := by rw [← hW5]; exact heap_alloc_last wr _
        have x0 : W5.cell? ⟨wr.heap.size, 0, none⟩ = some (.int .i64 x) := cell_of_row _ _ 0 _ _ _ hXB
        have x1 : W5.cell? ⟨wr.heap.size, 1, none⟩ = some (.int .i64 y) := cell_of_row _ _ 1 _ _ _ hXB
        have HB5 := hidIn (HB.out.trans (bA.mono HB.out.size))
        obtain ⟨⟨e0, e5⟩, hbw5⟩ := HF.out W5 HB5.out
        have r0 := cell_regrown x0
        have r1 := cell_regrown x1
        have r2 := cell_regrown e0
        have r3 := cell_regrown e5
        have HY : Hid (0 < k → ∃ p, lastG as' k = p ∧ ∀ dd os, (Go.Sort.grow (redrawn W5 dd) os).cell? ⟨bk, o + (k - 1) * 2, none⟩ = some (.int .i64 p)) := hidIn fun h0 => by
          obtain ⟨⟨p, q⟩, hp⟩ : ∃ z, as'[k - 1]? = some z := ⟨as'[k - 1], List.getElem?_eq_getElem (by omega)⟩
          refine ⟨p, ?_, cell_regrown ((hbw5.cell (p := ⟨bk, o + (k - 1) * 2, none⟩) hbk).trans (hcell (k - 1) _ hp).1)⟩
          cases k with
          | zero => omega
          | succ j => simp only [Nat.add_sub_cancel] at hp; rw [lastG, hp]; rfl
        obtain ⟨b2, hb2⟩ : ∃ b2, isR x = b2 := ⟨_, rfl⟩
        have HRt : Hid (∀ dd os, Calls Try.prog 22 #[.int .i64 x] (Go.Sort.grow (redrawn W5 dd) os) fun e w' => e = .returned (.bool b2) ∧ Below (Go.Sort.grow (redrawn W5 dd) os).heap.size (Go.Sort.grow (redrawn W5 dd) os) w') := hidIn fun dd os => by rw [← hb2]; exact rrouter_any x _
        have Hb2 := hidIn hb2
        have HW := hidIn hW5
        obtain ⟨res, hres⟩ : ∃ res, res = !adjOk orig (lastG as' k) (x, y) := ⟨_, rfl⟩
        have Hres := hidIn hres
        clear hcell q0 q1 hz hW5 bA hXB x0 x1 e0 e5 hb2 hres
        go_upto_region 7 with fail
        rw [HW.out]
        clear HW c0 c1 f0 f1 hbw
        go_cut [83] (fun x1 wx => x1 = .bool res ∧ Below W1.heap.size W1 wx)
        case first =>
          cases b2
          · refine wp_region_quiet_below (by kernel_rfl) (by kernel_rfl) ?_
            repeat (go_big_quiet_step (first | (go_at_call 22; exact Calls.regrown_of (HRt.out _ _))))
            refine wpQuiet_nil ?_
            intro _ hw'
            obtain ⟨⟨dq, osq⟩, hw''⟩ := hw'
            subst hw''
            have HB4 := hidIn (HB5.out.trans ((below_regrown W5 dq osq).mono HB5.out.size))
            generalize Go.Sort.grow (redrawn W5 dq) osq = W4 at HB4 ⊢
            clear r0 r1 r2 r3 HRt
            go_wp2_with fail
            go_meet
            refine ⟨?_, HB4.out⟩
            rw [Hres.out]
            simp [adjOk, Hb2.out]
          by_cases hxo : x = orig
          · have hq : (x == orig) = true := by simpa using hxo
            have Hxo := hidIn hxo
            clear hxo
            refine wp_region_quiet_below (by kernel_rfl) (by kernel_rfl) ?_
            repeat (go_big_quiet_step (first | (go_at_call 22; exact Calls.regrown_of (HRt.out _ _))))
            refine wpQuiet_nil ?_
            intro _ hw'
            obtain ⟨⟨dq, osq⟩, hw''⟩ := hw'
            subst hw''
            have HB4 := hidIn (HB5.out.trans ((below_regrown W5 dq osq).mono HB5.out.size))
            generalize Go.Sort.grow (redrawn W5 dq) osq = W4 at HB4 ⊢
            clear r0 r1 r2 r3 HRt
            go_wp2_with fail
            go_meet
            refine ⟨?_, HB4.out⟩
            rw [Hres.out]
            simp [adjOk, Hxo.out]
          have hqo : (x == orig) = false := by simpa using hxo
          have Hxo := hidIn hxo
          clear hxo
          by_cases hy1 : y < 1
          · have hcc : isC y = false := by simp [isC]; omega
            have Hcc := hidIn hcc
            clear hcc
            refine wp_region_quiet_below (by kernel_rfl) (by kernel_rfl) ?_
            repeat (go_big_quiet_step (first | (go_at_call 22; exact Calls.regrown_of (HRt.out _ _))))
            refine wpQuiet_nil ?_
            intro _ hw'
            obtain ⟨⟨dq, osq⟩, hw''⟩ := hw'
            subst hw''
            have HB4 := hidIn (HB5.out.trans ((below_regrown W5 dq osq).mono HB5.out.size))
            generalize Go.Sort.grow (redrawn W5 dq) osq = W4 at HB4 ⊢
            clear r0 r1 r2 r3 HRt
            go_wp2_with fail
            go_meet
            refine ⟨?_, HB4.out⟩
            rw [Hres.out]
            simp [adjOk, Hcc.out]
          have hd1 : decide (y < 1) = false := by simpa using hy1
          by_cases hy2 : 1000 < y
          · have hcc : isC y = false := by simp [isC]; omega
            have Hcc := hidIn hcc
            clear hcc
            refine wp_region_quiet_below (by kernel_rfl) (by kernel_rfl) ?_
            repeat (go_big_quiet_step (first | (go_at_call 22; exact Calls.regrown_of (HRt.out _ _))))
            refine wpQuiet_nil ?_
            intro _ hw'
            obtain ⟨⟨dq, osq⟩, hw''⟩ := hw'
            subst hw''
            have HB4 := hidIn (HB5.out.trans ((below_regrown W5 dq osq).mono HB5.out.size))
            generalize Go.Sort.grow (redrawn W5 dq) osq = W4 at HB4 ⊢
            clear r0 r1 r2 r3 HRt
            go_wp2_with fail
            go_meet
            refine ⟨?_, HB4.out⟩
            rw [Hres.out]
            simp [adjOk, Hcc.out]
          have hd2 : decide (1000 < y) = false := by simpa using hy2
          have Hcc : Hid (isC y = true) := hidIn (isC_iff.2 ⟨by omega, by omega⟩)
          cases k with
          | zero =>
            refine wp_region_quiet_below (by kernel_rfl) (by kernel_rfl) ?_
            repeat (go_big_quiet_step (first | (go_at_call 22; exact Calls.regrown_of (HRt.out _ _))))
            refine wpQuiet_nil ?_
            intro _ hw'
            obtain ⟨⟨dq, osq⟩, hw''⟩ := hw'
            subst hw''
            have HB4 := hidIn (HB5.out.trans ((below_regrown W5 dq osq).mono HB5.out.size))
            generalize Go.Sort.grow (redrawn W5 dq) osq = W4 at HB4 ⊢
            clear r0 r1 r2 r3 HRt
            go_wp2_with fail
            go_meet
            refine ⟨?_, HB4.out⟩
            rw [Hres.out]
            have h1 := isR_iff.1 Hb2.out
            have h2 : decide (lastG as' 0 < x) = true := decide_eq_true (show (0 : Int) < x by omega)
            simp only [adjOk, Hb2.out, Hcc.out, h2, Hxo.out]
            rfl
          | succ j =>
            obtain ⟨p, hp, r4⟩ := HY.out (by omega)
            simp only [Nat.add_sub_cancel] at r4
            have Hp := hidIn hp
            clear hp HY
            have wr1 : IntKind.i64.wrap ((j : Int) + 1 - 1) = (j : Int) := by rw [IntKind.wrap_i64]; omega
            have wr2 : IntKind.i64.wrap (j : Int) = (j : Int) := by rw [IntKind.wrap_i64]; omega
            have hj0 : (0 : Int) < (j : Int) + 1 := by omega
            have hj1 : (j : Int) < (as'.length : Int) := by omega
            by_cases hxp : x ≤ p
            · refine wp_region_quiet_below (by kernel_rfl) (by kernel_rfl) ?_
              repeat (go_big_quiet_step (first | (go_at_call 22; exact Calls.regrown_of (HRt.out _ _))))
              refine wpQuiet_nil ?_
              intro _ hw'
              obtain ⟨⟨dq, osq⟩, hw''⟩ := hw'
              subst hw''
              have HB4 := hidIn (HB5.out.trans ((below_regrown W5 dq osq).mono HB5.out.size))
              generalize Go.Sort.grow (redrawn W5 dq) osq = W4 at HB4 ⊢
              clear r0 r1 r2 r3 HRt r4
              go_wp2_with fail
              go_meet
              refine ⟨?_, HB4.out⟩
              rw [Hres.out]
              have h2 : decide (lastG as' (j + 1) < x) = false := by rw [Hp.out]; simp; omega
              simp [adjOk, h2]
            · have hd3 : decide (x ≤ p) = false := by simpa using hxp
              refine wp_region_quiet_below (by kernel_rfl) (by kernel_rfl) ?_
              repeat (go_big_quiet_step (first | (go_at_call 22; exact Calls.regrown_of (HRt.out _ _))))
              refine wpQuiet_nil ?_
              intro _ hw'
              obtain ⟨⟨dq, osq⟩, hw''⟩ := hw'
              subst hw''
              have HB4 := hidIn (HB5.out.trans ((below_regrown W5 dq osq).mono HB5.out.size))
              generalize Go.Sort.grow (redrawn W5 dq) osq = W4 at HB4 ⊢
              clear r0 r1 r2 r3 HRt r4
              go_wp2_with fail
              go_meet
              refine ⟨?_, HB4.out⟩
              rw [Hres.out]
              have h2 : decide (lastG as' (j + 1) < x) = true := by rw [Hp.out]; simp; omega
              simp only [adjOk, Hb2.out, Hcc.out, h2, Hxo.out]
              rfl
        case rest =>
          obtain ⟨rfl, hbc⟩ := hcut
          have HBc := hidIn hbc
          have HBWc := hidIn (HF.out wc hbc).2
          clear hbc r0 r1 r2 r3 HRt HY
          cases res
          · have HA : Hid (adjOk orig (lastG as' k) (x, y) = true) := hidIn (by have := Hres.out; simpa using this.symm)
            go_wp2_with fail
            go_roundw
            case rel =>
              refine ⟨k + 1, by omega, by go_num, hidIn ⟨HBc.out, ?_⟩⟩
              rw [HN.out, HA.out]
              rfl
            case measure => simp [intOf]; omega
          · have HA : Hid (adjOk orig (lastG as' k) (x, y) = false) := hidIn (by have := Hres.out; simpa using this.symm)
            go_wp2_with fail
            go_returns
            exact ⟨by rw [HG.out, HN.out, HA.out]; rfl, HBWc.out⟩
      · have hki : ¬ ((k : Int) < (as'.length : Int)) := by omega
        have HT : Hid (recOk ⟨orig, epo, sq, cl, ig, as'⟩ = true) := hidIn (by rw [HG.out, HE.out, List.drop_eq_nil_of_le (by omega)]; rfl)
        go_wp2_with fail
        go_returns
        exact ⟨by rw [HT.out]; rfl, hbw⟩
  · have h16' : (16 : Int) < (as'.length : Int) := by omega
    go_wp2_with fail
    go_ret
    exact ⟨by rw [show recOk ⟨orig, epo, sq, cl, ig, as'⟩ = false by simp [recOk, h16]]; rfl, HBW2.out⟩
end Go.Proofs.Ytpdpdhnllmlfdaa
