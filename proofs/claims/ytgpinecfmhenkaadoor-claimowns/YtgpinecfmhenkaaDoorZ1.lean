/- errors.As, of a refusal: a fault. errors.As, of a refusal: it is found. The laws' fault: is an error just a fault of that number, at 0? The laws' conflict: is an error just that of a claim? The laws' conflict, walked. The law's works. Bytes, claims, as arguments. The law's records. The law's records, as lists: no order changes their claims. ClaimOrder. The law's cut. The document's SameClaim, Same. The document's Same, of claims that are the same. ClaimOwns. -/
import Derived.Test.YtgpinecfmhenkaaDoorUT0
import Derived.LaidEql
import Derived.Stop.Asserts
import Derived.RowKitTokens
import Derived.Test.YtgpinecfmhenkaaDoorUT1
import Derived.Test.YtgpinecfmhenkaaDoorU8
import Derived.Test.YtgpinecfmhenkaaDoorU3
import Derived.Deep.RegionHeld3
import Derived.Test.YtgpinecfmhenkaaDoorUT7
namespace Go.Proofs.YtgpinecfmhenkaaDoor
open Go.RowKit Go.Extern.Stop Go.Stop Go.Extern

theorem asf_val (t : Addr) (w : World) : (ReflectliteValue.unpack (.iface 60 (.pointer (some t)))).run Tryd.prog w
    = .ok (.agg #[.pointer (some ⟨1, 60, none⟩), .pointer (some ⟨w.heap.size, 0, none⟩), .int .u64 150]) (w.alloc (.cells #[.pointer (some t)] 60)) := by kernel_rfl
theorem asf_type (a : Addr) (w : World) : (ReflectliteValue.methodAny (ReflectliteValue.valueError "reflectlite.Value.Type" 0) (fun t _ _ _ => ReflectliteType.toType t) #[.agg #[.pointer (some ⟨1, 60, none⟩), .pointer (some a), .int .u64 150]]).run Tryd.prog w
    = .ok (.iface 100 (.agg #[.pointer (some ⟨1, 60, none⟩)])) w := by kernel_rfl
theorem asf_k2 (w : World) : ((ReflectliteType.abiMethod fun t => (fun a : Nat => Value.int IntKind.u8 (a : Int)) <$> Rtype.kind t) #[.pointer (some ⟨1, 60, none⟩)]).run Tryd.prog w = .ok (.int .u8 22) w := by kernel_rfl
theorem asf_k1 (w : World) : ((ReflectliteType.abiMethod fun t => (fun a : Nat => Value.int IntKind.u8 (a : Int)) <$> Rtype.kind t) #[.pointer (some ⟨1, 59, none⟩)]).run Tryd.prog w = .ok (.int .u8 22) w := by kernel_rfl
theorem asf_parts (a : Addr) (w : World) : (ReflectliteValue.parts (.agg #[.pointer (some ⟨1, 60, none⟩), .pointer (some a), .int .u64 150])).run Tryd.prog w = .ok (some (60, a, 150)) w := by kernel_rfl
theorem asf_nil (a q : Addr) (W : World) (ha : W.cell? a = some (.pointer (some q))) :
    (ReflectliteValue.method (ReflectliteValue.valueError "reflectlite.Value.IsNil" 0) ReflectliteValue.isNil #[.agg #[.pointer (some ⟨1, 60, none⟩), .pointer (some a), .int .u64 150]]).run Tryd.prog W = .ok (.bool false) W := by
  show Sem.run _ (ReflectliteValue.parts (.agg #[.pointer (some ⟨1, 60, none⟩), .pointer (some a), .int .u64 150]) >>= _) _ = _
  rw [Sem.run_bind, asf_parts]
  simp only [Result.andThen]
  simp [ReflectliteValue.isNil, loadVar, isAgg, underlying, Tryd.underlying60, ha, Result.andThen]
theorem asf_elem (w : World) : (ReflectliteType.method ReflectliteType.elem #[.agg #[.pointer (some ⟨1, 60, none⟩)]]).run Tryd.prog w = .ok (.iface 100 (.agg #[.pointer (some ⟨1, 59, none⟩)])) w := by kernel_rfl
theorem asf_impl (w : World) : (ReflectliteType.relation "Implements" ReflectliteType.implements_ #[.agg #[.pointer (some ⟨1, 59, none⟩)], .iface 100 (.agg #[.pointer (some ⟨1, 25, none⟩)])]).run Tryd.prog w = .ok (.bool true) w := by kernel_rfl
theorem asf_tO (v : Value) (w : World) : (ReflectliteType.typeOf #[.iface 59 v]).run Tryd.prog w = .ok (.iface 100 (.agg #[.pointer (some ⟨1, 59, none⟩)])) w := by kernel_rfl
theorem asf_assR (w : World) : (ReflectliteType.relation "AssignableTo" ReflectliteType.assignableTo #[.agg #[.pointer (some ⟨1, 91, none⟩)], .iface 100 (.agg #[.pointer (some ⟨1, 59, none⟩)])]).run Tryd.prog w = .ok (.bool false) w := by kernel_rfl
theorem asf_ass (w : World) : (ReflectliteType.relation "AssignableTo" ReflectliteType.assignableTo #[.agg #[.pointer (some ⟨1, 59, none⟩)], .iface 100 (.agg #[.pointer (some ⟨1, 59, none⟩)])]).run Tryd.prog w = .ok (.bool true) w := by kernel_rfl
theorem asf_val1 (e : Addr) (w : World) : (ReflectliteValue.unpack (.iface 59 (.pointer (some e)))).run Tryd.prog w
    = .ok (.agg #[.pointer (some ⟨1, 59, none⟩), .pointer (some ⟨w.heap.size, 0, none⟩), .int .u64 150]) (w.alloc (.cells #[.pointer (some e)] 59)) := by kernel_rfl
theorem asf_elemOf (w : World) : (Rtype.elem? 60).run Tryd.prog w = .ok (some 59) w := by kernel_rfl
theorem asf_mk (q : Addr) (w : World) : (ReflectliteValue.mk 59 q ReflectliteValue.flagAddr).run Tryd.prog w = .ok (.agg #[.pointer (some ⟨1, 59, none⟩), .pointer (some q), .int .u64 406]) w := by kernel_rfl
theorem asf_elemV (a q : Addr) (W : World) (ha : W.cell? a = some (.pointer (some q))) :
    (ReflectliteValue.method (ReflectliteValue.valueError "reflectlite.Value.Elem" 0) ReflectliteValue.elem #[.agg #[.pointer (some ⟨1, 60, none⟩), .pointer (some a), .int .u64 150]]).run Tryd.prog W
      = .ok (.agg #[.pointer (some ⟨1, 59, none⟩), .pointer (some q), .int .u64 406]) W := by
  show Sem.run _ (ReflectliteValue.parts (.agg #[.pointer (some ⟨1, 60, none⟩), .pointer (some a), .int .u64 150]) >>= _) _ = _
  rw [Sem.run_bind, asf_parts]
  simp only [Result.andThen]
  simp [ReflectliteValue.elem, loadVar, isAgg, underlying, Tryd.underlying60, ha, Result.andThen, asf_elemOf, asf_mk]
end Go.Proofs.YtgpinecfmhenkaaDoor
namespace Go.Proofs.YtgpinecfmhenkaaDoor
open Go.RowKit Go.Extern.Stop Go.Stop Go.Extern

theorem asf_parts2 (a : Addr) (w : World) : (ReflectliteValue.parts (.agg #[.pointer (some ⟨1, 59, none⟩), .pointer (some a), .int .u64 406])).run Tryd.prog w = .ok (some (59, a, 406)) w := by kernel_rfl
theorem asf_parts1 (a : Addr) (w : World) : (ReflectliteValue.parts (.agg #[.pointer (some ⟨1, 59, none⟩), .pointer (some a), .int .u64 150])).run Tryd.prog w = .ok (some (59, a, 150)) w := by kernel_rfl
theorem asf_direct (w : World) : (Rtype.directlyAssignable 59 59).run Tryd.prog w = .ok true w := by kernel_rfl
theorem asf_set (ta b e : Addr) (old : Value) (W : World) (hb : W.cell? b = some (.pointer (some e))) (ht : W.cell? ta = some old) (hf : W.frozen? ta = false) :
    (ReflectliteValue.set #[.agg #[.pointer (some ⟨1, 59, none⟩), .pointer (some ta), .int .u64 406], .agg #[.pointer (some ⟨1, 59, none⟩), .pointer (some b), .int .u64 150]]).run Tryd.prog W
      = .ok (.tuple #[]) (W.setCell ta (.pointer (some e))) := by
  show Sem.run _ (ReflectliteValue.parts (.agg #[.pointer (some ⟨1, 59, none⟩), .pointer (some ta), .int .u64 406]) >>= _) _ = _
  rw [Sem.run_bind, asf_parts2]
  simp only [Result.andThen]
  show Sem.run _ (ReflectliteValue.parts (.agg #[.pointer (some ⟨1, 59, none⟩), .pointer (some b), .int .u64 150]) >>= _) _ = _
  rw [Sem.run_bind, asf_parts1]
  simp only [Result.andThen]
  simp [ReflectliteValue.flagAddr, loadVar, isAgg, underlying, Tryd.underlying59, hb, Result.andThen, asf_direct, storeVar, Value.cells, storeCells, Addr.add]
  rw [run_store Tryd.prog W ta _ _ (by rfl)]
  simp [ht, hf]
set_option maxRecDepth 100000 in
set_option maxHeartbeats 8000000 in
theorem asf_hit (c : Nat) (t : Addr) (old : Value) (w : World) (hg : ErrT w) (ht0 : w.cell? t = some old) (hf0 : w.frozen? t = false) :
    Calls Tryd.prog 18 #[rfs (pfa c), .iface 60 (.pointer (some t))] w fun ev w' => ev = .returned (.bool true) ∧ w' = (((((w.alloc (.cells #[.pointer (some t)] 60)).alloc (.cells #[.pointer (some ⟨1, 60, none⟩), .pointer (some ⟨w.heap.size, 0, none⟩), .int .u64 150] 83)).alloc (.cells #[.pointer (some ⟨1, 60, none⟩), .pointer (some ⟨w.heap.size, 0, none⟩), .int .u64 150] 83)).alloc (.cells #[pfa c] 91)).alloc (.cells #[.pointer (some ⟨c, 0, none⟩)] 59)).setCell t (.pointer (some ⟨c, 0, none⟩)) := by
  have h6 := @run_callFunc_extern Tryd.prog 34 _ (fun args => ReflectliteValue.unpack (args.getD 0 (.tuple #[]))) Tryd.func34 (by kernel_rfl) (by kernel_rfl) (by kernel_rfl) (by kernel_rfl)
  have h7 := @run_callFunc_extern Tryd.prog 35 _ (ReflectliteValue.methodAny (ReflectliteValue.valueError "reflectlite.Value.Type" 0) (fun t _ _ _ => ReflectliteType.toType t)) Tryd.func35 (by kernel_rfl) (by kernel_rfl) (by kernel_rfl) (by kernel_rfl)
  have h8 := @run_callFunc_extern Tryd.prog 36 _ (ReflectliteValue.method (ReflectliteValue.valueError "reflectlite.Value.IsNil" 0) ReflectliteValue.isNil) Tryd.func36 (by kernel_rfl) (by kernel_rfl) (by kernel_rfl) (by kernel_rfl)
  have h27 := @run_callFunc_extern Tryd.prog 86 _ (ReflectliteType.abiMethod fun t => do pure (.int .u8 (← Rtype.kind t))) Tryd.func86 (by kernel_rfl) (by kernel_rfl) (by kernel_rfl) (by kernel_rfl)
  have h37 := @run_callFunc_extern Tryd.prog 102 _ (ReflectliteType.method ReflectliteType.elem) Tryd.func102 (by kernel_rfl) (by kernel_rfl) (by kernel_rfl) (by kernel_rfl)
  have h38 := @run_callFunc_extern Tryd.prog 103 _ (ReflectliteType.relation "Implements" ReflectliteType.implements_) Tryd.func103 (by kernel_rfl) (by kernel_rfl) (by kernel_rfl) (by kernel_rfl)
  have h10 := @run_callFunc_extern Tryd.prog 32 _ ReflectliteType.typeOf Tryd.func32 (by kernel_rfl) (by kernel_rfl) (by kernel_rfl) (by kernel_rfl)
  have h35 := @run_callFunc_extern Tryd.prog 100 _ (ReflectliteType.relation "AssignableTo" ReflectliteType.assignableTo) Tryd.func100 (by kernel_rfl) (by kernel_rfl) (by kernel_rfl) (by kernel_rfl)
  have h11 := @run_callFunc_extern Tryd.prog 46 _ (ReflectliteValue.method (ReflectliteValue.valueError "reflectlite.Value.Elem" 0) ReflectliteValue.elem) Tryd.func46 (by kernel_rfl) (by kernel_rfl) (by kernel_rfl) (by kernel_rfl)
  have h12 := @run_callFunc_extern Tryd.prog 47 _ ReflectliteValue.set Tryd.func47 (by kernel_rfl) (by kernel_rfl) (by kernel_rfl) (by kernel_rfl)
  have tR := as_tR
  have tO := asf_tO
  have mA := as_mAss
  have aR := asf_assR
  have a25 := asf_ass
  have v25 := asf_val1
  have f6 := asf_val
  have f7 := asf_type
  have mK := as_mKind
  have mE := as_mElem
  have mI := as_mImpl
  have k27 := asf_k2
  have k25 := asf_k1
  have e27 := asf_elem
  have i25 := asf_impl
  have nA := as_noR
  have uR := is_unR
  have mU := is_muR
  have n8 := asf_nil ⟨w.heap.size, 0, none⟩ t ((w.alloc (.cells #[.pointer (some t)] 60)).alloc (.cells #[.pointer (some ⟨1, 60, none⟩), .pointer (some ⟨w.heap.size, 0, none⟩), .int .u64 150] 83)) (by simp)
  have hlt : 0 < w.heap.size := by
    unfold ErrT at hg
    rcases Nat.eq_zero_or_pos w.heap.size with h0 | h
    · simp [World.cell?, h0] at hg
    · exact h
  have hg2 : ((w.alloc (.cells #[.pointer (some t)] 60)).alloc (.cells #[.pointer (some ⟨1, 60, none⟩), .pointer (some ⟨w.heap.size, 0, none⟩), .int .u64 150] 83)).cell? ⟨0, 0, none⟩ = some (.iface 100 (.agg #[.pointer (some ⟨1, 25, none⟩)])) := by
    rw [World.cell?_alloc_lt _ _ ⟨0, 0, none⟩ (by simp), World.cell?_alloc_lt _ _ ⟨0, 0, none⟩ hlt]; exact hg
  have htl : t.block < w.heap.size := by
    rcases Nat.lt_or_ge t.block w.heap.size with h | h
    · exact h
    · simp [World.cell?, Array.getElem?_eq_none h] at ht0
  have el := asf_elemV ⟨w.heap.size, 0, none⟩ t ((((w.alloc (.cells #[.pointer (some t)] 60)).alloc (.cells #[.pointer (some ⟨1, 60, none⟩), .pointer (some ⟨w.heap.size, 0, none⟩), .int .u64 150] 83)).alloc (.cells #[.pointer (some ⟨1, 60, none⟩), .pointer (some ⟨w.heap.size, 0, none⟩), .int .u64 150] 83)).alloc (.cells #[pfa c] 91)) (by rw [World.cell?_alloc_lt _ _ ⟨w.heap.size, 0, none⟩ (by simp; omega), World.cell?_alloc_lt _ _ ⟨w.heap.size, 0, none⟩ (by simp; omega)]; simp)
  have st := asf_set t ⟨w.heap.size + 1 + 1 + 1 + 1, 0, none⟩ ⟨c, 0, none⟩ old (((((w.alloc (.cells #[.pointer (some t)] 60)).alloc (.cells #[.pointer (some ⟨1, 60, none⟩), .pointer (some ⟨w.heap.size, 0, none⟩), .int .u64 150] 83)).alloc (.cells #[.pointer (some ⟨1, 60, none⟩), .pointer (some ⟨w.heap.size, 0, none⟩), .int .u64 150] 83)).alloc (.cells #[pfa c] 91)).alloc (.cells #[.pointer (some ⟨c, 0, none⟩)] 59))
    (by rw [World.cell?_alloc_at _ _ _ _ (by simp)]; rfl)
    (by rw [World.cell?_alloc_lt _ _ t (by simp; omega), World.cell?_alloc_lt _ _ t (by simp; omega), World.cell?_alloc_lt _ _ t (by simp; omega), World.cell?_alloc_lt _ _ t (by simp; omega), World.cell?_alloc_lt _ _ t htl]; exact ht0)
    (by rw [World.frozen?_alloc_old _ _ t (by simp; omega), World.frozen?_alloc_old _ _ t (by simp; omega), World.frozen?_alloc_old _ _ t (by simp; omega), World.frozen?_alloc_old _ _ t (by simp; omega), World.frozen?_alloc_old _ _ t (Nat.ne_of_lt htl)]; exact hf0)
  clear hg
  go_enter Tryd.func18, Tryd.ntmps18
  go_wp2
  refine wp_loop_rounds 2 ?_
  rw [rounds_succ]
  go_wp2
  rw [rounds_succ]
  go_wp2
  go_ret
  exact ⟨rfl, rfl⟩
end Go.Proofs.YtgpinecfmhenkaaDoor
namespace Go.Proofs.YtgpinecfmhenkaaDoor
open Go.RowKit Go.Extern.Stop Go.Stop Go.Extern

theorem ErrT.pos {w : World} (h : ErrT w) : 0 < w.heap.size := by
  unfold ErrT at h
  rcases Nat.eq_zero_or_pos w.heap.size with h0 | h1
  · simp [World.cell?, h0] at h
  · exact h1
theorem ErrT.keep {w w' : World} {B : Nat} (h : ErrT w) (hb : Below B w w') (hB : 0 < B) : ErrT w' := (hb.cell (p := ⟨0, 0, none⟩) hB).trans h
/-- errors.As finds a fault, for a variable laid last. -/
theorem asf_new (c : Nat) (o : Obj) (old : Value) (w : World) (hg : ErrT w) (ht0 : (w.alloc o).cell? ⟨w.heap.size, 0, none⟩ = some old) (hf0 : (w.alloc o).frozen? ⟨w.heap.size, 0, none⟩ = false) :
    Calls Tryd.prog 18 #[rfs (pfa c), .iface 60 (.pointer (some ⟨w.heap.size, 0, none⟩))] (w.alloc o) fun ev w' => ev = .returned (.bool true) ∧ Below w.heap.size w w' ∧ w'.cell? ⟨w.heap.size, 0, none⟩ = some (.pointer (some ⟨c, 0, none⟩)) := by
  have hB : Below w.heap.size w (w.alloc o) := (Below.refl _ w).alloc (Nat.le_refl _) _
  have hl : ((⟨w.heap.size, 0, none⟩ : Addr).block) < (w.alloc o).heap.size := by simp
  refine (asf_hit c ⟨w.heap.size, 0, none⟩ old (w.alloc o) (hg.keep hB hg.pos) ht0 hf0).mono ?_
  rintro ev w' ⟨rfl, rfl⟩
  refine ⟨rfl, ?_, ?_⟩
  · refine Below.setCell (p := ⟨w.heap.size, 0, none⟩) ?_ (Nat.le_refl w.heap.size) _
    refine Below.alloc (Below.alloc (Below.alloc (Below.alloc (Below.alloc hB ?_ _) ?_ _) ?_ _) ?_ _) ?_ _ <;> (simp; try omega)
  · refine World.cell?_setCell_same _ _ _ (u := old) ?_
    rw [World.cell?_alloc_lt _ _ ⟨w.heap.size, 0, none⟩ (by simp; omega), World.cell?_alloc_lt _ _ ⟨w.heap.size, 0, none⟩ (by simp; omega), World.cell?_alloc_lt _ _ ⟨w.heap.size, 0, none⟩ (by simp; omega), World.cell?_alloc_lt _ _ ⟨w.heap.size, 0, none⟩ (by simp; omega), World.cell?_alloc_lt _ _ ⟨w.heap.size, 0, none⟩ hl]
    exact ht0
set_option maxRecDepth 100000 in
set_option maxHeartbeats 4000000 in
theorem fault_ok {b : Nat} {k : Int} {w : World} (hg : ErrT w) (hb : w.heap[b]? = some (.cells #[.int .i64 k, .int .i64 0] 62)) (hk : k ≠ 11) :
    Calls Tryd.prog 9 #[rfs (pfa b), .int .i64 k] w fun e w' => e = .returned (.bool true) ∧ Below w.heap.size w w' := by
  have HA := hidIn (asf_new b (.cells #[.pointer none] 59) (.pointer none) w hg (by rw [World.cell?_alloc_at _ _ _ _ (by simp)]; rfl) (by rw [frozen?_alloc_cells]; simp [World.frozen?]))
  have HX := hidIn hb
  have HK := hidIn hk
  clear hg hb hk
  go_enter Tryd.func9, Tryd.ntmps9
  go_wp2_with fail
  refine HA.out.mono ?_
  rintro e w1 ⟨rfl, hb1, hx⟩
  have hX1 := (hb1.block _ (block_lt HX.out)).trans HX.out
  have x0 := cell_of_row _ _ 0 _ _ _ hX1
  have x1 := cell_of_row _ _ 1 _ _ _ hX1
  simp at x0 x1
  have HX1 := hidIn hX1
  have HB1 := hidIn hb1
  clear hX1 hb1 HA HX
  go_wp2_with fail
  refine (isF_any HX1.out k).mono ?_
  rintro e w2 ⟨rfl, hb2⟩
  have HX2 := hidIn ((hb2.block _ (block_lt HX1.out)).trans HX1.out)
  have HB2 := hidIn (HB1.out.trans (hb2.mono HB1.out.size))
  clear hb2 HX1 HB1 x0 x1 hx
  have hkk : (k == k) = true := by simp
  rw [hkk]
  go_wp2_with fail
  refine (isF_any HX2.out 11).mono ?_
  rintro e w3 ⟨rfl, hb3⟩
  have HB3 := hidIn (HB2.out.trans (hb3.mono HB2.out.size))
  have hk11 : (k == 11) = false := by simpa using HK.out
  rw [hk11]
  clear hb3 HB2 HX2 hkk hk11
  go_wp2_with fail
  go_ret
  exact ⟨rfl, HB3.out⟩
end Go.Proofs.YtgpinecfmhenkaaDoor
namespace Go.Proofs.YtgpinecfmhenkaaDoor
open Go.RowKit Go.Extern.Stop Go.Stop Go.Extern

/-- errors.As finds a conflict, for a variable laid last. -/
theorem asc_new (c : Nat) (o : Obj) (old : Value) (w : World) (hg : ErrT w) (ht0 : (w.alloc o).cell? ⟨w.heap.size, 0, none⟩ = some old) (hf0 : (w.alloc o).frozen? ⟨w.heap.size, 0, none⟩ = false) :
    Calls Tryd.prog 18 #[rfs (pcf c), .iface 53 (.pointer (some ⟨w.heap.size, 0, none⟩))] (w.alloc o) fun ev w' => ev = .returned (.bool true) ∧ Below w.heap.size w w' ∧ w'.cell? ⟨w.heap.size, 0, none⟩ = some (.pointer (some ⟨c, 0, none⟩)) := by
  have hB : Below w.heap.size w (w.alloc o) := (Below.refl _ w).alloc (Nat.le_refl _) _
  have hl : ((⟨w.heap.size, 0, none⟩ : Addr).block) < (w.alloc o).heap.size := by simp
  refine (asc_hit c ⟨w.heap.size, 0, none⟩ old (w.alloc o) (hg.keep hB hg.pos) ht0 hf0).mono ?_
  rintro ev w' ⟨rfl, rfl⟩
  refine ⟨rfl, ?_, ?_⟩
  · refine Below.setCell (p := ⟨w.heap.size, 0, none⟩) ?_ (Nat.le_refl w.heap.size) _
    refine Below.alloc (Below.alloc (Below.alloc (Below.alloc (Below.alloc hB ?_ _) ?_ _) ?_ _) ?_ _) ?_ _ <;> (simp; try omega)
  · refine World.cell?_setCell_same _ _ _ (u := old) ?_
    rw [World.cell?_alloc_lt _ _ ⟨w.heap.size, 0, none⟩ (by simp; omega), World.cell?_alloc_lt _ _ ⟨w.heap.size, 0, none⟩ (by simp; omega), World.cell?_alloc_lt _ _ ⟨w.heap.size, 0, none⟩ (by simp; omega), World.cell?_alloc_lt _ _ ⟨w.heap.size, 0, none⟩ (by simp; omega), World.cell?_alloc_lt _ _ ⟨w.heap.size, 0, none⟩ hl]
    exact ht0
/-- Where a conflict, a claim and the variable lie. -/
structure CfAt (w : World) (c q X : Nat) (id : Int) (u v : Value) : Prop where
  cf : w.heap[c]? = some (.cells #[.int .i64 id, u] 54)
  cl : w.heap[q]? = some (.cells #[.int .i64 id, v] 31)
  x : w.cell? ⟨X, 0, none⟩ = some (.pointer (some ⟨c, 0, none⟩))
  l : X < w.heap.size
theorem CfAt.keep {w w' : World} {c q X : Nat} {id : Int} {u v : Value} (h : CfAt w c q X id u v) (hb : Below w.heap.size w w') : CfAt w' c q X id u v :=
  ⟨(hb.block _ (block_lt h.cf)).trans h.cf, (hb.block _ (block_lt h.cl)).trans h.cl, (hb.cell (p := ⟨X, 0, none⟩) h.l).trans h.x, Nat.lt_of_lt_of_le h.l hb.size⟩
theorem CfAt.set {w : World} {c q X g j : Nat} {id : Int} {u v : Value} (h : CfAt w c q X id u v) (y : Value) (h1 : c ≠ g) (h2 : q ≠ g) (h3 : X ≠ g) : CfAt (w.setCell ⟨g, j, none⟩ y) c q X id u v :=
  ⟨(Below.heap_setCell _ _ _ _ h1).trans h.cf, (Below.heap_setCell _ _ _ _ h2).trans h.cl, (World.cell?_setCell_far _ _ _ _ (fun e => h3 e.symm)).trans h.x, by simpa [World.setCell] using h.l⟩
theorem CfAt.cells {w : World} {c q X : Nat} {id : Int} {u v : Value} (h : CfAt w c q X id u v) : w.cell? ⟨c, 0, none⟩ = some (.int .i64 id) ∧ w.cell? ⟨c, 1, none⟩ = some u ∧ w.cell? ⟨q, 0, none⟩ = some (.int .i64 id) ∧ w.cell? ⟨q, 1, none⟩ = some v := by
  have a0 := cell_of_row _ _ 0 _ _ _ h.cf
  have a1 := cell_of_row _ _ 1 _ _ _ h.cf
  have b0 := cell_of_row _ _ 0 _ _ _ h.cl
  have b1 := cell_of_row _ _ 1 _ _ _ h.cl
  simp at a0 a1 b0 b1
  exact ⟨a0, a1, b0, b1⟩
end Go.Proofs.YtgpinecfmhenkaaDoor
namespace Go.Proofs.YtgpinecfmhenkaaDoor
open Go.RowKit Go.Extern.Stop Go.Stop Go.Extern

theorem row_writeC {w : World} {base n cap sz : Nat} {a : Option Addr} {e : TypeId} {xs : List Value} (hr : w.ownsRow base e sz (.slice a n cap) n xs) (h0 : 0 < n) : ∃ g, a = some ⟨g, 0, none⟩ ∧ base ≤ g ∧ g < w.heap.size ∧ (∀ j, j < n * sz → ∃ v, w.cell? ⟨g, j, none⟩ = some v) ∧ (∀ j, w.frozen? ⟨g, j, none⟩ = false) := by
  rcases hr.2 with ⟨_, h⟩ | ⟨g, cap', cur, h, hb, hh, h1, _, h3, _⟩
  · omega
  · simp at h
    obtain ⟨rfl, rfl⟩ := h
    refine ⟨g, rfl, hb, block_lt hh, fun j hj => ?_, fun j => frozen_new hh j⟩
    have : n * sz ≤ cap * sz := Nat.mul_le_mul_right _ h1
    rw [cell_of_row w g j cur e _ hh]
    exact ⟨cur[j]'(by omega), Array.getElem?_eq_getElem _⟩
set_option maxRecDepth 100000 in
set_option maxHeartbeats 4000000 in
theorem conf_ok {B c : Nat} {id : Int} {u v : Value} {xs : List Int} {w : World} (S : Nat → Prop) (hS : ∀ j, u.ownBlock = some j → S j) (hg : ErrT w) (hc : w.heap[c]? = some (.cells #[.int .i64 id, u] 54)) (hr : w.ownsRow B 3 1 u xs.length (fl ic xs)) (hv : SlAt ic 1 w v xs) (hxl : xs.length ≤ 10000) :
    Calls Tryd.prog 8 #[rfs (pcf c), .agg #[.int .i64 id, v]] w fun e w' => e = .returned (.bool true) ∧ Fr S w w' := by
  obtain ⟨W, hW⟩ : ∃ W, w.alloc (.cells #[.int .i64 id, v] 31) = W := ⟨_, rfl⟩
  have hB0 : Below w.heap.size w W := by rw [← hW]; exact (Below.refl _ w).alloc (Nat.le_refl _) _
  have hq : W.heap[w.heap.size]? = some (.cells #[.int .i64 id, v] 31) := by rw [← hW]; exact heap_alloc_last w _
  have HA := asc_new c (.cells #[.pointer none] 50) (.pointer none) W (hg.keep hB0 hg.pos) (by rw [World.cell?_alloc_at _ _ _ _ (by simp)]; rfl) (by rw [frozen?_alloc_cells]; simp [World.frozen?])
  have HF : Hid (∀ w1, Below W.heap.size W w1 → w1.cell? ⟨W.heap.size, 0, none⟩ = some (.pointer (some ⟨c, 0, none⟩)) → CfAt w1 c w.heap.size W.heap.size id u v ∧ w1.ownsRow B 3 1 u xs.length (fl ic xs) ∧ SlAt ic 1 w1 v xs ∧ Fr S w w1) := hidIn fun w1 hb hx => by
    have h0 : Below w.heap.size w w1 := hB0.trans (hb.mono hB0.size)
    refine ⟨⟨(h0.block _ (block_lt hc)).trans hc, (hb.block _ (block_lt hq)).trans hq, hx, ?_⟩, row_below hr h0 (Nat.le_refl _), hv.keep h0 (Nat.le_refl _), Fr.of_below h0⟩
    rcases Nat.lt_or_ge W.heap.size w1.heap.size with h | h
    · exact h
    · simp [World.cell?, Array.getElem?_eq_none h] at hx
  have HN : Hid (∀ g, u.ownBlock = some g → c ≠ g ∧ w.heap.size ≠ g ∧ W.heap.size ≠ g) := hidIn fun g hgu => by
    rcases hr.2 with ⟨e, _⟩ | ⟨g', cap, cur, e, _, hh, _⟩
    · rw [e] at hgu; simp [Value.ownBlock] at hgu
    · rw [e] at hgu
      simp [Value.ownBlock] at hgu
      subst hgu
      have := block_lt hh
      have := hB0.size
      refine ⟨fun e => ?_, by omega, by omega⟩
      rw [← e, hc] at hh
      simp at hh
  have hWs : W.heap.size = w.heap.size + 1 := by rw [← hW]; simp
  rw [hWs] at HA HF HN
  obtain ⟨va, vc, rfl, _⟩ := hv.ints
  have HA := hidIn HA
  have HSs := hidIn hS
  have hii : (id == id) = true := by simp
  have HW := hidIn hW
  clear hv hr hc hg hS hB0 hq hW hWs
  go_enter Tryd.func8, Tryd.ntmps8
  go_wp2_with fail
  rw [HW.out]
  refine HA.out.mono ?_
  rintro e w1 ⟨rfl, hb1, hx⟩
  obtain ⟨hf, hr1, hs1, hB1⟩ := HF.out w1 hb1 hx
  have HF1 := hidIn hf
  have HS1 := hidIn (And.intro hr1 (And.intro hs1 hB1))
  clear hb1 hf hr1 hs1 hB1 HF HA HW
  go_wp2_with fail
  refine (isC_any c _ w1).mono ?_
  rintro e w2 ⟨rfl, hb⟩
  have HF2 := hidIn (HF1.out.keep hb)
  have HS2 := hidIn (And.intro (row_below HS1.out.1 hb (Nat.le_refl _)) (And.intro (HS1.out.2.1.keep hb (Nat.le_refl _)) (HS1.out.2.2.trans (Fr.of_below hb))))
  clear hb HF1 HS1
  go_wp2_with fail
  refine (isC_any c _ w2).mono ?_
  rintro e w3 ⟨rfl, hb⟩
  have HF3 := hidIn (HF2.out.keep hb)
  have HS3 := hidIn (And.intro (row_below HS2.out.1 hb (Nat.le_refl _)) (And.intro (HS2.out.2.1.keep hb (Nat.le_refl _)) (HS2.out.2.2.trans (Fr.of_below hb))))
  clear hb HF2 HS2
  go_wp2_with fail
  refine (isC_any c _ w3).mono ?_
  rintro e w4 ⟨rfl, hb⟩
  have HF4 := hidIn (HF3.out.keep hb)
  have HS4 := hidIn (And.intro (row_below HS3.out.1 hb (Nat.le_refl _)) (And.intro (HS3.out.2.1.keep hb (Nat.le_refl _)) (HS3.out.2.2.trans (Fr.of_below hb))))
  clear hb HF3 HS3
  obtain ⟨e0, e1, e2, e3⟩ := HF4.out.cells
  have ex := HF4.out.x
  obtain ⟨ua, uc, rfl, _⟩ := (slAt_of_row (cs := ic) (fun _ => rfl) HS4.out.1 rfl).ints
  have HSI : Hid (∀ dd os, Calls Tryd.prog 21 #[.slice ua xs.length uc, .slice va xs.length vc] (Go.Sort.grow (redrawn w4 dd) os) fun e w' => e = .returned (.bool true) ∧ Below (Go.Sort.grow (redrawn w4 dd) os).heap.size (Go.Sort.grow (redrawn w4 dd) os) w') := hidIn fun dd os => by
    have hbb := below_regrown w4 dd os
    have := sameInts ((slAt_of_row (cs := ic) (fun _ => rfl) HS4.out.1 rfl).keep hbb (Nat.le_refl _)) (HS4.out.2.1.keep hbb (Nat.le_refl _))
    rwa [decide_eq_true rfl] at this
  have g0 := cell_regrown e0
  have g1 := cell_regrown e1
  have g2 := cell_regrown e2
  have g3 := cell_regrown e3
  have gx := cell_regrown ex
  have hin : (id != id) = false := by simp
  clear e0 e1 e2 e3 ex
  go_upto_region 4 with fail
  refine wp_region_quiet_below (by kernel_rfl) (by kernel_rfl) ?_
  repeat (go_big_quiet_step (first | (go_at_call 21; exact Calls.regrown_of (HSI.out _ _))))
  refine wpQuiet_nil ?_
  intro _ hw'
  obtain ⟨⟨dq, osq⟩, hw''⟩ := hw'
  subst hw''
  have hb := below_regrown w4 dq osq
  have HF5 := hidIn (HF4.out.keep hb)
  have HS5 := hidIn (And.intro (row_below HS4.out.1 hb (Nat.le_refl _)) (HS4.out.2.2.trans (Fr.of_below hb)))
  generalize Go.Sort.grow (redrawn w4 dq) osq = w5 at HF5 HS5 ⊢
  clear hb HF4 HS4 HSI g0 g1 g2 g3 gx
  obtain ⟨ln, hln⟩ : ∃ ln, xs.length = ln := ⟨_, rfl⟩
  rw [hln] at HF5 HS5 HN HSs hxl ⊢
  clear hln
  go_wp2_with fail
  go_loopw [6] (fun i wz => ∃ k : Nat, k ≤ ln ∧ i = .int .i64 k ∧ Hid (CfAt wz c w.heap.size (w.heap.size + 1) id (.slice ua ln uc) (.slice va ln vc) ∧ (∃ ys, wz.ownsRow B 3 1 (.slice ua ln uc) ln ys) ∧ Fr S w wz)) (fun i _ => ln - (intOf i).toNat)
  case atStart => exact ⟨0, Nat.zero_le _, rfl, hidIn ⟨HF5.out, ⟨_, HS5.out.1⟩, HS5.out.2⟩⟩
  case round =>
    clear HF5 HS5
    obtain ⟨k, hk, rfl, HZ⟩ := hrel
    obtain ⟨e0, e1, _, _⟩ := HZ.out.1.cells
    have ex := HZ.out.1.x
    by_cases hlt : k < ln
    · obtain ⟨hcf, ⟨ys, hrz⟩, hbz⟩ := HZ.out
      obtain ⟨g, rfl, _, hgl, hcl, hfr⟩ := row_writeC hrz (by omega)
      obtain ⟨v0, c0⟩ := hcl k (by omega)
      have f0 := hfr k
      have hki : (k : Int) < (ln : Int) := by omega
      obtain ⟨n1, n2, n3⟩ := HN.out g rfl
      have HZ2 : Hid (CfAt (wr.setCell ⟨g, k, none⟩ (.int .i64 (-5))) c w.heap.size (w.heap.size + 1) id (.slice (some ⟨g, 0, none⟩) ln uc) (.slice va ln vc) ∧ (∃ ys, (wr.setCell ⟨g, k, none⟩ (.int .i64 (-5))).ownsRow B 3 1 (.slice (some ⟨g, 0, none⟩) ln uc) ln ys) ∧ Fr S w (wr.setCell ⟨g, k, none⟩ (.int .i64 (-5)))) := hidIn ⟨hcf.set _ n1 n2 n3, ⟨_, row_set hrz k _⟩, hbz.set (p := ⟨g, k, none⟩) (HSs.out g rfl) _⟩
      clear hcf hrz hbz hgl hcl hfr n1 n2 n3 HZ
      go_wp2_with fail
      go_roundw
      case rel => exact ⟨k + 1, by omega, by go_num, HZ2⟩
      case measure => simp [intOf]; omega
    · have hki : ¬ (k : Int) < (ln : Int) := by omega
      go_wp2_with fail
      go_ret
      exact ⟨rfl, HZ.out.2.2⟩
end Go.Proofs.YtgpinecfmhenkaaDoor
namespace Go.Proofs.YtgpinecfmhenkaaDoor
open Go.RowKit

set_option maxRecDepth 100000 in
set_option maxHeartbeats 4000000 in
theorem cworks_any (w : World) : Calls Tryd.prog 13 #[] w fun e w' => e = .returned (.bool true) ∧ Below w.heap.size w w' := by
  go_enter Tryd.func13, Tryd.ntmps13
  go_wp2_with fail
  refine (small_any 1 5 _).mono ?_
  rintro e w1 ⟨rfl, h1⟩
  go_wp2_with fail
  refine (small_any 2 7 _).mono ?_
  rintro e w2 ⟨rfl, hb2⟩
  have h2 := h1.trans (hb2.mono h1.size)
  clear hb2 h1
  go_wp2_with fail
  refine (small_any 3 5 _).mono ?_
  rintro e w3 ⟨rfl, hb3⟩
  have h3 := h2.trans (hb3.mono h2.size)
  clear hb3 h2
  go_wp2_with fail
  refine (small_any 4 0 _).mono ?_
  rintro e w4 ⟨rfl, hb4⟩
  have h4 := h3.trans (hb4.mono h3.size)
  clear hb4 h3
  obtain ⟨W5, hW5⟩ : ∃ W5, w4.alloc (.cells (fl rcc [(smR 1 5, nilS), (smR 2 7, nilS), (smR 3 5, nilS), (smR 4 0, nilS)]).toArray 49) = W5 := ⟨_, rfl⟩
  have hX : W5.heap[w4.heap.size]? = some (.cells (fl rcc [(smR 1 5, nilS), (smR 2 7, nilS), (smR 3 5, nilS), (smR 4 0, nilS)]).toArray 49) := by rw [← hW5]; exact heap_alloc_last w4 _
  have h5 : Below w.heap.size w W5 := by rw [← hW5]; exact h4.alloc h4.size _
  have HAl := hidIn (all_any (recs_blk hX (by decide) (fun x hx => by
    simp only [List.mem_cons, List.not_mem_nil, or_false] at hx
    rcases hx with rfl | rfl | rfl | rfl <;> exact nilAdj W5)) (by decide))
  have HB5 := hidIn h5
  have HW : Hid (w4.alloc (.cells #[.int .i64 1, .int .u32 1, .int .u32 1, .int .i64 5, .bool false, .slice none 0 0, .int .i64 2, .int .u32 1, .int .u32 1, .int .i64 7, .bool false, .slice none 0 0, .int .i64 3, .int .u32 1, .int .u32 1, .int .i64 5, .bool false, .slice none 0 0, .int .i64 4, .int .u32 1, .int .u32 1, .int .i64 0, .bool false, .slice none 0 0] 49) = W5) := hidIn hW5
  clear hX h5 h4 hW5
  go_wp2_with fail
  rw [HW.out]
  refine HAl.out.mono ?_
  rintro e w6 ⟨ha, hb6⟩
  rcases ha with ⟨_, u, rfl, L, hr, hL, hrs⟩ | ⟨ha, _⟩
  rotate_left
  · rw [show rcs [(smR 1 5, nilS), (smR 2 7, nilS), (smR 3 5, nilS), (smR 4 0, nilS)] = wkR from rfl, wk_ok] at ha
    cases ha
  rw [show rcs [(smR 1 5, nilS), (smR 2 7, nilS), (smR 3 5, nilS), (smR 4 0, nilS)] = wkR from rfl, wk_allC] at hL
  have hB6 := HB5.out.trans (hb6.mono HB5.out.size)
  obtain ⟨⟨i1, r1, v1⟩, ⟨i2, r2, v2⟩, rfl⟩ : ∃ x y, L = [x, y] := by
    have : L.length = 2 := by have := congrArg List.length hL; rw [List.length_map] at this; exact this
    match L, this with
    | [x, y], _ => exact ⟨x, y, rfl⟩
  simp only [cls, List.map_cons, List.map_nil, List.cons.injEq, Prod.mk.injEq, and_true] at hL
  obtain ⟨⟨rfl, rfl⟩, rfl, rfl⟩ := hL
  have hT : TAt w6 u [(5, [1, 3]), (7, [2])] := by
    obtain ⟨L', g1, g2⟩ := ClsAns.at (w := W5) (T := [(5, [1, 3]), (7, [2])]) ⟨_, hr, rfl, hrs⟩
    exact ⟨L', g1, g2⟩
  obtain ⟨a1, c1, hv1⟩ := row_shape (hrs _ List.mem_cons_self)
  simp only at hv1
  subst hv1
  obtain ⟨ua, uc, rfl, _, _, hc⟩ := (slAt_of_row (cs := clc) (fun _ => rfl) hr rfl).clms
  obtain ⟨bk, o, rfl, hbk, hcell⟩ := hc (by simp)
  obtain ⟨q0, q1⟩ := hcell 0 _ rfl
  obtain ⟨q2, q3⟩ := hcell 1 _ rfl
  simp only [Nat.zero_mul, Nat.add_zero, Nat.one_mul] at q0 q1 q2 q3
  have HO7 := hidIn (owner_T 7 hT (by decide))
  have HT := hidIn hT
  have HB6 := hidIn hB6
  simp only [List.length_cons, List.length_nil, Nat.zero_add, Nat.reduceAdd] at q0 q1 q2 q3 HO7 HT ⊢
  clear HW HAl HB5 hb6 hr hrs hB6 hc hcell hT
  go_wp2_with fail
  refine HO7.out.mono ?_
  rintro e w7 ⟨h7, hb7⟩
  have HO5 := hidIn (owner_T 5 (HT.out.keep hb7) (by decide))
  have HB7 := hidIn (HB6.out.trans (hb7.mono HB6.out.size))
  rcases h7 with ⟨h7, _⟩ | ⟨_, h7, _⟩ | ⟨_, p, hp, h7⟩
  · exact absurd h7 (by decide)
  · exact absurd h7 (by decide)
  obtain rfl : p = (7, [2]) := by
    have : tOf [(5, [1, 3]), (7, [2])] 7 = some (7, [2]) := by decide
    rw [this] at hp
    exact (Option.some.inj hp).symm
  rcases h7 with ⟨h7, _⟩ | ⟨x, hx, rfl⟩ | ⟨h7, _⟩
  · cases h7
  rotate_left
  · exact absurd h7 (by decide)
  obtain rfl : (2 : Int) = x := by simpa using hx
  clear hx hp hb7 HB6 HO7 q0 q1 q2 q3
  go_wp2_with fail
  refine HO5.out.mono ?_
  rintro e w8 ⟨h8, hb8⟩
  have HB8 := hidIn (HB7.out.trans (hb8.mono HB7.out.size))
  rcases h8 with ⟨h8, _⟩ | ⟨_, h8, _⟩ | ⟨_, p, hp, h8⟩
  · exact absurd h8 (by decide)
  · exact absurd h8 (by decide)
  obtain rfl : p = (5, [1, 3]) := by
    have : tOf [(5, [1, 3]), (7, [2])] 5 = some (5, [1, 3]) := by decide
    rw [this] at hp
    exact (Option.some.inj hp).symm
  rcases h8 with ⟨h8, _⟩ | ⟨x, hx, _⟩ | ⟨_, c, u, rfl, _⟩
  · cases h8
  · simp at hx
  clear hp hb8 HB7 HO5
  go_wp2_with fail
  refine (isC_any c 11 w8).mono ?_
  rintro e w9 ⟨rfl, hb9⟩
  have HB9 := hidIn (HB8.out.trans (hb9.mono HB8.out.size))
  clear hb9
  go_wp2_with fail
  go_ret
  exact ⟨rfl, HB9.out⟩
end Go.Proofs.YtgpinecfmhenkaaDoor
namespace Go.Proofs.YtgpinecfmhenkaaDoor
open Go.ChangeShapes Go.WideShapes Go.ChangeAt Go.RowKit

abbrev uc8 (x : Int) : List Value := [.int .u8 x]
section
variable {H : Type} {enc : TypeId × Value → H} {W : World}
theorem ccU8 : Tryd.prog.cellsOf 5 = 1 := by kernel_rfl
theorem bcU8 : Tryd.prog.bytesOf 5 = 1 := by kernel_rfl
theorem ccClaim : Tryd.prog.cellsOf 31 = 2 := by kernel_rfl
theorem ccInts : Tryd.prog.cellsOf 29 = 1 := by kernel_rfl
theorem bcClaim : Tryd.prog.bytesOf 31 = 32 := by kernel_rfl
theorem u8_cells {n : Nat} {cs' : List Value} {x : DataW H × List MemPlace} (h : DataW.trod enc Tryd.prog W 0 (fun _ => true) true n 5 cs' = some x) : ∃ y : Int, cs' = uc8 y ∧ 0 ≤ y ∧ y ≤ 255 := by
  obtain ⟨o, ho, _, w0⟩ := DataW.trod_int Tryd.underlying5 h
  exact ⟨o, ho, bounds_u8 w0⟩
set_option maxRecDepth 100000 in
theorem u8s_arg {a : Option Addr} {len cap : Nat} {d : DataW H} {p : List MemPlace} (h : DataW.Trod enc Tryd.prog W 0 (fun _ => true) true 41 (.slice a len cap) d p) (hw : ∀ n ∈ d.weights Tryd.prog 41, n ≤ reachBytes) :
    ∃ ls, SlAt uc8 1 W (.slice a len cap) ls ∧ (∀ y ∈ ls, 0 ≤ y ∧ y ≤ 255) ∧ NilOk (.slice a len cap) ∧ (ls.length + 1) * 1 ≤ 140737488355328 := by
  obtain ⟨fuel, hf⟩ := h
  obtain ⟨ns, hn1, hn2, hG, hn3⟩ := open_sl 0 (cs := uc8) (sz := 1) (fun _ => rfl) (by omega) Tryd.underlying41 ccU8 (fun n cs' x h => u8_cells h) (by simpa [Value.cells] using hf)
  exact ⟨ns, hn1, hG, hn2, slice_weight Tryd.underlying41 bcU8 (by omega) hw (by rcases hn3 with rfl | h; exact .inl rfl; exact .inr h)⟩
theorem clmF : Tryd.prog.underlying 31 = some (.struct #[(Tryd.prog.fieldsOf 31)[0]!, (Tryd.prog.fieldsOf 31)[1]!]) := by kernel_rfl
theorem clmF' : (((Tryd.prog.fieldsOf 31)[0]!).type = 3 ∧ ((Tryd.prog.fieldsOf 31)[0]!).offset = 0) ∧ ((Tryd.prog.fieldsOf 31)[1]!).type = 29 ∧ ((Tryd.prog.fieldsOf 31)[1]!).offset = 1 := ⟨⟨by kernel_rfl, by kernel_rfl⟩, by kernel_rfl, by kernel_rfl⟩
set_option maxRecDepth 100000 in
theorem clm_cells {n : Nat} {cs' : List Value} {x : DataW H × List MemPlace} (h : DataW.trod enc Tryd.prog W 0 (fun _ => true) true n 31 cs' = some x) : ∃ y : Int × List Int × Value, cs' = clc y ∧ ((Lit.int .i64 y.1).wf = true ∧ ∀ z ∈ y.2.1, (Lit.int .i64 z).wf = true) ∧ SlAt ic 1 W y.2.2 y.2.1 ∧ NilOk y.2.2 := by
  obtain ⟨y0, y1, k, _, hlen, h0, h1⟩ := trod_struct2 clmF h
  obtain ⟨⟨a0, b0⟩, a1, b1⟩ := clmF'
  rw [ccClaim] at hlen
  match cs', hlen with
  | [v0, v1], _ =>
    rw [a0, b0, cInt] at h0
    rw [a1, b1, ccInts] at h1
    obtain ⟨p, hp, _, wp⟩ := DataW.trod_int Tryd.underlying3 h0
    simp at hp
    simp at h1
    obtain ⟨l, hl, hn, hg, _⟩ := open_sl 0 (cs := ic) (sz := 1) (G := fun y => (Lit.int .i64 y).wf = true) (fun _ => rfl) (by omega) Tryd.underlying29 cInt (fun n cs' x h => by
      obtain ⟨q, hq, _, wq⟩ := DataW.trod_int Tryd.underlying3 h
      exact ⟨q, hq, wq⟩) h1
    exact ⟨(p, l, v1), by rw [hp], ⟨wp, hg⟩, hl, hn⟩
set_option maxRecDepth 100000 in
theorem clms_arg {a : Option Addr} {len cap : Nat} {d : DataW H} {p : List MemPlace} (h : DataW.Trod enc Tryd.prog W 0 (fun _ => true) true 22 (.slice a len cap) d p) (hw : ∀ n ∈ d.weights Tryd.prog 22, n ≤ reachBytes) :
    ∃ ls, ClsAt W (.slice a len cap) ls ∧ (∀ y ∈ ls, (Lit.int .i64 y.1).wf = true ∧ ∀ z ∈ y.2.1, (Lit.int .i64 z).wf = true) ∧ NilOk (.slice a len cap) ∧ (ls.length + 1) * 32 ≤ 140737488355328 := by
  obtain ⟨fuel, hf⟩ := h
  obtain ⟨ns, hn1, hn2, hG, hn3⟩ := open_sl (0, [], nilS) (cs := clc) (sz := 2) (fun _ => rfl) (by omega) Tryd.underlying22 ccClaim (fun n cs' x h => clm_cells h) (by simpa [Value.cells] using hf)
  exact ⟨ns, ⟨hn1, fun x hx => (hG x hx).2⟩, fun y hy => (hG y hy).1, hn2, slice_weight Tryd.underlying22 bcClaim (by omega) hw (by rcases hn3 with rfl | h; exact .inl rfl; exact .inr h)⟩
end
end Go.Proofs.YtgpinecfmhenkaaDoor
namespace Go.Proofs.YtgpinecfmhenkaaDoor
open Go.RowKit

def rcO (ids : List Int) (n : Nat) (turned : Bool) (i : Nat) : Rc := smR (((if turned then n - 1 - i else i : Nat) : Int) + 1) (ids.getD (if turned then n - 1 - i else i) 0 % 12)
/-- Records of claims of the routers 1, 2, .., in some order. -/
def recsL (ids : List Int) (turned : Bool) : List Rc := (List.range (min ids.length 24)).map (rcO ids (min ids.length 24) turned)
abbrev withN (l : List Rc) : List (Rc × Value) := l.map fun r => (r, nilS)
theorem rcs_withN (l : List Rc) : rcs (withN l) = l := by unfold rcs withN; rw [List.map_map]; exact List.map_id l
theorem recs_row {w : World} {base k : Nat} {u : Value} {l : List Rc} (h : w.ownsRow base 49 6 u k (fl rcc (withN l))) (hk : l.length = k) (ha : ∀ r ∈ l, r.adjs = []) : RecsAt w u (withN l) :=
  ⟨slAt_of_row (cs := rcc) (fun _ => rfl) h (by rw [List.length_map, hk]), fun x hx => by
    obtain ⟨r, hr, rfl⟩ := List.mem_map.1 hx
    show SlAt ac 2 w nilS r.adjs
    rw [ha r hr]
    exact nilAdj w⟩
theorem recsL_adj {ids : List Int} {t : Bool} {r : Rc} (h : r ∈ recsL ids t) : r.adjs = [] := by
  obtain ⟨i, _, rfl⟩ := List.mem_map.1 h
  rfl
theorem SlAt.bytes {w : World} {v : Value} {zs : List Int} (h : SlAt uc8 1 w v zs) : ∃ a cap, v = .slice a zs.length cap ∧ zs.length ≤ 9223372036854775807 ∧ zs.length ≤ cap ∧ (0 < zs.length → ∃ bk o, a = some ⟨bk, o, none⟩ ∧ bk < w.heap.size ∧ ∀ j z, zs[j]? = some z → w.cell? ⟨bk, o + j, none⟩ = some (.int .u8 z)) := by
  obtain ⟨a, cap, rfl, h0, hc, h1⟩ := h
  refine ⟨a, cap, rfl, h0, hc, fun hp => ?_⟩
  obtain ⟨bk, o, rfl, h2, h3⟩ := h1 hp
  exact ⟨bk, o, rfl, h2, fun j z hz => by have := h3 j z hz 0 _ rfl; rw [Nat.mul_one, Nat.add_zero] at this; exact this⟩
set_option maxRecDepth 100000 in
set_option maxHeartbeats 2000000 in
theorem records_any {ids : List Int} {v : Value} {w : World} (h : SlAt uc8 1 w v ids) (hb : ∀ y ∈ ids, 0 ≤ y ∧ y ≤ 255) (turned : Bool) :
    Calls Tryd.prog 14 #[v, .bool turned] w fun e w' => (∃ a c, e = .returned (.slice a (recsL ids turned).length c) ∧ w'.ownsRow w.heap.size 49 6 (.slice a (recsL ids turned).length c) (recsL ids turned).length (fl rcc (withN (recsL ids turned)))) ∧ Below w.heap.size w w' := by
  obtain ⟨a, cap, rfl, hl, _, hat⟩ := h.bytes
  have Ha := hidIn hat
  have HBy := hidIn hb
  obtain ⟨ln, hln⟩ : ∃ ln, ids.length = ln := ⟨_, rfl⟩
  obtain ⟨n, hn⟩ : ∃ n, min ln 24 = n := ⟨_, rfl⟩
  have hmin : min (ln : Int) 24 = (n : Int) := by omega
  have Hn := hidIn hn
  have Hln := hidIn hln
  have hn24 : n ≤ 24 := by omega
  have hnl : n ≤ ln := by omega
  rw [hln] at hl ⊢
  clear hat h hb hn hln
  cases turned
  · have hlen : (recsL ids false).length = n := by unfold recsL; rw [List.length_map, List.length_range, Hln.out, Hn.out]
    rw [hlen]
    have Hlen := hidIn hlen
    clear hlen
    go_enter Tryd.func14, Tryd.ntmps14
    go_upto_region 3 with fail
    clear hmin
    go_wp2_with fail
    go_loopw [5, 7] (fun u i wr => ∃ k : Nat, k ≤ n ∧ i = .int .i64 k ∧ (∃ a c, u = .slice a k c) ∧ Hid (Below w.heap.size w wr ∧ wr.ownsRow w.heap.size 49 6 u k (fl rcc (withN ((recsL ids false).take k))))) (fun _ i _ => n - (intOf i).toNat)
    case atStart => exact ⟨0, Nat.zero_le _, rfl, ⟨none, 0, rfl⟩, hidIn ⟨Below.refl _ _, World.ownsRow_nil _ _ _ _⟩⟩
    case round =>
      obtain ⟨k, hk, rfl, ⟨ua, uc, rfl⟩, HR⟩ := hrel
      obtain ⟨hb, hr⟩ := HR.out
      clear HR
      by_cases hlt : k < n
      · obtain ⟨bk, o, rfl, hbk, hcell⟩ := Ha.out (by have := Hln.out; omega)
        obtain ⟨m, hm⟩ : ∃ m, k = m := ⟨_, rfl⟩
        have hml : m < ln := by omega
        obtain ⟨z, hz⟩ : ∃ z, ids[m]? = some z := ⟨ids[m]'(by have := Hln.out; omega), List.getElem?_eq_getElem _⟩
        obtain ⟨hz0, hz1⟩ := HBy.out z (List.mem_of_getElem? hz)
        have c0 := (hb.cell (p := ⟨bk, o + m, none⟩) hbk).trans (hcell m z hz)
        have hmi : (k : Int) = (m : Int) := by omega
        obtain ⟨y, hy⟩ : ∃ y, z % 12 = y := ⟨_, rfl⟩
        have ht : z.tmod 12 = y := by rw [Int.tmod_eq_emod_of_nonneg hz0]; exact hy
        have hy0 : 0 ≤ y := by omega
        have hy1 : y < 12 := by omega
        have HX : Hid ((recsL ids false).take (k + 1) = (recsL ids false).take k ++ [smR ((m : Int) + 1) y]) := hidIn (by
          rw [take_snoc (x := smR ((m : Int) + 1) y)]
          unfold recsL
          rw [List.getElem?_map, Hln.out, Hn.out, List.getElem?_range hlt]
          simp only [Option.map_some, rcO, Bool.false_eq_true, if_false, hm]
          rw [List.getD_eq_getElem?_getD, hz]
          simp only [Option.getD_some, hy])
        have hmb : m < 24 := by omega
        have hki : (k : Int) < (n : Int) := by omega
        have HB := hidIn hb
        have HR := hidIn hr
        clear hcell hz hb hr hm hy
        go_wp2_with fail
        refine (small_any ((m : Int) + 1) y _).mono ?_
        rintro e w2 ⟨rfl, hb2⟩
        have hr2 := row_below HR.out hb2 (Nat.le_refl _)
        have hB2 := HB.out.trans (hb2.mono HB.out.size)
        obtain ⟨g, gc, w6, hrun, hown, hb6⟩ := append_rec hr2 (smR ((m : Int) + 1) y, nilS) rfl (by omega) hB2.size
        have HRun := hidIn hrun
        have HO : Hid (Below w.heap.size w w6 ∧ w6.ownsRow w.heap.size 49 6 (.slice (some ⟨g, 0, none⟩) (k + 1) gc) (k + 1) (fl rcc (withN ((recsL ids false).take (k + 1))))) := hidIn ⟨hB2.trans hb6, by rw [HX.out, withN, List.map_append]; exact hown⟩
        clear hr2 hB2 hrun hown hb6 hb2 HB HR c0
        go_wp2_with (refine l_append rfl _ _ 42 rfl HRun.out ?_)
        go_roundw
        case rel => exact ⟨k + 1, by omega, by go_num, ⟨_, _, rfl⟩, HO⟩
        case measure => simp [intOf]; omega
      · have hke : k = n := by omega
        have hki : ¬ ((k : Int) < (n : Int)) := by omega
        have HE : Hid (wr.ownsRow w.heap.size 49 6 (.slice ua k uc) k (fl rcc (withN (recsL ids false))) ∧ k = n ∧ Below w.heap.size w wr) := hidIn ⟨by rw [List.take_of_length_le (by rw [Hlen.out]; omega)] at hr; exact hr, hke, hb⟩
        clear hb hr hke
        go_wp2_with fail
        go_ret
        obtain ⟨h1, h2, h3⟩ := HE.out
        rw [h2] at h1
        exact ⟨⟨ua, uc, by rw [h2]; rfl, h1⟩, h3⟩
  · have hlen : (recsL ids true).length = n := by unfold recsL; rw [List.length_map, List.length_range, Hln.out, Hn.out]
    rw [hlen]
    have Hlen := hidIn hlen
    clear hlen
    go_enter Tryd.func14, Tryd.ntmps14
    go_upto_region 3 with fail
    clear hmin
    go_wp2_with fail
    go_loopw [5, 7] (fun u i wr => ∃ k : Nat, k ≤ n ∧ i = .int .i64 k ∧ (∃ a c, u = .slice a k c) ∧ Hid (Below w.heap.size w wr ∧ wr.ownsRow w.heap.size 49 6 u k (fl rcc (withN ((recsL ids true).take k))))) (fun _ i _ => n - (intOf i).toNat)
    case atStart => exact ⟨0, Nat.zero_le _, rfl, ⟨none, 0, rfl⟩, hidIn ⟨Below.refl _ _, World.ownsRow_nil _ _ _ _⟩⟩
    case round =>
      obtain ⟨k, hk, rfl, ⟨ua, uc, rfl⟩, HR⟩ := hrel
      obtain ⟨hb, hr⟩ := HR.out
      clear HR
      by_cases hlt : k < n
      · obtain ⟨bk, o, rfl, hbk, hcell⟩ := Ha.out (by have := Hln.out; omega)
        obtain ⟨m, hm⟩ : ∃ m, n - 1 - k = m := ⟨_, rfl⟩
        have hml : m < ln := by omega
        obtain ⟨z, hz⟩ : ∃ z, ids[m]? = some z := ⟨ids[m]'(by have := Hln.out; omega), List.getElem?_eq_getElem _⟩
        obtain ⟨hz0, hz1⟩ := HBy.out z (List.mem_of_getElem? hz)
        have c0 := (hb.cell (p := ⟨bk, o + m, none⟩) hbk).trans (hcell m z hz)
        have hmi : (n : Int) - 1 - (k : Int) = (m : Int) := by omega
        obtain ⟨y, hy⟩ : ∃ y, z % 12 = y := ⟨_, rfl⟩
        have ht : z.tmod 12 = y := by rw [Int.tmod_eq_emod_of_nonneg hz0]; exact hy
        have hy0 : 0 ≤ y := by omega
        have hy1 : y < 12 := by omega
        have HX : Hid ((recsL ids true).take (k + 1) = (recsL ids true).take k ++ [smR ((m : Int) + 1) y]) := hidIn (by
          rw [take_snoc (x := smR ((m : Int) + 1) y)]
          unfold recsL
          rw [List.getElem?_map, Hln.out, Hn.out, List.getElem?_range hlt]
          simp only [Option.map_some, rcO, if_true, hm]
          rw [List.getD_eq_getElem?_getD, hz]
          simp only [Option.getD_some, hy])
        have hmb : m < 24 := by omega
        have hki : (k : Int) < (n : Int) := by omega
        have HB := hidIn hb
        have HR := hidIn hr
        clear hcell hz hb hr hm hy
        go_wp2_with fail
        refine (small_any ((m : Int) + 1) y _).mono ?_
        rintro e w2 ⟨rfl, hb2⟩
        have hr2 := row_below HR.out hb2 (Nat.le_refl _)
        have hB2 := HB.out.trans (hb2.mono HB.out.size)
        obtain ⟨g, gc, w6, hrun, hown, hb6⟩ := append_rec hr2 (smR ((m : Int) + 1) y, nilS) rfl (by omega) hB2.size
        have HRun := hidIn hrun
        have HO : Hid (Below w.heap.size w w6 ∧ w6.ownsRow w.heap.size 49 6 (.slice (some ⟨g, 0, none⟩) (k + 1) gc) (k + 1) (fl rcc (withN ((recsL ids true).take (k + 1))))) := hidIn ⟨hB2.trans hb6, by rw [HX.out, withN, List.map_append]; exact hown⟩
        clear hr2 hB2 hrun hown hb6 hb2 HB HR c0
        go_wp2_with (refine l_append rfl _ _ 42 rfl HRun.out ?_)
        go_roundw
        case rel => exact ⟨k + 1, by omega, by go_num, ⟨_, _, rfl⟩, HO⟩
        case measure => simp [intOf]; omega
      · have hke : k = n := by omega
        have hki : ¬ ((k : Int) < (n : Int)) := by omega
        have HE : Hid (wr.ownsRow w.heap.size 49 6 (.slice ua k uc) k (fl rcc (withN (recsL ids true))) ∧ k = n ∧ Below w.heap.size w wr) := hidIn ⟨by rw [List.take_of_length_le (by rw [Hlen.out]; omega)] at hr; exact hr, hke, hb⟩
        clear hb hr hke
        go_wp2_with fail
        go_ret
        obtain ⟨h1, h2, h3⟩ := HE.out
        rw [h2] at h1
        exact ⟨⟨ua, uc, by rw [h2]; rfl, h1⟩, h3⟩
end Go.Proofs.YtgpinecfmhenkaaDoor
namespace Go.Proofs.YtgpinecfmhenkaaDoor

theorem allC_same {rs rs' : List Rc} (h : ∀ id x, x ∈ gat rs id ↔ x ∈ gat rs' id) : allC rs = allC rs' := by
  have hn : ∀ id, gat rs id ≠ [] ↔ gat rs' id ≠ [] := fun id => by
    constructor
    · intro hne e
      obtain ⟨x, hx⟩ := List.exists_mem_of_ne_nil _ hne
      have := (h id x).1 hx
      rw [e] at this
      cases this
    · intro hne e
      obtain ⟨x, hx⟩ := List.exists_mem_of_ne_nil _ hne
      have := (h id x).2 hx
      rw [e] at this
      cases this
  have hi : idsL rs = idsL rs' := crise_ext (idsL_rise _) (idsL_rise _) (fun x => by rw [mem_idsL, mem_idsL, hn])
  unfold allC
  rw [hi]
  exact List.map_congr_left fun id _ => by rw [rsL_same (h id)]
/-- The record of a router. -/
abbrev rcK (ids : List Int) (k : Nat) : Rc := smR ((k : Int) + 1) (ids.getD k 0 % 12)
theorem mem_recsL {ids : List Int} {t : Bool} {r : Rc} : r ∈ recsL ids t ↔ ∃ k, k < min ids.length 24 ∧ r = rcK ids k := by
  unfold recsL
  simp only [List.mem_map, List.mem_range]
  constructor
  · rintro ⟨i, hi, rfl⟩
    cases t
    · exact ⟨i, hi, rfl⟩
    · exact ⟨min ids.length 24 - 1 - i, by omega, rfl⟩
  · rintro ⟨k, hk, rfl⟩
    cases t
    · exact ⟨k, hk, rfl⟩
    · refine ⟨min ids.length 24 - 1 - k, by omega, ?_⟩
      unfold rcO
      simp only [if_true]
      rw [show min ids.length 24 - 1 - (min ids.length 24 - 1 - k) = k by omega]
theorem recsL_turn (ids : List Int) : allC (recsL ids true) = allC (recsL ids false) := allC_same fun id x => by
  rw [mem_gat, mem_gat]
  simp only [mem_recsL]
theorem recsL_len (ids : List Int) (t : Bool) : (recsL ids t).length = min ids.length 24 := by unfold recsL; simp
theorem rcK_ok {ids : List Int} {k : Nat} (hk : k < 24) : recOk (rcK ids k) = true := by
  have h0 : 0 ≤ ids.getD k 0 % 12 := Int.emod_nonneg _ (by omega)
  have h1 : ids.getD k 0 % 12 < 12 := Int.emod_lt_of_pos _ (by omega)
  simp only [recOk, isR_iff, Bool.and_eq_true, decide_eq_true_eq]
  refine ⟨⟨by omega, by omega⟩, by omega, by omega, by omega, by omega, by simp, by simp [adjsOk]⟩
theorem recsL_ok (ids : List Int) (t : Bool) : bothOk no1 (recsL ids t) = true := by
  refine both_unl.2 ⟨fun r hr => ?_, ?_⟩
  · obtain ⟨k, hk, rfl⟩ := mem_recsL.1 hr
    exact rcK_ok (by omega)
  · unfold recsL
    rw [List.pairwise_map]
    refine List.pairwise_lt_range.imp_of_mem fun {a b} ha hb' h => ?_
    rw [List.mem_range] at ha hb'
    unfold rcO
    cases t
    · simp only [Bool.false_eq_true, if_false]; omega
    · simp only [if_true]; omega
theorem recsM_ok {ids : List Int} (hl : ids.length ≤ 23) : bothOk no1 (recsL ids false ++ [smR 24 0]) = true := by
  have h := both_unl.1 (recsL_ok ids false)
  refine both_unl.2 ⟨fun r hr => ?_, ?_⟩
  · rcases List.mem_append.1 hr with hr | hr
    · exact h.1 r hr
    · rw [List.mem_singleton.1 hr]
      decide
  · refine List.pairwise_append.2 ⟨h.2, by simp, fun a ha b hb' => ?_⟩
    obtain ⟨k, hk, rfl⟩ := mem_recsL.1 ha
    rw [List.mem_singleton.1 hb']
    show ((k : Int) + 1).toNat ≠ (24 : Int).toNat
    omega
theorem recsM_allC (ids : List Int) : allC (recsL ids false ++ [smR 24 0]) = allC (recsL ids false) := by
  unfold allC idsL
  rw [gat_none _ _ rfl]
theorem allC_rise {rs : List Rc} {k : Nat} {p q : Int × List Int} (hp : (allC rs)[k]? = some p) (hq : (allC rs)[k + 1]? = some q) : p.1 < q.1 := by
  unfold allC at hp hq
  rw [List.getElem?_map] at hp hq
  obtain ⟨x, hx, rfl⟩ := Option.map_eq_some_iff.1 hp
  obtain ⟨y, hy, rfl⟩ := Option.map_eq_some_iff.1 hq
  obtain ⟨h1, h1'⟩ := List.getElem?_eq_some_iff.1 hx
  obtain ⟨h2, h2'⟩ := List.getElem?_eq_some_iff.1 hy
  have := List.pairwise_iff_getElem.1 (idsL_rise rs) k (k + 1) h1 h2 (by omega)
  rw [h1', h2'] at this
  exact this
theorem allC_len (rs : List Rc) : (allC rs).length ≤ 1024 := by
  unfold allC
  rw [List.length_map]
  exact Nat.le_trans (List.length_filter_le _ _) (by simp [allI])
theorem allC_rows {rs : List Rc} {p : Int × List Int} (h : p ∈ allC rs) : p.2.length ≤ rs.length ∧ (1 ≤ p.1 ∧ p.1 ≤ 1024) ∧ p.2 = rsL (gat rs p.1) ∧ p.2 ≠ [] := by
  unfold allC at h
  obtain ⟨id, hid, rfl⟩ := List.mem_map.1 h
  obtain ⟨h1, h2⟩ := mem_idsL.1 hid
  exact ⟨Nat.le_trans (rsL_len _) (gat_len _ _), h1, rfl, rsL_ne h2⟩
end Go.Proofs.YtgpinecfmhenkaaDoor
namespace Go.Proofs.YtgpinecfmhenkaaDoor
open Go.RowKit

theorem SlAt.cut {α : Type} {cs : α → List Value} {sz : Nat} {w : World} {a : Option Addr} {n cap : Nat} {l : List α} (h : SlAt cs sz w (.slice a n cap) l) (k : Nat) : SlAt cs sz w (.slice a (l.take k).length cap) (l.take k) := by
  obtain ⟨a', c', he, h0, h1, h2⟩ := h
  simp only [Value.slice.injEq] at he
  obtain ⟨rfl, rfl, rfl⟩ := he
  have hle : (l.take k).length ≤ l.length := by rw [List.length_take]; omega
  refine ⟨_, _, rfl, by omega, by omega, fun hp => ?_⟩
  obtain ⟨bk, o, h3, h4, h5⟩ := h2 (by omega)
  refine ⟨bk, o, h3, h4, fun j x hx => h5 j x ?_⟩
  rw [List.getElem?_take] at hx
  split at hx
  · exact hx
  · cases hx
theorem TAt.op {w : World} {u : Value} {T : List (Int × List Int)} (h : TAt w u T) : ∃ a cap, u = .slice a T.length cap ∧ T.length ≤ 9223372036854775807 ∧ T.length ≤ cap ∧ (0 < T.length → ∃ bk o, a = some ⟨bk, o, none⟩ ∧ bk < w.heap.size ∧ ∀ j p, T[j]? = some p → ∃ va vc, w.cell? ⟨bk, o + j * 2, none⟩ = some (.int .i64 p.1) ∧ w.cell? ⟨bk, o + j * 2 + 1, none⟩ = some (.slice va p.2.length vc) ∧ (0 < p.2.length → ∃ vb vo, va = some ⟨vb, vo, none⟩ ∧ vb < w.heap.size ∧ ∀ i y, p.2[i]? = some y → w.cell? ⟨vb, vo + i, none⟩ = some (.int .i64 y))) := by
  obtain ⟨L, h1, rfl⟩ := h
  obtain ⟨a, cap, h2, h3, h4, h5⟩ := h1.r.clms
  have hl : (cls L).length = L.length := List.length_map _
  refine ⟨a, cap, by rw [hl]; exact h2, by omega, by omega, fun hp => ?_⟩
  obtain ⟨bk, o, h6, h7, h8⟩ := h5 (by omega)
  refine ⟨bk, o, h6, h7, fun j p hp => ?_⟩
  rw [List.getElem?_map] at hp
  obtain ⟨x, hx, rfl⟩ := Option.map_eq_some_iff.1 hp
  obtain ⟨g1, g2⟩ := h8 j x hx
  obtain ⟨va, vc, e1, _, _, e4⟩ := (h1.a x (List.mem_of_getElem? hx)).1.ints
  exact ⟨va, vc, g1, by rw [g2, e1], e4⟩
theorem tAt_ans {w w' : World} {T : List (Int × List Int)} {u : Value} (h : ClsAns w w' T u) : TAt w' u T := h.at
end Go.Proofs.YtgpinecfmhenkaaDoor
namespace Go.Proofs.YtgpinecfmhenkaaDoor
open Go.RowKit

/-- Claims, 40 at most, of 30 routers at most. -/
def cutT (T : List (Int × List Int)) : List (Int × List Int) := (T.take 40).map fun p => (p.1, p.2.take 30)
theorem cutT_len (T : List (Int × List Int)) : (cutT T).length ≤ 40 := by unfold cutT; rw [List.length_map, List.length_take]; omega
theorem cutT_mem {T : List (Int × List Int)} {p : Int × List Int} (h : p ∈ cutT T) : p.2.length ≤ 30 ∧ ∃ q ∈ T, p.1 = q.1 ∧ ∀ z ∈ p.2, z ∈ q.2 := by
  unfold cutT at h
  obtain ⟨q, hq, rfl⟩ := List.mem_map.1 h
  exact ⟨by simp; omega, q, List.mem_of_mem_take hq, rfl, fun z hz => List.mem_of_mem_take hz⟩
set_option maxRecDepth 100000 in
set_option maxHeartbeats 4000000 in
theorem cut_any {L : List Cl} {v : Value} {w : World} (h : ClsAt w v L) :
    Calls Tryd.prog 5 #[v] w fun e w' => (∃ a c, e = .returned (.slice a (cutT (cls L)).length c) ∧ ClsAns w w' (cutT (cls L)) (.slice a (cutT (cls L)).length c)) ∧ Below w.heap.size w w' := by
  obtain ⟨a, cap, rfl, hn, _, hat⟩ := h.r.clms
  have Ha := hidIn hat
  have HA := hidIn h.a
  obtain ⟨n, hnn⟩ : ∃ n, L.length = n := ⟨_, rfl⟩
  rw [hnn] at hn ⊢
  have Hn := hidIn hnn
  clear hat h hnn
  go_enter Tryd.func5, Tryd.ntmps5
  go_wp2_with fail
  go_loopw [3, 4] (fun u i wr => ∃ (k : Nat) (F : List Cl), k ≤ n ∧ k ≤ 40 ∧ i = .int .i64 k ∧ (∃ a c, u = .slice a k c) ∧ Hid (Below w.heap.size w wr ∧ wr.ownsRow w.heap.size 31 2 u k (fl clc F) ∧ F.length = k ∧ cls F = ((cls L).take k).map (fun p => (p.1, p.2.take 30)) ∧ ∀ x ∈ F, wr.ownsRow w.heap.size 3 1 x.2.2 x.2.1.length (fl ic x.2.1))) (fun _ i _ => n - (intOf i).toNat)
  case atStart => exact ⟨0, [], Nat.zero_le _, Nat.zero_le _, rfl, ⟨none, 0, rfl⟩, hidIn ⟨Below.refl _ _, World.ownsRow_nil _ _ _ _, rfl, rfl, fun _ h => absurd h List.not_mem_nil⟩⟩
  case round =>
    obtain ⟨k, F, hk, hk40, rfl, ⟨ua, uc, rfl⟩, HR⟩ := hrel
    obtain ⟨hb, hu, hFl, hFc, hFr⟩ := HR.out
    clear HR
    by_cases hlt : k < n ∧ k < 40
    · have hki : (k : Int) < (n : Int) := by omega
      have hk4 : (k : Int) < 40 := by omega
      obtain ⟨bk, o, rfl, hbk, hcell⟩ := Ha.out (by have := Hn.out; omega)
      obtain ⟨⟨id, xs, xv⟩, hz⟩ : ∃ z, L[k]? = some z := ⟨L[k]'(by have := Hn.out; omega), List.getElem?_eq_getElem _⟩
      obtain ⟨q0, q1⟩ := hcell k _ hz
      obtain ⟨hxs, hxn⟩ := HA.out _ (List.mem_of_getElem? hz)
      simp only at q0 q1 hxs hxn
      have hTk : (cls L)[k]? = some (id, xs) := by rw [List.getElem?_map, hz]; rfl
      have HT1 : Hid (((cls L).take (k + 1)).map (fun p => (p.1, p.2.take 30)) = ((cls L).take k).map (fun p => (p.1, p.2.take 30)) ++ [(id, xs.take 30)]) := hidIn (by rw [take_snoc hTk, List.map_append]; rfl)
      have c0 := (hb.cell (p := ⟨bk, o + k * 2, none⟩) hbk).trans q0
      have c1 := (hb.cell (p := ⟨bk, o + k * 2 + 1, none⟩) hbk).trans q1
      obtain ⟨xa, xc, hxv, hxl, hxc, _⟩ := hxs.ints
      subst hxv
      have hcut := hxs.cut 30
      have hml : (xs.take 30).length = min xs.length 30 := by rw [List.length_take]; omega
      have hcl : (xs.take 30).length ≤ 30 := List.length_take_le _ _
      have hnil : (∃ a n c, Value.slice xa (xs.take 30).length xc = .slice (some a) n c) ∨ (Value.slice xa (xs.take 30).length xc = .slice none 0 0 ∧ nilS = .slice none 0 0) := by
        rcases hxn with ⟨p, nn, cc, he⟩ | he
        · simp only [Value.slice.injEq] at he
          rw [he.1]
          exact .inl ⟨_, _, _, rfl⟩
        · simp only [Value.slice.injEq] at he
          obtain ⟨rfl, h0, rfl⟩ := he
          have : (xs.take 30).length = 0 := by omega
          rw [this]
          exact .inr ⟨rfl, rfl⟩
      have hdr : Below wr.heap.size wr wr.drew := (Below.refl _ wr).drew
      have hcd := (hcut.keep hb (Nat.le_refl _)).keep hdr (Nat.le_refl _)
      obtain ⟨v', w6, hrun, hown, hb6, _⟩ := append_allI (l := []) (World.ownsRow_nil wr.drew wr.heap.size 3 1) hcd (by omega) hdr.size hnil
      rw [Nat.zero_add] at hown
      obtain ⟨a6, c6, rfl⟩ := row_shape hown
      rw [List.nil_append] at hown
      have hB6 : Below wr.heap.size wr w6 := hdr.trans hb6
      have hu6 := row_below hu hB6 (Nat.le_refl _)
      have hbw6 := hb.trans (hB6.mono hb.size)
      obtain ⟨g, gc, w7, hrun7, hown7, hb7, hF7⟩ := append_clm hu6 (id, xs.take 30, .slice a6 (xs.take 30).length c6) rfl (by omega) hbw6.size
      have hnI : ∀ {base i : Nat} {x : Value} {zs : List Value}, w6.ownsRow base 3 1 x i zs → w7.ownsRow base 3 1 x i zs := fun {base i x zs} hx => row_fr hx hF7 (fun i hi e => by
        obtain ⟨cur, h1⟩ := crowTy hx hi
        obtain ⟨cur', h2⟩ := crowTy hu6 e
        rw [h1] at h2
        simp only [Option.some.injEq, Obj.cells.injEq] at h2
        exact absurd h2.2.1 (by decide))
      have HO : Hid (Below w.heap.size w w7 ∧ w7.ownsRow w.heap.size 31 2 (.slice (some ⟨g, 0, none⟩) (k + 1) gc) (k + 1) (fl clc (F ++ [(id, xs.take 30, .slice a6 (xs.take 30).length c6)])) ∧ (F ++ [(id, xs.take 30, Value.slice a6 (xs.take 30).length c6)]).length = k + 1 ∧ cls (F ++ [(id, xs.take 30, Value.slice a6 (xs.take 30).length c6)]) = ((cls L).take (k + 1)).map (fun p => (p.1, p.2.take 30)) ∧ ∀ x ∈ F ++ [(id, xs.take 30, Value.slice a6 (xs.take 30).length c6)], w7.ownsRow w.heap.size 3 1 x.2.2 x.2.1.length (fl ic x.2.1)) := hidIn (by
        refine ⟨hbw6.trans hb7, hown7, by rw [List.length_append, hFl]; rfl, by rw [HT1.out, ← hFc, cls, List.map_append]; rfl, fun x hx => ?_⟩
        rcases List.mem_append.1 hx with hx | hx
        · exact hnI (row_below (hFr x hx) hB6 (Nat.le_refl _))
        · rw [List.mem_singleton.1 hx]
          exact hnI (row_low hown hb.size))
      have e0 := (hB6.cell (p := ⟨bk, o + k * 2, none⟩) (Nat.lt_of_lt_of_le hbk hb.size)).trans c0
      have HRd : Hid (∀ wq, Below wr.heap.size wr wq → wq.cell? ⟨bk, o + k * 2, none⟩ = some (.int .i64 id) ∧ wq.cell? ⟨bk, o + k * 2 + 1, none⟩ = some (.slice xa xs.length xc)) := hidIn fun wq hq => ⟨(hq.cell (p := ⟨bk, o + k * 2, none⟩) (Nat.lt_of_lt_of_le hbk hb.size)).trans c0, (hq.cell (p := ⟨bk, o + k * 2 + 1, none⟩) (Nat.lt_of_lt_of_le hbk hb.size)).trans c1⟩
      obtain ⟨m, hm⟩ : ∃ m, (xs.take 30).length = m := ⟨_, rfl⟩
      rw [hm] at hrun hrun7 HO hml
      obtain ⟨xl, hxl'⟩ : ∃ xl, xs.length = xl := ⟨_, rfl⟩
      rw [hxl'] at HRd hml hxc hxl
      have hmin : min (xl : Int) 30 = (m : Int) := by omega
      have hmc : (m : Int) ≤ (xc : Int) := by omega
      have HRun := hidIn hrun
      have HRun7 := hidIn hrun7
      have HB6 := hidIn hB6
      clear hcell q0 q1 hxs hxn hz hTk hcut hml hcl hnil hcd hrun hown hb6 hB6 hu6 hbw6 hrun7 hown7 hb7 hF7 hnI hb hu hFl hFc hFr hm hxl' hdr c0 c1
      go_upto_region 6 with fail
      refine wp_region_held_drew (S := fun wx => Below wr.heap.size wr wx) (by kernel_rfl) ((Below.refl _ wr).drew) (fun hHeld => ?_)
      have hh : Below wr.heap.size wr wr.drew := hHeld
      refine wpAnyH_take (i := 0) (v := ?_) rfl (by kernel_rfl) (by kernel_rfl) (by kernel_rfl) (fun _ _ _ h => h) (Or.inl ⟨by rfl, ?_⟩) (by assumption) ?_
      rotate_left
      · intro wq hSw
        clear hSw
        go_simp
        try (with_reducible rfl)
      refine wpAnyH_take (i := 1) (v := ?_) rfl (by kernel_rfl) (by kernel_rfl) (by kernel_rfl) (fun _ _ _ h => h) (Or.inl ⟨by rfl, ?_⟩) (by assumption) ?_
      rotate_left
      · intro wq hSw
        clear hSw
        go_simp
        try (with_reducible rfl)
      refine wpAnyH_take (i := 2) (v := ?_) rfl (by kernel_rfl) (by kernel_rfl) (by kernel_rfl) (fun _ _ _ h => h) (Or.inl ⟨by rfl, ?_⟩) (by assumption) ?_
      rotate_left
      · intro wq hSw
        clear hSw
        go_simp
        try (with_reducible rfl)
      refine wpAnyH_take (i := 3) (v := ?_) rfl (by kernel_rfl) (by kernel_rfl) (by kernel_rfl) (fun _ _ _ h => h) (Or.inl ⟨by rfl, ?_⟩) (by assumption) ?_
      rotate_left
      · intro wq hSw
        clear hSw
        go_simp
        try (with_reducible rfl)
      refine wpAnyH_take (i := 4) (v := ?_) rfl (by kernel_rfl) (by kernel_rfl) (by kernel_rfl) (fun _ _ _ h => h) (Or.inl ⟨by rfl, ?_⟩) (by assumption) ?_
      rotate_left
      · intro wq hSw
        clear hSw
        go_simp
        try (with_reducible rfl)
      refine wpAnyH_take (i := 5) (v := ?_) rfl (by kernel_rfl) (by kernel_rfl) (by kernel_rfl) (fun _ _ _ h => h) (Or.inl ⟨by rfl, ?_⟩) (by assumption) ?_
      rotate_left
      · intro wq hSw
        obtain ⟨zz0, zz1⟩ := HRd.out wq hSw
        clear hSw
        go_simp
        try (with_reducible rfl)
      refine wpAnyH_take (i := 6) (v := ?_) rfl (by kernel_rfl) (by kernel_rfl) (by kernel_rfl) (fun _ _ _ h => h) (Or.inl ⟨by rfl, ?_⟩) (by assumption) ?_
      rotate_left
      · intro wq hSw
        clear hSw
        go_simp
        try (with_reducible rfl)
      refine wpAnyH_take (i := 7) (v := ?_) rfl (by kernel_rfl) (by kernel_rfl) (by kernel_rfl) (fun _ _ _ h => h) (Or.inl ⟨by rfl, ?_⟩) (by assumption) ?_
      rotate_left
      · intro wq hSw
        clear hSw
        go_simp
        try (with_reducible rfl)
      refine wpAnyH_take (i := 8) (v := ?_) rfl (by kernel_rfl) (by kernel_rfl) (by kernel_rfl) (fun _ _ _ h => h) (Or.inl ⟨by rfl, ?_⟩) (by assumption) ?_
      rotate_left
      · intro wq hSw
        clear hSw
        go_simp
        try (with_reducible rfl)
      refine wpAnyH_take (i := 9) (v := ?_) rfl (by kernel_rfl) (by kernel_rfl) (by kernel_rfl) (fun _ _ _ h => h) (Or.inl ⟨by rfl, ?_⟩) (by assumption) ?_
      rotate_left
      · intro wq hSw
        clear hSw
        go_simp
        try (with_reducible rfl)
      refine wpAnyH_take (i := 10) (v := ?_) rfl (by kernel_rfl) (by kernel_rfl) (by kernel_rfl) (fun _ _ _ h => h) (Or.inl ⟨by rfl, ?_⟩) (by assumption) ?_
      rotate_left
      · intro wq hSw
        obtain ⟨zz0, zz1⟩ := HRd.out wq hSw
        clear hSw
        go_simp
        try (with_reducible rfl)
      refine wpAnyH_take (i := 11) (v := ?_) rfl (by kernel_rfl) (by kernel_rfl) (by kernel_rfl) (fun _ _ _ h => h) (Or.inl ⟨by rfl, ?_⟩) (by assumption) ?_
      rotate_left
      · intro wq hSw
        clear hSw
        go_simp
        try (with_reducible rfl)
      refine wpAnyH_take (i := 12) (v := ?_) rfl (by kernel_rfl) (by kernel_rfl) (by kernel_rfl) (fun _ _ _ h => h) (Or.inl ⟨by rfl, ?_⟩) (by assumption) ?_
      rotate_left
      · intro wq hSw
        clear hSw
        go_simp
        try (with_reducible rfl)
      refine wpAnyH_take (i := 13) (v := ?_) rfl (by kernel_rfl) (by kernel_rfl) (by kernel_rfl) (fun _ _ _ h => h) (Or.inl ⟨by rfl, ?_⟩) (by assumption) ?_
      rotate_left
      · intro wq hSw
        clear hSw
        go_simp
        try (with_reducible rfl)
      refine wpAnyH_ready (rs := [14]) (by kernel_rfl) (by simp) ?_
      refine AllReadyH.cons (i := 14) rfl (fun K hK => ?_) AllReadyH.nil
      refine step_append rfl (.tmp 16) (.tmp 29) 29 rfl (by kernel_rfl) (by kernel_rfl) HRun.out ?_
      refine hK.out _ _ HB6.out (fun _ => ?_)
      clear hK K
      refine wpAnyH_take (i := 15) (v := ?_) rfl (by kernel_rfl) (by kernel_rfl) (by kernel_rfl) (fun _ _ _ h => h) (Or.inl ⟨by rfl, ?_⟩) (by assumption) ?_
      rotate_left
      · intro wq hSw
        clear hSw
        go_simp
        try (with_reducible rfl)
      refine wpAnyH_done (by kernel_rfl) ?_ _
      clear hh hHeld HRd
      go_wp2_with (refine l_append rfl _ _ 22 rfl HRun7.out ?_)
      go_roundw
      case rel => exact ⟨k + 1, _, by omega, by omega, by go_num, ⟨_, _, rfl⟩, HO⟩
      case measure => simp [intOf]; omega
    · have hke : (cls L).take k = (cls L).take 40 := by
        have hl : (cls L).length = n := by rw [List.length_map, Hn.out]
        by_cases h40 : k = 40
        · rw [h40]
        · rw [List.take_of_length_le (by omega), List.take_of_length_le (by omega)]
      rw [hke] at hFc
      have hcl : (cutT (cls L)).length = k := by show (((cls L).take 40).map _).length = k; rw [← hFc, List.length_map, hFl]
      have HE : Hid ((cutT (cls L)).length = k ∧ ClsAns w wr (cutT (cls L)) (.slice ua k uc) ∧ Below w.heap.size w wr) := hidIn ⟨hcl, ⟨F, by rw [hFl]; exact hu, hFc, hFr⟩, hb⟩
      clear hb hu hFl hFc hFr hke hcl
      by_cases hkn : k < n
      · have hki : (k : Int) < (n : Int) := by omega
        have hk4 : ¬ ((k : Int) < 40) := by omega
        clear hlt
        go_wp2_with fail
        go_ret
        obtain ⟨e1, e2, e3⟩ := HE.out
        exact ⟨⟨ua, uc, by rw [e1]; rfl, by rw [e1]; exact e2⟩, e3⟩
      · have hki : ¬ ((k : Int) < (n : Int)) := by omega
        clear hlt
        go_wp2_with fail
        go_ret
        obtain ⟨e1, e2, e3⟩ := HE.out
        exact ⟨⟨ua, uc, by rw [e1]; rfl, by rw [e1]; exact e2⟩, e3⟩
end Go.Proofs.YtgpinecfmhenkaaDoor
namespace Go.Proofs.YtgpinecfmhenkaaDoor
open Go.RowKit

theorem SlAt.ishape {w : World} {v : Value} {l : List Int} (h : SlAt ic 1 w v l) : ∃ a cap, v = .slice a l.length cap := by
  obtain ⟨a, cap, rfl, _⟩ := h
  exact ⟨a, cap, rfl⟩
set_option maxRecDepth 100000 in
set_option maxHeartbeats 1000000 in
theorem sameClaim_any {i j : Int} {la lb : List Int} {va vb : Value} {w : World} (ha : SlAt ic 1 w va la) (hb : SlAt ic 1 w vb lb) :
    Calls Tryd.prog 24 #[.agg #[.int .i64 i, va], .agg #[.int .i64 j, vb]] w fun e w' => e = .returned (.bool (decide ((i, la) = (j, lb)))) ∧ Below w.heap.size w w' := by
  have b1 : Below w.heap.size w ((w.alloc (.cells #[.int .i64 i, va] 31)).alloc (.cells #[.int .i64 j, vb] 31)) := ((Below.refl _ w).alloc (Nat.le_refl _) _).alloc (by simp) _
  have HS := hidIn (sameInts (ha.keep b1 (Nat.le_refl _)) (hb.keep b1 (Nat.le_refl _)))
  have HB := hidIn b1
  obtain ⟨aa, ac', rfl⟩ := ha.ishape
  obtain ⟨ab, bc, rfl⟩ := hb.ishape
  clear ha hb b1
  by_cases hij : i = j
  · have hq : (i == j) = true := by simpa using hij
    obtain ⟨bb, hbb⟩ : ∃ bb, decide (la = lb) = bb := ⟨_, rfl⟩
    have hd : decide ((i, la) = (j, lb)) = bb := by rw [← hbb]; simp [hij]
    rw [hd]
    rw [hbb] at HS
    clear hij hd hbb
    go_enter Tryd.func24, Tryd.ntmps24
    go_wp2_with fail
    refine HS.out.mono ?_
    rintro e w2 ⟨rfl, hb2⟩
    have HB2 := hidIn (HB.out.trans (hb2.mono HB.out.size))
    clear hb2 HS HB
    go_wp2_with fail
    go_ret
    exact ⟨rfl, HB2.out⟩
  · have hq : (i == j) = false := by simpa using hij
    have hd : decide ((i, la) = (j, lb)) = false := by simp [hij]
    rw [hd]
    clear hij hd
    go_enter Tryd.func24, Tryd.ntmps24
    go_wp2_with fail
    go_ret
    exact ⟨rfl, HB.out⟩
end Go.Proofs.YtgpinecfmhenkaaDoor
namespace Go.Proofs.YtgpinecfmhenkaaDoor
open Go.RowKit

set_option maxRecDepth 100000 in
set_option maxHeartbeats 2000000 in
theorem sameC_yes {T : List (Int × List Int)} {ua ub : Value} {w : World} (ha : TAt w ua T) (hb : TAt w ub T) :
    Calls Tryd.prog 12 #[ua, ub] w fun e w' => e = .returned (.bool true) ∧ Below w.heap.size w w' := by
  obtain ⟨La, ha1, ha2⟩ := ha
  obtain ⟨Lb, hb1, hb2⟩ := hb
  have hla : La.length = T.length := by rw [← ha2, List.length_map]
  have hlb : Lb.length = T.length := by rw [← hb2, List.length_map]
  obtain ⟨aa, ca, rfl, hna, _, hca⟩ := ha1.r.clms
  obtain ⟨ab, cb, rfl, _, _, hcb⟩ := hb1.r.clms
  have HA := hidIn ha1.a
  have HB' := hidIn hb1.a
  have HCa := hidIn hca
  have HCb := hidIn hcb
  have Ha2 := hidIn ha2
  have Hb2 := hidIn hb2
  have Hla := hidIn hla
  have Hlb := hidIn hlb
  rw [hla] at hna ⊢
  rw [hlb]
  obtain ⟨n, hn⟩ : ∃ n, T.length = n := ⟨_, rfl⟩
  rw [hn] at Hla Hlb hna ⊢
  clear ha1 ha2 hb1 hb2 hla hlb hca hcb hn
  go_enter Tryd.func12, Tryd.ntmps12
  go_wp2_with fail
  go_loopw [5] (fun i wr => ∃ k : Nat, k ≤ n ∧ i = .int .i64 k ∧ Hid (Below w.heap.size w wr)) (fun i _ => n - (intOf i).toNat)
  case atStart => exact ⟨0, Nat.zero_le _, rfl, hidIn (Below.refl _ _)⟩
  case round =>
    obtain ⟨k, hk, rfl, HB⟩ := hrel
    by_cases hlt : k < n
    · obtain ⟨b1, o1, rfl, hb1, g1⟩ := HCa.out (by have := Hla.out; omega)
      obtain ⟨b2, o2, rfl, hb2, g2⟩ := HCb.out (by have := Hlb.out; omega)
      obtain ⟨⟨i, rs, v1⟩, h1⟩ : ∃ z, La[k]? = some z := ⟨La[k]'(by have := Hla.out; omega), List.getElem?_eq_getElem _⟩
      obtain ⟨⟨j, ss, v2⟩, h2⟩ : ∃ z, Lb[k]? = some z := ⟨Lb[k]'(by have := Hlb.out; omega), List.getElem?_eq_getElem _⟩
      have he : (i, rs) = (j, ss) := by
        have e1 : (cls La)[k]? = some (i, rs) := by unfold cls; rw [List.getElem?_map, h1]; rfl
        have e2 : (cls Lb)[k]? = some (j, ss) := by unfold cls; rw [List.getElem?_map, h2]; rfl
        rw [Ha2.out] at e1
        rw [Hb2.out, e1] at e2
        exact Option.some.inj e2
      simp only [Prod.mk.injEq] at he
      obtain ⟨rfl, rfl⟩ := he
      obtain ⟨q1, q1'⟩ := g1 k _ h1
      obtain ⟨q2, q2'⟩ := g2 k _ h2
      have s1 := (HA.out _ (List.mem_of_getElem? h1)).1
      have s2 := (HB'.out _ (List.mem_of_getElem? h2)).1
      simp only at q1 q1' q2 q2' s1 s2
      have HC1 : Hid (∀ wq, Below w.heap.size w wq → wq.cell? ⟨b1, o1 + k * 2, none⟩ = some (.int .i64 i) ∧ wq.cell? ⟨b1, o1 + k * 2 + 1, none⟩ = some v1) := hidIn fun wq hq => ⟨(hq.cell (p := ⟨b1, o1 + k * 2, none⟩) hb1).trans q1, (hq.cell (p := ⟨b1, o1 + k * 2 + 1, none⟩) hb1).trans q1'⟩
      have HC2 : Hid (∀ wq, Below w.heap.size w wq → wq.cell? ⟨b2, o2 + k * 2, none⟩ = some (.int .i64 i) ∧ wq.cell? ⟨b2, o2 + k * 2 + 1, none⟩ = some v2) := hidIn fun wq hq => ⟨(hq.cell (p := ⟨b2, o2 + k * 2, none⟩) hb2).trans q2, (hq.cell (p := ⟨b2, o2 + k * 2 + 1, none⟩) hb2).trans q2'⟩
      have HSC : Hid (∀ wq, Below w.heap.size w wq → Calls Tryd.prog 24 #[.agg #[.int .i64 i, v1], .agg #[.int .i64 i, v2]] wq fun e w' => e = .returned (.bool true) ∧ Below wq.heap.size wq w') := hidIn fun wq hq => by
        have := sameClaim_any (i := i) (j := i) (s1.keep hq (Nat.le_refl _)) (s2.keep hq (Nat.le_refl _))
        rwa [show decide ((i, rs) = (i, rs)) = true by simp] at this
      have hki : (k : Int) < (n : Int) := by omega
      obtain ⟨va1, vc1, rfl⟩ := s1.ishape
      obtain ⟨va2, vc2, rfl⟩ := s2.ishape
      clear g1 g2 h1 h2 q1 q1' q2 q2' s1 s2
      go_wp2_with fail
      refine wp_region_held_drew (S := fun wx => Below w.heap.size w wx) (by kernel_rfl) ((HB.out).drew) (fun hHeld => ?_)
      have hh : Below w.heap.size w wr.drew := hHeld
      refine wpAnyH_take (i := 0) (v := ?_) rfl (by kernel_rfl) (by kernel_rfl) (by kernel_rfl) (fun _ _ _ h => h) (Or.inl ⟨by rfl, ?_⟩) (by assumption) ?_
      rotate_left
      · intro wq hSw
        clear hSw
        go_simp
        try (with_reducible rfl)
      refine wpAnyH_take (i := 1) (v := ?_) rfl (by kernel_rfl) (by kernel_rfl) (by kernel_rfl) (fun _ _ _ h => h) (Or.inl ⟨by rfl, ?_⟩) (by assumption) ?_
      rotate_left
      · intro wq hSw
        clear hSw
        go_simp
        try (with_reducible rfl)
      refine wpAnyH_take (i := 2) (v := ?_) rfl (by kernel_rfl) (by kernel_rfl) (by kernel_rfl) (fun _ _ _ h => h) (Or.inl ⟨by rfl, ?_⟩) (by assumption) ?_
      rotate_left
      · intro wq hSw
        clear hSw
        go_simp
        try (with_reducible rfl)
      refine wpAnyH_take (i := 3) (v := ?_) rfl (by kernel_rfl) (by kernel_rfl) (by kernel_rfl) (fun _ _ _ h => h) (Or.inl ⟨by rfl, ?_⟩) (by assumption) ?_
      rotate_left
      · intro wq hSw
        obtain ⟨z1, z2⟩ := HC1.out wq hSw
        clear hSw
        go_simp
        try (with_reducible rfl)
      refine wpAnyH_take (i := 4) (v := ?_) rfl (by kernel_rfl) (by kernel_rfl) (by kernel_rfl) (fun _ _ _ h => h) (Or.inl ⟨by rfl, ?_⟩) (by assumption) ?_
      rotate_left
      · intro wq hSw
        clear hSw
        go_simp
        try (with_reducible rfl)
      refine wpAnyH_take (i := 5) (v := ?_) rfl (by kernel_rfl) (by kernel_rfl) (by kernel_rfl) (fun _ _ _ h => h) (Or.inl ⟨by rfl, ?_⟩) (by assumption) ?_
      rotate_left
      · intro wq hSw
        clear hSw
        go_simp
        try (with_reducible rfl)
      refine wpAnyH_take (i := 6) (v := ?_) rfl (by kernel_rfl) (by kernel_rfl) (by kernel_rfl) (fun _ _ _ h => h) (Or.inl ⟨by rfl, ?_⟩) (by assumption) ?_
      rotate_left
      · intro wq hSw
        clear hSw
        go_simp
        try (with_reducible rfl)
      refine wpAnyH_take (i := 7) (v := ?_) rfl (by kernel_rfl) (by kernel_rfl) (by kernel_rfl) (fun _ _ _ h => h) (Or.inl ⟨by rfl, ?_⟩) (by assumption) ?_
      rotate_left
      · intro wq hSw
        obtain ⟨z1, z2⟩ := HC2.out wq hSw
        clear hSw
        go_simp
        try (with_reducible rfl)
      refine wpAnyH_ready (rs := [8]) (by kernel_rfl) (by simp) ?_
      refine AllReadyH.cons (i := 8) rfl (fun K hK => ?_) AllReadyH.nil
      go_simp
      refine (HSC.out _ hh).mono ?_
      rintro e w5 ⟨rfl, hbx⟩
      have h5 : Below w.heap.size w w5 := hh.trans (hbx.mono hh.size)
      refine hK.out _ _ h5 (fun _ => ?_)
      clear hK K hbx
      refine wpAnyH_take (i := 9) (v := ?_) rfl (by kernel_rfl) (by kernel_rfl) (by kernel_rfl) (fun _ _ _ h => h) (Or.inl ⟨by rfl, ?_⟩) (by assumption) ?_
      rotate_left
      · intro wq hSw
        clear hSw
        go_simp
        try (with_reducible rfl)
      refine wpAnyH_done (by kernel_rfl) ?_ _
      go_wp2_with fail
      go_roundw
      case rel => exact ⟨k + 1, by omega, by go_num, hidIn h5⟩
      case measure => simp [intOf]; omega
    · have hki : ¬ ((k : Int) < (n : Int)) := by omega
      go_wp2_with fail
      go_ret
      exact ⟨rfl, HB.out⟩
end Go.Proofs.YtgpinecfmhenkaaDoor
namespace Go.Proofs.YtgpinecfmhenkaaDoor
open Go.RowKit

/-- A claim in a block, whatever it is. -/
def Cl1 (w : World) (q : Nat) : Prop := ∃ x y, w.heap[q]? = some (.cells #[x, y] 31)
theorem Cl1.fr {w w' : World} {q : Nat} {S : Nat → Prop} (h : Cl1 w q) (hF : Fr S w w') (hS : ¬ S q) : Cl1 w' q := by
  obtain ⟨x, y, h⟩ := h
  exact ⟨x, y, (hF.block q (block_lt h) hS).trans h⟩
theorem Cl1.keep {w w' : World} {q : Nat} (h : Cl1 w q) (hb : Below w.heap.size w w') : Cl1 w' q := h.fr (S := fun _ => False) (Fr.of_below hb) id
/-- A claim is written into its block. -/
theorem Cl1.put {w W : World} {q B : Nat} (h : Cl1 W q) (hb : Below B w W) (hB : B ≤ q) (u v : Value) : ∃ V, (W.setCell ⟨q, 0, none⟩ u).setCell ⟨q, 1, none⟩ v = V ∧ V.heap[q]? = some (.cells #[u, v] 31) ∧ Below B w V ∧ Fr (fun j => j = q) W V := by
  obtain ⟨x, y, h⟩ := h
  exact ⟨_, rfl, set2 h u v, Below.setCell (p := ⟨q, 1, none⟩) (Below.setCell (p := ⟨q, 0, none⟩) hb hB _) hB _, ((Fr.refl (fun j => j = q) W).set (p := ⟨q, 0, none⟩) rfl _).set (p := ⟨q, 1, none⟩) rfl _⟩
theorem own_ne {w : World} {base k q : Nat} {u x y : Value} {xs : List Value} (hr : w.ownsRow base 3 1 u k xs) (hq : w.heap[q]? = some (.cells #[x, y] 31)) : ¬ u.ownBlock = some q := fun e => by
  obtain ⟨cur, h⟩ := crowTy hr e
  rw [hq] at h
  simp only [Option.some.injEq, Obj.cells.injEq] at h
  exact absurd h.2.1 (by decide)
theorem own_base {w : World} {base k size : Nat} {e : TypeId} {u : Value} {xs : List Value} (hr : w.ownsRow base e size u k xs) : ∀ j, u.ownBlock = some j → base ≤ j := fun j hj => by
  rcases hr.2 with ⟨rfl, _⟩ | ⟨g, cap, cur, rfl, hb, _⟩
  · simp [Value.ownBlock] at hj
  · simp [Value.ownBlock] at hj; omega
theorem row_keepT {w w' : World} {base k : Nat} {u : Value} {xs : List Value} {q : Nat} {x y : Value} (hr : w.ownsRow base 3 1 u k xs) (hq : w.heap[q]? = some (.cells #[x, y] 31)) (hF : Fr (fun j => j = q) w w') : w'.ownsRow base 3 1 u k xs :=
  row_fr hr hF (fun j hj e => own_ne hr hq (by rw [hj, e]))
set_option maxRecDepth 100000 in
set_option maxHeartbeats 8000000 in
theorem claimOwns_walk {L : List Cl} {v : Value} {id self : Int} {w : World} (hg : ErrT w) (h : ClsAt w v L) :
    Calls Tryd.prog 3 #[v, .int .i64 id, .int .i64 self] w fun e w' => e = .returned (.bool true) ∧ Below w.heap.size w w' := by
  have HC := hidIn (cut_any h)
  have HC2 : Hid (∀ w1, Below w.heap.size w w1 → Calls Tryd.prog 5 #[v] w1 fun e w' => (∃ a c, e = .returned (.slice a (cutT (cls L)).length c) ∧ ClsAns w1 w' (cutT (cls L)) (.slice a (cutT (cls L)).length c)) ∧ Below w1.heap.size w1 w') := hidIn fun w1 hb => cut_any (h.keep hb (Nat.le_refl _))
  have hlC : ∀ p ∈ cutT (cls L), p.2.length ≤ 10000 := fun p hp => by have := (cutT_mem hp).1; omega
  have HlC := hidIn hlC
  have HG := hidIn hg
  obtain ⟨va, vc, rfl, _⟩ := h.r
  generalize cutT (cls L) = T at HC HC2 HlC
  obtain ⟨tn, htn⟩ : ∃ tn, T.length = tn := ⟨_, rfl⟩
  rw [htn] at HC HC2
  have nR := neqR
  have nN := neqN
  clear h hg hlC htn
  go_enter Tryd.func3, Tryd.ntmps3
  go_wp2_with fail
  refine HC.out.mono ?_
  rintro e w1 ⟨⟨a1, c1, rfl, hu1⟩, hb1⟩
  have HT1 := hidIn (tAt_ans hu1)
  have HB1 := hidIn hb1
  clear hu1 hb1 HC
  go_wp2_with fail
  refine (HC2.out w1 HB1.out).mono ?_
  rintro e w2 ⟨⟨a2, c2, rfl, hu2⟩, hb2⟩
  obtain ⟨LO, hlo, hlt⟩ := tAt_ans hu2
  have HLO := hidIn hlo
  have HLT := hidIn hlt
  have HSh := hidIn hlo.shapes
  have HT2 := hidIn (HT1.out.keep hb2)
  have HB2 := hidIn (HB1.out.trans (hb2.mono HB1.out.size))
  have HG2 := hidIn (HG.out.keep HB2.out HG.out.pos)
  have HOw := hidIn (owner_T id HT2.out HlC.out)
  clear hu2 hb2 hlo hlt HC2 HT1 HB1 HG
  go_wp2_with fail
  refine HOw.out.mono ?_
  rintro e w3 ⟨ho, hb3⟩
  have HOB := hidIn (ho.both HSh.out HLT.out)
  have HB3 := hidIn hb3
  have HDO := hidIn (downer_any id (HLO.out.keep hb3 (Nat.le_refl _)))
  clear ho hb3 HOw
  rcases HOB.out with ⟨b, k, rfl, hk, hbx, hd⟩ | ⟨y, x, a4, n4, c4, rfl, hd⟩ | ⟨c, u, dv, xs, rfl, hcx, hru, hd, hm⟩
  · rw [hd] at HDO
    simp only at HDO
    clear hd
    go_wp2_with fail
    refine HDO.out.mono ?_
    rintro e w4 ⟨rfl, hb4⟩
    obtain ⟨V4, hV4⟩ : ∃ V4, w4.alloc (.cells #[.int .i64 0, nilS] 31) = V4 := ⟨_, rfl⟩
    have hv4 : V4.heap[w4.heap.size]? = some (.cells #[.int .i64 0, nilS] 31) := by rw [← hV4]; exact heap_alloc_last w4 _
    have hB4 := HB3.out.trans (hb4.mono HB3.out.size)
    have hbv4 : Below w2.heap.size w2 V4 := by rw [← hV4]; exact hB4.alloc hB4.size _
    have h34 : Below w3.heap.size w3 V4 := by rw [← hV4]; exact hb4.alloc hb4.size _
    have HLs := hidIn h34
    obtain ⟨q, hqe⟩ : ∃ q, w4.heap.size = q := ⟨_, rfl⟩
    rw [hqe] at hv4
    have HV4 := hidIn hV4
    have HVq := hidIn hv4
    have HB4 := hidIn hbv4
    have Hq : Hid (w2.heap.size ≤ q) := hidIn (by rw [← hqe]; exact hB4.size)
    have x0 := cell_of_row _ _ 0 _ _ _ hv4
    have x1 := cell_of_row _ _ 1 _ _ _ hv4
    simp at x0 x1
    clear hb4 hB4 hV4 hv4 hbv4 h34 HDO
    go_upto_region 4 with fail
    rw [HV4.out]
    clear HV4 hqe
    have HF := hidIn (fault_ok (b := b) (k := k) (w := V4) (HG2.out.keep HB4.out HG2.out.pos) ((HLs.out.block _ (block_lt hbx)).trans hbx) (by rcases hk with rfl | rfl <;> decide))
    clear hbx HLs x0 x1
    rcases hk with rfl | rfl
    all_goals
      go_wp2_with fail
      refine HF.out.mono ?_
      rintro e w5 ⟨rfl, hb5⟩
      have HB5 := hidIn (HB4.out.trans (hb5.mono HB4.out.size))
      have HQ5 : Hid (Cl1 w5 q) := hidIn (Cl1.keep ⟨_, _, HVq.out⟩ hb5)
      clear hb5 HF HB4 HVq
      have HMi := hidIn (mine_T self (HT2.out.keep HB5.out) HlC.out)
      go_wp2_with fail
      refine HMi.out.mono ?_
      rintro e w6 ⟨hm6, hb6⟩
      have HMB := hidIn (hm6.both HSh.out HLT.out)
      have HB6 := hidIn (HB5.out.trans (hb6.mono HB5.out.size))
      have HQ6 := hidIn (HQ5.out.keep hb6)
      have HDM := hidIn (dmine_any self (HLO.out.keep HB6.out (Nat.le_refl _)))
      have HS5 := hidIn HB5.out.size
      clear hm6 hb6 HMi HB5 HQ5
      rcases HMB.out with ⟨y2, x2, a5, n5, c5, rfl, hd2⟩ | ⟨c6, i2, u6, dv2, xs2, rfl, hcx2, hru2, hd2, hm2⟩
      · rw [hd2] at HDM
        simp only at HDM
        clear hd2 HMB
        go_wp2_with fail
        refine HDM.out.mono ?_
        rintro e w7 ⟨rfl, hb7⟩
        have hB7 := HB6.out.trans (hb7.mono HB6.out.size)
        obtain ⟨V7, hV7, hv7, hbv7, _⟩ := (HQ6.out.keep hb7).put hB7 Hq.out (.int .i64 x2) (.slice a5 n5 c5)
        obtain ⟨z0, z1, hz⟩ := HQ6.out.keep hb7
        have q0 := cell_of_row _ _ 0 _ _ _ hz
        have q1 := cell_of_row _ _ 1 _ _ _ hz
        have f0 := frozen_new hz 0
        have f1 := frozen_new hz 1
        simp at q0 q1
        have HV7 := hidIn hV7
        have HB7 := hidIn hbv7
        have hyy : (y2 != y2) = false := by simp
        clear hb7 hB7 hV7 hv7 hbv7 hz HDM HB6 HQ6
        go_upto_region 8 with fail
        rw [HV7.out]
        clear HV7 q0 q1 f0 f1
        go_wp2_with fail
        refine (sameC_yes (HT2.out.keep HB7.out) ⟨LO, HLO.out.keep HB7.out (Nat.le_refl _), HLT.out⟩).mono ?_
        rintro e w9 ⟨rfl, hb9⟩
        have HB9 := hidIn (HB2.out.trans ((HB7.out.trans (hb9.mono HB7.out.size)).mono HB2.out.size))
        clear hb9
        go_wp2_with fail
        refine (cworks_any _).mono ?_
        rintro e w10 ⟨rfl, hb10⟩
        have HB10 := hidIn (HB9.out.trans (hb10.mono HB9.out.size))
        clear hb10
        go_wp2_with fail
        go_ret
        exact ⟨rfl, HB10.out⟩
      · rw [hd2] at HDM
        simp only at HDM
        have hxl : xs2.length ≤ 10000 := by
          have := HlC.out (i2, xs2) (by rw [← HLT.out]; exact List.mem_map.2 ⟨_, hm2, rfl⟩)
          exact this
        have hsl := (HLO.out.a _ hm2).1
        simp only at hsl
        have hms := HSh.out _ hm2
        simp only at hms
        obtain ⟨a5, n5, c5, rfl⟩ := hms
        have HC6 := hidIn (And.intro hcx2 (And.intro hru2 (And.intro hsl hxl)))
        clear hd2 HMB hcx2 hru2 hm2 hsl hxl
        go_wp2_with fail
        refine HDM.out.mono ?_
        rintro e w7 ⟨rfl, hb7⟩
        have hB7 := HB6.out.trans (hb7.mono HB6.out.size)
        obtain ⟨V7, hV7, hv7, hbv7, hfv7⟩ := (HQ6.out.keep hb7).put hB7 Hq.out (.int .i64 i2) (.slice a5 n5 c5)
        obtain ⟨z0, z1, hz⟩ := HQ6.out.keep hb7
        have q0 := cell_of_row _ _ 0 _ _ _ hz
        have q1 := cell_of_row _ _ 1 _ _ _ hz
        have f0 := frozen_new hz 0
        have f1 := frozen_new hz 1
        simp at q0 q1
        obtain ⟨hcx, hru, hsl, hxl⟩ := HC6.out
        have hru7 := row_low (row_keepT (row_below hru hb7 (Nat.le_refl _)) hz hfv7) HS5.out
        have hcq : c6 ≠ q := fun e => by
          have := (hb7.block _ (block_lt hcx)).trans hcx
          rw [e, hz] at this
          simp only [Option.some.injEq, Obj.cells.injEq] at this
          exact absurd this.2.1 (by decide)
        have hcx7 := (hfv7.block _ (Nat.lt_of_lt_of_le (block_lt hcx) hb7.size) hcq).trans ((hb7.block _ (block_lt hcx)).trans hcx)
        have HCf := hidIn (conf_ok (fun j => u6.ownBlock = some j) (fun _ h => h) (HG2.out.keep hbv7 HG2.out.pos) hcx7 hru7 (hsl.keep hbv7 (Nat.le_refl _)) hxl)
        have Hnq := hidIn (own_ne hru7 hv7)
        have Hob := hidIn (own_base hru7)
        have HV7 := hidIn hV7
        have HB7 := hidIn hbv7
        have x0 := cell_of_row _ _ 0 _ _ _ hv7
        have x1 := cell_of_row _ _ 1 _ _ _ hv7
        simp at x0 x1
        clear hb7 hB7 hV7 hv7 hbv7 hz HDM HB6 HQ6 hcx hru hsl hxl hru7 hcq hcx7 hfv7 HC6
        go_upto_region 8 with fail
        rw [HV7.out]
        clear HV7 q0 q1 f0 f1
        go_wp2_with fail
        refine HCf.out.mono ?_
        rintro e w8 ⟨rfl, hF8⟩
        have HB8 := hidIn (HB7.out.trans (hF8.below HB7.out.size (fun j hj => Hob.out j hj)))
        clear hF8 HCf HB7 x0 x1
        go_wp2_with fail
        refine (sameC_yes (HT2.out.keep HB8.out) ⟨LO, HLO.out.keep HB8.out (Nat.le_refl _), HLT.out⟩).mono ?_
        rintro e w9 ⟨rfl, hb9⟩
        have HB9 := hidIn (HB2.out.trans ((HB8.out.trans (hb9.mono HB8.out.size)).mono HB2.out.size))
        clear hb9
        go_wp2_with fail
        refine (cworks_any _).mono ?_
        rintro e w10 ⟨rfl, hb10⟩
        have HB10 := hidIn (HB9.out.trans (hb10.mono HB9.out.size))
        clear hb10
        go_wp2_with fail
        go_ret
        exact ⟨rfl, HB10.out⟩
  · rw [hd] at HDO
    simp only at HDO
    clear hd
    go_wp2_with fail
    refine HDO.out.mono ?_
    rintro e w4 ⟨rfl, hb4⟩
    obtain ⟨V4, hV4⟩ : ∃ V4, w4.alloc (.cells #[.int .i64 x, .slice a4 n4 c4] 31) = V4 := ⟨_, rfl⟩
    have hv4 : V4.heap[w4.heap.size]? = some (.cells #[.int .i64 x, .slice a4 n4 c4] 31) := by rw [← hV4]; exact heap_alloc_last w4 _
    have hB4 := HB3.out.trans (hb4.mono HB3.out.size)
    have hbv4 : Below w2.heap.size w2 V4 := by rw [← hV4]; exact hB4.alloc hB4.size _
    have h34 : Below w3.heap.size w3 V4 := by rw [← hV4]; exact hb4.alloc hb4.size _
    have HLs := hidIn h34
    obtain ⟨q, hqe⟩ : ∃ q, w4.heap.size = q := ⟨_, rfl⟩
    rw [hqe] at hv4
    have HV4 := hidIn hV4
    have HVq := hidIn hv4
    have HB4 := hidIn hbv4
    have Hq : Hid (w2.heap.size ≤ q) := hidIn (by rw [← hqe]; exact hB4.size)
    have x0 := cell_of_row _ _ 0 _ _ _ hv4
    have x1 := cell_of_row _ _ 1 _ _ _ hv4
    simp at x0 x1
    clear hb4 hB4 hV4 hv4 hbv4 h34 HDO
    go_upto_region 4 with fail
    rw [HV4.out]
    clear HV4 hqe
    have hyy : (y != y) = false := by simp
    have HB5 := HB4
    have HQ5 : Hid (Cl1 V4 q) := hidIn ⟨_, _, HVq.out⟩
    clear HVq HB4 HLs
    have HMi := hidIn (mine_T self (HT2.out.keep HB5.out) HlC.out)
    go_wp2_with fail
    refine HMi.out.mono ?_
    rintro e w6 ⟨hm6, hb6⟩
    have HMB := hidIn (hm6.both HSh.out HLT.out)
    have HB6 := hidIn (HB5.out.trans (hb6.mono HB5.out.size))
    have HQ6 := hidIn (HQ5.out.keep hb6)
    have HDM := hidIn (dmine_any self (HLO.out.keep HB6.out (Nat.le_refl _)))
    have HS5 := hidIn HB5.out.size
    clear hm6 hb6 HMi HB5 HQ5
    rcases HMB.out with ⟨y2, x2, a5, n5, c5, rfl, hd2⟩ | ⟨c6, i2, u6, dv2, xs2, rfl, hcx2, hru2, hd2, hm2⟩
    · rw [hd2] at HDM
      simp only at HDM
      clear hd2 HMB
      go_wp2_with fail
      refine HDM.out.mono ?_
      rintro e w7 ⟨rfl, hb7⟩
      have hB7 := HB6.out.trans (hb7.mono HB6.out.size)
      obtain ⟨V7, hV7, hv7, hbv7, _⟩ := (HQ6.out.keep hb7).put hB7 Hq.out (.int .i64 x2) (.slice a5 n5 c5)
      obtain ⟨z0, z1, hz⟩ := HQ6.out.keep hb7
      have q0 := cell_of_row _ _ 0 _ _ _ hz
      have q1 := cell_of_row _ _ 1 _ _ _ hz
      have f0 := frozen_new hz 0
      have f1 := frozen_new hz 1
      simp at q0 q1
      have HV7 := hidIn hV7
      have HB7 := hidIn hbv7
      have hyy : (y2 != y2) = false := by simp
      clear hb7 hB7 hV7 hv7 hbv7 hz HDM HB6 HQ6
      go_upto_region 8 with fail
      rw [HV7.out]
      clear HV7 q0 q1 f0 f1
      go_wp2_with fail
      refine (sameC_yes (HT2.out.keep HB7.out) ⟨LO, HLO.out.keep HB7.out (Nat.le_refl _), HLT.out⟩).mono ?_
      rintro e w9 ⟨rfl, hb9⟩
      have HB9 := hidIn (HB2.out.trans ((HB7.out.trans (hb9.mono HB7.out.size)).mono HB2.out.size))
      clear hb9
      go_wp2_with fail
      refine (cworks_any _).mono ?_
      rintro e w10 ⟨rfl, hb10⟩
      have HB10 := hidIn (HB9.out.trans (hb10.mono HB9.out.size))
      clear hb10
      go_wp2_with fail
      go_ret
      exact ⟨rfl, HB10.out⟩
    · rw [hd2] at HDM
      simp only at HDM
      have hxl : xs2.length ≤ 10000 := by
        have := HlC.out (i2, xs2) (by rw [← HLT.out]; exact List.mem_map.2 ⟨_, hm2, rfl⟩)
        exact this
      have hsl := (HLO.out.a _ hm2).1
      simp only at hsl
      have hms := HSh.out _ hm2
      simp only at hms
      obtain ⟨a5, n5, c5, rfl⟩ := hms
      have HC6 := hidIn (And.intro hcx2 (And.intro hru2 (And.intro hsl hxl)))
      clear hd2 HMB hcx2 hru2 hm2 hsl hxl
      go_wp2_with fail
      refine HDM.out.mono ?_
      rintro e w7 ⟨rfl, hb7⟩
      have hB7 := HB6.out.trans (hb7.mono HB6.out.size)
      obtain ⟨V7, hV7, hv7, hbv7, hfv7⟩ := (HQ6.out.keep hb7).put hB7 Hq.out (.int .i64 i2) (.slice a5 n5 c5)
      obtain ⟨z0, z1, hz⟩ := HQ6.out.keep hb7
      have q0 := cell_of_row _ _ 0 _ _ _ hz
      have q1 := cell_of_row _ _ 1 _ _ _ hz
      have f0 := frozen_new hz 0
      have f1 := frozen_new hz 1
      simp at q0 q1
      obtain ⟨hcx, hru, hsl, hxl⟩ := HC6.out
      have hru7 := row_low (row_keepT (row_below hru hb7 (Nat.le_refl _)) hz hfv7) HS5.out
      have hcq : c6 ≠ q := fun e => by
        have := (hb7.block _ (block_lt hcx)).trans hcx
        rw [e, hz] at this
        simp only [Option.some.injEq, Obj.cells.injEq] at this
        exact absurd this.2.1 (by decide)
      have hcx7 := (hfv7.block _ (Nat.lt_of_lt_of_le (block_lt hcx) hb7.size) hcq).trans ((hb7.block _ (block_lt hcx)).trans hcx)
      have HCf := hidIn (conf_ok (fun j => u6.ownBlock = some j) (fun _ h => h) (HG2.out.keep hbv7 HG2.out.pos) hcx7 hru7 (hsl.keep hbv7 (Nat.le_refl _)) hxl)
      have Hnq := hidIn (own_ne hru7 hv7)
      have Hob := hidIn (own_base hru7)
      have HV7 := hidIn hV7
      have HB7 := hidIn hbv7
      have x0 := cell_of_row _ _ 0 _ _ _ hv7
      have x1 := cell_of_row _ _ 1 _ _ _ hv7
      simp at x0 x1
      clear hb7 hB7 hV7 hv7 hbv7 hz HDM HB6 HQ6 hcx hru hsl hxl hru7 hcq hcx7 hfv7 HC6
      go_upto_region 8 with fail
      rw [HV7.out]
      clear HV7 q0 q1 f0 f1
      go_wp2_with fail
      refine HCf.out.mono ?_
      rintro e w8 ⟨rfl, hF8⟩
      have HB8 := hidIn (HB7.out.trans (hF8.below HB7.out.size (fun j hj => Hob.out j hj)))
      clear hF8 HCf HB7 x0 x1
      go_wp2_with fail
      refine (sameC_yes (HT2.out.keep HB8.out) ⟨LO, HLO.out.keep HB8.out (Nat.le_refl _), HLT.out⟩).mono ?_
      rintro e w9 ⟨rfl, hb9⟩
      have HB9 := hidIn (HB2.out.trans ((HB8.out.trans (hb9.mono HB8.out.size)).mono HB2.out.size))
      clear hb9
      go_wp2_with fail
      refine (cworks_any _).mono ?_
      rintro e w10 ⟨rfl, hb10⟩
      have HB10 := hidIn (HB9.out.trans (hb10.mono HB9.out.size))
      clear hb10
      go_wp2_with fail
      go_ret
      exact ⟨rfl, HB10.out⟩
  · have hxl : xs.length ≤ 10000 := by
      have := HlC.out (id, xs) (by rw [← HLT.out]; exact List.mem_map.2 ⟨_, hm, rfl⟩)
      exact this
    have hsl := (HLO.out.a _ hm).1
    simp only at hsl
    have hms := HSh.out _ hm
    simp only at hms
    obtain ⟨a4, n4, c4, rfl⟩ := hms
    have HC4 := hidIn (And.intro hcx (And.intro hru (And.intro hsl hxl)))
    clear hcx hru hm hsl hxl
    rw [hd] at HDO
    simp only at HDO
    clear hd
    go_wp2_with fail
    refine HDO.out.mono ?_
    rintro e w4 ⟨rfl, hb4⟩
    obtain ⟨V4, hV4⟩ : ∃ V4, w4.alloc (.cells #[.int .i64 id, .slice a4 n4 c4] 31) = V4 := ⟨_, rfl⟩
    have hv4 : V4.heap[w4.heap.size]? = some (.cells #[.int .i64 id, .slice a4 n4 c4] 31) := by rw [← hV4]; exact heap_alloc_last w4 _
    have hB4 := HB3.out.trans (hb4.mono HB3.out.size)
    have hbv4 : Below w2.heap.size w2 V4 := by rw [← hV4]; exact hB4.alloc hB4.size _
    have h34 : Below w3.heap.size w3 V4 := by rw [← hV4]; exact hb4.alloc hb4.size _
    have HLs := hidIn h34
    obtain ⟨q, hqe⟩ : ∃ q, w4.heap.size = q := ⟨_, rfl⟩
    rw [hqe] at hv4
    have HV4 := hidIn hV4
    have HVq := hidIn hv4
    have HB4 := hidIn hbv4
    have Hq : Hid (w2.heap.size ≤ q) := hidIn (by rw [← hqe]; exact hB4.size)
    have x0 := cell_of_row _ _ 0 _ _ _ hv4
    have x1 := cell_of_row _ _ 1 _ _ _ hv4
    simp at x0 x1
    clear hb4 hB4 hV4 hv4 hbv4 h34 HDO
    go_upto_region 4 with fail
    rw [HV4.out]
    clear HV4 hqe
    obtain ⟨hcx, hru, hsl, hxl⟩ := HC4.out
    have hru4 := row_below hru HLs.out (Nat.le_refl _)
    have hcx4 := (HLs.out.block _ (block_lt hcx)).trans hcx
    have HCf := hidIn (conf_ok (fun j => u.ownBlock = some j) (fun _ h => h) (HG2.out.keep HB4.out HG2.out.pos) hcx4 hru4 (hsl.keep HB4.out (Nat.le_refl _)) hxl)
    have Hnq := hidIn (own_ne hru4 HVq.out)
    have Hob := hidIn (own_base hru4)
    clear hcx hru hsl hxl hru4 hcx4 HC4 HLs
    go_wp2_with fail
    refine HCf.out.mono ?_
    rintro e w5 ⟨rfl, hF5⟩
    have HB5 := hidIn (HB4.out.trans (hF5.below HB4.out.size (fun j hj => Hob.out j hj)))
    have HQ5 : Hid (Cl1 w5 q) := hidIn (Cl1.fr ⟨_, _, HVq.out⟩ hF5 Hnq.out)
    clear hF5 HCf HB4 HVq x0 x1
    have HMi := hidIn (mine_T self (HT2.out.keep HB5.out) HlC.out)
    go_wp2_with fail
    refine HMi.out.mono ?_
    rintro e w6 ⟨hm6, hb6⟩
    have HMB := hidIn (hm6.both HSh.out HLT.out)
    have HB6 := hidIn (HB5.out.trans (hb6.mono HB5.out.size))
    have HQ6 := hidIn (HQ5.out.keep hb6)
    have HDM := hidIn (dmine_any self (HLO.out.keep HB6.out (Nat.le_refl _)))
    have HS5 := hidIn HB5.out.size
    clear hm6 hb6 HMi HB5 HQ5
    rcases HMB.out with ⟨y2, x2, a5, n5, c5, rfl, hd2⟩ | ⟨c6, i2, u6, dv2, xs2, rfl, hcx2, hru2, hd2, hm2⟩
    · rw [hd2] at HDM
      simp only at HDM
      clear hd2 HMB
      go_wp2_with fail
      refine HDM.out.mono ?_
      rintro e w7 ⟨rfl, hb7⟩
      have hB7 := HB6.out.trans (hb7.mono HB6.out.size)
      obtain ⟨V7, hV7, hv7, hbv7, _⟩ := (HQ6.out.keep hb7).put hB7 Hq.out (.int .i64 x2) (.slice a5 n5 c5)
      obtain ⟨z0, z1, hz⟩ := HQ6.out.keep hb7
      have q0 := cell_of_row _ _ 0 _ _ _ hz
      have q1 := cell_of_row _ _ 1 _ _ _ hz
      have f0 := frozen_new hz 0
      have f1 := frozen_new hz 1
      simp at q0 q1
      have HV7 := hidIn hV7
      have HB7 := hidIn hbv7
      have hyy : (y2 != y2) = false := by simp
      clear hb7 hB7 hV7 hv7 hbv7 hz HDM HB6 HQ6
      go_upto_region 8 with fail
      rw [HV7.out]
      clear HV7 q0 q1 f0 f1
      go_wp2_with fail
      refine (sameC_yes (HT2.out.keep HB7.out) ⟨LO, HLO.out.keep HB7.out (Nat.le_refl _), HLT.out⟩).mono ?_
      rintro e w9 ⟨rfl, hb9⟩
      have HB9 := hidIn (HB2.out.trans ((HB7.out.trans (hb9.mono HB7.out.size)).mono HB2.out.size))
      clear hb9
      go_wp2_with fail
      refine (cworks_any _).mono ?_
      rintro e w10 ⟨rfl, hb10⟩
      have HB10 := hidIn (HB9.out.trans (hb10.mono HB9.out.size))
      clear hb10
      go_wp2_with fail
      go_ret
      exact ⟨rfl, HB10.out⟩
    · rw [hd2] at HDM
      simp only at HDM
      have hxl : xs2.length ≤ 10000 := by
        have := HlC.out (i2, xs2) (by rw [← HLT.out]; exact List.mem_map.2 ⟨_, hm2, rfl⟩)
        exact this
      have hsl := (HLO.out.a _ hm2).1
      simp only at hsl
      have hms := HSh.out _ hm2
      simp only at hms
      obtain ⟨a5, n5, c5, rfl⟩ := hms
      have HC6 := hidIn (And.intro hcx2 (And.intro hru2 (And.intro hsl hxl)))
      clear hd2 HMB hcx2 hru2 hm2 hsl hxl
      go_wp2_with fail
      refine HDM.out.mono ?_
      rintro e w7 ⟨rfl, hb7⟩
      have hB7 := HB6.out.trans (hb7.mono HB6.out.size)
      obtain ⟨V7, hV7, hv7, hbv7, hfv7⟩ := (HQ6.out.keep hb7).put hB7 Hq.out (.int .i64 i2) (.slice a5 n5 c5)
      obtain ⟨z0, z1, hz⟩ := HQ6.out.keep hb7
      have q0 := cell_of_row _ _ 0 _ _ _ hz
      have q1 := cell_of_row _ _ 1 _ _ _ hz
      have f0 := frozen_new hz 0
      have f1 := frozen_new hz 1
      simp at q0 q1
      obtain ⟨hcx, hru, hsl, hxl⟩ := HC6.out
      have hru7 := row_low (row_keepT (row_below hru hb7 (Nat.le_refl _)) hz hfv7) HS5.out
      have hcq : c6 ≠ q := fun e => by
        have := (hb7.block _ (block_lt hcx)).trans hcx
        rw [e, hz] at this
        simp only [Option.some.injEq, Obj.cells.injEq] at this
        exact absurd this.2.1 (by decide)
      have hcx7 := (hfv7.block _ (Nat.lt_of_lt_of_le (block_lt hcx) hb7.size) hcq).trans ((hb7.block _ (block_lt hcx)).trans hcx)
      have HCf := hidIn (conf_ok (fun j => u6.ownBlock = some j) (fun _ h => h) (HG2.out.keep hbv7 HG2.out.pos) hcx7 hru7 (hsl.keep hbv7 (Nat.le_refl _)) hxl)
      have Hnq := hidIn (own_ne hru7 hv7)
      have Hob := hidIn (own_base hru7)
      have HV7 := hidIn hV7
      have HB7 := hidIn hbv7
      have x0 := cell_of_row _ _ 0 _ _ _ hv7
      have x1 := cell_of_row _ _ 1 _ _ _ hv7
      simp at x0 x1
      clear hb7 hB7 hV7 hv7 hbv7 hz HDM HB6 HQ6 hcx hru hsl hxl hru7 hcq hcx7 hfv7 HC6
      go_upto_region 8 with fail
      rw [HV7.out]
      clear HV7 q0 q1 f0 f1
      go_wp2_with fail
      refine HCf.out.mono ?_
      rintro e w8 ⟨rfl, hF8⟩
      have HB8 := hidIn (HB7.out.trans (hF8.below HB7.out.size (fun j hj => Hob.out j hj)))
      clear hF8 HCf HB7 x0 x1
      go_wp2_with fail
      refine (sameC_yes (HT2.out.keep HB8.out) ⟨LO, HLO.out.keep HB8.out (Nat.le_refl _), HLT.out⟩).mono ?_
      rintro e w9 ⟨rfl, hb9⟩
      have HB9 := hidIn (HB2.out.trans ((HB8.out.trans (hb9.mono HB8.out.size)).mono HB2.out.size))
      clear hb9
      go_wp2_with fail
      refine (cworks_any _).mono ?_
      rintro e w10 ⟨rfl, hb10⟩
      have HB10 := hidIn (HB9.out.trans (hb10.mono HB9.out.size))
      clear hb10
      go_wp2_with fail
      go_ret
      exact ⟨rfl, HB10.out⟩
end Go.Proofs.YtgpinecfmhenkaaDoor
