/- Proved: for every list of strings the law WireSums (bytes are summed up, sealed, and opened as the document says) returns true, and the list reads afterwards as it read before; no condition. -/
import Derived.Test.YtmfadgglhdbppaaL9
import Derived.Test.YtmfadgglhdbppaaRows
import Derived.WalkKit
import Derived.ProofKit
import Derived.OpenShut
import Derived.Deep.DeepHandedRow
import Derived.Lib.LaidTab
import Derived.SizedLaws
import Derived.Deep.Strs
namespace Go.Proofs.Ytmfadgglhdbppaa
open Go.ChangeShapes Go.WideShapes Go.ChangeAt Go.RowKit
open Go.ChangeMaps (open_string shut_string)

theorem own : ownKnob Try.prog.godebug = none := by kernel_rfl
theorem cellsStr : Try.prog.cellsOf 9 = 1 := by kernel_rfl
theorem laidOut : laidOutB Try.prog = true := by kernel_rfl
theorem mem_weightsAll {H : Type} {P : Program} {e : TypeId} {bs : List UInt8} : ∀ {l : List (DataW H)}, .lit (.string bs) ∈ l → bs.length ∈ DataW.weightsAll P e l
  | d :: r, h => by
    unfold DataW.weightsAll
    rcases List.mem_cons.1 h with h | h
    · rw [← h]
      exact List.mem_append_left _ (by simp [DataW.weights])
    · exact List.mem_append_right _ (mem_weightsAll h)
theorem sized_strs {H : Type} {el sp : List (DataW H)} {bs : List UInt8} {ts : List TypeId} (h : (DataW.weightsEach Try.prog (35 :: ts) [.slice el sp]).all (· ≤ reachBytes) = true) (hm : .lit (.string bs) ∈ el) : bs.length ≤ reachBytes := by
  refine of_decide_eq_true (List.all_eq_true.1 h bs.length ?_)
  unfold DataW.weightsEach
  refine List.mem_append_left _ ?_
  unfold DataW.weights
  rw [Try.underlying35]
  exact List.mem_cons_of_mem _ (List.mem_append_left _ (mem_weightsAll hm))
theorem strs_at {w : World} {a : Addr} {m : Nat} {Sx : Nat → ByteArray} (h : ∀ i, i < m → w.cell? (a.add i) = some (.string (Sx i))) (hp : 0 < m) :
    ∃ b off, a = ⟨b, off, none⟩ ∧ ∀ j, j < m → w.cell? ⟨b, off + j, none⟩ = some (.string (Sx j)) := by
  obtain ⟨b, off, spot⟩ := a
  have hspot : spot = none := by simpa [Addr.add] using World.cell?_spot (h 0 hp)
  subst hspot
  exact ⟨b, off, rfl, fun j hj => by rw [← Go.WideShapes.add_plain]; exact h j hj⟩
theorem sums_arg {H : Type} {enc : TypeId × Value → H} {W : World} {a : Option Addr} {len cap : Nat} {d : DataW H} {p : List MemPlace} {ts : List TypeId} (h : DataW.Trod enc Try.prog W 0 (fun _ => true) true 35 (.slice a len cap) d p)
    (hsz : (DataW.weightsEach Try.prog (35 :: ts) [d]).all (· ≤ reachBytes) = true) :
    Calls Try.prog 6 #[.slice a len cap] W fun e w' => e = .returned (.bool true) ∧ Below W.heap.size W w' := by
  by_cases h0 : len = 0
  · subst h0
    exact sums_none a cap W
  · obtain ⟨fuel, hf⟩ := h
    rcases Go.Deep.open_strs Try.underlying35 Try.underlying9 cellsStr hf with ⟨hcs, _⟩ | ⟨ad, len', cap', m, Sx, hcs, _, hl, hm, hmm, hx, hcell⟩
    · simp [Value.cells] at hcs
      omega
    · simp [Value.cells] at hcs
      obtain ⟨rfl, rfl, rfl⟩ := hcs
      simp only [if_true] at hmm
      subst hmm
      obtain ⟨bk, o, rfl, hc⟩ := strs_at (fun i hi => (hcell i hi).1) (by omega)
      simp only [Prod.mk.injEq] at hx
      obtain ⟨rfl, rfl⟩ := hx
      refine sums_some Sx len bk o m (by omega) (fun i hi => ?_) W (fun i hi => hc i (by omega)) (block_lt_of_cell (hc 0 (by omega)))
      have hb := sized_strs hsz (bs := (Sx i).data.toList) (List.mem_map.2 ⟨i, List.mem_range.2 hi, rfl⟩)
      have e : (Sx i).data.toList.length = (Sx i).size := by simp
      unfold reachBytes at hb
      omega

set_option maxRecDepth 100000 in
theorem wireSums_contract (H : Type) (enc : TypeId × Value → H) (W : World) (base : Nat) (args : Array Value) (ds gs : List (DataW H)) (before : List MemPlace)
    (hval : ∀ (j : Nat) t v, Try.f6.params[j]? = some t → args[j]? = some v → Value.okWide Try.prog W .any base t v)
    (hW : DataW.Whole enc Try.prog Try.f6.params.toList Rows.wireSumsSpec.vars false W args.toList ds gs before)
    (hsz : (DataW.weightsEach Try.prog (Try.f6.params.toList ++ (OpenSpec.ofChange Rows.wireSumsSpec).bare.plain.varTypes Try.prog) (ds ++ gs)).all (· ≤ reachBytes) = true) :
    Calls Try.prog 6 args W fun e W' => ∃ v, e = .returned v ∧ Rows.wireSumsSpec.post enc Try.prog Try.f6 false true false false W args v W' := by
  have hW' := hW
  obtain ⟨p, q, hA0, hV, rfl, hfz, hnd⟩ := hW
  have hA : DataW.TrodAll enc Try.prog W 0 (fun _ => true) true Try.f6.params.toList args.toList ds p := hA0
  rw [Try.params6] at hA hval
  obtain ⟨v0, vs0, d0, ds0, p0, q0, hargs, rfl, rfl, h0, r0⟩ := trodAll_cons hA
  obtain ⟨rfl, rfl, rfl⟩ := trodAll_nil r0
  obtain rfl : args = #[v0] := by cases args; simp_all
  obtain ⟨rfl, rfl⟩ := trodVars_none hV
  obtain ⟨a0, len0, cap0, rfl⟩ := okWide_slice Try.underlying35 (hval 0 35 v0 rfl rfl)
  clear hA0
  simp only [List.append_nil] at hW'
  have hlt := hW'.lt
  rw [Try.params6] at hsz
  refine (sums_arg h0 hsz).mono fun e W' ⟨he, hb⟩ => ?_
  subst he
  exact ⟨_, rfl, _, _, _, [], (p0 ++ []), [], hW', trodAll_cons_mk (shut_bool Try.underlying4 _) trodAll_mk0, trodAll_cons_mk (Below.trod laidOut (by kernel_rfl) (of_decide_eq_true (by kernel_rfl)) h0 hb (fun x hx => hlt x (by simp [hx]))) trodAll_mk0, rfl, hb.frame _, fun h => by cases h⟩

theorem wireSums_met (os : Os) : laidMet Try.prog Rows.wireSumsRow.laid (((World.holding Try.prog os ⟨#[], #[], []⟩)).forCall (fun _ _ => 0) ⟨#[], #[.slice none 0 0], []⟩).memory :=
  laidMet_of_run' 8 (by kernel_rfl) (by kernel_rfl)
theorem wireSums_reads (os : Os) {H : Type} (enc : TypeId × Value → H) : ∃ places, DataW.whole enc Try.prog (((World.holding Try.prog os ⟨#[], #[], []⟩)).forCall (fun _ _ => 0) ⟨#[], #[.slice none 0 0], []⟩).memory Try.f6.params.toList Rows.wireSumsSpec.vars false (#[.slice none 0 0] : Array Value).toList 8 = some ([.nil], [], places) :=
  ⟨[], by kernel_rfl⟩

set_option maxRecDepth 100000 in
theorem wireSums_lifted (os : Os) (started : os.Started) (H : Type) (enc : TypeId × Value → H) (F : Stop.Interp) :
    ReturnsInHanded {} Try.checked os 6 .any ((OpenSpec.ofChange Rows.wireSumsSpec).preRow enc Try.prog Try.f6 Rows.wireSumsRow.domain false Rows.wireSumsRow.laid) (((OpenSpec.ofChange Rows.wireSumsSpec).at F).post enc Try.prog Try.f6 false true false false) := by
  obtain ⟨places, hx⟩ := wireSums_reads os enc
  refine returnsInHanded_of_row (C := Try.checked) (s := (OpenSpec.ofChange Rows.wireSumsSpec)) own started (by kernel_rfl) Try.func6
    (witness_row_at (enc := enc) (C := Try.checked) false (World.holding Try.prog os ⟨#[], #[], []⟩) #[.slice none 0 0] rfl (by kernel_rfl) (by kernel_rfl) (by kernel_rfl)
      (OpenSpec.preRow_of_cond 8 hx (by kernel_rfl) (fun k hk => by cases hk) (by kernel_rfl) (wireSums_met os))) ?_
  intro W base args ds gs before hval hW _ _ hsz _ _ _
  exact wireSums_contract H enc W base args ds gs before hval hW hsz

/-- The law. -/
theorem wireSums_said : Rows.WireSumsSaid :=
  OpenClaim.holds_of_cond 6 Try.f6 rfl rfl rfl rfl rfl rfl rfl ⟨rfl, rfl, rfl, rfl, rfl⟩ rfl rfl rfl rfl rfl (by kernel_rfl) Try.func6 (by kernel_rfl)
    (of_decide_eq_true (by kernel_rfl)) (by unfold Func.isWrapper; rw [if_neg (of_decide_eq_false (by kernel_rfl))]; exact ⟨rfl, rfl⟩)
    (fun os started H enc _ F => by rw [OpenClaim.pre_eq_preRow]; exact wireSums_lifted os started H enc F)
end Go.Proofs.Ytmfadgglhdbppaa
