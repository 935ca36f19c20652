/- The document's Encode. Headers that may be: Encode, Decode of their bytes, of one byte more, of one fewer. The law HeaderBack, walked. dandelionlaw03.HeaderTells: the walk. What the rows of layer 1 are opened and shut by: a bit string as an argument; the library's tables as the rows list them. What the rows of layer 3 are opened and shut by: a header as an argument; the table of the widths as the rows list it. -/
import Derived.Test.YtgfmlonhjmdfjaaDoorRH5
import Derived.Test.YtgfmlonhjmdfjaaDoorR7
import Derived.Deep.RegionHeld
import Derived.Deep.DeepCutAuto
import Derived.Deep.WholeRow
import Derived.Test.YtgfmlonhjmdfjaaDoorH15
import Derived.Test.YtgfmlonhjmdfjaaDoorW6
import Derived.Test.YtgfmlonhjmdfjaaDoorRows
import Derived.WalkKit
import Derived.ProofKit
import Derived.OpenShut
import Derived.Laws.IdiomArrays
import Derived.Lib.SmallJoins
import Derived.Deep.DeepHandedRow
import Derived.Lib.LaidTab
import Derived.Test.YtgfmlonhjmdfjaaDoorH4
namespace Go.Proofs.YtgfmlonhjmdfjaaDoor
open Go.RowKit

theorem conv_nums {W : World} {g : Nat} {l : List Int} (h : ∀ i, i < l.length → W.cell? ⟨g, i, none⟩ = some (.int .u8 (l.getD i 0))) : (convert 48 9 (.slice (some ⟨g, 0, none⟩) l.length l.length)).run Tryd.prog W = .ok (.string (strOfNums l)) W :=
  run_convert_bytes_arg _ 48 5 Tryd.underlying48 Tryd.underlying5 g 0 l.length l.length l rfl (fun i hi => by rw [Nat.zero_add]; exact h i hi) 9 Tryd.underlying9
theorem conv_2 {W : World} {g : Nat} {x y : Int} (h0 : W.cell? ⟨g, 0, none⟩ = some (.int .u8 x)) (h1 : W.cell? ⟨g, 1, none⟩ = some (.int .u8 y)) : (convert 48 9 (.slice (some ⟨g, 0, none⟩) 2 2)).run Tryd.prog W = .ok (.string (strOfNums [x, y])) W :=
  conv_nums (l := [x, y]) (fun i hi => by
    have hi' : i < 2 := hi
    match i, hi' with
    | 0, _ => exact h0
    | 1, _ => exact h1)
theorem conv_3 {W : World} {g : Nat} {x y z : Int} (h0 : W.cell? ⟨g, 0, none⟩ = some (.int .u8 x)) (h1 : W.cell? ⟨g, 1, none⟩ = some (.int .u8 y)) (h2 : W.cell? ⟨g, 2, none⟩ = some (.int .u8 z)) : (convert 48 9 (.slice (some ⟨g, 0, none⟩) 3 3)).run Tryd.prog W = .ok (.string (strOfNums [x, y, z])) W :=
  conv_nums (l := [x, y, z]) (fun i hi => by
    have hi' : i < 3 := hi
    match i, hi' with
    | 0, _ => exact h0
    | 1, _ => exact h1
    | 2, _ => exact h2)
/-- The body, as the document lays it. -/
theorem body_doc (c S E H O G I N k : Nat) (hc : c ≤ 5) (hS : S ≤ 127) (hH : H ≤ 15) (hO : O ≤ 24) (hG : G ≤ 7) : (((strOfNums [(c : Int) + 16, (S : Int)] ++ ly E 4) ++ strOfNums [(H : Int), (O : Int), (G : Int)]) ++ ly I 4) ++ bitsS N k = bodyS c S E H O G I N k := by
  apply Wi.ext_bytes
  rw [bodyS_data]
  simp only [Wi.app_toList, ly4_data, bitsS_data, strOfNums_data, List.map_cons, List.map_nil]
  rw [show ((c : Int) + 16).toNat = (16 + c) % 256 from by omega, show ((S : Int)).toNat = S % 256 from by omega, show ((H : Int)).toNat = H % 256 from by omega, show ((O : Int)).toNat = O % 256 from by omega, show ((G : Int)).toNat = G % 256 from by omega]
  rfl
set_option maxRecDepth 100000 in
set_option maxHeartbeats 4000000 in
theorem rencode_ok (c S E H O G I N k : Nat) (hc : cOf (8 * (k : Int)) = c) (hok : OkH (8 * (k : Int)) S H O G N) (hE : E < 4294967296) (hI : I < 4294967296) (hN : N < 2 ^ 256) (w : World) :
    Calls Tryd.prog 12 #[hd (8 * (k : Int)) S E H O G I N] w fun e w' => e = .returned (.tuple #[.string (Wi.sealS (bodyS c S E H O G I N k)), .int .i64 0]) ∧ Below w.heap.size w w' := by
  have HC := hidIn (rcheck_ok (8 * (k : Int)) S E H O G I N hN hok)
  have hcd := rcode_yes (8 * (k : Int)) hok.1
  rw [hc] at hcd
  have HD := hidIn hcd
  have hsz := bodyS_size c S E H O G I N k
  have hk : 1 ≤ k ∧ k ≤ 32 := by have := hok.1; unfold IsW at this; omega
  have HY := hidIn (rbytes_ok N k hN hk.1 hk.2 (by have := hok.2.1; omega))
  change Hid (∀ w : World, Calls Tryd.prog 28 #[bs N, .int .i64 (8 * (k : Int))] w fun e w' => e = .returned (.tuple #[.string (bitsS N k), .int .i64 0]) ∧ Below w.heap.size w w') at HY
  have HFE := hidIn (four_any E hE)
  have HFI := hidIn (four_any I hI)
  have hc5 : c ≤ 5 := by have := cOf_bd (8 * (k : Int)); omega
  have hS : S ≤ 127 := by have := hok.2.2.1; omega
  have hH : H ≤ 15 := by have := hok.2.2.2.1; omega
  have hO : O ≤ 24 := by have := hok.2.2.2.2.1; omega
  have hG : G ≤ 7 := by have := hok.2.2.2.2.2; omega
  have HB := hidIn (body_doc c S E H O G I N k hc5 hS hH hO hG)
  have hlB : (bitsS N k).size = k := bitsS_size N k
  have hlE : (ly E 4).size = 4 := ly_size E 4
  have hlI : (ly I 4).size = 4 := ly_size I 4
  clear hok hc hcd hE hI hN
  generalize bodyS c S E H O G I N k = B at hsz HB ⊢
  generalize ly E 4 = sE at *
  generalize ly I 4 = sI at *
  generalize bitsS N k = sB at *
  go_enter Tryd.func12, Tryd.ntmps12
  go_wp2_with fail
  refine (HC.out _).mono ?_
  rintro e w1 ⟨rfl, hb1⟩
  have hn := (hasHd_new w (8 * (k : Int)) S E H O G I N).keep hb1 (by simp)
  have hB1 : Below w.heap.size w w1 := ((Below.refl _ w).alloc (Nat.le_refl _) _).trans (hb1.mono (by simp))
  have HS := hidIn (And.intro hn hB1)
  clear hb1 HC hn hB1
  have r0 : IntKind.u8.wrap (S : Int) = (S : Int) := by rw [show IntKind.u8.wrap (S : Int) = (S : Int) % 256 from rfl]; omega
  have r1 : IntKind.i64.wrap ((c : Int) + 16) = (c : Int) + 16 := by rw [IntKind.wrap_i64]; omega
  have r2 : IntKind.u8.wrap ((c : Int) + 16) = (c : Int) + 16 := by rw [show IntKind.u8.wrap ((c : Int) + 16) = ((c : Int) + 16) % 256 from rfl]; omega
  have r3 : IntKind.u8.wrap (H : Int) = (H : Int) := by rw [show IntKind.u8.wrap (H : Int) = (H : Int) % 256 from rfl]; omega
  have r4 : IntKind.u8.wrap (O : Int) = (O : Int) := by rw [show IntKind.u8.wrap (O : Int) = (O : Int) % 256 from rfl]; omega
  have r5 : IntKind.u8.wrap (G : Int) = (G : Int) := by rw [show IntKind.u8.wrap (G : Int) = (G : Int) % 256 from rfl]; omega
  have hz1 : (strOfNums [(c : Int) + 16, (S : Int)]).size = 2 := by rw [strOfNums_size]; rfl
  go_upto_region 4 with fail
  go_cut [5] (fun x wx => x = .string (strOfNums [(c : Int) + 16, (S : Int)] ++ sE) ∧ HasHd wx w.heap.size (8 * (k : Int)) S E H O G I N ∧ Below w.heap.size w wx)
  case first =>
    refine wp_region_held_drew (S := fun wx => HasHd wx w.heap.size (8 * (k : Int)) S E H O G I N ∧ Below w.heap.size w wx) (by kernel_rfl) ⟨(HS.out.1).keep (Below.drew (Below.refl _ w1)) HS.out.1.lt, Below.drew HS.out.2⟩ (fun hHeld => ?_)
    have hh : HasHd w1.drew w.heap.size (8 * (k : Int)) S E H O G I N ∧ Below w.heap.size w w1.drew := hHeld
    refine wpAnyH_take (i := 0) (v := ?_) rfl (by kernel_rfl) (by kernel_rfl) (by kernel_rfl) (fun _ _ _ h => h) (Or.inl ⟨by rfl, ?_⟩) (by assumption) ?_
    rotate_left
    · intro wq hSw
      clear hSw
      go_simp
      try (with_reducible rfl)
    refine wpAnyH_take (i := 1) (v := ?_) rfl (by kernel_rfl) (by kernel_rfl) (by kernel_rfl) (fun _ _ _ h => h) (Or.inl ⟨by rfl, ?_⟩) (by assumption) ?_
    rotate_left
    · intro wq hSw
      have q0 := hSw.1.c0
      go_simp
      try (with_reducible rfl)
    refine wpAnyH_take (i := 5) (v := ?_) rfl (by kernel_rfl) (by kernel_rfl) (by kernel_rfl) (fun _ _ _ h => h) (Or.inl ⟨by rfl, ?_⟩) (by assumption) ?_
    rotate_left
    · intro wq hSw
      clear hSw
      go_simp
      try (with_reducible rfl)
    refine wpAnyH_take (i := 6) (v := ?_) rfl (by kernel_rfl) (by kernel_rfl) (by kernel_rfl) (fun _ _ _ h => h) (Or.inl ⟨by rfl, ?_⟩) (by assumption) ?_
    rotate_left
    · intro wq hSw
      have q0 := hSw.1.c1
      go_simp
      try (with_reducible rfl)
    refine wpAnyH_take (i := 7) (v := ?_) rfl (by kernel_rfl) (by kernel_rfl) (by kernel_rfl) (fun _ _ _ h => h) (Or.inl ⟨by rfl, ?_⟩) (by assumption) ?_
    rotate_left
    · intro wq hSw
      clear hSw
      go_simp
      try (with_reducible rfl)
    refine wpAnyH_take (i := 10) (v := ?_) rfl (by kernel_rfl) (by kernel_rfl) (by kernel_rfl) (fun _ _ _ h => h) (Or.inl ⟨by rfl, ?_⟩) (by assumption) ?_
    rotate_left
    · intro wq hSw
      clear hSw
      go_simp
      try (with_reducible rfl)
    refine wpAnyH_take (i := 11) (v := ?_) rfl (by kernel_rfl) (by kernel_rfl) (by kernel_rfl) (fun _ _ _ h => h) (Or.inl ⟨by rfl, ?_⟩) (by assumption) ?_
    rotate_left
    · intro wq hSw
      have q0 := hSw.1.c2
      go_simp
      try (with_reducible rfl)
    refine wpAnyH_ready (rs := [2]) (by kernel_rfl) (by simp) ?_
    refine AllReadyH.cons rfl (fun K hK => ?_) AllReadyH.nil
    go_simp
    refine (HD.out _).mono ?_
    rintro e w3 ⟨rfl, hw⟩
    rw [hw]
    clear hw w3
    refine hK.out _ _ hh (fun _ => ?_)
    clear hK K
    refine wpAnyH_take (i := 3) (v := ?_) rfl (by kernel_rfl) (by kernel_rfl) (by kernel_rfl) (fun _ _ _ h => h) (Or.inl ⟨by rfl, ?_⟩) (by assumption) ?_
    rotate_left
    · intro wq hSw
      clear hSw
      go_simp
      try (with_reducible rfl)
    refine wpAnyH_take (i := 4) (v := ?_) rfl (by kernel_rfl) (by kernel_rfl) (by kernel_rfl) (fun _ _ _ h => h) (Or.inl ⟨by rfl, ?_⟩) (by assumption) ?_
    rotate_left
    · intro wq hSw
      clear hSw
      go_simp
      try (with_reducible rfl)
    refine wpAnyH_ready (rs := [8, 12]) (by kernel_rfl) (by simp) ?_
    refine AllReadyH.cons rfl (fun K hK => ?_) ?_
    · go_simp
      have bA : Below w1.heap.size w1 (w1.alloc (Obj.cells #[.int .u8 ((c : Int) + 16), .int .u8 (S : Int)] 5)).drew := Below.drew ((Below.refl _ w1).alloc (Nat.le_refl _) _)
      have hA : HasHd (w1.alloc (Obj.cells #[.int .u8 ((c : Int) + 16), .int .u8 (S : Int)] 5)).drew w.heap.size (8 * (k : Int)) S E H O G I N ∧ Below w.heap.size w (w1.alloc (Obj.cells #[.int .u8 ((c : Int) + 16), .int .u8 (S : Int)] 5)).drew := ⟨(HS.out).1.keep bA (HS.out).1.lt, (HS.out).2.trans (bA.mono (HS.out).2.size)⟩
      refine hK.out _ _ hA (fun _ => ?_)
      clear hK K bA
      have x0 : ((w1.alloc (Obj.cells #[.int .u8 ((c : Int) + 16), .int .u8 (S : Int)] 5)).drew).cell? ⟨w1.heap.size, 0, none⟩ = some (.int .u8 ((c : Int) + 16)) := cell_of_row _ _ 0 _ _ _ (heap_alloc_last _ _)
      have x1 : ((w1.alloc (Obj.cells #[.int .u8 ((c : Int) + 16), .int .u8 (S : Int)] 5)).drew).cell? ⟨w1.heap.size, 1, none⟩ = some (.int .u8 (S : Int)) := cell_of_row _ _ 1 _ _ _ (heap_alloc_last _ _)
      generalize World.drew (World.alloc _ _) = V at hA x0 x1 ⊢
      have g0 : w1.heap.size < V.heap.size := block_lt_of_cell x0
      refine wpAnyH_ready (rs := [9, 12]) (by kernel_rfl) (by simp) ?_
      refine AllReadyH.cons rfl (fun K hK => ?_) ?_
      · skip
        have hcv := conv_2 x0 x1
        go_simp
        refine hK.out _ _ hA (fun _ => ?_)
        clear hK K hcv
        refine wpAnyH_ready (rs := [12]) (by kernel_rfl) (by simp) ?_
        refine AllReadyH.cons rfl (fun K hK => ?_) AllReadyH.nil
        go_simp
        refine (HFE.out _).mono ?_
        rintro e w5 ⟨rfl, hb5⟩
        have h5 : HasHd w5 w.heap.size (8 * (k : Int)) S E H O G I N ∧ Below w.heap.size w w5 := ⟨(hA).1.keep hb5 (hA).1.lt, (hA).2.trans (hb5.mono (hA).2.size)⟩
        refine hK.out _ _ h5 (fun _ => ?_)
        clear hK K
        refine wpAnyH_take (i := 13) (v := ?_) rfl (by kernel_rfl) (by kernel_rfl) (by kernel_rfl) (fun _ _ _ h => h) (Or.inl ⟨by rfl, ?_⟩) (by assumption) ?_
        rotate_left
        · intro wq hSw
          clear hSw
          go_simp
          try (with_reducible rfl)
        refine wpAnyH_take (i := 14) (v := ?_) rfl (by kernel_rfl) (by kernel_rfl) (by kernel_rfl) (fun _ _ _ h => h) (Or.inl ⟨by rfl, ?_⟩) (by assumption) ?_
        rotate_left
        · intro wq hSw
          clear hSw
          go_simp
          try (with_reducible rfl)
        refine wpAnyH_done (by kernel_rfl) ?_ _
        go_wp2_with fail
        go_meet
        exact ⟨rfl, h5⟩
      · refine AllReadyH.cons rfl (fun K hK => ?_) AllReadyH.nil
        go_simp
        refine (HFE.out _).mono ?_
        rintro e w5 ⟨rfl, hb5⟩
        have h5 : HasHd w5 w.heap.size (8 * (k : Int)) S E H O G I N ∧ Below w.heap.size w w5 := ⟨(hA).1.keep hb5 (hA).1.lt, (hA).2.trans (hb5.mono (hA).2.size)⟩
        refine hK.out _ _ h5 (fun _ => ?_)
        clear hK K
        replace x0 := (hb5.cell (p := ⟨w1.heap.size, 0, none⟩) g0).trans x0
        replace x1 := (hb5.cell (p := ⟨w1.heap.size, 1, none⟩) g0).trans x1
        refine wpAnyH_ready (rs := [9]) (by kernel_rfl) (by simp) ?_
        refine AllReadyH.cons rfl (fun K hK => ?_) AllReadyH.nil
        have hcv := conv_2 x0 x1
        go_simp
        refine hK.out _ _ h5 (fun _ => ?_)
        clear hK K hcv
        refine wpAnyH_take (i := 13) (v := ?_) rfl (by kernel_rfl) (by kernel_rfl) (by kernel_rfl) (fun _ _ _ h => h) (Or.inl ⟨by rfl, ?_⟩) (by assumption) ?_
        rotate_left
        · intro wq hSw
          clear hSw
          go_simp
          try (with_reducible rfl)
        refine wpAnyH_take (i := 14) (v := ?_) rfl (by kernel_rfl) (by kernel_rfl) (by kernel_rfl) (fun _ _ _ h => h) (Or.inl ⟨by rfl, ?_⟩) (by assumption) ?_
        rotate_left
        · intro wq hSw
          clear hSw
          go_simp
          try (with_reducible rfl)
        refine wpAnyH_done (by kernel_rfl) ?_ _
        go_wp2_with fail
        go_meet
        exact ⟨rfl, h5⟩
    · refine AllReadyH.cons rfl (fun K hK => ?_) AllReadyH.nil
      go_simp
      refine (HFE.out _).mono ?_
      rintro e w5 ⟨rfl, hb5⟩
      have h5 : HasHd w5 w.heap.size (8 * (k : Int)) S E H O G I N ∧ Below w.heap.size w w5 := ⟨(hh).1.keep hb5 (hh).1.lt, (hh).2.trans (hb5.mono (hh).2.size)⟩
      refine hK.out _ _ h5 (fun _ => ?_)
      clear hK K
      refine wpAnyH_ready (rs := [8]) (by kernel_rfl) (by simp) ?_
      refine AllReadyH.cons rfl (fun K hK => ?_) AllReadyH.nil
      go_simp
      have bA : Below w5.heap.size w5 (w5.alloc (Obj.cells #[.int .u8 ((c : Int) + 16), .int .u8 (S : Int)] 5)) := (Below.refl _ w5).alloc (Nat.le_refl _) _
      have hA : HasHd (w5.alloc (Obj.cells #[.int .u8 ((c : Int) + 16), .int .u8 (S : Int)] 5)) w.heap.size (8 * (k : Int)) S E H O G I N ∧ Below w.heap.size w (w5.alloc (Obj.cells #[.int .u8 ((c : Int) + 16), .int .u8 (S : Int)] 5)) := ⟨h5.1.keep bA h5.1.lt, h5.2.trans (bA.mono h5.2.size)⟩
      refine hK.out _ _ hA (fun _ => ?_)
      clear hK K bA
      have x0 : (w5.alloc (Obj.cells #[.int .u8 ((c : Int) + 16), .int .u8 (S : Int)] 5)).cell? ⟨w5.heap.size, 0, none⟩ = some (.int .u8 ((c : Int) + 16)) := cell_of_row _ _ 0 _ _ _ (heap_alloc_last _ _)
      have x1 : (w5.alloc (Obj.cells #[.int .u8 ((c : Int) + 16), .int .u8 (S : Int)] 5)).cell? ⟨w5.heap.size, 1, none⟩ = some (.int .u8 (S : Int)) := cell_of_row _ _ 1 _ _ _ (heap_alloc_last _ _)
      generalize World.alloc _ _ = V at hA x0 x1 ⊢
      refine wpAnyH_ready (rs := [9]) (by kernel_rfl) (by simp) ?_
      refine AllReadyH.cons rfl (fun K hK => ?_) AllReadyH.nil
      have hcv := conv_2 x0 x1
      go_simp
      refine hK.out _ _ hA (fun _ => ?_)
      clear hK K hcv
      refine wpAnyH_take (i := 13) (v := ?_) rfl (by kernel_rfl) (by kernel_rfl) (by kernel_rfl) (fun _ _ _ h => h) (Or.inl ⟨by rfl, ?_⟩) (by assumption) ?_
      rotate_left
      · intro wq hSw
        clear hSw
        go_simp
        try (with_reducible rfl)
      refine wpAnyH_take (i := 14) (v := ?_) rfl (by kernel_rfl) (by kernel_rfl) (by kernel_rfl) (fun _ _ _ h => h) (Or.inl ⟨by rfl, ?_⟩) (by assumption) ?_
      rotate_left
      · intro wq hSw
        clear hSw
        go_simp
        try (with_reducible rfl)
      refine wpAnyH_done (by kernel_rfl) ?_ _
      go_wp2_with fail
      go_meet
      exact ⟨rfl, hA⟩
  case rest =>
    obtain ⟨rfl, hn⟩ := hcut
    have HS2 := hidIn hn
    clear hn HS HFE HD r0 r1 r2
    go_upto_region 5 with fail
    have hz2 : (strOfNums [(c : Int) + 16, (S : Int)] ++ sE).size = 6 := by rw [ByteArray.size_append, hlE, strOfNums_size]; rfl
    generalize strOfNums [(c : Int) + 16, (S : Int)] ++ sE = s1 at *
    go_cut [5] (fun x wx => x = .string ((s1 ++ strOfNums [(H : Int), (O : Int), (G : Int)]) ++ sI) ∧ HasHd wx w.heap.size (8 * (k : Int)) S E H O G I N ∧ Below w.heap.size w wx)
    case first =>
      have hz5 : (strOfNums [(H : Int), (O : Int), (G : Int)]).size = 3 := by rw [strOfNums_size]; rfl
      have hz3 : (s1 ++ strOfNums [(H : Int), (O : Int), (G : Int)]).size = 9 := by rw [ByteArray.size_append, hz2, strOfNums_size]; rfl
      refine wp_region_held_drew (S := fun wx => HasHd wx w.heap.size (8 * (k : Int)) S E H O G I N ∧ Below w.heap.size w wx) (by kernel_rfl) ⟨(HS2.out.1).keep (Below.drew (Below.refl _ wc)) HS2.out.1.lt, Below.drew HS2.out.2⟩ (fun hHeld => ?_)
      have hh : HasHd wc.drew w.heap.size (8 * (k : Int)) S E H O G I N ∧ Below w.heap.size w wc.drew := hHeld
      refine wpAnyH_take (i := 0) (v := ?_) rfl (by kernel_rfl) (by kernel_rfl) (by kernel_rfl) (fun _ _ _ h => h) (Or.inl ⟨by rfl, ?_⟩) (by assumption) ?_
      rotate_left
      · intro wq hSw
        clear hSw
        go_simp
        try (with_reducible rfl)
      refine wpAnyH_take (i := 1) (v := ?_) rfl (by kernel_rfl) (by kernel_rfl) (by kernel_rfl) (fun _ _ _ h => h) (Or.inl ⟨by rfl, ?_⟩) (by assumption) ?_
      rotate_left
      · intro wq hSw
        clear hSw
        go_simp
        try (with_reducible rfl)
      refine wpAnyH_take (i := 2) (v := ?_) rfl (by kernel_rfl) (by kernel_rfl) (by kernel_rfl) (fun _ _ _ h => h) (Or.inl ⟨by rfl, ?_⟩) (by assumption) ?_
      rotate_left
      · intro wq hSw
        have q0 := hSw.1.c3
        go_simp
        try (with_reducible rfl)
      refine wpAnyH_take (i := 3) (v := ?_) rfl (by kernel_rfl) (by kernel_rfl) (by kernel_rfl) (fun _ _ _ h => h) (Or.inl ⟨by rfl, ?_⟩) (by assumption) ?_
      rotate_left
      · intro wq hSw
        clear hSw
        go_simp
        try (with_reducible rfl)
      refine wpAnyH_take (i := 4) (v := ?_) rfl (by kernel_rfl) (by kernel_rfl) (by kernel_rfl) (fun _ _ _ h => h) (Or.inl ⟨by rfl, ?_⟩) (by assumption) ?_
      rotate_left
      · intro wq hSw
        clear hSw
        go_simp
        try (with_reducible rfl)
      refine wpAnyH_take (i := 5) (v := ?_) rfl (by kernel_rfl) (by kernel_rfl) (by kernel_rfl) (fun _ _ _ h => h) (Or.inl ⟨by rfl, ?_⟩) (by assumption) ?_
      rotate_left
      · intro wq hSw
        have q0 := hSw.1.c4
        go_simp
        try (with_reducible rfl)
      refine wpAnyH_take (i := 6) (v := ?_) rfl (by kernel_rfl) (by kernel_rfl) (by kernel_rfl) (fun _ _ _ h => h) (Or.inl ⟨by rfl, ?_⟩) (by assumption) ?_
      rotate_left
      · intro wq hSw
        clear hSw
        go_simp
        try (with_reducible rfl)
      refine wpAnyH_take (i := 7) (v := ?_) rfl (by kernel_rfl) (by kernel_rfl) (by kernel_rfl) (fun _ _ _ h => h) (Or.inl ⟨by rfl, ?_⟩) (by assumption) ?_
      rotate_left
      · intro wq hSw
        clear hSw
        go_simp
        try (with_reducible rfl)
      refine wpAnyH_take (i := 8) (v := ?_) rfl (by kernel_rfl) (by kernel_rfl) (by kernel_rfl) (fun _ _ _ h => h) (Or.inl ⟨by rfl, ?_⟩) (by assumption) ?_
      rotate_left
      · intro wq hSw
        have q0 := hSw.1.c5
        go_simp
        try (with_reducible rfl)
      refine wpAnyH_take (i := 9) (v := ?_) rfl (by kernel_rfl) (by kernel_rfl) (by kernel_rfl) (fun _ _ _ h => h) (Or.inl ⟨by rfl, ?_⟩) (by assumption) ?_
      rotate_left
      · intro wq hSw
        clear hSw
        go_simp
        try (with_reducible rfl)
      refine wpAnyH_take (i := 13) (v := ?_) rfl (by kernel_rfl) (by kernel_rfl) (by kernel_rfl) (fun _ _ _ h => h) (Or.inl ⟨by rfl, ?_⟩) (by assumption) ?_
      rotate_left
      · intro wq hSw
        clear hSw
        go_simp
        try (with_reducible rfl)
      refine wpAnyH_take (i := 14) (v := ?_) rfl (by kernel_rfl) (by kernel_rfl) (by kernel_rfl) (fun _ _ _ h => h) (Or.inl ⟨by rfl, ?_⟩) (by assumption) ?_
      rotate_left
      · intro wq hSw
        have q0 := hSw.1.c6
        go_simp
        try (with_reducible rfl)
      refine wpAnyH_ready (rs := [10, 15]) (by kernel_rfl) (by simp) ?_
      refine AllReadyH.cons rfl (fun K hK => ?_) ?_
      · go_simp
        have bA : Below wc.heap.size wc (wc.alloc (Obj.cells #[.int .u8 (H : Int), .int .u8 (O : Int), .int .u8 (G : Int)] 5)).drew := Below.drew ((Below.refl _ wc).alloc (Nat.le_refl _) _)
        have hA : HasHd (wc.alloc (Obj.cells #[.int .u8 (H : Int), .int .u8 (O : Int), .int .u8 (G : Int)] 5)).drew w.heap.size (8 * (k : Int)) S E H O G I N ∧ Below w.heap.size w (wc.alloc (Obj.cells #[.int .u8 (H : Int), .int .u8 (O : Int), .int .u8 (G : Int)] 5)).drew := ⟨(HS2.out).1.keep bA (HS2.out).1.lt, (HS2.out).2.trans (bA.mono (HS2.out).2.size)⟩
        refine hK.out _ _ hA (fun _ => ?_)
        clear hK K bA
        have x0 : ((wc.alloc (Obj.cells #[.int .u8 (H : Int), .int .u8 (O : Int), .int .u8 (G : Int)] 5)).drew).cell? ⟨wc.heap.size, 0, none⟩ = some (.int .u8 (H : Int)) := cell_of_row _ _ 0 _ _ _ (heap_alloc_last _ _)
        have x1 : ((wc.alloc (Obj.cells #[.int .u8 (H : Int), .int .u8 (O : Int), .int .u8 (G : Int)] 5)).drew).cell? ⟨wc.heap.size, 1, none⟩ = some (.int .u8 (O : Int)) := cell_of_row _ _ 1 _ _ _ (heap_alloc_last _ _)
        have x2 : ((wc.alloc (Obj.cells #[.int .u8 (H : Int), .int .u8 (O : Int), .int .u8 (G : Int)] 5)).drew).cell? ⟨wc.heap.size, 2, none⟩ = some (.int .u8 (G : Int)) := cell_of_row _ _ 2 _ _ _ (heap_alloc_last _ _)
        generalize World.drew (World.alloc _ _) = V at hA x0 x1 x2 ⊢
        have g0 : wc.heap.size < V.heap.size := block_lt_of_cell x0
        refine wpAnyH_ready (rs := [11, 15]) (by kernel_rfl) (by simp) ?_
        refine AllReadyH.cons rfl (fun K hK => ?_) ?_
        · skip
          have hcv := conv_3 x0 x1 x2
          go_simp
          refine hK.out _ _ hA (fun _ => ?_)
          clear hK K hcv
          refine wpAnyH_take (i := 12) (v := ?_) rfl (by kernel_rfl) (by kernel_rfl) (by kernel_rfl) (fun _ _ _ h => h) (Or.inl ⟨by rfl, ?_⟩) (by assumption) ?_
          rotate_left
          · intro wq hSw
            clear hSw
            go_simp
            try (with_reducible rfl)
          refine wpAnyH_ready (rs := [15]) (by kernel_rfl) (by simp) ?_
          refine AllReadyH.cons rfl (fun K hK => ?_) AllReadyH.nil
          go_simp
          refine (HFI.out _).mono ?_
          rintro e w5 ⟨rfl, hb5⟩
          have h5 : HasHd w5 w.heap.size (8 * (k : Int)) S E H O G I N ∧ Below w.heap.size w w5 := ⟨(hA).1.keep hb5 (hA).1.lt, (hA).2.trans (hb5.mono (hA).2.size)⟩
          refine hK.out _ _ h5 (fun _ => ?_)
          clear hK K
          refine wpAnyH_take (i := 16) (v := ?_) rfl (by kernel_rfl) (by kernel_rfl) (by kernel_rfl) (fun _ _ _ h => h) (Or.inl ⟨by rfl, ?_⟩) (by assumption) ?_
          rotate_left
          · intro wq hSw
            clear hSw
            go_simp
            try (with_reducible rfl)
          refine wpAnyH_take (i := 17) (v := ?_) rfl (by kernel_rfl) (by kernel_rfl) (by kernel_rfl) (fun _ _ _ h => h) (Or.inl ⟨by rfl, ?_⟩) (by assumption) ?_
          rotate_left
          · intro wq hSw
            clear hSw
            go_simp
            try (with_reducible rfl)
          refine wpAnyH_done (by kernel_rfl) ?_ _
          go_wp2_with fail
          go_meet
          exact ⟨rfl, h5⟩
        · refine AllReadyH.cons rfl (fun K hK => ?_) AllReadyH.nil
          go_simp
          refine (HFI.out _).mono ?_
          rintro e w5 ⟨rfl, hb5⟩
          have h5 : HasHd w5 w.heap.size (8 * (k : Int)) S E H O G I N ∧ Below w.heap.size w w5 := ⟨(hA).1.keep hb5 (hA).1.lt, (hA).2.trans (hb5.mono (hA).2.size)⟩
          refine hK.out _ _ h5 (fun _ => ?_)
          clear hK K
          replace x0 := (hb5.cell (p := ⟨wc.heap.size, 0, none⟩) g0).trans x0
          replace x1 := (hb5.cell (p := ⟨wc.heap.size, 1, none⟩) g0).trans x1
          replace x2 := (hb5.cell (p := ⟨wc.heap.size, 2, none⟩) g0).trans x2
          refine wpAnyH_ready (rs := [11]) (by kernel_rfl) (by simp) ?_
          refine AllReadyH.cons rfl (fun K hK => ?_) AllReadyH.nil
          have hcv := conv_3 x0 x1 x2
          go_simp
          refine hK.out _ _ h5 (fun _ => ?_)
          clear hK K hcv
          refine wpAnyH_take (i := 12) (v := ?_) rfl (by kernel_rfl) (by kernel_rfl) (by kernel_rfl) (fun _ _ _ h => h) (Or.inl ⟨by rfl, ?_⟩) (by assumption) ?_
          rotate_left
          · intro wq hSw
            clear hSw
            go_simp
            try (with_reducible rfl)
          refine wpAnyH_take (i := 16) (v := ?_) rfl (by kernel_rfl) (by kernel_rfl) (by kernel_rfl) (fun _ _ _ h => h) (Or.inl ⟨by rfl, ?_⟩) (by assumption) ?_
          rotate_left
          · intro wq hSw
            clear hSw
            go_simp
            try (with_reducible rfl)
          refine wpAnyH_take (i := 17) (v := ?_) rfl (by kernel_rfl) (by kernel_rfl) (by kernel_rfl) (fun _ _ _ h => h) (Or.inl ⟨by rfl, ?_⟩) (by assumption) ?_
          rotate_left
          · intro wq hSw
            clear hSw
            go_simp
            try (with_reducible rfl)
          refine wpAnyH_done (by kernel_rfl) ?_ _
          go_wp2_with fail
          go_meet
          exact ⟨rfl, h5⟩
      · refine AllReadyH.cons rfl (fun K hK => ?_) AllReadyH.nil
        go_simp
        refine (HFI.out _).mono ?_
        rintro e w5 ⟨rfl, hb5⟩
        have h5 : HasHd w5 w.heap.size (8 * (k : Int)) S E H O G I N ∧ Below w.heap.size w w5 := ⟨(hh).1.keep hb5 (hh).1.lt, (hh).2.trans (hb5.mono (hh).2.size)⟩
        refine hK.out _ _ h5 (fun _ => ?_)
        clear hK K
        refine wpAnyH_ready (rs := [10]) (by kernel_rfl) (by simp) ?_
        refine AllReadyH.cons rfl (fun K hK => ?_) AllReadyH.nil
        go_simp
        have bA : Below w5.heap.size w5 (w5.alloc (Obj.cells #[.int .u8 (H : Int), .int .u8 (O : Int), .int .u8 (G : Int)] 5)) := (Below.refl _ w5).alloc (Nat.le_refl _) _
        have hA : HasHd (w5.alloc (Obj.cells #[.int .u8 (H : Int), .int .u8 (O : Int), .int .u8 (G : Int)] 5)) w.heap.size (8 * (k : Int)) S E H O G I N ∧ Below w.heap.size w (w5.alloc (Obj.cells #[.int .u8 (H : Int), .int .u8 (O : Int), .int .u8 (G : Int)] 5)) := ⟨h5.1.keep bA h5.1.lt, h5.2.trans (bA.mono h5.2.size)⟩
        refine hK.out _ _ hA (fun _ => ?_)
        clear hK K bA
        have x0 : (w5.alloc (Obj.cells #[.int .u8 (H : Int), .int .u8 (O : Int), .int .u8 (G : Int)] 5)).cell? ⟨w5.heap.size, 0, none⟩ = some (.int .u8 (H : Int)) := cell_of_row _ _ 0 _ _ _ (heap_alloc_last _ _)
        have x1 : (w5.alloc (Obj.cells #[.int .u8 (H : Int), .int .u8 (O : Int), .int .u8 (G : Int)] 5)).cell? ⟨w5.heap.size, 1, none⟩ = some (.int .u8 (O : Int)) := cell_of_row _ _ 1 _ _ _ (heap_alloc_last _ _)
        have x2 : (w5.alloc (Obj.cells #[.int .u8 (H : Int), .int .u8 (O : Int), .int .u8 (G : Int)] 5)).cell? ⟨w5.heap.size, 2, none⟩ = some (.int .u8 (G : Int)) := cell_of_row _ _ 2 _ _ _ (heap_alloc_last _ _)
        generalize World.alloc _ _ = V at hA x0 x1 x2 ⊢
        refine wpAnyH_ready (rs := [11]) (by kernel_rfl) (by simp) ?_
        refine AllReadyH.cons rfl (fun K hK => ?_) AllReadyH.nil
        have hcv := conv_3 x0 x1 x2
        go_simp
        refine hK.out _ _ hA (fun _ => ?_)
        clear hK K hcv
        refine wpAnyH_take (i := 12) (v := ?_) rfl (by kernel_rfl) (by kernel_rfl) (by kernel_rfl) (fun _ _ _ h => h) (Or.inl ⟨by rfl, ?_⟩) (by assumption) ?_
        rotate_left
        · intro wq hSw
          clear hSw
          go_simp
          try (with_reducible rfl)
        refine wpAnyH_take (i := 16) (v := ?_) rfl (by kernel_rfl) (by kernel_rfl) (by kernel_rfl) (fun _ _ _ h => h) (Or.inl ⟨by rfl, ?_⟩) (by assumption) ?_
        rotate_left
        · intro wq hSw
          clear hSw
          go_simp
          try (with_reducible rfl)
        refine wpAnyH_take (i := 17) (v := ?_) rfl (by kernel_rfl) (by kernel_rfl) (by kernel_rfl) (fun _ _ _ h => h) (Or.inl ⟨by rfl, ?_⟩) (by assumption) ?_
        rotate_left
        · intro wq hSw
          clear hSw
          go_simp
          try (with_reducible rfl)
        refine wpAnyH_done (by kernel_rfl) ?_ _
        go_wp2_with fail
        go_meet
        exact ⟨rfl, hA⟩
    case rest =>
      have hz4 : (s1 ++ strOfNums [(H : Int), (O : Int), (G : Int)] ++ sI).size = 13 := by rw [ByteArray.size_append, ByteArray.size_append, hz2, hlI, strOfNums_size]; rfl
      obtain ⟨rfl, hn, hB⟩ := hcut
      generalize s1 ++ strOfNums [(H : Int), (O : Int), (G : Int)] ++ sI = s2 at *
      clear HS2 HFI r3 r4 r5 hz2 hlI hlE hc5 hS hH hO hG
      have c0 := hn.c0
      have c7 := hn.c7
      have c8 := hn.c8
      have c9 := hn.c9
      have ca := hn.ca
      go_wp2_with fail
      refine (HY.out _).mono ?_
      rintro e w7 ⟨rfl, hb7⟩
      have hB7 : Below w.heap.size w w7 := hB.trans (hb7.mono hB.size)
      clear HY hb7 c0 c7 c8 c9 ca hn hB
      go_wp2_with fail
      rw [HB.out]
      refine (Wi.rseal_any B (by omega) _).mono ?_
      rintro e w8 ⟨rfl, hb8⟩
      go_wp2
      go_ret2
      exact ⟨rfl, hB7.trans (hb8.mono hB7.size)⟩
theorem rencode_bad (W S E H O G I : Int) (N : Nat) (hN : N < 2 ^ 256) (hok : ¬ OkH W S H O G N) (w : World) :
    Calls Tryd.prog 12 #[hd W S E H O G I N] w fun e w' => e = .returned (.tuple #[.string ⟨#[]⟩, .int .i64 2]) ∧ Below w.heap.size w w' := by
  have HC := hidIn (rcheck_bad W S E H O G I N hN hok)
  clear hok
  go_enter Tryd.func12, Tryd.ntmps12
  go_wp2_with fail
  refine (HC.out _).mono ?_
  rintro e w1 ⟨rfl, hb1⟩
  go_wp2
  go_ret2
  exact ⟨rfl, ((Below.refl _ w).alloc (Nat.le_refl _) _).trans (hb1.mono (by simp))⟩
end Go.Proofs.YtgfmlonhjmdfjaaDoor
namespace Go.Proofs.YtgfmlonhjmdfjaaDoor
open Go.RowKit

/-- A header that may be, as plain numbers. -/
structure Good (c S E H O G I N k : Nat) : Prop where
  hc : c ≤ 5
  hk : 2 ^ c = k
  hS : S < 128
  hE : E < 4294967296
  hH : H < 16
  hO : 1 ≤ O
  hO' : O ≤ 24
  hG : G < 8
  hI : I < 4294967296
  hN : N < 2 ^ (8 * k)
variable {c S E H O G I N k : Nat}
theorem Good.k_bd (h : Good c S E H O G I N k) : 1 ≤ k ∧ k ≤ 32 := by
  have := Go.Proofs.YtgfmlonhjmdfjaaDoor.k_bd h.hc
  rw [h.hk] at this
  exact this
theorem Good.n256 (h : Good c S E H O G I N k) : N < 2 ^ 256 :=
  Nat.lt_of_lt_of_le h.hN (Nat.pow_le_pow_right (by decide) (by have := h.k_bd; omega))
theorem Good.isW (h : Good c S E H O G I N k) : IsW (8 * (k : Int)) := by
  have := isW_k h.hc
  rw [h.hk] at this
  exact this
theorem Good.ok (h : Good c S E H O G I N k) : OkH (8 * (k : Int)) S H O G N := by
  have hb : bl N ≤ 8 * k := bl_le.2 h.hN
  have h1 := h.hS; have h2 := h.hH; have h3 := h.hO; have h4 := h.hO'; have h5 := h.hG
  refine ⟨h.isW, ?_, ?_, ?_, ?_, ?_⟩ <;> omega
theorem Good.cOf (h : Good c S E H O G I N k) : cOf (8 * (k : Int)) = c := by
  have := cOf_k h.hc
  rw [h.hk] at this
  exact this
/-- The sealed bytes. -/
def encS (c S E H O G I N k : Nat) : ByteArray := Wi.sealS (bodyS c S E H O G I N k)
theorem encS_size (c S E H O G I N k : Nat) : (encS c S E H O G I N k).size = 15 + k := by
  unfold encS
  rw [Wi.sealS_size, bodyS_size]
  omega
theorem first_eq (s : ByteArray) (h : 0 < s.size) : s[0].toNat = Wi.tk s 0 1 := by
  rw [tk1, Wi.byteAt s 0 h]
theorem encS_data (c S E H O G I N k : Nat) : ∃ r, (encS c S E H O G I N k).data.toList = UInt8.ofNat ((16 + c) % 256) :: r := by
  unfold encS
  rw [Wi.sealS_data]
  unfold Wi.sealed
  rw [bodyS_data]
  exact ⟨_, rfl⟩
theorem encS_first (hc : c ≤ 5) (h : 0 < (encS c S E H O G I N k).size) : (encS c S E H O G I N k)[0].toNat = 16 + c := by
  obtain ⟨r, hr⟩ := encS_data c S E H O G I N k
  rw [first_eq _ h, tk1, hr, List.getD_cons_zero, u8_mod]
  omega
theorem encS_more (hc : c ≤ 5) (h : 0 < (encS c S E H O G I N k ++ ⟨#[0]⟩).size) : (encS c S E H O G I N k ++ ⟨#[0]⟩)[0].toNat = 16 + c := by
  obtain ⟨r, hr⟩ := encS_data c S E H O G I N k
  rw [first_eq _ h, tk1, Wi.app_toList, hr, List.cons_append, List.getD_cons_zero, u8_mod]
  omega
theorem encS_less (hc : c ≤ 5) (n : Nat) (hn : 0 < n) (h : 0 < ((encS c S E H O G I N k).extract 0 n).size) : ((encS c S E H O G I N k).extract 0 n)[0].toNat = 16 + c := by
  obtain ⟨r, hr⟩ := encS_data c S E H O G I N k
  obtain ⟨m, rfl⟩ : ∃ m, n = m + 1 := ⟨n - 1, by omega⟩
  rw [first_eq _ h, tk1, extract_data, hr, List.drop_zero, List.take_succ_cons, List.getD_cons_zero, u8_mod]
  omega
theorem enc_good (h : Good c S E H O G I N k) (w : World) (ht : Wid w) :
    Calls Tryd.prog 11 #[hd (8 * (k : Int)) S E H O G I N] w fun e w' => e = .returned (.tuple #[.string (encS c S E H O G I N k), .int .i64 0]) ∧ Below w.heap.size w w' :=
  encode_ok c S E H O G I N k h.cOf h.ok h.hE h.hI h.n256 w ht
theorem okB_good (h : Good c S E H O G I N k) : OkB (bodyS c S E H O G I N k) k := by
  obtain ⟨_, t1, t2, t3, t4, t5, t6⟩ := body_tk c S E H O G I N k h.hc (by have := h.hS; omega) h.hE (by have := h.hH; omega) (by have := h.hO'; omega) (by have := h.hG; omega) h.hI
  unfold OkB
  rw [t1, t3, t4, t5, body_dN c S E H O G I N k h.hN]
  exact h.ok
theorem dec_good (h : Good c S E H O G I N k) (w : World) (ht : Wid w) :
    Calls Tryd.prog 18 #[.string (encS c S E H O G I N k)] w fun e w' => e = .returned (.tuple #[hd (8 * (k : Int)) S E H O G I N, .int .i64 0]) ∧ Below w.heap.size w w' := by
  obtain ⟨_, t1, t2, t3, t4, t5, t6⟩ := body_tk c S E H O G I N k h.hc (by have := h.hS; omega) h.hE (by have := h.hH; omega) (by have := h.hO'; omega) (by have := h.hG; omega) h.hI
  have hs := encS_size c S E H O G I N k
  have hk := h.hk
  have := decode_ok' (encS c S E H O G I N k) (bodyS c S E H O G I N k) c h.hc (by omega) (encS_first h.hc _) (by omega) rfl (by rw [h.hk]; exact okB_good h) w ht
  rw [t1, t2, t3, t4, t5, t6, h.hk, body_dN c S E H O G I N k h.hN] at this
  exact this
theorem dec_more (h : Good c S E H O G I N k) (w : World) (ht : Wid w) :
    Calls Tryd.prog 18 #[.string (encS c S E H O G I N k ++ ⟨#[0]⟩)] w fun e w' => e = .returned (.tuple #[hd0, .int .i64 4]) ∧ Below w.heap.size w w' := by
  have hs := encS_size c S E H O G I N k
  have hs2 := app_size (encS c S E H O G I N k) ⟨#[0]⟩
  have h1 : (⟨#[0]⟩ : ByteArray).size = 1 := rfl
  have hk := h.hk
  exact decode_len _ c h.hc (by omega) (encS_more h.hc _) (by omega) w ht
theorem dec_less (h : Good c S E H O G I N k) (w : World) (ht : Wid w) :
    Calls Tryd.prog 18 #[.string ((encS c S E H O G I N k).extract 0 (14 + k))] w fun e w' => e = .returned (.tuple #[hd0, .int .i64 4]) ∧ Below w.heap.size w w' := by
  have hs := encS_size c S E H O G I N k
  have hs2 : ((encS c S E H O G I N k).extract 0 (14 + k)).size = 14 + k := by simp; omega
  have hk := h.hk
  exact decode_len _ c h.hc (by omega) (encS_less h.hc _ (by omega) _) (by omega) w ht
end Go.Proofs.YtgfmlonhjmdfjaaDoor
namespace Go.Proofs.YtgfmlonhjmdfjaaDoor
open Go.RowKit

theorem HasHd.putAll {w : World} {b : Nat} {W S E H O G I : Int} {N : Nat} (h : HasHd w b W S E H O G I N) (W' S' E' H' O' G' I' : Int) (N' : Nat) : HasHd (World.putHd w b W' S' E' H' O' G' I' (wd N' 0) (wd N' 1) (wd N' 2) (wd N' 3)) b W' S' E' H' O' G' I' N' := by
  obtain ⟨c0, c1, c2, c3, c4, c5, c6, c7, c8, c9, ca, f0, f1, f2, f3, f4, f5, f6, f7, f8, f9, fa, lt⟩ := h
  refine ⟨?_, ?_, ?_, ?_, ?_, ?_, ?_, ?_, ?_, ?_, ?_, ?_, ?_, ?_, ?_, ?_, ?_, ?_, ?_, ?_, ?_, ?_, ?_⟩
  all_goals simp [*, go_sem]
theorem eq_self (W S E H O G I : Int) (N : Nat) (hN : N < 2 ^ 256) (w : World) : (Op.equalIn 10000 27 (hd W S E H O G I N) (hd W S E H O G I N)).run Tryd.prog w = Result.ok true w := by
  rw [eq_hd _ _ _ _ _ _ _ _ _ _ _ _ _ _ _ _ hN hN]
  simp
theorem wpk (k : Nat) : 15 + (k : Int) = ((15 + k : Nat) : Int) := by omega

end Go.Proofs.YtgfmlonhjmdfjaaDoor
namespace Go.Proofs.YtgfmlonhjmdfjaaDoor
open Go.RowKit

theorem check_both (W S E H O G I : Int) (N : Nat) (hN : N < 2 ^ 256) : ∃ r : Int, (∀ w, Wid w → Calls Tryd.prog 5 #[hd W S E H O G I N] w fun e w' => e = .returned (.int .i64 r) ∧ Below w.heap.size w w') ∧
    (∀ w, Calls Tryd.prog 6 #[hd W S E H O G I N] w fun e w' => e = .returned (.int .i64 r) ∧ Below w.heap.size w w') := by
  by_cases h : OkH W S H O G N
  · exact ⟨0, fun w ht => check_ok W S E H O G I N hN h w ht, fun w => rcheck_ok W S E H O G I N hN h w⟩
  · exact ⟨2, fun w ht => check_bad W S E H O G I N hN h w ht, fun w => rcheck_bad W S E H O G I N hN h w⟩
theorem wide_both (W : Int) : ∃ r : Bool, (∀ w, Wid w → Calls Tryd.prog 7 #[.int .i64 W] w fun e w' => e = .returned (.bool r) ∧ Below w.heap.size w w') ∧
    (∀ w, Calls Tryd.prog 8 #[.int .i64 W] w fun e w' => e = .returned (.bool r) ∧ Below w.heap.size w w') := by
  by_cases h : IsW W
  · exact ⟨true, fun w ht => wide_yes_b W h w ht, fun w => (rwide_yes W h w).mono fun e w' ⟨he, hw⟩ => ⟨he, hw ▸ Below.refl _ _⟩⟩
  · exact ⟨false, fun w ht => wide_no_b W h w ht, fun w => (rwide_no W h w).mono fun e w' ⟨he, hw⟩ => ⟨he, hw ▸ Below.refl _ _⟩⟩
theorem size_both (W : Int) : ∃ n x : Int, (∀ w, Wid w → Calls Tryd.prog 9 #[.int .i64 W] w fun e w' => e = .returned (.tuple #[.int .i64 n, .int .i64 x]) ∧ w' = w) ∧
    (∀ w, Calls Tryd.prog 10 #[.int .i64 W] w fun e w' => e = .returned (.tuple #[.int .i64 n, .int .i64 x]) ∧ w' = w) := by
  by_cases h : IsW W
  · exact ⟨_, _, fun w ht => size_yes W h w ht, fun w => rsize_yes W h w⟩
  · exact ⟨_, _, fun w ht => size_no W h w ht, fun w => rsize_no W h w⟩
theorem enc_both (W S E H O G I : Int) (N : Nat) (hN : N < 2 ^ 256) (hE : 0 ≤ E ∧ E < 4294967296) (hI : 0 ≤ I ∧ I < 4294967296) : ∃ (s : ByteArray) (x : Int), (∀ w, Wid w → Calls Tryd.prog 11 #[hd W S E H O G I N] w fun e w' => e = .returned (.tuple #[.string s, .int .i64 x]) ∧ Below w.heap.size w w') ∧
    (∀ w, Calls Tryd.prog 12 #[hd W S E H O G I N] w fun e w' => e = .returned (.tuple #[.string s, .int .i64 x]) ∧ Below w.heap.size w w') := by
  by_cases h : OkH W S H O G N
  · obtain ⟨k, rfl⟩ : ∃ k : Nat, W = 8 * (k : Int) := by
      have := h.1
      unfold IsW at this
      exact ⟨(W / 8).toNat, by omega⟩
    obtain ⟨E, rfl⟩ := Int.eq_ofNat_of_zero_le hE.1
    obtain ⟨I, rfl⟩ := Int.eq_ofNat_of_zero_le hI.1
    obtain ⟨S, rfl⟩ := Int.eq_ofNat_of_zero_le h.2.2.1.1
    obtain ⟨H, rfl⟩ := Int.eq_ofNat_of_zero_le h.2.2.2.1.1
    obtain ⟨O, rfl⟩ := Int.eq_ofNat_of_zero_le (show 0 ≤ O by have := h.2.2.2.2.1; omega)
    obtain ⟨G, rfl⟩ := Int.eq_ofNat_of_zero_le h.2.2.2.2.2.1
    obtain ⟨c, hc⟩ := Int.eq_ofNat_of_zero_le (cOf_bd (8 * (k : Int))).1
    exact ⟨_, _, fun w ht => encode_ok c S E H O G I N k hc h (by omega) (by omega) hN w ht, fun w => rencode_ok c S E H O G I N k hc h (by omega) (by omega) hN w⟩
  · exact ⟨_, _, fun w ht => encode_bad W S E H O G I N hN h w ht, fun w => rencode_bad W S E H O G I N hN h w⟩
theorem hop_both (W S E H O G I : Int) (N : Nat) (hN : N < 2 ^ 256) : ∃ (W' S' E' H' O' G' I' : Int) (N' : Nat) (x : Int), N' < 2 ^ 256 ∧ (∀ w, Wid w → Calls Tryd.prog 13 #[hd W S E H O G I N] w fun e w' => e = .returned (.tuple #[hd W' S' E' H' O' G' I' N', .int .i64 x]) ∧ Below w.heap.size w w') ∧
    (∀ w, Calls Tryd.prog 14 #[hd W S E H O G I N] w fun e w' => e = .returned (.tuple #[hd W' S' E' H' O' G' I' N', .int .i64 x]) ∧ Below w.heap.size w w') := by
  by_cases h : OkH W S H O G N
  · by_cases hH : H = 0
    · subst hH
      refine ⟨0, 0, 0, 0, 0, 0, 0, 0, 6, Nat.two_pow_pos 256, ?_, ?_⟩
      · rw [hd0_eq]; exact fun w ht => hop_none W S E O G I N hN h w ht
      · rw [hd0_eq]; exact fun w => rhop_none W S E O G I N hN h w
    · have hH1 : 1 ≤ H := by have := h.2.2.2.1; omega
      exact ⟨_, _, _, _, _, _, _, N, _, hN, fun w ht => hop_ok W S E H O G I N hN h hH1 w ht, fun w => rhop_ok W S E H O G I N hN h hH1 w⟩
  · refine ⟨0, 0, 0, 0, 0, 0, 0, 0, 2, Nat.two_pow_pos 256, ?_, ?_⟩
    · rw [hd0_eq]; exact fun w ht => hop_bad W S E H O G I N hN h w ht
    · rw [hd0_eq]; exact fun w => rhop_bad W S E H O G I N hN h w
theorem with_both (W S E H O G I : Int) (N M : Nat) (hN : N < 2 ^ 256) (hM : M < 2 ^ 256) : ∃ (W' S' E' H' O' G' I' : Int) (N' : Nat) (x : Int), N' < 2 ^ 256 ∧ (∀ w, Wid w → Calls Tryd.prog 15 #[hd W S E H O G I N, bs M] w fun e w' => e = .returned (.tuple #[hd W' S' E' H' O' G' I' N', .int .i64 x]) ∧ Below w.heap.size w w') ∧
    (∀ w, Calls Tryd.prog 16 #[hd W S E H O G I N, bs M] w fun e w' => e = .returned (.tuple #[hd W' S' E' H' O' G' I' N', .int .i64 x]) ∧ Below w.heap.size w w') := by
  by_cases h : OkH W S H O G N
  · by_cases hl : (bl M : Int) ≤ W
    · exact ⟨_, _, _, _, _, _, _, M, _, hM, fun w ht => with_ok W S E H O G I N M hN hM h hl w ht, fun w => rwith_ok W S E H O G I N M hN hM h hl w⟩
    · refine ⟨0, 0, 0, 0, 0, 0, 0, 0, 3, Nat.two_pow_pos 256, ?_, ?_⟩
      · rw [hd0_eq]; exact fun w ht => with_long W S E H O G I N M hN hM h (by omega) w ht
      · rw [hd0_eq]; exact fun w => rwith_long W S E H O G I N M hN hM h (by omega) w
  · refine ⟨0, 0, 0, 0, 0, 0, 0, 0, 2, Nat.two_pow_pos 256, ?_, ?_⟩
    · rw [hd0_eq]; exact fun w ht => with_bad W S E H O G I N M hN h w ht
    · rw [hd0_eq]; exact fun w => rwith_bad W S E H O G I N M hN h w

/-- The law's header and bit string stand. -/
structure TlInv (w V : World) (W S E H O G I : Int) (N M : Nat) : Prop where
  v : HasHd V w.heap.size W S E H O G I N
  m : HasBs V (w.heap.size + 1) M
  b : Below w.heap.size w V
  s : w.heap.size + 2 ≤ V.heap.size
theorem TlInv.grow {w V V' : World} {W S E H O G I : Int} {N M : Nat} (h : TlInv w V W S E H O G I N M) (hb : Below V.heap.size V V') : TlInv w V' W S E H O G I N M :=
  ⟨h.v.keep hb h.v.lt, h.m.keep hb h.m.lt, h.b.trans (hb.mono h.b.size), Nat.le_trans h.s hb.size⟩
theorem TlInv.alloc {w V : World} {W S E H O G I : Int} {N M : Nat} (h : TlInv w V W S E H O G I N M) (o : Obj) : TlInv w (V.alloc o) W S E H O G I N M := h.grow ((Below.refl _ V).alloc (Nat.le_refl _) o)
theorem below_ph {B b : Nat} {w : World} (hB : B ≤ b) (W S E H O G I a0 a1 a2 a3 : Int) : Below B w (World.putHd w b W S E H O G I a0 a1 a2 a3) := below_putHd (Below.refl _ w) hB _ _ _ _ _ _ _ _ _ _ _
theorem HasHd.putOther {w : World} {b c : Nat} {W S E H O G I : Int} {N : Nat} (h : HasHd w b W S E H O G I N) (hc : c ≠ b) (W' S' E' H' O' G' I' a0 a1 a2 a3 : Int) : HasHd (World.putHd w c W' S' E' H' O' G' I' a0 a1 a2 a3) b W S E H O G I N :=
  ((((((((((h.other hc 0 (.int .i64 W')).other hc 1 (.int .i64 S')).other hc 2 (.int .u32 E')).other hc 3 (.int .i64 H')).other hc 4 (.int .i64 O')).other hc 5 (.int .i64 G')).other hc 6 (.int .u32 I')).other hc 7 (.int .u64 a0)).other hc 8 (.int .u64 a1)).other hc 9 (.int .u64 a2)).other hc 10 (.int .u64 a3)
theorem TlInv.put {w V : World} {W S E H O G I : Int} {N M b : Nat} (h : TlInv w V W S E H O G I N M) (hb : w.heap.size + 2 ≤ b) (W' S' E' H' O' G' I' a0 a1 a2 a3 : Int) : TlInv w (World.putHd V b W' S' E' H' O' G' I' a0 a1 a2 a3) W S E H O G I N M := by
  have hp := below_ph (w := V) hb W' S' E' H' O' G' I' a0 a1 a2 a3
  exact ⟨h.v.keep hp (by omega), h.m.keep hp (by omega), h.b.trans (hp.mono (by omega)), Nat.le_trans h.s hp.size⟩

set_option maxRecDepth 100000 in
set_option maxHeartbeats 4000000 in
theorem tells_walk (W S E H O G I : Int) (N M : Nat) (V : Int) (hN : N < 2 ^ 256) (hM : M < 2 ^ 256) (hE : 0 ≤ E ∧ E < 4294967296) (hI : 0 ≤ I ∧ I < 4294967296) (_wV : (Lit.int .i64 V).wf = true) (w : World) (ht : Wid w) :
    Calls Tryd.prog 3 #[hd W S E H O G I N, bs M, .int .i64 V] w fun e w' => e = .returned (.bool true) ∧ Below w.heap.size w w' := by
  obtain ⟨r, hC1, hC2⟩ := check_both W S E H O G I N hN
  obtain ⟨u, hU1, hU2⟩ := wide_both V
  obtain ⟨n, x1, hZ1, hZ2⟩ := size_both V
  obtain ⟨s, x2, hE1, hE2⟩ := enc_both W S E H O G I N hN hE hI
  obtain ⟨W3, S3, E3, H3, O3, G3, I3, N3, x3, hN3, hH1, hH2⟩ := hop_both W S E H O G I N hN
  obtain ⟨W4, S4, E4, H4, O4, G4, I4, N4, x4, hN4, hW1, hW2⟩ := with_both W S E H O G I N M hN hM
  have HC1 := hidIn hC1
  have HC2 := hidIn hC2
  have HU1 := hidIn hU1
  have HU2 := hidIn hU2
  have HZ1 := hidIn hZ1
  have HZ2 := hidIn hZ2
  have HE1 := hidIn hE1
  have HE2 := hidIn hE2
  have HH1 := hidIn hH1
  have HH2 := hidIn hH2
  have HW1 := hidIn hW1
  have HW2 := hidIn hW2
  have q3 := eq_self W3 S3 E3 H3 O3 G3 I3 N3 hN3
  have q4 := eq_self W4 S4 E4 H4 O4 G4 I4 N4 hN4
  clear hC1 hC2 hU1 hU2 hZ1 hZ2 hE1 hE2 hH1 hH2 hW1 hW2 hN3 hN4 hE hI hN hM
  unfold bs
  have i0 : TlInv w ((w.alloc (hob W S E H O G I N)).alloc (.cells #[.int .u64 (wd M 0), .int .u64 (wd M 1), .int .u64 (wd M 2), .int .u64 (wd M 3)] 25)) W S E H O G I N M := by
    have hm := hasBs_new (w.alloc (hob W S E H O G I N)) M
    rw [World.size_alloc] at hm
    exact ⟨(hasHd_new w W S E H O G I N).keep (B := w.heap.size + 1) (by go_grown) (Nat.lt_succ_self _), hm, by go_grown, by simp⟩
  have ht0 := ht.keep i0.b
  have k0 := cell_regrown i0.v.c0
  have k1 := cell_regrown i0.v.c1
  have k2 := cell_regrown i0.v.c2
  have k3 := cell_regrown i0.v.c3
  have k4 := cell_regrown i0.v.c4
  have k5 := cell_regrown i0.v.c5
  have k6 := cell_regrown i0.v.c6
  have k7 := cell_regrown i0.v.c7
  have k8 := cell_regrown i0.v.c8
  have k9 := cell_regrown i0.v.c9
  have ka := cell_regrown i0.v.ca
  have hrr : (r != r) = false := by simp
  have huu : (u != u) = false := by simp
  go_enter Tryd.func3, Tryd.ntmps3
  go_wp2_with fail
  refine wp_region_quiet_below (by kernel_rfl) (by kernel_rfl) ?_
  repeat (go_big_quiet_step (first
    | (go_at_call 5; exact Calls.regrown_of (HC1.out _ (ht0.keep (below_regrown _ _ _))))
    | (go_at_call 6; exact Calls.regrown_of (HC2.out _))
    | (go_at_call 7; exact Calls.regrown_of (HU1.out _ (ht0.keep (below_regrown _ _ _))))
    | (go_at_call 8; exact Calls.regrown_of (HU2.out _))))
  refine wpQuiet_nil ?_
  intro _ hw'
  obtain ⟨⟨dq, osq⟩, hw''⟩ := hw'
  subst hw''
  have i1 := i0.grow (below_regrown _ dq osq)
  generalize Go.Sort.grow (redrawn _ dq) osq = V1 at i1 ⊢
  clear k0 k1 k2 k3 k4 k5 k6 k7 k8 k9 ka hrr huu ht0 i0 HC1 HC2 HU1 HU2
  go_wp2_with fail
  refine (HZ1.out _ (ht.keep i1.b)).mono ?_
  rintro e w' ⟨rfl, hw⟩
  rw [hw]
  clear hw w'
  go_wp2_with fail
  refine (HZ2.out _).mono ?_
  rintro e w' ⟨rfl, hw⟩
  rw [hw]
  clear hw w' HZ1 HZ2
  have c0 := i1.v.c0
  have c1 := i1.v.c1
  have c2 := i1.v.c2
  have c3 := i1.v.c3
  have c4 := i1.v.c4
  have c5 := i1.v.c5
  have c6 := i1.v.c6
  have c7 := i1.v.c7
  have c8 := i1.v.c8
  have c9 := i1.v.c9
  have ca := i1.v.ca
  go_wp2_with fail
  refine (HE1.out _ (ht.keep i1.b)).mono ?_
  rintro e V2 ⟨rfl, hb2⟩
  have i2 := i1.grow hb2
  clear c0 c1 c2 c3 c4 c5 c6 c7 c8 c9 ca
  clear i1 hb2 HE1
  have c0 := i2.v.c0
  have c1 := i2.v.c1
  have c2 := i2.v.c2
  have c3 := i2.v.c3
  have c4 := i2.v.c4
  have c5 := i2.v.c5
  have c6 := i2.v.c6
  have c7 := i2.v.c7
  have c8 := i2.v.c8
  have c9 := i2.v.c9
  have ca := i2.v.ca
  go_wp2_with fail
  refine (HE2.out _).mono ?_
  rintro e V3 ⟨rfl, hb3⟩
  have i3 := i2.grow hb3
  clear c0 c1 c2 c3 c4 c5 c6 c7 c8 c9 ca
  clear i2 hb3 HE2
  have c0 := i3.v.c0
  have c1 := i3.v.c1
  have c2 := i3.v.c2
  have c3 := i3.v.c3
  have c4 := i3.v.c4
  have c5 := i3.v.c5
  have c6 := i3.v.c6
  have c7 := i3.v.c7
  have c8 := i3.v.c8
  have c9 := i3.v.c9
  have ca := i3.v.ca
  go_wp2_with fail
  refine (HH1.out _ (ht.keep i3.b)).mono ?_
  rintro e V4 ⟨rfl, hb4⟩
  have i4 := (i3.grow hb4).alloc (hob W3 S3 E3 H3 O3 G3 I3 N3)
  have n4 := hasHd_new V4 W3 S3 E3 H3 O3 G3 I3 N3
  have z4 := (i3.grow hb4).s
  have hxb : ∃ xb, xb = V4.heap.size := ⟨_, rfl⟩
  obtain ⟨xb, hxb⟩ := hxb
  clear c0 c1 c2 c3 c4 c5 c6 c7 c8 c9 ca
  clear i3 hb4 HH1
  have H4 := hidIn (And.intro i4 (And.intro n4 z4))
  clear i4 n4 z4
  go_upto_region 12 with fail
  rw [← hxb] at H4 ⊢
  generalize V4.alloc _ = V5 at H4 ⊢
  clear hxb
  obtain ⟨i5, n5, z5⟩ := H4.out
  clear H4
  have c0 := i5.v.c0
  have c1 := i5.v.c1
  have c2 := i5.v.c2
  have c3 := i5.v.c3
  have c4 := i5.v.c4
  have c5 := i5.v.c5
  have c6 := i5.v.c6
  have c7 := i5.v.c7
  have c8 := i5.v.c8
  have c9 := i5.v.c9
  have ca := i5.v.ca
  go_wp2_with fail
  refine (HH2.out _).mono ?_
  rintro e V6 ⟨rfl, hb6⟩
  have i6 := (i5.grow hb6).alloc (hob W3 S3 E3 H3 O3 G3 I3 N3)
  have n6 := (n5.keep hb6 n5.lt).keep ((Below.refl _ V6).alloc (Nat.le_refl _) (hob W3 S3 E3 H3 O3 G3 I3 N3)) (n5.keep hb6 n5.lt).lt
  have p6 := hasHd_new V6 W3 S3 E3 H3 O3 G3 I3 N3
  have z6 : xb < V6.heap.size := (n5.keep hb6 n5.lt).lt
  have hyb : ∃ yb, yb = V6.heap.size := ⟨_, rfl⟩
  obtain ⟨yb, hyb⟩ := hyb
  clear c0 c1 c2 c3 c4 c5 c6 c7 c8 c9 ca
  clear i5 hb6 HH2 n5
  have H6 := hidIn (And.intro i6 (And.intro n6 (And.intro p6 z6)))
  clear i6 n6 p6 z6
  go_upto_region 13 with fail
  rw [← hyb] at H6 ⊢
  generalize V6.alloc _ = V7 at H6 ⊢
  clear hyb
  obtain ⟨i7, n7, p7, z7⟩ := H6.out
  clear H6
  have d0 := n7.c0
  have d1 := n7.c1
  have d2 := n7.c2
  have d3 := n7.c3
  have d4 := n7.c4
  have d5 := n7.c5
  have d6 := n7.c6
  have d7 := n7.c7
  have d8 := n7.c8
  have d9 := n7.c9
  have da := n7.ca
  have e0 := p7.c0
  have e1 := p7.c1
  have e2 := p7.c2
  have e3 := p7.c3
  have e4 := p7.c4
  have e5 := p7.c5
  have e6 := p7.c6
  have e7 := p7.c7
  have e8 := p7.c8
  have e9 := p7.c9
  have ea := p7.ca
  go_upto_region 15 with fail
  clear d0 e0 d1 e1 d2 e2 d3 e3 d4 e4 d5 e5 d6 e6 d7 e7 d8 e8 d9 e9 da ea q3
  have c0 := i7.v.c0
  have c1 := i7.v.c1
  have c2 := i7.v.c2
  have c3 := i7.v.c3
  have c4 := i7.v.c4
  have c5 := i7.v.c5
  have c6 := i7.v.c6
  have c7 := i7.v.c7
  have c8 := i7.v.c8
  have c9 := i7.v.c9
  have ca := i7.v.ca
  have m0 := i7.m.c0
  have m1 := i7.m.c1
  have m2 := i7.m.c2
  have m3 := i7.m.c3
  go_wp2_with fail
  refine (HW1.out _ (ht.keep i7.b)).mono ?_
  rintro e V8 ⟨rfl, hb8⟩
  have i8 := i7.grow hb8
  have n8 := n7.keep hb8 n7.lt
  have p8 := p7.keep hb8 p7.lt
  clear c0 c1 c2 c3 c4 c5 c6 c7 c8 c9 ca m0 m1 m2 m3
  clear i7 n7 p7 hb8 HW1
  have i9 := i8.put z5 W4 S4 E4 H4 O4 G4 I4 (wd N4 0) (wd N4 1) (wd N4 2) (wd N4 3)
  have n9 := n8.putAll W4 S4 E4 H4 O4 G4 I4 N4
  have p9 := p8.putOther (show xb ≠ yb by omega) W4 S4 E4 H4 O4 G4 I4 (wd N4 0) (wd N4 1) (wd N4 2) (wd N4 3)
  unfold World.putHd at i9 n9 p9
  have H9 := hidIn (And.intro i9 (And.intro n9 p9))
  clear i8 p8 i9 n9 p9
  have d0 := n8.c0
  have d1 := n8.c1
  have d2 := n8.c2
  have d3 := n8.c3
  have d4 := n8.c4
  have d5 := n8.c5
  have d6 := n8.c6
  have d7 := n8.c7
  have d8 := n8.c8
  have d9 := n8.c9
  have da := n8.ca
  have df0 := n8.f0
  have df1 := n8.f1
  have df2 := n8.f2
  have df3 := n8.f3
  have df4 := n8.f4
  have df5 := n8.f5
  have df6 := n8.f6
  have df7 := n8.f7
  have df8 := n8.f8
  have df9 := n8.f9
  have dfa := n8.fa
  clear n8
  go_upto_region 16 with fail
  generalize World.setCell _ _ _ = V9 at H9 ⊢
  clear d0 df0 d1 df1 d2 df2 d3 df3 d4 df4 d5 df5 d6 df6 d7 df7 d8 df8 d9 df9 da dfa
  obtain ⟨i9, n9, p9⟩ := H9.out
  clear H9
  have c0 := i9.v.c0
  have c1 := i9.v.c1
  have c2 := i9.v.c2
  have c3 := i9.v.c3
  have c4 := i9.v.c4
  have c5 := i9.v.c5
  have c6 := i9.v.c6
  have c7 := i9.v.c7
  have c8 := i9.v.c8
  have c9 := i9.v.c9
  have ca := i9.v.ca
  have m0 := i9.m.c0
  have m1 := i9.m.c1
  have m2 := i9.m.c2
  have m3 := i9.m.c3
  go_wp2_with fail
  refine (HW2.out _).mono ?_
  rintro e V10 ⟨rfl, hb10⟩
  have i10 := i9.grow hb10
  have n10 := n9.keep hb10 n9.lt
  have p10 := p9.keep hb10 p9.lt
  clear c0 c1 c2 c3 c4 c5 c6 c7 c8 c9 ca m0 m1 m2 m3
  clear i9 n9 p9 hb10 HW2
  have i11 := i10.put (show w.heap.size + 2 ≤ yb by omega) W4 S4 E4 H4 O4 G4 I4 (wd N4 0) (wd N4 1) (wd N4 2) (wd N4 3)
  have n11 := n10.putOther (show yb ≠ xb by omega) W4 S4 E4 H4 O4 G4 I4 (wd N4 0) (wd N4 1) (wd N4 2) (wd N4 3)
  have p11 := p10.putAll W4 S4 E4 H4 O4 G4 I4 N4
  unfold World.putHd at i11 n11 p11
  have H11 := hidIn (And.intro i11 (And.intro n11 p11))
  clear i10 n10 i11 n11 p11
  have e0 := p10.c0
  have e1 := p10.c1
  have e2 := p10.c2
  have e3 := p10.c3
  have e4 := p10.c4
  have e5 := p10.c5
  have e6 := p10.c6
  have e7 := p10.c7
  have e8 := p10.c8
  have e9 := p10.c9
  have ea := p10.ca
  have ef0 := p10.f0
  have ef1 := p10.f1
  have ef2 := p10.f2
  have ef3 := p10.f3
  have ef4 := p10.f4
  have ef5 := p10.f5
  have ef6 := p10.f6
  have ef7 := p10.f7
  have ef8 := p10.f8
  have ef9 := p10.f9
  have efa := p10.fa
  clear p10
  go_upto_region 17 with fail
  generalize World.setCell _ _ _ = V11 at H11 ⊢
  clear e0 ef0 e1 ef1 e2 ef2 e3 ef3 e4 ef4 e5 ef5 e6 ef6 e7 ef7 e8 ef8 e9 ef9 ea efa
  obtain ⟨i11, n11, p11⟩ := H11.out
  clear H11
  have d0 := n11.c0
  have d1 := n11.c1
  have d2 := n11.c2
  have d3 := n11.c3
  have d4 := n11.c4
  have d5 := n11.c5
  have d6 := n11.c6
  have d7 := n11.c7
  have d8 := n11.c8
  have d9 := n11.c9
  have da := n11.ca
  have e0 := p11.c0
  have e1 := p11.c1
  have e2 := p11.c2
  have e3 := p11.c3
  have e4 := p11.c4
  have e5 := p11.c5
  have e6 := p11.c6
  have e7 := p11.c7
  have e8 := p11.c8
  have e9 := p11.c9
  have ea := p11.ca
  have ht11 := ht.keep i11.b
  go_wp2_with (go_at_call 17; refine (works_any _ ht11).mono ?_; rintro e w6 ⟨rfl, hb6⟩)
  go_ret
  exact ⟨rfl, i11.b.trans (hb6.mono i11.b.size)⟩
end Go.Proofs.YtgfmlonhjmdfjaaDoor
namespace Go.Proofs.YtgfmlonhjmdfjaaDoor
open Go.ChangeShapes Go.WideShapes Go.ChangeAt Go.RowKit

theorem own : ownKnob Tryd.prog.godebug = none := by kernel_rfl
theorem cellsBits : Tryd.prog.cellsOf 25 = 4 := by kernel_rfl
theorem cellsWord : Tryd.prog.cellsOf 23 = 1 := by kernel_rfl

/-- A bit string as a datum. -/
abbrev bsd {H : Type} (N : Nat) : DataW H := .agg [.lit (.int .u64 (wd N 0)), .lit (.int .u64 (wd N 1)), .lit (.int .u64 (wd N 2)), .lit (.int .u64 (wd N 3))]

set_option maxRecDepth 100000 in
theorem open_bits {H : Type} {enc : TypeId × Value → H} {W : World} {base : Nat} {v : Value} {d : DataW H} {p : List MemPlace}
    (hval : Value.okWide Tryd.prog W .any base 25 v) (h : DataW.Trod enc Tryd.prog W 0 (fun _ => true) true 25 v d p) : ∃ N, N < 2 ^ 256 ∧ v = bs N ∧ d = bsd N ∧ p = [] := by
  obtain ⟨cs, rfl, hsz, _⟩ : ∃ cs, v = .agg cs ∧ cs.size = Tryd.prog.cellsOf 25 ∧ Row.okWide Tryd.prog W .any base 25 cs := by
    simpa [Value.okWide, Tryd.underlying25] using hval
  rw [cellsBits] at hsz
  obtain ⟨c0, c1, c2, c3, rfl⟩ := Joins.array4 hsz
  obtain ⟨fuel, hf⟩ := h
  obtain ⟨y0, y1, y2, y3, m, hx, hy0, hy1, hy2, hy3⟩ := trod_array4 Tryd.underlying25 cellsWord hf
  obtain ⟨x0, e0, rfl, w0⟩ := DataW.trod_int Tryd.underlying23 hy0
  obtain ⟨x1, e1, rfl, w1⟩ := DataW.trod_int Tryd.underlying23 hy1
  obtain ⟨x2, e2, rfl, w2⟩ := DataW.trod_int Tryd.underlying23 hy2
  obtain ⟨x3, e3, rfl, w3⟩ := DataW.trod_int Tryd.underlying23 hy3
  simp at e0 e1 e2 e3
  subst e0 e1 e2 e3
  simp only [Prod.mk.injEq] at hx
  obtain ⟨rfl, rfl⟩ := hx
  have b0 := bounds_u64 w0
  have b1 := bounds_u64 w1
  have b2 := bounds_u64 w2
  have b3 := bounds_u64 w3
  obtain ⟨n0, rfl⟩ := Int.eq_ofNat_of_zero_le b0.1
  obtain ⟨n1, rfl⟩ := Int.eq_ofNat_of_zero_le b1.1
  obtain ⟨n2, rfl⟩ := Int.eq_ofNat_of_zero_le b2.1
  obtain ⟨n3, rfl⟩ := Int.eq_ofNat_of_zero_le b3.1
  have l0 : n0 < 18446744073709551616 := by omega
  have l1 : n1 < 18446744073709551616 := by omega
  have l2 : n2 < 18446744073709551616 := by omega
  have l3 : n3 < 18446744073709551616 := by omega
  refine ⟨ofw n0 n1 n2 n3, ofw_lt _ _ _ _ l0 l1 l2 l3, ?_, ?_, rfl⟩
  · simp only [bs, wd_ofw0 _ _ _ _ l0, wd_ofw1 _ _ _ _ l0 l1, wd_ofw2 _ _ _ _ l0 l1 l2, wd_ofw3 _ _ _ _ l0 l1 l2 l3]
  · simp only [bsd, wd_ofw0 _ _ _ _ l0, wd_ofw1 _ _ _ _ l0 l1, wd_ofw2 _ _ _ _ l0 l1 l2, wd_ofw3 _ _ _ _ l0 l1 l2 l3]

theorem wf_wd (N i : Nat) : (Lit.int .u64 (wd N i)).wf = true := by
  have := wd_lt N i
  simp [Lit.wf, IntKind.min, IntKind.max, IntKind.bits, IntKind.signed]
  omega
theorem shut_bits {H : Type} {enc : TypeId × Value → H} {W : World} {sp : Nat → Bool} (N : Nat) : DataW.Trod enc Tryd.prog W 0 sp true 25 (bs N) (bsd N) [] :=
  ⟨2, by simp [DataW.trod, Value.cells, Tryd.underlying25, Tryd.underlying23, cellsBits, cellsWord, wf_wd, show List.range 4 = [0, 1, 2, 3] from rfl]⟩

theorem laid_tab {W : World} {name : String} {k : IntKind} {zs : List Int} {rest : List (String × DataW Unit)} {g : Nat} {t e : TypeId} {n : Nat} {ps : List MemPlace} {P : Program}
    (hg : P.globalNamed name = some g) (hty : (P.globals[g]?).map (·.type) = some t) (ht : P.underlying t = some (.array n e)) (he : P.underlying e = some (.int k)) (hce : P.cellsOf e = 1) (hct : P.cellsOf t = n)
    (h : DataW.LaidVars P W ((name, Lib.tabData k zs) :: rest) ps) : Lib.TabIs P W name k zs := by
  obtain ⟨g', t', cs, fuel, p, q, hg', ht', hvar, hd, _, _⟩ := h
  obtain rfl := Option.some.inj (hg.symm.trans hg')
  obtain rfl := Option.some.inj (hty.symm.trans ht')
  unfold Lib.TabIs
  rw [hvar, ← Lib.cells_of_tab ht he hce hct hd]
theorem laid_rest {P : Program} {W : World} {x : String × DataW Unit} {rest : List (String × DataW Unit)} {ps : List MemPlace} (h : DataW.LaidVars P W (x :: rest) ps) : ∃ q, DataW.LaidVars P W rest q := by
  obtain ⟨g', t', cs, fuel, p, q, hg', ht', hvar, hd, h1, h2⟩ := h
  exact ⟨q, by first | exact h1 | exact h2⟩
end Go.Proofs.YtgfmlonhjmdfjaaDoor
namespace Go.Proofs.YtgfmlonhjmdfjaaDoor
open Go.ChangeShapes Go.WideShapes Go.ChangeAt Go.RowKit

theorem cellsHd : Tryd.prog.cellsOf 27 = 11 := by kernel_rfl
theorem cellsInt : Tryd.prog.cellsOf 3 = 1 := by kernel_rfl
theorem cellsU32 : Tryd.prog.cellsOf 22 = 1 := by kernel_rfl
theorem eight {α : Type} {l : List α} (h : l.length = 8) : ∃ y0 y1 y2 y3 y4 y5 y6 y7, l = [y0, y1, y2, y3, y4, y5, y6, y7] := by
  match l, h with
  | [a, b, c, d, e, f, g, i], _ => exact ⟨a, b, c, d, e, f, g, i, rfl⟩
theorem eleven {α : Type} {cs : Array α} (h : cs.size = 11) : ∃ c0 c1 c2 c3 c4 c5 c6 c7 c8 c9 ca, cs = #[c0, c1, c2, c3, c4, c5, c6, c7, c8, c9, ca] := by
  obtain ⟨l⟩ := cs
  match l, h with
  | [a, b, c, d, e, f, g, i, j, k, m], _ => exact ⟨a, b, c, d, e, f, g, i, j, k, m, rfl⟩
theorem hfs : ∃ f0 f1 f2 f3 f4 f5 f6 f7 : Field, Tryd.prog.underlying 27 = some (.struct #[f0, f1, f2, f3, f4, f5, f6, f7]) ∧
    (f0.type = 3 ∧ f0.offset = 0) ∧ (f1.type = 3 ∧ f1.offset = 1) ∧ (f2.type = 22 ∧ f2.offset = 2) ∧ (f3.type = 3 ∧ f3.offset = 3) ∧ (f4.type = 3 ∧ f4.offset = 4) ∧ (f5.type = 3 ∧ f5.offset = 5) ∧ (f6.type = 22 ∧ f6.offset = 6) ∧ (f7.type = 25 ∧ f7.offset = 7) := by
  have hf := hfields
  have hu := hunder
  generalize Tryd.prog.fieldsOf 27 = F at hf hu
  obtain ⟨fs⟩ := F
  simp only at hf
  obtain ⟨f0, r0, rfl, h0, hf⟩ := List.map_eq_cons_iff.1 hf
  obtain ⟨f1, r1, rfl, h1, hf⟩ := List.map_eq_cons_iff.1 hf
  obtain ⟨f2, r2, rfl, h2, hf⟩ := List.map_eq_cons_iff.1 hf
  obtain ⟨f3, r3, rfl, h3, hf⟩ := List.map_eq_cons_iff.1 hf
  obtain ⟨f4, r4, rfl, h4, hf⟩ := List.map_eq_cons_iff.1 hf
  obtain ⟨f5, r5, rfl, h5, hf⟩ := List.map_eq_cons_iff.1 hf
  obtain ⟨f6, r6, rfl, h6, hf⟩ := List.map_eq_cons_iff.1 hf
  obtain ⟨f7, r7, rfl, h7, hf⟩ := List.map_eq_cons_iff.1 hf
  obtain rfl := List.map_eq_nil_iff.1 hf
  simp only [Prod.mk.injEq] at h0
  simp only [Prod.mk.injEq] at h1
  simp only [Prod.mk.injEq] at h2
  simp only [Prod.mk.injEq] at h3
  simp only [Prod.mk.injEq] at h4
  simp only [Prod.mk.injEq] at h5
  simp only [Prod.mk.injEq] at h6
  simp only [Prod.mk.injEq] at h7
  exact ⟨f0, f1, f2, f3, f4, f5, f6, f7, hu, h0.2, h1.2, h2.2, h3.2, h4.2, h5.2, h6.2, h7.2⟩
set_option maxRecDepth 100000 in
theorem open_bits_cells {T : Type} {enc : TypeId × Value → T} {w : World} {base : Nat} {spare : Nat → Bool} {held : Bool} {fuel : Nat} {c0 c1 c2 c3 : Value} {x : DataW T × List MemPlace}
    (hf : DataW.trod enc Tryd.prog w base spare held fuel 25 [c0, c1, c2, c3] = some x) : ∃ N, N < 2 ^ 256 ∧ Value.agg #[c0, c1, c2, c3] = bs N ∧ x.1 = bsd N ∧ x.2 = [] := by
  obtain ⟨y0, y1, y2, y3, m, hx, hy0, hy1, hy2, hy3⟩ := trod_array4 Tryd.underlying25 cellsWord hf
  obtain ⟨x0, e0, rfl, w0⟩ := DataW.trod_int Tryd.underlying23 hy0
  obtain ⟨x1, e1, rfl, w1⟩ := DataW.trod_int Tryd.underlying23 hy1
  obtain ⟨x2, e2, rfl, w2⟩ := DataW.trod_int Tryd.underlying23 hy2
  obtain ⟨x3, e3, rfl, w3⟩ := DataW.trod_int Tryd.underlying23 hy3
  simp at e0 e1 e2 e3
  subst e0 e1 e2 e3
  subst hx
  have b0 := bounds_u64 w0
  have b1 := bounds_u64 w1
  have b2 := bounds_u64 w2
  have b3 := bounds_u64 w3
  obtain ⟨n0, rfl⟩ := Int.eq_ofNat_of_zero_le b0.1
  obtain ⟨n1, rfl⟩ := Int.eq_ofNat_of_zero_le b1.1
  obtain ⟨n2, rfl⟩ := Int.eq_ofNat_of_zero_le b2.1
  obtain ⟨n3, rfl⟩ := Int.eq_ofNat_of_zero_le b3.1
  have l0 : n0 < 18446744073709551616 := by omega
  have l1 : n1 < 18446744073709551616 := by omega
  have l2 : n2 < 18446744073709551616 := by omega
  have l3 : n3 < 18446744073709551616 := by omega
  refine ⟨ofw n0 n1 n2 n3, ofw_lt _ _ _ _ l0 l1 l2 l3, ?_, ?_, rfl⟩
  · simp only [bs, wd_ofw0 _ _ _ _ l0, wd_ofw1 _ _ _ _ l0 l1, wd_ofw2 _ _ _ _ l0 l1 l2, wd_ofw3 _ _ _ _ l0 l1 l2 l3]
  · simp only [bsd, wd_ofw0 _ _ _ _ l0, wd_ofw1 _ _ _ _ l0 l1, wd_ofw2 _ _ _ _ l0 l1 l2, wd_ofw3 _ _ _ _ l0 l1 l2 l3]
/-- A header as a datum. -/
abbrev hdd {T : Type} (W S E H O G I : Int) (N : Nat) : DataW T := .agg [.lit (.int .i64 W), .lit (.int .i64 S), .lit (.int .u32 E), .lit (.int .i64 H), .lit (.int .i64 O), .lit (.int .i64 G), .lit (.int .u32 I), bsd N]
/-- The numbers of a header are of their kinds. -/
def WfH (W S E H O G I : Int) : Prop := (Lit.int .i64 W).wf = true ∧ (Lit.int .i64 S).wf = true ∧ (Lit.int .u32 E).wf = true ∧ (Lit.int .i64 H).wf = true ∧ (Lit.int .i64 O).wf = true ∧ (Lit.int .i64 G).wf = true ∧ (Lit.int .u32 I).wf = true
theorem WfH.e {W S E H O G I : Int} (h : WfH W S E H O G I) : 0 ≤ E ∧ E < 4294967296 := by
  have := h.2.2.1
  simp [Lit.wf, IntKind.min, IntKind.max, IntKind.bits, IntKind.signed] at this
  omega
theorem WfH.i {W S E H O G I : Int} (h : WfH W S E H O G I) : 0 ≤ I ∧ I < 4294967296 := by
  have := h.2.2.2.2.2.2
  simp [Lit.wf, IntKind.min, IntKind.max, IntKind.bits, IntKind.signed] at this
  omega
set_option maxRecDepth 100000 in
theorem open_hd {T : Type} {enc : TypeId × Value → T} {w : World} {base : Nat} {v : Value} {d : DataW T} {p : List MemPlace}
    (hval : Value.okWide Tryd.prog w .any base 27 v) (h : DataW.Trod enc Tryd.prog w 0 (fun _ => true) true 27 v d p) :
    ∃ (W S E H O G I : Int) (N : Nat), N < 2 ^ 256 ∧ WfH W S E H O G I ∧ v = hd W S E H O G I N ∧ d = hdd W S E H O G I N ∧ p = [] := by
  obtain ⟨f0, f1, f2, f3, f4, f5, f6, f7, hu, ⟨t0, o0⟩, ⟨t1, o1⟩, ⟨t2, o2⟩, ⟨t3, o3⟩, ⟨t4, o4⟩, ⟨t5, o5⟩, ⟨t6, o6⟩, ⟨t7, o7⟩⟩ := hfs
  obtain ⟨cs, rfl, hsz⟩ := okWide_struct hu hval
  rw [cellsHd] at hsz
  obtain ⟨c0, c1, c2, c3, c4, c5, c6, c7, c8, c9, ca, rfl⟩ := eleven hsz
  obtain ⟨fuel, hf⟩ := h
  obtain ⟨xs, n, _, hx, hl, hlen, hfd⟩ := DataW.trod_struct hu hf
  obtain ⟨y0, y1, y2, y3, y4, y5, y6, y7, rfl⟩ := eight (by simpa using hlen)
  have g0 := hfd 0 f0 rfl
  have g1 := hfd 1 f1 rfl
  have g2 := hfd 2 f2 rfl
  have g3 := hfd 3 f3 rfl
  have g4 := hfd 4 f4 rfl
  have g5 := hfd 5 f5 rfl
  have g6 := hfd 6 f6 rfl
  have g7 := hfd 7 f7 rfl
  clear hfd
  rw [t0, o0, cellsInt] at g0
  rw [t1, o1, cellsInt] at g1
  rw [t2, o2, cellsU32] at g2
  rw [t3, o3, cellsInt] at g3
  rw [t4, o4, cellsInt] at g4
  rw [t5, o5, cellsInt] at g5
  rw [t6, o6, cellsU32] at g6
  rw [t7, o7, cellsBits] at g7
  simp [Value.cells] at g0 g1 g2 g3 g4 g5 g6 g7
  obtain ⟨W, e0, rfl, w0⟩ := DataW.trod_int Tryd.underlying3 g0
  obtain ⟨S, e1, rfl, w1⟩ := DataW.trod_int Tryd.underlying3 g1
  obtain ⟨E, e2, rfl, w2⟩ := DataW.trod_int Tryd.underlying22 g2
  obtain ⟨H, e3, rfl, w3⟩ := DataW.trod_int Tryd.underlying3 g3
  obtain ⟨O, e4, rfl, w4⟩ := DataW.trod_int Tryd.underlying3 g4
  obtain ⟨G, e5, rfl, w5⟩ := DataW.trod_int Tryd.underlying3 g5
  obtain ⟨I, e6, rfl, w6⟩ := DataW.trod_int Tryd.underlying22 g6
  simp at e0 e1 e2 e3 e4 e5 e6
  subst e0 e1 e2 e3 e4 e5 e6
  obtain ⟨N, hN, hv, hd', hp⟩ := open_bits_cells g7
  obtain ⟨d7, p7⟩ := y7
  simp only at hd' hp
  subst hd' hp
  simp only [Value.agg.injEq] at hv
  simp only [Prod.mk.injEq] at hx
  obtain ⟨rfl, rfl⟩ := hx
  refine ⟨W, S, E, H, O, G, I, N, hN, ⟨w0, w1, w2, w3, w4, w5, w6⟩, ?_, by simp, by simp⟩
  obtain ⟨rfl, rfl, rfl, rfl⟩ : c7 = .int .u64 (wd N 0) ∧ c8 = .int .u64 (wd N 1) ∧ c9 = .int .u64 (wd N 2) ∧ ca = .int .u64 (wd N 3) := by simpa using hv
  rfl
set_option maxRecDepth 100000 in
theorem shut_hd {T : Type} {enc : TypeId × Value → T} {w : World} {sp : Nat → Bool} {W S E H O G I : Int} (N : Nat) (h : WfH W S E H O G I) : DataW.Trod enc Tryd.prog w 0 sp true 27 (hd W S E H O G I N) (hdd W S E H O G I N) [] := by
  obtain ⟨f0, f1, f2, f3, f4, f5, f6, f7, hu, ⟨t0, o0⟩, ⟨t1, o1⟩, ⟨t2, o2⟩, ⟨t3, o3⟩, ⟨t4, o4⟩, ⟨t5, o5⟩, ⟨t6, o6⟩, ⟨t7, o7⟩⟩ := hfs
  obtain ⟨w0, w1, w2, w3, w4, w5, w6⟩ := h
  have hb : DataW.trod enc Tryd.prog w 0 sp true 2 25 [.int .u64 (wd N 0), .int .u64 (wd N 1), .int .u64 (wd N 2), .int .u64 (wd N 3)] = some (bsd N, []) := by
    simp [DataW.trod, Tryd.underlying25, Tryd.underlying23, cellsBits, cellsWord, wf_wd, show List.range 4 = [0, 1, 2, 3] from rfl]
  have hm := trod_struct_mk (enc := enc) (w := w) (base := 0) (spare := sp) (held := true) (n := 2) (cs := [.int .i64 W, .int .i64 S, .int .u32 E, .int .i64 H, .int .i64 O, .int .i64 G, .int .u32 I, .int .u64 (wd N 0), .int .u64 (wd N 1), .int .u64 (wd N 2), .int .u64 (wd N 3)])
    (xs := [(.lit (.int .i64 W), []), (.lit (.int .i64 S), []), (.lit (.int .u32 E), []), (.lit (.int .i64 H), []), (.lit (.int .i64 O), []), (.lit (.int .i64 G), []), (.lit (.int .u32 I), []), (bsd N, [])]) hu (by rw [cellsHd]; rfl) (by
    simp only [List.mapM_cons, List.mapM_nil, t0, t1, t2, t3, t4, t5, t6, t7, o0, o1, o2, o3, o4, o5, o6, o7, cellsInt, cellsU32, cellsBits]
    simp [hb, trod_int_mk 1 Tryd.underlying3 w0, trod_int_mk 1 Tryd.underlying3 w1, trod_int_mk 1 Tryd.underlying22 w2, trod_int_mk 1 Tryd.underlying3 w3, trod_int_mk 1 Tryd.underlying3 w4, trod_int_mk 1 Tryd.underlying3 w5, trod_int_mk 1 Tryd.underlying22 w6])
  exact ⟨3, by simpa [Value.cells] using hm⟩
theorem gWidType : (Tryd.prog.globals[0]?).map (·.type) = some 63 := by kernel_rfl
theorem wid_of {w : World} {rest : List (String × DataW Unit)} (h : laidMet Tryd.prog (("dandelion/header.widths", Rows.laid_dandelion_header_widths) :: rest) w) : Wid w := by
  obtain ⟨ps, h, _⟩ := h
  exact ⟨laid_tab gWid gWidType Tryd.underlying63 Tryd.underlying3 (by kernel_rfl) (by kernel_rfl) h⟩
end Go.Proofs.YtgfmlonhjmdfjaaDoor
