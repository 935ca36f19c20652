/- A calendar of string: Copy. -/
import Derived.Test.YtaldehgggilmdaaC8S
namespace Go.Proofs.Ytaldehgggilmdaa.Ca.S
open Go.RowKit Go.Maps

theorem hp_of_tg {es fs : List Th} (h : IsHp at' es) (he : fs.map tg = es.map tg) : IsHp at' fs := fun j hj a b ha hb => by
  have ga : ∀ (i : Nat) (c : Th), fs[i]? = some c → ∃ d, es[i]? = some d ∧ tg d = tg c := fun i c hc => by
    have h1 : (fs.map tg)[i]? = some (tg c) := by rw [List.getElem?_map, hc]; rfl
    rw [he, List.getElem?_map] at h1
    cases h2 : es[i]? with
    | none => rw [h2] at h1; cases h1
    | some d => rw [h2] at h1; exact ⟨d, rfl, Option.some.inj h1⟩
  obtain ⟨a', ha', ea⟩ := ga _ _ ha
  obtain ⟨b', hb', eb⟩ := ga _ _ hb
  have h3 := h j hj a' b' ha' hb'
  simp only [tg, Prod.mk.injEq] at ea eb
  unfold leE at *
  simp only [at'] at *
  rw [← ea.1, ← ea.2, ← eb.1, ← eb.2]
  exact h3
theorem nodup_leC {l : List Int} : ∀ {m : List Int}, l.Nodup → (∀ x ∈ l, x ∈ m) → l.length ≤ m.length := by
  induction l with
  | nil => intro m _ _; simp
  | cons x l ih =>
    intro m hn hm
    rw [List.nodup_cons] at hn
    have hx := hm x List.mem_cons_self
    have := ih (m := m.erase x) hn.2 (fun y hy => (List.mem_erase_of_ne (fun e => hn.1 (by rw [← e]; exact hy))).2 (hm y (List.mem_cons_of_mem _ hy)))
    rw [List.length_erase_of_mem hx] at this
    have : 0 < m.length := List.length_pos_of_mem hx
    rw [List.length_cons]
    omega
theorem tix_le {l : List Int} {p : Nat} (h : l.Nodup) (hb : ∀ x ∈ l, 1 ≤ x ∧ x ≤ (p : Int)) : l.length ≤ p := by
  have h1 := nodup_leC (m := (List.range p).map fun i : Nat => (i : Int) + 1) h (fun y hy => by
    have := hb y hy
    exact List.mem_map.2 ⟨(y - 1).toNat, List.mem_range.2 (by omega), by omega⟩)
  simpa using h1
theorem nodup_tix {w : World} {cp mb : Nat} {v : Value} {es : List Th} {p : Int} {f : Int → Option Value} (h : HpC w cp v mb es p) (hO : MapOk f es) : (es.map Prod.snd).Nodup := by
  rw [List.Nodup, List.pairwise_map, List.pairwise_iff_getElem]
  intro i j hi hj hij he
  have h1 := hO.1 _ (List.getElem_mem hi)
  have h2 := hO.1 _ (List.getElem_mem hj)
  rw [he, h2] at h1
  have h3 := h.ent i _ (List.getElem?_eq_getElem hi)
  have h4 := h.ent j _ (List.getElem?_eq_getElem hj)
  have h5 : es[j].1.1 = es[i].1.1 := by
    have h6 := Option.some.inj h1
    simp only [ptr, Value.pointer.injEq, Option.some.injEq, Addr.mk.injEq] at h6
    exact h6.1
  rw [h5, h3] at h4
  simp at h4
  omega
theorem cell_same {w w' : World} {b : Nat} (h : w'.heap[b]? = w.heap[b]?) (i : Nat) : w'.cell? ⟨b, i, none⟩ = w.cell? ⟨b, i, none⟩ := by
  unfold World.cell?
  simp only [h]
set_option maxRecDepth 100000 in
set_option maxHeartbeats 4000000 in
theorem copy_ok {w : World} {S : Nat → Prop} {cp p : Nat} {L : List (Tg ByteArray)} (h : Cal w S cp L p) (hp : p < 90000) (hl : L.length < 90000) :
    Calls Try.prog 17 #[ptr cp] w fun e w' => ∃ c2, e = .returned (ptr c2) ∧ Cal w' (fun k => w.heap.size ≤ k ∧ k < w'.heap.size) c2 L p ∧ Fr (fun _ => False) w w' := by
  obtain ⟨v, mb, es, f, h1, h2, h3, h4, h5, h6, h7, h8⟩ := h.x
  have HT := hidIn (there_yes h1.c.1)
  have hes := len_is h5
  have HN := hidIn (nodup_tix h1 h3)
  have H4 := hidIn h4
  have H5 := hidIn h5
  have Ho := hidIn h.o
  have Ht := hidIn h.t
  have Hes := hidIn hes
  have Hh := hidIn h1
  clear h h2 h3 h4 h5 h6 h7 h8
  have hE : es.length < 90000 := by omega
  obtain ⟨ad, cap, rfl, hcap, hg⟩ := h1.slice
  have hcl := h1.lt
  have c1 := h1.c.2.1
  have c3 := h1.c.2.2.2
  clear h1 hg hcap hes
  obtain ⟨n, hn⟩ : ∃ n, es.length = n := ⟨_, rfl⟩
  rw [hn] at c1 hE
  have Hn := hidIn hn
  clear hn
  have hp9 : (p : Int) ≤ 90000 := by omega
  go_enter Try.func17, Try.ntmps17
  go_wp2_with (go_at_call 18; refine HT.out.mono ?_; rintro e w1 ⟨rfl, hw1⟩; rw [hw1]; clear hw1 w1)
  go_wp2_with fail
  refine (new_ok w).mono ?_
  rintro e w1 ⟨c2, rfl, hC, hb1⟩
  obtain ⟨v2, m2, es2, f2, k1, k2, k3, k4, k5, k6, k7, k8⟩ := hC.x
  obtain rfl : es2 = [] := by simpa using k5.eq_nil
  have hF1 : Fr (fun _ => False) w w1 := Fr.of_below hb1
  have hn2 : c2 ≠ cp := by have := k6.1; omega
  have d1 : w1.cell? ⟨cp, 1, none⟩ = some (.slice ad n cap) := (cell_same (hF1.block _ hcl (fun h => h)) 1).trans c1
  have d3 : w1.cell? ⟨cp, 3, none⟩ = some (.int .i64 p) := (cell_same (hF1.block _ hcl (fun h => h)) 3).trans c3
  have f3 := frozen_new k1.blk 3
  have e3 := k1.c.2.2.2
  obtain ⟨W, hW⟩ : ∃ W, w1.setCell ⟨c2, 3, none⟩ (.int .i64 p) = W := ⟨_, rfl⟩
  have hFW : Fr (fun k => w.heap.size ≤ k) w W := by rw [← hW]; exact (hF1.mono (fun _ _ h => h.elim)).set (p := ⟨c2, 3, none⟩) k6.1 _
  have H1W : HpC W c2 v2 m2 [] p := by rw [← hW]; exact k1.bump p
  have hmc : m2 ≠ c2 := fun e => by
    obtain ⟨x1, x2, x3⟩ := k2.isMap
    rw [e, k1.blk] at x3
    cases x3
  have H2W : MpE W m2 0 f2 := by rw [← hW]; exact k2.keep ((Fr.refl (fun k => k = c2) w1).set (p := ⟨c2, 3, none⟩) rfl _) hmc
  have HI : Hid (∃ vr er fr, HpC W c2 vr m2 er p ∧ MpE W m2 0 fr ∧ MapOk fr er ∧ er.map tg = (es.take 0).map tg ∧ (∀ j, ownH vr er j → w.heap.size ≤ j) ∧ Fr (fun k => w.heap.size ≤ k) w W) := hidIn ⟨v2, [], f2, H1W, H2W, k3, rfl, fun j hj => (k8 j hj).1, hFW⟩
  have HK : Hid (w.heap.size ≤ c2 ∧ w.heap.size ≤ m2) := hidIn ⟨k6.1, k7.1⟩
  have HW := hidIn hW
  clear hFW H1W H2W k1 k2 k3 k4 k5 k6 k7 k8 hC hb1 hmc hW hF1
  go_wp2_with fail
  rw [HW.out]
  clear HW d1 d3 f3 e3 c3
  go_loopw [23] (fun i wr => ∃ k : Nat, k ≤ n ∧ i = .int .i64 k ∧ Hid (∃ vr er fr, HpC wr c2 vr m2 er p ∧ MpE wr m2 k fr ∧ MapOk fr er ∧ er.map tg = (es.take k).map tg ∧ (∀ j, ownH vr er j → w.heap.size ≤ j) ∧ Fr (fun k => w.heap.size ≤ k) w wr)) (fun i _ => n - (intOf i).toNat)
  case atStart => exact ⟨0, Nat.zero_le _, rfl, HI⟩
  case round =>
    obtain ⟨k, hk, rfl, HR⟩ := hrel
    obtain ⟨vr, er, fr, hM, hP, hO, hT, hB, hF⟩ := HR.out
    clear HR HI
    by_cases hkn : k < n
    · obtain ⟨a, ha⟩ : ∃ a, es[k]? = some a := ⟨es[k]'(by rw [Hn.out]; exact hkn), List.getElem?_eq_getElem _⟩
      obtain ⟨g, rfl, hgl, _⟩ : ∃ g, ad = some ⟨g, 0, none⟩ ∧ g < w.heap.size ∧ ∀ j, w.frozen? ⟨g, j, none⟩ = false := by
        obtain ⟨ad', cap', hq, _, hg⟩ := Hh.out.slice
        cases hq
        exact hg (by rw [Hn.out]; omega)
      have hag := (cell_same (hF.block _ hgl (fun h => by omega)) k).trans (Hh.out.at ha)
      have hea := (hF.block _ (block_lt (Hh.out.ent k a ha)) (fun h => by have := block_lt (Hh.out.ent k a ha); omega)).trans (Hh.out.ent k a ha)
      obtain ⟨⟨A, x, at0⟩, t0⟩ := a
      have b0 := cell_of_row _ _ 0 _ _ _ hea
      have b1 := cell_of_row _ _ 1 _ _ _ hea
      have b2 := cell_of_row _ _ 2 _ _ _ hea
      have b3 := cell_of_row _ _ 3 _ _ _ hea
      have hlen : er.length = k := by
        have := congrArg List.length hT
        rw [List.length_map, List.length_map, List.length_take, Hn.out] at this
        omega
      obtain ⟨X, hX⟩ : ∃ X, wr.heap.size = X := ⟨_, rfl⟩
      obtain ⟨W2, hW2⟩ : ∃ W2, wr.alloc (.cells (entA ((X, x, at0), t0) k) 53) = W2 := ⟨_, rfl⟩
      have hb2 : Below wr.heap.size wr W2 := by rw [← hW2]; exact (Below.refl _ wr).alloc (Nat.le_refl _) _
      have hX2 : W2.heap[X]? = some (.cells (entA ((X, x, at0), t0) er.length) 53) := by rw [← hW2, ← hX, hlen]; exact heap_alloc_last wr _
      have hXo : ¬ ownH vr er X := fun hk => by have := hM.own_lt hk; omega
      have hmem : ((A, x, at0), t0) ∈ es := List.mem_of_getElem? ha
      have htw : 1 ≤ t0 ∧ t0 ≤ (p : Int) := Ht.out _ (H5.out.mem_iff.1 (List.mem_map.2 ⟨_, hmem, rfl⟩))
      have hsz : w.heap.size ≤ X := by rw [← hX]; exact hF.size
      have HA := hidIn (add_ok (hM.below hb2) (hP.keep (T := fun _ => False) (Fr.of_below hb2) (fun h => h)) (by omega) (by omega) hX2 hXo (wf9 (by omega)))
      have HF2 : Hid (Fr (fun k => w.heap.size ≤ k) w W2) := hidIn (hF.trans ((show Fr (fun _ => False) wr W2 from Fr.of_below hb2).mono (fun _ _ h => False.elim h)))
      have hnt : ∀ y ∈ er, y.2 ≠ t0 := fun y hy he => by
        have h1 : y.2 ∈ (es.take k).map Prod.snd := by
          have h2 : (er.map tg).map Prod.snd = ((es.take k).map tg).map Prod.snd := by rw [hT]
          rw [List.map_map, List.map_map] at h2
          rw [show (es.take k).map Prod.snd = er.map Prod.snd from h2.symm]
          exact List.mem_map.2 ⟨y, hy, rfl⟩
        have h3 := HN.out
        rw [← List.take_append_drop k es, List.map_append, List.nodup_append] at h3
        refine h3.2.2 _ h1 t0 ?_ he
        rw [List.drop_eq_getElem_cons (by rw [Hn.out]; exact hkn)]
        have h4 : es[k]'(by rw [Hn.out]; exact hkn) = ((A, x, at0), t0) := (List.getElem?_eq_some_iff.1 ha).2
        rw [h4]
        exact List.mem_cons_self
      have HO : Hid (MapOk (putO fr t0 (ptr X)) (er ++ [((X, x, at0), t0)])) := hidIn (hO.put (e := ((X, x, at0), t0)) hnt)
      have HT2 : Hid ((er ++ [((X, x, at0), t0)]).map tg = (es.take (k + 1)).map tg) := hidIn (by
        rw [List.take_add_one, ha, List.map_append, List.map_append, hT]
        rfl)
      have HB := hidIn hB
      have Hsz := hidIn (show w.heap.size ≤ X ∧ X < W2.heap.size from ⟨hsz, block_lt hX2⟩)
      clear hM hP hO hT hB hF hb2 hX2 hXo hmem htw hsz hnt ha
      go_wp2_with fail
      refine HA.out.mono ?_
      rintro e w3 ⟨⟨r, rfl⟩, v', hM3, hP3, hF3, hv3⟩
      have HM3 := hidIn hM3
      have HP3 := hidIn hP3
      have HF3 : Hid (Fr (fun k => w.heap.size ≤ k) w w3) := hidIn (HF2.out.trans (hF3.mono (fun j _ hj => by
        rcases hj with hj | hj | hj
        · rw [hj]; exact HK.out.1
        · rw [hj]; exact HK.out.2
        · exact HB.out j (.inl hj))))
      have HB3 : Hid (∀ j, ownH v' (er ++ [((X, x, at0), t0)]) j → w.heap.size ≤ j) := hidIn (by
        rintro j (hj | ⟨e, he, hej⟩)
        · rcases hv3 j hj with h | h
          · exact HB.out j (.inl h)
          · have := Hsz.out; omega
        · rcases List.mem_append.1 he with he | he
          · exact HB.out j (.inr ⟨e, he, hej⟩)
          · rw [List.mem_singleton.1 he] at hej
            have hXj : X = j := hej
            rw [← hXj]; exact Hsz.out.1)
      clear hM3 hP3 hF3 hv3 HA HF2 HB
      go_wp2
      go_roundw
      case rel => exact ⟨k + 1, by omega, rfl, hidIn ⟨v', _, _, HM3.out, HP3.out, HO.out, HT2.out, HB3.out, HF3.out⟩⟩
      case measure => simp [intOf]; omega
    · obtain rfl : k = n := by omega
      have HM := hidIn hM
      have HP := hidIn hP
      have HO := hidIn hO
      have HT2 := hidIn hT
      have HB := hidIn hB
      have HF := hidIn hF
      clear hM hP hO hT hB hF
      go_wp2
      go_returns
      have ht : er.map tg = es.map tg := by rw [HT2.out, List.take_of_length_le (by rw [Hn.out]; exact Nat.le_refl _)]
      have hkp : k ≤ p := by
        have := tix_le HN.out (fun y hy => by
          obtain ⟨e, he, rfl⟩ := List.mem_map.1 hy
          exact Ht.out (tg e) (H5.out.mem_iff.1 (List.mem_map.2 ⟨e, he, rfl⟩)))
        rw [List.length_map, Hn.out] at this
        exact this
      refine ⟨c2, rfl, ⟨⟨vr, m2, er, fr, HM.out, HP.out.mono hkp, HO.out, hp_of_tg H4.out ht, by rw [ht]; exact H5.out, ⟨HK.out.1, HM.out.lt⟩, ⟨HK.out.2, HP.out.lt⟩, fun j hj => ⟨HB.out j hj, HM.out.own_lt hj⟩⟩, Ho.out, Ht.out⟩, HF.out.mono (fun j hj h => by omega)⟩
end Go.Proofs.Ytaldehgggilmdaa.Ca.S
