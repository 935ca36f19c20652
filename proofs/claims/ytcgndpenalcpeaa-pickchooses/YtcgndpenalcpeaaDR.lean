/- The document's Rank. -/
import Derived.Test.YtcgndpenalcpeaaD6
import Derived.Test.YtcgndpenalcpeaaD8
import Derived.Test.YtcgndpenalcpeaaD9
namespace Go.Proofs.Ytcgndpenalcpeaa
open Go.RowKit

/-- A slice's length. -/
def sLen : Value → Nat
  | .slice _ n _ => n
  | _ => 0
theorem u_slice : Try.prog.underlying 23 = some (.slice 3) := Try.underlying23
/-- A list laid behind nothing. -/
theorem append_new {W : World} {v : Value} {m : List Int} {base : Nat} (hv : SlAt ic 1 W v m) (hn : NilOk v) (hm : m.length ≤ 100000) (hb : base ≤ W.heap.size) :
    ∃ v' w6, (Builtin.append_ #[23, 23] 23 #[.slice none 0 0, v]).run Try.prog W = .ok v' w6 ∧ w6.ownsRow base 3 1 v' m.length (fl ic m) ∧ Below base W w6 := by
  obtain ⟨v', w6, hrun, hr, hb6, _⟩ := append_all (P := Try.prog) (cs := ic) (T := 23) (fun _ => rfl) (fun _ => by simp [Value.oneCell']) u_slice infoInt rfl (by decide) (World.ownsRow_nil W base 3 1) hv (l := []) (by omega) (by unfold maxLen; omega) hb (by
    rcases hn with h | h
    · exact .inl h
    · exact .inr ⟨h, rfl⟩)
  rw [Nat.zero_add] at hr
  exact ⟨v', w6, hrun, hr, hb6⟩
/-- What is out and what is left, beside each other in new memory. -/
structure TwoP (w wz : World) (ua ub : Value) (la lb : List Int) : Prop where
  ra : wz.ownsRow w.heap.size 3 1 ua la.length (fl ic la)
  rb : wz.ownsRow w.heap.size 3 1 ub lb.length (fl ic lb)
  ap : ∀ i, ua.ownBlock = some i → ub.ownBlock ≠ some i
  be : Below w.heap.size w wz
theorem TwoP.add {w wz : World} {ua ub : Value} {la lb : List Int} (h : TwoP w wz ua ub la lb) (x : Int) (hl : la.length ≤ 100000) :
    ∃ g cap w6, (Builtin.append_ #[23, 23] 23 #[ua, .slice (some ⟨wz.heap.size, 0, none⟩) 1 1]).run Try.prog (wz.alloc (.cells (ic x).toArray 3)) = .ok (.slice (some ⟨g, 0, none⟩) (la.length + 1) cap) w6 ∧ TwoP w w6 (.slice (some ⟨g, 0, none⟩) (la.length + 1) cap) ub (la ++ [x]) lb := by
  obtain ⟨g, cap, w6, hrun, hown, hg, hgr, hb⟩ := append_int h.ra x (by omega) h.be.size
  refine ⟨g, cap, w6, hrun, by simpa using hown, h.rb.kept hgr ?_, fun i hi hb' => ?_, h.be.trans hb⟩
  · cases hu : ub.ownBlock with
    | none => exact .inl rfl
    | some j => exact .inr fun e => h.ap j e.symm hu
  · have hi' : g = i := by simpa [Value.ownBlock] using hi
    subst hi'
    rcases hg with hg | hg
    · exact h.ap g hg hb'
    · have := (h.rb.lt g hb').2
      omega
/-- Another list in the place of what is left. -/
theorem TwoP.next {w wz w2 : World} {ua ub uc : Value} {la lb lc : List Int} (h : TwoP w wz ua ub la lb) (hb : Below wz.heap.size wz w2) (hr : w2.ownsRow wz.heap.size 3 1 uc lc.length (fl ic lc)) : TwoP w w2 ua uc la lc :=
  ⟨row_below h.ra hb (Nat.le_refl _), row_low hr h.be.size, fun i hi hc => by
    have h1 := (h.ra.lt i hi).2
    have h2 := (hr.lt i hc).1
    omega, h.be.trans (hb.mono h.be.size)⟩
theorem out_stepR {l : List Int} {k : Nat} {x g : Int} (h : l[k]? = some x) : outL (l.take (k + 1)) g = if (x == g) = true then outL (l.take k) g else outL (l.take k) g ++ [x] := by rw [take_snoc h, outL_snoc]
theorem out_lt {l : List Int} {g : Int} (h : g ∈ l) : (outL l g).length < l.length := by
  rcases Nat.lt_or_ge (outL l g).length l.length with h1 | h1
  · exact h1
  · have h2 := (out_sub l g).eq_of_length_le h1
    rw [← h2] at h
    exact absurd rfl (mem_out.1 h).2
set_option maxRecDepth 100000 in
set_option maxHeartbeats 4000000 in
theorem drank_any {e : Nat} (he : e < 4294967296) {l : List Int} {v : Value} {w : World} (h : SlAt ic 1 w v l) (hn : NilOk v) :
    Calls Try.prog 12 #[.int .u32 e, v] w fun r w' => RkAns w w' (rkL e l) (rkE l) r := by
  have HN := hidIn (dnb_any h)
  have HSl := hidIn (fun q => h.keep (w' := w.drewN q) (below_drewN (Below.refl _ _) q) (Nat.le_refl _))
  have HNil := hidIn hn
  obtain ⟨a, cap, rfl, hjunk⟩ := h
  obtain ⟨bq, hbq⟩ : ∃ bq, nbOk l = bq := ⟨_, rfl⟩
  rw [hbq] at HN
  clear hjunk hn
  cases bq
  · have HE := hidIn (rk_no e hbq)
    generalize l.length = ln at *
    clear hbq HSl
    go_enter Try.func12, Try.ntmps12
    go_wp2_with fail
    refine HN.out.mono ?_
    rintro x w1 ⟨rfl, q, hw1⟩
    rw [hw1]
    clear hw1 w1 HN
    go_wp2_with fail
    go_ret2
    unfold RkAns
    rw [HE.out.1, HE.out.2]
    exact ⟨⟨none, 0, rfl, World.ownsRow_nil _ _ _ _⟩, below_drewN (Below.refl _ _) _⟩
  · have h24 := nb_len hbq
    have HE := hidIn (rk_yes e hbq)
    have HU := hidIn (nb_unl he hbq)
    have HND := hidIn (nodup_rise (nb_rise hbq))
    have HL := hidIn (rank_len (mix e) l)
    have H24 := hidIn h24
    clear hbq h24
    go_enter Try.func12, Try.ntmps12
    go_wp2_with fail
    refine HN.out.mono ?_
    rintro x w1 ⟨rfl, q, hw1⟩
    rw [hw1]
    clear hw1 w1 HN
    obtain ⟨v', w6, hrun, hr6, hb6⟩ := append_new (base := w.heap.size) (HSl.out q) HNil.out (by have := H24.out; omega) (Nat.le_refl _)
    have HRun := hidIn hrun
    obtain ⟨a6, c6, rfl⟩ := row_shape hr6
    have HR6 := hidIn hr6
    have HB6 := hidIn (Below.trans (below_drewN (Below.refl w.heap.size w) q) hb6)
    generalize w.drewN q = w2 at *
    clear hrun hr6 hb6 HSl HNil
    go_wp2_with (refine l_append rfl _ _ 23 rfl HRun.out ?_)
    go_loopw [6, 7] (fun ua ub wr => ∃ (la lo : List Int), (∃ a c, ua = .slice a la.length c) ∧ (∃ a c, ub = .slice a lo.length c) ∧ Hid (TwoP w wr ub ua lo la ∧ lo ++ rankL (mix e) la = rankL (mix e) l ∧ la.Sublist l)) (fun ua _ _ => sLen ua)
    case atStart => exact ⟨l, [], ⟨_, _, rfl⟩, ⟨none, 0, rfl⟩, hidIn ⟨⟨World.ownsRow_nil _ _ _ _, HR6.out, fun i h => by simp [Value.ownBlock] at h, HB6.out⟩, rfl, List.Sublist.refl _⟩⟩
    case round =>
      clear HRun HR6 HB6
      obtain ⟨la, lo, ⟨xa, xc, rfl⟩, ⟨ya, yc, rfl⟩, HT⟩ := hrel
      by_cases hz : la.length = 0
      · have hl0 : la = [] := List.length_eq_zero_iff.1 hz
        subst hl0
        have HE2 : Hid (rkL e l = lo) := hidIn (by rw [HE.out.1, ← HT.out.2.1, rank_nil, List.append_nil])
        simp only [List.length_nil]
        clear hz
        have HB := hidIn HT.out.1
        clear HT
        go_wp2_with fail
        go_ret2
        unfold RkAns
        rw [HE2.out, HE.out.2]
        exact ⟨⟨ya, yc, rfl, HB.out.ra⟩, HB.out.be⟩
      · have hne : la ≠ [] := fun e => hz (by rw [e]; rfl)
        have hpos : (0 : Int) < (la.length : Int) := by omega
        obtain ⟨hT, hrk, hsub⟩ := HT.out
        have hnd := HND.out.sublist hsub
        have hul := HU.out.sub fun x hx => hsub.subset hx
        have hcons := rank_cons hnd hul hne
        obtain ⟨hbm, _⟩ := best_ok (mix e) hne
        have HBe := hidIn (dbest_any he (row_sl hT.rb) (by omega))
        obtain ⟨b, hb⟩ : ∃ b, best (mix e) la = b := ⟨_, rfl⟩
        rw [hb] at HBe hcons hbm
        have hlal : la.length ≤ 24 := Nat.le_trans hsub.length_le H24.out
        have hlol : lo.length ≤ 24 := by
          have := congrArg List.length hrk
          rw [List.length_append, HL.out] at this
          have := H24.out
          omega
        obtain ⟨g7, c7, w7, hrun7, hT7⟩ := hT.add b (by omega)
        have HRun7 := hidIn hrun7
        have HT7 := hidIn hT7
        have HK : Hid ((lo ++ [b]) ++ rankL (mix e) (outL la b) = rankL (mix e) l ∧ (outL la b).Sublist l ∧ (outL la b).length < la.length) := hidIn ⟨by rw [List.append_assoc, ← hrk, hcons]; rfl, (out_sub la b).trans hsub, out_lt hbm⟩
        have HA7 := hidIn (row_sl hT7.rb).ints
        obtain ⟨ln, hln⟩ : ∃ ln, la.length = ln := ⟨_, rfl⟩
        have Hln := hidIn hln
        obtain ⟨on, hon⟩ : ∃ on, lo.length = on := ⟨_, rfl⟩
        have Hon := hidIn hon
        rw [hln] at HBe HA7 hpos hlal HK HT7 ⊢
        rw [hon] at HRun7 hlol HT7 ⊢
        clear hT hrk hsub hnd hul hcons hbm hb hrun7 hT7 hz hne hln hon HT
        go_wp2_with fail
        refine HBe.out.mono ?_
        rintro x w8 ⟨rfl, hw8⟩
        rw [hw8]
        clear hw8 w8 HBe
        go_wp2_with (refine l_append rfl _ _ 23 rfl HRun7.out ?_)
        clear HRun7
        go_loopw [9, 10] (fun u i wz => ∃ p : Nat, p ≤ ln ∧ i = .int .i64 p ∧ (∃ a c, u = .slice a (outL (la.take p) b).length c) ∧ Hid (Below w7.heap.size w7 wz ∧ wz.ownsRow w7.heap.size 3 1 u (outL (la.take p) b).length (fl ic (outL (la.take p) b)))) (fun _ i _ => ln - (intOf i).toNat)
        case atStart => exact ⟨0, Nat.zero_le _, rfl, ⟨none, 0, rfl⟩, hidIn ⟨Below.refl _ _, World.ownsRow_nil _ _ _ _⟩⟩
        case round =>
          obtain ⟨p, hp, rfl, ⟨za, zc, rfl⟩, HZ⟩ := hrel
          by_cases hlt : p < ln
          · obtain ⟨x, hx⟩ : ∃ x, la[p]? = some x := ⟨la[p]'(by have := Hln.out; omega), List.getElem?_eq_getElem _⟩
            obtain ⟨a5, k5, he5, _, _, hat5⟩ := HA7.out
            obtain ⟨bk, o, rfl, hbk, hcell⟩ := hat5 (by have := Hln.out; omega)
            simp only [Value.slice.injEq] at he5
            obtain ⟨rfl, h5a, h5b⟩ := he5
            obtain ⟨hbz, hrz⟩ := HZ.out
            have c0 := (hbz.cell (p := ⟨bk, o + p, none⟩) hbk).trans (hcell p x hx)
            have hpi : (p : Int) < (ln : Int) := by omega
            have hst := out_stepR (g := b) hx
            have hll : (outL (la.take p) b).length ≤ p := Nat.le_trans (List.length_filter_le _ _) (by rw [List.length_take]; omega)
            clear hcell hat5 h5a h5b hx HZ
            by_cases hxb : x = b
            · have hq : (x != b) = false := by simpa using hxb
              have HS : Hid (outL (la.take (p + 1)) b = outL (la.take p) b) := hidIn (by rw [hst, if_pos (by simpa using hxb)])
              have HZ2 := hidIn (And.intro hbz hrz)
              clear hst hxb hbz hrz hll
              generalize outL (la.take p) b = lc at *
              go_wp2_with fail
              go_roundw
              case rel => exact ⟨p + 1, by omega, by go_num, ⟨za, zc, by rw [HS.out]⟩, hidIn (by rw [HS.out]; exact HZ2.out)⟩
              case measure => simp [intOf]; omega
            · have hq : (x != b) = true := by simpa using hxb
              have HS : Hid (outL (la.take (p + 1)) b = outL (la.take p) b ++ [x]) := hidIn (by rw [hst, if_neg (by simpa using hxb)])
              obtain ⟨g9, c9, w9, hrun9, hown9, _, _, hb9⟩ := append_int hrz x (by omega) hbz.size
              have HRun9 := hidIn hrun9
              have HZ2 := hidIn (And.intro (hbz.trans hb9) hown9)
              clear hst hxb hbz hrz hll hrun9 hown9 hb9
              generalize outL (la.take p) b = lc at *
              go_wp2_with (refine l_append rfl _ _ 23 rfl HRun9.out ?_)
              go_roundw
              case rel => exact ⟨p + 1, by omega, by go_num, ⟨_, c9, by rw [HS.out]; simp; rfl⟩, hidIn (by rw [HS.out]; simpa using HZ2.out)⟩
              case measure => simp [intOf]; omega
          · have hpi : ¬ (p : Int) < (ln : Int) := by omega
            have hta : la.take p = la := List.take_of_length_le (by have := Hln.out; omega)
            rw [hta] at HZ ⊢
            have HN2 := hidIn (HT7.out.next HZ.out.1 HZ.out.2)
            clear hta hlt hp HZ HT7 HA7
            go_wp2_with fail
            go_roundw
            case rel => exact ⟨outL la b, lo ++ [b], ⟨_, _, rfl⟩, ⟨_, c7, by rw [List.length_append, Hon.out]; rfl⟩, hidIn ⟨HN2.out, HK.out.1, HK.out.2.1⟩⟩
            case measure => have := HK.out.2.2; simp [sLen]; omega
end Go.Proofs.Ytcgndpenalcpeaa
