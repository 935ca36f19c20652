/- The document's calendar: Take. -/
import Derived.Test.YtaldehgggilmdaaDP1
namespace Go.Proofs.Ytaldehgggilmdaa.Ca.S
open Go.RowKit Go.Maps

set_option maxRecDepth 100000 in
set_option maxHeartbeats 4000000 in
theorem dtake_any {w : World} {S : Nat → Prop} {mp : Nat} {p now : Int} {L : List (Tg ByteArray)} (h0 : RfAt w S mp L p) (hl : L.length ≤ 100000) :
    Calls Try.prog 9 #[ptr mp, .int .u64 now] w fun e w' => (∃ u, e = .returned u ∧ w'.ownsRow w.heap.size 9 1 u (dueT L now).length (fl tc ((dueT L now).map fun b => b.1.1))) ∧ RfAt w' S mp (restT L now) p ∧ Fr S w w' := by
  have h := h0.mono (T := fun k => S k ∧ k < w.heap.size) (fun k hk hs => ⟨hs, hk⟩)
  obtain ⟨q, hq⟩ : ∃ q, w.heap.size = q := ⟨_, rfl⟩
  have Hq := hidIn hq
  have H := hidIn h
  obtain ⟨D0, R0, hDR⟩ : ∃ D R, dueT L now = D ∧ restT L now = R := ⟨_, _, rfl, rfl⟩
  rw [hq, hDR.1, hDR.2]
  have HDR := hidIn hDR
  have HL9 := hidIn hl
  clear hq h h0 hDR hl
  go_enter Try.func9, Try.ntmps9
  go_wp2_with fail
  go_loopw [5] (fun u wr => ∃ D R, L = D ++ R ∧ (∃ a c, u = .slice a D.length c) ∧ Hid (dueT L now = D ++ dueT R now ∧ restT L now = restT R now ∧ wr.ownsRow q 9 1 u D.length (fl tc (D.map fun b => b.1.1)) ∧ RfAt wr (fun k => S k ∧ k < q) mp R p ∧ Fr S w wr)) (fun u _ => L.length - slN u)
  case atStart => exact ⟨[], L, rfl, ⟨none, 0, rfl⟩, hidIn ⟨rfl, rfl, World.ownsRow_nil _ _ _ _, by rw [← Hq.out]; exact H.out, Fr.refl _ _⟩⟩
  case round =>
    obtain ⟨D, R, hLD, ⟨ua, uc, rfl⟩, HR⟩ := hrel
    obtain ⟨r1, r2, r3, r4, r5⟩ := HR.out
    clear HR
    have HR1 := hidIn r1
    have HR2 := hidIn r2
    have HR3 := hidIn r3
    have HR4 := hidIn r4
    have HR5 := hidIn r5
    have hDl : D.length ≤ 100000 := by have := HL9.out; rw [hLD, List.length_append] at this; omega
    obtain ⟨a, cap, m1, m2, m3, _, m4⟩ := r4
    have x0 := cell_of_row _ _ 0 _ _ _ m1
    simp at x0
    have HDi : Hid (L = D ++ R) := hidIn hLD
    cases R with
    | nil =>
      clear r1 r2 r3 r5 m1 m4 hLD
      simp only [List.length_nil] at x0
      go_wp2_with fail
      go_returns
      have e1 := HR1.out
      have e2 := HR2.out
      rw [HDR.out.1, (due_nil now).1, List.append_nil] at e1
      rw [HDR.out.2, (due_nil now).2] at e2
      rw [e1, e2]
      exact ⟨⟨_, rfl, HR3.out⟩, HR4.out.mono (fun _ _ h => h.1), HR5.out⟩
    | cons b R' =>
      obtain ⟨bk, o, rfl, n1, n2, n3, n4⟩ := m4 (by simp)
      obtain ⟨y0, y1, y2⟩ := n4 0 b rfl
      simp only [Nat.zero_mul, Nat.add_zero] at y0 y1 y2
      have hf0 := frozen_new m1 0
      obtain ⟨bt, hbt⟩ : ∃ t, b.1.2 = t := ⟨_, rfl⟩
      rw [hbt] at y0
      have hn0 : (0 : Int) < ((R'.length + 1 : Nat) : Int) := by omega
      rw [List.length_cons] at x0
      by_cases hdue : bt ≤ now
      · obtain ⟨g6, cap6, w6, hrun, hown, hlie, hgr, hb6⟩ := append_th r3 b.1.1 (by omega) (by have := r5.size; rw [Hq.out] at this; exact this)
        have hF6 : Fr (fun k => (Value.slice ua D.length uc).ownBlock = some k) wr w6 := ⟨hgr.os, hgr.tape, hgr.output, hgr.size, fun j hj hne => hgr.block j hj (fun e => hne e.symm)⟩
        have hold : ∀ k, (Value.slice ua D.length uc).ownBlock = some k → q ≤ k := fun k hk => (r3.lt k hk).1
        have hR6 := HR4.out.keep hF6 (fun k hk e => by have := hold k e; have := hk.2; omega)
        have k6 := (hF6.block mp (block_lt m1) (fun e => by have := hold mp e; have := m2.2; omega)).trans m1
        have z0 := cell_of_row _ _ 0 _ _ _ k6
        simp only [List.length_cons] at z0
        simp at z0
        have zf := frozen_new k6 0
        have HRun := hidIn hrun
        have HO := hidIn hown
        have HLi := hidIn hlie
        have HR6 := hidIn hR6
        have HF6 : Hid (Fr S w w6) := hidIn ⟨hF6.os.trans HR5.out.os, hF6.tape.trans HR5.out.tape, hF6.output.trans HR5.out.output, Nat.le_trans HR5.out.size hF6.size, fun k hk hs => (hF6.block k (Nat.lt_of_lt_of_le hk HR5.out.size) (fun e => by have := hold k e; have := Hq.out; omega)).trans (HR5.out.block k hk hs)⟩
        have hold6 : Hid (∀ k, (Value.slice ua D.length uc).ownBlock = some k → q ≤ k) := hidIn hold
        have Hm := hidIn m2
        have Hm3 := hidIn m3
        have Hk6 := hidIn k6
        have hm3 : R'.length + 1 ≤ cap := m3
        clear r1 r2 r3 r5 n4 hrun hown hlie hgr hb6 hF6 hold hR6 k6 m1 m2 hf0 m4
        go_wp2_with (refine l_append rfl _ _ 36 rfl HRun.out ?_)
        have hU := HR6.out.drop1 Hk6.out
        have hFU : Fr (fun k => k = mp) w6 (w6.setCell ⟨mp, 0, none⟩ (.slice (if cap = 1 then some ⟨bk, o, none⟩ else some ⟨bk, o + 3, none⟩) R'.length (cap - 1))) := (Fr.refl (fun k => k = mp) w6).set (p := ⟨mp, 0, none⟩) rfl _
        have hdy := due_yes (a := b) (L := R') (now := now) (by rw [show tick b.1 = bt from hbt]; exact hdue)
        refine ⟨⟨D ++ [b], R', by rw [HDi.out]; simp, ⟨_, _, by rw [List.length_append]; rfl⟩, hidIn ⟨by rw [HR1.out, hdy.1, List.append_assoc]; rfl, by rw [HR2.out, hdy.2], ?_, hU, HF6.out.trans (hFU.mono (fun k _ e => e ▸ Hm.out.1))⟩⟩, ?_⟩
        · rw [List.length_append, List.map_append]
          exact row_fr HO.out hFU (fun j hj hs => by
            simp [Value.ownBlock] at hj
            have h1 : q ≤ g6 := by
              rcases HLi.out with e | e
              · exact hold6.out _ e
              · have := HR5.out.size; have := Hq.out; omega
            have := Hm.out.2
            omega)
        · have hlD : D.length < L.length := by rw [HDi.out, List.length_append]; simp
          simp [slN]; omega
      · clear r1 r2 r3 r5 n4
        have hdn := due_no (a := b) (L := R') (now := now) (by rw [show tick b.1 = bt from hbt]; exact hdue)
        have e1 := HR1.out
        have e2 := HR2.out
        rw [HDR.out.1, hdn.1, List.append_nil] at e1
        rw [HDR.out.2, hdn.2] at e2
        have E1 := hidIn e1
        have E2 := hidIn e2
        clear e1 e2 hdn hLD
        go_wp2_with fail
        go_returns
        rw [E1.out, E2.out]
        exact ⟨⟨_, rfl, HR3.out⟩, HR4.out.mono (fun _ _ h => h.1), HR5.out⟩
end Go.Proofs.Ytaldehgggilmdaa.Ca.S
