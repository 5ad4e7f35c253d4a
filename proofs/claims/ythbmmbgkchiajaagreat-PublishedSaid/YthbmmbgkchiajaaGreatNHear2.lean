
/- What a coordinator hears: No, Ack, Inquiry. -/
import Derived.Test.YthbmmbgkchiajaaGreatNHear
namespace Go.Proofs.YthbmmbgkchiajaaGreat
set_option linter.unusedSimpArgs false
set_option linter.unusedVariables false
open Go.RowKit

attribute [local go_sem ↓] lookO_eq lookP_eq delO_eq delP_eq putO_eq putP_eq lenO_eq lenP_eq

set_option maxRecDepth 100000 in
set_option maxHeartbeats 1000000 in
theorem hearNo_any (o : Nat → Tag) (p B frm : Nat) (n : NM) (t : Tx) (w : World) (h : NodeAt o w p n B) (hup : n.up = true) (hz : n.fuse = none) (hf : frm < 4) (hB : B + 9 ≤ 1099511627776) :
    Calls Tryz.prog 160 #[.pointer (some ⟨p, 0, none⟩), txv t, .int .i64 (frm : Int)] w fun e w' => Res o w p (B + 9) (n.hearNo t frm) e w' := by
  obtain ⟨W, hW, hkA, hA, hwl⟩ := boxTx w t
  have h0 := h.begin hkA
  have ho0 : tagsUp o w .other w.heap.size = .other := tagsUp_new (Nat.le_refl _)
  have hask := asked_any _ p B frm n t W h0 hf
  have hab := abort_any
  have hnq : ∀ W b, (binOp .neq 206 (.pointer (some ⟨b, 0, none⟩)) (.pointer none)).run Tryz.prog W = .ok (.bool true) W := fun W b => by simp [go_sem, Tryz.underlying206]
  unfold txv at *
  cases ha : n.asked t frm with
  | none =>
    rw [ha] at hask
    have hr : n.hearNo t frm = .ok n := by unfold NM.hearNo; rw [ha]
    rw [hr]
    have HQ : Hid (∀ w', Keeps (fun _ => False) W w' → NPost o w p n (B + 9) w') := hide (fun w' hk => (NPost.from hkA (h0.quiet hk)).up (by omega) hB)
    obtain ⟨d0, d1, d2⟩ := boxTx_cells hA
    clear h h0 hr ha hup hz
    go_enter Tryz.func160, Tryz.ntmps160
    go_wp2_with (go_at_call 230; refine hask.mono ?_; rintro e w1 ⟨rfl, hk1⟩)
    go_end0
    exact ⟨rfl, (unhide HQ) w1 hk1⟩
  | some d =>
    rw [ha] at hask
    have hd := asked_some ha
    obtain ⟨x, hx⟩ : ∃ x, without d.parts frm = x := ⟨_, rfl⟩
    obtain ⟨m2, hm2, _⟩ := abort_calm (n := n) hz t d x
    have hr : n.hearNo t frm = .ok m2 := by
      unfold NM.hearNo
      rw [ha]
      simp only [hx, hm2]
    rw [hr]
    simp only [Option.map_some, Option.getD_some, dptr] at hask
    obtain ⟨d0, d1, d2⟩ := boxTx_cells hA
    have hne := fun W => hnq W d.blk
    have HD := hide (And.intro hd (And.intro hm2 (And.intro hx (And.intro hup hz))))
    have HN0 := hide h0
    clear h h0 hd hr ha hm2 hx hup hz
    go_enter Tryz.func160, Tryz.ntmps160
    go_wp2_with fail
    clear hW
    go_at_call 230
    refine hask.mono ?_
    rintro e w1 ⟨rfl, hk1⟩
    have hA1 := hk1.heap hA (fun f => f)
    obtain ⟨e0, e1, e2⟩ := boxTx_cells hA1
    have hN1 := (unhide HN0).still hk1
    have hN1' := hN1
    obtain ⟨pd, vj, vf, bo, bp, ve, g1⟩ := hN1
    have q0 := g1.dealCell (unhide HD).1 0
    simp [dealCells] at q0
    have hs := g1.small.deals _ (mget_mem (unhide HD).1)
    simp only at hs
    have hwi := fun W => sWithout_any d.parts frm W hs.1 hf
    have hxl := without_lt' hs.1 hf
    rw [(unhide HD).2.2.1] at hwi hxl
    have hse := hab _ p B x n t d w1.drew hN1'.drew (unhide HD).2.2.2.1 (unhide HD).2.2.2.2 (unhide HD).1 hxl hB
    rw [(unhide HD).2.1] at hse
    unfold dptr at hse
    have HT : Hid (∀ w' n' B', NPost (tagsUp o w .other) w1 p n' B' w' → NPost o w p n' B' w') := hide (fun w' n' B' hh => NPost.from (hkA.trans hk1 (fun _ _ f => f)) hh)
    clear g1 hA1 hask d0 d1 d2 hN1' HN0
    go_wp2_with fail
    go_region_with (first | (go_at_call 231; refine (hwi _).mono ?_; rintro e wx ⟨rfl, rfl⟩) | (go_at_call 233; refine hse.mono ?_; rintro e w4 ⟨rfl, hres4⟩))
    all_goals
      go_wp2
      go_end0
      exact ⟨rfl, (unhide HT) _ _ _ (PostDrew hres4)⟩

end Go.Proofs.YthbmmbgkchiajaaGreat
