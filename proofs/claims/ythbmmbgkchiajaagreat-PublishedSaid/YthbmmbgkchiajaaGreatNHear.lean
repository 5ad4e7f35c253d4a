
/- What a coordinator hears. -/
import Derived.Test.YthbmmbgkchiajaaGreatNCommit
namespace Go.Proofs.YthbmmbgkchiajaaGreat
set_option linter.unusedSimpArgs false
set_option linter.unusedVariables false
open Go.RowKit

attribute [local go_sem ↓] lookO_eq lookP_eq delO_eq delP_eq putO_eq putP_eq lenO_eq lenP_eq

theorem asked_some {n : NM} {t : Tx} {frm : Nat} {d : Deal} (h : n.asked t frm = some d) : mget n.opn t = some d := by
  unfold NM.asked at h
  split at h
  · cases h
  · rename_i d' hd
    split at h
    · cases h
    · cases h; exact hd
theorem without_lt' {s i : Nat} (hs : s < 16) (hi : i < 4) : without s i < 16 := without_lt ⟨s, hs⟩ ⟨i, hi⟩

set_option maxRecDepth 100000 in
set_option maxHeartbeats 1000000 in
theorem hearYes_any (o : Nat → Tag) (p B frm : Nat) (n : NM) (t : Tx) (w : World) (h : NodeAt o w p n B) (hup : n.up = true) (hz : n.fuse = none) (hf : frm < 4) (hB : B + 9 ≤ 1099511627776) :
    Calls Tryz.prog 159 #[.pointer (some ⟨p, 0, none⟩), txv t, .int .i64 (frm : Int)] w fun e w' => Res o w p (B + 9) (n.hearYes t frm) e w' := by
  obtain ⟨W, hW, hkA, hA, hwl⟩ := boxTx w t
  have h0 := h.begin hkA
  have ho0 : tagsUp o w .other w.heap.size = .other := tagsUp_new (Nat.le_refl _)
  obtain ⟨d0, d1, d2⟩ := boxTx_cells hA
  have hask := asked_any _ p B frm n t W h0 hf
  have hcom := commit_any
  unfold txv at *
  cases ha : n.asked t frm with
  | none =>
    rw [ha] at hask
    have hr : n.hearYes t frm = .ok n := by unfold NM.hearYes; rw [ha]
    rw [hr]
    have HQ : Hid (∀ w', Keeps (fun _ => False) W w' → NPost o w p n (B + 9) w') := hide (fun w' hk => (NPost.from hkA (h0.quiet hk)).up (by omega) hB)
    clear h h0 hr ha hup hz
    go_enter Tryz.func159, Tryz.ntmps159
    go_wp2_with (go_at_call 230; refine hask.mono ?_; rintro e w1 ⟨rfl, hk1⟩)
    go_end0
    exact ⟨rfl, (unhide HQ) w1 hk1⟩
  | some d =>
    rw [ha] at hask
    have hd := asked_some ha
    obtain ⟨x, hx⟩ : ∃ x, without d.waits frm = x := ⟨_, rfl⟩
    obtain ⟨k, hk0⟩ : ∃ k : NM, { n with opn := mset n.opn t { d with waits := x } } = k := ⟨_, rfl⟩
    have hkz : k.fuse = none := by rw [← hk0]; exact hz
    have hku : k.up = true := by rw [← hk0]; exact hup
    obtain ⟨m2, hm2, _⟩ := commit_calm (n := k) hkz t { d with waits := x }
    have hr : n.hearYes t frm = .ok (if x = 0 then m2 else k) := by
      unfold NM.hearYes
      rw [ha]
      simp only [hx, hk0, hm2]
      split <;> rfl
    rw [hr]
    simp only [Option.map_some, Option.getD_some, dptr] at hask
    have hne := fun W => eq_nil W d.blk
    have HD := hide hd
    have HN0 := hide h0
    have HK := hide (And.intro hku (And.intro hkz (And.intro hk0 (And.intro hm2 hx))))
    clear h h0 hd hr ha hkz hku hk0 hm2 hx hup hz
    generalize hfin : (if x = 0 then m2 else k) = fin at *
    have HFIN := hide hfin
    clear hfin
    go_enter Tryz.func159, Tryz.ntmps159
    go_wp2_with fail
    clear hW
    go_at_call 230
    refine hask.mono ?_
    rintro e w1 ⟨rfl, hk1⟩
    have hA1 := hk1.heap hA (fun f => f)
    have hN1 := (unhide HN0).still hk1
    obtain ⟨pd, vj, vf, bo, bp, ve, g1⟩ := hN1
    have q1 := g1.dealCell (unhide HD) 1
    simp [dealCells] at q1
    have z1 := frozen_of_heap (o := 1) (g1.opens.deals _ (mget_mem (unhide HD))).2
    simp only at z1
    have hs := g1.small.deals _ (mget_mem (unhide HD))
    simp only at hs
    have hwi := fun W => sWithout_any d.waits frm W hs.2.1 hf
    have hxl := without_lt' hs.2.1 hf
    rw [(unhide HK).2.2.2.2] at hwi hxl
    have hp1 := g1.dealPost (unhide HD) 1 (.int .i64 (x : Int)) (d' := { d with waits := x }) rfl rfl ⟨hs.1, hxl, hs.2.2.1, hs.2.2.2⟩
    have hdk : mget (mset n.opn t { d with waits := x }) t = some { d with waits := x } := mget_mset (unhide HD)
    have ekk : k.opn = mset n.opn t { d with waits := x } := by rw [← (unhide HK).2.2.1]
    rw [(unhide HK).2.2.1] at hp1
    rw [← ekk] at hdk
    have hA2 := hp1.frame hA1 ho0
    obtain ⟨k0, k1, k2⟩ := boxTx_cells hA2
    obtain ⟨o2, pd2, vj2, vf2, bo2, bp2, ve2, g2, f2, t2, _⟩ := hp1.ghost
    have s1 := g2.dealCell hdk 1
    simp [dealCells] at s1
    by_cases hx0 : x = 0
    · have hb0 : ((x : Int) == 0) = true := by rw [beq_iff_eq]; omega
      have hse := hcom o2 p B k t { d with waits := x } _ ⟨_, _, _, _, _, _, g2⟩ (unhide HK).1 (unhide HK).2.1 hdk hB
      rw [(unhide HK).2.2.2.1] at hse
      have HX := hide hx0
      unfold dptr at hse
      simp only at hse
      have HT : Hid (∀ w' n' B', NPost o2 (w1.setCell ⟨d.blk, 1, none⟩ (.int .i64 (x : Int))) p n' B' w' → NPost o w p n' B' w') := hide (fun w' n' B' hh => NPost.from (hkA.trans hk1 (fun _ _ f => f)) (t2 _ _ _ hh))
      clear hp1 g1 g2 t2 hdk hA1 hA2 hask d0 d1 d2 hx0 ekk
      go_wp2_with (first | (go_at_call 231; refine (hwi _).mono ?_; rintro e wx ⟨rfl, rfl⟩) | (go_at_call 232; refine hse.mono ?_; rintro e w4 ⟨rfl, hres4⟩))
      go_end0
      refine ⟨rfl, ?_⟩
      rw [← unhide HFIN, if_pos (unhide HX)]
      exact (unhide HT) _ _ _ hres4
    · have hb0 : ((x : Int) == 0) = false := by rw [beq_eq_false_iff_ne]; omega
      have HX := hide hx0
      have HE := hide (NPost.from (hkA.trans hk1 (fun _ _ f => f)) (hp1.up (B' := B + 9) (by omega) hB))
      clear hp1 g1 g2 t2 hdk hA1 hA2 hask d0 d1 d2 hx0 ekk
      go_wp2_with (first | (go_at_call 231; refine (hwi _).mono ?_; rintro e wx ⟨rfl, rfl⟩))
      go_end0
      refine ⟨rfl, ?_⟩
      rw [← unhide HFIN, if_neg (unhide HX)]
      exact unhide HE

end Go.Proofs.YthbmmbgkchiajaaGreat
