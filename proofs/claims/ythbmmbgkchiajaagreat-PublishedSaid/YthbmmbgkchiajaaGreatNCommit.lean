
/- Decisions. -/
import Derived.Test.YthbmmbgkchiajaaGreatNSettle
import Derived.Deep.RegionWith
namespace Go.Proofs.YthbmmbgkchiajaaGreat
set_option linter.unusedSimpArgs false
set_option linter.unusedVariables false
open Go.RowKit

attribute [local go_sem ↓] lookO_eq lookP_eq delO_eq delP_eq putO_eq putP_eq lenO_eq lenP_eq

theorem settle_calm {n : NM} (hz : n.fuse = none) (t : Tx) (d : Deal) (oc nodes : Nat) : ∃ m, n.settle t d oc nodes = .ok m ∧ m.fuse = none := by
  obtain ⟨k, hk0⟩ : ∃ k : NM, { (n.happen 2 t oc).sendAll (order oc) nodes t with opn := mset ((n.happen 2 t oc).sendAll (order oc) nodes t).opn t { d with outcome := oc, waits := nodes } } = k := ⟨_, rfl⟩
  have hset : n.settle t d oc nodes = if k.acksDue oc then (if nodes = 0 then k.ends t else .ok k) else .ok { k with opn := mdel k.opn t } := by rw [← hk0]; rfl
  have hkz : k.fuse = none := by rw [← hk0]; exact (sendAll_facts _ _ _ _).2.2.1.trans hz
  rw [hset]
  split
  · split
    · unfold NM.ends
      obtain ⟨l, hl1, hl2⟩ := lazily_calm hkz ⟨4, t, 0, 0⟩
      rw [hl1]
      exact ⟨_, rfl, hl2⟩
    · exact ⟨_, rfl, hkz⟩
  · exact ⟨_, rfl, hkz⟩

set_option maxRecDepth 100000 in
set_option maxHeartbeats 1000000 in
theorem commit_any (o : Nat → Tag) (p B : Nat) (n : NM) (t : Tx) (d : Deal) (w : World) (h : NodeAt o w p n B) (hup : n.up = true) (hz : n.fuse = none) (hd : mget n.opn t = some d) (hB : B + 9 ≤ 1099511627776) :
    Calls Tryz.prog 232 #[.pointer (some ⟨p, 0, none⟩), txv t, dptr d] w fun e w' => Res o w p (B + 9) (n.commit t d) e w' := by
  obtain ⟨W, hW, hkA, hA, hwl⟩ := boxTx w t
  have h0 := h.begin hkA
  have ho0 : tagsUp o w .other w.heap.size = .other := tagsUp_new (Nat.le_refl _)
  obtain ⟨d0, d1, d2⟩ := boxTx_cells hA
  obtain ⟨pd, vj, vf, bo, bp, ve, g0⟩ := h0
  have q0 := g0.dealCell hd 0
  simp [dealCells] at q0
  have hs := g0.small.deals _ (mget_mem hd)
  simp only at hs
  have hfo := force_any _ p B n ⟨2, t, d.parts, 0⟩ W.drew (NodeAt.drew ⟨pd, vj, vf, bo, bp, ve, g0⟩) hup (by omega)
  have hsett := settle_any
  unfold NM.commit dptr
  unfold recV at hfo
  obtain ⟨i, m, hr, hmz⟩ := forces_calm hz ⟨2, t, d.parts, 0⟩
  rw [hr] at hfo ⊢
  obtain ⟨u1, u2, _, _, u5⟩ := forces_up hr
  have hdm : mget m.opn t = some d := by rw [u2]; exact hd
  obtain ⟨k, hk0⟩ : ∃ k : NM, { m with opn := mset m.opn t { d with recd := i } } = k := ⟨_, rfl⟩
  obtain ⟨m2, hm2, _⟩ := settle_calm (n := k) (by rw [← hk0]; exact hmz) t { d with recd := i } 1 d.parts
  have hres0 : ({ m with opn := mset m.opn t { d with recd := i } } : NM).settle t { d with recd := i } 1 d.parts = .ok m2 := by rw [hk0]; exact hm2
  simp only [hres0]
  have HM := hide (And.intro (u1.trans hup) (And.intro hmz (And.intro hdm (And.intro u5 (And.intro hk0 hm2)))))
  unfold txv at *
  simp only at hfo
  clear u1 u2 u5 hdm hk0 hm2 hres0 hr h g0 hd hmz
  go_enter Tryz.func232, Tryz.ntmps232
  go_wp2_with fail
  clear hW
  go_region_held3 (fun w' => w'.cell? ⟨d.blk, 0, none⟩ = some (.int .i64 (d.parts : Int)) ∧ w'.cell? ⟨w.heap.size, 0, none⟩ = some (.int .i64 (t.coord : Int)) ∧ w'.cell? ⟨w.heap.size, 1, none⟩ = some (.int .i64 (t.inc : Int)) ∧ w'.cell? ⟨w.heap.size, 2, none⟩ = some (.int .i64 (t.seq : Int))) (first | exact ⟨q0, d0, d1, d2⟩ | exact ⟨q0', e0, e1, e2⟩ | exact ⟨s0, k0, k1, k2⟩) (first
    | (go_at_call 156; refine hfo.mono ?_; rintro e w1 ⟨rfl, hres⟩; have hA1 := hres.frame (b := w.heap.size) hA ho0; obtain ⟨e0, e1, e2⟩ := boxTx_cells hA1; obtain ⟨o1, pd1, vj1, vf1, bo1, bp1, ve1, g1, f1, t1, _⟩ := hres.ghost; have ho1 := (f1 w.heap.size hwl).trans ho0; have hdm := (unhide HM).2.2.1; have q0' := g1.dealCell hdm 0; have q4 := g1.dealCell hdm 4; simp [dealCells] at q0' q4; have z4 := frozen_of_heap (o := 4) (g1.opens.deals _ (mget_mem hdm)).2; simp only at z4; have hp1 := g1.dealPost hdm 4 (.int .i64 (i : Int)) (d' := { d with recd := i }) rfl rfl ⟨hs.1, hs.2.1, hs.2.2.1, Nat.le_trans hs.2.2.2.1 (by omega), Nat.le_trans (unhide HM).2.2.2.1 g1.small.recs⟩; rw [(unhide HM).2.2.2.2.1] at hp1; have hA2 := hp1.frame hA1 ho1; obtain ⟨k0, k1, k2⟩ := boxTx_cells hA2; obtain ⟨o2, pd2, vj2, vf2, bo2, bp2, ve2, g2, f2, t2, _⟩ := hp1.ghost; have hdk : mget k.opn t = some { d with recd := i } := (by rw [← (unhide HM).2.2.2.2.1]; exact mget_mset hdm); have s0 := g2.dealCell hdk 0; simp [dealCells] at s0; have ho2 := (f2 w.heap.size (lt_of_heap hA1)).trans ho1; have HDK := hide hdk; have HG2 := hide g2; have HT : Hid (∀ w' n' B', NPost o2 (w1.setCell ⟨d.blk, 4, none⟩ (.int .i64 (i : Int))) p n' B' w' → NPost o w p n' B' w') := hide (fun w' n' B' hh => NPost.from hkA.drew (t1 _ _ _ (t2 _ _ _ hh))); clear hp1 g1 g2 t1 t2 hdm hdk))
  generalize w1.setCell _ _ = V at *
  have hse := hsett o2 p (B + 2) 1 d.parts k t { d with recd := i } V.drew (NodeAt.drew ⟨_, _, _, _, _, _, unhide HG2⟩) (by rw [← (unhide HM).2.2.2.2.1]; exact (unhide HM).1) (by rw [← (unhide HM).2.2.2.2.1]; exact (unhide HM).2.1) (unhide HDK) (by omega) hs.1 (by omega)
  rw [(unhide HM).2.2.2.2.2] at hse
  unfold dptr at hse
  simp only at hse
  clear hA1 hA2 q0 q0' q4 z4 d0 d1 d2 e0 e1 e2 hfo hres
  go_wp2_with fail
  go_region_with (go_at_call 282; refine hse.mono ?_; rintro e w4 ⟨rfl, hres4⟩)
  all_goals
    go_wp2
    go_end0
    exact ⟨rfl, (unhide HT) _ _ _ (PostDrew hres4)⟩

set_option maxRecDepth 100000 in
set_option maxHeartbeats 1000000 in
theorem abort_any (o : Nat → Tag) (p B nodes : Nat) (n : NM) (t : Tx) (d : Deal) (w : World) (h : NodeAt o w p n B) (hup : n.up = true) (hz : n.fuse = none) (hd : mget n.opn t = some d) (h2 : nodes < 16) (hB : B + 9 ≤ 1099511627776) :
    Calls Tryz.prog 233 #[.pointer (some ⟨p, 0, none⟩), txv t, dptr d, .int .i64 (nodes : Int)] w fun e w' => Res o w p (B + 9) (n.abort t d nodes) e w' := by
  obtain ⟨W, hW, hkA, hA, hwl⟩ := boxTx w t
  have h0 := h.begin hkA
  have ho0 : tagsUp o w .other w.heap.size = .other := tagsUp_new (Nat.le_refl _)
  obtain ⟨d0, d1, d2⟩ := boxTx_cells hA
  have hN0 := h0
  obtain ⟨pd, vj, vf, bo, bp, ve, g0⟩ := h0
  have c2 := g0.cell 2
  simp [nodeCells] at c2
  have hs := g0.small.deals _ (mget_mem hd)
  simp only at hs
  have hsett := settle_any
  unfold NM.abort
  by_cases hv : n.cfg.variant = 1
  · rw [if_pos hv]
    rw [hv] at c2
    have hfo := force_any _ p B n ⟨3, t, nodes, 0⟩ W hN0 hup (by omega)
    unfold recV at hfo
    obtain ⟨i, m, hr, hmz⟩ := forces_calm hz ⟨3, t, nodes, 0⟩
    rw [hr] at hfo ⊢
    obtain ⟨u1, u2, _, _, u5⟩ := forces_up hr
    have hdm : mget m.opn t = some d := by rw [u2]; exact hd
    obtain ⟨k, hk0⟩ : ∃ k : NM, { m with opn := mset m.opn t { d with recd := i } } = k := ⟨_, rfl⟩
    obtain ⟨m2, hm2, _⟩ := settle_calm (n := k) (by rw [← hk0]; exact hmz) t { d with recd := i } 2 nodes
    have hres0 : ({ m with opn := mset m.opn t { d with recd := i } } : NM).settle t { d with recd := i } 2 nodes = .ok m2 := by rw [hk0]; exact hm2
    simp only [hres0]
    have HM := hide (And.intro (u1.trans hup) (And.intro hmz (And.intro hdm (And.intro u5 (And.intro hk0 hm2)))))
    unfold txv dptr at *
    simp only at hfo
    clear u1 u2 u5 hdm hk0 hm2 hres0 hr h g0 hd hmz hv
    go_enter Tryz.func233, Tryz.ntmps233
    go_wp2_with fail
    clear hW
    go_at_call 156
    refine hfo.mono ?_
    rintro e w1 ⟨rfl, hres⟩
    have hA1 := hres.frame (b := w.heap.size) hA ho0
    obtain ⟨o1, pd1, vj1, vf1, bo1, bp1, ve1, g1, f1, t1, _⟩ := hres.ghost
    have ho1 := (f1 w.heap.size hwl).trans ho0
    have hdm := (unhide HM).2.2.1
    have q4 := g1.dealCell hdm 4
    simp [dealCells] at q4
    have z4 := frozen_of_heap (o := 4) (g1.opens.deals _ (mget_mem hdm)).2
    simp only at z4
    have hp1 := g1.dealPost hdm 4 (.int .i64 (i : Int)) (d' := { d with recd := i }) rfl rfl ⟨hs.1, hs.2.1, hs.2.2.1, Nat.le_trans hs.2.2.2.1 (by omega), Nat.le_trans (unhide HM).2.2.2.1 g1.small.recs⟩
    rw [(unhide HM).2.2.2.2.1] at hp1
    have hA2 := hp1.frame hA1 ho1
    obtain ⟨k0, k1, k2⟩ := boxTx_cells hA2
    obtain ⟨o2, pd2, vj2, vf2, bo2, bp2, ve2, g2, f2, t2, _⟩ := hp1.ghost
    have hdk : mget k.opn t = some { d with recd := i } := (by rw [← (unhide HM).2.2.2.2.1]; exact mget_mset hdm)
    have hse := hsett o2 p (B + 2) 2 nodes k t { d with recd := i } _ ⟨_, _, _, _, _, _, g2⟩ (by rw [← (unhide HM).2.2.2.2.1]; exact (unhide HM).1) (by rw [← (unhide HM).2.2.2.2.1]; exact (unhide HM).2.1) hdk (by omega) h2 (by omega)
    rw [(unhide HM).2.2.2.2.2] at hse
    simp only at hse
    have HT : Hid (∀ w' n' B', NPost o2 (w1.setCell ⟨d.blk, 4, none⟩ (.int .i64 (i : Int))) p n' B' w' → NPost o w p n' B' w') := hide (fun w' n' B' hh => NPost.from hkA (t1 _ _ _ (t2 _ _ _ hh)))
    clear hp1 g1 g2 t1 t2 hdm hdk hA1 hA2 hfo hres d0 d1 d2
    go_wp2_with (go_at_call 282; refine hse.mono ?_; rintro e w4 ⟨rfl, hres4⟩)
    go_end0
    exact ⟨rfl, (unhide HT) _ _ _ hres4⟩
  · rw [if_neg hv]
    have hv' : ((n.cfg.variant : Int) == 1) = false := by rw [beq_eq_false_iff_ne]; omega
    have hse := hsett _ p B 2 nodes n t d W hN0 hup hz hd (by omega) h2 (by omega)
    obtain ⟨m2, hm2, _⟩ := settle_calm (n := n) hz t d 2 nodes
    rw [hm2] at hse ⊢
    unfold txv dptr at *
    clear h g0 hd hv
    go_enter Tryz.func233, Tryz.ntmps233
    go_wp2_with (go_at_call 282; refine hse.mono ?_; rintro e w4 ⟨rfl, hres4⟩)
    go_end0
    exact ⟨rfl, NPost.from hkA (hres4.up (by omega) hB)⟩

theorem commit_calm {n : NM} (hz : n.fuse = none) (t : Tx) (d : Deal) : ∃ m, n.commit t d = .ok m ∧ m.fuse = none := by
  unfold NM.commit
  obtain ⟨i, m, hr, hmz⟩ := forces_calm hz ⟨2, t, d.parts, 0⟩
  rw [hr]
  exact settle_calm (n := { m with opn := mset m.opn t { d with recd := i } }) hmz t { d with recd := i } 1 d.parts
theorem abort_calm {n : NM} (hz : n.fuse = none) (t : Tx) (d : Deal) (nodes : Nat) : ∃ m, n.abort t d nodes = .ok m ∧ m.fuse = none := by
  unfold NM.abort
  split
  · obtain ⟨i, m, hr, hmz⟩ := forces_calm hz ⟨3, t, nodes, 0⟩
    rw [hr]
    exact settle_calm (n := { m with opn := mset m.opn t { d with recd := i } }) hmz t { d with recd := i } 2 nodes
  · exact settle_calm hz t d 2 nodes

end Go.Proofs.YthbmmbgkchiajaaGreat
