
/- A transaction begun: the walk. -/
import Derived.Test.YthbmmbgkchiajaaGreatNBegin
namespace Go.Proofs.YthbmmbgkchiajaaGreat
set_option linter.unusedSimpArgs false
set_option linter.unusedVariables false
open Go.RowKit

attribute [local go_sem ↓] lookO_eq lookP_eq delO_eq delP_eq putO_eq putP_eq lenO_eq lenP_eq

theorem begin_calm {n : NM} (hz : n.fuse = none) (t : Tx) (parts blk : Nat) : ∃ m, n.begin t parts blk = .ok m ∧ m.fuse = none := by
  unfold NM.begin
  split
  · obtain ⟨i, m, hr, hmz⟩ := forces_calm hz ⟨1, t, parts, 0⟩
    rw [hr]
    exact ⟨_, rfl, (sendAll_facts _ _ _ _).2.2.1.trans hmz⟩
  · exact ⟨_, rfl, (sendAll_facts _ _ _ _).2.2.1.trans hz⟩

set_option maxRecDepth 100000 in
set_option maxHeartbeats 1000000 in
theorem nBegin_any (o : Nat → Tag) (p B parts : Nat) (n : NM) (t : Tx) (w : World) (h : NodeAt o w p n B) (hup : n.up = true) (hz : n.fuse = none) (hs : parts < 16) (hB : B + 8 ≤ 1099511627776) :
    Calls Tryz.prog 91 #[.pointer (some ⟨p, 0, none⟩), txv t, .int .i64 (parts : Int)] w fun e w' => Res o w p (B + 8) (n.begin t parts (w.heap.size + 1)) e w' := by
  obtain ⟨W, hW, hkA, hA, hwl⟩ := boxTx w t
  have hWs : W.heap.size = w.heap.size + 1 := by rw [← hW]; simp
  obtain ⟨V, hV, hkV, hD, hVl⟩ := boxDeal W parts
  rw [hWs] at hD hVl
  have hk := hkA.trans hkV (fun _ _ f => f)
  have h0 := h.begin hk
  have ho0 : tagsUp o w .other w.heap.size = .other := tagsUp_new (Nat.le_refl _)
  have ho1 : tagsUp o w .other (w.heap.size + 1) = .other := tagsUp_new (by omega)
  have hA' := hkV.heap hA (fun f => f)
  have hN0 := h0
  obtain ⟨pd, vj, vf, bo, bp, ve, g0⟩ := h0
  have c2 := g0.cell 2
  simp [nodeCells] at c2
  obtain ⟨d0, d1, d2⟩ := boxTx_cells hA'
  unfold NM.begin
  by_cases hv : n.cfg.variant = 3
  · rw [if_pos hv]
    rw [hv] at c2
    have hfo := force_any _ p B n ⟨1, t, parts, 0⟩ V hN0 hup (by omega)
    unfold recV at hfo
    obtain ⟨i, m, hr, hmz⟩ := forces_calm hz ⟨1, t, parts, 0⟩
    rw [hr] at hfo ⊢
    obtain ⟨u1, u2, _, _, u5⟩ := forces_up hr
    have HREC := hide u5
    simp only
    generalize hfin : ({ m with begun := m.begun + 1, opn := mput m.opn t ⟨parts, parts, 0, 0, i, w.heap.size + 1⟩ } : NM).sendAll 1 parts t = fin at *
    have HFIN := hide hfin
    unfold txv at *
    simp only at hfo
    clear u1 u2 u5 hr h g0 hmz hv hfin
    go_enter Tryz.func91, Tryz.ntmps91
    go_wp2_with fail
    clear hW hV
    go_at_call 156
    refine hfo.mono ?_
    rintro e w1 ⟨rfl, hres⟩
    have hA1 := hres.frame hA' ho0
    have hD1 := hres.frame hD ho1
    obtain ⟨o1, pd1, vj1, vf1, bo1, bp1, ve1, g1, f1, t1, _⟩ := hres.ghost
    have hob := (f1 w.heap.size (lt_of_heap hA')).trans ho0
    have hod := (f1 (w.heap.size + 1) (lt_of_heap hD)).trans ho1
    have hag : ∀ k, k < w.heap.size → o1 k = o k := fun k hk' => (f1 k (Nat.lt_of_lt_of_le hk' hk.size)).trans (tagsUp_old hk')
    have hk1 : Keeps (fun k => o k ≠ .other) w w1 := (hk.mono (T := fun k => o k ≠ .other) (fun _ _ f => f.elim)).trans hres.2 (fun k hk' e => by rw [tagsUp_old hk'] at e; exact e)
    have q4 := cell_of_heap (o := 4) hD1
    simp [dealCells] at q4
    have z4 := frozen_of_heap (o := 4) hD1
    obtain ⟨e0, e1, e2⟩ := boxTx_cells hA1
    -- the number of its record
    have hk2 : Keeps (fun k => k = w.heap.size + 1) w1 (w1.setCell ⟨w.heap.size + 1, 4, none⟩ (.int .i64 (i : Int))) := (Keeps.refl (fun k => k = w.heap.size + 1) w1).setCell (p := ⟨w.heap.size + 1, 4, none⟩) (.inl rfl) _
    have hD2 : (w1.setCell ⟨w.heap.size + 1, 4, none⟩ (.int .i64 (i : Int))).heap[w.heap.size + 1]? = some (.cells (dealCells ⟨parts, parts, 0, 0, i, w.heap.size + 1⟩) 208 (0, 0)) := heap_setCell_same hD1 _
    have hA2 := hk2.heap hA1 (by show ¬ w.heap.size = w.heap.size + 1; omega)
    have g2 := g1.keep (o' := o1) hk2 (fun _ _ => rfl) (fun k _ e e' => by subst e'; exact e hod)
    have hk2' : Keeps (fun k => o k ≠ .other) w (w1.setCell ⟨w.heap.size + 1, 4, none⟩ (.int .i64 (i : Int))) := hk1.trans hk2 (fun k hk' e => by omega)
    have hnp : ¬ p = w.heap.size + 1 := fun e => by have := g1.own; rw [e, hod] at this; cases this
    generalize hV2 : w1.setCell ⟨w.heap.size + 1, 4, none⟩ (.int .i64 (i : Int)) = w2 at *
    have c14 := g2.cell 14
    have z14 := frozen_of_heap (o := 14) g2.self
    simp [nodeCells] at c14
    have hbg := g2.small.begun
    have hbb := g2.small.big
    obtain ⟨a0, a1, a2⟩ := boxTx_cells hA2
    have hP1 := NodeAt.begunUp g2 (by omega)
    have hA3 := hP1.frame hA2 hob
    have hD3 := hP1.frame hD2 hod
    obtain ⟨k0, k1, k2⟩ := boxTx_cells hA3
    obtain ⟨o3, pd3, vj3, vf3, bo3, bp3, ve3, g3, f3, t3, _⟩ := hP1.ghost
    have hob3 := (f3 w.heap.size (lt_of_heap hA2)).trans hob
    have hod3 := (f3 (w.heap.size + 1) (lt_of_heap hD2)).trans hod
    have hag3 : ∀ k, k < w.heap.size → retag o3 (w.heap.size + 1) (.deal t) k = o k := fun k hk' => by
      unfold retag
      rw [if_neg (by omega)]
      exact (f3 k (Nat.lt_of_lt_of_le hk' hk2'.size)).trans (hag k hk')
    have hk3 : Keeps (fun k => o k ≠ .other) w (w2.setCell ⟨p, 14, none⟩ (.int .i64 ((m.begun : Int) + 1))) := hk2'.trans hP1.2 (fun k hk' e => by rw [hag k hk'] at e; exact e)
    have g4 := g3.retag hod3 (.deal t)
    have hob4 : retag o3 (w.heap.size + 1) (.deal t) w.heap.size = .other := by unfold retag; rw [if_neg (by omega)]; exact hob3
    have hop4 := g4.own
    have c15 := g4.cell 15
    simp [nodeCells] at c15
    have hrec : i ≤ (B + 2) + 1 + 1 := (Nat.le_trans (unhide HREC) (Nat.le_trans g2.small.recs (by omega)))
    generalize hV3 : w2.setCell ⟨p, 14, none⟩ (.int .i64 ((m.begun : Int) + 1)) = w3 at *
    obtain ⟨w4, hput, HD⟩ := run_putO g4.drew t ⟨parts, parts, 0, 0, i, w.heap.size + 1⟩ (by unfold retag; rw [if_pos rfl]) hD3 ⟨hs, hs, by show (0 : Nat) < 3; omega, Nat.zero_le _, hrec⟩ (by omega)
    have hst := (unhide HD).2
    have c15' := hst ⟨p, 15, none⟩ _ c15 (by simp only; rw [hop4]; simp)
    have k0' := hst ⟨w.heap.size, 0, none⟩ _ k0 (by simp only; rw [hob4]; simp)
    have k1' := hst ⟨w.heap.size, 1, none⟩ _ k1 (by simp only; rw [hob4]; simp)
    have k2' := hst ⟨w.heap.size, 2, none⟩ _ k2 (by simp only; rw [hob4]; simp)
    obtain ⟨o5, f5, g5, t5, _⟩ := (unhide HD).1.next
    have hall := sendAll_any o5 p _ 1 parts _ t w4 g5 hs (by omega)
    have HT : Hid (∀ w' n' B', NPost o5 w4 p n' B' w' → NPost o w p n' B' w') := hide (fun w' n' B' hh => NPost.over hk3 hag3 (PostDrew (t5 _ _ _ hh)))
    have HHALL := hide hall
    unfold txv dptr at hput
    simp only at hput
    clear g2 g3 g4 g5 hP1 hA1 hA2 hA3 hD1 hD2 hD3 hst HD t3 t5 hall hres hfo g1 t1 d0 d1 d2 e0 e1 e2
    go_wp2_with fail
    go_region_held3 (fun w' => w'.cell? ⟨p, 15, none⟩ = some (.map (some bo3)) ∧ w'.cell? ⟨w.heap.size, 0, none⟩ = some (.int .i64 (t.coord : Int)) ∧ w'.cell? ⟨w.heap.size, 1, none⟩ = some (.int .i64 (t.inc : Int)) ∧ w'.cell? ⟨w.heap.size, 2, none⟩ = some (.int .i64 (t.seq : Int))) (first | exact ⟨c15, k0, k1, k2⟩ | exact ⟨c15', k0', k1', k2'⟩) (fail)
    have hall := unhide HHALL
    unfold txv at hall
    go_wp2_with (go_at_call 157; refine hall.mono ?_; rintro e w6 ⟨rfl, hres6⟩)
    go_end0
    refine ⟨rfl, ?_⟩
    rw [← unhide HFIN]
    exact ((unhide HT) _ _ _ hres6).up (by omega) hB
  · rw [if_neg hv]
    have hv' : ((n.cfg.variant : Int) == 3) = false := by rw [beq_eq_false_iff_ne]; omega
    generalize hfin : ({ n with begun := n.begun + 1, opn := mput n.opn t ⟨parts, parts, 0, 0, 0, w.heap.size + 1⟩ } : NM).sendAll 1 parts t = fin at *
    have HFIN := hide hfin
    have hag : ∀ k, k < w.heap.size → tagsUp o w .other k = o k := fun k hk' => tagsUp_old hk'
    have hk2' : Keeps (fun k => o k ≠ .other) w V := hk.mono (fun _ _ f => f.elim)
    obtain ⟨o1, ho1e⟩ : ∃ o1, tagsUp o w .other = o1 := ⟨_, rfl⟩
    rw [ho1e] at ho0 ho1 hag g0 hN0
    have hob := ho0
    have hod := ho1
    have hD2 := hD
    have hA2 := hA'
    have g2 := g0
    obtain ⟨w2, hw2⟩ : ∃ x, x = V := ⟨V, rfl⟩
    rw [← hw2] at hD2 hA2 g2 hk2' c2 hV d0 d1 d2
    have hnp : ¬ p = w.heap.size + 1 := fun e => by have := g2.own; rw [e, hod] at this; cases this
    unfold txv at *
    clear h hfin hN0 g0 hw2 ho1e hkV hk hVl hD hA'
    have c14 := g2.cell 14
    have z14 := frozen_of_heap (o := 14) g2.self
    simp [nodeCells] at c14
    have hbg := g2.small.begun
    have hbb := g2.small.big
    obtain ⟨a0, a1, a2⟩ := boxTx_cells hA2
    have hP1 := NodeAt.begunUp g2 (by omega)
    have hA3 := hP1.frame hA2 hob
    have hD3 := hP1.frame hD2 hod
    obtain ⟨k0, k1, k2⟩ := boxTx_cells hA3
    obtain ⟨o3, pd3, vj3, vf3, bo3, bp3, ve3, g3, f3, t3, _⟩ := hP1.ghost
    have hob3 := (f3 w.heap.size (lt_of_heap hA2)).trans hob
    have hod3 := (f3 (w.heap.size + 1) (lt_of_heap hD2)).trans hod
    have hag3 : ∀ k, k < w.heap.size → retag o3 (w.heap.size + 1) (.deal t) k = o k := fun k hk' => by
      unfold retag
      rw [if_neg (by omega)]
      exact (f3 k (Nat.lt_of_lt_of_le hk' hk2'.size)).trans (hag k hk')
    have hk3 : Keeps (fun k => o k ≠ .other) w (w2.setCell ⟨p, 14, none⟩ (.int .i64 ((n.begun : Int) + 1))) := hk2'.trans hP1.2 (fun k hk' e => by rw [hag k hk'] at e; exact e)
    have g4 := g3.retag hod3 (.deal t)
    have hob4 : retag o3 (w.heap.size + 1) (.deal t) w.heap.size = .other := by unfold retag; rw [if_neg (by omega)]; exact hob3
    have hop4 := g4.own
    have c15 := g4.cell 15
    simp [nodeCells] at c15
    have hrec : 0 ≤ B + 1 + 1 := (Nat.zero_le (B + 1 + 1))
    generalize hV3 : w2.setCell ⟨p, 14, none⟩ (.int .i64 ((n.begun : Int) + 1)) = w3 at *
    obtain ⟨w4, hput, HD⟩ := run_putO g4.drew t ⟨parts, parts, 0, 0, 0, w.heap.size + 1⟩ (by unfold retag; rw [if_pos rfl]) hD3 ⟨hs, hs, by show (0 : Nat) < 3; omega, Nat.zero_le _, hrec⟩ (by omega)
    have hst := (unhide HD).2
    have c15' := hst ⟨p, 15, none⟩ _ c15 (by simp only; rw [hop4]; simp)
    have k0' := hst ⟨w.heap.size, 0, none⟩ _ k0 (by simp only; rw [hob4]; simp)
    have k1' := hst ⟨w.heap.size, 1, none⟩ _ k1 (by simp only; rw [hob4]; simp)
    have k2' := hst ⟨w.heap.size, 2, none⟩ _ k2 (by simp only; rw [hob4]; simp)
    obtain ⟨o5, f5, g5, t5, _⟩ := (unhide HD).1.next
    have hall := sendAll_any o5 p _ 1 parts _ t w4 g5 hs (by omega)
    have HT : Hid (∀ w' n' B', NPost o5 w4 p n' B' w' → NPost o w p n' B' w') := hide (fun w' n' B' hh => NPost.over hk3 hag3 (PostDrew (t5 _ _ _ hh)))
    have HHALL := hide hall
    unfold txv dptr at hput
    simp only at hput
    clear g2 g3 g4 g5 hP1 hA2 hA3 hD2 hD3 hst HD t3 t5 hall d0 d1 d2
    go_enter Tryz.func91, Tryz.ntmps91
    go_wp2_with fail
    go_region_held3 (fun w' => w'.cell? ⟨p, 15, none⟩ = some (.map (some bo3)) ∧ w'.cell? ⟨w.heap.size, 0, none⟩ = some (.int .i64 (t.coord : Int)) ∧ w'.cell? ⟨w.heap.size, 1, none⟩ = some (.int .i64 (t.inc : Int)) ∧ w'.cell? ⟨w.heap.size, 2, none⟩ = some (.int .i64 (t.seq : Int))) (first | exact ⟨c15, k0, k1, k2⟩ | exact ⟨c15', k0', k1', k2'⟩) (fail)
    have hall := unhide HHALL
    unfold txv at hall
    go_wp2_with (go_at_call 157; refine hall.mono ?_; rintro e w6 ⟨rfl, hres6⟩)
    go_end0
    refine ⟨rfl, ?_⟩
    rw [← unhide HFIN]
    exact ((unhide HT) _ _ _ hres6).up (by omega) hB

end Go.Proofs.YthbmmbgkchiajaaGreat
