
/- An Inquiry answered. -/
import Derived.Test.YthbmmbgkchiajaaGreatNHear3

namespace Go.Proofs.YthbmmbgkchiajaaGreat
set_option linter.unusedSimpArgs false
set_option linter.unusedVariables false
open Go.RowKit

attribute [local go_sem ↓] lookO_eq lookP_eq delO_eq delP_eq putO_eq putP_eq lenO_eq lenP_eq

set_option maxRecDepth 100000 in
set_option maxHeartbeats 1000000 in
theorem answer_any (o : Nat → Tag) (p B frm : Nat) (n : NM) (t : Tx) (w : World) (h : NodeAt o w p n B) (hB : B + 9 ≤ 1099511627776) :
    Calls Tryz.prog 163 #[.pointer (some ⟨p, 0, none⟩), txv t, .int .i64 (frm : Int)] w fun e w' => Res o w p (B + 9) (.ok (n.answer t frm)) e w' := by
  obtain ⟨W, hW, hkA, hA, hwl⟩ := boxTx w t
  have h0 := h.begin hkA
  have ho0 : tagsUp o w .other w.heap.size = .other := tagsUp_new (Nat.le_refl _)
  obtain ⟨d0, d1, d2⟩ := boxTx_cells hA
  have hN0 := h0
  obtain ⟨pd, vj, vf, bo, bp, ve, gW⟩ := hN0
  have c15 := gW.cell 15
  have c2 := gW.cell 2
  simp [nodeCells] at c15 c2
  have hl := run_lookO gW.opens t
  have hld := run_lookO gW.drew.opens t
  have HQ : Hid (∀ w', Keeps (fun _ => False) W w' → NPost o w p n (B + 9) w') := hide (fun w' hk => (NPost.from hkA (h0.quiet hk)).up (by omega) hB)
  have hpr := fun W' (hc : W'.cell? ⟨p, 2, none⟩ = some (.int .i64 (n.cfg.variant : Int))) => presumed_at p n W' hc
  have hsd := fun kind => send_any _ p B kind frm t n W.drew.drew h0.drew.drew (by omega)
  have HT : Hid (∀ n' w', NPost (tagsUp o w .other) W.drew.drew p n' (B + 1) w' → NPost o w p n' (B + 9) w') := hide (fun n' w' hh => (NPost.from hkA (PostDrew (PostDrew hh))).up (by omega) hB)
  unfold txv at *
  cases hm : mget n.opn t with
  | none =>
    rw [hm] at hl hld
    have hr : n.answer t frm = n.send (order n.presumed) frm t := by unfold NM.answer; rw [hm]
    rw [hr]
    have hsd1 := hsd (order n.presumed)
    generalize hfin : n.send (order n.presumed) frm t = fin at *
    have hor := order_any n.presumed
    generalize n.presumed = pr at *
    generalize order pr = od at *
    clear h h0 hr gW hA hm hfin hsd
    go_enter Tryz.func163, Tryz.ntmps163
    go_wp2_with fail
    clear hW
    go_region_held3 (fun w' => w'.cell? ⟨p, 15, none⟩ = some (.map (some bo)) ∧ w'.cell? ⟨w.heap.size, 0, none⟩ = some (.int .i64 (t.coord : Int)) ∧ w'.cell? ⟨w.heap.size, 1, none⟩ = some (.int .i64 (t.inc : Int)) ∧ w'.cell? ⟨w.heap.size, 2, none⟩ = some (.int .i64 (t.seq : Int)) ∧ (lookO (.map (some bo)) (.agg #[.int .i64 (t.coord : Int), .int .i64 (t.inc : Int), .int .i64 (t.seq : Int)])).run Tryz.prog w' = .ok (.pointer none) w') (first | exact ⟨c15, d0, d1, d2, hl⟩ | exact ⟨c15, d0, d1, d2, hld⟩) (fail)
    go_wp2_with fail
    go_region_held3 (fun w' => w'.cell? ⟨w.heap.size, 0, none⟩ = some (.int .i64 (t.coord : Int)) ∧ w'.cell? ⟨w.heap.size, 1, none⟩ = some (.int .i64 (t.inc : Int)) ∧ w'.cell? ⟨w.heap.size, 2, none⟩ = some (.int .i64 (t.seq : Int))) (first | exact ⟨d0, d1, d2⟩ | exact ⟨hres.2.cell' d0 (fun e => e ho0), hres.2.cell' d1 (fun e => e ho0), hres.2.cell' d2 (fun e => e ho0)⟩) (first
      | (go_at_call 238; refine (hpr W.drew.drew c2).mono ?_; rintro e wp ⟨rfl, rfl⟩)
      | (go_at_call 237; refine (hor _).mono ?_; rintro e wp ⟨rfl, rfl⟩)
      | (go_at_call 175; refine hsd1.mono ?_; rintro e w4 ⟨rfl, hres⟩))
    go_wp2
    go_end0
    exact ⟨rfl, (unhide HT) _ _ hres⟩
  | some d =>
    rw [hm] at hl hld
    have q2 := gW.dealCell hm 2
    simp [dealCells] at q2
    have hne := fun W => eq_nil W d.blk
    simp only [Option.map_some, Option.getD_some, dptr] at hl hld
    by_cases hoc : d.outcome = 0
    · have hr : n.answer t frm = n := by unfold NM.answer; rw [hm]; simp only [if_pos hoc]
      rw [hr]
      rw [hoc] at q2
      clear h h0 hr gW hA hm hsd
      go_enter Tryz.func163, Tryz.ntmps163
      go_wp2_with fail
      clear hW
      go_region_held3 (fun w' => w'.cell? ⟨p, 15, none⟩ = some (.map (some bo)) ∧ w'.cell? ⟨w.heap.size, 0, none⟩ = some (.int .i64 (t.coord : Int)) ∧ w'.cell? ⟨w.heap.size, 1, none⟩ = some (.int .i64 (t.inc : Int)) ∧ w'.cell? ⟨w.heap.size, 2, none⟩ = some (.int .i64 (t.seq : Int)) ∧ (lookO (.map (some bo)) (.agg #[.int .i64 (t.coord : Int), .int .i64 (t.inc : Int), .int .i64 (t.seq : Int)])).run Tryz.prog w' = .ok (.pointer (some ⟨d.blk, 0, none⟩)) w') (first | exact ⟨c15, d0, d1, d2, hl⟩ | exact ⟨c15, d0, d1, d2, hld⟩) (fail)
      go_wp2
      go_end0
      exact ⟨rfl, (unhide HQ) _ ((Keeps.refl _ W).drew)⟩
    · have hr : n.answer t frm = n.send (order d.outcome) frm t := by unfold NM.answer; rw [hm]; simp only [if_neg hoc]
      rw [hr]
      have hb0 : ((d.outcome : Int) != 0) = true := by rw [bne_iff_ne]; omega
      have hsd1 := hsd (order d.outcome)
      have hor := order_any d.outcome
      have HQ2 : Hid (∀ w', NPost (tagsUp o w .other) W.drew.drew p (n.send (order d.outcome) frm t) (B + 1) w' → w'.cell? ⟨d.blk, 2, none⟩ = some (.int .i64 (d.outcome : Int))) := hide (fun w' hh => by
        obtain ⟨o2, pd2, vj2, vf2, bo2, bp2, ve2, g2, _, _, _⟩ := hh.ghost
        have := g2.dealCell (t := t) (d := d) hm 2
        simpa [dealCells] using this)
      generalize hfin : n.send (order d.outcome) frm t = fin at *
      generalize order d.outcome = od at *
      clear h h0 hr gW hA hm hfin hsd hoc
      go_enter Tryz.func163, Tryz.ntmps163
      go_wp2_with fail
      clear hW
      go_region_held3 (fun w' => w'.cell? ⟨p, 15, none⟩ = some (.map (some bo)) ∧ w'.cell? ⟨w.heap.size, 0, none⟩ = some (.int .i64 (t.coord : Int)) ∧ w'.cell? ⟨w.heap.size, 1, none⟩ = some (.int .i64 (t.inc : Int)) ∧ w'.cell? ⟨w.heap.size, 2, none⟩ = some (.int .i64 (t.seq : Int)) ∧ (lookO (.map (some bo)) (.agg #[.int .i64 (t.coord : Int), .int .i64 (t.inc : Int), .int .i64 (t.seq : Int)])).run Tryz.prog w' = .ok (.pointer (some ⟨d.blk, 0, none⟩)) w') (first | exact ⟨c15, d0, d1, d2, hl⟩ | exact ⟨c15, d0, d1, d2, hld⟩) (fail)
      go_wp2_with fail
      go_region_held3 (fun w' => w'.cell? ⟨d.blk, 2, none⟩ = some (.int .i64 (d.outcome : Int)) ∧ w'.cell? ⟨w.heap.size, 0, none⟩ = some (.int .i64 (t.coord : Int)) ∧ w'.cell? ⟨w.heap.size, 1, none⟩ = some (.int .i64 (t.inc : Int)) ∧ w'.cell? ⟨w.heap.size, 2, none⟩ = some (.int .i64 (t.seq : Int))) (first | exact ⟨q2, d0, d1, d2⟩ | exact ⟨(unhide HQ2) _ hres, hres.2.cell' d0 (fun e => e ho0), hres.2.cell' d1 (fun e => e ho0), hres.2.cell' d2 (fun e => e ho0)⟩) (first
        | (go_at_call 237; refine (hor _).mono ?_; rintro e wp ⟨rfl, rfl⟩)
        | (go_at_call 175; refine hsd1.mono ?_; rintro e w4 ⟨rfl, hres⟩))
      go_wp2
      go_end0
      exact ⟨rfl, (unhide HT) _ _ hres⟩

end Go.Proofs.YthbmmbgkchiajaaGreat

/- A message acted on. -/
namespace Go.Proofs.YthbmmbgkchiajaaGreat
set_option linter.unusedSimpArgs false
set_option linter.unusedVariables false
open Go.RowKit

def msgV (m : Msg) : Value := .agg #[.int .i64 (m.kind : Int), .int .i64 (m.frm : Int), .int .i64 (m.to : Int), .int .i64 (m.txn.coord : Int), .int .i64 (m.txn.inc : Int), .int .i64 (m.txn.seq : Int)]
/-- A message in a new block. -/
theorem boxMsg (w : World) (m : Msg) : ∃ W, w.alloc (.cells #[.int .i64 (m.kind : Int), .int .i64 (m.frm : Int), .int .i64 (m.to : Int), .int .i64 (m.txn.coord : Int), .int .i64 (m.txn.inc : Int), .int .i64 (m.txn.seq : Int)] 54) = W ∧ Keeps (fun _ => False) w W ∧ W.heap[w.heap.size]? = some (.cells #[.int .i64 (m.kind : Int), .int .i64 (m.frm : Int), .int .i64 (m.to : Int), .int .i64 (m.txn.coord : Int), .int .i64 (m.txn.inc : Int), .int .i64 (m.txn.seq : Int)] 54 (0, 0)) ∧ w.heap.size < W.heap.size :=
  ⟨_, rfl, (Keeps.refl _ w).alloc _, heap_alloc_new _ _, by simp⟩

theorem vote_calm {n : NM} (hz : n.fuse = none) (t : Tx) (frm : Nat) : ∃ m, n.vote t frm = .ok m ∧ m.fuse = none := by
  unfold NM.vote
  split
  · exact ⟨_, rfl, hz⟩
  · split
    · exact ⟨_, rfl, hz⟩
    · split
      · refine ⟨_, rfl, ?_⟩
        show ((n.markAdd t).fuse) = none
        unfold NM.markAdd
        split <;> exact hz
      · split
        · exact ⟨_, rfl, hz⟩
        · unfold NM.prepare
          obtain ⟨i, k, h1, h2⟩ := forces_calm hz ⟨5, t, 0, 0⟩
          rw [h1]
          refine ⟨_, rfl, ?_⟩
          show (({ k with prep := mput k.prep t i } : NM).markAdd t).fuse = none
          unfold NM.markAdd
          split <;> exact h2

theorem hearYes_calm {n : NM} (hz : n.fuse = none) (t : Tx) (frm : Nat) : ∃ m, n.hearYes t frm = .ok m ∧ m.fuse = none := by
  unfold NM.hearYes
  split
  · exact ⟨_, rfl, hz⟩
  · rename_i d _
    simp only
    split
    · exact commit_calm (n := { n with opn := mset n.opn t { d with waits := without d.waits frm } }) hz _ _
    · exact ⟨_, rfl, hz⟩
theorem hearNo_calm {n : NM} (hz : n.fuse = none) (t : Tx) (frm : Nat) : ∃ m, n.hearNo t frm = .ok m ∧ m.fuse = none := by
  unfold NM.hearNo
  split
  · exact ⟨_, rfl, hz⟩
  · exact abort_calm hz _ _ _
theorem hearAck_calm {n : NM} (hz : n.fuse = none) (t : Tx) (frm : Nat) : ∃ m, n.hearAck t frm = .ok m ∧ m.fuse = none := by
  unfold NM.hearAck
  split
  · exact ⟨_, rfl, hz⟩
  · rename_i d _
    split
    · exact ⟨_, rfl, hz⟩
    · simp only
      split
      · exact ends_calm (n := { n with opn := mset n.opn t { d with waits := without d.waits frm } }) hz _
      · exact ⟨_, rfl, hz⟩
theorem mark_fuse (n : NM) (t : Tx) : (n.mark t).fuse = n.fuse := by
  show (n.markAdd t).fuse = n.fuse
  unfold NM.markAdd
  split <;> rfl
theorem learn_calm {n : NM} (hz : n.fuse = none) (t : Tx) (frm oc : Nat) : ∃ m, n.learn t frm oc = .ok m ∧ m.fuse = none := by
  unfold NM.learn
  by_cases hm : mhas n.prep t = true
  · obtain ⟨m, h1, h2⟩ := apply_calm (n := n) (t := t) (oc := oc) (due := n.acksDue oc) hz
    rw [if_pos hm, h1]
    refine ⟨_, rfl, ?_⟩
    split <;> exact h2
  · rw [if_neg hm]
    refine ⟨_, rfl, ?_⟩
    split <;> split <;> first | exact hz | exact (mark_fuse n t).trans hz
theorem answer_fuse (n : NM) (t : Tx) (frm : Nat) : (n.answer t frm).fuse = n.fuse := by
  unfold NM.answer
  split
  · rfl
  · split <;> rfl
theorem act_calm {n : NM} (hz : n.fuse = none) (m : Msg) : ∃ k, n.act m = .ok k ∧ k.fuse = none := by
  unfold NM.act
  split
  · exact vote_calm hz _ _
  · exact hearYes_calm hz _ _
  · exact hearNo_calm hz _ _
  · exact learn_calm hz _ _ _
  · exact learn_calm hz _ _ _
  · exact hearAck_calm hz _ _
  · exact ⟨_, rfl, (answer_fuse n _ _).trans hz⟩
  · exact ⟨_, rfl, hz⟩

set_option maxRecDepth 100000 in
set_option maxHeartbeats 2000000 in
theorem act_any (o : Nat → Tag) (p B : Nat) (n : NM) (m : Msg) (w : World) (h : NodeAt o w p n B) (hup : n.up = true) (hz : n.fuse = none) (hf : m.frm < 4) (ht : m.txn.coord < 4) (hB : B + 9 ≤ 1099511627776) :
    Calls Tryz.prog 94 #[.pointer (some ⟨p, 0, none⟩), msgV m] w fun e w' => Res o w p (B + 9) (n.act m) e w' := by
  obtain ⟨W, hW, hkA, hA, hwl⟩ := boxMsg w m
  have h0 := h.begin hkA
  have a1 := vote_any _ p B m.frm n m.txn W h0 hup hz ht (by omega)
  have a2 := hearYes_any _ p B m.frm n m.txn W h0 hup hz hf hB
  have a3 := hearNo_any _ p B m.frm n m.txn W h0 hup hz hf hB
  have a4 := learn_any _ p B m.frm 1 n m.txn W h0 hup hz ht (by omega)
  have a5 := learn_any _ p B m.frm 2 n m.txn W h0 hup hz ht (by omega)
  have a6 := hearAck_any _ p B m.frm n m.txn W h0 hup hz hf hB
  have a7 := answer_any _ p B m.frm n m.txn W h0 hB
  have HR : Hid (∀ r e w', Res (tagsUp o w .other) W p (B + 9) r e w' → Res o w p (B + 9) r e w') := hide (fun r e w' hr => by
    cases r with
    | ok k => exact ⟨hr.1, NPost.from hkA hr.2⟩
    | error k => exact PEnd.from hkA hr)
  have HR4 : Hid (∀ r e w', Res (tagsUp o w .other) W p (B + 4) r e w' → Res o w p (B + 9) r e w') := hide (fun r e w' hr => by
    cases r with
    | ok k => exact ⟨hr.1, (NPost.from hkA hr.2).up (by omega) hB⟩
    | error k => exact (PEnd.from hkA hr).up (by omega) hB)
  have HQ : Hid (NPost o w p n (B + 9) W) := hide ((NPost.from hkA (NPost.refl h0)).up (by omega) hB)
  have c0 := cell_of_heap (o := 0) hA
  have c1 := cell_of_heap (o := 1) hA
  have c3 := cell_of_heap (o := 3) hA
  have c4 := cell_of_heap (o := 4) hA
  have c5 := cell_of_heap (o := 5) hA
  simp at c0 c1 c3 c4 c5
  obtain ⟨fin, hfin, _⟩ := act_calm hz m
  rw [hfin]
  unfold msgV
  unfold txv at *
  clear h h0 hA hup hz
  by_cases h1 : m.kind = 1
  · have hr : n.vote m.txn m.frm = .ok fin := by rw [← hfin]; simp only [NM.act, h1]
    rw [hr] at a1
    rw [h1] at c0
    clear hfin hr h1
    go_enter Tryz.func94, Tryz.ntmps94
    go_wp2_with (go_at_call 158; refine a1.mono ?_; rintro e w1 ⟨rfl, hres⟩)
    go_end0
    exact (unhide HR4) _ _ _ ⟨rfl, hres⟩
  by_cases h2 : m.kind = 2
  · have hr : n.hearYes m.txn m.frm = .ok fin := by rw [← hfin]; simp only [NM.act, h2]
    rw [hr] at a2
    rw [h2] at c0
    clear hfin hr h2
    go_enter Tryz.func94, Tryz.ntmps94
    go_wp2_with (go_at_call 159; refine a2.mono ?_; rintro e w1 ⟨rfl, hres⟩)
    go_end0
    exact (unhide HR) _ _ _ ⟨rfl, hres⟩
  by_cases h3 : m.kind = 3
  · have hr : n.hearNo m.txn m.frm = .ok fin := by rw [← hfin]; simp only [NM.act, h3]
    rw [hr] at a3
    rw [h3] at c0
    clear hfin hr h3
    go_enter Tryz.func94, Tryz.ntmps94
    go_wp2_with (go_at_call 160; refine a3.mono ?_; rintro e w1 ⟨rfl, hres⟩)
    go_end0
    exact (unhide HR) _ _ _ ⟨rfl, hres⟩
  by_cases h4 : m.kind = 4
  · have hr : n.learn m.txn m.frm 1 = .ok fin := by rw [← hfin]; simp only [NM.act, h4]
    rw [hr] at a4
    rw [h4] at c0
    clear hfin hr h4
    go_enter Tryz.func94, Tryz.ntmps94
    go_wp2_with (go_at_call 161; refine a4.mono ?_; rintro e w1 ⟨rfl, hres⟩)
    go_end0
    exact (unhide HR4) _ _ _ ⟨rfl, hres⟩
  by_cases h5 : m.kind = 5
  · have hr : n.learn m.txn m.frm 2 = .ok fin := by rw [← hfin]; simp only [NM.act, h5]
    rw [hr] at a5
    rw [h5] at c0
    clear hfin hr h5
    go_enter Tryz.func94, Tryz.ntmps94
    go_wp2_with (go_at_call 161; refine a5.mono ?_; rintro e w1 ⟨rfl, hres⟩)
    go_end0
    exact (unhide HR4) _ _ _ ⟨rfl, hres⟩
  by_cases h6 : m.kind = 6
  · have hr : n.hearAck m.txn m.frm = .ok fin := by rw [← hfin]; simp only [NM.act, h6]
    rw [hr] at a6
    rw [h6] at c0
    clear hfin hr h6
    go_enter Tryz.func94, Tryz.ntmps94
    go_wp2_with (go_at_call 162; refine a6.mono ?_; rintro e w1 ⟨rfl, hres⟩)
    go_end0
    exact (unhide HR) _ _ _ ⟨rfl, hres⟩
  by_cases h7 : m.kind = 7
  · have hr : (Except.ok (n.answer m.txn m.frm) : Except NM NM) = .ok fin := by rw [← hfin]; simp only [NM.act, h7]
    rw [hr] at a7
    rw [h7] at c0
    clear hfin hr h7
    go_enter Tryz.func94, Tryz.ntmps94
    go_wp2_with (go_at_call 163; refine a7.mono ?_; rintro e w1 ⟨rfl, hres⟩)
    go_end0
    exact (unhide HR) _ _ _ ⟨rfl, hres⟩
  have b1 : ((m.kind : Int) == 1) = false := by rw [beq_eq_false_iff_ne]; omega
  have b2 : ((m.kind : Int) == 2) = false := by rw [beq_eq_false_iff_ne]; omega
  have b3 : ((m.kind : Int) == 3) = false := by rw [beq_eq_false_iff_ne]; omega
  have b4 : ((m.kind : Int) == 4) = false := by rw [beq_eq_false_iff_ne]; omega
  have b5 : ((m.kind : Int) == 5) = false := by rw [beq_eq_false_iff_ne]; omega
  have b6 : ((m.kind : Int) == 6) = false := by rw [beq_eq_false_iff_ne]; omega
  have b7 : ((m.kind : Int) == 7) = false := by rw [beq_eq_false_iff_ne]; omega
  have hr : n = fin := by
    have : n.act m = .ok n := by
      unfold NM.act
      split <;> first | omega | rfl
    rw [hfin] at this
    cases this; rfl
  subst hr
  clear hfin
  go_enter Tryz.func94, Tryz.ntmps94
  go_wp2
  go_end0
  exact ⟨rfl, unhide HQ⟩

end Go.Proofs.YthbmmbgkchiajaaGreat
