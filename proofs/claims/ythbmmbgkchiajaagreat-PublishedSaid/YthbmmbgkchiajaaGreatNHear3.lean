
/- What a coordinator hears: Ack, Inquiry. -/
import Derived.Test.YthbmmbgkchiajaaGreatNHear2
namespace Go.Proofs.YthbmmbgkchiajaaGreat
set_option linter.unusedSimpArgs false
set_option linter.unusedVariables false
open Go.RowKit

attribute [local go_sem ↓] lookO_eq lookP_eq delO_eq delP_eq putO_eq putP_eq lenO_eq lenP_eq

theorem ends_calm {n : NM} (hz : n.fuse = none) (t : Tx) : ∃ m, n.ends t = .ok m ∧ m.fuse = none := by
  unfold NM.ends
  obtain ⟨l, hl1, hl2⟩ := lazily_calm hz ⟨4, t, 0, 0⟩
  rw [hl1]
  exact ⟨_, rfl, hl2⟩

set_option maxRecDepth 100000 in
set_option maxHeartbeats 1000000 in
theorem hearAck_any (o : Nat → Tag) (p B frm : Nat) (n : NM) (t : Tx) (w : World) (h : NodeAt o w p n B) (hup : n.up = true) (hz : n.fuse = none) (hf : frm < 4) (hB : B + 9 ≤ 1099511627776) :
    Calls Tryz.prog 162 #[.pointer (some ⟨p, 0, none⟩), txv t, .int .i64 (frm : Int)] w fun e w' => Res o w p (B + 9) (n.hearAck t frm) e w' := by
  obtain ⟨W, hW, hkA, hA, hwl⟩ := boxTx w t
  have h0 := h.begin hkA
  have ho0 : tagsUp o w .other w.heap.size = .other := tagsUp_new (Nat.le_refl _)
  obtain ⟨d0, d1, d2⟩ := boxTx_cells hA
  have hN0 := h0
  obtain ⟨pd, vj, vf, bo, bp, ve, gW⟩ := hN0
  have c15 := gW.cell 15
  simp [nodeCells] at c15
  have hl := run_lookO gW.opens t
  have hld := run_lookO gW.drew.opens t
  have hen := end_any
  have HQ : Hid (∀ w', Keeps (fun _ => False) W w' → NPost o w p n (B + 9) w') := hide (fun w' hk => (NPost.from hkA (h0.quiet hk)).up (by omega) hB)
  unfold txv at *
  cases hm : mget n.opn t with
  | none =>
    rw [hm] at hl hld
    have hr : n.hearAck t frm = .ok n := by unfold NM.hearAck; rw [hm]
    rw [hr]
    clear h h0 hr hup hz gW hA hm
    go_enter Tryz.func162, Tryz.ntmps162
    go_wp2_with fail
    clear hW
    go_region_held3 (fun w' => w'.cell? ⟨p, 15, none⟩ = some (.map (some bo)) ∧ w'.cell? ⟨w.heap.size, 0, none⟩ = some (.int .i64 (t.coord : Int)) ∧ w'.cell? ⟨w.heap.size, 1, none⟩ = some (.int .i64 (t.inc : Int)) ∧ w'.cell? ⟨w.heap.size, 2, none⟩ = some (.int .i64 (t.seq : Int)) ∧ (lookO (.map (some bo)) (.agg #[.int .i64 (t.coord : Int), .int .i64 (t.inc : Int), .int .i64 (t.seq : Int)])).run Tryz.prog w' = .ok (.pointer none) w') (first | exact ⟨c15, d0, d1, d2, hl⟩ | exact ⟨c15, d0, d1, d2, hld⟩) (fail)
    go_wp2
    go_end0
    exact ⟨rfl, (unhide HQ) _ ((Keeps.refl _ W).drew)⟩
  | some d =>
    rw [hm] at hl hld
    have q1 := gW.dealCell hm 1
    have q2 := gW.dealCell hm 2
    simp [dealCells] at q1 q2
    have hs := gW.small.deals _ (mget_mem hm)
    simp only at hs
    have hhas := fun W => sHas_any d.waits frm W hs.2.1 hf
    have hne := fun W => eq_nil W d.blk
    simp only [Option.map_some, Option.getD_some, dptr] at hl hld
    by_cases hc0 : d.outcome = 0 ∨ d.waits.testBit frm = false
    · have hr : n.hearAck t frm = .ok n := by unfold NM.hearAck; rw [hm]; simp only [if_pos hc0]
      rw [hr]
      clear h h0 hr hup hz gW hA hm
      by_cases hoc : d.outcome = 0
      · rw [hoc] at q2
        go_enter Tryz.func162, Tryz.ntmps162
        go_wp2_with fail
        clear hW
        go_region_held3 (fun w' => w'.cell? ⟨p, 15, none⟩ = some (.map (some bo)) ∧ w'.cell? ⟨w.heap.size, 0, none⟩ = some (.int .i64 (t.coord : Int)) ∧ w'.cell? ⟨w.heap.size, 1, none⟩ = some (.int .i64 (t.inc : Int)) ∧ w'.cell? ⟨w.heap.size, 2, none⟩ = some (.int .i64 (t.seq : Int)) ∧ (lookO (.map (some bo)) (.agg #[.int .i64 (t.coord : Int), .int .i64 (t.inc : Int), .int .i64 (t.seq : Int)])).run Tryz.prog w' = .ok (.pointer (some ⟨d.blk, 0, none⟩)) w') (first | exact ⟨c15, d0, d1, d2, hl⟩ | exact ⟨c15, d0, d1, d2, hld⟩) (fail)
        go_wp2
        go_end0
        exact ⟨rfl, (unhide HQ) _ ((Keeps.refl _ W).drew)⟩
      · have hb0 : ((d.outcome : Int) == 0) = false := by rw [beq_eq_false_iff_ne]; omega
        rw [hc0.resolve_left hoc] at hhas
        clear hc0 hoc
        go_enter Tryz.func162, Tryz.ntmps162
        go_wp2_with fail
        clear hW
        go_region_held3 (fun w' => w'.cell? ⟨p, 15, none⟩ = some (.map (some bo)) ∧ w'.cell? ⟨w.heap.size, 0, none⟩ = some (.int .i64 (t.coord : Int)) ∧ w'.cell? ⟨w.heap.size, 1, none⟩ = some (.int .i64 (t.inc : Int)) ∧ w'.cell? ⟨w.heap.size, 2, none⟩ = some (.int .i64 (t.seq : Int)) ∧ (lookO (.map (some bo)) (.agg #[.int .i64 (t.coord : Int), .int .i64 (t.inc : Int), .int .i64 (t.seq : Int)])).run Tryz.prog w' = .ok (.pointer (some ⟨d.blk, 0, none⟩)) w') (first | exact ⟨c15, d0, d1, d2, hl⟩ | exact ⟨c15, d0, d1, d2, hld⟩) (fail)
        go_wp2_with (go_at_call 86; refine (hhas _).mono ?_; rintro e w1 ⟨rfl, rfl⟩)
        go_end0
        exact ⟨rfl, (unhide HQ) _ ((Keeps.refl _ W).drew)⟩
    · have hoc : ¬ d.outcome = 0 := fun e => hc0 (.inl e)
      have htb : d.waits.testBit frm = true := by
        cases hx : d.waits.testBit frm with
        | true => rfl
        | false => exact absurd (.inr hx) hc0
      rw [htb] at hhas
      have hb0 : ((d.outcome : Int) == 0) = false := by rw [beq_eq_false_iff_ne]; omega
      obtain ⟨x, hx⟩ : ∃ x, without d.waits frm = x := ⟨_, rfl⟩
      obtain ⟨k, hk0⟩ : ∃ k : NM, { n with opn := mset n.opn t { d with waits := x } } = k := ⟨_, rfl⟩
      have hkz : k.fuse = none := by rw [← hk0]; exact hz
      have hku : k.up = true := by rw [← hk0]; exact hup
      obtain ⟨m2, hm2, _⟩ := ends_calm (n := k) hkz t
      have hr : n.hearAck t frm = .ok (if x = 0 then m2 else k) := by
        unfold NM.hearAck
        rw [hm]
        simp only [if_neg hc0, hx, hk0, hm2]
        split <;> rfl
      rw [hr]
      have hwi := fun W => sWithout_any d.waits frm W hs.2.1 hf
      have hxl := without_lt' hs.2.1 hf
      rw [hx] at hwi hxl
      have z1 := frozen_of_heap (o := 1) (gW.opens.deals _ (mget_mem hm)).2
      simp only at z1
      have hp1 := gW.drew.dealPost hm 1 (.int .i64 (x : Int)) (d' := { d with waits := x }) rfl rfl ⟨hs.1, hxl, hs.2.2.1, hs.2.2.2⟩
      have hdk : mget (mset n.opn t { d with waits := x }) t = some { d with waits := x } := mget_mset hm
      have ekk : k.opn = mset n.opn t { d with waits := x } := by rw [← hk0]
      rw [hk0] at hp1
      rw [← ekk] at hdk
      have hA2 := hp1.frame (b := w.heap.size) hA ho0
      have hA2' : (W.setCell ⟨d.blk, 1, none⟩ (.int .i64 (x : Int))).heap[w.heap.size]? = some (.cells #[.int .i64 (t.coord : Int), .int .i64 (t.inc : Int), .int .i64 (t.seq : Int)] 38 (0, 0)) := hA2
      obtain ⟨k0, k1, k2⟩ := boxTx_cells hA2'
      obtain ⟨o2, pd2, vj2, vf2, bo2, bp2, ve2, g2, f2, t2, _⟩ := hp1.ghost
      have s1 := g2.dealCell hdk 1
      simp [dealCells] at s1
      have hse := hen o2 p B k t _ ⟨_, _, _, _, _, _, g2⟩ hku (by omega)
      rw [hm2] at hse
      have hse : Calls Tryz.prog 236 #[.pointer (some ⟨p, 0, none⟩), .agg #[.int .i64 (t.coord : Int), .int .i64 (t.inc : Int), .int .i64 (t.seq : Int)]] (W.setCell ⟨d.blk, 1, none⟩ (.int .i64 (x : Int))).drew fun e w' => Res o2 (W.drew.setCell ⟨d.blk, 1, none⟩ (.int .i64 (x : Int))) p (B + 2) (.ok m2) e w' := hse
      have HT : Hid (∀ w' n' B', NPost o2 (W.drew.setCell ⟨d.blk, 1, none⟩ (.int .i64 (x : Int))) p n' B' w' → NPost o w p n' B' w') := hide (fun w' n' B' hh => NPost.from hkA (PostDrew (t2 _ _ _ hh)))
      have HE := hide (NPost.from hkA (PostDrew (hp1.up (B' := B + 9) (by omega) hB)))
      generalize hfin : (if x = 0 then m2 else k) = fin at *
      have HFIN := hide hfin
      clear h h0 hr hup hz gW hA hm hc0 hoc htb hfin hp1 g2 t2 ekk hdk hA2 hA2' hku hkz hk0 hm2 hx
      by_cases hx0 : x = 0
      · have hb1 : ((x : Int) == 0) = true := by rw [beq_iff_eq]; omega
        have HX := hide hx0
        clear hx0
        go_enter Tryz.func162, Tryz.ntmps162
        go_wp2_with fail
        clear hW
        go_region_held3 (fun w' => w'.cell? ⟨p, 15, none⟩ = some (.map (some bo)) ∧ w'.cell? ⟨w.heap.size, 0, none⟩ = some (.int .i64 (t.coord : Int)) ∧ w'.cell? ⟨w.heap.size, 1, none⟩ = some (.int .i64 (t.inc : Int)) ∧ w'.cell? ⟨w.heap.size, 2, none⟩ = some (.int .i64 (t.seq : Int)) ∧ (lookO (.map (some bo)) (.agg #[.int .i64 (t.coord : Int), .int .i64 (t.inc : Int), .int .i64 (t.seq : Int)])).run Tryz.prog w' = .ok (.pointer (some ⟨d.blk, 0, none⟩)) w') (first | exact ⟨c15, d0, d1, d2, hl⟩ | exact ⟨c15, d0, d1, d2, hld⟩) (fail)
        go_wp2_with (first | (go_at_call 86; refine (hhas _).mono ?_; rintro e w1 ⟨rfl, rfl⟩) | (go_at_call 231; refine (hwi _).mono ?_; rintro e wx ⟨rfl, rfl⟩) | (go_at_call 236; refine hse.mono ?_; rintro e w4 ⟨rfl, hres4⟩))
        go_end0
        refine ⟨rfl, ?_⟩
        rw [← unhide HFIN, if_pos (unhide HX)]
        exact ((unhide HT) _ _ _ hres4).up (by omega) hB
      · have hb1 : ((x : Int) == 0) = false := by rw [beq_eq_false_iff_ne]; omega
        have HX := hide hx0
        clear hx0
        go_enter Tryz.func162, Tryz.ntmps162
        go_wp2_with fail
        clear hW
        go_region_held3 (fun w' => w'.cell? ⟨p, 15, none⟩ = some (.map (some bo)) ∧ w'.cell? ⟨w.heap.size, 0, none⟩ = some (.int .i64 (t.coord : Int)) ∧ w'.cell? ⟨w.heap.size, 1, none⟩ = some (.int .i64 (t.inc : Int)) ∧ w'.cell? ⟨w.heap.size, 2, none⟩ = some (.int .i64 (t.seq : Int)) ∧ (lookO (.map (some bo)) (.agg #[.int .i64 (t.coord : Int), .int .i64 (t.inc : Int), .int .i64 (t.seq : Int)])).run Tryz.prog w' = .ok (.pointer (some ⟨d.blk, 0, none⟩)) w') (first | exact ⟨c15, d0, d1, d2, hl⟩ | exact ⟨c15, d0, d1, d2, hld⟩) (fail)
        go_wp2_with (first | (go_at_call 86; refine (hhas _).mono ?_; rintro e w1 ⟨rfl, rfl⟩) | (go_at_call 231; refine (hwi _).mono ?_; rintro e wx ⟨rfl, rfl⟩))
        go_end0
        refine ⟨rfl, ?_⟩
        rw [← unhide HFIN, if_neg (unhide HX)]
        exact unhide HE

end Go.Proofs.YthbmmbgkchiajaaGreat
