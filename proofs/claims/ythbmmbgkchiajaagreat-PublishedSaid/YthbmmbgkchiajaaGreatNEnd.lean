
/- The end of a transaction. -/
import Derived.Test.YthbmmbgkchiajaaGreatNTab

namespace Go.Proofs.YthbmmbgkchiajaaGreat
set_option linter.unusedSimpArgs false
set_option linter.unusedVariables false
open Go.RowKit

attribute [local go_sem ↓] lookO_eq lookP_eq delO_eq delP_eq putO_eq putP_eq

theorem PostDrew {o : Nat → Tag} {w w' : World} {p : Nat} {n : NM} {B : Nat} (h : NPost o w.drew p n B w') : NPost o w p n B w' := ⟨h.1, h.2.unDrew⟩
theorem lazily_up {n m : NM} {r : Rec} (h : n.lazily r = .ok m) : m.up = n.up ∧ m.opn = n.opn ∧ m.prep = n.prep ∧ m.cfg = n.cfg := by
  unfold NM.lazily at h
  split at h
  · cases h
  · rename_i i k hw
    cases h
    unfold NM.write at hw
    split at hw
    · cases hw
    · split at hw <;> (cases hw; exact ⟨rfl, rfl, rfl, rfl⟩)
    · split at hw <;> (cases hw; exact ⟨rfl, rfl, rfl, rfl⟩)
theorem forces_up {n m : NM} {r : Rec} {i : Nat} (h : n.forces r = .ok (i, m)) : m.up = n.up ∧ m.opn = n.opn ∧ m.prep = n.prep ∧ m.cfg = n.cfg ∧ i ≤ m.recs.length := by
  unfold NM.forces at h
  split at h
  · cases h
  · rename_i k hw
    cases h
    unfold NM.write at hw
    split at hw
    · cases hw
    · split at hw
      · cases hw; exact ⟨rfl, rfl, rfl, rfl, Nat.zero_le _⟩
      · cases hw
    · split at hw
      · cases hw; exact ⟨rfl, rfl, rfl, rfl, Nat.zero_le _⟩
      · cases hw
  · rename_i j k hw
    cases h
    unfold NM.write at hw
    split at hw
    · cases hw
    · split at hw
      · cases hw
      · cases hw; exact ⟨rfl, rfl, rfl, rfl, by simp⟩
    · split at hw
      · cases hw
      · cases hw; exact ⟨rfl, rfl, rfl, rfl, by simp⟩

set_option maxRecDepth 100000 in
set_option maxHeartbeats 400000 in
theorem end_any (o : Nat → Tag) (p B : Nat) (n : NM) (t : Tx) (w : World) (h : NodeAt o w p n B) (hup : n.up = true) (hB : B + 2 ≤ 1099511627776) :
    Calls Tryz.prog 236 #[.pointer (some ⟨p, 0, none⟩), txv t] w fun e w' => Res o w p (B + 2) (n.ends t) e w' := by
  obtain ⟨W, hW, hkA, hA, hwl⟩ := boxTx w t
  have h0 := h.begin hkA
  have hla := lazy_any _ p B n ⟨4, t, 0, 0⟩ W h0 hup hB
  have ho0 : tagsUp o w .other w.heap.size = .other := tagsUp_new (Nat.le_refl _)
  obtain ⟨d0, d1, d2⟩ := boxTx_cells hA
  unfold recV at hla
  unfold txv NM.ends
  clear h
  cases hr : n.lazily ⟨4, t, 0, 0⟩ with
  | error m =>
    rw [hr] at hla
    go_enter Tryz.func236, Tryz.ntmps236
    go_wp2_with (go_at_call 283; refine hla.mono ?_; rintro e w1 hres; have hres' := hres; obtain ⟨⟨o1, ak, kc, keep, q1, q2, q3, rfl, q4⟩, hk1⟩ := hres)
    exact ⟨rfl, PEnd.from hkA hres'⟩
  | ok m =>
    rw [hr] at hla
    go_enter Tryz.func236, Tryz.ntmps236
    go_wp2_with fail
    clear hW
    go_at_call 283
    refine hla.mono ?_
    rintro e w1 ⟨rfl, hres⟩
    have hA1 := hres.frame hA ho0
    obtain ⟨e0, e1, e2⟩ := boxTx_cells hA1
    obtain ⟨o1, pd, vj, vf, bo, bp, ve, g, f1, t1, _⟩ := hres.ghost
    have ho1 := (f1 w.heap.size hwl).trans ho0
    have hop := g.own
    have c15 := g.cell 15
    simp [nodeCells] at c15
    obtain ⟨w2, hd, HD⟩ := run_delO g.drew t
    have hst := (unhide HD).2
    have c15' := hst ⟨p, 15, none⟩ _ c15 (by simp only; rw [hop]; simp)
    have e0' := hst ⟨w.heap.size, 0, none⟩ _ e0 (by simp only; rw [ho1]; simp)
    have e1' := hst ⟨w.heap.size, 1, none⟩ _ e1 (by simp only; rw [ho1]; simp)
    have e2' := hst ⟨w.heap.size, 2, none⟩ _ e2 (by simp only; rw [ho1]; simp)
    have HE := hide (PostDrew (unhide HD).1)
    unfold txv at hd
    clear hA1 hla h0 g d0 d1 d2 hst HD
    go_wp2_with fail
    go_region_held3 (fun w' => w'.cell? ⟨p, 15, none⟩ = some (.map (some bo)) ∧ w'.cell? ⟨w.heap.size, 0, none⟩ = some (.int .i64 (t.coord : Int)) ∧ w'.cell? ⟨w.heap.size, 1, none⟩ = some (.int .i64 (t.inc : Int)) ∧ w'.cell? ⟨w.heap.size, 2, none⟩ = some (.int .i64 (t.seq : Int))) (first | exact ⟨c15, e0, e1, e2⟩ | exact ⟨c15', e0', e1', e2'⟩) (fail)
    go_end0
    exact ⟨rfl, NPost.from hkA (t1 _ _ _ (unhide HE))⟩

end Go.Proofs.YthbmmbgkchiajaaGreat

/- Which open transaction waits for a node's vote. -/
namespace Go.Proofs.YthbmmbgkchiajaaGreat
set_option linter.unusedSimpArgs false
set_option linter.unusedVariables false
open Go.RowKit

attribute [local go_sem ↓] lookO_eq lookP_eq delO_eq delP_eq putO_eq putP_eq

theorem eq_nil (W : World) (b : Nat) : (binOp .eql 206 (.pointer (some ⟨b, 0, none⟩)) (.pointer none)).run Tryz.prog W = .ok (.bool false) W := by
  simp [go_sem, Tryz.underlying206]

theorem NG.dealCell {o : Nat → Tag} {w : World} {p : Nat} {n : NM} {B pd : Nat} {vj vf : Value} {bo bp : Nat} {ve : Value} (h : NG o w p n B pd vj vf bo bp ve) {t : Tx} {d : Deal} (hd : mget n.opn t = some d) (i : Nat) : w.cell? ⟨d.blk, i, none⟩ = (dealCells d)[i]? := cell_of_heap (h.opens.deals _ (mget_mem hd)).2
theorem NG.dealTag {o : Nat → Tag} {w : World} {p : Nat} {n : NM} {B pd : Nat} {vj vf : Value} {bo bp : Nat} {ve : Value} (h : NG o w p n B pd vj vf bo bp ve) {t : Tx} {d : Deal} (hd : mget n.opn t = some d) : o d.blk = .deal t ∧ d.blk < w.heap.size ∧ w.frozen? ⟨d.blk, 0, none⟩ = false := ⟨(h.opens.deals _ (mget_mem hd)).1, lt_of_heap (h.opens.deals _ (mget_mem hd)).2, frozen_of_heap (h.opens.deals _ (mget_mem hd)).2⟩

set_option maxRecDepth 100000 in
set_option maxHeartbeats 400000 in
theorem asked_any (o : Nat → Tag) (p B frm : Nat) (n : NM) (t : Tx) (w : World) (h : NodeAt o w p n B) (hf : frm < 4) :
    Calls Tryz.prog 230 #[.pointer (some ⟨p, 0, none⟩), txv t, .int .i64 (frm : Int)] w fun e w' => e = .returned (((n.asked t frm).map dptr).getD (.pointer none)) ∧ Keeps (fun _ => False) w w' := by
  obtain ⟨W, hW, hkA, hA, hwl⟩ := boxTx w t
  obtain ⟨pd, vj, vf, bo, bp, ve, g⟩ := h
  have gW : NG (tagsUp o w .other) W p n B pd vj vf bo bp ve := g.keep hkA (fun _ hk => tagsUp_old hk) (fun _ _ _ f => f)
  obtain ⟨d0, d1, d2⟩ := boxTx_cells hA
  have c15 := gW.cell 15
  simp [nodeCells] at c15
  have hl := run_lookO gW.opens t
  have hld := run_lookO gW.drew.opens t
  unfold NM.asked
  unfold txv at *
  cases hm : mget n.opn t with
  | none =>
    rw [hm] at hl hld
    clear g gW hA
    go_enter Tryz.func230, Tryz.ntmps230
    go_wp2_with fail
    clear hW
    go_region_held3 (fun w' => w'.cell? ⟨p, 15, none⟩ = some (.map (some bo)) ∧ w'.cell? ⟨w.heap.size, 0, none⟩ = some (.int .i64 (t.coord : Int)) ∧ w'.cell? ⟨w.heap.size, 1, none⟩ = some (.int .i64 (t.inc : Int)) ∧ w'.cell? ⟨w.heap.size, 2, none⟩ = some (.int .i64 (t.seq : Int)) ∧ (lookO (.map (some bo)) (.agg #[.int .i64 (t.coord : Int), .int .i64 (t.inc : Int), .int .i64 (t.seq : Int)])).run Tryz.prog w' = .ok (.pointer none) w') (first | exact ⟨c15, d0, d1, d2, hl⟩ | exact ⟨c15, d0, d1, d2, hld⟩) (fail)
    go_wp2
    go_ret
    exact ⟨rfl, hkA.drew⟩
  | some d =>
    rw [hm] at hl hld
    have k1 := gW.dealCell hm 1
    have k2 := gW.dealCell hm 2
    simp [dealCells] at k1 k2
    have hdl := (gW.small.deals _ (mget_mem hm)).2.1
    have hhas := fun W => sHas_any d.waits frm W hdl hf
    have HM := hide hm
    have hne := fun W => eq_nil W d.blk
    simp only [Option.map_some, Option.getD_some, dptr] at hl hld
    by_cases h0 : d.outcome = 0
    · cases hb : d.waits.testBit frm with
      | false =>
        rw [hb] at hhas
        simp only [h0, ne_eq, not_true_eq_false, false_or, Bool.false_eq_true, if_true, if_false, hb]
        rw [h0] at k2
        clear g gW hA hm hdl
        go_enter Tryz.func230, Tryz.ntmps230
        go_wp2_with fail
        clear hW
        go_region_held3 (fun w' => w'.cell? ⟨p, 15, none⟩ = some (.map (some bo)) ∧ w'.cell? ⟨w.heap.size, 0, none⟩ = some (.int .i64 (t.coord : Int)) ∧ w'.cell? ⟨w.heap.size, 1, none⟩ = some (.int .i64 (t.inc : Int)) ∧ w'.cell? ⟨w.heap.size, 2, none⟩ = some (.int .i64 (t.seq : Int)) ∧ (lookO (.map (some bo)) (.agg #[.int .i64 (t.coord : Int), .int .i64 (t.inc : Int), .int .i64 (t.seq : Int)])).run Tryz.prog w' = .ok (.pointer (some ⟨d.blk, 0, none⟩)) w') (first | exact ⟨c15, d0, d1, d2, hl⟩ | exact ⟨c15, d0, d1, d2, hld⟩) (fail)
        go_wp2_with (go_at_call 86; refine (hhas _).mono ?_; rintro e w1 ⟨rfl, rfl⟩)
        go_ret
        exact ⟨rfl, hkA.drew⟩
      | true =>
        rw [hb] at hhas
        simp only [h0, ne_eq, not_true_eq_false, false_or, Bool.true_eq_false, if_false, hb, Option.map_some, Option.getD_some, dptr]
        rw [h0] at k2
        clear g gW hA hm hdl
        go_enter Tryz.func230, Tryz.ntmps230
        go_wp2_with fail
        clear hW
        go_region_held3 (fun w' => w'.cell? ⟨p, 15, none⟩ = some (.map (some bo)) ∧ w'.cell? ⟨w.heap.size, 0, none⟩ = some (.int .i64 (t.coord : Int)) ∧ w'.cell? ⟨w.heap.size, 1, none⟩ = some (.int .i64 (t.inc : Int)) ∧ w'.cell? ⟨w.heap.size, 2, none⟩ = some (.int .i64 (t.seq : Int)) ∧ (lookO (.map (some bo)) (.agg #[.int .i64 (t.coord : Int), .int .i64 (t.inc : Int), .int .i64 (t.seq : Int)])).run Tryz.prog w' = .ok (.pointer (some ⟨d.blk, 0, none⟩)) w') (first | exact ⟨c15, d0, d1, d2, hl⟩ | exact ⟨c15, d0, d1, d2, hld⟩) (fail)
        go_wp2_with (go_at_call 86; refine (hhas _).mono ?_; rintro e w1 ⟨rfl, rfl⟩)
        go_ret
        exact ⟨rfl, hkA.drew⟩
    · have hb0 : ((d.outcome : Int) != 0) = true := by rw [bne_iff_ne]; omega
      simp only [h0, ne_eq, not_false_eq_true, true_or, if_true]
      clear g gW hA hm hdl h0
      go_enter Tryz.func230, Tryz.ntmps230
      go_wp2_with fail
      clear hW
      go_region_held3 (fun w' => w'.cell? ⟨p, 15, none⟩ = some (.map (some bo)) ∧ w'.cell? ⟨w.heap.size, 0, none⟩ = some (.int .i64 (t.coord : Int)) ∧ w'.cell? ⟨w.heap.size, 1, none⟩ = some (.int .i64 (t.inc : Int)) ∧ w'.cell? ⟨w.heap.size, 2, none⟩ = some (.int .i64 (t.seq : Int)) ∧ (lookO (.map (some bo)) (.agg #[.int .i64 (t.coord : Int), .int .i64 (t.inc : Int), .int .i64 (t.seq : Int)])).run Tryz.prog w' = .ok (.pointer (some ⟨d.blk, 0, none⟩)) w') (first | exact ⟨c15, d0, d1, d2, hl⟩ | exact ⟨c15, d0, d1, d2, hld⟩) (fail)
      go_wp2
      go_ret
      exact ⟨rfl, hkA.drew⟩

end Go.Proofs.YthbmmbgkchiajaaGreat

/- A transaction prepared. -/
namespace Go.Proofs.YthbmmbgkchiajaaGreat
set_option linter.unusedSimpArgs false
set_option linter.unusedVariables false
open Go.RowKit

attribute [local go_sem ↓] lookO_eq lookP_eq delO_eq delP_eq putO_eq putP_eq

theorem NG.bpEq {o : Nat → Tag} {w : World} {p : Nat} {n : NM} {B pd : Nat} {vj vf : Value} {bo bp : Nat} {ve : Value} (h : NG o w p n B pd vj vf bo bp ve) : pd = n.pd ∧ bo = n.bo ∧ bp = n.bp := by
  have := h.eqs
  simp only [Prod.mk.injEq] at this
  exact this
theorem write_ghost {n m : NM} {r : Rec} {i : Nat} (h : n.write r = .ok (i, m)) : m.pd = n.pd ∧ m.bo = n.bo ∧ m.bp = n.bp := by
  unfold NM.write at h
  split at h
  · cases h
  · split at h <;> (cases h; exact ⟨rfl, rfl, rfl⟩)
  · split at h <;> (cases h; exact ⟨rfl, rfl, rfl⟩)
theorem forces_ghost {n m : NM} {r : Rec} {i : Nat} (h : n.forces r = .ok (i, m)) : m.pd = n.pd ∧ m.bo = n.bo ∧ m.bp = n.bp := by
  unfold NM.forces at h
  split at h
  · cases h
  · rename_i k hw; cases h; have := write_ghost hw; exact this
  · rename_i j k hw; cases h; have := write_ghost hw; exact this

/-- Without a fuse nothing fails. -/
theorem forces_calm {n : NM} (h : n.fuse = none) (r : Rec) : ∃ i m, n.forces r = .ok (i, m) ∧ m.fuse = none := by
  unfold NM.forces NM.write
  rw [h]
  simp only
  by_cases hf : n.jm.full
  · rw [if_pos hf]; exact ⟨_, _, rfl, by first | exact h | rfl⟩
  · rw [if_neg hf]; exact ⟨_, _, rfl, by first | exact h | rfl⟩
theorem lazily_calm {n : NM} (h : n.fuse = none) (r : Rec) : ∃ m, n.lazily r = .ok m ∧ m.fuse = none := by
  unfold NM.lazily NM.write
  rw [h]
  simp only
  by_cases hf : n.jm.full
  · rw [if_pos hf]; exact ⟨_, rfl, by first | exact h | rfl⟩
  · rw [if_neg hf]; exact ⟨_, rfl, by first | exact h | rfl⟩
theorem forces_no {n m : NM} {r : Rec} (h : n.fuse = none) (e : n.forces r = .error m) : False := by
  obtain ⟨i, k, h1, _⟩ := forces_calm h r
  rw [h1] at e; cases e
theorem lazily_no {n m : NM} {r : Rec} (h : n.fuse = none) (e : n.lazily r = .error m) : False := by
  obtain ⟨k, h1, _⟩ := lazily_calm h r
  rw [h1] at e; cases e

set_option maxRecDepth 100000 in
set_option maxHeartbeats 400000 in
theorem prepare_any (o : Nat → Tag) (p B : Nat) (n : NM) (t : Tx) (w : World) (h : NodeAt o w p n B) (hup : n.up = true) (hz : n.fuse = none) (ht : t.coord < 4) (hB : B + 3 ≤ 1099511627776) :
    Calls Tryz.prog 229 #[.pointer (some ⟨p, 0, none⟩), txv t] w fun e w' => Res o w p (B + 3) (n.prepare t) e w' := by
  obtain ⟨W, hW, hkA, hA, hwl⟩ := boxTx w t
  have h0 := h.begin hkA
  have hfo := force_any _ p B n ⟨5, t, 0, 0⟩ _ h0.drew hup (by omega)
  have ho0 : tagsUp o w .other w.heap.size = .other := tagsUp_new (Nat.le_refl _)
  obtain ⟨d0, d1, d2⟩ := boxTx_cells hA
  obtain ⟨pd, vj, vf, bo, bp, ve, g0⟩ := h0
  have c16 := g0.cell 16
  simp [nodeCells] at c16
  have hbp := g0.bpEq.2.2
  unfold recV at hfo
  unfold NM.prepare
  have hadd := markAdd_any
  clear h g0
  cases hr : n.forces ⟨5, t, 0, 0⟩ with
  | error m => exact (forces_no hz hr).elim
  | ok y =>
    obtain ⟨i, m⟩ := y
    rw [hr] at hfo
    obtain ⟨u1, _, _, _, u5⟩ := forces_up hr
    have u6 := (forces_ghost hr).2.2
    have HM := hide (And.intro (u1.trans hup) (And.intro u5 (hbp.trans u6.symm)))
    unfold txv at *
    clear u1 u5 u6 hbp hr
    go_enter Tryz.func229, Tryz.ntmps229
    go_wp2_with fail
    clear hW
    go_region_held3 (fun w' => w'.cell? ⟨p, 16, none⟩ = some (.map (some bp)) ∧ w'.cell? ⟨w.heap.size, 0, none⟩ = some (.int .i64 (t.coord : Int)) ∧ w'.cell? ⟨w.heap.size, 1, none⟩ = some (.int .i64 (t.inc : Int)) ∧ w'.cell? ⟨w.heap.size, 2, none⟩ = some (.int .i64 (t.seq : Int))) (first | exact ⟨c16, d0, d1, d2⟩ | exact ⟨c16', e0, e1, e2⟩ | exact ⟨c16'', e0', e1', e2'⟩) (first
      | (go_at_call 156; refine hfo.mono ?_; rintro e w1 ⟨rfl, hres⟩; have hA1 := hres.frame hA ho0; obtain ⟨e0, e1, e2⟩ := boxTx_cells hA1; obtain ⟨o1, pd1, vj1, vf1, bo1, bp1, ve1, g1, f1, t1, _⟩ := hres.ghost; have hbe := g1.bpEq.2.2.trans (unhide HM).2.2.symm; subst hbe; have ho1 := (f1 w.heap.size hwl).trans ho0; have hop := g1.own; have c16' := g1.cell 16; simp [nodeCells] at c16'; have hi : i ≤ B + 2 + 1 := Nat.le_trans (unhide HM).2.1 (Nat.le_trans g1.small.recs (by omega)); obtain ⟨w2, hput, HD⟩ := run_putP g1 t i hi (by omega); have hst := (unhide HD).2; have c16'' := hst ⟨p, 16, none⟩ _ c16' (by simp only; rw [hop]; simp); have e0' := hst ⟨w.heap.size, 0, none⟩ _ e0 (by simp only; rw [ho1]; simp); have e1' := hst ⟨w.heap.size, 1, none⟩ _ e1 (by simp only; rw [ho1]; simp); have e2' := hst ⟨w.heap.size, 2, none⟩ _ e2 (by simp only; rw [ho1]; simp); unfold txv at hput; clear hst))
    have hn2 := (unhide HD).1
    obtain ⟨o2, f2, g2, t2, _⟩ := hn2.next
    have hca := hadd o2 p (B + 2 + 1) _ t w2.drew g2.drew ht
    have ho2 := (f2 w.heap.size (Nat.lt_of_lt_of_le hwl hres.2.size)).trans ho1
    unfold txv at hca
    have HE : Hid (∀ w3, NPost o2 w2 p ({ m with prep := mput m.prep t i }.markAdd t) (B + 3) w3 → NPost o w p ({ m with prep := mput m.prep t i }.markAdd t) (B + 3) w3) := hide (fun w3 hh => NPost.from hkA.drew (t1 _ _ _ (t2 _ _ _ hh)))
    clear g2 hn2 t1 t2 HD g1 hA1 hput
    go_wp2_with fail
    go_region_held3 (fun w' => w'.cell? ⟨w.heap.size, 0, none⟩ = some (.int .i64 (t.coord : Int)) ∧ w'.cell? ⟨w.heap.size, 1, none⟩ = some (.int .i64 (t.inc : Int)) ∧ w'.cell? ⟨w.heap.size, 2, none⟩ = some (.int .i64 (t.seq : Int))) (first | exact ⟨e0', e1', e2'⟩ | exact ⟨hres3.2.cell' e0' (fun e => e ho2), hres3.2.cell' e1' (fun e => e ho2), hres3.2.cell' e2' (fun e => e ho2)⟩) (first
      | (go_at_call 281; refine hca.mono ?_; rintro e w3 ⟨rfl, hres3⟩))
    go_wp2
    go_end0
    exact ⟨rfl, (unhide HE) w3 (PostDrew hres3)⟩

end Go.Proofs.YthbmmbgkchiajaaGreat
