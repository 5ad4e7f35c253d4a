
/- Marks, and what is let go of a journal. -/
import Derived.Test.YthbmmbgkchiajaaGreatNConst

namespace Go.Proofs.YthbmmbgkchiajaaGreat
set_option linter.unusedSimpArgs false
set_option linter.unusedVariables false
open Go.RowKit

theorem NG.marksAt {o : Nat → Tag} {w : World} {p : Nat} {n : NM} {B pd : Nat} {vj vf : Value} {bo bp : Nat} {ve : Value} (h : NG o w p n B pd vj vf bo bp ve) : MarksAt w p 17 n.marks := by
  intro c hc
  match c, hc with
  | 0, _ => exact ⟨h.cell 17, h.cell 18, h.cell 19⟩
  | 1, _ => exact ⟨h.cell 20, h.cell 21, h.cell 22⟩
  | 2, _ => exact ⟨h.cell 23, h.cell 24, h.cell 25⟩
  | 3, _ => exact ⟨h.cell 26, h.cell 27, h.cell 28⟩

theorem truncate_end {o : Nat → Tag} {w w2 w3 : World} {p : Nat} {n : NM} {B pd pj x : Nat} {vf : Value} {bo bp : Nat} {ve : Value} {m : DM} (h : NG o w p n B pd (.pointer (some ⟨pj, 0, none⟩)) vf bo bp ve) (hB : B + 1 ≤ 1099511627776) (hup : n.up = true) (hm : m.syncs ≤ B) (hk2 : Keeps (fun _ => False) w w2)
    (hj : JUse (fun k => (k < w.heap.size ∧ o k = .jour) ∨ w2.heap.size ≤ k) w3 pj pd { n.jm with low := x, note := marksB n.marks, safe := n.jm.L.length } ((m.put 1 (packB x n.jm.epoch (marksB n.marks))).sync)) (hk3 : Keeps (fun k => k < w.heap.size ∧ o k = .jour) w2 w3) :
    NPost o w p (n.truncate x) (B + 1) w3 := by
  have hsz := hk2.size
  refine h.jourPost (n' := n.truncate x) ?_ (m' := (m.put 1 (packB x n.jm.epoch (marksB n.marks))).sync) ?_ (by rw [sync_syncs, put_syncs]; omega) rfl rfl rfl rfl hup rfl rfl ?_
  · exact (hk2.mono (T := fun k => o k = .jour) (fun _ _ f => f.elim)).trans hk3 (fun _ _ e => e.2)
  · have e : (n.truncate x).jm = { n.jm with low := x, note := marksB n.marks, safe := n.jm.L.length } := by unfold NM.jm NM.truncate; simp
    rw [e]
    exact hj.mono (fun k _ e => by rcases e with e | e; exact .inl e; exact .inr (by omega))
  · have hs := h.small.up (B' := B + 1) (by omega) hB
    exact ⟨hs.id, hs.variant, hs.patience, hs.inc, hs.forced, hs.lazies, hs.sent, hs.recs, hs.begun, hs.evs, hs.marks, hs.deals, hs.preps, hs.opensL, hs.prepsL, hB⟩

set_option maxRecDepth 100000 in
set_option maxHeartbeats 400000 in
theorem truncate_any (o : Nat → Tag) (p B x : Nat) (n : NM) (w : World) (h : NodeAt o w p n B) (hup : n.up = true) (hx0 : n.low ≤ x) (hx1 : x ≤ n.recs.length + 1) (hB : B + 1 ≤ 1099511627776) :
    Calls Tryz.prog 278 #[.pointer (some ⟨p, 0, none⟩), .int .i64 (x : Int)] w fun e w' => e = .returned (.tuple #[]) ∧ NPost o w p (n.truncate x) (B + 1) w' := by
  obtain ⟨pd, vj, vf, bo, bp, ve, g⟩ := h
  obtain ⟨pj, dm, rfl, hJ, hdm⟩ := g.jour' hup
  have c12 := g.cell 12
  simp [nodeCells] at c12
  have hbig := g.small.big
  have np : ¬ (p < w.heap.size ∧ o p = .jour) := fun e => by rw [g.own] at e; cases e.2
  have hpk := fun W (hk : Keeps (fun _ => False) w W) => mPack_any p 17 n.marks W (g.marksAt.keep hk (lt_of_heap g.self) (fun f => f)) g.small.marks
  have hms : (marksB n.marks).size ≤ 40 := by rw [marksB_size, g.small.marks]; omega
  have hpjl : pj < w.heap.size := by obtain ⟨vn, hj⟩ := hJ.at; exact lt_of_heap hj
  have HE : Hid (∀ w2 w3, Keeps (fun _ => False) w w2 → JUse (fun k => (k < w.heap.size ∧ o k = .jour) ∨ w2.heap.size ≤ k) w3 pj pd { n.jm with low := x, note := marksB n.marks, safe := n.jm.L.length } ((dm.put 1 (packB x n.jm.epoch (marksB n.marks))).sync) → Keeps (fun k => k < w.heap.size ∧ o k = .jour) w2 w3 → NPost o w p (n.truncate x) (B + 1) w3) := hide (fun w2 w3 a b c => truncate_end g hB hup hdm a b c)
  have HJ := hide hJ
  have HX : Hid (n.jm.low ≤ x ∧ x ≤ n.jm.L.length + 1) := hide ⟨hx0, by rw [NM.jm_len]; exact hx1⟩
  clear g hJ hx0 hx1
  go_enter Tryz.func278, Tryz.ntmps278
  go_wp2_with fail
  go_region_held3 (fun w' => w'.cell? ⟨p, 12, none⟩ = some (.pointer (some ⟨pj, 0, none⟩))) (first | exact c12 | exact hk3.cell' (hk2.cell' c12 (fun f => f)) np | exact hk2.cell' c12 (fun f => f)) (first
    | (go_at_call 304; refine (hpk _ ((Keeps.refl _ _).drew)).mono ?_; rintro e w2 ⟨v2, rfl, hv2, hk2'⟩; have hk2 := hk2'.unDrew; clear hk2'; have HV := hide hv2; obtain ⟨ao, cap, rfl, hv3, _, _⟩ := hv2)
    | (go_at_call 200; refine (use_truncate _ _ pj pd cap x ao (marksB n.marks) n.jm dm _ ((unhide HJ).keep hk2 (fun _ _ _ f => f)) (by omega) (unhide HX).1 (unhide HX).2 hms (unhide HV) (fun e => by have e' : w.heap.size ≤ pj := e; omega)).mono ?_; rintro e w3 ⟨rfl, hJ3, hk3⟩; have HJ3 := hide hJ3; clear hJ3))
  go_wp2
  go_end0
  exact ⟨rfl, (unhide HE) w2 w3 hk2 (unhide HJ3) hk3⟩

theorem set_marks {n : NM} (hl : n.marks.length = 4) (t : Tx) (ht : t.coord < 4) (pd : Nat) (vj vf : Value) (bo bp : Nat) (ve : Value) :
    (((nodeCells n pd vj vf bo bp ve).setIfInBounds (17 + t.coord * 3) (.int .i64 (t.coord : Int))).setIfInBounds (17 + t.coord * 3 + 1) (.int .i64 (t.inc : Int))).setIfInBounds (17 + t.coord * 3 + 2) (.int .i64 (t.seq : Int)) = nodeCells { n with marks := n.marks.set t.coord t } pd vj vf bo bp ve := by
  obtain ⟨id, cfg, up, inc, refuses, forced, lazies, sent, recs, low, safe, notes, fuse, begun, opn, prep, marks, evs, gpd, gbo, gbp⟩ := n
  match marks, hl with
  | [m0, m1, m2, m3], _ =>
    obtain ⟨c, i, s⟩ := t
    match c, ht with
    | 0, _ => rfl
    | 1, _ => rfl
    | 2, _ => rfl
    | 3, _ => rfl

theorem markAdd_end {o : Nat → Tag} {w w' : World} {p : Nat} {n : NM} {B pd : Nat} {vj vf : Value} {bo bp : Nat} {ve : Value} {t : Tx} (h : NG o w p n B pd vj vf bo bp ve) (ht : t.coord < 4)
    (hr : if t.le (n.marks.getD t.coord tx0) then Keeps (fun _ => False) w w' else Keeps (fun k => k = p) w w' ∧ w'.heap[p]? = some (.cells ((((nodeCells n pd vj vf bo bp ve).setIfInBounds (17 + t.coord * 3) (.int .i64 (t.coord : Int))).setIfInBounds (17 + t.coord * 3 + 1) (.int .i64 (t.inc : Int))).setIfInBounds (17 + t.coord * 3 + 2) (.int .i64 (t.seq : Int))) 154 (0, 0))) : NPost o w p (n.markAdd t) B w' := by
  unfold NM.markAdd NM.markHas
  cases hb : t.le (n.marks.getD t.coord tx0) with
  | true =>
    rw [hb, if_pos rfl] at hr
    rw [if_pos rfl]
    exact NodeAt.quiet ⟨pd, vj, vf, bo, bp, ve, h⟩ hr
  | false =>
    rw [hb, if_neg (by simp)] at hr
    rw [if_neg (by simp)]
    obtain ⟨hk, hs⟩ := hr
    rw [set_marks h.small.marks t ht] at hs
    have hp := h.own
    have ho : ∀ k, k < w.heap.size → o k = o k := fun _ _ => rfl
    have hsm := h.small
    refine ⟨⟨o, ho, pd, vj, vf, bo, bp, ve, hs, h.own, h.opens.keep hk ho (fun k _ e e' => by subst e'; rw [hp] at e; simp at e), h.preps.keep hk ho (fun k _ e e' => by subst e'; rw [hp] at e; simp at e), h.evs.keep hk ho (fun k _ e e' => by subst e'; rw [hp] at e; simp at e), h.fuse.keep hk ho (fun k _ e e' => by subst e'; rw [hp] at e; simp at e), h.jour.keep hk ho (fun k _ e e' => by subst e'; rw [hp] at e; simp at e), ?_, h.eqs⟩, hk.mono (fun k _ e => by subst e; rw [hp]; simp)⟩
    exact ⟨hsm.id, hsm.variant, hsm.patience, hsm.inc, hsm.forced, hsm.lazies, hsm.sent, hsm.recs, hsm.begun, hsm.evs, by show (n.marks.set t.coord t).length = 4; rw [List.length_set]; exact hsm.marks, hsm.deals, hsm.preps, hsm.opensL, hsm.prepsL, hsm.big⟩

theorem markAdd_any (o : Nat → Tag) (p B : Nat) (n : NM) (t : Tx) (w : World) (h : NodeAt o w p n B) (ht : t.coord < 4) : Calls Tryz.prog 281 #[.pointer (some ⟨p, 17, none⟩), txv t] w fun e w' => e = .returned (.tuple #[]) ∧ NPost o w p (n.markAdd t) B w' := by
  obtain ⟨pd, vj, vf, bo, bp, ve, g⟩ := h
  refine (mAdd_any p 17 n.marks t w _ 154 g.self g.marksAt ht).mono ?_
  rintro e w' ⟨h1, h2⟩
  exact ⟨h1, markAdd_end g ht h2⟩
theorem markHas_any (o : Nat → Tag) (p B : Nat) (n : NM) (t : Tx) (w : World) (h : NodeAt o w p n B) (ht : t.coord < 4) : Calls Tryz.prog 227 #[.pointer (some ⟨p, 17, none⟩), txv t] w fun e w' => e = .returned (.bool (n.markHas t)) ∧ Keeps (fun _ => False) w w' := by
  obtain ⟨pd, vj, vf, bo, bp, ve, g⟩ := h
  exact mHas_any p 17 n.marks t w g.marksAt ht

end Go.Proofs.YthbmmbgkchiajaaGreat

/- A transaction marked. -/
namespace Go.Proofs.YthbmmbgkchiajaaGreat
set_option linter.unusedSimpArgs false
set_option linter.unusedVariables false
open Go.RowKit

/-- A transaction that lies in a new block. -/
theorem boxTx (w : World) (t : Tx) : ∃ W, w.alloc (.cells #[.int .i64 (t.coord : Int), .int .i64 (t.inc : Int), .int .i64 (t.seq : Int)] 38) = W ∧ Keeps (fun _ => False) w W ∧ W.heap[w.heap.size]? = some (.cells #[.int .i64 (t.coord : Int), .int .i64 (t.inc : Int), .int .i64 (t.seq : Int)] 38 (0, 0)) ∧ w.heap.size < W.heap.size :=
  ⟨_, rfl, (Keeps.refl _ w).alloc _, heap_alloc_new _ _, by simp⟩
theorem boxTx_cells {W : World} {b : Nat} {t : Tx} (h : W.heap[b]? = some (.cells #[.int .i64 (t.coord : Int), .int .i64 (t.inc : Int), .int .i64 (t.seq : Int)] 38 (0, 0))) : W.cell? ⟨b, 0, none⟩ = some (.int .i64 (t.coord : Int)) ∧ W.cell? ⟨b, 1, none⟩ = some (.int .i64 (t.inc : Int)) ∧ W.cell? ⟨b, 2, none⟩ = some (.int .i64 (t.seq : Int)) := ⟨cell_of_heap h, cell_of_heap h, cell_of_heap h⟩

theorem markAdd_up (n : NM) (t : Tx) : (n.markAdd t).up = n.up ∧ (n.markAdd t).recs = n.recs ∧ (n.markAdd t).low = n.low ∧ (n.markAdd t).opn = n.opn ∧ (n.markAdd t).prep = n.prep ∧ (n.markAdd t).cfg = n.cfg := by
  unfold NM.markAdd
  split <;> exact ⟨rfl, rfl, rfl, rfl, rfl, rfl⟩

theorem NodeAt.lowle {o : Nat → Tag} {w : World} {p : Nat} {n : NM} {B : Nat} (h : NodeAt o w p n B) (hup : n.up = true) : 1 ≤ n.low ∧ n.low ≤ n.recs.length + 1 := by
  obtain ⟨pd, vj, vf, bo, bp, ve, h⟩ := h
  obtain ⟨pj, m, _, hJ, _⟩ := h.jour' hup
  exact (JUse.room hJ).2.2.2.2

set_option maxRecDepth 100000 in
set_option maxHeartbeats 400000 in
theorem mark_any (o : Nat → Tag) (p B : Nat) (n : NM) (t : Tx) (w : World) (h : NodeAt o w p n B) (hup : n.up = true) (ht : t.coord < 4) (hB : B + 1 ≤ 1099511627776) :
    Calls Tryz.prog 228 #[.pointer (some ⟨p, 0, none⟩), txv t] w fun e w' => e = .returned (.tuple #[]) ∧ NPost o w p (n.mark t) (B + 1) w' := by
  obtain ⟨W, hW, hkA, hA, hwl⟩ := boxTx w t
  have h0 := h.begin hkA
  have hadd := markAdd_any _ p B n t _ h0.drew ht
  have ho0 : tagsUp o w .other w.heap.size = .other := tagsUp_new (Nat.le_refl _)
  obtain ⟨d0, d1, d2⟩ := boxTx_cells hA
  unfold NM.mark
  have hm := markAdd_up n t
  unfold txv at *
  have HU := hide (hm.1.trans hup)
  generalize n.markAdd t = m at *
  clear hm h
  go_enter Tryz.func228, Tryz.ntmps228
  go_wp2_with fail
  clear hW
  go_region_held3 (fun w' => w'.cell? ⟨w.heap.size, 0, none⟩ = some (.int .i64 (t.coord : Int)) ∧ w'.cell? ⟨w.heap.size, 1, none⟩ = some (.int .i64 (t.inc : Int)) ∧ w'.cell? ⟨w.heap.size, 2, none⟩ = some (.int .i64 (t.seq : Int))) (first | exact ⟨d0, d1, d2⟩ | exact ⟨hres.2.cell' d0 (fun e => e ho0), hres.2.cell' d1 (fun e => e ho0), hres.2.cell' d2 (fun e => e ho0)⟩) (first
    | (go_at_call 281; refine hadd.mono ?_; rintro e w1 ⟨rfl, hres⟩))
  obtain ⟨o1, pd, vj, vf, bo, bp, ve, g, _, t1, _⟩ := hres.ghost
  obtain ⟨pj, dm, rfl, hJ, hdm⟩ := g.jour' (unhide HU)
  have c12 := g.cell 12
  simp [nodeCells] at c12
  have hlo := jLow_use hJ
  have hn : NodeAt o1 w1 p m B := ⟨pd, _, vf, bo, bp, ve, g⟩
  have hll := hn.lowle (unhide HU)
  have hfo0 := g.small.forced
  have htr := truncate_any o1 p B m.low m w1 hn (unhide HU) (Nat.le_refl _) hll.2 hB
  clear hJ g hll
  go_wp2_with (first | (go_at_call 152; refine hlo.mono ?_; rintro e w2 ⟨rfl, rfl⟩) | (go_at_call 278; refine htr.mono ?_; rintro e w3 ⟨rfl, hres3⟩; obtain ⟨o3, pd3, vj3, vf3, bo3, bp3, ve3, g3, _, t3, _⟩ := hres3.ghost; have c9 := g3.cell 9; have z9 := frozen_of_heap (o := 9) g3.self; simp [nodeCells] at c9; have hfo := g3.small.forced))
  go_end0
  exact ⟨rfl, NPost.from hkA.drew (t1 _ _ _ (t3 _ _ _ (NodeAt.forced g3 (B' := B + 1) (Nat.le_refl _) hB (by show m.forced + 1 ≤ B + 1; have := hfo0; omega))))⟩

end Go.Proofs.YthbmmbgkchiajaaGreat
