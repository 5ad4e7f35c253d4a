
/- A transaction begun. -/
import Derived.Test.YthbmmbgkchiajaaGreatNIter
namespace Go.Proofs.YthbmmbgkchiajaaGreat
set_option linter.unusedSimpArgs false
set_option linter.unusedVariables false
open Go.RowKit

attribute [local go_sem ↓] lookO_eq lookP_eq delO_eq delP_eq putO_eq putP_eq lenO_eq lenP_eq

/-- A block that was nobody's becomes a deal's. -/
def retag (o : Nat → Tag) (b : Nat) (t : Tag) : Nat → Tag := fun k => if k = b then t else o k
theorem retag_ne {o : Nat → Tag} {b : Nat} {t u : Tag} (hb : o b = .other) {k : Nat} (h : o k = u) (hu : u ≠ .other) : retag o b t k = u := by
  unfold retag
  rw [if_neg (fun e => by rw [e, hb] at h; exact hu h.symm)]
  exact h
theorem NG.retag {o : Nat → Tag} {w : World} {p : Nat} {n : NM} {B pd : Nat} {vj vf : Value} {bo bp : Nat} {ve : Value} (h : NG o w p n B pd vj vf bo bp ve) {b : Nat} (hb : o b = .other) (t : Tag) : NG (retag o b t) w p n B pd vj vf bo bp ve := by
  refine ⟨h.self, retag_ne hb h.own (by simp), ⟨retag_ne hb h.opens.own (by simp), h.opens.map, h.opens.nodup, fun x hx => ⟨retag_ne hb (h.opens.deals x hx).1 (by simp), (h.opens.deals x hx).2⟩⟩, ⟨retag_ne hb h.preps.own (by simp), h.preps.map, h.preps.nodup⟩, ?_, ?_, ?_, h.small, h.eqs⟩
  · exact Own.mono h.evs (fun k _ e => retag_ne hb e (by simp))
  · have := h.fuse
    match hf : n.fuse, this with
    | none, h1 => exact h1
    | some (k, keep), h1 =>
      obtain ⟨pf, ak, kc, q1, q2, q3, q4, q5⟩ := h1
      refine ⟨pf, ak, kc, q1, retag_ne hb q2 (by simp), q3, fun j hj => ?_, q5⟩
      obtain ⟨gk, ok, e1, e2, e3, e4⟩ := q4 j hj
      exact ⟨gk, ok, e1, retag_ne hb e2 (by simp), e3, e4⟩
  · have := h.jour
    unfold JourAt at *
    cases hu : n.up with
    | true =>
      rw [hu, if_pos rfl] at this
      rw [if_pos rfl]
      obtain ⟨pj, m, h1, h2, h3⟩ := this
      exact ⟨pj, m, h1, h2.mono (fun k _ e => retag_ne hb e (by simp)), h3⟩
    | false =>
      rw [hu, if_neg (by simp)] at this
      rw [if_neg (by simp)]
      obtain ⟨h1, m, h2, h3⟩ := this
      exact ⟨h1, m, Two.mono h2 (fun k _ e => retag_ne hb e (by simp)), h3⟩

theorem NPost.over {o o1 : Nat → Tag} {w w1 w2 : World} {p : Nat} {n : NM} {B : Nat} (hk : Keeps (fun k => o k ≠ .other) w w1) (ha : ∀ k, k < w.heap.size → o1 k = o k) (h : NPost o1 w1 p n B w2) : NPost o w p n B w2 := by
  obtain ⟨⟨o2, e2, g2⟩, k2⟩ := h
  refine ⟨⟨o2, fun i hi => (e2 i (Nat.lt_of_lt_of_le hi hk.size)).trans (ha i hi), g2⟩, hk.trans k2 (fun i hi e => ?_)⟩
  rw [← ha i hi]; exact e

theorem openL_put (l : List (Tx × Deal)) (t : Tx) (d : Deal) : mput (openL l) t (dptr d) = openL (mput l t d) := mput_map dptr l t d

/-- A deal is put into the table. -/
theorem run_putO {o : Nat → Tag} {w : World} {p : Nat} {n : NM} {B pd : Nat} {vj vf : Value} {bo bp : Nat} {ve : Value} (h : NG o w p n B pd vj vf bo bp ve) (t : Tx) (d : Deal) (ht : o d.blk = .deal t) (hc : w.heap[d.blk]? = some (.cells (dealCells d) 208 (0, 0))) (hs : d.parts < 16 ∧ d.waits < 16 ∧ d.outcome < 3 ∧ d.ticks ≤ B + 1 ∧ d.recd ≤ B + 1) (hB : B + 1 ≤ 1099511627776) :
    ∃ w', (putO (.map (some bo)) (txv t) (dptr d)).run Tryz.prog w = .ok () w' ∧ Hid (NPost o w p { n with opn := mput n.opn t d } (B + 1) w' ∧ ∀ (a : Addr) v, w.cell? a = some v → o a.block ≠ .opens → w'.cell? a = some v) := by
  obtain ⟨w', h1, h2⟩ := store_map h.opens.map (by have := h.opens.nodup; unfold openL; rw [List.map_map]; exact this) 149 _ Tryz.underlying149 t (dptr d)
  have hk := (unhide h2).2
  have hm := (unhide h2).1
  rw [openL_put] at hm
  have hb := h.opens.own
  have ho : ∀ k, k < w.heap.size → o k = o k := fun _ _ => rfl
  have hsm := h.small.up (B' := B + 1) (by omega) hB
  refine ⟨w', h1, hide ⟨⟨⟨o, ho, pd, vj, vf, bo, bp, ve, hk.heap h.self (fun e => by have := h.own; rw [e, hb] at this; cases this), h.own, ⟨hb, hm, mput_nodup t d h.opens.nodup, ?_⟩, h.preps.keep hk ho (fun k _ e e' => by subst e'; rw [hb] at e; cases e), h.evs.keep hk ho (fun k _ e e' => by subst e'; rw [hb] at e; cases e), h.fuse.keep hk ho (fun k _ e e' => by subst e'; rw [hb] at e; cases e), (h.jour.keep hk ho (fun k _ e e' => by subst e'; rw [hb] at e; cases e)).big (by omega), ?_, h.eqs⟩, hk.mono (fun k _ e => by subst e; rw [hb]; simp)⟩, fun a v hc ho => hk.cell' hc (fun e => ho (by rw [e]; exact hb))⟩⟩
  · intro x hx
    rcases mput_mem hx with rfl | ⟨hx, _⟩
    · exact ⟨ht, hk.heap hc (fun e => by rw [e, hb] at ht; cases ht)⟩
    · obtain ⟨g1, g2⟩ := h.opens.deals x hx
      exact ⟨g1, hk.heap g2 (fun e => by rw [e, hb] at g1; cases g1)⟩
  · refine ⟨hsm.id, hsm.variant, hsm.patience, hsm.inc, hsm.forced, hsm.lazies, hsm.sent, hsm.recs, hsm.begun, hsm.evs, hsm.marks, fun x hx => ?_, hsm.preps, Nat.le_trans (mput_length _ _ _) (by have := h.small.opensL; omega), hsm.prepsL, hB⟩
    rcases mput_mem hx with rfl | ⟨hx, _⟩
    · exact hs
    · exact hsm.deals x hx

theorem NodeAt.begunUp {o : Nat → Tag} {w : World} {p : Nat} {n : NM} {B pd : Nat} {vj vf : Value} {bo bp : Nat} {ve : Value} (h : NG o w p n B pd vj vf bo bp ve) (hB' : B + 1 ≤ 1099511627776) : NPost o w p { n with begun := n.begun + 1 } (B + 1) (w.setCell ⟨p, 14, none⟩ (.int .i64 ((n.begun : Int) + 1))) := by
  have hs := h.small.up (B' := B + 1) (by omega) hB'
  have hb := h.small.begun
  exact h.cellPost (by omega) 14 _ rfl rfl rfl rfl rfl rfl rfl rfl ⟨hs.id, hs.variant, hs.patience, hs.inc, hs.forced, hs.lazies, hs.sent, hs.recs, by show n.begun + 1 ≤ B + 1; omega, hs.evs, hs.marks, hs.deals, hs.preps, hs.opensL, hs.prepsL, hB'⟩

/-- A deal in a new block. -/
theorem boxDeal (w : World) (parts : Nat) : ∃ W, w.alloc (.cells #[.int .i64 (parts : Int), .int .i64 (parts : Int), .int .i64 0, .int .i64 0, .int .i64 0] 208) = W ∧ Keeps (fun _ => False) w W ∧ W.heap[w.heap.size]? = some (.cells (dealCells ⟨parts, parts, 0, 0, 0, w.heap.size⟩) 208 (0, 0)) ∧ w.heap.size < W.heap.size :=
  ⟨_, rfl, (Keeps.refl _ w).alloc _, heap_alloc_new _ _, by simp⟩

end Go.Proofs.YthbmmbgkchiajaaGreat
