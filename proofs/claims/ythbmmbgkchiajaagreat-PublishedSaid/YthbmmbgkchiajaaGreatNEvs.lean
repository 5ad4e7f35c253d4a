
/- What a node tells: events and messages. -/
import Derived.Test.YthbmmbgkchiajaaGreatNWrite
import Derived.Deep.RegionLaw
namespace Go.Proofs.YthbmmbgkchiajaaGreat
set_option linter.unusedSimpArgs false
set_option linter.unusedVariables false
open Go.RowKit

theorem infoEvent : (Tryz.prog.info? 56).map (fun i => (i.zero, i.size, i.bytes)) = some (some (.agg (Array.replicate 12 (.int .i64 0))), 12, 96) := by kernel_rfl

theorem ev_zero_size : (Value.agg (Array.replicate 12 (.int .i64 0))).cells.size = 12 := rfl

theorem EvsAt.append {o : Nat → Tag} {w w1 : World} {ve : Value} {l : List Ev} {e : Ev} {n' cap gg H : Nat} (h : EvsAt o w ve l) (hown1 : w1.ownsRow 0 56 12 (.slice (some ⟨gg, 0, none⟩) n' cap) n' (l.flatMap evCells ++ evCells e)) (hn : n' = l.length + 1) (hat : ve.ownBlock = some gg ∨ gg = H) (hH : w.heap.size ≤ H) : EvsAt (tagsUp o w .evs) w1 (.slice (some ⟨gg, 0, none⟩) n' cap) (l ++ [e]) := by
  unfold EvsAt
  rw [List.length_append, List.length_singleton, List.flatMap_append, List.flatMap_singleton, ← hn]
  refine ⟨hown1, fun k hk => ?_⟩
  simp only [Value.ownBlock, Option.some.injEq] at hk
  subst hk
  rcases hat with e | e
  · show tagsUp o w .evs gg = .evs
    rw [tagsUp_old (Own.lt h e)]; exact h.2 _ e
  · exact tagsUp_new (by omega)

/-- What has changed is the node's own cells and its events. -/
theorem NG.evsPost {o : Nat → Tag} {w w' : World} {p : Nat} {n n' : NM} {B B' pd : Nat} {vj vf : Value} {bo bp : Nat} {ve ve' : Value} (h : NG o w p n B pd vj vf bo bp ve) (hB : B ≤ B') (hk : Keeps (fun k => k = p ∨ ve.ownBlock = some k) w w')
    (hs : w'.heap[p]? = some (.cells (nodeCells n' pd vj vf bo bp ve') 154 (0, 0))) (he : EvsAt (tagsUp o w .evs) w' ve' n'.evs) (e1 : n'.opn = n.opn) (e2 : n'.prep = n.prep) (e3 : n'.fuse = n.fuse) (e4 : n'.up = n.up) (e5 : n'.jm = n.jm) (eg : (n'.pd, n'.bo, n'.bp) = (n.pd, n.bo, n.bp)) (hsm : Small n' B') : NPost o w p n' B' w' := by
  have hp := lt_of_heap h.self
  have hq : ∀ k, k = p ∨ ve.ownBlock = some k → o k = .node ∨ o k = .evs := fun k e => by
    rcases e with rfl | e
    · exact .inl h.own
    · exact .inr (h.evs.2 _ e)
  have ho : ∀ k, k < w.heap.size → tagsUp o w .evs k = o k := fun k hk => tagsUp_old hk
  refine ⟨⟨tagsUp o w .evs, ho, pd, vj, vf, bo, bp, ve', hs, (ho _ hp).trans h.own, ?_, ?_, he, ?_, ?_, hsm, h.eqs.trans eg.symm⟩, hk.mono (fun k _ e => by rcases hq k e with e | e <;> rw [e] <;> simp)⟩
  · rw [e1]; exact h.opens.keep hk ho (fun k _ e e' => by rcases hq k e' with q | q <;> rw [q] at e <;> simp at e)
  · rw [e2]; exact h.preps.keep hk ho (fun k _ e e' => by rcases hq k e' with q | q <;> rw [q] at e <;> simp at e)
  · rw [e3]; exact h.fuse.keep hk ho (fun k _ e e' => by rcases hq k e' with q | q <;> rw [q] at e <;> simp at e)
  · rw [e4, e5]; exact (h.jour.keep hk ho (fun k _ e e' => by rcases hq k e' with q | q <;> rw [q] at e <;> simp at e)).big hB

theorem happen_end {o : Nat → Tag} {w W w1 : World} {p : Nat} {n : NM} {B pd : Nat} {vj vf : Value} {bo bp : Nat} {ve : Value} (h : NG o w p n B pd vj vf bo bp ve) (hB : B + 1 ≤ 1099511627776) (kind oc gg cap : Nat) (t : Tx) (hk : Keeps (fun _ => False) w W) (hk1 : Keeps (fun k => ve.ownBlock = some k) W w1)
    (hown1 : w1.ownsRow 0 56 12 (.slice (some ⟨gg, 0, none⟩) (n.evs.length + 1) cap) (n.evs.length + 1) (n.evs.flatMap evCells ++ evCells ⟨kind, n.id, t, oc, msg0⟩)) (hat : ve.ownBlock = some gg ∨ gg = W.heap.size + 1) :
    NPost o w p (n.happen kind t oc) (B + 1) (w1.setCell ⟨p, 29, none⟩ (.slice (some ⟨gg, 0, none⟩) (n.evs.length + 1) cap)) := by
  have hp := lt_of_heap h.self
  have hsz := hk.size
  have hpn : ¬ ve.ownBlock = some p := fun e => by have h1 : o p = .evs := h.evs.2 _ e; rw [h.own] at h1; cases h1
  have hb1 := hk1.heap (hk.heap h.self (fun f => f)) hpn
  have hk2 : Keeps (fun k => k = p ∨ ve.ownBlock = some k) w w1 := (hk.mono (T := fun k => k = p ∨ ve.ownBlock = some k) (fun _ _ f => f.elim)).trans hk1 (fun _ _ e => .inr e)
  refine h.evsPost (by omega) (hk2.setCell (p := ⟨p, 29, none⟩) (.inl (.inl rfl)) _) (ve' := .slice (some ⟨gg, 0, none⟩) (n.evs.length + 1) cap) ?_ ?_ rfl rfl rfl rfl rfl rfl ?_
  · rw [heap_setCell_same hb1]; rfl
  · have hks : Keeps (fun k => k = p) w1 (w1.setCell ⟨p, 29, none⟩ (.slice (some ⟨gg, 0, none⟩) (n.evs.length + 1) cap)) := (Keeps.refl (fun k => k = p) w1).setCell (p := ⟨p, 29, none⟩) (.inl rfl) _
    have := EvsAt.append (o := o) (w := w) (e := ⟨kind, n.id, t, oc, msg0⟩) h.evs hown1 rfl hat (by omega)
    refine this.keep hks (fun _ _ => rfl) (fun k _ e e' => ?_)
    subst e'
    rw [tagsUp_old hp, h.own] at e
    cases e
  · have hs := h.small.up (B' := B + 1) (by omega) hB
    exact ⟨hs.id, hs.variant, hs.patience, hs.inc, hs.forced, hs.lazies, hs.sent, hs.recs, hs.begun, by show (n.evs ++ [_]).length ≤ B + 1; rw [List.length_append]; have := h.small.evs; simp; omega, hs.marks, hs.deals, hs.preps, hs.opensL, hs.prepsL, hB⟩

set_option maxRecDepth 100000 in
set_option maxHeartbeats 400000 in
theorem happen_any (o : Nat → Tag) (p B kind oc : Nat) (t : Tx) (n : NM) (w : World) (h : NodeAt o w p n B) (hB : B + 1 ≤ 1099511627776) :
    Calls Tryz.prog 239 #[.pointer (some ⟨p, 0, none⟩), .int .i64 (kind : Int), txv t, .int .i64 (oc : Int)] w fun e w' => e = .returned (.tuple #[]) ∧ NPost o w p (n.happen kind t oc) (B + 1) w' := by
  obtain ⟨pd, vj, vf, bo, bp, ve, h⟩ := h
  have hN := h.small.evs
  have c0 := h.cell 0
  have c29 := h.cell 29
  simp [nodeCells] at c0 c29
  obtain ⟨i0, hi0, hz0, hz1, hz2⟩ := info_parts infoEvent
  have hpl := lt_of_heap h.self
  have hpn : ¬ ve.ownBlock = some p := fun e => by have h1 : o p = .evs := h.evs.2 _ e; rw [h.own] at h1; cases h1
  have HG := hide h
  have hev := h.evs
  have hself := h.self
  clear h
  unfold txv
  obtain ⟨a1, a2, a3⟩ := t
  go_enter Tryz.func239, Tryz.ntmps239
  go_wp2_with fail
  generalize hW : World.alloc w _ = W
  have hk : Keeps (fun _ => False) w W := by rw [← hW]; exact (Keeps.refl _ w).alloc _
  have hA : W.heap[w.heap.size]? = some (.cells #[.int .i64 (a1 : Int), .int .i64 (a2 : Int), .int .i64 (a3 : Int)] 38 (0, 0)) := by
    rw [← hW]; exact heap_alloc_new _ _
  clear hW
  have d0 := cell_of_heap (o := 0) hA
  have d1 := cell_of_heap (o := 1) hA
  have d2 := cell_of_heap (o := 2) hA
  simp at d0 d1 d2
  have e0 := hk.cell' c0 (fun f => f)
  have e29 := hk.cell' c29 (fun f => f)
  have hself1 := hk.heap hself (fun f => f)
  have hev1 : W.ownsRow 0 56 12 ve n.evs.length (n.evs.flatMap evCells) := (Own.keep hev hk (fun _ _ _ f => f)).1
  have hplW := lt_of_heap hself1
  have hwW := lt_of_heap hA
  go_region_law ((refine step_append_lies _ (by rfl) _ _ _ (by rfl) 0 56 i0 _ 12 96 Tryz.underlying48 hi0 hz0 hz1 hz2 ev_zero_size (by omega) ve n.evs.length (n.evs.flatMap evCells) (by rfl) ((hev1.alloc _).drew) ⟨W.heap.size, 0, none⟩ 1 1 (evCells ⟨kind, n.id, ⟨a1, a2, a3⟩, oc, msg0⟩) (by rfl) (by rfl) (World.news_of_block (cs := (evCells ⟨kind, n.id, ⟨a1, a2, a3⟩, oc, msg0⟩).toArray) (t := 56) (fr := (0, 0)) (by exact heap_alloc_new _ _)) (evCells_one _) (by omega) (by unfold maxLen; omega) (by omega) (Nat.zero_le _) (W.heap.size + 1) (by simp) ?_; intro gg cap' w1 hown1 hgrow hat hlt1; have hk1 := keeps_grown ((Keeps.refl _ W).alloc _).drew hgrow; have hb1 := hk1.heap hself1 hpn; have hc2 := cell_of_heap (o := 29) hb1; have hf2 := frozen_of_heap (o := 29) hb1; simp [nodeCells] at hc2))
  all_goals
    go_end0
    exact ⟨rfl, happen_end (unhide HG) hB kind oc gg cap' ⟨a1, a2, a3⟩ hk hk1 hown1 hat⟩

end Go.Proofs.YthbmmbgkchiajaaGreat
