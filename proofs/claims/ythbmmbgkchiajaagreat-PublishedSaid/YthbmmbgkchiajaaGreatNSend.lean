
/- A message sent; messages to all of a set. -/
import Derived.Test.YthbmmbgkchiajaaGreatNEvs
namespace Go.Proofs.YthbmmbgkchiajaaGreat
set_option linter.unusedSimpArgs false
set_option linter.unusedVariables false
open Go.RowKit

theorem send_end {o : Nat → Tag} {w W w1 : World} {p : Nat} {n : NM} {B pd : Nat} {vj vf : Value} {bo bp : Nat} {ve : Value} (h : NG o w p n B pd vj vf bo bp ve) (hB : B + 1 ≤ 1099511627776) (kind to gg cap : Nat) (t : Tx) (hk : Keeps (fun _ => False) w W) (hk1 : Keeps (fun k => ve.ownBlock = some k) W w1)
    (hown1 : w1.ownsRow 0 56 12 (.slice (some ⟨gg, 0, none⟩) (n.evs.length + 1) cap) (n.evs.length + 1) (n.evs.flatMap evCells ++ evCells ⟨1, n.id, t, 0, ⟨kind, n.id, to, t⟩⟩)) (hat : ve.ownBlock = some gg ∨ gg = W.heap.size + 1) :
    NPost o w p (n.send kind to t) (B + 1) ((w1.setCell ⟨p, 29, none⟩ (.slice (some ⟨gg, 0, none⟩) (n.evs.length + 1) cap)).setCell ⟨p, 11, none⟩ (.int .i64 ((n.sent : Int) + 1))) := by
  have hp := lt_of_heap h.self
  have hsz := hk.size
  have hpn : ¬ ve.ownBlock = some p := fun e => by have h1 : o p = .evs := h.evs.2 _ e; rw [h.own] at h1; cases h1
  have hb1 := hk1.heap (hk.heap h.self (fun f => f)) hpn
  have hk2 : Keeps (fun k => k = p ∨ ve.ownBlock = some k) w w1 := (hk.mono (T := fun k => k = p ∨ ve.ownBlock = some k) (fun _ _ f => f.elim)).trans hk1 (fun _ _ e => .inr e)
  refine h.evsPost (by omega) ((hk2.setCell (p := ⟨p, 29, none⟩) (.inl (.inl rfl)) _).setCell (p := ⟨p, 11, none⟩) (.inl (.inl rfl)) _) (ve' := .slice (some ⟨gg, 0, none⟩) (n.evs.length + 1) cap) ?_ ?_ rfl rfl rfl rfl rfl rfl ?_
  · rw [heap_setCell_same (heap_setCell_same hb1 _)]; rfl
  · have hks : Keeps (fun k => k = p) w1 ((w1.setCell ⟨p, 29, none⟩ (.slice (some ⟨gg, 0, none⟩) (n.evs.length + 1) cap)).setCell ⟨p, 11, none⟩ (.int .i64 ((n.sent : Int) + 1))) := ((Keeps.refl (fun k => k = p) w1).setCell (p := ⟨p, 29, none⟩) (.inl rfl) _).setCell (p := ⟨p, 11, none⟩) (.inl rfl) _
    have := EvsAt.append (o := o) (w := w) (e := ⟨1, n.id, t, 0, ⟨kind, n.id, to, t⟩⟩) h.evs hown1 rfl hat (by omega)
    refine this.keep hks (fun _ _ => rfl) (fun k _ e e' => ?_)
    subst e'
    rw [tagsUp_old hp, h.own] at e
    cases e
  · have hs := h.small.up (B' := B + 1) (by omega) hB
    exact ⟨hs.id, hs.variant, hs.patience, hs.inc, hs.forced, hs.lazies, by show n.sent + 1 ≤ B + 1; have := h.small.sent; omega, hs.recs, hs.begun, by show (n.evs ++ [_]).length ≤ B + 1; rw [List.length_append]; have := h.small.evs; simp; omega, hs.marks, hs.deals, hs.preps, hs.opensL, hs.prepsL, hB⟩

set_option maxRecDepth 100000 in
set_option maxHeartbeats 4000000 in
theorem send_any (o : Nat → Tag) (p B kind to : Nat) (t : Tx) (n : NM) (w : World) (h : NodeAt o w p n B) (hB : B + 1 ≤ 1099511627776) :
    Calls Tryz.prog 175 #[.pointer (some ⟨p, 0, none⟩), .int .i64 (kind : Int), .int .i64 (to : Int), txv t] w fun e w' => e = .returned (.tuple #[]) ∧ NPost o w p (n.send kind to t) (B + 1) w' := by
  obtain ⟨pd, vj, vf, bo, bp, ve, h⟩ := h
  have hN := h.small.evs
  have hN2 := h.small.sent
  have c0 := h.cell 0
  have c29 := h.cell 29
  simp [nodeCells] at c0 c29
  obtain ⟨i0, hi0, hz0, hz1, hz2⟩ := info_parts infoEvent
  have hpl := lt_of_heap h.self
  have hpn : ¬ ve.ownBlock = some p := fun e => by have h1 : o p = .evs := h.evs.2 _ e; rw [h.own] at h1; cases h1
  have HG := hide h
  have hev := h.evs
  have hself := h.self
  clear h
  unfold txv
  obtain ⟨a1, a2, a3⟩ := t
  go_enter Tryz.func175, Tryz.ntmps175
  go_wp2_with fail
  generalize hW : World.alloc w _ = W
  have hk : Keeps (fun _ => False) w W := by rw [← hW]; exact (Keeps.refl _ w).alloc _
  have hA : W.heap[w.heap.size]? = some (.cells #[.int .i64 (a1 : Int), .int .i64 (a2 : Int), .int .i64 (a3 : Int)] 38 (0, 0)) := by
    rw [← hW]; exact heap_alloc_new _ _
  clear hW
  have d0 := cell_of_heap (o := 0) hA
  have d1 := cell_of_heap (o := 1) hA
  have d2 := cell_of_heap (o := 2) hA
  simp at d0 d1 d2
  have e0 := hk.cell' c0 (fun f => f)
  have e29 := hk.cell' c29 (fun f => f)
  have hself1 := hk.heap hself (fun f => f)
  have hplW := lt_of_heap hself1
  have hwW := lt_of_heap hA
  go_region_held3 (fun w' => w'.cell? ⟨p, 0, none⟩ = some (.int .i64 (n.id : Int)) ∧ w'.cell? ⟨w.heap.size, 0, none⟩ = some (.int .i64 (a1 : Int)) ∧ w'.cell? ⟨w.heap.size, 1, none⟩ = some (.int .i64 (a2 : Int)) ∧ w'.cell? ⟨w.heap.size, 2, none⟩ = some (.int .i64 (a3 : Int))) (first | exact ⟨e0, d0, d1, d2⟩ | exact ⟨cell_al e0 _, cell_al d0 _, cell_al d1 _, cell_al d2 _⟩) (fail)
  go_wp2_with fail
  generalize hV : World.drew (World.alloc W _) = V
  have hkV : Keeps (fun _ => False) W V := by rw [← hV]; exact ((Keeps.refl _ W).alloc _).drew
  have hM : V.heap[W.heap.size]? = some (.cells #[.int .i64 (kind : Int), .int .i64 (n.id : Int), .int .i64 (to : Int), .int .i64 (a1 : Int), .int .i64 (a2 : Int), .int .i64 (a3 : Int)] 54 (0, 0)) := by
    rw [← hV]; exact heap_alloc_new _ _
  clear hV
  have k0 := hkV.cell' e0 (fun f => f)
  have k29 := hkV.cell' e29 (fun f => f)
  have kd0 := hkV.cell' d0 (fun f => f)
  have kd1 := hkV.cell' d1 (fun f => f)
  have kd2 := hkV.cell' d2 (fun f => f)
  have m0 := cell_of_heap (o := 0) hM
  have m1 := cell_of_heap (o := 1) hM
  have m2 := cell_of_heap (o := 2) hM
  have m3 := cell_of_heap (o := 3) hM
  have m4 := cell_of_heap (o := 4) hM
  have m5 := cell_of_heap (o := 5) hM
  simp at m0 m1 m2 m3 m4 m5
  have hself2 := hkV.heap hself1 (fun f => f)
  have hkk : Keeps (fun _ => False) w V := hk.trans hkV (fun _ _ f => f.elim)
  have hev1 : V.ownsRow 0 56 12 ve n.evs.length (n.evs.flatMap evCells) := (Own.keep hev hkk (fun _ _ _ f => f)).1
  have hplV := lt_of_heap hself2
  have hmV := lt_of_heap hM
  have hwV := Nat.lt_of_lt_of_le hwW hkV.size
  clear e0 e29 d0 d1 d2 hplW hwW c0 c29
  go_region_law ((refine step_append_lies _ (by rfl) _ _ _ (by rfl) 0 56 i0 _ 12 96 Tryz.underlying48 hi0 hz0 hz1 hz2 ev_zero_size (by omega) ve n.evs.length (n.evs.flatMap evCells) (by rfl) ((hev1.alloc _).drew) ⟨V.heap.size, 0, none⟩ 1 1 (evCells ⟨1, n.id, ⟨a1, a2, a3⟩, 0, ⟨kind, n.id, to, ⟨a1, a2, a3⟩⟩⟩) (by rfl) (by rfl) (World.news_of_block (cs := (evCells ⟨1, n.id, ⟨a1, a2, a3⟩, 0, ⟨kind, n.id, to, ⟨a1, a2, a3⟩⟩⟩).toArray) (t := 56) (fr := (0, 0)) (by exact heap_alloc_new _ _)) (evCells_one _) (by omega) (by unfold maxLen; omega) (by omega) (Nat.zero_le _) (V.heap.size + 1) (by simp) ?_; intro gg cap' w1 hown1 hgrow hat hlt1; have hk1 := keeps_grown ((Keeps.refl _ V).alloc _).drew hgrow; have hb1 := hk1.heap hself2 hpn; have hc2 := cell_of_heap (o := 29) hb1; have hf2 := frozen_of_heap (o := 29) hb1; have hc3 := cell_of_heap (o := 11) hb1; have hf3 := frozen_of_heap (o := 11) hb1; simp [nodeCells] at hc2 hc3))
  all_goals
    go_wp2
    go_end0
    exact ⟨rfl, send_end (unhide HG) hB kind to gg cap' ⟨a1, a2, a3⟩ hkk hk1 hown1 hat⟩

end Go.Proofs.YthbmmbgkchiajaaGreat
