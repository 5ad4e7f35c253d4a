
/- The cluster's nodes looked up. -/
import Derived.Test.YthbmmbgkchiajaaGreatKGath3
namespace Go.Proofs.YthbmmbgkchiajaaGreat
set_option linter.unusedSimpArgs false
set_option linter.unusedVariables false
open Go.RowKit

/-- Where the i-th node of a cluster lies. -/
theorem KG.rowAt {c : Nat → CTag} {w : World} {pk : Nat} {K : KM} {B : Nat} {vr vn vt : Value} (h : KG c w pk K B vr vn vt) : (vr = .slice none 0 0 ∧ K.ps = []) ∨ ∃ g cap, vr = .slice (some ⟨g, 0, none⟩) K.ps.length cap ∧ K.ps.length ≤ cap ∧ ∀ i p, K.ps[i]? = some p → w.cell? ⟨g, i, none⟩ = some (.pointer (some ⟨p, 0, none⟩)) := by
  have hr := h.row.1
  rcases hr.2 with ⟨e, e0⟩ | ⟨g, cap, cur, e, _, _, hc, _⟩
  · exact .inl ⟨e, List.length_eq_zero_iff.1 e0⟩
  · subst e
    refine .inr ⟨g, cap, rfl, hc, fun i p hp => row_cell hr ?_⟩
    rw [List.getElem?_map, hp]; rfl

set_option maxRecDepth 100000 in
set_option maxHeartbeats 400000 in
theorem find_ok (c : Nat → CTag) (pk B i p : Nat) (K : KM) (w : World) (h : KAt c w pk K B) (hp : K.ps[i]? = some p) :
    Calls Tryz.prog 71 #[.pointer (some ⟨pk, 0, none⟩), .int .i64 (i : Int)] w fun e w' => e = .returned (.tuple #[.pointer (some ⟨p, 0, none⟩), .int .i64 0]) ∧ w' = w := by
  obtain ⟨vr, vn, vt, g⟩ := h
  have hlt := (List.getElem?_eq_some_iff.1 hp).1
  have c0 := cell_of_heap (o := 0) g.self
  simp at c0
  rcases g.rowAt with ⟨_, e0⟩ | ⟨gr, cap, e, hc, hi⟩
  · rw [e0] at hlt; simp at hlt
  · subst e
    have hcell := hi i p hp
    have h4 : K.ps.length ≤ 4 := g.len ▸ g.small.2.2
    clear g hi hp
    generalize K.ps.length = L at *
    have h0 : (0 : Int) ≤ (i : Int) := Int.natCast_nonneg _
    have h1 : ¬ ((i : Int) < 0) := by omega
    have h2 : ¬ ((L : Int) ≤ (i : Int)) := by omega
    have h3 : (i : Int) < (L : Int) := by omega
    go_enter Tryz.func71, Tryz.ntmps71
    go_wp2
    go_ret2
    exact ⟨rfl, rfl⟩

set_option maxRecDepth 100000 in
set_option maxHeartbeats 400000 in
theorem find_bad (c : Nat → CTag) (pk B : Nat) (i : Int) (K : KM) (w : World) (h : KAt c w pk K B) (hi : i < 0 ∨ (K.ps.length : Int) ≤ i) :
    Calls Tryz.prog 71 #[.pointer (some ⟨pk, 0, none⟩), .int .i64 i] w fun e w' => e = .returned (.tuple #[.pointer none, .int .i64 1]) ∧ w' = w := by
  obtain ⟨vr, vn, vt, g⟩ := h
  have c0 := cell_of_heap (o := 0) g.self
  simp at c0
  obtain ⟨b, z, e⟩ : ∃ b z, vr = .slice b K.ps.length z := by
    rcases g.rowAt with ⟨e, e0⟩ | ⟨gr, cap, e, _⟩
    · exact ⟨none, 0, by rw [e, e0]; rfl⟩
    · exact ⟨_, _, e⟩
  subst e
  clear g
  generalize K.ps.length = L at *
  by_cases h1 : i < 0
  · go_enter Tryz.func71, Tryz.ntmps71
    go_wp2
    go_ret2
    exact ⟨rfl, rfl⟩
  · have h2 : (L : Int) ≤ i := by omega
    go_enter Tryz.func71, Tryz.ntmps71
    go_wp2
    go_ret2
    exact ⟨rfl, rfl⟩

set_option maxRecDepth 100000 in
set_option maxHeartbeats 400000 in
theorem up_any (o : Nat → Tag) (p B : Nat) (n : NM) (w : World) (h : NodeAt o w p n B) :
    Calls Tryz.prog 52 #[.pointer (some ⟨p, 0, none⟩)] w fun e w' => e = .returned (.bool n.up) ∧ w' = w := by
  obtain ⟨pd, vj, vf, bo, bp, ve, g⟩ := h
  have c12 := g.cell 12
  simp [nodeCells] at c12
  have hj := g.jour
  clear g
  cases hu : n.up with
  | true =>
    rw [hu] at hj
    simp only [JourAt, if_true] at hj
    obtain ⟨pj, m, rfl, _⟩ := hj
    go_enter Tryz.func52, Tryz.ntmps52
    go_wp2
    go_ret
    exact ⟨rfl, rfl⟩
  | false =>
    rw [hu] at hj
    simp only [JourAt, Bool.false_eq_true, if_false] at hj
    obtain ⟨rfl, _⟩ := hj
    go_enter Tryz.func52, Tryz.ntmps52
    go_wp2
    go_ret
    exact ⟨rfl, rfl⟩

set_option maxRecDepth 100000 in
set_option maxHeartbeats 400000 in
theorem nodeCosts_any (o : Nat → Tag) (p B : Nat) (n : NM) (w : World) (h : NodeAt o w p n B) :
    Calls Tryz.prog 95 #[.pointer (some ⟨p, 0, none⟩)] w fun e w' => e = .returned (.agg #[.int .i64 (n.forced : Int), .int .i64 (n.lazies : Int), .int .i64 (n.sent : Int)]) ∧ Keeps (fun _ => False) w w' := by
  obtain ⟨pd, vj, vf, bo, bp, ve, g⟩ := h
  have c9 := g.cell 9
  have c10 := g.cell 10
  have c11 := g.cell 11
  simp [nodeCells] at c9 c10 c11
  have hpl := lt_of_heap g.self
  clear g
  go_enter Tryz.func95, Tryz.ntmps95
  go_wp2
  generalize hV : World.alloc w _ = V
  have hA : V.heap[w.heap.size]? = some (.cells #[.int .i64 (n.forced : Int), .int .i64 (n.lazies : Int), .int .i64 (n.sent : Int)] 105 (0, 0)) := by rw [← hV]; exact heap_alloc_new _ _
  have hk : Keeps (fun _ => False) w V := by rw [← hV]; exact (Keeps.refl _ w).alloc _
  clear hV
  have d0 := cell_of_heap (o := 0) hA
  have d1 := cell_of_heap (o := 1) hA
  have d2 := cell_of_heap (o := 2) hA
  simp at d0 d1 d2
  refine ⟨rfl, .agg #[.int .i64 (n.forced : Int), .int .i64 (n.lazies : Int), .int .i64 (n.sent : Int)], ?_, rfl, hk⟩
  simp [results, Tryz.results95, go_sem, d0, d1, d2]

set_option maxRecDepth 100000 in
set_option maxHeartbeats 400000 in
theorem findUp_ok (c : Nat → CTag) (pk B i p : Nat) (n : NM) (K : KM) (w : World) (h : KAt c w pk K B) (hp : K.ps[i]? = some p) (hn : K.ns[i]? = some n) (hu : n.up = true) :
    Calls Tryz.prog 46 #[.pointer (some ⟨pk, 0, none⟩), .int .i64 (i : Int)] w fun e w' => e = .returned (.tuple #[.pointer (some ⟨p, 0, none⟩), .int .i64 0]) ∧ w' = w := by
  have hf := find_ok c pk B i p K w h hp
  have hup : Calls Tryz.prog 52 #[.pointer (some ⟨p, 0, none⟩)] w fun e w' => e = .returned (.bool true) ∧ w' = w := by
    obtain ⟨_, _, _, g⟩ := h
    exact hu ▸ up_any _ p B n w (g.nodes i n p hn hp)
  clear h hu hn hp
  go_enter Tryz.func46, Tryz.ntmps46
  go_wp2_with fail
  go_at_call 71
  refine hf.mono ?_
  rintro e w' ⟨rfl, hw⟩
  subst hw
  go_wp2_with fail
  go_at_call 52
  refine hup.mono ?_
  rintro e w'' ⟨rfl, hw⟩
  subst hw
  go_wp2
  go_ret2
  exact ⟨rfl, rfl⟩

set_option maxRecDepth 100000 in
set_option maxHeartbeats 400000 in
theorem costs_ok (c : Nat → CTag) (pk B i p : Nat) (n : NM) (K : KM) (w : World) (h : KAt c w pk K B) (hp : K.ps[i]? = some p) (hn : K.ns[i]? = some n) :
    Calls Tryz.prog 54 #[.pointer (some ⟨pk, 0, none⟩), .int .i64 (i : Int)] w fun e w' => e = .returned (.tuple #[.agg #[.int .i64 (n.forced : Int), .int .i64 (n.lazies : Int), .int .i64 (n.sent : Int)], .int .i64 0]) ∧ Keeps (fun _ => False) w w' := by
  obtain ⟨W, hW, hkW, hA⟩ : ∃ W, w.alloc (.cells #[.int .i64 0, .int .i64 0, .int .i64 0] 105) = W ∧ Keeps (fun _ => False) w W ∧ W.heap[w.heap.size]? = some (.cells #[.int .i64 0, .int .i64 0, .int .i64 0] 105 (0, 0)) := ⟨_, rfl, (Keeps.refl _ w).alloc _, heap_alloc_new _ _⟩
  have h' := h.begin hkW
  have hf := find_ok _ pk B i p K W h' hp
  have hc : Calls Tryz.prog 95 #[.pointer (some ⟨p, 0, none⟩)] W fun e w' => e = .returned (.agg #[.int .i64 (n.forced : Int), .int .i64 (n.lazies : Int), .int .i64 (n.sent : Int)]) ∧ Keeps (fun _ => False) W w' := by
    obtain ⟨_, _, _, g⟩ := h'
    exact nodeCosts_any _ p B n W (g.nodes i n p hn hp)
  clear h h' hn hp
  obtain ⟨xf, hxf⟩ : ∃ x, x = n.forced := ⟨_, rfl⟩
  obtain ⟨xl, hxl⟩ : ∃ x, x = n.lazies := ⟨_, rfl⟩
  obtain ⟨xs, hxs⟩ : ∃ x, x = n.sent := ⟨_, rfl⟩
  rw [← hxf, ← hxl, ← hxs] at hc ⊢
  clear hxf hxl hxs
  go_enter Tryz.func54, Tryz.ntmps54
  go_wp2_with fail
  go_at_call 71
  refine hf.mono ?_
  rintro e w' ⟨rfl, hw⟩
  subst hw
  go_wp2_with fail
  go_at_call 95
  refine hc.mono ?_
  rintro e w2 ⟨rfl, hk2⟩
  have hB2 := hk2.heap hA (fun f => f)
  have u0 := cell_of_heap (o := 0) hB2
  have u1 := cell_of_heap (o := 1) hB2
  have u2 := cell_of_heap (o := 2) hB2
  have z0 := frozen_of_heap (o := 0) hB2
  have z1 := frozen_of_heap (o := 1) hB2
  have z2 := frozen_of_heap (o := 2) hB2
  simp at u0 u1 u2
  have HK : Hid (Keeps (fun _ => False) w (((w2.setCell ⟨w.heap.size, 0, none⟩ (.int .i64 (xf : Int))).setCell ⟨w.heap.size, 1, none⟩ (.int .i64 (xl : Int))).setCell ⟨w.heap.size, 2, none⟩ (.int .i64 (xs : Int)))) := hide ((((hkW.trans hk2 (fun _ _ f => f)).setCell (p := ⟨w.heap.size, 0, none⟩) (.inr (Nat.le_refl _)) _).setCell (p := ⟨w.heap.size, 1, none⟩) (.inr (Nat.le_refl _)) _).setCell (p := ⟨w.heap.size, 2, none⟩) (.inr (Nat.le_refl _)) _)
  clear hf hc hkW hk2
  go_wp2
  refine ⟨rfl, .tuple #[.agg #[.int .i64 (xf : Int), .int .i64 (xl : Int), .int .i64 (xs : Int)], .int .i64 0], ?_, rfl, unhide HK⟩
  simp [results, Tryz.results54, go_sem, u0, u1, u2]

end Go.Proofs.YthbmmbgkchiajaaGreat
