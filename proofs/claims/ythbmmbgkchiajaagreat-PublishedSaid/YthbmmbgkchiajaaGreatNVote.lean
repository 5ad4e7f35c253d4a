
/- A vote. -/
import Derived.Test.YthbmmbgkchiajaaGreatNEnd
import Derived.Test.YthbmmbgkchiajaaGreatNMemb

namespace Go.Proofs.YthbmmbgkchiajaaGreat
set_option linter.unusedSimpArgs false
set_option linter.unusedVariables false
open Go.RowKit

attribute [local go_sem ↓] lookO_eq lookP_eq delO_eq delP_eq putO_eq putP_eq lenO_eq lenP_eq

theorem NodeAt.still {o : Nat → Tag} {w w' : World} {p : Nat} {n : NM} {B : Nat} (h : NodeAt o w p n B) (hk : Keeps (fun _ => False) w w') : NodeAt o w' p n B := h.keep hk (fun _ _ => rfl) (fun _ _ _ f => f)

theorem prepare_facts {n m : NM} {t : Tx} (h : n.prepare t = .ok m) (hz : n.fuse = none) : m.up = n.up ∧ m.fuse = none := by
  unfold NM.prepare at h
  obtain ⟨i, k, h1, h2⟩ := forces_calm hz ⟨5, t, 0, 0⟩
  rw [h1] at h
  cases h
  refine ⟨(markAdd_up _ _).1.trans (forces_up h1).1, ?_⟩
  unfold NM.markAdd
  split <;> exact h2

set_option maxRecDepth 100000 in
set_option maxHeartbeats 1000000 in
theorem vote_any (o : Nat → Tag) (p B frm : Nat) (n : NM) (t : Tx) (w : World) (h : NodeAt o w p n B) (hup : n.up = true) (hz : n.fuse = none) (ht : t.coord < 4) (hB : B + 4 ≤ 1099511627776) :
    Calls Tryz.prog 158 #[.pointer (some ⟨p, 0, none⟩), txv t, .int .i64 (frm : Int)] w fun e w' => Res o w p (B + 4) (n.vote t frm) e w' := by
  obtain ⟨W, hW, hkA, hA, hwl⟩ := boxTx w t
  have h0 := h.begin hkA
  have ho0 : tagsUp o w .other w.heap.size = .other := tagsUp_new (Nat.le_refl _)
  obtain ⟨d0, d1, d2⟩ := boxTx_cells hA
  have hN := h0
  obtain ⟨pd, vj, vf, bo, bp, ve, g0⟩ := hN
  have c16 := g0.cell 16
  have c8 := g0.cell 8
  simp [nodeCells] at c16 c8
  have hl := run_lookP g0.preps t
  have hld := run_lookP g0.drew.preps t
  have hlen := fun W' (hk : Keeps (fun _ => False) W W') => run_lenP (g0.keep hk (fun _ _ => rfl) (fun _ _ _ f => f)).preps
  have hHas := fun W' (hk : Keeps (fun _ => False) W W') => markHas_any _ p B n t W' (h0.still hk) ht
  have hRoom := fun W' (hk : Keeps (fun _ => False) W W') => room_any _ p B n W' (h0.still hk) hup
  have hNeed := fun W' (hk : Keeps (fun _ => False) W W') => need_any _ p B n W' (h0.still hk)
  have hSend := fun kind W' (hk : Keeps (fun _ => False) W W') => send_any _ p B kind frm t n W' (h0.still hk) (by omega)
  have hMark := fun W' (hk : Keeps (fun _ => False) W W') => mark_any _ p B n t W' (h0.still hk) hup ht (by omega)
  have hPrep := fun W' (hk : Keeps (fun _ => False) W W') => prepare_any _ p B n t W' (h0.still hk) hup hz ht (by omega)
  have hsend := send_any
  have hnd : n.need ≤ 5497558138880 := by unfold NM.need; have h5 := g0.small.opensL; have h6 := g0.small.prepsL; have h7 := g0.small.big; omega
  have hfrom := fun (W' w' : World) (n' : NM) (hk : Keeps (fun _ => False) W W') (hh : NPost (tagsUp o w .other) W' p n' (B + 4) w') => NPost.from (hkA.trans hk (fun _ _ f => f)) hh
  have HFROM := hide hfrom
  have hQ0 := fun w' (hk : Keeps (fun _ => False) W w') => NodeAt.quiet h0 hk
  have HPF := hide (fun m (h : n.prepare t = .ok m) => prepare_facts h hz)
  clear g0 h h0 hfrom
  unfold NM.vote
  unfold txv at *
  generalize hi0 : ((mget n.prep t).map ival).getD (.int .i64 0) = vi at *
  clear hi0
  cases hm : mhas n.prep t with
  | true =>
    rw [hm] at hl hld
    simp only [if_true]
    go_enter Tryz.func158, Tryz.ntmps158
    go_wp2_with fail
    clear hW
    go_region_held3 (fun w' => w'.cell? ⟨p, 16, none⟩ = some (.map (some bp)) ∧ w'.cell? ⟨w.heap.size, 0, none⟩ = some (.int .i64 (t.coord : Int)) ∧ w'.cell? ⟨w.heap.size, 1, none⟩ = some (.int .i64 (t.inc : Int)) ∧ w'.cell? ⟨w.heap.size, 2, none⟩ = some (.int .i64 (t.seq : Int)) ∧ (lookP (.map (some bp)) (.agg #[.int .i64 (t.coord : Int), .int .i64 (t.inc : Int), .int .i64 (t.seq : Int)])).run Tryz.prog w' = .ok (.tuple #[vi, .bool true]) w') (first | exact ⟨c16, d0, d1, d2, hl⟩ | exact ⟨c16, d0, d1, d2, hld⟩) (fail)
    go_wp2_with (go_at_call 175; refine (hSend 2 _ ((Keeps.refl _ W).drew)).mono ?_; rintro e w1 ⟨rfl, hres⟩)
    go_end0
    exact ⟨rfl, (unhide HFROM) _ _ _ ((Keeps.refl _ W).drew) (hres.up (by omega) hB)⟩
  | false =>
    rw [hm] at hl hld
    simp only [Bool.false_eq_true, if_false]
    cases hh : n.markHas t with
    | true =>
      rw [hh] at hHas
      simp only [if_true]
      have HQ : Hid (∀ w', Keeps (fun _ => False) W w' → NPost o w p n (B + 4) w') := hide (fun w' hk => (unhide HFROM) _ _ _ (Keeps.refl _ W) ((hQ0 w' hk).up (by omega) hB))
      go_enter Tryz.func158, Tryz.ntmps158
      go_wp2_with fail
      clear hW
      go_region_held3 (fun w' => w'.cell? ⟨p, 16, none⟩ = some (.map (some bp)) ∧ w'.cell? ⟨w.heap.size, 0, none⟩ = some (.int .i64 (t.coord : Int)) ∧ w'.cell? ⟨w.heap.size, 1, none⟩ = some (.int .i64 (t.inc : Int)) ∧ w'.cell? ⟨w.heap.size, 2, none⟩ = some (.int .i64 (t.seq : Int)) ∧ (lookP (.map (some bp)) (.agg #[.int .i64 (t.coord : Int), .int .i64 (t.inc : Int), .int .i64 (t.seq : Int)])).run Tryz.prog w' = .ok (.tuple #[vi, .bool false]) w') (first | exact ⟨c16, d0, d1, d2, hl⟩ | exact ⟨c16, d0, d1, d2, hld⟩) (fail)
      go_wp2_with fail
      go_region_held3 (fun w' => w'.cell? ⟨w.heap.size, 0, none⟩ = some (.int .i64 (t.coord : Int)) ∧ w'.cell? ⟨w.heap.size, 1, none⟩ = some (.int .i64 (t.inc : Int)) ∧ w'.cell? ⟨w.heap.size, 2, none⟩ = some (.int .i64 (t.seq : Int))) (first | exact ⟨d0, d1, d2⟩ | exact ⟨hk1.cell' d0 (fun f => f), hk1.cell' d1 (fun f => f), hk1.cell' d2 (fun f => f)⟩) (first
        | (go_at_call 227; refine (hHas _ (((Keeps.refl _ W).drew).drew)).mono ?_; rintro e w1 ⟨rfl, hk1'⟩; have hk1 := hk1'.unDrew; clear hk1'))
      go_wp2
      go_end0
      exact ⟨rfl, (unhide HQ) w1 (((Keeps.refl _ W).drew).trans hk1 (fun _ _ f => f))⟩
    | false =>
      rw [hh] at hHas
      simp only [Bool.false_eq_true, if_false]
      cases hr : n.refuses with
      | true =>
        rw [hr] at c8
        simp only [if_true]
        go_enter Tryz.func158, Tryz.ntmps158
        go_wp2_with fail
        clear hW
        go_region_held3 (fun w' => w'.cell? ⟨p, 16, none⟩ = some (.map (some bp)) ∧ w'.cell? ⟨w.heap.size, 0, none⟩ = some (.int .i64 (t.coord : Int)) ∧ w'.cell? ⟨w.heap.size, 1, none⟩ = some (.int .i64 (t.inc : Int)) ∧ w'.cell? ⟨w.heap.size, 2, none⟩ = some (.int .i64 (t.seq : Int)) ∧ (lookP (.map (some bp)) (.agg #[.int .i64 (t.coord : Int), .int .i64 (t.inc : Int), .int .i64 (t.seq : Int)])).run Tryz.prog w' = .ok (.tuple #[vi, .bool false]) w') (first | exact ⟨c16, d0, d1, d2, hl⟩ | exact ⟨c16, d0, d1, d2, hld⟩) (fail)
        go_wp2_with fail
        go_region_held3 (fun w' => w'.cell? ⟨w.heap.size, 0, none⟩ = some (.int .i64 (t.coord : Int)) ∧ w'.cell? ⟨w.heap.size, 1, none⟩ = some (.int .i64 (t.inc : Int)) ∧ w'.cell? ⟨w.heap.size, 2, none⟩ = some (.int .i64 (t.seq : Int))) (first | exact ⟨d0, d1, d2⟩ | exact ⟨hk1.cell' d0 (fun f => f), hk1.cell' d1 (fun f => f), hk1.cell' d2 (fun f => f)⟩) (first
          | (go_at_call 227; refine (hHas _ (((Keeps.refl _ W).drew).drew)).mono ?_; rintro e w1 ⟨rfl, hk1'⟩; have hk1 := hk1'.unDrew; clear hk1'))
        have hkk := ((Keeps.refl (fun _ => False) W).drew).trans hk1 (fun _ _ f => f)
        have hA1 := hkk.heap hA (fun f => f)
        obtain ⟨e0, e1, e2⟩ := boxTx_cells hA1
        have c8' := hkk.cell' c8 (fun f => f)
        clear hA1
        go_wp2_with fail
        go_at_call 228
        refine (hMark w1 hkk).mono ?_
        rintro e w2 ⟨rfl, hres⟩
        have hA2 := hres.frame (hkk.heap hA (fun f => f)) ho0
        obtain ⟨k0, k1, k2⟩ := boxTx_cells hA2
        obtain ⟨o2, f2, g2, t2, _⟩ := hres.next
        have hs2 := hsend o2 p (B + 1) 3 frm t _ w2 g2 (by omega)
        unfold txv at hs2
        clear hA2 g2
        go_wp2_with (go_at_call 175; refine hs2.mono ?_; rintro e w3 ⟨rfl, hres3⟩)
        go_end0
        exact ⟨rfl, (unhide HFROM) _ _ _ hkk (t2 _ _ _ (hres3.up (by omega) hB))⟩
      | false =>
        rw [hr] at c8
        simp only [Bool.false_eq_true, if_false]
        have HQ : Hid (∀ w', Keeps (fun _ => False) W w' → NPost o w p n (B + 4) w') := hide (fun w' hk => (unhide HFROM) _ _ _ (Keeps.refl _ W) ((hQ0 w' hk).up (by omega) hB))
        generalize n.room = rm at *
        generalize n.need = nd at *
        by_cases h4 : 4 ≤ n.prep.length
        · have h4' : (4 : Int) ≤ (n.prep.length : Int) := by omega
          simp only [h4, true_or, if_true]
          go_enter Tryz.func158, Tryz.ntmps158
          go_wp2_with fail
          clear hW
          go_region_held3 (fun w' => w'.cell? ⟨p, 16, none⟩ = some (.map (some bp)) ∧ w'.cell? ⟨w.heap.size, 0, none⟩ = some (.int .i64 (t.coord : Int)) ∧ w'.cell? ⟨w.heap.size, 1, none⟩ = some (.int .i64 (t.inc : Int)) ∧ w'.cell? ⟨w.heap.size, 2, none⟩ = some (.int .i64 (t.seq : Int)) ∧ (lookP (.map (some bp)) (.agg #[.int .i64 (t.coord : Int), .int .i64 (t.inc : Int), .int .i64 (t.seq : Int)])).run Tryz.prog w' = .ok (.tuple #[vi, .bool false]) w') (first | exact ⟨c16, d0, d1, d2, hl⟩ | exact ⟨c16, d0, d1, d2, hld⟩) (fail)
          go_wp2_with fail
          go_region_held3 (fun w' => w'.cell? ⟨w.heap.size, 0, none⟩ = some (.int .i64 (t.coord : Int)) ∧ w'.cell? ⟨w.heap.size, 1, none⟩ = some (.int .i64 (t.inc : Int)) ∧ w'.cell? ⟨w.heap.size, 2, none⟩ = some (.int .i64 (t.seq : Int))) (first | exact ⟨d0, d1, d2⟩ | exact ⟨hk1.cell' d0 (fun f => f), hk1.cell' d1 (fun f => f), hk1.cell' d2 (fun f => f)⟩) (first
            | (go_at_call 227; refine (hHas _ (((Keeps.refl _ W).drew).drew)).mono ?_; rintro e w1 ⟨rfl, hk1'⟩; have hk1 := hk1'.unDrew; clear hk1'))
          have hkk := ((Keeps.refl (fun _ => False) W).drew).trans hk1 (fun _ _ f => f)
          have hA1 := hkk.heap hA (fun f => f)
          obtain ⟨e0, e1, e2⟩ := boxTx_cells hA1
          have c8' := hkk.cell' c8 (fun f => f)
          have c16' := hkk.cell' c16 (fun f => f)
          have hln := hlen w1 hkk
          clear hA1
          go_wp2
          go_end0
          exact ⟨rfl, (unhide HQ) w1 hkk⟩
        · have h4' : ¬ (4 : Int) ≤ (n.prep.length : Int) := by omega
          by_cases h5 : rm < nd + 2
          · have h5' : (rm : Int) < (nd : Int) + 2 := by omega
            simp only [h4, h5, or_true, if_true]
            go_enter Tryz.func158, Tryz.ntmps158
            go_wp2_with fail
            clear hW
            go_region_held3 (fun w' => w'.cell? ⟨p, 16, none⟩ = some (.map (some bp)) ∧ w'.cell? ⟨w.heap.size, 0, none⟩ = some (.int .i64 (t.coord : Int)) ∧ w'.cell? ⟨w.heap.size, 1, none⟩ = some (.int .i64 (t.inc : Int)) ∧ w'.cell? ⟨w.heap.size, 2, none⟩ = some (.int .i64 (t.seq : Int)) ∧ (lookP (.map (some bp)) (.agg #[.int .i64 (t.coord : Int), .int .i64 (t.inc : Int), .int .i64 (t.seq : Int)])).run Tryz.prog w' = .ok (.tuple #[vi, .bool false]) w') (first | exact ⟨c16, d0, d1, d2, hl⟩ | exact ⟨c16, d0, d1, d2, hld⟩) (fail)
            go_wp2_with fail
            go_region_held3 (fun w' => w'.cell? ⟨w.heap.size, 0, none⟩ = some (.int .i64 (t.coord : Int)) ∧ w'.cell? ⟨w.heap.size, 1, none⟩ = some (.int .i64 (t.inc : Int)) ∧ w'.cell? ⟨w.heap.size, 2, none⟩ = some (.int .i64 (t.seq : Int))) (first | exact ⟨d0, d1, d2⟩ | exact ⟨hk1.cell' d0 (fun f => f), hk1.cell' d1 (fun f => f), hk1.cell' d2 (fun f => f)⟩) (first
              | (go_at_call 227; refine (hHas _ (((Keeps.refl _ W).drew).drew)).mono ?_; rintro e w1 ⟨rfl, hk1'⟩; have hk1 := hk1'.unDrew; clear hk1'))
            have hkk := ((Keeps.refl (fun _ => False) W).drew).trans hk1 (fun _ _ f => f)
            have hA1 := hkk.heap hA (fun f => f)
            obtain ⟨e0, e1, e2⟩ := boxTx_cells hA1
            have c8' := hkk.cell' c8 (fun f => f)
            have c16' := hkk.cell' c16 (fun f => f)
            have hln := hlen w1 hkk
            clear hA1
            go_wp2_with (first | (go_at_call 87; refine (hRoom _ hkk).mono ?_; rintro e w2 ⟨rfl, hk2⟩) | (go_at_call 88; refine (hNeed _ (hkk.trans hk2 (fun _ _ f => f))).mono ?_; rintro e w3 ⟨rfl, hk3⟩; have hk4 := (hkk.trans hk2 (fun _ _ f => f)).trans hk3 (fun _ _ f => f); have hA4 := hk4.heap hA (fun f => f); obtain ⟨q0, q1, q2⟩ := boxTx_cells hA4; clear hA4))
            go_end0
            exact ⟨rfl, (unhide HQ) w3 hk4⟩
          · have h5' : ¬ (rm : Int) < (nd : Int) + 2 := by omega
            simp only [h4, h5, or_self, if_false]
            cases hp : n.prepare t with
            | error m =>
              unfold NM.prepare at hp
              obtain ⟨i, k, h1, _⟩ := forces_calm hz ⟨5, t, 0, 0⟩
              rw [h1] at hp
              cases hp
            | ok m =>
              rw [hp] at hPrep
              have HM := hide ((unhide HPF) m hp)
              clear hp
              go_enter Tryz.func158, Tryz.ntmps158
              go_wp2_with fail
              clear hW
              go_region_held3 (fun w' => w'.cell? ⟨p, 16, none⟩ = some (.map (some bp)) ∧ w'.cell? ⟨w.heap.size, 0, none⟩ = some (.int .i64 (t.coord : Int)) ∧ w'.cell? ⟨w.heap.size, 1, none⟩ = some (.int .i64 (t.inc : Int)) ∧ w'.cell? ⟨w.heap.size, 2, none⟩ = some (.int .i64 (t.seq : Int)) ∧ (lookP (.map (some bp)) (.agg #[.int .i64 (t.coord : Int), .int .i64 (t.inc : Int), .int .i64 (t.seq : Int)])).run Tryz.prog w' = .ok (.tuple #[vi, .bool false]) w') (first | exact ⟨c16, d0, d1, d2, hl⟩ | exact ⟨c16, d0, d1, d2, hld⟩) (fail)
              go_wp2_with fail
              go_region_held3 (fun w' => w'.cell? ⟨w.heap.size, 0, none⟩ = some (.int .i64 (t.coord : Int)) ∧ w'.cell? ⟨w.heap.size, 1, none⟩ = some (.int .i64 (t.inc : Int)) ∧ w'.cell? ⟨w.heap.size, 2, none⟩ = some (.int .i64 (t.seq : Int))) (first | exact ⟨d0, d1, d2⟩ | exact ⟨hk1.cell' d0 (fun f => f), hk1.cell' d1 (fun f => f), hk1.cell' d2 (fun f => f)⟩) (first
                | (go_at_call 227; refine (hHas _ (((Keeps.refl _ W).drew).drew)).mono ?_; rintro e w1 ⟨rfl, hk1'⟩; have hk1 := hk1'.unDrew; clear hk1'))
              have hkk := ((Keeps.refl (fun _ => False) W).drew).trans hk1 (fun _ _ f => f)
              have hA1 := hkk.heap hA (fun f => f)
              obtain ⟨e0, e1, e2⟩ := boxTx_cells hA1
              have c8' := hkk.cell' c8 (fun f => f)
              have c16' := hkk.cell' c16 (fun f => f)
              have hln := hlen w1 hkk
              clear hA1
              go_wp2_with (first | (go_at_call 87; refine (hRoom _ hkk).mono ?_; rintro e w2 ⟨rfl, hk2⟩) | (go_at_call 88; refine (hNeed _ (hkk.trans hk2 (fun _ _ f => f))).mono ?_; rintro e w3 ⟨rfl, hk3⟩; have hk4 := (hkk.trans hk2 (fun _ _ f => f)).trans hk3 (fun _ _ f => f); have hA4 := hk4.heap hA (fun f => f); obtain ⟨q0, q1, q2⟩ := boxTx_cells hA4; clear hA4))
              go_at_call 229
              refine (hPrep _ hk4).mono ?_
              rintro e w5 ⟨rfl, hres5⟩
              have hA5 := hres5.frame (hk4.heap hA (fun f => f)) ho0
              obtain ⟨k0, k1, k2⟩ := boxTx_cells hA5
              obtain ⟨o2, f2, g2, t2, _⟩ := hres5.next
              have hs2 := hsend o2 p (B + 3) 2 frm t _ w5 g2 (by omega)
              unfold txv at hs2
              clear hA5 g2
              go_wp2_with (go_at_call 175; refine hs2.mono ?_; rintro e w6 ⟨rfl, hres6⟩)
              go_end0
              exact ⟨rfl, (unhide HFROM) _ _ _ hk4 (t2 _ _ _ hres6)⟩

end Go.Proofs.YthbmmbgkchiajaaGreat

/- An outcome applied. -/
namespace Go.Proofs.YthbmmbgkchiajaaGreat
set_option linter.unusedSimpArgs false
set_option linter.unusedVariables false
open Go.RowKit

attribute [local go_sem ↓] lookO_eq lookP_eq delO_eq delP_eq putO_eq putP_eq lenO_eq lenP_eq

/-- A record in a new block. -/
theorem boxRec (w : World) (r : Rec) : ∃ W, w.alloc (.cells #[.int .i64 (r.kind : Int), .int .i64 (r.txn.coord : Int), .int .i64 (r.txn.inc : Int), .int .i64 (r.txn.seq : Int), .int .i64 (r.nodes : Int), .int .i64 (r.outcome : Int)] 211) = W ∧ Keeps (fun _ => False) w W ∧ W.heap[w.heap.size]? = some (.cells #[.int .i64 (r.kind : Int), .int .i64 (r.txn.coord : Int), .int .i64 (r.txn.inc : Int), .int .i64 (r.txn.seq : Int), .int .i64 (r.nodes : Int), .int .i64 (r.outcome : Int)] 211 (0, 0)) ∧ w.heap.size < W.heap.size :=
  ⟨_, rfl, (Keeps.refl _ w).alloc _, heap_alloc_new _ _, by simp⟩
theorem boxRec_cells {W : World} {b : Nat} {r : Rec} (h : W.heap[b]? = some (.cells #[.int .i64 (r.kind : Int), .int .i64 (r.txn.coord : Int), .int .i64 (r.txn.inc : Int), .int .i64 (r.txn.seq : Int), .int .i64 (r.nodes : Int), .int .i64 (r.outcome : Int)] 211 (0, 0))) : W.cell? ⟨b, 0, none⟩ = some (.int .i64 (r.kind : Int)) ∧ W.cell? ⟨b, 1, none⟩ = some (.int .i64 (r.txn.coord : Int)) ∧ W.cell? ⟨b, 2, none⟩ = some (.int .i64 (r.txn.inc : Int)) ∧ W.cell? ⟨b, 3, none⟩ = some (.int .i64 (r.txn.seq : Int)) ∧ W.cell? ⟨b, 4, none⟩ = some (.int .i64 (r.nodes : Int)) ∧ W.cell? ⟨b, 5, none⟩ = some (.int .i64 (r.outcome : Int)) := ⟨cell_of_heap h, cell_of_heap h, cell_of_heap h, cell_of_heap h, cell_of_heap h, cell_of_heap h⟩

set_option maxRecDepth 100000 in
set_option maxHeartbeats 1000000 in
theorem apply_any (o : Nat → Tag) (p B oc : Nat) (due : Bool) (n : NM) (t : Tx) (w : World) (h : NodeAt o w p n B) (hup : n.up = true) (hz : n.fuse = none) (hB : B + 3 ≤ 1099511627776) :
    Calls Tryz.prog 235 #[.pointer (some ⟨p, 0, none⟩), txv t, .int .i64 (oc : Int), .bool due] w fun e w' => Res o w p (B + 3) (n.apply t oc due) e w' := by
  obtain ⟨W, hW, hkA, hA, hwl⟩ := boxTx w t
  obtain ⟨V, hV, hkV, hR, hWl⟩ := boxRec W ⟨6, t, 0, oc⟩
  have hk := hkA.trans hkV (fun _ _ f => f)
  have h0 := h.begin hk
  have ho0 : tagsUp o w .other w.heap.size = .other := tagsUp_new (Nat.le_refl _)
  have ho1 : tagsUp o w .other W.heap.size = .other := tagsUp_new hkA.size
  have hA' := hkV.heap hA (fun f => f)
  obtain ⟨d0, d1, d2⟩ := boxTx_cells hA
  obtain ⟨a0, a1, a2⟩ := boxTx_cells hA'
  obtain ⟨r0, r1, r2, r3, r4, r5⟩ := boxRec_cells hR
  have hfo := force_any _ p B n ⟨6, t, 0, oc⟩ V h0 hup (by omega)
  have hla := lazy_any _ p B n ⟨6, t, 0, oc⟩ V h0 hup (by omega)
  have hhap := happen_any
  unfold recV at hfo hla
  unfold NM.apply
  unfold txv at *
  simp only at *
  cases due with
  | true =>
    simp only [if_true]
    cases hr : n.forces ⟨6, t, 0, oc⟩ with
    | error m => exact (forces_no hz hr).elim
    | ok y =>
      obtain ⟨i, m⟩ := y
      rw [hr] at hfo
      simp only [Except.map]
      go_enter Tryz.func235, Tryz.ntmps235
      go_wp2_with fail
      go_at_call 156
      subst hV
      refine hfo.mono ?_
      rintro e w1 ⟨rfl, hres⟩
      have hA1 := hres.frame hA' ho0
      obtain ⟨e0, e1, e2⟩ := boxTx_cells hA1
      obtain ⟨o2, f2, g2, t2, _⟩ := hres.next
      have hw2 := (f2 w.heap.size (Nat.lt_trans hwl hWl)).trans ho0
      have hs2 := hhap o2 p (B + 2) 3 oc t _ w1 g2 (by omega)
      unfold txv at hs2
      have HF : Hid (∀ w' n' B', NPost o2 w1 p n' B' w' → NPost o w p n' B' w') := hide (fun w' n' B' hh => NPost.from hk (t2 _ _ _ hh))
      clear g2 hA' hA hR hfo hla h0 a0 a1 a2 d0 d1 d2 r0 r1 r2 r3 r4 r5 t2 hres
      go_wp2_with fail
      go_at_call 239
      refine hs2.mono ?_
      rintro e w3 ⟨rfl, hres3⟩
      have hA3 := hres3.frame hA1 hw2
      obtain ⟨k0, k1, k2⟩ := boxTx_cells hA3
      obtain ⟨o3, pd, vj, vf, bo, bp, ve, g3, f3, t3, _⟩ := hres3.ghost
      have hw3 := (f3 w.heap.size (lt_of_heap hA1)).trans hw2
      have hop := g3.own
      have c16 := g3.cell 16
      simp [nodeCells] at c16
      obtain ⟨w4, hd, HD⟩ := run_delP g3.drew t
      have hst := (unhide HD).2
      have c16' := hst ⟨p, 16, none⟩ _ c16 (by simp only; rw [hop]; simp)
      have k0' := hst ⟨w.heap.size, 0, none⟩ _ k0 (by simp only; rw [hw3]; simp)
      have k1' := hst ⟨w.heap.size, 1, none⟩ _ k1 (by simp only; rw [hw3]; simp)
      have k2' := hst ⟨w.heap.size, 2, none⟩ _ k2 (by simp only; rw [hw3]; simp)
      have HE := hide ((unhide HF) _ _ _ (t3 _ _ _ (PostDrew (unhide HD).1)))
      unfold txv at hd
      clear hA1 hA3 g3 hst HD t3 hs2
      go_wp2_with fail
      go_region_held3 (fun w' => w'.cell? ⟨p, 16, none⟩ = some (.map (some bp)) ∧ w'.cell? ⟨w.heap.size, 0, none⟩ = some (.int .i64 (t.coord : Int)) ∧ w'.cell? ⟨w.heap.size, 1, none⟩ = some (.int .i64 (t.inc : Int)) ∧ w'.cell? ⟨w.heap.size, 2, none⟩ = some (.int .i64 (t.seq : Int))) (first | exact ⟨c16, k0, k1, k2⟩ | exact ⟨c16', k0', k1', k2'⟩) (fail)
      go_end0
      exact ⟨rfl, unhide HE⟩
  | false =>
    simp only [Bool.false_eq_true, if_false]
    cases hr : n.lazily ⟨6, t, 0, oc⟩ with
    | error m => exact (lazily_no hz hr).elim
    | ok m =>
      rw [hr] at hla
      simp only
      go_enter Tryz.func235, Tryz.ntmps235
      go_wp2_with fail
      go_at_call 283
      subst hV
      refine hla.mono ?_
      rintro e w1 ⟨rfl, hres⟩
      have hA1 := hres.frame hA' ho0
      obtain ⟨e0, e1, e2⟩ := boxTx_cells hA1
      obtain ⟨o2, f2, g2, t2, _⟩ := hres.next
      have hw2 := (f2 w.heap.size (Nat.lt_trans hwl hWl)).trans ho0
      have hs2 := hhap o2 p (B + 2) 3 oc t _ w1 g2 (by omega)
      unfold txv at hs2
      have HF : Hid (∀ w' n' B', NPost o2 w1 p n' B' w' → NPost o w p n' B' w') := hide (fun w' n' B' hh => NPost.from hk (t2 _ _ _ hh))
      clear g2 hA' hA hR hfo hla h0 a0 a1 a2 d0 d1 d2 r0 r1 r2 r3 r4 r5 t2 hres
      go_wp2_with fail
      go_at_call 239
      refine hs2.mono ?_
      rintro e w3 ⟨rfl, hres3⟩
      have hA3 := hres3.frame hA1 hw2
      obtain ⟨k0, k1, k2⟩ := boxTx_cells hA3
      obtain ⟨o3, pd, vj, vf, bo, bp, ve, g3, f3, t3, _⟩ := hres3.ghost
      have hw3 := (f3 w.heap.size (lt_of_heap hA1)).trans hw2
      have hop := g3.own
      have c16 := g3.cell 16
      simp [nodeCells] at c16
      obtain ⟨w4, hd, HD⟩ := run_delP g3.drew t
      have hst := (unhide HD).2
      have c16' := hst ⟨p, 16, none⟩ _ c16 (by simp only; rw [hop]; simp)
      have k0' := hst ⟨w.heap.size, 0, none⟩ _ k0 (by simp only; rw [hw3]; simp)
      have k1' := hst ⟨w.heap.size, 1, none⟩ _ k1 (by simp only; rw [hw3]; simp)
      have k2' := hst ⟨w.heap.size, 2, none⟩ _ k2 (by simp only; rw [hw3]; simp)
      have HE := hide ((unhide HF) _ _ _ (t3 _ _ _ (PostDrew (unhide HD).1)))
      unfold txv at hd
      clear hA1 hA3 g3 hst HD t3 hs2
      go_wp2_with fail
      go_region_held3 (fun w' => w'.cell? ⟨p, 16, none⟩ = some (.map (some bp)) ∧ w'.cell? ⟨w.heap.size, 0, none⟩ = some (.int .i64 (t.coord : Int)) ∧ w'.cell? ⟨w.heap.size, 1, none⟩ = some (.int .i64 (t.inc : Int)) ∧ w'.cell? ⟨w.heap.size, 2, none⟩ = some (.int .i64 (t.seq : Int))) (first | exact ⟨c16, k0, k1, k2⟩ | exact ⟨c16', k0', k1', k2'⟩) (fail)
      go_end0
      exact ⟨rfl, unhide HE⟩

end Go.Proofs.YthbmmbgkchiajaaGreat

/- An outcome learnt. -/
namespace Go.Proofs.YthbmmbgkchiajaaGreat
set_option linter.unusedSimpArgs false
set_option linter.unusedVariables false
open Go.RowKit

attribute [local go_sem ↓] lookO_eq lookP_eq delO_eq delP_eq putO_eq putP_eq lenO_eq lenP_eq

theorem apply_calm {n : NM} {t : Tx} {oc : Nat} {due : Bool} (hz : n.fuse = none) : ∃ m, n.apply t oc due = .ok m ∧ m.fuse = none := by
  unfold NM.apply
  cases due with
  | true =>
    obtain ⟨i, m, h1, h2⟩ := forces_calm hz ⟨6, t, 0, oc⟩
    simp only [if_true, h1, Except.map]
    exact ⟨_, rfl, h2⟩
  | false =>
    obtain ⟨m, h1, h2⟩ := lazily_calm hz ⟨6, t, 0, oc⟩
    simp only [Bool.false_eq_true, if_false, h1]
    exact ⟨_, rfl, h2⟩

set_option maxRecDepth 100000 in
set_option maxHeartbeats 1000000 in
theorem learn_any (o : Nat → Tag) (p B frm oc : Nat) (n : NM) (t : Tx) (w : World) (h : NodeAt o w p n B) (hup : n.up = true) (hz : n.fuse = none) (ht : t.coord < 4) (hB : B + 4 ≤ 1099511627776) :
    Calls Tryz.prog 161 #[.pointer (some ⟨p, 0, none⟩), txv t, .int .i64 (frm : Int), .int .i64 (oc : Int)] w fun e w' => Res o w p (B + 4) (n.learn t frm oc) e w' := by
  obtain ⟨W, hW, hkA, hA, hwl⟩ := boxTx w t
  have h0 := h.begin hkA
  have ho0 : tagsUp o w .other w.heap.size = .other := tagsUp_new (Nat.le_refl _)
  obtain ⟨d0, d1, d2⟩ := boxTx_cells hA
  have hN := h0
  obtain ⟨pd, vj, vf, bo, bp, ve, g0⟩ := hN
  have c16 := g0.cell 16
  simp [nodeCells] at c16
  have hl := run_lookP g0.preps t
  have hld := run_lookP g0.drew.preps t
  have hDue := acksDue_any _ p B oc n W h0
  have hHas := fun W' (hk : Keeps (fun _ => False) W W') => markHas_any _ p B n t W' (h0.still hk) ht
  have hMark := fun W' (hk : Keeps (fun _ => False) W W') => mark_any _ p B n t W' (h0.still hk) hup ht (by omega)
  have hApp := fun due W' (hk : Keeps (fun _ => False) W W') => apply_any _ p B oc due n t W' (h0.still hk) hup hz (by omega)
  have hSend := fun kind W' (hk : Keeps (fun _ => False) W W') => send_any _ p B kind frm t n W' (h0.still hk) (by omega)
  have hsend := send_any
  have HQ : Hid (∀ w', Keeps (fun _ => False) W w' → NPost o w p n (B + 4) w') := hide (fun w' hk => (NPost.from hkA (h0.quiet hk)).up (by omega) hB)
  have HFROM : Hid (∀ (W' w' : World) (n' : NM), Keeps (fun _ => False) W W' → NPost (tagsUp o w .other) W' p n' (B + 4) w' → NPost o w p n' (B + 4) w') := hide (fun W' w' n' hk hh => NPost.from (hkA.trans hk (fun _ _ f => f)) hh)
  clear g0 h h0
  unfold NM.learn
  unfold txv at *
  generalize hi0 : ((mget n.prep t).map ival).getD (.int .i64 0) = vi at *
  clear hi0
  generalize n.acksDue oc = due at *
  cases hm : mhas n.prep t with
  | true =>
    rw [hm] at hl hld
    simp only [if_true]
    obtain ⟨m, hm1, hm2⟩ := apply_calm (n := n) (t := t) (oc := oc) (due := due) hz
    have hA1 := hApp due
    rw [hm1] at hA1
    simp only [hm1]
    clear hApp hm1 hm2 hMark hHas
    cases due with
    | true =>
      simp only [if_true]
      go_enter Tryz.func161, Tryz.ntmps161
      go_wp2_with fail
      clear hW
      go_at_call 234
      refine hDue.mono ?_
      rintro e wd ⟨rfl, hwd⟩
      rw [hwd]
      clear hwd wd
      go_wp2_with fail
      go_region_held3 (fun w' => w'.cell? ⟨p, 16, none⟩ = some (.map (some bp)) ∧ w'.cell? ⟨w.heap.size, 0, none⟩ = some (.int .i64 (t.coord : Int)) ∧ w'.cell? ⟨w.heap.size, 1, none⟩ = some (.int .i64 (t.inc : Int)) ∧ w'.cell? ⟨w.heap.size, 2, none⟩ = some (.int .i64 (t.seq : Int)) ∧ (lookP (.map (some bp)) (.agg #[.int .i64 (t.coord : Int), .int .i64 (t.inc : Int), .int .i64 (t.seq : Int)])).run Tryz.prog w' = .ok (.tuple #[vi, .bool true]) w') (first | exact ⟨c16, d0, d1, d2, hl⟩ | exact ⟨c16, d0, d1, d2, hld⟩) (fail)
      go_wp2_with fail
      go_at_call 235
      refine (hA1 _ ((Keeps.refl _ W).drew)).mono ?_
      rintro e w1 ⟨rfl, hres⟩
      have hA2 := hres.frame (b := w.heap.size) hA ho0
      obtain ⟨k0, k1, k2⟩ := boxTx_cells hA2
      obtain ⟨o2, f2, g2, t2, _⟩ := hres.next
      have hs2 := hsend o2 p (B + 3) 6 frm t _ w1 g2 (by omega)
      unfold txv at hs2
      clear hA2 g2
      go_wp2_with (go_at_call 175; refine hs2.mono ?_; rintro e w6 ⟨rfl, hres6⟩)
      go_end0
      exact ⟨rfl, (unhide HFROM) _ _ _ ((Keeps.refl _ W).drew) (t2 _ _ _ hres6)⟩
    | false =>
      simp only [Bool.false_eq_true, if_false]
      go_enter Tryz.func161, Tryz.ntmps161
      go_wp2_with fail
      clear hW
      go_at_call 234
      refine hDue.mono ?_
      rintro e wd ⟨rfl, hwd⟩
      rw [hwd]
      clear hwd wd
      go_wp2_with fail
      go_region_held3 (fun w' => w'.cell? ⟨p, 16, none⟩ = some (.map (some bp)) ∧ w'.cell? ⟨w.heap.size, 0, none⟩ = some (.int .i64 (t.coord : Int)) ∧ w'.cell? ⟨w.heap.size, 1, none⟩ = some (.int .i64 (t.inc : Int)) ∧ w'.cell? ⟨w.heap.size, 2, none⟩ = some (.int .i64 (t.seq : Int)) ∧ (lookP (.map (some bp)) (.agg #[.int .i64 (t.coord : Int), .int .i64 (t.inc : Int), .int .i64 (t.seq : Int)])).run Tryz.prog w' = .ok (.tuple #[vi, .bool true]) w') (first | exact ⟨c16, d0, d1, d2, hl⟩ | exact ⟨c16, d0, d1, d2, hld⟩) (fail)
      go_wp2_with fail
      go_at_call 235
      refine (hA1 _ ((Keeps.refl _ W).drew)).mono ?_
      rintro e w1 ⟨rfl, hres⟩
      have HR := hide hres
      clear hres
      go_wp2
      go_end0
      exact ⟨rfl, (unhide HFROM) _ _ _ ((Keeps.refl _ W).drew) ((unhide HR).up (by omega) hB)⟩
  | false =>
    rw [hm] at hl hld
    clear hApp
    cases due with
    | true =>
      cases hh : n.markHas t with
      | true =>
        rw [hh] at hHas
        simp only [Bool.false_eq_true, if_false, Bool.true_eq_false, and_false, if_true]
        go_enter Tryz.func161, Tryz.ntmps161
        go_wp2_with fail
        clear hW
        go_at_call 234
        refine hDue.mono ?_
        rintro e wd ⟨rfl, hwd⟩
        rw [hwd]
        clear hwd wd
        go_wp2_with fail
        go_region_held3 (fun w' => w'.cell? ⟨p, 16, none⟩ = some (.map (some bp)) ∧ w'.cell? ⟨w.heap.size, 0, none⟩ = some (.int .i64 (t.coord : Int)) ∧ w'.cell? ⟨w.heap.size, 1, none⟩ = some (.int .i64 (t.inc : Int)) ∧ w'.cell? ⟨w.heap.size, 2, none⟩ = some (.int .i64 (t.seq : Int)) ∧ (lookP (.map (some bp)) (.agg #[.int .i64 (t.coord : Int), .int .i64 (t.inc : Int), .int .i64 (t.seq : Int)])).run Tryz.prog w' = .ok (.tuple #[vi, .bool false]) w') (first | exact ⟨c16, d0, d1, d2, hl⟩ | exact ⟨c16, d0, d1, d2, hld⟩) (fail)
        go_wp2_with fail
        go_region_held3 (fun w' => w'.cell? ⟨w.heap.size, 0, none⟩ = some (.int .i64 (t.coord : Int)) ∧ w'.cell? ⟨w.heap.size, 1, none⟩ = some (.int .i64 (t.inc : Int)) ∧ w'.cell? ⟨w.heap.size, 2, none⟩ = some (.int .i64 (t.seq : Int))) (first | exact ⟨d0, d1, d2⟩ | exact ⟨hk1.cell' d0 (fun f => f), hk1.cell' d1 (fun f => f), hk1.cell' d2 (fun f => f)⟩) (first
          | (go_at_call 227; refine (hHas _ (((Keeps.refl _ W).drew).drew)).mono ?_; rintro e w1 ⟨rfl, hk1'⟩; have hk1 := hk1'.unDrew; clear hk1'))
        have hkk := ((Keeps.refl (fun _ => False) W).drew).trans hk1 (fun _ _ f => f)
        have hA1 := hkk.heap hA (fun f => f)
        obtain ⟨e0, e1, e2⟩ := boxTx_cells hA1
        clear hA1
        go_wp2_with (go_at_call 175; refine (hSend 6 _ hkk).mono ?_; rintro e w6 ⟨rfl, hres6⟩)
        go_end0
        exact ⟨rfl, (unhide HFROM) _ _ _ hkk (hres6.up (by omega) hB)⟩
      | false =>
        rw [hh] at hHas
        simp only [Bool.false_eq_true, if_false, and_self, if_true]
        go_enter Tryz.func161, Tryz.ntmps161
        go_wp2_with fail
        clear hW
        go_at_call 234
        refine hDue.mono ?_
        rintro e wd ⟨rfl, hwd⟩
        rw [hwd]
        clear hwd wd
        go_wp2_with fail
        go_region_held3 (fun w' => w'.cell? ⟨p, 16, none⟩ = some (.map (some bp)) ∧ w'.cell? ⟨w.heap.size, 0, none⟩ = some (.int .i64 (t.coord : Int)) ∧ w'.cell? ⟨w.heap.size, 1, none⟩ = some (.int .i64 (t.inc : Int)) ∧ w'.cell? ⟨w.heap.size, 2, none⟩ = some (.int .i64 (t.seq : Int)) ∧ (lookP (.map (some bp)) (.agg #[.int .i64 (t.coord : Int), .int .i64 (t.inc : Int), .int .i64 (t.seq : Int)])).run Tryz.prog w' = .ok (.tuple #[vi, .bool false]) w') (first | exact ⟨c16, d0, d1, d2, hl⟩ | exact ⟨c16, d0, d1, d2, hld⟩) (fail)
        go_wp2_with fail
        go_region_held3 (fun w' => w'.cell? ⟨w.heap.size, 0, none⟩ = some (.int .i64 (t.coord : Int)) ∧ w'.cell? ⟨w.heap.size, 1, none⟩ = some (.int .i64 (t.inc : Int)) ∧ w'.cell? ⟨w.heap.size, 2, none⟩ = some (.int .i64 (t.seq : Int))) (first | exact ⟨d0, d1, d2⟩ | exact ⟨hk1.cell' d0 (fun f => f), hk1.cell' d1 (fun f => f), hk1.cell' d2 (fun f => f)⟩) (first
          | (go_at_call 227; refine (hHas _ (((Keeps.refl _ W).drew).drew)).mono ?_; rintro e w1 ⟨rfl, hk1'⟩; have hk1 := hk1'.unDrew; clear hk1'))
        have hkk := ((Keeps.refl (fun _ => False) W).drew).trans hk1 (fun _ _ f => f)
        have hA1 := hkk.heap hA (fun f => f)
        obtain ⟨e0, e1, e2⟩ := boxTx_cells hA1
        clear hA1
        go_wp2_with fail
        go_at_call 228
        refine (hMark w1 hkk).mono ?_
        rintro e w2 ⟨rfl, hres⟩
        have hA2 := hres.frame (hkk.heap hA (fun f => f)) ho0
        obtain ⟨k0, k1, k2⟩ := boxTx_cells hA2
        obtain ⟨o2, f2, g2, t2, _⟩ := hres.next
        have hs2 := hsend o2 p (B + 1) 6 frm t _ w2 g2 (by omega)
        unfold txv at hs2
        clear hA2 g2
        go_wp2_with (go_at_call 175; refine hs2.mono ?_; rintro e w3 ⟨rfl, hres3⟩)
        go_end0
        exact ⟨rfl, (unhide HFROM) _ _ _ hkk (t2 _ _ _ (hres3.up (by omega) hB))⟩
    | false =>
      simp only [Bool.false_eq_true, if_false, false_and]
      go_enter Tryz.func161, Tryz.ntmps161
      go_wp2_with fail
      clear hW
      go_at_call 234
      refine hDue.mono ?_
      rintro e wd ⟨rfl, hwd⟩
      rw [hwd]
      clear hwd wd
      go_wp2_with fail
      go_region_held3 (fun w' => w'.cell? ⟨p, 16, none⟩ = some (.map (some bp)) ∧ w'.cell? ⟨w.heap.size, 0, none⟩ = some (.int .i64 (t.coord : Int)) ∧ w'.cell? ⟨w.heap.size, 1, none⟩ = some (.int .i64 (t.inc : Int)) ∧ w'.cell? ⟨w.heap.size, 2, none⟩ = some (.int .i64 (t.seq : Int)) ∧ (lookP (.map (some bp)) (.agg #[.int .i64 (t.coord : Int), .int .i64 (t.inc : Int), .int .i64 (t.seq : Int)])).run Tryz.prog w' = .ok (.tuple #[vi, .bool false]) w') (first | exact ⟨c16, d0, d1, d2, hl⟩ | exact ⟨c16, d0, d1, d2, hld⟩) (fail)
      go_wp2_with fail
      go_quiet (fail)
      go_wp2
      go_end0
      exact ⟨rfl, (unhide HQ) _ (((Keeps.refl _ W).drew).drewN _)⟩

end Go.Proofs.YthbmmbgkchiajaaGreat
