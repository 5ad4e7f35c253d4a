
/- A transaction settled. -/
import Derived.Test.YthbmmbgkchiajaaGreatNVote
namespace Go.Proofs.YthbmmbgkchiajaaGreat
set_option linter.unusedSimpArgs false
set_option linter.unusedVariables false
open Go.RowKit

attribute [local go_sem ↓] lookO_eq lookP_eq delO_eq delP_eq putO_eq putP_eq lenO_eq lenP_eq

theorem mset_mset {α : Type} (l : List (Tx × α)) (t : Tx) (a b : α) : mset (mset l t a) t b = mset l t b := by
  unfold mset
  rw [List.map_map]
  refine List.map_congr_left (fun x _ => ?_)
  show (if (if x.1 = t then (t, a) else x).1 = t then (t, b) else (if x.1 = t then (t, a) else x)) = _
  by_cases h : x.1 = t <;> simp [h]
theorem mget_mset {α : Type} {l : List (Tx × α)} {t : Tx} {a b : α} (h : mget l t = some a) : mget (mset l t b) t = some b := by
  unfold mget mset at *
  induction l with
  | nil => cases h
  | cons x l ih =>
    rw [List.map_cons, List.find?_cons]
    by_cases hx : x.1 = t
    · simp [hx]
    · rw [List.find?_cons, decide_eq_false hx] at h
      rw [if_neg hx, decide_eq_false hx]
      exact ih h
theorem sends_facts (kind : Nat) (t : Tx) : ∀ (l : List Nat) (n : NM), (n.sends kind t l).opn = n.opn ∧ (n.sends kind t l).up = n.up ∧ (n.sends kind t l).fuse = n.fuse ∧ (n.sends kind t l).cfg = n.cfg ∧ (n.sends kind t l).prep = n.prep
  | [], _ => ⟨rfl, rfl, rfl, rfl, rfl⟩
  | i :: l, n => sends_facts kind t l (n.send kind i t)
theorem sendAll_facts (n : NM) (kind s : Nat) (t : Tx) : (n.sendAll kind s t).opn = n.opn ∧ (n.sendAll kind s t).up = n.up ∧ (n.sendAll kind s t).fuse = n.fuse ∧ (n.sendAll kind s t).cfg = n.cfg ∧ (n.sendAll kind s t).prep = n.prep := sends_facts kind t (members s) n

/-- Both cells of a deal are written. -/
theorem NG.settled {o : Nat → Tag} {w : World} {p : Nat} {n : NM} {B pd : Nat} {vj vf : Value} {bo bp : Nat} {ve : Value} (h : NG o w p n B pd vj vf bo bp ve) {t : Tx} {d : Deal} (hd : mget n.opn t = some d) (oc nodes : Nat) (h1 : oc < 3) (h2 : nodes < 16) : NPost o w p { n with opn := mset n.opn t { d with outcome := oc, waits := nodes } } B ((w.setCell ⟨d.blk, 2, none⟩ (.int .i64 (oc : Int))).setCell ⟨d.blk, 1, none⟩ (.int .i64 (nodes : Int))) := by
  have hs := h.small.deals _ (mget_mem hd)
  have p1 := h.dealPost hd 2 (.int .i64 (oc : Int)) (d' := { d with outcome := oc }) rfl rfl ⟨hs.1, hs.2.1, h1, hs.2.2.2⟩
  obtain ⟨o1, pd1, vj1, vf1, bo1, bp1, ve1, g1, f1, t1, _⟩ := p1.ghost
  have hd1 : mget (mset n.opn t { d with outcome := oc }) t = some { d with outcome := oc } := mget_mset hd
  have p2 := g1.dealPost (t := t) (d := { d with outcome := oc }) hd1 1 (.int .i64 (nodes : Int)) (d' := { d with outcome := oc, waits := nodes }) rfl rfl ⟨hs.1, h2, h1, hs.2.2.2⟩
  have p3 := t1 _ _ _ p2
  have e : mset (mset n.opn t { d with outcome := oc }) t { d with outcome := oc, waits := nodes } = mset n.opn t { d with outcome := oc, waits := nodes } := mset_mset _ _ _ _
  simp only [e] at p3
  exact p3

set_option maxRecDepth 100000 in
set_option maxHeartbeats 1000000 in
theorem settle_any (o : Nat → Tag) (p B oc nodes : Nat) (n : NM) (t : Tx) (d : Deal) (w : World) (h : NodeAt o w p n B) (hup : n.up = true) (hz : n.fuse = none) (hd : mget n.opn t = some d) (h1 : oc < 3) (h2 : nodes < 16) (hB : B + 7 ≤ 1099511627776) :
    Calls Tryz.prog 282 #[.pointer (some ⟨p, 0, none⟩), txv t, dptr d, .int .i64 (oc : Int), .int .i64 (nodes : Int)] w fun e w' => Res o w p (B + 7) (n.settle t d oc nodes) e w' := by
  obtain ⟨W, hW, hkA, hA, hwl⟩ := boxTx w t
  have h0 := h.begin hkA
  have ho0 : tagsUp o w .other w.heap.size = .other := tagsUp_new (Nat.le_refl _)
  obtain ⟨d0, d1, d2⟩ := boxTx_cells hA
  have hhap := happen_any _ p B 2 oc t n W h0 (by omega)
  have hall := sendAll_any
  have hord := order_any oc
  have hend := end_any
  have hdue := acksDue_any
  obtain ⟨k, hk0⟩ : ∃ k : NM, { (n.happen 2 t oc).sendAll (order oc) nodes t with opn := mset ((n.happen 2 t oc).sendAll (order oc) nodes t).opn t { d with outcome := oc, waits := nodes } } = k := ⟨_, rfl⟩
  have hset : n.settle t d oc nodes = if k.acksDue oc then (if nodes = 0 then k.ends t else .ok k) else .ok { k with opn := mdel k.opn t } := by rw [← hk0]; rfl
  rw [hset]
  unfold dptr
  have hop1 : ((n.happen 2 t oc).sendAll (order oc) nodes t).opn = n.opn := (sendAll_facts _ _ _ _).1
  have hup1 : ((n.happen 2 t oc).sendAll (order oc) nodes t).up = true := (sendAll_facts _ _ _ _).2.1.trans hup
  have hz1 : ((n.happen 2 t oc).sendAll (order oc) nodes t).fuse = none := (sendAll_facts _ _ _ _).2.2.1.trans hz
  have hsa := fun o' W' (hh : NodeAt o' W' p (n.happen 2 t oc) (B + 1)) => hall o' p (B + 1) (order oc) nodes (n.happen 2 t oc) t W' hh h2 (by omega)
  generalize n.happen 2 t oc = n1 at *
  generalize order oc = od at *
  generalize n1.sendAll od nodes t = m at *
  have hdm : mget m.opn t = some d := by rw [hop1]; exact hd
  have HM := hide (And.intro hup1 (And.intro hz1 hdm))
  have hku : k.up = true ∧ k.fuse = none := by rw [← hk0]; exact ⟨hup1, hz1⟩
  have HK := hide hk0
  have HKU := hide hku
  unfold txv at *
  clear h h0 hop1 hup1 hz1 hdm hd hk0 hku hset
  go_enter Tryz.func282, Tryz.ntmps282
  go_wp2_with fail
  clear hW
  go_at_call 239
  refine hhap.mono ?_
  rintro e w1 ⟨rfl, hres⟩
  have hA1 := hres.frame hA ho0
  obtain ⟨e0, e1, e2⟩ := boxTx_cells hA1
  obtain ⟨o1, f1, g1, t1, _⟩ := hres.next
  have ho1 := (f1 w.heap.size hwl).trans ho0
  have hs1 := hsa o1 w1.drew g1.drew
  clear g1 hhap hsa d0 d1 d2
  go_wp2_with fail
  go_region_held3 (fun w' => w'.cell? ⟨w.heap.size, 0, none⟩ = some (.int .i64 (t.coord : Int)) ∧ w'.cell? ⟨w.heap.size, 1, none⟩ = some (.int .i64 (t.inc : Int)) ∧ w'.cell? ⟨w.heap.size, 2, none⟩ = some (.int .i64 (t.seq : Int))) (first | exact ⟨e0, e1, e2⟩ | exact ⟨hres2.2.cell' e0 (fun e => e ho1), hres2.2.cell' e1 (fun e => e ho1), hres2.2.cell' e2 (fun e => e ho1)⟩) (first
    | (go_at_call 237; refine (hord _).mono ?_; rintro e wo ⟨rfl, rfl⟩)
    | (go_at_call 157; refine hs1.mono ?_; rintro e w2 ⟨rfl, hres2⟩))
  have hA2 := hres2.frame (b := w.heap.size) hA1 ho1
  obtain ⟨o2, pd, vj, vf, bo, bp, ve, g2, f2, t2, _⟩ := hres2.ghost
  have ho2 := (f2 w.heap.size (lt_of_heap hA1)).trans ho1
  have hdm := (unhide HM).2.2
  have q1 := g2.dealCell hdm 1
  have q2 := g2.dealCell hdm 2
  have hbk := (g2.opens.deals _ (mget_mem hdm)).2
  simp only at hbk
  have z1 := frozen_of_heap (o := 1) hbk
  have z2 := frozen_of_heap (o := 2) hbk
  simp [dealCells] at q1 q2
  have hnb : ¬ d.blk = w.heap.size := fun e => by have := (g2.dealTag hdm).1; rw [e, ho2] at this; cases this
  have HS := hide (g2.settled hdm oc nodes h1 h2)
  have HT : Hid (∀ w' n' B', NPost o2 w2 p n' B' w' → NPost o w p n' B' w') := hide (fun w' n' B' hh => NPost.from hkA (t1 _ _ _ (PostDrew (t2 _ _ _ hh))))
  have HA2 := hide hA2
  clear g2 hbk t1 t2 hres hres2 hs1 hdm hA2
  go_wp2_with fail
  generalize hV : World.setCell (World.setCell w2 _ _) _ _ = V
  have hS := unhide HS
  rw [hV, unhide HK] at hS
  have hA3 := hS.frame (unhide HA2) ho2
  obtain ⟨k0, k1, k2⟩ := boxTx_cells hA3
  obtain ⟨o3, pd3, vj3, vf3, bo3, bp3, ve3, g3, f3, t3, _⟩ := hS.ghost
  have ho3 := (f3 w.heap.size (lt_of_heap (unhide HA2))).trans ho2
  have hN3 : NodeAt o3 V p k (B + 1 + 4) := ⟨pd3, vj3, vf3, bo3, bp3, ve3, g3⟩
  have hdu := hdue o3 p _ oc k V hN3
  have HT3 : Hid (∀ w' n' B', NPost o3 V p n' B' w' → NPost o w p n' B' w') := hide (fun w' n' B' hh => (unhide HT) _ _ _ (t3 _ _ _ hh))
  have hen := hend o3 p (B + 1 + 4) k t V hN3 (unhide HKU).1 (by omega)
  have hfu := (unhide HKU).2
  have HEND : Hid (∀ m, k.ends t = .error m → False) := hide (fun m hm => by
    unfold NM.ends at hm
    obtain ⟨l, hl1, _⟩ := lazily_calm hfu ⟨4, t, 0, 0⟩
    rw [hl1] at hm; cases hm)
  have hop := g3.own
  have c15 := g3.cell 15
  simp [nodeCells] at c15
  have HG3 := hide g3
  clear hV HS HK hS g3 t3 hfu q1 q2 z1 z2 hA3
  unfold txv at hen
  cases hdd : k.acksDue oc with
  | false =>
    rw [hdd] at hdu
    go_at_call 234
    refine hdu.mono ?_
    rintro e wd ⟨rfl, hwd⟩
    rw [hwd]
    clear hwd wd
    obtain ⟨w4, hdl, HD⟩ := run_delO (unhide HG3).drew t
    have hst := (unhide HD).2
    have c15' := hst ⟨p, 15, none⟩ _ c15 (by simp only; rw [hop]; simp)
    have k0' := hst ⟨w.heap.size, 0, none⟩ _ k0 (by simp only; rw [ho3]; simp)
    have k1' := hst ⟨w.heap.size, 1, none⟩ _ k1 (by simp only; rw [ho3]; simp)
    have k2' := hst ⟨w.heap.size, 2, none⟩ _ k2 (by simp only; rw [ho3]; simp)
    have HE := hide ((unhide HT3) _ _ _ (PostDrew (unhide HD).1))
    unfold txv at hdl
    clear hst HD hdu hen
    go_wp2_with fail
    go_region_held3 (fun w' => w'.cell? ⟨p, 15, none⟩ = some (.map (some bo3)) ∧ w'.cell? ⟨w.heap.size, 0, none⟩ = some (.int .i64 (t.coord : Int)) ∧ w'.cell? ⟨w.heap.size, 1, none⟩ = some (.int .i64 (t.inc : Int)) ∧ w'.cell? ⟨w.heap.size, 2, none⟩ = some (.int .i64 (t.seq : Int))) (first | exact ⟨c15, k0, k1, k2⟩ | exact ⟨c15', k0', k1', k2'⟩) (fail)
    go_end0
    try rw [if_neg (by rw [hdd]; simp)]
    exact ⟨rfl, (unhide HE).up (by omega) hB⟩
  | true =>
    rw [hdd] at hdu
    by_cases hn0 : nodes = 0
    · have hb0 : ((nodes : Int) == 0) = true := by rw [beq_iff_eq]; omega
      cases hee : k.ends t with
      | error m => exact ((unhide HEND) m hee).elim
      | ok m2 =>
        rw [hee] at hen
        go_at_call 234
        refine hdu.mono ?_
        rintro e wd ⟨rfl, hwd⟩
        rw [hwd]
        clear hwd wd
        go_wp2_with (go_at_call 236; refine hen.mono ?_; rintro e w4 ⟨rfl, hres4⟩)
        go_end0
        try rw [if_pos hdd, if_pos hn0, hee]
        exact ⟨rfl, (unhide HT3) _ _ _ hres4⟩
    · have hb0 : ((nodes : Int) == 0) = false := by rw [beq_eq_false_iff_ne]; omega
      go_at_call 234
      refine hdu.mono ?_
      rintro e wd ⟨rfl, hwd⟩
      rw [hwd]
      clear hwd wd
      go_wp2
      go_end0
      try rw [if_pos hdd, if_neg hn0]
      exact ⟨rfl, (unhide HT3) _ _ _ ((NPost.refl ⟨_, _, _, _, _, _, unhide HG3⟩).up (by omega) hB)⟩

end Go.Proofs.YthbmmbgkchiajaaGreat
