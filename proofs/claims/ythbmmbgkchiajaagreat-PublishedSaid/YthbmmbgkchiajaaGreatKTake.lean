
/- A message is taken out of the net. -/
import Derived.Test.YthbmmbgkchiajaaGreatKNet

namespace Go.Proofs.YthbmmbgkchiajaaGreat
set_option linter.unusedSimpArgs false
set_option linter.unusedVariables false
open Go.RowKit

theorem KG.netSet {c : Nat → CTag} {w w1 : World} {pk : Nat} {K : KM} {B : Nat} {vr vn vt : Value} (h : KG c w pk K B vr vn vt) (l : List Msg) (hl : l.length ≤ B) {v' : Value} {H : Nat} (hk1 : Keeps (fun k => vn.ownBlock = some k) w w1)
    (hown1 : w1.ownsRow 0 54 6 v' l.length (l.flatMap msgCells)) (hat : v'.ownBlock = vn.ownBlock ∨ v'.ownBlock = some H) (hH : w.heap.size ≤ H) :
    KFine c w pk { K with net := l } B (w1.setCell ⟨pk, 1, none⟩ v') := by
  have hpk := lt_of_heap h.self
  have hpn : ¬ vn.ownBlock = some pk := fun e => by have h1 : c pk = .net := h.net.2 _ e; rw [h.own] at h1; cases h1
  have hb1 := hk1.heap h.self hpn
  have hks : Keeps (fun k => k = pk) w1 (w1.setCell ⟨pk, 1, none⟩ v') := (Keeps.refl (fun k => k = pk) w1).setCell (p := ⟨pk, 1, none⟩) (.inl rfl) _
  have hkk : Keeps (fun k => k = pk ∨ vn.ownBlock = some k) w (w1.setCell ⟨pk, 1, none⟩ v') := (hk1.mono (T := fun k => k = pk ∨ vn.ownBlock = some k) (fun _ _ e => .inr e)).trans hks (fun _ _ e => .inl e)
  have hq : ∀ k, k = pk ∨ vn.ownBlock = some k → c k = .self ∨ c k = .net := fun k e => by
    rcases e with rfl | e
    · exact .inl h.own
    · exact .inr (h.net.2 _ e)
  have hc : ∀ k, k < w.heap.size → ctagsUp c w .net k = c k := fun k hk => ctagsUp_old hk
  refine ⟨⟨ctagsUp c w .net, hc, vr, v', vt, ?_, (hc _ hpk).trans h.own, h.row.ckeep hkk hc (fun k _ e e' => by rcases hq k e' with q | q <;> rw [q] at e <;> cases e), ?_, h.trace.ckeep hkk hc (fun k _ e e' => by rcases hq k e' with q | q <;> rw [q] at e <;> cases e), h.len, fun i n p h1 h2 => (h.nodesKeep hkk hc (fun k _ ⟨i, t, e⟩ e' => by rcases hq k e' with q | q <;> rw [q] at e <;> cases e) i n p h1 h2), ⟨hl, h.small.2.1, h.small.2.2⟩⟩, hkk.mono (fun k _ e => by rcases hq k e with q | q; exact .inl q; exact .inr (.inl q))⟩
  · rw [heap_setCell_same hb1]; rfl
  · refine Own.keep (S := fun k => ctagsUp c w .net k = .net) ⟨hown1, fun k e => ?_⟩ hks (fun k _ e e' => ?_)
    · rcases hat with e' | e'
      · rw [e'] at e
        rw [ctagsUp_old (Own.lt h.net e)]; exact h.net.2 _ e
      · rw [e'] at e
        simp only [Option.some.injEq] at e
        exact ctagsUp_new (by omega)
    · subst e'
      rw [ctagsUp_old hpk, h.own] at e
      cases e

theorem msgCells_len (m : Msg) : (msgCells m).length = 6 := rfl
theorem erase_cells : ∀ (l : List Msg) (i : Nat), i < l.length → (l.eraseIdx i).flatMap msgCells = (l.flatMap msgCells).take (i * 6) ++ (l.flatMap msgCells).drop ((i + 1) * 6)
  | [], _, h => by simp at h
  | m :: l, 0, _ => by
    rw [List.eraseIdx_cons_zero, List.flatMap_cons, Nat.zero_mul, List.take_zero, List.nil_append, Nat.zero_add, Nat.one_mul]
    exact (List.drop_left (l₁ := msgCells m)).symm
  | m :: l, i + 1, h => by
    rw [List.eraseIdx_cons_succ, List.flatMap_cons, List.flatMap_cons, erase_cells l i (by simpa using h)]
    have e1 : (i + 1) * 6 = (msgCells m).length + i * 6 := by rw [msgCells_len]; omega
    have e2 : (i + 1 + 1) * 6 = (msgCells m).length + (i + 1) * 6 := by rw [msgCells_len]; omega
    rw [e1, List.take_length_add_append, e2, List.drop_length_add_append, ← e1, List.append_assoc]

theorem keeps_set6 (W : World) (b : Nat) (v0 v1 v2 v3 v4 v5 : Value) : Keeps (fun k => k = b) W ((((((W.setCell ⟨b, 0, none⟩ v0).setCell ⟨b, 1, none⟩ v1).setCell ⟨b, 2, none⟩ v2).setCell ⟨b, 3, none⟩ v3).setCell ⟨b, 4, none⟩ v4).setCell ⟨b, 5, none⟩ v5) :=
  ((((((Keeps.refl (fun k => k = b) W).setCell (p := ⟨b, 0, none⟩) (.inl rfl) _).setCell (p := ⟨b, 1, none⟩) (.inl rfl) _).setCell (p := ⟨b, 2, none⟩) (.inl rfl) _).setCell (p := ⟨b, 3, none⟩) (.inl rfl) _).setCell (p := ⟨b, 4, none⟩) (.inl rfl) _).setCell (p := ⟨b, 5, none⟩) (.inl rfl) _

set_option maxRecDepth 100000 in
set_option maxHeartbeats 1000000 in
theorem take_ok (c : Nat → CTag) (pk B i : Nat) (K : KM) (m : Msg) (w : World) (h : KAt c w pk K B) (hm : K.net[i]? = some m) (hB : B ≤ 1099511627776) :
    Calls Tryz.prog 51 #[.pointer (some ⟨pk, 0, none⟩), .int .i64 (i : Int)] w fun e w' => e = .returned (.tuple #[msgV m, .int .i64 0]) ∧ KFine c w pk { K with net := K.net.eraseIdx i } B w' := by
  have hi := (List.getElem?_eq_some_iff.1 hm).1
  obtain ⟨V, hV, hkV, hA, hD, hVs⟩ : ∃ V, (w.alloc (.cells #[.int .i64 0, .int .i64 0, .int .i64 0, .int .i64 0, .int .i64 0, .int .i64 0] 54)).alloc (.cells #[.int .i64 (m.kind : Int), .int .i64 (m.frm : Int), .int .i64 (m.to : Int), .int .i64 (m.txn.coord : Int), .int .i64 (m.txn.inc : Int), .int .i64 (m.txn.seq : Int)] 54) = V ∧ Keeps (fun _ => False) w V ∧ V.heap[w.heap.size]? = some (.cells #[.int .i64 0, .int .i64 0, .int .i64 0, .int .i64 0, .int .i64 0, .int .i64 0] 54 (0, 0)) ∧ V.heap[w.heap.size + 1]? = some (.cells #[.int .i64 (m.kind : Int), .int .i64 (m.frm : Int), .int .i64 (m.to : Int), .int .i64 (m.txn.coord : Int), .int .i64 (m.txn.inc : Int), .int .i64 (m.txn.seq : Int)] 54 (0, 0)) ∧ V.heap.size = w.heap.size + 2 :=
    ⟨_, rfl, ((Keeps.refl _ w).alloc _).alloc _, by rw [Below.heap_alloc _ _ _ (by simp)]; exact heap_alloc_new _ _, heap_two _ _ _, by simp⟩
  obtain ⟨vr, vn, vt, g0⟩ := h
  have hc0 := cell_of_heap (o := 1) g0.self
  simp at hc0
  have gV := g0.keep (c' := ctagsUp c w .other) hkV (fun _ hk => ctagsUp_old hk) (fun _ _ _ f => f)
  have hnet := g0.net.1
  have hnetV := gV.net.1
  rcases hnet.2 with ⟨_, e0⟩ | ⟨gn, cap, cur, e, _, _, hcap, hmax, _⟩
  · omega
  subst e
  have hcell : ∀ x u, (msgCells m)[x]? = some u → w.cell? ⟨gn, i * 6 + x, none⟩ = some u := fun x u hu => by
    have hx : x < 6 := by have := (List.getElem?_eq_some_iff.1 hu).1; rwa [msgCells_len] at this
    refine row_cell hnet ?_
    rw [flat_get msgCells 6 K.net i x m (fun _ _ => rfl) hm hx]
    exact hu
  have e0 := hcell 0 _ rfl
  rw [Nat.add_zero] at e0
  have e1 := hcell 1 _ rfl
  have e2 := hcell 2 _ rfl
  have e3 := hcell 3 _ rfl
  have e4 := hcell 4 _ rfl
  have e5 := hcell 5 _ rfl
  clear hcell
  have hN := g0.small.1
  have hd := del_any gn cap K.net.length i (K.net.flatMap msgCells) V hnetV (msgs_one K.net) hi (by omega)
  have HP : Hid (∀ w1, w1.ownsRow 0 54 6 (.slice (some ⟨gn, 0, none⟩) (K.net.length - 1) cap) (K.net.length - 1) ((K.net.flatMap msgCells).take (i * 6) ++ (K.net.flatMap msgCells).drop ((i + 1) * 6)) → Keeps (fun k => k = gn) V w1 → KFine (ctagsUp c w .other) V pk { K with net := K.net.eraseIdx i } B (w1.setCell ⟨pk, 1, none⟩ (.slice (some ⟨gn, 0, none⟩) (K.net.length - 1) cap))) := hide (fun w1 a1 a2 => by
    have hle : (K.net.eraseIdx i).length = K.net.length - 1 := List.length_eraseIdx_of_lt hi
    refine gV.netSet (K.net.eraseIdx i) (by omega) (H := V.heap.size) (a2.mono (fun k _ e => by rw [e]; rfl)) ?_ (.inl rfl) (Nat.le_refl _)
    rw [hle, erase_cells _ _ hi]
    exact a1)
  have hselfV := gV.self
  have hpn : ¬ pk = gn := fun e => by
    have h1 : c gn = .net := g0.net.2 gn rfl
    rw [← e, g0.own] at h1
    cases h1
  have hgl : gn < w.heap.size := Own.lt g0.net rfl
  have hpl : pk < w.heap.size := lt_of_heap g0.self
  clear g0 gV hnet hnetV
  unfold maxLen at hmax
  obtain ⟨fin, hfin⟩ : ∃ x : KM, x = { K with net := K.net.eraseIdx i } := ⟨_, rfl⟩
  rw [← hfin] at HP ⊢
  clear hfin hm
  unfold msgV
  obtain ⟨mk1, mf, mt, ma, mb, mc⟩ := m
  simp only [] at *
  generalize K.net.length = L at *
  generalize K.net.flatMap msgCells = xs at *
  have h0 : (0 : Int) ≤ (i : Int) := Int.natCast_nonneg _
  have h1 : ¬ ((i : Int) < 0) := by omega
  have h2 : ¬ ((L : Int) ≤ (i : Int)) := by omega
  have h3 : (i : Int) < (L : Int) := by omega
  have hwr : IntKind.i64.wrap ((i : Int) + 1) = ((i + 1 : Nat) : Int) := by rw [IntWalk.i64_in _ ⟨by omega, by omega⟩]; omega
  have cV := cell_of_heap (o := 1) hselfV
  simp at cV
  go_enter Tryz.func51, Tryz.ntmps51
  go_wp2_with fail
  go_at_call 92
  refine hd.mono ?_
  rintro e w1 ⟨rfl, r1, r2⟩
  have hfine := unhide HP w1 r1 r2
  have hs1 := r2.heap hselfV hpn
  have cS := cell_of_heap (o := 1) hs1
  have fS := frozen_of_heap (o := 1) hs1
  simp at cS
  have hA1 := r2.heap hA (fun e => by omega)
  have hD1 := r2.heap hD (fun e => by omega)
  generalize hX : w1.setCell ⟨pk, 1, none⟩ (.slice (some ⟨gn, 0, none⟩) (L - 1) cap) = X at *
  have hA2 : X.heap[w.heap.size]? = some (.cells #[.int .i64 0, .int .i64 0, .int .i64 0, .int .i64 0, .int .i64 0, .int .i64 0] 54 (0, 0)) := by
    rw [← hX]; exact ((Keeps.refl (fun k => k = pk) w1).setCell (p := ⟨pk, 1, none⟩) (.inl rfl) _).heap hA1 (fun e => by omega)
  have hD2 : X.heap[w.heap.size + 1]? = some (.cells #[.int .i64 (mk1 : Int), .int .i64 (mf : Int), .int .i64 (mt : Int), .int .i64 (ma : Int), .int .i64 (mb : Int), .int .i64 (mc : Int)] 54 (0, 0)) := by
    rw [← hX]; exact ((Keeps.refl (fun k => k = pk) w1).setCell (p := ⟨pk, 1, none⟩) (.inl rfl) _).heap hD1 (fun e => by omega)
  have HE : Hid (KFine c w pk fin B ((((((X.setCell ⟨w.heap.size, 0, none⟩ (.int .i64 (mk1 : Int))).setCell ⟨w.heap.size, 1, none⟩ (.int .i64 (mf : Int))).setCell ⟨w.heap.size, 2, none⟩ (.int .i64 (mt : Int))).setCell ⟨w.heap.size, 3, none⟩ (.int .i64 (ma : Int))).setCell ⟨w.heap.size, 4, none⟩ (.int .i64 (mb : Int))).setCell ⟨w.heap.size, 5, none⟩ (.int .i64 (mc : Int)))) := hide (by
    have hks := keeps_set6 X w.heap.size (.int .i64 (mk1 : Int)) (.int .i64 (mf : Int)) (.int .i64 (mt : Int)) (.int .i64 (ma : Int)) (.int .i64 (mb : Int)) (.int .i64 (mc : Int))
    obtain ⟨⟨c2, f2, a, b', d, g2⟩, k2⟩ := hfine
    have ho : c2 w.heap.size = .other := (f2 _ (by omega)).trans (ctagsUp_new (Nat.le_refl _))
    refine ⟨⟨c2, fun k hk => (f2 k (by omega)).trans (ctagsUp_old hk), a, b', d, g2.keep hks (fun _ _ => rfl) (fun k _ e e' => by subst e'; exact e ho)⟩, ?_⟩
    have kA : Keeps (fun k => c k = .self ∨ c k = .net ∨ c k = .trace) w X := (hkV.mono (T := fun k => c k = .self ∨ c k = .net ∨ c k = .trace) (fun _ _ f => f.elim)).trans k2 (fun k hk e => by rw [ctagsUp_old hk] at e; exact e)
    exact kA.trans hks (fun k hk e => by omega))
  have a0 := cell_of_heap (o := 0) hA2
  have a1 := cell_of_heap (o := 1) hA2
  have a2 := cell_of_heap (o := 2) hA2
  have a3 := cell_of_heap (o := 3) hA2
  have a4 := cell_of_heap (o := 4) hA2
  have a5 := cell_of_heap (o := 5) hA2
  have z0 := frozen_of_heap (o := 0) hA2
  have z1 := frozen_of_heap (o := 1) hA2
  have z2 := frozen_of_heap (o := 2) hA2
  have z3 := frozen_of_heap (o := 3) hA2
  have z4 := frozen_of_heap (o := 4) hA2
  have z5 := frozen_of_heap (o := 5) hA2
  have d0 := cell_of_heap (o := 0) hD2
  have d1 := cell_of_heap (o := 1) hD2
  have d2 := cell_of_heap (o := 2) hD2
  have d3 := cell_of_heap (o := 3) hD2
  have d4 := cell_of_heap (o := 4) hD2
  have d5 := cell_of_heap (o := 5) hD2
  simp at a0 a1 a2 a3 a4 a5 d0 d1 d2 d3 d4 d5
  clear hfine hA hD hA1 hD1 hA2 hD2 r1 r2 hd HP hselfV hs1 hkV
  go_wp2_with fail
  refine ⟨rfl, .tuple #[.agg #[.int .i64 (mk1 : Int), .int .i64 (mf : Int), .int .i64 (mt : Int), .int .i64 (ma : Int), .int .i64 (mb : Int), .int .i64 (mc : Int)], .int .i64 0], ?_, rfl, unhide HE⟩
  simp [results, Tryz.results51, go_sem, a0, a1, a2, a3, a4, a5]

end Go.Proofs.YthbmmbgkchiajaaGreat

/- A message is delivered. -/
namespace Go.Proofs.YthbmmbgkchiajaaGreat
set_option linter.unusedSimpArgs false
set_option linter.unusedVariables false
open Go.RowKit

theorem KPost.next' {c c1 : Nat → CTag} {w w1 w2 : World} {pk : Nat} {K2 : KM} {B2 : Nat} {S : Nat → Prop} (e1 : ∀ k, k < w.heap.size → c1 k = c k) (k1 : Keeps S w w1) (hS : ∀ k, S k → c k ≠ .other) (h : KPost c1 w1 pk K2 B2 w2) : KPost c w pk K2 B2 w2 := by
  obtain ⟨⟨c2, e2, g2⟩, k2⟩ := h
  refine ⟨⟨c2, fun i hi => (e2 i (Nat.lt_of_lt_of_le hi k1.size)).trans (e1 i hi), g2⟩, (k1.mono (T := fun k => c k ≠ .other) (fun k _ e => hS k e)).trans k2 (fun i hi e => ?_)⟩
  rw [← e1 i hi]; exact e

/-- What a node has done is taken in by its cluster. -/
theorem acted (c : Nat → CTag) (pk B B' i p : Nat) (K : KM) (n n' : NM) (ve : Value) (l : List Ev) (W w2 : World) (h : KAt c W pk K B) (hn : K.ns[i]? = some n) (hp : K.ps[i]? = some p) (hB : B ≤ B') (hB' : B' + l.length + 1000 ≤ 1099511627776) (hl : l.length ≤ 1000) (hres : NPost (nodeTags c i) W p n' B' w2) (hev : EvsOut (nodeTags c i) W w2 ve l) :
    Calls Tryz.prog 49 #[.pointer (some ⟨pk, 0, none⟩), ve] w2 fun e w' => e = .returned (.tuple #[]) ∧ KPost c W pk { K with ns := K.ns.set i n', net := K.net ++ sentOf l, trace := K.trace ++ l } (B' + l.length) w' := by
  obtain ⟨vr, vn, vt, g⟩ := h
  obtain ⟨⟨c', f1, f2, g1⟩, k1⟩ := g.nodePost' hn hp hB (by omega) hres
  refine (gather_all c' pk B' ve _ l w2 g1 hl hev.1 (fun k hk => ?_) hB').mono ?_
  · have : ∃ j t, c' k = .node j t := by
      by_cases hlt : k < W.heap.size
      · have h1 := hev.2 k hk hlt
        rw [f1 k hlt]
        unfold nodeTags at h1
        cases hck : c k with
        | node j t => exact ⟨j, t, rfl⟩
        | other => rw [hck] at h1; exact absurd rfl h1
        | self => rw [hck] at h1; exact absurd rfl h1
        | row => rw [hck] at h1; exact absurd rfl h1
        | net => rw [hck] at h1; exact absurd rfl h1
        | trace => rw [hck] at h1; exact absurd rfl h1
      · obtain ⟨t, e⟩ := f2 k (by omega)
        exact ⟨i, t, e⟩
    obtain ⟨j, t, e⟩ := this
    rw [e]
    simp
  · rintro e w' ⟨rfl, hf⟩
    exact ⟨rfl, KPost.next' f1 k1 (fun k ⟨t, e⟩ => by rw [e]; simp) hf.post⟩

set_option maxRecDepth 100000 in
set_option maxHeartbeats 1000000 in
theorem deliver_ok (c : Nat → CTag) (pk B i p : Nat) (K : KM) (m : Msg) (n k : NM) (w : World) (h : KAt c w pk K B) (hm : K.net[i]? = some m) (hn : K.ns[m.to]? = some n) (hp : K.ps[m.to]? = some p) (hup : n.up = true) (hz : n.fuse = none) (hf : m.frm < 4) (ht : m.txn.coord < 4) (hk : n.act m = .ok k) (hl : k.evs.length ≤ 1000) (hB : B + 10 + k.evs.length + 1000 ≤ 1099511627776) :
    Calls Tryz.prog 20 #[.pointer (some ⟨pk, 0, none⟩), .int .i64 (i : Int)] w fun e w' => e = .returned (.int .i64 0) ∧ KPost c w pk { ns := K.ns.set m.to { k.tidy with evs := [] }, ps := K.ps, net := K.net.eraseIdx i ++ sentOf k.evs, trace := K.trace ++ k.evs } (B + 10 + k.evs.length) w' := by
  have htk := take_ok c pk B i K m w h hm (by omega)
  obtain ⟨fin, hfin⟩ : ∃ x : KM, x = { ns := K.ns.set m.to { k.tidy with evs := [] }, ps := K.ps, net := K.net.eraseIdx i ++ sentOf k.evs, trace := K.trace ++ k.evs } := ⟨_, rfl⟩
  obtain ⟨n', hn'⟩ : ∃ x : NM, x = { k.tidy with evs := [] } := ⟨_, rfl⟩
  have hto : m.to < K.ps.length := (List.getElem?_eq_some_iff.1 hp).1
  rw [← hfin]
  have HF : Hid (∀ w1, KFine c w pk { K with net := K.net.eraseIdx i } B w1 → ∃ (c2 : Nat → CTag) (vr vn vt : Value) (gr cap : Nat), vr = .slice (some ⟨gr, 0, none⟩) K.ps.length cap ∧ w1.cell? ⟨pk, 0, none⟩ = some vr ∧ w1.cell? ⟨gr, m.to, none⟩ = some (.pointer (some ⟨p, 0, none⟩)) ∧ pk < w1.heap.size ∧ gr < w1.heap.size ∧ KG c2 w1 pk { K with net := K.net.eraseIdx i } B vr vn vt ∧ (∀ w2 K2 B2, KPost c2 w1 pk K2 B2 w2 → KPost c w pk K2 B2 w2)) := hide (fun w1 h1 => by
    obtain ⟨c2, f2, ⟨vr, vn, vt, g⟩, t2⟩ := h1.post.next
    have c0 := cell_of_heap (o := 0) g.self
    simp at c0
    rcases g.rowAt with ⟨_, e0⟩ | ⟨gr, cap, e, hc, hi⟩
    · have e0' : K.ps = [] := e0
      rw [e0'] at hto; simp at hto
    · have hcell := hi m.to p hp
      subst e
      exact ⟨c2, _, vn, vt, gr, cap, rfl, c0, hcell, lt_of_heap g.self, Own.lt g.row rfl, g, t2⟩)
  have h4 : K.ps.length ≤ 4 := by obtain ⟨_, _, _, g⟩ := h; exact g.len ▸ g.small.2.2
  have HA : Hid (∀ (c2 : Nat → CTag) (W : World), KAt c2 W pk { K with net := K.net.eraseIdx i } B → (Calls Tryz.prog 52 #[.pointer (some ⟨p, 0, none⟩)] W fun e w' => e = .returned (.bool true) ∧ w' = W) ∧ Calls Tryz.prog 53 #[.pointer (some ⟨p, 0, none⟩), msgV m] W fun e w' => ∃ ve, e = .returned (.tuple #[ve, .int .i64 0]) ∧ NPost (nodeTags c2 m.to) W p n' (B + 10) w' ∧ EvsOut (nodeTags c2 m.to) W w' ve k.evs) := hide (fun c2 W h2 => by
    obtain ⟨_, _, _, g⟩ := h2
    have hN := g.nodes m.to n p hn hp
    have h3 := nodeAct_any _ p B n k m W hN hup hz hf ht hk (by omega)
    rw [← hn'] at h3
    exact ⟨hup ▸ up_any _ p B n W hN, h3⟩)
  have HC : Hid (∀ (c2 : Nat → CTag) (W w2 : World) (ve : Value), KAt c2 W pk { K with net := K.net.eraseIdx i } B → NPost (nodeTags c2 m.to) W p n' (B + 10) w2 → EvsOut (nodeTags c2 m.to) W w2 ve k.evs → Calls Tryz.prog 49 #[.pointer (some ⟨pk, 0, none⟩), ve] w2 fun e w' => e = .returned (.tuple #[]) ∧ KPost c2 W pk fin (B + 10 + k.evs.length) w') := hide (fun c2 W w2 ve a1 a2 a3 => by
    have := acted c2 pk B (B + 10) m.to p _ n n' ve k.evs W w2 a1 hn hp (by omega) (by omega) hl a2 a3
    rw [hfin, ← hn']
    exact this)
  clear h hm hn hp hup hz hf ht hk hfin hn'
  unfold msgV at htk HA
  obtain ⟨mk1, mf, mt, ma, mb, mc⟩ := m
  simp only [] at *
  generalize k.evs = L at *
  go_enter Tryz.func20, Tryz.ntmps20
  go_wp2_with fail
  go_at_call 51
  refine htk.mono ?_
  rintro e w1 ⟨rfl, h1⟩
  obtain ⟨c2, vr, vn, vt, gr, cap, rfl, c0, cm, hpl, hgl, g2, t2⟩ := unhide HF w1 h1
  have h0 : (0 : Int) ≤ (mt : Int) := Int.natCast_nonneg _
  have hlt : (mt : Int) < (K.ps.length : Int) := by omega
  go_wp2_with fail
  generalize hW : World.alloc w1 _ = W
  have hkW : Keeps (fun _ => False) w1 W := by rw [← hW]; exact (Keeps.refl _ w1).alloc _
  have hA : W.heap[w1.heap.size]? = some (.cells #[.int .i64 (mk1 : Int), .int .i64 (mf : Int), .int .i64 (mt : Int), .int .i64 (ma : Int), .int .i64 (mb : Int), .int .i64 (mc : Int)] 54 (0, 0)) := by
    rw [← hW]; exact heap_alloc_new _ _
  clear hW
  have e0 := hkW.cell' c0 (fun f => f)
  have em := hkW.cell' cm (fun f => f)
  have d2 := cell_of_heap (o := 2) hA
  simp at d2
  have gW := g2.keep (c' := ctagsUp c2 w1 .other) hkW (fun _ hk => ctagsUp_old hk) (fun _ _ _ f => f)
  have T2 : Hid (∀ w2 K2 B2, KPost (ctagsUp c2 w1 .other) W pk K2 B2 w2 → KPost c w pk K2 B2 w2) := hide (fun w2 K2 B2 h => t2 _ _ _ (h.from hkW))
  clear c0 cm g2 t2 h1 hpl hgl
  have hpl := lt_of_heap gW.self
  have hgl : gr < W.heap.size := Own.lt gW.row rfl
  go_region_held3 (fun w' => w'.cell? ⟨pk, 0, none⟩ = some (.slice (some ⟨gr, 0, none⟩) K.ps.length cap) ∧ w'.cell? ⟨gr, mt, none⟩ = some (.pointer (some ⟨p, 0, none⟩)) ∧ w'.cell? ⟨w1.heap.size, 2, none⟩ = some (.int .i64 (mt : Int))) (exact ⟨e0, em, d2⟩) (fail)
  have gX := gW.keep (w' := W.drew) (c' := ctagsUp c2 w1 .other) (T := fun _ => False) ((Keeps.refl (fun _ => False) W).drew) (fun _ _ => rfl) (fun _ _ _ f => f)
  obtain ⟨X, hX⟩ : ∃ X, X = W.drew := ⟨_, rfl⟩
  rw [← hX] at gX ⊢
  have hkX : Keeps (fun _ => False) W X := by rw [hX]; exact (Keeps.refl _ W).drew
  have T3 : Hid (∀ w2 K2 B2, KPost (ctagsUp c2 w1 .other) X pk K2 B2 w2 → KPost c w pk K2 B2 w2) := hide (fun w2 K2 B2 h => unhide T2 _ _ _ (KPost.next' (S := fun _ => False) (fun _ _ => rfl) hkX (fun _ f => f.elim) h))
  have hA1 := hkX.heap hA (fun f => f)
  have k0 := cell_of_heap (o := 0) hA1
  have k1 := cell_of_heap (o := 1) hA1
  have k2 := cell_of_heap (o := 2) hA1
  have k3 := cell_of_heap (o := 3) hA1
  have k4 := cell_of_heap (o := 4) hA1
  have k5 := cell_of_heap (o := 5) hA1
  simp at k0 k1 k2 k3 k4 k5
  obtain ⟨hu, ha⟩ := unhide HA _ X ⟨_, _, _, gX⟩
  have hgt := unhide HC (ctagsUp c2 w1 .other) X
  have HX : Hid (KAt (ctagsUp c2 w1 .other) X pk { K with net := K.net.eraseIdx i } B) := hide ⟨_, _, _, gX⟩
  clear gX gW hX e0 em d2 hA hA1 hkX hkW T2 HF HA HC htk
  go_wp2_with fail
  go_at_call 52
  refine hu.mono ?_
  rintro e w'' ⟨rfl, hw⟩
  subst hw
  go_wp2_with fail
  go_at_call 53
  refine ha.mono ?_
  rintro e w2 ⟨ve, rfl, r1, r2⟩
  have hg3 := hgt w2 ve (unhide HX) r1 r2
  clear hgt r1 r2 ha hu
  go_wp2_with fail
  go_at_call 49
  refine hg3.mono ?_
  rintro e w3 ⟨rfl, r3⟩
  have HR := hide (unhide T3 _ _ _ r3)
  clear r3 hg3 T3 HX
  go_wp2
  go_ret
  exact ⟨rfl, unhide HR⟩

end Go.Proofs.YthbmmbgkchiajaaGreat
