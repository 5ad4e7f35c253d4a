
/- A record written; the fuse. -/
import Derived.Test.YthbmmbgkchiajaaGreatNPack
import Derived.WalkSmall
import Derived.WalkMore

namespace Go.Proofs.YthbmmbgkchiajaaGreat
set_option linter.unusedSimpArgs false
set_option linter.unusedVariables false
open Go.RowKit

theorem NG.cell {o : Nat → Tag} {w : World} {p : Nat} {n : NM} {B pd : Nat} {vj vf : Value} {bo bp : Nat} {ve : Value} (h : NG o w p n B pd vj vf bo bp ve) (i : Nat) : w.cell? ⟨p, i, none⟩ = (nodeCells n pd vj vf bo bp ve)[i]? := cell_of_heap h.self

/-- The answers of a fuse, in memory. -/
def KeepAt (o : Nat → Tag) (w : World) (ak : Option Addr) (keep : List Bool) : Prop := ∀ j, j < keep.length → ∃ gk ok, ak = some ⟨gk, ok, none⟩ ∧ o gk = .fuse ∧ w.cell? ⟨gk, ok + j, none⟩ = some (.bool (keep.getD j false))
/-- The power has failed. -/
def PEnd (o : Nat → Tag) (w : World) (p B : Nat) (n : NM) (e : Ending) (w' : World) : Prop :=
  (∃ o' ak kc keep, (∀ k, k < w.heap.size → o' k = o k) ∧ NodeAt o' w' p n B ∧ n.fuse = some (0, keep) ∧ e = .panicked [{ v := .iface 285 (.agg #[.slice ak keep.length kc]), recovered := false }] ∧ KeepAt o' w' ak keep ∧ keep.length ≤ 9223372036854775807 ∧ keep.length ≤ kc) ∧ Keeps (fun k => o k ≠ .other) w w'
def Res (o : Nat → Tag) (w : World) (p B : Nat) (r : Except NM NM) (e : Ending) (w' : World) : Prop :=
  match r with
  | .ok n => e = .returned (.tuple #[]) ∧ NPost o w p n B w'
  | .error n => PEnd o w p B n e w'
def ResN (o : Nat → Tag) (w : World) (p B : Nat) (r : Except NM (Nat × NM)) (e : Ending) (w' : World) : Prop :=
  match r with
  | .ok (i, n) => e = .returned (.int .i64 (i : Int)) ∧ NPost o w p n B w'
  | .error n => PEnd o w p B n e w'

theorem PEnd.trans {o : Nat → Tag} {w w1 w2 : World} {p : Nat} {n1 n2 : NM} {B1 B2 : Nat} {e : Ending} (h : NPost o w p n1 B1 w1) (k : ∀ o', NodeAt o' w1 p n1 B1 → PEnd o' w1 p B2 n2 e w2) : PEnd o w p B2 n2 e w2 := by
  obtain ⟨⟨o1, e1, g1⟩, k1⟩ := h
  obtain ⟨⟨o2, ak, kc, keep, e2, g2, r⟩, k2⟩ := k o1 g1
  refine ⟨⟨o2, ak, kc, keep, fun i hi => (e2 i (Nat.lt_of_lt_of_le hi k1.size)).trans (e1 i hi), g2, r⟩, k1.trans k2 (fun i hi e => ?_)⟩
  rw [← e1 i hi]; exact e
theorem PEnd.up {o : Nat → Tag} {w w' : World} {p : Nat} {n : NM} {B B' : Nat} {e : Ending} (h : PEnd o w p B n e w') (hB : B ≤ B') (hB' : B' ≤ 1099511627776) : PEnd o w p B' n e w' := by
  obtain ⟨⟨o', ak, kc, keep, e1, g, r⟩, k⟩ := h
  exact ⟨⟨o', ak, kc, keep, e1, g.up hB hB', r⟩, k⟩

theorem NodeAt.begin {o : Nat → Tag} {w W : World} {p : Nat} {n : NM} {B : Nat} (h : NodeAt o w p n B) (hk : Keeps (fun _ => False) w W) : NodeAt (tagsUp o w .other) W p n B := h.keep hk (fun _ hk => tagsUp_old hk) (fun _ _ _ f => f)
theorem NPost.from {o : Nat → Tag} {w W w' : World} {p : Nat} {n : NM} {B : Nat} (hk : Keeps (fun _ => False) w W) (h : NPost (tagsUp o w .other) W p n B w') : NPost o w p n B w' := by
  obtain ⟨⟨o1, e1, g1⟩, k1⟩ := h
  refine ⟨⟨o1, fun i hi => (e1 i (Nat.lt_of_lt_of_le hi hk.size)).trans (tagsUp_old hi), g1⟩, (hk.mono (T := fun k => o k ≠ .other) (fun _ _ f => f.elim)).trans k1 (fun i hi e => ?_)⟩
  rw [tagsUp_old hi] at e; exact e
theorem PEnd.from {o : Nat → Tag} {w W w' : World} {p : Nat} {n : NM} {B : Nat} {e : Ending} (hk : Keeps (fun _ => False) w W) (h : PEnd (tagsUp o w .other) W p B n e w') : PEnd o w p B n e w' := by
  obtain ⟨⟨o1, ak, kc, keep, e1, r⟩, k1⟩ := h
  refine ⟨⟨o1, ak, kc, keep, fun i hi => (e1 i (Nat.lt_of_lt_of_le hi hk.size)).trans (tagsUp_old hi), r⟩, (hk.mono (T := fun k => o k ≠ .other) (fun _ _ f => f.elim)).trans k1 (fun i hi e => ?_)⟩
  rw [tagsUp_old hi] at e; exact e
/-- What is not the node's stays. -/
theorem NPost.frame {o : Nat → Tag} {w w' : World} {p : Nat} {n : NM} {B : Nat} (h : NPost o w p n B w') {b : Nat} {x : Obj} (hb : w.heap[b]? = some x) (ho : o b = .other) : w'.heap[b]? = some x := h.2.heap hb (fun e => e ho)
/-- Going on behind a call. -/
theorem NPost.next {o : Nat → Tag} {w w' : World} {p : Nat} {n : NM} {B : Nat} (h : NPost o w p n B w') : ∃ o', (∀ k, k < w.heap.size → o' k = o k) ∧ NodeAt o' w' p n B ∧ (∀ w2 n2 B2, NPost o' w' p n2 B2 w2 → NPost o w p n2 B2 w2) ∧ (∀ w2 n2 B2 e, PEnd o' w' p B2 n2 e w2 → PEnd o w p B2 n2 e w2) := by
  obtain ⟨⟨o1, e1, g1⟩, k1⟩ := h
  refine ⟨o1, e1, g1, fun w2 n2 B2 k => ?_, fun w2 n2 B2 e k => ?_⟩
  · obtain ⟨⟨o2, e2, g2⟩, k2⟩ := k
    refine ⟨⟨o2, fun i hi => (e2 i (Nat.lt_of_lt_of_le hi k1.size)).trans (e1 i hi), g2⟩, k1.trans k2 (fun i hi e => ?_)⟩
    rw [← e1 i hi]; exact e
  · obtain ⟨⟨o2, ak, kc, keep, e2, r⟩, k2⟩ := k
    refine ⟨⟨o2, ak, kc, keep, fun i hi => (e2 i (Nat.lt_of_lt_of_le hi k1.size)).trans (e1 i hi), r⟩, k1.trans k2 (fun i hi e => ?_)⟩
    rw [← e1 i hi]; exact e

def NM.burn (n : NM) : Except NM NM :=
  match n.fuse with
  | some (0, _) => .error n
  | some (k + 1, keep) => .ok { n with fuse := some (k, keep) }
  | none => .ok n

theorem burn_end {o : Nat → Tag} {w : World} {p : Nat} {n : NM} {B pd : Nat} {vj : Value} {bo bp : Nat} {ve : Value} {pf k kc : Nat} {ak : Option Addr} {keep : List Bool} (h : NG o w p n B pd vj (.pointer (some ⟨pf, 0, none⟩)) bo bp ve) (hf : n.fuse = some (k + 1, keep)) (h1 : o pf = .fuse) (h2 : w.heap[pf]? = some (.cells #[.int .i64 ((k + 1 : Nat) : Int), .slice ak keep.length kc] 217 (0, 0)))
    (h3 : ∀ j, j < keep.length → ∃ gk ok, ak = some ⟨gk, ok, none⟩ ∧ o gk = .fuse ∧ gk ≠ pf ∧ w.cell? ⟨gk, ok + j, none⟩ = some (.bool (keep.getD j false))) (h4 : k + 1 < 9223372036854775808 ∧ keep.length ≤ 9223372036854775807 ∧ keep.length ≤ kc) :
    NPost o w p { n with fuse := some (k, keep) } B (w.setCell ⟨pf, 0, none⟩ (.int .i64 (k : Int))) := by
  have hk : Keeps (fun i => i = pf) w (w.setCell ⟨pf, 0, none⟩ (.int .i64 (k : Int))) := (Keeps.refl (fun i => i = pf) w).setCell (p := ⟨pf, 0, none⟩) (.inl rfl) _
  refine ⟨⟨o, fun _ _ => rfl, pd, vj, .pointer (some ⟨pf, 0, none⟩), bo, bp, ve, ?_, h.own, h.opens.keep hk (fun _ _ => rfl) ?_, h.preps.keep hk (fun _ _ => rfl) ?_, h.evs.keep hk (fun _ _ => rfl) ?_, ?_, h.jour.keep hk (fun _ _ => rfl) ?_, ?_, h.eqs⟩, hk.mono (fun i _ e => by subst e; rw [h1]; simp)⟩
  · exact hk.heap h.self (fun e => by have := h.own; rw [e, h1] at this; cases this)
  · intro i _ e e'; subst e'; rw [h1] at e; simp at e
  · intro i _ e e'; subst e'; rw [h1] at e; simp at e
  · intro i _ e e'; subst e'; rw [h1] at e; simp at e
  · refine ⟨pf, ak, kc, rfl, h1, ?_, fun j hj => ?_, by omega, h4.2⟩
    · rw [heap_setCell_same h2]; rfl
    · obtain ⟨gk, ok, e1, e2, e3, e4⟩ := h3 j hj
      exact ⟨gk, ok, e1, e2, e3, hk.cell' e4 e3⟩
  · intro i _ e e'; subst e'; rw [h1] at e; simp at e
  · have hs := h.small
    exact ⟨hs.id, hs.variant, hs.patience, hs.inc, hs.forced, hs.lazies, hs.sent, hs.recs, hs.begun, hs.evs, hs.marks, hs.deals, hs.preps, hs.opensL, hs.prepsL, hs.big⟩

set_option maxRecDepth 100000 in
set_option maxHeartbeats 400000 in
theorem burn_any (o : Nat → Tag) (p B : Nat) (n : NM) (w : World) (h : NodeAt o w p n B) :
    Calls Tryz.prog 279 #[.pointer (some ⟨p, 0, none⟩)] w fun e w' => Res o w p B n.burn e w' := by
  have hN := h
  obtain ⟨pd, vj, vf, bo, bp, ve, h⟩ := h
  have c13 := h.cell 13
  simp [nodeCells] at c13
  have hfu := h.fuse
  unfold NM.burn
  cases hf : n.fuse with
  | none =>
    rw [hf] at hfu
    unfold FuseAt at hfu
    subst hfu
    clear h
    have HN := hide hN
    clear hN
    go_enter Tryz.func279, Tryz.ntmps279
    go_wp2
    go_end0
    exact ⟨rfl, NPost.refl (unhide HN)⟩
  | some y =>
    obtain ⟨k, keep⟩ := y
    rw [hf] at hfu
    obtain ⟨pf, ak, kc, rfl, g1, g2, g3, g4⟩ := hfu
    have f0 := cell_of_heap (o := 0) g2
    have f1 := cell_of_heap (o := 1) g2
    have ff := frozen_of_heap (o := 0) g2
    simp at f0 f1
    cases k with
    | zero =>
      have HG := hide (And.intro hN (And.intro g3 g4))
      clear h hN g2 g3
      go_enter Tryz.func279, Tryz.ntmps279
      go_wp2
      obtain ⟨q1, q2, q3⟩ := unhide HG
      exact ⟨rfl, ⟨o, ak, kc, keep, fun _ _ => rfl, q1, hf, rfl, fun j hj => by obtain ⟨gk, ok, e1, e2, _, e4⟩ := q2 j hj; exact ⟨gk, ok, e1, e2, e4⟩, q3.2.1, q3.2.2⟩, Keeps.refl _ _⟩
    | succ k =>
      have hk0 : ((k : Int) + 1 == 0) = false := by rw [beq_eq_false_iff_ne]; omega
      have HG := hide (burn_end h hf g1 g2 g3 g4)
      have hkb := g4.1
      clear h hN g2 g3 g4
      go_enter Tryz.func279, Tryz.ntmps279
      go_wp2
      go_end0
      exact ⟨rfl, unhide HG⟩

/-- What has changed is the journal and its disk. -/
theorem NG.jourPost {o : Nat → Tag} {w w' : World} {p : Nat} {n n' : NM} {B B' pd pj : Nat} {vf : Value} {bo bp : Nat} {ve : Value} {m' : DM} (h : NG o w p n B pd (.pointer (some ⟨pj, 0, none⟩)) vf bo bp ve) (hk : Keeps (fun k => o k = .jour) w w')
    (hj : JUse (fun k => (k < w.heap.size ∧ o k = .jour) ∨ w.heap.size ≤ k) w' pj pd n'.jm m') (hm : m'.syncs ≤ B') (ec : nodeCells n' pd (.pointer (some ⟨pj, 0, none⟩)) vf bo bp ve = nodeCells n pd (.pointer (some ⟨pj, 0, none⟩)) vf bo bp ve) (e1 : n'.opn = n.opn) (e2 : n'.prep = n.prep) (e3 : n'.fuse = n.fuse) (e4 : n'.up = true) (e5 : n'.evs = n.evs) (eg : (n'.pd, n'.bo, n'.bp) = (n.pd, n.bo, n.bp)) (hsm : Small n' B') : NPost o w p n' B' w' := by
  have hp := lt_of_heap h.self
  have ho : ∀ k, k < w.heap.size → tagsUp o w .jour k = o k := fun k hk => tagsUp_old hk
  refine ⟨⟨tagsUp o w .jour, ho, pd, .pointer (some ⟨pj, 0, none⟩), vf, bo, bp, ve, ?_, (ho _ hp).trans h.own, ?_, ?_, ?_, ?_, ?_, hsm, h.eqs.trans eg.symm⟩, hk.mono (fun k _ e => by rw [e]; simp)⟩
  · rw [ec]; exact hk.heap h.self (fun e => by rw [h.own] at e; cases e)
  · rw [e1]; exact h.opens.keep hk ho (fun k _ e e' => by rw [e'] at e; simp at e)
  · rw [e2]; exact h.preps.keep hk ho (fun k _ e e' => by rw [e'] at e; simp at e)
  · rw [e5]; exact h.evs.keep hk ho (fun k _ e e' => by rw [e'] at e; simp at e)
  · rw [e3]; exact h.fuse.keep hk ho (fun k _ e e' => by rw [e'] at e; simp at e)
  · unfold JourAt
    rw [e4, if_pos rfl]
    refine ⟨pj, m', rfl, hj.mono (fun k _ e => ?_), hm⟩
    rcases e with e | e
    · exact (ho k e.1).trans e.2
    · exact tagsUp_new e

theorem write_eq (n : NM) (r : Rec) : n.write r = (match n.burn with
    | .error m => .error m
    | .ok m => if m.jm.full then .ok (0, m) else .ok (m.recs.length + 1, { m with recs := m.recs ++ [r] })) := by
  unfold NM.write NM.burn
  obtain ⟨id, cfg, up, inc, refuses, forced, lazies, sent, recs, low, safe, notes, fuse, begun, opn, prep, marks, evs, pd, bo, bp⟩ := n
  cases fuse with
  | none => rfl
  | some y =>
    obtain ⟨k, keep⟩ := y
    cases k with
    | zero => rfl
    | succ k => rfl
theorem burn_up {n m : NM} (h : n.burn = .ok m) : m.up = n.up ∧ m.jm = n.jm := by
  unfold NM.burn at h
  split at h
  · cases h
  · cases h; exact ⟨rfl, rfl⟩
  · cases h; exact ⟨rfl, rfl⟩
theorem put_syncs (m : DM) (i : Nat) (s : ByteArray) : (m.put i s).syncs = m.syncs := rfl
theorem sync_syncs (m : DM) : m.sync.syncs = m.syncs + 1 := rfl

def recV (r : Rec) : Value := .agg #[.int .i64 (r.kind : Int), .int .i64 (r.txn.coord : Int), .int .i64 (r.txn.inc : Int), .int .i64 (r.txn.seq : Int), .int .i64 (r.nodes : Int), .int .i64 (r.outcome : Int)]

/-- Behind an append. -/
theorem append_end {o : Nat → Tag} {w w2 w3 : World} {p : Nat} {n : NM} {B pd pj : Nat} {vf : Value} {bo bp : Nat} {ve : Value} {m : DM} {r : Rec} (h : NG o w p n B pd (.pointer (some ⟨pj, 0, none⟩)) vf bo bp ve) (hB : B + 1 ≤ 1099511627776) (hup : n.up = true) (hm : m.syncs ≤ B) (hk2 : Keeps (fun _ => False) w w2)
    (hj : JUse (fun k => (k < w.heap.size ∧ o k = .jour) ∨ w2.heap.size ≤ k) w3 pj pd { n.jm with L := n.jm.L ++ [r.bytes] } (m.put (slot n.jm.ring n.jm.per (n.jm.L.length + 1)) (packB (n.jm.L.length + 1) 0 r.bytes))) (hk3 : Keeps (fun k => k < w.heap.size ∧ o k = .jour) w2 w3) :
    NPost o w p { n with recs := n.recs ++ [r] } (B + 1) w3 := by
  have hsz := hk2.size
  refine h.jourPost (n' := { n with recs := n.recs ++ [r] }) ?_ (m' := m.put (slot n.jm.ring n.jm.per (n.jm.L.length + 1)) (packB (n.jm.L.length + 1) 0 r.bytes)) ?_ (by rw [put_syncs]; omega) rfl rfl rfl rfl hup rfl rfl ?_
  · exact (hk2.mono (T := fun k => o k = .jour) (fun _ _ f => f.elim)).trans hk3 (fun _ _ e => e.2)
  · have e : ({ n with recs := n.recs ++ [r] } : NM).jm = { n.jm with L := n.jm.L ++ [r.bytes] } := by unfold NM.jm; simp
    rw [e]
    exact hj.mono (fun k _ e => by rcases e with e | e; exact .inl e; exact .inr (by omega))
  · have hs := h.small.up (B' := B + 1) (by omega) hB
    have hr := h.small.recs
    exact ⟨hs.id, hs.variant, hs.patience, hs.inc, hs.forced, hs.lazies, hs.sent, by show (n.recs ++ [r]).length ≤ B + 1; rw [List.length_append, List.length_singleton]; omega, hs.begun, hs.evs, hs.marks, hs.deals, hs.preps, hs.opensL, hs.prepsL, hB⟩

theorem NG.jour' {o : Nat → Tag} {w : World} {p : Nat} {n : NM} {B pd : Nat} {vj vf : Value} {bo bp : Nat} {ve : Value} (h : NG o w p n B pd vj vf bo bp ve) (hup : n.up = true) : ∃ pj m, vj = .pointer (some ⟨pj, 0, none⟩) ∧ JUse (fun k => k < w.heap.size ∧ o k = .jour) w pj pd n.jm m ∧ m.syncs ≤ B := by
  have := h.jour
  unfold JourAt at this
  rw [hup, if_pos rfl] at this
  obtain ⟨pj, m, h1, h2, h3⟩ := this
  exact ⟨pj, m, h1, h2.mono (fun k hk e => ⟨hk, e⟩), h3⟩

set_option maxRecDepth 100000 in
set_option maxHeartbeats 400000 in
theorem write_any (o : Nat → Tag) (p B : Nat) (n : NM) (r : Rec) (w : World) (h : NodeAt o w p n B) (hup : n.up = true) (hB : B + 1 ≤ 1099511627776) :
    Calls Tryz.prog 225 #[.pointer (some ⟨p, 0, none⟩), recV r] w fun e w' => ResN o w p (B + 1) (n.write r) e w' := by
  rw [write_eq]
  have hkA : Keeps (fun _ => False) w (w.alloc (.cells #[.int .i64 (r.kind : Int), .int .i64 (r.txn.coord : Int), .int .i64 (r.txn.inc : Int), .int .i64 (r.txn.seq : Int), .int .i64 (r.nodes : Int), .int .i64 (r.outcome : Int)] 211)) := (Keeps.refl _ w).alloc _
  have hA : (w.alloc (.cells #[.int .i64 (r.kind : Int), .int .i64 (r.txn.coord : Int), .int .i64 (r.txn.inc : Int), .int .i64 (r.txn.seq : Int), .int .i64 (r.nodes : Int), .int .i64 (r.outcome : Int)] 211)).heap[w.heap.size]? = some (.cells #[.int .i64 (r.kind : Int), .int .i64 (r.txn.coord : Int), .int .i64 (r.txn.inc : Int), .int .i64 (r.txn.seq : Int), .int .i64 (r.nodes : Int), .int .i64 (r.outcome : Int)] 211 (0, 0)) := heap_alloc_new _ _
  have h0 := h.begin hkA
  have hburn := burn_any _ p B n _ h0
  have ho0 : tagsUp o w .other w.heap.size = .other := tagsUp_new (Nat.le_refl _)
  have hpk := fun W => rPack_any r W
  unfold recV
  cases hb : n.burn with
  | error m =>
    rw [hb] at hburn
    go_enter Tryz.func225, Tryz.ntmps225
    go_wp2_with (go_at_call 279; refine hburn.mono ?_; rintro e w1 hres; have hres' := hres; obtain ⟨⟨o1, ak, kc, keep, q1, q2, q3, rfl, q4⟩, hk1⟩ := hres)
    exact ⟨rfl, PEnd.from hkA (hres'.up (by omega) hB)⟩
  | ok m =>
    rw [hb] at hburn
    have HU := hide ((burn_up hb).1.trans hup)
    have HA := hide hA
    clear hA
    go_enter Tryz.func225, Tryz.ntmps225
    go_wp2_with fail
    go_at_call 279
    refine hburn.mono ?_
    rintro e w1 ⟨rfl, hres⟩
    have hA1 := hres.frame (unhide HA) ho0
    obtain ⟨o1, f1, g1, t1, _⟩ := hres.next
    have ho1 := (f1 w.heap.size (by simp)).trans ho0
    obtain ⟨pd, vj, vf, bo, bp, ve, g⟩ := g1
    obtain ⟨pj, dm, rfl, hJ, hdm⟩ := g.jour' (unhide HU)
    have c12 := g.cell 12
    simp [nodeCells] at c12
    have d0 := cell_of_heap (o := 0) hA1
    have d1 := cell_of_heap (o := 1) hA1
    have d2 := cell_of_heap (o := 2) hA1
    have d3 := cell_of_heap (o := 3) hA1
    have d4 := cell_of_heap (o := 4) hA1
    have d5 := cell_of_heap (o := 5) hA1
    simp at d0 d1 d2 d3 d4 d5
    have hsm := g.small
    by_cases hfull : m.jm.full
    · have HE : Hid (∀ w3, Keeps (fun _ => False) w1 w3 → NPost o w p m (B + 1) w3) := hide (fun w3 hk => ((NPost.from hkA (t1 _ _ _ (NodeAt.quiet ⟨pd, _, vf, bo, bp, ve, g⟩ hk))).up (by omega) hB))
      have HJ := hide hJ
      have HF := hide hfull
      clear hJ g hA1 hsm hres hburn h0 HA hfull f1 t1
      go_wp2_with fail
      go_region_held3 (fun w' => w'.cell? ⟨p, 12, none⟩ = some (.pointer (some ⟨pj, 0, none⟩)) ∧ w'.cell? ⟨w.heap.size, 0, none⟩ = some (.int .i64 (r.kind : Int)) ∧ w'.cell? ⟨w.heap.size, 1, none⟩ = some (.int .i64 (r.txn.coord : Int)) ∧ w'.cell? ⟨w.heap.size, 2, none⟩ = some (.int .i64 (r.txn.inc : Int)) ∧ w'.cell? ⟨w.heap.size, 3, none⟩ = some (.int .i64 (r.txn.seq : Int)) ∧ w'.cell? ⟨w.heap.size, 4, none⟩ = some (.int .i64 (r.nodes : Int)) ∧ w'.cell? ⟨w.heap.size, 5, none⟩ = some (.int .i64 (r.outcome : Int))) (first | exact ⟨c12, d0, d1, d2, d3, d4, d5⟩ | exact ⟨hk3.cell' c12 (fun f => f), hk3.cell' d0 (fun f => f), hk3.cell' d1 (fun f => f), hk3.cell' d2 (fun f => f), hk3.cell' d3 (fun f => f), hk3.cell' d4 (fun f => f), hk3.cell' d5 (fun f => f)⟩ | exact ⟨hk2.cell' c12 (fun f => f), hk2.cell' d0 (fun f => f), hk2.cell' d1 (fun f => f), hk2.cell' d2 (fun f => f), hk2.cell' d3 (fun f => f), hk2.cell' d4 (fun f => f), hk2.cell' d5 (fun f => f)⟩) (first
        | (go_at_call 280; refine (hpk _).mono ?_; rintro e w2 ⟨v2, rfl, hv2, hk2'⟩; have hk2 := hk2'.unDrew; clear hk2'; obtain ⟨ao, cap, rfl, hv3, _, _⟩ := hv2)
        | (go_at_call 186; refine (use_append_full _ pj pd r.bytes.size cap ao m.jm dm _ ((unhide HJ).keep hk2 (fun _ _ _ f => f)) (by rw [Rec.bytes_size]; omega) (unhide HF)).mono ?_; rintro e w3 ⟨rfl, hk3'⟩; have hk3 := hk2.trans hk3' (fun _ _ f => f)))
      all_goals
        go_wp2
        go_ret
        try rw [if_pos (unhide HF)]
        exact ⟨rfl, (unhide HE) w3 hk3⟩
    · have np : ¬ (p < w1.heap.size ∧ o1 p = .jour) := fun e => by rw [g.own] at e; cases e.2
      have nb : ¬ (w.heap.size < w1.heap.size ∧ o1 w.heap.size = .jour) := fun e => by rw [ho1] at e; cases e.2
      have hlen : m.jm.L.length = m.recs.length := NM.jm_len m
      have hfew : m.jm.L.length + 1 < 2305843009213693952 := by rw [hlen]; have := hsm.recs; omega
      have HE : Hid (∀ w2 w3, Keeps (fun _ => False) w1 w2 → JUse (fun k => (k < w1.heap.size ∧ o1 k = .jour) ∨ w2.heap.size ≤ k) w3 pj pd { m.jm with L := m.jm.L ++ [r.bytes] } (dm.put (slot m.jm.ring m.jm.per (m.jm.L.length + 1)) (packB (m.jm.L.length + 1) 0 r.bytes)) → Keeps (fun k => k < w1.heap.size ∧ o1 k = .jour) w2 w3 → NPost o w p { m with recs := m.recs ++ [r] } (B + 1) w3) := hide (fun w2 w3 a b c => NPost.from hkA (t1 _ _ _ (append_end g hB (unhide HU) hdm a b c)))
      have HJ := hide hJ
      have HF := hide hfull
      have HL := hide hlen
      clear hJ g hA1 hsm hres hburn h0 HA hfull f1 t1 hlen
      go_wp2_with fail
      go_region_held3 (fun w' => w'.cell? ⟨p, 12, none⟩ = some (.pointer (some ⟨pj, 0, none⟩)) ∧ w'.cell? ⟨w.heap.size, 0, none⟩ = some (.int .i64 (r.kind : Int)) ∧ w'.cell? ⟨w.heap.size, 1, none⟩ = some (.int .i64 (r.txn.coord : Int)) ∧ w'.cell? ⟨w.heap.size, 2, none⟩ = some (.int .i64 (r.txn.inc : Int)) ∧ w'.cell? ⟨w.heap.size, 3, none⟩ = some (.int .i64 (r.txn.seq : Int)) ∧ w'.cell? ⟨w.heap.size, 4, none⟩ = some (.int .i64 (r.nodes : Int)) ∧ w'.cell? ⟨w.heap.size, 5, none⟩ = some (.int .i64 (r.outcome : Int))) (first | exact ⟨c12, d0, d1, d2, d3, d4, d5⟩ | exact ⟨hk3.cell' (hk2.cell' c12 (fun f => f)) np, hk3.cell' (hk2.cell' d0 (fun f => f)) nb, hk3.cell' (hk2.cell' d1 (fun f => f)) nb, hk3.cell' (hk2.cell' d2 (fun f => f)) nb, hk3.cell' (hk2.cell' d3 (fun f => f)) nb, hk3.cell' (hk2.cell' d4 (fun f => f)) nb, hk3.cell' (hk2.cell' d5 (fun f => f)) nb⟩ | exact ⟨hk2.cell' c12 (fun f => f), hk2.cell' d0 (fun f => f), hk2.cell' d1 (fun f => f), hk2.cell' d2 (fun f => f), hk2.cell' d3 (fun f => f), hk2.cell' d4 (fun f => f), hk2.cell' d5 (fun f => f)⟩) (first
        | (go_at_call 280; refine (hpk _).mono ?_; rintro e w2 ⟨v2, rfl, hv2, hk2'⟩; have hk2 := hk2'.unDrew; clear hk2'; have HV := hide hv2; obtain ⟨ao, cap, rfl, hv3, _, _⟩ := hv2)
        | (go_at_call 186; refine (use_append_yes _ _ pj pd cap ao r.bytes m.jm dm _ ((unhide HJ).keep hk2 (fun _ _ _ f => f)) (by rw [Rec.bytes_size]; omega) (unhide HV) (unhide HF) hfew).mono ?_; rintro e w3 ⟨rfl, hJ3, hk3⟩; have HJ3 := hide hJ3; clear hJ3))
      all_goals
        go_wp2
        go_ret
        try rw [if_neg (unhide HF)]
        exact ⟨congrArg (fun x : Nat => Ending.returned (Value.int .i64 ((x + 1 : Nat) : Int))) (unhide HL), (unhide HE) w2 w3 hk2 (unhide HJ3) hk3⟩

end Go.Proofs.YthbmmbgkchiajaaGreat

/- Records forced, and others. -/
namespace Go.Proofs.YthbmmbgkchiajaaGreat
set_option linter.unusedSimpArgs false
set_option linter.unusedVariables false
open Go.RowKit

/-- What has changed is a cell of the node's. -/
theorem NG.cellPost {o : Nat → Tag} {w : World} {p : Nat} {n n' : NM} {B B' pd : Nat} {vj vf : Value} {bo bp : Nat} {ve : Value} (h : NG o w p n B pd vj vf bo bp ve) (hB : B ≤ B') (i : Nat) (v : Value)
    (hs : (nodeCells n pd vj vf bo bp ve).setIfInBounds i v = nodeCells n' pd vj vf bo bp ve) (e1 : n'.opn = n.opn) (e2 : n'.prep = n.prep) (e3 : n'.fuse = n.fuse) (e4 : n'.up = n.up) (e5 : n'.jm = n.jm) (e6 : n'.evs = n.evs) (eg : (n'.pd, n'.bo, n'.bp) = (n.pd, n.bo, n.bp)) (hsm : Small n' B') : NPost o w p n' B' (w.setCell ⟨p, i, none⟩ v) := by
  have hk : Keeps (fun k => k = p) w (w.setCell ⟨p, i, none⟩ v) := (Keeps.refl (fun k => k = p) w).setCell (p := ⟨p, i, none⟩) (.inl rfl) v
  have ho : ∀ k, k < w.heap.size → o k = o k := fun _ _ => rfl
  have hp := h.own
  refine ⟨⟨o, ho, pd, vj, vf, bo, bp, ve, ?_, h.own, ?_, ?_, ?_, ?_, ?_, hsm, h.eqs.trans eg.symm⟩, hk.mono (fun k _ e => by subst e; rw [hp]; simp)⟩
  · rw [heap_setCell_same h.self, hs]
  · rw [e1]; exact h.opens.keep hk ho (fun k _ e e' => by subst e'; rw [hp] at e; simp at e)
  · rw [e2]; exact h.preps.keep hk ho (fun k _ e e' => by subst e'; rw [hp] at e; simp at e)
  · rw [e6]; exact h.evs.keep hk ho (fun k _ e e' => by subst e'; rw [hp] at e; simp at e)
  · rw [e3]; exact h.fuse.keep hk ho (fun k _ e e' => by subst e'; rw [hp] at e; simp at e)
  · rw [e4, e5]; exact (h.jour.keep hk ho (fun k _ e e' => by subst e'; rw [hp] at e; simp at e)).big hB

theorem NodeAt.forced {o : Nat → Tag} {w : World} {p : Nat} {n : NM} {B pd : Nat} {vj vf : Value} {bo bp : Nat} {ve : Value} (h : NG o w p n B pd vj vf bo bp ve) {B' : Nat} (hB : B ≤ B') (hB' : B' ≤ 1099511627776) (hf : n.forced + 1 ≤ B') : NPost o w p { n with forced := n.forced + 1 } B' (w.setCell ⟨p, 9, none⟩ (.int .i64 ((n.forced : Int) + 1))) := by
  have hs := h.small.up hB hB'
  exact h.cellPost hB 9 _ rfl rfl rfl rfl rfl rfl rfl rfl ⟨hs.id, hs.variant, hs.patience, hs.inc, hf, hs.lazies, hs.sent, hs.recs, hs.begun, hs.evs, hs.marks, hs.deals, hs.preps, hs.opensL, hs.prepsL, hB'⟩
theorem NodeAt.lazied {o : Nat → Tag} {w : World} {p : Nat} {n : NM} {B pd : Nat} {vj vf : Value} {bo bp : Nat} {ve : Value} (h : NG o w p n B pd vj vf bo bp ve) {B' : Nat} (hB : B ≤ B') (hB' : B' ≤ 1099511627776) (hf : n.lazies + 1 ≤ B') : NPost o w p { n with lazies := n.lazies + 1 } B' (w.setCell ⟨p, 10, none⟩ (.int .i64 ((n.lazies : Int) + 1))) := by
  have hs := h.small.up hB hB'
  exact h.cellPost hB 10 _ rfl rfl rfl rfl rfl rfl rfl rfl ⟨hs.id, hs.variant, hs.patience, hs.inc, hs.forced, hf, hs.sent, hs.recs, hs.begun, hs.evs, hs.marks, hs.deals, hs.preps, hs.opensL, hs.prepsL, hB'⟩

theorem write_facts {n m : NM} {r : Rec} {i : Nat} (h : n.write r = .ok (i, m)) : m.up = n.up ∧ m.forced = n.forced ∧ m.lazies = n.lazies ∧ m.safe = n.safe ∧ m.cfg = n.cfg ∧ (i = 0 ∧ m.recs = n.recs ∨ i = n.recs.length + 1 ∧ m.recs = n.recs ++ [r]) := by
  unfold NM.write at h
  split at h
  · cases h
  · split at h
    · cases h; exact ⟨rfl, rfl, rfl, rfl, rfl, .inl ⟨rfl, rfl⟩⟩
    · cases h; exact ⟨rfl, rfl, rfl, rfl, rfl, .inr ⟨rfl, rfl⟩⟩
  · split at h
    · cases h; exact ⟨rfl, rfl, rfl, rfl, rfl, .inl ⟨rfl, rfl⟩⟩
    · cases h; exact ⟨rfl, rfl, rfl, rfl, rfl, .inr ⟨rfl, rfl⟩⟩

theorem forced_end {o : Nat → Tag} {w w2 : World} {p : Nat} {n : NM} {B pd pj : Nat} {vf : Value} {bo bp : Nat} {ve : Value} {m : DM} (h : NG o w p n B pd (.pointer (some ⟨pj, 0, none⟩)) vf bo bp ve) (hB : B + 1 ≤ 1099511627776) (hup : n.up = true) (hm : m.syncs ≤ B)
    (hj : JUse (fun k => k < w.heap.size ∧ o k = .jour) w2 pj pd { n.jm with safe := n.jm.L.length } m.sync) (hk : Keeps (fun k => k < w.heap.size ∧ o k = .jour) w w2) : NPost o w p { n with safe := n.recs.length } (B + 1) w2 := by
  refine h.jourPost (n' := { n with safe := n.recs.length }) (hk.mono (fun _ _ e => e.2)) (m' := m.sync) ?_ (by rw [sync_syncs]; omega) rfl rfl rfl rfl hup rfl rfl ?_
  · have e : ({ n with safe := n.recs.length } : NM).jm = { n.jm with safe := n.jm.L.length } := by unfold NM.jm; simp
    rw [e]
    exact hj.mono (fun k _ e => .inl e)
  · have hs := h.small.up (B' := B + 1) (by omega) hB
    exact ⟨hs.id, hs.variant, hs.patience, hs.inc, hs.forced, hs.lazies, hs.sent, hs.recs, hs.begun, hs.evs, hs.marks, hs.deals, hs.preps, hs.opensL, hs.prepsL, hB⟩

theorem NodeAt.safe {o : Nat → Tag} {w : World} {p : Nat} {n : NM} {B : Nat} (h : NodeAt o w p n B) (hup : n.up = true) : n.safe ≤ n.recs.length := by
  obtain ⟨pd, vj, vf, bo, bp, ve, h⟩ := h
  obtain ⟨pj, m, _, hJ, _⟩ := h.jour' hup
  have := hJ.2.1.safe.2
  rw [NM.jm_len] at this
  exact this

theorem NPost.ghost {o : Nat → Tag} {w : World} {p : Nat} {n : NM} {B : Nat} {w' : World} (h : NPost o w p n B w') : ∃ o' pd vj vf bo bp ve, NG o' w' p n B pd vj vf bo bp ve ∧ (∀ k, k < w.heap.size → o' k = o k) ∧ (∀ w2 n2 B2, NPost o' w' p n2 B2 w2 → NPost o w p n2 B2 w2) ∧ (∀ w2 n2 B2 e, PEnd o' w' p B2 n2 e w2 → PEnd o w p B2 n2 e w2) := by
  obtain ⟨o1, f1, ⟨pd, vj, vf, bo, bp, ve, g⟩, t1, t2⟩ := h.next
  exact ⟨o1, pd, vj, vf, bo, bp, ve, g, f1, t1, t2⟩

set_option maxRecDepth 100000 in
set_option maxHeartbeats 400000 in
theorem force_any (o : Nat → Tag) (p B : Nat) (n : NM) (r : Rec) (w : World) (h : NodeAt o w p n B) (hup : n.up = true) (hB : B + 2 ≤ 1099511627776) :
    Calls Tryz.prog 156 #[.pointer (some ⟨p, 0, none⟩), recV r] w fun e w' => ResN o w p (B + 2) (n.forces r) e w' := by
  have hkA : Keeps (fun _ => False) w (w.alloc (.cells #[.int .i64 (r.kind : Int), .int .i64 (r.txn.coord : Int), .int .i64 (r.txn.inc : Int), .int .i64 (r.txn.seq : Int), .int .i64 (r.nodes : Int), .int .i64 (r.outcome : Int)] 211)) := (Keeps.refl _ w).alloc _
  have h0 := h.begin hkA
  have hwr := write_any _ p B n r _ h0 hup (by omega)
  have hsf := h.safe hup
  unfold recV at *
  unfold NM.forces
  cases hr : n.write r with
  | error m =>
    rw [hr] at hwr
    go_enter Tryz.func156, Tryz.ntmps156
    go_wp2_with (go_at_call 225; refine hwr.mono ?_; rintro e w1 hres; have hres' := hres; obtain ⟨⟨o1, ak, kc, keep, q1, q2, q3, rfl, q4⟩, hk1⟩ := hres)
    exact ⟨rfl, PEnd.from hkA (hres'.up (by omega) hB)⟩
  | ok y =>
    obtain ⟨i, m⟩ := y
    rw [hr] at hwr
    obtain ⟨f1, f2, f3, f4, _, f5⟩ := write_facts hr
    have HU := hide (f1.trans hup)
    cases i with
    | zero =>
      clear f2 f3 f4
      go_enter Tryz.func156, Tryz.ntmps156
      go_wp2_with fail
      go_at_call 225
      refine hwr.mono ?_
      rintro e w1 ⟨rfl, hres⟩
      obtain ⟨o1, pd, vj, vf, bo, bp, ve, g, _, t1, _⟩ := hres.ghost
      obtain ⟨pj, dm, rfl, hJ, hdm⟩ := g.jour' (unhide HU)
      have c12 := g.cell 12
      have c9 := g.cell 9
      have z9 := frozen_of_heap (o := 9) g.self
      simp [nodeCells] at c12 c9
      have hfo := g.small.forced
      have HE := hide (NPost.from hkA (t1 _ _ _ (NodeAt.forced g (B' := B + 2) (by omega) hB (by omega))))
      have HJ := hide hJ
      clear hJ g hres hwr h0 t1 f1 f5
      go_wp2_with fail
      go_at_call 187
      refine (use_force_old _ pj pd 0 m.jm dm w1 (unhide HJ) (Nat.zero_le _) (Nat.zero_le _)).mono ?_
      rintro e w2 ⟨rfl, rfl⟩
      go_wp2
      go_ret
      exact ⟨rfl, unhide HE⟩
    | succ i =>
      have hi : i = n.recs.length ∧ m.recs = n.recs ++ [r] := by rcases f5 with f5 | f5; cases f5.1; exact ⟨by omega, f5.2⟩
      have hml : m.recs.length = i + 1 := by rw [hi.2, List.length_append, List.length_singleton, hi.1]
      have HS : Hid (m.jm.safe < i + 1 ∧ i + 1 ≤ m.jm.L.length) := hide ⟨by show m.safe < i + 1; rw [f4]; omega, by rw [NM.jm_len]; omega⟩
      clear f2 f3 f4 f5 f1 hi hml
      go_enter Tryz.func156, Tryz.ntmps156
      go_wp2_with fail
      go_at_call 225
      refine hwr.mono ?_
      rintro e w1 ⟨rfl, hres⟩
      obtain ⟨o1, pd, vj, vf, bo, bp, ve, g, _, t1, _⟩ := hres.ghost
      obtain ⟨pj, dm, rfl, hJ, hdm⟩ := g.jour' (unhide HU)
      have c12 := g.cell 12
      simp [nodeCells] at c12
      have hfo := g.small.forced
      have HG := hide g
      have HJ := hide hJ
      clear hJ g hres hwr h0
      go_wp2_with fail
      go_at_call 187
      refine (use_force_new _ pj pd (i + 1) m.jm dm w1 (unhide HJ) (by omega) (unhide HS).2 (unhide HS).1).mono ?_
      rintro e w2 ⟨rfl, hJ2, hk2⟩
      have HP := forced_end (unhide HG) hB (unhide HU) hdm hJ2 hk2
      obtain ⟨o2, pd2, vj2, vf2, bo2, bp2, ve2, g2, _, t2, _⟩ := HP.ghost
      have c9 := g2.cell 9
      have z9 := frozen_of_heap (o := 9) g2.self
      simp [nodeCells] at c9
      have HE := hide (NPost.from hkA (t1 _ _ _ (t2 _ _ _ (NodeAt.forced g2 (B' := B + 2) (by omega) hB (by show m.forced + 1 ≤ B + 2; omega)))))
      clear g2 t1 t2 HP hJ2 HJ HG HS hk2
      go_wp2
      go_ret
      exact ⟨rfl, unhide HE⟩

set_option maxRecDepth 100000 in
set_option maxHeartbeats 400000 in
theorem lazy_any (o : Nat → Tag) (p B : Nat) (n : NM) (r : Rec) (w : World) (h : NodeAt o w p n B) (hup : n.up = true) (hB : B + 2 ≤ 1099511627776) :
    Calls Tryz.prog 283 #[.pointer (some ⟨p, 0, none⟩), recV r] w fun e w' => Res o w p (B + 2) (n.lazily r) e w' := by
  have hkA : Keeps (fun _ => False) w (w.alloc (.cells #[.int .i64 (r.kind : Int), .int .i64 (r.txn.coord : Int), .int .i64 (r.txn.inc : Int), .int .i64 (r.txn.seq : Int), .int .i64 (r.nodes : Int), .int .i64 (r.outcome : Int)] 211)) := (Keeps.refl _ w).alloc _
  have h0 := h.begin hkA
  have hwr := write_any _ p B n r _ h0 hup (by omega)
  unfold recV at *
  unfold NM.lazily
  cases hr : n.write r with
  | error m =>
    rw [hr] at hwr
    go_enter Tryz.func283, Tryz.ntmps283
    go_wp2_with (go_at_call 225; refine hwr.mono ?_; rintro e w1 hres; have hres' := hres; obtain ⟨⟨o1, ak, kc, keep, q1, q2, q3, rfl, q4⟩, hk1⟩ := hres)
    exact ⟨rfl, PEnd.from hkA (hres'.up (by omega) hB)⟩
  | ok y =>
    obtain ⟨i, m⟩ := y
    rw [hr] at hwr
    go_enter Tryz.func283, Tryz.ntmps283
    go_wp2_with fail
    go_at_call 225
    refine hwr.mono ?_
    rintro e w1 ⟨rfl, hres⟩
    obtain ⟨o1, pd, vj, vf, bo, bp, ve, g, _, t1, _⟩ := hres.ghost
    have c10 := g.cell 10
    have z10 := frozen_of_heap (o := 10) g.self
    simp [nodeCells] at c10
    have hfo := g.small.lazies
    have HE := hide (NPost.from hkA (t1 _ _ _ (NodeAt.lazied g (B' := B + 2) (by omega) hB (by omega))))
    clear g hres hwr h0 t1
    go_wp2
    go_end0
    exact ⟨rfl, unhide HE⟩

end Go.Proofs.YthbmmbgkchiajaaGreat
