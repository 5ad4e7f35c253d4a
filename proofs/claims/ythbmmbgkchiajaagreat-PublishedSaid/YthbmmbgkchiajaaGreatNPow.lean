
/- A node's edge, while its power lasts. -/
import Derived.Test.YthbmmbgkchiajaaGreatNBegin2
import Derived.Defers
import Derived.Recover

namespace Go.Proofs.YthbmmbgkchiajaaGreat
set_option linter.unusedSimpArgs false
set_option linter.unusedVariables false
open Go.RowKit

/-- What a node tells is taken. -/
theorem takeEvents_any (o : Nat → Tag) (p B : Nat) (n : NM) (w : World) (h : NodeAt o w p n B) :
    Calls Tryz.prog 155 #[.pointer (some ⟨p, 0, none⟩)] w fun e w' => ∃ ve, e = .returned ve ∧ NPost o w p { n with evs := [] } B w' ∧ w'.ownsRow 0 56 12 ve n.evs.length (n.evs.flatMap evCells) ∧ (∀ k, ve.ownBlock = some k → o k = .evs) := by
  obtain ⟨pd, vj, vf, bo, bp, ve, g⟩ := h
  have c29 := g.cell 29
  have z29 := frozen_of_heap (o := 29) g.self
  simp [nodeCells] at c29
  have hk : Keeps (fun k => k = p) w (w.setCell ⟨p, 29, none⟩ (.slice none 0 0)) := (Keeps.refl (fun k => k = p) w).setCell (p := ⟨p, 29, none⟩) (.inl rfl) _
  have hp := g.own
  have HE : Hid (NPost o w p { n with evs := [] } B (w.setCell ⟨p, 29, none⟩ (.slice none 0 0)) ∧ (w.setCell ⟨p, 29, none⟩ (.slice none 0 0)).ownsRow 0 56 12 ve n.evs.length (n.evs.flatMap evCells)) := by
    refine hide ⟨⟨⟨o, fun _ _ => rfl, pd, vj, vf, bo, bp, .slice none 0 0, ?_, g.own, g.opens.keep hk (fun _ _ => rfl) (fun k _ e e' => by subst e'; rw [hp] at e; simp at e), g.preps.keep hk (fun _ _ => rfl) (fun k _ e e' => by subst e'; rw [hp] at e; simp at e), Own.nil _ _ _ _, g.fuse.keep hk (fun _ _ => rfl) (fun k _ e e' => by subst e'; rw [hp] at e; simp at e), g.jour.keep hk (fun _ _ => rfl) (fun k _ e e' => by subst e'; rw [hp] at e; simp at e), ?_, g.eqs⟩, hk.mono (fun k _ e => by subst e; rw [hp]; simp)⟩, ?_⟩
    · rw [heap_setCell_same g.self]; rfl
    · have hs := g.small
      exact ⟨hs.id, hs.variant, hs.patience, hs.inc, hs.forced, hs.lazies, hs.sent, hs.recs, hs.begun, Nat.zero_le _, hs.marks, hs.deals, hs.preps, hs.opensL, hs.prepsL, hs.big⟩
    · exact (Own.keep g.evs hk (fun k _ e e' => by subst e'; have e1 : o k = .evs := e; rw [hp] at e1; cases e1)).1
  have HOWN : Hid (∀ k, ve.ownBlock = some k → o k = .evs) := hide (fun k e => g.evs.2 k e)
  obtain ⟨av, nv, cv, hve⟩ : ∃ av nv cv, ve = .slice av nv cv := by
    rcases g.evs.1.2 with ⟨e, _⟩ | ⟨g', c', cur, e, _⟩
    · exact ⟨_, _, _, e⟩
    · exact ⟨_, _, _, e⟩
  subst hve
  clear g hk
  go_enter Tryz.func155, Tryz.ntmps155
  go_wp2
  go_ret
  exact ⟨_, rfl, (unhide HE).1, (unhide HE).2, unhide HOWN⟩

theorem edge_idle (a b : Addr) (w : World) :
    CallsD Tryz.prog 223 #[.pointer (some a), .pointer (some b)] .returning w fun e u' w' => e = .returned (.tuple #[]) ∧ u' = .returning ∧ w' = w := by
  refine callsD_of_wpS Tryz.func223 rfl fun c₀ cs hu => ?_
  apply wpS_seq
  apply wpS_region
  simp [wpOpsS, go_sem, recoverD, hu, Tryz.ntmps223, Exit.thenS]
  refine wpS_of_wp ?_
  have e : (#[Value.pointer (some a), Value.pointer (some b)] ++ (Array.replicate 13 undef).setIfInBounds 3 Value.nilIface) = #[Value.pointer (some a), Value.pointer (some b), undef, undef, undef, Value.nilIface, undef, undef, undef, undef, undef, undef, undef, undef, undef] := rfl
  rw [e]
  have heq : ∀ W, (binOp .eql 20 Value.nilIface Value.nilIface).run Tryz.prog W = .ok (.bool true) W := fun W => by simp [go_sem]
  go_wp2
  cases c₀
  simp_all [bodyPostS, results, Tryz.results223]

set_option maxRecDepth 100000 in
set_option maxHeartbeats 400000 in
theorem powered_ok (o : Nat → Tag) (p B B' : Nat) (F : FuncId) (capt : Array Value) (n m : NM) (w : World) (h : NodeAt o w p n B) (hm : m.up = true) (hB : B' + 1 ≤ 1099511627776) (hent : ∀ W, (callFunc F capt).run Tryz.prog W = .ok (.enter F capt) W)
    (hwork : ∀ W, Keeps (fun _ => False) w W → W.heap.size = w.heap.size + 2 → Calls Tryz.prog F capt W fun e w' => Res (tagsUp o w .other) W p B' (.ok m) e w') :
    Calls Tryz.prog 154 #[.pointer (some ⟨p, 0, none⟩), .func (.func F) #[] capt] w fun e w' => e = .returned (.int .i64 0) ∧ NPost o w p m.tidy (B' + 1) w' := by
  have hmf : ∀ (fn : Fn) (first cap : Array Value) (w : World), (Instr.makeFunc fn first cap).run Tryz.prog w = .ok (.func fn first cap) w := fun _ _ _ _ => rfl
  have hlook := look_any
  go_enter_defers Tryz.func154, Tryz.ntmps154
  go_wp2_with fail
  generalize hW : World.alloc (World.alloc w _) _ = W
  have hk : Keeps (fun _ => False) w W := by rw [← hW]; exact ((Keeps.refl _ w).alloc _).alloc _
  have hA : W.heap[w.heap.size]? = some (.cells #[.pointer (some ⟨p, 0, none⟩)] 93 (0, 0)) := by
    rw [← hW, Below.heap_alloc _ _ _ (by simp)]; exact heap_alloc_new _ _
  have hE : W.heap[w.heap.size + 1]? = some (.cells #[.int .i64 0] 39 (0, 0)) := by
    rw [← hW]; exact heap_two _ _ _
  have hsz : W.heap.size = w.heap.size + 2 := by rw [← hW]; simp
  clear hW
  have ho0 : tagsUp o w .other w.heap.size = .other := tagsUp_new (Nat.le_refl _)
  have ho1 : tagsUp o w .other (w.heap.size + 1) = .other := tagsUp_new (by omega)
  refine (hwork W hk hsz).mono ?_
  rintro e w1 ⟨rfl, hres⟩
  have hA1 := hres.frame hA ho0
  have hE1 := hres.frame hE ho1
  have c0 := cell_of_heap (o := 0) hA1
  simp at c0
  obtain ⟨o1, f1, g1, t1, _⟩ := hres.next
  have hoe := (f1 (w.heap.size + 1) (lt_of_heap hE)).trans ho1
  have hlo := hlook o1 p B' m w1 g1 hm hB
  have hag : ∀ k, k < w.heap.size → o1 k = o k := fun k hk' => (f1 k (Nat.lt_of_lt_of_le hk' hk.size)).trans (tagsUp_old hk')
  have hk1 : Keeps (fun k => o k ≠ .other) w w1 := (hk.mono (T := fun k => o k ≠ .other) (fun _ _ f => f.elim)).trans hres.2 (fun k hk' e => by rw [tagsUp_old hk'] at e; exact e)
  clear hwork g1 t1 hA hE hres hlook hsz
  go_wp2_with fail
  go_at_call 224
  refine hlo.mono ?_
  rintro e w2 ⟨rfl, hres2⟩
  have hE2 := hres2.frame hE1 hoe
  have c1 := cell_of_heap (o := 0) hE2
  have z1 := frozen_of_heap (o := 0) hE2
  simp at c1
  obtain ⟨o2, f2, g2, t2, _⟩ := hres2.next
  have hoe2 := (f2 (w.heap.size + 1) (lt_of_heap hE1)).trans hoe
  have hk3 : Keeps (fun k => k = w.heap.size + 1) w2 (w2.setCell ⟨w.heap.size + 1, 0, none⟩ (.int .i64 0)) := (Keeps.refl (fun k => k = w.heap.size + 1) w2).setCell (p := ⟨w.heap.size + 1, 0, none⟩) (.inl rfl) _
  have HE : Hid (NPost o w p m.tidy (B' + 1) (w2.setCell ⟨w.heap.size + 1, 0, none⟩ (.int .i64 0))) := hide ⟨⟨o2, fun k hk' => (f2 k (Nat.lt_of_lt_of_le hk' hk1.size)).trans (hag k hk'), g2.keep hk3 (fun _ _ => rfl) (fun k _ e e' => by subst e'; exact e hoe2)⟩, (hk1.trans hres2.2 (fun k hk' e => by rw [hag k hk'] at e; exact e)).trans hk3 (fun k hk' e => by omega)⟩
  clear g2 t2 hlo hres2
  go_wp2_with fail
  refine leaves_cons (f := 223) (args := #[.pointer (some ⟨w.heap.size, 0, none⟩), .pointer (some ⟨w.heap.size + 1, 0, none⟩)]) (by simp) (by simp [go_sem]) ?_
  refine (edge_idle _ _ _).mono ?_
  rintro e u' w'' ⟨rfl, rfl, rfl⟩
  simp [Leaves, settle, results, Tryz.results154, go_sem, c1]
  exact unhide HE

end Go.Proofs.YthbmmbgkchiajaaGreat

/- What stays as it was when a node acts. -/
namespace Go.Proofs.YthbmmbgkchiajaaGreat
set_option linter.unusedSimpArgs false
set_option linter.unusedVariables false
open Go.RowKit

/-- What no act turns while power lasts. -/
structure Same (n m : NM) : Prop where
  up : m.up = n.up
  cfg : m.cfg = n.cfg
  id : m.id = n.id
  fuse : n.fuse = none → m.fuse = none
  refuses : m.refuses = n.refuses
  inc : m.inc = n.inc
  ghosts : m.pd = n.pd ∧ m.bo = n.bo ∧ m.bp = n.bp
theorem Same.refl (n : NM) : Same n n := ⟨rfl, rfl, rfl, fun e => e, rfl, rfl, rfl, rfl, rfl⟩
theorem Same.trans {a b c : NM} (h : Same a b) (k : Same b c) : Same a c := ⟨k.up.trans h.up, k.cfg.trans h.cfg, k.id.trans h.id, fun e => k.fuse (h.fuse e), k.refuses.trans h.refuses, k.inc.trans h.inc, k.ghosts.1.trans h.ghosts.1, k.ghosts.2.1.trans h.ghosts.2.1, k.ghosts.2.2.trans h.ghosts.2.2⟩
theorem same_write {n m : NM} {r : Rec} {i : Nat} (h : n.write r = .ok (i, m)) : Same n m := by
  unfold NM.write at h
  split at h
  · cases h
  · rename_i hf
    split at h <;> (cases h; exact ⟨rfl, rfl, rfl, fun e => (by rw [e] at hf; cases hf), rfl, rfl, rfl, rfl, rfl⟩)
  · split at h <;> (cases h; exact ⟨rfl, rfl, rfl, id, rfl, rfl, rfl, rfl, rfl⟩)
theorem same_forces {n m : NM} {r : Rec} {i : Nat} (h : n.forces r = .ok (i, m)) : Same n m := by
  unfold NM.forces at h
  split at h
  · cases h
  · rename_i k hw; cases h; exact (same_write hw).trans ⟨rfl, rfl, rfl, id, rfl, rfl, rfl, rfl, rfl⟩
  · rename_i j k hw; cases h; exact (same_write hw).trans ⟨rfl, rfl, rfl, id, rfl, rfl, rfl, rfl, rfl⟩
theorem same_lazily {n m : NM} {r : Rec} (h : n.lazily r = .ok m) : Same n m := by
  unfold NM.lazily at h
  split at h
  · cases h
  · rename_i i k hw; cases h; exact (same_write hw).trans ⟨rfl, rfl, rfl, id, rfl, rfl, rfl, rfl, rfl⟩
theorem same_send (n : NM) (kind to : Nat) (t : Tx) : Same n (n.send kind to t) := ⟨rfl, rfl, rfl, id, rfl, rfl, rfl, rfl, rfl⟩
theorem same_sends (kind : Nat) (t : Tx) : ∀ (l : List Nat) (n : NM), Same n (n.sends kind t l)
  | [], n => Same.refl n
  | i :: l, n => (same_send n kind i t).trans (same_sends kind t l (n.send kind i t))
theorem same_sendAll (n : NM) (kind s : Nat) (t : Tx) : Same n (n.sendAll kind s t) := same_sends kind t (members s) n
theorem same_happen (n : NM) (kind : Nat) (t : Tx) (oc : Nat) : Same n (n.happen kind t oc) := ⟨rfl, rfl, rfl, id, rfl, rfl, rfl, rfl, rfl⟩
theorem same_opn (n : NM) (l : List (Tx × Deal)) : Same n { n with opn := l } := ⟨rfl, rfl, rfl, id, rfl, rfl, rfl, rfl, rfl⟩
theorem same_prep (n : NM) (l : List (Tx × Nat)) : Same n { n with prep := l } := ⟨rfl, rfl, rfl, id, rfl, rfl, rfl, rfl, rfl⟩
theorem same_ends {n m : NM} {t : Tx} (h : n.ends t = .ok m) : Same n m := by
  unfold NM.ends at h
  split at h
  · cases h
  · rename_i k hl; cases h; exact (same_lazily hl).trans (same_opn _ _)
theorem same_settle {n m : NM} {t : Tx} {d : Deal} {oc nodes : Nat} (h : n.settle t d oc nodes = .ok m) : Same n m := by
  unfold NM.settle at h
  simp only at h
  have h0 := ((same_happen n 2 t oc).trans (same_sendAll (n.happen 2 t oc) (order oc) nodes t)).trans (same_opn _ (mset ((n.happen 2 t oc).sendAll (order oc) nodes t).opn t { d with outcome := oc, waits := nodes }))
  split at h
  · split at h
    · exact h0.trans (same_ends h)
    · cases h; exact h0
  · cases h; exact h0.trans (same_opn _ _)
theorem same_commit {n m : NM} {t : Tx} {d : Deal} (h : n.commit t d = .ok m) : Same n m := by
  unfold NM.commit at h
  split at h
  · cases h
  · rename_i i k hf; exact ((same_forces hf).trans (same_opn _ _)).trans (same_settle h)
theorem same_abort {n m : NM} {t : Tx} {d : Deal} {nodes : Nat} (h : n.abort t d nodes = .ok m) : Same n m := by
  unfold NM.abort at h
  split at h
  · split at h
    · cases h
    · rename_i i k hf; exact ((same_forces hf).trans (same_opn _ _)).trans (same_settle h)
  · exact same_settle h
theorem same_begin {n m : NM} {t : Tx} {parts blk : Nat} (h : n.begin t parts blk = .ok m) : Same n m := by
  unfold NM.begin at h
  split at h
  · split at h
    · cases h
    · rename_i i k hf
      cases h
      exact ((same_forces hf).trans (c := { k with begun := k.begun + 1, opn := mput k.opn t ⟨parts, parts, 0, 0, i, blk⟩ }) ⟨rfl, rfl, rfl, fun e => e, rfl, rfl, rfl, rfl, rfl⟩).trans (same_sendAll _ _ _ _)
  · cases h
    exact (Same.trans (b := { n with begun := n.begun + 1, opn := mput n.opn t ⟨parts, parts, 0, 0, 0, blk⟩ }) ⟨rfl, rfl, rfl, id, rfl, rfl, rfl, rfl, rfl⟩ (same_sendAll _ _ _ _))
theorem same_hearYes {n m : NM} {t : Tx} {frm : Nat} (h : n.hearYes t frm = .ok m) : Same n m := by
  unfold NM.hearYes at h
  split at h
  · cases h; exact Same.refl _
  · simp only at h
    split at h
    · exact (same_opn _ _).trans (same_commit h)
    · cases h; exact same_opn _ _
theorem same_hearNo {n m : NM} {t : Tx} {frm : Nat} (h : n.hearNo t frm = .ok m) : Same n m := by
  unfold NM.hearNo at h
  split at h
  · cases h; exact Same.refl _
  · exact same_abort h
theorem same_hearAck {n m : NM} {t : Tx} {frm : Nat} (h : n.hearAck t frm = .ok m) : Same n m := by
  unfold NM.hearAck at h
  split at h
  · cases h; exact Same.refl _
  · split at h
    · cases h; exact Same.refl _
    · simp only at h
      split at h
      · exact (same_opn _ _).trans (same_ends h)
      · cases h; exact same_opn _ _
theorem same_answer (n : NM) (t : Tx) (frm : Nat) : Same n (n.answer t frm) := by
  unfold NM.answer
  split
  · exact same_send _ _ _ _
  · split
    · exact Same.refl _
    · exact same_send _ _ _ _
theorem same_markAdd (n : NM) (t : Tx) : Same n (n.markAdd t) := by
  unfold NM.markAdd
  split
  · exact Same.refl _
  · exact ⟨rfl, rfl, rfl, id, rfl, rfl, rfl, rfl, rfl⟩
theorem same_truncate (n : NM) (low : Nat) : Same n (n.truncate low) := ⟨rfl, rfl, rfl, id, rfl, rfl, rfl, rfl, rfl⟩
theorem same_mark (n : NM) (t : Tx) : Same n (n.mark t) := (same_markAdd n t).trans ⟨rfl, rfl, rfl, id, rfl, rfl, rfl, rfl, rfl⟩
theorem same_prepare {n m : NM} {t : Tx} (h : n.prepare t = .ok m) : Same n m := by
  unfold NM.prepare at h
  split at h
  · cases h
  · rename_i i k hf; cases h; exact ((same_forces hf).trans (same_prep _ _)).trans (same_markAdd _ _)
theorem same_vote {n m : NM} {t : Tx} {frm : Nat} (h : n.vote t frm = .ok m) : Same n m := by
  unfold NM.vote at h
  split at h
  · cases h; exact same_send _ _ _ _
  · split at h
    · cases h; exact Same.refl _
    · split at h
      · cases h; exact (same_mark _ _).trans (same_send _ _ _ _)
      · split at h
        · cases h; exact Same.refl _
        · split at h
          · cases h
          · rename_i k hp; cases h; exact (same_prepare hp).trans (same_send _ _ _ _)
theorem same_apply {n m : NM} {t : Tx} {oc : Nat} {due : Bool} (h : n.apply t oc due = .ok m) : Same n m := by
  unfold NM.apply at h
  cases due with
  | true =>
    simp only [if_true] at h
    cases hf : n.forces ⟨6, t, 0, oc⟩ with
    | error k => rw [hf] at h; cases h
    | ok y =>
      obtain ⟨i, k⟩ := y
      rw [hf] at h
      cases h
      exact ((same_forces hf).trans (same_happen _ _ _ _)).trans (same_prep _ _)
  | false =>
    simp only [Bool.false_eq_true, if_false] at h
    cases hf : n.lazily ⟨6, t, 0, oc⟩ with
    | error k => rw [hf] at h; cases h
    | ok k =>
      rw [hf] at h
      cases h
      exact ((same_lazily hf).trans (same_happen _ _ _ _)).trans (same_prep _ _)
theorem same_learn {n m : NM} {t : Tx} {frm oc : Nat} (h : n.learn t frm oc = .ok m) : Same n m := by
  unfold NM.learn at h
  split at h
  · cases h
  · rename_i k hk
    cases h
    have h1 : Same n k := by
      split at hk
      · exact same_apply hk
      · cases hk
        split
        · exact same_mark _ _
        · exact Same.refl _
    split
    · exact h1.trans (same_send _ _ _ _)
    · exact h1
theorem same_act {n k : NM} {m : Msg} (h : n.act m = .ok k) : Same n k := by
  unfold NM.act at h
  split at h
  · exact same_vote h
  · exact same_hearYes h
  · exact same_hearNo h
  · exact same_learn h
  · exact same_learn h
  · exact same_hearAck h
  · cases h; exact same_answer _ _ _
  · cases h; exact Same.refl _
theorem same_tidy (n : NM) : Same n n.tidy := by
  unfold NM.tidy
  split
  · exact same_truncate _ _
  · exact Same.refl _
theorem tidy_evs (n : NM) : n.tidy.evs = n.evs := by
  unfold NM.tidy
  split <;> rfl

end Go.Proofs.YthbmmbgkchiajaaGreat

/- Calls on a node, while its power lasts. -/
namespace Go.Proofs.YthbmmbgkchiajaaGreat
set_option linter.unusedSimpArgs false
set_option linter.unusedVariables false
open Go.RowKit

/-- What a call hands out. -/
def EvsOut (o : Nat → Tag) (w w' : World) (ve : Value) (l : List Ev) : Prop := w'.ownsRow 0 56 12 ve l.length (l.flatMap evCells) ∧ ∀ k, ve.ownBlock = some k → k < w.heap.size → o k ≠ .other
theorem EvsOut.from {o : Nat → Tag} {w W w' : World} {ve : Value} {l : List Ev} (hk : Keeps (fun _ => False) w W) (h : EvsOut (tagsUp o w .other) W w' ve l) : EvsOut o w w' ve l := ⟨h.1, fun k e hk' => by have := h.2 k e (Nat.lt_of_lt_of_le hk' hk.size); rw [tagsUp_old hk'] at this; exact this⟩
theorem EvsOut.keep {o : Nat → Tag} {w w' w'' : World} {ve : Value} {l : List Ev} {T : Nat → Prop} (h : EvsOut o w w' ve l) (hk : Keeps T w' w'') (hT : ∀ k, ve.ownBlock = some k → ¬ T k) : EvsOut o w w'' ve l := ⟨(Own.keep (S := fun k => ve.ownBlock = some k) ⟨h.1, fun _ e => e⟩ hk (fun k _ e => hT k e)).1, h.2⟩

set_option maxRecDepth 100000 in
set_option maxHeartbeats 400000 in
theorem do_ok (o : Nat → Tag) (p B B' : Nat) (F : FuncId) (capt : Array Value) (n m : NM) (w : World) (h : NodeAt o w p n B) (hm : m.up = true) (hB : B' + 1 ≤ 1099511627776) (hent : ∀ W, (callFunc F capt).run Tryz.prog W = .ok (.enter F capt) W)
    (hwork : ∀ W, Keeps (fun _ => False) w W → W.heap.size = w.heap.size + 2 → Calls Tryz.prog F capt W fun e w' => Res (tagsUp o w .other) W p B' (.ok m) e w') :
    Calls Tryz.prog 89 #[.pointer (some ⟨p, 0, none⟩), .func (.func F) #[] capt] w fun e w' => ∃ ve, e = .returned (.tuple #[ve, .int .i64 0]) ∧ NPost o w p { m.tidy with evs := [] } (B' + 1) w' ∧ EvsOut o w w' ve m.evs := by
  have hpw := powered_ok o p B B' F capt n m w h hm hB hent hwork
  have htk := takeEvents_any
  clear hwork h
  go_enter Tryz.func89, Tryz.ntmps89
  go_wp2_with fail
  go_at_call 154
  refine hpw.mono ?_
  rintro e w1 ⟨rfl, hres⟩
  obtain ⟨o1, f1, g1, t1, _⟩ := hres.next
  have ht := htk o1 p (B' + 1) m.tidy w1 g1
  have HT := hide t1
  clear g1 t1 hpw hres
  go_wp2_with (go_at_call 155; refine ht.mono ?_; rintro e w2 ⟨ve, rfl, hres2, hev, hown⟩)
  go_ret2
  refine ⟨ve, rfl, (unhide HT) _ _ _ hres2, ?_, fun k e hk => ?_⟩
  · rw [tidy_evs] at hev
    exact hev
  · rw [← f1 k hk, hown k e]; simp

theorem actC_any (b1 b2 p : Nat) (m : Msg) (w : World) (R : Ending → World → Prop) (h1 : w.heap[b1]? = some (.cells #[.pointer (some ⟨p, 0, none⟩)] 93 (0, 0))) (h2 : w.heap[b2]? = some (.cells #[.int .i64 (m.kind : Int), .int .i64 (m.frm : Int), .int .i64 (m.to : Int), .int .i64 (m.txn.coord : Int), .int .i64 (m.txn.inc : Int), .int .i64 (m.txn.seq : Int)] 54 (0, 0)))
    (h : Calls Tryz.prog 94 #[.pointer (some ⟨p, 0, none⟩), msgV m] w fun e w' => e = .returned (.tuple #[]) ∧ R e w') :
    Calls Tryz.prog 93 #[.pointer (some ⟨b1, 0, none⟩), .pointer (some ⟨b2, 0, none⟩)] w fun e w' => e = .returned (.tuple #[]) ∧ R e w' := by
  have c0 := cell_of_heap (o := 0) h1
  have e0 := cell_of_heap (o := 0) h2
  have e1 := cell_of_heap (o := 1) h2
  have e2 := cell_of_heap (o := 2) h2
  have e3 := cell_of_heap (o := 3) h2
  have e4 := cell_of_heap (o := 4) h2
  have e5 := cell_of_heap (o := 5) h2
  simp at c0 e0 e1 e2 e3 e4 e5
  unfold msgV at h
  clear h1 h2
  go_enter Tryz.func93, Tryz.ntmps93
  go_wp2_with (go_at_call 94; refine h.mono ?_; rintro e w1 ⟨rfl, hres⟩)
  go_end0
  exact ⟨rfl, hres⟩

set_option maxRecDepth 100000 in
set_option maxHeartbeats 400000 in
/-- A message is delivered to a node that is up and has no fuse. -/
theorem nodeAct_any (o : Nat → Tag) (p B : Nat) (n k : NM) (m : Msg) (w : World) (h : NodeAt o w p n B) (hup : n.up = true) (hz : n.fuse = none) (hf : m.frm < 4) (ht : m.txn.coord < 4) (hk : n.act m = .ok k) (hB : B + 10 ≤ 1099511627776) :
    Calls Tryz.prog 53 #[.pointer (some ⟨p, 0, none⟩), msgV m] w fun e w' => ∃ ve, e = .returned (.tuple #[ve, .int .i64 0]) ∧ NPost o w p { k.tidy with evs := [] } (B + 10) w' ∧ EvsOut o w w' ve k.evs := by
  have hmf : ∀ (fn : Fn) (first cap : Array Value) (w : World), (Instr.makeFunc fn first cap).run Tryz.prog w = .ok (.func fn first cap) w := fun _ _ _ _ => rfl
  obtain ⟨V, hV, hkV, hA, hB2⟩ : ∃ V, (w.alloc (.cells #[.pointer (some ⟨p, 0, none⟩)] 93)).alloc (.cells #[.int .i64 (m.kind : Int), .int .i64 (m.frm : Int), .int .i64 (m.to : Int), .int .i64 (m.txn.coord : Int), .int .i64 (m.txn.inc : Int), .int .i64 (m.txn.seq : Int)] 54) = V ∧ Keeps (fun _ => False) w V ∧ V.heap[w.heap.size]? = some (.cells #[.pointer (some ⟨p, 0, none⟩)] 93 (0, 0)) ∧ V.heap[w.heap.size + 1]? = some (.cells #[.int .i64 (m.kind : Int), .int .i64 (m.frm : Int), .int .i64 (m.to : Int), .int .i64 (m.txn.coord : Int), .int .i64 (m.txn.inc : Int), .int .i64 (m.txn.seq : Int)] 54 (0, 0)) :=
    ⟨_, rfl, ((Keeps.refl _ w).alloc _).alloc _, by rw [Below.heap_alloc _ _ _ (by simp)]; exact heap_alloc_new _ _, heap_two _ _ _⟩
  have h0 := h.begin hkV
  have hdo := do_ok _ p B (B + 9) 93 #[.pointer (some ⟨w.heap.size, 0, none⟩), .pointer (some ⟨w.heap.size + 1, 0, none⟩)] n k V h0 ((same_act hk).up.trans hup) hB (fun W => by simp [go_sem]) (fun W hkW _ => by
    have ha := act_any _ p B n m W (h0.begin hkW) hup hz hf ht (by omega)
    rw [hk] at ha
    exact actC_any _ _ p m W _ (hkW.heap hA (fun f => f)) (hkW.heap hB2 (fun f => f)) ha)
  have c0 := cell_of_heap (o := 0) hA
  simp at c0
  unfold msgV
  clear h h0 hA hB2
  go_enter Tryz.func53, Tryz.ntmps53
  go_wp2_with (go_at_call 89; refine hdo.mono ?_; rintro e w2 ⟨ve, rfl, hres, hev⟩)
  go_ret2
  exact ⟨ve, rfl, NPost.from hkV hres, hev.from hkV⟩

theorem beginC_any (b1 b2 b3 p parts : Nat) (t : Tx) (w : World) (R : Ending → World → Prop) (h1 : w.heap[b1]? = some (.cells #[.pointer (some ⟨p, 0, none⟩)] 93 (0, 0))) (h2 : w.heap[b2]? = some (.cells #[.int .i64 (t.coord : Int), .int .i64 (t.inc : Int), .int .i64 (t.seq : Int)] 38 (0, 0))) (h3 : w.heap[b3]? = some (.cells #[.int .i64 (parts : Int)] 87 (0, 0)))
    (h : Calls Tryz.prog 91 #[.pointer (some ⟨p, 0, none⟩), txv t, .int .i64 (parts : Int)] w fun e w' => e = .returned (.tuple #[]) ∧ R e w') :
    Calls Tryz.prog 90 #[.pointer (some ⟨b1, 0, none⟩), .pointer (some ⟨b2, 0, none⟩), .pointer (some ⟨b3, 0, none⟩)] w fun e w' => e = .returned (.tuple #[]) ∧ R e w' := by
  have c0 := cell_of_heap (o := 0) h1
  have e0 := cell_of_heap (o := 0) h2
  have e1 := cell_of_heap (o := 1) h2
  have e2 := cell_of_heap (o := 2) h2
  have q0 := cell_of_heap (o := 0) h3
  simp at c0 e0 e1 e2 q0
  unfold txv at h
  clear h1 h2 h3
  go_enter Tryz.func90, Tryz.ntmps90
  go_wp2_with (go_at_call 91; refine h.mono ?_; rintro e w1 ⟨rfl, hres⟩)
  go_end0
  exact ⟨rfl, hres⟩

set_option maxRecDepth 100000 in
set_option maxHeartbeats 800000 in
/-- A transaction is begun at a node that is up and has no fuse. -/
theorem nodeBegin_any (o : Nat → Tag) (p B parts : Nat) (n k : NM) (w : World) (h : NodeAt o w p n B) (hup : n.up = true) (hz : n.fuse = none) (hs : parts < 16) (hk : n.begin ⟨n.id, n.inc, n.begun + 1⟩ parts (w.heap.size + 7) = .ok k) (hB : B + 9 ≤ 1099511627776) :
    Calls Tryz.prog 48 #[.pointer (some ⟨p, 0, none⟩), .int .i64 (parts : Int)] w fun e w' => ∃ ve, e = .returned (.tuple #[txv ⟨n.id, n.inc, n.begun + 1⟩, ve, .int .i64 0]) ∧ NPost o w p { k.tidy with evs := [] } (B + 9) w' ∧ EvsOut o w w' ve k.evs := by
  have hmf : ∀ (fn : Fn) (first cap : Array Value) (w : World), (Instr.makeFunc fn first cap).run Tryz.prog w = .ok (.func fn first cap) w := fun _ _ _ _ => rfl
  obtain ⟨W, hW, hkW, h1, h2, h3, hWs⟩ : ∃ W, ((w.alloc (.cells #[.pointer (some ⟨p, 0, none⟩)] 93)).alloc (.cells #[.int .i64 (parts : Int)] 87)).alloc (.cells #[.int .i64 0, .int .i64 0, .int .i64 0] 38) = W ∧ Keeps (fun _ => False) w W ∧ W.heap[w.heap.size]? = some (.cells #[.pointer (some ⟨p, 0, none⟩)] 93 (0, 0)) ∧ W.heap[w.heap.size + 1]? = some (.cells #[.int .i64 (parts : Int)] 87 (0, 0)) ∧ W.heap[w.heap.size + 1 + 1]? = some (.cells #[.int .i64 0, .int .i64 0, .int .i64 0] 38 (0, 0)) ∧ W.heap.size = w.heap.size + 3 := by
    refine ⟨_, rfl, (((Keeps.refl _ w).alloc _).alloc _).alloc _, ?_, ?_, ?_, by simp⟩
    · rw [Below.heap_alloc _ _ _ (by simp; omega), Below.heap_alloc _ _ _ (by simp)]; exact heap_alloc_new _ _
    · rw [Below.heap_alloc _ _ _ (by simp)]; exact heap_two _ _ _
    · have := heap_alloc_new ((w.alloc (.cells #[.pointer (some ⟨p, 0, none⟩)] 93)).alloc (.cells #[.int .i64 (parts : Int)] 87)) (.cells #[.int .i64 0, .int .i64 0, .int .i64 0] 38)
      simpa using this
  obtain ⟨pd, vj, vf, bo, bp, ve0, g⟩ := h
  have gW := g.keep (o' := tagsUp o w .other) hkW (fun _ hk => tagsUp_old hk) (fun _ _ _ f => f)
  have c0 := gW.cell 0
  have c7 := gW.cell 7
  have c14 := gW.cell 14
  simp [nodeCells] at c0 c7 c14
  have hbg := gW.small.begun
  have hbb := gW.small.big
  have q0 := cell_of_heap (o := 0) h1
  have r0 := cell_of_heap (o := 0) h3
  have r1 := cell_of_heap (o := 1) h3
  have r2 := cell_of_heap (o := 2) h3
  simp at q0 r0 r1 r2
  have hwr : IntKind.i64.wrap ((n.begun : Int) + 1) = ((n.begun + 1 : Nat) : Int) := by rw [IntWalk.i64_in _ ⟨by omega, by omega⟩]; omega
  obtain ⟨t, hte⟩ : ∃ t : Tx, t = ⟨n.id, n.inc, n.begun + 1⟩ := ⟨_, rfl⟩
  rw [← hte] at hk ⊢
  obtain ⟨V, hV, hkV, hT, hVs⟩ : ∃ V, (W.alloc (.cells #[.int .i64 (n.id : Int), .int .i64 (n.inc : Int), .int .i64 ((n.begun + 1 : Nat) : Int)] 38)).drew = V ∧ Keeps (fun _ => False) W V ∧ V.heap[w.heap.size + 3]? = some (.cells #[.int .i64 (t.coord : Int), .int .i64 (t.inc : Int), .int .i64 (t.seq : Int)] 38 (0, 0)) ∧ V.heap.size = w.heap.size + 4 := by
    refine ⟨_, rfl, ((Keeps.refl _ W).alloc _).drew, ?_, ?_⟩
    · rw [hte, ← hWs]; exact heap_alloc_new _ _
    · show (W.alloc _).heap.size = _
      simp [hWs]
  have hkk := hkW.trans hkV (fun _ _ f => f)
  have h0 : NodeAt (tagsUp o w .other) V p n B := ⟨_, _, _, _, _, _, gW.keep (o' := tagsUp o w .other) hkV (fun _ _ => rfl) (fun _ _ _ f => f)⟩
  have h1V := hkV.heap h1 (fun f => f)
  have h2V := hkV.heap h2 (fun f => f)
  have h3V := hkV.heap h3 (fun f => f)
  have hdo := do_ok _ p B (B + 8) 90 #[.pointer (some ⟨w.heap.size, 0, none⟩), .pointer (some ⟨w.heap.size + 3, 0, none⟩), .pointer (some ⟨w.heap.size + 1, 0, none⟩)] n k V h0 ((same_begin hk).up.trans hup) hB (fun W => by simp [go_sem]) (fun X hkX hX => by
    have ha := nBegin_any _ p B parts n t X (h0.begin hkX) hup hz hs (by omega)
    rw [show X.heap.size + 1 = w.heap.size + 7 by omega, hk] at ha
    exact beginC_any _ _ _ p parts t X _ (hkX.heap h1V (fun f => f)) (hkX.heap hT (fun f => f)) (hkX.heap h2V (fun f => f)) ha)
  have s0 := cell_of_heap (o := 0) h1V
  simp at s0
  have ho2 : tagsUp o w .other (w.heap.size + 1 + 1) = .other := tagsUp_new (by omega)
  have ho3 : tagsUp o w .other (w.heap.size + 3) = .other := tagsUp_new (by omega)
  have HTX := hide hte
  clear hte h0 gW g hk
  go_enter Tryz.func48, Tryz.ntmps48
  go_wp2_with fail
  go_region_held3 (fun w' => w'.cell? ⟨w.heap.size, 0, none⟩ = some (.pointer (some ⟨p, 0, none⟩)) ∧ w'.cell? ⟨p, 0, none⟩ = some (.int .i64 (n.id : Int)) ∧ w'.cell? ⟨p, 7, none⟩ = some (.int .i64 (n.inc : Int)) ∧ w'.cell? ⟨p, 14, none⟩ = some (.int .i64 (n.begun : Int))) (first | exact ⟨q0, c0, c7, c14⟩ | exact ⟨hkV.cell' q0 (fun f => f), hkV.cell' c0 (fun f => f), hkV.cell' c7 (fun f => f), hkV.cell' c14 (fun f => f)⟩ | exact ⟨cell_al q0 _, cell_al c0 _, cell_al c7 _, cell_al c14 _⟩) (fail)
  go_wp2_with fail
  generalize hV' : World.drew (World.alloc W _) = V'
  obtain rfl : V = V' := by rw [← hV', ← hV]; rfl
  clear hV' hV
  go_at_call 89
  refine hdo.mono ?_
  rintro e w2 ⟨ve, rfl, hres, hev⟩
  have hT2 := hres.frame hT ho3
  have hR2 := hres.frame h3V ho2
  obtain ⟨t0, t1, t2⟩ := boxTx_cells hT2
  have u0 := cell_of_heap (o := 0) hR2
  have u1 := cell_of_heap (o := 1) hR2
  have u2 := cell_of_heap (o := 2) hR2
  have z0 := frozen_of_heap (o := 0) hR2
  have z1 := frozen_of_heap (o := 1) hR2
  have z2 := frozen_of_heap (o := 2) hR2
  simp at u0 u1 u2
  have hne : ¬ w.heap.size + 1 + 1 = w.heap.size + 3 := by omega
  obtain ⟨⟨o2, f2, g2⟩, k2⟩ := hres
  have ho22 := (f2 (w.heap.size + 1 + 1) (by omega)).trans ho2
  have hks := keeps_set3 w2 (w.heap.size + 1 + 1) 0 1 2 (.int .i64 (t.coord : Int)) (.int .i64 (t.inc : Int)) (.int .i64 (t.seq : Int))
  have HE : Hid (NPost o w p { k.tidy with evs := [] } (B + 9) ((((w2.setCell ⟨w.heap.size + 1 + 1, 0, none⟩ (.int .i64 (t.coord : Int))).setCell ⟨w.heap.size + 1 + 1, 1, none⟩ (.int .i64 (t.inc : Int))).setCell ⟨w.heap.size + 1 + 1, 2, none⟩ (.int .i64 (t.seq : Int))))) := hide ⟨⟨o2, fun k hk' => (f2 k (by omega)).trans (tagsUp_old hk'), g2.keep (o' := o2) (T := fun k => k = w.heap.size + 1 + 1) ⟨hks.os, hks.tape, hks.output, hks.size, hks.block⟩ (fun _ _ => rfl) (fun k _ e e' => by subst e'; exact e ho22)⟩, by
    have hA : Keeps (fun k => o k ≠ .other) w w2 := (hkk.mono (T := fun k => o k ≠ .other) (fun _ _ f => f.elim)).trans k2 (fun k hk' e => by rw [tagsUp_old hk'] at e; exact e)
    have hB : Keeps (fun k => o k ≠ .other) w ((((w2.setCell ⟨w.heap.size + 1 + 1, 0, none⟩ (.int .i64 (t.coord : Int))).setCell ⟨w.heap.size + 1 + 1, 1, none⟩ (.int .i64 (t.inc : Int))).setCell ⟨w.heap.size + 1 + 1, 2, none⟩ (.int .i64 (t.seq : Int)))) := hA.trans ⟨hks.os, hks.tape, hks.output, hks.size, hks.block⟩ (T := fun k => k = w.heap.size + 1 + 1) (fun k hk' e => by omega)
    exact hB⟩
  have HV : Hid (EvsOut o w ((((w2.setCell ⟨w.heap.size + 1 + 1, 0, none⟩ (.int .i64 (t.coord : Int))).setCell ⟨w.heap.size + 1 + 1, 1, none⟩ (.int .i64 (t.inc : Int))).setCell ⟨w.heap.size + 1 + 1, 2, none⟩ (.int .i64 (t.seq : Int)))) ve k.evs) := hide ((hev.from hkk).keep (T := fun k => k = w.heap.size + 1 + 1) ⟨hks.os, hks.tape, hks.output, hks.size, hks.block⟩ (fun k e e' => by subst e'; exact hev.2 _ e (by omega) ho2))
  clear hks g2 k2 hT2 hR2 hdo
  go_wp2_with fail
  refine ⟨rfl, .tuple #[txv t, ve, .int .i64 0], ?_, ve, rfl, unhide HE, unhide HV⟩
  simp [results, Tryz.results48, go_sem, u0, u1, u2, txv]

end Go.Proofs.YthbmmbgkchiajaaGreat

/- A new node. -/
namespace Go.Proofs.YthbmmbgkchiajaaGreat
set_option linter.unusedSimpArgs false
set_option linter.unusedVariables false
open Go.RowKit

def newNM (id : Nat) (cfg : Cfg) (pd bo bp : Nat) : NM := { id := id, cfg := cfg, up := true, inc := 1, refuses := false, forced := 0, lazies := 0, sent := 0, recs := [], low := 1, safe := 0, notes := [], fuse := none, begun := 0, opn := [], prep := [], marks := marks0, evs := [], pd := pd, bo := bo, bp := bp }
theorem newNM_jm (id : Nat) (cfg : Cfg) (pd bo bp : Nat) : (newNM id cfg pd bo bp).jm = newJM cfg.ring cfg.per := rfl

structure CfgOk (c : Cfg) : Prop where
  nodes : 1 ≤ c.nodes ∧ c.nodes ≤ 4
  variant : 1 ≤ c.variant ∧ c.variant ≤ 3
  ring : 2 ≤ c.ring ∧ c.ring ≤ 6
  per : 2 ≤ c.per ∧ c.per ≤ 16
  patience : 1 ≤ c.patience ∧ c.patience ≤ 8

def cfgV (c : Cfg) : Value := .agg #[.int .i64 (c.nodes : Int), .int .i64 (c.variant : Int), .int .i64 (c.ring : Int), .int .i64 (c.per : Int), .int .i64 (c.patience : Int)]

attribute [local go_sem ↓] mulI_eq

set_option maxRecDepth 100000 in
theorem use_any (p pj pd : Nat) (cs : Array Value) (e : Nat) (w : World) (hself : w.heap[p]? = some (.cells cs 154 (0, 0))) (hc : 30 ≤ cs.size) (hj : w.cell? ⟨pj, 6, none⟩ = some (.int .i64 (e : Int))) (hne : pj ≠ p) :
    Calls Tryz.prog 150 #[.pointer (some ⟨p, 0, none⟩), .pointer (some ⟨pj, 0, none⟩)] w fun r w' => r = .returned (.tuple #[]) ∧ w' = (w.setCell ⟨p, 12, none⟩ (.pointer (some ⟨pj, 0, none⟩))).setCell ⟨p, 7, none⟩ (.int .i64 (e : Int)) := by
  have c12 : ∃ u, w.cell? ⟨p, 12, none⟩ = some u := ⟨cs[12]'(by omega), by rw [cell_of_heap hself]; exact Array.getElem?_eq_getElem (by omega)⟩
  have c7 : ∃ u, w.cell? ⟨p, 7, none⟩ = some u := ⟨cs[7]'(by omega), by rw [cell_of_heap hself]; exact Array.getElem?_eq_getElem (by omega)⟩
  obtain ⟨u12, c12⟩ := c12
  obtain ⟨u7, c7⟩ := c7
  have z12 := frozen_of_heap (o := 12) hself
  have z7 := frozen_of_heap (o := 7) hself
  have hep := fun W (hW : W = w.setCell ⟨p, 12, none⟩ (.pointer (some ⟨pj, 0, none⟩))) => jEpoch_any pj (e : Int) W (by
    subst hW
    refine ((Keeps.refl (fun k => k = p) w).setCell (p := ⟨p, 12, none⟩) (.inl rfl) (.pointer (some ⟨pj, 0, none⟩))).cell' hj hne)
  clear hself
  go_enter Tryz.func150, Tryz.ntmps150
  go_wp2_with (go_at_call 222; refine (hep _ rfl).mono ?_; rintro r wx ⟨rfl, rfl⟩)
  go_end0
  exact ⟨rfl, rfl⟩

/-- Whose the blocks of a new node are. -/
def newTags (w w2 : World) : Nat → Tag := fun k => if k < w.heap.size then .other else if k < w2.heap.size then .jour else if k = w2.heap.size then .opens else if k = w2.heap.size + 1 then .preps else if k = w2.heap.size + 2 then .node else .other

def rawNode (id : Nat) (c : Cfg) (pd : Nat) (vj : Value) (e bo bp : Nat) : Array Value := #[.int .i64 (id : Int), .int .i64 (c.nodes : Int), .int .i64 (c.variant : Int), .int .i64 (c.ring : Int), .int .i64 (c.per : Int), .int .i64 (c.patience : Int), .pointer (some ⟨pd, 0, none⟩), .int .i64 (e : Int), .bool false, .int .i64 0, .int .i64 0, .int .i64 0, vj, .pointer none, .int .i64 0, .map (some bo), .map (some bp), .int .i64 0, .int .i64 0, .int .i64 0, .int .i64 0, .int .i64 0, .int .i64 0, .int .i64 0, .int .i64 0, .int .i64 0, .int .i64 0, .int .i64 0, .int .i64 0, .slice none 0 0]

theorem new_end {w w2 V : World} {id : Nat} {c : Cfg} {pd pj : Nat} {m : DM} (hid : id < 4) (hc : CfgOk c) (hkw : Keeps (fun _ => False) w w2) (hJ : JUse (fun k => w.heap.size ≤ k) w2 pj pd (newJM c.ring c.per) m) (hm : m.syncs ≤ 1) (hkV : Keeps (fun _ => False) w2 V) (hb : V.heap[w2.heap.size]? = some (.map #[] 0)) (hb' : V.heap[w2.heap.size + 1]? = some (.map #[] 0)) (hs : V.heap[w2.heap.size + 1 + 1]? = some (.cells (rawNode id c pd (.pointer none) 0 w2.heap.size (w2.heap.size + 1)) 154 (0, 0))) :
    NodeAt (newTags w w2) ((V.setCell ⟨w2.heap.size + 1 + 1, 12, none⟩ (.pointer (some ⟨pj, 0, none⟩))).setCell ⟨w2.heap.size + 1 + 1, 7, none⟩ (.int .i64 1)) (w2.heap.size + 1 + 1) (newNM id c pd w2.heap.size (w2.heap.size + 1)) 1 := by
  have hsz := hkw.size
  have hk : Keeps (fun k => k = w2.heap.size + 1 + 1) V ((V.setCell ⟨w2.heap.size + 1 + 1, 12, none⟩ (.pointer (some ⟨pj, 0, none⟩))).setCell ⟨w2.heap.size + 1 + 1, 7, none⟩ (.int .i64 1)) := ((Keeps.refl (fun k => k = w2.heap.size + 1 + 1) V).setCell (p := ⟨w2.heap.size + 1 + 1, 12, none⟩) (.inl rfl) _).setCell (p := ⟨w2.heap.size + 1 + 1, 7, none⟩) (.inl rfl) _
  have t0 : newTags w w2 w2.heap.size = .opens := by unfold newTags; rw [if_neg (by omega), if_neg (by omega), if_pos rfl]
  have t1 : newTags w w2 (w2.heap.size + 1) = .preps := by unfold newTags; rw [if_neg (by omega), if_neg (by omega), if_neg (by omega), if_pos rfl]
  have t2 : newTags w w2 (w2.heap.size + 1 + 1) = .node := by unfold newTags; rw [if_neg (by omega), if_neg (by omega), if_neg (by omega), if_neg (by omega), if_pos rfl]
  have emp : ∀ b, V.heap[b]? = some (.map #[] 0) → MapAt V b [] := fun b hb => ⟨#[], 0, hb, rfl, List.Pairwise.nil, fun e he => by simp at he⟩
  refine ⟨pd, .pointer (some ⟨pj, 0, none⟩), .pointer none, w2.heap.size, w2.heap.size + 1, .slice none 0 0, ?_, t2, ⟨t0, (emp _ hb).keep hk (by omega), List.nodup_nil, fun x hx => by cases hx⟩, ⟨t1, (emp _ hb').keep hk (by omega), List.nodup_nil⟩, Own.nil _ _ _ _, rfl, ?_, ?_, rfl⟩
  · rw [heap_setCell_same (heap_setCell_same hs _)]; rfl
  · unfold JourAt
    rw [show (newNM id c pd w2.heap.size (w2.heap.size + 1)).up = true from rfl, if_pos rfl]
    refine ⟨pj, m, rfl, ?_, hm⟩
    have h1 := (hJ.mono (T := fun k => w.heap.size ≤ k ∧ k < w2.heap.size) (fun k hk e => ⟨e, hk⟩)).keep hkV (fun _ _ _ f => f)
    have h2 := h1.keep hk (fun k _ e e' => by omega)
    exact h2.mono (fun k _ e => by unfold newTags; rw [if_neg (by omega), if_pos e.2])
  · exact ⟨hid, hc.variant, hc.patience, by show (1 : Nat) ≤ _; omega, Nat.zero_le _, Nat.zero_le _, Nat.zero_le _, Nat.zero_le _, Nat.zero_le _, Nat.zero_le _, rfl, (fun x hx => by cases hx), (fun x hx => by cases hx), Nat.zero_le _, Nat.zero_le _, by omega⟩

set_option maxRecDepth 100000 in
set_option maxHeartbeats 800000 in
theorem nodeNew_any (id : Nat) (c : Cfg) (w : World) (hid : id < 4) (hc : CfgOk c) :
    Calls Tryz.prog 85 #[.int .i64 (id : Int), cfgV c] w fun e w' => ∃ p pd bo bp o', e = .returned (.pointer (some ⟨p, 0, none⟩)) ∧ NodeAt o' w' p (newNM id c pd bo bp) 1 ∧ (∀ k, k < w.heap.size → o' k = .other) ∧ Keeps (fun _ => False) w w' ∧ w.heap.size ≤ p := by
  have hrp : c.ring * c.per ≤ 96 := Nat.mul_le_mul hc.ring.2 hc.per.2
  have hmul := fun W => run_mulI W c.ring c.per (by omega)
  have hwr : IntKind.i64.wrap (((c.ring * c.per : Nat) : Int) + 2) = ((c.ring * c.per + 2 : Nat) : Int) := by rw [IntWalk.i64_in _ ⟨by omega, by omega⟩]; omega
  obtain ⟨W, hW, hkW, hA⟩ : ∃ W, w.alloc (.cells #[.int .i64 (c.nodes : Int), .int .i64 (c.variant : Int), .int .i64 (c.ring : Int), .int .i64 (c.per : Int), .int .i64 (c.patience : Int)] 29) = W ∧ Keeps (fun _ => False) w W ∧ W.heap[w.heap.size]? = some (.cells #[.int .i64 (c.nodes : Int), .int .i64 (c.variant : Int), .int .i64 (c.ring : Int), .int .i64 (c.per : Int), .int .i64 (c.patience : Int)] 29 (0, 0)) := ⟨_, rfl, (Keeps.refl _ w).alloc _, heap_alloc_new _ _⟩
  have hdn := dNew_yes (c.ring * c.per + 2) W (by omega) (by omega)
  have hcr := fun S pd m w1 => use_create S pd c.ring c.per m w1
  have huse := use_any
  have hmm := @run_makeMap Tryz.prog
  have a0 := cell_of_heap (o := 0) hA
  have a1 := cell_of_heap (o := 1) hA
  have a2 := cell_of_heap (o := 2) hA
  have a3 := cell_of_heap (o := 3) hA
  have a4 := cell_of_heap (o := 4) hA
  simp at a0 a1 a2 a3 a4
  unfold cfgV
  obtain ⟨rp, hrpe⟩ : ∃ rp, c.ring * c.per = rp := ⟨_, rfl⟩
  rw [hrpe] at hmul hwr hdn hrp
  have HRP := hide hrpe
  generalize hr2 : rp + 2 = rp2 at *
  have HR2 := hide hr2
  clear hrpe hr2
  go_enter Tryz.func85, Tryz.ntmps85
  go_wp2_with fail
  clear hW
  go_at_call 119
  refine hdn.mono ?_
  rintro e w1 ⟨pd, rfl, hD, hk1⟩
  have b0 := hk1.cell' a0 (fun f => f)
  have b1 := hk1.cell' a1 (fun f => f)
  have b2 := hk1.cell' a2 (fun f => f)
  have b3 := hk1.cell' a3 (fun f => f)
  have b4 := hk1.cell' a4 (fun f => f)
  have hcc := hcr _ pd _ w1 hD (freshDM_ok _ (by have := unhide HR2; omega) (by have := unhide HR2; omega)) (by show (0 + 101) * 72 ≤ _; omega) (by show (0 : Nat) < _; omega) hc.ring hc.per (by rw [unhide HRP]; show rp + 2 ≤ (List.replicate rp2 zero64).length; rw [List.length_replicate, unhide HR2]; exact Nat.le_refl _)
  clear hD hdn hcr a0 a1 a2 a3 a4
  go_wp2_with fail
  go_at_call 149
  refine hcc.mono ?_
  rintro e w2 ⟨pj, rfl, hpj, hJ, hk2⟩
  have hkw2 : Keeps (fun _ => False) w w2 := (hkW.trans hk1 (fun _ _ f => f)).trans hk2 (fun k hk e => by have := hkW.size; omega)
  have hb2 : w2.heap[w.heap.size]? = some (.cells #[.int .i64 (c.nodes : Int), .int .i64 (c.variant : Int), .int .i64 (c.ring : Int), .int .i64 (c.per : Int), .int .i64 (c.patience : Int)] 29 (0, 0)) := hk2.heap (hk1.heap hA (fun f => f)) (fun e => by have := lt_of_heap hA; omega)
  have d0 := cell_of_heap (o := 0) hb2
  have d1 := cell_of_heap (o := 1) hb2
  have d2 := cell_of_heap (o := 2) hb2
  have d3 := cell_of_heap (o := 3) hb2
  have d4 := cell_of_heap (o := 4) hb2
  simp at d0 d1 d2 d3 d4
  have HJ := hide hJ
  clear hcc hJ hb2 b0 b1 b2 b3 b4
  go_wp2_with fail
  generalize hV : World.alloc (World.alloc (World.alloc w2 _) _) _ = V
  have hkV : Keeps (fun _ => False) w2 V := by rw [← hV]; exact (((Keeps.refl _ w2).alloc _).alloc _).alloc _
  have hm1 : V.heap[w2.heap.size]? = some (.map #[] 0) := by
    rw [← hV, Below.heap_alloc _ _ _ (by simp; omega), Below.heap_alloc _ _ _ (by simp)]; exact heap_alloc_new _ _
  have hm2 : V.heap[w2.heap.size + 1]? = some (.map #[] 0) := by
    rw [← hV, Below.heap_alloc _ _ _ (by simp)]; exact heap_two _ _ _
  have hsf : V.heap[w2.heap.size + 1 + 1]? = some (.cells (rawNode id c pd (.pointer none) 0 w2.heap.size (w2.heap.size + 1)) 154 (0, 0)) := by
    have h1 := heap_alloc_new ((w2.alloc (.map #[] 0)).alloc (.map #[] 0)) (.cells (rawNode id c pd (.pointer none) 0 w2.heap.size (w2.heap.size + 1)) 154)
    have h2 : ((w2.alloc (.map #[] 0)).alloc (.map #[] 0)).heap.size = w2.heap.size + 1 + 1 := by simp
    rw [h2] at h1
    rw [← hV]
    exact h1
  clear hV
  obtain ⟨vn, hjat⟩ := (unhide HJ).at
  have hpjl := lt_of_heap hjat
  have cj6 := cell_of_heap (o := 6) (hkV.heap hjat (fun f => f))
  simp [newJM] at cj6
  have hu := huse (w2.heap.size + 1 + 1) pj pd _ 1 V hsf (by show 30 ≤ (rawNode id c pd (.pointer none) 0 w2.heap.size (w2.heap.size + 1)).size; exact Nat.le_refl _) cj6 (by omega)
  have HE := hide (new_end hid hc hkw2 ((unhide HJ).mono (T := fun k => w.heap.size ≤ k) (fun k _ e => by have h1 := hkW.size; have h2 := hk1.size; rcases e with e | e <;> omega)) (by rw [createdDM_syncs]; exact Nat.le_refl _) hkV hm1 hm2 hsf)
  clear hm1 hm2 hsf hjat HJ
  go_at_call 150
  refine hu.mono ?_
  rintro e w5 ⟨rfl, rfl⟩
  go_wp2
  go_ret
  refine ⟨w2.heap.size + 1 + 1, pd, w2.heap.size, w2.heap.size + 1, newTags w w2, rfl, unhide HE, fun k hk => by unfold newTags; rw [if_pos hk], ?_, by have := hkw2.size; omega⟩
  have hk : Keeps (fun k => k = w2.heap.size + 1 + 1) V ((V.setCell ⟨w2.heap.size + 1 + 1, 12, none⟩ (.pointer (some ⟨pj, 0, none⟩))).setCell ⟨w2.heap.size + 1 + 1, 7, none⟩ (.int .i64 1)) := ((Keeps.refl (fun k => k = w2.heap.size + 1 + 1) V).setCell (p := ⟨w2.heap.size + 1 + 1, 12, none⟩) (.inl rfl) _).setCell (p := ⟨w2.heap.size + 1 + 1, 7, none⟩) (.inl rfl) _
  exact (hkw2.trans hkV (fun _ _ f => f)).trans hk (fun k hk' e => by have := hkw2.size; omega)

end Go.Proofs.YthbmmbgkchiajaaGreat
