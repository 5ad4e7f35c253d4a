
/- A cluster in memory. -/
import Derived.Test.YthbmmbgkchiajaaGreatNPow

namespace Go.Proofs.YthbmmbgkchiajaaGreat
set_option linter.unusedSimpArgs false
set_option linter.unusedVariables false
open Go.RowKit

/-- Whose a block is, in a cluster. -/
inductive CTag where
  | other
  | self
  | row
  | net
  | trace
  | node (i : Nat) (t : Tag)

def nodeTags (c : Nat → CTag) (i : Nat) : Nat → Tag := fun k => match c k with
  | .node j t => if j = i then t else .other
  | _ => .other

structure KM where
  ns : List NM
  ps : List Nat
  net : List Msg
  trace : List Ev

structure KG (c : Nat → CTag) (w : World) (pk : Nat) (K : KM) (B : Nat) (vr vn vt : Value) : Prop where
  self : w.heap[pk]? = some (.cells #[vr, vn, vt] 92 (0, 0))
  own : c pk = .self
  row : Own (fun k => c k = .row) w 93 1 vr K.ps.length (K.ps.map fun p => Value.pointer (some ⟨p, 0, none⟩))
  net : Own (fun k => c k = .net) w 54 6 vn K.net.length (K.net.flatMap msgCells)
  trace : Own (fun k => c k = .trace) w 56 12 vt K.trace.length (K.trace.flatMap evCells)
  len : K.ps.length = K.ns.length
  nodes : ∀ i n p, K.ns[i]? = some n → K.ps[i]? = some p → NodeAt (nodeTags c i) w p n B
  small : K.net.length ≤ B ∧ K.trace.length ≤ B ∧ K.ns.length ≤ 4

def KAt (c : Nat → CTag) (w : World) (pk : Nat) (K : KM) (B : Nat) : Prop := ∃ vr vn vt, KG c w pk K B vr vn vt
/-- What a call on a cluster leaves. -/
def KPost (c : Nat → CTag) (w : World) (pk : Nat) (K : KM) (B : Nat) (w' : World) : Prop :=
  (∃ c', (∀ k, k < w.heap.size → c' k = c k) ∧ KAt c' w' pk K B) ∧ Keeps (fun k => c k ≠ .other) w w'

theorem KPost.refl {c : Nat → CTag} {w : World} {pk : Nat} {K : KM} {B : Nat} (h : KAt c w pk K B) : KPost c w pk K B w := ⟨⟨c, fun _ _ => rfl, h⟩, Keeps.refl _ _⟩
theorem KPost.next {c : Nat → CTag} {w w' : World} {pk : Nat} {K : KM} {B : Nat} (h : KPost c w pk K B w') : ∃ c', (∀ k, k < w.heap.size → c' k = c k) ∧ KAt c' w' pk K B ∧ (∀ w2 K2 B2, KPost c' w' pk K2 B2 w2 → KPost c w pk K2 B2 w2) := by
  obtain ⟨⟨c1, e1, g1⟩, k1⟩ := h
  refine ⟨c1, e1, g1, fun w2 K2 B2 k => ?_⟩
  obtain ⟨⟨c2, e2, g2⟩, k2⟩ := k
  refine ⟨⟨c2, fun i hi => (e2 i (Nat.lt_of_lt_of_le hi k1.size)).trans (e1 i hi), g2⟩, k1.trans k2 (fun i hi e => ?_)⟩
  rw [← e1 i hi]; exact e

def ctagsUp (c : Nat → CTag) (w : World) (t : CTag) : Nat → CTag := fun k => if k < w.heap.size then c k else t
theorem ctagsUp_old {c : Nat → CTag} {w : World} {t : CTag} {k : Nat} (h : k < w.heap.size) : ctagsUp c w t k = c k := if_pos h
theorem ctagsUp_new {c : Nat → CTag} {w : World} {t : CTag} {k : Nat} (h : w.heap.size ≤ k) : ctagsUp c w t k = t := if_neg (by omega)

theorem nodeTags_eq {c c' : Nat → CTag} {k : Nat} (h : c' k = c k) (i : Nat) : nodeTags c' i k = nodeTags c i k := by unfold nodeTags; rw [h]

/-- The nodes stay as they are where only other parts are written. -/
theorem KG.nodesKeep {c c' : Nat → CTag} {w w' : World} {pk : Nat} {K : KM} {B : Nat} {vr vn vt : Value} {T : Nat → Prop} (h : KG c w pk K B vr vn vt) (hk : Keeps T w w') (hc : ∀ k, k < w.heap.size → c' k = c k) (hT : ∀ k, k < w.heap.size → (∃ i t, c k = .node i t) → ¬ T k) : ∀ i n p, K.ns[i]? = some n → K.ps[i]? = some p → NodeAt (nodeTags c' i) w' p n B := by
  intro i n p h1 h2
  refine (h.nodes i n p h1 h2).keep hk (fun k hk' => nodeTags_eq (hc k hk') i) (fun k hk' e => hT k hk' ?_)
  unfold nodeTags at e
  cases hck : c k with
  | node j t => exact ⟨j, t, rfl⟩
  | other => rw [hck] at e; exact absurd rfl e
  | self => rw [hck] at e; exact absurd rfl e
  | row => rw [hck] at e; exact absurd rfl e
  | net => rw [hck] at e; exact absurd rfl e
  | trace => rw [hck] at e; exact absurd rfl e

/-- A part of a cluster that lies in a row of its own. -/
theorem Own.ckeep {c c' : Nat → CTag} {t : CTag} {w w' : World} {e size n : Nat} {v : Value} {xs : List Value} {T : Nat → Prop} (h : Own (fun k => c k = t) w e size v n xs) (hk : Keeps T w w') (hc : ∀ k, k < w.heap.size → c' k = c k) (hT : ∀ k, k < w.heap.size → c k = t → ¬ T k) : Own (fun k => c' k = t) w' e size v n xs := by
  have h1 := Own.mono h (T := fun k => k < w.heap.size ∧ c k = t) (fun k hk e => ⟨hk, e⟩)
  have h2 := Own.keep h1 hk (fun k hk e => hT k hk e.2)
  exact ⟨h2.1, fun k e => (hc k (h2.2 k e).1).trans (h2.2 k e).2⟩

theorem KG.keep {c c' : Nat → CTag} {w w' : World} {pk : Nat} {K : KM} {B : Nat} {vr vn vt : Value} {T : Nat → Prop} (h : KG c w pk K B vr vn vt) (hk : Keeps T w w') (hc : ∀ k, k < w.heap.size → c' k = c k) (hT : ∀ k, k < w.heap.size → c k ≠ .other → ¬ T k) : KG c' w' pk K B vr vn vt := by
  have hp := lt_of_heap h.self
  exact ⟨hk.heap h.self (hT _ hp (by rw [h.own]; simp)), (hc _ hp).trans h.own, h.row.ckeep hk hc (fun k hk' e => hT k hk' (by rw [e]; simp)), h.net.ckeep hk hc (fun k hk' e => hT k hk' (by rw [e]; simp)), h.trace.ckeep hk hc (fun k hk' e => hT k hk' (by rw [e]; simp)), h.len, h.nodesKeep hk hc (fun k hk' ⟨i, t, e⟩ => hT k hk' (by rw [e]; simp)), h.small⟩
theorem KAt.begin {c : Nat → CTag} {w W : World} {pk : Nat} {K : KM} {B : Nat} (h : KAt c w pk K B) (hk : Keeps (fun _ => False) w W) : KAt (ctagsUp c w .other) W pk K B := by
  obtain ⟨vr, vn, vt, g⟩ := h
  exact ⟨vr, vn, vt, g.keep hk (fun _ hk => ctagsUp_old hk) (fun _ _ _ f => f)⟩
theorem KPost.from {c : Nat → CTag} {w W w' : World} {pk : Nat} {K : KM} {B : Nat} (hk : Keeps (fun _ => False) w W) (h : KPost (ctagsUp c w .other) W pk K B w') : KPost c w pk K B w' := by
  obtain ⟨⟨o1, e1, g1⟩, k1⟩ := h
  refine ⟨⟨o1, fun i hi => (e1 i (Nat.lt_of_lt_of_le hi hk.size)).trans (ctagsUp_old hi), g1⟩, (hk.mono (T := fun k => c k ≠ .other) (fun _ _ f => f.elim)).trans k1 (fun i hi e => ?_)⟩
  rw [ctagsUp_old hi] at e; exact e

/-- A node of the cluster has acted. -/
theorem KG.nodePost' {c : Nat → CTag} {w w' : World} {pk : Nat} {K : KM} {B B' : Nat} {vr vn vt : Value} (h : KG c w pk K B vr vn vt) {i p : Nat} {n n' : NM} (hn : K.ns[i]? = some n) (hp : K.ps[i]? = some p) (hB : B ≤ B') (hB' : B' ≤ 1099511627776) (hres : NPost (nodeTags c i) w p n' B' w') : (∃ c', (∀ k, k < w.heap.size → c' k = c k) ∧ (∀ k, w.heap.size ≤ k → ∃ t, c' k = .node i t) ∧ KAt c' w' pk { K with ns := K.ns.set i n' } B') ∧ Keeps (fun k => ∃ t, c k = .node i t) w w' := by
  obtain ⟨⟨o', e', g'⟩, k'⟩ := hres
  have hno : ∀ k, k < w.heap.size → (∀ t, c k ≠ .node i t) → ¬ nodeTags c i k ≠ .other := fun k _ hc e => by
    unfold nodeTags at e
    cases hck : c k with
    | node j t =>
      rw [hck] at e
      by_cases hji : j = i
      · subst hji; exact hc t hck
      · simp [hji] at e
    | other => rw [hck] at e; exact e rfl
    | self => rw [hck] at e; exact e rfl
    | row => rw [hck] at e; exact e rfl
    | net => rw [hck] at e; exact e rfl
    | trace => rw [hck] at e; exact e rfl
  let c' : Nat → CTag := fun k => if k < w.heap.size then c k else .node i (o' k)
  have hc' : ∀ k, k < w.heap.size → c' k = c k := fun k hk => if_pos hk
  have hpk := lt_of_heap h.self
  refine ⟨⟨c', hc', fun k hk => ⟨o' k, if_neg (by omega)⟩, vr, vn, vt, ⟨k'.heap h.self (hno _ hpk (fun t => by rw [h.own]; simp)), (hc' _ hpk).trans h.own, h.row.ckeep k' hc' (fun k hk e => hno k hk (fun t => by rw [e]; simp)), h.net.ckeep k' hc' (fun k hk e => hno k hk (fun t => by rw [e]; simp)), h.trace.ckeep k' hc' (fun k hk e => hno k hk (fun t => by rw [e]; simp)), by show K.ps.length = (K.ns.set i n').length; rw [List.length_set]; exact h.len, ?_, ⟨Nat.le_trans h.small.1 hB, Nat.le_trans h.small.2.1 hB, by show (K.ns.set i n').length ≤ 4; rw [List.length_set]; exact h.small.2.2⟩⟩⟩, k'.mono (fun k hkl e => ?_)⟩
  · intro j m q h1 h2
    have h1' : (K.ns.set i n')[j]? = some m := h1
    have h2' : K.ps[j]? = some q := h2
    rw [List.getElem?_set] at h1'
    by_cases hij : i = j
    · subst hij
      have hlt := (List.getElem?_eq_some_iff.1 hn).1
      rw [if_pos rfl, if_pos hlt] at h1'
      cases h1'
      rw [hp] at h2'
      cases h2'
      refine g'.keep (Keeps.refl (fun _ => False) w') (fun k _ => ?_) (fun _ _ _ f => f)
      by_cases hk : k < w.heap.size
      · rw [e' k hk]; exact nodeTags_eq (hc' k hk) i
      · unfold nodeTags
        have : c' k = .node i (o' k) := if_neg hk
        rw [this]; simp
    · rw [if_neg hij] at h1'
      refine ((h.nodes j m q h1' h2').keep k' (fun k hk => nodeTags_eq (hc' k hk) j) (fun k hk e => hno k hk (fun t hct => ?_))).up hB hB'
      unfold nodeTags at e
      rw [hct] at e
      simp [hij] at e
  · apply Classical.byContradiction
    intro hne
    exact hno k hkl (fun t e' => hne ⟨t, e'⟩) e
theorem KG.nodePost {c : Nat → CTag} {w w' : World} {pk : Nat} {K : KM} {B B' : Nat} {vr vn vt : Value} (h : KG c w pk K B vr vn vt) {i p : Nat} {n n' : NM} (hn : K.ns[i]? = some n) (hp : K.ps[i]? = some p) (hB : B ≤ B') (hB' : B' ≤ 1099511627776) (hres : NPost (nodeTags c i) w p n' B' w') : KPost c w pk { K with ns := K.ns.set i n' } B' w' := by
  obtain ⟨⟨c', h1, _, h2⟩, h3⟩ := h.nodePost' hn hp hB hB' hres
  exact ⟨⟨c', h1, h2⟩, h3.mono (fun k _ ⟨t, e⟩ => by rw [e]; simp)⟩

end Go.Proofs.YthbmmbgkchiajaaGreat

/- What a node has done is taken in. -/
namespace Go.Proofs.YthbmmbgkchiajaaGreat
set_option linter.unusedSimpArgs false
set_option linter.unusedVariables false
open Go.RowKit

/-- What only a cluster's messages and events have turned by. -/
def KFine (c : Nat → CTag) (w : World) (pk : Nat) (K : KM) (B : Nat) (w' : World) : Prop :=
  (∃ c', (∀ k, k < w.heap.size → c' k = c k) ∧ KAt c' w' pk K B) ∧ Keeps (fun k => c k = .self ∨ c k = .net ∨ c k = .trace) w w'
theorem KFine.post {c : Nat → CTag} {w w' : World} {pk : Nat} {K : KM} {B : Nat} (h : KFine c w pk K B w') : KPost c w pk K B w' := ⟨h.1, h.2.mono (fun k _ e => by rcases e with e | e | e <;> rw [e] <;> simp)⟩
theorem KFine.refl {c : Nat → CTag} {w : World} {pk : Nat} {K : KM} {B : Nat} (h : KAt c w pk K B) : KFine c w pk K B w := ⟨⟨c, fun _ _ => rfl, h⟩, Keeps.refl _ _⟩
theorem KFine.next {c : Nat → CTag} {w w' : World} {pk : Nat} {K : KM} {B : Nat} (h : KFine c w pk K B w') : ∃ c', (∀ k, k < w.heap.size → c' k = c k) ∧ KAt c' w' pk K B ∧ (∀ w2 K2 B2, KFine c' w' pk K2 B2 w2 → KFine c w pk K2 B2 w2) := by
  obtain ⟨⟨c1, e1, g1⟩, k1⟩ := h
  refine ⟨c1, e1, g1, fun w2 K2 B2 k => ?_⟩
  obtain ⟨⟨c2, e2, g2⟩, k2⟩ := k
  refine ⟨⟨c2, fun i hi => (e2 i (Nat.lt_of_lt_of_le hi k1.size)).trans (e1 i hi), g2⟩, k1.trans k2 (fun i hi e => ?_)⟩
  rw [← e1 i hi]; exact e
theorem KFine.from {c : Nat → CTag} {w W w' : World} {pk : Nat} {K : KM} {B : Nat} (hk : Keeps (fun _ => False) w W) (h : KFine (ctagsUp c w .other) W pk K B w') : KFine c w pk K B w' := by
  obtain ⟨⟨o1, e1, g1⟩, k1⟩ := h
  refine ⟨⟨o1, fun i hi => (e1 i (Nat.lt_of_lt_of_le hi hk.size)).trans (ctagsUp_old hi), g1⟩, (hk.mono (T := fun k => c k = .self ∨ c k = .net ∨ c k = .trace) (fun _ _ f => f.elim)).trans k1 (fun i hi e => ?_)⟩
  rw [ctagsUp_old hi] at e; exact e
theorem KAt.up {c : Nat → CTag} {w : World} {pk : Nat} {K : KM} {B B' : Nat} (h : KAt c w pk K B) (hB : B ≤ B') (hB' : B' ≤ 1099511627776) : KAt c w pk K B' := by
  obtain ⟨vr, vn, vt, g⟩ := h
  exact ⟨vr, vn, vt, g.self, g.own, g.row, g.net, g.trace, g.len, fun i n p h1 h2 => (g.nodes i n p h1 h2).up hB hB', ⟨Nat.le_trans g.small.1 hB, Nat.le_trans g.small.2.1 hB, g.small.2.2⟩⟩
theorem KFine.up {c : Nat → CTag} {w w' : World} {pk : Nat} {K : KM} {B B' : Nat} (h : KFine c w pk K B w') (hB : B ≤ B') (hB' : B' ≤ 1099511627776) : KFine c w pk K B' w' := by
  obtain ⟨⟨c', e, g⟩, k⟩ := h
  exact ⟨⟨c', e, g.up hB hB'⟩, k⟩

theorem infoMsg : (Tryz.prog.info? 54).map (fun i => (i.zero, i.size, i.bytes)) = some (some (.agg (Array.replicate 6 (.int .i64 0))), 6, 48) := by kernel_rfl
theorem msg_zero_size : (Value.agg (Array.replicate 6 (.int .i64 0))).cells.size = 6 := rfl
theorem msgCells_one (m : Msg) : ∀ u ∈ msgCells m, u.oneCell' = true := by
  intro u hu
  simp only [msgCells, List.mem_cons, List.not_mem_nil, or_false] at hu
  rcases hu with rfl | rfl | rfl | rfl | rfl | rfl <;> rfl

/-- A row has been appended to, and its new slice stored into the cluster. -/
theorem KG.netPost {c : Nat → CTag} {w w1 : World} {pk : Nat} {K : KM} {B : Nat} {vr vn vt : Value} (h : KG c w pk K B vr vn vt) (hB : B + 1 ≤ 1099511627776) (m : Msg) {gg cap H : Nat} (hk1 : Keeps (fun k => vn.ownBlock = some k) w w1)
    (hown1 : w1.ownsRow 0 54 6 (.slice (some ⟨gg, 0, none⟩) (K.net.length + 1) cap) (K.net.length + 1) (K.net.flatMap msgCells ++ msgCells m)) (hat : vn.ownBlock = some gg ∨ gg = H) (hH : w.heap.size ≤ H) :
    KFine c w pk { K with net := K.net ++ [m] } (B + 1) (w1.setCell ⟨pk, 1, none⟩ (.slice (some ⟨gg, 0, none⟩) (K.net.length + 1) cap)) := by
  have hpk := lt_of_heap h.self
  have hpn : ¬ vn.ownBlock = some pk := fun e => by have h1 : c pk = .net := h.net.2 _ e; rw [h.own] at h1; cases h1
  have hb1 := hk1.heap h.self hpn
  have hks : Keeps (fun k => k = pk) w1 (w1.setCell ⟨pk, 1, none⟩ (.slice (some ⟨gg, 0, none⟩) (K.net.length + 1) cap)) := (Keeps.refl (fun k => k = pk) w1).setCell (p := ⟨pk, 1, none⟩) (.inl rfl) _
  have hkk : Keeps (fun k => k = pk ∨ vn.ownBlock = some k) w (w1.setCell ⟨pk, 1, none⟩ (.slice (some ⟨gg, 0, none⟩) (K.net.length + 1) cap)) := (hk1.mono (T := fun k => k = pk ∨ vn.ownBlock = some k) (fun _ _ e => .inr e)).trans hks (fun _ _ e => .inl e)
  have hq : ∀ k, k = pk ∨ vn.ownBlock = some k → c k = .self ∨ c k = .net := fun k e => by
    rcases e with rfl | e
    · exact .inl h.own
    · exact .inr (h.net.2 _ e)
  have hc : ∀ k, k < w.heap.size → ctagsUp c w .net k = c k := fun k hk => ctagsUp_old hk
  refine ⟨⟨ctagsUp c w .net, hc, vr, .slice (some ⟨gg, 0, none⟩) (K.net.length + 1) cap, vt, ?_, (hc _ hpk).trans h.own, h.row.ckeep hkk hc (fun k _ e e' => by rcases hq k e' with q | q <;> rw [q] at e <;> cases e), ?_, h.trace.ckeep hkk hc (fun k _ e e' => by rcases hq k e' with q | q <;> rw [q] at e <;> cases e), h.len, fun i n p h1 h2 => (h.nodesKeep hkk hc (fun k _ ⟨i, t, e⟩ e' => by rcases hq k e' with q | q <;> rw [q] at e <;> cases e) i n p h1 h2).up (by omega) hB, ?_⟩, hkk.mono (fun k _ e => by rcases hq k e with q | q; exact .inl q; exact .inr (.inl q))⟩
  · rw [heap_setCell_same hb1]; rfl
  · show Own _ _ _ _ _ (K.net ++ [m]).length ((K.net ++ [m]).flatMap msgCells)
    rw [List.length_append, List.length_singleton, List.flatMap_append, List.flatMap_singleton]
    refine Own.keep (S := fun k => ctagsUp c w .net k = .net) ⟨hown1, fun k e => ?_⟩ hks (fun k _ e e' => ?_)
    · simp only [Value.ownBlock, Option.some.injEq] at e
      subst e
      rcases hat with e | e
      · rw [ctagsUp_old (Own.lt h.net e)]; exact h.net.2 _ e
      · exact ctagsUp_new (by omega)
    · subst e'
      rw [ctagsUp_old hpk, h.own] at e
      cases e
  · exact ⟨by show (K.net ++ [m]).length ≤ B + 1; rw [List.length_append, List.length_singleton]; have := h.small.1; omega, by have := h.small.2.1; show K.trace.length ≤ B + 1; omega, h.small.2.2⟩

def sentOf (l : List Ev) : List Msg := (l.filter (fun e => decide (e.kind = 1))).map Ev.msg
theorem sentOf_snoc (l : List Ev) (e : Ev) : sentOf (l ++ [e]) = sentOf l ++ (if e.kind = 1 then [e.msg] else []) := by
  unfold sentOf
  rw [List.filter_append, List.map_append]
  by_cases h : e.kind = 1 <;> simp [h]
def ev0 : Ev := ⟨0, 0, tx0, 0, msg0⟩
theorem evCells_len (e : Ev) : (evCells e).length = 12 := rfl

end Go.Proofs.YthbmmbgkchiajaaGreat
