
/- What one transaction costs: a node's part in it. -/
import Derived.Test.YthbmmbgkchiajaaGreatKSmall

namespace Go.Proofs.YthbmmbgkchiajaaGreat
set_option linter.unusedSimpArgs false
set_option linter.unusedVariables false
open Go.RowKit

def pubT (c : Nat) : Tx := ⟨c, 1, 1⟩

/-- What a coordinator is at. -/
inductive CSt where
  | idle
  | voting (W : Nat)
  | decided (W : Nat)
  | over

def leadF (cfg : Cfg) : CSt → Nat
  | .idle => 0
  | .voting _ => if cfg.variant = 3 then 1 else 0
  | _ => if cfg.variant = 3 then 2 else 1
def leadL (cfg : Cfg) : CSt → Nat
  | .over => if cfg.variant = 3 then 0 else 1
  | _ => 0
def leadS (z : Nat) : CSt → Nat
  | .idle => 0
  | .voting _ => z
  | _ => 2 * z
def partF (cfg : Cfg) (p : Nat) : Nat := if p = 0 then 0 else if p = 1 then 1 else if cfg.variant = 3 then 1 else 2
def partL (cfg : Cfg) (p : Nat) : Nat := if p ≤ 1 then 0 else if cfg.variant = 3 then 1 else 0
def partS (cfg : Cfg) (p : Nat) : Nat := if p = 0 then 0 else if p = 1 then 1 else if cfg.variant = 3 then 1 else 2

/-- A node within the one transaction: as its coordinator at q, as its part at p (0: not asked yet, or no part; 1: prepared; 2: has applied it). -/
structure NIn (cfg : Cfg) (c s : Nat) (q : CSt) (p i : Nat) (n : NM) : Prop where
  id : n.id = i
  conf : n.cfg = cfg
  up : n.up = true
  refuses : n.refuses = false
  fuse : n.fuse = none
  recs : n.recs.length ≤ n.forced + n.lazies
  low : n.low ≤ n.recs.length + 1
  marks : n.marks.length = 4
  opn : match q with
    | .voting W => ∃ r b, n.opn = [(pubT c, ⟨s, W, 0, 0, r, b⟩)]
    | .decided W => ∃ r b, n.opn = [(pubT c, ⟨s, W, 1, 0, r, b⟩)]
    | _ => n.opn = []
  prep : if p = 1 then ∃ r, n.prep = [(pubT c, r)] else n.prep = []
  fresh : p = 0 → n.markHas (pubT c) = false
  forced : n.forced = leadF cfg q + partF cfg p
  lazies : n.lazies = leadL cfg q + partL cfg p
  sent : n.sent = leadS (members s).length q + partS cfg p

section
variable {cfg : Cfg} {c s : Nat} {q : CSt} {p i : Nat} {n : NM}

theorem NIn.few (h : NIn cfg c s q p i n) : n.recs.length ≤ 4 := by
  have h1 := h.recs
  rw [h.forced, h.lazies] at h1
  have h2 : leadF cfg q + leadL cfg q ≤ 2 := by cases q <;> simp only [leadF, leadL] <;> (repeat' split) <;> omega
  have h3 : partF cfg p + partL cfg p ≤ 2 := by unfold partF partL; (repeat' split) <;> omega
  omega
theorem NIn.room (h : NIn cfg c s q p i n) (h24 : 24 ≤ cfg.ring * cfg.per) : 20 ≤ n.room := by
  have := h.few
  unfold NM.room
  rw [h.conf]
  omega
theorem NIn.notFull (h : NIn cfg c s q p i n) (h24 : 24 ≤ cfg.ring * cfg.per) : ¬ n.jm.full := by
  have h4 := h.few
  unfold JM.full
  rw [NM.jm_len]
  show ¬ ((n.low - 1) / n.cfg.per + n.cfg.ring ≤ n.recs.length / n.cfg.per)
  rw [h.conf]
  have : n.recs.length / cfg.per < cfg.ring := Nat.div_lt_of_lt_mul (by rw [Nat.mul_comm]; omega)
  exact fun h => absurd this (Nat.not_lt.2 (Nat.le_trans (Nat.le_add_left _ _) h))
theorem NIn.need (h : NIn cfg c s q p i n) : n.need ≤ 5 := by
  have h1 := h.opn
  have h2 := h.prep
  have h3 : n.opn.length ≤ 1 := by
    cases q with
    | idle => simp only [] at h1; rw [h1]; simp
    | over => simp only [] at h1; rw [h1]; simp
    | voting W => obtain ⟨_, _, e⟩ := h1; rw [e]; simp
    | decided W => obtain ⟨_, _, e⟩ := h1; rw [e]; simp
  have h4 : n.prep.length ≤ 1 := by
    split at h2
    · obtain ⟨_, e⟩ := h2; rw [e]; simp
    · rw [h2]; simp
  unfold NM.need; omega
end

theorem forces_fine {n : NM} (r : Rec) (hz : n.fuse = none) (hf : ¬ n.jm.full) : n.forces r = .ok (n.recs.length + 1, { n with recs := n.recs ++ [r], safe := n.recs.length + 1, forced := n.forced + 1 }) := by
  simp [NM.forces, NM.write, hz, hf]
theorem lazily_fine {n : NM} (r : Rec) (hz : n.fuse = none) (hf : ¬ n.jm.full) : n.lazily r = .ok { n with recs := n.recs ++ [r], lazies := n.lazies + 1 } := by
  simp [NM.lazily, NM.write, hz, hf]
def sentEv (i kind : Nat) (t : Tx) (to : Nat) : Ev := ⟨1, i, t, 0, ⟨kind, i, to, t⟩⟩
theorem sends_eq (kind : Nat) (t : Tx) : ∀ (l : List Nat) (n : NM), l.foldl (fun n i => n.send kind i t) n = { n with evs := n.evs ++ l.map (sentEv n.id kind t), sent := n.sent + l.length }
  | [], n => by simp
  | i :: l, n => by
    rw [List.foldl_cons, sends_eq kind t l]
    simp [NM.send, sentEv]
    omega
theorem sendAll_eq (n : NM) (kind s : Nat) (t : Tx) : n.sendAll kind s t = { n with evs := n.evs ++ (members s).map (sentEv n.id kind t), sent := n.sent + (members s).length } := sends_eq kind t _ n

theorem lowest_few (n : NM) : n.lowest ≤ n.recs.length + 1 := by
  unfold NM.lowest
  have h1 : ∀ (l : List (Tx × Nat)) (a : Nat), l.foldl (fun l x => min l x.2) a ≤ a := by
    intro l
    induction l with
    | nil => intro a; exact Nat.le_refl _
    | cons x l ih => intro a; exact Nat.le_trans (ih _) (Nat.min_le_left _ _)
  have h2 : ∀ (l : List (Tx × Deal)) (a : Nat), l.foldl (fun l x => if x.2.recd = 0 then l else min l x.2.recd) a ≤ a := by
    intro l
    induction l with
    | nil => intro a; exact Nat.le_refl _
    | cons x l ih =>
      intro a
      refine Nat.le_trans (ih _) ?_
      show (if x.2.recd = 0 then a else min a x.2.recd) ≤ a
      split
      · exact Nat.le_refl _
      · exact Nat.min_le_left _ _
  exact Nat.le_trans (h1 _ _) (h2 _ _)

theorem NIn.tidy {cfg : Cfg} {c s : Nat} {q : CSt} {p i : Nat} {n : NM} (h : NIn cfg c s q p i n) : NIn cfg c s q p i { n.tidy with evs := [] } ∧ ({ n.tidy with evs := [] } : NM).evs = [] := by
  refine ⟨?_, rfl⟩
  have hl := lowest_few n
  unfold NM.tidy
  split
  · exact ⟨h.id, h.conf, h.up, h.refuses, h.fuse, h.recs, hl, h.marks, h.opn, h.prep, h.fresh, h.forced, h.lazies, h.sent⟩
  · exact ⟨h.id, h.conf, h.up, h.refuses, h.fuse, h.recs, h.low, h.marks, h.opn, h.prep, h.fresh, h.forced, h.lazies, h.sent⟩

/-- A part is asked. -/
theorem NIn.vote {cfg : Cfg} {c s : Nat} {q : CSt} {i : Nat} {n : NM} (h : NIn cfg c s q 0 i n) (h24 : 24 ≤ cfg.ring * cfg.per) : ∃ k, n.act ⟨1, c, i, pubT c⟩ = .ok k ∧ k.evs = n.evs ++ [sentEv i 2 (pubT c) c] ∧ NIn cfg c s q 1 i k := by
  have hr := h.room h24
  have hn := h.need
  have hp := h.prep
  rw [if_neg (by omega)] at hp
  have hm := h.fresh rfl
  have e : n.act ⟨1, c, i, pubT c⟩ = n.vote (pubT c) c := rfl
  have hno : ¬ (4 ≤ n.prep.length ∨ n.room < n.need + 2) := by rw [hp]; simp; omega
  have h1 : mhas n.prep (pubT c) = false := by rw [hp]; rfl
  rw [e]
  unfold NM.vote
  rw [h1, hm, h.refuses, if_neg hno]
  unfold NM.prepare
  rw [forces_fine _ h.fuse (h.notFull h24)]
  simp only [Bool.false_eq_true, if_false]
  have hmk : ∀ (k : NM), k.marks = n.marks → k.markAdd (pubT c) = { k with marks := k.marks.set c (pubT c) } := by
    intro k hk
    have : k.markHas (pubT c) = false := by rw [← hm]; unfold NM.markHas; rw [hk]
    unfold NM.markAdd
    rw [this]; rfl
  rw [hmk]
  rotate_left
  · rfl
  refine ⟨_, rfl, ?_, ?_⟩
  · simp [NM.send, sentEv, h.id]
  · have e1 := h.forced
    have e2 := h.lazies
    have e3 := h.sent
    have e4 := h.recs
    have e5 := h.low
    refine ⟨h.id, h.conf, h.up, h.refuses, h.fuse, ?_, ?_, ?_, h.opn, ?_, ?_, ?_, ?_, ?_⟩
    · simp [NM.send]; omega
    · simp [NM.send]; omega
    · simp [NM.send, h.marks]
    · simp only [NM.send, if_true]
      refine ⟨n.recs.length + 1, ?_⟩
      unfold mput
      rw [h1, hp]
      rfl
    · intro h; omega
    · simp [NM.send, partF] at *; omega
    · simp [NM.send, partL] at *; omega
    · simp [NM.send, partS] at *; omega

/-- A part hears that it is committed. -/
theorem NIn.learn {cfg : Cfg} {c s : Nat} {q : CSt} {i : Nat} {n : NM} (h : NIn cfg c s q 1 i n) (h24 : 24 ≤ cfg.ring * cfg.per) : ∃ k, n.act ⟨4, c, i, pubT c⟩ = .ok k ∧ k.evs = n.evs ++ ⟨3, i, pubT c, 1, msg0⟩ :: (if cfg.variant = 3 then [] else [sentEv i 6 (pubT c) c]) ∧ NIn cfg c s q 2 i k := by
  have hp := h.prep
  rw [if_pos rfl] at hp
  obtain ⟨r, hp⟩ := hp
  have h1 : mhas n.prep (pubT c) = true := by rw [hp]; simp [mhas]
  have e : n.act ⟨4, c, i, pubT c⟩ = n.learn (pubT c) c 1 := rfl
  have e1 := h.forced
  have e2 := h.lazies
  have e3 := h.sent
  have e4 := h.recs
  have e5 := h.low
  rw [e]
  unfold NM.learn
  rw [h1]
  simp only [if_true]
  unfold NM.apply
  by_cases hv : cfg.variant = 3
  · have hd : n.acksDue 1 = false := by simp [NM.acksDue, NM.presumed, h.conf, hv]
    rw [hd]
    simp only [Bool.false_eq_true, if_false, lazily_fine _ h.fuse (h.notFull h24), hv, if_true]
    refine ⟨_, rfl, ?_, ?_⟩
    · simp [NM.happen, h.id]
    · refine ⟨h.id, h.conf, h.up, h.refuses, h.fuse, ?_, ?_, ?_, h.opn, ?_, ?_, ?_, ?_, ?_⟩
      · simp [NM.happen]; omega
      · simp [NM.happen]; omega
      · simp [NM.happen, h.marks]
      · simp [NM.happen, mdel, hp]
      · intro h; omega
      · simp [NM.happen, partF, hv] at *; omega
      · simp [NM.happen, partL, hv] at *; omega
      · simp [NM.happen, partS, hv] at *; omega
  · have hd : n.acksDue 1 = true := by simp [NM.acksDue, NM.presumed, h.conf, hv]
    rw [hd]
    simp only [if_true, forces_fine _ h.fuse (h.notFull h24), hv, if_false, Except.map]
    refine ⟨_, rfl, ?_, ?_⟩
    · simp [NM.happen, NM.send, sentEv, h.id]
    · refine ⟨h.id, h.conf, h.up, h.refuses, h.fuse, ?_, ?_, ?_, h.opn, ?_, ?_, ?_, ?_, ?_⟩
      · simp [NM.happen, NM.send]; omega
      · simp [NM.happen, NM.send]; omega
      · simp [NM.happen, NM.send, h.marks]
      · simp [NM.happen, NM.send, mdel, hp]
      · intro h; omega
      · simp [NM.happen, NM.send, partF, hv] at *; omega
      · simp [NM.happen, NM.send, partL, hv] at *; omega
      · simp [NM.happen, NM.send, partS, hv] at *; omega

/-- The coordinator hears a Yes, and others are to come. -/
theorem NIn.yes {cfg : Cfg} {c s W : Nat} {p j : Nat} {n : NM} (h : NIn cfg c s (.voting W) p c n) (hj : W.testBit j = true) (hw : without W j ≠ 0) : ∃ k, n.act ⟨2, j, c, pubT c⟩ = .ok k ∧ k.evs = n.evs ∧ NIn cfg c s (.voting (without W j)) p c k := by
  obtain ⟨r, b, ho⟩ := h.opn
  have e : n.act ⟨2, j, c, pubT c⟩ = n.hearYes (pubT c) j := rfl
  have ha : n.asked (pubT c) j = some ⟨s, W, 0, 0, r, b⟩ := by simp [NM.asked, mget, ho, hj]
  rw [e]
  unfold NM.hearYes
  rw [ha]
  simp only [if_neg hw]
  refine ⟨_, rfl, rfl, ?_⟩
  refine ⟨h.id, h.conf, h.up, h.refuses, h.fuse, h.recs, h.low, h.marks, ⟨r, b, ?_⟩, h.prep, h.fresh, h.forced, h.lazies, h.sent⟩
  simp [mset, ho]

/-- The coordinator hears the last Yes. -/
theorem NIn.last {cfg : Cfg} {c s W : Nat} {p j : Nat} {n : NM} (h : NIn cfg c s (.voting W) p c n) (h24 : 24 ≤ cfg.ring * cfg.per) (hj : W.testBit j = true) (hw : without W j = 0) (hs : s ≠ 0) : ∃ k, n.act ⟨2, j, c, pubT c⟩ = .ok k ∧ k.evs = n.evs ++ ⟨2, c, pubT c, 1, msg0⟩ :: (members s).map (sentEv c 4 (pubT c)) ∧ NIn cfg c s (if cfg.variant = 3 then .over else .decided s) p c k := by
  obtain ⟨r, b, ho⟩ := h.opn
  have e : n.act ⟨2, j, c, pubT c⟩ = n.hearYes (pubT c) j := rfl
  have ha : n.asked (pubT c) j = some ⟨s, W, 0, 0, r, b⟩ := by simp [NM.asked, mget, ho, hj]
  have e1 := h.forced
  have e2 := h.lazies
  have e3 := h.sent
  have e4 := h.recs
  have e5 := h.low
  have hfu : ∀ o, ¬ ({ n with opn := o } : NM).jm.full := fun o => h.notFull h24
  rw [e]
  unfold NM.hearYes
  rw [ha]
  simp only [if_pos hw]
  unfold NM.commit
  rw [forces_fine]
  rotate_left
  · exact h.fuse
  · exact hfu _
  simp only []
  unfold NM.settle
  simp only [sendAll_eq]
  by_cases hv : cfg.variant = 3
  · have hd : ∀ (m : NM), m.cfg = n.cfg → m.acksDue 1 = false := fun m hm => by simp [NM.acksDue, NM.presumed, hm, h.conf, hv]
    rw [hd]
    rotate_left
    · rfl
    simp only [Bool.false_eq_true, if_false, hv, if_true]
    refine ⟨_, rfl, ?_, ?_⟩
    · simp [NM.happen, h.id, order]
    · refine ⟨h.id, h.conf, h.up, h.refuses, h.fuse, ?_, ?_, ?_, ?_, h.prep, h.fresh, ?_, ?_, ?_⟩
      · simp [NM.happen]; omega
      · simp [NM.happen]; omega
      · simp [NM.happen, h.marks]
      · simp [NM.happen, mdel, mset, ho]
      · simp [NM.happen, leadF, hv] at *; omega
      · simp [NM.happen, leadL, hv] at *; omega
      · simp [NM.happen, leadS] at *; omega
  · have hd : ∀ (m : NM), m.cfg = n.cfg → m.acksDue 1 = true := fun m hm => by simp [NM.acksDue, NM.presumed, hm, h.conf, hv]
    rw [hd]
    rotate_left
    · rfl
    simp only [if_true, hv, if_false, if_neg hs]
    refine ⟨_, rfl, ?_, ?_⟩
    · simp [NM.happen, h.id, order]
    · refine ⟨h.id, h.conf, h.up, h.refuses, h.fuse, ?_, ?_, ?_, ⟨n.recs.length + 1, b, ?_⟩, h.prep, h.fresh, ?_, ?_, ?_⟩
      · simp [NM.happen]; omega
      · simp [NM.happen]; omega
      · simp [NM.happen, h.marks]
      · simp [NM.happen, mset, ho]
      · simp [NM.happen, leadF, hv] at *; omega
      · simp [NM.happen, leadL, hv] at *; omega
      · simp [NM.happen, leadS] at *; omega

/-- The coordinator hears an Ack. -/
theorem NIn.ack {cfg : Cfg} {c s W : Nat} {p j : Nat} {n : NM} (h : NIn cfg c s (.decided W) p c n) (h24 : 24 ≤ cfg.ring * cfg.per) (hv : cfg.variant ≠ 3) (hj : W.testBit j = true) : ∃ k, n.act ⟨6, j, c, pubT c⟩ = .ok k ∧ k.evs = n.evs ∧ NIn cfg c s (if without W j = 0 then .over else .decided (without W j)) p c k := by
  obtain ⟨r, b, ho⟩ := h.opn
  have e : n.act ⟨6, j, c, pubT c⟩ = n.hearAck (pubT c) j := rfl
  have ha : mget n.opn (pubT c) = some ⟨s, W, 1, 0, r, b⟩ := by simp [mget, ho]
  have e1 := h.forced
  have e2 := h.lazies
  have e3 := h.sent
  have e4 := h.recs
  have e5 := h.low
  have hfu : ∀ o, ¬ ({ n with opn := o } : NM).jm.full := fun o => h.notFull h24
  rw [e]
  unfold NM.hearAck
  rw [ha]
  simp only [hj]
  simp only [Nat.one_ne_zero, Bool.true_eq_false, or_self, if_false]
  by_cases hw : without W j = 0
  · simp only [if_pos hw]
    unfold NM.ends
    rw [lazily_fine]
    rotate_left
    · exact h.fuse
    · exact hfu _
    refine ⟨_, rfl, rfl, ?_⟩
    refine ⟨h.id, h.conf, h.up, h.refuses, h.fuse, ?_, ?_, h.marks, ?_, h.prep, h.fresh, ?_, ?_, ?_⟩
    · simp; omega
    · simp; omega
    · simp [mdel, mset, ho]
    · simp [leadF] at *; omega
    · simp [leadL, hv] at *; omega
    · simp [leadS] at *; omega
  · simp only [if_neg hw]
    refine ⟨_, rfl, rfl, ?_⟩
    refine ⟨h.id, h.conf, h.up, h.refuses, h.fuse, h.recs, h.low, h.marks, ⟨r, b, ?_⟩, h.prep, h.fresh, ?_, ?_, ?_⟩
    · simp [mset, ho]
    · exact h.forced
    · exact h.lazies
    · exact h.sent

/-- The coordinator begins. -/
theorem NIn.begin {cfg : Cfg} {c s : Nat} {n : NM} (h : NIn cfg c s .idle 0 c n) (h24 : 24 ≤ cfg.ring * cfg.per) (b : Nat) : ∃ k, n.begin (pubT c) s b = .ok k ∧ k.evs = n.evs ++ (members s).map (sentEv c 1 (pubT c)) ∧ NIn cfg c s (.voting s) 0 c k := by
  have ho := h.opn
  simp only [] at ho
  have e1 := h.forced
  have e2 := h.lazies
  have e3 := h.sent
  have e4 := h.recs
  have e5 := h.low
  unfold NM.begin
  by_cases hv : cfg.variant = 3
  · rw [if_pos (by rw [h.conf]; exact hv), forces_fine _ h.fuse (h.notFull h24)]
    simp only [sendAll_eq]
    refine ⟨_, rfl, ?_, ?_⟩
    · simp [h.id]
    · refine ⟨h.id, h.conf, h.up, h.refuses, h.fuse, ?_, ?_, h.marks, ⟨n.recs.length + 1, b, ?_⟩, h.prep, h.fresh, ?_, ?_, ?_⟩
      · simp; omega
      · simp; omega
      · simp [mput, mhas, ho]
      · simp [leadF, hv] at *; omega
      · simp [leadL] at *; omega
      · simp [leadS] at *; omega
  · rw [if_neg (by rw [h.conf]; exact hv)]
    simp only [sendAll_eq]
    refine ⟨_, rfl, ?_, ?_⟩
    · simp [h.id]
    · refine ⟨h.id, h.conf, h.up, h.refuses, h.fuse, h.recs, h.low, h.marks, ⟨0, b, ?_⟩, h.prep, h.fresh, ?_, ?_, ?_⟩
      · simp [mput, mhas, ho]
      · simp [leadF, hv] at *; omega
      · simp [leadL] at *; omega
      · simp [leadS] at *; omega

theorem NIn.new (cfg : Cfg) (c s i pd bo bp : Nat) (hc : c < 4) : NIn cfg c s .idle 0 i (newNM i cfg pd bo bp) := by
  refine ⟨rfl, rfl, rfl, rfl, rfl, by simp [newNM], by simp [newNM], rfl, rfl, by simp [newNM], fun _ => ?_, rfl, rfl, rfl⟩
  have : ∀ c : Fin 4, (pubT c.val).le (marks0.getD c.val tx0) = false := by decide
  exact this ⟨c, hc⟩

end Go.Proofs.YthbmmbgkchiajaaGreat

/- What one transaction costs: all nodes, in any order of delivery. -/
namespace Go.Proofs.YthbmmbgkchiajaaGreat
set_option linter.unusedSimpArgs false
set_option linter.unusedVariables false
open Go.RowKit

def way (c st i : Nat) : List Msg := if st = 0 then [⟨1, c, i, pubT c⟩] else if st = 1 then [⟨2, i, c, pubT c⟩] else if st = 3 then [⟨4, c, i, pubT c⟩] else if st = 4 then [⟨6, i, c, pubT c⟩] else []
def setOf (f : Nat → Bool) : Nat := (if f 0 then 1 else 0) + (if f 1 then 2 else 0) + (if f 2 then 4 else 0) + (if f 3 then 8 else 0)
theorem setOf_bit (f : Nat → Bool) (j : Nat) (hj : j < 4) : (setOf f).testBit j = f j := by
  have key : ∀ a b c d : Bool, ∀ j : Fin 4, ((if a then 1 else 0) + (if b then 2 else 0) + (if c then 4 else 0) + (if d then 8 else 0) : Nat).testBit j.val = [a, b, c, d].getD j.val false := by decide
  have := key (f 0) (f 1) (f 2) (f 3) ⟨j, hj⟩
  unfold setOf
  rw [this]
  rcases (by omega : j = 0 ∨ j = 1 ∨ j = 2 ∨ j = 3) with h | h | h | h <;> subst h <;> rfl
theorem setOf_lt (f : Nat → Bool) : setOf f < 16 := by unfold setOf; (repeat' split) <;> omega
theorem setOf_congr {f g : Nat → Bool} (h : ∀ j, j < 4 → f j = g j) : setOf f = setOf g := by
  unfold setOf; rw [h 0 (by omega), h 1 (by omega), h 2 (by omega), h 3 (by omega)]
theorem without_setOf (f : Nat → Bool) (i : Nat) (hi : i < 4) : without (setOf f) i = setOf (fun j => f j && decide (j ≠ i)) := by
  have key : ∀ a b c d : Bool, ∀ i : Fin 4, without ((if a then 1 else 0) + (if b then 2 else 0) + (if c then 4 else 0) + (if d then 8 else 0)) i.val = (if a && decide (0 ≠ i.val) then 1 else 0) + (if b && decide (1 ≠ i.val) then 2 else 0) + (if c && decide (2 ≠ i.val) then 4 else 0) + (if d && decide (3 ≠ i.val) then 8 else 0) := by decide
  exact key (f 0) (f 1) (f 2) (f 3) ⟨i, hi⟩
theorem setOf_zero {f : Nat → Bool} : setOf f = 0 ↔ ∀ j, j < 4 → f j = false := by
  constructor
  · intro h j hj
    rw [← setOf_bit f j hj, h]; simp
  · intro h
    rw [setOf_congr (g := fun _ => false) h]; rfl
theorem setOf_self (s : Nat) (hs : s < 16) : setOf (fun j => s.testBit j) = s := by
  have key : ∀ s : Fin 16, setOf (fun j => s.val.testBit j) = s.val := by decide
  exact key ⟨s, hs⟩

theorem mem_members {s i : Nat} : i ∈ members s ↔ i < 4 ∧ s.testBit i = true := by simp [members]
theorem members_nodup (s : Nat) : (members s).Nodup := List.Nodup.sublist List.filter_sublist List.nodup_range

def waitsOf (s : Nat) (st : Nat → Nat) (z : Nat) : Nat := setOf (fun j => s.testBit j && decide (st j < z))
def cst (cfg : Cfg) (s : Nat) (st : Nat → Nat) (d : Bool) : CSt := if d = false then .voting (waitsOf s st 2) else if cfg.variant = 3 then .over else if waitsOf s st 5 = 0 then .over else .decided (waitsOf s st 5)
def pst (x : Nat) : Nat := if x = 0 then 0 else if x ≤ 3 then 1 else 2
def pOf (s : Nat) (st : Nat → Nat) (i : Nat) : Nat := if s.testBit i then pst (st i) else 0
def qOf (cfg : Cfg) (c s : Nat) (st : Nat → Nat) (d : Bool) (i : Nat) : CSt := if i = c then cst cfg s st d else .idle
def leftOf (s : Nat) (st : Nat → Nat) : Nat := ((members s).map fun i => 5 - st i).sum

structure PIn (cfg : Cfg) (c s : Nat) (st : Nat → Nat) (d : Bool) (K : KM) : Prop where
  len : K.ns.length = cfg.nodes
  node : ∀ i n, K.ns[i]? = some n → NIn cfg c s (qOf cfg c s st d i) (pOf s st i) i n ∧ n.evs = []
  net : K.net.Perm ((members s).flatMap fun i => way c (st i) i)
  said : tolds 2 (pubT c) 1 K.trace = if d then 1 else 0
  applied : tolds 3 (pubT c) 1 K.trace = (members s).countP fun i => decide (4 ≤ st i)
  low : d = false → ∀ i ∈ members s, st i ≤ 2
  high : d = true → ∀ i ∈ members s, 3 ≤ st i ∧ st i ≤ 5 ∧ (cfg.variant = 3 → st i ≠ 4)
  more : d = false → ∃ i ∈ members s, st i < 2

/-- What is so of the case all the way. -/
structure POk (cfg : Cfg) (c s : Nat) : Prop where
  conf : CfgOk cfg
  h24 : 24 ≤ cfg.ring * cfg.per
  coord : c < cfg.nodes
  parts : ∀ i ∈ members s, i < cfg.nodes
  lt : s < 16
  ne : s ≠ 0

def toSt (st : Nat → Nat) (i b : Nat) : Nat → Nat := fun j => if j = i then b else st j

theorem rest_eq {α : Type} (f g : Nat → α) (s i : Nat) (h : ∀ j, j ≠ i → f j = g j) : ∀ j ∈ (members s).erase i, f j = g j := fun j hj => h j ((members_nodup s).mem_erase_iff.1 hj).1
theorem flat_split (c s i : Nat) (st : Nat → Nat) (hi : i ∈ members s) : ((members s).flatMap fun i => way c (st i) i).Perm (way c (st i) i ++ ((members s).erase i).flatMap fun i => way c (st i) i) :=
  (List.perm_cons_erase hi).flatMap_right _
theorem flat_rest (c s i b : Nat) (st : Nat → Nat) : (((members s).erase i).flatMap fun j => way c (toSt st i b j) j) = (((members s).erase i).flatMap fun j => way c (st j) j) := by
  have h := rest_eq (fun j => way c (toSt st i b j) j) (fun j => way c (st j) j) s i (fun j hj => by simp [toSt, hj])
  unfold List.flatMap
  rw [List.map_congr_left h]
theorem left_split (s i : Nat) (st : Nat → Nat) (hi : i ∈ members s) : leftOf s st = (5 - st i) + (((members s).erase i).map fun j => 5 - st j).sum := by
  unfold leftOf
  rw [((List.perm_cons_erase hi).map _).sum_nat]; rfl
theorem left_move (s i b : Nat) (st : Nat → Nat) (hi : i ∈ members s) (h : st i < b) (hb : b ≤ 5) : leftOf s (toSt st i b) < leftOf s st := by
  rw [left_split s i _ hi, left_split s i st hi, List.map_congr_left (rest_eq (fun j => 5 - toSt st i b j) (fun j => 5 - st j) s i (fun j hj => by simp [toSt, hj]))]
  have : toSt st i b i = b := by simp [toSt]
  rw [this]; omega
theorem count_split (s i : Nat) (st : Nat → Nat) (hi : i ∈ members s) : ((members s).countP fun j => decide (4 ≤ st j)) = (((members s).erase i).countP fun j => decide (4 ≤ st j)) + (if 4 ≤ st i then 1 else 0) := by
  rw [(List.perm_cons_erase hi).countP_eq, List.countP_cons]; simp
theorem count_move (s i b : Nat) (st : Nat → Nat) (hi : i ∈ members s) : ((members s).countP fun j => decide (4 ≤ toSt st i b j)) + (if 4 ≤ st i then 1 else 0) = ((members s).countP fun j => decide (4 ≤ st j)) + (if 4 ≤ b then 1 else 0) := by
  rw [count_split s i _ hi, count_split s i st hi]
  have h1 : toSt st i b i = b := by simp [toSt]
  have h2 : (((members s).erase i).countP fun j => decide (4 ≤ toSt st i b j)) = (((members s).erase i).countP fun j => decide (4 ≤ st j)) := List.countP_congr (fun j hj => by
    have := (members_nodup s).mem_erase_iff.1 hj
    simp [toSt, this.1])
  rw [h1, h2]; omega

theorem erase_perm {α : Type} : ∀ (l : List α) (j : Nat) (m : α), l[j]? = some m → l.Perm (m :: l.eraseIdx j)
  | [], j, m, h => by simp at h
  | a :: l, 0, m, h => by simp at h; subst h; exact List.Perm.refl _
  | a :: l, j + 1, m, h => by
    have h' : l[j]? = some m := by simpa using h
    exact ((erase_perm l j m h').cons a).trans (List.Perm.swap _ _ _)

/-- The message of part i is taken off; the others stay. -/
theorem PIn.taken {cfg : Cfg} {c s : Nat} {st : Nat → Nat} {d : Bool} {K : KM} (h : PIn cfg c s st d K) {j i : Nat} {m : Msg} (hm : K.net[j]? = some m) (hi : i ∈ members s) (hw : way c (st i) i = [m]) : (K.net.eraseIdx j).Perm (((members s).erase i).flatMap fun i => way c (st i) i) := by
  have h1 := (erase_perm _ _ _ hm).symm.trans (h.net.trans (flat_split c s i st hi))
  rw [hw] at h1
  exact List.Perm.cons_inv h1
theorem net_move {c s i b : Nat} {st : Nat → Nat} {l x : List Msg} (hi : i ∈ members s) (h : l.Perm (((members s).erase i).flatMap fun i => way c (st i) i)) (hx : way c b i = x) : (l ++ x).Perm ((members s).flatMap fun j => way c (toSt st i b j) j) := by
  refine List.Perm.trans ?_ (flat_split c s i _ hi).symm
  rw [flat_rest]
  have h1 : toSt st i b i = b := by simp [toSt]
  rw [h1, hx]
  exact (h.append_right x).trans List.perm_append_comm

theorem PIn.nodes {cfg : Cfg} {c s : Nat} {st st' : Nat → Nat} {d d' : Bool} {K : KM} (h : PIn cfg c s st d K) {to : Nat} {k : NM} (hk : NIn cfg c s (qOf cfg c s st' d' to) (pOf s st' to) to k) (hq : ∀ j, j ≠ to → qOf cfg c s st' d' j = qOf cfg c s st d j) (hp : ∀ j, j < 4 → j ≠ to → pOf s st' j = pOf s st j) (h4 : cfg.nodes ≤ 4) :
    ∀ i n, (K.ns.set to { k.tidy with evs := [] })[i]? = some n → NIn cfg c s (qOf cfg c s st' d' i) (pOf s st' i) i n ∧ n.evs = [] := by
  intro i n hn
  rw [List.getElem?_set] at hn
  by_cases e : to = i
  · subst e
    rw [if_pos rfl] at hn
    split at hn
    · cases hn; exact hk.tidy
    · cases hn
  · rw [if_neg e] at hn
    have hl := (List.getElem?_eq_some_iff.1 hn).1
    rw [hq i (Ne.symm e), hp i (by rw [h.len] at hl; omega) (Ne.symm e)]
    exact h.node i n hn

theorem tolds_append (a : Nat) (t : Tx) (o : Nat) (l m : List Ev) : tolds a t o (l ++ m) = tolds a t o l + tolds a t o m := by simp [tolds]
theorem tolds_sents (a : Nat) (ha : a ≠ 1) (t u : Tx) (o i kind : Nat) (l : List Nat) : tolds a t o (l.map (sentEv i kind u)) = 0 := by
  unfold tolds
  rw [List.length_eq_zero_iff, List.filter_eq_nil_iff]
  intro e he
  obtain ⟨x, _, rfl⟩ := List.mem_map.1 he
  simp [told, sentEv, Ne.symm ha]
theorem sentOf_sents (i kind : Nat) (t : Tx) (l : List Nat) : sentOf (l.map (sentEv i kind t)) = l.map (fun j => ⟨kind, i, j, t⟩) := by
  induction l with
  | nil => rfl
  | cons x l ih =>
    unfold sentOf at *
    rw [List.map_cons, List.filter_cons, if_pos (by simp [sentEv]), List.map_cons, ih]; rfl

/-- A message is delivered. -/
theorem PIn.step {cfg : Cfg} {c s : Nat} {st : Nat → Nat} {d : Bool} {K : KM} (ho : POk cfg c s) (h : PIn cfg c s st d K) {j : Nat} {m : Msg} (hm : K.net[j]? = some m) :
    ∃ n k st' d', K.ns[m.to]? = some n ∧ n.up = true ∧ n.fuse = none ∧ m.frm < 4 ∧ m.txn.coord < 4 ∧ n.act m = .ok k ∧ k.evs.length ≤ 5 ∧ PIn cfg c s st' d' { ns := K.ns.set m.to { k.tidy with evs := [] }, ps := K.ps, net := K.net.eraseIdx j ++ sentOf k.evs, trace := K.trace ++ k.evs } ∧ leftOf s st' < leftOf s st := by
  have h4 := ho.conf.nodes.2
  have hmem : m ∈ (members s).flatMap fun i => way c (st i) i := h.net.mem_iff.1 (List.mem_of_getElem? hm)
  obtain ⟨i, hi, hw⟩ := List.mem_flatMap.1 hmem
  have hi4 := mem_members.1 hi
  have hin := ho.parts i hi
  have hcn := ho.coord
  have getN : ∀ x, x < cfg.nodes → ∃ n, K.ns[x]? = some n := fun x hx => ⟨_, List.getElem?_eq_getElem (by rw [h.len]; exact hx)⟩
  by_cases s0 : st i = 0
  · -- asked
    have hwe : way c (st i) i = [⟨1, c, i, pubT c⟩] := by simp [way, s0]
    have hme : m = ⟨1, c, i, pubT c⟩ := by rw [hwe] at hw; simpa using hw
    subst hme
    obtain ⟨n, hn⟩ := getN i hin
    obtain ⟨hN, hev⟩ := h.node i n hn
    have hp0 : pOf s st i = 0 := by simp [pOf, hi4.2, s0, pst]
    rw [hp0] at hN
    have hd : d = false := by
      cases hd : d with
      | false => rfl
      | true => have := h.high hd i hi; omega
    subst hd
    obtain ⟨k, hk, he, hK⟩ := hN.vote ho.h24
    rw [hev, List.nil_append] at he
    have hst : waitsOf s (toSt st i 1) 2 = waitsOf s st 2 := setOf_congr (fun j _ => by
      unfold toSt; by_cases e : j = i
      · subst e; simp [s0]
      · simp [e])
    have hq : ∀ j, qOf cfg c s (toSt st i 1) false j = qOf cfg c s st false j := fun j => by simp [qOf, cst, hst]
    have hp1 : pOf s (toSt st i 1) i = 1 := by simp [pOf, hi4.2, toSt, pst]
    refine ⟨n, k, toSt st i 1, false, hn, hN.up, hN.fuse, by show c < 4; omega, by show c < 4; omega, hk, by rw [he]; simp, ?_, left_move s i 1 st hi (by omega) (by omega)⟩
    refine ⟨by simp [h.len], h.nodes (by rw [hq, hp1]; exact hK) (fun j _ => hq j) (fun j _ hj => by simp [pOf, toSt, hj]) h4, ?_, ?_, ?_, ?_, (fun e => by cases e), ?_⟩
    · exact net_move hi (h.taken hm hi hwe) (by rw [he]; rfl)
    · rw [tolds_append, h.said, he]; simp [tolds, told, sentEv]
    · rw [tolds_append, h.applied, he]
      have := count_move s i 1 st hi
      simp [s0] at this
      simp [this, tolds, told, sentEv]
    · intro _ x hx
      by_cases e : x = i
      · simp [toSt, e]
      · simp [toSt, e]; exact h.low rfl x hx
    · intro _; exact ⟨i, hi, by simp [toSt]⟩
  by_cases s1 : st i = 1
  · -- a Yes
    have hwe : way c (st i) i = [⟨2, i, c, pubT c⟩] := by simp [way, s1]
    have hme : m = ⟨2, i, c, pubT c⟩ := by rw [hwe] at hw; simpa using hw
    subst hme
    obtain ⟨n, hn⟩ := getN c hcn
    obtain ⟨hN, hev⟩ := h.node c n hn
    have hd : d = false := by
      cases hd : d with
      | false => rfl
      | true => have := h.high hd i hi; omega
    subst hd
    have hq0 : qOf cfg c s st false c = .voting (waitsOf s st 2) := by simp [qOf, cst]
    rw [hq0] at hN
    have hbit : (waitsOf s st 2).testBit i = true := by
      unfold waitsOf; rw [setOf_bit _ _ hi4.1, hi4.2, s1]; rfl
    have hwo : without (waitsOf s st 2) i = waitsOf s (toSt st i 2) 2 := by
      unfold waitsOf; rw [without_setOf _ _ hi4.1]
      refine setOf_congr (fun j _ => ?_)
      by_cases e : j = i
      · simp [toSt, e]
      · simp [toSt, e]
    have hpp : ∀ j, pOf s (toSt st i 2) j = pOf s st j := fun j => by
      by_cases e : j = i
      · subst e; simp [pOf, toSt, s1, pst]
      · simp [pOf, toSt, e]
    by_cases hz : without (waitsOf s st 2) i = 0
    · obtain ⟨k, hk, he, hK⟩ := hN.last ho.h24 hbit hz ho.ne
      rw [hev, List.nil_append] at he
      rw [hwo] at hz
      have hall : ∀ x ∈ members s, x ≠ i → st x = 2 := fun x hx e => by
        have hx4 := mem_members.1 hx
        have h1 := setOf_zero.1 hz x hx4.1
        have h2 := h.low rfl x hx
        simp [hx4.2, toSt, e] at h1
        omega
      have hst3 : waitsOf s (fun _ => 3) 5 = s := by
        unfold waitsOf
        refine Eq.trans (setOf_congr (fun j _ => ?_)) (setOf_self s ho.lt)
        simp
      have hp3 : ∀ j, j < 4 → pOf s (fun _ => 3) j = pOf s st j := fun j hj => by
        unfold pOf
        by_cases hb : s.testBit j = true
        · rw [if_pos hb, if_pos hb]
          by_cases e : j = i
          · subst e; simp [pst, s1]
          · rw [hall j (mem_members.2 ⟨hj, hb⟩) e]; rfl
        · rw [if_neg hb, if_neg hb]
      have hqc : qOf cfg c s (fun _ => 3) true c = if cfg.variant = 3 then .over else .decided s := by
        simp [qOf, cst, hst3, ho.ne]
      refine ⟨n, k, fun _ => 3, true, hn, hN.up, hN.fuse, by show i < 4; omega, by show c < 4; omega, hk, ?_, ?_, ?_⟩
      · rw [he]
        have : (members s).length ≤ 4 := by
          have := List.length_filter_le (fun i => s.testBit i) (List.range 4)
          simpa [members] using this
        simp; omega
      · refine ⟨by simp [h.len], h.nodes (by rw [hqc, hp3 c (by omega)]; exact hK) (fun j hj => by have hj' : j ≠ c := hj; simp [qOf, hj']) (fun j hj4 _ => hp3 j hj4) h4, ?_, ?_, ?_, (fun e => by cases e), ?_, (fun e => by cases e)⟩
        · have h1 := h.taken hm hi hwe
          have h2 : (((members s).erase i).flatMap fun i => way c (st i) i) = [] := by
            rw [List.flatMap_eq_nil_iff]
            intro x hx
            have hx' := (members_nodup s).mem_erase_iff.1 hx
            rw [hall x hx'.2 hx'.1]; rfl
          rw [h2] at h1
          rw [List.Perm.eq_nil h1, he]
          have h3 : sentOf (⟨2, c, pubT c, 1, msg0⟩ :: (members s).map (sentEv c 4 (pubT c))) = sentOf ((members s).map (sentEv c 4 (pubT c))) := rfl
          rw [h3, sentOf_sents, List.nil_append]
          have h5 : ((members s).flatMap fun i => way c 3 i) = (members s).map fun i => ⟨4, c, i, pubT c⟩ := by
            rw [List.map_eq_flatMap]; rfl
          rw [h5]
        · rw [tolds_append, h.said, he]
          have h3 : tolds 2 (pubT c) 1 (⟨2, c, pubT c, 1, msg0⟩ :: (members s).map (sentEv c 4 (pubT c))) = tolds 2 (pubT c) 1 ((members s).map (sentEv c 4 (pubT c))) + 1 := by simp [tolds, told]
          rw [h3, tolds_sents 2 (by omega)]; rfl
        · rw [tolds_append, h.applied, he]
          have h3 : tolds 3 (pubT c) 1 (⟨2, c, pubT c, 1, msg0⟩ :: (members s).map (sentEv c 4 (pubT c))) = tolds 3 (pubT c) 1 ((members s).map (sentEv c 4 (pubT c))) := by simp [tolds, told]
          rw [h3, tolds_sents 3 (by omega)]
          refine List.countP_congr (fun x hx => ?_)
          have := h.low rfl x hx
          simp; omega
        · intro _ x _; simp
      · have h1 := left_split s i st hi
        have h2 := left_split s i (fun _ => 3) hi
        have h3 : (((members s).erase i).map fun j => 5 - st j) = ((members s).erase i).map fun _ => 3 := List.map_congr_left (fun x hx => by
          have hx' := (members_nodup s).mem_erase_iff.1 hx
          rw [hall x hx'.2 hx'.1])
        rw [h1, h2, h3, s1]
        have h6 : ∀ l : List Nat, (l.map fun _ => 5 - 3).sum ≤ (l.map fun _ => 3).sum := by
          intro l; induction l with
          | nil => simp
          | cons a l ih => simp only [List.map_cons, List.sum_cons]; omega
        have := h6 ((members s).erase i)
        omega
    · obtain ⟨k, hk, he, hK⟩ := hN.yes hbit hz
      rw [hev] at he
      have hqc : qOf cfg c s (toSt st i 2) false c = .voting (without (waitsOf s st 2) i) := by simp [qOf, cst, hwo]
      refine ⟨n, k, toSt st i 2, false, hn, hN.up, hN.fuse, by show i < 4; omega, by show c < 4; omega, hk, by rw [he]; simp, ?_, left_move s i 2 st hi (by omega) (by omega)⟩
      refine ⟨by simp [h.len], h.nodes (by rw [hqc, hpp]; exact hK) (fun j hj => by have hj' : j ≠ c := hj; simp [qOf, hj']) (fun j _ _ => hpp j) h4, ?_, ?_, ?_, ?_, (fun e => by cases e), ?_⟩
      · exact net_move hi (h.taken hm hi hwe) (by rw [he]; rfl)
      · rw [tolds_append, h.said, he]; simp [tolds]
      · rw [tolds_append, h.applied, he]
        have := count_move s i 2 st hi
        simp [s1] at this
        simp [this, tolds]
      · intro _ x hx
        by_cases e : x = i
        · simp [toSt, e]
        · simp [toSt, e]; exact h.low rfl x hx
      · intro _
        rw [hwo] at hz
        have : ¬ ∀ j, j < 4 → (s.testBit j && decide (toSt st i 2 j < 2)) = false := fun e => hz (setOf_zero.2 e)
        apply Classical.byContradiction
        intro hno
        refine this (fun j hj => ?_)
        cases hb : s.testBit j with
        | false => rfl
        | true =>
          have : ¬ toSt st i 2 j < 2 := fun e => hno ⟨j, mem_members.2 ⟨hj, hb⟩, e⟩
          simp [this]
  by_cases s3 : st i = 3
  · -- the decision
    have hwe : way c (st i) i = [⟨4, c, i, pubT c⟩] := by simp [way, s3]
    have hme : m = ⟨4, c, i, pubT c⟩ := by rw [hwe] at hw; simpa using hw
    subst hme
    obtain ⟨n, hn⟩ := getN i hin
    obtain ⟨hN, hev⟩ := h.node i n hn
    have hp0 : pOf s st i = 1 := by simp [pOf, hi4.2, s3, pst]
    rw [hp0] at hN
    have hd : d = true := by
      cases hd : d with
      | true => rfl
      | false => have := h.low hd i hi; omega
    subst hd
    obtain ⟨k, hk, he, hK⟩ := hN.learn ho.h24
    rw [hev, List.nil_append] at he
    obtain ⟨b, hb⟩ : ∃ b, b = if cfg.variant = 3 then 5 else 4 := ⟨_, rfl⟩
    have hb' : 4 ≤ b ∧ b ≤ 5 := by rw [hb]; split <;> omega
    have hq : ∀ j, qOf cfg c s (toSt st i b) true j = qOf cfg c s st true j := fun j => by
      by_cases hv : cfg.variant = 3
      · simp [qOf, cst, hv]
      · rw [if_neg hv] at hb
        have hst : waitsOf s (toSt st i b) 5 = waitsOf s st 5 := setOf_congr (fun j _ => by
          unfold toSt; by_cases e : j = i
          · subst e; simp [s3, hb]
          · simp [e])
        simp [qOf, cst, hst]
    have hpb : pst b = 2 := by unfold pst; rw [if_neg (by omega), if_neg (by omega)]
    have hp1 : pOf s (toSt st i b) i = 2 := by simp [pOf, hi4.2, toSt, hpb]
    refine ⟨n, k, toSt st i b, true, hn, hN.up, hN.fuse, by show c < 4; omega, by show c < 4; omega, hk, by rw [he]; split <;> simp, ?_, left_move s i b st hi (by omega) (by omega)⟩
    refine ⟨by simp [h.len], h.nodes (by rw [hq, hp1]; exact hK) (fun j _ => hq j) (fun j _ hj => by have hj' : j ≠ i := hj; simp [pOf, toSt, hj']) h4, ?_, ?_, ?_, (fun e => by cases e), ?_, (fun e => by cases e)⟩
    · refine net_move hi (h.taken hm hi hwe) ?_
      rw [he, hb]
      split <;> rfl
    · rw [tolds_append, h.said, he]
      split <;> simp [tolds, told, sentEv]
    · rw [tolds_append, h.applied, he]
      have := count_move s i b st hi
      rw [if_neg (by omega), if_pos hb'.1] at this
      have h3 : tolds 3 (pubT c) 1 (⟨3, i, pubT c, 1, msg0⟩ :: (if cfg.variant = 3 then [] else [sentEv i 6 (pubT c) c])) = 1 := by split <;> simp [tolds, told, sentEv]
      rw [h3]; omega
    · intro _ x hx
      by_cases e : x = i
      · subst e
        have : toSt st x b x = b := by simp [toSt]
        rw [this]
        refine ⟨by omega, by omega, fun hv => ?_⟩
        rw [hb, if_pos hv]; omega
      · have : toSt st i b x = st x := by simp [toSt, e]
        rw [this]; exact h.high rfl x hx
  by_cases s4 : st i = 4
  · -- an Ack
    have hwe : way c (st i) i = [⟨6, i, c, pubT c⟩] := by simp [way, s4]
    have hme : m = ⟨6, i, c, pubT c⟩ := by rw [hwe] at hw; simpa using hw
    subst hme
    obtain ⟨n, hn⟩ := getN c hcn
    obtain ⟨hN, hev⟩ := h.node c n hn
    have hd : d = true := by
      cases hd : d with
      | true => rfl
      | false => have := h.low hd i hi; omega
    subst hd
    have hv : cfg.variant ≠ 3 := fun e => (h.high rfl i hi).2.2 e s4
    have hbit : (waitsOf s st 5).testBit i = true := by
      unfold waitsOf; rw [setOf_bit _ _ hi4.1, hi4.2, s4]; rfl
    have hne : waitsOf s st 5 ≠ 0 := fun e => by rw [e] at hbit; simp at hbit
    have hq0 : qOf cfg c s st true c = .decided (waitsOf s st 5) := by simp [qOf, cst, hv, hne]
    rw [hq0] at hN
    have hwo : without (waitsOf s st 5) i = waitsOf s (toSt st i 5) 5 := by
      unfold waitsOf; rw [without_setOf _ _ hi4.1]
      refine setOf_congr (fun j _ => ?_)
      by_cases e : j = i
      · simp [toSt, e]
      · simp [toSt, e]
    have hpp : ∀ j, pOf s (toSt st i 5) j = pOf s st j := fun j => by
      by_cases e : j = i
      · subst e; simp [pOf, toSt, s4, pst]
      · simp [pOf, toSt, e]
    obtain ⟨k, hk, he, hK⟩ := hN.ack ho.h24 hv hbit
    rw [hev] at he
    have hqc : qOf cfg c s (toSt st i 5) true c = if without (waitsOf s st 5) i = 0 then .over else .decided (without (waitsOf s st 5) i) := by simp [qOf, cst, hv, hwo]
    refine ⟨n, k, toSt st i 5, true, hn, hN.up, hN.fuse, by show i < 4; omega, by show c < 4; omega, hk, by rw [he]; simp, ?_, left_move s i 5 st hi (by omega) (by omega)⟩
    refine ⟨by simp [h.len], h.nodes (by rw [hqc, hpp]; exact hK) (fun j hj => by have hj' : j ≠ c := hj; simp [qOf, hj']) (fun j _ _ => hpp j) h4, ?_, ?_, ?_, (fun e => by cases e), ?_, (fun e => by cases e)⟩
    · exact net_move hi (h.taken hm hi hwe) (by rw [he]; rfl)
    · rw [tolds_append, h.said, he]; simp [tolds]
    · rw [tolds_append, h.applied, he]
      have := count_move s i 5 st hi
      rw [if_pos (by omega), if_pos (by omega)] at this
      have h3 : tolds 3 (pubT c) 1 [] = 0 := rfl
      rw [h3]; omega
    · intro _ x hx
      by_cases e : x = i
      · subst e
        have : toSt st x 5 x = 5 := by simp [toSt]
        rw [this]; omega
      · have : toSt st i 5 x = st x := by simp [toSt, e]
        rw [this]; exact h.high rfl x hx
  · -- no message
    exfalso
    simp [way, s0, s1, s3, s4] at hw

/-- A transaction is begun in a fresh cluster. -/
theorem PIn.first {cfg : Cfg} {c s : Nat} {K : KM} (ho : POk cfg c s) (hS : Started cfg cfg.nodes K.ns) (hnet : K.net = []) (htr : K.trace = []) : ∃ n, K.ns[c]? = some n ∧ n.up = true ∧ n.fuse = none ∧ n.isFull = false ∧ n.id = c ∧ n.inc = 1 ∧ n.begun = 0 ∧ ∃ k : Nat → NM, (∀ b, n.begin (pubT c) s b = .ok (k b)) ∧ (∀ b, (k b).evs.length ≤ 5) ∧ ∀ b, PIn cfg c s (fun _ => 0) false { ns := K.ns.set c { (k b).tidy with evs := [] }, ps := K.ps, net := K.net ++ sentOf (k b).evs, trace := K.trace ++ (k b).evs } := by
  have h4 := ho.conf.nodes.2
  have hcn := ho.coord
  have hlen : K.ns.length = cfg.nodes := hS.1
  obtain ⟨n, hn⟩ : ∃ n, K.ns[c]? = some n := ⟨_, List.getElem?_eq_getElem (by rw [hlen]; exact hcn)⟩
  obtain ⟨pd, bo, bp, rfl⟩ := hS.2 c n hn
  have hN := NIn.new cfg c s c pd bo bp (by omega)
  have hK : ∀ b, ∃ k, (newNM c cfg pd bo bp).begin (pubT c) s b = .ok k ∧ k.evs = (newNM c cfg pd bo bp).evs ++ (members s).map (sentEv c 1 (pubT c)) ∧ NIn cfg c s (.voting s) 0 c k := fun b => hN.begin ho.h24 b
  have hm4 : (members s).length ≤ 4 := by
    have := List.length_filter_le (fun i => s.testBit i) (List.range 4)
    simpa [members] using this
  have hev : ∀ b, (Classical.choose (hK b)).evs = (members s).map (sentEv c 1 (pubT c)) := fun b => by rw [(Classical.choose_spec (hK b)).2.1]; rfl
  refine ⟨_, hn, rfl, rfl, ?_, rfl, rfl, rfl, fun b => Classical.choose (hK b), fun b => (Classical.choose_spec (hK b)).1, fun b => ?_, fun b => ?_⟩
  · have h24 := ho.h24
    have h1 : (newNM c cfg pd bo bp).room = cfg.ring * cfg.per := by
      show cfg.ring * cfg.per - (0 - _) = _
      omega
    have h2 : (newNM c cfg pd bo bp).need = 0 := rfl
    unfold NM.isFull
    rw [h1, h2]
    have h3 : (newNM c cfg pd bo bp).opn.length = 0 := rfl
    have h5 : (newNM c cfg pd bo bp).begun = 0 := rfl
    rw [h3, h5]
    simp; omega
  · simp only [hev, List.length_map]; omega
  · have hKb := (Classical.choose_spec (hK b)).2.2
    have hw0 : waitsOf s (fun _ => 0) 2 = s := by
      unfold waitsOf
      refine Eq.trans (setOf_congr (fun j _ => ?_)) (setOf_self s ho.lt)
      simp
    have hp0 : ∀ i, pOf s (fun _ => 0) i = 0 := fun i => by simp [pOf, pst]
    refine ⟨by simp [hlen], ?_, ?_, ?_, ?_, fun _ _ _ => by simp, (fun e => by cases e), fun _ => ?_⟩
    · intro i n hi
      rw [List.getElem?_set] at hi
      by_cases e : c = i
      · subst e
        rw [if_pos rfl] at hi
        split at hi
        · cases hi
          have hq : qOf cfg c s (fun _ => 0) false c = .voting s := by simp [qOf, cst, hw0]
          rw [hq, hp0]
          exact hKb.tidy
        · cases hi
      · rw [if_neg e] at hi
        have hq : qOf cfg c s (fun _ => 0) false i = .idle := by simp [qOf, Ne.symm e]
        rw [hq, hp0]
        obtain ⟨_, _, _, rfl⟩ := hS.2 i n hi
        exact ⟨NIn.new cfg c s i _ _ _ (by omega), rfl⟩
    · simp only [hnet, List.nil_append, hev, sentOf_sents]
      have h5 : ((members s).flatMap fun i => way c 0 i) = (members s).map fun i => ⟨1, c, i, pubT c⟩ := by
        rw [List.map_eq_flatMap]; rfl
      rw [h5]
    · simp only [htr, List.nil_append, hev]
      rw [tolds_sents 2 (by omega)]; rfl
    · simp only [htr, List.nil_append, hev]
      rw [tolds_sents 3 (by omega)]
      simp
    · apply Classical.byContradiction
      intro hno
      refine ho.ne ?_
      rw [← setOf_self s ho.lt]
      refine setOf_zero.2 (fun j hj => ?_)
      cases hb : s.testBit j with
      | false => rfl
      | true => exact absurd ⟨j, mem_members.2 ⟨hj, hb⟩, by omega⟩ hno

def wantF (cfg : Cfg) (c s i : Nat) : Nat := (if i = c then (if cfg.variant = 3 then 2 else 1) else 0) + (if s.testBit i then (if cfg.variant = 3 then 1 else 2) else 0)
def wantL (cfg : Cfg) (c s i : Nat) : Nat := (if i = c then (if cfg.variant = 3 then 0 else 1) else 0) + (if s.testBit i then (if cfg.variant = 3 then 1 else 0) else 0)
def wantS (cfg : Cfg) (c s i : Nat) : Nat := (if i = c then 2 * (members s).length else 0) + (if s.testBit i then (if cfg.variant = 3 then 1 else 2) else 0)

/-- No message is on its way: it is over. -/
theorem PIn.over {cfg : Cfg} {c s : Nat} {st : Nat → Nat} {d : Bool} {K : KM} (ho : POk cfg c s) (h : PIn cfg c s st d K) (hnet : K.net = []) : tolds 2 (pubT c) 1 K.trace = 1 ∧ tolds 3 (pubT c) 1 K.trace = (members s).length ∧ ∀ i n, K.ns[i]? = some n → n.up = true ∧ n.forced = wantF cfg c s i ∧ n.lazies = wantL cfg c s i ∧ n.sent = wantS cfg c s i := by
  have hno : ∀ i ∈ members s, way c (st i) i = [] := by
    have h1 := h.net
    rw [hnet] at h1
    exact List.flatMap_eq_nil_iff.1 (List.Perm.eq_nil h1.symm)
  have hno' : ∀ i ∈ members s, st i ≠ 0 ∧ st i ≠ 1 ∧ st i ≠ 3 ∧ st i ≠ 4 := fun i hi => by
    have := hno i hi
    unfold way at this
    refine ⟨fun e => ?_, fun e => ?_, fun e => ?_, fun e => ?_⟩ <;> simp [e] at this
  have hd : d = true := by
    cases hd : d with
    | true => rfl
    | false =>
      obtain ⟨i, hi, hl⟩ := h.more hd
      have := hno' i hi
      omega
  subst hd
  have h5 : ∀ i ∈ members s, st i = 5 := fun i hi => by
    have h1 := hno' i hi
    have h2 := h.high rfl i hi
    omega
  refine ⟨h.said, ?_, fun i n hn => ?_⟩
  · rw [h.applied, List.countP_eq_length]
    intro i hi
    rw [h5 i hi]; rfl
  · obtain ⟨hN, _⟩ := h.node i n hn
    have hi4 : i < 4 := by
      have := (List.getElem?_eq_some_iff.1 hn).1
      have h4 := ho.conf.nodes.2
      rw [h.len] at this; omega
    have hw : waitsOf s st 5 = 0 := setOf_zero.2 (fun j hj => by
      cases hb : s.testBit j with
      | false => rfl
      | true => rw [h5 j (mem_members.2 ⟨hj, hb⟩)]; rfl)
    have hq : qOf cfg c s st true i = if i = c then .over else .idle := by
      unfold qOf cst
      simp [hw]
    have hp : pOf s st i = if s.testBit i then 2 else 0 := by
      unfold pOf
      by_cases hb : s.testBit i = true
      · rw [if_pos hb, if_pos hb, h5 i (mem_members.2 ⟨hi4, hb⟩)]; rfl
      · rw [if_neg hb, if_neg hb]
    rw [hq, hp] at hN
    refine ⟨hN.up, ?_, ?_, ?_⟩
    · rw [hN.forced]; unfold wantF
      cases hb : s.testBit i
      · by_cases e : i = c
        · subst e; simp [leadF, partF]
        · simp [e, leadF, partF]
      · by_cases e : i = c
        · subst e; simp [leadF, partF]
        · simp [e, leadF, partF]
    · rw [hN.lazies]; unfold wantL
      cases hb : s.testBit i
      · by_cases e : i = c
        · subst e; simp [leadL, partL]
        · simp [e, leadL, partL]
      · by_cases e : i = c
        · subst e; simp [leadL, partL]
        · simp [e, leadL, partL]
    · rw [hN.sent]; unfold wantS
      cases hb : s.testBit i
      · by_cases e : i = c
        · subst e; simp [leadS, partS]
        · simp [e, leadS, partS]
      · by_cases e : i = c
        · subst e; simp [leadS, partS]
        · simp [e, leadS, partS]
theorem left_first (s : Nat) : leftOf s (fun _ => 0) ≤ 20 := by
  have h : (members s).length ≤ 4 := by
    have := List.length_filter_le (fun i => s.testBit i) (List.range 4)
    simpa [members] using this
  unfold leftOf
  have h6 : ∀ l : List Nat, (l.map fun _ => 5 - 0).sum = 5 * l.length := by
    intro l; induction l with
    | nil => simp
    | cons a l ih => simp only [List.map_cons, List.sum_cons, List.length_cons, ih]; omega
  rw [h6]; omega

end Go.Proofs.YthbmmbgkchiajaaGreat
