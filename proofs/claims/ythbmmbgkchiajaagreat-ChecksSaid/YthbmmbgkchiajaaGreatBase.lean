
/- The words in which the walks of this seat speak of memory: which blocks a call may have turned, which slices are owned, and what follows for cells. -/
import Derived.Test.YthbmmbgkchiajaaGreatRows
import Derived.WalkKit
import Derived.WalkSpells
import Derived.Deep.RegionHeld3
import Derived.Deep.MidRow
import Derived.Deep.AppendLies
import Derived.Deep.DrawnRows
import Derived.Deep.QuietTactic
import Derived.BigQuiet
import Derived.KernelRfl
namespace Go.Proofs.YthbmmbgkchiajaaGreat
open Go.RowKit

theorem hide {p : Prop} (h : p) : Hid p := h
theorem unhide {p : Prop} (h : Hid p) : p := h

/-- w' is w but for new blocks and for blocks in S. -/
structure Keeps (S : Nat → Prop) (w w' : World) : Prop where
  os : w'.os = w.os
  tape : w'.tape = w.tape
  output : w'.output = w.output
  size : w.heap.size ≤ w'.heap.size
  block : ∀ k, k < w.heap.size → ¬ S k → w'.heap[k]? = w.heap[k]?

theorem Keeps.refl (S : Nat → Prop) (w : World) : Keeps S w w := ⟨rfl, rfl, rfl, Nat.le_refl _, fun _ _ _ => rfl⟩

theorem Keeps.mono {S T : Nat → Prop} {w w' : World} (h : Keeps S w w') (hs : ∀ k, k < w.heap.size → S k → T k) : Keeps T w w' :=
  ⟨h.os, h.tape, h.output, h.size, fun k hk hn => h.block k hk (fun hS => hn (hs k hk hS))⟩

theorem Keeps.trans {S T : Nat → Prop} {a b c : World} (h : Keeps S a b) (k : Keeps T b c) (hT : ∀ i, i < a.heap.size → T i → S i) : Keeps S a c :=
  ⟨k.os.trans h.os, k.tape.trans h.tape, k.output.trans h.output, Nat.le_trans h.size k.size,
    fun i hi hn => (k.block i (Nat.lt_of_lt_of_le hi h.size) (fun ht => hn (hT i hi ht))).trans (h.block i hi hn)⟩

theorem Keeps.drew {S : Nat → Prop} {a w : World} (h : Keeps S a w) : Keeps S a w.drew := ⟨h.os, h.tape, h.output, h.size, h.block⟩
theorem Keeps.drewN {S : Nat → Prop} {a w : World} (h : Keeps S a w) (n : Nat) : Keeps S a (w.drewN n) := by
  induction n with
  | zero => exact h
  | succ n ih => exact ih.drew

theorem Keeps.alloc {S : Nat → Prop} {a w : World} (h : Keeps S a w) (o : Obj) : Keeps S a (w.alloc o) :=
  h.trans (T := fun _ => False) ⟨rfl, rfl, rfl, by simp, fun k hk _ => Below.heap_alloc _ _ _ hk⟩ (fun _ _ h => h.elim)

theorem Keeps.setCell {S : Nat → Prop} {a w : World} (h : Keeps S a w) {p : Addr} (hp : S p.block ∨ a.heap.size ≤ p.block) (u : Value) : Keeps S a (w.setCell p u) :=
  h.trans (T := fun k => k = p.block) ⟨rfl, rfl, rfl, by simp [World.setCell], fun k _ hn => Below.heap_setCell _ _ _ _ hn⟩
    (fun i hi e => by subst e; rcases hp with hp | hp; exact hp; exact absurd hi (by omega))

theorem Keeps.grown {S : Nat → Prop} {a w w' : World} {row : Option Nat} (h : Keeps S a w) (hg : w.grownBy w' row) (hr : ∀ k, row = some k → k < a.heap.size → S k) : Keeps S a w' :=
  h.trans (T := fun k => row = some k) ⟨hg.os, hg.tape, hg.output, hg.size, fun k hk hn => hg.block k hk (fun e => hn e.symm)⟩ (fun i hi e => hr i e hi)

theorem Keeps.cell {S : Nat → Prop} {w w' : World} (h : Keeps S w w') {p : Addr} (hp : p.block < w.heap.size) (hn : ¬ S p.block) : w'.cell? p = w.cell? p := World.cell?_of_block (h.block _ hp hn)
theorem Keeps.frozen {S : Nat → Prop} {w w' : World} (h : Keeps S w w') {p : Addr} (hp : p.block < w.heap.size) (hn : ¬ S p.block) : w'.frozen? p = w.frozen? p := World.frozen?_of_block (h.block _ hp hn)

theorem Keeps.below {B : Nat} {w w' : World} (h : Keeps (fun k => B ≤ k) w w') (hB : B ≤ w.heap.size) : Below B w w' :=
  ⟨h.os, h.tape, h.output, h.size, fun k hk => h.block k (by omega) (by omega)⟩
theorem Keeps.ofBelow {B : Nat} {w w' : World} (h : Below B w w') (S : Nat → Prop) (hS : ∀ k, k < w.heap.size → B ≤ k → S k) : Keeps S w w' :=
  ⟨h.os, h.tape, h.output, h.size, fun k hk hn => h.block k (by
    rcases Nat.lt_or_ge k B with h | h
    · exact h
    · exact absurd (hS k hk h) hn)⟩

theorem lt_of_heap {w : World} {b : Nat} {o : Obj} (h : w.heap[b]? = some o) : b < w.heap.size := (Array.getElem?_eq_some_iff.1 h).1

theorem Keeps.heap {S : Nat → Prop} {w w' : World} (h : Keeps S w w') {b : Nat} {o : Obj} (hb : w.heap[b]? = some o) (hn : ¬ S b) : w'.heap[b]? = some o := (h.block b (lt_of_heap hb) hn).trans hb

/-- A slice whose row lies in S: it holds n elements, the cells xs. -/
def Own (S : Nat → Prop) (w : World) (e size : Nat) (v : Value) (n : Nat) (xs : List Value) : Prop :=
  w.ownsRow 0 e size v n xs ∧ ∀ k, v.ownBlock = some k → S k

theorem Own.keep {S T : Nat → Prop} {w w' : World} {e size n : Nat} {v : Value} {xs : List Value} (h : Own S w e size v n xs) (hk : Keeps T w w') (hd : ∀ k, k < w.heap.size → S k → ¬ T k) : Own S w' e size v n xs := by
  refine ⟨⟨h.1.1, ?_⟩, h.2⟩
  rcases h.1.2 with hn | ⟨g, cap, cur, rfl, hb, hgg, rest⟩
  · exact .inl hn
  · exact .inr ⟨g, cap, cur, rfl, hb, hk.heap hgg (hd g (lt_of_heap hgg) (h.2 g rfl)), rest⟩

theorem Own.mono {S T : Nat → Prop} {w : World} {e size n : Nat} {v : Value} {xs : List Value} (h : Own S w e size v n xs) (hs : ∀ k, k < w.heap.size → S k → T k) : Own T w e size v n xs :=
  ⟨h.1, fun k hk => hs k ((h.1.lt k hk).2) (h.2 k hk)⟩

theorem Own.nil (S : Nat → Prop) (w : World) (e size : Nat) : Own S w e size (.slice none 0 0) 0 [] := ⟨World.ownsRow_nil _ _ _ _, fun k h => by simp [Value.ownBlock] at h⟩

/-- A block that is known whole, behind a store into it. -/
theorem heap_setCell_same {w : World} {b o : Nat} {cs : Array Value} {e : TypeId} {fr : Nat × Nat} (h : w.heap[b]? = some (.cells cs e fr)) (u : Value) : (w.setCell ⟨b, o, none⟩ u).heap[b]? = some (.cells (cs.setIfInBounds o u) e fr) := by
  simp [World.setCell, Array.getElem?_modify, h]

theorem cell_of_heap {w : World} {b o : Nat} {cs : Array Value} {e : TypeId} {fr : Nat × Nat} (h : w.heap[b]? = some (.cells cs e fr)) : w.cell? ⟨b, o, none⟩ = cs[o]? := cell_of_row w b o cs e fr h

theorem frozen_of_heap {w : World} {b o : Nat} {cs : Array Value} {e : TypeId} (h : w.heap[b]? = some (.cells cs e (0, 0))) : w.frozen? ⟨b, o, none⟩ = false := by
  simp [World.frozen?, h]

theorem heap_two (w : World) (a b : Obj) : ((w.alloc a).alloc b).heap[w.heap.size + 1]? = some b := by
  have := heap_alloc_new (w.alloc a) b
  simpa using this

/-- Behind new blocks and an append. -/
theorem keeps_grown {w w0 w1 : World} {row : Option Nat} (h : Keeps (fun _ => False) w w0) (hg : w0.grownBy w1 row) : Keeps (fun k => row = some k) w w1 :=
  (h.mono (T := fun k => row = some k) (fun _ _ f => f.elim)).grown hg (fun _ e _ => e)

theorem Keeps.range {S : Nat → Prop} {w w' : World} (h : Keeps S w w') {b o : Nat} {cs : List Value} (hr : w.rangeAt b o cs) (hb : b < w.heap.size) (hn : ¬ S b) : w'.rangeAt b o cs := fun j v hj => (h.cell (p := ⟨b, o + j, none⟩) hb hn).trans (hr j v hj)

/-- 'x.f = append(x.f, ..)': x's struct is block p, its field's slice vl lies in S; behind the append (world w1) the new slice is stored. -/
theorem Own.field {S : Nat → Prop} {w w1 : World} {p f e size n n' cap t gg H : Nat} {cs : Array Value} {vl : Value} {xs ys : List Value}
    (hb : w.heap[p]? = some (.cells cs t (0, 0))) (hown : Own S w e size vl n xs) (hSp : ¬ S p) (hk : Keeps (fun k => vl.ownBlock = some k) w w1)
    (hown1 : w1.ownsRow 0 e size (.slice (some ⟨gg, 0, none⟩) n' cap) n' ys) (hat : vl.ownBlock = some gg ∨ gg = H) (hH : w.heap.size ≤ H) :
    (w1.setCell ⟨p, f, none⟩ (.slice (some ⟨gg, 0, none⟩) n' cap)).heap[p]? = some (.cells (cs.setIfInBounds f (.slice (some ⟨gg, 0, none⟩) n' cap)) t (0, 0)) ∧
    Own (fun k => S k ∨ w.heap.size ≤ k) (w1.setCell ⟨p, f, none⟩ (.slice (some ⟨gg, 0, none⟩) n' cap)) e size (.slice (some ⟨gg, 0, none⟩) n' cap) n' ys ∧
    Keeps (fun k => k = p ∨ S k) w (w1.setCell ⟨p, f, none⟩ (.slice (some ⟨gg, 0, none⟩) n' cap)) := by
  have hp := lt_of_heap hb
  have hb1 := hk.heap hb (fun e => hSp (hown.2 p e))
  have hgp : gg ≠ p := by
    rintro rfl
    rcases hat with h | h
    · exact hSp (hown.2 _ h)
    · omega
  refine ⟨heap_setCell_same hb1 _, ?_, ?_⟩
  · have hks : Keeps (fun k => k = p) w1 (w1.setCell ⟨p, f, none⟩ (.slice (some ⟨gg, 0, none⟩) n' cap)) := (Keeps.refl (fun k => k = p) w1).setCell (p := ⟨p, f, none⟩) (.inl rfl) _
    refine Own.keep ⟨hown1, ?_⟩ hks ?_
    · intro k h
      simp only [Value.ownBlock, Option.some.injEq] at h
      subst h
      rcases hat with h | h
      · exact .inl (hown.2 _ h)
      · exact .inr (by show w.heap.size ≤ gg; omega)
    · intro k _ hs e
      subst e
      rcases hs with hs | hs
      · exact hSp hs
      · omega
  · exact (hk.mono (T := fun k => k = p ∨ S k) (fun k _ e => .inr (hown.2 k e))).setCell (p := ⟨p, f, none⟩) (.inl (.inl rfl)) _

end Go.Proofs.YthbmmbgkchiajaaGreat
