
/- The words in which the walks of this seat speak of memory: which blocks a call may have turned, which slices are owned, and what follows for cells. -/
import Derived.Test.YthbmmbgkchiajaaGreatRows
import Derived.WalkKit
import Derived.WalkSpells
import Derived.Deep.RegionHeld3
import Derived.Deep.MidRow
import Derived.Deep.AppendLies
import Derived.Deep.DrawnRows
import Derived.Deep.QuietTactic
import Derived.BigQuiet
import Derived.KernelRfl
import Derived.Deep.WholeRow
import Derived.Deep.RegionLaw

namespace Go.Proofs.YthbmmbgkchiajaaGreat
set_option linter.unusedSimpArgs false
set_option linter.unusedVariables false
open Go.RowKit

theorem hide {p : Prop} (h : p) : Hid p := h
theorem unhide {p : Prop} (h : Hid p) : p := h

/-- w' is w but for new blocks and for blocks in S. -/
structure Keeps (S : Nat → Prop) (w w' : World) : Prop where
  os : w'.os = w.os
  tape : w'.tape = w.tape
  output : w'.output = w.output
  size : w.heap.size ≤ w'.heap.size
  block : ∀ k, k < w.heap.size → ¬ S k → w'.heap[k]? = w.heap[k]?

theorem Keeps.refl (S : Nat → Prop) (w : World) : Keeps S w w := ⟨rfl, rfl, rfl, Nat.le_refl _, fun _ _ _ => rfl⟩

theorem Keeps.mono {S T : Nat → Prop} {w w' : World} (h : Keeps S w w') (hs : ∀ k, k < w.heap.size → S k → T k) : Keeps T w w' :=
  ⟨h.os, h.tape, h.output, h.size, fun k hk hn => h.block k hk (fun hS => hn (hs k hk hS))⟩

theorem Keeps.trans {S T : Nat → Prop} {a b c : World} (h : Keeps S a b) (k : Keeps T b c) (hT : ∀ i, i < a.heap.size → T i → S i) : Keeps S a c :=
  ⟨k.os.trans h.os, k.tape.trans h.tape, k.output.trans h.output, Nat.le_trans h.size k.size,
    fun i hi hn => (k.block i (Nat.lt_of_lt_of_le hi h.size) (fun ht => hn (hT i hi ht))).trans (h.block i hi hn)⟩

theorem Keeps.drew {S : Nat → Prop} {a w : World} (h : Keeps S a w) : Keeps S a w.drew := ⟨h.os, h.tape, h.output, h.size, h.block⟩
theorem Keeps.drewN {S : Nat → Prop} {a w : World} (h : Keeps S a w) (n : Nat) : Keeps S a (w.drewN n) := by
  induction n with
  | zero => exact h
  | succ n ih => exact ih.drew

theorem Keeps.alloc {S : Nat → Prop} {a w : World} (h : Keeps S a w) (o : Obj) : Keeps S a (w.alloc o) :=
  h.trans (T := fun _ => False) ⟨rfl, rfl, rfl, by simp, fun k hk _ => Below.heap_alloc _ _ _ hk⟩ (fun _ _ h => h.elim)

theorem Keeps.setCell {S : Nat → Prop} {a w : World} (h : Keeps S a w) {p : Addr} (hp : S p.block ∨ a.heap.size ≤ p.block) (u : Value) : Keeps S a (w.setCell p u) :=
  h.trans (T := fun k => k = p.block) ⟨rfl, rfl, rfl, by simp [World.setCell], fun k _ hn => Below.heap_setCell _ _ _ _ hn⟩
    (fun i hi e => by subst e; rcases hp with hp | hp; exact hp; exact absurd hi (by omega))

theorem Keeps.grown {S : Nat → Prop} {a w w' : World} {row : Option Nat} (h : Keeps S a w) (hg : w.grownBy w' row) (hr : ∀ k, row = some k → k < a.heap.size → S k) : Keeps S a w' :=
  h.trans (T := fun k => row = some k) ⟨hg.os, hg.tape, hg.output, hg.size, fun k hk hn => hg.block k hk (fun e => hn e.symm)⟩ (fun i hi e => hr i e hi)

theorem Keeps.cell {S : Nat → Prop} {w w' : World} (h : Keeps S w w') {p : Addr} (hp : p.block < w.heap.size) (hn : ¬ S p.block) : w'.cell? p = w.cell? p := World.cell?_of_block (h.block _ hp hn)
theorem Keeps.frozen {S : Nat → Prop} {w w' : World} (h : Keeps S w w') {p : Addr} (hp : p.block < w.heap.size) (hn : ¬ S p.block) : w'.frozen? p = w.frozen? p := World.frozen?_of_block (h.block _ hp hn)

theorem Keeps.below {B : Nat} {w w' : World} (h : Keeps (fun k => B ≤ k) w w') (hB : B ≤ w.heap.size) : Below B w w' :=
  ⟨h.os, h.tape, h.output, h.size, fun k hk => h.block k (by omega) (by omega)⟩
theorem Keeps.ofBelow {B : Nat} {w w' : World} (h : Below B w w') (S : Nat → Prop) (hS : ∀ k, k < w.heap.size → B ≤ k → S k) : Keeps S w w' :=
  ⟨h.os, h.tape, h.output, h.size, fun k hk hn => h.block k (by
    rcases Nat.lt_or_ge k B with h | h
    · exact h
    · exact absurd (hS k hk h) hn)⟩

theorem lt_of_heap {w : World} {b : Nat} {o : Obj} (h : w.heap[b]? = some o) : b < w.heap.size := (Array.getElem?_eq_some_iff.1 h).1

theorem Keeps.heap {S : Nat → Prop} {w w' : World} (h : Keeps S w w') {b : Nat} {o : Obj} (hb : w.heap[b]? = some o) (hn : ¬ S b) : w'.heap[b]? = some o := (h.block b (lt_of_heap hb) hn).trans hb

/-- A slice whose row lies in S: it holds n elements, the cells xs. -/
def Own (S : Nat → Prop) (w : World) (e size : Nat) (v : Value) (n : Nat) (xs : List Value) : Prop :=
  w.ownsRow 0 e size v n xs ∧ ∀ k, v.ownBlock = some k → S k

theorem Own.keep {S T : Nat → Prop} {w w' : World} {e size n : Nat} {v : Value} {xs : List Value} (h : Own S w e size v n xs) (hk : Keeps T w w') (hd : ∀ k, k < w.heap.size → S k → ¬ T k) : Own S w' e size v n xs := by
  refine ⟨⟨h.1.1, ?_⟩, h.2⟩
  rcases h.1.2 with hn | ⟨g, cap, cur, rfl, hb, hgg, rest⟩
  · exact .inl hn
  · exact .inr ⟨g, cap, cur, rfl, hb, hk.heap hgg (hd g (lt_of_heap hgg) (h.2 g rfl)), rest⟩

theorem Own.mono {S T : Nat → Prop} {w : World} {e size n : Nat} {v : Value} {xs : List Value} (h : Own S w e size v n xs) (hs : ∀ k, k < w.heap.size → S k → T k) : Own T w e size v n xs :=
  ⟨h.1, fun k hk => hs k ((h.1.lt k hk).2) (h.2 k hk)⟩

theorem Own.nil (S : Nat → Prop) (w : World) (e size : Nat) : Own S w e size (.slice none 0 0) 0 [] := ⟨World.ownsRow_nil _ _ _ _, fun k h => by simp [Value.ownBlock] at h⟩

/-- A block that is known whole, behind a store into it. -/
theorem heap_setCell_same {w : World} {b o : Nat} {cs : Array Value} {e : TypeId} {fr : Nat × Nat} (h : w.heap[b]? = some (.cells cs e fr)) (u : Value) : (w.setCell ⟨b, o, none⟩ u).heap[b]? = some (.cells (cs.setIfInBounds o u) e fr) := by
  simp [World.setCell, Array.getElem?_modify, h]

theorem cell_of_heap {w : World} {b o : Nat} {cs : Array Value} {e : TypeId} {fr : Nat × Nat} (h : w.heap[b]? = some (.cells cs e fr)) : w.cell? ⟨b, o, none⟩ = cs[o]? := cell_of_row w b o cs e fr h

theorem frozen_of_heap {w : World} {b o : Nat} {cs : Array Value} {e : TypeId} (h : w.heap[b]? = some (.cells cs e (0, 0))) : w.frozen? ⟨b, o, none⟩ = false := by
  simp [World.frozen?, h]

theorem heap_two (w : World) (a b : Obj) : ((w.alloc a).alloc b).heap[w.heap.size + 1]? = some b := by
  have := heap_alloc_new (w.alloc a) b
  simpa using this

/-- Behind new blocks and an append. -/
theorem keeps_grown {w w0 w1 : World} {row : Option Nat} (h : Keeps (fun _ => False) w w0) (hg : w0.grownBy w1 row) : Keeps (fun k => row = some k) w w1 :=
  (h.mono (T := fun k => row = some k) (fun _ _ f => f.elim)).grown hg (fun _ e _ => e)

theorem Keeps.range {S : Nat → Prop} {w w' : World} (h : Keeps S w w') {b o : Nat} {cs : List Value} (hr : w.rangeAt b o cs) (hb : b < w.heap.size) (hn : ¬ S b) : w'.rangeAt b o cs := fun j v hj => (h.cell (p := ⟨b, o + j, none⟩) hb hn).trans (hr j v hj)

/-- 'x.f = append(x.f, ..)': x's struct is block p, its field's slice vl lies in S; behind the append (world w1) the new slice is stored. -/
theorem Own.field {S : Nat → Prop} {w w1 : World} {p f e size n n' cap t gg H : Nat} {cs : Array Value} {vl : Value} {xs ys : List Value}
    (hb : w.heap[p]? = some (.cells cs t (0, 0))) (hown : Own S w e size vl n xs) (hSp : ¬ S p) (hk : Keeps (fun k => vl.ownBlock = some k) w w1)
    (hown1 : w1.ownsRow 0 e size (.slice (some ⟨gg, 0, none⟩) n' cap) n' ys) (hat : vl.ownBlock = some gg ∨ gg = H) (hH : w.heap.size ≤ H) :
    (w1.setCell ⟨p, f, none⟩ (.slice (some ⟨gg, 0, none⟩) n' cap)).heap[p]? = some (.cells (cs.setIfInBounds f (.slice (some ⟨gg, 0, none⟩) n' cap)) t (0, 0)) ∧
    Own (fun k => S k ∨ w.heap.size ≤ k) (w1.setCell ⟨p, f, none⟩ (.slice (some ⟨gg, 0, none⟩) n' cap)) e size (.slice (some ⟨gg, 0, none⟩) n' cap) n' ys ∧
    Keeps (fun k => k = p ∨ S k) w (w1.setCell ⟨p, f, none⟩ (.slice (some ⟨gg, 0, none⟩) n' cap)) := by
  have hp := lt_of_heap hb
  have hb1 := hk.heap hb (fun e => hSp (hown.2 p e))
  have hgp : gg ≠ p := by
    rintro rfl
    rcases hat with h | h
    · exact hSp (hown.2 _ h)
    · omega
  refine ⟨heap_setCell_same hb1 _, ?_, ?_⟩
  · have hks : Keeps (fun k => k = p) w1 (w1.setCell ⟨p, f, none⟩ (.slice (some ⟨gg, 0, none⟩) n' cap)) := (Keeps.refl (fun k => k = p) w1).setCell (p := ⟨p, f, none⟩) (.inl rfl) _
    refine Own.keep ⟨hown1, ?_⟩ hks ?_
    · intro k h
      simp only [Value.ownBlock, Option.some.injEq] at h
      subst h
      rcases hat with h | h
      · exact .inl (hown.2 _ h)
      · exact .inr (by show w.heap.size ≤ gg; omega)
    · intro k _ hs e
      subst e
      rcases hs with hs | hs
      · exact hSp hs
      · omega
  · exact (hk.mono (T := fun k => k = p ∨ S k) (fun k _ e => .inr (hown.2 k e))).setCell (p := ⟨p, f, none⟩) (.inl (.inl rfl)) _

end Go.Proofs.YthbmmbgkchiajaaGreat

/- The small functions: what each returns, in whatever world. -/
namespace Go.Proofs.YthbmmbgkchiajaaGreat
set_option linter.unusedSimpArgs false
set_option linter.unusedVariables false
open Go.RowKit

set_option maxHeartbeats 400000 in
theorem markByte_any (n : Nat) (w : World) (hn : n ≤ 9223372036854775807) :
    Calls Tryz.prog 81 #[.int .i64 n] w fun e w' => e = .returned (.int .u8 (200 + n / 4 % 50)) ∧ w' = w := by
  go_enter Tryz.func81, Tryz.ntmps81
  go_wp2
  go_ret
  exact ⟨rfl, rfl⟩

theorem ret_bool {a b : Bool} (h : a = b) : Ending.returned (.bool a) = .returned (.bool b) := by rw [h]
theorem ret_int {k : IntKind} {a b : Int} (h : a = b) : Ending.returned (.int k a) = .returned (.int k b) := by rw [h]

def pickOf (c : Int) (n : Nat) : Nat := ((if c < 0 then -(c + 1) else c) % (n : Int)).toNat
theorem pickOf_lt (c : Int) (n : Nat) (hn : 0 < n) : pickOf c n < n := by
  unfold pickOf
  have h1 := Int.emod_nonneg (if c < 0 then -(c + 1) else c) (b := (n : Int)) (by omega)
  have h2 := Int.emod_lt_of_pos (if c < 0 then -(c + 1) else c) (b := (n : Int)) (by omega)
  omega

set_option maxHeartbeats 400000 in
theorem pick_any (c : Int) (n : Nat) (w : World) (h0 : -9223372036854775808 ≤ c) (h1 : c ≤ 9223372036854775807) (hn : 0 < n) (hn' : n ≤ 9223372036854775807) :
    Calls Tryz.prog 75 #[.int .i64 c, .int .i64 n] w fun e w' => e = .returned (.int .i64 (pickOf c n)) ∧ w' = w := by
  have hn0 : (1 : Int) ≤ (n : Int) := by omega
  by_cases hc : c < 0
  · have hp : ((pickOf c n : Nat) : Int) = (-(c + 1)) % (n : Int) := by
      unfold pickOf; rw [if_pos hc, Int.toNat_of_nonneg (Int.emod_nonneg _ (by omega))]
    have HP : Hid (((pickOf c n : Nat) : Int) = (-(c + 1)) % (n : Int)) := hp
    clear hp
    go_enter Tryz.func75, Tryz.ntmps75
    go_wp2
    go_ret
    exact ⟨ret_int (by rw [HP.out, ← Int.neg_tmod, Int.tmod_eq_emod_of_nonneg (by omega)]), rfl⟩
  · have hp : ((pickOf c n : Nat) : Int) = c % (n : Int) := by
      unfold pickOf; rw [if_neg hc, Int.toNat_of_nonneg (Int.emod_nonneg _ (by omega))]
    have HP : Hid (((pickOf c n : Nat) : Int) = c % (n : Int)) := hp
    clear hp
    go_enter Tryz.func75, Tryz.ntmps75
    go_wp2
    go_ret
    exact ⟨ret_int HP.out.symm, rfl⟩

-- Disk.has: is i a sector?
set_option maxHeartbeats 400000 in
theorem has_yes (p n cap : Nat) (ao : Option Addr) (i : Nat) (w : World) (hc : w.cell? ⟨p, 0, none⟩ = some (.slice ao n cap)) (hi : i < n) (_hn : n ≤ 9223372036854775807) :
    Calls Tryz.prog 254 #[.pointer (some ⟨p, 0, none⟩), .int .i64 i] w fun e w' => e = .returned (.bool true) ∧ w' = w := by
  have h0 : decide ((0 : Int) ≤ (i : Int)) = true := by simp
  go_enter Tryz.func254, Tryz.ntmps254
  go_wp2
  go_ret
  exact ⟨by simp, rfl⟩

set_option maxHeartbeats 400000 in
theorem has_no (p n cap : Nat) (ao : Option Addr) (i : Int) (w : World) (hc : w.cell? ⟨p, 0, none⟩ = some (.slice ao n cap)) (hi : i < 0 ∨ (n : Int) ≤ i) (_hn : n ≤ 9223372036854775807) :
    Calls Tryz.prog 254 #[.pointer (some ⟨p, 0, none⟩), .int .i64 i] w fun e w' => e = .returned (.bool false) ∧ w' = w := by
  by_cases h : i < 0
  · have h0 : decide ((0 : Int) ≤ i) = false := by simp; omega
    clear hi
    go_enter Tryz.func254, Tryz.ntmps254
    go_wp2
    go_ret
    exact ⟨rfl, rfl⟩
  · have h0 : decide ((0 : Int) ≤ i) = true := by simp; omega
    have h1 : decide (i < (n : Int)) = false := by simp; omega
    clear hi
    go_enter Tryz.func254, Tryz.ntmps254
    go_wp2
    go_ret
    exact ⟨rfl, rfl⟩

set_option maxHeartbeats 400000 in
theorem dPending_any (p n cap : Nat) (ao : Option Addr) (w : World) (hc : w.cell? ⟨p, 1, none⟩ = some (.slice ao n cap)) :
    Calls Tryz.prog 178 #[.pointer (some ⟨p, 0, none⟩)] w fun e w' => e = .returned (.int .i64 n) ∧ w' = w := by
  go_enter Tryz.func178, Tryz.ntmps178
  go_wp2
  go_ret
  exact ⟨rfl, rfl⟩

set_option maxHeartbeats 400000 in
theorem dSyncs_any (p : Nat) (n : Int) (w : World) (hc : w.cell? ⟨p, 2, none⟩ = some (.int .i64 n)) :
    Calls Tryz.prog 197 #[.pointer (some ⟨p, 0, none⟩)] w fun e w' => e = .returned (.int .i64 n) ∧ w' = w := by
  go_enter Tryz.func197, Tryz.ntmps197
  go_wp2
  go_ret
  exact ⟨rfl, rfl⟩

def inB (zs : List Int) (k : Int) : Bool := zs.contains k
theorem inB_snoc (zs : List Int) (z k : Int) : inB (zs ++ [z]) k = (inB zs k || z == k) := by
  unfold inB
  simp only [List.contains_eq_any_beq, List.any_append, List.any_cons, List.any_nil, Bool.or_false]
  congr 1
  rw [Bool.eq_iff_iff]; simp; exact eq_comm
theorem inB_take (zs : List Int) (k : Int) (j : Nat) (h : inB (zs.take j) k = true) : inB zs k = true := by
  unfold inB at *
  rw [List.contains_iff_mem] at *
  exact List.mem_of_mem_take h
-- among: does k stand among the numbers?
set_option maxHeartbeats 400000 in
theorem among_any (b len cap : Nat) (zs : List Int) (k : Int) (w : World) (hz : zs.length = len) (hlen : len ≤ 1000) (_hcap : len ≤ cap)
    (hc : ∀ j, j < zs.length → w.cell? ⟨b, j, none⟩ = some (.int .i64 (zs.getD j 0))) :
    Calls Tryz.prog 38 #[.slice (some ⟨b, 0, none⟩) len cap, .int .i64 k] w fun e w' => e = .returned (.bool (inB zs k)) ∧ w' = w := by
  go_enter Tryz.func38, Tryz.ntmps38
  go_wp2
  go_loop [5] (fun i => ∃ j : Nat, j ≤ len ∧ i = .int .i64 j ∧ inB (zs.take j) k = false) (fun i => len - (intOf i).toNat)
  case atStart => exact ⟨0, Nat.zero_le _, rfl, rfl⟩
  case round =>
    obtain ⟨j, hj, rfl, hno⟩ := hrel
    have HN : Hid (inB (zs.take j) k = false) := hno
    clear hno
    by_cases hlt : j < len
    · have hcj := hc j (by omega)
      have hs : zs.take (j + 1) = zs.take j ++ [zs.getD j 0] := by
        rw [List.take_succ_eq_append_getElem (by omega)]; simp [List.getD, show j < zs.length by omega]
      have HS : Hid (inB (zs.take (j + 1)) k = (inB (zs.take j) k || zs.getD j 0 == k)) := by rw [hs]; exact inB_snoc _ _ _
      clear hs hc
      generalize zs.getD j 0 = z at *
      by_cases he : z = k
      · have hb : (z == k) = true := by simpa using he
        have HB : Hid ((z == k) = true) := hb
        clear _hcap
        subst he
        go_wp2
        go_ret
        exact ⟨ret_bool (inB_take zs z (j + 1) (by rw [HS.out, HB.out]; simp)).symm, rfl⟩
      · have hb : (z == k) = false := by simpa using he
        have HB : Hid ((z == k) = false) := hb
        go_wp2
        go_round
        case rel => exact ⟨j + 1, by omega, by go_num, by rw [HS.out, HN.out, HB.out]; rfl⟩
        case measure => simp [intOf]; omega
    · have HT : Hid (zs.take j = zs) := List.take_of_length_le (by omega)
      go_wp2
      go_ret
      exact ⟨ret_bool (by rw [← HT.out]; exact HN.out.symm), rfl⟩

end Go.Proofs.YthbmmbgkchiajaaGreat

/- What a disk holds, in plain words: the sectors that are durable, the writes behind them, how often Sync was called; and how the program's and the document's disks lie in memory. -/
namespace Go.Proofs.YthbmmbgkchiajaaGreat
set_option linter.unusedSimpArgs false
set_option linter.unusedVariables false
open Go.RowKit

structure DM where
  dur : List ByteArray
  puts : List (Nat × ByteArray)
  syncs : Nat

structure DM.ok (m : DM) : Prop where
  len : 1 ≤ m.dur.length ∧ m.dur.length ≤ 128
  dur : ∀ s ∈ m.dur, s.size = 64
  puts : ∀ x ∈ m.puts, x.1 < m.dur.length ∧ x.2.size = 64

def bcells (s : ByteArray) : List Value := s.data.toList.map fun b => Value.int .u8 (b.toNat : Int)
def durCells (l : List ByteArray) : List Value := l.flatMap bcells
def putCell (x : Nat × ByteArray) : List Value := Value.int .i64 (x.1 : Int) :: bcells x.2
def putCells (l : List (Nat × ByteArray)) : List Value := l.flatMap putCell
def rdurCells (l : List ByteArray) : List Value := l.map Value.string
def rputCell (x : Nat × ByteArray) : List Value := [.int .i64 (x.1 : Int), .string x.2]
def rputCells (l : List (Nat × ByteArray)) : List Value := l.flatMap rputCell

theorem bcells_length (s : ByteArray) : (bcells s).length = s.size := by simp [bcells]
theorem bcells_one (s : ByteArray) : ∀ u ∈ bcells s, u.oneCell' = true := by
  intro u hu
  simp only [bcells, List.mem_map] at hu
  obtain ⟨b, _, rfl⟩ := hu
  rfl
theorem putCell_one (x : Nat × ByteArray) : ∀ u ∈ putCell x, u.oneCell' = true := by
  intro u hu
  rcases List.mem_cons.1 hu with rfl | h
  · rfl
  · exact bcells_one _ u h
theorem putCell_length (x : Nat × ByteArray) (h : x.2.size = 64) : (putCell x).length = 65 := by simp [putCell, bcells_length, h]

/-- A struct of two slices and a number: it lies in block p, its rows in S. -/
def Two (S : Nat → Prop) (w : World) (p t e1 s1 e2 s2 n1 : Nat) (xs1 : List Value) (n2 : Nat) (xs2 : List Value) (y : Nat) : Prop :=
  ∃ vd vp, w.heap[p]? = some (.cells #[vd, vp, .int .i64 (y : Int)] t (0, 0)) ∧ S p ∧
    Own (fun k => S k ∧ k ≠ p) w e1 s1 vd n1 xs1 ∧
    Own (fun k => S k ∧ k ≠ p ∧ vd.ownBlock ≠ some k) w e2 s2 vp n2 xs2

theorem Two.keep {S T : Nat → Prop} {w w' : World} {p t e1 s1 e2 s2 n1 : Nat} {xs1 : List Value} {n2 : Nat} {xs2 : List Value} {y : Nat} (h : Two S w p t e1 s1 e2 s2 n1 xs1 n2 xs2 y) (hk : Keeps T w w') (hd : ∀ k, k < w.heap.size → S k → ¬ T k) : Two S w' p t e1 s1 e2 s2 n1 xs1 n2 xs2 y := by
  obtain ⟨vd, vp, h1, h2, h3, h4⟩ := h
  exact ⟨vd, vp, hk.heap h1 (hd p (lt_of_heap h1) h2), h2, h3.keep hk (fun k l s => hd k l s.1), h4.keep hk (fun k l s => hd k l s.1)⟩
theorem Two.mono {S T : Nat → Prop} {w : World} {p t e1 s1 e2 s2 n1 : Nat} {xs1 : List Value} {n2 : Nat} {xs2 : List Value} {y : Nat} (h : Two S w p t e1 s1 e2 s2 n1 xs1 n2 xs2 y) (hs : ∀ k, k < w.heap.size → S k → T k) : Two T w p t e1 s1 e2 s2 n1 xs1 n2 xs2 y := by
  obtain ⟨vd, vp, h1, h2, h3, h4⟩ := h
  exact ⟨vd, vp, h1, hs p (lt_of_heap h1) h2, h3.mono (fun k l s => ⟨hs k l s.1, s.2⟩), h4.mono (fun k l s => ⟨hs k l s.1, s.2⟩)⟩

theorem Own.self {S : Nat → Prop} {w : World} {e size n : Nat} {v : Value} {xs : List Value} (h : Own S w e size v n xs) : Own (fun k => S k ∧ v.ownBlock = some k) w e size v n xs := ⟨h.1, fun k e => ⟨h.2 k e, e⟩⟩
theorem Own.lt {S : Nat → Prop} {w : World} {e size n : Nat} {v : Value} {xs : List Value} (h : Own S w e size v n xs) {k : Nat} (hk : v.ownBlock = some k) : k < w.heap.size := (h.1.lt k hk).2

/-- The second slice appended to, and stored. -/
theorem Two.append {S : Nat → Prop} {w w1 : World} {p t e1 s1 e2 s2 n1 : Nat} {xs1 : List Value} {n2 : Nat} {xs2 : List Value} {y n' cap gg H : Nat} {ys : List Value} {vd vp : Value}
    (hb : w.heap[p]? = some (.cells #[vd, vp, .int .i64 (y : Int)] t (0, 0))) (hS : S p) (hd : Own (fun k => S k ∧ k ≠ p) w e1 s1 vd n1 xs1) (hp : Own (fun k => S k ∧ k ≠ p ∧ vd.ownBlock ≠ some k) w e2 s2 vp n2 xs2)
    (hk : Keeps (fun k => vp.ownBlock = some k) w w1) (hown1 : w1.ownsRow 0 e2 s2 (.slice (some ⟨gg, 0, none⟩) n' cap) n' ys) (hat : vp.ownBlock = some gg ∨ gg = H) (hH : w.heap.size ≤ H) :
    Two (fun k => S k ∨ w.heap.size ≤ k) (w1.setCell ⟨p, 1, none⟩ (.slice (some ⟨gg, 0, none⟩) n' cap)) p t e1 s1 e2 s2 n1 xs1 n' ys y ∧ Keeps S w (w1.setCell ⟨p, 1, none⟩ (.slice (some ⟨gg, 0, none⟩) n' cap)) := by
  obtain ⟨f1, f2, f3⟩ := Own.field (f := 1) hb hp (fun h => h.2.1 rfl) hk hown1 hat hH
  have hlt := lt_of_heap hb
  refine ⟨⟨vd, .slice (some ⟨gg, 0, none⟩) n' cap, f1, .inl hS, ?_, ?_⟩, ?_⟩
  · refine (hd.self.keep f3 (fun k _ h h' => ?_)).mono (fun k _ h => ⟨.inl h.1.1, h.1.2⟩)
    rcases h' with h' | h'
    · exact h.1.2 h'
    · exact h'.2.2 h.2
  · refine f2.mono (fun k _ h => ?_)
    rcases h with h | h
    · exact ⟨.inl h.1, h.2⟩
    · exact ⟨.inr h, by omega, fun e => by have := hd.lt e; omega⟩
  · refine f3.mono (fun k _ h => ?_)
    rcases h with h | h
    · subst h; exact hS
    · exact h.1

/-- The program's disk: its struct lies in block p, its rows in S. -/
def PDisk (S : Nat → Prop) (w : World) (p : Nat) (m : DM) : Prop := Two S w p 232 305 64 307 65 m.dur.length (durCells m.dur) m.puts.length (putCells m.puts) m.syncs
/-- The document's disk. -/
def RDisk (S : Nat → Prop) (w : World) (p : Nat) (m : DM) : Prop := Two S w p 236 9 1 315 2 m.dur.length (rdurCells m.dur) m.puts.length (rputCells m.puts) m.syncs

theorem flat_get {α : Type} (f : α → List Value) (c : Nat) : ∀ (l : List α) (k j : Nat) (x : α), (∀ y ∈ l, (f y).length = c) → l[k]? = some x → j < c → (l.flatMap f)[k * c + j]? = (f x)[j]?
  | [], k, j, x, _, h, _ => by simp at h
  | a :: l, 0, j, x, hc, h, hj => by
    simp at h; subst h
    rw [List.flatMap_cons, Nat.zero_mul, Nat.zero_add, List.getElem?_append_left (by rw [hc a (by simp)]; exact hj)]
  | a :: l, k + 1, j, x, hc, h, hj => by
    rw [List.flatMap_cons, List.getElem?_append_right (by rw [hc a (by simp), Nat.add_mul]; omega), hc a (by simp)]
    have e : (k + 1) * c + j - c = k * c + j := by rw [Nat.add_mul]; omega
    rw [e]
    exact flat_get f c l k j x (fun y hy => hc y (by simp [hy])) (by simpa using h) hj

theorem flat_len {α : Type} (f : α → List Value) (c : Nat) (l : List α) (h : ∀ y ∈ l, (f y).length = c) : (l.flatMap f).length = l.length * c := by
  induction l with
  | nil => simp
  | cons a l ih => rw [List.flatMap_cons, List.length_append, ih (fun y hy => h y (by simp [hy])), h a (by simp), List.length_cons, Nat.add_mul]; omega

/-- What a slice that is not empty looks like; its cells. -/
theorem Own.open {S : Nat → Prop} {w : World} {e size n : Nat} {v : Value} {xs : List Value} (h : Own S w e size v n xs) (hn : 0 < n) :
    ∃ g cap, v = .slice (some ⟨g, 0, none⟩) n cap ∧ n ≤ cap ∧ S g ∧ g < w.heap.size ∧ (∀ j u, xs[j]? = some u → w.cell? ⟨g, j, none⟩ = some u) ∧ (∀ j, w.frozen? ⟨g, j, none⟩ = false) := by
  obtain ⟨⟨hl, hv⟩, hS⟩ := h
  rcases hv with ⟨_, h0⟩ | ⟨g, cap, cur, rfl, _, hg, hc, _, hsz, ht⟩
  · omega
  · refine ⟨g, cap, rfl, hc, hS g rfl, lt_of_heap hg, ?_, fun j => frozen_of_heap hg⟩
    intro j u hj
    rw [cell_of_heap hg]
    rw [← ht, List.getElem?_take] at hj
    split at hj
    · simpa using hj
    · cases hj

/-- The last write to sector i, or s. -/
def lastPut (l : List (Nat × ByteArray)) (i : Nat) (s : ByteArray) : ByteArray := l.foldl (fun s x => if x.1 = i then x.2 else s) s
theorem lastPut_snoc (l : List (Nat × ByteArray)) (x : Nat × ByteArray) (i : Nat) (s : ByteArray) : lastPut (l ++ [x]) i s = if x.1 = i then x.2 else lastPut l i s := by simp [lastPut]
def DM.read (m : DM) (i : Nat) : ByteArray := lastPut m.puts i (m.dur.getD i ByteArray.empty)

end Go.Proofs.YthbmmbgkchiajaaGreat

/- New, of the program and of the document. -/
namespace Go.Proofs.YthbmmbgkchiajaaGreat
set_option linter.unusedSimpArgs false
set_option linter.unusedVariables false
open Go.RowKit

/-- 64 zero bytes. -/
def zero64 : ByteArray := ⟨(List.replicate 64 (0 : UInt8)).toArray⟩
theorem zero64_size : zero64.size = 64 := by decide
theorem zero64_cells : bcells zero64 = List.replicate 64 (Value.int .u8 0) := by
  unfold bcells zero64; simp

def freshDM (n : Nat) : DM := ⟨List.replicate n zero64, [], 0⟩
theorem freshDM_ok (n : Nat) (h0 : 1 ≤ n) (h1 : n ≤ 128) : (freshDM n).ok := by
  refine ⟨by simp [freshDM]; omega, ?_, by simp [freshDM]⟩
  intro s hs
  simp [freshDM] at hs
  rw [hs.2]; exact zero64_size

theorem durCells_fresh (n : Nat) : durCells (List.replicate n zero64) = List.replicate (n * 64) (Value.int .u8 0) := by
  induction n with
  | zero => rfl
  | succ n ih =>
    rw [List.replicate_succ, durCells, List.flatMap_cons]
    show bcells zero64 ++ durCells (List.replicate n zero64) = _
    rw [ih, zero64_cells, List.replicate_append_replicate]
    congr 1; omega

theorem made_same (v : Value) (k n : Nat) (hk : 0 < k) : (madeCells (Array.replicate k v) n).toList = List.replicate n v := by
  apply List.ext_getElem
  · simp [madeCells]
  · intro i h1 h2
    have : i % k < k := Nat.mod_lt _ hk
    simp [madeCells, this]

set_option maxRecDepth 100000 in
set_option maxHeartbeats 400000 in
theorem dNew_no (n : Int) (w : World) (h : n < 1 ∨ 128 < n) :
    Calls Tryz.prog 119 #[.int .i64 n] w fun e w' => e = .returned (.tuple #[.pointer none, .int .i64 1]) ∧ w' = w := by
  by_cases h1 : n < 1
  · have h0 : decide (n < 1) = true := by simp; omega
    clear h
    go_enter Tryz.func119, Tryz.ntmps119
    go_wp2
    go_ret2
    exact ⟨rfl, rfl⟩
  · have h0 : decide (n < 1) = false := by simp; omega
    have h2 : decide ((128 : Int) < n) = true := by simp; omega
    clear h
    go_enter Tryz.func119, Tryz.ntmps119
    go_wp2
    go_ret2
    exact ⟨rfl, rfl⟩

theorem infoSector : (Tryz.prog.info? 305).map (fun i => (i.zero, i.size, i.bytes)) = some (some (.agg (Array.replicate 64 (.int .u8 0))), 64, 64) := by kernel_rfl

set_option maxRecDepth 100000 in
set_option maxHeartbeats 400000 in
theorem dNew_yes (n : Nat) (w : World) (h0 : 1 ≤ n) (h1 : n ≤ 128) :
    Calls Tryz.prog 119 #[.int .i64 n] w fun e w' => ∃ p, e = .returned (.tuple #[.pointer (some ⟨p, 0, none⟩), .int .i64 0]) ∧ PDisk (fun k => w.heap.size ≤ k) w' p (freshDM n) ∧ Keeps (fun _ => False) w w' := by
  have g0 : decide ((n : Int) < 1) = false := by simp; omega
  have g1 : decide ((128 : Int) < (n : Int)) = false := by simp; omega
  obtain ⟨i0, hi, hz0, hz1, hz2⟩ := info_parts infoSector
  go_enter Tryz.func119, Tryz.ntmps119
  go_wp2_with (at_make; go_must (refine wpList_make_full _ rfl (.tmp 10) (.tmp 10) 229 rfl 0 305 i0 (.agg (Array.replicate 64 (.int .u8 0))) 64 Tryz.underlying229 hi hz0 hz1 .i64 .i64 _ _ n rfl rfl (by rfl) (by rfl) (by rw [hz2]; omega) (by unfold maxLen; omega) (Nat.zero_le _) ?_; intro w1 hown hg))
  go_ret2
  have hk : Keeps (fun _ => False) w w1 := (Keeps.refl _ _).grown hg (fun k h => by cases h)
  have hlt : w.heap.size < w1.heap.size := (hown.lt w.heap.size rfl).2
  refine ⟨w1.heap.size, rfl, ⟨.slice (some ⟨w.heap.size, 0, none⟩) n n, .slice none 0 0, ?_, ?_, ?_, Own.nil _ _ _ _⟩, hk.alloc _⟩
  · exact heap_alloc_last w1 _
  · show w.heap.size ≤ w1.heap.size; omega
  · refine Own.keep (T := fun _ => False) ⟨?_, ?_⟩ ((Keeps.refl _ w1).alloc _) (fun _ _ _ h => h)
    · have e1 : (freshDM n).dur.length = n := by simp [freshDM]
      have e2 : durCells (freshDM n).dur = (madeCells (Array.replicate 64 (.int .u8 0)) (n * 64)).toList := by
        rw [made_same _ _ _ (by omega)]; exact durCells_fresh n
      rw [e1, e2]; exact hown
    · intro k hk
      simp [Value.ownBlock] at hk
      exact ⟨by omega, by omega⟩

end Go.Proofs.YthbmmbgkchiajaaGreat

/- New, of the document. -/
namespace Go.Proofs.YthbmmbgkchiajaaGreat
set_option linter.unusedSimpArgs false
set_option linter.unusedVariables false
open Go.RowKit

attribute [local go_sem ↓] Go.wp_at_zero Go.wp_at_succ

set_option maxRecDepth 100000 in
set_option maxHeartbeats 400000 in
theorem rNew_no (n : Int) (w : World) (h : n < 1 ∨ 128 < n) :
    Calls Tryz.prog 120 #[.int .i64 n] w fun e w' => e = .returned (.tuple #[.pointer none, .int .i64 1]) ∧ w' = w := by
  by_cases h1 : n < 1
  · have h0 : decide (n < 1) = true := by simp; omega
    clear h
    go_enter Tryz.func120, Tryz.ntmps120
    go_wp2
    go_ret2
    exact ⟨rfl, rfl⟩
  · have h0 : decide (n < 1) = false := by simp; omega
    have h2 : decide ((128 : Int) < n) = true := by simp; omega
    clear h
    go_enter Tryz.func120, Tryz.ntmps120
    go_wp2
    go_ret2
    exact ⟨rfl, rfl⟩

theorem infoString : (Tryz.prog.info? 9).map (fun i => (i.zero, i.size, i.bytes)) = some (some (.string ByteArray.empty), 1, 16) := by kernel_rfl

/-- 64 zero cells. -/
def zrow : Array Value := Array.replicate 64 (.int .u8 0)
theorem infoU8 : (Tryz.prog.info? 5).map (fun i => (i.zero, i.size, i.bytes)) = some (some (.int .u8 0), 1, 1) := by kernel_rfl
theorem run_make64 (W : World) : (Instr.makeSlice 138 (.int .i64 64) (.int .i64 64)).run Tryz.prog W = .ok (.slice (some ⟨W.heap.size, 0, none⟩) 64 64) (W.alloc (.cells zrow 5)) := by
  obtain ⟨i0, hi, hz0, hz1, hz2⟩ := info_parts infoU8
  have := run_make (P := Tryz.prog) W 138 5 i0 _ Tryz.underlying138 hi hz0 .i64 .i64 64 64 (by omega) (by omega) (by rw [hz2]; omega) (by omega)
  rw [this, hz1]
  have e : madeCells (Value.int .u8 0).cells (Int.toNat 64 * 1) = zrow := by
    apply Array.toList_inj.1
    show (madeCells (Array.replicate 1 (Value.int .u8 0)) 64).toList = _
    rw [made_same _ 1 _ (by omega)]; simp [zrow]
  rw [e]; rfl
theorem run_string64 (W : World) : (convert 138 9 (.slice (some ⟨W.heap.size, 0, none⟩) 64 64)).run Tryz.prog (W.alloc (.cells zrow 5)).drew = .ok (.string zero64) (W.alloc (.cells zrow 5)).drew := by
  have hl : ∀ j, j < 64 → ∀ (h : j < (List.replicate 64 (0 : UInt8)).length), ((List.replicate 64 (0 : UInt8))[j]'h) = 0 := fun j _ h => List.getElem_replicate _
  have := run_convert_bytes_back (P := Tryz.prog) (W.alloc (.cells zrow 5)).drew 138 9 5 ⟨W.heap.size, 0, none⟩ 64 (List.replicate 64 0) Tryz.underlying138 Tryz.underlying5 Tryz.underlying9 (fun j hj => by
    have hadd : (⟨W.heap.size, 0, none⟩ : Addr).add j = ⟨W.heap.size, j, none⟩ := by unfold Addr.add; split <;> simp_all
    have h64 : j < 64 := by rw [List.length_replicate] at hj; exact hj
    rw [hadd, hl j h64 hj]
    show (W.alloc (.cells zrow 5)).cell? _ = _
    rw [cell_of_heap (heap_alloc_last W _)]
    unfold zrow
    rw [Array.getElem?_replicate, if_pos h64]; rfl)
  rw [List.length_replicate] at this
  exact this

def RNewRel (w : World) (p _n : Nat) (wr : World) (j : Nat) : Prop :=
  ∃ vl, wr.heap[p]? = some (.cells #[vl, .slice none 0 0, .int .i64 0] 236 (0, 0)) ∧ Own (fun k => w.heap.size ≤ k ∧ k ≠ p) wr 9 1 vl j (List.replicate j (.string zero64)) ∧ Keeps (fun _ => False) w wr

theorem rnew_step {w wr w1 : World} {n j gg cap : Nat} {vl : Value} (hb : wr.heap[w.heap.size]? = some (.cells #[vl, .slice none 0 0, .int .i64 0] 236 (0, 0)))
    (hown : Own (fun k => w.heap.size ≤ k ∧ k ≠ w.heap.size) wr 9 1 vl j (List.replicate j (.string zero64))) (hk : Keeps (fun _ => False) w wr) (hk1 : Keeps (fun k => vl.ownBlock = some k) wr w1)
    (hown1 : w1.ownsRow 0 9 1 (.slice (some ⟨gg, 0, none⟩) (j + 1) cap) (j + 1) (List.replicate j (.string zero64) ++ [.string zero64])) (hat : vl.ownBlock = some gg ∨ gg = wr.heap.size + 2) :
    RNewRel w w.heap.size n (w1.setCell ⟨w.heap.size, 0, none⟩ (.slice (some ⟨gg, 0, none⟩) (j + 1) cap)) (j + 1) := by
  obtain ⟨f1, f2, f3⟩ := Own.field (f := 0) hb hown (fun h => h.2 rfl) hk1 hown1 hat (by omega)
  refine ⟨_, by simpa using f1, ?_, ?_⟩
  · rw [List.replicate_succ']
    refine f2.mono (fun k _ h => ?_)
    have := lt_of_heap hb
    rcases h with h | h
    · exact h
    · exact ⟨by omega, by omega⟩
  · refine hk.trans f3 (fun i hi h => ?_)
    rcases h with h | h
    · omega
    · exact absurd h.1 (by omega)

set_option maxRecDepth 100000 in
set_option maxHeartbeats 800000 in
theorem rNew_yes (n : Nat) (w : World) (h0 : 1 ≤ n) (h1 : n ≤ 128) :
    Calls Tryz.prog 120 #[.int .i64 n] w fun e w' => ∃ p, e = .returned (.tuple #[.pointer (some ⟨p, 0, none⟩), .int .i64 0]) ∧ RDisk (fun k => w.heap.size ≤ k) w' p (freshDM n) ∧ Keeps (fun _ => False) w w' := by
  have g0 : decide ((n : Int) < 1) = false := by simp; omega
  have g1 : decide ((128 : Int) < (n : Int)) = false := by simp; omega
  obtain ⟨i0, hi, hz0, hz1, hz2⟩ := info_parts infoString
  go_enter Tryz.func120, Tryz.ntmps120
  go_wp2
  go_loopw [5] (fun i wr => ∃ j : Nat, j ≤ n ∧ i = .int .i64 j ∧ RNewRel w w.heap.size n wr j) (fun i _ => n - (intOf i).toNat)
  case atStart => exact ⟨0, Nat.zero_le _, rfl, .slice none 0 0, heap_alloc_last w _, Own.nil _ _ _ _, (Keeps.refl _ _).alloc _⟩
  case round =>
    obtain ⟨j, hj, rfl, hR⟩ := hrel
    by_cases hlt : j < n
    · obtain ⟨vl, hb, hown, hk⟩ := hR
      have hc := cell_of_heap (o := 0) hb
      have hf := frozen_of_heap (o := 0) hb
      simp at hc
      have hplt : w.heap.size < wr.heap.size := lt_of_heap hb
      go_wp2_with fail
      have hmk := run_make64
      have hcv := run_string64
      have hpn : ¬ vl.ownBlock = some w.heap.size := fun e => (hown.2 _ e).2 rfl
      go_region_law ((refine step_append_lies _ (by rfl) _ _ _ (by rfl) 0 9 i0 _ 1 16 Tryz.underlying233 hi hz0 hz1 hz2 rfl (by omega) vl j (List.replicate j (.string zero64)) (by rfl) (((hown.1.alloc _).alloc _).drew) ⟨wr.heap.size + 1, 0, none⟩ 1 1 [.string zero64] (by rfl) (by rfl) (World.news_of_block (cs := #[.string zero64]) (t := 9) (fr := (0, 0)) (by exact heap_two wr _ _)) (by simp [Value.oneCell']) (by omega) (by unfold maxLen; omega) (by omega) (Nat.zero_le _) (wr.heap.size + 2) (by simp) ?_; intro gg cap w1 hown1 hgrow hat hlt1; have hk1 := keeps_grown (((Keeps.refl _ wr).alloc _).alloc _).drew hgrow; have hb1 := hk1.heap hb hpn; have hc1 := cell_of_heap (o := 0) hb1; have hf1 := frozen_of_heap (o := 0) hb1; simp at hc1))
      all_goals
        go_wp2
        go_roundw
        case rel => exact ⟨j + 1, by omega, by go_num, rnew_step hb hown hk hk1 hown1 hat⟩
        case measure => simp [intOf]; omega
    · go_wp2
      go_ret2
      obtain ⟨vl, hb, hown, hk⟩ := hR
      have hjn : j = n := by omega
      subst hjn
      refine ⟨w.heap.size, rfl, ⟨vl, .slice none 0 0, hb, Nat.le_refl _, ?_, Own.nil _ _ _ _⟩, hk⟩
      have e1 : (freshDM j).dur.length = j := by simp [freshDM]
      have e2 : rdurCells (freshDM j).dur = List.replicate j (.string zero64) := by simp [freshDM, rdurCells]
      rw [e1, e2]; exact hown

end Go.Proofs.YthbmmbgkchiajaaGreat

/- Write, of the document. -/
namespace Go.Proofs.YthbmmbgkchiajaaGreat
set_option linter.unusedSimpArgs false
set_option linter.unusedVariables false
open Go.RowKit

def DM.put (m : DM) (i : Nat) (s : ByteArray) : DM := ⟨m.dur, m.puts ++ [(i, s)], m.syncs⟩
theorem DM.put_ok {m : DM} (h : m.ok) {i : Nat} {s : ByteArray} (hi : i < m.dur.length) (hs : s.size = 64) : (m.put i s).ok := by
  refine ⟨h.len, h.dur, ?_⟩
  intro x hx
  simp only [DM.put, List.mem_append, List.mem_singleton] at hx
  rcases hx with hx | rfl
  · exact h.puts x hx
  · exact ⟨hi, hs⟩

theorem Own.len {S : Nat → Prop} {w : World} {e size n : Nat} {v : Value} {xs : List Value} (h : Own S w e size v n xs) : ∃ ao cap, v = .slice ao n cap ∧ n ≤ cap := by
  rcases h.1.2 with ⟨rfl, rfl⟩ | ⟨g, cap, cur, rfl, _, _, hc, _⟩
  · exact ⟨none, 0, rfl, Nat.le_refl _⟩
  · exact ⟨_, cap, rfl, hc⟩

theorem infoPut : (Tryz.prog.info? 315).map (fun i => (i.zero, i.size, i.bytes)) = some (some (.agg #[.int .i64 0, .string ByteArray.empty]), 2, 24) := by kernel_rfl

set_option maxRecDepth 100000 in
set_option maxHeartbeats 400000 in
theorem rWrite_no (S : Nat → Prop) (p : Nat) (m : DM) (i : Int) (s : ByteArray) (w : World) (hD : RDisk S w p m) (hm : m.ok) (h : i < 0 ∨ (m.dur.length : Int) ≤ i ∨ s.size ≠ 64) (_hs : s.size ≤ 9223372036854775807) :
    Calls Tryz.prog 191 #[.pointer (some ⟨p, 0, none⟩), .int .i64 i, .string s] w fun e w' => e = .returned (.int .i64 1) ∧ w' = w := by
  obtain ⟨vd, vp, hb, hS, hd, hp⟩ := hD
  obtain ⟨ao, cap, rfl, hcap⟩ := hd.len
  have hc := cell_of_heap (o := 0) hb
  simp at hc
  have hn := hm.len.2
  clear hd hp hm hb
  generalize m.dur.length = n at *
  by_cases h1 : i < 0
  · have h0 : decide (i < 0) = true := by simp; omega
    clear h
    go_enter Tryz.func191, Tryz.ntmps191
    go_wp2
    go_ret
    exact ⟨rfl, rfl⟩
  · have h0 : decide (i < 0) = false := by simp; omega
    by_cases h2 : (n : Int) ≤ i
    · have h3 : decide ((n : Int) ≤ i) = true := by simp; omega
      clear h
      go_enter Tryz.func191, Tryz.ntmps191
      go_wp2
      go_ret
      exact ⟨rfl, rfl⟩
    · have h3 : decide ((n : Int) ≤ i) = false := by simp; omega
      have h4 : ((s.size : Int) != 64) = true := by rw [bne_iff_ne]; omega
      clear h
      go_enter Tryz.func191, Tryz.ntmps191
      go_wp2
      go_ret
      exact ⟨rfl, rfl⟩

set_option maxRecDepth 100000 in
set_option maxHeartbeats 400000 in
theorem rWrite_yes (S : Nat → Prop) (p : Nat) (m : DM) (i : Nat) (s : ByteArray) (w : World) (hD : RDisk S w p m) (hm : m.ok) (hi : i < m.dur.length) (hs : s.size = 64) (hN : (m.puts.length + 1) * 72 ≤ 140737488355328) :
    Calls Tryz.prog 191 #[.pointer (some ⟨p, 0, none⟩), .int .i64 i, .string s] w fun e w' => e = .returned (.int .i64 0) ∧ RDisk (fun k => S k ∨ w.heap.size ≤ k) w' p (m.put i s) ∧ Keeps S w w' := by
  obtain ⟨vd, vp, hb, hS, hd, hp⟩ := hD
  have hd0 := hd
  obtain ⟨ao, cap, rfl, hcap⟩ := hd.len
  have hc := cell_of_heap (o := 0) hb
  have hc1 := cell_of_heap (o := 1) hb
  simp at hc hc1
  have hn := hm.len.2
  have h0 : decide ((i : Int) < 0) = false := by simp
  have h3 : decide ((m.dur.length : Int) ≤ (i : Int)) = false := by simp; omega
  have h4 : ((s.size : Int) != 64) = false := by rw [hs]; rfl
  have HS : Hid (s.size = 64) := hs
  clear hs
  obtain ⟨i0, hi0, hz0, hz1, hz2⟩ := info_parts infoPut
  have hpn : ¬ vp.ownBlock = some p := fun e => (hp.2 _ e).2.1 rfl
  go_enter Tryz.func191, Tryz.ntmps191
  go_wp2_with (at_builtin; go_must (refine wpList_append_lies _ rfl (.tmp 27) (.tmp 31) _ rfl 0 315 i0 _ 2 24 Tryz.underlying234 hi0 hz0 hz1 hz2 rfl (by omega) vp m.puts.length (rputCells m.puts) (by rfl) (hp.1.alloc _) ⟨w.heap.size, 0, none⟩ 1 1 [.int .i64 i, .string s] (by rfl) (by rfl) (World.news_of_block (cs := #[.int .i64 i, .string s]) (t := 315) (fr := (0, 0)) (by exact heap_alloc_new w _)) (by simp [Value.oneCell']) (by omega) (by unfold maxLen; omega) (by omega) (Nat.zero_le _) (w.heap.size + 1) (by simp) ?_; intro gg cap' w1 hown1 hgrow hat hlt1; have hk1 := keeps_grown ((Keeps.refl _ w).alloc _) hgrow; have hb1 := hk1.heap hb hpn; have hc2 := cell_of_heap (o := 1) hb1; have hf2 := frozen_of_heap (o := 1) hb1; simp at hc2))
  go_ret
  obtain ⟨g1, g2⟩ := Two.append hb hS hd0 hp hk1 hown1 hat (by omega)
  refine ⟨rfl, ?_, g2⟩
  unfold RDisk DM.put rputCells
  rw [List.length_append, List.flatMap_append, List.length_singleton]
  exact g1

end Go.Proofs.YthbmmbgkchiajaaGreat
