
/- What a disk holds, in plain words: the sectors that are durable, the writes behind them, how often Sync was called; and how the program's and the document's disks lie in memory. -/
import Derived.Test.YthbmmbgkchiajaaGreatBase
namespace Go.Proofs.YthbmmbgkchiajaaGreat
open Go.RowKit

structure DM where
  dur : List ByteArray
  puts : List (Nat × ByteArray)
  syncs : Nat

structure DM.ok (m : DM) : Prop where
  len : 1 ≤ m.dur.length ∧ m.dur.length ≤ 128
  dur : ∀ s ∈ m.dur, s.size = 64
  puts : ∀ x ∈ m.puts, x.1 < m.dur.length ∧ x.2.size = 64

def bcells (s : ByteArray) : List Value := s.data.toList.map fun b => Value.int .u8 (b.toNat : Int)
def durCells (l : List ByteArray) : List Value := l.flatMap bcells
def putCell (x : Nat × ByteArray) : List Value := Value.int .i64 (x.1 : Int) :: bcells x.2
def putCells (l : List (Nat × ByteArray)) : List Value := l.flatMap putCell
def rdurCells (l : List ByteArray) : List Value := l.map Value.string
def rputCell (x : Nat × ByteArray) : List Value := [.int .i64 (x.1 : Int), .string x.2]
def rputCells (l : List (Nat × ByteArray)) : List Value := l.flatMap rputCell

theorem bcells_length (s : ByteArray) : (bcells s).length = s.size := by simp [bcells]
theorem bcells_one (s : ByteArray) : ∀ u ∈ bcells s, u.oneCell' = true := by
  intro u hu
  simp only [bcells, List.mem_map] at hu
  obtain ⟨b, _, rfl⟩ := hu
  rfl
theorem putCell_one (x : Nat × ByteArray) : ∀ u ∈ putCell x, u.oneCell' = true := by
  intro u hu
  rcases List.mem_cons.1 hu with rfl | h
  · rfl
  · exact bcells_one _ u h
theorem putCell_length (x : Nat × ByteArray) (h : x.2.size = 64) : (putCell x).length = 65 := by simp [putCell, bcells_length, h]

/-- A struct of two slices and a number: it lies in block p, its rows in S. -/
def Two (S : Nat → Prop) (w : World) (p t e1 s1 e2 s2 n1 : Nat) (xs1 : List Value) (n2 : Nat) (xs2 : List Value) (y : Nat) : Prop :=
  ∃ vd vp, w.heap[p]? = some (.cells #[vd, vp, .int .i64 (y : Int)] t (0, 0)) ∧ S p ∧
    Own (fun k => S k ∧ k ≠ p) w e1 s1 vd n1 xs1 ∧
    Own (fun k => S k ∧ k ≠ p ∧ vd.ownBlock ≠ some k) w e2 s2 vp n2 xs2

theorem Two.keep {S T : Nat → Prop} {w w' : World} {p t e1 s1 e2 s2 n1 : Nat} {xs1 : List Value} {n2 : Nat} {xs2 : List Value} {y : Nat} (h : Two S w p t e1 s1 e2 s2 n1 xs1 n2 xs2 y) (hk : Keeps T w w') (hd : ∀ k, k < w.heap.size → S k → ¬ T k) : Two S w' p t e1 s1 e2 s2 n1 xs1 n2 xs2 y := by
  obtain ⟨vd, vp, h1, h2, h3, h4⟩ := h
  exact ⟨vd, vp, hk.heap h1 (hd p (lt_of_heap h1) h2), h2, h3.keep hk (fun k l s => hd k l s.1), h4.keep hk (fun k l s => hd k l s.1)⟩
theorem Two.mono {S T : Nat → Prop} {w : World} {p t e1 s1 e2 s2 n1 : Nat} {xs1 : List Value} {n2 : Nat} {xs2 : List Value} {y : Nat} (h : Two S w p t e1 s1 e2 s2 n1 xs1 n2 xs2 y) (hs : ∀ k, k < w.heap.size → S k → T k) : Two T w p t e1 s1 e2 s2 n1 xs1 n2 xs2 y := by
  obtain ⟨vd, vp, h1, h2, h3, h4⟩ := h
  exact ⟨vd, vp, h1, hs p (lt_of_heap h1) h2, h3.mono (fun k l s => ⟨hs k l s.1, s.2⟩), h4.mono (fun k l s => ⟨hs k l s.1, s.2⟩)⟩

theorem Own.self {S : Nat → Prop} {w : World} {e size n : Nat} {v : Value} {xs : List Value} (h : Own S w e size v n xs) : Own (fun k => S k ∧ v.ownBlock = some k) w e size v n xs := ⟨h.1, fun k e => ⟨h.2 k e, e⟩⟩
theorem Own.lt {S : Nat → Prop} {w : World} {e size n : Nat} {v : Value} {xs : List Value} (h : Own S w e size v n xs) {k : Nat} (hk : v.ownBlock = some k) : k < w.heap.size := (h.1.lt k hk).2

/-- The second slice appended to, and stored. -/
theorem Two.append {S : Nat → Prop} {w w1 : World} {p t e1 s1 e2 s2 n1 : Nat} {xs1 : List Value} {n2 : Nat} {xs2 : List Value} {y n' cap gg H : Nat} {ys : List Value} {vd vp : Value}
    (hb : w.heap[p]? = some (.cells #[vd, vp, .int .i64 (y : Int)] t (0, 0))) (hS : S p) (hd : Own (fun k => S k ∧ k ≠ p) w e1 s1 vd n1 xs1) (hp : Own (fun k => S k ∧ k ≠ p ∧ vd.ownBlock ≠ some k) w e2 s2 vp n2 xs2)
    (hk : Keeps (fun k => vp.ownBlock = some k) w w1) (hown1 : w1.ownsRow 0 e2 s2 (.slice (some ⟨gg, 0, none⟩) n' cap) n' ys) (hat : vp.ownBlock = some gg ∨ gg = H) (hH : w.heap.size ≤ H) :
    Two (fun k => S k ∨ w.heap.size ≤ k) (w1.setCell ⟨p, 1, none⟩ (.slice (some ⟨gg, 0, none⟩) n' cap)) p t e1 s1 e2 s2 n1 xs1 n' ys y ∧ Keeps S w (w1.setCell ⟨p, 1, none⟩ (.slice (some ⟨gg, 0, none⟩) n' cap)) := by
  obtain ⟨f1, f2, f3⟩ := Own.field (f := 1) hb hp (fun h => h.2.1 rfl) hk hown1 hat hH
  have hlt := lt_of_heap hb
  refine ⟨⟨vd, .slice (some ⟨gg, 0, none⟩) n' cap, f1, .inl hS, ?_, ?_⟩, ?_⟩
  · refine (hd.self.keep f3 (fun k _ h h' => ?_)).mono (fun k _ h => ⟨.inl h.1.1, h.1.2⟩)
    rcases h' with h' | h'
    · exact h.1.2 h'
    · exact h'.2.2 h.2
  · refine f2.mono (fun k _ h => ?_)
    rcases h with h | h
    · exact ⟨.inl h.1, h.2⟩
    · exact ⟨.inr h, by omega, fun e => by have := hd.lt e; omega⟩
  · refine f3.mono (fun k _ h => ?_)
    rcases h with h | h
    · subst h; exact hS
    · exact h.1

/-- The program's disk: its struct lies in block p, its rows in S. -/
def PDisk (S : Nat → Prop) (w : World) (p : Nat) (m : DM) : Prop := Two S w p 232 305 64 307 65 m.dur.length (durCells m.dur) m.puts.length (putCells m.puts) m.syncs
/-- The document's disk. -/
def RDisk (S : Nat → Prop) (w : World) (p : Nat) (m : DM) : Prop := Two S w p 236 9 1 315 2 m.dur.length (rdurCells m.dur) m.puts.length (rputCells m.puts) m.syncs

theorem flat_get {α : Type} (f : α → List Value) (c : Nat) : ∀ (l : List α) (k j : Nat) (x : α), (∀ y ∈ l, (f y).length = c) → l[k]? = some x → j < c → (l.flatMap f)[k * c + j]? = (f x)[j]?
  | [], k, j, x, _, h, _ => by simp at h
  | a :: l, 0, j, x, hc, h, hj => by
    simp at h; subst h
    rw [List.flatMap_cons, Nat.zero_mul, Nat.zero_add, List.getElem?_append_left (by rw [hc a (by simp)]; exact hj)]
  | a :: l, k + 1, j, x, hc, h, hj => by
    rw [List.flatMap_cons, List.getElem?_append_right (by rw [hc a (by simp), Nat.add_mul]; omega), hc a (by simp)]
    have e : (k + 1) * c + j - c = k * c + j := by rw [Nat.add_mul]; omega
    rw [e]
    exact flat_get f c l k j x (fun y hy => hc y (by simp [hy])) (by simpa using h) hj

theorem flat_len {α : Type} (f : α → List Value) (c : Nat) (l : List α) (h : ∀ y ∈ l, (f y).length = c) : (l.flatMap f).length = l.length * c := by
  induction l with
  | nil => simp
  | cons a l ih => rw [List.flatMap_cons, List.length_append, ih (fun y hy => h y (by simp [hy])), h a (by simp), List.length_cons, Nat.add_mul]; omega

/-- What a slice that is not empty looks like; its cells. -/
theorem Own.open {S : Nat → Prop} {w : World} {e size n : Nat} {v : Value} {xs : List Value} (h : Own S w e size v n xs) (hn : 0 < n) :
    ∃ g cap, v = .slice (some ⟨g, 0, none⟩) n cap ∧ n ≤ cap ∧ S g ∧ g < w.heap.size ∧ (∀ j u, xs[j]? = some u → w.cell? ⟨g, j, none⟩ = some u) ∧ (∀ j, w.frozen? ⟨g, j, none⟩ = false) := by
  obtain ⟨⟨hl, hv⟩, hS⟩ := h
  rcases hv with ⟨_, h0⟩ | ⟨g, cap, cur, rfl, _, hg, hc, _, hsz, ht⟩
  · omega
  · refine ⟨g, cap, rfl, hc, hS g rfl, lt_of_heap hg, ?_, fun j => frozen_of_heap hg⟩
    intro j u hj
    rw [cell_of_heap hg]
    rw [← ht, List.getElem?_take] at hj
    split at hj
    · simpa using hj
    · cases hj

/-- The last write to sector i, or s. -/
def lastPut (l : List (Nat × ByteArray)) (i : Nat) (s : ByteArray) : ByteArray := l.foldl (fun s x => if x.1 = i then x.2 else s) s
theorem lastPut_snoc (l : List (Nat × ByteArray)) (x : Nat × ByteArray) (i : Nat) (s : ByteArray) : lastPut (l ++ [x]) i s = if x.1 = i then x.2 else lastPut l i s := by simp [lastPut]
def DM.read (m : DM) (i : Nat) : ByteArray := lastPut m.puts i (m.dur.getD i ByteArray.empty)

end Go.Proofs.YthbmmbgkchiajaaGreat
