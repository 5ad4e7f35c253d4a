
/- What holds between two steps: the world of a script, its volumes and its book, block by block under one owner each. -/
import Derived.Test.YthbmmbgkchiajaaGreatKeepsW
namespace Go.Proofs.YthbmmbgkchiajaaGreat
open Go.RowKit

theorem Own.tag {T : Nat → Prop} {o o' : Nat → Nat} {t e s n : Nat} {w w' : World} {v : Value} {xs : List Value} (h : Own (fun k => o k = t) w e s v n xs) (hk : Keeps T w w') (hd : ∀ k, k < w.heap.size → o k = t → ¬ T k) (ho : ∀ k, k < w.heap.size → o' k = o k) : Own (fun k => o' k = t) w' e s v n xs :=
  ((h.mono (T := fun k => o k = t ∧ k < w.heap.size) (fun _ l s => ⟨s, l⟩)).keep hk (fun k _ s => hd k s.2 s.1)).mono (fun k _ s => (ho k s.2).trans s.1)

theorem Two.tag {T : Nat → Prop} {o o' : Nat → Nat} {tg p t e1 s1 e2 s2 n1 : Nat} {xs1 : List Value} {n2 : Nat} {xs2 : List Value} {y : Nat} {w w' : World} (h : Two (fun k => o k = tg) w p t e1 s1 e2 s2 n1 xs1 n2 xs2 y) (hk : Keeps T w w') (hd : ∀ k, k < w.heap.size → o k = tg → ¬ T k) (ho : ∀ k, k < w.heap.size → o' k = o k) : Two (fun k => o' k = tg) w' p t e1 s1 e2 s2 n1 xs1 n2 xs2 y :=
  ((h.mono (T := fun k => o k = tg ∧ k < w.heap.size) (fun _ l s => ⟨s, l⟩)).keep hk (fun k _ s => hd k s.2 s.1)).mono (fun k _ s => (ho k s.2).trans s.1)

theorem BookC.tag {T : Nat → Prop} {o o' og : Nat → Nat} {t : Nat} {C : Nat → Nat → Prop} {w w' : World} {ls : List Value} (h : BookC (fun k => o k = t) og C w ls) (hk : Keeps T w w') (hd : ∀ k, k < w.heap.size → o k = t → ¬ T k) (ho : ∀ k, k < w.heap.size → o' k = o k) : BookC (fun k => o' k = t) og C w' ls := by
  intro i v hv
  obtain ⟨ao, len, cap, h1, h2, h3, h4⟩ := h i v hv
  refine ⟨ao, len, cap, h1, h2, h3, ?_⟩
  rcases h4 with h4 | ⟨g, off, cur, e, a1, a2, a3, a4, a5, a6⟩
  · exact .inl h4
  · have hl := lt_of_heap a4
    exact .inr ⟨g, off, cur, e, a1, (ho g hl).trans a2, a3, hk.heap a4 (hd g hl a2), a5, a6⟩

/-- A volume: the program's disk and the document's hold the same. -/
def Vol (o : Nat → Nat) (t : Nat) (w : World) (v : Nat) (m : DM) : Prop :=
  ∃ d r dirty, w.heap[v]? = some (.cells #[.pointer (some ⟨d, 0, none⟩), .pointer (some ⟨r, 0, none⟩), .int .i64 (m.dur.length : Int), .pointer none, .pointer none, .bool dirty] 187 (0, 0)) ∧ o v = t ∧
    PDisk (fun k => o k = t + 1) w d m ∧ RDisk (fun k => o k = t + 2) w r m ∧ m.ok

theorem Vol.tag {T : Nat → Prop} {o o' : Nat → Nat} {t v : Nat} {m : DM} {w w' : World} (h : Vol o t w v m) (hk : Keeps T w w') (hd : ∀ k, k < w.heap.size → (o k = t ∨ o k = t + 1 ∨ o k = t + 2) → ¬ T k) (ho : ∀ k, k < w.heap.size → o' k = o k) : Vol o' t w' v m := by
  obtain ⟨d, r, dirty, h1, h2, h3, h4, h5⟩ := h
  have hl := lt_of_heap h1
  exact ⟨d, r, dirty, hk.heap h1 (hd v hl (.inl h2)), (ho v hl).trans h2, Two.tag h3 hk (fun k l e => hd k l (.inr (.inl e))) ho, Two.tag h4 hk (fun k l e => hd k l (.inr (.inr e))) ho, h5⟩

def ptrs (vs : List Nat) : List Value := vs.map fun v => Value.pointer (some ⟨v, 0, none⟩)

/-- Tags: 0 nobody's; 1 the world's struct; 2 the row of volumes; 3 the row of lists; 4 the lists; 5 + 3 i, 6 + 3 i, 7 + 3 i: volume i, its disk, the document's. N: how many steps have been played. -/
def Inv (B : Nat) (o : Nat → Nat) (w : World) (pw : Nat) (vcs : Value) (N : Nat) : Prop :=
  ∃ (vvs vb : Value) (vs : List Nat) (ms : List DM) (ls : List Value) (og : Nat → Nat),
    w.heap[pw]? = some (.cells #[vcs, vvs, .slice none 0 0, vb, .slice none 0 0, .slice none 0 0, .slice none 0 0] 79 (0, 0)) ∧ o pw = 1 ∧
    Own (fun k => o k = 2) w 131 1 vvs vs.length (ptrs vs) ∧
    Own (fun k => o k = 3) w 138 1 vb ls.length ls ∧ BookC (fun k => o k = 4) og (fun _ _ => True) w ls ∧ ls.length % 4 = 0 ∧
    ms.length = vs.length ∧ (∀ (i v : Nat) (m : DM), vs[i]? = some v → ms[i]? = some m → Vol o (5 + 3 * i) w v m) ∧
    vs.length ≤ N ∧ ls.length ≤ 4 * N ∧ (∀ m ∈ ms, m.puts.length ≤ N ∧ m.syncs ≤ N) ∧ (∀ k, k < B → o k = 0) ∧ B ≤ w.heap.size

/-- How many steps: a script of so many takes no more bytes than a slice may. -/
def Few (N : Nat) : Prop := N * 96 ≤ 140737488351232

theorem Inv.more {B : Nat} {o : Nat → Nat} {w : World} {pw : Nat} {vcs : Value} {N : Nat} (h : Inv B o w pw vcs N) : Inv B o w pw vcs (N + 1) := by
  obtain ⟨vvs, vb, vs, ms, ls, og, h1, h2, h3, h4, h5, h6, h7, h8, h9, h10, h11, h12⟩ := h
  exact ⟨vvs, vb, vs, ms, ls, og, h1, h2, h3, h4, h5, h6, h7, h8, by omega, by omega, fun m hm => ⟨by have := (h11 m hm).1; omega, by have := (h11 m hm).2; omega⟩, h12⟩

/-- Nothing of it has turned. -/
theorem Inv.same {B : Nat} {o : Nat → Nat} {w w' : World} {pw : Nat} {vcs : Value} {N : Nat} (h : Inv B o w pw vcs N) {T : Nat → Prop} (hk : Keeps T w w') (hT : ∀ k, k < w.heap.size → o k ≠ 0 → ¬ T k) : Inv B o w' pw vcs N := by
  obtain ⟨vvs, vb, vs, ms, ls, og, h1, h2, h3, h4, h5, h6, h7, h8, h9, h10, h11, h12, h13⟩ := h
  refine ⟨vvs, vb, vs, ms, ls, og, hk.heap h1 (hT pw (lt_of_heap h1) (by omega)), h2, h3.tag hk (fun k l e => hT k l (by omega)) (fun _ _ => rfl), h4.tag hk (fun k l e => hT k l (by omega)) (fun _ _ => rfl), h5.tag hk (fun k l e => hT k l (by omega)) (fun _ _ => rfl), h6, h7, fun i v m hv hm => (h8 i v m hv hm).tag hk (fun k l e => hT k l (by omega)) (fun _ _ => rfl), h9, h10, h11, h12, Nat.le_trans h13 hk.size⟩

end Go.Proofs.YthbmmbgkchiajaaGreat
