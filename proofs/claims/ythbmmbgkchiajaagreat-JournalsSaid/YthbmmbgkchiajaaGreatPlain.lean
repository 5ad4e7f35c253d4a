
/- plain: a step on a disk on which there is no journal: a write. -/
import Derived.Test.YthbmmbgkchiajaaGreatMade
namespace Go.Proofs.YthbmmbgkchiajaaGreat
open Go.RowKit

abbrev opv (k a b c : Int) (s : ByteArray) (vk vp : Value) : Value := .agg #[.int .i64 k, .int .i64 a, .int .i64 b, .int .i64 c, .string s, vk, vp]
abbrev opc (k a b c : Int) (s : ByteArray) (vk vp : Value) : Array Value := #[.int .i64 k, .int .i64 a, .int .i64 b, .int .i64 c, .string s, vk, vp]
abbrev volc (d r : Nat) (n : Nat) (dirty : Bool) : Array Value := #[.pointer (some ⟨d, 0, none⟩), .pointer (some ⟨r, 0, none⟩), .int .i64 (n : Int), .pointer none, .pointer none, .bool dirty]

/-- What a step on volume v does: the volume holds m' now; all else that was there stands. -/
def VStep (o : Nat → Nat) (t : Nat) (w : World) (v : Nat) (m' : DM) (w' : World) : Prop :=
  (∃ o' : Nat → Nat, Vol o' t w' v m' ∧ ∀ k, k < w.heap.size → o' k = o k) ∧ Keeps (fun k => o k = t ∨ o k = t + 1 ∨ o k = t + 2) w w'

/-- The start: the step's own copy of the operation, block ob; the volume is marked or not. -/
structure Start (o : Nat → Nat) (t : Nat) (w W : World) (v ob d r : Nat) (m : DM) (dirty : Bool) (cs : Array Value) : Prop where
  hv : W.heap[v]? = some (.cells (volc d r m.dur.length dirty) 187 (0, 0))
  hob : W.heap[ob]? = some (.cells cs 81 (0, 0))
  ot : o v = t
  vlt : v < w.heap.size
  obl : w.heap.size ≤ ob
  p : PDisk (fun k => o k = t + 1 ∧ k < w.heap.size) W d m
  q : RDisk (fun k => o k = t + 2 ∧ k < w.heap.size) W r m
  ok : m.ok
  kp : Keeps (fun k => k = v) w W

theorem Start.keep {o : Nat → Nat} {t : Nat} {w W W' : World} {v ob d r : Nat} {m : DM} {dirty : Bool} {cs : Array Value} (h : Start o t w W v ob d r m dirty cs) (hk : Keeps (fun _ => False) W W') : Start o t w W' v ob d r m dirty cs :=
  ⟨hk.heap h.hv (fun f => f), hk.heap h.hob (fun f => f), h.ot, h.vlt, h.obl, Two.keep h.p hk (fun _ _ _ f => f), Two.keep h.q hk (fun _ _ _ f => f), h.ok, h.kp.trans hk (fun _ _ f => f.elim)⟩

theorem vol_start {o : Nat → Nat} {t : Nat} {w : World} {v : Nat} {m : DM} (hV : Vol o t w v m) (cs : Array Value) : ∃ d r dirty, Start o t w (w.alloc (.cells cs 81)) v w.heap.size d r m dirty cs ∧ w.heap[v]? = some (.cells (volc d r m.dur.length dirty) 187 (0, 0)) := by
  obtain ⟨d, r, dirty, h1, h2, h3, h4, h5⟩ := hV
  have hk : Keeps (fun _ => False) w (w.alloc (.cells cs 81)) := (Keeps.refl _ _).alloc _
  refine ⟨d, r, dirty, ⟨hk.heap h1 (fun f => f), heap_alloc_last w _, h2, lt_of_heap h1, Nat.le_refl _, Two.keep (Two.mono h3 (fun k l s => ⟨s, l⟩)) hk (fun _ _ _ f => f), Two.keep (Two.mono h4 (fun k l s => ⟨s, l⟩)) hk (fun _ _ _ f => f), h5, hk.mono (fun _ _ f => f.elim)⟩, h1⟩

/-- The same, the volume marked. -/
theorem vol_start_dirty {o : Nat → Nat} {t : Nat} {w : World} {v : Nat} {m : DM} (hV : Vol o t w v m) (cs : Array Value) : ∃ d r dirty, Start o t w ((w.setCell ⟨v, 5, none⟩ (.bool true)).alloc (.cells cs 81)) v w.heap.size d r m true cs ∧ w.heap[v]? = some (.cells (volc d r m.dur.length dirty) 187 (0, 0)) := by
  obtain ⟨d, r, dirty, h1, h2, h3, h4, h5⟩ := hV
  have hk0 : Keeps (fun k => k = v) w (w.setCell ⟨v, 5, none⟩ (.bool true)) := (Keeps.refl (fun k => k = v) w).setCell (p := ⟨v, 5, none⟩) (.inl rfl) _
  have hk1 : Keeps (fun _ => False) (w.setCell ⟨v, 5, none⟩ (.bool true)) ((w.setCell ⟨v, 5, none⟩ (.bool true)).alloc (.cells cs 81)) := (Keeps.refl _ _).alloc _
  have hk : Keeps (fun k => k = v) w ((w.setCell ⟨v, 5, none⟩ (.bool true)).alloc (.cells cs 81)) := hk0.trans hk1 (fun _ _ f => f.elim)
  refine ⟨d, r, dirty, ⟨hk1.heap (heap_setCell_same h1 _) (fun f => f), heap_alloc_set _ _ _ _, h2, lt_of_heap h1, Nat.le_refl _, Two.keep (Two.mono h3 (fun k l s => ⟨s, l⟩)) hk (fun k _ s e => ?_), Two.keep (Two.mono h4 (fun k l s => ⟨s, l⟩)) hk (fun k _ s e => ?_), h5, hk⟩, h1⟩
  · subst e; omega
  · subst e; omega

/-- The end: both disks hold m'. -/
theorem vol_end {o : Nat → Nat} {t : Nat} {w W : World} {v d r a : Nat} {m' : DM} {dirty : Bool} (hv : W.heap[v]? = some (.cells (volc d r m'.dur.length dirty) 187 (0, 0))) (ot : o v = t) (vlt : v < w.heap.size)
    (hp : PDisk (fun k => (o k = t + 1 ∧ k < w.heap.size) ∨ (w.heap.size ≤ k ∧ k < a)) W d m') (hq : RDisk (fun k => (o k = t + 2 ∧ k < w.heap.size) ∨ (w.heap.size ≤ k ∧ a ≤ k)) W r m') (hok : m'.ok) (hk : Keeps (fun k => o k = t ∨ o k = t + 1 ∨ o k = t + 2) w W) : VStep o t w v m' W := by
  refine ⟨⟨fun k => if k < w.heap.size then o k else if k < a then t + 1 else t + 2, ⟨d, r, dirty, hv, ?_, Two.mono hp (fun k _ h => ?_), Two.mono hq (fun k _ h => ?_), hok⟩, fun k hk => if_pos hk⟩, hk⟩
  · simp only; rw [if_pos vlt]; exact ot
  · rcases h with h | h
    · simp only; rw [if_pos h.2]; exact h.1
    · simp only; rw [if_neg (by omega), if_pos h.2]
  · rcases h with h | h
    · simp only; rw [if_pos h.2]; exact h.1
    · simp only; rw [if_neg (by omega), if_neg (by omega)]

theorem Start.same {o : Nat → Nat} {t : Nat} {w W : World} {v ob d r : Nat} {m : DM} {dirty : Bool} {cs : Array Value} (h : Start o t w W v ob d r m dirty cs) : VStep o t w v m W :=
  vol_end (a := 0) h.hv h.ot h.vlt (Two.mono h.p (fun _ _ s => .inl s)) (Two.mono h.q (fun _ _ s => .inl s)) h.ok (h.kp.mono (fun k _ e => .inl (by subst e; exact h.ot)))

end Go.Proofs.YthbmmbgkchiajaaGreat
