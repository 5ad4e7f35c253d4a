
/- No two lists that came out share anything. -/
import Derived.Test.YthbmmbgkchiajaaGreatBook
namespace Go.Proofs.YthbmmbgkchiajaaGreat
open Go.RowKit

def CAll : Nat → Nat → Prop := fun _ _ => True
def C1 (q : Nat) : Nat → Nat → Prop := fun i _ => i / 4 ≠ q
def C3 (q i0 j0 : Nat) : Nat → Nat → Prop := fun i j => i / 4 ≠ q ∨ i < i0 ∨ (i = i0 ∧ j < j0)

theorem BookC.weak {S : Nat → Prop} {o : Nat → Nat} {C D : Nat → Nat → Prop} {w : World} {ls : List Value} (h : BookC S o C w ls) (hc : ∀ i j, D i j → C i j) : BookC S o D w ls := fun i v hv => (h i v hv).weak (fun j => hc i j)

theorem book_store1 {S : Nat → Prop} {o : Nat → Nat} {q g a : Nat} {wr : World} {ls : List Value} {v : Value} (h : BookC S o (C1 q) wr ls) (ho : o g = q) : BookC S o (C1 q) (wr.setCell ⟨g, a, none⟩ v) ls := by
  intro i u hu
  obtain ⟨ao, len, cap, h1, h2, h3, h4⟩ := h i u hu
  refine ⟨ao, len, cap, h1, h2, h3, ?_⟩
  rcases h4 with h4 | ⟨g', off, cur, e, a1, a2, a3, a4, a5, a6⟩
  · exact .inl h4
  · by_cases hg : g' = g
    · subst hg
      refine .inr ⟨g', off, _, e, a1, a2, a3, heap_setCell_same a4 v, by simpa using a5, fun j hj hc => ?_⟩
      exact absurd (a3.symm.trans ho) hc
    · exact .inr ⟨g', off, cur, e, a1, a2, a3, by rw [Below.heap_setCell _ _ _ _ hg]; exact a4, a5, a6⟩

theorem book_store3 {S : Nat → Prop} {o : Nat → Nat} {q g off i0 j0 len cap : Nat} {wr : World} {ls : List Value} (h : BookC S o (C3 q i0 j0) wr ls) (ho : o g = q) (hv : ls[i0]? = some (.slice (some ⟨g, off, none⟩) len cap)) :
    BookC S o (C3 q i0 (j0 + 1)) (wr.setCell ⟨g, off + j0, none⟩ (markOf q)) ls := by
  intro i u hu
  obtain ⟨ao, len', cap', h1, h2, h3, h4⟩ := h i u hu
  refine ⟨ao, len', cap', h1, h2, h3, ?_⟩
  rcases h4 with h4 | ⟨g', off', cur, e, a1, a2, a3, a4, a5, a6⟩
  · exact .inl h4
  · by_cases hg : g' = g
    · subst hg
      have hq : i / 4 = q := a3.symm.trans ho
      refine .inr ⟨g', off', _, e, a1, a2, a3, heap_setCell_same a4 _, by simpa using a5, fun j hj hc => ?_⟩
      by_cases hs : off + j0 = off' + j
      · rw [hs, Array.getElem?_setIfInBounds_self, if_pos (by omega), hq]
      · rw [Array.getElem?_setIfInBounds_ne hs]
        refine a6 j hj ?_
        rcases hc with hc | hc | ⟨hc, hj'⟩
        · exact absurd hq hc
        · exact .inr (.inl hc)
        · subst hc
          rw [hv] at hu
          cases hu
          cases h1
          cases a1
          exact .inr (.inr ⟨rfl, by omega⟩)
    · refine .inr ⟨g', off', cur, e, a1, a2, a3, by rw [Below.heap_setCell _ _ _ _ hg]; exact a4, a5, fun j hj hc => ?_⟩
      refine a6 j hj ?_
      rcases hc with hc | hc | ⟨hc, hj'⟩
      · exact .inl hc
      · exact .inr (.inl hc)
      · subst hc
        rw [hv] at hu
        cases hu
        cases h1
        cases a1
        exact absurd rfl hg

theorem book_next {S : Nat → Prop} {o : Nat → Nat} {q i0 len cap : Nat} {ao : Option Addr} {wr : World} {ls : List Value} (h : BookC S o (C3 q i0 len) wr ls) (hv : ls[i0]? = some (.slice ao len cap)) : BookC S o (C3 q (i0 + 1) 0) wr ls := by
  intro i u hu
  obtain ⟨ao', len', cap', h1, h2, h3, h4⟩ := h i u hu
  refine ⟨ao', len', cap', h1, h2, h3, ?_⟩
  rcases h4 with h4 | ⟨g', off', cur, e, a1, a2, a3, a4, a5, a6⟩
  · exact .inl h4
  · refine .inr ⟨g', off', cur, e, a1, a2, a3, a4, a5, fun j hj hc => a6 j hj ?_⟩
    rcases hc with hc | hc | ⟨_, hj'⟩
    · exact .inl hc
    · by_cases hi : i = i0
      · subst hi
        rw [hv] at hu
        cases hu
        cases h1
        exact .inr (.inr ⟨rfl, hj⟩)
      · exact .inr (.inl (by omega))
    · omega

/-- The i-th list, in a world that has turned in S alone. -/
theorem book_open {S T : Nat → Prop} {o : Nat → Nat} {C : Nat → Nat → Prop} {w wr : World} {cb : Nat} {ab : Option Addr} {ls : List Value} (hrow : Own T w 138 1 (.slice ab ls.length cb) ls.length ls) (hTS : ∀ k, T k → ¬ S k) (hk : Keeps S w wr) (hE : BookC S o C wr ls) (i : Nat) (hi : i < ls.length) :
    ∃ gb ao len cap, ab = some ⟨gb, 0, none⟩ ∧ ¬ S gb ∧ wr.cell? ⟨gb, i, none⟩ = some (.slice ao len cap) ∧ ls[i]? = some (.slice ao len cap) ∧ len ≤ cap ∧ cap ≤ 9223372036854775807 ∧
      ∀ j, j < len → ∃ g off u, ao = some ⟨g, off, none⟩ ∧ S g ∧ o g = i / 4 ∧ wr.cell? ⟨g, off + j, none⟩ = some u ∧ wr.frozen? ⟨g, off + j, none⟩ = false ∧ (C i j → u = markOf (i / 4)) := by
  obtain ⟨gb, cap, hv, _, hT, hgl, hcell, _⟩ := hrow.open (by omega)
  cases hv
  obtain ⟨ao, len, cp, e1, e2, e3, e4⟩ := hE i ls[i] (List.getElem?_eq_getElem hi)
  refine ⟨gb, ao, len, cp, rfl, hTS _ hT, ?_, by rw [← e1]; exact List.getElem?_eq_getElem hi, e2, e3, fun j hj => ?_⟩
  · rw [hk.cell (p := ⟨gb, i, none⟩) hgl (hTS _ hT), ← e1]; exact hcell i _ (List.getElem?_eq_getElem hi)
  · rcases e4 with e4 | ⟨g, off, cur, e, a1, a2, a3, a4, a5, a6⟩
    · omega
    · refine ⟨g, off, cur[off + j]'(by omega), a1, a2, a3, ?_, frozen_of_heap a4, fun hc => ?_⟩
      · rw [cell_of_heap a4]; exact Array.getElem?_eq_getElem (by omega)
      · have := a6 j hj hc
        rw [Array.getElem?_eq_getElem (by omega)] at this
        exact Option.some.inj this

end Go.Proofs.YthbmmbgkchiajaaGreat
