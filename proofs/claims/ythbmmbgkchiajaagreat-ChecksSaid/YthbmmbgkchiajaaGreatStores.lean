
/- A store of many cells into an owned row; what the sectors hold behind it. -/
import Derived.Test.YthbmmbgkchiajaaGreatDRead
namespace Go.Proofs.YthbmmbgkchiajaaGreat
open Go.RowKit

theorem heap_setCells {b : Nat} {e : TypeId} {fr : Nat × Nat} : ∀ (vs : List Value) (o : Nat) (w : World) (cur : Array Value), w.heap[b]? = some (.cells cur e fr) → o + vs.length ≤ cur.size →
    ∃ cur', (w.setCells b o vs).heap[b]? = some (.cells cur' e fr) ∧ cur'.size = cur.size ∧ ∀ i : Nat, cur'[i]? = if o ≤ i ∧ i < o + vs.length then vs[i - o]? else cur[i]?
  | [], o, w, cur, h, _ => ⟨cur, h, rfl, fun i => by rw [if_neg (by simp)]⟩
  | v :: r, o, w, cur, h, hl => by
    simp only [List.length_cons] at hl
    obtain ⟨cur', h1, h2, h3⟩ := heap_setCells r (o + 1) (w.setCell ⟨b, o, none⟩ v) (cur.setIfInBounds o v) (heap_setCell_same h v) (by simp; omega)
    refine ⟨cur', h1, by simpa using h2, fun i => ?_⟩
    rw [h3 i]
    by_cases h4 : o + 1 ≤ i ∧ i < o + 1 + r.length
    · rw [if_pos h4, if_pos (by simp; omega)]
      obtain ⟨d, hd⟩ : ∃ d, i - o = d + 1 := ⟨i - o - 1, by omega⟩
      rw [hd, List.getElem?_cons_succ]; congr 1; omega
    · rw [if_neg h4]
      by_cases h5 : i = o
      · subst h5
        rw [if_pos (by simp), Nat.sub_self, List.getElem?_cons_zero, Array.getElem?_setIfInBounds_self, if_pos (by omega)]
      · rw [if_neg (by simp; omega), Array.getElem?_setIfInBounds_ne (by omega)]

theorem keeps_setCells (b : Nat) : ∀ (vs : List Value) (o : Nat) (w : World), Keeps (fun k => k = b) w (w.setCells b o vs)
  | [], _, w => Keeps.refl _ w
  | v :: r, o, w => by
    have h1 : Keeps (fun k => k = b) w (w.setCell ⟨b, o, none⟩ v) := (Keeps.refl (fun k => k = b) w).setCell (p := ⟨b, o, none⟩) (.inl rfl) v
    exact h1.trans (keeps_setCells b r (o + 1) _) (fun _ _ h => h)

theorem Own.store {S : Nat → Prop} {w : World} {e size n cap g : Nat} {xs ys : List Value} (h : Own S w e size (.slice (some ⟨g, 0, none⟩) n cap) n xs) (o : Nat) (vs : List Value)
    (hy : ys.length = xs.length) (ho : o + vs.length ≤ xs.length) (hv : ∀ i : Nat, ys[i]? = if o ≤ i ∧ i < o + vs.length then vs[i - o]? else xs[i]?) : Own S (w.setCells g o vs) e size (.slice (some ⟨g, 0, none⟩) n cap) n ys := by
  obtain ⟨⟨hl, hr⟩, hS⟩ := h
  rcases hr with ⟨h0, _⟩ | ⟨g', cap', cur, h0, hb, hg, hc, hm, hsz, ht⟩
  · cases h0
  · cases h0
    have hxl : xs.length ≤ cur.size := by rw [← ht]; simp; omega
    obtain ⟨cur', h1, h2, h3⟩ := heap_setCells vs o w cur hg (by omega)
    refine ⟨⟨by omega, .inr ⟨g, cap, cur', rfl, hb, h1, hc, hm, by omega, ?_⟩⟩, hS⟩
    apply List.ext_getElem?
    intro i
    rw [hv i, List.getElem?_take, Array.getElem?_toList, h3 i]
    have hx : xs[i]? = if i < n * size then cur[i]? else none := by rw [← ht, List.getElem?_take, Array.getElem?_toList]
    rw [hx]
    by_cases h4 : o ≤ i ∧ i < o + vs.length
    · rw [if_pos h4, if_pos h4, if_pos (by omega)]
    · rw [if_neg h4, if_neg h4]

theorem durCells_set (l : List ByteArray) (i : Nat) (s : ByteArray) (hl : ∀ s ∈ l, s.size = 64) (hi : i < l.length) (hs : s.size = 64) :
    (durCells (l.set i s)).length = (durCells l).length ∧ i * 64 + (bcells s).length ≤ (durCells l).length ∧
    ∀ q : Nat, (durCells (l.set i s))[q]? = if i * 64 ≤ q ∧ q < i * 64 + (bcells s).length then (bcells s)[q - i * 64]? else (durCells l)[q]? := by
  have hl' : ∀ t ∈ l.set i s, (bcells t).length = 64 := by
    intro t ht
    rw [bcells_length]
    rcases List.mem_or_eq_of_mem_set ht with h | h
    · exact hl t h
    · rw [h]; exact hs
  have hl0 : ∀ t ∈ l, (bcells t).length = 64 := fun t ht => by rw [bcells_length]; exact hl t ht
  have e1 : (durCells (l.set i s)).length = l.length * 64 := by unfold durCells; rw [flat_len bcells 64 _ hl', List.length_set]
  have e2 : (durCells l).length = l.length * 64 := flat_len bcells 64 _ hl0
  have e3 : (bcells s).length = 64 := by rw [bcells_length, hs]
  refine ⟨by omega, by omega, fun q => ?_⟩
  by_cases hq : q < l.length * 64
  · obtain ⟨a, r, hr, rfl⟩ : ∃ a r, r < 64 ∧ q = a * 64 + r := ⟨q / 64, q % 64, Nat.mod_lt _ (by omega), by omega⟩
    have ha : a < l.length := by omega
    by_cases hai : a = i
    · subst hai
      rw [if_pos (by omega)]
      have := flat_get bcells 64 (l.set a s) a r s hl' (by simp [ha]) hr
      rw [show durCells (l.set a s) = (l.set a s).flatMap bcells from rfl, this]
      congr 1; omega
    · rw [if_neg (by omega)]
      have hg : (l.set i s)[a]? = some l[a] := by rw [List.getElem?_set_ne (by omega), List.getElem?_eq_getElem ha]
      have h1 := flat_get bcells 64 (l.set i s) a r l[a] hl' hg hr
      have h2 := flat_get bcells 64 l a r l[a] hl0 (List.getElem?_eq_getElem ha) hr
      exact h1.trans h2.symm
  · rw [if_neg (by omega), List.getElem?_eq_none (by omega), List.getElem?_eq_none (by omega)]

/-- The durable sectors behind the first k writes, of which those are kept that 'keep' says. -/
def durTo (l : List ByteArray) (ps : List (Nat × ByteArray)) (keep : Nat → Bool) : Nat → List ByteArray
  | 0 => l
  | k + 1 => match ps[k]? with
    | some x => if keep k then (durTo l ps keep k).set x.1 x.2 else durTo l ps keep k
    | none => durTo l ps keep k
theorem durTo_length (l : List ByteArray) (ps : List (Nat × ByteArray)) (keep : Nat → Bool) (k : Nat) : (durTo l ps keep k).length = l.length := by
  induction k with
  | zero => rfl
  | succ k ih => rw [durTo]; split <;> (try split) <;> simp [ih]
theorem durTo_size (l : List ByteArray) (ps : List (Nat × ByteArray)) (keep : Nat → Bool) (hl : ∀ s ∈ l, s.size = 64) (hp : ∀ x ∈ ps, x.2.size = 64) (k : Nat) : ∀ s ∈ durTo l ps keep k, s.size = 64 := by
  induction k with
  | zero => exact hl
  | succ k ih =>
    rw [durTo]
    split
    · rename_i x hx
      split
      · intro s hs
        rcases List.mem_or_eq_of_mem_set hs with h | h
        · exact ih s h
        · rw [h]; exact hp x (List.mem_of_getElem? hx)
      · exact ih
    · exact ih
theorem durTo_yes {l : List ByteArray} {ps : List (Nat × ByteArray)} {keep : Nat → Bool} {k : Nat} {x : Nat × ByteArray} (hx : ps[k]? = some x) (hk : keep k = true) : durTo l ps keep (k + 1) = (durTo l ps keep k).set x.1 x.2 := by rw [durTo, hx]; simp [hk]
theorem durTo_no {l : List ByteArray} {ps : List (Nat × ByteArray)} {keep : Nat → Bool} {k : Nat} {x : Nat × ByteArray} (hx : ps[k]? = some x) (hk : keep k = false) : durTo l ps keep (k + 1) = durTo l ps keep k := by rw [durTo, hx]; simp [hk]

end Go.Proofs.YthbmmbgkchiajaaGreat
