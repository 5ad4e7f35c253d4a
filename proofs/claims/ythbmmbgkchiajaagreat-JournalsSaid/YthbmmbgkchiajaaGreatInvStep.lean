
/- What the steps on a volume do to all that holds between two steps. -/
import Derived.Test.YthbmmbgkchiajaaGreatPlainR
namespace Go.Proofs.YthbmmbgkchiajaaGreat
open Go.RowKit

/-- A step is done: all holds again, one step later. -/
def Done (B : Nat) (o : Nat → Nat) (W : World) (pw : Nat) (vcs : Value) (N : Nat) (w' : World) : Prop :=
  (∃ o', Inv B o' w' pw vcs (N + 1)) ∧ Keeps (fun k => o k ≠ 0 ∧ o k ≠ 2) W w' ∧ w'.cell? ⟨pw, 1, none⟩ = W.cell? ⟨pw, 1, none⟩

theorem inv_vstep {B N pw i v : Nat} {o : Nat → Nat} {W w' : World} {vcs vvs vb : Value} {vs : List Nat} {ms : List DM} {ls : List Value} {og : Nat → Nat} {m m' : DM}
    (h1 : W.heap[pw]? = some (.cells #[vcs, vvs, .slice none 0 0, vb, .slice none 0 0, .slice none 0 0, .slice none 0 0] 79 (0, 0))) (h2 : o pw = 1)
    (h3 : Own (fun k => o k = 2) W 131 1 vvs vs.length (ptrs vs)) (h4 : Own (fun k => o k = 3) W 138 1 vb ls.length ls) (h5 : BookC (fun k => o k = 4) og (fun _ _ => True) W ls) (h6 : ls.length % 4 = 0)
    (h7 : ms.length = vs.length) (h8 : ∀ (i v : Nat) (m : DM), vs[i]? = some v → ms[i]? = some m → Vol o (5 + 3 * i) W v m)
    (h9 : vs.length ≤ N) (h10 : ls.length ≤ 4 * N) (h11 : ∀ m ∈ ms, m.puts.length ≤ N ∧ m.syncs ≤ N) (h12 : ∀ k, k < B → o k = 0) (h13 : B ≤ W.heap.size)
    (hv : vs[i]? = some v) (hm : ms[i]? = some m) (hp : m'.puts.length ≤ N + 1) (hs : m'.syncs ≤ N + 1) (hS : VStep o (5 + 3 * i) W v m' w') : Done B o W pw vcs N w' := by
  obtain ⟨⟨o', hV, ho⟩, hk⟩ := hS
  have hpl := lt_of_heap h1
  have hil := (List.getElem?_eq_some_iff.1 hm).1
  have hb := hk.heap h1 (by omega)
  refine ⟨⟨o', vvs, vb, vs, ms.set i m', ls, og, hb, (ho pw hpl).trans h2, h3.tag hk (fun k l e h => by omega) ho, h4.tag hk (fun k l e h => by omega) ho, h5.tag hk (fun k l e h => by omega) ho, h6, by simp [h7], ?_, by omega, by omega, ?_, fun k hk' => (ho k (by omega)).trans (h12 k hk'), Nat.le_trans h13 hk.size⟩, hk.mono (fun k _ h => by omega), ?_⟩
  · intro j u mu hu hmu
    by_cases hj : j = i
    · subst hj
      rw [hv] at hu
      cases hu
      rw [List.getElem?_set_self hil] at hmu
      cases hmu
      exact hV
    · rw [List.getElem?_set_ne (by omega)] at hmu
      exact (h8 j u mu hu hmu).tag hk (fun k l e h => by omega) ho
  · intro mu hmu
    rcases List.mem_or_eq_of_mem_set hmu with h | h
    · have := h11 mu h; omega
    · subst h; exact ⟨hp, hs⟩
  · rw [cell_of_heap hb, cell_of_heap h1]

theorem mark_eq (n i : Nat) (h : i / 4 = n / 4) : Value.int .u8 (200 + (n : Int) / 4 % 50) = markOf (i / 4) := by
  unfold markOf
  rw [h]
  congr 1

theorem inv_read {B N pw : Nat} {o : Nat → Nat} {W w' : World} {vcs vvs vb : Value} {vs : List Nat} {ms : List DM} {ls : List Value} {og : Nat → Nat}
    (h1 : W.heap[pw]? = some (.cells #[vcs, vvs, .slice none 0 0, vb, .slice none 0 0, .slice none 0 0, .slice none 0 0] 79 (0, 0))) (h2 : o pw = 1)
    (h3 : Own (fun k => o k = 2) W 131 1 vvs vs.length (ptrs vs)) (h5 : BookC (fun k => o k = 4) og (fun _ _ => True) W ls) (h6 : ls.length % 4 = 0)
    (h7 : ms.length = vs.length) (h8 : ∀ (i v : Nat) (m : DM), vs[i]? = some v → ms[i]? = some m → Vol o (5 + 3 * i) W v m)
    (h9 : vs.length ≤ N) (h10 : ls.length ≤ 4 * N) (h11 : ∀ m ∈ ms, m.puts.length ≤ N ∧ m.syncs ≤ N) (h12 : ∀ k, k < B → o k = 0) (h13 : B ≤ W.heap.size)
    (hR : ReadPost o pw vcs vvs (.slice none 0 0) (.slice none 0 0) (.slice none 0 0) (.slice none 0 0) ls W w') : Done B o W pw vcs N w' := by
  obtain ⟨w1, ao, nl, k1, hnl, hl, wr, w3, vb', x1, x2, x3, hK, k3, n1, n2, n3, e1, e2, e3⟩ := hR
  have hpl := lt_of_heap h1
  have s1 := k1.size
  have sr := hK.1.size
  have s3 := k3.size
  have hao : ∀ k, ao = some ⟨k, 0, none⟩ → W.heap.size ≤ k ∧ k < w1.heap.size := by
    intro k hk
    rcases hl with h | ⟨g, cs, e, a1, a2, a3, _⟩
    · rw [h.2] at hk; cases hk
    · rw [a1] at hk; cases hk; exact ⟨a2, lt_of_heap a3⟩
  have kWr : Keeps (fun _ => False) W wr := k1.trans (hK.1) (fun i hi h => by have := hao i h; omega)
  have kW3 : Keeps (fun _ => False) W w3 := kWr.trans k3 (fun _ _ f => f)
  have kW : Keeps (fun k => k = pw ∨ o k = 3) W w' := (kW3.mono (T := fun k => k = pw ∨ o k = 3) (fun _ _ f => f.elim)).trans e3 (fun i hi h => by
    rcases h with h | h | h
    · exact .inl h
    · exact .inr h.1.1
    · omega)
  have hvb : ∀ k, vb'.ownBlock = some k → (o k = 3 ∧ k < W.heap.size) ∨ w3.heap.size ≤ k := fun k hk => by
    rcases e2.2 k hk with h | h
    · exact .inl h.1
    · exact .inr h
  refine ⟨⟨fun k => if k < W.heap.size then o k else if vb'.ownBlock = some k then 3 else 4, vvs, vb', vs, ms, ls ++ [.slice ao nl nl] ++ [x1] ++ [x2] ++ [x3], fun k => if k < W.heap.size then og k else ls.length / 4, e1, ?_, ?_, ?_, ?_, by simp; omega, h7, ?_, by omega, by simp; omega, fun m hm => by have := h11 m hm; omega, ?_, Nat.le_trans h13 kW.size⟩, kW.mono (fun k _ h => ?_), ?_⟩
  · simp only; rw [if_pos hpl]; exact h2
  · exact h3.tag kW (fun k l e h => by rcases h with h | h; (subst h; omega); omega) (fun k hk => if_pos hk)
  · have hlen : (ls ++ [Value.slice ao nl nl] ++ [x1] ++ [x2] ++ [x3]).length = ls.length + 4 := by simp
    rw [hlen]
    refine e2.self.mono (fun k _ h => ?_)
    simp only
    by_cases hk : k < W.heap.size
    · rw [if_pos hk]
      rcases h.1 with h' | h'
      · exact h'.1.1
      · omega
    · rw [if_neg hk, if_pos h.2]
  · have newEnt : ∀ (i n : Nat) (x : Value), i / 4 = ls.length / 4 → NewList wr w3 (.int .u8 (200 + (ls.length : Int) / 4 % 50)) n x → Ent (fun k => (fun k => if k < W.heap.size then o k else if vb'.ownBlock = some k then 3 else 4) k = 4) (fun k => if k < W.heap.size then og k else ls.length / 4) (fun _ _ => True) w' i x := by
      intro i n x hi hx
      obtain ⟨g, cap, cur, a1, a2, a3, a4, a5, a6, a7, a8⟩ := hx
      have sWr := kWr.size
      refine ⟨_, n, cap, a1, a5, by unfold maxLen at a6; omega, .inr ⟨g, 0, cur, _, rfl, ?_, ?_, e3.heap a4 (fun h => by rcases h with h | h | h <;> omega), by omega, fun j hj _ => ?_⟩⟩
      · simp only
        rw [if_neg (by omega), if_neg (fun e => by rcases hvb g e with h | h <;> omega)]
      · simp only
        rw [if_neg (by omega)]; exact hi.symm
      · rw [Nat.zero_add, a8 j hj]; exact congrArg some (mark_eq ls.length i hi)
    intro i v hv
    have hilen := (List.getElem?_eq_some_iff.1 hv).1
    simp at hilen
    by_cases hi : i < ls.length
    · rw [List.append_assoc, List.append_assoc, List.append_assoc, List.getElem?_append_left hi] at hv
      obtain ⟨bo, len, cap, a1, a2, a3, a4⟩ := h5 i v hv
      refine ⟨bo, len, cap, a1, a2, a3, ?_⟩
      rcases a4 with a4 | ⟨g, off, cur, e, b1, b2, b3, b4, b5, b6⟩
      · exact .inl a4
      · have hgl := lt_of_heap b4
        refine .inr ⟨g, off, cur, e, b1, ?_, ?_, kW.heap b4 (fun h => by rcases h with h | h; (subst h; omega); omega), b5, b6⟩
        · simp only; rw [if_pos hgl]; exact b2
        · simp only; rw [if_pos hgl]; exact b3
    · rw [List.append_assoc, List.append_assoc, List.append_assoc, List.getElem?_append_right (by omega)] at hv
      obtain ⟨j, rfl⟩ : ∃ j, i = ls.length + j := ⟨i - ls.length, by omega⟩
      rw [Nat.add_sub_cancel_left] at hv
      have hq : (ls.length + j) / 4 = ls.length / 4 := by omega
      match j, hv with
      | 0, hv =>
        simp at hv
        subst hv
        refine ⟨ao, nl, nl, rfl, Nat.le_refl _, by omega, ?_⟩
        rcases hK.2 with h0 | ⟨g, cur, e, b1, b2, b3, b4⟩
        · exact .inl h0
        · have hg := hao g b1
          refine .inr ⟨g, 0, cur, e, b1, ?_, ?_, e3.heap (k3.heap b2 (fun f => f)) (fun h => by rcases h with h | h | h <;> omega), by omega, fun j hj _ => ?_⟩
          · simp only
            rw [if_neg (by omega), if_neg (fun e => by rcases hvb g e with h | h <;> omega)]
          · simp only
            rw [if_neg (by omega)]; exact hq.symm
          · rw [Nat.zero_add, b4 j hj]; exact congrArg some (mark_eq ls.length _ hq)
      | 1, hv => simp at hv; subst hv; exact newEnt _ _ _ hq n1
      | 2, hv => simp at hv; subst hv; exact newEnt _ _ _ hq n2
      | 3, hv => simp at hv; subst hv; exact newEnt _ _ _ hq n3
      | j + 4, hv => simp at hv
  · intro i v m hv hm
    exact (h8 i v m hv hm).tag kW (fun k l e h => by rcases h with h | h; (subst h; omega); omega) (fun k hk => if_pos hk)
  · intro k hk
    simp only; rw [if_pos (by omega)]; exact h12 k hk
  · rcases h with h | h
    · subst h; omega
    · omega
  · rw [cell_of_heap e1, cell_of_heap h1]; rfl

end Go.Proofs.YthbmmbgkchiajaaGreat
