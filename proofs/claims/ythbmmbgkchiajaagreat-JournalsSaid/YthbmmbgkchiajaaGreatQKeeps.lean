
/- keepsBytes, of a list that may have room behind it. -/
import Derived.Test.YthbmmbgkchiajaaGreatKeepsW
namespace Go.Proofs.YthbmmbgkchiajaaGreat
open Go.RowKit

theorem setCells_row (g : Nat) (m : Value) (e : TypeId) : ∀ (k o : Nat) (w : World) (cur : Array Value), w.heap[g]? = some (.cells cur e (0, 0)) → o + k ≤ cur.size →
    ∃ cur' : Array Value, (w.setCells g o (List.replicate k m)).heap[g]? = some (.cells cur' e (0, 0)) ∧ cur'.size = cur.size ∧ (∀ i, o ≤ i → i < o + k → cur'[i]? = some m) ∧ (∀ i, (i < o ∨ o + k ≤ i) → cur'[i]? = cur[i]?)
  | 0, o, w, cur, h, _ => ⟨cur, h, rfl, fun i a b => by omega, fun i _ => rfl⟩
  | k + 1, o, w, cur, h, hs => by
    obtain ⟨cur', h1, h2, h3, h4⟩ := setCells_row g m e k (o + 1) (w.setCell ⟨g, o, none⟩ m) (cur.setIfInBounds o m) (heap_setCell_same h m) (by rw [Array.size_setIfInBounds]; omega)
    refine ⟨cur', by rw [List.replicate_succ]; exact h1, by rw [h2, Array.size_setIfInBounds], fun i a b => ?_, fun i a => ?_⟩
    · by_cases hi : i = o
      · subst hi
        rw [h4 i (.inl (by omega)), Array.getElem?_setIfInBounds_self, if_pos (by omega)]
      · exact h3 i (by omega) (by omega)
    · rw [h4 i (by omega), Array.getElem?_setIfInBounds_ne (by omega)]

/-- The list that came out: nl of its cells are marked. -/
def KR (ao : Option Addr) (nl cap : Nat) (m : Value) (W : World) : Prop :=
  (ao = none ∧ nl = 0 ∧ cap = 0) ∨ ∃ g off cur e, ao = some ⟨g, off, none⟩ ∧ W.heap[g]? = some (.cells cur e (0, 0)) ∧ off + cap ≤ cur.size ∧ ∀ i, i < nl → cur[off + i]? = some m

/-- A list all of whose cells are marked. -/
def ML (G : Nat → Prop) (W : World) (m : Value) (v : Value) : Prop :=
  ∃ ao len cap, v = .slice ao len cap ∧ len ≤ cap ∧ cap ≤ maxLen ∧ (len = 0 ∨ ∃ g off cur e, ao = some ⟨g, off, none⟩ ∧ G g ∧ W.heap[g]? = some (.cells cur e (0, 0)) ∧ off + len ≤ cur.size ∧ ∀ i, i < len → cur[off + i]? = some m)

theorem ML.keep {G T : Nat → Prop} {W W' : World} {m v : Value} (h : ML G W m v) (hk : Keeps T W W') (hd : ∀ k, k < W.heap.size → G k → ¬ T k) : ML G W' m v := by
  obtain ⟨ao, len, cap, h1, h2, h3, h4⟩ := h
  refine ⟨ao, len, cap, h1, h2, h3, ?_⟩
  rcases h4 with h4 | ⟨g, off, cur, e, a1, a2, a3, a4, a5⟩
  · exact .inl h4
  · exact .inr ⟨g, off, cur, e, a1, a2, hk.heap a3 (hd g (lt_of_heap a3) a2), a4, a5⟩
theorem ML.mono {G T : Nat → Prop} {W : World} {m v : Value} (h : ML G W m v) (hs : ∀ k, k < W.heap.size → G k → T k) : ML T W m v := by
  obtain ⟨ao, len, cap, h1, h2, h3, h4⟩ := h
  refine ⟨ao, len, cap, h1, h2, h3, ?_⟩
  rcases h4 with h4 | ⟨g, off, cur, e, a1, a2, a3, a4, a5⟩
  · exact .inl h4
  · exact .inr ⟨g, off, cur, e, a1, hs g (lt_of_heap a3) a2, a3, a4, a5⟩
/-- Marks written over marks, or elsewhere. -/
theorem ML.mark {G : Nat → Prop} {W : World} {m v : Value} (h : ML G W m v) {g0 o k : Nat} {cur0 : Array Value} {e0 : TypeId} (hg : W.heap[g0]? = some (.cells cur0 e0 (0, 0))) (hs : o + k ≤ cur0.size) : ML G (W.setCells g0 o (List.replicate k m)) m v := by
  obtain ⟨ao, len, cap, h1, h2, h3, h4⟩ := h
  refine ⟨ao, len, cap, h1, h2, h3, ?_⟩
  rcases h4 with h4 | ⟨g, off, cur, e, a1, a2, a3, a4, a5⟩
  · exact .inl h4
  · by_cases hgg : g = g0
    · subst hgg
      rw [a3] at hg
      cases hg
      obtain ⟨cur', q1, q2, q3, q4⟩ := setCells_row g m e0 k o W cur0 a3 hs
      refine .inr ⟨g, off, cur', e0, a1, a2, q1, by omega, fun i hi => ?_⟩
      by_cases hr : o ≤ off + i ∧ off + i < o + k
      · exact q3 _ hr.1 hr.2
      · rw [q4 _ (by omega)]; exact a5 i hi
    · exact .inr ⟨g, off, cur, e, a1, a2, (keeps_setCells g0 _ _ _).heap a3 hgg, a4, a5⟩

theorem l_moreG {ao : Option Addr} {nl cap : Nat} {m : Value} {W : World} (hR : KR ao nl cap m W) (hc : nl ≤ cap) (hcm : cap ≤ maxLen) (hnl : nl ≤ 1000) (k : Nat) (cs : Array Value) (hcs : cs.toList = List.replicate k m) (hk : 0 < k) (hk3 : k ≤ 3) (hm : m.oneCell' = true) :
    ∃ g o c w1, (bytesAppend #[.slice ao nl cap, .slice (some ⟨W.heap.size, 0, none⟩) k k]).run Tryz.prog (W.alloc (.cells cs 5)) = .ok (.slice (some ⟨g, o, none⟩) (nl + k) c) w1 ∧ KR ao nl cap m w1 ∧ Keeps (fun x => ∃ off, ao = some ⟨x, off, none⟩) W w1 ∧
      ML (fun x => (∃ off, ao = some ⟨x, off, none⟩) ∨ W.heap.size ≤ x) w1 m (.slice (some ⟨g, o, none⟩) (nl + k) c) ∧ ∀ G v, ML G W m v → ML G w1 m v := by
  obtain ⟨i8, hi8, hz80, hz81, hz82⟩ := info_parts infoU8
  have hkA : Keeps (fun _ => False) W (W.alloc (.cells cs 5)) := (Keeps.refl _ _).alloc _
  have hnews := World.news_of_block (w := W.alloc (.cells cs 5)) (cs := cs) (t := 5) (fr := (0, 0)) (heap_alloc_new W _)
  have hlen : cs.toList.length = k * 1 := by rw [hcs]; simp
  have h1 : ∀ u ∈ cs.toList, u.oneCell' = true := fun u hu => by rw [hcs] at hu; rw [(List.mem_replicate.1 hu).2]; exact hm
  by_cases hroom : nl + k ≤ cap
  · rcases hR with ⟨_, _, h0⟩ | ⟨g, off, cur, e, rfl, a2, a3, a4⟩
    · omega
    · have b2 := hkA.heap a2 (fun f => f)
      have hrun := run_append_room_cells (P := Tryz.prog) (W.alloc (.cells cs 5)) 138 138 5 i8 Tryz.underlying138 hi8 g off nl cap ⟨W.heap.size, 0, none⟩ k k cs.toList (by rw [hlen, hz81]) hnews h1 hroom
        (fun j hj => by rw [cell_of_heap b2, hz81, Array.getElem?_eq_getElem (by omega)]; rfl) (fun j _ => frozen_of_heap b2)
      rw [hz81, hcs] at hrun
      obtain ⟨cur', q1, q2, q3, q4⟩ := setCells_row g m e k (off + nl * 1) (W.alloc (.cells cs 5)) cur b2 (by omega)
      refine ⟨g, off, cap, _, hrun, .inr ⟨g, off, cur', e, rfl, q1, by omega, fun i hi => ?_⟩, ?_, ⟨_, nl + k, cap, rfl, hroom, hcm, .inr ⟨g, off, cur', e, rfl, .inl ⟨off, rfl⟩, q1, by omega, fun i hi => ?_⟩⟩, fun G v hv => ?_⟩
      · rw [q4 _ (.inl (by omega))]; exact a4 i hi
      · exact (hkA.mono (T := fun x => ∃ o, some (⟨g, off, none⟩ : Addr) = some ⟨x, o, none⟩) (fun _ _ f => f.elim)).trans (keeps_setCells g _ _ _) (fun x _ e => ⟨off, by rw [e]⟩)
      · by_cases hi' : i < nl
        · rw [q4 _ (.inl (by omega))]; exact a4 i hi'
        · exact q3 _ (by omega) (by omega)
      · exact ML.mark (hv.keep hkA (fun _ _ _ f => f)) b2 (by omega)
  · have key : ∃ v' w', (Builtin.append_ #[138, 138] 138 #[.slice ao nl cap, .slice (some ⟨W.heap.size, 0, none⟩) k k]).run Tryz.prog (W.alloc (.cells cs 5)) = .ok v' w' ∧ w'.ownsRow (W.alloc (.cells cs 5)).heap.size 5 1 v' (nl + k) (List.replicate nl m ++ cs.toList) ∧ (W.alloc (.cells cs 5)).grownBy w' none := by
      rcases hR with ⟨rfl, rfl, rfl⟩ | ⟨g, off, cur, e, rfl, a2, a3, a4⟩
      · obtain ⟨v', w', r0, r1, r2, _⟩ := run_append_own (P := Tryz.prog) (W.alloc (.cells cs 5)) (W.alloc (.cells cs 5)).heap.size 138 138 5 i8 _ 1 1 Tryz.underlying138 hi8 hz80 hz81 hz82 rfl (by omega) (.slice none 0 0) 0 [] (World.ownsRow_nil _ _ _ _) ⟨W.heap.size, 0, none⟩ k k cs.toList hlen hnews h1 (by unfold maxLen; omega) (by omega) (Nat.le_refl _)
        exact ⟨v', w', r0, r1, r2⟩
      · have b2 := hkA.heap a2 (fun f => f)
        refine run_append_arg_grows (P := Tryz.prog) _ 138 138 5 i8 _ 1 1 Tryz.underlying138 hi8 hz80 hz81 hz82 rfl (by omega) ⟨g, off, none⟩ nl cap (List.replicate nl m) (by simp) (fun j u hu => ?_) _ k k cs.toList hlen hnews (by omega) (by unfold maxLen; omega) (by omega)
        rw [List.getElem?_replicate] at hu
        split at hu
        · cases hu
          have hadd : (⟨g, off, none⟩ : Addr).add j = ⟨g, off + j, none⟩ := by unfold Addr.add; split <;> simp_all
          rw [hadd, cell_of_heap b2]
          exact a4 j (by omega)
        · cases hu
    obtain ⟨v', w', r0, r1, r2⟩ := key
    obtain ⟨g, c, rfl, _, _⟩ := r1.form (by omega)
    rw [hcs] at r1
    have hkw : Keeps (fun _ => False) W w' := hkA.grown r2 (fun k h _ => by cases h)
    have hnl' := newList_of (w := W) r1 rfl (by simp)
    refine ⟨g, 0, c, w', r0, ?_, hkw.mono (fun _ _ f => f.elim), ?_, fun G v hv => hv.keep hkw (fun _ _ _ f => f)⟩
    · rcases hR with h | ⟨g', off, cur, e, rfl, a2, a3, a4⟩
      · exact .inl h
      · exact .inr ⟨g', off, cur, e, rfl, hkw.heap a2 (fun f => f), a3, a4⟩
    · obtain ⟨g', c', cur, e1, e2, e3, e4, e5, e6, e7, e8⟩ := hnl'
      cases e1
      exact ⟨_, _, _, rfl, e5, e6, .inr ⟨g, 0, cur, _, rfl, .inr e2, e4, by omega, fun i hi => by rw [Nat.zero_add]; exact e8 i hi⟩⟩

/-- The seven appends, one behind the other, in the worlds in which they are made. -/
theorem chainG {T : Nat → Prop} {p nl cap : Nat} {ao : Option Addr} {vcs vvs vks vb v4 v5 v6 : Value} {ls : List Value} {w wr : World} {m : Int}
    (hR : KR ao nl cap (.int .u8 m) wr) (hcc : nl ≤ cap) (hcm : cap ≤ maxLen) (hnl : nl ≤ 1000) (hszr : w.heap.size ≤ wr.heap.size) (hpa : ∀ off, ao ≠ some ⟨p, off, none⟩) (hTa : ∀ k off, ao = some ⟨k, off, none⟩ → ¬ T k) (hpr : wr.heap[p]? = some (.cells #[vcs, vvs, vks, vb, v4, v5, v6] 79 (0, 0))) (hrow : Own (fun k => T k ∧ k < w.heap.size) wr 138 1 vb ls.length ls) (hpT : ¬ T p) (hplt : p < w.heap.size) (hN : (ls.length + 4) * 24 ≤ 140737488355328) :
    ∃ g1 o1 cp1 w1 g2 o2 cp2 w2 g3 o3 cp3 w3 q4 c4 w4 q5 c5 w5 q6 c6 w6 q7 c7 w7,
      (bytesAppend #[.slice ao nl cap, .slice (some ⟨wr.heap.size, 0, none⟩) 1 1]).run Tryz.prog (wr.alloc (.cells #[.int .u8 m] 5)) = .ok (.slice (some ⟨g1, o1, none⟩) (nl + 1) cp1) w1 ∧
      (bytesAppend #[.slice ao nl cap, .slice (some ⟨w1.heap.size, 0, none⟩) 2 2]).run Tryz.prog (w1.alloc (.cells #[.int .u8 m, .int .u8 m] 5)) = .ok (.slice (some ⟨g2, o2, none⟩) (nl + 2) cp2) w2 ∧
      (bytesAppend #[.slice ao nl cap, .slice (some ⟨w2.heap.size, 0, none⟩) 3 3]).run Tryz.prog (w2.alloc (.cells #[.int .u8 m, .int .u8 m, .int .u8 m] 5)) = .ok (.slice (some ⟨g3, o3, none⟩) (nl + 3) cp3) w3 ∧
      (rowAppend #[vb, .slice (some ⟨w3.heap.size, 0, none⟩) 1 1]).run Tryz.prog (w3.alloc (.cells #[.slice ao nl cap] 138)) = .ok (.slice (some ⟨q4, 0, none⟩) (ls.length + 1) c4) w4 ∧
      (rowAppend #[.slice (some ⟨q4, 0, none⟩) (ls.length + 1) c4, .slice (some ⟨w4.heap.size, 0, none⟩) 1 1]).run Tryz.prog ((w4.setCell ⟨p, 3, none⟩ (.slice (some ⟨q4, 0, none⟩) (ls.length + 1) c4)).alloc (.cells #[.slice (some ⟨g1, o1, none⟩) (nl + 1) cp1] 138)) = .ok (.slice (some ⟨q5, 0, none⟩) (ls.length + 1 + 1) c5) w5 ∧
      (rowAppend #[.slice (some ⟨q5, 0, none⟩) (ls.length + 1 + 1) c5, .slice (some ⟨w5.heap.size, 0, none⟩) 1 1]).run Tryz.prog ((w5.setCell ⟨p, 3, none⟩ (.slice (some ⟨q5, 0, none⟩) (ls.length + 1 + 1) c5)).alloc (.cells #[.slice (some ⟨g2, o2, none⟩) (nl + 2) cp2] 138)) = .ok (.slice (some ⟨q6, 0, none⟩) (ls.length + 1 + 1 + 1) c6) w6 ∧
      (rowAppend #[.slice (some ⟨q6, 0, none⟩) (ls.length + 1 + 1 + 1) c6, .slice (some ⟨w6.heap.size, 0, none⟩) 1 1]).run Tryz.prog ((w6.setCell ⟨p, 3, none⟩ (.slice (some ⟨q6, 0, none⟩) (ls.length + 1 + 1 + 1) c6)).alloc (.cells #[.slice (some ⟨g3, o3, none⟩) (nl + 3) cp3] 138)) = .ok (.slice (some ⟨q7, 0, none⟩) (ls.length + 1 + 1 + 1 + 1) c7) w7 ∧
      w3.cell? ⟨p, 3, none⟩ = some vb ∧ w4.cell? ⟨p, 3, none⟩ = some vb ∧ w4.frozen? ⟨p, 3, none⟩ = false ∧ w5.cell? ⟨p, 3, none⟩ = some (.slice (some ⟨q4, 0, none⟩) (ls.length + 1) c4) ∧ w5.frozen? ⟨p, 3, none⟩ = false ∧
      w6.cell? ⟨p, 3, none⟩ = some (.slice (some ⟨q5, 0, none⟩) (ls.length + 1 + 1) c5) ∧ w6.frozen? ⟨p, 3, none⟩ = false ∧ w7.cell? ⟨p, 3, none⟩ = some (.slice (some ⟨q6, 0, none⟩) (ls.length + 1 + 1 + 1) c6) ∧ w7.frozen? ⟨p, 3, none⟩ = false ∧
      Hid (Keeps (fun x => ∃ off, ao = some ⟨x, off, none⟩) wr w3 ∧ KR ao nl cap (.int .u8 m) w3 ∧ ML (fun x => (∃ off, ao = some ⟨x, off, none⟩) ∨ wr.heap.size ≤ x) w3 (.int .u8 m) (.slice (some ⟨g1, o1, none⟩) (nl + 1) cp1) ∧ ML (fun x => (∃ off, ao = some ⟨x, off, none⟩) ∨ wr.heap.size ≤ x) w3 (.int .u8 m) (.slice (some ⟨g2, o2, none⟩) (nl + 2) cp2) ∧ ML (fun x => (∃ off, ao = some ⟨x, off, none⟩) ∨ wr.heap.size ≤ x) w3 (.int .u8 m) (.slice (some ⟨g3, o3, none⟩) (nl + 3) cp3) ∧
        (w7.setCell ⟨p, 3, none⟩ (.slice (some ⟨q7, 0, none⟩) (ls.length + 1 + 1 + 1 + 1) c7)).heap[p]? = some (.cells #[vcs, vvs, vks, .slice (some ⟨q7, 0, none⟩) (ls.length + 1 + 1 + 1 + 1) c7, v4, v5, v6] 79 (0, 0)) ∧
        Own (fun k => (T k ∧ k < w.heap.size) ∨ w3.heap.size ≤ k) (w7.setCell ⟨p, 3, none⟩ (.slice (some ⟨q7, 0, none⟩) (ls.length + 1 + 1 + 1 + 1) c7)) 138 1 (.slice (some ⟨q7, 0, none⟩) (ls.length + 1 + 1 + 1 + 1) c7) (ls.length + 1 + 1 + 1 + 1) (ls ++ [.slice ao nl cap] ++ [.slice (some ⟨g1, o1, none⟩) (nl + 1) cp1] ++ [.slice (some ⟨g2, o2, none⟩) (nl + 2) cp2] ++ [.slice (some ⟨g3, o3, none⟩) (nl + 3) cp3]) ∧
        Keeps (fun k => k = p ∨ (T k ∧ k < w.heap.size) ∨ w3.heap.size ≤ k) w3 (w7.setCell ⟨p, 3, none⟩ (.slice (some ⟨q7, 0, none⟩) (ls.length + 1 + 1 + 1 + 1) c7))) := by
  obtain ⟨hn4, hn5, hn6, hn7⟩ := arith24 ls.length hN
  have hpT0 : ¬ (T p ∧ p < w.heap.size) := fun h => hpT h.1
  obtain ⟨g1, o1, cp1, w1, run1, hR1, hk1, n1, st1⟩ := l_moreG hR hcc hcm hnl 1 #[.int .u8 m] rfl (by decide) (by decide) rfl
  obtain ⟨g2, o2, cp2, w2, run2, hR2, hk2, n2, st2⟩ := l_moreG hR1 hcc hcm hnl 2 #[.int .u8 m, .int .u8 m] rfl (by decide) (by decide) rfl
  have hk12 := hk1.trans hk2 (fun _ _ f => f)
  obtain ⟨g3, o3, cp3, w3, run3, hR3, hk3, n3, st3⟩ := l_moreG hR2 hcc hcm hnl 3 #[.int .u8 m, .int .u8 m, .int .u8 m] rfl (by decide) (by decide) rfl
  have hk13 := hk12.trans hk3 (fun _ _ f => f)
  have s1 := hk1.size
  have s12 := hk12.size
  have s13 := hk13.size
  have hp3 := hk13.heap hpr (fun h => by obtain ⟨off, h⟩ := h; exact hpa off h)
  have hrow3 : Own (fun k => (T k ∧ k < w.heap.size) ∨ w3.heap.size ≤ k) w3 138 1 vb ls.length ls := (hrow.keep hk13 (fun k _ t h => by obtain ⟨off, h⟩ := h; exact hTa k off h t.1)).mono (fun k _ h => .inl h)
  have hpN : p < w3.heap.size := Nat.lt_of_lt_of_le hplt (Nat.le_trans hszr s13)
  have m1 := st3 _ _ (st2 _ _ n1)
  have m2 := st3 _ _ (n2.mono (T := fun x => (∃ off, ao = some ⟨x, off, none⟩) ∨ wr.heap.size ≤ x) (fun k _ h => by rcases h with h | h; (exact .inl h); (exact .inr (by omega))))
  have m3 := n3.mono (T := fun x => (∃ off, ao = some ⟨x, off, none⟩) ∨ wr.heap.size ≤ x) (fun k _ h => by rcases h with h | h; (exact .inl h); (exact .inr (by omega)))
  obtain ⟨q4, c4, w4, run4, cc4, ff4, R4⟩ := row_run (TT := fun k => T k ∧ k < w.heap.size) (N := w3.heap.size) (x := .slice ao nl cap) hp3 hrow3 hpT0 hpN (Nat.le_refl _) rfl hn4 rfl
  obtain ⟨R4a, R4b, R4c, R4d, R4e⟩ := unhide R4
  obtain ⟨q5, c5, w5, run5, cc5, ff5, R5⟩ := row_run (TT := fun k => T k ∧ k < w.heap.size) (N := w3.heap.size) (x := .slice (some ⟨g1, o1, none⟩) (nl + 1) cp1) R4a R4b hpT0 hpN R4d R4e hn5 rfl
  obtain ⟨R5a, R5b, R5c, R5d, R5e⟩ := unhide R5
  obtain ⟨q6, c6, w6, run6, cc6, ff6, R6⟩ := row_run (TT := fun k => T k ∧ k < w.heap.size) (N := w3.heap.size) (x := .slice (some ⟨g2, o2, none⟩) (nl + 2) cp2) R5a R5b hpT0 hpN R5d R5e hn6 rfl
  obtain ⟨R6a, R6b, R6c, R6d, R6e⟩ := unhide R6
  obtain ⟨q7, c7, w7, run7, cc7, ff7, R7⟩ := row_run (TT := fun k => T k ∧ k < w.heap.size) (N := w3.heap.size) (x := .slice (some ⟨g3, o3, none⟩) (nl + 3) cp3) R6a R6b hpT0 hpN R6d R6e hn7 rfl
  obtain ⟨R7a, R7b, R7c, R7d, R7e⟩ := unhide R7
  exact ⟨g1, o1, cp1, w1, g2, o2, cp2, w2, g3, o3, cp3, w3, q4, c4, w4, q5, c5, w5, q6, c6, w6, q7, c7, w7, run1, run2, run3, run4, run5, run6, run7, cell_of_heap hp3, cc4, ff4, cc5, ff5, cc6, ff6, cc7, ff7,
    hide ⟨hk13, hR3, m1, m2, m3, R7a, R7b, ((R4c.trans R5c (fun _ _ h => h)).trans R6c (fun _ _ h => h)).trans R7c (fun _ _ h => h)⟩⟩

/-- Of the list that came out the first j cells are marked. -/
def KM (ao : Option Addr) (nl cap : Nat) (m : Value) (w : World) (j : Nat) (wr : World) : Prop :=
  Keeps (fun x => ∃ off, ao = some ⟨x, off, none⟩) w wr ∧ KR ao j cap m wr ∧ (ao = none → nl = 0)

theorem km_step {ao : Option Addr} {nl cap : Nat} {m : Value} {w wr : World} {j g off : Nat} (h : KM ao nl cap m w j wr) (hj : j < cap) (hg : ao = some ⟨g, off, none⟩) : KM ao nl cap m w (j + 1) (wr.setCell ⟨g, off + j, none⟩ m) := by
  obtain ⟨h1, h2, h3⟩ := h
  refine ⟨h1.setCell (p := ⟨g, off + j, none⟩) (.inl ⟨off, hg⟩) _, ?_, h3⟩
  rcases h2 with h2 | ⟨g', off', cur, e, a1, a2, a3, a4⟩
  · rw [h2.1] at hg; cases hg
  · rw [a1] at hg
    cases hg
    refine .inr ⟨g, off, _, e, a1, heap_setCell_same a2 m, by simpa using a3, fun i hi => ?_⟩
    by_cases hij : i = j
    · subst hij; rw [Array.getElem?_setIfInBounds_self, if_pos (by omega)]
    · rw [Array.getElem?_setIfInBounds_ne (by omega)]; exact a4 i (by omega)

/-- What keepsBytes leaves. -/
def KBG (T : Nat → Prop) (p nl cap : Nat) (ao : Option Addr) (vcs vvs vks v4 v5 v6 : Value) (ls : List Value) (w w' : World) : Prop :=
  ∃ w3 vb' x1 x2 x3, Keeps (fun x => ∃ off, ao = some ⟨x, off, none⟩) w w3 ∧ KR ao nl cap (.int .u8 (200 + (ls.length : Int) / 4 % 50)) w3 ∧
        ML (fun x => (∃ off, ao = some ⟨x, off, none⟩) ∨ w.heap.size ≤ x) w3 (.int .u8 (200 + (ls.length : Int) / 4 % 50)) x1 ∧ ML (fun x => (∃ off, ao = some ⟨x, off, none⟩) ∨ w.heap.size ≤ x) w3 (.int .u8 (200 + (ls.length : Int) / 4 % 50)) x2 ∧ ML (fun x => (∃ off, ao = some ⟨x, off, none⟩) ∨ w.heap.size ≤ x) w3 (.int .u8 (200 + (ls.length : Int) / 4 % 50)) x3 ∧
        w'.heap[p]? = some (.cells #[vcs, vvs, vks, vb', v4, v5, v6] 79 (0, 0)) ∧
        Own (fun k => (T k ∧ k < w.heap.size) ∨ w3.heap.size ≤ k) w' 138 1 vb' (ls.length + 4) (ls ++ [.slice ao nl cap] ++ [x1] ++ [x2] ++ [x3]) ∧
        Keeps (fun k => k = p ∨ (T k ∧ k < w.heap.size) ∨ w3.heap.size ≤ k) w3 w'

attribute [local go_sem ↓] bytesAppend_eq rowAppend_eq

set_option maxRecDepth 100000 in
set_option maxHeartbeats 400000 in
theorem keepsBytes_gen (T : Nat → Prop) (p nl cap : Nat) (ao : Option Addr) (vcs vvs vks vb v4 v5 v6 : Value) (ls : List Value) (w : World)
    (hp : w.heap[p]? = some (.cells #[vcs, vvs, vks, vb, v4, v5, v6] 79 (0, 0))) (hrow : Own T w 138 1 vb ls.length ls) (hpT : ¬ T p) (hN : (ls.length + 4) * 24 ≤ 140737488355328)
    (hl : (ao = none ∧ nl = 0 ∧ cap = 0) ∨ ∃ g off cs e, ao = some ⟨g, off, none⟩ ∧ w.heap[g]? = some (.cells cs e (0, 0)) ∧ off + cap ≤ cs.size ∧ g ≠ p ∧ ¬ T g) (hcc : nl ≤ cap) (hcm : cap ≤ maxLen) (hnl : nl ≤ 1000) :
    Calls Tryz.prog 194 #[.pointer (some ⟨p, 3, none⟩), .slice ao nl cap] w fun e w' => e = .returned (.tuple #[]) ∧ KBG T p nl cap ao vcs vvs vks v4 v5 v6 ls w w' := by
  have hR0 : KM ao nl cap (.int .u8 (200 + (ls.length : Int) / 4 % 50)) w 0 w := by
    refine ⟨Keeps.refl _ _, ?_, ?_⟩
    · rcases hl with h | ⟨g, off, cs, e, h1, h2, h3, h4⟩
      · exact .inl ⟨h.1, rfl, h.2.2⟩
      · exact .inr ⟨g, off, cs, e, h1, h2, h3, fun i hi => by omega⟩
    · intro e
      rcases hl with h | ⟨g, off, cs, e', h1, _⟩
      · exact h.2.1
      · rw [e] at h1; cases h1
  have hpa : ∀ off, ao ≠ some ⟨p, off, none⟩ := by
    intro off e
    rcases hl with h | ⟨g, off', cs, e', h1, _, _, h4, _⟩
    · rw [h.1] at e; cases e
    · rw [h1] at e; cases e; exact h4 rfl
  have hTa : ∀ k off, ao = some ⟨k, off, none⟩ → ¬ T k := by
    intro k off e
    rcases hl with h | ⟨g, off', cs, e', h1, _, _, _, h5⟩
    · rw [h.1] at e; cases e
    · rw [h1] at e; cases e; exact h5
  obtain ⟨ab, cb, rfl, hcb⟩ := hrow.len
  have c3 := cell_of_heap (o := 3) hp
  simp at c3
  have hplt := lt_of_heap hp
  have hcm' : cap ≤ 9223372036854775807 := by unfold maxLen at hcm; omega
  have HR0 := hide hR0
  have HROW := hide hrow
  have HPA := hide hpa
  have HTA := hide hTa
  have HP := hide hp
  have HCM := hide hcm
  clear hR0 hrow hl hp hpa hTa hcm
  go_enter Tryz.func194, Tryz.ntmps194
  go_wp2_with (go_at_call 81; refine (markByte_any ls.length _ (by omega)).mono ?_; rintro e w' ⟨rfl, rfl⟩)
  go_loopw [5] (fun i wr => ∃ j : Nat, j ≤ nl ∧ i = .int .i64 j ∧ Hid (KM ao nl cap (.int .u8 (200 + (ls.length : Int) / 4 % 50)) w' j wr)) (fun i _ => nl - (intOf i).toNat)
  case atStart => exact ⟨0, Nat.zero_le _, rfl, HR0⟩
  case round =>
    obtain ⟨j, hj, rfl, HR⟩ := hrel
    by_cases hlt : j < nl
    · rcases (unhide HR).2.1 with h2 | ⟨g, off, cur, e, a1, a2, a3, a4⟩
      · have := (unhide HR).2.2 h2.1; omega
      · subst a1
        have hc := cell_of_heap (o := off + j) a2
        have hf := frozen_of_heap (o := off + j) a2
        rw [Array.getElem?_eq_getElem (by omega)] at hc
        clear a4
        go_wp2
        go_roundw
        case rel => exact ⟨j + 1, by omega, by go_num, hide (km_step (unhide HR) (by omega) rfl)⟩
        case measure => simp [intOf]; omega
    · have hjn : j = nl := by omega
      subst hjn
      obtain ⟨hkm, hkr, _⟩ := unhide HR
      rename_i hx; clear hx
      have hpr := hkm.heap (unhide HP) (fun h => by obtain ⟨off, h⟩ := h; exact unhide HPA off h)
      have hszr := hkm.size
      have hrowr : Own (fun k => T k ∧ k < w'.heap.size) wr 138 1 (.slice ab ls.length cb) ls.length ls :=
        ((unhide HROW).mono (T := fun k => T k ∧ k < w'.heap.size) (fun k h1 h2 => ⟨h2, h1⟩)).keep hkm (fun k _ h e => by obtain ⟨off, e⟩ := e; exact unhide HTA k off e h.1)
      have HPR := hide hpr
      have HROWR := hide hrowr
      have HKM := hide hkm
      have HKR := hide hkr
      have hpltr := lt_of_heap hpr
      clear hkm hkr hpr hrowr HR
      generalize hm : (200 + (ls.length : Int) / 4 % 50) = m at *
      have HM := hide hm
      clear hm
      obtain ⟨g1, o1, cp1, w1, g2, o2, cp2, w2, g3, o3, cp3, w3, q4, c4, w4, q5, c5, w5, q6, c6, w6, q7, c7, w7, run1, run2, run3, run4, run5, run6, run7, d3, cc4, ff4, cc5, ff5, cc6, ff6, cc7, ff7, HH⟩ := chainG (unhide HKR) hcc (unhide HCM) hnl hszr (unhide HPA) (unhide HTA) (unhide HPR) (unhide HROWR) hpT hplt hN
      go_wp2
      go_end0
      obtain ⟨e1, e2, e3, e4, e5, e6, e7, e8⟩ := unhide HH
      have em := unhide HM
      subst em
      have hup : ∀ k, (∃ off, ao = some (⟨k, off, none⟩ : Addr)) ∨ wr.heap.size ≤ k → (∃ off, ao = some (⟨k, off, none⟩ : Addr)) ∨ w'.heap.size ≤ k := fun k h => by rcases h with h | h; (exact .inl h); (exact .inr (by omega))
      exact ⟨rfl, w3, _, _, _, _, (unhide HKM).trans e1 (fun _ _ h => h), e2, e3.mono (fun k _ h => hup k h), e4.mono (fun k _ h => hup k h), e5.mono (fun k _ h => hup k h), e6, e7, e8⟩

end Go.Proofs.YthbmmbgkchiajaaGreat
