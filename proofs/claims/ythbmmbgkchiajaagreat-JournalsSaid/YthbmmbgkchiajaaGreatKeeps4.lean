
/- keepsBytes: the caller's marks, and four lists more in the book. -/
import Derived.Test.YthbmmbgkchiajaaGreatApartW
namespace Go.Proofs.YthbmmbgkchiajaaGreat
open Go.RowKit

/-- The list that came out, of which the first j cells are marked. -/
def KRel (ao : Option Addr) (nl : Nat) (m : Value) (w : World) (j : Nat) (wr : World) : Prop :=
  Keeps (fun k => ao = some ⟨k, 0, none⟩) w wr ∧ (nl = 0 ∨ ∃ g cur e, ao = some ⟨g, 0, none⟩ ∧ wr.heap[g]? = some (.cells cur e (0, 0)) ∧ nl ≤ cur.size ∧ ∀ i, i < j → cur[i]? = some m)

theorem krel_step {ao : Option Addr} {nl : Nat} {m : Value} {w wr : World} {j g : Nat} (h : KRel ao nl m w j wr) (hj : j < nl) (hg : ao = some ⟨g, 0, none⟩) : KRel ao nl m w (j + 1) (wr.setCell ⟨g, j, none⟩ m) := by
  obtain ⟨h1, h2⟩ := h
  refine ⟨h1.setCell (p := ⟨g, j, none⟩) (.inl hg) _, ?_⟩
  rcases h2 with h2 | ⟨g', cur, e, a1, a2, a3, a4⟩
  · omega
  · rw [a1] at hg
    cases hg
    refine .inr ⟨g, _, e, a1, heap_setCell_same a2 m, by simpa using a3, fun i hi => ?_⟩
    by_cases hij : i = j
    · subst hij; rw [Array.getElem?_setIfInBounds_self, if_pos (by omega)]
    · rw [Array.getElem?_setIfInBounds_ne (by omega)]; exact a4 i (by omega)

/-- Its cells, as append reads them, in a world that has turned nothing since. -/
theorem krel_olds {ao : Option Addr} {nl : Nat} {m : Value} {w wr w' : World} (h : KRel ao nl m w nl wr) (hk : Keeps (fun _ => False) wr w') (_h0 : ao = none → nl = 0) :
    ∀ b, ao = some b → ∀ j u, (List.replicate nl m)[j]? = some u → w'.cell? (b.add j) = some u := by
  intro b hb j u hu
  rw [List.getElem?_replicate] at hu
  split at hu
  · cases hu
    rcases h.2 with h2 | ⟨g, cur, e, a1, a2, a3, a4⟩
    · omega
    · rw [hb] at a1
      cases a1
      have hadd : (⟨g, 0, none⟩ : Addr).add j = ⟨g, j, none⟩ := by unfold Addr.add; split <;> simp_all
      rw [hadd, cell_of_heap (hk.heap a2 (fun h => h))]
      exact a4 j (by omega)
  · cases hu

theorem infoBytes : (Tryz.prog.info? 138).map (fun i => (i.zero, i.size, i.bytes)) = some (some (.slice none 0 0), 1, 24) := by kernel_rfl

theorem heap_alloc_set (w : World) (a : Addr) (u : Value) (o : Obj) : ((w.setCell a u).alloc o).heap[w.heap.size]? = some o := by
  have := heap_alloc_new (w.setCell a u) o
  simpa using this

/-- One list more in the row: append and store. -/
theorem row_more {TT : Nat → Prop} {w w1 : World} {p e n n' cap t gg H N : Nat} {cs : Array Value} {vl : Value} {xs ys : List Value}
    (hb : w.heap[p]? = some (.cells cs t (0, 0))) (hown : Own (fun k => TT k ∨ N ≤ k) w e 1 vl n xs) (hp : ¬ TT p) (hpN : p < N) (hNw : N ≤ w.heap.size) (hk : Keeps (fun k => vl.ownBlock = some k) w w1)
    (hown1 : w1.ownsRow 0 e 1 (.slice (some ⟨gg, 0, none⟩) n' cap) n' ys) (hat : vl.ownBlock = some gg ∨ gg = H) (hH : w.heap.size ≤ H) :
    (w1.setCell ⟨p, 3, none⟩ (.slice (some ⟨gg, 0, none⟩) n' cap)).heap[p]? = some (.cells (cs.setIfInBounds 3 (.slice (some ⟨gg, 0, none⟩) n' cap)) t (0, 0)) ∧
    Own (fun k => TT k ∨ N ≤ k) (w1.setCell ⟨p, 3, none⟩ (.slice (some ⟨gg, 0, none⟩) n' cap)) e 1 (.slice (some ⟨gg, 0, none⟩) n' cap) n' ys ∧
    Keeps (fun k => k = p ∨ TT k ∨ N ≤ k) w (w1.setCell ⟨p, 3, none⟩ (.slice (some ⟨gg, 0, none⟩) n' cap)) := by
  obtain ⟨f1, f2, f3⟩ := Own.field (f := 3) hb hown (fun h => by rcases h with h | h; exact hp h; omega) hk hown1 hat hH
  refine ⟨f1, f2.mono (fun k _ h => ?_), f3⟩
  rcases h with h | h
  · exact h
  · exact .inr (by omega)

/-- A new list: its block is new, its cells are marks. -/
def NewList (w w' : World) (m : Value) (n : Nat) (v : Value) : Prop := ∃ g cap cur, v = .slice (some ⟨g, 0, none⟩) n cap ∧ w.heap.size ≤ g ∧ g < w'.heap.size ∧ w'.heap[g]? = some (.cells cur 5 (0, 0)) ∧ n ≤ cap ∧ cap ≤ maxLen ∧ n ≤ cur.size ∧ ∀ i, i < n → cur[i]? = some m

theorem newList_of {w w1 : World} {base n g cap : Nat} {m : Value} {j k : Nat} (h : w1.ownsRow base 5 1 (.slice (some ⟨g, 0, none⟩) n cap) n (List.replicate j m ++ List.replicate k m)) (hn : n = j + k) (hb : w.heap.size ≤ base) : NewList w w1 m n (.slice (some ⟨g, 0, none⟩) n cap) := by
  rcases h.2 with ⟨h0, _⟩ | ⟨g', cap', cur, h0, h1, h2, h3, h4, h5, h6⟩
  · cases h0
  · cases h0
    refine ⟨g, cap, cur, rfl, by omega, lt_of_heap h2, h2, h3, h4, by omega, fun i hi => ?_⟩
    have : (cur.toList.take (n * 1))[i]? = some m := by
      rw [h6, List.replicate_append_replicate, List.getElem?_replicate, if_pos (by omega)]
    rw [List.getElem?_take, if_pos (by omega)] at this
    simpa using this

theorem NewList.keep {w w1 w2 : World} {m : Value} {n : Nat} {v : Value} {T : Nat → Prop} (h : NewList w w1 m n v) (hk : Keeps T w1 w2) (hT : ∀ k, w.heap.size ≤ k → k < w1.heap.size → ¬ T k) : NewList w w2 m n v := by
  obtain ⟨g, cap, cur, a1, a2, a3, a4, a5, a6, a7, a8⟩ := h
  exact ⟨g, cap, cur, a1, a2, Nat.lt_of_lt_of_le a3 hk.size, hk.heap a4 (hT g a2 a3), a5, a6, a7, a8⟩

def bytesAppend (args : Array Value) : Sem Value := Builtin.append_ #[138, 138] 138 args
theorem bytesAppend_eq (args : Array Value) : Builtin.append_ #[138, 138] 138 args = bytesAppend args := rfl
def rowAppend (args : Array Value) : Sem Value := Builtin.append_ #[72, 72] 72 args
theorem rowAppend_eq (args : Array Value) : Builtin.append_ #[72, 72] 72 args = rowAppend args := rfl

theorem l_more {ao : Option Addr} {nl : Nat} {m : Value} {w wr W : World} (hR : KRel ao nl m w nl wr) (hkW : Keeps (fun _ => False) wr W) (h0 : ao = none → nl = 0) (hnl : nl ≤ 1000) (k : Nat) (cs : Array Value) (hcs : cs.toList = List.replicate k m) (hk : 0 < k) (hk3 : k ≤ 3) (hm : m.oneCell' = true) :
    ∃ g cap w1, (bytesAppend #[.slice ao nl nl, .slice (some ⟨W.heap.size, 0, none⟩) k k]).run Tryz.prog (W.alloc (.cells cs 5)) = .ok (.slice (some ⟨g, 0, none⟩) (nl + k) cap) w1 ∧ Keeps (fun _ => False) W w1 ∧ NewList W w1 m (nl + k) (.slice (some ⟨g, 0, none⟩) (nl + k) cap) := by
  obtain ⟨i8, hi8, hz80, hz81, hz82⟩ := info_parts infoU8
  have holds := krel_olds hR (hkW.alloc (.cells cs 5)) h0
  have hnews := World.news_of_block (w := W.alloc (.cells cs 5)) (cs := cs) (t := 5) (fr := (0, 0)) (heap_alloc_new W _)
  have hlen : cs.toList.length = k * 1 := by rw [hcs]; simp
  have h1 : ∀ u ∈ cs.toList, u.oneCell' = true := fun u hu => by rw [hcs] at hu; rw [(List.mem_replicate.1 hu).2]; exact hm
  have key : ∃ v' w', (Builtin.append_ #[138, 138] 138 #[.slice ao nl nl, .slice (some ⟨W.heap.size, 0, none⟩) k k]).run Tryz.prog (W.alloc (.cells cs 5)) = .ok v' w' ∧ w'.ownsRow (W.alloc (.cells cs 5)).heap.size 5 1 v' (nl + k) (List.replicate nl m ++ cs.toList) ∧ (W.alloc (.cells cs 5)).grownBy w' none := by
    cases ao with
    | some b => exact run_append_arg_grows (P := Tryz.prog) _ 138 138 5 i8 _ 1 1 Tryz.underlying138 hi8 hz80 hz81 hz82 rfl (by omega) b nl nl (List.replicate nl m) (by simp) (holds b rfl) _ k k cs.toList hlen hnews (by omega) (by unfold maxLen; omega) (by omega)
    | none =>
      obtain rfl := h0 rfl
      obtain ⟨v', w', r0, r1, r2, _⟩ := run_append_own (P := Tryz.prog) (W.alloc (.cells cs 5)) (W.alloc (.cells cs 5)).heap.size 138 138 5 i8 _ 1 1 Tryz.underlying138 hi8 hz80 hz81 hz82 rfl (by omega) (.slice none 0 0) 0 [] (World.ownsRow_nil _ _ _ _) ⟨W.heap.size, 0, none⟩ k k cs.toList hlen hnews h1 (by unfold maxLen; omega) (by omega) (Nat.le_refl _)
      exact ⟨v', w', r0, r1, r2⟩
  obtain ⟨v', w', r0, r1, r2⟩ := key
  obtain ⟨g, cap, rfl, _, _⟩ := r1.form (by omega)
  rw [hcs] at r1
  refine ⟨g, cap, w', r0, ((Keeps.refl _ W).alloc _).grown r2 (fun k h _ => by cases h), newList_of r1 rfl (by simp)⟩

theorem row_run {TT : Nat → Prop} {X : World} {p n N N' : Nat} {v0 v1 v2 v4 v5 v6 vl x : Value} {xs : List Value} (hb : X.heap[p]? = some (.cells #[v0, v1, v2, vl, v4, v5, v6] 79 (0, 0))) (hown : Own (fun k => TT k ∨ N ≤ k) X 138 1 vl n xs) (hp : ¬ TT p) (hpN : p < N) (hNX : N ≤ X.heap.size)
    (hN' : X.heap.size = N') (hn : (n + 1) * 24 ≤ 140737488355328) (hx : x.oneCell' = true) :
    ∃ q c w1, (rowAppend #[vl, .slice (some ⟨N', 0, none⟩) 1 1]).run Tryz.prog (X.alloc (.cells #[x] 138)) = .ok (.slice (some ⟨q, 0, none⟩) (n + 1) c) w1 ∧ w1.cell? ⟨p, 3, none⟩ = some vl ∧ w1.frozen? ⟨p, 3, none⟩ = false ∧
      Hid ((w1.setCell ⟨p, 3, none⟩ (.slice (some ⟨q, 0, none⟩) (n + 1) c)).heap[p]? = some (.cells #[v0, v1, v2, .slice (some ⟨q, 0, none⟩) (n + 1) c, v4, v5, v6] 79 (0, 0)) ∧
      Own (fun k => TT k ∨ N ≤ k) (w1.setCell ⟨p, 3, none⟩ (.slice (some ⟨q, 0, none⟩) (n + 1) c)) 138 1 (.slice (some ⟨q, 0, none⟩) (n + 1) c) (n + 1) (xs ++ [x]) ∧
      Keeps (fun k => k = p ∨ TT k ∨ N ≤ k) X (w1.setCell ⟨p, 3, none⟩ (.slice (some ⟨q, 0, none⟩) (n + 1) c)) ∧ N ≤ (w1.setCell ⟨p, 3, none⟩ (.slice (some ⟨q, 0, none⟩) (n + 1) c)).heap.size ∧ (w1.setCell ⟨p, 3, none⟩ (.slice (some ⟨q, 0, none⟩) (n + 1) c)).heap.size = w1.heap.size) := by
  subst hN'
  obtain ⟨iB, hiB, hzB0, hzB1, hzB2⟩ := info_parts infoBytes
  obtain ⟨q, c, w1, r0, r1, r2, r3, _⟩ := run_append_lies (P := Tryz.prog) (X.alloc (.cells #[x] 138)) 72 72 0 138 iB _ 1 24 Tryz.underlying72 hiB hzB0 hzB1 hzB2 rfl (by omega) vl n xs (hown.1.alloc _) ⟨X.heap.size, 0, none⟩ 1 1 [x] rfl
    (World.news_of_block (cs := #[x]) (t := 138) (fr := (0, 0)) (heap_alloc_new X _)) (fun u hu => by rw [List.mem_singleton.1 hu]; exact hx) (by omega) (by unfold maxLen; omega) (by omega) (Nat.zero_le _) (X.heap.size + 1) (by simp)
  have hk1 := keeps_grown ((Keeps.refl _ X).alloc _) r2
  have hb1 := hk1.heap hb (fun e => by rcases hown.2 _ e with h | h; exact hp h; omega)
  obtain ⟨f1, f2, f3⟩ := row_more hb hown hp hpN hNX hk1 r1 r3 (by omega)
  refine ⟨q, c, w1, r0, cell_of_heap hb1, frozen_of_heap hb1, hide ⟨f1, f2, f3, Nat.le_trans hNX f3.size, by simp [World.setCell]⟩⟩

theorem arith24 (n : Nat) (h : (n + 4) * 24 ≤ 140737488355328) : (n + 1) * 24 ≤ 140737488355328 ∧ (n + 1 + 1) * 24 ≤ 140737488355328 ∧ (n + 1 + 1 + 1) * 24 ≤ 140737488355328 ∧ (n + 1 + 1 + 1 + 1) * 24 ≤ 140737488355328 := by
  exact ⟨Nat.le_trans (Nat.mul_le_mul_right 24 (by omega)) h, Nat.le_trans (Nat.mul_le_mul_right 24 (by omega)) h, Nat.le_trans (Nat.mul_le_mul_right 24 (by omega)) h, Nat.le_trans (Nat.mul_le_mul_right 24 (by omega)) h⟩

/-- The seven appends, one behind the other, in the worlds in which they are made. -/
theorem chain {T : Nat → Prop} {p nl : Nat} {ao : Option Addr} {vcs vvs vks vb v4 v5 v6 : Value} {ls : List Value} {w wr : World} {m : Int}
    (hR : KRel ao nl (.int .u8 m) w nl wr) (h0 : ao = none → nl = 0) (hnl : nl ≤ 1000) (hpr : wr.heap[p]? = some (.cells #[vcs, vvs, vks, vb, v4, v5, v6] 79 (0, 0))) (hrow : Own (fun k => T k ∧ k < w.heap.size) wr 138 1 vb ls.length ls) (hpT : ¬ T p) (hplt : p < w.heap.size) (hN : (ls.length + 4) * 24 ≤ 140737488355328) :
    ∃ g1 cp1 w1 g2 cp2 w2 g3 cp3 w3 q4 c4 w4 q5 c5 w5 q6 c6 w6 q7 c7 w7,
      (bytesAppend #[.slice ao nl nl, .slice (some ⟨wr.heap.size, 0, none⟩) 1 1]).run Tryz.prog (wr.alloc (.cells #[.int .u8 m] 5)) = .ok (.slice (some ⟨g1, 0, none⟩) (nl + 1) cp1) w1 ∧
      (bytesAppend #[.slice ao nl nl, .slice (some ⟨w1.heap.size, 0, none⟩) 2 2]).run Tryz.prog (w1.alloc (.cells #[.int .u8 m, .int .u8 m] 5)) = .ok (.slice (some ⟨g2, 0, none⟩) (nl + 2) cp2) w2 ∧
      (bytesAppend #[.slice ao nl nl, .slice (some ⟨w2.heap.size, 0, none⟩) 3 3]).run Tryz.prog (w2.alloc (.cells #[.int .u8 m, .int .u8 m, .int .u8 m] 5)) = .ok (.slice (some ⟨g3, 0, none⟩) (nl + 3) cp3) w3 ∧
      (rowAppend #[vb, .slice (some ⟨w3.heap.size, 0, none⟩) 1 1]).run Tryz.prog (w3.alloc (.cells #[.slice ao nl nl] 138)) = .ok (.slice (some ⟨q4, 0, none⟩) (ls.length + 1) c4) w4 ∧
      (rowAppend #[.slice (some ⟨q4, 0, none⟩) (ls.length + 1) c4, .slice (some ⟨w4.heap.size, 0, none⟩) 1 1]).run Tryz.prog ((w4.setCell ⟨p, 3, none⟩ (.slice (some ⟨q4, 0, none⟩) (ls.length + 1) c4)).alloc (.cells #[.slice (some ⟨g1, 0, none⟩) (nl + 1) cp1] 138)) = .ok (.slice (some ⟨q5, 0, none⟩) (ls.length + 1 + 1) c5) w5 ∧
      (rowAppend #[.slice (some ⟨q5, 0, none⟩) (ls.length + 1 + 1) c5, .slice (some ⟨w5.heap.size, 0, none⟩) 1 1]).run Tryz.prog ((w5.setCell ⟨p, 3, none⟩ (.slice (some ⟨q5, 0, none⟩) (ls.length + 1 + 1) c5)).alloc (.cells #[.slice (some ⟨g2, 0, none⟩) (nl + 2) cp2] 138)) = .ok (.slice (some ⟨q6, 0, none⟩) (ls.length + 1 + 1 + 1) c6) w6 ∧
      (rowAppend #[.slice (some ⟨q6, 0, none⟩) (ls.length + 1 + 1 + 1) c6, .slice (some ⟨w6.heap.size, 0, none⟩) 1 1]).run Tryz.prog ((w6.setCell ⟨p, 3, none⟩ (.slice (some ⟨q6, 0, none⟩) (ls.length + 1 + 1 + 1) c6)).alloc (.cells #[.slice (some ⟨g3, 0, none⟩) (nl + 3) cp3] 138)) = .ok (.slice (some ⟨q7, 0, none⟩) (ls.length + 1 + 1 + 1 + 1) c7) w7 ∧
      w3.cell? ⟨p, 3, none⟩ = some vb ∧ w4.cell? ⟨p, 3, none⟩ = some vb ∧ w4.frozen? ⟨p, 3, none⟩ = false ∧ w5.cell? ⟨p, 3, none⟩ = some (.slice (some ⟨q4, 0, none⟩) (ls.length + 1) c4) ∧ w5.frozen? ⟨p, 3, none⟩ = false ∧
      w6.cell? ⟨p, 3, none⟩ = some (.slice (some ⟨q5, 0, none⟩) (ls.length + 1 + 1) c5) ∧ w6.frozen? ⟨p, 3, none⟩ = false ∧ w7.cell? ⟨p, 3, none⟩ = some (.slice (some ⟨q6, 0, none⟩) (ls.length + 1 + 1 + 1) c6) ∧ w7.frozen? ⟨p, 3, none⟩ = false ∧
      Hid (Keeps (fun _ => False) wr w3 ∧ NewList wr w3 (.int .u8 m) (nl + 1) (.slice (some ⟨g1, 0, none⟩) (nl + 1) cp1) ∧ NewList wr w3 (.int .u8 m) (nl + 2) (.slice (some ⟨g2, 0, none⟩) (nl + 2) cp2) ∧ NewList wr w3 (.int .u8 m) (nl + 3) (.slice (some ⟨g3, 0, none⟩) (nl + 3) cp3) ∧
        (w7.setCell ⟨p, 3, none⟩ (.slice (some ⟨q7, 0, none⟩) (ls.length + 1 + 1 + 1 + 1) c7)).heap[p]? = some (.cells #[vcs, vvs, vks, .slice (some ⟨q7, 0, none⟩) (ls.length + 1 + 1 + 1 + 1) c7, v4, v5, v6] 79 (0, 0)) ∧
        Own (fun k => (T k ∧ k < w.heap.size) ∨ w3.heap.size ≤ k) (w7.setCell ⟨p, 3, none⟩ (.slice (some ⟨q7, 0, none⟩) (ls.length + 1 + 1 + 1 + 1) c7)) 138 1 (.slice (some ⟨q7, 0, none⟩) (ls.length + 1 + 1 + 1 + 1) c7) (ls.length + 1 + 1 + 1 + 1) (ls ++ [.slice ao nl nl] ++ [.slice (some ⟨g1, 0, none⟩) (nl + 1) cp1] ++ [.slice (some ⟨g2, 0, none⟩) (nl + 2) cp2] ++ [.slice (some ⟨g3, 0, none⟩) (nl + 3) cp3]) ∧
        Keeps (fun k => k = p ∨ (T k ∧ k < w.heap.size) ∨ w3.heap.size ≤ k) w3 (w7.setCell ⟨p, 3, none⟩ (.slice (some ⟨q7, 0, none⟩) (ls.length + 1 + 1 + 1 + 1) c7))) := by
  obtain ⟨hn4, hn5, hn6, hn7⟩ := arith24 ls.length hN
  have hpT0 : ¬ (T p ∧ p < w.heap.size) := fun h => hpT h.1
  have hszr := hR.1.size
  obtain ⟨g1, cp1, w1, run1, hk1, n1⟩ := l_more hR (Keeps.refl _ wr) h0 hnl 1 #[.int .u8 m] rfl (by decide) (by decide) rfl
  obtain ⟨g2, cp2, w2, run2, hk2, n2⟩ := l_more hR hk1 h0 hnl 2 #[.int .u8 m, .int .u8 m] rfl (by decide) (by decide) rfl
  have hk12 := hk1.trans hk2 (fun _ _ f => f.elim)
  obtain ⟨g3, cp3, w3, run3, hk3, n3⟩ := l_more hR hk12 h0 hnl 3 #[.int .u8 m, .int .u8 m, .int .u8 m] rfl (by decide) (by decide) rfl
  have hk13 := hk12.trans hk3 (fun _ _ f => f.elim)
  have hk23 := hk2.trans hk3 (fun _ _ f => f.elim)
  have s1 := hk1.size
  have s12 := hk12.size
  have s13 := hk13.size
  have hp3 := hk13.heap hpr (fun h => h)
  have hrow3 : Own (fun k => (T k ∧ k < w.heap.size) ∨ w3.heap.size ≤ k) w3 138 1 vb ls.length ls := (hrow.keep hk13 (fun _ _ _ h => h)).mono (fun k _ h => .inl h)
  have hpN : p < w3.heap.size := Nat.lt_of_lt_of_le hplt (Nat.le_trans hszr s13)
  have m1 : NewList wr w3 (.int .u8 m) (nl + 1) (.slice (some ⟨g1, 0, none⟩) (nl + 1) cp1) := n1.keep hk23 (fun _ _ _ h => h)
  have m2 : NewList wr w3 (.int .u8 m) (nl + 2) (.slice (some ⟨g2, 0, none⟩) (nl + 2) cp2) := by
    obtain ⟨g, cap, cur, a1, a2, a3⟩ := n2.keep hk3 (fun _ _ _ h => h)
    exact ⟨g, cap, cur, a1, Nat.le_trans s1 a2, a3⟩
  have m3 : NewList wr w3 (.int .u8 m) (nl + 3) (.slice (some ⟨g3, 0, none⟩) (nl + 3) cp3) := by
    obtain ⟨g, cap, cur, a1, a2, a3⟩ := n3
    exact ⟨g, cap, cur, a1, Nat.le_trans s12 a2, a3⟩
  obtain ⟨q4, c4, w4, run4, cc4, ff4, R4⟩ := row_run (TT := fun k => T k ∧ k < w.heap.size) (N := w3.heap.size) (x := .slice ao nl nl) hp3 hrow3 hpT0 hpN (Nat.le_refl _) rfl hn4 rfl
  obtain ⟨R4a, R4b, R4c, R4d, R4e⟩ := unhide R4
  obtain ⟨q5, c5, w5, run5, cc5, ff5, R5⟩ := row_run (TT := fun k => T k ∧ k < w.heap.size) (N := w3.heap.size) (x := .slice (some ⟨g1, 0, none⟩) (nl + 1) cp1) R4a R4b hpT0 hpN R4d R4e hn5 rfl
  obtain ⟨R5a, R5b, R5c, R5d, R5e⟩ := unhide R5
  obtain ⟨q6, c6, w6, run6, cc6, ff6, R6⟩ := row_run (TT := fun k => T k ∧ k < w.heap.size) (N := w3.heap.size) (x := .slice (some ⟨g2, 0, none⟩) (nl + 2) cp2) R5a R5b hpT0 hpN R5d R5e hn6 rfl
  obtain ⟨R6a, R6b, R6c, R6d, R6e⟩ := unhide R6
  obtain ⟨q7, c7, w7, run7, cc7, ff7, R7⟩ := row_run (TT := fun k => T k ∧ k < w.heap.size) (N := w3.heap.size) (x := .slice (some ⟨g3, 0, none⟩) (nl + 3) cp3) R6a R6b hpT0 hpN R6d R6e hn7 rfl
  obtain ⟨R7a, R7b, R7c, R7d, R7e⟩ := unhide R7
  exact ⟨g1, cp1, w1, g2, cp2, w2, g3, cp3, w3, q4, c4, w4, q5, c5, w5, q6, c6, w6, q7, c7, w7, run1, run2, run3, run4, run5, run6, run7, cell_of_heap hp3, cc4, ff4, cc5, ff5, cc6, ff6, cc7, ff7,
    hide ⟨hk13, m1, m2, m3, R7a, R7b, ((R4c.trans R5c (fun _ _ h => h)).trans R6c (fun _ _ h => h)).trans R7c (fun _ _ h => h)⟩⟩

end Go.Proofs.YthbmmbgkchiajaaGreat
