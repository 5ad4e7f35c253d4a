
/- made: one disk more. -/
import Derived.Test.YthbmmbgkchiajaaGreatInv
namespace Go.Proofs.YthbmmbgkchiajaaGreat
open Go.RowKit

theorem infoPVolume : (Tryz.prog.info? 131).map (fun i => (i.zero, i.size, i.bytes)) = some (some (.pointer none), 1, 8) := by kernel_rfl
def volAppend (args : Array Value) : Sem Value := Builtin.append_ #[70, 70] 70 args
theorem volAppend_eq (args : Array Value) : Builtin.append_ #[70, 70] 70 args = volAppend args := rfl

theorem few_mul (N a : Nat) (h : Few N) (ha : a ≤ 96) : N * a ≤ 140737488351232 := Nat.le_trans (Nat.mul_le_mul_left N ha) h

set_option maxRecDepth 100000 in
set_option maxHeartbeats 400000 in
theorem made_no (pw : Nat) (n : Int) (w : World) (h : n < 1 ∨ 128 < n) :
    Calls Tryz.prog 73 #[.pointer (some ⟨pw, 0, none⟩), .int .i64 n] w fun e w' => e = .returned (.bool true) ∧ w' = w := by
  have H := hide h
  clear h
  go_enter Tryz.func73, Tryz.ntmps73
  go_wp2_with (first | (go_at_call 119; refine (dNew_no n _ (unhide H)).mono ?_; rintro e w' ⟨rfl, rfl⟩) | (go_at_call 120; refine (rNew_no n _ (unhide H)).mono ?_; rintro e w' ⟨rfl, rfl⟩))
  go_ret
  exact ⟨rfl, rfl⟩

theorem vol_run {S : Nat → Prop} {X : World} {pw n N' : Nat} {v0 v2 v3 v4 v5 v6 vl x : Value} {xs : List Value} (hb : X.heap[pw]? = some (.cells #[v0, vl, v2, v3, v4, v5, v6] 79 (0, 0))) (hown : Own S X 131 1 vl n xs) (hS : ¬ S pw)
    (hN' : X.heap.size = N') (hn : (n + 1) * 8 ≤ 140737488355328) (hx : x.oneCell' = true) :
    ∃ q c w1, (volAppend #[vl, .slice (some ⟨N', 0, none⟩) 1 1]).run Tryz.prog (X.alloc (.cells #[x] 131)) = .ok (.slice (some ⟨q, 0, none⟩) (n + 1) c) w1 ∧ w1.cell? ⟨pw, 1, none⟩ = some vl ∧ w1.frozen? ⟨pw, 1, none⟩ = false ∧
      Hid ((w1.setCell ⟨pw, 1, none⟩ (.slice (some ⟨q, 0, none⟩) (n + 1) c)).heap[pw]? = some (.cells #[v0, .slice (some ⟨q, 0, none⟩) (n + 1) c, v2, v3, v4, v5, v6] 79 (0, 0)) ∧
      Own (fun k => S k ∨ X.heap.size ≤ k) (w1.setCell ⟨pw, 1, none⟩ (.slice (some ⟨q, 0, none⟩) (n + 1) c)) 131 1 (.slice (some ⟨q, 0, none⟩) (n + 1) c) (n + 1) (xs ++ [x]) ∧
      Keeps (fun k => k = pw ∨ S k) X (w1.setCell ⟨pw, 1, none⟩ (.slice (some ⟨q, 0, none⟩) (n + 1) c))) := by
  subst hN'
  obtain ⟨iB, hiB, hzB0, hzB1, hzB2⟩ := info_parts infoPVolume
  obtain ⟨q, c, w1, r0, r1, r2, r3, _⟩ := run_append_lies (P := Tryz.prog) (X.alloc (.cells #[x] 131)) 70 70 0 131 iB _ 1 8 Tryz.underlying70 hiB hzB0 hzB1 hzB2 rfl (by omega) vl n xs (hown.1.alloc _) ⟨X.heap.size, 0, none⟩ 1 1 [x] rfl
    (World.news_of_block (cs := #[x]) (t := 131) (fr := (0, 0)) (heap_alloc_new X _)) (fun u hu => by rw [List.mem_singleton.1 hu]; exact hx) (by omega) (by unfold maxLen; omega) (by omega) (Nat.zero_le _) (X.heap.size + 1) (by simp)
  have hk1 := keeps_grown ((Keeps.refl _ X).alloc _) r2
  have hb1 := hk1.heap hb (fun e => hS (hown.2 _ e))
  obtain ⟨f1, f2, f3⟩ := Own.field (f := 1) hb hown hS hk1 r1 r3 (by omega)
  exact ⟨q, c, w1, r0, cell_of_heap hb1, frozen_of_heap hb1, hide ⟨f1, f2, f3⟩⟩

/-- Behind the making: the new volume is the last. -/
theorem made_end {B N pw n d r q c : Nat} {o : Nat → Nat} {w w1 w2 w4 : World} {vcs vvs vb : Value} {vs : List Nat} {ms : List DM} {ls : List Value} {og : Nat → Nat}
    (h1 : w.heap[pw]? = some (.cells #[vcs, vvs, .slice none 0 0, vb, .slice none 0 0, .slice none 0 0, .slice none 0 0] 79 (0, 0))) (h2 : o pw = 1)
    (h4 : Own (fun k => o k = 3) w 138 1 vb ls.length ls) (h5 : BookC (fun k => o k = 4) og (fun _ _ => True) w ls) (h6 : ls.length % 4 = 0)
    (h7 : ms.length = vs.length) (h8 : ∀ (i v : Nat) (m : DM), vs[i]? = some v → ms[i]? = some m → Vol o (5 + 3 * i) w v m)
    (h9 : vs.length ≤ N) (h10 : ls.length ≤ 4 * N) (h11 : ∀ m ∈ ms, m.puts.length ≤ N ∧ m.syncs ≤ N) (h12 : ∀ k, k < B → o k = 0) (h13 : B ≤ w.heap.size)
    (hn0 : 1 ≤ n) (hn1 : n ≤ 128) (hP : PDisk (fun k => w.heap.size ≤ k) w1 d (freshDM n)) (hk1 : Keeps (fun _ => False) w w1) (hR : RDisk (fun k => w1.heap.size ≤ k) w2 r (freshDM n)) (hk2 : Keeps (fun _ => False) w1 w2)
    (e1 : (w4.setCell ⟨pw, 1, none⟩ (.slice (some ⟨q, 0, none⟩) (vs.length + 1) c)).heap[pw]? = some (.cells #[vcs, .slice (some ⟨q, 0, none⟩) (vs.length + 1) c, .slice none 0 0, vb, .slice none 0 0, .slice none 0 0, .slice none 0 0] 79 (0, 0)))
    (e2 : Own (fun k => (o k = 2 ∧ k < w.heap.size) ∨ (w2.alloc (.cells #[.pointer (some ⟨d, 0, none⟩), .pointer (some ⟨r, 0, none⟩), .int .i64 (n : Int), .pointer none, .pointer none, .bool false] 187)).heap.size ≤ k) (w4.setCell ⟨pw, 1, none⟩ (.slice (some ⟨q, 0, none⟩) (vs.length + 1) c)) 131 1 (.slice (some ⟨q, 0, none⟩) (vs.length + 1) c) (vs.length + 1) (ptrs vs ++ [.pointer (some ⟨w2.heap.size, 0, none⟩)]))
    (e3 : Keeps (fun k => k = pw ∨ (o k = 2 ∧ k < w.heap.size)) (w2.alloc (.cells #[.pointer (some ⟨d, 0, none⟩), .pointer (some ⟨r, 0, none⟩), .int .i64 (n : Int), .pointer none, .pointer none, .bool false] 187)) (w4.setCell ⟨pw, 1, none⟩ (.slice (some ⟨q, 0, none⟩) (vs.length + 1) c))) :
    (∃ o', Inv B o' (w4.setCell ⟨pw, 1, none⟩ (.slice (some ⟨q, 0, none⟩) (vs.length + 1) c)) pw vcs (N + 1)) ∧ Keeps (fun k => B ≤ k) w (w4.setCell ⟨pw, 1, none⟩ (.slice (some ⟨q, 0, none⟩) (vs.length + 1) c)) := by
  generalize hX : w2.alloc (.cells #[.pointer (some ⟨d, 0, none⟩), .pointer (some ⟨r, 0, none⟩), .int .i64 (n : Int), .pointer none, .pointer none, .bool false] 187) = X at *
  have hXv : X.heap[w2.heap.size]? = some (.cells #[.pointer (some ⟨d, 0, none⟩), .pointer (some ⟨r, 0, none⟩), .int .i64 (n : Int), .pointer none, .pointer none, .bool false] 187 (0, 0)) := by rw [← hX]; exact heap_alloc_last w2 _
  have hkX : Keeps (fun _ => False) w2 X := by rw [← hX]; exact (Keeps.refl _ _).alloc _
  have hXs : X.heap.size = w2.heap.size + 1 := by rw [← hX]; simp
  clear hX
  generalize hW : w4.setCell ⟨pw, 1, none⟩ (.slice (some ⟨q, 0, none⟩) (vs.length + 1) c) = W at *
  clear hW
  have s1 := hk1.size
  have s2 := hk2.size
  have hpl := lt_of_heap h1
  have kwX : Keeps (fun _ => False) w X := (hk1.trans hk2 (fun _ _ f => f)).trans hkX (fun _ _ f => f)
  have kwW : Keeps (fun k => k = pw ∨ o k = 2) w W := (kwX.mono (T := fun k => k = pw ∨ o k = 2) (fun _ _ f => f.elim)).trans e3 (fun i hi h => by rcases h with h | h; exact .inl h; exact .inr h.1)
  have k1W : Keeps (fun k => k < w.heap.size) w1 W := (((hk2.trans hkX (fun _ _ f => f)).mono (T := fun k => k < w.heap.size) (fun _ _ f => f.elim)).trans e3 (fun i hi h => by rcases h with h | h; omega; exact h.2))
  have k2W : Keeps (fun k => k < w.heap.size) w2 W := ((hkX.mono (T := fun k => k < w.heap.size) (fun _ _ f => f.elim)).trans e3 (fun i hi h => by rcases h with h | h; omega; exact h.2))
  have hBpw : B ≤ pw := by
    rcases Nat.lt_or_ge pw B with h | h
    · have := h12 pw h; omega
    · exact h
  refine ⟨⟨fun k => if k < w.heap.size then o k else if k < w1.heap.size then 6 + 3 * vs.length else if k < w2.heap.size then 7 + 3 * vs.length else if k = w2.heap.size then 5 + 3 * vs.length else 2, ?_⟩, ?_⟩
  · have ho : ∀ k, k < w.heap.size → (fun k => if k < w.heap.size then o k else if k < w1.heap.size then 6 + 3 * vs.length else if k < w2.heap.size then 7 + 3 * vs.length else if k = w2.heap.size then 5 + 3 * vs.length else 2) k = o k := fun k hk => if_pos hk
    generalize ho' : (fun k => if k < w.heap.size then o k else if k < w1.heap.size then 6 + 3 * vs.length else if k < w2.heap.size then 7 + 3 * vs.length else if k = w2.heap.size then 5 + 3 * vs.length else 2) = o' at *
    have hod : ∀ k, w.heap.size ≤ k → k < w1.heap.size → o' k = 6 + 3 * vs.length := fun k a b => by rw [← ho']; simp only; rw [if_neg (by omega), if_pos b]
    have hor : ∀ k, w1.heap.size ≤ k → k < w2.heap.size → o' k = 7 + 3 * vs.length := fun k a b => by rw [← ho']; simp only; rw [if_neg (by omega), if_neg (by omega), if_pos b]
    have hov : o' w2.heap.size = 5 + 3 * vs.length := by rw [← ho']; simp only; rw [if_neg (by omega), if_neg (by omega), if_neg (by omega), if_pos trivial]
    have hon : ∀ k, w2.heap.size < k → o' k = 2 := fun k a => by rw [← ho']; simp only; rw [if_neg (by omega), if_neg (by omega), if_neg (by omega), if_neg (by omega)]
    clear ho'
    refine ⟨_, vb, vs ++ [w2.heap.size], ms ++ [freshDM n], ls, og, e1, (ho pw hpl).trans h2, ?_, h4.tag kwW (fun k l e h => ?_) ho, h5.tag kwW (fun k l e h => ?_) ho, h6, by simp [h7], ?_, by simp; omega, by omega, ?_, fun k hk => (ho k (by omega)).trans (h12 k hk), Nat.le_trans h13 kwW.size⟩
    · rw [List.length_append, List.length_singleton]
      have e : ptrs (vs ++ [w2.heap.size]) = ptrs vs ++ [.pointer (some ⟨w2.heap.size, 0, none⟩)] := by simp [ptrs]
      rw [e]
      refine e2.mono (fun k _ h => ?_)
      rcases h with h | h
      · exact (ho k h.2).trans h.1
      · exact hon k (by omega)
    · rcases h with h | h
      · subst h; omega
      · omega
    · rcases h with h | h
      · subst h; omega
      · omega
    · intro i v m hv hm
      by_cases hi : i < vs.length
      · rw [List.getElem?_append_left hi] at hv
        rw [List.getElem?_append_left (by omega)] at hm
        exact (h8 i v m hv hm).tag kwW (fun k l e h => by rcases h with h | h; (subst h; omega); omega) ho
      · have hi2 : i = vs.length := by
          have := (List.getElem?_eq_some_iff.1 hv).1
          simp at this; omega
        subst hi2
        rw [List.getElem?_append_right (Nat.le_refl _), Nat.sub_self] at hv
        rw [List.getElem?_append_right (by omega), h7, Nat.sub_self] at hm
        simp at hv hm
        subst hv hm
        refine ⟨d, r, false, ?_, hov, ?_, ?_, freshDM_ok n hn0 hn1⟩
        · have hl : (freshDM n).dur.length = n := by simp [freshDM]
          rw [hl]
          exact e3.heap hXv (fun h => by rcases h with h | h <;> omega)
        · have := (hP.mono (T := fun k => w.heap.size ≤ k ∧ k < w1.heap.size) (fun k l s => ⟨s, l⟩)).keep k1W (fun k _ s h => by omega)
          exact this.mono (fun k _ s => by rw [hod k s.1 s.2]; omega)
        · have := (hR.mono (T := fun k => w1.heap.size ≤ k ∧ k < w2.heap.size) (fun k l s => ⟨s, l⟩)).keep k2W (fun k _ s h => by omega)
          exact this.mono (fun k _ s => by rw [hor k s.1 s.2]; omega)
    · intro m hm
      rcases List.mem_append.1 hm with h | h
      · have := h11 m h; omega
      · simp at h; subst h; simp [freshDM]
  · refine kwW.mono (fun k l h => ?_)
    rcases h with h | h
    · omega
    · rcases Nat.lt_or_ge k B with hb | hb
      · have := h12 k hb; omega
      · exact hb

attribute [local go_sem ↓] volAppend_eq

set_option maxRecDepth 100000 in
set_option maxHeartbeats 800000 in
theorem made_yes (B : Nat) (o : Nat → Nat) (pw : Nat) (vcs : Value) (N n : Nat) (w : World) (hI : Inv B o w pw vcs N) (hF : Few N) (hn0 : 1 ≤ n) (hn1 : n ≤ 128) :
    Calls Tryz.prog 73 #[.pointer (some ⟨pw, 0, none⟩), .int .i64 n] w fun e w' => e = .returned (.bool true) ∧ (∃ o', Inv B o' w' pw vcs (N + 1)) ∧ Keeps (fun k => B ≤ k) w w' := by
  obtain ⟨vvs, vb, vs, ms, ls, og, h1, h2, h3, h4, h5, h6, h7, h8, h9, h10, h11, h12, h13⟩ := hI
  have hq := few_mul N 8 hF (by omega)
  have hsz : (vs.length + 1) * 8 ≤ 140737488355328 := by
    have : vs.length * 8 ≤ N * 8 := Nat.mul_le_mul_right 8 h9
    omega
  have H1 := hide h1
  have H3 := hide h3
  have hpl := lt_of_heap h1
  clear h1 h3 hF hq
  have HALL := hide (And.intro h2 (And.intro h4 (And.intro h5 (And.intro h6 (And.intro h7 (And.intro h8 (And.intro h9 (And.intro h10 (And.intro h11 (And.intro h12 h13))))))))))
  clear h2 h4 h5 h6 h7 h8 h9 h10 h11 h12 h13
  go_enter Tryz.func73, Tryz.ntmps73
  go_wp2_with (first | (go_at_call 119; refine (dNew_yes n _ hn0 hn1).mono ?_; rintro e w1 ⟨d, rfl, hP, hk1⟩; have HP := hide hP; clear hP) | (go_at_call 120; refine (rNew_yes n _ hn0 hn1).mono ?_; rintro e w2 ⟨r, rfl, hR, hk2⟩; have HR := hide hR; clear hR; have hk02 := (hk1.trans hk2 (fun _ _ f => f)); have hp2 := hk02.heap (unhide H1) (fun h => h); have c1 := cell_of_heap (o := 1) hp2; simp at c1; have HP2 := hide hp2; clear hp2; have s02 := hk02.size; obtain ⟨q, c, w4, run4, cc4, ff4, HE⟩ := vol_run (S := fun k => o k = 2 ∧ k < w.heap.size) (X := w2.alloc (.cells #[.pointer (some ⟨d, 0, none⟩), .pointer (some ⟨r, 0, none⟩), .int .i64 (n : Int), .pointer none, .pointer none, .bool false] 187)) (N' := w2.heap.size + 1) (x := .pointer (some ⟨w2.heap.size, 0, none⟩)) (((Keeps.refl (fun _ => False) w2).alloc _).heap (unhide HP2) (fun h => h)) (((((unhide H3).mono (T := fun k => o k = 2 ∧ k < w.heap.size) (fun k l s => ⟨s, l⟩)).keep hk02 (fun _ _ _ h => h)).keep ((Keeps.refl (fun _ => False) w2).alloc _) (fun _ _ _ h => h))) (fun h => by have := (unhide HALL).1; omega) (by simp) hsz rfl))
  go_ret
  obtain ⟨h2, h4, h5, h6, h7, h8, h9, h10, h11, h12, h13⟩ := unhide HALL
  obtain ⟨e1, e2, e3⟩ := unhide HE
  have hend := made_end (unhide H1) h2 h4 h5 h6 h7 h8 h9 h10 h11 h12 h13 hn0 hn1 (unhide HP) hk1 (unhide HR) hk2 e1 e2 e3
  exact ⟨rfl, hend.1, hend.2⟩

end Go.Proofs.YthbmmbgkchiajaaGreat
