
/- What holds between two steps of a script with journals. -/
import Derived.Test.YthbmmbgkchiajaaGreatQMoved
import Derived.Test.YthbmmbgkchiajaaGreatStep
namespace Go.Proofs.YthbmmbgkchiajaaGreat
open Go.RowKit

/-- Volume t's own blocks bear t, its disk's t + 1, the document's t + 2. -/
def VolT (o : Nat → Nat) (t : Nat) (w : World) (v : Nat) (x : VM) : Prop := VolS (fun k => o k = t + 1) (fun k => o k = t + 2) w v x ∧ o v = t

theorem VolT.tag {T : Nat → Prop} {o o' : Nat → Nat} {t v : Nat} {x : VM} {w w' : World} (h : VolT o t w v x) (hk : Keeps T w w') (hd : ∀ k, k < w.heap.size → (o k = t ∨ o k = t + 1 ∨ o k = t + 2) → ¬ T k) (ho : ∀ k, k < w.heap.size → o' k = o k) : VolT o' t w' v x :=
  ⟨((h.1.mono (D' := fun k => o k = t + 1 ∧ k < w.heap.size) (R' := fun k => o k = t + 2 ∧ k < w.heap.size) (fun _ l d => ⟨d, l⟩) (fun _ l d => ⟨d, l⟩)).keep hk (hd v h.1.lt (.inl h.2)) (fun k l d => hd k l (.inr (.inl d.1))) (fun k l d => hd k l (.inr (.inr d.1)))).mono (fun k _ d => (ho k d.2).trans d.1) (fun k _ d => (ho k d.2).trans d.1), (ho v h.1.lt).trans h.2⟩

theorem VolT.volA {o : Nat → Nat} {t v : Nat} {x : VM} {w : World} (h : VolT o t w v x) : VolA (fun k => o k = t + 1) (fun k => o k = t + 2) w v x :=
  ⟨h.1, fun k d r => by omega, fun d => by have := h.2; omega, fun d => by have := h.2; omega⟩

/-- What a step on a volume does, by tags. -/
def VStepT (o : Nat → Nat) (t : Nat) (w : World) (v : Nat) (x' : VM) (w' : World) : Prop :=
  (∃ o' : Nat → Nat, VolT o' t w' v x' ∧ ∀ k, k < w.heap.size → o' k = o k) ∧ Keeps (fun k => o k = t ∨ o k = t + 1 ∨ o k = t + 2) w w'

open Classical in
theorem QStep.tags {o : Nat → Nat} {t v : Nat} {x' : VM} {w w' : World} (hv : v < w.heap.size) (hov : o v = t) (h : QStep (fun k => o k = t + 1) (fun k => o k = t + 2) w v x' w') : VStepT o t w v x' w' := by
  obtain ⟨⟨D', R', ⟨h1, h2, _, _⟩, h5⟩, h6⟩ := h
  refine ⟨⟨fun k => if k < w.heap.size then o k else if D' k then t + 1 else if R' k then t + 2 else 0, ⟨h1.mono (fun k _ d => ?_) (fun k _ d => ?_), ?_⟩, fun k hk => if_pos hk⟩, h6.mono (fun k _ q => ?_)⟩
  · by_cases hk : k < w.heap.size
    · simp only; rw [if_pos hk]; exact (h5 k hk).1 d
    · simp only; rw [if_neg hk, if_pos d]
  · by_cases hk : k < w.heap.size
    · simp only; rw [if_pos hk]; exact (h5 k hk).2 d
    · simp only; rw [if_neg hk, if_neg (fun d' => h2 k d' d), if_pos d]
  · simp only; rw [if_pos hv]; exact hov
  · rcases q with q | q | q
    · exact .inl (by rw [q]; exact hov)
    · exact .inr (.inl q)
    · exact .inr (.inr q)

/-- How far a journal has come in N steps. -/
def VB (N : Nat) : VM → Prop
  | .plain _ => True
  | .jour j m _ => j.L.length ≤ N ∧ j.epoch ≤ N ∧ m.syncs ≤ N
theorem VB.more {N : Nat} {x : VM} (h : VB N x) : VB (N + 1) x := by
  cases x with
  | plain n => trivial
  | jour j m use => exact ⟨Nat.le_succ_of_le h.1, Nat.le_succ_of_le h.2.1, Nat.le_succ_of_le h.2.2⟩

/-- Tags: 0 nobody's; 1 the world's struct; 2 the row of volumes; 3 the row of lists; 4 the lists; 5 + 3 i, 6 + 3 i, 7 + 3 i: volume i, its disk, the document's. N: how many steps have been played. -/
def Inv2 (B : Nat) (o : Nat → Nat) (w : World) (pw : Nat) (vcs : Value) (N : Nat) : Prop :=
  ∃ (vvs vb : Value) (vs : List Nat) (ms : List VM) (ls : List Value) (og : Nat → Nat),
    w.heap[pw]? = some (.cells #[vcs, vvs, .slice none 0 0, vb, .slice none 0 0, .slice none 0 0, .slice none 0 0] 79 (0, 0)) ∧ o pw = 1 ∧
    Own (fun k => o k = 2) w 131 1 vvs vs.length (ptrs vs) ∧
    Own (fun k => o k = 3) w 138 1 vb ls.length ls ∧ BookC (fun k => o k = 4) og (fun _ _ => True) w ls ∧ ls.length % 4 = 0 ∧
    ms.length = vs.length ∧ (∀ (i v : Nat) (m : VM), vs[i]? = some v → ms[i]? = some m → VolT o (5 + 3 * i) w v m) ∧
    vs.length ≤ N ∧ ls.length ≤ 4 * N ∧ (∀ m ∈ ms, VB N m) ∧ (∀ k, k < B → o k = 0) ∧ B ≤ w.heap.size

theorem Inv2.more {B : Nat} {o : Nat → Nat} {w : World} {pw : Nat} {vcs : Value} {N : Nat} (h : Inv2 B o w pw vcs N) : Inv2 B o w pw vcs (N + 1) := by
  obtain ⟨vvs, vb, vs, ms, ls, og, h1, h2, h3, h4, h5, h6, h7, h8, h9, h10, h11, h12⟩ := h
  exact ⟨vvs, vb, vs, ms, ls, og, h1, h2, h3, h4, h5, h6, h7, h8, by omega, by omega, fun m hm => (h11 m hm).more, h12⟩

/-- Nothing of it has turned. -/
theorem Inv2.same {B : Nat} {o : Nat → Nat} {w w' : World} {pw : Nat} {vcs : Value} {N : Nat} (h : Inv2 B o w pw vcs N) {T : Nat → Prop} (hk : Keeps T w w') (hT : ∀ k, k < w.heap.size → o k ≠ 0 → ¬ T k) : Inv2 B o w' pw vcs N := by
  obtain ⟨vvs, vb, vs, ms, ls, og, h1, h2, h3, h4, h5, h6, h7, h8, h9, h10, h11, h12, h13⟩ := h
  refine ⟨vvs, vb, vs, ms, ls, og, hk.heap h1 (hT pw (lt_of_heap h1) (by omega)), h2, h3.tag hk (fun k l e => hT k l (by omega)) (fun _ _ => rfl), h4.tag hk (fun k l e => hT k l (by omega)) (fun _ _ => rfl), h5.tag hk (fun k l e => hT k l (by omega)) (fun _ _ => rfl), h6, h7, fun i v m hv hm => (h8 i v m hv hm).tag hk (fun k l e => hT k l (by omega)) (fun _ _ => rfl), h9, h10, h11, h12, Nat.le_trans h13 hk.size⟩

/-- Behind the making: the new volume is the last. -/
theorem made_end2 {B N pw n d r q c : Nat} {o : Nat → Nat} {w w1 w2 w4 : World} {vcs vvs vb : Value} {vs : List Nat} {ms : List VM} {ls : List Value} {og : Nat → Nat}
    (h1 : w.heap[pw]? = some (.cells #[vcs, vvs, .slice none 0 0, vb, .slice none 0 0, .slice none 0 0, .slice none 0 0] 79 (0, 0))) (h2 : o pw = 1)
    (h4 : Own (fun k => o k = 3) w 138 1 vb ls.length ls) (h5 : BookC (fun k => o k = 4) og (fun _ _ => True) w ls) (h6 : ls.length % 4 = 0)
    (h7 : ms.length = vs.length) (h8 : ∀ (i v : Nat) (m : VM), vs[i]? = some v → ms[i]? = some m → VolT o (5 + 3 * i) w v m)
    (h9 : vs.length ≤ N) (h10 : ls.length ≤ 4 * N) (h11 : ∀ m ∈ ms, VB N m) (h12 : ∀ k, k < B → o k = 0) (h13 : B ≤ w.heap.size)
    (hn0 : 1 ≤ n) (hn1 : n ≤ 128) (hP : PDisk (fun k => w.heap.size ≤ k) w1 d (freshDM n)) (hk1 : Keeps (fun _ => False) w w1) (hR : RDisk (fun k => w1.heap.size ≤ k) w2 r (freshDM n)) (hk2 : Keeps (fun _ => False) w1 w2)
    (e1 : (w4.setCell ⟨pw, 1, none⟩ (.slice (some ⟨q, 0, none⟩) (vs.length + 1) c)).heap[pw]? = some (.cells #[vcs, .slice (some ⟨q, 0, none⟩) (vs.length + 1) c, .slice none 0 0, vb, .slice none 0 0, .slice none 0 0, .slice none 0 0] 79 (0, 0)))
    (e2 : Own (fun k => (o k = 2 ∧ k < w.heap.size) ∨ (w2.alloc (.cells #[.pointer (some ⟨d, 0, none⟩), .pointer (some ⟨r, 0, none⟩), .int .i64 (n : Int), .pointer none, .pointer none, .bool false] 187)).heap.size ≤ k) (w4.setCell ⟨pw, 1, none⟩ (.slice (some ⟨q, 0, none⟩) (vs.length + 1) c)) 131 1 (.slice (some ⟨q, 0, none⟩) (vs.length + 1) c) (vs.length + 1) (ptrs vs ++ [.pointer (some ⟨w2.heap.size, 0, none⟩)]))
    (e3 : Keeps (fun k => k = pw ∨ (o k = 2 ∧ k < w.heap.size)) (w2.alloc (.cells #[.pointer (some ⟨d, 0, none⟩), .pointer (some ⟨r, 0, none⟩), .int .i64 (n : Int), .pointer none, .pointer none, .bool false] 187)) (w4.setCell ⟨pw, 1, none⟩ (.slice (some ⟨q, 0, none⟩) (vs.length + 1) c))) :
    (∃ o', Inv2 B o' (w4.setCell ⟨pw, 1, none⟩ (.slice (some ⟨q, 0, none⟩) (vs.length + 1) c)) pw vcs (N + 1)) ∧ Keeps (fun k => B ≤ k) w (w4.setCell ⟨pw, 1, none⟩ (.slice (some ⟨q, 0, none⟩) (vs.length + 1) c)) := by
  generalize hX : w2.alloc (.cells #[.pointer (some ⟨d, 0, none⟩), .pointer (some ⟨r, 0, none⟩), .int .i64 (n : Int), .pointer none, .pointer none, .bool false] 187) = X at *
  have hXv : X.heap[w2.heap.size]? = some (.cells #[.pointer (some ⟨d, 0, none⟩), .pointer (some ⟨r, 0, none⟩), .int .i64 (n : Int), .pointer none, .pointer none, .bool false] 187 (0, 0)) := by rw [← hX]; exact heap_alloc_last w2 _
  have hkX : Keeps (fun _ => False) w2 X := by rw [← hX]; exact (Keeps.refl _ _).alloc _
  have hXs : X.heap.size = w2.heap.size + 1 := by rw [← hX]; simp
  clear hX
  generalize hW : w4.setCell ⟨pw, 1, none⟩ (.slice (some ⟨q, 0, none⟩) (vs.length + 1) c) = W at *
  clear hW
  have s1 := hk1.size
  have s2 := hk2.size
  have hpl := lt_of_heap h1
  have kwX : Keeps (fun _ => False) w X := (hk1.trans hk2 (fun _ _ f => f)).trans hkX (fun _ _ f => f)
  have kwW : Keeps (fun k => k = pw ∨ o k = 2) w W := (kwX.mono (T := fun k => k = pw ∨ o k = 2) (fun _ _ f => f.elim)).trans e3 (fun i hi h => by rcases h with h | h; exact .inl h; exact .inr h.1)
  have k1W : Keeps (fun k => k < w.heap.size) w1 W := (((hk2.trans hkX (fun _ _ f => f)).mono (T := fun k => k < w.heap.size) (fun _ _ f => f.elim)).trans e3 (fun i hi h => by rcases h with h | h; omega; exact h.2))
  have k2W : Keeps (fun k => k < w.heap.size) w2 W := ((hkX.mono (T := fun k => k < w.heap.size) (fun _ _ f => f.elim)).trans e3 (fun i hi h => by rcases h with h | h; omega; exact h.2))
  have hBpw : B ≤ pw := by
    rcases Nat.lt_or_ge pw B with h | h
    · have := h12 pw h; omega
    · exact h
  refine ⟨⟨fun k => if k < w.heap.size then o k else if k < w1.heap.size then 6 + 3 * vs.length else if k < w2.heap.size then 7 + 3 * vs.length else if k = w2.heap.size then 5 + 3 * vs.length else 2, ?_⟩, ?_⟩
  · have ho : ∀ k, k < w.heap.size → (fun k => if k < w.heap.size then o k else if k < w1.heap.size then 6 + 3 * vs.length else if k < w2.heap.size then 7 + 3 * vs.length else if k = w2.heap.size then 5 + 3 * vs.length else 2) k = o k := fun k hk => if_pos hk
    generalize ho' : (fun k => if k < w.heap.size then o k else if k < w1.heap.size then 6 + 3 * vs.length else if k < w2.heap.size then 7 + 3 * vs.length else if k = w2.heap.size then 5 + 3 * vs.length else 2) = o' at *
    have hod : ∀ k, w.heap.size ≤ k → k < w1.heap.size → o' k = 6 + 3 * vs.length := fun k a b => by rw [← ho']; simp only; rw [if_neg (by omega), if_pos b]
    have hor : ∀ k, w1.heap.size ≤ k → k < w2.heap.size → o' k = 7 + 3 * vs.length := fun k a b => by rw [← ho']; simp only; rw [if_neg (by omega), if_neg (by omega), if_pos b]
    have hov : o' w2.heap.size = 5 + 3 * vs.length := by rw [← ho']; simp only; rw [if_neg (by omega), if_neg (by omega), if_neg (by omega), if_pos trivial]
    have hon : ∀ k, w2.heap.size < k → o' k = 2 := fun k a => by rw [← ho']; simp only; rw [if_neg (by omega), if_neg (by omega), if_neg (by omega), if_neg (by omega)]
    clear ho'
    refine ⟨_, vb, vs ++ [w2.heap.size], ms ++ [.plain n], ls, og, e1, (ho pw hpl).trans h2, ?_, h4.tag kwW (fun k l e h => ?_) ho, h5.tag kwW (fun k l e h => ?_) ho, h6, by simp [h7], ?_, by simp; omega, by omega, ?_, fun k hk => (ho k (by omega)).trans (h12 k hk), Nat.le_trans h13 kwW.size⟩
    · rw [List.length_append, List.length_singleton]
      have e : ptrs (vs ++ [w2.heap.size]) = ptrs vs ++ [.pointer (some ⟨w2.heap.size, 0, none⟩)] := by simp [ptrs]
      rw [e]
      refine e2.mono (fun k _ h => ?_)
      rcases h with h | h
      · exact (ho k h.2).trans h.1
      · exact hon k (by omega)
    · rcases h with h | h
      · subst h; omega
      · omega
    · rcases h with h | h
      · subst h; omega
      · omega
    · intro i v m hv hm
      by_cases hi : i < vs.length
      · rw [List.getElem?_append_left hi] at hv
        rw [List.getElem?_append_left (by omega)] at hm
        exact (h8 i v m hv hm).tag kwW (fun k l e h => by rcases h with h | h; (subst h; omega); omega) ho
      · have hi2 : i = vs.length := by
          have := (List.getElem?_eq_some_iff.1 hv).1
          simp at this; omega
        subst hi2
        rw [List.getElem?_append_right (Nat.le_refl _), Nat.sub_self] at hv
        rw [List.getElem?_append_right (by omega), h7, Nat.sub_self] at hm
        simp at hv hm
        subst hv hm
        refine ⟨⟨d, r, false, ?_, ?_, ?_, hn0, hn1⟩, hov⟩
        · exact e3.heap hXv (fun h => by rcases h with h | h <;> omega)
        · have := (hP.mono (T := fun k => w.heap.size ≤ k ∧ k < w1.heap.size) (fun k l s => ⟨s, l⟩)).keep k1W (fun k _ s h => by omega)
          exact this.mono (fun k _ s => by rw [hod k s.1 s.2]; omega)
        · have := (hR.mono (T := fun k => w1.heap.size ≤ k ∧ k < w2.heap.size) (fun k l s => ⟨s, l⟩)).keep k2W (fun k _ s h => by omega)
          exact this.mono (fun k _ s => by rw [hor k s.1 s.2]; omega)
    · intro m hm
      rcases List.mem_append.1 hm with h | h
      · exact (h11 m h).more
      · simp at h; subst h; trivial
  · refine kwW.mono (fun k l h => ?_)
    rcases h with h | h
    · omega
    · rcases Nat.lt_or_ge k B with hb | hb
      · have := h12 k hb; omega
      · exact hb

attribute [local go_sem ↓] volAppend_eq

set_option maxRecDepth 100000 in
set_option maxHeartbeats 800000 in
theorem made_yes2 (B : Nat) (o : Nat → Nat) (pw : Nat) (vcs : Value) (N n : Nat) (w : World) (hI : Inv2 B o w pw vcs N) (hF : Few N) (hn0 : 1 ≤ n) (hn1 : n ≤ 128) :
    Calls Tryz.prog 73 #[.pointer (some ⟨pw, 0, none⟩), .int .i64 n] w fun e w' => e = .returned (.bool true) ∧ (∃ o', Inv2 B o' w' pw vcs (N + 1)) ∧ Keeps (fun k => B ≤ k) w w' := by
  obtain ⟨vvs, vb, vs, ms, ls, og, h1, h2, h3, h4, h5, h6, h7, h8, h9, h10, h11, h12, h13⟩ := hI
  have hq := few_mul N 8 hF (by omega)
  have hsz : (vs.length + 1) * 8 ≤ 140737488355328 := by
    have : vs.length * 8 ≤ N * 8 := Nat.mul_le_mul_right 8 h9
    omega
  have H1 := hide h1
  have H3 := hide h3
  have hpl := lt_of_heap h1
  clear h1 h3 hF hq
  have HALL := hide (And.intro h2 (And.intro h4 (And.intro h5 (And.intro h6 (And.intro h7 (And.intro h8 (And.intro h9 (And.intro h10 (And.intro h11 (And.intro h12 h13))))))))))
  clear h2 h4 h5 h6 h7 h8 h9 h10 h11 h12 h13
  go_enter Tryz.func73, Tryz.ntmps73
  go_wp2_with (first | (go_at_call 119; refine (dNew_yes n _ hn0 hn1).mono ?_; rintro e w1 ⟨d, rfl, hP, hk1⟩; have HP := hide hP; clear hP) | (go_at_call 120; refine (rNew_yes n _ hn0 hn1).mono ?_; rintro e w2 ⟨r, rfl, hR, hk2⟩; have HR := hide hR; clear hR; have hk02 := (hk1.trans hk2 (fun _ _ f => f)); have hp2 := hk02.heap (unhide H1) (fun h => h); have c1 := cell_of_heap (o := 1) hp2; simp at c1; have HP2 := hide hp2; clear hp2; have s02 := hk02.size; obtain ⟨q, c, w4, run4, cc4, ff4, HE⟩ := vol_run (S := fun k => o k = 2 ∧ k < w.heap.size) (X := w2.alloc (.cells #[.pointer (some ⟨d, 0, none⟩), .pointer (some ⟨r, 0, none⟩), .int .i64 (n : Int), .pointer none, .pointer none, .bool false] 187)) (N' := w2.heap.size + 1) (x := .pointer (some ⟨w2.heap.size, 0, none⟩)) (((Keeps.refl (fun _ => False) w2).alloc _).heap (unhide HP2) (fun h => h)) (((((unhide H3).mono (T := fun k => o k = 2 ∧ k < w.heap.size) (fun k l s => ⟨s, l⟩)).keep hk02 (fun _ _ _ h => h)).keep ((Keeps.refl (fun _ => False) w2).alloc _) (fun _ _ _ h => h))) (fun h => by have := (unhide HALL).1; omega) (by simp) hsz rfl))
  go_ret
  obtain ⟨h2, h4, h5, h6, h7, h8, h9, h10, h11, h12, h13⟩ := unhide HALL
  obtain ⟨e1, e2, e3⟩ := unhide HE
  have hend := made_end2 (unhide H1) h2 h4 h5 h6 h7 h8 h9 h10 h11 h12 h13 hn0 hn1 (unhide HP) hk1 (unhide HR) hk2 e1 e2 e3
  exact ⟨rfl, hend.1, hend.2⟩

/-- A step is done: all holds again, one step later. -/
def Done2 (B : Nat) (o : Nat → Nat) (W : World) (pw : Nat) (vcs : Value) (N : Nat) (w' : World) : Prop :=
  (∃ o', Inv2 B o' w' pw vcs (N + 1)) ∧ Keeps (fun k => o k ≠ 0 ∧ o k ≠ 2) W w' ∧ w'.cell? ⟨pw, 1, none⟩ = W.cell? ⟨pw, 1, none⟩

theorem inv_vstep2 {B N pw i v : Nat} {o : Nat → Nat} {W w' : World} {vcs vvs vb : Value} {vs : List Nat} {ms : List VM} {ls : List Value} {og : Nat → Nat} {m m' : VM}
    (h1 : W.heap[pw]? = some (.cells #[vcs, vvs, .slice none 0 0, vb, .slice none 0 0, .slice none 0 0, .slice none 0 0] 79 (0, 0))) (h2 : o pw = 1)
    (h3 : Own (fun k => o k = 2) W 131 1 vvs vs.length (ptrs vs)) (h4 : Own (fun k => o k = 3) W 138 1 vb ls.length ls) (h5 : BookC (fun k => o k = 4) og (fun _ _ => True) W ls) (h6 : ls.length % 4 = 0)
    (h7 : ms.length = vs.length) (h8 : ∀ (i v : Nat) (m : VM), vs[i]? = some v → ms[i]? = some m → VolT o (5 + 3 * i) W v m)
    (h9 : vs.length ≤ N) (h10 : ls.length ≤ 4 * N) (h11 : ∀ m ∈ ms, VB N m) (h12 : ∀ k, k < B → o k = 0) (h13 : B ≤ W.heap.size)
    (hv : vs[i]? = some v) (hm : ms[i]? = some m) (hp : VB (N + 1) m') (hS : VStepT o (5 + 3 * i) W v m' w') : Done2 B o W pw vcs N w' := by
  obtain ⟨⟨o', hV, ho⟩, hk⟩ := hS
  have hpl := lt_of_heap h1
  have hil := (List.getElem?_eq_some_iff.1 hm).1
  have hb := hk.heap h1 (by omega)
  refine ⟨⟨o', vvs, vb, vs, ms.set i m', ls, og, hb, (ho pw hpl).trans h2, h3.tag hk (fun k l e h => by omega) ho, h4.tag hk (fun k l e h => by omega) ho, h5.tag hk (fun k l e h => by omega) ho, h6, by simp [h7], ?_, by omega, by omega, ?_, fun k hk' => (ho k (by omega)).trans (h12 k hk'), Nat.le_trans h13 hk.size⟩, hk.mono (fun k _ h => by omega), ?_⟩
  · intro j u mu hu hmu
    by_cases hj : j = i
    · subst hj
      rw [hv] at hu
      cases hu
      rw [List.getElem?_set_self hil] at hmu
      cases hmu
      exact hV
    · rw [List.getElem?_set_ne (by omega)] at hmu
      exact (h8 j u mu hu hmu).tag hk (fun k l e h => by omega) ho
  · intro mu hmu
    rcases List.mem_or_eq_of_mem_set hmu with h | h
    · exact (h11 mu h).more
    · subst h; exact hp
  · rw [cell_of_heap hb, cell_of_heap h1]

/-- All holds, and v is the i-th volume. -/
def InvV2 (B : Nat) (o : Nat → Nat) (w : World) (pw : Nat) (vcs : Value) (N i v : Nat) : Prop :=
  ∃ (vvs vb : Value) (vs : List Nat) (ms : List VM) (ls : List Value) (og : Nat → Nat),
    w.heap[pw]? = some (.cells #[vcs, vvs, .slice none 0 0, vb, .slice none 0 0, .slice none 0 0, .slice none 0 0] 79 (0, 0)) ∧ o pw = 1 ∧
    Own (fun k => o k = 2) w 131 1 vvs vs.length (ptrs vs) ∧
    Own (fun k => o k = 3) w 138 1 vb ls.length ls ∧ BookC (fun k => o k = 4) og (fun _ _ => True) w ls ∧ ls.length % 4 = 0 ∧
    ms.length = vs.length ∧ (∀ (i v : Nat) (m : VM), vs[i]? = some v → ms[i]? = some m → VolT o (5 + 3 * i) w v m) ∧
    vs.length ≤ N ∧ ls.length ≤ 4 * N ∧ (∀ m ∈ ms, VB N m) ∧ (∀ k, k < B → o k = 0) ∧ B ≤ w.heap.size ∧ vs[i]? = some v

theorem InvV2.same {B : Nat} {o : Nat → Nat} {w w' : World} {pw : Nat} {vcs : Value} {N i v : Nat} (h : InvV2 B o w pw vcs N i v) (hk : Keeps (fun _ => False) w w') : InvV2 B o w' pw vcs N i v := by
  obtain ⟨vvs, vb, vs, ms, ls, og, h1, h2, h3, h4, h5, h6, h7, h8, h9, h10, h11, h12, h13, h14⟩ := h
  exact ⟨vvs, vb, vs, ms, ls, og, hk.heap h1 (fun f => f), h2, h3.tag hk (fun _ _ _ f => f) (fun _ _ => rfl), h4.tag hk (fun _ _ _ f => f) (fun _ _ => rfl), h5.tag hk (fun _ _ _ f => f) (fun _ _ => rfl), h6, h7, fun i v m hv hm => (h8 i v m hv hm).tag hk (fun _ _ _ f => f) (fun _ _ => rfl), h9, h10, h11, h12, Nat.le_trans h13 hk.size, h14⟩

theorem Done2.back {B : Nat} {o : Nat → Nat} {W W1 : World} {pw : Nat} {vcs : Value} {N : Nat} {w' : World} (h : Done2 B o W1 pw vcs N w') (hk : Keeps (fun _ => False) W W1) (hp : pw < W.heap.size) : Done2 B o W pw vcs N w' :=
  ⟨h.1, (hk.mono (T := fun k => o k ≠ 0 ∧ o k ≠ 2) (fun _ _ f => f.elim)).trans h.2.1 (fun _ _ q => q), h.2.2.trans (hk.cell (p := ⟨pw, 1, none⟩) hp (fun f => f))⟩

theorem Inv2.norm {B : Nat} {o : Nat → Nat} {w : World} {pw : Nat} {vcs : Value} {N : Nat} (h : Inv2 B o w pw vcs N) : Inv2 B (fun k => if k < w.heap.size then o k else 0) w pw vcs N := by
  obtain ⟨vvs, vb, vs, ms, ls, og, h1, h2, h3, h4, h5, h6, h7, h8, h9, h10, h11, h12, h13⟩ := h
  have ho : ∀ k, k < w.heap.size → (fun k => if k < w.heap.size then o k else 0) k = o k := fun k hk => if_pos hk
  have hk := Keeps.refl (fun _ => False) w
  exact ⟨vvs, vb, vs, ms, ls, og, h1, (ho pw (lt_of_heap h1)).trans h2, h3.tag hk (fun _ _ _ f => f) ho, h4.tag hk (fun _ _ _ f => f) ho, h5.tag hk (fun _ _ _ f => f) ho, h6, h7, fun i v m hv hm => (h8 i v m hv hm).tag hk (fun _ _ _ f => f) ho, h9, h10, h11, fun k hkB => (ho k (by omega)).trans (h12 k hkB), h13⟩

theorem StepS.done2 {B pw ob gv nv cv pk v N : Nat} {k a b c : Int} {s : ByteArray} {vk vp vcs : Value} {o : Nat → Nat} {W w' : World} (h : StepS pw ob gv nv cv pk v k a b c s vk vp W) (hD : Done2 B o W pw vcs N w') (ho : o ob = 0) (hg : o gv = 2) : StepS pw ob gv nv cv pk v k a b c s vk vp w' := by
  obtain ⟨h1, h2, h3, h4, h5, h6, h7, h8, h9⟩ := h
  have hk := hD.2.1
  have l1 := World.block_lt_of_cell? W _ h2
  have l2 := World.block_lt_of_cell? W _ h9
  have f : ∀ j : Nat, w'.cell? ⟨ob, j, none⟩ = W.cell? ⟨ob, j, none⟩ := fun j => hk.cell (p := ⟨ob, j, none⟩) l1 (fun h => h.1 ho)
  exact ⟨hD.2.2.trans h1, (f 0).trans h2, (f 1).trans h3, (f 2).trans h4, (f 3).trans h5, (f 4).trans h6, (f 5).trans h7, (f 6).trans h8, (hk.cell (p := ⟨gv, pk, none⟩) l2 (fun h => h.2 hg)).trans h9⟩

theorem inv_look {B N pw : Nat} {o : Nat → Nat} {W w' : World} {vcs vvs vb : Value} {vs : List Nat} {ms : List VM} {ls : List Value} {og : Nat → Nat}
    (h1 : W.heap[pw]? = some (.cells #[vcs, vvs, .slice none 0 0, vb, .slice none 0 0, .slice none 0 0, .slice none 0 0] 79 (0, 0))) (h2 : o pw = 1)
    (h3 : Own (fun k => o k = 2) W 131 1 vvs vs.length (ptrs vs)) (h5 : BookC (fun k => o k = 4) og (fun _ _ => True) W ls) (h6 : ls.length % 4 = 0)
    (h7 : ms.length = vs.length) (h8 : ∀ (i v : Nat) (m : VM), vs[i]? = some v → ms[i]? = some m → VolT o (5 + 3 * i) W v m)
    (h9 : vs.length ≤ N) (h10 : ls.length ≤ 4 * N) (h11 : ∀ m ∈ ms, VB N m) (h12 : ∀ k, k < B → o k = 0) (h13 : B ≤ W.heap.size)
    (hR : LookPost (fun k => o k = 3) pw vcs vvs (.slice none 0 0) (.slice none 0 0) (.slice none 0 0) (.slice none 0 0) ls W w') : Done2 B o W pw vcs N w' := by
  obtain ⟨w1, ao, nl, cap, k1, hnl, ⟨o1, o2, o3⟩, w3, vb', x1, x2, x3, k3, hKR, n1, n2, n3, e1, e2, e3⟩ := hR
  have hpl := lt_of_heap h1
  have s1 := k1.size
  have s3 := k3.size
  have hao : ∀ k off, ao = some ⟨k, off, none⟩ → W.heap.size ≤ k ∧ k < w1.heap.size := by
    intro k off hk
    rcases o3 with h | ⟨g, off', cs, e, a1, a2, a3, _⟩
    · rw [h.1] at hk; cases hk
    · rw [a1] at hk; cases hk; exact ⟨a2, lt_of_heap a3⟩
  have kW3 : Keeps (fun _ => False) W w3 := k1.trans k3 (fun i hi h => by obtain ⟨off, h⟩ := h; have := hao i off h; omega)
  have kW : Keeps (fun k => k = pw ∨ o k = 3) W w' := (kW3.mono (T := fun k => k = pw ∨ o k = 3) (fun _ _ f => f.elim)).trans e3 (fun i hi h => by
    rcases h with h | h | h
    · exact .inl h
    · exact .inr h.1.1
    · omega)
  have hvb : ∀ k, vb'.ownBlock = some k → (o k = 3 ∧ k < W.heap.size) ∨ w3.heap.size ≤ k := fun k hk => by
    rcases e2.2 k hk with h | h
    · exact .inl h.1
    · exact .inr h
  refine ⟨⟨fun k => if k < W.heap.size then o k else if vb'.ownBlock = some k then 3 else 4, vvs, vb', vs, ms, ls ++ [.slice ao nl cap] ++ [x1] ++ [x2] ++ [x3], fun k => if k < W.heap.size then og k else ls.length / 4, e1, ?_, ?_, ?_, ?_, by simp; omega, h7, ?_, by omega, by simp; omega, fun m hm => (h11 m hm).more, ?_, Nat.le_trans h13 kW.size⟩, kW.mono (fun k _ h => ?_), ?_⟩
  · simp only; rw [if_pos hpl]; exact h2
  · exact h3.tag kW (fun k l e h => by rcases h with h | h; (subst h; omega); omega) (fun k hk => if_pos hk)
  · have hlen : (ls ++ [Value.slice ao nl cap] ++ [x1] ++ [x2] ++ [x3]).length = ls.length + 4 := by simp
    rw [hlen]
    refine e2.self.mono (fun k _ h => ?_)
    simp only
    by_cases hk : k < W.heap.size
    · rw [if_pos hk]
      rcases h.1 with h' | h'
      · exact h'.1.1
      · omega
    · rw [if_neg hk, if_pos h.2]
  · have newEnt : ∀ (i : Nat) (x : Value), i / 4 = ls.length / 4 → ML (fun x => (∃ off, ao = some ⟨x, off, none⟩) ∨ w1.heap.size ≤ x) w3 (.int .u8 (200 + (ls.length : Int) / 4 % 50)) x → Ent (fun k => (fun k => if k < W.heap.size then o k else if vb'.ownBlock = some k then 3 else 4) k = 4) (fun k => if k < W.heap.size then og k else ls.length / 4) (fun _ _ => True) w' i x := by
      intro i x hi hx
      obtain ⟨ax, n, cx, a1, a2, a3, a4⟩ := hx
      refine ⟨ax, n, cx, a1, a2, by unfold maxLen at a3; omega, ?_⟩
      rcases a4 with a4 | ⟨g, off, cur, e, b1, b2, b3, b4, b5⟩
      · exact .inl a4
      · have hgl := lt_of_heap b3
        have hg : W.heap.size ≤ g := by
          rcases b2 with ⟨off', b2⟩ | b2
          · exact (hao g off' b2).1
          · omega
        refine .inr ⟨g, off, cur, e, b1, ?_, ?_, e3.heap b3 (fun h => by rcases h with h | h | h <;> omega), b4, fun j hj _ => ?_⟩
        · simp only
          rw [if_neg (by omega), if_neg (fun e => by rcases hvb g e with h | h <;> omega)]
        · simp only
          rw [if_neg (by omega)]; exact hi.symm
        · rw [b5 j hj]; exact congrArg some (mark_eq ls.length i hi)
    intro i v hv
    have hilen := (List.getElem?_eq_some_iff.1 hv).1
    simp at hilen
    by_cases hi : i < ls.length
    · rw [List.append_assoc, List.append_assoc, List.append_assoc, List.getElem?_append_left hi] at hv
      obtain ⟨bo, len, cap5, a1, a2, a3, a4⟩ := h5 i v hv
      refine ⟨bo, len, cap5, a1, a2, a3, ?_⟩
      rcases a4 with a4 | ⟨g, off, cur, e, b1, b2, b3, b4, b5, b6⟩
      · exact .inl a4
      · have hgl := lt_of_heap b4
        refine .inr ⟨g, off, cur, e, b1, ?_, ?_, kW.heap b4 (fun h => by rcases h with h | h; (subst h; omega); omega), b5, b6⟩
        · simp only; rw [if_pos hgl]; exact b2
        · simp only; rw [if_pos hgl]; exact b3
    · rw [List.append_assoc, List.append_assoc, List.append_assoc, List.getElem?_append_right (by omega)] at hv
      obtain ⟨j, rfl⟩ : ∃ j, i = ls.length + j := ⟨i - ls.length, by omega⟩
      rw [Nat.add_sub_cancel_left] at hv
      have hq : (ls.length + j) / 4 = ls.length / 4 := by omega
      match j, hv with
      | 0, hv =>
        simp at hv
        subst hv
        refine ⟨ao, nl, cap, rfl, o1, by unfold maxLen at o2; omega, ?_⟩
        rcases hKR with h0 | ⟨g, off, cur, e, b1, b2, b3, b4⟩
        · exact .inl h0.2.1
        · have hg := hao g off b1
          have hgl := lt_of_heap b2
          refine .inr ⟨g, off, cur, e, b1, ?_, ?_, e3.heap b2 (fun h => by rcases h with h | h | h <;> omega), by omega, fun j hj _ => ?_⟩
          · simp only
            rw [if_neg (by omega), if_neg (fun e => by rcases hvb g e with h | h <;> omega)]
          · simp only
            rw [if_neg (by omega)]; exact hq.symm
          · rw [b4 j hj]; exact congrArg some (mark_eq ls.length _ hq)
      | 1, hv => simp at hv; subst hv; exact newEnt _ _ hq n1
      | 2, hv => simp at hv; subst hv; exact newEnt _ _ hq n2
      | 3, hv => simp at hv; subst hv; exact newEnt _ _ hq n3
      | j + 4, hv => simp at hv
  · intro i v m hv hm
    exact (h8 i v m hv hm).tag kW (fun k l e h => by rcases h with h | h; (subst h; omega); omega) (fun k hk => if_pos hk)
  · intro k hk
    simp only; rw [if_pos (by omega)]; exact h12 k hk
  · rcases h with h | h
    · subst h; omega
    · omega
  · rw [cell_of_heap e1, cell_of_heap h1]; rfl

end Go.Proofs.YthbmmbgkchiajaaGreat
