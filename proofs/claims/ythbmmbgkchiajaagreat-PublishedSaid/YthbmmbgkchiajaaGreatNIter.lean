
/- A table gone through, in whatever order. -/
import Derived.Test.YthbmmbgkchiajaaGreatNAnswer
import Derived.Maps.RangeRun

namespace Go.Proofs.YthbmmbgkchiajaaGreat
set_option linter.unusedSimpArgs false
set_option linter.unusedVariables false
open Go.RowKit

section
variable {α : Type}
/-- m is the least of the beginning and what the list tells. -/
def IsMin (f : α → Option Nat) (l : List α) (init m : Nat) : Prop := m ≤ init ∧ (∀ x ∈ l, ∀ v, f x = some v → m ≤ v) ∧ (m = init ∨ ∃ x ∈ l, f x = some m)
theorem IsMin.unique {f : α → Option Nat} {l : List α} {init a b : Nat} (ha : IsMin f l init a) (hb : IsMin f l init b) : a = b := by
  apply Nat.le_antisymm
  · rcases hb.2.2 with e | ⟨x, hx, e⟩
    · rw [e]; exact ha.1
    · exact ha.2.1 x hx b e
  · rcases ha.2.2 with e | ⟨x, hx, e⟩
    · rw [e]; exact hb.1
    · exact hb.2.1 x hx a e
def minF (f : α → Option Nat) (a : Nat) (x : α) : Nat := match f x with
  | none => a
  | some v => min a v
theorem minF_isMin (f : α → Option Nat) : ∀ (l : List α) (init : Nat), IsMin f l init (l.foldl (minF f) init)
  | [], init => ⟨Nat.le_refl _, (fun x hx => by cases hx), .inl rfl⟩
  | x :: l, init => by
    obtain ⟨h1, h2, h3⟩ := minF_isMin f l (minF f init x)
    rw [List.foldl_cons]
    have hle : minF f init x ≤ init := by
      unfold minF
      split
      · exact Nat.le_refl _
      · exact Nat.min_le_left _ _
    refine ⟨Nat.le_trans h1 hle, fun y hy v hv => ?_, ?_⟩
    · rcases List.mem_cons.1 hy with rfl | hy
      · refine Nat.le_trans h1 ?_
        unfold minF
        rw [hv]
        exact Nat.min_le_right _ _
      · exact h2 y hy v hv
    · rcases h3 with e | ⟨y, hy, e⟩
      · have : minF f init x = init ∨ f x = some (minF f init x) := by
          unfold minF
          cases hf : f x with
          | none => exact .inl rfl
          | some v =>
            simp only
            rcases Nat.le_total init v with h | h
            · exact .inl (Nat.min_eq_left h)
            · exact .inr (by rw [Nat.min_eq_right h])
        rcases this with e' | e'
        · exact .inl (e.trans e')
        · exact .inr ⟨x, by simp, by rw [e]; exact e'⟩
      · exact .inr ⟨y, by simp [hy], e⟩
end

def nextR (x : Value) (ty : TypeId) : Sem Value := Instr.next x false ty
theorem nextR_eq (x : Value) (ty : TypeId) : Instr.next x false ty = nextR x ty := rfl
def entryR (x : Value) : Sem Value := Instr.entry x
theorem entryR_eq (x : Value) : Instr.entry x = entryR x := rfl
def rangeR (ty : TypeId) (x : Value) : Sem Value := Instr.range ty x
theorem rangeR_eq (ty : TypeId) (x : Value) : Instr.range ty x = rangeR ty x := rfl

/-- How many entries are still to come. -/
def iterLeft (w : World) (b r : Nat) : Nat := match w.heap[b]?, w.heap[r]? with
  | some (.map es _), some (.mapIter _ _ seen _) => (leftOf es seen).size
  | _, _ => 0

/-- A table under way: what has come out so far. -/
def Iter (w : World) (b r : Nat) (l : List (Tx × Value)) (done : List Value) : Prop :=
  ∃ es clock seen, w.heap[b]? = some (.map es clock) ∧ ents l es.toList ∧ es.toList.Pairwise (fun x y => x.born ≠ y.born) ∧ (∀ e ∈ es.toList, e.born < clock) ∧ w.heap[r]? = some (.mapIter (some b) clock seen clock) ∧ ∀ e ∈ es.toList, seen.contains e.born = true → e.val ∈ done

theorem ents_val {l : List (Tx × Value)} {es : List MapEntry} (h : ents l es) {e : MapEntry} (he : e ∈ es) : ∃ x ∈ l, x.2 = e.val := by
  have : (e.key, e.val) ∈ es.map (fun e => (e.key, e.val)) := List.mem_map.2 ⟨e, he, rfl⟩
  rw [h, List.mem_map] at this
  obtain ⟨x, hx, e⟩ := this
  simp only [Prod.mk.injEq] at e
  exact ⟨x, hx, e.2⟩
theorem ents_val' {l : List (Tx × Value)} {es : List MapEntry} (h : ents l es) {x : Tx × Value} (hx : x ∈ l) : ∃ e ∈ es, e.val = x.2 := by
  have : (txv x.1, x.2) ∈ l.map (fun x => (txv x.1, x.2)) := List.mem_map.2 ⟨x, hx, rfl⟩
  rw [← h, List.mem_map] at this
  obtain ⟨e, he, e1⟩ := this
  simp only [Prod.mk.injEq] at e1
  exact ⟨e, he, e1.2⟩

theorem Iter.keep {T : Nat → Prop} {w w' : World} {b r : Nat} {l : List (Tx × Value)} {done : List Value} (h : Iter w b r l done) (hk : Keeps T w w') (hb : ¬ T b) (hr : ¬ T r) : Iter w' b r l done := by
  obtain ⟨es, c, seen, h1, h2, h3, h4, h5, h6⟩ := h
  exact ⟨es, c, seen, hk.heap h1 hb, h2, h3, h4, hk.heap h5 hr, h6⟩

theorem run_range {w : World} {b : Nat} {l : List (Tx × Value)} (h : MapAt w b l) (ty e : TypeId) (hty : Tryz.prog.underlying ty = some (.map 38 e)) :
    ∃ w', (rangeR ty (.map (some b))).run Tryz.prog w = .ok (.pointer (some ⟨w.heap.size, 0, none⟩)) w' ∧ Hid (Iter w' b w.heap.size l [] ∧ Keeps (fun _ => False) w w' ∧ w.heap.size < w'.heap.size) := by
  have hlt := h.lt
  obtain ⟨es, c, hb, he, hd, hc⟩ := h
  refine ⟨w.alloc (.mapIter (some b) c #[] c), ?_, hide ⟨⟨es, c, #[], ?_, he, hd, hc, heap_alloc_new _ _, fun e _ hs => by simp at hs⟩, (Keeps.refl _ _).alloc _, by simp⟩⟩
  · unfold rangeR Instr.range
    simp [run_underlying hty, getMapObj hb, newObj, Sem.run]
  · rw [Below.heap_alloc _ _ _ hlt]; exact hb

theorem filter_lt {es : List MapEntry} {seen : Array Nat} {e : MapEntry} (he : e ∈ es) (hs : seen.contains e.born = false) : (es.filter (fun x => !(seen.push e.born).contains x.born)).length < (es.filter (fun x => !seen.contains x.born)).length := by
  have himp : ∀ x : MapEntry, (!(seen.push e.born).contains x.born) = true → (!seen.contains x.born) = true := fun x hx => by
    rw [Array.contains_push] at hx
    cases h : seen.contains x.born with
    | false => rfl
    | true => rw [h] at hx; simp at hx
  have hself : (!(seen.push e.born).contains e.born) = false := by rw [Array.contains_push]; simp
  generalize hp : (fun x : MapEntry => !(seen.push e.born).contains x.born) = pp at *
  have hself' : pp e = false := by rw [← hp]; exact hself
  generalize hq : (fun x : MapEntry => !seen.contains x.born) = qq at *
  have hqe : qq e = true := by rw [← hq]; simp only [hs]; rfl
  have himp' : ∀ x, pp x = true → qq x = true := fun x hx => by rw [← hq]; rw [← hp] at hx; exact himp x hx
  induction es with
  | nil => cases he
  | cons x es ih =>
    have mono : (es.filter pp).length ≤ (es.filter qq).length := by
      rw [← List.countP_eq_length_filter, ← List.countP_eq_length_filter]
      exact List.countP_mono_left (fun x _ => himp' x)
    rcases List.mem_cons.1 he with h | h
    · subst h
      rw [List.filter_cons_of_neg (by rw [hself']; simp), List.filter_cons_of_pos hqe]
      simp only [List.length_cons]
      omega
    · have := ih h
      by_cases hx : pp x = true
      · rw [List.filter_cons_of_pos hx, List.filter_cons_of_pos (himp' x hx)]
        simp only [List.length_cons]
        omega
      · rw [List.filter_cons_of_neg hx]
        by_cases hx2 : qq x = true
        · rw [List.filter_cons_of_pos hx2]; simp only [List.length_cons]; omega
        · rw [List.filter_cons_of_neg hx2]; exact this

theorem run_next {w : World} {b r : Nat} {l : List (Tx × Value)} {done : List Value} (h : Iter w b r l done) (hbr : b ≠ r) (ty : TypeId) :
    ((nextR (.pointer (some ⟨r, 0, none⟩)) ty).run Tryz.prog w = .ok (.tuple #[.bool false]) w ∧ Hid (∀ x ∈ l, x.2 ∈ done)) ∨
    ∃ k v w', (nextR (.pointer (some ⟨r, 0, none⟩)) ty).run Tryz.prog w = .ok (.tuple #[.bool true, k, v]) w' ∧ (entryR (.pointer (some ⟨r, 0, none⟩))).run Tryz.prog w' = .ok (.tuple #[k, v]) w' ∧ Hid ((∃ x ∈ l, x.2 = v) ∧ Iter w' b r l (v :: done) ∧ iterLeft w' b r < iterLeft w b r ∧ Keeps (fun k => k = r) w w') := by
  obtain ⟨es, c, seen, h1, h2, h3, h4, h5, h6⟩ := h
  have hnd : (es.toList.map (·.born)).Nodup := by
    unfold List.Nodup
    rw [List.pairwise_map]
    exact h3
  rcases run_next_at (P := Tryz.prog) w ty r b c c seen es c h5 h1 h4 (Nat.le_refl _) with ⟨hs, hr⟩ | ⟨e, he, w1, hw1, hr⟩
  · refine .inl ⟨hr, hide (fun x hx => ?_)⟩
    obtain ⟨e, he, e1⟩ := ents_val' h2 hx
    rw [← e1]
    refine h6 e he ?_
    have hz : leftOf es seen = #[] := Array.eq_empty_of_size_eq_zero hs
    unfold leftOf at hz
    rw [Array.filter_eq_empty_iff] at hz
    simpa using hz e (by simpa using he)
  · have hem : e ∈ es.toList ∧ seen.contains e.born = false := by
      unfold leftOf at he
      rw [Array.toList_filter, List.mem_filter] at he
      exact ⟨he.1, by simpa using he.2⟩
    have hk1 : Keeps (fun _ => False) w w1 := by rcases hw1 with rfl | rfl; exact Keeps.refl _ _; exact (Keeps.refl _ _).drew
    have hb1 := hk1.heap h1 (fun f => f)
    have hr1 := hk1.heap h5 (fun f => f)
    have hks := keeps_setMap w1 r (.mapIter (some b) c (seen.push e.born) c)
    have hb2 := hks.heap hb1 hbr
    have hr2 := setMap_at (lt_of_heap hr1) (.mapIter (some b) c (seen.push e.born) c)
    refine .inr ⟨e.key, e.val, setMap w1 r (.mapIter (some b) c (seen.push e.born) c), hr, ?_, hide ⟨ents_val h2 hem.1, ⟨es, c, seen.push e.born, hb2, h2, h3, h4, hr2, fun x hx hsx => ?_⟩, ?_, ?_⟩⟩
    · exact run_entry_at (P := Tryz.prog) _ r b c seen es c e hr2 hb2 hem.1 hnd
    · rw [Array.contains_push, Bool.or_eq_true] at hsx
      rcases hsx with hsx | hsx
      · exact List.mem_cons_of_mem _ (h6 x hx hsx)
      · rw [beq_iff_eq] at hsx
        have : x = e := by
          obtain ⟨i, hi⟩ := List.getElem?_of_mem hx
          obtain ⟨j, hj⟩ := List.getElem?_of_mem hem.1
          have h1 : (es.toList.map (·.born))[i]? = some x.born := by rw [List.getElem?_map, hi]; rfl
          have h2 : (es.toList.map (·.born))[j]? = some x.born := by rw [List.getElem?_map, hj, hsx]; rfl
          have := (List.getElem?_inj (List.getElem?_eq_some_iff.1 h1).1 hnd).1 (h1.trans h2.symm)
          subst this
          rw [hi] at hj
          cases hj; rfl
        rw [this]; exact List.mem_cons_self
    · unfold iterLeft
      rw [hb2, hr2, h1, h5]
      simp only
      have e1 : ∀ sn : Array Nat, (leftOf es sn).size = (es.toList.filter (fun x => !sn.contains x.born)).length := fun sn => by
        unfold leftOf
        rw [← Array.toList_filter, Array.length_toList]
      rw [e1, e1]
      exact filter_lt hem.1 hem.2
    · exact (hk1.mono (T := fun k => k = r) (fun _ _ f => f.elim)).trans hks (fun _ _ e => e)

end Go.Proofs.YthbmmbgkchiajaaGreat

/- Segments let go. -/
namespace Go.Proofs.YthbmmbgkchiajaaGreat
set_option linter.unusedSimpArgs false
set_option linter.unusedVariables false
open Go.RowKit

def fD (x : Tx × Deal) : Option Nat := if x.2.recd = 0 then none else some x.2.recd
def fP (x : Tx × Nat) : Option Nat := some x.2
theorem lowest_eq (n : NM) : n.lowest = n.prep.foldl (minF fP) (n.opn.foldl (minF fD) (n.recs.length + 1)) := by
  unfold NM.lowest
  have e1 : (fun (l : Nat) (x : Tx × Nat) => min l x.2) = minF fP := by funext l x; rfl
  have e2 : (fun (l : Nat) (x : Tx × Deal) => if x.2.recd = 0 then l else min l x.2.recd) = minF fD := by
    funext l x
    unfold minF fD
    by_cases h : x.2.recd = 0
    · simp [h]
    · simp [h]
  rw [e1, e2]

/-- So far the least is m. -/
def Part {α : Type} (f : α → Option Nat) (g : α → Value) (l : List α) (init m : Nat) (done : List Value) : Prop := m ≤ init ∧ (∀ x ∈ l, g x ∈ done → ∀ v, f x = some v → m ≤ v) ∧ (m = init ∨ ∃ x ∈ l, f x = some m)
theorem Part.start {α : Type} (f : α → Option Nat) (g : α → Value) (l : List α) (init : Nat) : Part f g l init init [] := ⟨Nat.le_refl _, (fun x _ h => by cases h), .inl rfl⟩
theorem Part.end {α : Type} {f : α → Option Nat} {g : α → Value} {l : List α} {init m : Nat} {done : List Value} (h : Part f g l init m done) (hd : ∀ x ∈ l, g x ∈ done) : m = l.foldl (minF f) init :=
  IsMin.unique ⟨h.1, fun x hx => h.2.1 x hx (hd x hx), h.2.2⟩ (minF_isMin f l init)
theorem Part.skip {α : Type} {f : α → Option Nat} {g : α → Value} {l : List α} {init m : Nat} {done : List Value} {v : Value} (h : Part f g l init m done) (hv : ∀ x ∈ l, g x = v → f x = none) : Part f g l init m (v :: done) :=
  ⟨h.1, fun x hx hd u hu => by
    rcases List.mem_cons.1 hd with e | e
    · rw [hv x hx e] at hu; cases hu
    · exact h.2.1 x hx e u hu, h.2.2⟩
theorem Part.take {α : Type} {f : α → Option Nat} {g : α → Value} {l : List α} {init m a : Nat} {done : List Value} {v : Value} {y : α} (h : Part f g l init m done) (hy : y ∈ l) (hya : f y = some a) (hv : ∀ x ∈ l, g x = v → f x = some a) : Part f g l init (min m a) (v :: done) := by
  refine ⟨Nat.le_trans (Nat.min_le_left _ _) h.1, fun x hx hd u hu => ?_, ?_⟩
  · rcases List.mem_cons.1 hd with e | e
    · rw [hv x hx e] at hu; cases hu; exact Nat.min_le_right _ _
    · exact Nat.le_trans (Nat.min_le_left _ _) (h.2.1 x hx e u hu)
  · rcases Nat.le_total m a with e | e
    · rw [Nat.min_eq_left e]; exact h.2.2
    · rw [Nat.min_eq_right e]; exact .inr ⟨y, hy, hya⟩

/-- min of two numbers, by a name of its own. -/
def minI (args : Array Value) : Sem Value := Builtin.min_ #[3, 3] 3 args
theorem minI_eq (args : Array Value) : Builtin.min_ #[3, 3] 3 args = minI args := rfl
theorem run_minI (W : World) (a b : Nat) : (minI #[.int .i64 (a : Int), .int .i64 (b : Int)]).run Tryz.prog W = .ok (.int .i64 ((min a b : Nat) : Int)) W := by
  unfold minI Builtin.min_
  simp [go_sem]
  unfold Builtin.min2
  simp
  rcases Nat.lt_or_ge b a with h | h
  · rw [if_pos (by omega), Nat.min_eq_right (by omega)]
  · rw [if_neg (by omega), Nat.min_eq_left h]

attribute [local go_sem ↓] lookO_eq lookP_eq delO_eq delP_eq putO_eq putP_eq lenO_eq lenP_eq nextR_eq entryR_eq rangeR_eq minI_eq

theorem tidy_eq (n : NM) : n.tidy = if n.seg n.low < n.seg n.lowest then n.truncate n.lowest else n := rfl
theorem lowest_le (n : NM) : n.lowest ≤ n.recs.length + 1 := by
  rw [lowest_eq]
  exact Nat.le_trans (minF_isMin fP n.prep _).1 (minF_isMin fD n.opn _).1
theorem seg_lt {n : NM} {a b : Nat} (h : n.seg a < n.seg b) : a ≤ b := by
  rcases Nat.lt_or_ge b a with h1 | h1
  · have : n.seg b ≤ n.seg a := Nat.div_le_div_right (by omega)
    omega
  · exact h1

structure LookRel (o : Nat → Tag) (w : World) (p : Nat) (n : NM) (B bo bp : Nat) : Prop where
  at_ : NodeAt o w p n B
  ebo : n.bo = bo
  ebp : n.bp = bp

set_option maxRecDepth 100000 in
set_option maxHeartbeats 1000000 in
theorem look_any (o : Nat → Tag) (p B : Nat) (n : NM) (w : World) (h : NodeAt o w p n B) (hup : n.up = true) (hB : B + 1 ≤ 1099511627776) :
    Calls Tryz.prog 224 #[.pointer (some ⟨p, 0, none⟩)] w fun e w' => e = .returned (.tuple #[]) ∧ NPost o w p n.tidy (B + 1) w' := by
  obtain ⟨pd, vj, vf, bo, bp, ve, g⟩ := h
  have hN : NodeAt o w p n B := ⟨pd, vj, vf, bo, bp, ve, g⟩
  have hG := fun W (hk : Keeps (fun _ => False) w W) => (g.keep hk (fun _ hk => tagsUp_old hk) (fun _ _ _ f => f) : NG (tagsUp o w .other) W p n B pd vj vf bo bp ve)
  obtain ⟨pj, dm, rfl, hJ, hdm⟩ := g.jour' hup
  have hnext := jNext_use hJ
  have hbol := g.opens.map.lt
  have hbpl := g.preps.map.lt
  have c12 := g.cell 12
  have c15 := g.cell 15
  have c16 := g.cell 16
  simp [nodeCells] at c12 c15 c16
  have HG := hide hG
  have HJ := hide hJ
  obtain ⟨w1, hrg, HR1⟩ := run_range g.opens.map 149 _ Tryz.underlying149
  have HN := hide (And.intro hN hup)
  obtain ⟨nx, hnx⟩ : ∃ nx, n.recs.length + 1 = nx := ⟨_, rfl⟩
  have HNX := hide hnx
  rw [hnx] at hnext
  clear hN hG hJ g hup hnx
  go_enter Tryz.func224, Tryz.ntmps224
  go_wp2_with (go_at_call 153; refine hnext.mono ?_; rintro e wn ⟨rfl, hwn⟩; rw [hwn]; clear hwn wn)
  go_loopw [2] (fun low wr => ∃ (m : Nat) (done : List Value), low = .int .i64 m ∧ Hid (Iter wr bo w.heap.size (openL n.opn) done ∧ Keeps (fun _ => False) w wr ∧ Part fD (fun x => dptr x.2) n.opn nx m done)) (fun _ wr => iterLeft wr bo w.heap.size)
  case atStart => exact ⟨nx, [], rfl, hide ⟨(unhide HR1).1, (unhide HR1).2.1, Part.start _ _ _ _⟩⟩
  case round =>
    obtain ⟨m, done, rfl, HR⟩ := hrel
    have hR := unhide HR
    rcases run_next hR.1 (show bo ≠ w.heap.size by omega) 0 with ⟨hnr, HALL⟩ | ⟨k, v, w', hnr, hen, HX⟩
    · obtain ⟨wA, rfl⟩ : ∃ x, x = wr := ⟨wr, rfl⟩
      have hfin : m = n.opn.foldl (minF fD) nx := hR.2.2.end (fun x hx => (unhide HALL) (x.1, dptr x.2) (List.mem_map.2 ⟨x, hx, rfl⟩))
      have gr := (unhide HG) wA hR.2.1
      have c16r := gr.cell 16
      simp [nodeCells] at c16r
      obtain ⟨w2, hrg2, HR2⟩ := run_range gr.preps.map 150 _ Tryz.underlying150
      have hbp2 : bp < wA.heap.size := gr.preps.map.lt
      have hkr := hR.2.1
      have HF := hide hfin
      clear hR HR gr hfin
      go_wp2_with fail
      go_loopw [2] (fun low wq => ∃ (m2 : Nat) (done : List Value), low = .int .i64 m2 ∧ Hid (Iter wq bp wA.heap.size (prepL n.prep) done ∧ Keeps (fun _ => False) w wq ∧ Part fP (fun x => ival x.2) n.prep m m2 done)) (fun _ wq => iterLeft wq bp wA.heap.size)
      case atStart => exact ⟨m, [], rfl, hide ⟨(unhide HR2).1, hkr.trans (unhide HR2).2.1 (fun _ _ f => f), Part.start _ _ _ _⟩⟩
      case round =>
        obtain ⟨m2, done2, rfl, HRq⟩ := hrel
        have hRq := unhide HRq
        rcases run_next hRq.1 (show bp ≠ wA.heap.size by omega) 0 with ⟨hnr2, HALL2⟩ | ⟨k, v, w', hnr2, hen2, HX⟩
        · have hfin2 : m2 = n.lowest := by
            rw [lowest_eq, unhide HNX, ← unhide HF]
            exact hRq.2.2.end (fun x hx => (unhide HALL2) (x.1, ival x.2) (List.mem_map.2 ⟨x, hx, rfl⟩))
          have gq := (unhide HG) wr hRq.2.1
          have hq12 := gq.cell 12
          have hq4 := gq.cell 4
          simp [nodeCells] at hq12 hq4
          have hNq : NodeAt (tagsUp o w .other) wr p n B := ⟨_, _, _, _, _, _, gq⟩
          obtain ⟨pj2, dm2, hpe, hJq, _⟩ := gq.jour' (unhide HN).2
          cases hpe
          have hrm := JUse.room hJq
          have hrl := gq.small.recs
          have hll := lowest_le n
          have HS1 := hide (fun W (hc : W.cell? ⟨p, 4, none⟩ = some (.int .i64 (n.cfg.per : Int))) => segment_at p m2 n W hc (by omega) hrm.2.2.2.1)
          have HS2 := hide (fun W (hc : W.cell? ⟨p, 4, none⟩ = some (.int .i64 (n.cfg.per : Int))) => segment_at p n.low n W hc (by omega) hrm.2.2.2.1)
          obtain ⟨vn, hjat⟩ := hJq.at
          have cj3 := cell_of_heap (o := 3) hjat
          simp [NM.jm] at cj3
          have HLO := hide (fun W (hc : W.cell? ⟨pj, 3, none⟩ = some (.int .i64 (n.low : Int))) => jLow_any pj _ W hc)
          have htr : n.seg n.low < n.seg m2 → ∀ W, Keeps (fun _ => False) wr W → Calls Tryz.prog 278 #[.pointer (some ⟨p, 0, none⟩), .int .i64 (m2 : Int)] W fun e w' => e = .returned (.tuple #[]) ∧ NPost (tagsUp o w .other) W p (n.truncate m2) (B + 1) w' := fun hs W hk => truncate_any _ p B m2 n W (hNq.still hk) (unhide HN).2 (seg_lt hs) (by omega) hB
          have hkq := hRq.2.1
          have HQ := hide (And.intro hNq hfin2)
          clear hRq HRq gq hNq hJq hrm hll hfin2 hjat
          by_cases hs : n.seg n.low < n.seg m2
          · have hs' : ((n.seg n.low : Nat) : Int) < ((n.seg m2 : Nat) : Int) := by omega
            have htr' := htr hs
            have HS := hide hs
            clear htr hs
            generalize hsl : n.seg n.low = sl at *
            generalize hsm : n.seg m2 = sm at *
            have HSS := hide (And.intro hsl hsm)
            clear hsl hsm
            go_wp2_with fail
            go_quiet (first | (go_at_call_of 151 (Value.int IntKind.i64 (m2 : Int)); exact Calls.quiet_of_same (unhide HS1 _ hq4)) | (go_at_call_of 151 (Value.int IntKind.i64 (n.low : Int)); exact Calls.quiet_of_same (unhide HS2 _ hq4)) | (go_at_call 152; exact Calls.quiet_of_same (unhide HLO _ cj3)))
            go_wp2_with (go_at_call 278; refine (htr' _ (Keeps.drewN' wr _)).mono ?_; rintro e w5 ⟨rfl, hres⟩)
            go_end0
            refine ⟨rfl, ?_⟩
            rw [tidy_eq, ← (unhide HQ).2, (unhide HSS).1, (unhide HSS).2, if_pos (unhide HS)]
            exact NPost.from (hkq.trans (Keeps.drewN' wr _) (fun _ _ f => f)) hres
          · have hs' : ¬ ((n.seg n.low : Nat) : Int) < ((n.seg m2 : Nat) : Int) := by omega
            have HS := hide hs
            clear htr hs
            generalize hsl : n.seg n.low = sl at *
            generalize hsm : n.seg m2 = sm at *
            have HSS := hide (And.intro hsl hsm)
            clear hsl hsm
            go_wp2_with fail
            go_quiet (first | (go_at_call_of 151 (Value.int IntKind.i64 (m2 : Int)); exact Calls.quiet_of_same (unhide HS1 _ hq4)) | (go_at_call_of 151 (Value.int IntKind.i64 (n.low : Int)); exact Calls.quiet_of_same (unhide HS2 _ hq4)) | (go_at_call 152; exact Calls.quiet_of_same (unhide HLO _ cj3)))
            go_wp2
            go_end0
            refine ⟨rfl, ?_⟩
            rw [tidy_eq, ← (unhide HQ).2, (unhide HSS).1, (unhide HSS).2, if_neg (unhide HS)]
            exact (NPost.from (hkq.trans (Keeps.drewN' wr _) (fun _ _ f => f)) (NPost.refl ((unhide HQ).1.still (Keeps.drewN' wr _)))).up (by omega) hB
        · obtain ⟨⟨x, hx, hxv⟩, hI', hlt, hk'⟩ := unhide HX
          unfold prepL at hx
          rw [List.mem_map] at hx
          obtain ⟨y, hy, rfl⟩ := hx
          simp only at hxv
          subst hxv
          have hkw : Keeps (fun _ => False) w w' := hRq.2.1.trans hk' (fun i hi e => by have := hkr.size; omega)
          have HE : Hid (Part fP (fun x => ival x.2) n.prep m (min m2 y.2) (.int .i64 (y.2 : Int) :: done2)) := hide (hRq.2.2.take hy (a := y.2) rfl (fun z hz e => by unfold ival at e; unfold fP; simp only [Value.int.injEq, true_and] at e; congr 1; omega))
          have hmi := fun W => run_minI W m2 y.2
          have HI := hide (And.intro hI' (And.intro hkw hlt))
          clear hRq HRq hI' hk' HX hkw hlt
          generalize min m2 y.2 = mm at *
          go_wp2
          go_roundw
          case rel => exact ⟨mm, _, rfl, hide ⟨(unhide HI).1, (unhide HI).2.1, unhide HE⟩⟩
          case measure => exact (unhide HI).2.2
    · obtain ⟨⟨x, hx, hxv⟩, hI', hlt, hk'⟩ := unhide HX
      unfold openL at hx
      rw [List.mem_map] at hx
      obtain ⟨y, hy, rfl⟩ := hx
      simp only at hxv
      subst hxv
      have hkw : Keeps (fun _ => False) w w' := hR.2.1.trans hk' (fun i hi e => by omega)
      have g' := (unhide HG) w' hkw
      have hdl := fun z (hz : z ∈ n.opn) => mget_of_mem g'.opens.nodup (t := z.1) (a := z.2) hz
      have hsame : ∀ z ∈ n.opn, dptr z.2 = .pointer (some ⟨y.2.blk, 0, none⟩) → z.2.recd = y.2.recd := fun z hz e => by
        have e1 : z.2.blk = y.2.blk := by unfold dptr at e; simpa using e
        have q1 := g'.dealCell (hdl z hz) 4
        have q2 := g'.dealCell (hdl y hy) 4
        rw [e1, q2] at q1
        simp [dealCells] at q1
        omega
      have q4 := g'.dealCell (hdl y hy) 4
      simp [dealCells] at q4
      by_cases h0 : y.2.recd = 0
      · have HE : Hid (Part fD (fun x => dptr x.2) n.opn nx m (.pointer (some ⟨y.2.blk, 0, none⟩) :: done)) := hide (hR.2.2.skip (fun z hz e => by unfold fD; rw [if_pos (by rw [hsame z hz e]; exact h0)]))
        rw [h0] at q4
        have HI := hide (And.intro hI' (And.intro hkw hlt))
        clear hR HR g' hdl hsame hI' hk' HX hkw hlt
        go_wp2
        go_roundw
        case rel => exact ⟨m, _, rfl, hide ⟨(unhide HI).1, (unhide HI).2.1, unhide HE⟩⟩
        case measure => exact (unhide HI).2.2
      · have HE : Hid (Part fD (fun x => dptr x.2) n.opn nx (min m y.2.recd) (.pointer (some ⟨y.2.blk, 0, none⟩) :: done)) := hide (hR.2.2.take hy (a := y.2.recd) (by unfold fD; rw [if_neg h0]) (fun z hz e => by unfold fD; rw [hsame z hz e, if_neg h0]))
        have hb0 : ((y.2.recd : Int) != 0) = true := by rw [bne_iff_ne]; omega
        have hmi := fun W => run_minI W m y.2.recd
        have HI := hide (And.intro hI' (And.intro hkw hlt))
        clear hR HR g' hdl hsame hI' hk' HX hkw h0 hlt
        generalize min m y.2.recd = mm at *
        go_wp2
        go_roundw
        case rel => exact ⟨mm, _, rfl, hide ⟨(unhide HI).1, (unhide HI).2.1, unhide HE⟩⟩
        case measure => exact (unhide HI).2.2

end Go.Proofs.YthbmmbgkchiajaaGreat
