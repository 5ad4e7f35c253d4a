
/- The tables of a node: what is looked up in them, put in and struck. -/
import Derived.Test.YthbmmbgkchiajaaGreatNMark
namespace Go.Proofs.YthbmmbgkchiajaaGreat
set_option linter.unusedSimpArgs false
set_option linter.unusedVariables false
open Go.RowKit

section
variable {α β : Type}
theorem mget_map (f : α → β) (l : List (Tx × α)) (t : Tx) : mget (l.map fun x => (x.1, f x.2)) t = (mget l t).map f := by
  unfold mget
  induction l with
  | nil => rfl
  | cons x l ih =>
    simp only [List.map_cons, List.find?_cons]
    by_cases h : x.1 = t
    · simp [h]
    · simpa [h] using ih
theorem mhas_map (f : α → β) (l : List (Tx × α)) (t : Tx) : mhas (l.map fun x => (x.1, f x.2)) t = mhas l t := by
  unfold mhas; rw [List.any_map]; rfl
theorem mdel_map (f : α → β) (l : List (Tx × α)) (t : Tx) : mdel (l.map fun x => (x.1, f x.2)) t = (mdel l t).map fun x => (x.1, f x.2) := by
  unfold mdel; rw [List.filter_map]; rfl
theorem mset_map (f : α → β) (l : List (Tx × α)) (t : Tx) (a : α) : mset (l.map fun x => (x.1, f x.2)) t (f a) = (mset l t a).map fun x => (x.1, f x.2) := by
  unfold mset
  rw [List.map_map, List.map_map]
  refine List.map_congr_left (fun x _ => ?_)
  show (if x.1 = t then (t, f a) else (x.1, f x.2)) = _
  by_cases h : x.1 = t
  · simp [h]
  · simp [h]
theorem mput_map (f : α → β) (l : List (Tx × α)) (t : Tx) (a : α) : mput (l.map fun x => (x.1, f x.2)) t (f a) = (mput l t a).map fun x => (x.1, f x.2) := by
  unfold mput
  rw [mhas_map, mset_map]
  split
  · rfl
  · rw [List.map_append]; rfl
theorem mget_mem {l : List (Tx × α)} {t : Tx} {a : α} (h : mget l t = some a) : (t, a) ∈ l := by
  unfold mget at h
  rw [Option.map_eq_some_iff] at h
  obtain ⟨x, hx, rfl⟩ := h
  have h1 := List.find?_some hx
  have h2 := List.mem_of_find?_eq_some hx
  simp only [decide_eq_true_eq] at h1
  rw [← h1]; exact h2
theorem mget_of_mem {l : List (Tx × α)} {t : Tx} {a : α} (hn : (l.map Prod.fst).Nodup) (h : (t, a) ∈ l) : mget l t = some a := by
  induction l with
  | nil => cases h
  | cons x l ih =>
    rw [List.map_cons, List.nodup_cons] at hn
    unfold mget
    rw [List.find?_cons]
    by_cases hx : x.1 = t
    · rcases List.mem_cons.1 h with h | h
      · subst h; simp
      · exact absurd (List.mem_map.2 ⟨_, h, rfl⟩) (hx ▸ hn.1)
    · rcases List.mem_cons.1 h with h | h
      · subst h; exact absurd rfl hx
      · simp only [decide_eq_false hx]
        exact ih hn.2 h
theorem mset_fst (l : List (Tx × α)) (t : Tx) (a : α) : (mset l t a).map Prod.fst = l.map Prod.fst := by
  unfold mset
  rw [List.map_map]
  refine List.map_congr_left (fun x _ => ?_)
  show (if x.1 = t then (t, a) else x).1 = x.1
  split
  · rename_i h; exact h.symm
  · rfl
theorem mset_length (l : List (Tx × α)) (t : Tx) (a : α) : (mset l t a).length = l.length := by unfold mset; simp
theorem mset_mem {l : List (Tx × α)} {t : Tx} {a : α} {x : Tx × α} (h : x ∈ mset l t a) : x = (t, a) ∨ (x ∈ l ∧ x.1 ≠ t) := by
  unfold mset at h
  rw [List.mem_map] at h
  obtain ⟨y, hy, rfl⟩ := h
  by_cases e : y.1 = t
  · left; simp [e]
  · right; simp only [if_neg e]; exact ⟨hy, e⟩
theorem mdel_mem {l : List (Tx × α)} {t : Tx} {x : Tx × α} (h : x ∈ mdel l t) : x ∈ l := (List.mem_filter.1 h).1
theorem mdel_nodup {l : List (Tx × α)} (t : Tx) (h : (l.map Prod.fst).Nodup) : ((mdel l t).map Prod.fst).Nodup := h.sublist (List.Sublist.map _ List.filter_sublist)
theorem mdel_length (l : List (Tx × α)) (t : Tx) : (mdel l t).length ≤ l.length := List.length_filter_le _ _
theorem mhas_iff {l : List (Tx × α)} {t : Tx} : mhas l t = true ↔ t ∈ l.map Prod.fst := by
  unfold mhas
  rw [List.any_eq_true, List.mem_map]
  exact ⟨fun ⟨x, h1, h2⟩ => ⟨x, h1, of_decide_eq_true h2⟩, fun ⟨x, h1, h2⟩ => ⟨x, h1, decide_eq_true h2⟩⟩
theorem mput_nodup {l : List (Tx × α)} (t : Tx) (a : α) (h : (l.map Prod.fst).Nodup) : ((mput l t a).map Prod.fst).Nodup := by
  unfold mput
  split
  · rw [mset_fst]; exact h
  · rename_i hn
    rw [List.map_append, List.nodup_append]
    refine ⟨h, by simp, fun x hx y hy e => ?_⟩
    simp only [List.map_cons, List.map_nil, List.mem_singleton] at hy
    subst hy; subst e
    exact hn (mhas_iff.2 hx)
theorem mput_length (l : List (Tx × α)) (t : Tx) (a : α) : (mput l t a).length ≤ l.length + 1 := by
  unfold mput
  split
  · rw [mset_length]; omega
  · simp
theorem mput_mem {l : List (Tx × α)} {t : Tx} {a : α} {x : Tx × α} (h : x ∈ mput l t a) : x = (t, a) ∨ (x ∈ l ∧ x.1 ≠ t) := by
  unfold mput at h
  split at h
  · exact mset_mem h
  · rename_i hn
    rw [List.mem_append, List.mem_singleton] at h
    rcases h with h | h
    · refine .inr ⟨h, fun e => hn (mhas_iff.2 (List.mem_map.2 ⟨x, h, e⟩))⟩
    · exact .inl h
end

def ival (i : Nat) : Value := .int .i64 (i : Int)
def dptr (d : Deal) : Value := .pointer (some ⟨d.blk, 0, none⟩)
theorem openL_get (l : List (Tx × Deal)) (t : Tx) : mget (openL l) t = (mget l t).map dptr := mget_map dptr l t
theorem openL_set {l : List (Tx × Deal)} {t : Tx} {d d' : Deal} (hn : (l.map Prod.fst).Nodup) (hd : mget l t = some d) (hb : d'.blk = d.blk) : openL (mset l t d') = openL l := by
  unfold openL mset
  rw [List.map_map]
  refine List.map_congr_left (fun x hx => ?_)
  show ((if x.1 = t then (t, d') else x).1, Value.pointer (some ⟨(if x.1 = t then (t, d') else x).2.blk, 0, none⟩)) = _
  by_cases e : x.1 = t
  · subst e
    have := mget_of_mem hn hx
    rw [hd] at this
    cases this
    simp [hb]
  · simp [e]

/-- Tables' operations, by names of their own. -/
def lookO (m k : Value) : Sem Value := Instr.lookup 149 m k false
theorem lookO_eq (m k : Value) : Instr.lookup 149 m k false = lookO m k := rfl
def lookP (m k : Value) : Sem Value := Instr.lookup 150 m k true
theorem lookP_eq (m k : Value) : Instr.lookup 150 m k true = lookP m k := rfl
def delO (args : Array Value) : Sem Value := Builtin.delete_ #[149, 38] 0 args
theorem delO_eq (args : Array Value) : Builtin.delete_ #[149, 38] 0 args = delO args := rfl
def delP (args : Array Value) : Sem Value := Builtin.delete_ #[150, 38] 0 args
theorem delP_eq (args : Array Value) : Builtin.delete_ #[150, 38] 0 args = delP args := rfl
def putO (m k v : Value) : Sem Unit := Instr.mapUpdate 149 m k v
theorem putO_eq (m k v : Value) : Instr.mapUpdate 149 m k v = putO m k v := rfl
def putP (m k v : Value) : Sem Unit := Instr.mapUpdate 150 m k v
theorem putP_eq (m k v : Value) : Instr.mapUpdate 150 m k v = putP m k v := rfl

theorem run_lookO {o : Nat → Tag} {w : World} {bo : Nat} {l : List (Tx × Deal)} (h : OpensAt o w bo l) (t : Tx) : (lookO (.map (some bo)) (txv t)).run Tryz.prog w = .ok (((mget l t).map dptr).getD (.pointer none)) w := by
  have hz : (zeroValue 206).run Tryz.prog w = .ok (.pointer none) w := by kernel_rfl
  have := lookup_val h.map 149 206 Tryz.underlying149 _ hz t
  rw [openL_get] at this
  exact this
theorem run_lookP {o : Nat → Tag} {w : World} {bp : Nat} {l : List (Tx × Nat)} (h : PrepsAt o w bp l) (t : Tx) : (lookP (.map (some bp)) (txv t)).run Tryz.prog w = .ok (.tuple #[((mget l t).map ival).getD (.int .i64 0), .bool (mhas l t)]) w := by
  have hz : (zeroValue 3).run Tryz.prog w = .ok (.int .i64 0) w := by kernel_rfl
  have := lookup_ok h.map 150 3 Tryz.underlying150 _ hz t
  have e1 : mget (prepL l) t = (mget l t).map ival := mget_map ival l t
  have e2 : mhas (prepL l) t = mhas l t := mhas_map ival l t
  rw [e1, e2] at this
  exact this

/-- A cell of a deal is written. -/
theorem NG.dealPost {o : Nat → Tag} {w : World} {p : Nat} {n : NM} {B pd : Nat} {vj vf : Value} {bo bp : Nat} {ve : Value} (h : NG o w p n B pd vj vf bo bp ve) {t : Tx} {d d' : Deal} (hd : mget n.opn t = some d) (i : Nat) (v : Value) (hb : d'.blk = d.blk) (hc : (dealCells d).setIfInBounds i v = dealCells d') (hs : d'.parts < 16 ∧ d'.waits < 16 ∧ d'.outcome < 3 ∧ d'.ticks ≤ B ∧ d'.recd ≤ B) :
    NPost o w p { n with opn := mset n.opn t d' } B (w.setCell ⟨d.blk, i, none⟩ v) := by
  have hm := mget_mem hd
  obtain ⟨h1, h2⟩ := h.opens.deals _ hm
  simp only at h1 h2
  have hk : Keeps (fun k => k = d.blk) w (w.setCell ⟨d.blk, i, none⟩ v) := (Keeps.refl (fun k => k = d.blk) w).setCell (p := ⟨d.blk, i, none⟩) (.inl rfl) v
  have ho : ∀ k, k < w.heap.size → o k = o k := fun _ _ => rfl
  refine ⟨⟨o, ho, pd, vj, vf, bo, bp, ve, hk.heap h.self (fun e => by have := h.own; rw [e, h1] at this; cases this), h.own, ⟨h.opens.own, ?_, ?_, ?_⟩, h.preps.keep hk ho (fun k _ e e' => by subst e'; rw [h1] at e; cases e), h.evs.keep hk ho (fun k _ e e' => by subst e'; rw [h1] at e; cases e), h.fuse.keep hk ho (fun k _ e e' => by subst e'; rw [h1] at e; cases e), h.jour.keep hk ho (fun k _ e e' => by subst e'; rw [h1] at e; cases e), ?_, h.eqs⟩, hk.mono (fun k _ e => by subst e; rw [h1]; simp)⟩
  · show MapAt _ bo (openL (mset n.opn t d'))
    rw [openL_set h.opens.nodup hd hb]
    exact h.opens.map.keep hk (fun e => by have := h.opens.own; rw [e, h1] at this; cases this)
  · show ((mset n.opn t d').map Prod.fst).Nodup
    rw [mset_fst]; exact h.opens.nodup
  · intro x hx
    rcases mset_mem hx with rfl | ⟨hx, hxt⟩
    · refine ⟨by rw [hb]; exact h1, ?_⟩
      show (w.setCell ⟨d.blk, i, none⟩ v).heap[d'.blk]? = _
      rw [hb, heap_setCell_same h2, hc]
    · obtain ⟨g1, g2⟩ := h.opens.deals x hx
      exact ⟨g1, hk.heap g2 (fun e => by rw [e, h1] at g1; cases g1; exact hxt rfl)⟩
  · have hsm := h.small
    refine ⟨hsm.id, hsm.variant, hsm.patience, hsm.inc, hsm.forced, hsm.lazies, hsm.sent, hsm.recs, hsm.begun, hsm.evs, hsm.marks, fun x hx => ?_, hsm.preps, by show (mset n.opn t d').length ≤ B; rw [mset_length]; exact hsm.opensL, hsm.prepsL, hsm.big⟩
    rcases mset_mem hx with rfl | ⟨hx, _⟩
    · exact hs
    · exact hsm.deals x hx

/-- The open table has been written. -/
theorem NG.opensPost {o : Nat → Tag} {w w' : World} {p : Nat} {n : NM} {B pd : Nat} {vj vf : Value} {bo bp : Nat} {ve : Value} (h : NG o w p n B pd vj vf bo bp ve) (t : Tx) (hm : MapAt w' bo (openL (mdel n.opn t))) (hk : Keeps (fun k => k = bo) w w') : NPost o w p { n with opn := mdel n.opn t } B w' := by
  have hb := h.opens.own
  have ho : ∀ k, k < w.heap.size → o k = o k := fun _ _ => rfl
  refine ⟨⟨o, ho, pd, vj, vf, bo, bp, ve, hk.heap h.self (fun e => by have := h.own; rw [e, hb] at this; cases this), h.own, ⟨hb, hm, mdel_nodup t h.opens.nodup, ?_⟩, h.preps.keep hk ho (fun k _ e e' => by subst e'; rw [hb] at e; cases e), h.evs.keep hk ho (fun k _ e e' => by subst e'; rw [hb] at e; cases e), h.fuse.keep hk ho (fun k _ e e' => by subst e'; rw [hb] at e; cases e), h.jour.keep hk ho (fun k _ e e' => by subst e'; rw [hb] at e; cases e), ?_, h.eqs⟩, hk.mono (fun k _ e => by subst e; rw [hb]; simp)⟩
  · intro x hx
    obtain ⟨g1, g2⟩ := h.opens.deals x (mdel_mem hx)
    exact ⟨g1, hk.heap g2 (fun e => by rw [e, hb] at g1; cases g1)⟩
  · have hsm := h.small
    exact ⟨hsm.id, hsm.variant, hsm.patience, hsm.inc, hsm.forced, hsm.lazies, hsm.sent, hsm.recs, hsm.begun, hsm.evs, hsm.marks, fun x hx => hsm.deals x (mdel_mem hx), hsm.preps, Nat.le_trans (mdel_length _ _) hsm.opensL, hsm.prepsL, hsm.big⟩
theorem run_delO {o : Nat → Tag} {w : World} {p : Nat} {n : NM} {B pd : Nat} {vj vf : Value} {bo bp : Nat} {ve : Value} (h : NG o w p n B pd vj vf bo bp ve) (t : Tx) : ∃ w', (delO #[.map (some bo), txv t]).run Tryz.prog w = .ok (.tuple #[]) w' ∧ Hid (NPost o w p { n with opn := mdel n.opn t } B w' ∧ ∀ (a : Addr) v, w.cell? a = some v → o a.block ≠ .opens → w'.cell? a = some v) := by
  obtain ⟨w', h1, h2⟩ := delete_map h.opens.map (by have := h.opens.nodup; unfold openL; rw [List.map_map]; exact this) 149 _ 0 38 Tryz.underlying149 t
  refine ⟨w', h1, hide ⟨h.opensPost t ?_ (unhide h2).2, fun a v hc ho => (unhide h2).2.cell' hc (fun e => ho (by rw [e]; exact h.opens.own))⟩⟩
  have := (unhide h2).1
  have e : mdel (openL n.opn) t = openL (mdel n.opn t) := mdel_map dptr n.opn t
  rw [e] at this
  exact this

/-- The table of what is prepared has been written. -/
theorem NG.prepsPost {o : Nat → Tag} {w w' : World} {p : Nat} {n : NM} {B B' pd : Nat} {vj vf : Value} {bo bp : Nat} {ve : Value} (h : NG o w p n B pd vj vf bo bp ve) (l : List (Tx × Nat)) (hB : B ≤ B') (hB' : B' ≤ 1099511627776) (hm : MapAt w' bp (prepL l)) (hn : (l.map Prod.fst).Nodup) (hl : l.length ≤ B') (hs : ∀ x ∈ l, x.2 ≤ B') (hk : Keeps (fun k => k = bp) w w') : NPost o w p { n with prep := l } B' w' := by
  have hb := h.preps.own
  have ho : ∀ k, k < w.heap.size → o k = o k := fun _ _ => rfl
  refine ⟨⟨o, ho, pd, vj, vf, bo, bp, ve, hk.heap h.self (fun e => by have := h.own; rw [e, hb] at this; cases this), h.own, h.opens.keep hk ho (fun k _ e e' => by subst e'; rw [hb] at e; simp at e), ⟨hb, hm, hn⟩, h.evs.keep hk ho (fun k _ e e' => by subst e'; rw [hb] at e; cases e), h.fuse.keep hk ho (fun k _ e e' => by subst e'; rw [hb] at e; cases e), (h.jour.keep hk ho (fun k _ e e' => by subst e'; rw [hb] at e; cases e)).big hB, ?_, h.eqs⟩, hk.mono (fun k _ e => by subst e; rw [hb]; simp)⟩
  have hsm := h.small.up hB hB'
  exact ⟨hsm.id, hsm.variant, hsm.patience, hsm.inc, hsm.forced, hsm.lazies, hsm.sent, hsm.recs, hsm.begun, hsm.evs, hsm.marks, hsm.deals, hs, hsm.opensL, hl, hB'⟩
theorem run_delP {o : Nat → Tag} {w : World} {p : Nat} {n : NM} {B pd : Nat} {vj vf : Value} {bo bp : Nat} {ve : Value} (h : NG o w p n B pd vj vf bo bp ve) (t : Tx) : ∃ w', (delP #[.map (some bp), txv t]).run Tryz.prog w = .ok (.tuple #[]) w' ∧ Hid (NPost o w p { n with prep := mdel n.prep t } B w' ∧ ∀ (a : Addr) v, w.cell? a = some v → o a.block ≠ .preps → w'.cell? a = some v) := by
  obtain ⟨w', h1, h2⟩ := delete_map h.preps.map (by have := h.preps.nodup; unfold prepL; rw [List.map_map]; exact this) 150 _ 0 38 Tryz.underlying150 t
  have hsm := h.small
  refine ⟨w', h1, hide ⟨h.prepsPost _ (Nat.le_refl _) hsm.big ?_ (mdel_nodup t h.preps.nodup) (Nat.le_trans (mdel_length _ _) hsm.prepsL) (fun x hx => hsm.preps x (mdel_mem hx)) (unhide h2).2, fun a v hc ho => (unhide h2).2.cell' hc (fun e => ho (by rw [e]; exact h.preps.own))⟩⟩
  have := (unhide h2).1
  have e : mdel (prepL n.prep) t = prepL (mdel n.prep t) := mdel_map ival n.prep t
  rw [e] at this
  exact this
theorem run_putP {o : Nat → Tag} {w : World} {p : Nat} {n : NM} {B pd : Nat} {vj vf : Value} {bo bp : Nat} {ve : Value} (h : NG o w p n B pd vj vf bo bp ve) (t : Tx) (i : Nat) (hi : i ≤ B + 1) (hB : B + 1 ≤ 1099511627776) : ∃ w', (putP (.map (some bp)) (txv t) (.int .i64 (i : Int))).run Tryz.prog w = .ok () w' ∧ Hid (NPost o w p { n with prep := mput n.prep t i } (B + 1) w' ∧ ∀ (a : Addr) v, w.cell? a = some v → o a.block ≠ .preps → w'.cell? a = some v) := by
  obtain ⟨w', h1, h2⟩ := store_map h.preps.map (by have := h.preps.nodup; unfold prepL; rw [List.map_map]; exact this) 150 _ Tryz.underlying150 t (.int .i64 (i : Int))
  have hsm := h.small
  refine ⟨w', h1, hide ⟨h.prepsPost _ (by omega) hB ?_ (mput_nodup t i h.preps.nodup) (Nat.le_trans (mput_length _ _ _) (by have := hsm.prepsL; omega)) (fun x hx => ?_) (unhide h2).2, fun a v hc ho => (unhide h2).2.cell' hc (fun e => ho (by rw [e]; exact h.preps.own))⟩⟩
  · have := (unhide h2).1
    have e : mput (prepL n.prep) t (.int .i64 (i : Int)) = prepL (mput n.prep t i) := mput_map ival n.prep t i
    rw [e] at this
    exact this
  · rcases mput_mem hx with rfl | ⟨hx, _⟩
    · exact hi
    · have := hsm.preps x hx; omega

end Go.Proofs.YthbmmbgkchiajaaGreat
