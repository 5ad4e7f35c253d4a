
/- Sync, of the program. -/
import Derived.Test.YthbmmbgkchiajaaGreatArrays
import Derived.Laws.CopyRow
import Derived.Laws.IdiomCopy
import Derived.Deep.RegionWith
import Derived.Laws.BytesArg
import Derived.Laws.IdiomStrings

namespace Go.Proofs.YthbmmbgkchiajaaGreat
set_option linter.unusedSimpArgs false
set_option linter.unusedVariables false
open Go.RowKit

/-- A write as a variable: load, new, store, under names of their own. -/
def zwrite : Array Value := Array.replicate 1 (.int .i64 0) ++ Array.replicate 64 (.int .u8 0)
theorem zwrite_size : zwrite.size = 65 := by unfold zwrite; rw [Array.size_append, Array.size_replicate, Array.size_replicate]
theorem sizeWrite : (Tryz.prog.info? 307).map (·.size) = some 65 := by kernel_rfl
def wrLoad (x : Value) : Sem Value := Instr.loadAt 307 x
theorem wrLoad_eq (x : Value) : Instr.loadAt 307 x = wrLoad x := rfl
theorem run_wrLoad (W : World) (b o : Nat) (cs : List Value) (hr : W.rangeAt b o cs) (hl : cs.length = 65) : (wrLoad (.pointer (some ⟨b, o, none⟩))).run Tryz.prog W = .ok (.agg cs.toArray) W :=
  run_loadAt_mid W b o 307 cs _ hr Tryz.underlying307 rfl (by rw [hl]; exact sizeWrite)
def wrAlloc (h : Bool) (x : Value) : Sem Value := Instr.alloc 307 h x
theorem wrAlloc_eq (h : Bool) (x : Value) : Instr.alloc 307 h x = wrAlloc h x := rfl
theorem run_wrAlloc (W : World) : (wrAlloc true (.tuple #[])).run Tryz.prog W = .ok (.pointer (some ⟨W.heap.size, 0, none⟩)) (W.alloc (.cells zwrite 307)) := by
  obtain ⟨i0, hi, hz0, hz1, hz2⟩ := info_parts infoWrite
  have hz : i0.zero = some (.agg zwrite) := hz0
  simp [wrAlloc, Instr.alloc, zeroValue, typeInfo, hi, hz, newVar, newRow, Value.cells]
def wrStore (x v : Value) : Sem Unit := Instr.storeAt 307 x v
theorem wrStore_eq (x v : Value) : Instr.storeAt 307 x v = wrStore x v := rfl
theorem run_wrStore (W : World) (c c' : Array Value) (hc : c.size = 65) (hc' : c'.size = 65) (h1 : c'.all (·.oneCell') = true) : (wrStore (.pointer (some ⟨W.heap.size, 0, none⟩)) (.agg c')).run Tryz.prog (W.alloc (.cells c 307)) = .ok () (W.alloc (.cells c' 307)) :=
  run_storeAt_new W 307 c c' (by rw [hc']; exact sizeWrite) (by omega) h1
attribute [local go_sem ↓] wrLoad_eq wrAlloc_eq wrStore_eq
attribute [local go_sem] run_wrAlloc

/-- Behind k rounds: the sectors hold what the first k writes left; all else of the disk stands. -/
def SyncRel (S : Nat → Prop) (w : World) (p g cap : Nat) (vp : Value) (m : DM) (keep : Nat → Bool) (k : Nat) (wr : World) : Prop :=
  wr.heap[p]? = some (.cells #[.slice (some ⟨g, 0, none⟩) m.dur.length cap, vp, .int .i64 (m.syncs : Int)] 232 (0, 0)) ∧
  Own (fun k => S k ∧ k ≠ p) wr 305 64 (.slice (some ⟨g, 0, none⟩) m.dur.length cap) m.dur.length (durCells (durTo m.dur m.puts keep k)) ∧
  Own (fun k => S k ∧ k ≠ p ∧ g ≠ k) wr 307 65 vp m.puts.length (putCells m.puts) ∧ Keeps (fun k => k = g) w wr

/-- What the round's one store reads: the disk's first field, the write's place and bytes; where it writes. -/
def SyncS (p g n cap B : Nat) (x : Nat × ByteArray) (w : World) : Prop :=
  w.cell? ⟨p, 0, none⟩ = some (.slice (some ⟨g, 0, none⟩) n cap) ∧ w.cell? ⟨B, 0, none⟩ = some (.int .i64 (x.1 : Int)) ∧ w.rangeAt B 1 (bcells x.2) ∧ w.there g (x.1 * 64) 64

theorem sync_facts {S : Nat → Prop} {wr : World} {p g n cap y : Nat} {vp : Value} {l : List ByteArray} (q1 : wr.heap[p]? = some (.cells #[.slice (some ⟨g, 0, none⟩) n cap, vp, .int .i64 (y : Int)] 232 (0, 0)))
    (q2 : Own S wr 305 64 (.slice (some ⟨g, 0, none⟩) n cap) n (durCells l)) {x : Nat × ByteArray} (_hx : x.2.size = 64) (hi : x.1 < l.length) (_hgp : g ≠ p) (hn : n = l.length) (_hl : ∀ s ∈ l, s.size = 64) : SyncS p g n cap wr.heap.size x (wr.alloc (.cells (putCell x).toArray 307)) := by
  have hb := heap_alloc_last wr (.cells (putCell x).toArray 307)
  have hk : Keeps (fun _ => False) wr (wr.alloc (.cells (putCell x).toArray 307)) := (Keeps.refl _ _).alloc _
  have c0 := cell_of_heap (o := 0) (hk.heap q1 (fun h => h))
  have c1 := cell_of_heap (o := 0) hb
  refine ⟨c0, c1, ?_, ?_⟩
  · intro j v hj
    rw [cell_of_heap hb]
    simp only [putCell, List.getElem?_toArray]
    rw [Nat.add_comm 1 j, List.getElem?_cons_succ]; exact hj
  · have q := q2.keep hk (fun _ _ _ h => h)
    intro j hj
    rcases q.1.2 with ⟨h0, _⟩ | ⟨g', cap', cur, h0, _, hg, hc, _, hsz, ht⟩
    · cases h0
    · cases h0
      rw [frozen_of_heap hg, cell_of_heap hg]
      have : x.1 * 64 + j < cur.size := by rw [hsz]; omega
      simp [this]
theorem SyncS.drew {p g n cap B : Nat} {x : Nat × ByteArray} {w : World} (h : SyncS p g n cap B x w) : SyncS p g n cap B x w.drew := ⟨h.1, h.2.1, (World.rangeAt_drew _ _ _ _).2 h.2.2.1, (World.there_drew _ _ _ _).2 h.2.2.2⟩
theorem SyncS.setCells {p g n cap B o : Nat} {x : Nat × ByteArray} {w : World} {vs : List Value} (h : SyncS p g n cap B x w) (hp : g ≠ p) (hB : g ≠ B) : SyncS p g n cap B x (w.setCells g o vs) := by
  have hk := keeps_setCells g vs o w
  have c1 := World.block_lt_of_cell? w _ h.1
  have c2 := World.block_lt_of_cell? w _ h.2.1
  refine ⟨(hk.cell (p := ⟨p, 0, none⟩) c1 (fun e => hp e.symm)).trans h.1, (hk.cell (p := ⟨B, 0, none⟩) c2 (fun e => hB e.symm)).trans h.2.1, hk.range h.2.2.1 c2 (fun e => hB e.symm), World.there_setCells h.2.2.2 _ _ _⟩

theorem sync_end {S : Nat → Prop} {wr : World} {p y n g cap : Nat} {vp : Value} {l : List ByteArray} (q1 : wr.heap[p]? = some (.cells #[.slice (some ⟨g, 0, none⟩) n cap, vp, .int .i64 (y : Int)] 232 (0, 0))) (hS : S p)
    (q2 : Own (fun k => S k ∧ k ≠ p) wr 305 64 (.slice (some ⟨g, 0, none⟩) n cap) n (durCells l)) (hn : n = l.length) :
    PDisk S ((wr.setCell ⟨p, 1, none⟩ (.slice none 0 0)).setCell ⟨p, 2, none⟩ (.int .i64 ((y : Int) + 1))) p ⟨l, [], y + 1⟩ := by
  subst hn
  have hk : Keeps (fun k => k = p) wr ((wr.setCell ⟨p, 1, none⟩ (.slice none 0 0)).setCell ⟨p, 2, none⟩ (.int .i64 ((y : Int) + 1))) := ((Keeps.refl (fun k => k = p) wr).setCell (p := ⟨p, 1, none⟩) (.inl rfl) _).setCell (p := ⟨p, 2, none⟩) (.inl rfl) _
  refine ⟨.slice (some ⟨g, 0, none⟩) l.length cap, .slice none 0 0, ?_, hS, q2.keep hk (fun k _ h e => h.2 e), Own.nil _ _ _ _⟩
  exact heap_setCell_same (heap_setCell_same q1 _) _

theorem sync_step {S : Nat → Prop} {w wr : World} {p g cap j : Nat} {vp : Value} {m : DM} {keep : Nat → Bool} (h : SyncRel S w p g cap vp m keep j wr) {x : Nat × ByteArray} (hx : m.puts[j]? = some x) (hk : keep j = true) (hm : m.ok) (hgp : g ≠ p) :
    SyncRel S w p g cap vp m keep (j + 1) ((wr.alloc (.cells (putCell x).toArray 307)).drew.setCells g (x.1 * 64) (bcells x.2)) := by
  obtain ⟨q1, q2, q3, q4⟩ := h
  have hx2 := hm.puts x (List.mem_of_getElem? hx)
  have hkA : Keeps (fun _ => False) wr (wr.alloc (.cells (putCell x).toArray 307)).drew := ((Keeps.refl _ _).alloc _).drew
  have hkB := keeps_setCells g (bcells x.2) (x.1 * 64) (wr.alloc (.cells (putCell x).toArray 307)).drew
  have hkC : Keeps (fun k => k = g) wr ((wr.alloc (.cells (putCell x).toArray 307)).drew.setCells g (x.1 * 64) (bcells x.2)) := (hkA.mono (T := fun k => k = g) (fun _ _ f => f.elim)).trans hkB (fun _ _ e => e)
  have hds := durTo_size m.dur m.puts keep (fun s hs => hm.dur s hs) (fun x hx => (hm.puts x hx).2) j
  obtain ⟨e1, e2, e3⟩ := durCells_set (durTo m.dur m.puts keep j) x.1 x.2 hds (by rw [durTo_length]; exact hx2.1) hx2.2
  refine ⟨hkC.heap q1 (fun e => hgp e.symm), ?_, q3.keep hkC (fun k _ h e => h.2.2 e.symm), q4.trans hkC (fun _ _ e => e)⟩
  rw [durTo_yes hx hk]
  exact (q2.keep hkA (fun _ _ _ h => h)).store (x.1 * 64) (bcells x.2) e1 e2 e3

set_option maxRecDepth 100000 in
set_option maxHeartbeats 800000 in
theorem dSync_any (S : Nat → Prop) (p : Nat) (m : DM) (w : World) (hD : PDisk S w p m) (hm : m.ok) (hN : m.puts.length * 72 ≤ 140737488355328) (hy : m.syncs < 9223372036854775807) :
    Calls Tryz.prog 195 #[.pointer (some ⟨p, 0, none⟩)] w fun e w' => e = .returned (.tuple #[]) ∧ PDisk S w' p ⟨durTo m.dur m.puts (fun _ => true) m.puts.length, [], m.syncs + 1⟩ ∧ Keeps S w w' := by
  obtain ⟨vd, vp, hb, hS, hd, hp⟩ := hD
  have hn := hm.len
  obtain ⟨g, cap, rfl, hcap, hgS, hgl, _, _⟩ := hd.open (by omega)
  have hc1 := cell_of_heap (o := 1) hb
  simp at hc1
  have hp' : Own (fun k => S k ∧ k ≠ p ∧ g ≠ k) w 307 65 vp m.puts.length (putCells m.puts) := hp.mono (fun k _ h => ⟨h.1, h.2.1, fun e => h.2.2 (by rw [← e]; rfl)⟩)
  have hR0 : SyncRel S w p g cap vp m (fun _ => true) 0 w := ⟨hb, hd, hp', Keeps.refl _ _⟩
  obtain ⟨ap, cp, hvp, hcp⟩ := hp.len
  have HR0 := hide hR0
  have HM := hide hm
  clear hR0 hm hp hp' hd hb
  subst hvp
  go_enter Tryz.func195, Tryz.ntmps195
  go_wp2
  go_loopw [9] (fun i wr => ∃ j : Nat, j ≤ m.puts.length ∧ i = .int .i64 j ∧ SyncRel S w p g cap (.slice ap m.puts.length cp) m (fun _ => true) j wr) (fun i _ => m.puts.length - (intOf i).toNat)
  case atStart => exact ⟨0, Nat.zero_le _, rfl, unhide HR0⟩
  case round =>
    obtain ⟨j, hj, rfl, hR⟩ := hrel
    by_cases hlt : j < m.puts.length
    · obtain ⟨x, hx⟩ : ∃ x, m.puts[j]? = some x := ⟨_, List.getElem?_eq_getElem (by omega)⟩
      have HX := hide hx
      have HR := hide hR
      obtain ⟨q1, q2, q3, q4⟩ := hR
      have hx2 := (unhide HM).puts x (List.mem_of_getElem? hx)
      obtain ⟨gp, cap', hv, _, hgpS, hgpl, _, _⟩ := q3.open (by omega)
      cases hv
      obtain ⟨_, _, hr⟩ := put_range q3 (fun x hx => ((unhide HM).puts x hx).2) hx
      have hl65 : (putCell x).length = 65 := putCell_length x hx2.2
      have hld := run_wrLoad wr gp (j * 65) _ hr hl65
      have hst := run_wrStore wr zwrite (putCell x).toArray zwrite_size (by simp [hl65]) (all_oneCell_toArray (putCell_one x))
      have hS1 := sync_facts q1 q2 (x := x) hx2.2 (by rw [durTo_length]; exact hx2.1) hgS.2 (durTo_length _ _ _ _).symm (durTo_size _ _ _ (fun s hs => (unhide HM).dur s hs) (fun x hx => ((unhide HM).puts x hx).2) _)
      have hpB : p < wr.heap.size := lt_of_heap q1
      have hgB : g ≠ wr.heap.size := by have := q4.size; omega
      have hu := Tryz.underlying305
      have hbl : (bcells x.2).length = 64 := by rw [bcells_length]; exact hx2.2
      have hisz : (Tryz.prog.info? 305).map (·.size) = some (bcells x.2).length := by rw [hbl]; exact sizeSector
      have hone := bcells_one x.2
      have hi0 : (0 : Int) ≤ (x.1 : Int) := Int.natCast_nonneg _
      have hi1 : (x.1 : Int) < (m.dur.length : Int) := by have := hx2.1; omega
      clear hx q1 q2 q3 hl65 hr
      generalize hW : wr.alloc (.cells (putCell x).toArray 307) = W at *
      go_wp2
      go_region_held3 (fun w' => w'.cell? ⟨p, 0, none⟩ = some (.slice (some ⟨g, 0, none⟩) m.dur.length cap) ∧ w'.cell? ⟨wr.heap.size, 0, none⟩ = some (.int .i64 (x.1 : Int)) ∧ w'.rangeAt wr.heap.size 1 (bcells x.2) ∧ w'.there g (x.1 * 64) 64) (first | exact hS1.drew | exact hS1.drew.setCells hgS.2 hgB) (fail)
      go_wp2
      go_roundw
      case rel =>
        subst hW
        exact ⟨j + 1, by omega, by go_num, sync_step (unhide HR) (unhide HX) rfl (unhide HM) hgS.2⟩
      case measure => simp [intOf]; omega
    · obtain ⟨q1, q2, q3, q4⟩ := hR
      have z1 := cell_of_heap (o := 1) q1
      have z2 := cell_of_heap (o := 2) q1
      have f1 := frozen_of_heap (o := 1) q1
      have f2 := frozen_of_heap (o := 2) q1
      simp at z1 z2
      have hjn : j = m.puts.length := by omega
      have HJ := hide hjn
      clear hjn
      go_wp2
      go_end0
      refine ⟨rfl, ?_, ?_⟩
      · rw [unhide HJ] at q2
        exact sync_end q1 hS q2 (durTo_length _ _ _ _).symm
      · exact ((q4.mono (T := S) (fun k _ e => by subst e; exact hgS.1)).setCell (p := ⟨p, 1, none⟩) (.inl hS) _).setCell (p := ⟨p, 2, none⟩) (.inl hS) _

end Go.Proofs.YthbmmbgkchiajaaGreat

/- Crash, of the program's disk. -/
namespace Go.Proofs.YthbmmbgkchiajaaGreat
set_option linter.unusedSimpArgs false
set_option linter.unusedVariables false
open Go.RowKit

attribute [local go_sem ↓] wrLoad_eq wrAlloc_eq wrStore_eq
attribute [local go_sem] run_wrAlloc

theorem sync_skip {S : Nat → Prop} {w wr : World} {p g cap j : Nat} {vp : Value} {m : DM} {keep : Nat → Bool} (h : SyncRel S w p g cap vp m keep j wr) {x : Nat × ByteArray} (hx : m.puts[j]? = some x) (hk : keep j = false) :
    SyncRel S w p g cap vp m keep (j + 1) (wr.alloc (.cells (putCell x).toArray 307)) := by
  obtain ⟨q1, q2, q3, q4⟩ := h
  have hkA : Keeps (fun _ => False) wr (wr.alloc (.cells (putCell x).toArray 307)) := (Keeps.refl _ _).alloc _
  refine ⟨hkA.heap q1 (fun h => h), ?_, q3.keep hkA (fun _ _ _ h => h), q4.trans hkA (fun _ _ f => f.elim)⟩
  rw [durTo_no hx hk]
  exact q2.keep hkA (fun _ _ _ h => h)

theorem crash_end {S : Nat → Prop} {wr : World} {p y n g cap : Nat} {vp : Value} {l : List ByteArray} (q1 : wr.heap[p]? = some (.cells #[.slice (some ⟨g, 0, none⟩) n cap, vp, .int .i64 (y : Int)] 232 (0, 0))) (hS : S p)
    (q2 : Own (fun k => S k ∧ k ≠ p) wr 305 64 (.slice (some ⟨g, 0, none⟩) n cap) n (durCells l)) (hn : n = l.length) :
    PDisk S (wr.setCell ⟨p, 1, none⟩ (.slice none 0 0)) p ⟨l, [], y⟩ := by
  subst hn
  have hk : Keeps (fun k => k = p) wr (wr.setCell ⟨p, 1, none⟩ (.slice none 0 0)) := (Keeps.refl (fun k => k = p) wr).setCell (p := ⟨p, 1, none⟩) (.inl rfl) _
  exact ⟨.slice (some ⟨g, 0, none⟩) l.length cap, .slice none 0 0, heap_setCell_same q1 _, hS, q2.keep hk (fun k _ h e => h.2 e), Own.nil _ _ _ _⟩

/-- A list of answers that is read, and not of the disk. -/
def Keep (S : Nat → Prop) (w : World) (ao : Option Addr) (bs : List Bool) : Prop :=
  ∀ j, j < bs.length → ∃ gk ok, ao = some ⟨gk, ok, none⟩ ∧ gk < w.heap.size ∧ ¬ S gk ∧ w.cell? ⟨gk, ok + j, none⟩ = some (.bool (bs.getD j false))

set_option maxRecDepth 100000 in
set_option maxHeartbeats 1600000 in
theorem dCrash_any (S : Nat → Prop) (p : Nat) (m : DM) (ao : Option Addr) (kc : Nat) (bs : List Bool) (w : World) (hD : PDisk S w p m) (hm : m.ok) (hN : m.puts.length * 72 ≤ 140737488355328) (hK : Keep S w ao bs) (_hbs : bs.length ≤ 9223372036854775807) (_hbc : bs.length ≤ kc) :
    Calls Tryz.prog 177 #[.pointer (some ⟨p, 0, none⟩), .slice ao bs.length kc] w fun e w' => e = .returned (.tuple #[]) ∧ PDisk S w' p ⟨durTo m.dur m.puts (fun k => bs.getD k false) m.puts.length, [], m.syncs⟩ ∧ Keeps S w w' := by
  obtain ⟨vd, vp, hb, hS, hd, hp⟩ := hD
  have hn := hm.len
  obtain ⟨g, cap, rfl, hcap, hgS, hgl, _, _⟩ := hd.open (by omega)
  have hc1 := cell_of_heap (o := 1) hb
  simp at hc1
  have hp' : Own (fun k => S k ∧ k ≠ p ∧ g ≠ k) w 307 65 vp m.puts.length (putCells m.puts) := hp.mono (fun k _ h => ⟨h.1, h.2.1, fun e => h.2.2 (by rw [← e]; rfl)⟩)
  have hR0 : SyncRel S w p g cap vp m (fun k => bs.getD k false) 0 w := ⟨hb, hd, hp', Keeps.refl _ _⟩
  obtain ⟨ap, cp, hvp, hcp⟩ := hp.len
  have HR0 := hide hR0
  have HM := hide hm
  have HK := hide hK
  clear hR0 hm hp hp' hd hb hK
  subst hvp
  go_enter Tryz.func177, Tryz.ntmps177
  go_wp2
  go_loopw [11] (fun i wr => ∃ j : Nat, j ≤ m.puts.length ∧ i = .int .i64 j ∧ SyncRel S w p g cap (.slice ap m.puts.length cp) m (fun k => bs.getD k false) j wr) (fun i _ => m.puts.length - (intOf i).toNat)
  case atStart => exact ⟨0, Nat.zero_le _, rfl, unhide HR0⟩
  case round =>
    obtain ⟨j, hj, rfl, hR⟩ := hrel
    by_cases hlt : j < m.puts.length
    · obtain ⟨x, hx⟩ : ∃ x, m.puts[j]? = some x := ⟨_, List.getElem?_eq_getElem (by omega)⟩
      have HX := hide hx
      have HR := hide hR
      obtain ⟨q1, q2, q3, q4⟩ := hR
      have hx2 := (unhide HM).puts x (List.mem_of_getElem? hx)
      obtain ⟨gp, cap', hv, _, hgpS, hgpl, _, _⟩ := q3.open (by omega)
      cases hv
      obtain ⟨_, _, hr⟩ := put_range q3 (fun x hx => ((unhide HM).puts x hx).2) hx
      have hl65 : (putCell x).length = 65 := putCell_length x hx2.2
      have hld := run_wrLoad wr gp (j * 65) _ hr hl65
      have hst := run_wrStore wr zwrite (putCell x).toArray zwrite_size (by simp [hl65]) (all_oneCell_toArray (putCell_one x))
      have hS1 := sync_facts q1 q2 (x := x) hx2.2 (by rw [durTo_length]; exact hx2.1) hgS.2 (durTo_length _ _ _ _).symm (durTo_size _ _ _ (fun s hs => (unhide HM).dur s hs) (fun x hx => ((unhide HM).puts x hx).2) _)
      have hpB : p < wr.heap.size := lt_of_heap q1
      have hgB : g ≠ wr.heap.size := by have := q4.size; omega
      have hu := Tryz.underlying305
      have hbl : (bcells x.2).length = 64 := by rw [bcells_length]; exact hx2.2
      have hisz : (Tryz.prog.info? 305).map (·.size) = some (bcells x.2).length := by rw [hbl]; exact sizeSector
      have hone := bcells_one x.2
      have hi0 : (0 : Int) ≤ (x.1 : Int) := Int.natCast_nonneg _
      have hi1 : (x.1 : Int) < (m.dur.length : Int) := by have := hx2.1; omega
      clear hx q1 q2 q3 hl65 hr
      by_cases hkl : j < bs.length
      · obtain ⟨gk, ok, rfl, hgk, hgkS, hkc⟩ := unhide HK j hkl
        have hkw : (wr.alloc (.cells (putCell x).toArray 307)).cell? ⟨gk, ok + j, none⟩ = some (.bool (bs.getD j false)) := by
          rw [((q4.alloc _).cell (p := ⟨gk, ok + j, none⟩) hgk (fun e => hgkS (by have e' : gk = g := e; rw [e']; exact hgS.1)))]; exact hkc
        have hdk : decide ((j : Int) < (bs.length : Int)) = true := by simp; omega
        have HB : Hid (∃ b, bs.getD j false = b) := ⟨_, rfl⟩
        obtain ⟨b, hbb⟩ := unhide HB
        rw [hbb] at hkw
        have HBB := hide hbb
        clear hbb hkc HB
        generalize hW : wr.alloc (.cells (putCell x).toArray 307) = W at *
        cases b with
        | true =>
          go_wp2
          go_region_held3 (fun w' => w'.cell? ⟨p, 0, none⟩ = some (.slice (some ⟨g, 0, none⟩) m.dur.length cap) ∧ w'.cell? ⟨wr.heap.size, 0, none⟩ = some (.int .i64 (x.1 : Int)) ∧ w'.rangeAt wr.heap.size 1 (bcells x.2) ∧ w'.there g (x.1 * 64) 64) (first | exact hS1.drew | exact hS1.drew.setCells hgS.2 hgB) (fail)
          go_wp2
          go_roundw
          case rel =>
            subst hW
            exact ⟨j + 1, by omega, by go_num, sync_step (unhide HR) (unhide HX) (unhide HBB) (unhide HM) hgS.2⟩
          case measure => simp [intOf]; omega
        | false =>
          go_wp2
          go_roundw
          case rel =>
            subst hW
            exact ⟨j + 1, by omega, by go_num, sync_skip (unhide HR) (unhide HX) (unhide HBB)⟩
          case measure => simp [intOf]; omega
      · have hdk : decide ((j : Int) < (bs.length : Int)) = false := by simp; omega
        have HBB : Hid (bs.getD j false = false) := by show _ = _; rw [List.getD_eq_getElem?_getD, List.getElem?_eq_none (by omega)]; rfl
        generalize hW : wr.alloc (.cells (putCell x).toArray 307) = W at *
        go_wp2
        go_roundw
        case rel =>
          subst hW
          exact ⟨j + 1, by omega, by go_num, sync_skip (unhide HR) (unhide HX) (unhide HBB)⟩
        case measure => simp [intOf]; omega
    · obtain ⟨q1, q2, q3, q4⟩ := hR
      have z1 := cell_of_heap (o := 1) q1
      have f1 := frozen_of_heap (o := 1) q1
      simp at z1
      have hjn : j = m.puts.length := by omega
      have HJ := hide hjn
      clear hjn
      go_wp2
      go_end0
      refine ⟨rfl, ?_, ?_⟩
      · rw [unhide HJ] at q2
        exact crash_end q1 hS q2 (durTo_length _ _ _ _).symm
      · exact (q4.mono (T := S) (fun k _ e => by subst e; exact hgS.1)).setCell (p := ⟨p, 1, none⟩) (.inl hS) _

end Go.Proofs.YthbmmbgkchiajaaGreat

/- A journal on a disk, in plain words: what a sector holds, which sectors are the records', what holds while a journal is in use, and what is left of it behind a crash. -/
namespace Go.Proofs.YthbmmbgkchiajaaGreat
set_option linter.unusedSimpArgs false
set_option linter.unusedVariables false
open Go.RowKit

/-- The eight bytes of a number. -/
def numB (n : Nat) : List UInt8 := [UInt8.ofNat n, UInt8.ofNat (n / 256), UInt8.ofNat (n / 65536), UInt8.ofNat (n / 16777216), UInt8.ofNat (n / 4294967296), UInt8.ofNat (n / 1099511627776), UInt8.ofNat (n / 281474976710656), UInt8.ofNat (n / 72057594037927936)]
def packL (a b : Nat) (t : List UInt8) : List UInt8 := numB a ++ numB b ++ UInt8.ofNat t.length :: t ++ List.replicate (47 - t.length) 0
def packB (a b : Nat) (t : ByteArray) : ByteArray := ⟨(packL a b t.data.toList).toArray⟩

theorem packB_list (a b : Nat) (t : ByteArray) : (packB a b t).data.toList = packL a b t.data.toList := rfl
theorem packB_size (a b : Nat) (t : ByteArray) (h : t.size ≤ 47) : (packB a b t).size = 64 := by
  have h' : t.data.toList.length ≤ 47 := by simpa using h
  show (packL a b t.data.toList).toArray.size = 64
  simp only [List.size_toArray, packL, numB, List.length_append, List.length_cons, List.length_nil, List.length_replicate]
  omega

def DM.sync (m : DM) : DM := ⟨durTo m.dur m.puts (fun _ => true) m.puts.length, [], m.syncs + 1⟩

theorem getD_set (l : List ByteArray) (i q : Nat) (s d : ByteArray) (hq : q < l.length) : (l.set i s).getD q d = if i = q then s else l.getD q d := by
  simp only [List.getD_eq_getElem?_getD, List.getElem?_set]
  split
  · rename_i h; subst h; rw [if_pos hq]; rfl
  · rfl

theorem durTo_true (l : List ByteArray) (ps : List (Nat × ByteArray)) (q : Nat) (hq : q < l.length) : ∀ k, k ≤ ps.length → (durTo l ps (fun _ => true) k).getD q ByteArray.empty = lastPut (ps.take k) q (l.getD q ByteArray.empty)
  | 0, _ => rfl
  | k + 1, hk => by
    have hx : ps[k]? = some ps[k] := List.getElem?_eq_getElem (by omega)
    rw [durTo_yes hx rfl, getD_set _ _ _ _ _ (by rw [durTo_length]; exact hq), durTo_true l ps q hq k (by omega), List.take_add_one, hx]
    exact (lastPut_snoc _ _ _ _).symm

theorem durTo_miss (l : List ByteArray) (ps : List (Nat × ByteArray)) (keep : Nat → Bool) (q : Nat) (hq : q < l.length) : ∀ k, k ≤ ps.length → (∀ j y, j < k → ps[j]? = some y → y.1 = q → keep j = false) → (durTo l ps keep k).getD q ByteArray.empty = l.getD q ByteArray.empty
  | 0, _, _ => rfl
  | k + 1, hk, h => by
    have hx : ps[k]? = some ps[k] := List.getElem?_eq_getElem (by omega)
    have ih := durTo_miss l ps keep q hq k (by omega) (fun j y hj => h j y (by omega))
    by_cases hkk : keep k = true
    · rw [durTo_yes hx hkk, getD_set _ _ _ _ _ (by rw [durTo_length]; exact hq), if_neg, ih]
      intro e
      rw [h k _ (by omega) hx e] at hkk
      cases hkk
    · rw [durTo_no hx (by simpa using hkk), ih]

theorem durTo_hit (l : List ByteArray) (ps : List (Nat × ByteArray)) (keep : Nat → Bool) (q i : Nat) (s : ByteArray) (hq : q < l.length) (hi : ps[i]? = some (q, s)) (hki : keep i = true) : ∀ k, k ≤ ps.length → i < k → (∀ j y, i < j → ps[j]? = some y → y.1 ≠ q) → (durTo l ps keep k).getD q ByteArray.empty = s
  | 0, _, h, _ => by omega
  | k + 1, hk, hik, h => by
    have hx : ps[k]? = some ps[k] := List.getElem?_eq_getElem (by omega)
    by_cases e : i = k
    · subst e
      rw [durTo_yes hi hki, getD_set _ _ _ _ _ (by rw [durTo_length]; exact hq), if_pos rfl]
    · have ih := durTo_hit l ps keep q i s hq hi hki k (by omega) (by omega) h
      by_cases hkk : keep k = true
      · rw [durTo_yes hx hkk, getD_set _ _ _ _ _ (by rw [durTo_length]; exact hq), if_neg (h k _ (by omega) hx), ih]
      · rw [durTo_no hx (by simpa using hkk), ih]

theorem DM.sync_dur (m : DM) (q : Nat) (hq : q < m.dur.length) : m.sync.dur.getD q ByteArray.empty = m.read q := by
  have := durTo_true m.dur m.puts q hq m.puts.length (Nat.le_refl _)
  rw [List.take_length] at this
  exact this
theorem DM.sync_read (m : DM) (q : Nat) (hq : q < m.dur.length) : m.sync.read q = m.read q := m.sync_dur q hq
theorem DM.put_read (m : DM) (i q : Nat) (s : ByteArray) : (m.put i s).read q = if i = q then s else m.read q := lastPut_snoc _ _ _ _
theorem DM.read_nil (m : DM) (h : m.puts = []) (q : Nat) : m.read q = m.dur.getD q ByteArray.empty := by unfold DM.read; rw [h]; rfl
theorem DM.sync_ok {m : DM} (hm : m.ok) : m.sync.ok := ⟨by simpa [DM.sync, durTo_length] using hm.len, durTo_size _ _ _ (fun q hq => hm.dur q hq) (fun x hx => (hm.puts x hx).2) _, by simp [DM.sync]⟩
theorem DM.sync_len (m : DM) : m.sync.dur.length = m.dur.length := durTo_length _ _ _ _

/-- Several writes of the same bytes. -/
def DM.puts' (m : DM) (is : List Nat) (s : ByteArray) : DM := is.foldl (fun m i => m.put i s) m
theorem DM.puts'_snoc (m : DM) (is : List Nat) (i : Nat) (s : ByteArray) : m.puts' (is ++ [i]) s = (m.puts' is s).put i s := by simp [DM.puts']
theorem DM.puts'_dur (s : ByteArray) : ∀ (is : List Nat) (m : DM), (m.puts' is s).dur = m.dur
  | [], _ => rfl
  | i :: is, m => (DM.puts'_dur s is (m.put i s)).trans rfl
theorem DM.puts'_syncs (s : ByteArray) : ∀ (is : List Nat) (m : DM), (m.puts' is s).syncs = m.syncs
  | [], _ => rfl
  | i :: is, m => (DM.puts'_syncs s is (m.put i s)).trans rfl
theorem DM.puts'_len (s : ByteArray) : ∀ (is : List Nat) (m : DM), (m.puts' is s).puts.length = m.puts.length + is.length
  | [], _ => rfl
  | i :: is, m => by
    show ((m.put i s).puts' is s).puts.length = _
    rw [DM.puts'_len s is (m.put i s)]
    simp [DM.put]; omega
theorem DM.puts'_ok {s : ByteArray} (hs : s.size = 64) : ∀ (is : List Nat) {m : DM}, m.ok → (∀ i ∈ is, i < m.dur.length) → (m.puts' is s).ok
  | [], _, h, _ => h
  | i :: is, m, h, hi => DM.puts'_ok hs is (DM.put_ok h (hi i (by simp)) hs) (fun j hj => hi j (by simp [hj]))
theorem DM.puts'_out (s : ByteArray) (q : Nat) : ∀ (is : List Nat) (m : DM), q ∉ is → (m.puts' is s).read q = m.read q
  | [], _, _ => rfl
  | i :: is, m, h => by
    show ((m.put i s).puts' is s).read q = _
    rw [DM.puts'_out s q is _ (fun e => h (by simp [e])), DM.put_read, if_neg (fun e => h (by simp [e]))]
theorem DM.puts'_in (s : ByteArray) (q : Nat) : ∀ (is : List Nat) (m : DM), q ∈ is → (m.puts' is s).read q = s
  | [], _, h => by cases h
  | i :: is, m, h => by
    show ((m.put i s).puts' is s).read q = _
    by_cases hq : q ∈ is
    · exact DM.puts'_in s q is _ hq
    · rw [DM.puts'_out s q is _ hq, DM.put_read, if_pos]
      rcases List.mem_cons.1 h with h | h
      · exact h.symm
      · exact absurd h hq

/-- A journal. -/
structure JM where
  ring : Nat
  per : Nat
  L : List ByteArray
  low : Nat
  safe : Nat
  epoch : Nat
  note : ByteArray

/-- Where record n has its place. -/
def slot (ring per n : Nat) : Nat := 2 + (n - 1) % (ring * per)
theorem slot_lt (ring per n : Nat) (h : 0 < ring * per) : slot ring per n < ring * per + 2 := by
  have := Nat.mod_lt (n - 1) h
  unfold slot; omega
theorem slot_ge (ring per n : Nat) : 2 ≤ slot ring per n := by unfold slot; omega
theorem slot_inj {ring per a b : Nat} (ha : 1 ≤ a) (hab : a ≤ b) (hb : b < a + ring * per) (h : slot ring per a = slot ring per b) : a = b := by
  unfold slot at h
  have h1 : (b - 1) % (ring * per) = (a - 1) % (ring * per) := by omega
  have h2 := Nat.sub_mod_eq_zero_of_mod_eq h1
  rw [Nat.mod_eq_of_lt (by omega)] at h2
  omega
theorem slot_ne {ring per a b lo : Nat} (hlo : 1 ≤ lo) (ha : lo ≤ a) (hb : lo ≤ b) (ha' : a < lo + ring * per) (hb' : b < lo + ring * per) (h : a ≠ b) : slot ring per a ≠ slot ring per b := by
  intro e
  rcases Nat.le_total a b with hab | hab
  · exact h (slot_inj (by omega) hab (by omega) e)
  · exact h (slot_inj (by omega) hab (by omega) e.symm).symm
/-- Each sector of the ring is the place of one of any so many records in a row. -/
theorem slot_onto {ring per q lo : Nat} (hlo : 1 ≤ lo) (h2 : 2 ≤ q) (hq : q < ring * per + 2) : ∃ n, lo ≤ n ∧ n < lo + ring * per ∧ slot ring per n = q := by
  have hC : 0 < ring * per := by omega
  generalize hc : ring * per = C at *
  have hm := Nat.mod_lt (lo - 1) hC
  have hd := Nat.div_add_mod (lo - 1) C
  have key : ∀ x k : Nat, x < C → (C * k + x) % C = x := fun x k hx => by rw [Nat.mul_add_mod, Nat.mod_eq_of_lt hx]
  unfold slot
  rw [hc]
  by_cases h : (lo - 1) % C ≤ q - 2
  · refine ⟨C * ((lo - 1) / C) + (q - 2) + 1, by omega, by omega, ?_⟩
    rw [Nat.add_sub_cancel, key _ _ (by omega)]; omega
  · refine ⟨C * ((lo - 1) / C + 1) + (q - 2) + 1, by rw [Nat.mul_add]; omega, by rw [Nat.mul_add]; omega, ?_⟩
    rw [Nat.add_sub_cancel, key _ _ (by omega)]; omega

def nameB : ByteArray := ⟨#[112, 97, 99, 116, 32, 106, 111, 117, 114, 110, 97, 108]⟩
/-- The bytes of a sector that a journal wrote. -/
def Sec (s : ByteArray) (k : Nat → Prop) : Prop := ∃ a b t, s = packB a b t ∧ t.size ≤ 40 ∧ a < 4611686018427387904 ∧ b < 4611686018427387904 ∧ k a

/-- What is so of every journal. -/
structure JM.ok (j : JM) : Prop where
  ring : 2 ≤ j.ring ∧ j.ring ≤ 6
  per : 2 ≤ j.per ∧ j.per ≤ 16
  low : 1 ≤ j.low ∧ j.low ≤ j.L.length + 1
  win : j.L.length ≤ (j.low - 1) / j.per * j.per + j.ring * j.per
  sizes : ∀ s ∈ j.L, s.size ≤ 40
  note : j.note.size ≤ 40
  few : j.L.length < 2305843009213693952 ∧ j.epoch < 2305843009213693952

theorem JM.ok.span {j : JM} (h : j.ok) : j.L.length + 1 ≤ j.low + j.ring * j.per := by
  have h1 := Nat.div_mul_le_self (j.low - 1) j.per
  have h2 := h.win
  have h3 := h.low
  omega
theorem JM.ok.pos {j : JM} (h : j.ok) : 4 ≤ j.ring * j.per ∧ j.ring * j.per ≤ 96 := ⟨Nat.mul_le_mul h.ring.1 h.per.1, Nat.mul_le_mul h.ring.2 h.per.2⟩

def JM.recd (j : JM) (n : Nat) : ByteArray := packB n 0 (j.L.getD (n - 1) ByteArray.empty)

/-- What a disk tells of a journal that is not in use. -/
structure Found (j : JM) (m : DM) : Prop where
  ok : j.ok
  room : j.ring * j.per + 2 ≤ m.dur.length
  shape : m.read 0 = packB j.ring j.per nameB
  state : m.read 1 = packB j.low j.epoch j.note
  live : ∀ n, j.low ≤ n → n ≤ j.L.length → m.read (slot j.ring j.per n) = j.recd n
  rest : j.L.length < (j.low - 1) / j.per * j.per + j.ring * j.per → Sec (m.read (slot j.ring j.per (j.L.length + 1))) (fun a => a ≠ j.L.length + 1)

/-- While it is in use. -/
structure InUse (j : JM) (m : DM) : Prop where
  ok : j.ok
  safe : j.low ≤ j.safe + 1 ∧ j.safe ≤ j.L.length
  room : j.ring * j.per + 2 ≤ m.dur.length
  shape : m.dur.getD 0 ByteArray.empty = packB j.ring j.per nameB
  state : m.dur.getD 1 ByteArray.empty = packB j.low j.epoch j.note
  live : ∀ n, j.low ≤ n → n ≤ j.safe → m.dur.getD (slot j.ring j.per n) ByteArray.empty = j.recd n
  puts : m.puts = (List.range (j.L.length - j.safe)).map fun i => (slot j.ring j.per (j.safe + 1 + i), j.recd (j.safe + 1 + i))
  old : ∀ q, 2 ≤ q → q < j.ring * j.per + 2 → Sec (m.dur.getD q ByteArray.empty) (fun a => a ≤ j.safe)

theorem InUse.put_at {j : JM} {m : DM} (h : InUse j m) {i : Nat} {x : Nat × ByteArray} (hx : m.puts[i]? = some x) : j.safe + 1 + i ≤ j.L.length ∧ x = (slot j.ring j.per (j.safe + 1 + i), j.recd (j.safe + 1 + i)) := by
  rw [h.puts] at hx
  simp only [List.getElem?_map, Option.map_eq_some_iff] at hx
  obtain ⟨a, ha, rfl⟩ := hx
  have hl := (List.getElem?_eq_some_iff.1 ha).1
  rw [List.length_range] at hl
  rw [List.getElem?_range hl] at ha
  cases ha
  exact ⟨by omega, rfl⟩
theorem InUse.put_of {j : JM} {m : DM} (h : InUse j m) {n : Nat} (h0 : j.safe < n) (h1 : n ≤ j.L.length) : m.puts[n - j.safe - 1]? = some (slot j.ring j.per n, j.recd n) := by
  rw [h.puts, List.getElem?_map, List.getElem?_range (by omega)]
  have e : j.safe + 1 + (n - j.safe - 1) = n := by omega
  simp only [Option.map_some, e]
theorem InUse.putsLen {j : JM} {m : DM} (h : InUse j m) : m.puts.length = j.L.length - j.safe := by rw [h.puts]; simp
theorem InUse.slots {j : JM} {m : DM} (h : InUse j m) {a b : Nat} (ha : j.low ≤ a) (hb : j.low ≤ b) (ha' : a < j.low + j.ring * j.per) (hb' : b < j.low + j.ring * j.per) (hne : a ≠ b) : slot j.ring j.per a ≠ slot j.ring j.per b := slot_ne h.ok.low.1 ha hb ha' hb' hne

theorem InUse.read_new {j : JM} {m : DM} (h : InUse j m) {n : Nat} (h0 : j.safe < n) (h1 : n ≤ j.L.length) : m.read (slot j.ring j.per n) = j.recd n := by
  have hs := h.ok.span
  have hsf := h.safe
  refine lastPut_drop m.puts _ _ (n - j.safe - 1) (by rw [h.putsLen]; omega) ?_ _ (h.put_of h0 h1) rfl
  intro k x hk hx
  obtain ⟨e1, e2⟩ := h.put_at hx
  rw [e2]
  exact h.slots (by omega) (by omega) (by omega) (by omega) (by omega)
theorem InUse.read_old {j : JM} {m : DM} (h : InUse j m) {q : Nat} (hq : ∀ n, j.safe < n → n ≤ j.L.length → slot j.ring j.per n ≠ q) : m.read q = m.dur.getD q ByteArray.empty := by
  refine lastPut_none m.puts _ _ ?_
  intro k x hx
  obtain ⟨e1, e2⟩ := h.put_at hx
  rw [e2]
  exact hq _ (by omega) e1

theorem InUse.read_live {j : JM} {m : DM} (h : InUse j m) {n : Nat} (h0 : j.low ≤ n) (h1 : n ≤ j.L.length) : m.read (slot j.ring j.per n) = j.recd n := by
  have hs := h.ok.span
  have hsf := h.safe
  by_cases hn : j.safe < n
  · exact h.read_new hn h1
  · rw [h.read_old, h.live n h0 (by omega)]
    intro k h2 h3
    exact h.slots (by omega) (by omega) (by omega) (by omega) (by omega)
theorem InUse.read_low {j : JM} {m : DM} (h : InUse j m) {q : Nat} (hq : q < 2) : m.read q = m.dur.getD q ByteArray.empty :=
  h.read_old (fun n _ _ e => by have := slot_ge j.ring j.per n; omega)

theorem JM.rec_sec {j : JM} (h : j.ok) (n : Nat) (h1 : n ≤ j.L.length) (k : Nat → Prop) (hk : k n) : Sec (j.recd n) k := by
  refine ⟨n, 0, _, rfl, ?_, by have := h.few; omega, by omega, hk⟩
  rw [List.getD_eq_getElem?_getD]
  cases hx : j.L[n - 1]? with
  | none => simp
  | some s => exact h.sizes s (List.mem_of_getElem? hx)

/-- All that is read of the ring is a record so far, or nothing. -/
theorem InUse.read_sec {j : JM} {m : DM} (h : InUse j m) {q : Nat} (h2 : 2 ≤ q) (hq : q < j.ring * j.per + 2) : Sec (m.read q) (fun a => a ≤ j.L.length) := by
  by_cases hx : ∃ n, j.safe < n ∧ n ≤ j.L.length ∧ slot j.ring j.per n = q
  · obtain ⟨n, h0, h1, rfl⟩ := hx
    rw [h.read_new h0 h1]
    exact JM.rec_sec h.ok n h1 _ h1
  · rw [h.read_old (fun n h0 h1 e => hx ⟨n, h0, h1, e⟩)]
    obtain ⟨a, b, t, e, e1, e2, e3, e4⟩ := h.old q h2 hq
    exact ⟨a, b, t, e, e1, e2, e3, by have := h.safe; omega⟩

theorem InUse.found {j : JM} {m : DM} (h : InUse j m) : Found j m := by
  have hp := h.ok.pos
  refine ⟨h.ok, h.room, (h.read_low (by omega)).trans h.shape, (h.read_low (by omega)).trans h.state, fun n h0 h1 => h.read_live h0 h1, fun _ => ?_⟩
  obtain ⟨a, b, t, e, e1, e2, e3, e4⟩ := h.read_sec (slot_ge j.ring j.per (j.L.length + 1)) (slot_lt _ _ _ (by omega))
  exact ⟨a, b, t, e, e1, e2, e3, by omega⟩

/-- A journal whose writes are all durable. -/
theorem inUse_sync {j : JM} {m : DM} (hok : j.ok) (hsafe : j.safe = j.L.length) (hroom : j.ring * j.per + 2 ≤ m.dur.length) (h0 : m.read 0 = packB j.ring j.per nameB) (h1 : m.read 1 = packB j.low j.epoch j.note)
    (hl : ∀ n, j.low ≤ n → n ≤ j.L.length → m.read (slot j.ring j.per n) = j.recd n) (ho : ∀ q, 2 ≤ q → q < j.ring * j.per + 2 → Sec (m.read q) (fun a => a ≤ j.L.length)) : InUse j m.sync := by
  have hp := hok.pos
  have hw := hok.low
  refine ⟨hok, by omega, by rw [m.sync_len]; exact hroom, (m.sync_dur 0 (by omega)).trans h0, (m.sync_dur 1 (by omega)).trans h1, fun n a b => ?_, ?_, fun q a b => ?_⟩
  · rw [m.sync_dur _ (by have := slot_lt j.ring j.per n (by omega); omega)]
    exact hl n a (by omega)
  · show ([] : List (Nat × ByteArray)) = _
    rw [hsafe, Nat.sub_self]; rfl
  · rw [m.sync_dur _ (by omega), hsafe]
    exact ho q a b

theorem InUse.force {j : JM} {m : DM} (h : InUse j m) : InUse { j with safe := j.L.length } m.sync :=
  inUse_sync (j := { j with safe := j.L.length }) ⟨h.ok.ring, h.ok.per, h.ok.low, h.ok.win, h.ok.sizes, h.ok.note, h.ok.few⟩ rfl h.room h.found.shape h.found.state (fun _ a b => h.read_live a b) (fun _ a b => h.read_sec a b)

theorem InUse.truncate {j : JM} {m : DM} (h : InUse j m) {low : Nat} {note : ByteArray} (h0 : j.low ≤ low) (h1 : low ≤ j.L.length + 1) (hn : note.size ≤ 40) : InUse { j with low := low, note := note, safe := j.L.length } (m.put 1 (packB low j.epoch note)).sync := by
  have hw : (j.low - 1) / j.per * j.per ≤ (low - 1) / j.per * j.per := Nat.mul_le_mul_right _ (Nat.div_le_div_right (by omega))
  have hww := h.ok.win
  have hll := h.ok.low
  refine inUse_sync (j := { j with low := low, note := note, safe := j.L.length }) ⟨h.ok.ring, h.ok.per, ⟨by show 1 ≤ low; omega, h1⟩, by show j.L.length ≤ (low - 1) / j.per * j.per + j.ring * j.per; omega, h.ok.sizes, hn, h.ok.few⟩ rfl h.room ?_ ?_ (fun n a b => ?_) (fun q a b => ?_)
  · rw [DM.put_read, if_neg (by omega)]; exact h.found.shape
  · rw [DM.put_read, if_pos rfl]
  · rw [DM.put_read, if_neg (by have := slot_ge j.ring j.per n; show ¬ 1 = slot j.ring j.per n; omega)]
    exact h.read_live (Nat.le_trans h0 a) b
  · rw [DM.put_read, if_neg (by omega)]; exact h.read_sec a b

theorem rec_append (j : JM) (s : ByteArray) (n : Nat) (h1 : 1 ≤ n) (hn : n ≤ j.L.length) : JM.recd { j with L := j.L ++ [s] } n = j.recd n := by
  unfold JM.recd
  simp only [List.getD_eq_getElem?_getD]
  rw [List.getElem?_append_left (by omega)]
theorem rec_append_last (j : JM) (s : ByteArray) : JM.recd { j with L := j.L ++ [s] } (j.L.length + 1) = packB (j.L.length + 1) 0 s := by
  unfold JM.recd
  simp only [List.getD_eq_getElem?_getD, Nat.add_sub_cancel]
  rw [List.getElem?_append_right (Nat.le_refl _), Nat.sub_self]
  rfl

theorem InUse.append {j : JM} {m : DM} (h : InUse j m) {s : ByteArray} (hs : s.size ≤ 40) (hfull : j.L.length / j.per < (j.low - 1) / j.per + j.ring) (hfew : j.L.length + 1 < 2305843009213693952) :
    InUse { j with L := j.L ++ [s] } (m.put (slot j.ring j.per (j.L.length + 1)) (packB (j.L.length + 1) 0 s)) := by
  have hsf := h.safe
  have hlo := h.ok.low
  have hpp := h.ok.per
  have hlt : j.L.length < ((j.low - 1) / j.per + j.ring) * j.per := (Nat.div_lt_iff_lt_mul (by omega)).1 hfull
  have hw : j.L.length + 1 ≤ (j.low - 1) / j.per * j.per + j.ring * j.per := by rw [← Nat.add_mul]; exact hlt
  refine ⟨⟨h.ok.ring, h.ok.per, ⟨h.ok.low.1, by simp; omega⟩, by simpa using hw, ?_, h.ok.note, ⟨by simpa using hfew, h.ok.few.2⟩⟩, ⟨h.safe.1, by simp; omega⟩, h.room, h.shape, h.state, ?_, ?_, h.old⟩
  · intro x hx
    simp only [List.mem_append, List.mem_singleton] at hx
    rcases hx with hx | rfl
    · exact h.ok.sizes x hx
    · exact hs
  · intro n a b
    rw [rec_append j s n (by have : j.low ≤ n := a; omega) (by have : n ≤ j.safe := b; omega)]
    exact h.live n a b
  · show m.puts ++ [_] = _
    have e : (j.L ++ [s]).length - j.safe = (j.L.length - j.safe) + 1 := by simp; omega
    simp only
    rw [e, List.range_succ, List.map_append, h.puts]
    congr 1
    · refine List.map_congr_left (fun i hi => ?_)
      rw [List.mem_range] at hi
      rw [rec_append j s _ (by omega) (by omega)]
    · have e2 : j.safe + 1 + (j.L.length - j.safe) = j.L.length + 1 := by omega
      simp only [List.map_cons, List.map_nil, e2]
      rw [rec_append_last]

/-- How many records of a crash are left. -/
def runOf : List Bool → Nat → Nat
  | _, 0 => 0
  | [], _ + 1 => 0
  | b :: bs, n + 1 => if b then runOf bs n + 1 else 0
theorem runOf_le : ∀ (bs : List Bool) (n : Nat), runOf bs n ≤ n
  | _, 0 => by unfold runOf; omega
  | [], n + 1 => by unfold runOf; omega
  | b :: bs, n + 1 => by
    unfold runOf
    have := runOf_le bs n
    split <;> omega
theorem runOf_yes : ∀ (bs : List Bool) (n i : Nat), i < runOf bs n → bs.getD i false = true
  | _, 0, i, h => by unfold runOf at h; omega
  | [], n + 1, i, h => by unfold runOf at h; omega
  | b :: bs, n + 1, i, h => by
    unfold runOf at h
    split at h
    · cases i with
      | zero => simpa
      | succ i => simpa using runOf_yes bs n i (by omega)
    · omega
theorem runOf_no : ∀ (bs : List Bool) (n : Nat), runOf bs n < n → bs.getD (runOf bs n) false = false
  | _, 0, h => by omega
  | [], n + 1, _ => by simp
  | b :: bs, n + 1, h => by
    unfold runOf at h ⊢
    split at h
    · rename_i hb
      rw [if_pos hb]
      simpa using runOf_no bs n (by omega)
    · rename_i hb
      rw [if_neg hb]
      simpa using hb

def JM.crash (j : JM) (bs : List Bool) : JM := { j with L := j.L.take (j.safe + runOf bs (j.L.length - j.safe)), safe := j.safe + runOf bs (j.L.length - j.safe) }
def DM.lose (m : DM) (bs : List Bool) : DM := ⟨durTo m.dur m.puts (fun k => bs.getD k false) m.puts.length, [], m.syncs⟩
theorem DM.lose_len (m : DM) (bs : List Bool) : (m.lose bs).dur.length = m.dur.length := durTo_length _ _ _ _

theorem InUse.crash {j : JM} {m : DM} (h : InUse j m) (bs : List Bool) : Found (j.crash bs) (m.lose bs) := by
  have hr := runOf_le bs (j.L.length - j.safe)
  have hsf := h.safe
  have hs := h.ok.span
  have hp := h.ok.pos
  have hlo := h.ok.low
  have hroom := h.room
  have hn1 : (j.crash bs).L.length = j.safe + runOf bs (j.L.length - j.safe) := by simp [JM.crash]; omega
  have hmiss : ∀ q, q < m.dur.length → (∀ n, j.safe < n → n ≤ j.L.length → slot j.ring j.per n = q → bs.getD (n - j.safe - 1) false = false) → (m.lose bs).dur.getD q ByteArray.empty = m.dur.getD q ByteArray.empty := by
    intro q hq hx
    refine durTo_miss m.dur m.puts _ q hq _ (Nat.le_refl _) ?_
    intro i y hi hy e
    obtain ⟨e1, e2⟩ := h.put_at hy
    have := hx (j.safe + 1 + i) (by omega) e1 (by rw [← e, e2])
    rwa [show j.safe + 1 + i - j.safe - 1 = i by omega] at this
  refine ⟨⟨h.ok.ring, h.ok.per, ⟨h.ok.low.1, by rw [hn1]; show j.low ≤ _; omega⟩, by rw [hn1]; have := h.ok.win; show _ ≤ (j.low - 1) / j.per * j.per + j.ring * j.per; omega, fun s hs => h.ok.sizes s (List.mem_of_mem_take hs), h.ok.note, ⟨by rw [hn1]; have := h.ok.few; omega, h.ok.few.2⟩⟩, by rw [m.lose_len]; exact h.room, ?_, ?_, ?_, ?_⟩
  · rw [DM.read_nil _ rfl, hmiss 0 (by omega) (fun n _ _ e => by have := slot_ge j.ring j.per n; omega)]; exact h.shape
  · rw [DM.read_nil _ rfl, hmiss 1 (by omega) (fun n _ _ e => by have := slot_ge j.ring j.per n; omega)]; exact h.state
  · intro n a b
    rw [hn1] at b
    have a' : j.low ≤ n := a
    have hsl := slot_lt j.ring j.per n (by omega)
    show (m.lose bs).read (slot j.ring j.per n) = _
    rw [DM.read_nil _ rfl]
    have e : (j.crash bs).recd n = j.recd n := by
      unfold JM.recd JM.crash
      simp only [List.getD_eq_getElem?_getD]
      rw [List.getElem?_take, if_pos (by omega)]
    rw [e]
    by_cases hn : j.safe < n
    · refine durTo_hit m.dur m.puts _ _ (n - j.safe - 1) _ (by omega) (h.put_of hn (by omega)) (runOf_yes bs (j.L.length - j.safe) (n - j.safe - 1) (by omega)) _ (Nat.le_refl _) (by rw [h.putsLen]; omega) ?_
      intro k y hk hy
      obtain ⟨e1, e2⟩ := h.put_at hy
      rw [e2]
      exact h.slots (by omega) (by omega) (by omega) (by omega) (by omega)
    · rw [hmiss _ (by omega), h.live n a' (by omega)]
      intro k h0 h1 e
      exact absurd e (h.slots (by omega) (by omega) (by omega) (by omega) (by omega))
  · intro hlt
    rw [hn1] at hlt ⊢
    have hlt' : j.safe + runOf bs (j.L.length - j.safe) < (j.low - 1) / j.per * j.per + j.ring * j.per := hlt
    have hdd := Nat.div_mul_le_self (j.low - 1) j.per
    have hsl := slot_lt j.ring j.per (j.safe + runOf bs (j.L.length - j.safe) + 1) (by omega)
    show Sec ((m.lose bs).read (slot j.ring j.per _)) _
    rw [DM.read_nil _ rfl, hmiss _ (by omega)]
    · obtain ⟨a, b, t, e, e1, e2, e3, e4⟩ := h.old _ (slot_ge j.ring j.per (j.safe + runOf bs (j.L.length - j.safe) + 1)) hsl
      exact ⟨a, b, t, e, e1, e2, e3, by omega⟩
    · intro n h0 h1 e
      by_cases hne : n = j.safe + runOf bs (j.L.length - j.safe) + 1
      · subst hne
        have := runOf_no bs (j.L.length - j.safe) (by omega)
        rwa [show j.safe + runOf bs (j.L.length - j.safe) + 1 - j.safe - 1 = runOf bs (j.L.length - j.safe) by omega]
      · exact absurd e (h.slots (by omega) (by omega) (by omega) (by omega) hne)

/-- Behind a crash there is nothing to lose. -/
theorem DM.lose_nil (m : DM) (h : m.puts = []) (bs : List Bool) : m.lose bs = m := by
  obtain ⟨d, p, y⟩ := m
  simp only at h
  subst h
  rfl

/-- The sectors that hold no record. -/
def frees (ring per next free : Nat) : List Nat := (List.range free).map fun k => slot ring per (next + k)
theorem frees_succ (ring per next k : Nat) : frees ring per next (k + 1) = frees ring per next k ++ [slot ring per (next + k)] := by simp [frees, List.range_succ]
def blankB : ByteArray := packB 0 0 ByteArray.empty
theorem blank_sec (k : Nat → Prop) (h : k 0) : Sec blankB k := ⟨0, 0, ByteArray.empty, rfl, by simp, by omega, by omega, h⟩

/-- The beginning of a journal's use: all sectors without a record are wiped; the state is written; a Sync. -/
theorem inUse_begin {j : JM} {m : DM} (hok : j.ok) (hsafe : j.safe = j.L.length) (hroom : j.ring * j.per + 2 ≤ m.dur.length) (h0 : m.read 0 = packB j.ring j.per nameB)
    (hl : ∀ n, j.low ≤ n → n ≤ j.L.length → m.read (slot j.ring j.per n) = j.recd n) :
    InUse j ((m.puts' (frees j.ring j.per (j.L.length + 1) (j.ring * j.per - (j.L.length + 1 - j.low))) blankB).put 1 (packB j.low j.epoch j.note)).sync := by
  have hp := hok.pos
  have hs := hok.span
  have hlo := hok.low
  have hin : ∀ n, j.L.length < n → n < j.low + j.ring * j.per → slot j.ring j.per n ∈ frees j.ring j.per (j.L.length + 1) (j.ring * j.per - (j.L.length + 1 - j.low)) := by
    intro n a b
    refine List.mem_map.2 ⟨n - (j.L.length + 1), List.mem_range.2 (by omega), ?_⟩
    rw [show j.L.length + 1 + (n - (j.L.length + 1)) = n by omega]
  have hout : ∀ n, j.low ≤ n → n ≤ j.L.length → slot j.ring j.per n ∉ frees j.ring j.per (j.L.length + 1) (j.ring * j.per - (j.L.length + 1 - j.low)) := by
    intro n a b hm
    obtain ⟨k, hk, e⟩ := List.mem_map.1 hm
    rw [List.mem_range] at hk
    exact slot_ne (lo := j.low) hlo.1 (by omega) (by omega) (by omega) (by omega) (by omega) e
  have hlow : ∀ q, q < 2 → q ∉ frees j.ring j.per (j.L.length + 1) (j.ring * j.per - (j.L.length + 1 - j.low)) := by
    intro q hq hm
    obtain ⟨k, hk, e⟩ := List.mem_map.1 hm
    have := slot_ge j.ring j.per (j.L.length + 1 + k)
    omega
  refine inUse_sync hok hsafe (by show _ ≤ (m.puts' _ _).dur.length; rw [DM.puts'_dur]; exact hroom) ?_ ?_ (fun n a b => ?_) (fun q a b => ?_)
  · rw [DM.put_read, if_neg (by omega), DM.puts'_out _ _ _ _ (hlow 0 (by omega))]; exact h0
  · rw [DM.put_read, if_pos rfl]
  · rw [DM.put_read, if_neg (by have := slot_ge j.ring j.per n; omega), DM.puts'_out _ _ _ _ (hout n a b)]; exact hl n a b
  · rw [DM.put_read, if_neg (by omega)]
    obtain ⟨n, a', b', rfl⟩ := slot_onto (ring := j.ring) (per := j.per) hlo.1 a b
    by_cases hn : n ≤ j.L.length
    · rw [DM.puts'_out _ _ _ _ (hout n a' hn), hl n a' hn]
      exact JM.rec_sec hok n hn _ hn
    · rw [DM.puts'_in _ _ _ _ (hin n (by omega) b')]
      exact blank_sec _ (Nat.zero_le _)

/-- The same disk, by what is read of it. -/
theorem Found.same {j : JM} {m m' : DM} (h : Found j m) (hlen : m'.dur.length = m.dur.length) (hr : ∀ q, q < m.dur.length → m'.read q = m.read q) : Found j m' := by
  have hp := h.ok.pos
  have hroom := h.room
  have hsl := fun n => slot_lt j.ring j.per n (by omega)
  refine ⟨h.ok, by rw [hlen]; exact h.room, (hr 0 (by omega)).trans h.shape, (hr 1 (by omega)).trans h.state, fun n a b => (hr _ (by have := hsl n; omega)).trans (h.live n a b), fun a => ?_⟩
  rw [hr _ (by have := hsl (j.L.length + 1); omega)]
  exact h.rest a

/-- Which journal a disk tells of. -/
theorem shape_ne {r p r' p' : Nat} (hr : r < 256) (hp : p < 256) (hr' : r' < 256) (hp' : p' < 256) (h : r ≠ r' ∨ p ≠ p') (t t' : ByteArray) : packB r p t ≠ packB r' p' t' := by
  intro e
  have e1 : packL r p t.data.toList = packL r' p' t'.data.toList := by rw [← packB_list, ← packB_list, e]
  have h0 := congrArg (fun l => l[0]?) e1
  have h8 := congrArg (fun l => l[8]?) e1
  simp [packL, numB] at h0 h8
  have h0' := congrArg UInt8.toNat h0
  have h8' := congrArg UInt8.toNat h8
  simp at h0' h8'
  omega

end Go.Proofs.YthbmmbgkchiajaaGreat

/- Numbers in a sector. -/
namespace Go.Proofs.YthbmmbgkchiajaaGreat
set_option linter.unusedSimpArgs false
set_option linter.unusedVariables false
open Go.RowKit

def orI (x y : Value) : Sem Value := binOp .or 3 x y
theorem orI_eq (x y : Value) : binOp .or 3 x y = orI x y := rfl
def shlI (x y : Value) : Sem Value := binOp .shl 3 x y
theorem shlI_eq (x y : Value) : binOp .shl 3 x y = shlI x y := rfl
def shrI (x y : Value) : Sem Value := binOp .shr 3 x y
theorem shrI_eq (x y : Value) : binOp .shr 3 x y = shrI x y := rfl

theorem pow256 (j : Nat) : (2 : Nat) ^ (8 * j) = 256 ^ j := by rw [Nat.pow_mul]

theorem mod_step (n j : Nat) : n % 256 ^ (j + 1) = n % 256 ^ j + n / 256 ^ j % 256 * 256 ^ j := by
  rw [Nat.pow_succ, Nat.mod_mul, Nat.mul_comm (256 ^ j)]

theorem pow256_le (j : Nat) (h : j ≤ 7) : 256 ^ j ≤ 72057594037927936 := by
  have : (256 : Nat) ^ j ≤ 256 ^ 7 := Nat.pow_le_pow_right (by omega) h
  exact this

theorem run_shlI (W : World) (n j : Nat) (hj : j < 8) (hn : n < 9223372036854775808) : (shlI (.int .i64 ((n / 256 ^ j % 256 : Nat) : Int)) (.int .i64 (8 * (j : Int)))).run Tryz.prog W = .ok (.int .i64 ((n / 256 ^ j % 256 * 256 ^ j : Nat) : Int)) W := by
  have e : min (8 * (j : Int)).toNat IntKind.i64.bits = 8 * j := by
    show min _ 64 = _
    omega
  have hlt : n / 256 ^ j % 256 * 256 ^ j < 9223372036854775808 := by
    have h1 := mod_step n j
    have h2 := Nat.mod_le n (256 ^ (j + 1))
    omega
  unfold shlI binOp Op.shift
  simp only
  rw [if_neg (by omega), e]
  show (pure (Value.int .i64 (IntKind.i64.wrap _)) : Sem Value).run _ _ = _
  have e2 : ((n / 256 ^ j % 256 : Nat) : Int) * 2 ^ (8 * j) = ((n / 256 ^ j % 256 * 256 ^ j : Nat) : Int) := by
    rw [← pow256, Int.natCast_mul, Int.natCast_pow]; rfl
  rw [e2, IntWalk.i64_in _ ⟨by omega, by omega⟩]
  rfl

theorem run_shrI (W : World) (n j : Nat) (hj : j < 8) : (shrI (.int .i64 (n : Int)) (.int .i64 (8 * (j : Int)))).run Tryz.prog W = .ok (.int .i64 ((n / 256 ^ j : Nat) : Int)) W := by
  have e : min (8 * (j : Int)).toNat IntKind.i64.bits = 8 * j := by
    show min _ 64 = _
    omega
  unfold shrI binOp Op.shift
  simp only
  rw [if_neg (by omega), e]
  show (pure (Value.int .i64 ((n : Int).fdiv (2 ^ (8 * j)))) : Sem Value).run _ _ = _
  have e2 : (n : Int).fdiv (2 ^ (8 * j)) = ((n / 256 ^ j : Nat) : Int) := by
    have e3 : (2 : Int) ^ (8 * j) = ((256 ^ j : Nat) : Int) := by rw [← pow256, Int.natCast_pow]; rfl
    rw [e3, Int.fdiv_eq_ediv_of_nonneg _ (Int.natCast_nonneg _)]; rfl
  rw [e2]; rfl

theorem run_orI (W : World) (n j : Nat) (hn : n < 9223372036854775808) : (orI (.int .i64 ((n % 256 ^ j : Nat) : Int)) (.int .i64 ((n / 256 ^ j % 256 * 256 ^ j : Nat) : Int))).run Tryz.prog W = .ok (.int .i64 ((n % 256 ^ (j + 1) : Nat) : Int)) W := by
  have h1 := mod_step n j
  have h2 := Nat.mod_le n (256 ^ (j + 1))
  have h3 : n % 256 ^ j < 256 ^ j := Nat.mod_lt _ (Nat.pow_pos (by omega))
  have h4 : n / 256 ^ j % 256 * 256 ^ j ||| n % 256 ^ j = n % 256 ^ (j + 1) := by
    have := Nat.shiftLeft_add_eq_or_of_lt (i := 8 * j) (b := n % 256 ^ j) (by rw [pow256]; exact h3) (n / 256 ^ j % 256)
    rw [Nat.shiftLeft_eq, pow256] at this
    rw [← this, h1, Nat.add_comm]
  unfold orI binOp Op.intBits
  simp only [ne_eq, not_true_eq_false, if_false]
  show (pure (Value.int .i64 (IntKind.i64.wrap _)) : Sem Value).run _ _ = _
  have e : (BitVec.ofInt IntKind.i64.bits ((n % 256 ^ j : Nat) : Int) ||| BitVec.ofInt IntKind.i64.bits ((n / 256 ^ j % 256 * 256 ^ j : Nat) : Int)).toNat = n % 256 ^ (j + 1) := by
    show (BitVec.ofInt 64 _ ||| BitVec.ofInt 64 _).toNat = _
    rw [BitVec.toNat_or, BitVec.ofInt_natCast, BitVec.ofInt_natCast, BitVec.toNat_ofNat, BitVec.toNat_ofNat, Nat.mod_eq_of_lt (a := n % 256 ^ j) (b := 2 ^ 64) (by omega), Nat.mod_eq_of_lt (a := n / 256 ^ j % 256 * 256 ^ j) (b := 2 ^ 64) (by omega), Nat.or_comm]
    exact h4
  rw [e, IntWalk.i64_in _ ⟨by omega, by omega⟩]
  rfl

attribute [local go_sem ↓] orI_eq shlI_eq shrI_eq

/-- The bytes of a number in memory. -/
def NumAt (W : World) (b o n : Nat) : Prop := ∀ i, i < 8 → W.cell? ⟨b, o + i, none⟩ = some (.int .u8 ((n / 256 ^ i % 256 : Nat) : Int))

set_option maxRecDepth 100000 in
set_option maxHeartbeats 400000 in
theorem number_any (b o len cap n : Nat) (w : World) (hn : n < 9223372036854775808) (hlen : 8 ≤ len) (hl64 : len ≤ 64) (hN : NumAt w b o n) :
    Calls Tryz.prog 293 #[.slice (some ⟨b, o, none⟩) len cap] w fun e w' => e = .returned (.int .i64 (n : Int)) ∧ w' = w := by
  have HN := hide hN
  clear hN
  go_enter Tryz.func293, Tryz.ntmps293
  go_wp2
  go_loop [3, 5] (fun v i => ∃ j x : Nat, j ≤ 8 ∧ i = .int .i64 j ∧ v = .int .i64 (x : Int) ∧ Hid (x = n % 256 ^ j)) (fun _ i => 8 - (intOf i).toNat)
  case atStart => exact ⟨0, 0, by omega, rfl, rfl, hide (by simp [Nat.mod_one])⟩
  case round =>
    obtain ⟨j, x, hj, rfl, rfl, HX⟩ := hrel
    by_cases hlt : j < 8
    · have hcj := unhide HN j hlt
      have h1 := run_shlI w n j hlt hn
      have h2 := run_orI w n j hn
      rw [← unhide HX] at h2
      obtain ⟨y, HY⟩ : ∃ y, Hid (y = n % 256 ^ (j + 1)) := ⟨_, hide rfl⟩
      rw [← unhide HY] at h2
      generalize n / 256 ^ j % 256 * 256 ^ j = t at h1 h2
      have hc8 : n / 256 ^ j % 256 < 256 := Nat.mod_lt _ (by omega)
      generalize n / 256 ^ j % 256 = c at h1 hcj hc8
      have h0 : (0 : Int) ≤ (j : Int) := Int.natCast_nonneg _
      have hlt' : (j : Int) < (len : Int) := by omega
      go_wp2
      go_round
      case rel => exact ⟨j + 1, y, by omega, by go_num, rfl, HY⟩
      case measure => simp [intOf]; omega
    · have HJ := hide (show j = 8 by omega)
      go_wp2
      go_ret
      refine ⟨ret_int ?_, rfl⟩
      rw [unhide HX, unhide HJ, Nat.mod_eq_of_lt (by omega)]

def byteCell (n i : Nat) : Value := .int .u8 ((n / 256 ^ i % 256 : Nat) : Int)

def toU8 (x : Value) : Sem Value := convert 3 5 x
theorem toU8_eq (x : Value) : convert 3 5 x = toU8 x := rfl
theorem run_toU8 (W : World) (x : Nat) : (toU8 (.int .i64 (x : Int))).run Tryz.prog W = .ok (.int .u8 ((x % 256 : Nat) : Int)) W := by
  unfold toU8
  simp [go_sem, Tryz.underlying3, Tryz.underlying5]
  rw [IntKind.wrap_u8]
attribute [local go_sem ↓] toU8_eq

/-- Behind j stores. -/
def PutRel (b o n : Nat) (cs : Array Value) (t : TypeId) (w : World) (j : Nat) (wr : World) : Prop :=
  ∃ cs' : Array Value, wr.heap[b]? = some (.cells cs' t (0, 0)) ∧ cs'.size = cs.size ∧ (∀ k, cs'[k]? = if o ≤ k ∧ k < o + j then some (byteCell n (k - o)) else cs[k]?) ∧ Keeps (fun k => k = b) w wr

theorem PutRel.step {b o n j : Nat} {cs : Array Value} {t : TypeId} {w wr : World} (h : PutRel b o n cs t w j wr) (ho : o + j < cs.size) : PutRel b o n cs t w (j + 1) (wr.setCell ⟨b, o + j, none⟩ (byteCell n j)) := by
  obtain ⟨cs', h1, h2, h3, h4⟩ := h
  refine ⟨cs'.setIfInBounds (o + j) (byteCell n j), heap_setCell_same h1 _, by simp [h2], fun k => ?_, h4.setCell (p := ⟨b, o + j, none⟩) (.inl rfl) _⟩
  rw [Array.getElem?_setIfInBounds]
  by_cases e : o + j = k
  · subst e
    rw [if_pos rfl, if_pos (by omega), if_pos ⟨by omega, by omega⟩, Nat.add_sub_cancel_left]
  · rw [if_neg e, h3 k]
    by_cases hk : o ≤ k ∧ k < o + j
    · rw [if_pos hk, if_pos ⟨hk.1, by omega⟩]
    · rw [if_neg hk, if_neg (by omega)]

set_option maxRecDepth 100000 in
set_option maxHeartbeats 400000 in
theorem putNumber_any (b o len cap n : Nat) (cs : Array Value) (t : TypeId) (w : World) (_hn : n < 9223372036854775808) (hlen : 8 ≤ len) (hl64 : len ≤ 64) (hb : w.heap[b]? = some (.cells cs t (0, 0))) (hsz : o + 8 ≤ cs.size) :
    Calls Tryz.prog 294 #[.slice (some ⟨b, o, none⟩) len cap, .int .i64 (n : Int)] w fun e w' => e = .returned (.tuple #[]) ∧ PutRel b o n cs t w 8 w' := by
  have HR0 : Hid (PutRel b o n cs t w 0 w) := hide ⟨cs, hb, rfl, fun k => by rw [if_neg (by omega)], Keeps.refl _ _⟩
  have HSZ := hide hsz
  clear hb hsz
  go_enter Tryz.func294, Tryz.ntmps294
  go_wp2
  go_loopw [5] (fun i wr => ∃ j : Nat, j ≤ 8 ∧ i = .int .i64 j ∧ Hid (PutRel b o n cs t w j wr)) (fun i _ => 8 - (intOf i).toNat)
  case atStart => exact ⟨0, by omega, rfl, HR0⟩
  case round =>
    obtain ⟨j, hj, rfl, HR⟩ := hrel
    by_cases hlt : j < 8
    · obtain ⟨cs', q1, q2, q3, q4⟩ := unhide HR
      have hsz := unhide HSZ
      have hc : ∃ u, wr.cell? ⟨b, o + j, none⟩ = some u := ⟨cs'[o + j]'(by omega), by rw [cell_of_heap q1]; exact Array.getElem?_eq_getElem (by omega)⟩
      obtain ⟨u, hc⟩ := hc
      have hf := frozen_of_heap (o := o + j) q1
      have h1 := run_shrI wr n j hlt
      have h2 := run_toU8 wr (n / 256 ^ j)
      obtain ⟨v, HV⟩ : ∃ v, Hid (v = n / 256 ^ j % 256) := ⟨_, hide rfl⟩
      rw [← unhide HV] at h2
      generalize n / 256 ^ j = y at h1 h2
      have h0 : (0 : Int) ≤ (j : Int) := Int.natCast_nonneg _
      have hlt' : (j : Int) < (len : Int) := by omega
      clear q1 q2 q3 q4 hsz
      go_wp2
      go_roundw
      case rel =>
        refine ⟨j + 1, by omega, by go_num, hide ?_⟩
        have e : Value.int .u8 (v : Int) = byteCell n j := by rw [unhide HV]; rfl
        rw [e]
        exact (unhide HR).step (by have := unhide HSZ; omega)
      case measure => simp [intOf]; omega
    · have HJ := hide (show j = 8 by omega)
      go_wp2
      go_end0
      refine ⟨rfl, ?_⟩
      have := unhide HR
      rw [unhide HJ] at this
      exact this

theorem numB_cells (n : Nat) : (numB n).map (fun b => Value.int .u8 (b.toNat : Int)) = (List.range 8).map (byteCell n) := by
  have e : ∀ x : Nat, ((UInt8.ofNat x).toNat : Int) = ((x % 256 : Nat) : Int) := fun x => rfl
  simp only [numB, List.map_cons, List.map_nil, e, show List.range 8 = [0, 1, 2, 3, 4, 5, 6, 7] from rfl, byteCell]
  simp

theorem PutRel.list {b o n : Nat} {cs : Array Value} {t : TypeId} {w wr : World} (h : PutRel b o n cs t w 8 wr) (ho : o + 8 ≤ cs.size) :
    wr.heap[b]? = some (.cells (cs.toList.take o ++ (List.range 8).map (byteCell n) ++ cs.toList.drop (o + 8)).toArray t (0, 0)) ∧ Keeps (fun k => k = b) w wr := by
  obtain ⟨cs', h1, h2, h3, h4⟩ := h
  refine ⟨?_, h4⟩
  rw [h1]
  congr 2
  apply Array.ext_getElem?
  intro k
  have key : ∀ l : List Value, l.toArray[k]? = l[k]? := fun l => by simp
  rw [h3 k, key (cs.toList.take o ++ (List.range 8).map (byteCell n) ++ cs.toList.drop (o + 8))]
  have ht : (cs.toList.take o).length = o := by simp; omega
  by_cases h0 : k < o
  · rw [if_neg (by omega), List.append_assoc, List.getElem?_append_left (by omega), List.getElem?_take, if_pos h0]; simp
  · by_cases h8 : k < o + 8
    · rw [if_pos ⟨by omega, h8⟩, List.append_assoc, List.getElem?_append_right (by omega), ht, List.getElem?_append_left (by simp; omega), List.getElem?_map, List.getElem?_range (by omega)]; rfl
    · rw [if_neg (by omega), List.append_assoc, List.getElem?_append_right (by omega), ht, List.getElem?_append_right (by simp; omega), List.length_map, List.length_range, List.getElem?_drop]
      simp only [Array.getElem?_toList]
      congr 1; omega

end Go.Proofs.YthbmmbgkchiajaaGreat

/- pack, unpack, shape: a sector of a journal. -/
namespace Go.Proofs.YthbmmbgkchiajaaGreat
set_option linter.unusedSimpArgs false
set_option linter.unusedVariables false
open Go.RowKit

/-- A slice that holds these bytes. -/
def Bytes (S : Nat → Prop) (w : World) (v : Value) (s : ByteArray) : Prop :=
  ∃ ao cap, v = .slice ao s.size cap ∧ s.size ≤ cap ∧ (ao = none → s.size = 0) ∧ ∀ a, ao = some a → ∃ g o, a = ⟨g, o, none⟩ ∧ g < w.heap.size ∧ S g ∧ w.rangeAt g o (bcells s)

theorem Bytes.keep {S T : Nat → Prop} {w w' : World} {v : Value} {s : ByteArray} (h : Bytes S w v s) (hk : Keeps T w w') (hd : ∀ k, k < w.heap.size → S k → ¬ T k) : Bytes S w' v s := by
  obtain ⟨ao, cap, h1, h2, h3, h4⟩ := h
  refine ⟨ao, cap, h1, h2, h3, fun a ha => ?_⟩
  obtain ⟨g, o, e, e1, e2, e3⟩ := h4 a ha
  exact ⟨g, o, e, Nat.lt_of_lt_of_le e1 hk.size, e2, hk.range e3 e1 (hd g e1 e2)⟩
theorem Bytes.mono {S T : Nat → Prop} {w : World} {v : Value} {s : ByteArray} (h : Bytes S w v s) (hs : ∀ k, k < w.heap.size → S k → T k) : Bytes T w v s := by
  obtain ⟨ao, cap, h1, h2, h3, h4⟩ := h
  refine ⟨ao, cap, h1, h2, h3, fun a ha => ?_⟩
  obtain ⟨g, o, e, e1, e2, e3⟩ := h4 a ha
  exact ⟨g, o, e, e1, hs g e1 e2, e3⟩
theorem Bytes.nil (S : Nat → Prop) (w : World) : Bytes S w (.slice none 0 0) ByteArray.empty := ⟨none, 0, rfl, Nat.le_refl _, fun _ => rfl, fun a h => by cases h⟩
theorem Bytes.row {S : Nat → Prop} {w : World} {g cap o n : Nat} {cs : Array Value} {t : TypeId} {fr : Nat × Nat} {s : ByteArray} (hg : w.heap[g]? = some (.cells cs t fr)) (hS : S g) (hn : s.size = n) (hc : n ≤ cap) (hr : ∀ j, j < (bcells s).length → cs[o + j]? = (bcells s)[j]?) : Bytes S w (.slice (some ⟨g, o, none⟩) n cap) s := by
  subst hn
  refine ⟨some ⟨g, o, none⟩, cap, rfl, hc, (fun h => by cases h), fun a ha => ?_⟩
  cases ha
  refine ⟨g, o, rfl, lt_of_heap hg, hS, fun j v hj => ?_⟩
  rw [cell_of_heap hg, hr j ((List.getElem?_eq_some_iff.1 hj).1)]
  exact hj

def byCopy (args : Array Value) : Sem Value := Builtin.copy_ #[138, 138] 3 args
theorem byCopy_eq (args : Array Value) : Builtin.copy_ #[138, 138] 3 args = byCopy args := rfl

theorem setRow_heap' {w : World} {g : Nat} {cur cs : Array Value} {t : TypeId} {fr : Nat × Nat} (h : w.heap[g]? = some (.cells cur t fr)) : (w.setRow g cs).heap[g]? = some (.cells cs t fr) := setRow_heap w g cur cs t fr h
theorem Keeps.setRow {S : Nat → Prop} {a w : World} (h : Keeps S a w) {g : Nat} (hp : S g ∨ a.heap.size ≤ g) (cs : Array Value) : Keeps S a (w.setRow g cs) :=
  h.trans (T := fun k => k = g) ⟨rfl, rfl, rfl, by simp [World.setRow], fun k _ hn => by simp [World.setRow, Array.getElem?_modify, Ne.symm hn]⟩
    (fun i hi e => by subst e; rcases hp with hp | hp; exact hp; exact absurd hi (by omega))

theorem run_byCopy (W : World) (g : Nat) (cur : Array Value) (t : TypeId) (s : ByteArray) (v : Value) (S : Nat → Prop) (hb : Bytes S W v s) (hg : W.heap[g]? = some (.cells cur t (0, 0))) (h64 : cur.size = 64) (hs : s.size ≤ 40) :
    ∃ W', (byCopy #[.slice (some ⟨g, 17, none⟩) 47 47, v]).run Tryz.prog W = .ok (.int .i64 (s.size : Int)) W' ∧ Hid (W'.heap[g]? = some (.cells (cur.toList.take 17 ++ bcells s ++ cur.toList.drop (17 + s.size)).toArray t (0, 0)) ∧ Keeps (fun k => k = g) W W') := by
  obtain ⟨ao, cap, rfl, h2, h3, h4⟩ := hb
  have hu := Tryz.underlying138
  have hsz : (Tryz.prog.info? 5).map (·.size) = some 1 := by kernel_rfl
  by_cases h0 : s.size = 0
  · refine ⟨W, ?_, hide ⟨?_, Keeps.refl _ _⟩⟩
    · have := run_copy_none (P := Tryz.prog) W 138 138 3 5 (some ⟨g, 17, none⟩) ao 47 47 s.size cap hu hsz (by rw [h0]; rfl)
      unfold byCopy
      rw [this, h0]; rfl
    · have e : bcells s = [] := List.length_eq_zero_iff.1 (by rw [bcells_length]; exact h0)
      rw [e, h0, List.append_nil, Nat.add_zero, List.take_append_drop]
      exact hg
  · cases ao with
    | none => exact absurd (h3 rfl) h0
    | some a =>
      obtain ⟨g', o, rfl, e1, e2, e3⟩ := h4 a rfl
      have hl := bcells_length s
      have := run_copy_row (P := Tryz.prog) W 138 138 3 5 g 17 47 47 ⟨g', o, none⟩ s.size cap cur t (bcells s) hu hsz hg (by rw [hl]; exact (Nat.min_eq_left (by omega)).symm)
        (fun j v hj => by
          have hadd : (⟨g', o, none⟩ : Addr).add j = ⟨g', o + j, none⟩ := by unfold Addr.add; split <;> simp_all
          rw [hadd]; exact e3 j v hj) (by omega) (bcells_one s)
      rw [hl] at this
      exact ⟨_, this, hide ⟨setRow_heap' hg, (Keeps.refl (fun k => k = g) W).setRow (.inl rfl) _⟩⟩

theorem bcells_pack (a b : Nat) (t : ByteArray) (ht : t.size ≤ 40) : bcells (packB a b t) = (List.range 8).map (byteCell a) ++ (List.range 8).map (byteCell b) ++ Value.int .u8 (t.size : Int) :: bcells t ++ List.replicate (47 - t.size) (.int .u8 0) := by
  have e : ((UInt8.ofNat t.size).toNat : Int) = (t.size : Int) := by
    show ((t.size % 256 : Nat) : Int) = _
    rw [Nat.mod_eq_of_lt (by omega)]
  unfold bcells
  rw [packB_list]
  simp only [packL, List.map_append, numB_cells, List.map_cons, List.map_replicate, Array.length_toList]
  have e' : t.data.size = t.size := rfl
  rw [e', e]
  rfl

theorem pack_cells (A B T : List Value) (x z : Value) (hA : A.length = 8) (hB : B.length = 8) (n : Nat) (hT : T.length = n) (hn : n ≤ 40) (c1 c2 c3 : Array Value)
    (h1 : c1 = ((List.replicate 64 z).take 0 ++ A ++ (List.replicate 64 z).drop (0 + 8)).toArray) (h2 : c2 = (c1.toList.take 8 ++ B ++ c1.toList.drop (8 + 8)).toArray) (h3 : c3 = c2.setIfInBounds 16 x) :
    c3.toList.take 17 ++ T ++ c3.toList.drop (17 + n) = A ++ B ++ x :: T ++ List.replicate (47 - n) z := by
  have e1 : c1.toList = A ++ List.replicate 56 z := by rw [h1]; show List.take 0 _ ++ A ++ _ = _; rw [List.take_zero, List.nil_append, List.drop_replicate]
  have e2 : c2.toList = A ++ B ++ List.replicate 48 z := by
    rw [h2, e1]
    show List.take 8 (A ++ _) ++ B ++ _ = _
    rw [List.take_left' hA, List.drop_append, List.drop_of_length_le (by omega), hA, List.nil_append, List.drop_replicate]
  have hAB : (A ++ B).length = 16 := by rw [List.length_append, hA, hB]
  have e3 : c3.toList = A ++ B ++ x :: List.replicate 47 z := by
    rw [h3, Array.toList_setIfInBounds, e2, List.set_append_right _ _ (by omega), hAB, Nat.sub_self, List.replicate_succ, List.set_cons_zero]
  have e17 : 17 + n - 16 = n + 1 := by omega
  rw [e3, List.take_append, List.drop_append, hAB, List.take_of_length_le (by omega), List.drop_of_length_le (by omega), e17, List.drop_succ_cons, List.drop_replicate, List.nil_append]
  show A ++ B ++ List.take 1 (x :: _) ++ T ++ _ = _
  rw [List.take_succ_cons, List.take_zero]
  simp only [List.append_assoc, List.cons_append, List.nil_append]

theorem PutRel.out {b o n : Nat} {cs : Array Value} {t : TypeId} {w wr : World} (h : PutRel b o n cs t w 8 wr) (ho : o + 8 ≤ cs.size) :
    ∃ cs' : Array Value, Hid (cs' = (cs.toList.take o ++ (List.range 8).map (byteCell n) ++ cs.toList.drop (o + 8)).toArray) ∧ Hid (cs'.size = cs.size) ∧ Hid (wr.heap[b]? = some (.cells cs' t (0, 0))) ∧ Hid (Keeps (fun k => k = b) w wr) := by
  obtain ⟨h1, h2⟩ := h.list ho
  obtain ⟨cs', g1, g2, _, _⟩ := h
  rw [g1] at h1
  simp only [Option.some.injEq, Obj.cells.injEq] at h1
  exact ⟨cs', hide h1.1, hide g2, hide g1, hide h2⟩

attribute [local go_sem ↓] byCopy_eq

set_option maxRecDepth 100000 in
set_option maxHeartbeats 200000 in
theorem pack_any (S : Nat → Prop) (a b : Nat) (v : Value) (t : ByteArray) (w : World) (ha : a < 9223372036854775808) (hb : b < 9223372036854775808) (ht : t.size ≤ 40) (hv : Bytes S w v t) :
    Calls Tryz.prog 258 #[.int .i64 (a : Int), .int .i64 (b : Int), v] w fun e w' => e = .returned (.slice (some ⟨w.heap.size, 0, none⟩) 64 64) ∧ w'.heap[w.heap.size]? = some (.cells (bcells (packB a b t)).toArray 5 (0, 0)) ∧ Keeps (fun _ => False) w w' := by
  have HV := hide hv
  obtain ⟨ao, cap, hv', hcap, _⟩ := hv
  subst hv'
  rename_i hx; clear hx
  have hmk := run_make64
  have hkA : Keeps (fun _ => False) w (w.alloc (.cells zrow 5)) := (Keeps.refl _ _).alloc _
  have HA := hide hkA
  have HG := hide (heap_alloc_last w (.cells zrow 5))
  clear hkA
  have HT := hide ht
  go_enter Tryz.func258, Tryz.ntmps258
  go_wp2_with fail
  go_at_call 294
  refine (putNumber_any w.heap.size 0 64 64 a zrow 5 _ ha (by omega) (by omega) (unhide HG) (by rw [zrow_size]; omega)).mono ?_
  rintro e w2 ⟨rfl, hR1⟩
  obtain ⟨c1, HC1, HS1, HG1, HK1⟩ := hR1.out (by rw [zrow_size]; omega)
  clear hR1
  go_wp2_with fail
  go_at_call 294
  refine (putNumber_any w.heap.size 8 56 56 b c1 5 _ hb (by omega) (by omega) (unhide HG1) (by rw [unhide HS1, zrow_size]; omega)).mono ?_
  rintro e w3 ⟨rfl, hR2⟩
  obtain ⟨c2, HC2, HS2, HG2, HK2⟩ := hR2.out (by rw [unhide HS1, zrow_size]; omega)
  clear hR2
  have hc16 : ∃ u, w3.cell? ⟨w.heap.size, 16, none⟩ = some u := ⟨c2[16]'(by rw [unhide HS2, unhide HS1, zrow_size]; omega), by rw [cell_of_heap (unhide HG2)]; exact Array.getElem?_eq_getElem _⟩
  obtain ⟨u16, hc16⟩ := hc16
  have hf16 := frozen_of_heap (o := 16) (unhide HG2)
  have hKK : Keeps (fun k => k = w.heap.size) w (w3.setCell ⟨w.heap.size, 16, none⟩ (.int .u8 (t.size : Int))) := ((((unhide HA).mono (T := fun k => k = w.heap.size) (fun _ _ f => f.elim)).trans (unhide HK1) (fun _ _ e => e)).trans (unhide HK2) (fun _ _ e => e)).setCell (p := ⟨w.heap.size, 16, none⟩) (.inl rfl) _
  obtain ⟨w4, hcopy, HW4⟩ := run_byCopy (w3.setCell ⟨w.heap.size, 16, none⟩ (.int .u8 (t.size : Int))) w.heap.size (c2.setIfInBounds 16 (.int .u8 (t.size : Int))) 5 t _ S ((unhide HV).keep hKK (fun k hk _ e => by omega)) (heap_setCell_same (unhide HG2) _) (by rw [Array.size_setIfInBounds, unhide HS2, unhide HS1]; exact zrow_size) (unhide HT)
  have HKK := hide hKK
  clear hKK
  go_wp2
  go_ret
  obtain ⟨q1, q2⟩ := unhide HW4
  refine ⟨rfl, ?_, ?_⟩
  · rw [q1, bcells_pack a b t ht]
    have := pack_cells ((List.range 8).map (byteCell a)) ((List.range 8).map (byteCell b)) (bcells t) (.int .u8 (t.size : Int)) (.int .u8 0) (by simp) (by simp) t.size (bcells_length t) ht c1 c2 _ (by rw [unhide HC1, show zrow.toList = List.replicate 64 (.int .u8 0) from by unfold zrow; rw [Array.toList_replicate]]) (unhide HC2) rfl
    rw [this]
  · refine ((unhide HKK).trans (S := fun k => k = w.heap.size) q2 (fun _ _ e => e)).mono (fun k hk e => ?_)
    omega

/-- A sector's parts, in memory. -/
theorem sec_parts {w : World} {g : Nat} {fr : Nat × Nat} {ty : TypeId} {a b : Nat} {t : ByteArray} (ht : t.size ≤ 40) (hg : w.heap[g]? = some (.cells (bcells (packB a b t)).toArray ty fr)) :
    NumAt w g 0 a ∧ NumAt w g 8 b ∧ w.cell? ⟨g, 16, none⟩ = some (.int .u8 (t.size : Int)) ∧ ∀ j, j < (bcells t).length → (bcells (packB a b t)).toArray[17 + j]? = (bcells t)[j]? := by
  have hb := bcells_pack a b t ht
  have hc : ∀ k, w.cell? ⟨g, k, none⟩ = (bcells (packB a b t))[k]? := fun k => by rw [cell_of_heap hg]; simp
  have l8 : ∀ n, ((List.range 8).map (byteCell n)).length = 8 := fun n => by simp
  refine ⟨fun i hi => ?_, fun i hi => ?_, ?_, fun j hj => ?_⟩
  · rw [Nat.zero_add, hc, hb, List.append_assoc, List.append_assoc, List.getElem?_append_left (by rw [l8]; exact hi), List.getElem?_map, List.getElem?_range hi]; rfl
  · rw [hc, hb, List.append_assoc, List.append_assoc, List.getElem?_append_right (by rw [l8]; omega), l8, List.getElem?_append_left (by rw [l8]; omega), List.getElem?_map, Nat.add_sub_cancel_left, List.getElem?_range hi]; rfl
  · rw [hc, hb, List.append_assoc, List.append_assoc, List.getElem?_append_right (by rw [l8]; omega), l8, List.getElem?_append_right (by rw [l8]; omega), l8]; rfl
  · have e : (bcells (packB a b t)).toArray[17 + j]? = (bcells (packB a b t))[17 + j]? := by simp
    rw [e, hb, List.append_assoc, List.append_assoc, List.getElem?_append_right (by rw [l8]; omega), l8, List.getElem?_append_right (by rw [l8]; omega), l8, show 17 + j - 8 - 8 = j + 1 by omega, List.cons_append, List.getElem?_cons_succ, List.getElem?_append_left hj]

set_option maxRecDepth 100000 in
set_option maxHeartbeats 200000 in
theorem unpack_any (g a b : Nat) (t : ByteArray) (ty : TypeId) (w : World) (ha : a < 9223372036854775808) (hb : b < 9223372036854775808) (ht : t.size ≤ 40) (hg : w.heap[g]? = some (.cells (bcells (packB a b t)).toArray ty (0, 0))) :
    Calls Tryz.prog 251 #[.slice (some ⟨g, 0, none⟩) 64 64] w fun e w' => e = .returned (.tuple #[.int .i64 (a : Int), .int .i64 (b : Int), .slice (some ⟨g, 17, none⟩) t.size 47]) ∧ Keeps (fun _ => False) w w' := by
  obtain ⟨n0, n8, h16, hx⟩ := sec_parts ht hg
  clear hx
  have H0 := hide n0
  have H8 := hide n8
  have hmin : min (t.size : Int) 40 = (t.size : Int) := by omega
  clear n0 n8 hg
  go_enter Tryz.func251, Tryz.ntmps251
  go_wp2_with fail
  go_quiet (first | (go_at_call_of 293 (Value.slice (some ⟨g, 0, none⟩) 64 64); exact Calls.quiet_of_same (number_any g 0 64 64 a _ ha (by omega) (by omega) (unhide H0))) | (go_at_call_of 293 (Value.slice (some ⟨g, 8, none⟩) 56 56); exact Calls.quiet_of_same (number_any g 8 56 56 b _ hb (by omega) (by omega) (unhide H8))))
  all_goals
    go_wp2
    go_ret3
    refine ⟨?_, (Keeps.refl _ w).drewN _⟩
    have e : 17 + t.size - 17 = t.size := by omega
    show Ending.returned (.tuple #[.int .i64 (a : Int), .int .i64 (b : Int), .slice (some ⟨g, 17, none⟩) (17 + t.size - 17) 47]) = _
    rw [e]

end Go.Proofs.YthbmmbgkchiajaaGreat

/- Small functions of a journal: copies of bytes, their comparison, the shape; does a disk fit; which segment, which sector. -/
namespace Go.Proofs.YthbmmbgkchiajaaGreat
set_option linter.unusedSimpArgs false
set_option linter.unusedVariables false
open Go.RowKit

theorem run_nilBy (W : World) (a : Option Addr) (n c : Nat) : (binOp .eql 138 (.slice a n c) (.slice none 0 0)).run Tryz.prog W = .ok (.bool a.isNone) W := Lib.run_eql_slice_nil W 138 5 a n c 0 0 Tryz.underlying138

/-- string(b) -/
def strOf (x : Value) : Sem Value := convert 138 9 x
theorem strOf_eq (x : Value) : convert 138 9 x = strOf x := rfl
theorem run_strOf (S : Nat → Prop) (W : World) (v : Value) (s : ByteArray) (h : Bytes S W v s) : (strOf v).run Tryz.prog W = .ok (.string s) W := by
  obtain ⟨ao, cap, rfl, h2, h3, h4⟩ := h
  cases ao with
  | none =>
    have h0 := h3 rfl
    have e : s = ByteArray.empty := by
      apply ByteArray.ext
      apply Array.eq_empty_of_size_eq_zero
      exact h0
    unfold strOf
    rw [run_convert_bytes_string W 138 9 5 none s.size cap Tryz.underlying138 Tryz.underlying5 Tryz.underlying9]
    rw [e]
    rfl
  | some a =>
    obtain ⟨g, o, rfl, e1, e2, e3⟩ := h4 a rfl
    have := run_convert_bytes_back (P := Tryz.prog) W 138 9 5 ⟨g, o, none⟩ cap s.data.toList Tryz.underlying138 Tryz.underlying5 Tryz.underlying9 (fun j hj => by
      have hadd : (⟨g, o, none⟩ : Addr).add j = ⟨g, o + j, none⟩ := by unfold Addr.add; split <;> simp_all
      rw [hadd]
      refine e3 j _ ?_
      unfold bcells
      rw [List.getElem?_map, List.getElem?_eq_getElem hj]; rfl)
    exact this

def byApp (args : Array Value) : Sem Value := Builtin.append_ #[138, 138] 138 args
theorem byApp_eq (args : Array Value) : Builtin.append_ #[138, 138] 138 args = byApp args := rfl
def byBuild0 : Sem Value := Instr.buildSlice 138 0 #[]
theorem byBuild0_eq : Instr.buildSlice 138 0 #[] = byBuild0 := rfl
theorem run_byBuild0 (W : World) : byBuild0.run Tryz.prog W = .ok (.slice (some ⟨W.heap.size, 0, none⟩) 0 0) (W.alloc (.cells #[] 5)) := by
  have hsz : ∀ W', (sizeOf 5).run Tryz.prog W' = .ok 1 W' := fun W' => run_sizeOf W' (by kernel_rfl)
  unfold byBuild0 Instr.buildSlice
  simp [run_underlying Tryz.underlying138, hsz, newRow, Instr.fill]
  have e : Array.range 0 = #[] := Array.eq_empty_of_size_eq_zero (by simp)
  rw [e, Array.map_empty]

theorem run_clone (S : Nat → Prop) (W : World) (ao : Addr) (cap : Nat) (s : ByteArray) (h : Bytes S W (.slice (some ao) s.size cap) s) (hs : s.size ≤ 40) :
    ∃ v' W', (byApp #[.slice (some ⟨W.heap.size, 0, none⟩) 0 0, .slice (some ao) s.size cap]).run Tryz.prog (W.alloc (.cells #[] 5)) = .ok v' W' ∧ Hid (Bytes (fun k => W.heap.size ≤ k) W' v' s ∧ Keeps (fun _ => False) W W') := by
  obtain ⟨iB, hiB, hz0, hz1, hz2⟩ := info_parts infoU8
  have hkA : Keeps (fun _ => False) W (W.alloc (.cells #[] 5)) := (Keeps.refl _ _).alloc _
  obtain ⟨ao', cap', hv, h2, h3, h4⟩ := h.keep hkA (fun _ _ _ f => f)
  cases hv
  obtain ⟨g, o, rfl, e1, e2, e3⟩ := h4 _ rfl
  have hown : (W.alloc (.cells #[] 5)).ownsRow 0 5 1 (.slice (some ⟨W.heap.size, 0, none⟩) 0 0) 0 [] := ⟨rfl, .inr ⟨W.heap.size, 0, #[], rfl, Nat.zero_le _, heap_alloc_last W _, Nat.le_refl _, Nat.zero_le _, rfl, rfl⟩⟩
  obtain ⟨v', W', r0, r1, r2, _, r4⟩ := run_append_own_at (P := Tryz.prog) (W.alloc (.cells #[] 5)) 0 138 138 5 iB _ 1 1 Tryz.underlying138 hiB hz0 hz1 hz2 rfl (by omega) (.slice (some ⟨W.heap.size, 0, none⟩) 0 0) 0 [] hown ⟨g, o, none⟩ s.size cap (bcells s) (by rw [bcells_length]; omega)
    (fun j u hj => by
      have hadd : (⟨g, o, none⟩ : Addr).add j = ⟨g, o + j, none⟩ := by unfold Addr.add; split <;> simp_all
      rw [hadd]; exact e3 j u hj) (bcells_one s) (by unfold maxLen; omega) (by omega) (Nat.zero_le _)
  refine ⟨v', W', r0, hide ⟨?_, ?_⟩⟩
  · rcases r1.2 with ⟨rfl, h0⟩ | ⟨g', c', cur, rfl, _, hg', hc', _, hsz, ht⟩
    · have e0 : s.size = 0 := by omega
      refine ⟨none, 0, by rw [e0], by omega, fun _ => e0, fun a ha => by cases ha⟩
    · refine Bytes.row hg' ?_ (by omega) hc' (fun j hj => ?_)
      · have : g' = W.heap.size ∨ g' = W.heap.size + 1 := by
          rcases r4 with r4 | r4
          · exact .inl (by simpa [Value.ownBlock] using r4)
          · exact .inr (by simpa [Value.ownBlock] using r4)
        show W.heap.size ≤ g'
        omega
      · have := congrArg (fun l => l[j]?) ht
        simp only [List.nil_append, Nat.mul_one] at this
        rw [List.getElem?_take, if_pos (by rw [bcells_length] at hj; omega)] at this
        rw [Nat.zero_add, ← this]; simp
  · exact (hkA.mono (T := fun k => k = W.heap.size) (fun _ _ f => f.elim)).grown r2 (fun k hk _ => by simpa [Value.ownBlock] using hk.symm) |>.mono (fun k hk e => by omega)

/-- A product of two numbers, by a name of its own. -/
def mulI (x y : Value) : Sem Value := binOp .mul 3 x y
theorem mulI_eq (x y : Value) : binOp .mul 3 x y = mulI x y := rfl
theorem run_mulI (W : World) (a b : Nat) (h : a * b ≤ 9223372036854775807) : (mulI (.int .i64 (a : Int)) (.int .i64 (b : Int))).run Tryz.prog W = .ok (.int .i64 ((a * b : Nat) : Int)) W := by
  unfold mulI
  have e : (a : Int) * (b : Int) = ((a * b : Nat) : Int) := rfl
  simp only [binOp_mul, Op.intArith]
  rw [e, IntWalk.i64_in _ ⟨by generalize a * b = z at *; omega, by generalize a * b = z at *; omega⟩]
  rfl

attribute [local go_sem ↓] byApp_eq byBuild0_eq strOf_eq mulI_eq
attribute [local go_sem] run_byBuild0

set_option maxRecDepth 100000 in
set_option maxHeartbeats 200000 in
theorem bClone_any (S : Nat → Prop) (v : Value) (s : ByteArray) (w : World) (h : Bytes S w v s) (hs : s.size ≤ 40) :
    Calls Tryz.prog 261 #[v] w fun e w' => ∃ v', e = .returned v' ∧ Bytes (fun k => w.heap.size ≤ k) w' v' s ∧ Keeps (fun _ => False) w w' := by
  have h' := h
  obtain ⟨ao, cap, rfl, h2, h3, h4⟩ := h'
  have hnil := fun W => run_nilBy W ao s.size cap
  cases ao with
  | none =>
    have HS := hide (h3 rfl)
    clear h3 h4 h
    go_enter Tryz.func261, Tryz.ntmps261
    go_wp2
    go_ret
    exact ⟨.slice none 0 0, rfl, ⟨none, 0, by rw [unhide HS], by rw [unhide HS]; omega, fun _ => unhide HS, fun a ha => by cases ha⟩, Keeps.refl _ _⟩
  | some a =>
    obtain ⟨v', W', hr, HR⟩ := run_clone S w a cap s h hs
    clear h3 h4 h
    go_enter Tryz.func261, Tryz.ntmps261
    go_wp2
    go_ret
    exact ⟨_, rfl, (unhide HR).1, (unhide HR).2⟩

theorem str_eq (s s' : ByteArray) : (s.toList == s'.toList) = decide (s = s') := by
  rw [Bool.eq_iff_iff, beq_iff_eq, decide_eq_true_eq]
  constructor
  · intro h
    rw [ByteArray.toList_eq, ByteArray.toList_eq] at h
    exact WideShapes.bytes_inj h
  · intro h; rw [h]

set_option maxRecDepth 100000 in
set_option maxHeartbeats 200000 in
theorem bEqual_any (S T : Nat → Prop) (v v' : Value) (s s' : ByteArray) (w : World) (h : Bytes S w v s) (h' : Bytes T w v' s') :
    Calls Tryz.prog 252 #[v, v'] w fun e w' => e = .returned (.bool (decide (s = s'))) ∧ w' = w := by
  have h1 := run_strOf S w v s h
  have h2 := run_strOf T w v' s' h'
  clear h h'
  go_enter Tryz.func252, Tryz.ntmps252
  go_wp2
  go_ret
  exact ⟨ret_bool (str_eq s s'), rfl⟩

set_option maxRecDepth 100000 in
set_option maxHeartbeats 200000 in
theorem segment_any (pj per n : Nat) (w : World) (h : w.cell? ⟨pj, 2, none⟩ = some (.int .i64 (per : Int))) (hp : 1 ≤ per) (hp' : per ≤ 16) (hn : 1 ≤ n) (hn' : n < 9223372036854775807) :
    Calls Tryz.prog 256 #[.pointer (some ⟨pj, 0, none⟩), .int .i64 (n : Int)] w fun e w' => e = .returned (.int .i64 (((n - 1) / per : Nat) : Int)) ∧ w' = w := by
  obtain ⟨k, rfl⟩ : ∃ k, n = k + 1 := ⟨n - 1, by omega⟩
  obtain ⟨q, HQ⟩ : ∃ q : Nat, Hid (q = k / per) := ⟨_, hide rfl⟩
  rw [Nat.add_sub_cancel, ← unhide HQ]
  go_enter Tryz.func256, Tryz.ntmps256
  go_wp2
  go_ret
  refine ⟨ret_int ?_, rfl⟩
  have e : (k : Int) / (per : Int) = ((k / per : Nat) : Int) := rfl
  have e2 := Nat.div_le_self k per
  rw [unhide HQ, e, IntWalk.wrap64_in _ ⟨by generalize k / per = z at *; omega, by generalize k / per = z at *; omega⟩]

set_option maxRecDepth 100000 in
set_option maxHeartbeats 200000 in
theorem jsector_any (pj ring per n : Nat) (w : World) (h1 : w.cell? ⟨pj, 1, none⟩ = some (.int .i64 (ring : Int))) (h2 : w.cell? ⟨pj, 2, none⟩ = some (.int .i64 (per : Int))) (hC : 1 ≤ ring * per ∧ ring * per ≤ 96) (hn : 1 ≤ n) (hn' : n < 9223372036854775807) :
    Calls Tryz.prog 257 #[.pointer (some ⟨pj, 0, none⟩), .int .i64 (n : Int)] w fun e w' => e = .returned (.int .i64 ((slot ring per n : Nat) : Int)) ∧ Keeps (fun _ => False) w w' := by
  obtain ⟨k, rfl⟩ : ∃ k, n = k + 1 := ⟨n - 1, by omega⟩
  obtain ⟨C, HQ⟩ : ∃ q : Nat, Hid (q = ring * per) := ⟨_, hide rfl⟩
  have hmul := fun W => run_mulI W ring per (by omega)
  unfold slot
  rw [← unhide HQ] at hmul hC ⊢
  have hm0 : (0 : Int) ≤ (k : Int) % (C : Int) := Int.emod_nonneg _ (by omega)
  have hm1 : (k : Int) % (C : Int) < (C : Int) := Int.emod_lt_of_pos _ (by omega)
  go_enter Tryz.func257, Tryz.ntmps257
  go_wp2
  go_quiet (fail)
  go_wp2
  go_ret
  refine ⟨ret_int ?_, (Keeps.refl _ w).drewN _⟩
  rw [Nat.add_sub_cancel]
  rfl

end Go.Proofs.YthbmmbgkchiajaaGreat
