
/- Sync, of the program. -/
import Derived.Test.YthbmmbgkchiajaaGreatArrays

namespace Go.Proofs.YthbmmbgkchiajaaGreat
open Go.RowKit

/-- A write as a variable: load, new, store, under names of their own. -/
def zwrite : Array Value := Array.replicate 1 (.int .i64 0) ++ Array.replicate 64 (.int .u8 0)
theorem zwrite_size : zwrite.size = 65 := by unfold zwrite; rw [Array.size_append, Array.size_replicate, Array.size_replicate]
theorem sizeWrite : (Tryz.prog.info? 307).map (·.size) = some 65 := by kernel_rfl
def wrLoad (x : Value) : Sem Value := Instr.loadAt 307 x
theorem wrLoad_eq (x : Value) : Instr.loadAt 307 x = wrLoad x := rfl
theorem run_wrLoad (W : World) (b o : Nat) (cs : List Value) (hr : W.rangeAt b o cs) (hl : cs.length = 65) : (wrLoad (.pointer (some ⟨b, o, none⟩))).run Tryz.prog W = .ok (.agg cs.toArray) W :=
  run_loadAt_mid W b o 307 cs _ hr Tryz.underlying307 rfl (by rw [hl]; exact sizeWrite)
def wrAlloc (h : Bool) (x : Value) : Sem Value := Instr.alloc 307 h x
theorem wrAlloc_eq (h : Bool) (x : Value) : Instr.alloc 307 h x = wrAlloc h x := rfl
theorem run_wrAlloc (W : World) : (wrAlloc true (.tuple #[])).run Tryz.prog W = .ok (.pointer (some ⟨W.heap.size, 0, none⟩)) (W.alloc (.cells zwrite 307)) := by
  obtain ⟨i0, hi, hz0, hz1, hz2⟩ := info_parts infoWrite
  have hz : i0.zero = some (.agg zwrite) := hz0
  simp [wrAlloc, Instr.alloc, zeroValue, typeInfo, hi, hz, newVar, newRow, Value.cells]
def wrStore (x v : Value) : Sem Unit := Instr.storeAt 307 x v
theorem wrStore_eq (x v : Value) : Instr.storeAt 307 x v = wrStore x v := rfl
theorem run_wrStore (W : World) (c c' : Array Value) (hc : c.size = 65) (hc' : c'.size = 65) (h1 : c'.all (·.oneCell') = true) : (wrStore (.pointer (some ⟨W.heap.size, 0, none⟩)) (.agg c')).run Tryz.prog (W.alloc (.cells c 307)) = .ok () (W.alloc (.cells c' 307)) :=
  run_storeAt_new W 307 c c' (by rw [hc']; exact sizeWrite) (by omega) h1
attribute [local go_sem ↓] wrLoad_eq wrAlloc_eq wrStore_eq
attribute [local go_sem] run_wrAlloc

/-- Behind k rounds: the sectors hold what the first k writes left; all else of the disk stands. -/
def SyncRel (S : Nat → Prop) (w : World) (p g cap : Nat) (vp : Value) (m : DM) (keep : Nat → Bool) (k : Nat) (wr : World) : Prop :=
  wr.heap[p]? = some (.cells #[.slice (some ⟨g, 0, none⟩) m.dur.length cap, vp, .int .i64 (m.syncs : Int)] 232 (0, 0)) ∧
  Own (fun k => S k ∧ k ≠ p) wr 305 64 (.slice (some ⟨g, 0, none⟩) m.dur.length cap) m.dur.length (durCells (durTo m.dur m.puts keep k)) ∧
  Own (fun k => S k ∧ k ≠ p ∧ g ≠ k) wr 307 65 vp m.puts.length (putCells m.puts) ∧ Keeps (fun k => k = g) w wr

/-- What the round's one store reads: the disk's first field, the write's place and bytes; where it writes. -/
def SyncS (p g n cap B : Nat) (x : Nat × ByteArray) (w : World) : Prop :=
  w.cell? ⟨p, 0, none⟩ = some (.slice (some ⟨g, 0, none⟩) n cap) ∧ w.cell? ⟨B, 0, none⟩ = some (.int .i64 (x.1 : Int)) ∧ w.rangeAt B 1 (bcells x.2) ∧ w.there g (x.1 * 64) 64

theorem sync_facts {S : Nat → Prop} {wr : World} {p g n cap y : Nat} {vp : Value} {l : List ByteArray} (q1 : wr.heap[p]? = some (.cells #[.slice (some ⟨g, 0, none⟩) n cap, vp, .int .i64 (y : Int)] 232 (0, 0)))
    (q2 : Own S wr 305 64 (.slice (some ⟨g, 0, none⟩) n cap) n (durCells l)) {x : Nat × ByteArray} (_hx : x.2.size = 64) (hi : x.1 < l.length) (_hgp : g ≠ p) (hn : n = l.length) (_hl : ∀ s ∈ l, s.size = 64) : SyncS p g n cap wr.heap.size x (wr.alloc (.cells (putCell x).toArray 307)) := by
  have hb := heap_alloc_last wr (.cells (putCell x).toArray 307)
  have hk : Keeps (fun _ => False) wr (wr.alloc (.cells (putCell x).toArray 307)) := (Keeps.refl _ _).alloc _
  have c0 := cell_of_heap (o := 0) (hk.heap q1 (fun h => h))
  have c1 := cell_of_heap (o := 0) hb
  refine ⟨c0, c1, ?_, ?_⟩
  · intro j v hj
    rw [cell_of_heap hb]
    simp only [putCell, List.getElem?_toArray]
    rw [Nat.add_comm 1 j, List.getElem?_cons_succ]; exact hj
  · have q := q2.keep hk (fun _ _ _ h => h)
    intro j hj
    rcases q.1.2 with ⟨h0, _⟩ | ⟨g', cap', cur, h0, _, hg, hc, _, hsz, ht⟩
    · cases h0
    · cases h0
      rw [frozen_of_heap hg, cell_of_heap hg]
      have : x.1 * 64 + j < cur.size := by rw [hsz]; omega
      simp [this]
theorem SyncS.drew {p g n cap B : Nat} {x : Nat × ByteArray} {w : World} (h : SyncS p g n cap B x w) : SyncS p g n cap B x w.drew := ⟨h.1, h.2.1, (World.rangeAt_drew _ _ _ _).2 h.2.2.1, (World.there_drew _ _ _ _).2 h.2.2.2⟩
theorem SyncS.setCells {p g n cap B o : Nat} {x : Nat × ByteArray} {w : World} {vs : List Value} (h : SyncS p g n cap B x w) (hp : g ≠ p) (hB : g ≠ B) : SyncS p g n cap B x (w.setCells g o vs) := by
  have hk := keeps_setCells g vs o w
  have c1 := World.block_lt_of_cell? w _ h.1
  have c2 := World.block_lt_of_cell? w _ h.2.1
  refine ⟨(hk.cell (p := ⟨p, 0, none⟩) c1 (fun e => hp e.symm)).trans h.1, (hk.cell (p := ⟨B, 0, none⟩) c2 (fun e => hB e.symm)).trans h.2.1, hk.range h.2.2.1 c2 (fun e => hB e.symm), World.there_setCells h.2.2.2 _ _ _⟩

theorem sync_end {S : Nat → Prop} {wr : World} {p y n g cap : Nat} {vp : Value} {l : List ByteArray} (q1 : wr.heap[p]? = some (.cells #[.slice (some ⟨g, 0, none⟩) n cap, vp, .int .i64 (y : Int)] 232 (0, 0))) (hS : S p)
    (q2 : Own (fun k => S k ∧ k ≠ p) wr 305 64 (.slice (some ⟨g, 0, none⟩) n cap) n (durCells l)) (hn : n = l.length) :
    PDisk S ((wr.setCell ⟨p, 1, none⟩ (.slice none 0 0)).setCell ⟨p, 2, none⟩ (.int .i64 ((y : Int) + 1))) p ⟨l, [], y + 1⟩ := by
  subst hn
  have hk : Keeps (fun k => k = p) wr ((wr.setCell ⟨p, 1, none⟩ (.slice none 0 0)).setCell ⟨p, 2, none⟩ (.int .i64 ((y : Int) + 1))) := ((Keeps.refl (fun k => k = p) wr).setCell (p := ⟨p, 1, none⟩) (.inl rfl) _).setCell (p := ⟨p, 2, none⟩) (.inl rfl) _
  refine ⟨.slice (some ⟨g, 0, none⟩) l.length cap, .slice none 0 0, ?_, hS, q2.keep hk (fun k _ h e => h.2 e), Own.nil _ _ _ _⟩
  exact heap_setCell_same (heap_setCell_same q1 _) _

theorem sync_step {S : Nat → Prop} {w wr : World} {p g cap j : Nat} {vp : Value} {m : DM} {keep : Nat → Bool} (h : SyncRel S w p g cap vp m keep j wr) {x : Nat × ByteArray} (hx : m.puts[j]? = some x) (hk : keep j = true) (hm : m.ok) (hgp : g ≠ p) :
    SyncRel S w p g cap vp m keep (j + 1) ((wr.alloc (.cells (putCell x).toArray 307)).drew.setCells g (x.1 * 64) (bcells x.2)) := by
  obtain ⟨q1, q2, q3, q4⟩ := h
  have hx2 := hm.puts x (List.mem_of_getElem? hx)
  have hkA : Keeps (fun _ => False) wr (wr.alloc (.cells (putCell x).toArray 307)).drew := ((Keeps.refl _ _).alloc _).drew
  have hkB := keeps_setCells g (bcells x.2) (x.1 * 64) (wr.alloc (.cells (putCell x).toArray 307)).drew
  have hkC : Keeps (fun k => k = g) wr ((wr.alloc (.cells (putCell x).toArray 307)).drew.setCells g (x.1 * 64) (bcells x.2)) := (hkA.mono (T := fun k => k = g) (fun _ _ f => f.elim)).trans hkB (fun _ _ e => e)
  have hds := durTo_size m.dur m.puts keep (fun s hs => hm.dur s hs) (fun x hx => (hm.puts x hx).2) j
  obtain ⟨e1, e2, e3⟩ := durCells_set (durTo m.dur m.puts keep j) x.1 x.2 hds (by rw [durTo_length]; exact hx2.1) hx2.2
  refine ⟨hkC.heap q1 (fun e => hgp e.symm), ?_, q3.keep hkC (fun k _ h e => h.2.2 e.symm), q4.trans hkC (fun _ _ e => e)⟩
  rw [durTo_yes hx hk]
  exact (q2.keep hkA (fun _ _ _ h => h)).store (x.1 * 64) (bcells x.2) e1 e2 e3

set_option maxRecDepth 100000 in
set_option maxHeartbeats 800000 in
theorem dSync_any (S : Nat → Prop) (p : Nat) (m : DM) (w : World) (hD : PDisk S w p m) (hm : m.ok) (hN : m.puts.length * 72 ≤ 140737488355328) (hy : m.syncs < 9223372036854775807) :
    Calls Tryz.prog 195 #[.pointer (some ⟨p, 0, none⟩)] w fun e w' => e = .returned (.tuple #[]) ∧ PDisk S w' p ⟨durTo m.dur m.puts (fun _ => true) m.puts.length, [], m.syncs + 1⟩ ∧ Keeps S w w' := by
  obtain ⟨vd, vp, hb, hS, hd, hp⟩ := hD
  have hn := hm.len
  obtain ⟨g, cap, rfl, hcap, hgS, hgl, _, _⟩ := hd.open (by omega)
  have hc1 := cell_of_heap (o := 1) hb
  simp at hc1
  have hp' : Own (fun k => S k ∧ k ≠ p ∧ g ≠ k) w 307 65 vp m.puts.length (putCells m.puts) := hp.mono (fun k _ h => ⟨h.1, h.2.1, fun e => h.2.2 (by rw [← e]; rfl)⟩)
  have hR0 : SyncRel S w p g cap vp m (fun _ => true) 0 w := ⟨hb, hd, hp', Keeps.refl _ _⟩
  obtain ⟨ap, cp, hvp, hcp⟩ := hp.len
  have HR0 := hide hR0
  have HM := hide hm
  clear hR0 hm hp hp' hd hb
  subst hvp
  go_enter Tryz.func195, Tryz.ntmps195
  go_wp2
  go_loopw [9] (fun i wr => ∃ j : Nat, j ≤ m.puts.length ∧ i = .int .i64 j ∧ SyncRel S w p g cap (.slice ap m.puts.length cp) m (fun _ => true) j wr) (fun i _ => m.puts.length - (intOf i).toNat)
  case atStart => exact ⟨0, Nat.zero_le _, rfl, unhide HR0⟩
  case round =>
    obtain ⟨j, hj, rfl, hR⟩ := hrel
    by_cases hlt : j < m.puts.length
    · obtain ⟨x, hx⟩ : ∃ x, m.puts[j]? = some x := ⟨_, List.getElem?_eq_getElem (by omega)⟩
      have HX := hide hx
      have HR := hide hR
      obtain ⟨q1, q2, q3, q4⟩ := hR
      have hx2 := (unhide HM).puts x (List.mem_of_getElem? hx)
      obtain ⟨gp, cap', hv, _, hgpS, hgpl, _, _⟩ := q3.open (by omega)
      cases hv
      obtain ⟨_, _, hr⟩ := put_range q3 (fun x hx => ((unhide HM).puts x hx).2) hx
      have hl65 : (putCell x).length = 65 := putCell_length x hx2.2
      have hld := run_wrLoad wr gp (j * 65) _ hr hl65
      have hst := run_wrStore wr zwrite (putCell x).toArray zwrite_size (by simp [hl65]) (all_oneCell_toArray (putCell_one x))
      have hS1 := sync_facts q1 q2 (x := x) hx2.2 (by rw [durTo_length]; exact hx2.1) hgS.2 (durTo_length _ _ _ _).symm (durTo_size _ _ _ (fun s hs => (unhide HM).dur s hs) (fun x hx => ((unhide HM).puts x hx).2) _)
      have hpB : p < wr.heap.size := lt_of_heap q1
      have hgB : g ≠ wr.heap.size := by have := q4.size; omega
      have hu := Tryz.underlying305
      have hbl : (bcells x.2).length = 64 := by rw [bcells_length]; exact hx2.2
      have hisz : (Tryz.prog.info? 305).map (·.size) = some (bcells x.2).length := by rw [hbl]; exact sizeSector
      have hone := bcells_one x.2
      have hi0 : (0 : Int) ≤ (x.1 : Int) := Int.natCast_nonneg _
      have hi1 : (x.1 : Int) < (m.dur.length : Int) := by have := hx2.1; omega
      clear hx q1 q2 q3 hl65 hr
      generalize hW : wr.alloc (.cells (putCell x).toArray 307) = W at *
      go_wp2
      go_region_held3 (fun w' => w'.cell? ⟨p, 0, none⟩ = some (.slice (some ⟨g, 0, none⟩) m.dur.length cap) ∧ w'.cell? ⟨wr.heap.size, 0, none⟩ = some (.int .i64 (x.1 : Int)) ∧ w'.rangeAt wr.heap.size 1 (bcells x.2) ∧ w'.there g (x.1 * 64) 64) (first | exact hS1.drew | exact hS1.drew.setCells hgS.2 hgB) (fail)
      go_wp2
      go_roundw
      case rel =>
        subst hW
        exact ⟨j + 1, by omega, by go_num, sync_step (unhide HR) (unhide HX) rfl (unhide HM) hgS.2⟩
      case measure => simp [intOf]; omega
    · obtain ⟨q1, q2, q3, q4⟩ := hR
      have z1 := cell_of_heap (o := 1) q1
      have z2 := cell_of_heap (o := 2) q1
      have f1 := frozen_of_heap (o := 1) q1
      have f2 := frozen_of_heap (o := 2) q1
      simp at z1 z2
      have hjn : j = m.puts.length := by omega
      have HJ := hide hjn
      clear hjn
      go_wp2
      go_end0
      refine ⟨rfl, ?_, ?_⟩
      · rw [unhide HJ] at q2
        exact sync_end q1 hS q2 (durTo_length _ _ _ _).symm
      · exact ((q4.mono (T := S) (fun k _ e => by subst e; exact hgS.1)).setCell (p := ⟨p, 1, none⟩) (.inl hS) _).setCell (p := ⟨p, 2, none⟩) (.inl hS) _

end Go.Proofs.YthbmmbgkchiajaaGreat

/- Crash, of the program's disk. -/
namespace Go.Proofs.YthbmmbgkchiajaaGreat
open Go.RowKit

attribute [local go_sem ↓] wrLoad_eq wrAlloc_eq wrStore_eq
attribute [local go_sem] run_wrAlloc

theorem sync_skip {S : Nat → Prop} {w wr : World} {p g cap j : Nat} {vp : Value} {m : DM} {keep : Nat → Bool} (h : SyncRel S w p g cap vp m keep j wr) {x : Nat × ByteArray} (hx : m.puts[j]? = some x) (hk : keep j = false) :
    SyncRel S w p g cap vp m keep (j + 1) (wr.alloc (.cells (putCell x).toArray 307)) := by
  obtain ⟨q1, q2, q3, q4⟩ := h
  have hkA : Keeps (fun _ => False) wr (wr.alloc (.cells (putCell x).toArray 307)) := (Keeps.refl _ _).alloc _
  refine ⟨hkA.heap q1 (fun h => h), ?_, q3.keep hkA (fun _ _ _ h => h), q4.trans hkA (fun _ _ f => f.elim)⟩
  rw [durTo_no hx hk]
  exact q2.keep hkA (fun _ _ _ h => h)

theorem crash_end {S : Nat → Prop} {wr : World} {p y n g cap : Nat} {vp : Value} {l : List ByteArray} (q1 : wr.heap[p]? = some (.cells #[.slice (some ⟨g, 0, none⟩) n cap, vp, .int .i64 (y : Int)] 232 (0, 0))) (hS : S p)
    (q2 : Own (fun k => S k ∧ k ≠ p) wr 305 64 (.slice (some ⟨g, 0, none⟩) n cap) n (durCells l)) (hn : n = l.length) :
    PDisk S (wr.setCell ⟨p, 1, none⟩ (.slice none 0 0)) p ⟨l, [], y⟩ := by
  subst hn
  have hk : Keeps (fun k => k = p) wr (wr.setCell ⟨p, 1, none⟩ (.slice none 0 0)) := (Keeps.refl (fun k => k = p) wr).setCell (p := ⟨p, 1, none⟩) (.inl rfl) _
  exact ⟨.slice (some ⟨g, 0, none⟩) l.length cap, .slice none 0 0, heap_setCell_same q1 _, hS, q2.keep hk (fun k _ h e => h.2 e), Own.nil _ _ _ _⟩

/-- A list of answers that is read, and not of the disk. -/
def Keep (S : Nat → Prop) (w : World) (ao : Option Addr) (bs : List Bool) : Prop :=
  ∀ j, j < bs.length → ∃ gk ok, ao = some ⟨gk, ok, none⟩ ∧ gk < w.heap.size ∧ ¬ S gk ∧ w.cell? ⟨gk, ok + j, none⟩ = some (.bool (bs.getD j false))

set_option maxRecDepth 100000 in
set_option maxHeartbeats 1600000 in
theorem dCrash_any (S : Nat → Prop) (p : Nat) (m : DM) (ao : Option Addr) (kc : Nat) (bs : List Bool) (w : World) (hD : PDisk S w p m) (hm : m.ok) (hN : m.puts.length * 72 ≤ 140737488355328) (hK : Keep S w ao bs) (_hbs : bs.length ≤ 9223372036854775807) (_hbc : bs.length ≤ kc) :
    Calls Tryz.prog 177 #[.pointer (some ⟨p, 0, none⟩), .slice ao bs.length kc] w fun e w' => e = .returned (.tuple #[]) ∧ PDisk S w' p ⟨durTo m.dur m.puts (fun k => bs.getD k false) m.puts.length, [], m.syncs⟩ ∧ Keeps S w w' := by
  obtain ⟨vd, vp, hb, hS, hd, hp⟩ := hD
  have hn := hm.len
  obtain ⟨g, cap, rfl, hcap, hgS, hgl, _, _⟩ := hd.open (by omega)
  have hc1 := cell_of_heap (o := 1) hb
  simp at hc1
  have hp' : Own (fun k => S k ∧ k ≠ p ∧ g ≠ k) w 307 65 vp m.puts.length (putCells m.puts) := hp.mono (fun k _ h => ⟨h.1, h.2.1, fun e => h.2.2 (by rw [← e]; rfl)⟩)
  have hR0 : SyncRel S w p g cap vp m (fun k => bs.getD k false) 0 w := ⟨hb, hd, hp', Keeps.refl _ _⟩
  obtain ⟨ap, cp, hvp, hcp⟩ := hp.len
  have HR0 := hide hR0
  have HM := hide hm
  have HK := hide hK
  clear hR0 hm hp hp' hd hb hK
  subst hvp
  go_enter Tryz.func177, Tryz.ntmps177
  go_wp2
  go_loopw [11] (fun i wr => ∃ j : Nat, j ≤ m.puts.length ∧ i = .int .i64 j ∧ SyncRel S w p g cap (.slice ap m.puts.length cp) m (fun k => bs.getD k false) j wr) (fun i _ => m.puts.length - (intOf i).toNat)
  case atStart => exact ⟨0, Nat.zero_le _, rfl, unhide HR0⟩
  case round =>
    obtain ⟨j, hj, rfl, hR⟩ := hrel
    by_cases hlt : j < m.puts.length
    · obtain ⟨x, hx⟩ : ∃ x, m.puts[j]? = some x := ⟨_, List.getElem?_eq_getElem (by omega)⟩
      have HX := hide hx
      have HR := hide hR
      obtain ⟨q1, q2, q3, q4⟩ := hR
      have hx2 := (unhide HM).puts x (List.mem_of_getElem? hx)
      obtain ⟨gp, cap', hv, _, hgpS, hgpl, _, _⟩ := q3.open (by omega)
      cases hv
      obtain ⟨_, _, hr⟩ := put_range q3 (fun x hx => ((unhide HM).puts x hx).2) hx
      have hl65 : (putCell x).length = 65 := putCell_length x hx2.2
      have hld := run_wrLoad wr gp (j * 65) _ hr hl65
      have hst := run_wrStore wr zwrite (putCell x).toArray zwrite_size (by simp [hl65]) (all_oneCell_toArray (putCell_one x))
      have hS1 := sync_facts q1 q2 (x := x) hx2.2 (by rw [durTo_length]; exact hx2.1) hgS.2 (durTo_length _ _ _ _).symm (durTo_size _ _ _ (fun s hs => (unhide HM).dur s hs) (fun x hx => ((unhide HM).puts x hx).2) _)
      have hpB : p < wr.heap.size := lt_of_heap q1
      have hgB : g ≠ wr.heap.size := by have := q4.size; omega
      have hu := Tryz.underlying305
      have hbl : (bcells x.2).length = 64 := by rw [bcells_length]; exact hx2.2
      have hisz : (Tryz.prog.info? 305).map (·.size) = some (bcells x.2).length := by rw [hbl]; exact sizeSector
      have hone := bcells_one x.2
      have hi0 : (0 : Int) ≤ (x.1 : Int) := Int.natCast_nonneg _
      have hi1 : (x.1 : Int) < (m.dur.length : Int) := by have := hx2.1; omega
      clear hx q1 q2 q3 hl65 hr
      by_cases hkl : j < bs.length
      · obtain ⟨gk, ok, rfl, hgk, hgkS, hkc⟩ := unhide HK j hkl
        have hkw : (wr.alloc (.cells (putCell x).toArray 307)).cell? ⟨gk, ok + j, none⟩ = some (.bool (bs.getD j false)) := by
          rw [((q4.alloc _).cell (p := ⟨gk, ok + j, none⟩) hgk (fun e => hgkS (by have e' : gk = g := e; rw [e']; exact hgS.1)))]; exact hkc
        have hdk : decide ((j : Int) < (bs.length : Int)) = true := by simp; omega
        have HB : Hid (∃ b, bs.getD j false = b) := ⟨_, rfl⟩
        obtain ⟨b, hbb⟩ := unhide HB
        rw [hbb] at hkw
        have HBB := hide hbb
        clear hbb hkc HB
        generalize hW : wr.alloc (.cells (putCell x).toArray 307) = W at *
        cases b with
        | true =>
          go_wp2
          go_region_held3 (fun w' => w'.cell? ⟨p, 0, none⟩ = some (.slice (some ⟨g, 0, none⟩) m.dur.length cap) ∧ w'.cell? ⟨wr.heap.size, 0, none⟩ = some (.int .i64 (x.1 : Int)) ∧ w'.rangeAt wr.heap.size 1 (bcells x.2) ∧ w'.there g (x.1 * 64) 64) (first | exact hS1.drew | exact hS1.drew.setCells hgS.2 hgB) (fail)
          go_wp2
          go_roundw
          case rel =>
            subst hW
            exact ⟨j + 1, by omega, by go_num, sync_step (unhide HR) (unhide HX) (unhide HBB) (unhide HM) hgS.2⟩
          case measure => simp [intOf]; omega
        | false =>
          go_wp2
          go_roundw
          case rel =>
            subst hW
            exact ⟨j + 1, by omega, by go_num, sync_skip (unhide HR) (unhide HX) (unhide HBB)⟩
          case measure => simp [intOf]; omega
      · have hdk : decide ((j : Int) < (bs.length : Int)) = false := by simp; omega
        have HBB : Hid (bs.getD j false = false) := by show _ = _; rw [List.getD_eq_getElem?_getD, List.getElem?_eq_none (by omega)]; rfl
        generalize hW : wr.alloc (.cells (putCell x).toArray 307) = W at *
        go_wp2
        go_roundw
        case rel =>
          subst hW
          exact ⟨j + 1, by omega, by go_num, sync_skip (unhide HR) (unhide HX) (unhide HBB)⟩
        case measure => simp [intOf]; omega
    · obtain ⟨q1, q2, q3, q4⟩ := hR
      have z1 := cell_of_heap (o := 1) q1
      have f1 := frozen_of_heap (o := 1) q1
      simp at z1
      have hjn : j = m.puts.length := by omega
      have HJ := hide hjn
      clear hjn
      go_wp2
      go_end0
      refine ⟨rfl, ?_, ?_⟩
      · rw [unhide HJ] at q2
        exact crash_end q1 hS q2 (durTo_length _ _ _ _).symm
      · exact (q4.mono (T := S) (fun k _ e => by subst e; exact hgS.1)).setCell (p := ⟨p, 1, none⟩) (.inl hS) _

end Go.Proofs.YthbmmbgkchiajaaGreat

/- Sync and Crash, of the document's disk. -/
namespace Go.Proofs.YthbmmbgkchiajaaGreat
open Go.RowKit

theorem rdurCells_set (l : List ByteArray) (i : Nat) (s : ByteArray) (hi : i < l.length) :
    (rdurCells (l.set i s)).length = (rdurCells l).length ∧ i + [Value.string s].length ≤ (rdurCells l).length ∧
    ∀ q : Nat, (rdurCells (l.set i s))[q]? = if i ≤ q ∧ q < i + [Value.string s].length then [Value.string s][q - i]? else (rdurCells l)[q]? := by
  refine ⟨by simp [rdurCells], by simp [rdurCells]; omega, fun q => ?_⟩
  simp only [rdurCells, List.map_set, List.length_singleton]
  by_cases h : q = i
  · subst h
    rw [if_pos (by omega)]
    simp [hi]
  · rw [if_neg (by omega), List.getElem?_set_ne (by omega)]

def RSyncRel (S : Nat → Prop) (w : World) (p g cap : Nat) (vp : Value) (m : DM) (keep : Nat → Bool) (k : Nat) (wr : World) : Prop :=
  wr.heap[p]? = some (.cells #[.slice (some ⟨g, 0, none⟩) m.dur.length cap, vp, .int .i64 (m.syncs : Int)] 236 (0, 0)) ∧
  Own (fun k => S k ∧ k ≠ p) wr 9 1 (.slice (some ⟨g, 0, none⟩) m.dur.length cap) m.dur.length (rdurCells (durTo m.dur m.puts keep k)) ∧
  Own (fun k => S k ∧ k ≠ p ∧ g ≠ k) wr 315 2 vp m.puts.length (rputCells m.puts) ∧ Keeps (fun k => k = g) w wr

theorem rsync_step {S : Nat → Prop} {w wr : World} {p g cap j : Nat} {vp : Value} {m : DM} {keep : Nat → Bool} (h : RSyncRel S w p g cap vp m keep j wr) {x : Nat × ByteArray} (hx : m.puts[j]? = some x) (hk : keep j = true) (hm : m.ok) (hgp : g ≠ p) :
    RSyncRel S w p g cap vp m keep (j + 1) (wr.setCell ⟨g, x.1, none⟩ (.string x.2)).drew := by
  obtain ⟨q1, q2, q3, q4⟩ := h
  have hx2 := hm.puts x (List.mem_of_getElem? hx)
  have hkC : Keeps (fun k => k = g) wr (wr.setCell ⟨g, x.1, none⟩ (.string x.2)).drew := ((Keeps.refl (fun k => k = g) wr).setCell (p := ⟨g, x.1, none⟩) (.inl rfl) _).drew
  obtain ⟨e1, e2, e3⟩ := rdurCells_set (durTo m.dur m.puts keep j) x.1 x.2 (by rw [durTo_length]; exact hx2.1)
  refine ⟨hkC.heap q1 (fun e => hgp e.symm), ?_, q3.keep hkC (fun k _ h e => h.2.2 e.symm), q4.trans hkC (fun _ _ e => e)⟩
  rw [durTo_yes hx hk]
  exact (q2.store x.1 [.string x.2] e1 e2 e3).keep (T := fun _ => False) (Keeps.refl _ _).drew (fun _ _ _ h => h)
theorem rsync_skip {S : Nat → Prop} {w wr : World} {p g cap j : Nat} {vp : Value} {m : DM} {keep : Nat → Bool} (h : RSyncRel S w p g cap vp m keep j wr) {x : Nat × ByteArray} (hx : m.puts[j]? = some x) (hk : keep j = false) :
    RSyncRel S w p g cap vp m keep (j + 1) wr := by
  obtain ⟨q1, q2, q3, q4⟩ := h
  exact ⟨q1, by rw [durTo_no hx hk]; exact q2, q3, q4⟩

theorem rcrash_end {S : Nat → Prop} {wr : World} {p y n g cap : Nat} {vp : Value} {l : List ByteArray} (q1 : wr.heap[p]? = some (.cells #[.slice (some ⟨g, 0, none⟩) n cap, vp, .int .i64 (y : Int)] 236 (0, 0))) (hS : S p)
    (q2 : Own (fun k => S k ∧ k ≠ p) wr 9 1 (.slice (some ⟨g, 0, none⟩) n cap) n (rdurCells l)) (hn : n = l.length) :
    RDisk S (wr.setCell ⟨p, 1, none⟩ (.slice none 0 0)) p ⟨l, [], y⟩ := by
  subst hn
  have hk : Keeps (fun k => k = p) wr (wr.setCell ⟨p, 1, none⟩ (.slice none 0 0)) := (Keeps.refl (fun k => k = p) wr).setCell (p := ⟨p, 1, none⟩) (.inl rfl) _
  exact ⟨.slice (some ⟨g, 0, none⟩) l.length cap, .slice none 0 0, heap_setCell_same q1 _, hS, q2.keep hk (fun k _ h e => h.2 e), Own.nil _ _ _ _⟩

/-- What the round's one store reads. -/
def SetS (p g n cap gp k cp j : Nat) (x : Nat × ByteArray) (w : World) : Prop :=
  w.cell? ⟨p, 0, none⟩ = some (.slice (some ⟨g, 0, none⟩) n cap) ∧ w.cell? ⟨p, 1, none⟩ = some (.slice (some ⟨gp, 0, none⟩) k cp) ∧ w.cell? ⟨gp, j * 2, none⟩ = some (.int .i64 (x.1 : Int)) ∧ w.cell? ⟨gp, j * 2 + 1, none⟩ = some (.string x.2)
theorem SetS.store {p g n cap gp k cp j o : Nat} {x : Nat × ByteArray} {w : World} {v : Value} (h : SetS p g n cap gp k cp j x w) (hp : g ≠ p) (hg : g ≠ gp) : SetS p g n cap gp k cp j x (w.setCell ⟨g, o, none⟩ v) := by
  have hk : Keeps (fun k => k = g) w (w.setCell ⟨g, o, none⟩ v) := (Keeps.refl (fun k => k = g) w).setCell (p := ⟨g, o, none⟩) (.inl rfl) _
  have c1 := World.block_lt_of_cell? w _ h.1
  have c2 := World.block_lt_of_cell? w _ h.2.2.1
  exact ⟨(hk.cell (p := ⟨p, 0, none⟩) c1 (fun e => hp e.symm)).trans h.1, (hk.cell (p := ⟨p, 1, none⟩) c1 (fun e => hp e.symm)).trans h.2.1, (hk.cell (p := ⟨gp, j * 2, none⟩) c2 (fun e => hg e.symm)).trans h.2.2.1, (hk.cell (p := ⟨gp, j * 2 + 1, none⟩) c2 (fun e => hg e.symm)).trans h.2.2.2⟩

set_option maxRecDepth 100000 in
set_option maxHeartbeats 1600000 in
theorem settle_any (S : Nat → Prop) (p : Nat) (m : DM) (ao : Option Addr) (kc : Nat) (bs : List Bool) (all : Bool) (w : World) (hD : RDisk S w p m) (hm : m.ok) (hN : m.puts.length * 72 ≤ 140737488355328) (hK : Keep S w ao bs) (_hbs : bs.length ≤ 9223372036854775807) (_hbc : bs.length ≤ kc) :
    Calls Tryz.prog 249 #[.pointer (some ⟨p, 0, none⟩), .slice ao bs.length kc, .bool all] w fun e w' => e = .returned (.tuple #[]) ∧ RDisk S w' p ⟨durTo m.dur m.puts (fun k => all || bs.getD k false) m.puts.length, [], m.syncs⟩ ∧ Keeps S w w' := by
  obtain ⟨vd, vp, hb, hS, hd, hp⟩ := hD
  have hn := hm.len
  obtain ⟨g, cap, rfl, hcap, hgS, hgl, _, _⟩ := hd.open (by omega)
  have hc1 := cell_of_heap (o := 1) hb
  simp at hc1
  have hp' : Own (fun k => S k ∧ k ≠ p ∧ g ≠ k) w 315 2 vp m.puts.length (rputCells m.puts) := hp.mono (fun k _ h => ⟨h.1, h.2.1, fun e => h.2.2 (by rw [← e]; rfl)⟩)
  have hR0 : RSyncRel S w p g cap vp m (fun k => all || bs.getD k false) 0 w := ⟨hb, hd, hp', Keeps.refl _ _⟩
  obtain ⟨ap, cp, hvp, hcp⟩ := hp.len
  have HR0 := hide hR0
  have HM := hide hm
  have HK := hide hK
  clear hR0 hm hp hp' hd hb hK
  subst hvp
  go_enter Tryz.func249, Tryz.ntmps249
  go_wp2
  go_loopw [6] (fun i wr => ∃ j : Nat, j ≤ m.puts.length ∧ i = .int .i64 j ∧ RSyncRel S w p g cap (.slice ap m.puts.length cp) m (fun k => all || bs.getD k false) j wr) (fun i _ => m.puts.length - (intOf i).toNat)
  case atStart => exact ⟨0, Nat.zero_le _, rfl, unhide HR0⟩
  case round =>
    obtain ⟨j, hj, rfl, hR⟩ := hrel
    have HR := hide hR
    obtain ⟨q1, q2, q3, q4⟩ := hR
    have z0 := cell_of_heap (o := 0) q1
    have z1 := cell_of_heap (o := 1) q1
    have f1 := frozen_of_heap (o := 1) q1
    simp at z0 z1
    by_cases hlt : j < m.puts.length
    · obtain ⟨x, hx⟩ : ∃ x, m.puts[j]? = some x := ⟨_, List.getElem?_eq_getElem (by omega)⟩
      have HX := hide hx
      have hx2 := (unhide HM).puts x (List.mem_of_getElem? hx)
      obtain ⟨gp, cap', hv, _, hgpS, hgpl, hpcell, _⟩ := q3.open (by omega)
      cases hv
      have k0 := hpcell _ _ ((flat_get rputCell 2 m.puts j 0 x (fun _ _ => rfl) hx (by omega)).trans rfl)
      have k1 := hpcell _ _ ((flat_get rputCell 2 m.puts j 1 x (fun _ _ => rfl) hx (by omega)).trans rfl)
      obtain ⟨g', c', hv', _, _, _, hdcell, hdf⟩ := q2.open (by omega)
      cases hv'
      obtain ⟨u, hu⟩ : ∃ u, wr.cell? ⟨g, x.1, none⟩ = some u := by
        have : x.1 < (rdurCells (durTo m.dur m.puts (fun k => all || bs.getD k false) j)).length := by simp [rdurCells, durTo_length]; exact hx2.1
        exact ⟨_, hdcell x.1 _ (List.getElem?_eq_getElem this)⟩
      have hf := hdf x.1
      have hS1 : SetS p g m.dur.length cap gp m.puts.length cp j x wr := ⟨z0, z1, k0, k1⟩
      have hi0 : (0 : Int) ≤ (x.1 : Int) := Int.natCast_nonneg _
      have hi1 : (x.1 : Int) < (m.dur.length : Int) := by have := hx2.1; omega
      have hj0 : (0 : Int) ≤ (j : Int) := Int.natCast_nonneg _
      have hj1 : (j : Int) < (m.puts.length : Int) := by omega
      have hggp : g ≠ gp := hgpS.2.2
      clear hx q1 q2 q3 hpcell hdcell hdf
      simp only [Nat.add_zero] at k0
      cases all with
      | true =>
        go_wp2
        go_region_held3 (fun w' => w'.cell? ⟨p, 0, none⟩ = some (.slice (some ⟨g, 0, none⟩) m.dur.length cap) ∧ w'.cell? ⟨p, 1, none⟩ = some (.slice (some ⟨gp, 0, none⟩) m.puts.length cp) ∧ w'.cell? ⟨gp, j * 2, none⟩ = some (.int .i64 (x.1 : Int)) ∧ w'.cell? ⟨gp, j * 2 + 1, none⟩ = some (.string x.2)) (first | exact hS1 | exact hS1.store hgS.2 hggp) (fail)
        go_wp2
        go_roundw
        case rel => exact ⟨j + 1, by omega, by go_num, rsync_step (unhide HR) (unhide HX) rfl (unhide HM) hgS.2⟩
        case measure => simp [intOf]; omega
      | false =>
        by_cases hkl : j < bs.length
        · obtain ⟨gk, ok, rfl, hgk, hgkS, hkc⟩ := unhide HK j hkl
          have hkw : wr.cell? ⟨gk, ok + j, none⟩ = some (.bool (bs.getD j false)) := by
            rw [(q4.cell (p := ⟨gk, ok + j, none⟩) hgk (fun e => hgkS (by have e' : gk = g := e; rw [e']; exact hgS.1)))]; exact hkc
          have hdk : decide ((j : Int) < (bs.length : Int)) = true := by simp; omega
          obtain ⟨b, hbb⟩ : ∃ b, bs.getD j false = b := ⟨_, rfl⟩
          rw [hbb] at hkw
          have HBB : Hid ((false || bs.getD j false) = b) := by show (false || bs.getD j false) = b; rw [hbb]; simp
          clear hbb hkc
          cases b with
          | true =>
            go_wp2
            go_region_held3 (fun w' => w'.cell? ⟨p, 0, none⟩ = some (.slice (some ⟨g, 0, none⟩) m.dur.length cap) ∧ w'.cell? ⟨p, 1, none⟩ = some (.slice (some ⟨gp, 0, none⟩) m.puts.length cp) ∧ w'.cell? ⟨gp, j * 2, none⟩ = some (.int .i64 (x.1 : Int)) ∧ w'.cell? ⟨gp, j * 2 + 1, none⟩ = some (.string x.2)) (first | exact hS1 | exact hS1.store hgS.2 hggp) (fail)
            go_wp2
            go_roundw
            case rel => exact ⟨j + 1, by omega, by go_num, rsync_step (unhide HR) (unhide HX) (unhide HBB) (unhide HM) hgS.2⟩
            case measure => simp [intOf]; omega
          | false =>
            go_wp2
            go_roundw
            case rel => exact ⟨j + 1, by omega, by go_num, rsync_skip (unhide HR) (unhide HX) (unhide HBB)⟩
            case measure => simp [intOf]; omega
        · have hdk : decide ((j : Int) < (bs.length : Int)) = false := by simp; omega
          have HBB : Hid ((false || bs.getD j false) = false) := by show (false || bs.getD j false) = false; rw [List.getD_eq_getElem?_getD, List.getElem?_eq_none (by omega)]; rfl
          go_wp2
          go_roundw
          case rel => exact ⟨j + 1, by omega, by go_num, rsync_skip (unhide HR) (unhide HX) (unhide HBB)⟩
          case measure => simp [intOf]; omega
    · have hjn : j = m.puts.length := by omega
      have HJ := hide hjn
      clear hjn
      go_wp2
      go_end0
      refine ⟨rfl, ?_, ?_⟩
      · rw [unhide HJ] at q2
        exact rcrash_end q1 hS q2 (durTo_length _ _ _ _).symm
      · exact (q4.mono (T := S) (fun k _ e => by subst e; exact hgS.1)).setCell (p := ⟨p, 1, none⟩) (.inl hS) _

end Go.Proofs.YthbmmbgkchiajaaGreat

/- Sync and Crash, of the document's disk: the two doors to settle. -/
namespace Go.Proofs.YthbmmbgkchiajaaGreat
open Go.RowKit

theorem durTo_all (l : List ByteArray) (ps : List (Nat × ByteArray)) (f g : Nat → Bool) (h : ∀ k, f k = g k) (n : Nat) : durTo l ps f n = durTo l ps g n := by
  have : f = g := funext h
  rw [this]

set_option maxRecDepth 100000 in
set_option maxHeartbeats 400000 in
theorem rCrash_any (S : Nat → Prop) (p : Nat) (m : DM) (ao : Option Addr) (kc : Nat) (bs : List Bool) (w : World) (hD : RDisk S w p m) (hm : m.ok) (hN : m.puts.length * 72 ≤ 140737488355328) (hK : Keep S w ao bs) (hbs : bs.length ≤ 9223372036854775807) (hbc : bs.length ≤ kc) :
    Calls Tryz.prog 180 #[.pointer (some ⟨p, 0, none⟩), .slice ao bs.length kc] w fun e w' => e = .returned (.tuple #[]) ∧ RDisk S w' p ⟨durTo m.dur m.puts (fun k => bs.getD k false) m.puts.length, [], m.syncs⟩ ∧ Keeps S w w' := by
  have HD := hide hD
  have HM := hide hm
  have HK := hide hK
  clear hD hm hK
  go_enter Tryz.func180, Tryz.ntmps180
  go_wp2_with (go_at_call 249; refine (settle_any S p m ao kc bs false _ (unhide HD) (unhide HM) hN (unhide HK) hbs hbc).mono ?_; rintro e w' ⟨rfl, h1, h2⟩)
  go_end0
  refine ⟨rfl, ?_, h2⟩
  rw [durTo_all _ _ (fun k => bs.getD k false) (fun k => false || bs.getD k false) (fun k => by simp)]
  exact h1

theorem rsync_end {S : Nat → Prop} {w : World} {p : Nat} {l : List ByteArray} {y : Nat} (h : RDisk S w p ⟨l, [], y⟩) : RDisk S (w.setCell ⟨p, 2, none⟩ (.int .i64 ((y : Int) + 1))) p ⟨l, [], y + 1⟩ := by
  obtain ⟨vd, vp, h1, h2, h3, h4⟩ := h
  have hk : Keeps (fun k => k = p) w (w.setCell ⟨p, 2, none⟩ (.int .i64 ((y : Int) + 1))) := (Keeps.refl (fun k => k = p) w).setCell (p := ⟨p, 2, none⟩) (.inl rfl) _
  exact ⟨vd, vp, heap_setCell_same h1 _, h2, h3.keep hk (fun k _ h e => h.2 e), h4.keep hk (fun k _ h e => h.2.1 e)⟩

set_option maxRecDepth 100000 in
set_option maxHeartbeats 400000 in
theorem rSync_any (S : Nat → Prop) (p : Nat) (m : DM) (w : World) (hD : RDisk S w p m) (hm : m.ok) (hN : m.puts.length * 72 ≤ 140737488355328) (hy : m.syncs < 9223372036854775807) :
    Calls Tryz.prog 196 #[.pointer (some ⟨p, 0, none⟩)] w fun e w' => e = .returned (.tuple #[]) ∧ RDisk S w' p ⟨durTo m.dur m.puts (fun _ => true) m.puts.length, [], m.syncs + 1⟩ ∧ Keeps S w w' := by
  have HD := hide hD
  have HM := hide hm
  clear hD hm
  go_enter Tryz.func196, Tryz.ntmps196
  go_wp2_with (go_at_call 249; refine (settle_any S p m none 0 [] true _ (unhide HD) (unhide HM) hN (fun j hj => by simp at hj) (by simp) (by simp)).mono ?_; rintro e w1 ⟨rfl, h1, h2⟩; have H1 := hide h1; obtain ⟨vd, vp, hb, hS, _, _⟩ := h1; have c2 := cell_of_heap (o := 2) hb; have f2 := frozen_of_heap (o := 2) hb; simp at c2)
  go_end0
  exact ⟨rfl, rsync_end (unhide H1), h2.setCell (p := ⟨p, 2, none⟩) (.inl hS) _⟩

end Go.Proofs.YthbmmbgkchiajaaGreat
