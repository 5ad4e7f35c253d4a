
/- Sync, of the program. -/
import Derived.Test.YthbmmbgkchiajaaGreatStores
namespace Go.Proofs.YthbmmbgkchiajaaGreat
open Go.RowKit

/-- A write as a variable: load, new, store, under names of their own. -/
def zwrite : Array Value := Array.replicate 1 (.int .i64 0) ++ Array.replicate 64 (.int .u8 0)
theorem zwrite_size : zwrite.size = 65 := by unfold zwrite; rw [Array.size_append, Array.size_replicate, Array.size_replicate]
theorem sizeWrite : (Tryz.prog.info? 307).map (·.size) = some 65 := by kernel_rfl
def wrLoad (x : Value) : Sem Value := Instr.loadAt 307 x
theorem wrLoad_eq (x : Value) : Instr.loadAt 307 x = wrLoad x := rfl
theorem run_wrLoad (W : World) (b o : Nat) (cs : List Value) (hr : W.rangeAt b o cs) (hl : cs.length = 65) : (wrLoad (.pointer (some ⟨b, o, none⟩))).run Tryz.prog W = .ok (.agg cs.toArray) W :=
  run_loadAt_mid W b o 307 cs _ hr Tryz.underlying307 rfl (by rw [hl]; exact sizeWrite)
def wrAlloc (h : Bool) (x : Value) : Sem Value := Instr.alloc 307 h x
theorem wrAlloc_eq (h : Bool) (x : Value) : Instr.alloc 307 h x = wrAlloc h x := rfl
theorem run_wrAlloc (W : World) : (wrAlloc true (.tuple #[])).run Tryz.prog W = .ok (.pointer (some ⟨W.heap.size, 0, none⟩)) (W.alloc (.cells zwrite 307)) := by
  obtain ⟨i0, hi, hz0, hz1, hz2⟩ := info_parts infoWrite
  have hz : i0.zero = some (.agg zwrite) := hz0
  simp [wrAlloc, Instr.alloc, zeroValue, typeInfo, hi, hz, newVar, newRow, Value.cells]
def wrStore (x v : Value) : Sem Unit := Instr.storeAt 307 x v
theorem wrStore_eq (x v : Value) : Instr.storeAt 307 x v = wrStore x v := rfl
theorem run_wrStore (W : World) (c c' : Array Value) (hc : c.size = 65) (hc' : c'.size = 65) (h1 : c'.all (·.oneCell') = true) : (wrStore (.pointer (some ⟨W.heap.size, 0, none⟩)) (.agg c')).run Tryz.prog (W.alloc (.cells c 307)) = .ok () (W.alloc (.cells c' 307)) :=
  run_storeAt_new W 307 c c' (by rw [hc']; exact sizeWrite) (by omega) h1
attribute [local go_sem ↓] wrLoad_eq wrAlloc_eq wrStore_eq
attribute [local go_sem] run_wrAlloc

/-- Behind k rounds: the sectors hold what the first k writes left; all else of the disk stands. -/
def SyncRel (S : Nat → Prop) (w : World) (p g cap : Nat) (vp : Value) (m : DM) (keep : Nat → Bool) (k : Nat) (wr : World) : Prop :=
  wr.heap[p]? = some (.cells #[.slice (some ⟨g, 0, none⟩) m.dur.length cap, vp, .int .i64 (m.syncs : Int)] 232 (0, 0)) ∧
  Own (fun k => S k ∧ k ≠ p) wr 305 64 (.slice (some ⟨g, 0, none⟩) m.dur.length cap) m.dur.length (durCells (durTo m.dur m.puts keep k)) ∧
  Own (fun k => S k ∧ k ≠ p ∧ g ≠ k) wr 307 65 vp m.puts.length (putCells m.puts) ∧ Keeps (fun k => k = g) w wr

/-- What the round's one store reads: the disk's first field, the write's place and bytes; where it writes. -/
def SyncS (p g n cap B : Nat) (x : Nat × ByteArray) (w : World) : Prop :=
  w.cell? ⟨p, 0, none⟩ = some (.slice (some ⟨g, 0, none⟩) n cap) ∧ w.cell? ⟨B, 0, none⟩ = some (.int .i64 (x.1 : Int)) ∧ w.rangeAt B 1 (bcells x.2) ∧ w.there g (x.1 * 64) 64

theorem sync_facts {S : Nat → Prop} {wr : World} {p g n cap y : Nat} {vp : Value} {l : List ByteArray} (q1 : wr.heap[p]? = some (.cells #[.slice (some ⟨g, 0, none⟩) n cap, vp, .int .i64 (y : Int)] 232 (0, 0)))
    (q2 : Own S wr 305 64 (.slice (some ⟨g, 0, none⟩) n cap) n (durCells l)) {x : Nat × ByteArray} (_hx : x.2.size = 64) (hi : x.1 < l.length) (_hgp : g ≠ p) (hn : n = l.length) (_hl : ∀ s ∈ l, s.size = 64) : SyncS p g n cap wr.heap.size x (wr.alloc (.cells (putCell x).toArray 307)) := by
  have hb := heap_alloc_last wr (.cells (putCell x).toArray 307)
  have hk : Keeps (fun _ => False) wr (wr.alloc (.cells (putCell x).toArray 307)) := (Keeps.refl _ _).alloc _
  have c0 := cell_of_heap (o := 0) (hk.heap q1 (fun h => h))
  have c1 := cell_of_heap (o := 0) hb
  refine ⟨c0, c1, ?_, ?_⟩
  · intro j v hj
    rw [cell_of_heap hb]
    simp only [putCell, List.getElem?_toArray]
    rw [Nat.add_comm 1 j, List.getElem?_cons_succ]; exact hj
  · have q := q2.keep hk (fun _ _ _ h => h)
    intro j hj
    rcases q.1.2 with ⟨h0, _⟩ | ⟨g', cap', cur, h0, _, hg, hc, _, hsz, ht⟩
    · cases h0
    · cases h0
      rw [frozen_of_heap hg, cell_of_heap hg]
      have : x.1 * 64 + j < cur.size := by rw [hsz]; omega
      simp [this]
theorem SyncS.drew {p g n cap B : Nat} {x : Nat × ByteArray} {w : World} (h : SyncS p g n cap B x w) : SyncS p g n cap B x w.drew := ⟨h.1, h.2.1, (World.rangeAt_drew _ _ _ _).2 h.2.2.1, (World.there_drew _ _ _ _).2 h.2.2.2⟩
theorem SyncS.setCells {p g n cap B o : Nat} {x : Nat × ByteArray} {w : World} {vs : List Value} (h : SyncS p g n cap B x w) (hp : g ≠ p) (hB : g ≠ B) : SyncS p g n cap B x (w.setCells g o vs) := by
  have hk := keeps_setCells g vs o w
  have c1 := World.block_lt_of_cell? w _ h.1
  have c2 := World.block_lt_of_cell? w _ h.2.1
  refine ⟨(hk.cell (p := ⟨p, 0, none⟩) c1 (fun e => hp e.symm)).trans h.1, (hk.cell (p := ⟨B, 0, none⟩) c2 (fun e => hB e.symm)).trans h.2.1, hk.range h.2.2.1 c2 (fun e => hB e.symm), World.there_setCells h.2.2.2 _ _ _⟩

theorem sync_end {S : Nat → Prop} {wr : World} {p y n g cap : Nat} {vp : Value} {l : List ByteArray} (q1 : wr.heap[p]? = some (.cells #[.slice (some ⟨g, 0, none⟩) n cap, vp, .int .i64 (y : Int)] 232 (0, 0))) (hS : S p)
    (q2 : Own (fun k => S k ∧ k ≠ p) wr 305 64 (.slice (some ⟨g, 0, none⟩) n cap) n (durCells l)) (hn : n = l.length) :
    PDisk S ((wr.setCell ⟨p, 1, none⟩ (.slice none 0 0)).setCell ⟨p, 2, none⟩ (.int .i64 ((y : Int) + 1))) p ⟨l, [], y + 1⟩ := by
  subst hn
  have hk : Keeps (fun k => k = p) wr ((wr.setCell ⟨p, 1, none⟩ (.slice none 0 0)).setCell ⟨p, 2, none⟩ (.int .i64 ((y : Int) + 1))) := ((Keeps.refl (fun k => k = p) wr).setCell (p := ⟨p, 1, none⟩) (.inl rfl) _).setCell (p := ⟨p, 2, none⟩) (.inl rfl) _
  refine ⟨.slice (some ⟨g, 0, none⟩) l.length cap, .slice none 0 0, ?_, hS, q2.keep hk (fun k _ h e => h.2 e), Own.nil _ _ _ _⟩
  exact heap_setCell_same (heap_setCell_same q1 _) _

theorem sync_step {S : Nat → Prop} {w wr : World} {p g cap j : Nat} {vp : Value} {m : DM} {keep : Nat → Bool} (h : SyncRel S w p g cap vp m keep j wr) {x : Nat × ByteArray} (hx : m.puts[j]? = some x) (hk : keep j = true) (hm : m.ok) (hgp : g ≠ p) :
    SyncRel S w p g cap vp m keep (j + 1) ((wr.alloc (.cells (putCell x).toArray 307)).drew.setCells g (x.1 * 64) (bcells x.2)) := by
  obtain ⟨q1, q2, q3, q4⟩ := h
  have hx2 := hm.puts x (List.mem_of_getElem? hx)
  have hkA : Keeps (fun _ => False) wr (wr.alloc (.cells (putCell x).toArray 307)).drew := ((Keeps.refl _ _).alloc _).drew
  have hkB := keeps_setCells g (bcells x.2) (x.1 * 64) (wr.alloc (.cells (putCell x).toArray 307)).drew
  have hkC : Keeps (fun k => k = g) wr ((wr.alloc (.cells (putCell x).toArray 307)).drew.setCells g (x.1 * 64) (bcells x.2)) := (hkA.mono (T := fun k => k = g) (fun _ _ f => f.elim)).trans hkB (fun _ _ e => e)
  have hds := durTo_size m.dur m.puts keep (fun s hs => hm.dur s hs) (fun x hx => (hm.puts x hx).2) j
  obtain ⟨e1, e2, e3⟩ := durCells_set (durTo m.dur m.puts keep j) x.1 x.2 hds (by rw [durTo_length]; exact hx2.1) hx2.2
  refine ⟨hkC.heap q1 (fun e => hgp e.symm), ?_, q3.keep hkC (fun k _ h e => h.2.2 e.symm), q4.trans hkC (fun _ _ e => e)⟩
  rw [durTo_yes hx hk]
  exact (q2.keep hkA (fun _ _ _ h => h)).store (x.1 * 64) (bcells x.2) e1 e2 e3

set_option maxRecDepth 100000 in
set_option maxHeartbeats 800000 in
theorem dSync_any (S : Nat → Prop) (p : Nat) (m : DM) (w : World) (hD : PDisk S w p m) (hm : m.ok) (hN : m.puts.length * 72 ≤ 140737488355328) (hy : m.syncs < 9223372036854775807) :
    Calls Tryz.prog 195 #[.pointer (some ⟨p, 0, none⟩)] w fun e w' => e = .returned (.tuple #[]) ∧ PDisk S w' p ⟨durTo m.dur m.puts (fun _ => true) m.puts.length, [], m.syncs + 1⟩ ∧ Keeps S w w' := by
  obtain ⟨vd, vp, hb, hS, hd, hp⟩ := hD
  have hn := hm.len
  obtain ⟨g, cap, rfl, hcap, hgS, hgl, _, _⟩ := hd.open (by omega)
  have hc1 := cell_of_heap (o := 1) hb
  simp at hc1
  have hp' : Own (fun k => S k ∧ k ≠ p ∧ g ≠ k) w 307 65 vp m.puts.length (putCells m.puts) := hp.mono (fun k _ h => ⟨h.1, h.2.1, fun e => h.2.2 (by rw [← e]; rfl)⟩)
  have hR0 : SyncRel S w p g cap vp m (fun _ => true) 0 w := ⟨hb, hd, hp', Keeps.refl _ _⟩
  obtain ⟨ap, cp, hvp, hcp⟩ := hp.len
  have HR0 := hide hR0
  have HM := hide hm
  clear hR0 hm hp hp' hd hb
  subst hvp
  go_enter Tryz.func195, Tryz.ntmps195
  go_wp2
  go_loopw [9] (fun i wr => ∃ j : Nat, j ≤ m.puts.length ∧ i = .int .i64 j ∧ SyncRel S w p g cap (.slice ap m.puts.length cp) m (fun _ => true) j wr) (fun i _ => m.puts.length - (intOf i).toNat)
  case atStart => exact ⟨0, Nat.zero_le _, rfl, unhide HR0⟩
  case round =>
    obtain ⟨j, hj, rfl, hR⟩ := hrel
    by_cases hlt : j < m.puts.length
    · obtain ⟨x, hx⟩ : ∃ x, m.puts[j]? = some x := ⟨_, List.getElem?_eq_getElem (by omega)⟩
      have HX := hide hx
      have HR := hide hR
      obtain ⟨q1, q2, q3, q4⟩ := hR
      have hx2 := (unhide HM).puts x (List.mem_of_getElem? hx)
      obtain ⟨gp, cap', hv, _, hgpS, hgpl, _, _⟩ := q3.open (by omega)
      cases hv
      obtain ⟨_, _, hr⟩ := put_range q3 (fun x hx => ((unhide HM).puts x hx).2) hx
      have hl65 : (putCell x).length = 65 := putCell_length x hx2.2
      have hld := run_wrLoad wr gp (j * 65) _ hr hl65
      have hst := run_wrStore wr zwrite (putCell x).toArray zwrite_size (by simp [hl65]) (all_oneCell_toArray (putCell_one x))
      have hS1 := sync_facts q1 q2 (x := x) hx2.2 (by rw [durTo_length]; exact hx2.1) hgS.2 (durTo_length _ _ _ _).symm (durTo_size _ _ _ (fun s hs => (unhide HM).dur s hs) (fun x hx => ((unhide HM).puts x hx).2) _)
      have hpB : p < wr.heap.size := lt_of_heap q1
      have hgB : g ≠ wr.heap.size := by have := q4.size; omega
      have hu := Tryz.underlying305
      have hbl : (bcells x.2).length = 64 := by rw [bcells_length]; exact hx2.2
      have hisz : (Tryz.prog.info? 305).map (·.size) = some (bcells x.2).length := by rw [hbl]; exact sizeSector
      have hone := bcells_one x.2
      have hi0 : (0 : Int) ≤ (x.1 : Int) := Int.natCast_nonneg _
      have hi1 : (x.1 : Int) < (m.dur.length : Int) := by have := hx2.1; omega
      clear hx q1 q2 q3 hl65 hr
      generalize hW : wr.alloc (.cells (putCell x).toArray 307) = W at *
      go_wp2
      go_region_held3 (fun w' => w'.cell? ⟨p, 0, none⟩ = some (.slice (some ⟨g, 0, none⟩) m.dur.length cap) ∧ w'.cell? ⟨wr.heap.size, 0, none⟩ = some (.int .i64 (x.1 : Int)) ∧ w'.rangeAt wr.heap.size 1 (bcells x.2) ∧ w'.there g (x.1 * 64) 64) (first | exact hS1.drew | exact hS1.drew.setCells hgS.2 hgB) (fail)
      go_wp2
      go_roundw
      case rel =>
        subst hW
        exact ⟨j + 1, by omega, by go_num, sync_step (unhide HR) (unhide HX) rfl (unhide HM) hgS.2⟩
      case measure => simp [intOf]; omega
    · obtain ⟨q1, q2, q3, q4⟩ := hR
      have z1 := cell_of_heap (o := 1) q1
      have z2 := cell_of_heap (o := 2) q1
      have f1 := frozen_of_heap (o := 1) q1
      have f2 := frozen_of_heap (o := 2) q1
      simp at z1 z2
      have hjn : j = m.puts.length := by omega
      have HJ := hide hjn
      clear hjn
      go_wp2
      go_end0
      refine ⟨rfl, ?_, ?_⟩
      · rw [unhide HJ] at q2
        exact sync_end q1 hS q2 (durTo_length _ _ _ _).symm
      · exact ((q4.mono (T := S) (fun k _ e => by subst e; exact hgS.1)).setCell (p := ⟨p, 1, none⟩) (.inl hS) _).setCell (p := ⟨p, 2, none⟩) (.inl hS) _

end Go.Proofs.YthbmmbgkchiajaaGreat
