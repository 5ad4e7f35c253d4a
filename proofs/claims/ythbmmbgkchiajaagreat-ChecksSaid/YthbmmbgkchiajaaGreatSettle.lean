
/- Sync and Crash, of the document's disk. -/
import Derived.Test.YthbmmbgkchiajaaGreatDCrash
namespace Go.Proofs.YthbmmbgkchiajaaGreat
open Go.RowKit

theorem rdurCells_set (l : List ByteArray) (i : Nat) (s : ByteArray) (hi : i < l.length) :
    (rdurCells (l.set i s)).length = (rdurCells l).length ∧ i + [Value.string s].length ≤ (rdurCells l).length ∧
    ∀ q : Nat, (rdurCells (l.set i s))[q]? = if i ≤ q ∧ q < i + [Value.string s].length then [Value.string s][q - i]? else (rdurCells l)[q]? := by
  refine ⟨by simp [rdurCells], by simp [rdurCells]; omega, fun q => ?_⟩
  simp only [rdurCells, List.map_set, List.length_singleton]
  by_cases h : q = i
  · subst h
    rw [if_pos (by omega)]
    simp [hi]
  · rw [if_neg (by omega), List.getElem?_set_ne (by omega)]

def RSyncRel (S : Nat → Prop) (w : World) (p g cap : Nat) (vp : Value) (m : DM) (keep : Nat → Bool) (k : Nat) (wr : World) : Prop :=
  wr.heap[p]? = some (.cells #[.slice (some ⟨g, 0, none⟩) m.dur.length cap, vp, .int .i64 (m.syncs : Int)] 236 (0, 0)) ∧
  Own (fun k => S k ∧ k ≠ p) wr 9 1 (.slice (some ⟨g, 0, none⟩) m.dur.length cap) m.dur.length (rdurCells (durTo m.dur m.puts keep k)) ∧
  Own (fun k => S k ∧ k ≠ p ∧ g ≠ k) wr 315 2 vp m.puts.length (rputCells m.puts) ∧ Keeps (fun k => k = g) w wr

theorem rsync_step {S : Nat → Prop} {w wr : World} {p g cap j : Nat} {vp : Value} {m : DM} {keep : Nat → Bool} (h : RSyncRel S w p g cap vp m keep j wr) {x : Nat × ByteArray} (hx : m.puts[j]? = some x) (hk : keep j = true) (hm : m.ok) (hgp : g ≠ p) :
    RSyncRel S w p g cap vp m keep (j + 1) (wr.setCell ⟨g, x.1, none⟩ (.string x.2)).drew := by
  obtain ⟨q1, q2, q3, q4⟩ := h
  have hx2 := hm.puts x (List.mem_of_getElem? hx)
  have hkC : Keeps (fun k => k = g) wr (wr.setCell ⟨g, x.1, none⟩ (.string x.2)).drew := ((Keeps.refl (fun k => k = g) wr).setCell (p := ⟨g, x.1, none⟩) (.inl rfl) _).drew
  obtain ⟨e1, e2, e3⟩ := rdurCells_set (durTo m.dur m.puts keep j) x.1 x.2 (by rw [durTo_length]; exact hx2.1)
  refine ⟨hkC.heap q1 (fun e => hgp e.symm), ?_, q3.keep hkC (fun k _ h e => h.2.2 e.symm), q4.trans hkC (fun _ _ e => e)⟩
  rw [durTo_yes hx hk]
  exact (q2.store x.1 [.string x.2] e1 e2 e3).keep (T := fun _ => False) (Keeps.refl _ _).drew (fun _ _ _ h => h)
theorem rsync_skip {S : Nat → Prop} {w wr : World} {p g cap j : Nat} {vp : Value} {m : DM} {keep : Nat → Bool} (h : RSyncRel S w p g cap vp m keep j wr) {x : Nat × ByteArray} (hx : m.puts[j]? = some x) (hk : keep j = false) :
    RSyncRel S w p g cap vp m keep (j + 1) wr := by
  obtain ⟨q1, q2, q3, q4⟩ := h
  exact ⟨q1, by rw [durTo_no hx hk]; exact q2, q3, q4⟩

theorem rcrash_end {S : Nat → Prop} {wr : World} {p y n g cap : Nat} {vp : Value} {l : List ByteArray} (q1 : wr.heap[p]? = some (.cells #[.slice (some ⟨g, 0, none⟩) n cap, vp, .int .i64 (y : Int)] 236 (0, 0))) (hS : S p)
    (q2 : Own (fun k => S k ∧ k ≠ p) wr 9 1 (.slice (some ⟨g, 0, none⟩) n cap) n (rdurCells l)) (hn : n = l.length) :
    RDisk S (wr.setCell ⟨p, 1, none⟩ (.slice none 0 0)) p ⟨l, [], y⟩ := by
  subst hn
  have hk : Keeps (fun k => k = p) wr (wr.setCell ⟨p, 1, none⟩ (.slice none 0 0)) := (Keeps.refl (fun k => k = p) wr).setCell (p := ⟨p, 1, none⟩) (.inl rfl) _
  exact ⟨.slice (some ⟨g, 0, none⟩) l.length cap, .slice none 0 0, heap_setCell_same q1 _, hS, q2.keep hk (fun k _ h e => h.2 e), Own.nil _ _ _ _⟩

/-- What the round's one store reads. -/
def SetS (p g n cap gp k cp j : Nat) (x : Nat × ByteArray) (w : World) : Prop :=
  w.cell? ⟨p, 0, none⟩ = some (.slice (some ⟨g, 0, none⟩) n cap) ∧ w.cell? ⟨p, 1, none⟩ = some (.slice (some ⟨gp, 0, none⟩) k cp) ∧ w.cell? ⟨gp, j * 2, none⟩ = some (.int .i64 (x.1 : Int)) ∧ w.cell? ⟨gp, j * 2 + 1, none⟩ = some (.string x.2)
theorem SetS.store {p g n cap gp k cp j o : Nat} {x : Nat × ByteArray} {w : World} {v : Value} (h : SetS p g n cap gp k cp j x w) (hp : g ≠ p) (hg : g ≠ gp) : SetS p g n cap gp k cp j x (w.setCell ⟨g, o, none⟩ v) := by
  have hk : Keeps (fun k => k = g) w (w.setCell ⟨g, o, none⟩ v) := (Keeps.refl (fun k => k = g) w).setCell (p := ⟨g, o, none⟩) (.inl rfl) _
  have c1 := World.block_lt_of_cell? w _ h.1
  have c2 := World.block_lt_of_cell? w _ h.2.2.1
  exact ⟨(hk.cell (p := ⟨p, 0, none⟩) c1 (fun e => hp e.symm)).trans h.1, (hk.cell (p := ⟨p, 1, none⟩) c1 (fun e => hp e.symm)).trans h.2.1, (hk.cell (p := ⟨gp, j * 2, none⟩) c2 (fun e => hg e.symm)).trans h.2.2.1, (hk.cell (p := ⟨gp, j * 2 + 1, none⟩) c2 (fun e => hg e.symm)).trans h.2.2.2⟩

set_option maxRecDepth 100000 in
set_option maxHeartbeats 1600000 in
theorem settle_any (S : Nat → Prop) (p : Nat) (m : DM) (ao : Option Addr) (kc : Nat) (bs : List Bool) (all : Bool) (w : World) (hD : RDisk S w p m) (hm : m.ok) (hN : m.puts.length * 72 ≤ 140737488355328) (hK : Keep S w ao bs) (_hbs : bs.length ≤ 9223372036854775807) (_hbc : bs.length ≤ kc) :
    Calls Tryz.prog 249 #[.pointer (some ⟨p, 0, none⟩), .slice ao bs.length kc, .bool all] w fun e w' => e = .returned (.tuple #[]) ∧ RDisk S w' p ⟨durTo m.dur m.puts (fun k => all || bs.getD k false) m.puts.length, [], m.syncs⟩ ∧ Keeps S w w' := by
  obtain ⟨vd, vp, hb, hS, hd, hp⟩ := hD
  have hn := hm.len
  obtain ⟨g, cap, rfl, hcap, hgS, hgl, _, _⟩ := hd.open (by omega)
  have hc1 := cell_of_heap (o := 1) hb
  simp at hc1
  have hp' : Own (fun k => S k ∧ k ≠ p ∧ g ≠ k) w 315 2 vp m.puts.length (rputCells m.puts) := hp.mono (fun k _ h => ⟨h.1, h.2.1, fun e => h.2.2 (by rw [← e]; rfl)⟩)
  have hR0 : RSyncRel S w p g cap vp m (fun k => all || bs.getD k false) 0 w := ⟨hb, hd, hp', Keeps.refl _ _⟩
  obtain ⟨ap, cp, hvp, hcp⟩ := hp.len
  have HR0 := hide hR0
  have HM := hide hm
  have HK := hide hK
  clear hR0 hm hp hp' hd hb hK
  subst hvp
  go_enter Tryz.func249, Tryz.ntmps249
  go_wp2
  go_loopw [6] (fun i wr => ∃ j : Nat, j ≤ m.puts.length ∧ i = .int .i64 j ∧ RSyncRel S w p g cap (.slice ap m.puts.length cp) m (fun k => all || bs.getD k false) j wr) (fun i _ => m.puts.length - (intOf i).toNat)
  case atStart => exact ⟨0, Nat.zero_le _, rfl, unhide HR0⟩
  case round =>
    obtain ⟨j, hj, rfl, hR⟩ := hrel
    have HR := hide hR
    obtain ⟨q1, q2, q3, q4⟩ := hR
    have z0 := cell_of_heap (o := 0) q1
    have z1 := cell_of_heap (o := 1) q1
    have f1 := frozen_of_heap (o := 1) q1
    simp at z0 z1
    by_cases hlt : j < m.puts.length
    · obtain ⟨x, hx⟩ : ∃ x, m.puts[j]? = some x := ⟨_, List.getElem?_eq_getElem (by omega)⟩
      have HX := hide hx
      have hx2 := (unhide HM).puts x (List.mem_of_getElem? hx)
      obtain ⟨gp, cap', hv, _, hgpS, hgpl, hpcell, _⟩ := q3.open (by omega)
      cases hv
      have k0 := hpcell _ _ ((flat_get rputCell 2 m.puts j 0 x (fun _ _ => rfl) hx (by omega)).trans rfl)
      have k1 := hpcell _ _ ((flat_get rputCell 2 m.puts j 1 x (fun _ _ => rfl) hx (by omega)).trans rfl)
      obtain ⟨g', c', hv', _, _, _, hdcell, hdf⟩ := q2.open (by omega)
      cases hv'
      obtain ⟨u, hu⟩ : ∃ u, wr.cell? ⟨g, x.1, none⟩ = some u := by
        have : x.1 < (rdurCells (durTo m.dur m.puts (fun k => all || bs.getD k false) j)).length := by simp [rdurCells, durTo_length]; exact hx2.1
        exact ⟨_, hdcell x.1 _ (List.getElem?_eq_getElem this)⟩
      have hf := hdf x.1
      have hS1 : SetS p g m.dur.length cap gp m.puts.length cp j x wr := ⟨z0, z1, k0, k1⟩
      have hi0 : (0 : Int) ≤ (x.1 : Int) := Int.natCast_nonneg _
      have hi1 : (x.1 : Int) < (m.dur.length : Int) := by have := hx2.1; omega
      have hj0 : (0 : Int) ≤ (j : Int) := Int.natCast_nonneg _
      have hj1 : (j : Int) < (m.puts.length : Int) := by omega
      have hggp : g ≠ gp := hgpS.2.2
      clear hx q1 q2 q3 hpcell hdcell hdf
      simp only [Nat.add_zero] at k0
      cases all with
      | true =>
        go_wp2
        go_region_held3 (fun w' => w'.cell? ⟨p, 0, none⟩ = some (.slice (some ⟨g, 0, none⟩) m.dur.length cap) ∧ w'.cell? ⟨p, 1, none⟩ = some (.slice (some ⟨gp, 0, none⟩) m.puts.length cp) ∧ w'.cell? ⟨gp, j * 2, none⟩ = some (.int .i64 (x.1 : Int)) ∧ w'.cell? ⟨gp, j * 2 + 1, none⟩ = some (.string x.2)) (first | exact hS1 | exact hS1.store hgS.2 hggp) (fail)
        go_wp2
        go_roundw
        case rel => exact ⟨j + 1, by omega, by go_num, rsync_step (unhide HR) (unhide HX) rfl (unhide HM) hgS.2⟩
        case measure => simp [intOf]; omega
      | false =>
        by_cases hkl : j < bs.length
        · obtain ⟨gk, ok, rfl, hgk, hgkS, hkc⟩ := unhide HK j hkl
          have hkw : wr.cell? ⟨gk, ok + j, none⟩ = some (.bool (bs.getD j false)) := by
            rw [(q4.cell (p := ⟨gk, ok + j, none⟩) hgk (fun e => hgkS (by have e' : gk = g := e; rw [e']; exact hgS.1)))]; exact hkc
          have hdk : decide ((j : Int) < (bs.length : Int)) = true := by simp; omega
          obtain ⟨b, hbb⟩ : ∃ b, bs.getD j false = b := ⟨_, rfl⟩
          rw [hbb] at hkw
          have HBB : Hid ((false || bs.getD j false) = b) := by show (false || bs.getD j false) = b; rw [hbb]; simp
          clear hbb hkc
          cases b with
          | true =>
            go_wp2
            go_region_held3 (fun w' => w'.cell? ⟨p, 0, none⟩ = some (.slice (some ⟨g, 0, none⟩) m.dur.length cap) ∧ w'.cell? ⟨p, 1, none⟩ = some (.slice (some ⟨gp, 0, none⟩) m.puts.length cp) ∧ w'.cell? ⟨gp, j * 2, none⟩ = some (.int .i64 (x.1 : Int)) ∧ w'.cell? ⟨gp, j * 2 + 1, none⟩ = some (.string x.2)) (first | exact hS1 | exact hS1.store hgS.2 hggp) (fail)
            go_wp2
            go_roundw
            case rel => exact ⟨j + 1, by omega, by go_num, rsync_step (unhide HR) (unhide HX) (unhide HBB) (unhide HM) hgS.2⟩
            case measure => simp [intOf]; omega
          | false =>
            go_wp2
            go_roundw
            case rel => exact ⟨j + 1, by omega, by go_num, rsync_skip (unhide HR) (unhide HX) (unhide HBB)⟩
            case measure => simp [intOf]; omega
        · have hdk : decide ((j : Int) < (bs.length : Int)) = false := by simp; omega
          have HBB : Hid ((false || bs.getD j false) = false) := by show (false || bs.getD j false) = false; rw [List.getD_eq_getElem?_getD, List.getElem?_eq_none (by omega)]; rfl
          go_wp2
          go_roundw
          case rel => exact ⟨j + 1, by omega, by go_num, rsync_skip (unhide HR) (unhide HX) (unhide HBB)⟩
          case measure => simp [intOf]; omega
    · have hjn : j = m.puts.length := by omega
      have HJ := hide hjn
      clear hjn
      go_wp2
      go_end0
      refine ⟨rfl, ?_, ?_⟩
      · rw [unhide HJ] at q2
        exact rcrash_end q1 hS q2 (durTo_length _ _ _ _).symm
      · exact (q4.mono (T := S) (fun k _ e => by subst e; exact hgS.1)).setCell (p := ⟨p, 1, none⟩) (.inl hS) _

end Go.Proofs.YthbmmbgkchiajaaGreat
