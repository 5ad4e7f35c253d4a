
/- Crash, of the program's disk. -/
import Derived.Test.YthbmmbgkchiajaaGreatDSync
namespace Go.Proofs.YthbmmbgkchiajaaGreat
open Go.RowKit

attribute [local go_sem ↓] wrLoad_eq wrAlloc_eq wrStore_eq
attribute [local go_sem] run_wrAlloc

theorem sync_skip {S : Nat → Prop} {w wr : World} {p g cap j : Nat} {vp : Value} {m : DM} {keep : Nat → Bool} (h : SyncRel S w p g cap vp m keep j wr) {x : Nat × ByteArray} (hx : m.puts[j]? = some x) (hk : keep j = false) :
    SyncRel S w p g cap vp m keep (j + 1) (wr.alloc (.cells (putCell x).toArray 307)) := by
  obtain ⟨q1, q2, q3, q4⟩ := h
  have hkA : Keeps (fun _ => False) wr (wr.alloc (.cells (putCell x).toArray 307)) := (Keeps.refl _ _).alloc _
  refine ⟨hkA.heap q1 (fun h => h), ?_, q3.keep hkA (fun _ _ _ h => h), q4.trans hkA (fun _ _ f => f.elim)⟩
  rw [durTo_no hx hk]
  exact q2.keep hkA (fun _ _ _ h => h)

theorem crash_end {S : Nat → Prop} {wr : World} {p y n g cap : Nat} {vp : Value} {l : List ByteArray} (q1 : wr.heap[p]? = some (.cells #[.slice (some ⟨g, 0, none⟩) n cap, vp, .int .i64 (y : Int)] 232 (0, 0))) (hS : S p)
    (q2 : Own (fun k => S k ∧ k ≠ p) wr 305 64 (.slice (some ⟨g, 0, none⟩) n cap) n (durCells l)) (hn : n = l.length) :
    PDisk S (wr.setCell ⟨p, 1, none⟩ (.slice none 0 0)) p ⟨l, [], y⟩ := by
  subst hn
  have hk : Keeps (fun k => k = p) wr (wr.setCell ⟨p, 1, none⟩ (.slice none 0 0)) := (Keeps.refl (fun k => k = p) wr).setCell (p := ⟨p, 1, none⟩) (.inl rfl) _
  exact ⟨.slice (some ⟨g, 0, none⟩) l.length cap, .slice none 0 0, heap_setCell_same q1 _, hS, q2.keep hk (fun k _ h e => h.2 e), Own.nil _ _ _ _⟩

/-- A list of answers that is read, and not of the disk. -/
def Keep (S : Nat → Prop) (w : World) (ao : Option Addr) (bs : List Bool) : Prop :=
  ∀ j, j < bs.length → ∃ gk ok, ao = some ⟨gk, ok, none⟩ ∧ gk < w.heap.size ∧ ¬ S gk ∧ w.cell? ⟨gk, ok + j, none⟩ = some (.bool (bs.getD j false))

set_option maxRecDepth 100000 in
set_option maxHeartbeats 1600000 in
theorem dCrash_any (S : Nat → Prop) (p : Nat) (m : DM) (ao : Option Addr) (kc : Nat) (bs : List Bool) (w : World) (hD : PDisk S w p m) (hm : m.ok) (hN : m.puts.length * 72 ≤ 140737488355328) (hK : Keep S w ao bs) (_hbs : bs.length ≤ 9223372036854775807) (_hbc : bs.length ≤ kc) :
    Calls Tryz.prog 177 #[.pointer (some ⟨p, 0, none⟩), .slice ao bs.length kc] w fun e w' => e = .returned (.tuple #[]) ∧ PDisk S w' p ⟨durTo m.dur m.puts (fun k => bs.getD k false) m.puts.length, [], m.syncs⟩ ∧ Keeps S w w' := by
  obtain ⟨vd, vp, hb, hS, hd, hp⟩ := hD
  have hn := hm.len
  obtain ⟨g, cap, rfl, hcap, hgS, hgl, _, _⟩ := hd.open (by omega)
  have hc1 := cell_of_heap (o := 1) hb
  simp at hc1
  have hp' : Own (fun k => S k ∧ k ≠ p ∧ g ≠ k) w 307 65 vp m.puts.length (putCells m.puts) := hp.mono (fun k _ h => ⟨h.1, h.2.1, fun e => h.2.2 (by rw [← e]; rfl)⟩)
  have hR0 : SyncRel S w p g cap vp m (fun k => bs.getD k false) 0 w := ⟨hb, hd, hp', Keeps.refl _ _⟩
  obtain ⟨ap, cp, hvp, hcp⟩ := hp.len
  have HR0 := hide hR0
  have HM := hide hm
  have HK := hide hK
  clear hR0 hm hp hp' hd hb hK
  subst hvp
  go_enter Tryz.func177, Tryz.ntmps177
  go_wp2
  go_loopw [11] (fun i wr => ∃ j : Nat, j ≤ m.puts.length ∧ i = .int .i64 j ∧ SyncRel S w p g cap (.slice ap m.puts.length cp) m (fun k => bs.getD k false) j wr) (fun i _ => m.puts.length - (intOf i).toNat)
  case atStart => exact ⟨0, Nat.zero_le _, rfl, unhide HR0⟩
  case round =>
    obtain ⟨j, hj, rfl, hR⟩ := hrel
    by_cases hlt : j < m.puts.length
    · obtain ⟨x, hx⟩ : ∃ x, m.puts[j]? = some x := ⟨_, List.getElem?_eq_getElem (by omega)⟩
      have HX := hide hx
      have HR := hide hR
      obtain ⟨q1, q2, q3, q4⟩ := hR
      have hx2 := (unhide HM).puts x (List.mem_of_getElem? hx)
      obtain ⟨gp, cap', hv, _, hgpS, hgpl, _, _⟩ := q3.open (by omega)
      cases hv
      obtain ⟨_, _, hr⟩ := put_range q3 (fun x hx => ((unhide HM).puts x hx).2) hx
      have hl65 : (putCell x).length = 65 := putCell_length x hx2.2
      have hld := run_wrLoad wr gp (j * 65) _ hr hl65
      have hst := run_wrStore wr zwrite (putCell x).toArray zwrite_size (by simp [hl65]) (all_oneCell_toArray (putCell_one x))
      have hS1 := sync_facts q1 q2 (x := x) hx2.2 (by rw [durTo_length]; exact hx2.1) hgS.2 (durTo_length _ _ _ _).symm (durTo_size _ _ _ (fun s hs => (unhide HM).dur s hs) (fun x hx => ((unhide HM).puts x hx).2) _)
      have hpB : p < wr.heap.size := lt_of_heap q1
      have hgB : g ≠ wr.heap.size := by have := q4.size; omega
      have hu := Tryz.underlying305
      have hbl : (bcells x.2).length = 64 := by rw [bcells_length]; exact hx2.2
      have hisz : (Tryz.prog.info? 305).map (·.size) = some (bcells x.2).length := by rw [hbl]; exact sizeSector
      have hone := bcells_one x.2
      have hi0 : (0 : Int) ≤ (x.1 : Int) := Int.natCast_nonneg _
      have hi1 : (x.1 : Int) < (m.dur.length : Int) := by have := hx2.1; omega
      clear hx q1 q2 q3 hl65 hr
      by_cases hkl : j < bs.length
      · obtain ⟨gk, ok, rfl, hgk, hgkS, hkc⟩ := unhide HK j hkl
        have hkw : (wr.alloc (.cells (putCell x).toArray 307)).cell? ⟨gk, ok + j, none⟩ = some (.bool (bs.getD j false)) := by
          rw [((q4.alloc _).cell (p := ⟨gk, ok + j, none⟩) hgk (fun e => hgkS (by have e' : gk = g := e; rw [e']; exact hgS.1)))]; exact hkc
        have hdk : decide ((j : Int) < (bs.length : Int)) = true := by simp; omega
        have HB : Hid (∃ b, bs.getD j false = b) := ⟨_, rfl⟩
        obtain ⟨b, hbb⟩ := unhide HB
        rw [hbb] at hkw
        have HBB := hide hbb
        clear hbb hkc HB
        generalize hW : wr.alloc (.cells (putCell x).toArray 307) = W at *
        cases b with
        | true =>
          go_wp2
          go_region_held3 (fun w' => w'.cell? ⟨p, 0, none⟩ = some (.slice (some ⟨g, 0, none⟩) m.dur.length cap) ∧ w'.cell? ⟨wr.heap.size, 0, none⟩ = some (.int .i64 (x.1 : Int)) ∧ w'.rangeAt wr.heap.size 1 (bcells x.2) ∧ w'.there g (x.1 * 64) 64) (first | exact hS1.drew | exact hS1.drew.setCells hgS.2 hgB) (fail)
          go_wp2
          go_roundw
          case rel =>
            subst hW
            exact ⟨j + 1, by omega, by go_num, sync_step (unhide HR) (unhide HX) (unhide HBB) (unhide HM) hgS.2⟩
          case measure => simp [intOf]; omega
        | false =>
          go_wp2
          go_roundw
          case rel =>
            subst hW
            exact ⟨j + 1, by omega, by go_num, sync_skip (unhide HR) (unhide HX) (unhide HBB)⟩
          case measure => simp [intOf]; omega
      · have hdk : decide ((j : Int) < (bs.length : Int)) = false := by simp; omega
        have HBB : Hid (bs.getD j false = false) := by show _ = _; rw [List.getD_eq_getElem?_getD, List.getElem?_eq_none (by omega)]; rfl
        generalize hW : wr.alloc (.cells (putCell x).toArray 307) = W at *
        go_wp2
        go_roundw
        case rel =>
          subst hW
          exact ⟨j + 1, by omega, by go_num, sync_skip (unhide HR) (unhide HX) (unhide HBB)⟩
        case measure => simp [intOf]; omega
    · obtain ⟨q1, q2, q3, q4⟩ := hR
      have z1 := cell_of_heap (o := 1) q1
      have f1 := frozen_of_heap (o := 1) q1
      simp at z1
      have hjn : j = m.puts.length := by omega
      have HJ := hide hjn
      clear hjn
      go_wp2
      go_end0
      refine ⟨rfl, ?_, ?_⟩
      · rw [unhide HJ] at q2
        exact crash_end q1 hS q2 (durTo_length _ _ _ _).symm
      · exact (q4.mono (T := S) (fun k _ e => by subst e; exact hgS.1)).setCell (p := ⟨p, 1, none⟩) (.inl hS) _

end Go.Proofs.YthbmmbgkchiajaaGreat
