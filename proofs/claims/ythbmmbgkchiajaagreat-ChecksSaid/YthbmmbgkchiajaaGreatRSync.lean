
/- Sync and Crash, of the document's disk: the two doors to settle. -/
import Derived.Test.YthbmmbgkchiajaaGreatSettle
namespace Go.Proofs.YthbmmbgkchiajaaGreat
open Go.RowKit

theorem durTo_all (l : List ByteArray) (ps : List (Nat × ByteArray)) (f g : Nat → Bool) (h : ∀ k, f k = g k) (n : Nat) : durTo l ps f n = durTo l ps g n := by
  have : f = g := funext h
  rw [this]

set_option maxRecDepth 100000 in
set_option maxHeartbeats 400000 in
theorem rCrash_any (S : Nat → Prop) (p : Nat) (m : DM) (ao : Option Addr) (kc : Nat) (bs : List Bool) (w : World) (hD : RDisk S w p m) (hm : m.ok) (hN : m.puts.length * 72 ≤ 140737488355328) (hK : Keep S w ao bs) (hbs : bs.length ≤ 9223372036854775807) (hbc : bs.length ≤ kc) :
    Calls Tryz.prog 180 #[.pointer (some ⟨p, 0, none⟩), .slice ao bs.length kc] w fun e w' => e = .returned (.tuple #[]) ∧ RDisk S w' p ⟨durTo m.dur m.puts (fun k => bs.getD k false) m.puts.length, [], m.syncs⟩ ∧ Keeps S w w' := by
  have HD := hide hD
  have HM := hide hm
  have HK := hide hK
  clear hD hm hK
  go_enter Tryz.func180, Tryz.ntmps180
  go_wp2_with (go_at_call 249; refine (settle_any S p m ao kc bs false _ (unhide HD) (unhide HM) hN (unhide HK) hbs hbc).mono ?_; rintro e w' ⟨rfl, h1, h2⟩)
  go_end0
  refine ⟨rfl, ?_, h2⟩
  rw [durTo_all _ _ (fun k => bs.getD k false) (fun k => false || bs.getD k false) (fun k => by simp)]
  exact h1

theorem rsync_end {S : Nat → Prop} {w : World} {p : Nat} {l : List ByteArray} {y : Nat} (h : RDisk S w p ⟨l, [], y⟩) : RDisk S (w.setCell ⟨p, 2, none⟩ (.int .i64 ((y : Int) + 1))) p ⟨l, [], y + 1⟩ := by
  obtain ⟨vd, vp, h1, h2, h3, h4⟩ := h
  have hk : Keeps (fun k => k = p) w (w.setCell ⟨p, 2, none⟩ (.int .i64 ((y : Int) + 1))) := (Keeps.refl (fun k => k = p) w).setCell (p := ⟨p, 2, none⟩) (.inl rfl) _
  exact ⟨vd, vp, heap_setCell_same h1 _, h2, h3.keep hk (fun k _ h e => h.2 e), h4.keep hk (fun k _ h e => h.2.1 e)⟩

set_option maxRecDepth 100000 in
set_option maxHeartbeats 400000 in
theorem rSync_any (S : Nat → Prop) (p : Nat) (m : DM) (w : World) (hD : RDisk S w p m) (hm : m.ok) (hN : m.puts.length * 72 ≤ 140737488355328) (hy : m.syncs < 9223372036854775807) :
    Calls Tryz.prog 196 #[.pointer (some ⟨p, 0, none⟩)] w fun e w' => e = .returned (.tuple #[]) ∧ RDisk S w' p ⟨durTo m.dur m.puts (fun _ => true) m.puts.length, [], m.syncs + 1⟩ ∧ Keeps S w w' := by
  have HD := hide hD
  have HM := hide hm
  clear hD hm
  go_enter Tryz.func196, Tryz.ntmps196
  go_wp2_with (go_at_call 249; refine (settle_any S p m none 0 [] true _ (unhide HD) (unhide HM) hN (fun j hj => by simp at hj) (by simp) (by simp)).mono ?_; rintro e w1 ⟨rfl, h1, h2⟩; have H1 := hide h1; obtain ⟨vd, vp, hb, hS, _, _⟩ := h1; have c2 := cell_of_heap (o := 2) hb; have f2 := frozen_of_heap (o := 2) hb; simp at c2)
  go_end0
  exact ⟨rfl, rsync_end (unhide H1), h2.setCell (p := ⟨p, 2, none⟩) (.inl hS) _⟩

end Go.Proofs.YthbmmbgkchiajaaGreat
