
/- The law Disks itself: it lays the list of the six kinds of step and calls the player. -/
import Derived.Test.YthbmmbgkchiajaaGreatPlays
namespace Go.Proofs.YthbmmbgkchiajaaGreat
open Go.RowKit

theorem OpOk.up {B B' : Nat} {w w' : World} {b c : Int} {s : ByteArray} {vk : Value} {bs : List Bool} (h : OpOk B w b c s vk bs) (hB : B ≤ B') (hk : ∀ k x, k < B → w'.cell? ⟨k, x, none⟩ = w.cell? ⟨k, x, none⟩) : OpOk B' w' b c s vk bs := by
  refine ⟨h.b0, h.b1, h.c0, h.c1, h.s, h.bl, ?_⟩
  rcases h.k with ⟨e1, e2⟩ | ⟨a, cap, e1, e2, e3⟩
  · exact .inl ⟨e1, e2⟩
  · refine .inr ⟨a, cap, e1, e2, fun j hj => ?_⟩
    obtain ⟨bb, oo, q1, q2, q3⟩ := e3 j hj
    exact ⟨bb, oo, q1, Nat.lt_of_lt_of_le q2 hB, (hk _ _ q2).trans q3⟩

theorem OpAt.up {B B' : Nat} {w w' : World} {ao : Option Addr} {i : Nat} (h : OpAt B w ao i) (hB : B ≤ B') (hk : ∀ k x, k < B → w'.cell? ⟨k, x, none⟩ = w.cell? ⟨k, x, none⟩) : OpAt B' w' ao i := by
  obtain ⟨gs, os, k, a, b, c, s, ka, kn, kc, pa, pn, pc, bs, h0, h1, e0, e1, e2, e3, e4, e5, e6, ha0, ha1, hO⟩ := h
  exact ⟨gs, os, k, a, b, c, s, ka, kn, kc, pa, pn, pc, bs, h0, Nat.lt_of_lt_of_le h1 hB, (hk _ _ h1).trans e0, (hk _ _ h1).trans e1, (hk _ _ h1).trans e2, (hk _ _ h1).trans e3, (hk _ _ h1).trans e4, (hk _ _ h1).trans e5, (hk _ _ h1).trans e6, ha0, ha1, hO.up hB hk⟩

set_option maxRecDepth 100000 in
set_option maxHeartbeats 1600000 in
theorem disks_any (w : World) (ac : Option Addr) (nc cc : Nat) (ao : Option Addr) (n cap : Nat) (hcap : n ≤ cap) (hF : Few n) (hS : ∀ i, i < n → OpAt w.heap.size w ao i) :
    Calls Tryz.prog 3 #[.slice ac nc cc, .slice ao n cap] w fun e w' => e = .returned (.bool true) ∧ Below w.heap.size w w' := by
  have hKA : Keeps (fun _ => False) w (w.alloc (.cells #[.int .i64 1, .int .i64 2, .int .i64 3, .int .i64 4, .int .i64 5, .int .i64 6] 3)) := (Keeps.refl _ _).alloc _
  have hsz : (w.alloc (.cells #[.int .i64 1, .int .i64 2, .int .i64 3, .int .i64 4, .int .i64 5, .int .i64 6] 3)).heap.size = w.heap.size + 1 := by unfold World.alloc; exact Array.size_push _
  have HC := hide (plays_any (w.alloc (.cells #[.int .i64 1, .int .i64 2, .int .i64 3, .int .i64 4, .int .i64 5, .int .i64 6] 3)) ac nc cc ao n cap w.heap.size hcap hF
    (fun i hi => (hS i hi).up (by omega) (fun k x hk => hKA.cell (p := ⟨k, x, none⟩) hk (fun f => f))) (by omega)
    (fun j hj => by
      have hl := heap_alloc_last w (.cells #[.int .i64 1, .int .i64 2, .int .i64 3, .int .i64 4, .int .i64 5, .int .i64 6] 3)
      match j, hj with
      | 0, _ => exact cell_of_heap hl
      | 1, _ => exact cell_of_heap hl
      | 2, _ => exact cell_of_heap hl
      | 3, _ => exact cell_of_heap hl
      | 4, _ => exact cell_of_heap hl
      | 5, _ => exact cell_of_heap hl))
  clear hS hF hcap
  go_enter Tryz.func3, Tryz.ntmps3
  go_wp2_with (go_at_call 14; refine (unhide HC).mono ?_; rintro e w' ⟨rfl, hk⟩)
  go_ret
  have hb : Keeps (fun k => w.heap.size ≤ k) w w' := (hKA.mono (fun k _ f => False.elim f)).trans hk (fun k _ q => by rw [hsz] at q; exact Nat.le_of_succ_le q)
  exact ⟨rfl, hb.below (Nat.le_refl _)⟩

end Go.Proofs.YthbmmbgkchiajaaGreat
