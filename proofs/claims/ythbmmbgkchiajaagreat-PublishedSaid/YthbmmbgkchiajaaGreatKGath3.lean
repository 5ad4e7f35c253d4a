
/- What a node has done is taken in: whatever it is. -/
import Derived.Test.YthbmmbgkchiajaaGreatKGath2
namespace Go.Proofs.YthbmmbgkchiajaaGreat
set_option linter.unusedSimpArgs false
set_option linter.unusedVariables false
open Go.RowKit
attribute [local go_sem ↓] evApp_eq

set_option maxRecDepth 100000 in
set_option maxHeartbeats 1000000 in
theorem gather_nil (c : Nat → CTag) (pk B : Nat) (K : KM) (w : World) (h : KAt c w pk K B) :
    Calls Tryz.prog 49 #[.pointer (some ⟨pk, 0, none⟩), .slice none 0 0] w fun e w' => e = .returned (.tuple #[]) ∧ KFine c w pk K B w' := by
  obtain ⟨vr, vn, vt, g⟩ := h
  obtain ⟨b, q, z, hv, hq⟩ : ∃ b q z, vt = .slice b q z ∧ q ≤ z := by
    rcases g.trace.1.2 with ⟨e, _⟩ | ⟨_, _, _, e, _, _, hc, _⟩
    · exact ⟨_, _, _, e, Nat.le_refl _⟩
    · exact ⟨_, _, _, e, hc⟩
  subst hv
  have r0 := run_evApp_nil w b q z hq
  have hself := g.self
  have c2 := cell_of_heap (o := 2) hself
  have f2 := frozen_of_heap (o := 2) hself
  simp at c2
  have HP : Hid (KFine c w pk K B (w.setCell ⟨pk, 2, none⟩ (.slice b q z))) := hide (by
    have := g.tracePost (w1 := w) (v' := .slice b q z) (H := w.heap.size) [] g.small.2.1 (Keeps.refl _ _) (by simpa using g.trace.1) (.inl rfl) (Nat.le_refl _)
    simpa using this)
  clear g
  go_enter Tryz.func49, Tryz.ntmps49
  go_wp2
  go_loopw [8] (fun i wr => i = .int .i64 0 ∧ wr = w) (fun _ _ => 0)
  case atStart => exact ⟨rfl, rfl⟩
  case round =>
    obtain ⟨rfl, hwr⟩ := hrel
    subst hwr
    go_wp2
    go_end0
    exact ⟨rfl, unhide HP⟩

theorem gather_all (c : Nat → CTag) (pk B : Nat) (ve : Value) (K : KM) (l : List Ev) (w : World) (h : KAt c w pk K B) (hl : l.length ≤ 1000) (hev : w.ownsRow 0 56 12 ve l.length (l.flatMap evCells)) (hg : ∀ k, ve.ownBlock = some k → c k ≠ .self ∧ c k ≠ .net ∧ c k ≠ .trace) (hB : B + l.length + 1000 ≤ 1099511627776) :
    Calls Tryz.prog 49 #[.pointer (some ⟨pk, 0, none⟩), ve] w fun e w' => e = .returned (.tuple #[]) ∧ KFine c w pk { K with net := K.net ++ sentOf l, trace := K.trace ++ l } (B + l.length) w' := by
  rcases hev.2 with ⟨e, e0⟩ | ⟨g, cap, cur, e, _, _, hc, _⟩
  · subst e
    have : l = [] := List.length_eq_zero_iff.1 e0
    subst this
    have := gather_nil c pk B K w h
    simpa [sentOf] using this
  · subst e
    exact gather_any c pk B g cap K l w h hl hc hev (hg g rfl) hB

end Go.Proofs.YthbmmbgkchiajaaGreat
