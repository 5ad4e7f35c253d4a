
/- The walk of keepsBytes. -/
import Derived.Test.YthbmmbgkchiajaaGreatKeeps4
namespace Go.Proofs.YthbmmbgkchiajaaGreat
open Go.RowKit

attribute [local go_sem ↓] bytesAppend_eq rowAppend_eq

set_option maxRecDepth 100000 in
set_option maxHeartbeats 400000 in
theorem keepsBytes_walk (T : Nat → Prop) (p nl : Nat) (ao : Option Addr) (vcs vvs vks vb v4 v5 v6 : Value) (ls : List Value) (w : World)
    (hp : w.heap[p]? = some (.cells #[vcs, vvs, vks, vb, v4, v5, v6] 79 (0, 0))) (hrow : Own T w 138 1 vb ls.length ls) (hpT : ¬ T p) (hN : (ls.length + 4) * 24 ≤ 140737488355328)
    (hl : (nl = 0 ∧ ao = none) ∨ ∃ g cs e, ao = some ⟨g, 0, none⟩ ∧ w.heap[g]? = some (.cells cs e (0, 0)) ∧ nl ≤ cs.size ∧ g ≠ p ∧ ¬ T g) (hnl : nl ≤ 1000) :
    Calls Tryz.prog 194 #[.pointer (some ⟨p, 3, none⟩), .slice ao nl nl] w fun e w' => e = .returned (.tuple #[]) ∧
      ∃ wr w3 vb' x1 x2 x3, KRel ao nl (.int .u8 (200 + (ls.length : Int) / 4 % 50)) w nl wr ∧ Keeps (fun _ => False) wr w3 ∧
        NewList wr w3 (.int .u8 (200 + (ls.length : Int) / 4 % 50)) (nl + 1) x1 ∧ NewList wr w3 (.int .u8 (200 + (ls.length : Int) / 4 % 50)) (nl + 2) x2 ∧ NewList wr w3 (.int .u8 (200 + (ls.length : Int) / 4 % 50)) (nl + 3) x3 ∧
        w'.heap[p]? = some (.cells #[vcs, vvs, vks, vb', v4, v5, v6] 79 (0, 0)) ∧
        Own (fun k => (T k ∧ k < w.heap.size) ∨ w3.heap.size ≤ k) w' 138 1 vb' (ls.length + 4) (ls ++ [.slice ao nl nl] ++ [x1] ++ [x2] ++ [x3]) ∧
        Keeps (fun k => k = p ∨ (T k ∧ k < w.heap.size) ∨ w3.heap.size ≤ k) w3 w' := by
  have hh0 : ao = none → nl = 0 := fun e => by
    rcases hl with h | ⟨g, cs, e', h1, _⟩
    · exact h.1
    · rw [e] at h1; cases h1
  have hR0 : KRel ao nl (.int .u8 (200 + (ls.length : Int) / 4 % 50)) w 0 w := by
    refine ⟨Keeps.refl _ _, ?_⟩
    rcases hl with h | ⟨g, cs, e, h1, h2, h3, h4⟩
    · exact .inl h.1
    · exact .inr ⟨g, cs, e, h1, h2, h3, fun i hi => by omega⟩
  obtain ⟨ab, cb, rfl, hcb⟩ := hrow.len
  have c3 := cell_of_heap (o := 3) hp
  simp at c3
  have hplt := lt_of_heap hp
  obtain ⟨i8, hi8, hz80, hz81, hz82⟩ := info_parts infoU8
  obtain ⟨iB, hiB, hzB0, hzB1, hzB2⟩ := info_parts infoBytes
  have HR0 := hide hR0
  have HROW := hide hrow
  have HH0 := hide hh0
  have HL := hide hl
  have HP := hide hp
  clear hR0 hrow hh0 hl hp
  go_enter Tryz.func194, Tryz.ntmps194
  go_wp2_with (go_at_call 81; refine (markByte_any ls.length _ (by omega)).mono ?_; rintro e w' ⟨rfl, rfl⟩)
  go_loopw [5] (fun i wr => ∃ j : Nat, j ≤ nl ∧ i = .int .i64 j ∧ KRel ao nl (.int .u8 (200 + (ls.length : Int) / 4 % 50)) w' j wr) (fun i _ => nl - (intOf i).toNat)
  case atStart => exact ⟨0, Nat.zero_le _, rfl, unhide HR0⟩
  case round =>
    obtain ⟨j, hj, rfl, hR⟩ := hrel
    have HR := hide hR
    by_cases hlt : j < nl
    · rcases hR.2 with h2 | ⟨g, cur, e, a1, a2, a3, a4⟩
      · omega
      · subst a1
        have hc := cell_of_heap (o := j) a2
        have hf := frozen_of_heap (o := j) a2
        rw [Array.getElem?_eq_getElem (by omega)] at hc
        clear hR a4
        go_wp2
        go_roundw
        case rel => exact ⟨j + 1, by omega, by go_num, krel_step (unhide HR) hlt rfl⟩
        case measure => simp [intOf]; omega
    · have hjn : j = nl := by omega
      subst hjn
      have hpao : ¬ (ao = some ⟨p, 0, none⟩) := by
        intro e
        rcases unhide HL with h | ⟨g, cs, e', h1, _, _, h4, _⟩
        · rw [h.2] at e; cases e
        · rw [h1] at e; cases e; exact h4 rfl
      have hpr := hR.1.heap (unhide HP) hpao
      have hszr := hR.1.size
      have hrowr : Own (fun k => T k ∧ k < w'.heap.size) wr 138 1 (.slice ab ls.length cb) ls.length ls := by
        refine ((unhide HROW).mono (T := fun k => T k ∧ k < w'.heap.size) (fun k h1 h2 => ⟨h2, h1⟩)).keep hR.1 (fun k _ h e => ?_)
        rcases unhide HL with h' | ⟨g, cs, e', h1, _, _, _, h5⟩
        · rw [h'.2] at e; cases e
        · rw [h1] at e; cases e; exact h5 h.1
      have HPR := hide hpr
      have HROWR := hide hrowr
      have hpltr := lt_of_heap hpr
      clear hR hpr hrowr
      generalize hm : (200 + (ls.length : Int) / 4 % 50) = m at *
      have HM := hide hm
      clear hm
      obtain ⟨g1, cp1, w1, g2, cp2, w2, g3, cp3, w3, q4, c4, w4, q5, c5, w5, q6, c6, w6, q7, c7, w7, run1, run2, run3, run4, run5, run6, run7, d3, cc4, ff4, cc5, ff5, cc6, ff6, cc7, ff7, HH⟩ := chain (unhide HR) (unhide HH0) hnl (unhide HPR) (unhide HROWR) hpT hplt hN
      go_wp2
      go_end0
      obtain ⟨e1, e2, e3, e4, e5, e6, e7⟩ := unhide HH
      have em := unhide HM
      subst em
      exact ⟨rfl, wr, w3, _, _, _, _, unhide HR, e1, e2, e3, e4, e5, e6, e7⟩

end Go.Proofs.YthbmmbgkchiajaaGreat
