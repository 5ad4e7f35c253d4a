
/- The document's Check. -/
import Derived.Test.YthbmmbgkchiajaaGreatCCheck
namespace Go.Proofs.YthbmmbgkchiajaaGreat
set_option linter.unusedSimpArgs false
set_option linter.unusedVariables false
open Go.RowKit

set_option maxRecDepth 100000 in
set_option maxHeartbeats 1600000 in
theorem rCheck_any (n v r p t : Int) (w : World) :
    Calls Tryz.prog 78 #[cfgv n v r p t] w fun e w' => e = .returned (.int .i64 (chk n v r p t)) ∧ Keeps (fun _ => False) w w' := by
  have hK : Keeps (fun _ => False) w (w.alloc (.cells #[.int .i64 n, .int .i64 v, .int .i64 r, .int .i64 p, .int .i64 t] 29)) := (Keeps.refl _ _).alloc _
  by_cases g0 : n < 1
  · have d0 : decide (n < 1) = true := by simpa using g0
    have hc : rightC n v r p t = false := by simp [rightC]; omega
    have HC := hide (chk_of hc)
    clear hc
    go_enter Tryz.func78, Tryz.ntmps78
    go_wp2
    go_ret
    exact ⟨by rw [unhide HC]; rfl, hK⟩
  have d0 : decide (n < 1) = false := by simpa using g0
  by_cases g1 : 4 < n
  · have d1 : decide (4 < n) = true := by simpa using g1
    have hc : rightC n v r p t = false := by simp [rightC]; omega
    have HC := hide (chk_of hc)
    clear hc
    go_enter Tryz.func78, Tryz.ntmps78
    go_wp2
    go_ret
    exact ⟨by rw [unhide HC]; rfl, hK⟩
  have d1 : decide (4 < n) = false := by simpa using g1
  by_cases g2 : v < 1
  · have d2 : decide (v < 1) = true := by simpa using g2
    have hc : rightC n v r p t = false := by simp [rightC]; omega
    have HC := hide (chk_of hc)
    clear hc
    go_enter Tryz.func78, Tryz.ntmps78
    go_wp2
    go_ret
    exact ⟨by rw [unhide HC]; rfl, hK⟩
  have d2 : decide (v < 1) = false := by simpa using g2
  by_cases g3 : 3 < v
  · have d3 : decide (3 < v) = true := by simpa using g3
    have hc : rightC n v r p t = false := by simp [rightC]; omega
    have HC := hide (chk_of hc)
    clear hc
    go_enter Tryz.func78, Tryz.ntmps78
    go_wp2
    go_ret
    exact ⟨by rw [unhide HC]; rfl, hK⟩
  have d3 : decide (3 < v) = false := by simpa using g3
  by_cases g4 : t < 1
  · have d4 : decide (t < 1) = true := by simpa using g4
    have hc : rightC n v r p t = false := by simp [rightC]; omega
    have HC := hide (chk_of hc)
    clear hc
    go_enter Tryz.func78, Tryz.ntmps78
    go_wp2
    go_ret
    exact ⟨by rw [unhide HC]; rfl, hK⟩
  have d4 : decide (t < 1) = false := by simpa using g4
  by_cases g5 : 8 < t
  · have d5 : decide (8 < t) = true := by simpa using g5
    have hc : rightC n v r p t = false := by simp [rightC]; omega
    have HC := hide (chk_of hc)
    clear hc
    go_enter Tryz.func78, Tryz.ntmps78
    go_wp2
    go_ret
    exact ⟨by rw [unhide HC]; rfl, hK⟩
  have d5 : decide (8 < t) = false := by simpa using g5
  by_cases g6 : r < 2
  · have d6 : decide (r < 2) = true := by simpa using g6
    have hc : rightC n v r p t = false := by simp [rightC]; omega
    have HC := hide (chk_of hc)
    clear hc
    go_enter Tryz.func78, Tryz.ntmps78
    go_wp2
    go_ret
    exact ⟨by rw [unhide HC]; rfl, hK⟩
  have d6 : decide (r < 2) = false := by simpa using g6
  by_cases g7 : 6 < r
  · have d7 : decide (6 < r) = true := by simpa using g7
    have hc : rightC n v r p t = false := by simp [rightC]; omega
    have HC := hide (chk_of hc)
    clear hc
    go_enter Tryz.func78, Tryz.ntmps78
    go_wp2
    go_ret
    exact ⟨by rw [unhide HC]; rfl, hK⟩
  have d7 : decide (6 < r) = false := by simpa using g7
  by_cases g8 : p < 2
  · have d8 : decide (p < 2) = true := by simpa using g8
    have hc : rightC n v r p t = false := by simp [rightC]; omega
    have HC := hide (chk_of hc)
    clear hc
    go_enter Tryz.func78, Tryz.ntmps78
    go_wp2
    go_ret
    exact ⟨by rw [unhide HC]; rfl, hK⟩
  have d8 : decide (p < 2) = false := by simpa using g8
  by_cases g9 : 16 < p
  · have d9 : decide (16 < p) = true := by simpa using g9
    have hc : rightC n v r p t = false := by simp [rightC]; omega
    have HC := hide (chk_of hc)
    clear hc
    go_enter Tryz.func78, Tryz.ntmps78
    go_wp2
    go_ret
    exact ⟨by rw [unhide HC]; rfl, hK⟩
  have d9 : decide (16 < p) = false := by simpa using g9
  have hr : r = 2 ∨ r = 3 ∨ r = 4 ∨ r = 5 ∨ r = 6 := by omega
  by_cases h5 : r * p < 24
  · have d5 : decide (r * p < 24) = true := by simpa using h5
    have hc : rightC n v r p t = false := by
      have e5 : decide (24 ≤ r * p) = false := by simpa using h5
      simp [rightC, e5]
    rcases hr with rfl | rfl | rfl | rfl | rfl
    all_goals
      have HC := hide (chk_of hc)
      clear hc
      go_enter Tryz.func78, Tryz.ntmps78
      go_wp2
      go_ret
      exact ⟨by rw [unhide HC]; rfl, hK⟩
  · have d5 : decide (r * p < 24) = false := by simpa using h5
    have hc : rightC n v r p t = true := by
      have e5 : decide (24 ≤ r * p) = true := by simpa using h5
      have e1 : decide (1 ≤ n ∧ n ≤ 4) = true := by simp; omega
      have e2 : decide (1 ≤ v ∧ v ≤ 3) = true := by simp; omega
      have e3 : decide (2 ≤ r ∧ r ≤ 6) = true := by simp; omega
      have e4 : decide (2 ≤ p ∧ p ≤ 16) = true := by simp; omega
      have e6 : decide (1 ≤ t ∧ t ≤ 8) = true := by simp; omega
      simp [rightC, e1, e2, e3, e4, e5, e6]
    rcases hr with rfl | rfl | rfl | rfl | rfl
    all_goals
      have HC := hide (chk_of hc)
      clear hc
      go_enter Tryz.func78, Tryz.ntmps78
      go_wp2
      go_ret
      exact ⟨by rw [unhide HC]; rfl, hK⟩

end Go.Proofs.YthbmmbgkchiajaaGreat
