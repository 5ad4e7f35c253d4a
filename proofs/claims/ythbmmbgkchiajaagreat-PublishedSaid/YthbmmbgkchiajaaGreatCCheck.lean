
/- Check, the program's and the document's: each answers whether the configuration is right. -/
import Derived.Test.YthbmmbgkchiajaaGreatBase
namespace Go.Proofs.YthbmmbgkchiajaaGreat
set_option linter.unusedSimpArgs false
set_option linter.unusedVariables false
open Go.RowKit

/-- A configuration as a value. -/
abbrev cfgv (n v r p t : Int) : Value := .agg #[.int .i64 n, .int .i64 v, .int .i64 r, .int .i64 p, .int .i64 t]

/-- Is it right? -/
def rightC (n v r p t : Int) : Bool :=
  decide (1 ≤ n ∧ n ≤ 4) && decide (1 ≤ v ∧ v ≤ 3) && decide (2 ≤ r ∧ r ≤ 6) && decide (2 ≤ p ∧ p ≤ 16) && decide (24 ≤ r * p) && decide (1 ≤ t ∧ t ≤ 8)

def chk (n v r p t : Int) : Int := if rightC n v r p t then 0 else 1

set_option maxHeartbeats 400000 in
theorem between_any (n a b : Int) (w : World) :
    Calls Tryz.prog 128 #[.int .i64 n, .int .i64 a, .int .i64 b] w fun e w' => e = .returned (.bool (decide (a ≤ n ∧ n ≤ b))) ∧ w' = w := by
  by_cases h : a ≤ n
  · have d : decide (a ≤ n) = true := by simpa using h
    go_enter Tryz.func128, Tryz.ntmps128
    go_wp2
    go_ret
    exact ⟨by simp [h], rfl⟩
  · have d : decide (a ≤ n) = false := by simpa using h
    go_enter Tryz.func128, Tryz.ntmps128
    go_wp2
    go_ret
    exact ⟨by simp, rfl⟩

theorem chk_of {n v r p t : Int} {b : Bool} (h : rightC n v r p t = b) : chk n v r p t = if b then 0 else 1 := by unfold chk; rw [h]

set_option maxRecDepth 100000 in
set_option maxHeartbeats 1600000 in
theorem pCheck_any (n v r p t : Int) (w : World) :
    Calls Tryz.prog 77 #[cfgv n v r p t] w fun e w' => e = .returned (.int .i64 (chk n v r p t)) ∧ Keeps (fun _ => False) w w' := by
  have hK : Keeps (fun _ => False) w (w.alloc (.cells #[.int .i64 n, .int .i64 v, .int .i64 r, .int .i64 p, .int .i64 t] 29)) := (Keeps.refl _ _).alloc _
  by_cases h1 : 1 ≤ n ∧ n ≤ 4
  · have d1 : decide (1 ≤ n ∧ n ≤ 4) = true := by simpa using h1
    by_cases h2 : 1 ≤ v ∧ v ≤ 3
    · have d2 : decide (1 ≤ v ∧ v ≤ 3) = true := by simpa using h2
      have hv : v = 1 ∨ v = 2 ∨ v = 3 := by omega
      by_cases h3 : 2 ≤ r ∧ r ≤ 6
      · have d3 : decide (2 ≤ r ∧ r ≤ 6) = true := by simpa using h3
        by_cases h4 : 2 ≤ p ∧ p ≤ 16
        · have d4 : decide (2 ≤ p ∧ p ≤ 16) = true := by simpa using h4
          have hr : r = 2 ∨ r = 3 ∨ r = 4 ∨ r = 5 ∨ r = 6 := by omega
          by_cases h5 : 24 ≤ r * p
          · have d5 : decide (24 ≤ r * p) = true := by simpa using h5
            by_cases h6 : 1 ≤ t ∧ t ≤ 8
            · have d6 : decide (1 ≤ t ∧ t ≤ 8) = true := by simpa using h6
              have hc : rightC n v r p t = true := by simp [rightC, d1, d2, d3, d4, d5, d6]
              rcases hv with rfl | rfl | rfl <;> rcases hr with rfl | rfl | rfl | rfl | rfl
              all_goals
                have HC := hide (chk_of hc)
                clear hc
                go_enter Tryz.func77, Tryz.ntmps77
                go_wp2_with (go_at_call 128; refine (between_any _ _ _ _).mono ?_; rintro e w' ⟨rfl, rfl⟩)
                go_ret
                exact ⟨by rw [unhide HC]; rfl, hK⟩
            · have d6 : decide (1 ≤ t ∧ t ≤ 8) = false := by simpa using h6
              have hc : rightC n v r p t = false := by simp [rightC, d6]
              rcases hv with rfl | rfl | rfl <;> rcases hr with rfl | rfl | rfl | rfl | rfl
              all_goals
                have HC := hide (chk_of hc)
                clear hc
                go_enter Tryz.func77, Tryz.ntmps77
                go_wp2_with (go_at_call 128; refine (between_any _ _ _ _).mono ?_; rintro e w' ⟨rfl, rfl⟩)
                go_ret
                exact ⟨by rw [unhide HC]; rfl, hK⟩
          · have d5 : decide (24 ≤ r * p) = false := by simpa using h5
            have hc : rightC n v r p t = false := by simp [rightC, d5]
            rcases hv with rfl | rfl | rfl <;> rcases hr with rfl | rfl | rfl | rfl | rfl
            all_goals
              have HC := hide (chk_of hc)
              clear hc
              go_enter Tryz.func77, Tryz.ntmps77
              go_wp2_with (go_at_call 128; refine (between_any _ _ _ _).mono ?_; rintro e w' ⟨rfl, rfl⟩)
              go_ret
              exact ⟨by rw [unhide HC]; rfl, hK⟩
        · have d4 : decide (2 ≤ p ∧ p ≤ 16) = false := by simpa using h4
          have hc : rightC n v r p t = false := by simp [rightC, d4]
          rcases hv with rfl | rfl | rfl
          all_goals
            have HC := hide (chk_of hc)
            clear hc
            go_enter Tryz.func77, Tryz.ntmps77
            go_wp2_with (go_at_call 128; refine (between_any _ _ _ _).mono ?_; rintro e w' ⟨rfl, rfl⟩)
            go_ret
            exact ⟨by rw [unhide HC]; rfl, hK⟩
      · have d3 : decide (2 ≤ r ∧ r ≤ 6) = false := by simpa using h3
        have hc : rightC n v r p t = false := by simp [rightC, d3]
        rcases hv with rfl | rfl | rfl
        all_goals
          have HC := hide (chk_of hc)
          clear hc
          go_enter Tryz.func77, Tryz.ntmps77
          go_wp2_with (go_at_call 128; refine (between_any _ _ _ _).mono ?_; rintro e w' ⟨rfl, rfl⟩)
          go_ret
          exact ⟨by rw [unhide HC]; rfl, hK⟩
    · have d2 : decide (1 ≤ v ∧ v ≤ 3) = false := by simpa using h2
      have hc : rightC n v r p t = false := by simp [rightC, d2]
      have b1 : (v == 1) = false := by simp; omega
      have b2 : (v == 2) = false := by simp; omega
      have b3 : (v == 3) = false := by simp; omega
      have HC := hide (chk_of hc)
      clear hc
      go_enter Tryz.func77, Tryz.ntmps77
      go_wp2_with (go_at_call 128; refine (between_any _ _ _ _).mono ?_; rintro e w' ⟨rfl, rfl⟩)
      go_ret
      exact ⟨by rw [unhide HC]; rfl, hK⟩
  · have d1 : decide (1 ≤ n ∧ n ≤ 4) = false := by simpa using h1
    have hc : rightC n v r p t = false := by simp [rightC, d1]
    have HC := hide (chk_of hc)
    clear hc
    go_enter Tryz.func77, Tryz.ntmps77
    go_wp2_with (go_at_call 128; refine (between_any _ _ _ _).mono ?_; rintro e w' ⟨rfl, rfl⟩)
    go_ret
    exact ⟨by rw [unhide HC]; rfl, hK⟩

end Go.Proofs.YthbmmbgkchiajaaGreat
