
/- The closed facts of the row of Published. -/
import Derived.Test.YthbmmbgkchiajaaGreatLift
namespace Go.Proofs.YthbmmbgkchiajaaGreat
set_option linter.unusedSimpArgs false
set_option linter.unusedVariables false

theorem published_at : Tryz.prog.funcNamed Rows.publishedRow.func = some 7 := by kernel_rfl
theorem published_inPlace : (Rows.publishedRow.inPlace == Tryz.prog.inPlace 7) = true := by kernel_rfl
theorem published_unfollowed : (Rows.publishedRow.unfollowed == Tryz.prog.unfollowed 7) = true := by kernel_rfl
theorem published_recurses : (Rows.publishedRow.recurses == Tryz.prog.recurses 7) = true := by kernel_rfl
theorem published_named : (Rows.publishedRow.named == Tryz.prog.varsNamed 7) = true := by kernel_rfl

theorem published_closed : joinedFacts Tryz.prog 7 Tryz.f7 Rows.publishedSpec Rows.publishedRow = true := by
  unfold joinedFacts
  exact (and_tt (and_tt (and_tt (and_tt (and_tt (and_tt (and_tt (and_tt (and_tt (and_tt (and_tt (and_tt (and_tt (and_tt (and_tt (and_tt (and_tt (and_tt (and_tt (and_tt (and_tt (and_tt (and_tt (and_tt (and_tt (and_tt (and_tt (and_tt (and_tt (and_tt (and_tt (by kernel_rfl) (by kernel_rfl)) (by kernel_rfl)) (by kernel_rfl)) (by kernel_rfl)) (by kernel_rfl)) (by kernel_rfl)) (by kernel_rfl)) (by kernel_rfl)) published_inPlace) published_unfollowed) published_recurses) published_named) (by kernel_rfl)) (by kernel_rfl)) (by kernel_rfl)) (by kernel_rfl)) (by kernel_rfl)) (by kernel_rfl)) (by kernel_rfl)) (by kernel_rfl)) (by kernel_rfl)) (by kernel_rfl)) (by kernel_rfl)) (by kernel_rfl)) (by kernel_rfl)) (by kernel_rfl)) (by kernel_rfl)) (by kernel_rfl)) (by kernel_rfl)) (by kernel_rfl)) (by kernel_rfl))

end Go.Proofs.YthbmmbgkchiajaaGreat
