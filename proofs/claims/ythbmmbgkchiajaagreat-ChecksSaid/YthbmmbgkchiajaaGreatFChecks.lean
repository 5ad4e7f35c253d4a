
/- The closed facts of the row of Checks. -/
import Derived.Test.YthbmmbgkchiajaaGreatFacts
namespace Go.Proofs.YthbmmbgkchiajaaGreat

theorem checks_at : Tryz.prog.funcNamed Rows.checksRow.func = some 5 := by kernel_rfl
theorem checks_inPlace : (Rows.checksRow.inPlace == Tryz.prog.inPlace 5) = true := by kernel_rfl
theorem checks_unfollowed : (Rows.checksRow.unfollowed == Tryz.prog.unfollowed 5) = true := by kernel_rfl
theorem checks_recurses : (Rows.checksRow.recurses == Tryz.prog.recurses 5) = true := by kernel_rfl
theorem checks_named : (Rows.checksRow.named == Tryz.prog.varsNamed 5) = true := by kernel_rfl

theorem checks_closed : joinedFacts Tryz.prog 5 Tryz.f5 Rows.checksSpec Rows.checksRow = true := by
  unfold joinedFacts
  exact (and_tt (and_tt (and_tt (and_tt (and_tt (and_tt (and_tt (and_tt (and_tt (and_tt (and_tt (and_tt (and_tt (and_tt (and_tt (and_tt (and_tt (and_tt (and_tt (and_tt (and_tt (and_tt (and_tt (and_tt (and_tt (and_tt (and_tt (and_tt (and_tt (and_tt (and_tt (by kernel_rfl) (by kernel_rfl)) (by kernel_rfl)) (by kernel_rfl)) (by kernel_rfl)) (by kernel_rfl)) (by kernel_rfl)) (by kernel_rfl)) (by kernel_rfl)) checks_inPlace) checks_unfollowed) checks_recurses) checks_named) (by kernel_rfl)) (by kernel_rfl)) (by kernel_rfl)) (by kernel_rfl)) (by kernel_rfl)) (by kernel_rfl)) (by kernel_rfl)) (by kernel_rfl)) (by kernel_rfl)) (by kernel_rfl)) (by kernel_rfl)) (by kernel_rfl)) (by kernel_rfl)) (by kernel_rfl)) (by kernel_rfl)) (by kernel_rfl)) (by kernel_rfl)) (by kernel_rfl)) (by kernel_rfl))

end Go.Proofs.YthbmmbgkchiajaaGreat
