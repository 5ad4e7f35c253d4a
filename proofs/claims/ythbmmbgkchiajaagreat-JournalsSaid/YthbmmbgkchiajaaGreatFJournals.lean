
/- The closed facts of the row of Journals. -/
import Derived.Test.YthbmmbgkchiajaaGreatFacts
namespace Go.Proofs.YthbmmbgkchiajaaGreat

theorem journals_at : Tryz.prog.funcNamed Rows.journalsRow.func = some 4 := by kernel_rfl
theorem journals_inPlace : (Rows.journalsRow.inPlace == Tryz.prog.inPlace 4) = true := by kernel_rfl
theorem journals_unfollowed : (Rows.journalsRow.unfollowed == Tryz.prog.unfollowed 4) = true := by kernel_rfl
theorem journals_recurses : (Rows.journalsRow.recurses == Tryz.prog.recurses 4) = true := by kernel_rfl
theorem journals_named : (Rows.journalsRow.named == Tryz.prog.varsNamed 4) = true := by kernel_rfl

theorem journals_closed : joinedFacts Tryz.prog 4 Tryz.f4 Rows.journalsSpec Rows.journalsRow = true := by
  unfold joinedFacts
  exact (and_tt (and_tt (and_tt (and_tt (and_tt (and_tt (and_tt (and_tt (and_tt (and_tt (and_tt (and_tt (and_tt (and_tt (and_tt (and_tt (and_tt (and_tt (and_tt (and_tt (and_tt (and_tt (and_tt (and_tt (and_tt (and_tt (and_tt (and_tt (and_tt (and_tt (and_tt (by kernel_rfl) (by kernel_rfl)) (by kernel_rfl)) (by kernel_rfl)) (by kernel_rfl)) (by kernel_rfl)) (by kernel_rfl)) (by kernel_rfl)) (by kernel_rfl)) journals_inPlace) journals_unfollowed) journals_recurses) journals_named) (by kernel_rfl)) (by kernel_rfl)) (by kernel_rfl)) (by kernel_rfl)) (by kernel_rfl)) (by kernel_rfl)) (by kernel_rfl)) (by kernel_rfl)) (by kernel_rfl)) (by kernel_rfl)) (by kernel_rfl)) (by kernel_rfl)) (by kernel_rfl)) (by kernel_rfl)) (by kernel_rfl)) (by kernel_rfl)) (by kernel_rfl)) (by kernel_rfl)) (by kernel_rfl))

end Go.Proofs.YthbmmbgkchiajaaGreat
