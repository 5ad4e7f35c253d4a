
/- The closed facts of the row of Disks. -/
import Derived.Test.YthbmmbgkchiajaaGreatFacts
namespace Go.Proofs.YthbmmbgkchiajaaGreat

theorem disks_at : Tryz.prog.funcNamed Rows.disksRow.func = some 3 := by kernel_rfl
theorem disks_inPlace : (Rows.disksRow.inPlace == Tryz.prog.inPlace 3) = true := by kernel_rfl
theorem disks_unfollowed : (Rows.disksRow.unfollowed == Tryz.prog.unfollowed 3) = true := by kernel_rfl
theorem disks_recurses : (Rows.disksRow.recurses == Tryz.prog.recurses 3) = true := by kernel_rfl
theorem disks_named : (Rows.disksRow.named == Tryz.prog.varsNamed 3) = true := by kernel_rfl

theorem disks_closed : joinedFacts Tryz.prog 3 Tryz.f3 Rows.disksSpec Rows.disksRow = true := by
  unfold joinedFacts
  exact (and_tt (and_tt (and_tt (and_tt (and_tt (and_tt (and_tt (and_tt (and_tt (and_tt (and_tt (and_tt (and_tt (and_tt (and_tt (and_tt (and_tt (and_tt (and_tt (and_tt (and_tt (and_tt (and_tt (and_tt (and_tt (and_tt (and_tt (and_tt (and_tt (and_tt (and_tt (by kernel_rfl) (by kernel_rfl)) (by kernel_rfl)) (by kernel_rfl)) (by kernel_rfl)) (by kernel_rfl)) (by kernel_rfl)) (by kernel_rfl)) (by kernel_rfl)) disks_inPlace) disks_unfollowed) disks_recurses) disks_named) (by kernel_rfl)) (by kernel_rfl)) (by kernel_rfl)) (by kernel_rfl)) (by kernel_rfl)) (by kernel_rfl)) (by kernel_rfl)) (by kernel_rfl)) (by kernel_rfl)) (by kernel_rfl)) (by kernel_rfl)) (by kernel_rfl)) (by kernel_rfl)) (by kernel_rfl)) (by kernel_rfl)) (by kernel_rfl)) (by kernel_rfl)) (by kernel_rfl)) (by kernel_rfl))

end Go.Proofs.YthbmmbgkchiajaaGreat
