
/- The closed facts that the rows ask: each reckoned by itself. -/
import Derived.Test.YthbmmbgkchiajaaGreatRows
import Derived.JoinedOf
import Derived.KernelRfl
namespace Go.Proofs.YthbmmbgkchiajaaGreat

theorem and_tt {a b : Bool} (h : a = true) (k : b = true) : (a && b) = true := by rw [h, k]; rfl

end Go.Proofs.YthbmmbgkchiajaaGreat
