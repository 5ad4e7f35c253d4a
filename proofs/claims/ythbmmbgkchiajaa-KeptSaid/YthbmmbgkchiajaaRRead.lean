
/- Read, of the document. -/
import Derived.Test.YthbmmbgkchiajaaRWrite
namespace Go.Proofs.Ythbmmbgkchiajaa
open Go.RowKit

theorem ret_str {s t : ByteArray} {n : Int} (h : s = t) : Ending.returned (.tuple #[.string s, .int .i64 n]) = .returned (.tuple #[.string t, .int .i64 n]) := by rw [h]

end Go.Proofs.Ythbmmbgkchiajaa
