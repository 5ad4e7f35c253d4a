
/- Read, of the document. -/
import Derived.Test.YtbeaoomogghboaaRWrite
namespace Go.Proofs.Ytbeaoomogghboaa
open Go.RowKit

theorem ret_str {s t : ByteArray} {n : Int} (h : s = t) : Ending.returned (.tuple #[.string s, .int .i64 n]) = .returned (.tuple #[.string t, .int .i64 n]) := by rw [h]

end Go.Proofs.Ytbeaoomogghboaa
