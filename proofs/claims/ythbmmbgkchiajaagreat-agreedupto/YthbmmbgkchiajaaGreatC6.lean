/- Agreed (P23): whatever a case is and whatever is called, with crashes and power failures wherever they come and Rounds of several goroutines under every schedule, no two events of its cluster tell different outcomes of a transaction; said for every input of bulk at most 1048576, with no other condition. The texts before this one hold the proof, set small by a program for a claim's size: short names, one row a declaration. -/
import Derived.Test.YthbmmbgkchiajaaGreatC5
set_option maxRecDepth 100000
set_option maxHeartbeats 8000000
set_option linter.all false
namespace Go.Proofs.YthbmmbgkchiajaaGreat
open Go.Proofs.Ren Go.Proofs.Tryz Tryz
def aw6:Rows.agreedUptoRow.holds pinned (Rows.OpenSpec.upto Rows.agreedSpec):=aBV 9 f9 aS aS aS aS aS aS aS ⟨aS,aS,aS,aS,aS⟩ aS aS aS aS aS aAk func9 awJ (ali aN) (by unfold Func.isWrapper;first|(rw[bw (by decide+kernel)];kernel_rfl)|(rw[br (by decide+kernel)];exact⟨aS,aS⟩)) (λc a H b _ F=>axr c a H b F)
theorem agreed_proved:Rows.AgreedUptoSaid:=aw6
