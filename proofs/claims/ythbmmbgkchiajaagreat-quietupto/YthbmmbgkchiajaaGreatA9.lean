import Derived.Test.YthbmmbgkchiajaaGreatD4
set_option maxRecDepth 100000
set_option maxHeartbeats 8000000
set_option linter.all false
namespace Go.Proofs.YthbmmbgkchiajaaGreat
open Go.RowKit Tryz
def asF{a:dl}{K:KM}(d:uG a)(c:Started a a.nodes K.ns)(k:K.bn=[])(_:K.trace=[]):KL a K:=by refine⟨c.1,d.nodes.2,λp n h=>?_,λm b=>?_,λn b=>?_,λn b=>?_⟩;obtain⟨j,f,g,rfl⟩:=c.2 p n h;exact axy d.bK d.aY.1 (by rw[<-c.1];exact(fl.1 h).1) d.nodes.2;rw[k]at b;cases b;have⟨i,e⟩:=Jf.1 b;obtain⟨j,f,g,rfl⟩:=c.2 i n e;rfl;have⟨i,e⟩:=Jf.1 b;obtain⟨j,f,g,rfl⟩:=c.2 i n e;rfl
