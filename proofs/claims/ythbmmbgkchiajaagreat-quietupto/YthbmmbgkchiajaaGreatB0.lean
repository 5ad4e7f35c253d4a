import Derived.Test.YthbmmbgkchiajaaGreatD7
import Derived.Test.YthbmmbgkchiajaaGreatA9
set_option maxRecDepth 100000
set_option maxHeartbeats 8000000
set_option linter.all false
open Go renaming World→ah,Value→ai
open Option renaming some→aa
namespace Go.Proofs.YthbmmbgkchiajaaGreat
open Go.Conc Go.Conc.Lib Go.ConcN Go.ConcN.Gen Go.ConcR.Gen Go.Proofs.Ren Go.Proofs.Tryz Go.RowKit Tryz
open Go.ConcR (Payload DC0 KK WgAt stA smA)
structure A0(W:ah)(cv:Array ai)(w:ah):Prop where
 old:∀b,b<W.heap.size->w.heap[b]?=W.heap[b]?
 box:w.heap[W.heap.size]?=aa (.cells cv 32 (0,0))
 os:EO w=EO W
def A0.at{W w b:ah}{a:Array ai}(h:A0 W a w)(r:AtRel w b):A0 W a b:=by obtain⟨d,rfl⟩:=r;exact⟨h.old,h.box,h.os⟩
def I'(W:ah)(v:ai)(w:ah):Prop:=v=.bool true/\W.heap.size<=w.heap.size/\EO w=EO W/\∀b,b<W.heap.size->w.heap[b]?=W.heap[b]?
