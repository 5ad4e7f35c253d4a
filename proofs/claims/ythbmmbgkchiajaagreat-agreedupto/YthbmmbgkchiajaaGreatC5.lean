import Derived.Test.YthbmmbgkchiajaaGreatRows
import Derived.Test.YthbmmbgkchiajaaGreatC4
set_option maxRecDepth 100000
set_option maxHeartbeats 8000000
set_option linter.all false
namespace Go.Proofs.YthbmmbgkchiajaaGreat
open Go.ChangeAt Go.ChangeShapes Go.Conc Go.ConcN Go.ConcN.Gen Go.ConcR.Gen Go.Proofs.Ren Go.Proofs.Tryz Go.RowKit Go.WideShapes Tryz
def own:ownKnob prog.godebug=none:=aN
def aCc:laidOutB prog=true:=aN
def iA{a b:Bool}(h:a=true)(k:b=true):(a&&b)=true:=by rw[h,k];rfl
section
variable{H:Type}
def awK(d:DataW H):1<=Rows.uptoBulk d:=by cases d with|lit l=>cases l<;>simp[Rows.uptoBulk]|_=>simp[Rows.uptoBulk]
def Ks:∀{l:List (DataW H)}{d:DataW H},d∈l->Rows.uptoBulk d<=Rows.uptoBulkAll l|e::r,d,h=>by rcases jO.1 h with rfl|h;simp[Rows.uptoBulkAll];have:=Ks h;simp[Rows.uptoBulkAll];omega
def afP:∀l:List (DataW H),l.length<=Rows.uptoBulkAll l|[]=>cy _|d::r=>by have a:=awK d;have b:=afP r;simp[Rows.uptoBulkAll,lG];omega
def wS(d:DataW H):Prop:=Rows.uptoBulk d<=1048576
def awC(a c:List (DataW H))(h:wS (.slice a c)):a.length<=1048576/\∀d∈a,wS d:=by unfold wS at h;simp[Rows.uptoBulk]at h;have:=afP a;exact⟨aM,λd b=>by have:=Ks b;unfold wS;omega⟩
def ab3(a:List (DataW H))(h:wS (.agg a)):∀d∈a,wS d:=λd b=>by unfold wS at h⊢;simp[Rows.uptoBulk]at h;have:=Ks b;omega
def alW{l:List (DataW H)}(h:Rows.uptoSmall H l=true):∀d∈l,wS d:=λd a=>by have b:=ali h;have:=Ks a;unfold wS;omega
end
def ao6:prog.cellTypes prog.depth 32=some [3,3,3,3,3,30]:=aN
section
variable{H:Type}{enc:TypeId×Value->H}{W:World}
theorem ayz{n e c:Nat}{f:Bool}{y:Array Value}{x:DataW H×List MemPlace}(h:DataW.trod enc prog W e (λ_=>true) f n 32 y.toList=some x)(V:wS x.1)(A:Row.okWide prog W .any c 32 y):∃(X Y Z q3 q4:Int) (z:Option Addr) (d i:Nat),y=#[.int .i64 X,.int .i64 Y,.int .i64 Z,.int .i64 q3,.int .i64 q4,.slice z d i]/\IY (Rw W) W (.slice z d i) d/\d<=1048576:=by obtain⟨K,q,rfl,rfl,T,v,I⟩:=ak2 underlying32 h;have⟨c0,C,D,E,F,w,S⟩:=alT<|T.trans am3;(obtain rfl:y=#[c0,C,D,E,F,w]:=by grind);(obtain⟨y0,y1,rfl⟩:∃a b,K=[a,b]:=by match K,v with|[a,b],_=>exact⟨a,b,aS⟩);(have O:DataW.trod enc prog W e (λ_=>true) f q 29 [c0,C,D,E,F]=some y0:=by simpa[aw7]using I 0 _ aS);(have P:DataW.trod enc prog W e (λ_=>true) f q 30 [w]=some y1:=by simpa[aqH]using I 1 _ aS);(have j:Cell.okWide prog W .any c 30 w:=by have⟨ts,G,_,L⟩:=A;rw[ao6]at G;cases G;have⟨u,M,N⟩:=L 5 w aS;cases M;exact N);obtain⟨z,d,i,rfl⟩:=okWide_slice Na (by unfold Value.okWide;rw[Na];exact j);obtain⟨xs',q',rfl,rfl,U,k,g⟩:=ak2 underlying29 O;obtain⟨x0,x1,x2,x3,x4,rfl⟩:=PT k;obtain⟨k0,m,_,_⟩:=AK uh (by simpa[yN]using g 0 _ aS);obtain⟨k1,o,_,_⟩:=AK uh (by simpa[yN]using g 1 _ aS);obtain⟨k2,p,_,_⟩:=AK uh (by simpa[yN]using g 2 _ aS);obtain⟨k3,r,_,_⟩:=AK uh (by simpa[yN]using g 3 _ aS);obtain⟨k4,s,_,_⟩:=AK uh (by simpa[yN]using g 4 _ aS);simp[y7,Jj]at m o p r s;subst m o p r s;have⟨hS,hL⟩:=aAb awC ab3 P ((ab3 _ V) _ aP) (λa R=>by subst R;(have:Cell.ok prog W .any c 30 (.slice (some a) d i):=by simpa[Cell.okWide,Na]using j);simp[Cell.ok,Na]at this;have⟨_,_,_,B,row,cells,l,_⟩:=this;refine⟨B,?_⟩;unfold World.shape? at l;split at l;rename_i x t Q J;exact⟨bU J,x,t,Q,J⟩;cases l);grind
end
theorem axr(os:Os)(c:os.Started)(H:Type)(enc:TypeId×Value->H)(F:Stop.Interp):ReturnsInLeavingWide {} checked os 9 .any ((Rows.OpenSpec.upto Rows.agreedSpec).pre6 enc prog f9 Rows.agreedUptoRow.domain false) (((Rows.OpenSpec.upto Rows.agreedSpec).at F).post enc prog f9 false true false false):=by refine av_ (C:=checked) (k:=Rows.uptoSmall) aS own c func9 (OpenSpec.witness (enc:=enc) (C:=checked) (k:=Rows.uptoSmall) aS false ⟨#[],#[.agg #[.int .i64 0,.int .i64 0,.int .i64 0,.int .i64 0,.int .i64 0,.slice none 0 0]],[]⟩ 8 aN aN aN (x:=([.agg [.agg [.lit (.int .i64 0),.lit (.int .i64 0),.lit (.int .i64 0),.lit (.int .i64 0),.lit (.int .i64 0)],.nil]],[],[])) aN aN aN aN) ?_;intro W l a ds gs z g Y _ J Z _;have f:∀(j:Nat)t v,f9.params[j]?=some t->a[j]?=some v->Value.okWide prog W .any l t v:=g;have E:=Y;obtain⟨p,q,D,hV,rfl,El,jF⟩:=Y;have X:=D;rw[params9]at X f;obtain⟨Q,vs0,d0,ds0,p0,P,G,rfl,rfl,V,r0⟩:=trodAll_cons X;obtain⟨rfl,rfl,rfl⟩:=trodAll_nil r0;(obtain rfl:a=#[Q]:=by cases a;simp_all);obtain⟨rfl,rfl⟩:=trodVars_none hV;have N:=f 0 32 Q aS aS;(obtain⟨B,rfl,r⟩:∃B,Q=.agg B/\Row.okWide prog W .any l 32 B:=by simp[Value.okWide,underlying32]at N;grind);have k0:=V;(have O:∀x∈p0,x.block<W.heap.size:=by have⟨m,hm⟩:=k0;exact DataW.trod_lt m _ _ _ hm);have K:=alW J d0 aP;have⟨U,I⟩:=V;obtain⟨P,q1,q2,q3,q4,R,u,n,rfl,hS,hL⟩:=ayz I K r;obtain⟨M,s,o,w',t',S,T,e3,e4⟩:=apT (ab1 (λb h=>h) hS hL);have en:Frame.enter prog 9 #[.agg #[.int .i64 P,.int .i64 q1,.int .i64 q2,.int .i64 q3,.int .i64 q4,.slice R u n]] .normal=(base 9).at ⟨#[.agg #[.int .i64 P,.int .i64 q1,.int .i64 q2,.int .i64 q3,.int .i64 q4,.slice R u n]]++Array.replicate (f9.ntmps-1) undef,[]⟩ [.code (f9.body.getD .skip)]:=enter_at _ func9 aS;rw[<-en]at S T;refine⟨M,s,o,w',t',S,T,e3,e4.mono λv hp=>?_⟩;obtain⟨rfl,L,d,e⟩:=hp;have A:Below W.heap.size W {w' with tape:=W.tape}:=⟨oN d,aS,fG Prod.snd d,L,e⟩;have fr:∀y,W.keptBut w' y:=λy=>⟨oN d,fG Prod.snd d,λi hi=>by rw[e i hi];split<;>simp_all⟩;exact⟨_,_,_,[],_,[],E,trodAll_mk1<|shut_bool underlying4 _,DataW.TrodAll.of_heap (w:={w' with tape:=W.tape}) (w':=w') aS<|trodAll_cons_mk (Below.trod aCc aN (ali aN) k0 A O) trodAll_mk0,aS,fr _,λh=>by cases h⟩
def aAk:prog.funcNamed Rows.agreedUptoRow.func=some 9:=aN
def anX:(Rows.agreedUptoRow.inPlace==prog.inPlace 9)=true:=aN
def atT:(Rows.agreedUptoRow.unfollowed==prog.unfollowed 9)=true:=aN
def aBx:(Rows.agreedUptoRow.recurses==prog.recurses 9)=true:=aN
def aqP:(Rows.agreedUptoRow.named==prog.varsNamed 9)=true:=aN
def awJ:joinedFacts prog 9 f9 (Rows.OpenSpec.upto Rows.agreedSpec).bare Rows.agreedUptoRow=true:=by unfold joinedFacts;exact(iA (iA (iA (iA (iA (iA (iA (iA (iA (iA (iA (iA (iA (iA (iA (iA (iA (iA (iA (iA (iA (iA (iA (iA (iA (iA (iA (iA (iA (iA (iA aN aN) aN) aN) aN) aN) aN) aN) aN) anX) atT) aBx) aqP) aN) aN) aN) aN) aN) aN) aN) aN) aN) aN) aN) aN) aN) aN) aN) aN) aN) aN) aN)
