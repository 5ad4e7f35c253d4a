import Derived.Deep.Slices
import Derived.SizedLaws
import Derived.ChangeOld
import Derived.ProofKit
import Derived.OpenShut
import Derived.ShutString
import Derived.Below
import Derived.Test.YthbmmbgkchiajaaGreatC3
set_option maxRecDepth 100000
set_option maxHeartbeats 8000000
set_option linter.all false
open Go renaming World→ah,TypeId→aq,Value→ai
open List renaming range→aC
open Option renaming some→aa,none→af
open Go.IntKind renaming i64→ae
namespace Go.Proofs.YthbmmbgkchiajaaGreat
open Go.RowKit Tryz
variable{n:Nat}{v:ai}
def yN:prog.cellsOf 3=1:=aN
def aBP:prog.cellsOf 4=1:=aN
def aAj:prog.cellsOf 60=1:=aN
def aAf:prog.cellsOf 25=1:=aN
def aw7:prog.cellsOf 29=5:=aN
def aqH:prog.cellsOf 30=1:=aN
def agW:prog.cellsOf 62=5:=aN
def am3:prog.cellsOf 32=6:=aN
theorem PT{f:Type}{l:List f}(h:l.length=5):∃a b c d e,l=[a,b,c,d,e]:=by match l,h with|[a,b,c,d,e],_=>simp_all
theorem alT{g:Type}{l:List g}(h:l.length=6):∃a b c d e f,l=[a,b,c,d,e,f]:=by match l,h with|[a,b,c,d,e,f],_=>simp_all
theorem EP(b o n:Nat):(⟨b,o,af⟩:Addr).add n=⟨b,o+n,af⟩:=by unfold Addr.add;simp_all
theorem aiI{n:Int}(h:(Lit.int ae n).wf=true):-9223372036854775808<=n/\n<=9223372036854775807:=by have a:(decide ((-9223372036854775808:Int)<=n)&&decide (n<=9223372036854775807))=true:=h;simp_all
theorem D4{w:ah}{b o:Nat}(h:w.cell? ⟨b,o,af⟩=aa v):∃x t a,w.heap[b]?=aa (.cells x t a)/\x[o]?=aa v:=by unfold World.cell? at h;grind
def Rw(W:ah)(b:Nat):Prop:=b<W.heap.size/\∃x t a,W.heap[b]?=aa (.cells x t a)
section
variable{H:Type}{enc:aq×ai->H}{W:ah}{base:Nat}{held:Bool}{Sm:DataW H->Prop}(s1:∀el sp,Sm (.slice el sp)->el.length<=1048576/\∀d∈el,Sm d)(s2:∀ps,Sm (.agg ps)->∀d∈ps,Sm d)
include s1
theorem ayB{x:DataW H×List MemPlace}(h:DataW.trod enc prog W base (λ_=>true) held n 60 [v]=aa x)(M:Sm x.1):∃s:List Bool,(om (Rw W) W v s\/∃E,v=.slice (aa E) 0 0)/\s.length<=1099511627776:=by rcases Go.Deep.open_slice1 aa5 aBP h with⟨f,_⟩|⟨a,c,d,m,q,V,D,O,f,_,K,_,L,rfl,z⟩;(obtain rfl:v=.slice af 0 0:=by simpa using f);exact⟨[],.inl<|.inl ⟨aS,aS⟩,aP⟩;{(obtain rfl:v=.slice (aa a) c d:=by simpa using f);by_cases k:d=0;obtain rfl:c=0:=aM;subst k;exact⟨[],.inr ⟨a,aS⟩,aP⟩;(have A:m=d:=by rw[L];simp);have⟨B,I⟩:=Go.Deep.choose_lt (α:=Bool) (p:=λi b=>W.cell? (a.add i)=aa (.bool b)) (n:=c) (λi S=>by have⟨P,F⟩:=z i aM;have⟨b,R,_⟩:=DataW.trod_bool underlying4 F;simp_all);(have C:c<=1048576:=by simpa using(s1 _ _ M).1);have⟨b,o,sp⟩:=a;have⟨e,_⟩:=z 0 aM;(have l:sp=af:=by simpa[Addr.add]using World.cell?_spot e);subst l;rw[EP]at e;have⟨y,t,u,r,_⟩:=D4 e;refine⟨(aC c).map B,.inl<|.inr ⟨b,o,d,y,t,u,aP,by simpa using K,⟨bU r,y,t,u,r⟩,r,λj J=>?_⟩,by simp;omega⟩;(have g:j<c:=by simpa using J);have w:=I j g;rw[EP]at w;have⟨U,T,G,N,Q⟩:=D4 w;simp_all}
theorem apx{x:DataW H×List MemPlace}(h:DataW.trod enc prog W base (λ_=>true) held n 25 [v]=aa x)(L:Sm x.1):∃N:List Int,uv (Rw W) W v N\/∃C,v=.slice (aa C) 0 0:=by rcases Go.Deep.open_slice1 underlying25 yN h with⟨f,_⟩|⟨a,c,d,m,q,V,D,O,f,_,T,_,J,rfl,u⟩;(obtain rfl:v=.slice af 0 0:=by simpa using f);exact⟨[],.inl<|.inl ⟨aS,aS⟩⟩;{(obtain rfl:v=.slice (aa a) c d:=by simpa using f);by_cases K:d=0;{simp_all};(have w:m=d:=by rw[J];simp);have⟨B,G⟩:=Go.Deep.choose_lt (α:=Int) (p:=λi b=>W.cell? (a.add i)=aa (.int ae b)) (n:=c) (λi S=>by have⟨P,E⟩:=u i aM;have⟨b,R,_,_⟩:=AK uh E;simp_all);(have A:c<=1048576:=by simpa using(s1 _ _ L).1);have⟨b,o,sp⟩:=a;have⟨e,_⟩:=u 0 aM;(have k:sp=af:=by simpa[Addr.add]using World.cell?_spot e);subst k;rw[EP]at e;have⟨y,t,r,l,_⟩:=D4 e;refine⟨(aC c).map B,.inl<|.inr ⟨b,o,d,y,t,r,aP,by simp;omega,⟨bU l,y,t,r,l⟩,l,λj z I=>?_⟩⟩;(have g:j<c:=by have:=(fl.1 I).1;simpa using this);have s:=G j g;rw[EP]at s;have⟨X,U,F,M,Q⟩:=D4 s;simp_all}
include s2
theorem amT{n g e:Nat}{r:List ai}{x:DataW H×List MemPlace}(N:W.cells? base (⟨g,e,af⟩:Addr) 5=aa r)(h:DataW.trod enc prog W base (λ_=>true) held n 62 r=aa x)(Q:Sm x.1):aeT (Rw W) W g e:=by obtain⟨xs,q,rfl,rfl,P,i,f⟩:=ak2 underlying62 h;obtain⟨A,B,C,o,p,rfl⟩:=PT (P.trans agW);obtain⟨V,X,Y,Z,x4,rfl⟩:=PT i;(have D:DataW.trod enc prog W base (λ_=>true) held q 3 [A]=aa V:=by simpa[yN]using f 0 _ aS);(have E:DataW.trod enc prog W base (λ_=>true) held q 3 [B]=aa X:=by simpa[yN]using f 1 _ aS);(have F:DataW.trod enc prog W base (λ_=>true) held q 3 [C]=aa Y:=by simpa[yN]using f 2 _ aS);(have G:DataW.trod enc prog W base (λ_=>true) held q 60 [o]=aa Z:=by simpa[aAj]using f 3 _ aS);(have I:DataW.trod enc prog W base (λ_=>true) held q 25 [p]=aa x4:=by simpa[aAf]using f 4 _ aS);have l:=s2 _ Q;have⟨k,w,_,_⟩:=AK uh D;have⟨a,s,_,T⟩:=AK uh E;have⟨b,u,_,U⟩:=AK uh F;have⟨z,L,m⟩:=ayB s1 G<|l _ aP;have⟨ls,M⟩:=apx s1 I<|l _ aP;have⟨_,_,c⟩:=World.cells?_some N;simp[EP]at c;simp[y7,Jj]at w s u;subst w s u;have⟨y,t,J,R,z0⟩:=D4<|c 0 aM;(have d:∀(j:Nat)(v:ai),W.cell? ⟨g,e+j,af⟩=aa v->y[e+j]?=aa v:=λj v O=>by have⟨y',t',K,S,h2⟩:=D4 O;grind);exact⟨y,t,J,k,a,b,o,p,z,ls,R,⟨z0,d 1 _<|c 1 aM,d 2 _<|c 2 aM,d 3 _<|c 3 aM,d 4 _<|c 4 aM⟩,⟨aiI T,(aiI U).2⟩,L,m,M⟩
theorem aAb{i:Option Addr}{b c:Nat}{x:DataW H×List MemPlace}(h:DataW.trod enc prog W base (λ_=>true) held n 30 [.slice i b c]=aa x)(z:Sm x.1)(f:∀a,i=aa a->a.spot=af/\Rw W a.block):IY (Rw W) W (.slice i b c) b/\b<=1048576:=by rcases Go.Deep.open_slice Na h with⟨e,_⟩|⟨a,r,o,m,q,D,B,e,_,v,_,w,rfl,p⟩;simp[y7,Value.slice.injEq,Jj]at e;obtain⟨rfl,rfl,rfl⟩:=e;exact⟨.inl ⟨aS,aS⟩,aM⟩;simp[y7,Value.slice.injEq,Jj]at e;obtain⟨rfl,rfl,rfl⟩:=e;have⟨k,l⟩:=s1 _ _ z;rw[agW]at p;have⟨g,off,sp⟩:=a;have⟨d,u⟩:=f _ aS;have d:=d;subst d;refine⟨.inr ⟨g,off,c,aS,u,λj C=>?_⟩,by simpa using k⟩;(have y:b<=m:=by rw[w];simpa using v);have⟨t,s,A⟩:=p j aM;rw[EP]at s;exact amT s1 s2 s A<|l _ (by grind)
end
