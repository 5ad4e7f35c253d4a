import Derived.Deep.Slices
import Derived.SizedLaws
import Derived.ChangeOld
import Derived.ProofKit
import Derived.OpenShut
import Derived.ShutString
import Derived.Below
import Derived.Test.YthbmmbgkchiajaaGreatRows
import Derived.Test.YthbmmbgkchiajaaGreatD5
import Derived.Test.YthbmmbgkchiajaaGreatD6
set_option maxRecDepth 100000
set_option maxHeartbeats 8000000
set_option linter.all false
open Go renaming Frame→au,World→ah,Calls→aj,Goroutine→ar,TypeId→aq,Value→ai
open List renaming range→aC
open Option renaming some→aa,none→af
open Go.IntKind renaming i64→ae
namespace Go.Proofs.YthbmmbgkchiajaaGreat
open Go.ChangeAt Go.ChangeShapes Go.Conc Go.Conc.Lib Go.ConcN Go.ConcN.Gen Go.ConcR.Gen Go.Proofs.Ren Go.Proofs.Tryz Go.RowKit Go.WideShapes Tryz
open Go.ConcR (Payload DC0 KK WgAt stA smA)
variable{H:Type}{X:Nat->Prop}{g n:Nat}{v:ai}{w:ah}{x:Operand}
section
variable{a:Act}{o:Oper}
def anM{b c d f j k:ai}(l:o.op=.load 32 x)(t:a.eval x=.pointer (aa ⟨g,0,af⟩))(h:w.heap[g]?=aa (.cells #[b,c,d,f,j,k] 32 (0,0))):(execOp a.eval o).run prog w=.ok (.value<|.agg #[b,c,d,f,j,k]) w/\∀e∈(execOp a.eval o).events prog w #[],∃i,e=⟨.cell ⟨g,i,af⟩,false,false⟩:=by(have m:w.cell? ⟨g,0,af⟩=aa b:=by rw[bf h];rfl);(have n:w.cell? ⟨g,1,af⟩=aa c:=by rw[bf h];rfl);(have p:w.cell? ⟨g,2,af⟩=aa d:=by rw[bf h];rfl);(have q:w.cell? ⟨g,3,af⟩=aa f:=by rw[bf h];rfl);(have r:w.cell? ⟨g,4,af⟩=aa j:=by rw[bf h];rfl);(have s:w.cell? ⟨g,5,af⟩=aa k:=by rw[bf h];rfl);unfold execOp;simp[l,t];constructor;simp[go_sem,m,n,p,q,r,s];simp[go_sem,m,n,p,q,r,s]
def ab5{c:Nat->Prop}{f j k l m n:ai}(b:o.op=.load 32 x)(r:a.eval x=.pointer (aa ⟨g,0,af⟩))(h:w.heap[g]?=aa (.cells #[f,j,k,l,m,n] 32 (0,0)))(p:¬c g):Pu c w a o (.agg #[f,j,k,l,m,n]):=λs ⟨d,e⟩=>by have:=anM (w:=s) b r (by rw[e];exact h);refine⟨this.1,λe q=>?_⟩;obtain⟨i,rfl⟩:=this.2 e q;exact⟨p,bU h⟩
def anl{b:Option Addr}(c:o.op=.binOp .eql 33 x (.const<|.pointer af) 33)(d:a.eval x=.pointer b):(execOp a.eval o).run prog w=.ok (.value<|.bool b.isNone) w/\(execOp a.eval o).events prog w #[]=#[]:=by unfold execOp;simp[c,d];cases b<;>constructor<;>first|(simp[go_sem];done)|kernel_rfl
end
section
open Classical
theorem alC(n:∀b,X b->∃x t a,w.heap[b]?=aa (.cells x t a)):∃(l:ah) (f:Rn (G3 X w)),bQ f l w/\l.heap.size=w.heap.size/\(∀b d,f.map b=aa d->d=b/\X b)/\∀b,X b->f.map b=aa b/\∀x t a,w.heap[b]?=aa (.cells x t a)->∃z,l.heap[b]?=aa (.cells z t a)/\RVs f z x/\∀(i:Nat)(u v:ai),z[i]?=aa u->x[i]?=aa v->Ren.Can (G3 X w) u v:=by let f:Rn (G3 X w):=Jz (G3 X w) aS X λb _=>gi b;have k:∀b d,f.map b=aa d↔X b/\d=b:=λb d=>S9;let Q:Nat->Obj->Obj->Prop:=λb u o=>X b->∃x z t a,o=.cells x t a/\u=.cells z t a/\RVs f z x/\∀(i:Nat)(u v:ai),z[i]?=aa u->x[i]?=aa v->Ren.Can (G3 X w) u v;(have⟨l,s,r,F⟩:=Sq (w:=w) (Q:=Q) λb o e=>by by_cases y:X b;have⟨x,t,a,g⟩:=n b y;rw[e]at g;cases g;have⟨z,m,q⟩:=PX (G:=G3 X w) (λ_=>trivial) (λv=>⟨_,aS,λJ h=>by cases h;rfl⟩) f x;exact⟨.cells z t a,λ_=>⟨x,z,t,a,aS,aS,m,q⟩⟩;exact⟨.cells #[] 0 (0,0),λh=>absurd h y⟩);(have c:∀b,X b->∀x t a,w.heap[b]?=aa (.cells x t a)->∃z,l.heap[b]?=aa (.cells z t a)/\RVs f z x/\∀(i:Nat)(u v:ai),z[i]?=aa u->x[i]?=aa v->Ren.Can (G3 X w) u v:=λb j x t a e=>by have⟨u,H,I⟩:=F b _ e;obtain⟨L,z,K,D,A,rfl,B,C⟩:=I j;cases A;exact⟨z,H,B,C⟩);refine⟨l,f,⟨⟨⟨gi _,gi _⟩,by show((w.heap.size:Int)-(l.heap.size:Int))=0;omega⟩,r.symm,λb d e=>?_,⟨λd p=>bU (n d p).choose_spec.choose_spec.choose_spec,λb d p e=>?_⟩⟩,s,λb d e=>?_,λb j=>⟨(k b b).2 ⟨j,aS⟩,c b j⟩⟩;obtain⟨j,rfl⟩:=(k b d).1 e;have⟨x,t,a,g⟩:=n d j;have⟨z,m,q,_⟩:=c d j x t a g;exact⟨_,_,m,g,.cells q t a⟩;obtain⟨_,rfl⟩:=(k b d).1 e;have⟨x,t,a,g⟩:=n d p;have⟨z,m,q,_⟩:=c d p x t a g;rw[m,g];exactλi v J _ _ E=>⟨x,t,a,g,E⟩;grind
end
theorem ap1{n v r p t:Int}(h:jg n v r p t=true):∃a:dl,uG a/\24<=a.ring*a.aY/\n=(a.nodes:Int)/\v=(a.bK:Int)/\r=(a.ring:Int)/\p=(a.aY:Int)/\t=(a.dM:Int):=by unfold jg at h;simp[fF,AY]at h;have⟨⟨⟨⟨⟨b,c⟩,d⟩,e⟩,f⟩,g⟩:=h;(refine⟨⟨n.toNat,v.toNat,r.toNat,p.toNat,t.toNat⟩,⟨?_,?_,?_,?_,?_⟩,?_,?_,?_,?_,?_,?_⟩<;>simp[]<;>first|omega|skip);grind
abbrev yb(d e f g h:Int)(c:Option Addr)(b a:Nat):Array ai:=#[.int ae d,.int ae e,.int ae f,.int ae g,.int ae h,.slice c b a]
def Ch(b d e f g:Int)(N:Nat)(i:ah)(v:ai):Prop:=(v=.pointer af/\jg b d e f g=false)\/∃(a:dl) (h:Nat) (c:Nat->CTag) (K:KM),v=.pointer (aa ⟨h,0,af⟩)/\uG a/\bW c i h K 1/\Started a a.nodes K.ns/\K.bn=[]/\K.trace=[]/\(∀k,k<N->c k=.other)/\b=(a.nodes:Int)/\d=(a.bK:Int)/\e=(a.ring:Int)/\f=(a.aY:Int)/\g=(a.dM:Int)/\jg b d e f g=true
def aBF(n v r p t:Int)(f:Option Addr)(b a:Nat)(w:ah):aj prog 16 #[.agg (yb n v r p t f b a)] w λe g=>∃x,e=.returned (.tuple #[x,.bool true])/\aV (λ_=>False) w g/\Ch n v r p t w.heap.size g x:=by cases h:jg n v r p t with|false=>refine(az6 n v r p t f b a w h).mono ?_;rintro e g ⟨rfl,u⟩;exact⟨_,aS,u,.inl ⟨aS,h⟩⟩|true=>obtain⟨d,j,i,rfl,rfl,rfl,rfl,rfl⟩:=ap1 h;refine(aqX d (.slice f b a) w j i ⟨f,b,a,aS⟩).mono ?_;rintro e g ⟨y,rfl,c,K,k,l,m,o,q,s⟩;exact⟨_,aS,s,.inr ⟨d,y,c,K,aS,j,k,l,m,o,q,aS,aS,aS,aS,aS,h⟩⟩
section
variable{Stop:ar->ah->Prop}{b:au}{a:Act}{k:List Item}{cs:List au}{ops:Array Oper}{i:Nat}{rest:List Nat}{o:Oper}{d:Nat}
def amt{args:Array Operand}{F:Array aq}{n v r p t:Int}{ao:Option Addr}{len cap:Nat}(Z:∀b,X b->∃x t L,w.heap[b]?=aa (.cells x t L))(P:∀x,ao=aa x->X x.block)(ho:ops[i]?=aa o)(hw:Region.wanted o (yielded ops a.tmps)=true)(hk:b.kind≠.early)(S:o.op=.call {callee:=.value (.func 16),args,argTypes:=F})(hv:args.map a.eval=#[.agg (yb n v r p t ao len cap)])(hd:o.dst=aa d)(hs:d<a.tmps.size)(hn:∀(B:Act)(x:ai)(j:ah),mH a d (.tuple #[x,.bool true]) B->w.heap.size<=j.heap.size->EO j=EO w->(∀b,b<w.heap.size->j.heap[b]?=w.heap[b]?)->Ch n v r p t w.heap.size j x->BW prog (λ_=>False) Stop (G (b.at B (.inRegion ops rest::k)) cs) j):BW prog (λ_=>False) Stop (G (b.at a (.inRegion ops (i::rest)::k)) cs) w:=by have⟨E,Y,W,hsz,s,l⟩:=alC Z;(have T:RV Y (.slice ao len cap) (.slice ao len cap):=by cases ao with|none=>exact .slice (a:=af) (b:=af) trivial _ _|some x=>exact .slice (a:=aa x) (b:=aa x) ⟨(l _<|P x aS).1,aS,aS⟩ _ _);(have U:RVs Y #[.agg (yb n v r p t ao len cap)] #[.agg (yb n v r p t ao len cap)]:=by have:RVs Y (yb n v r p t ao len cap) (yb n v r p t ao len cap):=RVs.ofList ⟨.int _ _,.int _ _,.int _ _,.int _ _,.int _ _,T,trivial⟩;exact RVs.ofList ⟨.agg this.1 this.2,trivial⟩);refine De (Post:=λy q=>∃x,y=.tuple #[x,.bool true]/\(∀b,b<E.heap.size->q.heap[b]?=E.heap[b]?)/\Ch n v r p t E.heap.size q x) ho hw hk S func16 aN aS hv hd hs aQ U W (λ_ h=>h.elim) (λ_ _ _ h=>h) (λt' d'=>(aBF n v r p t ao len cap {E with tape:=t',drawn:=d'}).mono λe w' ⟨x,I,J,e3⟩=>⟨_,I,x,aS,λb Q=>J.block b Q λf=>f,e3⟩) ?_;rintro B _ v' j q σ u D A V ⟨x,rfl,R,N⟩;obtain⟨x',y',rfl,hx,hy⟩:=C3 V;obtain rfl:y'=.bool true:=kv aS hy;(have O:x'=x/\Ch n v r p t w.heap.size j x:=by rcases N with⟨rfl,h0⟩|⟨H,pk,c,K,rfl,C,M,h3,h4,h5,h6,h7⟩;exact⟨kv aS hx,.inl ⟨aS,h0⟩⟩;have⟨I,J⟩:=aak hx;exact⟨I,.inr ⟨H,pk,c,K,aS,C,M.back A J,h3,h4,h5,λk hk=>h6 k aM,h7⟩⟩);obtain⟨rfl,N⟩:=O;refine hn B _ j u D.size D.os (λb Q=>?_) N;by_cases g:X b;have⟨x,t,L,m⟩:=Z b g;have⟨z,z1,z2,z4⟩:=(l b g).2 x t L m;rw[m];refine aaA A (D.le _ _ (l b g).1) ((R b aM).trans z1) z2.1 z4 g λi v h=>?_;have⟨x',t',nB,C,M⟩:=h;rw[m]at C;cases C;exact M;exact D.other b Q λy e=>by obtain⟨rfl,h⟩:=s y b e;exact g h
end
def yN:prog.cellsOf 3=1:=aN
def aBP:prog.cellsOf 4=1:=aN
def aAj:prog.cellsOf 60=1:=aN
def aAf:prog.cellsOf 25=1:=aN
def aw7:prog.cellsOf 29=5:=aN
def aqH:prog.cellsOf 30=1:=aN
def agW:prog.cellsOf 62=5:=aN
def am3:prog.cellsOf 32=6:=aN
theorem PT{f:Type}{l:List f}(h:l.length=5):∃a b c d e,l=[a,b,c,d,e]:=by match l,h with|[a,b,c,d,e],_=>simp_all
theorem alT{g:Type}{l:List g}(h:l.length=6):∃a b c d e f,l=[a,b,c,d,e,f]:=by match l,h with|[a,b,c,d,e,f],_=>simp_all
theorem EP(b o n:Nat):(⟨b,o,af⟩:Addr).add n=⟨b,o+n,af⟩:=by unfold Addr.add;simp_all
theorem aiI{n:Int}(h:(Lit.int ae n).wf=true):-9223372036854775808<=n/\n<=9223372036854775807:=by have a:(decide ((-9223372036854775808:Int)<=n)&&decide (n<=9223372036854775807))=true:=h;simp_all
theorem D4{b o:Nat}(h:w.cell? ⟨b,o,af⟩=aa v):∃x t a,w.heap[b]?=aa (.cells x t a)/\x[o]?=aa v:=by unfold World.cell? at h;grind
def Rw(W:ah)(b:Nat):Prop:=b<W.heap.size/\∃x t a,W.heap[b]?=aa (.cells x t a)
section
variable{enc:aq×ai->H}{W:ah}{base:Nat}{held:Bool}{Sm:DataW H->Prop}(s1:∀el sp,Sm (.slice el sp)->el.length<=1048576/\∀d∈el,Sm d)(s2:∀ps,Sm (.agg ps)->∀d∈ps,Sm d)
include s1
theorem ayB{x:DataW H×List MemPlace}(h:DataW.trod enc prog W base (λ_=>true) held n 60 [v]=aa x)(M:Sm x.1):∃f:List Bool,(om (Rw W) W v f\/∃E,v=.slice (aa E) 0 0/\f=[])/\f.length<=1099511627776:=by rcases Go.Deep.open_slice1 aa5 aBP h with⟨g,_⟩|⟨a,c,d,m,q,V,D,O,g,_,K,_,L,rfl,z⟩;(obtain rfl:v=.slice af 0 0:=by simpa using g);exact⟨[],.inl<|.inl ⟨aS,aS⟩,aP⟩;{(obtain rfl:v=.slice (aa a) c d:=by simpa using g);by_cases l:d=0;obtain rfl:c=0:=aM;subst l;exact⟨[],.inr ⟨a,aS,aS⟩,aP⟩;(have A:m=d:=by rw[L];simp);have⟨B,I⟩:=Go.Deep.choose_lt (α:=Bool) (p:=λi b=>W.cell? (a.add i)=aa (.bool b)) (n:=c) (λi S=>by have⟨P,F⟩:=z i aM;have⟨b,R,_⟩:=DataW.trod_bool underlying4 F;simp_all);(have C:c<=1048576:=by simpa using(s1 _ _ M).1);have⟨b,o,sp⟩:=a;have⟨e,_⟩:=z 0 aM;(have r:sp=af:=by simpa[Addr.add]using World.cell?_spot e);subst r;rw[EP]at e;have⟨y,t,u,s,_⟩:=D4 e;refine⟨(aC c).map B,.inl<|.inr ⟨b,o,d,y,t,u,aP,by simpa using K,⟨bU s,y,t,u,s⟩,s,λj J=>?_⟩,by simp;omega⟩;(have k:j<c:=by simpa using J);have w:=I j k;rw[EP]at w;have⟨U,T,G,N,Q⟩:=D4 w;simp_all}
theorem apx{x:DataW H×List MemPlace}(h:DataW.trod enc prog W base (λ_=>true) held n 25 [v]=aa x)(M:Sm x.1):∃E:List Int,uv (Rw W) W v E\/∃F,v=.slice (aa F) 0 0/\E=[]:=by rcases Go.Deep.open_slice1 underlying25 yN h with⟨f,_⟩|⟨a,c,d,m,q,V,D,O,f,_,T,_,L,rfl,w⟩;(obtain rfl:v=.slice af 0 0:=by simpa using f);exact⟨[],.inl<|.inl ⟨aS,aS⟩⟩;{(obtain rfl:v=.slice (aa a) c d:=by simpa using f);by_cases k:d=0;obtain rfl:c=0:=aM;subst k;exact⟨[],.inr ⟨a,aS,aS⟩⟩;(have A:m=d:=by rw[L];simp);have⟨B,J⟩:=Go.Deep.choose_lt (α:=Int) (p:=λi b=>W.cell? (a.add i)=aa (.int ae b)) (n:=c) (λi S=>by have⟨P,G⟩:=w i aM;have⟨b,R,_,_⟩:=AK uh G;simp_all);(have C:c<=1048576:=by simpa using(s1 _ _ M).1);have⟨b,o,sp⟩:=a;have⟨e,_⟩:=w 0 aM;(have l:sp=af:=by simpa[Addr.add]using World.cell?_spot e);subst l;rw[EP]at e;have⟨y,t,s,r,_⟩:=D4 e;refine⟨(aC c).map B,.inl<|.inr ⟨b,o,d,y,t,s,aP,by simp;omega,⟨bU r,y,t,s,r⟩,r,λj z K=>?_⟩⟩;(have g:j<c:=by have:=(fl.1 K).1;simpa using this);have u:=J j g;rw[EP]at u;have⟨X,U,I,N,Q⟩:=D4 u;simp_all}
include s2
theorem amT{n g e:Nat}{r:List ai}{x:DataW H×List MemPlace}(N:W.cells? base (⟨g,e,af⟩:Addr) 5=aa r)(h:DataW.trod enc prog W base (λ_=>true) held n 62 r=aa x)(Q:Sm x.1):aeT (Rw W) W g e:=by obtain⟨xs,q,rfl,rfl,P,i,f⟩:=ak2 underlying62 h;obtain⟨A,B,C,o,p,rfl⟩:=PT (P.trans agW);obtain⟨V,X,Y,Z,x4,rfl⟩:=PT i;(have D:DataW.trod enc prog W base (λ_=>true) held q 3 [A]=aa V:=by simpa[yN]using f 0 _ aS);(have E:DataW.trod enc prog W base (λ_=>true) held q 3 [B]=aa X:=by simpa[yN]using f 1 _ aS);(have F:DataW.trod enc prog W base (λ_=>true) held q 3 [C]=aa Y:=by simpa[yN]using f 2 _ aS);(have G:DataW.trod enc prog W base (λ_=>true) held q 60 [o]=aa Z:=by simpa[aAj]using f 3 _ aS);(have I:DataW.trod enc prog W base (λ_=>true) held q 25 [p]=aa x4:=by simpa[aAf]using f 4 _ aS);have l:=s2 _ Q;have⟨k,w,_,_⟩:=AK uh D;have⟨a,s,_,T⟩:=AK uh E;have⟨b,u,_,U⟩:=AK uh F;have⟨z,L,m⟩:=ayB s1 G<|l _ aP;have⟨ls,M⟩:=apx s1 I<|l _ aP;have⟨_,_,c⟩:=World.cells?_some N;simp[EP]at c;simp[acE,Jj]at w s u;subst w s u;have⟨y,t,J,R,z0⟩:=D4<|c 0 aM;(have d:∀(j:Nat)(v:ai),W.cell? ⟨g,e+j,af⟩=aa v->y[e+j]?=aa v:=λj v O=>by have⟨y',t',K,S,h2⟩:=D4 O;grind);exact⟨y,t,J,k,a,b,o,p,z,ls,R,⟨z0,d 1 _<|c 1 aM,d 2 _<|c 2 aM,d 3 _<|c 3 aM,d 4 _<|c 4 aM⟩,⟨aiI T,(aiI U).2⟩,L,m,M⟩
theorem aAb{i:Option Addr}{b c:Nat}{x:DataW H×List MemPlace}(h:DataW.trod enc prog W base (λ_=>true) held n 30 [.slice i b c]=aa x)(z:Sm x.1)(f:∀a,i=aa a->a.spot=af/\Rw W a.block):IY (Rw W) W (.slice i b c) b/\b<=1048576:=by rcases Go.Deep.open_slice Na h with⟨e,_⟩|⟨a,r,o,m,q,D,B,e,_,v,_,w,rfl,p⟩;simp[acE,Value.slice.injEq,Jj]at e;obtain⟨rfl,rfl,rfl⟩:=e;exact⟨.inl ⟨aS,aS⟩,aM⟩;simp[acE,Value.slice.injEq,Jj]at e;obtain⟨rfl,rfl,rfl⟩:=e;have⟨k,l⟩:=s1 _ _ z;rw[agW]at p;have⟨g,off,sp⟩:=a;have⟨d,u⟩:=f _ aS;have d:=d;subst d;refine⟨.inr ⟨g,off,c,aS,u,λj C=>?_⟩,by simpa using k⟩;(have y:b<=m:=by rw[w];simpa using v);have⟨t,s,A⟩:=p j aM;rw[EP]at s;exact amT s1 s2 s A<|l _ (by grind)
end
def own:ownKnob prog.godebug=none:=aN
def aCc:laidOutB prog=true:=aN
def iA{a b:Bool}(h:a=true)(k:b=true):(a&&b)=true:=by rw[h,k];rfl
section
def awK(d:DataW H):1<=Rows.uptoBulk d:=by cases d with|lit l=>cases l<;>simp[Rows.uptoBulk]|_=>simp[Rows.uptoBulk]
def Ks:∀{l:List (DataW H)}{d:DataW H},d∈l->Rows.uptoBulk d<=Rows.uptoBulkAll l|e::r,d,h=>by rcases jO.1 h with rfl|h;simp[Rows.uptoBulkAll];have:=Ks h;simp[Rows.uptoBulkAll];omega
def afP:∀l:List (DataW H),l.length<=Rows.uptoBulkAll l|[]=>gi _|d::r=>by have a:=awK d;have b:=afP r;simp[Rows.uptoBulkAll,lG];omega
def wS(d:DataW H):Prop:=Rows.uptoBulk d<=1048576
def awC(a c:List (DataW H))(h:wS (.slice a c)):a.length<=1048576/\∀d∈a,wS d:=by unfold wS at h;simp[Rows.uptoBulk]at h;have:=afP a;exact⟨aM,λd b=>by have:=Ks b;unfold wS;omega⟩
def ab3(a:List (DataW H))(h:wS (.agg a)):∀d∈a,wS d:=λd b=>by unfold wS at h⊢;simp[Rows.uptoBulk]at h;have:=Ks b;omega
def alW{l:List (DataW H)}(h:Rows.uptoSmall H l=true):∀d∈l,wS d:=λd a=>by have b:=ali h;have:=Ks a;unfold wS;omega
end
def ao6:prog.cellTypes prog.depth 32=some [3,3,3,3,3,30]:=aN
section
variable{enc:TypeId×Value->H}{W:World}
theorem ayz{n e c:Nat}{f:Bool}{y:Array Value}{x:DataW H×List MemPlace}(h:DataW.trod enc prog W e (λ_=>true) f n 32 y.toList=some x)(V:wS x.1)(A:Row.okWide prog W .any c 32 y):∃(X Y Z q3 q4:Int) (z:Option Addr) (d i:Nat),y=#[.int .i64 X,.int .i64 Y,.int .i64 Z,.int .i64 q3,.int .i64 q4,.slice z d i]/\IY (Rw W) W (.slice z d i) d/\d<=1048576:=by obtain⟨K,q,rfl,rfl,T,v,I⟩:=ak2 underlying32 h;have⟨c0,C,D,E,F,w,S⟩:=alT<|T.trans am3;(obtain rfl:y=#[c0,C,D,E,F,w]:=by grind);(obtain⟨y0,y1,rfl⟩:∃a b,K=[a,b]:=by match K,v with|[a,b],_=>exact⟨a,b,aS⟩);(have O:DataW.trod enc prog W e (λ_=>true) f q 29 [c0,C,D,E,F]=some y0:=by simpa[aw7]using I 0 _ aS);(have P:DataW.trod enc prog W e (λ_=>true) f q 30 [w]=some y1:=by simpa[aqH]using I 1 _ aS);(have j:Cell.okWide prog W .any c 30 w:=by have⟨ts,G,_,L⟩:=A;rw[ao6]at G;cases G;have⟨u,M,N⟩:=L 5 w aS;cases M;exact N);obtain⟨z,d,i,rfl⟩:=okWide_slice Na (by unfold Value.okWide;rw[Na];exact j);obtain⟨xs',q',rfl,rfl,U,k,g⟩:=ak2 underlying29 O;obtain⟨x0,x1,x2,x3,x4,rfl⟩:=PT k;obtain⟨k0,m,_,_⟩:=AK uh (by simpa[yN]using g 0 _ aS);obtain⟨k1,o,_,_⟩:=AK uh (by simpa[yN]using g 1 _ aS);obtain⟨k2,p,_,_⟩:=AK uh (by simpa[yN]using g 2 _ aS);obtain⟨k3,r,_,_⟩:=AK uh (by simpa[yN]using g 3 _ aS);obtain⟨k4,s,_,_⟩:=AK uh (by simpa[yN]using g 4 _ aS);simp[acE,Jj]at m o p r s;subst m o p r s;have⟨hS,hL⟩:=aAb awC ab3 P ((ab3 _ V) _ aP) (λa R=>by subst R;(have:Cell.ok prog W .any c 30 (.slice (some a) d i):=by simpa[Cell.okWide,Na]using j);simp[Cell.ok,Na]at this;have⟨_,_,_,B,row,cells,l,_⟩:=this;refine⟨B,?_⟩;unfold World.shape? at l;split at l;rename_i x t Q J;exact⟨bU J,x,t,Q,J⟩;cases l);grind
end
