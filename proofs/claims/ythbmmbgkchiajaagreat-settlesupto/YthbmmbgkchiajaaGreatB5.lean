import Derived.Test.YthbmmbgkchiajaaGreatB4
set_option maxRecDepth 100000
set_option maxHeartbeats 8000000
set_option linter.all false
open Go renaming World→ag,Calls→aw,Value→ah
open Go.Value renaming tuple→aC,pointer→aq,slice→ax,int→aj,agg→aH
open Go.Obj renaming cells→au
open Or renaming inl→ar
open Option renaming some→af,none→ai
open Go.IntKind renaming i64→aa
namespace Go.Proofs.YthbmmbgkchiajaaGreat
open Go.Proofs.Ren Go.Proofs.Tryz Go.RowKit Tryz
variable{K:KM}{c:Nat->CTag}
def SQ(P:KM->Prop)(c:Nat->CTag)(w:ag)(b:Nat)(d:List Nat)(B:Nat)(W:ag):Prop:=∃K a,P K/\K.ps=d/\KX c w b K B (λ_=>False) a W
section
variable{P Q:KM->Prop}{w W:ag}{pk:Nat}{ps:List Nat}{B B':Nat}
def SQ.start(h:b_ c w pk K B)(a:P K):SQ P c w pk K.ps B w:=⟨K,c,a,aY,h,λ_ _=>rfl,bH _,aY,λ_ _ _ _=>rfl,λ_ _ _=>rfl⟩
def SQ.old(h:SQ P c w pk ps B W){b:Nat}(d:b<w.heap.size)(e:c b=.other):W.heap[b]?=w.heap[b]?:=have⟨_,_,_,_,a⟩:=h;a.bn b d e id
def SQ.post{a:KM}{e:Nat->CTag}{f d:ag}(l:KX c w pk K B (λ_=>False) e f)(k:dF e f pk a B' d)(i:a.ps=ps)(j:Q a):SQ Q c w pk ps B' d:=by have⟨g,b⟩:=KX.BG (X:=λ_=>False) k λ_ h=>h.elim;exact⟨a,g,j,i,l.trans b⟩
def SQ.up(h:SQ P c w pk ps B W)(g:B<=B')(a:B'<=mx):SQ P c w pk ps B' W:=have⟨K,b,d,e,f⟩:=h;⟨K,b,d,e,f.up g a⟩
def SQ.imp(h:SQ P c w pk ps B W)(a:∀K,P K->Q K):SQ Q c w pk ps B W:=have⟨K,b,d,e,f⟩:=h;⟨K,b,a K d,e,f⟩
def SQ.from{e:ag}(h:b_ c w pk K B)(a:ba () w e)(n:SQ P (eN c w .other) e pk ps B' W):SQ P c w pk ps B' W:=by have⟨g,i,j,k,l⟩:=n;have o:KX c w pk K B (λ_=>False) (eN c w .other) e:=⟨h.begin a,λ_ a=>iI a,a.size,rN a.os a.output,λb m _ _=>a.block b m λf=>f,λb _ d=>a.block b d λf=>f⟩;exact⟨g,i,j,k,o.trans l⟩
end
theorem asK(c i a:Nat)(v:ah)(w:ag)(d:aw prog 46 #[aq c,i] w λe b=>e=aC #[aq ai,aj aa 4]/\b=w):aw prog 61 #[aq c,i,a,v] w λe b=>e=aj aa 4/\b=w:=by have f:¬(a:Int)<0:=aS;go_enter func61,ntmps61;go_wp2_with fail;go_at_call 46;refine d.mono ?_;rintro e b ⟨rfl,rfl⟩;go_wp2;go_ret;simp_all
def Hj(C:dl)(b j:Nat)(K:KM):Prop:=KT C K/\K.trace.length<=b/\∀p n,p<j->K.ns[p]?=af n->n.up=true/\n.calm (2^61)
section
variable{C:dl}{b j:Nat}{n:NM}
def Hj.bY(h:Hj C b j K)(g:K.ns[j]?=n)(c:n.up=true):Hj C b (j+1) {K with ns:=K.ns.set j {n with bY:=af (4611686018427387904,[])}}:=by refine⟨h.1.set g aY aY aY aY aY aY aY aY aY aY aY aY aY<|.inr c,h.2.1,λp m i a=>?_⟩;have a:=a;rw[tV]at a;by_cases e:j=p;rw[bG e]at a;split at a;cases a;exact⟨c,λf d=>by cases d;decide⟩;cases a;rw[bC e]at a;exact h.2.2 p m aS a
theorem Hj.gS(h:Hj C b j K)(r:K.ns[j]?=af n)(d:n.up=false)(c:n.inc<1073741824){m:NM}(q:vR n m):Hj C (b+1) (j+1) {K with ns:=K.ns.set j {m.tidy with evs:=[]},bu:=K.bu++bW m.tidy.evs,trace:=K.trace++m.tidy.evs}/\m.tidy.evs.length<=1:=by have⟨s,t⟩:=h.1.jE r d c q;refine⟨⟨s,?_,λp k u a=>?_⟩,t⟩;have:=h.2.1;grind;have a:=a;rw[tV]at a;by_cases e:j=p;rw[bG e]at a;split at a;cases a;obtain⟨l,_,rfl⟩:=q;have i:=Hx l n.gS n.low;have o:=n5<|n.jE l;refine⟨o.2.2.2.2.2.2.1.trans i.up,λf g=>?_⟩;have g:=g;rw[o.2.2.2.2.2.2.2.1,show(n.jE l).bY=n.bY from i.bY,(h.1.lt n<|dh r).fz d]at g;cases g;cases a;rw[bC e]at a;exact h.2.2 p k aS a
def Hj.hl(h:Hj C b j K)(e:K.ns.length<=j)(f:b<=1073741000):Hl C (2^61) K:=by(have c:∀n∈K.ns,n.up=true/\n.calm (2^61):=λn a=>by have⟨p,d⟩:=jS a;exact h.2.2 p n (dc (fW.1 d).1 e) d);exact⟨h.1,λn a=>(c n a).1,λn a=>(c n a).2,λn a=>by have:=(h.1.lt n a).num;have:=h.2.1;omega⟩
end
theorem az9(C:dl){d B:Nat}(L V X Y Z:Int)(N:Option Addr)(A v:Nat){w:ag}(h:b_ c w d K B)(hI:KT C K)(I:L=(K.ps.length:Int))(hB:B<=1073740000):aw prog 30 #[aH #[L,V,X,Y,Z,ax N A v],aq d] w λe s=>e=true/\SQ (Hl C (2^61)) c w d K.ps (B+1000) s:=by obtain⟨W,hW,y,R⟩:∃W,w.alloc (au #[L,V,X,Y,Z,ax N A v] 32)=W/\ba () w W/\W.heap[w.heap.size]?=au #[L,V,X,Y,Z,ax N A v] 32:=⟨_,aY,(ba.refl _ w).alloc _,dE _ _⟩;(have⟨h4,H,J⟩:K.ps.length<=4/\K.ps.length=K.ns.length/\K.trace.length<=B:=by have⟨_,_,_,g⟩:=h;exact⟨g.len▸g.small.2.2,g.len,g.small.2.1⟩);have HQ:Hid (SQ (Hj C (B+0) 0) (eN c w .other) W d K.ps (B+200*0) W):=a_<|SQ.start (h.begin y) ⟨hI,J,λ_ _ h=>aS⟩;have HE:Hid (∀u,SQ (Hj C (B+K.ps.length) K.ps.length) (eN c w .other) W d K.ps (B+200*K.ps.length) u->SQ (Hl C (2^61)) c w d K.ps (B+1000) u):=a_ (λu I=>by have⟨l,M,h1,O,h3⟩:=SQ.from h y I;refine⟨l,M,h1.hl ?_ aS,O,h3.up aS aS⟩;have⟨_,_,_,g⟩:=h3.at_;rw[<-g.len,O];exact bH _);have HX:Hid (∀{P B'}u,SQ P (eN c w .other) W d K.ps B' u->u.cell? w.heap.size=L):=a_ (λu I=>by rw[br<|(I.old (bZ R)<|pG<|bH _).trans R];rfl);clear h hI y R J H;subst I;go_enter func30,ntmps30;go_wp2;go_loopw[5,6,7] (λi _ _ wr=>∃j:Nat,j<=K.ps.length/\i=j/\Hid (SQ (Hj C (B+j) j) (eN c w .other) W d K.ps (B+200*j) wr)) (λi _ _ _=>K.ps.length-(intOf i).toNat);(case atStart=>grind);case round=>obtain⟨j,hj,rfl,G⟩:=hrel;have x0:=aZ HX _<|aZ G;by_cases T:j<K.ps.length;{have lX:(j:Int)<(K.ps.length:Int):=aS;have⟨l,M,o,z,t⟩:=aZ G;(have S:j<l.ps.length:=by rw[z];exact T);have⟨n,p,k,q⟩:=t.at_.node S;cases F:n.up with|true=>have x:=ajh 4611686018427387904 nx [] t.at_ k q F aS aV (ar ⟨aY,aY⟩) aS;have D:Hid (∀s,dF M wr d {l with ns:=l.ns.set j {n with bY:=af (4611686018427387904,[])}} (B+200*j) s->SQ (Hj C (B+(j+1)) (j+1)) (eN c w .other) W d K.ps (B+200*(j+1)) s):=a_ λs q=>(SQ.post (Q:=Hj C (B+(j+1)) (j+1)) t q z (by have⟨a,b,c⟩:=o.bY k F;exact⟨a,cP b aS,c⟩)).up aS aS;clear HQ o t G k q;go_wp2_with fail;go_at_call 61;refine x.mono ?_;rintro e w1 ⟨rfl,r⟩;have D:=a_<|aZ D w1 r;go_wp2;go_roundw;(case rel=>exact⟨j+1,aS,by go_num,D⟩);case measure=>simp[intOf];omega|false=>(have f:n.inc<1073741824:=by have h1:=(o.1.lt n<|dh k).num;have O:=o.2.1;omega);have x:=asK d j 4611686018427387904 nx wr<|akT t.at_ q k F;have U:=adN t.at_ k q F f (alj (o.1.si k) o.1.n4) (λm E=>by have:=(o.gS k F f E).2;omega) aS;have D:Hid (∀m s,vR n m->dF M wr d {l with ns:=l.ns.set j {m.tidy with evs:=[]},bu:=l.bu++bW m.tidy.evs,trace:=l.trace++m.tidy.evs} (B+200*j+101+m.tidy.evs.length) s->SQ (Hj C (B+(j+1)) (j+1)) (eN c w .other) W d K.ps (B+200*(j+1)) s):=a_ (λm s E q=>by have⟨a,b⟩:=o.gS k F f E;exact(SQ.post t q z a).up aS aS);clear HQ o t G k q;go_wp2_with fail;go_at_call 61;refine x.mono ?_;rintro e w1 ⟨rfl,rfl⟩;go_wp2_with fail;go_at_call 62;refine U.mono ?_;rintro e w2 ⟨m,E,rfl,r⟩;have D:=a_<|aZ D m w2 E r;clear E r;go_wp2;go_roundw;(case rel=>grind);case measure=>simp[intOf];omega};{obtain rfl:j=K.ps.length:=aS;have oP:¬(K.ps.length:Int)<(K.ps.length:Int):=aS;go_wp2;go_ret;exact⟨aY,aZ<|a_<|aZ HE _<|aZ G⟩}
