import Derived.Test.YthbmmbgkchiajaaGreatB3
import Derived.Test.YthbmmbgkchiajaaGreatB4
set_option maxRecDepth 100000
set_option maxHeartbeats 8000000
set_option linter.all false
open Go renaming Frame→au,World→ah,Calls→aj,Goroutine→ar
open Array renaming replicate→aB
open Option renaming some→aa,none→af
namespace Go.Proofs.YthbmmbgkchiajaaGreat
open Go.Conc Go.ConcN Go.Proofs.Ren Go.RowKit Tryz
def NM.mL(n:NM):NM:=if n.up then{dp n.tick with evs:=[]}else n
def NM.lh(n:NM):List Ev:=if n.up then(dp n.tick).evs else[]
def KM.round(K:KM):KM:={K with ns:=K.ns.map NM.mL,bn:=K.bn++(K.ns.map NM.lh).flatMap dD,trace:=K.trace++(K.ns.map NM.lh).flatten}
theorem aoP{o:Nat->Tag}{c:ah}{p B:Nat}{n:NM}(h:bN o c p n B)(a:n.up=true)(g:n.opn.length<=4)(j:n.bq.length<=4)(f:B+101<=1099511627776)(i:Nat):aj prog 69 #[.pointer (aa ⟨p,0,af⟩)] c λe d=>∃v,e=.returned v/\MD (B+101) (λ_=>p) (λ_ k l=>k=n.mL/\l=n.lh) i v d:=by refine(adw o p B n c h a (ac3 a) g j f).mono ?_;rintro e d ⟨q,rfl,⟨⟨m,_,r⟩,_⟩,b⟩;refine⟨_,aS,q,_,m,n.mL,n.lh,aS,⟨aS,aS⟩,?_,?_⟩;{unfold NM.mL;simp_all};unfold NM.lh;rw[bw a];exact b.1
section
variable{Stop:(Nat->Prop)->ar->ah->Prop}{c:Nat->CTag}{w:ah}{pk:Nat}{K:KM}{B:Nat}{Sb:Nat->Prop}{L:Nat}{b:au}{a:Act}{ops:Array Oper}{i:Nat}{rest:List Nat}{k:List Item}{cs:List au}
def ae3(h:bW c w pk K B)(I:K.ps≠[])(H:∀b,Sb b->b<w.heap.size)(F:∀b,c b≠.other->¬Sb b)(Q:L<=1000)(X:B+5*L+1101<=1099511627776)(u:∀n∈K.ns,n.opn.length<=4/\n.bq.length<=4/\n.lh.length<=L)(S:∀z s g,bW z s pk K.round (B+101+4*L)->(∀b,b<w.heap.size->z b=c b)->(∀b,g b->b<s.heap.size)->(∀b,z b≠.other->¬g b)->(∀b,b<w.heap.size->(g b↔Sb b))->w.heap.size<=s.heap.size->EO s=EO w->(∀b,b<w.heap.size->¬Sb b->c b=.other->s.heap[b]?=w.heap[b]?)->RT prog Stop g (G (b.at (a.put ((ops[i]?).bind (·.dst))<|.tuple #[]) (.inRegion ops rest::k)) cs) s):RT prog Stop Sb (G ((base 31).at ⟨#[.pointer (aa ⟨pk,0,af⟩)]++aB (f31.ntmps-1) undef,[]⟩ [.code (f31.body.getD .skip)]) (b.at a (.inRegion ops (i::rest)::k)::cs)) w:=by refine ahb (T:=λj E l=>∃n,K.ns[j]?=aa n/\E=n.mL/\l=n.lh) (B1:=B+101) (L:=L) h I H F aM Q aM ?_ ?_ ?_;rintro j E l ⟨n,f,_,rfl⟩;exact(u n<|fp f).2.2;intro j n f J o Y p R;refine(aoP R J (u n<|fp f).1 (u n<|fp f).2.1 aM j).mono ?_;rintro e s ⟨v,t,W,x,V,E,l,A,O,P⟩;exact⟨v,t,W,x,V,E,l,A,⟨n,f,O⟩,P⟩;intro z s g r ls d;(have M:r=K.ns.map NM.mL:=by apply vE;intro j;rw[j9];cases f:K.ns[j]?with|none=>rw[akM (by rw[d.PD];exact List.getElem?_eq_none_iff.1 f)];rfl|some n=>have D:=(fl.1 f).1;have q:r[j]?=aa (r[j]'(by rw[d.PD];exact D)):=dO _;have m:ls[j]?=aa (ls[j]'(by rw[d.NU];exact D)):=dO _;rw[q,rU];congr 1;cases y:n.up with|true=>have⟨U,t,A,_⟩:=d.up j n _ _ f q m y;rw[f]at t;cases t;exact A|false=>rw[(d.down j n _ _ f q m y).1];unfold NM.mL;rw[y];rfl);(have N:ls=K.ns.map NM.lh:=by apply vE;intro j;rw[j9];cases f:K.ns[j]?with|none=>rw[akM (by rw[d.NU];exact List.getElem?_eq_none_iff.1 f)];rfl|some n=>have D:=(fl.1 f).1;have q:r[j]?=aa (r[j]'(by rw[d.PD];exact D)):=dO _;have m:ls[j]?=aa (ls[j]'(by rw[d.NU];exact D)):=dO _;rw[m,rU];congr 1;cases y:n.up with|true=>have⟨U,t,_,A⟩:=d.up j n _ _ f q m y;rw[f]at t;cases t;exact A|false=>rw[(d.down j n _ _ f q m y).2];unfold NM.lh;rw[y];rfl);have C:=d.at_;rw[M,N]at C;exact S z s g C d.iP d.sf.1 d.sf.2.1 d.sf.2.2 d.size d.os d.ba
end
