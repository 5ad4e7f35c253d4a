import Derived.Test.YthbmmbgkchiajaaGreatZ0
import Derived.Test.YthbmmbgkchiajaaGreatProg
import GoSem.Claim
import GoSem.ClaimJoined
import GoSem.ClaimMapViews
import Derived.JoinedTies
import Derived.WalkKit
import Derived.WalkSpells
import Derived.Deep.RegionHeld3
import Derived.Deep.MidRow
import Derived.Deep.AppendLies
import Derived.Deep.DrawnRows
import Derived.Deep.QuietTactic
import Derived.BigQuiet
import Derived.KernelRfl
import Derived.Deep.WholeRow
import Derived.Deep.RegionLaw
import Derived.Laws.CopyRow
import Derived.Laws.IdiomCopy
import Derived.Deep.RegionWith
import Derived.Laws.BytesArg
import Derived.Laws.IdiomStrings
set_option maxRecDepth 100000
set_option maxHeartbeats 8000000
set_option linter.all false
open Go renaming Program→ax,World→ah,Calls→aj,TypeId→aq,Value→ai
open Go.Value renaming int→aG,ownBlock→aK
open UInt8 renaming ofNat→aH
open ByteArray renaming empty→aI
open List renaming range→aC
open Array renaming replicate→aB
open Option renaming some→aa,none→af
open Go.IntKind renaming i64→ae
namespace Go.Proofs.YthbmmbgkchiajaaGreat
open Go.RowKit Tryz
variable{P:ax}{S T:Nat->Prop}{a b e g i k n o p q y:Nat}{c s:ByteArray}{f:List ai}{l:List ByteArray}{t:aq}{v:ai}{w w':ah}{x:Nat×ByteArray}
theorem aN{p:Prop}(h:p:=by kernel_rfl):p:=h
def Fx:=@Go.Proofs.Tryz.underlying42
def akL:=@Go.all_oneCell_toArray
def Fy:=@Go.Proofs.Tryz.isAgg74
def kF:=@Go.RowKit.Below.heap_alloc
def aaF:=@Go.results_none
def FA:=@Go.step_append_lies
def MV:=@Go.Proofs.Tryz.func61
def FC:=@Go.Proofs.Tryz.underlying149
def AK:=@Go.DataW.trod_int
def jN:=@Go.info_parts
def mI:=@Go.IntKind.wrap_i64
def aaI:=@Go.Proofs.Tryz.runUnderlying74
def FD:=@Go.AllReadyH.cons
def CH:=@Go.Proofs.Tryz.isAgg93
def aaK:=@Go.Lib.run_eql_slice_nil
def Jg:=@Go.bodyPost_ret
def MX:=@Go.Proofs.Tryz.ntmps18
def dv:=@Go.heap_alloc_new
def vA:=@Go.Calls.quiet_of_same
def FH:=@Go.World.news_of_block
def MZ:=@Go.Proofs.Tryz.func62
def akS:=@Go.Result.andThen_ok
def aaP:=@Go.Frame.finish_at
def FJ:=@Go.AllReadyH.nil
def sT:=@Go.Proofs.Tryz.ntmps94
def M0:=@Go.Proofs.Tryz.sizeOf3
def akT:=@Go.World.grownBy_alloc
def M3:=@Go.Proofs.Tryz.func60
def lF:=@Go.run_underlying
def FK:=@Go.Proofs.Tryz.ntmps77
def AR:=@Go.Proofs.Tryz.underlying138
def FL:=@Go.Proofs.Tryz.func77
def FP:=@Go.run_append_own_at
def M_:=@Go.Proofs.Tryz.ntmps233
def Na:=@Go.Proofs.Tryz.underlying30
def sU:=@Go.Proofs.Tryz.func94
def nI:=@Go.Proofs.Tryz.isAgg3
def CK:=@Go.Proofs.Tryz.underlying48
def Nf:=@Go.Proofs.Tryz.underlying305
def ak2:=@Go.DataW.trod_struct
def Nh:=@Go.Proofs.Tryz.underlying5
def qV:=@Go.IntWalk.i64_in
def Ni:=@Go.Proofs.Tryz.results18
def aa5:=@Go.Proofs.Tryz.underlying60
def uh:=@Go.Proofs.Tryz.underlying3
def Jo:=@Go.wp_region_held_drew
def FU:=@Go.wpAnyH_ready
def CN:=@Go.World.ownsRow_nil
def FW:=@Go.Proofs.Tryz.underlying150
def CQ:=@Go.Proofs.Tryz.ntmps243
def FX:=@Go.Proofs.Tryz.func18
def alg:=@Go.World.cell?_alloc_lt
def Nq:=@Go.Proofs.Tryz.func233
def CU:=@Go.Proofs.Tryz.func243
def aW{p:Prop}(h:p):Hid p:=h
def aU{p:Prop}(h:Hid p):p:=h
structure aV(S:Nat->Prop)(w w':ah):Prop where
 os:w'.os=w.os
 tape:w'.tape=w.tape
 output:w'.output=w.output
 size:w.heap.size<=w'.heap.size
 block:∀k,k<w.heap.size->¬S k->w'.heap[k]?=w.heap[k]?
def aV.refl(S:Nat->Prop)(w:ah):aV S w w:=⟨aS,aS,aS,bB _,λ_ _ _=>rfl⟩
def aV.mono{w b:ah}(h:aV S w b)(e:∀k,k<w.heap.size->S k->T k):aV T w b:=⟨h.os,h.tape,h.output,h.size,λk a d=>h.block k a λc=>d<|e k a c⟩
def aV.trans{a b c:ah}(h:aV S a b)(k:aV T b c)(f:∀i,i<a.heap.size->T i->S i):aV S a c:=⟨k.os.trans h.os,k.tape.trans h.tape,k.output.trans h.output,cL h.size k.size,λi d e=>(k.block i (dg d h.size) λg=>e<|f i d g).trans<|h.block i d e⟩
def aV.drew{a w:ah}(h:aV S a w):aV S a w.drew:=⟨h.os,h.tape,h.output,h.size,h.block⟩
def aV.drewN{a w:ah}(h:aV S a w)(n:Nat):aV S a (w.drewN n):=by induction n with|zero=>exact h|succ n b=>exact b.drew
def aV.alloc{a w:ah}(h:aV S a w)(o:Obj):aV S a (w.alloc o):=h.trans (T:=λ_=>False) ⟨aS,aS,aS,aP,λk b _=>kF _ _ _ b⟩ (λ_ _ h=>h.elim)
theorem aV.setCell{a w:ah}(h:aV S a w){p:Addr}(d:S p.block\/a.heap.size<=p.block)(u:ai):aV S a (w.setCell p u):=h.trans ⟨aS,aS,aS,by simp[World.setCell],λk _ b=>Below.heap_setCell _ _ _ _ b⟩ (λi c e=>by grind)
def aV.grown{a w d:ah}{c:Option Nat}(h:aV S a w)(b:w.grownBy d c)(l:∀k,c=aa k->k<a.heap.size->S k):aV S a d:=h.trans ⟨b.os,b.tape,b.output,b.size,λk g j=>b.block k g λe=>j e.symm⟩ (λi f e=>l i e f)
def aV.cell{w a:ah}(h:aV S w a){p:Addr}(c:p.block<w.heap.size)(b:¬S p.block):a.cell? p=w.cell? p:=World.cell?_of_block (h.block _ c b)
def aV.frozen{S:Nat->Prop}{w a:ah}(h:aV S w a){p:Addr}(c:p.block<w.heap.size)(b:¬S p.block):a.frozen? p=w.frozen? p:=World.frozen?_of_block (h.block _ c b)
def bU{o:Obj}(h:w.heap[b]?=aa o):b<w.heap.size:=(je.1 h).1
def aV.heap{w c:ah}(h:aV S w c){o:Obj}(a:w.heap[b]?=aa o)(d:¬S b):c.heap[b]?=aa o:=(h.block b (bU a) d).trans a
def Own(S:Nat->Prop)(w:ah)(e a:Nat)(v:ai)(n:Nat)(b:List ai):Prop:=w.ownsRow 0 e a v n b/\∀k,v.ownBlock=aa k->S k
def Own.aT{i:List ai}(h:Own S w e a v n i)(m:aV T w w')(l:∀k,k<w.heap.size->S k->¬T k):Own S w' e a v n i:=by refine⟨⟨h.1.1,?_⟩,h.2⟩;rcases h.1.2with o|⟨g,d,f,rfl,j,b,c⟩;exact .inl o;exact .inr ⟨g,d,f,aS,j,m.heap b<|l g (bU b)<|h.2 g aS,c⟩
def Own.mono{c:List ai}(h:Own S w e a v n c)(d:∀k,k<w.heap.size->S k->T k):Own T w e a v n c:=⟨h.1,λk b=>d k ((h.1.lt k b).2)<|h.2 k b⟩
def Own.nil(S:Nat->Prop)(w:ah)(e a:Nat):Own S w e a (.slice af 0 0) 0 []:=⟨CN _ _ _ _,λk h=>by simp[aK]at h⟩
def dE{a:Array ai}{e:aq}{c:Nat×Nat}(h:w.heap[b]?=aa (.cells a e c))(u:ai):(w.setCell ⟨b,o,af⟩ u).heap[b]?=aa (.cells (a.setIfInBounds o u) e c):=by simp[World.setCell,Array.getElem?_modify,h]
def bf{a:Array ai}{e:aq}{c:Nat×Nat}(h:w.heap[b]?=aa (.cells a e c)):w.cell? ⟨b,o,af⟩=a[o]?:=cell_of_row w b o a e c h
def bP{a:Array ai}{e:aq}(h:w.heap[b]?=aa (.cells a e (0,0))):w.frozen? ⟨b,o,af⟩=false:=by simp[World.frozen?,h]
def uZ(w:ah)(a b:Obj):((w.alloc a).alloc b).heap[w.heap.size+1]?=aa b:=by have:=dv (w.alloc a) b;simpa using this
def Bb{w b c:ah}{a:Option Nat}(h:aV (λ_=>False) w b)(d:b.grownBy c a):aV (λk=>a=aa k) w c:=(h.mono λ_ _ f=>f.elim).grown d (λ_ e _=>e)
def aV.range{w c:ah}(h:aV S w c){a:List ai}(g:w.rangeAt b o a)(d:b<w.heap.size)(f:¬S b):c.rangeAt b o a:=λj v e=>(h.cell d f).trans<|g j v e
theorem Own.field{w j:ah}{p f e c n g b t d H:Nat}{q:Array ai}{o:ai}{x u:List ai}(r:w.heap[p]?=aa (.cells q t (0,0)))(a:Own S w e c o n x)(l:¬S p)(s:aV (λk=>o.ownBlock=aa k) w j)(i:j.ownsRow 0 e c (.slice (aa ⟨d,0,af⟩) g b) g u)(m:o.ownBlock=aa d\/d=H)(y:w.heap.size<=H):(j.setCell ⟨p,f,af⟩<|.slice (aa ⟨d,0,af⟩) g b).heap[p]?=aa (.cells (q.setIfInBounds f<|.slice (aa ⟨d,0,af⟩) g b) t (0,0))/\Own (λk=>S k\/w.heap.size<=k) (j.setCell ⟨p,f,af⟩<|.slice (aa ⟨d,0,af⟩) g b) e c (.slice (aa ⟨d,0,af⟩) g b) g u/\aV (λk=>k=p\/S k) w (j.setCell ⟨p,f,af⟩<|.slice (aa ⟨d,0,af⟩) g b):=by have z:=bU r;(have v:d≠p:=by rintro rfl;rcases m with h|h;exact l<|a.2 _ h;omega);refine⟨dE (s.heap r λe=>l<|a.2 p e) _,?_,?_⟩;refine Own.aT ⟨i,?_⟩ ((aV.refl (λk=>k=p) j).setCell (p:=⟨p,f,af⟩) (.inl aS) _) ?_;intro k h;simp[aK,gD]at h;subst h;rcases m with h|h;exact .inl<|a.2 _ h;omega;grind;exact(s.mono λk _ e=>.inr<|a.2 k e).setCell (.inl<|.inl aS) _
def awI{a b:Bool}(h:a=b):Ending.returned (.bool a)=.returned (.bool b):=by rw[h]
def IR{k:IntKind}{a b:Int}(h:a=b):Ending.returned (.int k a)=.returned (.int k b):=by rw[h]
def Cw(c:Int)(n:Nat):Nat:=((if c<0then-(c+1)else c)%(n:Int)).toNat
theorem ac2(p n a:Nat)(c:Option Addr)(i:Nat)(w:ah)(g:w.cell? ⟨p,0,af⟩=aa (.slice c n a))(h:i<n)(b:n<=9223372036854775807):aj prog 254 #[.pointer (aa ⟨p,0,af⟩),.int ae i] w λe d=>e=.returned (.bool true)/\d=w:=by have f:decide ((0:Int)<=(i:Int))=true:=aP;go_enter func254,ntmps254;go_wp2;go_ret;simp_all
structure DM where
 bF:List ByteArray
 bE:List (Nat×ByteArray)
 fI:Nat
structure DM.ok(m:DM):Prop where
 len:1<=m.bF.length/\m.bF.length<=128
 bF:∀s∈m.bF,s.size=64
 bE:∀x∈m.bE,x.1<m.bF.length/\x.2.size=64
def cz(s:ByteArray):List ai:=s.data.toList.map λb=>aG .u8 (b.toNat:Int)
def mB(l:List ByteArray):List ai:=l.flatMap cz
def kX(x:Nat×ByteArray):List ai:=aG ae (x.1:Int)::cz x.2
def AD(l:List (Nat×ByteArray)):List ai:=l.flatMap kX
def oq(s:ByteArray):(cz s).length=s.size:=by simp[cz]
def DN(s:ByteArray):∀u∈cz s,u.oneCell'=true:=by intro u a;simp[cz,fY]at a;obtain⟨b,_,rfl⟩:=a;rfl
def OU(x:Nat×ByteArray):∀u∈kX x,u.oneCell'=true:=by intro u a;rcases jO.1 a with rfl|h;rfl;exact DN _ u h
def I3(x:Nat×ByteArray)(h:x.2.size=64):(kX x).length=65:=by simp[kX,oq,h]
def eP(S:Nat->Prop)(w:ah)(p t e i f j g:Nat)(b:List ai)(h:Nat)(c:List ai)(y:Nat):Prop:=∃a d,w.heap[p]?=aa (.cells #[a,d,.int ae (y:Int)] t (0,0))/\S p/\Own (λk=>S k/\k≠p) w e i a g b/\Own (λk=>S k/\k≠p/\a.ownBlock≠aa k) w f j d h c
def eP.aT{p t e n f o j:Nat}{a:List ai}{m:Nat}{b:List ai}(h:eP S w p t e n f o j a m b y)(d:aV T w w')(c:∀k,k<w.heap.size->S k->¬T k):eP S w' p t e n f o j a m b y:=by have⟨u,v,g,i,q,r⟩:=h;exact⟨u,v,d.heap g<|c p (bU g) i,i,q.aT d λk l s=>c k l s.1,r.aT d λk l s=>c k l s.1⟩
def eP.mono{p t d j e m g:Nat}{a:List ai}{b:List ai}(h:eP S w p t d j e m g a i b y)(c:∀k,k<w.heap.size->S k->T k):eP T w p t d j e m g a i b y:=by have⟨r,u,f,n,o,q⟩:=h;exact⟨r,u,f,c p (bU f) n,o.mono λk l s=>⟨c k l s.1,s.2⟩,q.mono λk l s=>⟨c k l s.1,s.2⟩⟩
def Own.self{b:List ai}(h:Own S w e a v n b):Own (λk=>S k/\v.ownBlock=aa k) w e a v n b:=⟨h.1,λk e=>⟨h.2 k e,e⟩⟩
def Own.lt{c:List ai}(h:Own S w e a v n c)(b:v.ownBlock=aa k):k<w.heap.size:=(h.1.lt k b).2
theorem eP.append{w j:ah}{p t q x l n v:Nat}{I:Nat}{o:List ai}{y d a c H:Nat}{z:List ai}{g i:ai}(s:w.heap[p]?=aa (.cells #[g,i,.int ae (y:Int)] t (0,0)))(D:S p)(u:Own (λk=>S k/\k≠p) w q x g v f)(G:Own (λk=>S k/\k≠p/\g.ownBlock≠aa k) w l n i I o)(E:aV (λk=>i.ownBlock=aa k) w j)(b:j.ownsRow 0 l n (.slice (aa ⟨c,0,af⟩) d a) d z)(m:i.ownBlock=aa c\/c=H)(C:w.heap.size<=H):eP (λk=>S k\/w.heap.size<=k) (j.setCell ⟨p,1,af⟩<|.slice (aa ⟨c,0,af⟩) d a) p t q x l n v f d z y/\aV S w (j.setCell ⟨p,1,af⟩<|.slice (aa ⟨c,0,af⟩) d a):=by obtain⟨A,B,r⟩:=Own.field s G (λh=>h.2.1 aS) E b m C;have F:=bU s;refine⟨⟨g,.slice (aa ⟨c,0,af⟩) d a,A,.inl D,?_,?_⟩,?_⟩;{refine(u.self.aT r λk _ h J=>?_).mono λk _ h=>⟨.inl h.1.1,h.1.2⟩;simp_all};{refine B.mono λk _ h=>?_;rcases h with h|h;{simp_all};exact⟨.inr h,aM,λe=>by have:=u.lt e;omega⟩};refine r.mono λk _ h=>?_;grind
def gG(S:Nat->Prop)(w:ah)(p:Nat)(m:DM):Prop:=eP S w p 232 305 64 307 65 m.bF.length (mB m.bF) m.bE.length (AD m.bE) m.fI
theorem uE{d:Type}(f:d->List ai)(c:Nat):∀(l:List d)(k j:Nat)(x:d),(∀y∈l,(f y).length=c)->l[k]?=aa x->j<c->(l.flatMap f)[k*c+j]?=(f x)[j]?|[],k,j,x,_,h,_=>by simp at h|a::l,0,j,x,b,h,g=>by grind|a::l,k+1,j,x,b,h,g=>by rw[y_,n9 (by grind),b a aP];(have e:(k+1)*c+j-c=k*c+j:=by rw[AL];omega);rw[e];exact uE f c l k j x (λy i=>b y (by simp[i])) (by simpa using h) g
theorem aij{b:Type}(f:b->List ai)(c:Nat)(l:List b)(h:∀y∈l,(f y).length=c):(l.flatMap f).length=l.length*c:=by induction l with|nil=>simp|cons a l d=>grind
theorem Own.open{d:List ai}(h:Own S w e b v n d)(r:0<n):∃g a,v=.slice (aa ⟨g,0,af⟩) n a/\n<=a/\S g/\g<w.heap.size/\(∀j u,d[j]?=aa u->w.cell? ⟨g,j,af⟩=aa u)/\(∀j,w.frozen? ⟨g,j,af⟩=false):=by have⟨⟨q,m⟩,i⟩:=h;rcases m with⟨_,o⟩|⟨g,a,f,rfl,_,c,k,_,l,s⟩;omega;refine⟨g,a,aS,k,i g aS,bU c,?_,λj=>bP c⟩;intro j u p;rw[bf c];grind
def mX(l:List (Nat×ByteArray))(i:Nat)(s:ByteArray):ByteArray:=l.foldl (λs x=>if x.1=i then x.2 else s) s
def Pz(l:List (Nat×ByteArray))(x:Nat×ByteArray)(i:Nat)(s:ByteArray):mX (l++[x]) i s=if x.1=i then x.2 else mX l i s:=by simp[mX]
def DM.read(m:DM)(i:Nat):ByteArray:=mX m.bE i (m.bF.getD i aI)
def zS:ByteArray:=⟨(List.replicate 64 (0:UInt8)).toArray⟩
def awm:zS.size=64:=aO
def auH:cz zS=List.replicate 64 (aG .u8 0):=by unfold cz zS;simp
def Ap(n:Nat):DM:=⟨List.replicate n zS,[],0⟩
def aq'(n:Nat)(b:1<=n)(c:n<=128):(Ap n).ok:=by refine⟨by simp[Ap];omega,?_,by simp[Ap]⟩;intro s a;simp[Ap]at a;rw[a.2];exact awm
def anv(n:Nat):mB (List.replicate n zS)=List.replicate (n*64) (aG .u8 0):=by induction n with|zero=>rfl|succ n a=>rw[List.replicate_succ,mB,y_];show cz zS++mB (List.replicate n zS)=_;rw[a,auH,List.replicate_append_replicate];congr 1;omega
def aem(v:ai)(k n:Nat)(a:0<k):(madeCells (aB k v) n).toList=List.replicate n v:=by apply List.ext_getElem;simp[madeCells];intro i b c;have:i%k<k:=AU _ a;simp[madeCells,this]
def ahD:(prog.info? 305).map (λi=>(i.zero,i.size,i.bytes))=aa (aa (.agg<|aB 64<|.int .u8 0),64,64):=aN
def awl(n:Nat)(w:ah)(u:1<=n)(v:n<=128):aj prog 119 #[.int ae n] w λe i=>∃p,e=.returned (.tuple #[.pointer (aa ⟨p,0,af⟩),.int ae 0])/\gG (λk=>w.heap.size<=k) i p (Ap n)/\aV (λ_=>False) w i:=by(have s:decide ((n:Int)<1)=false:=by simp;omega);(have t:decide ((128:Int)<(n:Int))=false:=by simp;omega);have⟨r,o,d,f,g⟩:=jN ahD;go_enter func119,ntmps119;go_wp2_with(at_make;go_must(refine wpList_make_full _ aS (.tmp 10) (.tmp 10) 229 aS 0 305 r (.agg<|aB 64<|.int .u8 0) 64 underlying229 o d f ae ae _ _ n aS aS aQ aQ (by rw[g];omega) (by unfold maxLen;omega) (gi _) ?_;intro b a m));go_ret2;have c:aV (λ_=>False) w b:=(aV.refl _ _).grown m (λk h=>by cases h);have q:=(a.lt w.heap.size aS).2;refine⟨b.heap.size,aS,⟨.slice (aa ⟨w.heap.size,0,af⟩) n n,.slice af 0 0,?_,?_,?_,Own.nil _ _ _ _⟩,c.alloc _⟩;exact heap_alloc_last b _;show w.heap.size<=b.heap.size;omega;refine Own.aT ⟨?_,?_⟩ ((aV.refl _ b).alloc _) λ_ _ _ h=>h;(have j:(Ap n).bF.length=n:=by simp[Ap]);(have l:mB (Ap n).bF=(madeCells (aB 64<|.int .u8 0) (n*64)).toList:=by rw[aem _ _ _ aM];exact anv n);rw[j,l];exact a;intro k c;simp[aK]at c;exact⟨aM,aM⟩
def DM.put(m:DM)(i:Nat)(s:ByteArray):DM:=⟨m.bF,m.bE++[(i,s)],m.fI⟩
def DM.zh{m:DM}(h:m.ok)(b:i<m.bF.length)(c:s.size=64):(m.put i s).ok:=by refine⟨h.len,h.bF,?_⟩;intro x a;simp[DM.put,j8,sS]at a;rcases a with a|rfl;exact h.bE x a;exact⟨b,c⟩
theorem Own.len(h:Own S w e b v n f):∃c a,v=.slice c n a/\n<=a:=by rcases h.1.2with⟨rfl,rfl⟩|⟨g,a,d,rfl,_,_,i,_⟩;{simp_all};grind
theorem NQ(b:Nat):∀(l:List ai)(k:Nat)(a:Array ai)(i:Nat),b+k+l.length<=a.size->((l.zipIdx k).foldl (λ(c:Array ai) (x:ai×Nat)=>c.setIfInBounds (b+x.2) x.1) a)[i]?=if b+k<=i/\i<b+k+l.length then l[i-(b+k)]?else a[i]?|[],k,a,i,_=>by have:¬(b+k<=i/\i<b+k+([]:List ai).length):=aP;rw[dz this];rfl|x::l,k,a,i,h=>by simp[lG]at h;rw[ak1,AQ,NQ b l (k+1) _ i (by simp;omega)];by_cases d:b+(k+1)<=i/\i<b+(k+1)+l.length;grind;rw[dz d];by_cases e:i=b+k;grind;grind
theorem auI(c a:Array ai)(h:a.size=c.size):(c.zipIdx.foldl (λ(b:Array ai) (x:ai×Nat)=>b.setIfInBounds (0+x.2) x.1) a)=c:=by apply FE;intro i;rw[<-FI,aaN,NQ 0 c.toList 0 a i (by simp;omega)];simp_all
def ayG(W:ah)(t e:aq)(i:TypeInfo)(z v:ai)(a:Nat)(l:P.underlying t=aa (.slice e))(j:P.info? e=aa i)(m:i.zero=aa z)(d:i.size=a)(n:z.cells.size=a)(o:0<a)(p:a<=16777216)(h:v.cells.size=a):(Instr.buildSlice t 1 #[(0,v)]).run P W=.ok (.slice (aa ⟨W.heap.size,0,af⟩) 1 1) (W.alloc<|.cells v.cells e):=by(have g:((Array.range (1*a)).map (z.cells[·%z.cells.size]!)).size=v.cells.size:=by simp[h]);have k:¬(1*a>2^24):=aM;have b:¬(1*a=0):=aM;(have f:Instr.fill (λi=>aa (i*a,a)) ((Array.range (1*a)).map (z.cells[·%z.cells.size]!)) [(0,v)]=aa v.cells:=by have:=auI v.cells _ g;unfold Instr.fill;simp only[aa8];rw[dz (by rw[g];simp[h])];unfold Instr.fill;rw[this]);simp[abc]at f k b;have c:¬(16777216<a):=aM;simp[Instr.buildSlice,lF l,typeInfo,j,sizeOf,zeroValue,m,d,c,b,newRow,f]
def awE(W:ah)(t e:aq)(i:TypeInfo)(z v:ai)(b:Array ai)(a:Nat)(k:P.underlying t=aa (.slice e))(j:P.info? e=aa i)(m:i.zero=aa z)(c:i.size=a)(d:z.cells.size=a)(f:0<a)(g:a<=16777216)(h:v.cells=b)(l:b.size=a):(Instr.buildSlice t 1 #[(0,v)]).run P W=.ok (.slice (aa ⟨W.heap.size,0,af⟩) 1 1) (W.alloc<|.cells b e):=by subst h;exact ayG W t e i z v a k j m c d f g l
def ajs(b:Nat->Option (Nat×Nat))(a:Array ai)(i e d:Nat)(v:ai)(f:List (Nat×ai))(k:b i=aa (e,d))(l:v.cells.size=d)(m:e+d<=a.size):Instr.fill b a ((i,v)::f)=Instr.fill b (v.cells.zipIdx.foldl (λg (c,j)=>g.setIfInBounds (e+j) c) a) f:=by have h:¬(a.size<e+d):=aM;simp[Instr.fill,k,l,h]
theorem aAq(z:Array ai)(x:ai)(a:List ai)(c:x.cells=#[x])(b:z.size=a.length+1):Instr.fill (#[(0,1),(1,a.length)][·]?) z [(0,x),(1,.agg a.toArray)]=aa (x::a).toArray:=by(have f:(x.cells.zipIdx.foldl (λ(a:Array ai) (y:ai×Nat)=>a.setIfInBounds (0+y.2) y.1) z)=z.setIfInBounds 0 x:=by rw[c];rfl);rw[ajs _ _ 0 0 1 x _ aS (by rw[c];rfl) aM];rw[f,ajs _ _ 1 1 a.length (.agg a.toArray) _ aS (by simp[Value.cells]) (by simp[b];omega)];simp only[Value.cells,Instr.fill];congr 1;apply FE;intro i;rw[<-FI,aaN,NQ 1 a 0 _ i (by simp[b];omega)];by_cases h:1+0<=i/\i<1+0+a.length;rw[bw h];obtain⟨d,rfl⟩:∃d,i=d+1:=⟨i-1,aM⟩;simp;rw[dz h];by_cases e:i=0;subst e;simp[b];grind
def aB_(W:ah)(a:Addr)(b:Nat):(Instr.arrayAt 305<|.slice (aa a) 64 b).run prog W=.ok (.pointer<|aa a) W:=by simp[Instr.arrayAt,lF Nf]
def aqL:(prog.info? 305).map (·.size)=aa 64:=aN
def Re(x:ai):Sem ai:=Instr.loadAt 305 x
def ajE(x:ai):Instr.loadAt 305 x=Re x:=rfl
def Ou(W:ah)(b o:Nat)(a:List ai)(d:W.rangeAt b o a)(c:a.length=64):(Re<|.pointer<|aa ⟨b,o,af⟩).run prog W=.ok (.agg a.toArray) W:=run_loadAt_mid W b o 305 a _ d Nf aS (by rw[c];exact aqL)
def Kr:(prog.info? 307).map (λi=>(i.zero,i.size,i.bytes))=aa (aa (.agg (aB 1 (.int ae 0)++aB 64 (.int .u8 0))),65,72):=aN
def ase:(prog.info? 3).map (·.size)=aa 1:=aN
def F7:(prog.info? 305).map (·.size)=aa 64:=aN
def Fu(W:ah){t n:Nat}(h:(P.info? t).map (·.size)=aa n):(sizeOf t).run P W=.ok n W:=by cases a:P.info? t with|none=>simp[a]at h|some i=>(have:i.size=n:=by simpa[a]using h);simp[sizeOf,typeInfo,a,this]
def uV(i:Int)(a:List ai):Array ai:=(aG ae i::a).toArray
def axH(i:Int)(a:List ai):(uV i a).size=a.length+1:=by simp[uV]
def aoe(W:ah)(i:Int)(b:List ai)(d:b.length=64):(Instr.build 307 #[(0,.int ae i),(1,.agg b.toArray)]).run prog W=.ok (.agg<|uV i b) W:=by have⟨k,f,c,h,j⟩:=jN Kr;have e:=aAq (aB 1 (.int ae 0)++aB 64 (.int .u8 0)) (.int ae i) b aS (by simp[d]);rw[d]at e;(have g:(zeroValue 307).run prog W=.ok (.agg (aB 1 (.int ae 0)++aB 64 (.int .u8 0))) W:=by simp[zeroValue,typeInfo,f,c]);unfold Instr.build;simp only[Sem.run_bind,g,akS,lF underlying307,Value.cells];simp[Fu _ ase,Fu _ F7];have a:=e;simp[Array.replicate_one,aaO]at a;rw[a];rfl
section
theorem akg:(Value.agg (aB 1 (.int ae 0)++aB 64 (.int .u8 0))).cells.size=65:=by show(aB 1 (aG ae 0)++aB 64 (aG .u8 0)).size=65;simp_all
def asa(W:ah)(i:Int)(a:List ai)(b:a.length=64):(Instr.buildSlice 230 1 #[(0,.agg (uV i a))]).run prog W=.ok (.slice (aa ⟨W.heap.size,0,af⟩) 1 1) (W.alloc<|.cells (uV i a) 307):=by have⟨h,c,d,e,g⟩:=jN Kr;(have f:(uV i a).size=65:=by rw[axH,b]);generalize uV i a=a at*;exact awE W 230 307 h _ (.agg a) a 65 underlying230 c d e akg aM aM aS f
def ajF(a:Array (Nat×ai)):Sem ai:=Instr.build 307 a
def aBC(a:Array (Nat×ai)):Instr.build 307 a=ajF a:=rfl
def aqJ(W:ah)(i:Int)(a:List ai)(b:a.length=64):(ajF #[(0,.int ae i),(1,.agg a.toArray)]).run prog W=.ok (.agg<|uV i a) W:=aoe W i a b
def ahs(a:Array (Nat×ai)):Sem ai:=Instr.buildSlice 230 1 a
def at7(a:Array (Nat×ai)):Instr.buildSlice 230 1 a=ahs a:=rfl
def atU(W:ah)(i:Int)(a:List ai)(b:a.length=64):(ahs #[(0,.agg (uV i a))]).run prog W=.ok (.slice (aa ⟨W.heap.size,0,af⟩) 1 1) (W.alloc<|.cells (uV i a) 307):=asa W i a b
attribute[local go_sem↓]aBC at7 ajE
attribute[local go_sem]aqJ atU
def JF(S:Nat->Prop)(p:Nat)(m:DM)(i c b:Nat)(s:ByteArray)(w:ah)(R:gG S w p m)(Z:m.ok)(X:i<m.bF.length)(L:s.size=64)(hN:(m.bE.length+1)*72<=140737488355328)(K:w.rangeAt c 0 (cz s))(x:c<w.heap.size)(v:¬S c)(D:64<=b):aj prog 190 #[.pointer (aa ⟨p,0,af⟩),.int ae i,.slice (aa ⟨c,0,af⟩) 64 b] w λe a=>e=.returned (.int ae 0)/\gG (λk=>S k\/w.heap.size<=k) a p (m.put i s)/\aV S w a:=by have⟨vd,M,h,T,H,l⟩:=R;obtain⟨N,O,rfl,G⟩:=H.len;have F:=bf (o:=0) h;have r:=bf (o:=1) h;simp at F r;have hn:=Z.len.2;(have q:(cz s).length=64:=by rw[oq,L]);have⟨i0,y,A,B,C⟩:=jN Kr;have z:¬M.ownBlock=aa p:=λe=>(l.2 _ e).2.1 aS;have J:=bU h;have U:=λW=>aB_ W ⟨c,0,af⟩ b;go_enter func190,ntmps190;go_wp2_with(go_at_call 254;refine(ac2 p m.bF.length O N i _ F X aM).mono ?_;rintro e a ⟨rfl,rfl⟩);have Y:(Re<|.pointer<|aa ⟨c,0,af⟩).run prog a.drew=.ok (.agg (cz s).toArray) a.drew:=Ou _ c 0 _ (by simpa using K) q;go_region_law((refine FA _ aQ _ _ _ aQ 0 307 i0 _ 65 72 underlying230 y A B C akg aM M m.bE.length (AD m.bE) aQ ((l.1.alloc _).drew) ⟨a.heap.size,0,af⟩ 1 1 (kX (i,s)) aQ (by rw[I3 _ L]) (FH (cs:=uV i<|cz s) (t:=307) (fr:=(0,0)) (by exact dv _ _)) (OU _) aM (by unfold maxLen;omega) aM (gi _) (a.heap.size+1) aP ?_;intro gg E w1 g d n I;have f:=Bb ((aV.refl _ a).alloc _).drew d;have j:=f.heap h z;have u:=bf (o:=1) j;have V:=bP (o:=1) j;simp at u;have hr2:=f.range K x λe=>v (l.2 _ e).1));all_goals go_wp2;go_ret;have⟨P,Q⟩:=eP.append h T (H) l f g n aM;refine⟨aS,?_,Q⟩;unfold gG DM.put AD;rw[kG,Jm,AP,aa_];exact P
end

section
attribute[local go_sem↓]Go.wp_at_zero Go.wp_at_succ
def iR:Array ai:=aB 64 (.int .u8 0)
def SX:(prog.info? 5).map (λi=>(i.zero,i.size,i.bytes))=aa (aa (.int .u8 0),1,1):=aN
def ait(W:ah):(Instr.makeSlice 138 (.int ae 64)<|.int ae 64).run prog W=.ok (.slice (aa ⟨W.heap.size,0,af⟩) 64 64) (W.alloc<|.cells iR 5):=by have⟨f,d,a,b,c⟩:=jN SX;have:=run_make W 138 5 f _ AR d a ae ae 64 64 aM aM (by rw[c];omega) aM;rw[this,b];(have e:madeCells (aG .u8 0).cells (Int.toNat 64*1)=iR:=by apply Array.toList_inj.1;show(madeCells (aB 1<|aG .u8 0) 64).toList=_;rw[aem _ 1 _ aM];simp[iR]);rw[e];rfl
end
section
theorem Own.range{i:List ai}(h:Own S w e a (.slice (aa ⟨g,0,af⟩) n b) n i){c:List ai}(x:∀j,j<c.length->i[o+j]?=c[j]?):w.rangeAt g o c:=by have⟨⟨u,p⟩,r⟩:=h;rcases p with⟨d,_⟩|⟨q,f,k,d,_,l,s,_,m,y⟩;cases d;cases d;intro j v t;rw[bf l];grind
def awU(h:Own S w 305 64 (.slice (aa ⟨g,0,af⟩) l.length a) l.length (mB l))(d:∀s∈l,s.size=64)(b:l[i]?=aa s):w.rangeAt g (i*64) (cz s):=h.range (λj c=>uE cz 64 l i j s (λy e=>by rw[oq,d y e]) b (by rw[oq,d s<|fp b]at c;exact c))
theorem NN{l:List (Nat×ByteArray)}(h:Own S w 307 65 (.slice (aa ⟨g,0,af⟩) l.length b) l.length (AD l))(e:∀x∈l,x.2.size=64)(d:l[i]?=aa x):w.cell? ⟨g,i*65,af⟩=aa (.int ae (x.1:Int))/\w.rangeAt g (i*65+1) (cz x.2)/\w.rangeAt g (i*65) (kX x):=by have c:=h.range λj a=>uE kX 65 l i j x (λy f=>I3 y<|e y f) d (by rw[I3 x<|e x<|fp d]at a;exact a);refine⟨c 0 _ aS,?_,c⟩;intro j v a;have:=c (j+1) v (by simpa[kX]using a);grind
theorem acU(l:List (Nat×ByteArray))(i:Nat)(s:ByteArray)(k:Nat)(b:k<l.length)(m:∀(j:Nat)(x:Nat×ByteArray),k<j->l[j]?=aa x->x.1≠i)(x:Nat×ByteArray)(n:l[k]?=aa x)(g:x.1=i):mX l i s=x.2:=by(have c:l.take (k+1)=l.take k++[x]:=by rw[FB,n];rfl);(have e:∀(d:List (Nat×ByteArray))(t:ByteArray),(∀y∈d,y.1≠i)->mX d i t=t:=by intro d;induction d with|nil=>intro t _;rfl|cons y d q=>intro t h;show mX d i (if y.1=i then y.2 else t)=t;grind);(have f:mX l i s=mX (l.drop (k+1)) i (mX (l.take (k+1)) i s):=by have a:mX (l.take (k+1)++l.drop (k+1)) i s=mX (l.drop (k+1)) i (mX (l.take (k+1)) i s):=aaT;rw[<-((Nj _ _).symm)]at a;exact a);rw[f,e _ _ (λy o=>by have⟨j,p⟩:=rR o;grind),c,Pz,bw g]
def adB(l:List (Nat×ByteArray))(i:Nat)(s:ByteArray)(a:∀(j:Nat)(x:Nat×ByteArray),l[j]?=aa x->x.1≠i):mX l i s=s:=by induction l generalizing s with|nil=>rfl|cons y d c=>show mX d i (if y.1=i then y.2 else s)=s;rw[dz<|a 0 y aP,c s λj x b=>a (j+1) x (by simpa using b)]
def N6(h:Bool)(x:ai):Sem ai:=Instr.alloc 305 h x
def auX(h:Bool)(x:ai):Instr.alloc 305 h x=N6 h x:=rfl
def au_:(prog.info? 305).map (λi=>(i.zero,i.size,i.bytes))=aa (aa (.agg iR),64,64):=ahD
def asA(W:ah):(N6 true<|.tuple #[]).run prog W=.ok (.pointer<|aa ⟨W.heap.size,0,af⟩) (W.alloc<|.cells iR 305):=by have⟨e,b,a,c,d⟩:=jN au_;simp[N6,Instr.alloc,zeroValue,typeInfo,b,a,newVar,newRow,Value.cells]
def aeD(x v:ai):Sem Unit:=Instr.storeAt 305 x v
def aul(x v:ai):Instr.storeAt 305 x v=aeD x v:=rfl
def Q9(W:ah)(c a:Array ai)(e:c.size=64)(b:a.size=64)(d:a.all (·.oneCell')=true):(aeD (.pointer<|aa ⟨W.heap.size,0,af⟩)<|.agg a).run prog (W.alloc<|.cells c 305)=.ok () (W.alloc<|.cells a 305):=run_storeAt_new W 305 c a (by rw[b];exact F7) aM d
attribute[local go_sem↓]ajE auX aul
attribute[local go_sem]asA
def yz:iR.size=64:=by simp[iR]
def Pe(s:ByteArray):(cz s).toArray.all (·.oneCell')=true:=akL (DN s)
def anP:f255.results=#[.cell 4 305]:=aN
theorem awx{d:Func}{p:Tmp}{e:aq}(h:d.results=#[.cell p e])(b:Array ai)(P:ax)(w:ah):(results d b).run P w=((asAddr<|b.getD p undef).run P w).andThen λa c=>(loadVar e a).run P c:=by simp only[results,h];simp_all
def adU(a:Array ai)(W:ah)(c:Array ai)(b:c.size=64)(d:a.getD 4 undef=.pointer (aa ⟨W.heap.size,0,af⟩)):(results f255 a).run prog (W.alloc<|.cells c 305)=.ok (.agg c) (W.alloc<|.cells c 305):=by rw[awx anP,d];simp[asAddr,Sem.run_pure,akS];exact run_loadVar_new W 305 c 64 _ Nf (by rw[b];exact F7)
def akr{a b:Array ai}(h:a=b):Ending.returned (.agg a)=.returned (.agg b):=by rw[h]
def apc(S:Nat->Prop)(p:Nat)(m:DM)(i:Nat)(w:ah)(hD:gG S w p m)(q:m.ok)(hi:i<m.bF.length)(hN:m.bE.length*72<=140737488355328):aj prog 255 #[.pointer (aa ⟨p,0,af⟩),.int ae i] w λe w'=>e=.returned (.agg (cz<|m.read i).toArray)/\aV (λ_=>False) w w':=by have⟨vd,vp,n,hS,I,u⟩:=hD;obtain⟨g,cap,rfl,W,_,ji,_,_⟩:=I.open aM;have U:=bf (o:=0) n;have r:=bf (o:=1) n;simp at U r;have hn:=q.len.2;have z:=bU n;have N:=u;obtain⟨ap,cp,rfl,hcp⟩:=u.len;(have v:∀(k:Nat)(x:Nat×ByteArray),m.bE[k]?=aa x->∃c,ap=aa ⟨c,0,af⟩/\c<w.heap.size/\w.cell? ⟨c,k*65,af⟩=aa (.int ae (x.1:Int))/\w.rangeAt c (k*65+1) (cz x.2):=by intro k x C;have kD:=(fl.1 C).1;have⟨c,R,hv,_,_,a,_,_⟩:=u.open aM;cases hv;have⟨q1,q2,_⟩:=NN u (λx f=>(q.bE x f).2) C;exact⟨c,aS,a,q1,q2⟩);(have d:m.bF[i]?=aa (m.bF.getD i aI):=by simp[List.getD,hi]);have J:=awU I (λs O=>q.bF s O) d;have B:(m.bF.getD i aI).size=64:=q.bF _<|fp d;have A:∀(k:Nat)(x:Nat×ByteArray),m.bE[k]?=aa x->x.2.size=64:=λk x C=>(q.bE x<|fp C).2;have HP:=aW A;have Z:=aW v;have HD:=aW d;have HM:=aW B;have Q:Hid (m.read i=mX m.bE i (m.bF.getD i aI)):=rfl;clear A v d B u N I n q HD;generalize m.bF.getD i aI=D at*;have hc':(w.alloc<|.cells iR 305).cell? ⟨p,0,af⟩=_:=(alg _ _ _ z).trans U;have V:(w.alloc<|.cells iR 305).cell? ⟨p,1,af⟩=_:=(alg _ _ _ z).trans r;go_enter func255,ntmps255;go_wp2;go_loop[5] (λk=>∃j:Nat,j<=m.bE.length/\k=.int ae ((j:Int)-1)/\∀(l:Nat)(x:Nat×ByteArray),j<=l->m.bE[l]?=aa x->x.1≠i) (λk=>(intOf k+1).toNat);(case atStart=>exact⟨m.bE.length,bB _,aS,λl x b f=>absurd (fl.1 f).1 aM⟩);case round=>obtain⟨j,hj,rfl,t⟩:=hrel;have G:=aW t;clear t;by_cases hlt:0<j;{obtain⟨k,rfl⟩:∃k,j=k+1:=⟨j-1,aM⟩;obtain⟨x,f⟩:∃x,m.bE[k]?=aa x:=⟨_,dO aM⟩;obtain⟨c,rfl,a,X,Y⟩:=aU Z k x f;have H:=aW f;clear f;have⟨E,F⟩:=x;simp only at X Y;have vR:(w.alloc<|.cells iR 305).cell? ⟨c,k*65,af⟩=_:=(alg _ _ _ a).trans X;have T:((k+1:Nat):Int)-1=(k:Int):=aM;rw[T];clear T;by_cases K:E=i;{(have n:((E:Int)==(i:Int))=true:=by simp[K]);have O:=aU HP k _<|aU H;(have b:(cz F).length=64:=by rw[oq];exact O);have M:=Ou (w.alloc<|.cells iR 305) c (k*65+1) (cz F) (World.rangeAt_alloc Y _) b;have P:=Q9 w iR (cz F).toArray yz (by simp[b])<|Pe _;go_wp2;refine Jg (adU _ w _ (by simp[b]) aS) aS ⟨akr ?_,(aV.refl _ _).alloc _⟩;rw[aU Q,acU m.bE i D k aM (λl y b h=>aU G l y aM h) (E,F) (aU H) K]};{(have n:((E:Int)==(i:Int))=false:=by simp;omega);go_wp2;go_round;(case rel=>refine⟨k,aM,by go_num,λl y b h=>?_⟩;by_cases e:l=k;subst e;rw[aU H]at h;cases h;exact K;exact aU G l y aM h);case measure=>simp[intOf]}};{have L:j=0:=aM;subst L;(have b:(cz D).length=64:=by rw[oq];exact aU HM);have M:=Ou (w.alloc<|.cells iR 305) g (i*64) _ (World.rangeAt_alloc J _) b;have P:=Q9 w iR (cz D).toArray yz (by simp[b])<|Pe _;go_wp2;refine Jg (adU _ w _ (by simp[b]) aS) aS ⟨akr ?_,(aV.refl _ _).alloc _⟩;rw[aU Q,adB m.bE i D λl y h=>aU G l y (gi _) h]}
theorem al3(l:List (Nat×ByteArray))(i:Nat):∀s,s.size=64->(∀x∈l,x.2.size=64)->(mX l i s).size=64:=by induction l with|nil=>intro s h _;exact h|cons y d c=>intro s b a;show(mX d i (if y.1=i then y.2 else s)).size=64;grind
def DM.ayd{m:DM}(b:m.ok)(c:i<m.bF.length):(m.read i).size=64:=by refine al3 _ _ _ ?_ λx d=>(b.bE x d).2;(have a:m.bF[i]?=aa (m.bF.getD i aI):=by simp[List.getD,c]);exact b.bF _<|fp a
def agD(S:Nat->Prop)(p:Nat)(m:DM)(i:Nat)(w:ah)(f:gG S w p m)(c:m.ok)(b:i<m.bF.length)(u:m.bE.length*72<=140737488355328):aj prog 184 #[.pointer (aa ⟨p,0,af⟩),.int ae i] w λe d=>∃g,e=.returned (.tuple #[.slice (aa ⟨g,0,af⟩) 64 64,.int ae 0])/\w.heap.size<=g/\d.heap[g]?=aa (.cells (cz<|m.read i).toArray 305 (0,0))/\aV (λ_=>False) w d:=by have a:=f;have⟨B,C,h,z,l,x⟩:=f;obtain⟨s,t,rfl,k⟩:=l.len;have j:=bf (o:=0) h;simp at j;have A:=c.len.2;(have v:(cz<|m.read i).length=64:=by rw[oq];exact DM.ayd c b);have r:=aW a;clear a l x h;have y:=λW=>Q9 W iR (cz<|m.read i).toArray yz (by simp[v])<|Pe _;go_enter func184,ntmps184;go_wp2_with(first|(go_at_call 254;refine(ac2 p m.bF.length t s i _ j b aM).mono ?_;rintro e d ⟨rfl,rfl⟩)|(go_at_call 255;refine(apc S p m i _ (aU r) c b u).mono ?_;rintro e q ⟨rfl,n⟩));go_ret2;exact⟨q.heap.size,aS,n.size,heap_alloc_last q _,n.alloc _⟩
end
def F2{e:aq}{g:Nat×Nat}:∀(f:List ai)(o:Nat)(w:ah)(a:Array ai),w.heap[b]?=aa (.cells a e g)->o+f.length<=a.size->∃c,(w.setCells b o f).heap[b]?=aa (.cells c e g)/\c.size=a.size/\∀i:Nat,c[i]?=if o<=i/\i<o+f.length then f[i-o]?else a[i]?|[],o,w,a,h,_=>⟨a,h,aS,λi=>by rw[dz aP]⟩|v::r,o,w,a,h,q=>by simp[lG]at q;have⟨c,k,l,m⟩:=F2 r (o+1) (w.setCell ⟨b,o,af⟩ v) (a.setIfInBounds o v) (dE h v) (by simp;omega);refine⟨c,k,by simpa using l,λi=>?_⟩;rw[m i];by_cases j:o+1<=i/\i<o+1+r.length;rw[bw j,bw (by simp;omega)];obtain⟨d,p⟩:∃d,i-o=d+1:=⟨i-o-1,aM⟩;rw[p,M6];congr 1;omega;rw[dz j];by_cases n:i=o;subst n;rw[bw aP,Jb,M7,Array.getElem?_setIfInBounds_self,bw aM];rw[dz (by simp;omega),FT aM]
def Dv(b:Nat):∀(a:List ai)(o:Nat)(w:ah),aV (λk=>k=b) w (w.setCells b o a)|[],_,w=>aV.refl _ w|v::r,o,w=>by exact((aV.refl (λk=>k=b) w).setCell (p:=⟨b,o,af⟩) (.inl aS) v).trans (Dv b r (o+1) _) λ_ _ h=>h
theorem Own.store{S:Nat->Prop}{w:ah}{e a n b g:Nat}{f l:List ai}(h:Own S w e a (.slice (aa ⟨g,0,af⟩) n b) n f)(o:Nat)(d:List ai)(I:l.length=f.length)(H:o+d.length<=f.length)(B:∀i:Nat,l[i]?=if o<=i/\i<o+d.length then d[i-o]?else f[i]?):Own S (w.setCells g o d) e a (.slice (aa ⟨g,0,af⟩) n b) n l:=by have⟨⟨G,z⟩,t⟩:=h;rcases z with⟨k,_⟩|⟨E,m,c,k,u,x,v,y,A,q⟩;cases k;cases k;(have D:f.length<=c.size:=by rw[<-q];simp;omega);have⟨j,r,F,s⟩:=F2 d o w c x aM;refine⟨⟨aM,.inr ⟨g,b,j,aS,u,r,v,y,aM,?_⟩⟩,t⟩;apply vE;intro i;rw[B i,n_,nJ,s i];(have C:f[i]?=if i<n*a then c[i]?else af:=by rw[<-q,n_,nJ]);rw[C];by_cases p:o<=i/\i<o+d.length;grind;rw[dz p,dz p]
theorem aql(l:List ByteArray)(i:Nat)(s:ByteArray)(j:∀s∈l,s.size=64)(p:i<l.length)(k:s.size=64):(mB<|l.set i s).length=(mB l).length/\i*64+(cz s).length<=(mB l).length/\∀q:Nat,(mB<|l.set i s)[q]?=if i*64<=q/\q<i*64+(cz s).length then(cz s)[q-i*64]?else(mB l)[q]?:=by(have b:∀t∈l.set i s,(cz t).length=64:=by intro t f;rw[oq];rcases List.mem_or_eq_of_mem_set f with h|h;exact j t h;rw[h];exact k);(have c:∀t∈l,(cz t).length=64:=λt f=>by rw[oq];exact j t f);(have m:(mB<|l.set i s).length=l.length*64:=by unfold mB;rw[aij cz 64 _ b,aaJ]);have n:(mB l).length=l.length*64:=aij cz 64 _ c;(have o:(cz s).length=64:=by rw[oq,k]);refine⟨aM,aM,λq=>?_⟩;by_cases u:q<l.length*64;obtain⟨a,r,e,rfl⟩:∃a r,r<64/\q=a*64+r:=⟨q/64,q%64,AU _ aM,aM⟩;have g:a<l.length:=aM;by_cases d:a=i;subst d;rw[bw aM];have:=uE cz 64 (l.set a s) a r s b (by simp[g]) e;rw[show mB (l.set a s)=(l.set a s).flatMap cz from rfl,this];congr 1;omega;rw[dz aM];exact(uE cz 64 (l.set i s) a r l[a] b (by grind) e).trans (uE cz 64 l a r l[a] c (dO g) e).symm;grind
def lA(l:List ByteArray)(b:List (Nat×ByteArray))(a:Nat->Bool):Nat->List ByteArray|0=>l|k+1=>match b[k]?with|aa x=>if a k then(lA l b a k).set x.1 x.2 else lA l b a k|af=>lA l b a k
theorem qQ(l:List ByteArray)(b:List (Nat×ByteArray))(a:Nat->Bool)(k:Nat):(lA l b a k).length=l.length:=by induction k with|zero=>rfl|succ k c=>rw[lA];grind
theorem I1(l:List ByteArray)(b:List (Nat×ByteArray))(a:Nat->Bool)(c:∀s∈l,s.size=64)(d:∀x∈b,x.2.size=64)(k:Nat):∀s∈lA l b a k,s.size=64:=by induction k with|zero=>exact c|succ k e=>rw[lA];grind
def Hn{b:List (Nat×ByteArray)}{a:Nat->Bool}(d:b[k]?=aa x)(c:a k=true):lA l b a (k+1)=(lA l b a k).set x.1 x.2:=by rw[lA,d];simp[c]
def QO{b:List (Nat×ByteArray)}{a:Nat->Bool}(d:b[k]?=aa x)(c:a k=false):lA l b a (k+1)=lA l b a k:=by rw[lA,d];simp[c]
def II(n:Nat):List UInt8:=[aH n,aH (n/256),aH (n/65536),aH (n/16777216),aH (n/4294967296),aH (n/1099511627776),aH (n/281474976710656),aH (n/72057594037927936)]
def Iz(a b:Nat)(t:List UInt8):List UInt8:=II a++II b++aH t.length::t++List.replicate (47-t.length) 0
def dS(a b:Nat)(t:ByteArray):ByteArray:=⟨(Iz a b t.data.toList).toArray⟩
def aBz(a b:Nat)(t:ByteArray):(dS a b t).data.toList=Iz a b t.data.toList:=rfl
def ul(a b:Nat)(t:ByteArray)(h:t.size<=47):(dS a b t).size=64:=by(have c:t.data.toList.length<=47:=by simpa using h);show(Iz a b t.data.toList).toArray.size=64;simp[CG,Iz,II,kG,lG,MU,List.length_replicate];omega
def DM.sync(m:DM):DM:=⟨lA m.bF m.bE (λ_=>true) m.bE.length,[],m.fI+1⟩
theorem MC(l:List ByteArray)(i q:Nat)(s d:ByteArray)(a:q<l.length):(l.set i s).getD q d=if i=q then s else l.getD q d:=by grind
def aeh(l:List ByteArray)(a:List (Nat×ByteArray))(q:Nat)(b:q<l.length):∀k,k<=a.length->(lA l a (λ_=>true) k).getD q aI=mX (a.take k) q (l.getD q aI)|0,_=>rfl|k+1,d=>by have c:a[k]?=aa a[k]:=dO aM;rw[Hn c aS,MC _ _ _ _ _ (by rw[qQ];exact b),aeh l a q b k aM,FB,c];exact(Pz _ _ _ _).symm
theorem aeA(l:List ByteArray)(b:List (Nat×ByteArray))(a:Nat->Bool)(q:Nat)(d:q<l.length):∀k,k<=b.length->(∀j y,j<k->b[j]?=aa y->y.1=q->a j=false)->(lA l b a k).getD q aI=l.getD q aI|0,_,_=>rfl|k+1,i,h=>by have e:b[k]?=aa b[k]:=dO aM;have f:=aeA l b a q d k aM λj y g=>h j y aM;by_cases c:a k=true;rw[Hn e c,MC _ _ _ _ _ (by rw[qQ];exact d),dz,f];grind;rw[QO e (by simpa using c),f]
def ac7(l:List ByteArray)(b:List (Nat×ByteArray))(a:Nat->Bool)(q i:Nat)(s:ByteArray)(f:q<l.length)(m:b[i]?=aa (q,s))(c:a i=true):∀k,k<=b.length->i<k->(∀j y,i<j->b[j]?=aa y->y.1≠q)->(lA l b a k).getD q aI=s|0,_,h,_=>aM|k+1,p,o,h=>by have g:b[k]?=aa b[k]:=dO aM;by_cases e:i=k;subst e;rw[Hn m c,MC _ _ _ _ _ (by rw[qQ];exact f),bw aS];have n:=ac7 l b a q i s f m c k aM aM h;by_cases d:a k=true;rw[Hn g d,MC _ _ _ _ _ (by rw[qQ];exact f),dz<|h k _ aM g,n];rw[QO g (by simpa using d),n]
def DM.Kg(m:DM)(q:Nat)(a:q<m.bF.length):m.sync.bF.getD q aI=m.read q:=by have:=aeh m.bF m.bE q a m.bE.length<|bB _;rw[ub]at this;exact this
def DM.uB(m:DM)(i q:Nat)(s:ByteArray):(m.put i s).read q=if i=q then s else m.read q:=Pz _ _ _ _
def DM.Lp(m:DM)(h:m.bE=[])(q:Nat):m.read q=m.bF.getD q aI:=by unfold DM.read;rw[h];rfl
def DM.Ld{m:DM}(a:m.ok):m.sync.ok:=⟨by simpa[DM.sync,qQ]using a.len,I1 _ _ _ (λq b=>a.bF q b) (λx c=>(a.bE x c).2) _,by simp[DM.sync]⟩
def DM.amE(m:DM):m.sync.bF.length=m.bF.length:=qQ _ _ _ _
def DM.jU(m:DM)(a:List Nat)(s:ByteArray):DM:=a.foldl (λm i=>m.put i s) m
def DM.ao1(m:DM)(a:List Nat)(i:Nat)(s:ByteArray):m.jU (a++[i]) s=(m.jU a s).put i s:=by simp[DM.jU]
def DM.afj(s:ByteArray):∀(a:List Nat)(m:DM),(m.jU a s).bF=m.bF|[],_=>rfl|i::a,m=>(DM.afj s a<|m.put i s).trans aS
def DM.KU(s:ByteArray):∀(a:List Nat)(m:DM),(m.jU a s).fI=m.fI|[],_=>rfl|i::a,m=>(DM.KU s a<|m.put i s).trans aS
def DM.N7(s:ByteArray):∀(a:List Nat)(m:DM),(m.jU a s).bE.length=m.bE.length+a.length|[],_=>rfl|i::a,m=>by show((m.put i s).jU a s).bE.length=_;rw[DM.N7 s a<|m.put i s];simp[DM.put];omega
def DM.H'(c:s.size=64):∀(a:List Nat){m:DM},m.ok->(∀i∈a,i<m.bF.length)->(m.jU a s).ok|[],_,h,_=>h|i::a,m,h,b=>DM.H' c a (DM.zh h (b i aP) c) (λj d=>b j (by simp[d]))
def DM.Hu(s:ByteArray)(q:Nat):∀(a:List Nat)(m:DM),q∉a->(m.jU a s).read q=m.read q|[],_,_=>rfl|i::a,m,h=>by show((m.put i s).jU a s).read q=_;rw[DM.Hu s q a _ λe=>h (by simp[e]),DM.uB,dz λe=>h (by simp[e])]
theorem DM.afR(s:ByteArray)(q:Nat):∀(a:List Nat)(m:DM),q∈a->(m.jU a s).read q=s|[],_,h=>by cases h|i::a,m,h=>by show((m.put i s).jU a s).read q=_;by_cases b:q∈a;exact DM.afR s q a _ b;{rw[DM.Hu s q a _ b,DM.uB,bw];simp_all}
structure JM where
 ring:Nat
 aY:Nat
 L:List ByteArray
 low:Nat
 safe:Nat
 bL:Nat
 note:ByteArray
def eh(a b n:Nat):Nat:=2+(n-1)%(a*b)
def yV(a b n:Nat)(h:0<a*b):eh a b n<a*b+2:=by have:=AU (n-1) h;unfold eh;omega
def za(a b n:Nat):2<=eh a b n:=by unfold eh;omega
def ai4{c d a b:Nat}(i:1<=a)(g:a<=b)(j:b<a+c*d)(h:eh c d a=eh c d b):a=b:=by unfold eh at h;have e:(b-1)%(c*d)=(a-1)%(c*d):=aM;have f:=Nat.sub_mod_eq_zero_of_mod_eq e;rw[acN aM]at f;omega
def akF{c d a b g:Nat}(k:1<=g)(l:g<=a)(m:g<=b)(i:a<g+c*d)(j:b<g+c*d)(h:a≠b):eh c d a≠eh c d b:=by intro e;rcases Nat.le_total a b with f|f;exact h<|ai4 aM f aM e;exact h (ai4 aM f aM e.symm).symm
def ayO{a b q c:Nat}(g:1<=c)(j:2<=q)(o:q<a*b+2):∃n,c<=n/\n<c+a*b/\eh a b n=q:=by have e:0<a*b:=aM;generalize f:a*b=C at*;have m:=AU (c-1) e;have l:=Nat.div_add_mod (c-1) C;(have d:∀x k:Nat,x<C->(C*k+x)%C=x:=λx k i=>by rw[Nat.mul_add_mod,acN i]);unfold eh;rw[f];by_cases h:(c-1)%C<=q-2;refine⟨C*((c-1)/C)+(q-2)+1,aM,aM,?_⟩;rw[CM,d _ _ aM];omega;refine⟨C*((c-1)/C+1)+(q-2)+1,by rw[Nat.mul_add];omega,by rw[Nat.mul_add];omega,?_⟩;rw[CM,d _ _ aM];omega
def qN:ByteArray:=⟨#[112,97,99,116,32,106,111,117,114,110,97,108]⟩
def Ah(s:ByteArray)(k:Nat->Prop):Prop:=∃a b t,s=dS a b t/\t.size<=40/\a<4611686018427387904/\b<4611686018427387904/\k a
structure JM.ok(j:JM):Prop where
 ring:2<=j.ring/\j.ring<=6
 aY:2<=j.aY/\j.aY<=16
 low:1<=j.low/\j.low<=j.L.length+1
 win:j.L.length<=(j.low-1)/j.aY*j.aY+j.ring*j.aY
 zw:∀s∈j.L,s.size<=40
 note:j.note.size<=40
 nL:j.L.length<2305843009213693952/\j.bL<2305843009213693952
def JM.ok.span{j:JM}(h:j.ok):j.L.length+1<=j.low+j.ring*j.aY:=by have a:=Je (j.low-1) j.aY;have b:=h.win;have c:=h.low;omega
def JM.ok.pos{j:JM}(h:j.ok):4<=j.ring*j.aY/\j.ring*j.aY<=96:=⟨AV h.ring.1 h.aY.1,AV h.ring.2 h.aY.2⟩
def JM.fE(j:JM)(n:Nat):ByteArray:=dS n 0 (j.L.getD (n-1) aI)
structure Found(j:JM)(m:DM):Prop where
 ok:j.ok
 room:j.ring*j.aY+2<=m.bF.length
 shape:m.read 0=dS j.ring j.aY qN
 state:m.read 1=dS j.low j.bL j.note
 live:∀n,j.low<=n->n<=j.L.length->m.read (eh j.ring j.aY n)=j.fE n
 rest:j.L.length<(j.low-1)/j.aY*j.aY+j.ring*j.aY->Ah (m.read<|eh j.ring j.aY (j.L.length+1)) (λa=>a≠j.L.length+1)
structure gF(j:JM)(m:DM):Prop where
 ok:j.ok
 safe:j.low<=j.safe+1/\j.safe<=j.L.length
 room:j.ring*j.aY+2<=m.bF.length
 shape:m.bF.getD 0 aI=dS j.ring j.aY qN
 state:m.bF.getD 1 aI=dS j.low j.bL j.note
 live:∀n,j.low<=n->n<=j.safe->m.bF.getD (eh j.ring j.aY n) aI=j.fE n
 bE:m.bE=(aC (j.L.length-j.safe)).map λi=>(eh j.ring j.aY (j.safe+1+i),j.fE (j.safe+1+i))
 old:∀q,2<=q->q<j.ring*j.aY+2->Ah (m.bF.getD q aI) (λa=>a<=j.safe)
theorem gF.JI{j:JM}{m:DM}(h:gF j m)(a:m.bE[i]?=aa x):j.safe+1+i<=j.L.length/\x=(eh j.ring j.aY (j.safe+1+i),j.fE (j.safe+1+i)):=by rw[h.bE]at a;simp[j9,xN]at a;grind
theorem gF.acX{j:JM}{m:DM}(h:gF j m)(a:j.safe<n)(b:n<=j.L.length):m.bE[n-j.safe-1]?=aa (eh j.ring j.aY n,j.fE n):=by rw[h.bE,j9,aaY aM];grind
def gF.Pf{j:JM}{m:DM}(h:gF j m):m.bE.length=j.L.length-j.safe:=by rw[h.bE];simp
def gF.Gf{j:JM}{m:DM}(h:gF j m)(f:j.low<=a)(g:j.low<=b)(c:a<j.low+j.ring*j.aY)(d:b<j.low+j.ring*j.aY)(e:a≠b):eh j.ring j.aY a≠eh j.ring j.aY b:=akF h.ok.low.1 f g c d e
def gF.adN{j:JM}{m:DM}(h:gF j m)(b:j.safe<n)(c:n<=j.L.length):m.read (eh j.ring j.aY n)=j.fE n:=by have i:=h.ok.span;have d:=h.safe;refine acU m.bE _ _ (n-j.safe-1) (by rw[h.Pf];omega) ?_ _ (h.acX b c) aS;intro k x g e;have⟨f,a⟩:=h.JI e;rw[a];exact h.Gf aM aM aM aM aM
theorem gF.N8{j:JM}{m:DM}(h:gF j m)(d:∀n,j.safe<n->n<=j.L.length->eh j.ring j.aY n≠q):m.read q=m.bF.getD q aI:=by refine adB m.bE _ _ ?_;intro k x a;have⟨b,c⟩:=h.JI a;grind
def gF.Ki{j:JM}{m:DM}(h:gF j m)(a:j.low<=n)(b:n<=j.L.length):m.read (eh j.ring j.aY n)=j.fE n:=by have g:=h.ok.span;have d:=h.safe;by_cases c:j.safe<n;exact h.adN c b;rw[h.N8,h.live n a aM];intro k e f;exact h.Gf aM aM aM aM aM
def gF.aeR{j:JM}{m:DM}(h:gF j m)(a:q<2):m.read q=m.bF.getD q aI:=h.N8 (λn _ _ e=>by have:=za j.ring j.aY n;omega)
def JM.Rc{j:JM}(h:j.ok)(n:Nat)(c:n<=j.L.length)(k:Nat->Prop)(a:k n):Ah (j.fE n) k:=by refine⟨n,0,_,aS,?_,by have:=h.nL;omega,aM,a⟩;rw[pX];cases b:j.L[n-1]?with|none=>simp|some s=>exact h.zw s<|fp b
def gF.SL{j:JM}{m:DM}(h:gF j m)(l:2<=q)(o:q<j.ring*j.aY+2):Ah (m.read q) (λa=>a<=j.L.length):=by by_cases f:∃n,j.safe<n/\n<=j.L.length/\eh j.ring j.aY n=q;obtain⟨n,d,c,rfl⟩:=f;rw[h.adN d c];exact JM.Rc h.ok n c _ c;rw[h.N8 λn d c e=>f ⟨n,d,c,e⟩];have⟨a,b,t,e,g,i,k,p⟩:=h.old q l o;exact⟨a,b,t,e,g,i,k,by have:=h.safe;omega⟩
def gF.found{j:JM}{m:DM}(h:gF j m):Found j m:=by have l:=h.ok.pos;refine⟨h.ok,h.room,(h.aeR aM).trans h.shape,(h.aeR aM).trans h.state,λn g i=>h.Ki g i,λ_=>?_⟩;have⟨a,b,t,e,c,d,f,k⟩:=h.SL (za j.ring j.aY (j.L.length+1))<|yV _ _ _ aM;exact⟨a,b,t,e,c,d,f,aM⟩
def R7{j:JM}{m:DM}(d:j.ok)(c:j.safe=j.L.length)(e:j.ring*j.aY+2<=m.bF.length)(f:m.read 0=dS j.ring j.aY qN)(g:m.read 1=dS j.low j.bL j.note)(h:∀n,j.low<=n->n<=j.L.length->m.read (eh j.ring j.aY n)=j.fE n)(i:∀q,2<=q->q<j.ring*j.aY+2->Ah (m.read q) (λa=>a<=j.L.length)):gF j m.sync:=by have k:=d.pos;have l:=d.low;refine⟨d,aM,by rw[m.amE];exact e,(m.Kg 0 aM).trans f,(m.Kg 1 aM).trans g,λn a b=>?_,?_,λq a b=>?_⟩;rw[m.Kg _ (by have:=yV j.ring j.aY n aM;omega)];exact h n a aM;rw[c,Jb];rfl;rw[m.Kg _ aM,c];exact i q a b
def gF.amB{j:JM}{m:DM}(h:gF j m):gF {j with safe:=j.L.length} m.sync:=R7 ⟨h.ok.ring,h.ok.aY,h.ok.low,h.ok.win,h.ok.zw,h.ok.note,h.ok.nL⟩ aS h.room h.found.shape h.found.state (λ_ a b=>h.Ki a b) (λ_ a b=>h.SL a b)
theorem gF.truncate{j:JM}{m:DM}(h:gF j m){c:Nat}{d:ByteArray}(e:j.low<=c)(f:c<=j.L.length+1)(i:d.size<=40):gF {j with low:=c,note:=d,safe:=j.L.length} (m.put 1<|dS c j.bL d).sync:=by have l:(j.low-1)/j.aY*j.aY<=(c-1)/j.aY*j.aY:=qU _<|aaC aM;have k:=h.ok.win;have g:=h.ok.low;refine R7 ⟨h.ok.ring,h.ok.aY,⟨by show 1<=c;omega,f⟩,by grind,h.ok.zw,i,h.ok.nL⟩ aS h.room ?_ ?_ (λn a b=>?_) λq a b=>?_;rw[DM.uB,dz aM];exact h.found.shape;rw[DM.uB,bw aS];rw[DM.uB,dz (by have:=za j.ring j.aY n;grind)];exact h.Ki (cL e a) b;rw[DM.uB,dz aM];exact h.SL a b
theorem acj(j:JM)(s:ByteArray)(n:Nat)(a:1<=n)(b:n<=j.L.length):JM.fE {j with L:=j.L++[s]} n=j.fE n:=by unfold JM.fE;grind
theorem ax4(j:JM)(s:ByteArray):JM.fE {j with L:=j.L++[s]} (j.L.length+1)=dS (j.L.length+1) 0 s:=by unfold JM.fE;simp_all
theorem gF.append{j:JM}{m:DM}(h:gF j m)(p:s.size<=40)(c:j.L.length/j.aY<(j.low-1)/j.aY+j.ring)(d:j.L.length+1<2305843009213693952):gF {j with L:=j.L++[s]} (m.put (eh j.ring j.aY (j.L.length+1))<|dS (j.L.length+1) 0 s):=by have q:=h.safe;have l:=h.ok.low;have o:=h.ok.aY;refine⟨⟨h.ok.ring,h.ok.aY,⟨h.ok.low.1,by simp;omega⟩,by simpa using(by rw[<-AL];exact((Nat.div_lt_iff_lt_mul aM).1 c)),?_,h.ok.note,⟨by simpa using d,h.ok.nL.2⟩⟩,⟨h.safe.1,by simp;omega⟩,h.room,h.shape,h.state,?_,?_,h.old⟩;intro x f;simp[j8,sS]at f;rcases f with f|rfl;exact h.ok.zw x f;exact p;intro n a b;rw[acj j s n (by grind) (by grind)];exact h.live n a b;show m.bE++[_]=_;(have e:(j.L++[s]).length-j.safe=(j.L.length-j.safe)+1:=by simp;omega);simp only;rw[e,AW,pW,h.bE];congr 1;refine xK λi k=>?_;rw[List.mem_range]at k;rw[acj j s _ aM aM];have g:j.safe+1+(j.L.length-j.safe)=j.L.length+1:=aM;simp[ud,Js,g];rw[ax4]
def lB:List Bool->Nat->Nat|_,0=>0|[],_+1=>0|b::a,n+1=>if b then lB a n+1 else 0
def Ob:∀(a:List Bool)(n:Nat),lB a n<=n|_,0=>by unfold lB;omega|[],n+1=>by unfold lB;omega|b::a,n+1=>by unfold lB;have:=Ob a n;split<;>omega
def ab2:∀(a:List Bool)(n i:Nat),i<lB a n->a.getD i false=true|_,0,i,h=>by unfold lB at h;omega|[],n+1,i,h=>by unfold lB at h;omega|b::a,n+1,i,h=>by unfold lB at h;split at h;(cases i with|zero=>simpa|succ i=>simpa using ab2 a n i aM);omega
theorem acG:∀(a:List Bool)(n:Nat),lB a n<n->a.getD (lB a n) false=false|_,0,h=>aM|[],n+1,_=>aP|b::a,n+1,h=>by unfold lB at h⊢;split at h;rename_i c;rw[bw c];simpa using acG a n aM;simp_all
def JM.cP(j:JM)(a:List Bool):JM:={j with L:=j.L.take (j.safe+lB a (j.L.length-j.safe)),safe:=j.safe+lB a (j.L.length-j.safe)}
def DM.xX(m:DM)(a:List Bool):DM:=⟨lA m.bF m.bE (λk=>a.getD k false) m.bE.length,[],m.fI⟩
def DM.aw5(m:DM)(a:List Bool):(m.xX a).bF.length=m.bF.length:=qQ _ _ _ _
theorem gF.cP{j:JM}{m:DM}(h:gF j m)(d:List Bool):Found (j.cP d) (m.xX d):=by have N:=Ob d (j.L.length-j.safe);have H:=h.safe;have x:=h.ok.span;have M:=h.ok.pos;have E:=h.ok.low;have u:=h.room;(have f:(j.cP d).L.length=j.safe+lB d (j.L.length-j.safe):=by simp[JM.cP];omega);(have c:∀q,q<m.bF.length->(∀n,j.safe<n->n<=j.L.length->eh j.ring j.aY n=q->d.getD (n-j.safe-1) false=false)->(m.xX d).bF.getD q aI=m.bF.getD q aI:=by intro q G I;refine aeA m.bF m.bE _ q G _ (bB _) ?_;intro i y K v e;have⟨r,g⟩:=h.JI v;have:=I (j.safe+1+i) aM r (by rw[<-e,g]);rwa[show j.safe+1+i-j.safe-1=i by omega]at this);refine⟨⟨h.ok.ring,h.ok.aY,⟨h.ok.low.1,by rw[f];show j.low<=_;omega⟩,by rw[f];have:=h.ok.win;show _<=(j.low-1)/j.aY*j.aY+j.ring*j.aY;omega,λs x=>h.ok.zw s<|Jp x,h.ok.note,⟨by rw[f];have:=h.ok.nL;omega,h.ok.nL.2⟩⟩,by rw[m.aw5];exact h.room,?_,?_,?_,?_⟩;rw[DM.Lp _ aS,c 0 aM (λn _ _ e=>by have:=za j.ring j.aY n;omega)];exact h.shape;rw[DM.Lp _ aS,c 1 aM (λn _ _ e=>by have:=za j.ring j.aY n;omega)];exact h.state;intro n a b;rw[f]at b;have z:j.low<=n:=a;have p:=yV j.ring j.aY n aM;show(m.xX d).read (eh j.ring j.aY n)=_;rw[DM.Lp _ aS];(have e:(j.cP d).fE n=j.fE n:=by unfold JM.fE JM.cP;simp[pX];grind);rw[e];by_cases F:j.safe<n;refine ac7 m.bF m.bE _ _ (n-j.safe-1) _ aM (h.acX F aM) (ab2 d (j.L.length-j.safe) (n-j.safe-1) aM) _ (bB _) (by rw[h.Pf];omega) ?_;intro k y L v;have⟨r,g⟩:=h.JI v;rw[g];exact h.Gf aM aM aM aM aM;rw[c _ aM,h.live n z aM];intro k B C e;exact absurd e<|h.Gf aM aM aM aM aM;intro l;rw[f]at l⊢;have w:j.safe+lB d (j.L.length-j.safe)<(j.low-1)/j.aY*j.aY+j.ring*j.aY:=l;have D:=Je (j.low-1) j.aY;have p:=yV j.ring j.aY (j.safe+lB d (j.L.length-j.safe)+1) aM;show Ah ((m.xX d).read<|eh j.ring j.aY _) _;rw[DM.Lp _ aS,c _ aM];have⟨a,b,t,e,r,g,A,J⟩:=h.old _ (za j.ring j.aY (j.safe+lB d (j.L.length-j.safe)+1)) p;exact⟨a,b,t,e,r,g,A,aM⟩;intro n B C e;by_cases o:n=j.safe+lB d (j.L.length-j.safe)+1;subst o;have:=acG d (j.L.length-j.safe) aM;rwa[show j.safe+lB d (j.L.length-j.safe)+1-j.safe-1=lB d (j.L.length-j.safe)by omega];exact absurd e<|h.Gf aM aM aM aM o
def mS(c d b a:Nat):List Nat:=(aC a).map λk=>eh c d (b+k)
def auq(b c a k:Nat):mS b c a (k+1)=mS b c a k++[eh b c (a+k)]:=by simp[mS,AW]
def nR:ByteArray:=dS 0 0 aI
def az3(k:Nat->Prop)(h:k 0):Ah nR k:=⟨0,0,aI,aS,aP,aM,aM,h⟩
theorem ajr{j:JM}{m:DM}(c:j.ok)(g:j.safe=j.L.length)(f:j.ring*j.aY+2<=m.bF.length)(v:m.read 0=dS j.ring j.aY qN)(t:∀n,j.low<=n->n<=j.L.length->m.read (eh j.ring j.aY n)=j.fE n):gF j ((m.jU (mS j.ring j.aY (j.L.length+1) (j.ring*j.aY-(j.L.length+1-j.low))) nR).put 1<|dS j.low j.bL j.note).sync:=by have w:=c.pos;have y:=c.span;have h:=c.low;(have o:∀n,j.L.length<n->n<j.low+j.ring*j.aY->eh j.ring j.aY n∈mS j.ring j.aY (j.L.length+1) (j.ring*j.aY-(j.L.length+1-j.low)):=by intro n a b;refine fY.2 ⟨n-(j.L.length+1),List.mem_range.2 aM,?_⟩;grind);(have d:∀n,j.low<=n->n<=j.L.length->eh j.ring j.aY n∉mS j.ring j.aY (j.L.length+1) (j.ring*j.aY-(j.L.length+1-j.low)):=by intro n a b p;have⟨k,s,e⟩:=fY.1 p;rw[List.mem_range]at s;exact akF h.1 aM aM aM aM aM e);(have i:∀q,q<2->q∉mS j.ring j.aY (j.L.length+1) (j.ring*j.aY-(j.L.length+1-j.low)):=by intro q x p;have⟨k,s,e⟩:=fY.1 p;have:=za j.ring j.aY (j.L.length+1+k);omega);refine R7 c g (by show _<=(m.jU _ _).bF.length;rw[DM.afj];exact f) ?_ ?_ (λn a b=>?_) λq a b=>?_;rw[DM.uB,dz aM,DM.Hu _ _ _ _<|i 0 aM];exact v;rw[DM.uB,bw aS];rw[DM.uB,dz (by have:=za j.ring j.aY n;omega),DM.Hu _ _ _ _<|d n a b];exact t n a b;rw[DM.uB,dz aM];obtain⟨n,r,u,rfl⟩:=ayO h.1 a b;by_cases l:n<=j.L.length;rw[DM.Hu _ _ _ _<|d n r l,t n r l];exact JM.Rc c n l _ l;rw[DM.afR _ _ _ _<|o n aM u];exact az3 _<|gi _
section
def C_:Array ai:=aB 1 (.int ae 0)++aB 64 (.int .u8 0)
theorem afG:C_.size=65:=by unfold C_;simp_all
def ajT:(prog.info? 307).map (·.size)=aa 65:=aN
def aen(x:ai):Sem ai:=Instr.loadAt 307 x
def ajQ(x:ai):Instr.loadAt 307 x=aen x:=rfl
def ae6(W:ah)(b o:Nat)(a:List ai)(d:W.rangeAt b o a)(c:a.length=65):(aen<|.pointer<|aa ⟨b,o,af⟩).run prog W=.ok (.agg a.toArray) W:=run_loadAt_mid W b o 307 a _ d underlying307 aS (by rw[c];exact ajT)
def SJ(h:Bool)(x:ai):Sem ai:=Instr.alloc 307 h x
def acs(h:Bool)(x:ai):Instr.alloc 307 h x=SJ h x:=rfl
def adW(W:ah):(SJ true<|.tuple #[]).run prog W=.ok (.pointer<|aa ⟨W.heap.size,0,af⟩) (W.alloc<|.cells C_ 307):=by have⟨f,b,a,d,e⟩:=jN Kr;have c:f.zero=aa (.agg C_):=a;simp[SJ,Instr.alloc,zeroValue,typeInfo,b,c,newVar,newRow,Value.cells]
def afr(x v:ai):Sem Unit:=Instr.storeAt 307 x v
def acO(x v:ai):Instr.storeAt 307 x v=afr x v:=rfl
def afJ(W:ah)(c a:Array ai)(e:c.size=65)(b:a.size=65)(d:a.all (·.oneCell')=true):(afr (.pointer<|aa ⟨W.heap.size,0,af⟩)<|.agg a).run prog (W.alloc<|.cells c 307)=.ok () (W.alloc<|.cells a 307):=run_storeAt_new W 307 c a (by rw[b];exact ajT) aM d
attribute[local go_sem↓]ajQ acs acO
attribute[local go_sem]adW
def zC(S:Nat->Prop)(w:ah)(p g a:Nat)(d:ai)(m:DM)(b:Nat->Bool)(k:Nat)(c:ah):Prop:=c.heap[p]?=aa (.cells #[.slice (aa ⟨g,0,af⟩) m.bF.length a,d,.int ae (m.fI:Int)] 232 (0,0))/\Own (λk=>S k/\k≠p) c 305 64 (.slice (aa ⟨g,0,af⟩) m.bF.length a) m.bF.length (mB<|lA m.bF m.bE b k)/\Own (λk=>S k/\k≠p/\g≠k) c 307 65 d m.bE.length (AD m.bE)/\aV (λk=>k=g) w c
def Bq(p g n a B:Nat)(x:Nat×ByteArray)(w:ah):Prop:=w.cell? ⟨p,0,af⟩=aa (.slice (aa ⟨g,0,af⟩) n a)/\w.cell? ⟨B,0,af⟩=aa (.int ae (x.1:Int))/\w.rangeAt B 1 (cz x.2)/\w.there g (x.1*64) 64
theorem ai0{b:ah}{A:ai}(w:b.heap[p]?=aa (.cells #[.slice (aa ⟨g,0,af⟩) n a,A,.int ae (y:Int)] 232 (0,0)))(z:Own S b 305 64 (.slice (aa ⟨g,0,af⟩) n a) n (mB l))(q:x.2.size=64)(D:x.1<l.length)(d:g≠p)(E:n=l.length)(m:∀s∈l,s.size=64):Bq p g n a b.heap.size x (b.alloc<|.cells (kX x).toArray 307):=by have f:=heap_alloc_last b<|.cells (kX x).toArray 307;have k:aV (λ_=>False) b (b.alloc<|.cells (kX x).toArray 307):=(aV.refl _ _).alloc _;refine⟨(bf (o:=0)<|k.heap w λh=>h),(bf (o:=0) f),?_,?_⟩;intro j v t;rw[bf f];simp[kX,aaO];grind;intro j t;rcases(z.aT k λ_ _ _ h=>h).1.2with⟨c,_⟩|⟨B,e,r,c,_,i,C,_,u,F⟩;cases c;cases c;rw[bP i,bf i];grind
def Bq.drew{p g n a B:Nat}(h:Bq p g n a B x w):Bq p g n a B x w.drew:=⟨h.1,h.2.1,(World.rangeAt_drew _ _ _ _).2 h.2.2.1,(World.there_drew _ _ _ _).2 h.2.2.2⟩
def Bq.setCells{p g n a B o:Nat}(h:Bq p g n a B x w)(i:g≠p)(d:g≠B):Bq p g n a B x (w.setCells g o f):=by have b:=Dv g f o w;have c:=World.block_lt_of_cell? w _ h.2.1;refine⟨(b.cell (World.block_lt_of_cell? w _ h.1) λe=>i e.symm).trans h.1,(b.cell c λe=>d e.symm).trans h.2.1,b.range h.2.2.1 c λe=>d e.symm,World.there_setCells h.2.2.2 _ _ _⟩
def aom{b:ah}{j:ai}(f:b.heap[p]?=aa (.cells #[.slice (aa ⟨g,0,af⟩) n a,j,.int ae (y:Int)] 232 (0,0)))(c:S p)(i:Own (λk=>S k/\k≠p) b 305 64 (.slice (aa ⟨g,0,af⟩) n a) n (mB l))(d:n=l.length):gG S ((b.setCell ⟨p,1,af⟩<|.slice af 0 0).setCell ⟨p,2,af⟩<|.int ae ((y:Int)+1)) p ⟨l,[],y+1⟩:=by subst d;refine⟨.slice (aa ⟨g,0,af⟩) l.length a,.slice af 0 0,?_,c,i.aT (((aV.refl (λk=>k=p) b).setCell (p:=⟨p,1,af⟩) (.inl aS) _).setCell (p:=⟨p,2,af⟩) (.inl aS) _) λk _ h e=>h.2 e,Own.nil _ _ _ _⟩;exact dE (dE f _) _
def ajV{w l:ah}{p g c j:Nat}{r:ai}{m:DM}{a:Nat->Bool}(h:zC S w p g c r m a j l)(n:m.bE[j]?=aa x)(y:a j=true)(q:m.ok)(o:g≠p):zC S w p g c r m a (j+1) ((l.alloc<|.cells (kX x).toArray 307).drew.setCells g (x.1*64)<|cz x.2):=by have⟨A,B,C,D⟩:=h;have i:=q.bE x<|fp n;have d:aV (λ_=>False) l (l.alloc<|.cells (kX x).toArray 307).drew:=((aV.refl _ _).alloc _).drew;have b:=(d.mono λ_ _ f=>f.elim).trans (Dv g (cz x.2) (x.1*64) (l.alloc<|.cells (kX x).toArray 307).drew) λ_ _ e=>e;have⟨t,u,v⟩:=aql (lA m.bF m.bE a j) x.1 x.2 (I1 m.bF m.bE a (λs z=>q.bF s z) (λx n=>(q.bE x n).2) j) (by rw[qQ];exact i.1) i.2;refine⟨b.heap A λe=>o e.symm,?_,C.aT b λk _ h e=>h.2.2 e.symm,D.trans b λ_ _ e=>e⟩;rw[Hn n y];exact(B.aT d λ_ _ _ h=>h).store (x.1*64) (cz x.2) t u v
def aAl(S:Nat->Prop)(p:Nat)(m:DM)(w:ah)(hD:gG S w p m)(I:m.ok)(hN:m.bE.length*72<=140737488355328)(hy:m.fI<9223372036854775807):aj prog 195 #[.pointer (aa ⟨p,0,af⟩)] w λe n=>e=.returned (.tuple #[])/\gG S n p ⟨lA m.bF m.bE (λ_=>true) m.bE.length,[],m.fI+1⟩/\aV S w n:=by have⟨vd,U,D,C,G,J⟩:=hD;have hn:=I.len;obtain⟨g,l,rfl,N,c,ji,_,_⟩:=G.open aM;have F:=bf (o:=1) D;simp at F;have v:Own (λk=>S k/\k≠p/\g≠k) w 307 65 U m.bE.length (AD m.bE):=J.mono λk _ h=>⟨h.1,h.2.1,λe=>h.2.2 (by rw[<-e];rfl)⟩;have r:zC S w p g l U m (λ_=>true) 0 w:=⟨D,G,v,aV.refl _ _⟩;have⟨Z,cp,K,hcp⟩:=J.len;have A:=aW r;have q:=aW I;clear r I J v G D;subst K;go_enter func195,ntmps195;go_wp2;go_loopw[9] (λi wr=>∃j:Nat,j<=m.bE.length/\i=.int ae j/\zC S w p g l (.slice Z m.bE.length cp) m (λ_=>true) j wr) (λi _=>m.bE.length-(intOf i).toNat);(case atStart=>exact⟨0,gi _,aS,aU A⟩);case round=>obtain⟨j,hj,rfl,B⟩:=hrel;by_cases hlt:j<m.bE.length;{obtain⟨x,f⟩:∃x,m.bE[j]?=aa x:=⟨_,dO aM⟩;have Y:=aW f;have X:=aW B;have⟨d,y,z,L⟩:=B;have b:=(aU q).bE x<|fp f;have⟨gp,M,hv,_,O,P,_,_⟩:=z.open aM;cases hv;have⟨_,_,T⟩:=NN z (λx f=>((aU q).bE x f).2) f;have a:=I3 x b.2;have oh:=ae6 wr gp (j*65) _ T a;have hst:=afJ wr C_ (kX x).toArray afG (by simp[a])<|akL<|OU x;have t:=ai0 d y b.2 (by rw[qQ];exact b.1) c.2 (qQ _ _ _ _).symm<|I1 _ _ _ (λs hs=>(aU q).bF s hs) (λx f=>((aU q).bE x f).2) _;have hpB:=bU d;(have H:g≠wr.heap.size:=by have:=L.size;omega);have hu:=Nf;(have E:(cz x.2).length=64:=by rw[oq];exact b.2);(have Q:(prog.info? 305).map (·.size)=aa (cz x.2).length:=by rw[E];exact F7);have R:=DN x.2;have gJ:(0:Int)<=(x.1:Int):=kg _;(have qK:(x.1:Int)<(m.bF.length:Int):=by have:=b.1;omega);clear f d y z a T;generalize hW:wr.alloc (.cells (kX x).toArray 307)=W at*;go_wp2;go_region_held3(λn=>n.cell? ⟨p,0,af⟩=aa (.slice (aa ⟨g,0,af⟩) m.bF.length l)/\n.cell? ⟨wr.heap.size,0,af⟩=aa (.int ae (x.1:Int))/\n.rangeAt wr.heap.size 1 (cz x.2)/\n.there g (x.1*64) 64) (first|exact t.drew|exact t.drew.setCells c.2 H) (fail);go_wp2;go_roundw;(case rel=>subst hW;exact⟨j+1,aM,by go_num,ajV (aU X) (aU Y) aS (aU q) c.2⟩);case measure=>simp[intOf];omega};{have⟨d,y,z,L⟩:=B;have z1:=bf (o:=1) d;have z2:=bf (o:=2) d;have f1:=bP (o:=1) d;have f2:=bP (o:=2) d;simp at z1 z2;have u:j=m.bE.length:=aM;have V:=aW u;clear u;go_wp2;go_end0;refine⟨aS,?_,?_⟩;rw[aU V]at y;exact aom d C y (qQ _ _ _ _).symm;exact((L.mono (λk _ e=>by subst e;exact c.1)).setCell (.inl C) _).setCell (.inl C) _}
end
section
attribute[local go_sem↓]ajQ acs acO
attribute[local go_sem]adW
def ajM{w d:ah}{p g c j:Nat}{e:ai}{m:DM}{a:Nat->Bool}(h:zC S w p g c e m a j d)(k:m.bE[j]?=aa x)(i:a j=false):zC S w p g c e m a (j+1) (d.alloc<|.cells (kX x).toArray 307):=by have⟨l,n,o,q⟩:=h;have b:aV (λ_=>False) d (d.alloc<|.cells (kX x).toArray 307):=(aV.refl _ _).alloc _;refine⟨b.heap l λh=>h,?_,o.aT b λ_ _ _ h=>h,q.trans b λ_ _ f=>f.elim⟩;rw[QO k i];exact n.aT b λ_ _ _ h=>h
def atB{b:ah}{j:ai}(f:b.heap[p]?=aa (.cells #[.slice (aa ⟨g,0,af⟩) n a,j,.int ae (y:Int)] 232 (0,0)))(c:S p)(i:Own (λk=>S k/\k≠p) b 305 64 (.slice (aa ⟨g,0,af⟩) n a) n (mB l))(d:n=l.length):gG S (b.setCell ⟨p,1,af⟩<|.slice af 0 0) p ⟨l,[],y⟩:=by subst d;exact⟨.slice (aa ⟨g,0,af⟩) l.length a,.slice af 0 0,dE f _,c,i.aT ((aV.refl (λk=>k=p) b).setCell (p:=⟨p,1,af⟩) (.inl aS) _) λk _ h e=>h.2 e,Own.nil _ _ _ _⟩
def aeZ(S:Nat->Prop)(w:ah)(d:Option Addr)(b:List Bool):Prop:=∀j,j<b.length->∃a c,d=aa ⟨a,c,af⟩/\a<w.heap.size/\¬S a/\w.cell? ⟨a,c+j,af⟩=aa (.bool<|b.getD j false)
theorem anK(S:Nat->Prop)(p:Nat)(m:DM)(ao:Option Addr)(kc:Nat)(a:List Bool)(w:ah)(hD:gG S w p m)(V:m.ok)(hN:m.bE.length*72<=140737488355328)(hK:aeZ S w ao a)(aCR:a.length<=9223372036854775807)(aEh:a.length<=kc):aj prog 177 #[.pointer (aa ⟨p,0,af⟩),.slice ao a.length kc] w λe t=>e=.returned (.tuple #[])/\gG S t p ⟨lA m.bF m.bE (λk=>a.getD k false) m.bE.length,[],m.fI⟩/\aV S w t:=by have⟨vd,vp,M,hS,P,X⟩:=hD;have hn:=V.len;obtain⟨g,n,rfl,wQ,f,ji,_,_⟩:=P.open aM;have O:=bf (o:=1) M;simp at O;have D:Own (λk=>S k/\k≠p/\g≠k) w 307 65 vp m.bE.length (AD m.bE):=X.mono λk _ h=>⟨h.1,h.2.1,λe=>h.2.2 (by rw[<-e];rfl)⟩;have y:zC S w p g n vp m (λk=>a.getD k false) 0 w:=⟨M,P,D,aV.refl _ _⟩;have⟨ap,cp,Y,hcp⟩:=X.len;have J:=aW y;have v:=aW V;have HK:=aW hK;clear y V X D P M hK;subst Y;go_enter func177,ntmps177;go_wp2;go_loopw[11] (λi wr=>∃j:Nat,j<=m.bE.length/\i=.int ae j/\zC S w p g n (.slice ap m.bE.length cp) m (λk=>a.getD k false) j wr) (λi _=>m.bE.length-(intOf i).toNat);(case atStart=>exact⟨0,gi _,aS,aU J⟩);case round=>obtain⟨j,hj,rfl,L⟩:=hrel;by_cases hlt:j<m.bE.length;{obtain⟨x,l⟩:∃x,m.bE[j]?=aa x:=⟨_,dO aM⟩;have K:=aW l;have I:=aW L;have⟨r,E,G,H⟩:=L;have d:=(aU v).bE x<|fp l;have⟨gp,cap',hv,_,avB,Hx,_,_⟩:=G.open aM;cases hv;have⟨_,_,hr⟩:=NN G (λx l=>((aU v).bE x l).2) l;have c:=I3 x d.2;have oh:=ae6 wr gp (j*65) _ hr c;have hst:=afJ wr C_ (kX x).toArray afG (by simp[c])<|akL<|OU x;have z:=ai0 r E d.2 (by rw[qQ];exact d.1) f.2 (qQ _ _ _ _).symm<|I1 _ _ _ (λs hs=>(aU v).bF s hs) (λx l=>((aU v).bE x l).2) _;have hpB:=bU r;have hu:=Nf;(have N:(cz x.2).length=64:=by rw[oq];exact d.2);(have aBa:(prog.info? 305).map (·.size)=aa (cz x.2).length:=by rw[N];exact F7);have aAw:=DN x.2;have gJ:(0:Int)<=(x.1:Int):=kg _;(have qK:(x.1:Int)<(m.bF.length:Int):=by have:=d.1;omega);clear l r E G c hr;by_cases T:j<a.length;{obtain⟨gk,ok,rfl,R,A,C⟩:=aU HK j T;(have U:(wr.alloc<|.cells (kX x).toArray 307).cell? ⟨gk,ok+j,af⟩=aa (.bool<|a.getD j false):=by rw[((H.alloc _).cell (p:=⟨gk,ok+j,af⟩) R λe=>A (by grind))];exact C);(have Q:decide ((j:Int)<(a.length:Int))=true:=by simp;omega);have Z:Hid (∃b,a.getD j false=b):=⟨_,aS⟩;have⟨b,q⟩:=aU Z;rw[q]at U;have u:=aW q;clear q C Z;generalize F:wr.alloc (.cells (kX x).toArray 307)=W at*;cases b with|true=>go_wp2;go_region_held3(λt=>t.cell? ⟨p,0,af⟩=aa (.slice (aa ⟨g,0,af⟩) m.bF.length n)/\t.cell? ⟨wr.heap.size,0,af⟩=aa (.int ae (x.1:Int))/\t.rangeAt wr.heap.size 1 (cz x.2)/\t.there g (x.1*64) 64) (first|exact z.drew|exact z.drew.setCells f.2 (by have:=H.size;omega)) (fail);go_wp2;go_roundw;(case rel=>subst F;exact⟨j+1,aM,by go_num,ajV (aU I) (aU K) (aU u) (aU v) f.2⟩);case measure=>simp[intOf];omega|false=>go_wp2;go_roundw;(case rel=>subst F;exact⟨j+1,aM,by go_num,ajM (aU I) (aU K)<|aU u⟩);case measure=>simp[intOf];omega};{(have Q:decide ((j:Int)<(a.length:Int))=false:=by simp;omega);generalize F:wr.alloc (.cells (kX x).toArray 307)=W at*;go_wp2;go_roundw;(case rel=>subst F;exact⟨j+1,aM,by go_num,ajM (aU I) (aU K)<|aU (by show _=_;grind)⟩);case measure=>simp[intOf];omega}};{have⟨r,E,G,H⟩:=L;have z1:=bf (o:=1) r;have f1:=bP (o:=1) r;simp at z1;have B:j=m.bE.length:=aM;have HJ:=aW B;clear B;go_wp2;go_end0;refine⟨aS,?_,?_⟩;rw[aU HJ]at E;exact atB r hS E (qQ _ _ _ _).symm;exact(H.mono (λk _ e=>by subst e;exact f.1)).setCell (.inl hS) _}
end
section
def Sy(x y:ai):Sem ai:=binOp .or 3 x y
def ai9(x y:ai):binOp .or 3 x y=Sy x y:=rfl
def Qq(x y:ai):Sem ai:=binOp .shl 3 x y
def ad8(x y:ai):binOp .shl 3 x y=Qq x y:=rfl
def Rx(x y:ai):Sem ai:=binOp .shr 3 x y
def Oo(x y:ai):binOp .shr 3 x y=Rx x y:=rfl
def KV(j:Nat):(2:Nat)^(8*j)=256^j:=by rw[Nat.pow_mul]
def abt(n j:Nat):n%256^(j+1)=n%256^j+n/256^j%256*256^j:=by rw[Nat.pow_succ,Nat.mod_mul,Nat.mul_comm (256^j)]
def NA(W:ah)(n j:Nat)(f:j<8)(g:n<9223372036854775808):(Qq (.int ae ((n/256^j%256:Nat):Int))<|.int ae (8*(j:Int))).run prog W=.ok (.int ae ((n/256^j%256*256^j:Nat):Int)) W:=by(have e:min (8*(j:Int)).toNat IntKind.i64.bits=8*j:=by show min _ 64=_;omega);(have b:n/256^j%256*256^j<9223372036854775808:=by have c:=abt n j;have d:=Nat.mod_le n (256^(j+1));omega);unfold Qq binOp Op.shift;simp only;rw[dz aM,e];(have a:((n/256^j%256:Nat):Int)*2^(8*j)=((n/256^j%256*256^j:Nat):Int):=by rw[<-KV,Int.natCast_mul,aa'];rfl);rw[a,qV _ ⟨aM,aM⟩];rfl
def Pp(W:ah)(n j:Nat)(c:j<8):(Rx (.int ae (n:Int))<|.int ae (8*(j:Int))).run prog W=.ok (.int ae ((n/256^j:Nat):Int)) W:=by(have e:min (8*(j:Int)).toNat IntKind.i64.bits=8*j:=by show min _ 64=_;omega);unfold Rx binOp Op.shift;simp only;rw[dz aM,e];(have a:(n:Int).fdiv (2^(8*j))=((n/256^j:Nat):Int):=by(have b:(2:Int)^(8*j)=((256^j:Nat):Int):=by rw[<-KV,aa'];rfl);rw[b,Int.fdiv_eq_ediv_of_nonneg _<|kg _];rfl);rw[a];rfl
def QC(W:ah)(n j:Nat)(h:n<9223372036854775808):(Sy (.int ae ((n%256^j:Nat):Int))<|.int ae ((n/256^j%256*256^j:Nat):Int)).run prog W=.ok (.int ae ((n%256^(j+1):Nat):Int)) W:=by have f:=abt n j;have g:=Nat.mod_le n (256^(j+1));have c:n%256^j<256^j:=AU _<|Nat.pow_pos aM;(have d:n/256^j%256*256^j|||n%256^j=n%256^(j+1):=by have:=Nat.shiftLeft_add_eq_or_of_lt (by rw[KV];exact c) (n/256^j%256);rw[Nat.shiftLeft_eq,KV]at this;omega);unfold Sy binOp Op.intBits;simp only[ne_eq,Jc,gL];(have e:(BitVec.ofInt IntKind.i64.bits ((n%256^j:Nat):Int)|||BitVec.ofInt IntKind.i64.bits ((n/256^j%256*256^j:Nat):Int)).toNat=n%256^(j+1):=by show(BitVec.ofInt 64 _|||BitVec.ofInt 64 _).toNat=_;rw[BitVec.toNat_or,CF,CF,aa6,aa6,acN (a:=n%256^j) (b:=2^64) aM,acN (a:=n/256^j%256*256^j) (b:=2^64) aM,Nat.or_comm];exact d);rw[e,qV _ ⟨aM,aM⟩];rfl
attribute[local go_sem↓]ai9 ad8 Oo
def aae(W:ah)(b o n:Nat):Prop:=∀i,i<8->W.cell? ⟨b,o+i,af⟩=aa (.int .u8 ((n/256^i%256:Nat):Int))
theorem agn(b o a f n:Nat)(w:ah)(u:n<9223372036854775808)(r:8<=a)(q:a<=64)(p:aae w b o n):aj prog 293 #[.slice (aa ⟨b,o,af⟩) a f] w λe B=>e=.returned (.int ae (n:Int))/\B=w:=by have z:=aW p;clear p;go_enter func293,ntmps293;go_wp2;go_loop[3,5] (λv i=>∃j x:Nat,j<=8/\i=.int ae j/\v=.int ae (x:Int)/\Hid (x=n%256^j)) (λ_ i=>8-(intOf i).toNat);(case atStart=>exact⟨0,0,aM,aS,aS,aW (by simp[aaW])⟩);case round=>obtain⟨j,x,D,rfl,rfl,l⟩:=hrel;by_cases d:j<8;{have k:=aU z j d;have m:=NA w n j d u;have g:=QC w n j u;rw[<-aU l]at g;obtain⟨y,A⟩:∃y,Hid (y=n%256^(j+1)):=⟨_,aW aS⟩;rw[<-aU A]at g;generalize n/256^j%256*256^j=t at m g;have h:n/256^j%256<256:=AU _ aM;generalize n/256^j%256=c at m k h;have C:(0:Int)<=(j:Int):=kg _;have s:(j:Int)<(a:Int):=aM;go_wp2;go_round;(case rel=>grind);case measure=>simp[intOf];omega};{go_wp2;go_ret;refine⟨IR ?_,aS⟩;rw[aU l,aU<|aW (show j=8by omega),acN aM]}
def iy(n i:Nat):ai:=.int .u8 ((n/256^i%256:Nat):Int)
def toU8(x:ai):Sem ai:=convert 3 5 x
def toU8_eq(x:ai):convert 3 5 x=toU8 x:=rfl
def Dt(W:ah)(x:Nat):(toU8<|.int ae (x:Int)).run prog W=.ok (.int .u8 ((x%256:Nat):Int)) W:=by unfold toU8;simp[go_sem,uh,Nh];rw[IntKind.wrap_u8]
attribute[local go_sem↓]toU8_eq
def wz(b o n:Nat)(c:Array ai)(t:aq)(w:ah)(j:Nat)(d:ah):Prop:=∃a:Array ai,d.heap[b]?=aa (.cells a t (0,0))/\a.size=c.size/\(∀k,a[k]?=if o<=k/\k<o+j then aa (iy n (k-o))else c[k]?)/\aV (λk=>k=b) w d
theorem wz.step{b o n j:Nat}{a:Array ai}{t:aq}{w d:ah}(h:wz b o n a t w j d)(l:o+j<a.size):wz b o n a t w (j+1) (d.setCell ⟨b,o+j,af⟩<|iy n j):=by have⟨c,e,f,i,g⟩:=h;refine⟨c.setIfInBounds (o+j)<|iy n j,dE e _,by simp[f],λk=>?_,g.setCell (.inl aS) _⟩;rw[FV];grind
theorem aka(b o c h n:Nat)(d:Array ai)(t:aq)(w:ah)(D:n<9223372036854775808)(A:8<=c)(z:c<=64)(s:w.heap[b]?=aa (.cells d t (0,0)))(a:o+8<=d.size):aj prog 294 #[.slice (aa ⟨b,o,af⟩) c h,.int ae (n:Int)] w λe I=>e=.returned (.tuple #[])/\wz b o n d t w 8 I:=by have C:Hid (wz b o n d t w 0 w):=aW ⟨d,s,aS,λk=>by rw[dz aM],aV.refl _ _⟩;have f:=aW a;clear s a;go_enter func294,ntmps294;go_wp2;go_loopw[5] (λi wr=>∃j:Nat,j<=8/\i=.int ae j/\Hid (wz b o n d t w j wr)) (λi _=>8-(intOf i).toNat);(case atStart=>grind);case round=>obtain⟨j,L,rfl,g⟩:=hrel;by_cases m:j<8;{have⟨l,p,F,G,H⟩:=aU g;have a:=aU f;have x:∃u,wr.cell? ⟨b,o+j,af⟩=aa u:=⟨l[o+j]'aM,by rw[bf p];grind⟩;have⟨u,x⟩:=x;have K:=bP (o:=o+j) p;have E:=Pp wr n j m;have r:=Dt wr (n/256^j);obtain⟨v,q⟩:∃v,Hid (v=n/256^j%256):=⟨_,aW aS⟩;rw[<-aU q]at r;generalize n/256^j=y at E r;have J:(0:Int)<=(j:Int):=kg _;have B:(j:Int)<(c:Int):=aM;clear p F G H a;go_wp2;go_roundw;(case rel=>refine⟨j+1,aM,by go_num,aW ?_⟩;(have e:aG .u8 (v:Int)=iy n j:=by rw[aU q];rfl);rw[e];exact(aU g).step (by have:=aU f;omega));case measure=>simp[intOf];omega};{go_wp2;go_end0;refine⟨aS,?_⟩;have:=aU g;rw[aU<|aW (show j=8by omega)]at this;exact this}
def anG(n:Nat):(II n).map (λb=>aG .u8 (b.toNat:Int))=(aC 8).map (iy n):=by simp only[II,ud,Js,(λx=>rfl),show aC 8=[0,1,2,3,4,5,6,7]from rfl,iy];simp
def wz.list{a:Array ai}{w d:ah}(h:wz b o n a t w 8 d)(r:o+8<=a.size):d.heap[b]?=aa (.cells (a.toList.take o++(aC 8).map (iy n)++a.toList.drop (o+8)).toArray t (0,0))/\aV (λk=>k=b) w d:=by have⟨f,i,q,j,m⟩:=h;refine⟨?_,m⟩;rw[i];congr 2;apply FE;intro k;have c:∀l:List ai,l.toArray[k]?=l[k]?:=λl=>aP;rw[j k,c (a.toList.take o++(aC 8).map (iy n)++a.toList.drop (o+8))];(have e:(a.toList.take o).length=o:=by simp;omega);by_cases g:k<o;rw[dz aM,oV,xJ aM,n_,bw g];simp;by_cases p:k<o+8;rw[bw ⟨aM,p⟩,oV,n9 aM,e,xJ (by simp;omega),j9,aaY aM];rfl;rw[dz aM,oV,n9 aM,e,n9 (by simp;omega),vC,List.length_range,List.getElem?_drop];simp[nJ];congr 1;omega
end
section
def eI(S:Nat->Prop)(w:ah)(v:ai)(s:ByteArray):Prop:=∃c b,v=.slice c s.size b/\s.size<=b/\(c=af->s.size=0)/\∀a,c=aa a->∃g o,a=⟨g,o,af⟩/\(∃x t d,w.heap[g]?=aa (.cells x t d))/\S g/\w.rangeAt g o (cz s)
def eI.aT(h:eI S w v s)(j:aV T w w')(i:∀k,k<w.heap.size->S k->¬T k):eI S w' v s:=by have⟨l,b,p,q,r,u⟩:=h;refine⟨l,b,p,q,r,λa y=>?_⟩;have⟨g,o,e,⟨x,t,n,f⟩,d,m⟩:=u a y;have c:=bU f;exact⟨g,o,e,⟨x,t,n,j.heap f<|i g c d⟩,d,j.range m c<|i g c d⟩
theorem eI.mono(h:eI S w v s)(j:∀k,k<w.heap.size->S k->T k):eI T w v s:=by have⟨c,b,d,e,f,g⟩:=h;refine⟨c,b,d,e,f,λa i=>?_⟩;grind
def eI.nil(S:Nat->Prop)(w:ah):eI S w (.slice af 0 0) aI:=⟨af,0,aS,bB _,λ_=>rfl,λa h=>by cases h⟩
def eI.row{c:Array ai}{f:Nat×Nat}(d:w.heap[g]?=aa (.cells c t f))(i:S g)(m:s.size=n)(l:n<=b)(p:∀j,j<(cz s).length->c[o+j]?=(cz s)[j]?):eI S w (.slice (aa ⟨g,o,af⟩) n b) s:=by subst m;refine⟨aa ⟨g,o,af⟩,b,aS,l,(λh=>by cases h),λa k=>?_⟩;cases k;refine⟨g,o,aS,⟨_,_,_,d⟩,i,λj v e=>?_⟩;rw[bf d,p j<|(fl.1 e).1];exact e
def Q8(a:Array ai):Sem ai:=Builtin.copy_ #[138,138] 3 a
def ato(a:Array ai):Builtin.copy_ #[138,138] 3 a=Q8 a:=rfl
def aoh{a b:Array ai}{c:Nat×Nat}(h:w.heap[g]?=aa (.cells a t c)):(w.setRow g b).heap[g]?=aa (.cells b t c):=setRow_heap w g a b t c h
theorem aV.setRow{a w:ah}(h:aV S a w)(f:S g\/a.heap.size<=g)(b:Array ai):aV S a (w.setRow g b):=h.trans (T:=λk=>k=g) ⟨aS,aS,aS,by simp[World.setRow],λk _ c=>by simp[World.setRow,Array.getElem?_modify,j_ c]⟩ (λi d e=>by grind)
theorem awp(W:ah)(g:Nat)(b:Array ai)(t:aq)(s:ByteArray)(v:ai)(S:Nat->Prop)(w:eI S W v s)(m:W.heap[g]?=aa (.cells b t (0,0)))(u:b.size=64)(D:s.size<=40):∃i,(Q8 #[.slice (aa ⟨g,17,af⟩) 47 47,v]).run prog W=.ok (.int ae (s.size:Int)) i/\Hid (i.heap[g]?=aa (.cells (b.toList.take 17++cz s++b.toList.drop (17+s.size)).toArray t (0,0))/\aV (λk=>k=g) W i):=by obtain⟨n,c,rfl,B,C,r⟩:=w;have p:=AR;have f:(prog.info? 5).map (·.size)=aa 1:=aN;by_cases h:s.size=0;refine⟨W,?_,aW ⟨?_,aV.refl _ _⟩⟩;have:=run_copy_none W 138 138 3 5 (aa ⟨g,17,af⟩) n 47 47 s.size c p f (by rw[h];rfl);unfold Q8;rw[this,h];rfl;have e:=Jk.1 (by rw[oq];exact h);rw[e,h,AO,xL,Nj];exact m;{cases n with|none=>simp_all|some a=>obtain⟨l,o,rfl,z,A,q⟩:=r a aS;have y:=oq s;have:=run_copy_row (P:=prog) W 138 138 3 5 g 17 47 47 ⟨l,o,af⟩ s.size c b t (cz s) p f m (by grind) (λj v x=>by(have d:(⟨l,o,af⟩:Addr).add j=⟨l,o+j,af⟩:=by unfold Addr.add;split<;>simp_all);rw[d];exact q j v x) aM<|DN s;rw[y]at this;exact⟨_,this,aW ⟨aoh m,(aV.refl (λk=>k=g) W).setRow (.inl aS) _⟩⟩}
theorem aao(a b:Nat)(t:ByteArray)(c:t.size<=40):cz (dS a b t)=(aC 8).map (iy a)++(aC 8).map (iy b)++aG .u8 (t.size:Int)::cz t++List.replicate (47-t.size) (.int .u8 0):=by(have e:((aH t.size).toNat:Int)=(t.size:Int):=by show((t.size%256:Nat):Int)=_;omega);unfold cz;rw[aBz];simp[Iz,pW,anG,ud,List.map_replicate,AZ];simp_all
theorem aBW(A B T:List ai)(x z:ai)(f:A.length=8)(m:B.length=8)(n:Nat)(o:T.length=n)(p:n<=40)(b d c:Array ai)(j:b=((List.replicate 64 z).take 0++A++(List.replicate 64 z).drop (0+8)).toArray)(k:d=(b.toList.take 8++B++b.toList.drop (8+8)).toArray)(l:c=d.setIfInBounds 16 x):c.toList.take 17++T++c.toList.drop (17+n)=A++B++x::T++List.replicate (47-n) z:=by(have g:b.toList=A++List.replicate 56 z:=by rw[j];show List.take 0 _++A++_=_;rw[Ng,pY,ak6]);(have h:d.toList=A++B++List.replicate 48 z:=by rw[k,g];rw[List.take_left' f,akW,aaV aM,f,pY,ak6]);(have a:(A++B).length=16:=by rw[kG,f,m]);(have i:c.toList=A++B++x::List.replicate 47 z:=by rw[l,Array.toList_setIfInBounds,h,aaL _ _ aM,a,Jb,List.replicate_succ,eT]);have e:17+n-16=n+1:=aM;rw[i,List.take_append,akW,a,CL aM,aaV aM,e,List.drop_succ_cons,ak6,pY];simp_all
def wz.out{c:Array ai}{w e:ah}(h:wz b o n c t w 8 e)(j:o+8<=c.size):∃a:Array ai,Hid (a=(c.toList.take o++(aC 8).map (iy n)++c.toList.drop (o+8)).toArray)/\Hid (a.size=c.size)/\Hid (e.heap[b]?=aa (.cells a t (0,0)))/\Hid (aV (λk=>k=b) w e):=by have⟨d,i⟩:=h.list j;have⟨a,f,g,_,_⟩:=h;rw[f]at d;simp only[gD,Obj.cells.injEq]at d;exact⟨a,aW d.1,aW g,aW f,aW i⟩
attribute[local go_sem↓]ato
theorem NC(S:Nat->Prop)(a b:Nat)(v:ai)(t:ByteArray)(w:ah)(M:a<9223372036854775808)(N:b<9223372036854775808)(C:t.size<=40)(I:eI S w v t):aj prog 258 #[.int ae (a:Int),.int ae (b:Int),v] w λe J=>e=.returned (.slice (aa ⟨w.heap.size,0,af⟩) 64 64)/\J.heap[w.heap.size]?=aa (.cells (cz<|dS a b t).toArray 5 (0,0))/\aV (λ_=>False) w J:=by have⟨W,L,D,G,_⟩:=I;subst D;rename_i Q;clear Q;have P:=ait;have m:aV (λ_=>False) w (w.alloc<|.cells iR 5):=(aV.refl _ _).alloc _;have K:=aW m;clear m;go_enter func258,ntmps258;go_wp2_with fail;go_at_call 294;refine(aka w.heap.size 0 64 64 a iR 5 _ M aM aM (aU<|aW<|heap_alloc_last w<|.cells iR 5) (by rw[yz];omega)).mono ?_;rintro e X ⟨rfl,j⟩;have⟨F,n,c,r,s⟩:=j.out (by rw[yz];omega);clear j;go_wp2_with fail;go_at_call 294;refine(aka w.heap.size 8 56 56 b F 5 _ N aM aM (aU r) (by rw[aU c,yz];omega)).mono ?_;rintro e E ⟨rfl,l⟩;have⟨A,q,i,g,x⟩:=l.out (by rw[aU c,yz];omega);clear l;have d:∃u,E.cell? ⟨w.heap.size,16,af⟩=aa u:=⟨A[16]'(by rw[aU i,aU c,yz];omega),by rw[bf<|aU g];simp_all⟩;have⟨V,d⟩:=d;have H:=bP (o:=16)<|aU g;have h:aV (λk=>k=w.heap.size) w (E.setCell ⟨w.heap.size,16,af⟩<|.int .u8 (t.size:Int)):=((((aU K).mono (T:=λk=>k=w.heap.size) λ_ _ f=>f.elim).trans (aU s) λ_ _ e=>e).trans (aU x) λ_ _ e=>e).setCell (p:=⟨w.heap.size,16,af⟩) (.inl aS) _;have⟨Y,B,z⟩:=awp (E.setCell ⟨w.heap.size,16,af⟩<|.int .u8 (t.size:Int)) w.heap.size (A.setIfInBounds 16<|.int .u8 (t.size:Int)) 5 t _ S ((aU<|aW I).aT h λk O _ e=>aM) (dE (aU g) _) (by rw[Array.size_setIfInBounds,aU i,aU c];exact yz)<|aU<|aW C;have y:=aW h;clear h;go_wp2;go_ret;have⟨R,U⟩:=aU z;refine⟨aS,?_,?_⟩;{rw[R,aao a b t C];have:=aBW ((aC 8).map<|iy a) ((aC 8).map<|iy b) (cz t) (.int .u8 (t.size:Int)) (.int .u8 0) aP aP t.size (oq t) C F A _ (by rw[aU n,show iR.toList=List.replicate 64 (.int .u8 0)from by unfold iR;simp_all]) (aU q) aS;rw[this]};refine((aU y).trans U λ_ _ e=>e).mono λk O e=>?_;omega
def Ql{l:Nat×Nat}{q:aq}{t:ByteArray}(p:t.size<=40)(m:w.heap[g]?=aa (.cells (cz<|dS a b t).toArray q l)):aae w g 0 a/\aae w g 8 b/\w.cell? ⟨g,16,af⟩=aa (.int .u8 (t.size:Int))/\∀j,j<(cz t).length->(cz<|dS a b t).toArray[17+j]?=(cz t)[j]?:=by have d:=aao a b t p;(have h:∀k,w.cell? ⟨g,k,af⟩=(cz<|dS a b t)[k]?:=λk=>by rw[bf m];simp);have c:∀n,((aC 8).map<|iy n).length=8:=λn=>aP;refine⟨λi f=>?_,λi f=>?_,?_,λj o=>?_⟩;rw[uf,h,d,oV,oV,xJ (by rw[c];exact f),j9,aaY f];rfl;rw[h,d,oV,oV,n9 (by rw[c];omega),c,xJ (by rw[c];omega),j9,Nat.add_sub_cancel_left,aaY f];rfl;rw[h,d,oV,oV,n9 (by rw[c];omega),c,n9 (by rw[c];omega),c];rfl;have e:(cz<|dS a b t).toArray[17+j]?=(cz<|dS a b t)[17+j]?:=aP;rw[e,d,oV,oV,n9 (by rw[c];omega),c,n9 (by rw[c];omega),c,show 17+j-8-8=j+1by omega,FO,M6,xJ o]
theorem adY(g a b:Nat)(t:ByteArray)(p:aq)(w:ah)(l:a<9223372036854775808)(m:b<9223372036854775808)(n:t.size<=40)(c:w.heap[g]?=aa (.cells (cz<|dS a b t).toArray p (0,0))):aj prog 251 #[.slice (aa ⟨g,0,af⟩) 64 64] w λe q=>e=.returned (.tuple #[.int ae (a:Int),.int ae (b:Int),.slice (aa ⟨g,17,af⟩) t.size 47])/\aV (λ_=>False) w q:=by have⟨f,h,k,o⟩:=Ql n c;clear o;have i:=aW f;have j:=aW h;have d:min (t.size:Int) 40=(t.size:Int):=aM;clear f h c;go_enter func251,ntmps251;go_wp2_with fail;go_quiet(first|(go_at_call_of 293 (Value.slice (aa ⟨g,0,af⟩) 64 64);exact vA<|agn g 0 64 64 a _ l aM aM<|aU i)|(go_at_call_of 293 (Value.slice (aa ⟨g,8,af⟩) 56 56);exact vA<|agn g 8 56 56 b _ m aM aM<|aU j));all_goals go_wp2;go_ret3;refine⟨?_,(aV.refl _ w).drewN _⟩;simp_all
end
section
def atv(W:ah)(a:Option Addr)(n c:Nat):(binOp .eql 138 (.slice a n c)<|.slice af 0 0).run prog W=.ok (.bool a.isNone) W:=aaK W 138 5 a n c 0 0 AR
def aaB(x:ai):Sem ai:=convert 138 9 x
def auM(x:ai):convert 138 9 x=aaB x:=rfl
theorem ace(S:Nat->Prop)(W:ah)(v:ai)(s:ByteArray)(h:eI S W v s):(aaB v).run prog W=.ok (.string s) W:=by obtain⟨d,b,rfl,n,i,k⟩:=h;cases d with|none=>(have e:s=aI:=by apply ByteArray.ext;apply alb;exact(i aS));unfold aaB;rw[run_convert_bytes_string W 138 9 5 af s.size b AR Nh underlying9];rw[e];rfl|some a=>obtain⟨g,o,rfl,l,m,f⟩:=k a aS;have:=run_convert_bytes_back W 138 9 5 ⟨g,o,af⟩ b s.data.toList AR Nh underlying9 (λj p=>by(have c:(⟨g,o,af⟩:Addr).add j=⟨g,o+j,af⟩:=by unfold Addr.add;split<;>simp_all);rw[c];refine f j _ ?_;unfold cz;grind);exact this
def NK(a:Array ai):Sem ai:=Builtin.append_ #[138,138] 138 a
def ad2(a:Array ai):Builtin.append_ #[138,138] 138 a=NK a:=rfl
def PC:Sem ai:=Instr.buildSlice 138 0 #[]
def awa:Instr.buildSlice 138 0 #[]=PC:=rfl
theorem axw(W:ah):PC.run prog W=.ok (.slice (aa ⟨W.heap.size,0,af⟩) 0 0) (W.alloc<|.cells #[] 5):=by unfold PC Instr.buildSlice;simp[lF AR,(λa=>Fu a aN),newRow,Instr.fill];grind
theorem av9(S:Nat->Prop)(W:ah)(w:Addr)(a:Nat)(s:ByteArray)(h:eI S W (.slice (aa w) s.size a) s)(T:s.size<=40):∃m b,(NK #[.slice (aa ⟨W.heap.size,0,af⟩) 0 0,.slice (aa w) s.size a]).run prog (W.alloc<|.cells #[] 5)=.ok m b/\Hid (eI (λk=>W.heap.size<=k) b m s/\aV (λ_=>False) W b):=by have⟨I,q,r,t,v⟩:=jN SX;have d:aV (λ_=>False) W (W.alloc<|.cells #[] 5):=(aV.refl _ _).alloc _;have⟨B,x,H,Q,R,E⟩:=h.aT d λ_ _ _ f=>f;cases H;obtain⟨g,o,rfl,N,O,D⟩:=E _ aS;have⟨m,b,J,K,L,_,i⟩:=FP (W.alloc<|.cells #[] 5) 0 138 138 5 I _ 1 1 AR q r t v aS aM (.slice (aa ⟨W.heap.size,0,af⟩) 0 0) 0 [] (⟨aS,.inr ⟨W.heap.size,0,#[],aS,gi _,heap_alloc_last W _,bB _,gi _,aS,aS⟩⟩) ⟨g,o,af⟩ s.size a (cz s) (by rw[oq];omega) (λj u z=>by(have c:(⟨g,o,af⟩:Addr).add j=⟨g,o+j,af⟩:=by unfold Addr.add;split<;>simp_all);rw[c];exact D j u z) (DN s) (by unfold maxLen;omega) aM<|gi _;refine⟨m,b,J,aW ⟨?_,?_⟩⟩;rcases K.2with⟨rfl,P⟩|⟨y,M,C,rfl,_,p,n,_,F,G⟩;grind;refine eI.row p ?_ aM n λj z=>?_;(have:y=W.heap.size\/y=W.heap.size+1:=by rcases i with i|i;exact .inl (by simpa[aK]using i);exact .inr (by simpa[aK]using i));omega;have:=fG (λl=>l[j]?) G;simp[pY,aaS]at this;rw[n_,bw (by grind)]at this;rw[uf,<-this];simp;exact(d.mono λ_ _ f=>f.elim).grown L (λk A _=>by simpa[aK]using A.symm) |>.mono (λk A e=>aM)
def E7(x y:ai):Sem ai:=binOp .mul 3 x y
def CV(x y:ai):binOp .mul 3 x y=E7 x y:=rfl
def wO(W:ah)(a b:Nat)(h:a*b<=9223372036854775807):(E7 (.int ae (a:Int))<|.int ae (b:Int)).run prog W=.ok (.int ae ((a*b:Nat):Int)) W:=by unfold E7;have e:(a:Int)*(b:Int)=((a*b:Nat):Int):=rfl;simp only[binOp_mul,Op.intArith];rw[e,qV _ ⟨aM,aM⟩];rfl
attribute[local go_sem↓]ad2 awa auM CV
attribute[local go_sem]axw
def ag5(S:Nat->Prop)(v:ai)(s:ByteArray)(w:ah)(h:eI S w v s)(p:s.size<=40):aj prog 261 #[v] w λe m=>∃f,e=.returned f/\eI (λk=>w.heap.size<=k) m f s/\aV (λ_=>False) w m:=by have n:=h;obtain⟨i,b,rfl,r,d,j⟩:=n;have l:=λW=>atv W i s.size b;cases i with|none=>have c:=aW<|d aS;clear d j h;go_enter func261,ntmps261;go_wp2;go_ret;exact⟨.slice af 0 0,aS,⟨af,0,by rw[aU c],by rw[aU c];omega,λ_=>aU c,λa o=>by cases o⟩,aV.refl _ _⟩|some a=>have⟨f,q,t,g⟩:=av9 S w a b s h p;clear d j h;go_enter func261,ntmps261;go_wp2;go_ret;exact⟨_,aS,(aU g).1,(aU g).2⟩
def asf(s a:ByteArray):(s.toList==a.toList)=decide (s=a):=by rw[akX,rT,AY];constructor;intro h;rw[ByteArray.toList_eq,ByteArray.toList_eq]at h;exact WideShapes.bytes_inj h;intro h;rw[h]
def asQ(S T:Nat->Prop)(v b:ai)(s a:ByteArray)(w:ah)(h:eI S w v s)(c:eI T w b a):aj prog 252 #[v,b] w λe d=>e=.returned (.bool<|decide (s=a))/\d=w:=by have f:=ace S w v s h;have g:=ace T w b a c;clear h c;go_enter func252,ntmps252;go_wp2;go_ret;exact⟨awI<|asf s a,aS⟩
theorem I8(c a n:Nat)(w:ah)(h:w.cell? ⟨c,2,af⟩=aa (.int ae (a:Int)))(l:1<=a)(f:a<=16)(j:1<=n)(d:n<9223372036854775807):aj prog 256 #[.pointer (aa ⟨c,0,af⟩),.int ae (n:Int)] w λe g=>e=.returned (.int ae (((n-1)/a:Nat):Int))/\g=w:=by obtain⟨k,rfl⟩:∃k,n=k+1:=⟨n-1,aM⟩;obtain⟨q,b⟩:∃q:Nat,Hid (q=k/a):=⟨_,aW aS⟩;rw[CM,<-aU b];go_enter func256,ntmps256;go_wp2;go_ret;refine⟨IR ?_,aS⟩;have e:(k:Int)/(a:Int)=((k/a:Nat):Int):=rfl;have i:=CO k a;rw[aU b,e,IntWalk.wrap64_in _ ⟨by grind,aM⟩]
theorem Pd(d a b n:Nat)(w:ah)(m:w.cell? ⟨d,1,af⟩=aa (.int ae (a:Int)))(o:w.cell? ⟨d,2,af⟩=aa (.int ae (b:Int)))(g:1<=a*b/\a*b<=96)(p:1<=n)(j:n<9223372036854775807):aj prog 257 #[.pointer (aa ⟨d,0,af⟩),.int ae (n:Int)] w λe l=>e=.returned (.int ae ((eh a b n:Nat):Int))/\aV (λ_=>False) w l:=by obtain⟨k,rfl⟩:∃k,n=k+1:=⟨n-1,aM⟩;obtain⟨C,f⟩:∃q:Nat,Hid (q=a*b):=⟨_,aW aS⟩;have c:=λW=>wO W a b aM;unfold eh;rw[<-aU f]at c g⊢;have h:(0:Int)<=(k:Int)%(C:Int):=akP _ aM;have i:(k:Int)%(C:Int)<(C:Int):=Int.emod_lt_of_pos _ aM;go_enter func257,ntmps257;go_wp2;go_quiet(fail);go_wp2;go_ret;refine⟨IR ?_,(aV.refl _ w).drewN _⟩;simp_all
end
def nM(w:ah)(h g c f e b d a:Nat)(i:ai):Prop:=w.heap[h]?=aa (.cells #[.pointer (aa ⟨g,0,af⟩),.int ae (c:Int),.int ae (f:Int),.int ae (e:Int),.int ae (b:Int),.int ae (d:Int),.int ae (a:Int),i] 282 (0,0))
def nM.cells{w:ah}{b i d g f c e a:Nat}{j:ai}(h:nM w b i d g f c e a j):w.cell? ⟨b,0,af⟩=aa (.pointer<|aa ⟨i,0,af⟩)/\w.cell? ⟨b,1,af⟩=aa (.int ae (d:Int))/\w.cell? ⟨b,2,af⟩=aa (.int ae (g:Int))/\w.cell? ⟨b,3,af⟩=aa (.int ae (f:Int))/\w.cell? ⟨b,4,af⟩=aa (.int ae (c:Int))/\w.cell? ⟨b,5,af⟩=aa (.int ae (e:Int))/\w.cell? ⟨b,6,af⟩=aa (.int ae (a:Int))/\w.cell? ⟨b,7,af⟩=aa j:=⟨bf h,bf h,bf h,bf h,bf h,bf h,bf h,bf h⟩
def nM.frozen{w:ah}{g i c f e b d a:Nat}{j:ai}(h:nM w g i c f e b d a j)(o:Nat):w.frozen? ⟨g,o,af⟩=false:=bP h
def nM.aT{g i c f e b d a:Nat}{j:ai}(h:nM w g i c f e b d a j)(k:aV T w w')(l:¬T g):nM w' g i c f e b d a j:=k.heap h l
def nM.lt{g i c f e b d a:Nat}{j:ai}(h:nM w g i c f e b d a j):g<w.heap.size:=bU h
def aV.DK(w:ah)(n:Nat):aV S w (w.drewN n):=(aV.refl S w).drewN n
theorem aiE(S:Nat->Prop)(v u c d L s E j n a b:Nat)(vn:ai)(t:ByteArray)(m:DM)(w:ah)(G:nM w v u c d L s E j vn)(N:gG S w u m)(P:m.ok)(hN:m.bE.length*72<=140737488355328)(F:1<=c*d/\c*d<=96)(o:c*d+2<=m.bF.length)(hn:1<=n)(I:n<9223372036854775807)(Q:m.read (eh c d n)=dS a b t)(ht:t.size<=40)(ha:a<4611686018427387904)(hb:b<4611686018427387904):aj prog 263 #[.pointer (aa ⟨v,0,af⟩),.int ae (n:Int)] w λe x=>∃g,e=.returned (.tuple #[.int ae (a:Int),.slice (aa ⟨g,17,af⟩) t.size 47])/\w.heap.size<=g/\x.heap[g]?=aa (.cells (cz<|dS a b t).toArray 305 (0,0))/\aV (λ_=>False) w x:=by have⟨c0,Y,Z,_⟩:=G.cells;rename_i hx;clear hx;have T:=aW N;have V:=aW P;have HS:=aW F;(have r:eh c d n<m.bF.length:=by have:=yV c d n aM;omega);have D:=aW r;have X:=aW Q;have p:=aW λW h1 h2=>Pd v c d n W h1 h2 F hn I;have J:=G.lt;clear G N P F Q r o;generalize eh c d n=q at*;go_enter func263,ntmps263;go_wp2;go_region_held3(λx=>x.cell? ⟨v,0,af⟩=aa (.pointer<|aa ⟨u,0,af⟩)) (first|exact c0|exact Ge|exact c01) (first|(go_at_call 257;refine(aU p w.drew Y Z).mono ?_;rintro e R ⟨rfl,i⟩;have h:aV (λ_=>False) w R:=⟨i.os,i.tape,i.output,i.size,i.block⟩;have c01:=(h.cell J λf=>f).trans c0;have y:=aW<|eP.aT (aU T) h λ_ _ _ f=>f;have B:=aW h;have K:=h.size;clear i h)|(go_at_call 184;refine(agD S u m q R (aU y) (aU V) (aU D) hN).mono ?_;rintro e w2 ⟨g,rfl,O,k,H⟩;have Ge:=(H.cell (by grind) λf=>f).trans c01;rw[aU X]at k;have M:=aW k;have U:=aW H;have A:=aW<|cL K O;clear k H O));go_wp2_with fail;go_at_call 251;refine(adY g a b t 305 _ aM aM ht<|aU M).mono ?_;rintro e w3 ⟨rfl,l⟩;have z:=aW<|l.heap (aU M) λf=>f;have C:=aW l;clear l;go_wp2;go_ret2;exact⟨g,aS,aU A,aU z,((aU B).trans (aU U) λ_ _ f=>f).trans (aU C) λ_ _ f=>f⟩
def JD(S:Nat->Prop)(w:ah)(h i d g f b e a:Nat)(c:ByteArray)(m:DM):Prop:=∃(D J:Nat->Prop) (j:ai),(∀k,D k->S k)/\(∀k,J k->S k)/\(∀k,D k->¬J k)/\gG D w i m/\nM w h i d g f b e a j/\J h/\eI (λk=>J k/\k≠h) w j c
def JD.mono{p o e i g b f a:Nat}{m:DM}(h:JD S w p o e i g b f a c m)(n:∀k,k<w.heap.size->S k->T k):JD T w p o e i g b f a c m:=by have⟨D,J,y,r,s,t,u,j,v,x⟩:=h;refine⟨λk=>D k/\k<w.heap.size,λk=>J k/\k<w.heap.size,y,λk h=>n k h.2<|r k h.1,λk h=>n k h.2<|s k h.1,λk h q=>t k h.1 q.1,eP.mono u λk l d=>⟨d,l⟩,j,⟨v,j.lt⟩,x.mono λk l d=>⟨⟨d.1,l⟩,d.2⟩⟩
def JD.aT{j t e i g b f a:Nat}{m:DM}(h:JD S w j t e i g b f a c m)(p:aV T w w')(o:∀k,k<w.heap.size->S k->¬T k):JD S w' j t e i g b f a c m:=by have⟨D,J,y,q,n,u,v,r,s,x⟩:=h;exact⟨D,J,y,q,n,u,eP.aT v p λk l d=>o k l<|q k d,r.aT p<|o j r.lt<|n j s,s,x.aT p λk l d=>o k l<|n k d.1⟩
def JD.at{n l e i g b f a:Nat}{m:DM}(h:JD S w n l e i g b f a c m):∃j,nM w n l e i g b f a j/\eI S w j c:=by have⟨D,J,j,r,o,s,t,p,u,q⟩:=h;exact⟨j,p,q.mono λk _ d=>o k d.1⟩
def JD.ac8{o j e i g b f a:Nat}{m:DM}(h:JD S w o j e i g b f a c m):gG S w j m:=by have⟨D,J,u,l,p,q,n,r,s,t⟩:=h;exact eP.mono n λk _ d=>l k d
def JD.own{e n d i g b f a:Nat}{m:DM}(h:JD S w e n d i g b f a c m):S e/\e<w.heap.size:=by have⟨D,J,s,o,j,p,q,k,l,r⟩:=h;exact⟨j e l,k.lt⟩
def JD.ai1{f s c n i j g a:Nat}{b:ByteArray}{m:DM}(h:JD S w f s c n i j g a b m)(x:Nat):JD S (w.setCell ⟨f,4,af⟩<|.int ae (x:Int)) f s c n i x g a b m:=by have⟨D,J,A,t,u,o,v,y,q,z⟩:=h;have r:aV (λk=>k=f) w (w.setCell ⟨f,4,af⟩<|.int ae (x:Int)):=(aV.refl (λk=>k=f) w).setCell (p:=⟨f,4,af⟩) (.inl aS) _;exact⟨D,J,A,t,u,o,eP.aT v r λk l d e=>o k d (by rw[e];exact q),dE y _,q,z.aT r λk l d e=>d.2 e⟩
def JD.aq2{g s f j i b n a:Nat}{m:DM}(h:JD S w g s f j i b n a c m)(x:Nat):JD S (w.setCell ⟨g,5,af⟩<|.int ae (x:Int)) g s f j i b x a c m:=by have⟨D,J,A,t,u,o,v,y,q,z⟩:=h;have r:aV (λk=>k=g) w (w.setCell ⟨g,5,af⟩<|.int ae (x:Int)):=(aV.refl (λk=>k=g) w).setCell (p:=⟨g,5,af⟩) (.inl aS) _;exact⟨D,J,A,t,u,o,eP.aT v r λk l d e=>o k d (by rw[e];exact q),dE y _,q,z.aT r λk l d e=>d.2 e⟩
def JD.auy{g s f j n b i a:Nat}{m:DM}(h:JD S w g s f j n b i a c m)(x:Nat):JD S (w.setCell ⟨g,3,af⟩<|.int ae (x:Int)) g s f j x b i a c m:=by have⟨D,J,A,t,u,o,v,y,q,z⟩:=h;have r:aV (λk=>k=g) w (w.setCell ⟨g,3,af⟩<|.int ae (x:Int)):=(aV.refl (λk=>k=g) w).setCell (p:=⟨g,3,af⟩) (.inl aS) _;exact⟨D,J,A,t,u,o,eP.aT v r λk l d e=>o k d (by rw[e];exact q),dE y _,q,z.aT r λk l d e=>d.2 e⟩
theorem JD.aqN{w j:ah}{g x i s q c n a:Nat}{r b:ByteArray}{m:DM}(h:JD S w g x i s q c n a r m)(o:aV (λ_=>False) w j)(C:eI (λk=>w.heap.size<=k) j v b):JD (λk=>S k\/w.heap.size<=k) (j.setCell ⟨g,7,af⟩ v) g x i s q c n a b m:=by have⟨D,J,H,y,E,z,A,t,B,F⟩:=h;have G:=t.lt;have u:aV (λk=>k=g) j (j.setCell ⟨g,7,af⟩ v):=(aV.refl (λk=>k=g) j).setCell (p:=⟨g,7,af⟩) (.inl aS) _;refine⟨λk=>D k/\k<w.heap.size,λk=>k=g\/w.heap.size<=k,v,λk d=>.inl<|y k d.1,?_,?_,?_,dE (t.aT o λf=>f) _,.inl aS,?_⟩;{simp_all};grind;exact eP.aT (eP.mono A λk l d=>⟨d,l⟩) ((o.mono λ_ _ f=>f.elim).trans u λ_ _ e=>e) λk l d e=>z k d.1 (by rw[e];exact B);exact(C.aT u λk l d e=>aM).mono λk l d=>⟨.inr d,aM⟩
def ahG(S:Nat->Prop)(p o f j i a l b:Nat)(c:ByteArray)(m:DM)(w:ah)(R:JD S w p o f j i a l b c m)(B:m.ok)(T:m.bE.length*72<=140737488355328)(X:m.fI<9223372036854775807)(hn:1<=a)(V:a<9223372036854775807):aj prog 259 #[.pointer (aa ⟨p,0,af⟩)] w λe C=>e=.returned (.tuple #[])/\JD S C p o f j i a (a-1) b c m.sync/\aV S w C:=by have⟨D,J,Y,v,x,t,y,u,z,A⟩:=R;have⟨c0,_⟩:=u.cells;rename_i W;clear W;have H:=aW B;have F:=aW u;have r:=aW y;have E:=aW A;have q:=aW z;clear B u y A z;go_enter func259,ntmps259;go_wp2_with fail;go_at_call 195;refine(aAl D o m w (aU r) (aU H) T X).mono ?_;rintro e Z ⟨rfl,n,h⟩;have g:=(aU F).aT h λd=>t _ d<|aU q;have⟨I,K,L,M,N,O,P,Q⟩:=g.cells;have U:=g.frozen 5;have s:Hid (JD S Z p o f j i a l b c m.sync):=aW ⟨D,J,Y,v,x,t,n,g,aU q,(aU E).aT h λk _ d e=>t k e d.1⟩;have G:=aW<|h.mono λk _ d=>v k d;clear g n h;go_wp2;go_end0;refine⟨aS,?_,(aU G).setCell (.inl<|x _<|aU q) _⟩;have e:(a:Int)-1=((a-1:Nat):Int):=aM;rw[e];exact(aU s).aq2 (a-1)
theorem abn(S:Nat->Prop)(o y i q c g s a:Nat)(b:ByteArray)(m:DM)(w:ah)(hJ:JD S w o y i q c g s a b m)(hm:m.ok)(hN:(m.bE.length+1)*72<=140737488355328)(hy:m.fI<9223372036854775807)(hn:1<=g)(Q:g<9223372036854775807)(h2d:2<=m.bF.length)(lX:c<4611686018427387904)(E_:a<4611686018427387904)(x:b.size<=40):aj prog 262 #[.pointer (aa ⟨o,0,af⟩)] w λe z=>e=.returned (.tuple #[])/\JD (λk=>S k\/w.heap.size<=k) z o y i q c g (g-1) a b ((m.put 1<|dS c a b).sync)/\aV S w z:=by have⟨D,J,U,h1,h2,h3,h4,G,h6,h7⟩:=hJ;have⟨c0,c1,c2,c3,c4,c5,c6,c7⟩:=G.cells;have R:=G.lt;have Y:=aW hm;have HH:=aW G;have L:=aW (eP.mono (T:=λk=>D k/\k<w.heap.size) h4 λk l d=>⟨d,l⟩:gG (λk=>D k/\k<w.heap.size) w y m);have I:=aW h7;have W:=aW h6;have r:(dS c a b).size=64:=ul _ _ _ aM;have Z:=aW r;clear hm G h4 h7 h6 r;go_enter func262,ntmps262;go_wp2;go_region_held3(λz=>z.cell? ⟨o,0,af⟩=aa (.pointer<|aa ⟨y,0,af⟩)/\z.cell? ⟨o,3,af⟩=aa (.int ae (c:Int))/\z.cell? ⟨o,6,af⟩=aa (.int ae (a:Int))/\z.cell? ⟨o,7,af⟩=aa U) (first|exact⟨c0,c3,c6,c7⟩|grind|grind) (first|(go_at_call 258;refine(NC (λk=>J k/\k≠o) c a U b w.drew aM aM x<|aU I).mono ?_;rintro e V ⟨rfl,H,v⟩;have n:aV (λ_=>False) w V:=⟨v.os,v.tape,v.output,v.size,v.block⟩;have X:=aW H;have B:=aW n;have A:=aW<|(aU HH).aT n λf=>f;have⟨d0,d1,d2,d3,d4,d5,d6,d7⟩:=(aU A).cells;have K:=aW<|eP.aT (aU L) n λ_ _ _ f=>f;have HB1:=aW<|(aU I).aT n λ_ _ _ f=>f;have hs1:=n.size;clear H v n)|(go_at_call 190;refine(JF (λk=>D k/\k<w.heap.size) y m 1 w.heap.size 64 (dS c a b) V (aU K) (aU Y) aM (aU Z) hN (by have H:=aU X;intro j u hj;rw[uf];exact(bf H).trans (by simpa using hj)) (bU<|aU X) (λh=>aM) aM).mono ?_;rintro e w2 ⟨rfl,C,p⟩;have t:=(aU A).aT p λd=>h3 _ d.1<|aU W;have⟨e0,e1,e2,e3,e4,e5,e6,e7⟩:=t.cells;have N:Hid (JD (λk=>S k\/w.heap.size<=k) w2 o y i q c g s a b<|m.put 1<|dS c a b):=aW ⟨λk=>(D k/\k<w.heap.size)\/V.heap.size<=k,λk=>J k/\k<w.heap.size,U,(λk d=>by grind),(λk d=>.inl<|h2 k d.1),(λk d d'=>by grind),C,t,⟨aU W,R⟩,((aU I).mono λk l d=>⟨⟨d.1,l⟩,d.2⟩).aT ((aU B).mono (T:=λk=>D k/\k<w.heap.size) (λ_ _ f=>f.elim) |>.trans p (λ_ _ d=>d)) λk _ d d'=>h3 k d'.1 d.1.1⟩;have O:=aW<|((aU B).mono λ_ _ f=>f.elim).trans p λk _ d=>h1 k d.1;clear t C p));go_wp2_with fail;go_at_call 259;refine(ahG _ o y i q c g s a b _ w2 (aU N) (DM.zh (aU Y) aM<|aU Z) (by simpa[DM.put]using hN) (by simpa[DM.put]using hy) hn Q).mono ?_;rintro e w3 ⟨rfl,E,F⟩;have M:=aW E;have P:=aW F;clear E F;go_wp2;go_end0;refine⟨aS,aU M,(aU O).trans (aU P) λk v h=>?_⟩;grind
