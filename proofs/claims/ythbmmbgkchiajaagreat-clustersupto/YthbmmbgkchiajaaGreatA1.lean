import Derived.Test.YthbmmbgkchiajaaGreatProg
import GoSem.Claim
import GoSem.ClaimJoined
import GoSem.ClaimMapViews
import Derived.JoinedTies
import Derived.WalkKit
import Derived.WalkSpells
import Derived.Deep.RegionHeld3
import Derived.Deep.MidRow
import Derived.Deep.AppendLies
import Derived.Deep.DrawnRows
import Derived.Deep.QuietTactic
import Derived.BigQuiet
import Derived.KernelRfl
import Derived.Deep.WholeRow
import Derived.Deep.RegionLaw
import Derived.Laws.CopyRow
import Derived.Laws.IdiomCopy
import Derived.Deep.RegionWith
import Derived.Laws.BytesArg
import Derived.Laws.IdiomStrings
import Derived.Deep.LoopGhost
import Derived.WalkMore
import Derived.Test.YthbmmbgkchiajaaGreatA0
set_option maxRecDepth 100000
set_option maxHeartbeats 8000000
set_option linter.all false
open Go renaming World→Z,Calls→aG,TypeId→aR,Value→Q,Program→aX,madeCells→TA,convert→TN,zeroValue→TO,binOp→TY,typeInfo→Ub,Addr→U3,run_storeAt_new→WJ
open Go.Value renaming tuple→aU,pointer→aF,slice→aN,int→aD,agg→bf,ownBlock→S0,cells→Tp
open Go.Instr renaming buildSlice→bu,fill→SW,alloc→To,storeAt→Ts,loadAt→Tu,build→TL,arrayAt→UP
open List renaming replicate→bj,range→a_,getD→Uv
open Or renaming inr→aY,inl→aQ
open Go.Obj renaming cells→aJ
open Go.Ending renaming returned→br
open Array renaming replicate→ba,getElem?_modify→T4,range→WI
open Option renaming some→Y,none→H
open Bool renaming true→O,false→y
open _root_ renaming Nat→V,List→R,Int→S,Array→aC,Option→aO,trivial→aB,rfl→U,True→bh,False→aM,absurd→aS,Bool→aK,ByteArray→aV
open Go.Proofs.Tryz renaming prog→ay,underlying48→U4,underlying42→Vg,underlying305→Vj,underlying3→Vl,underlying25→Vo,underlying150→VA,underlying149→VF,underlying138→VG,sizeOf74→VM,sizeOf3→VQ,runUnderlying74→VV,results18→VX,ntmps77→VZ,isAgg93→V0,isAgg74→V1,isAgg71→V7,isAgg33→Wk,isAgg3→Wm,isAgg133→Wr,func79→Wz,func77→WA,func39→WG
open Go.IntKind renaming i64→A,i64→TK
open UInt8 renaming ofNat→SO
open Go.RowKit renaming intOf→TS
open Go.World renaming rangeAt_alloc→Uk,setCell→Ux,setRow→US,freeze→UT
open Int renaming toNat_of_nonneg→Um,emod_lt_of_pos→Ut
open Go.Builtin renaming append_→Uo,copy_→Uw
open Go.RowKit.Below renaming heap_alloc→UX
namespace Go.Proofs.YthbmmbgkchiajaaGreat
open Go.RowKit Tryz
variable{B b c f g i j k n o p:V}{C T:V->Prop}{F:aC Q}{P:aX}{W w w':Z}{e:aR}{l:R aV}{r:R Q}{s:aV}{v:Q}{x:V×aV}
theorem bz{p:Prop}(h:p:=by kernel_rfl):p:=h
def Ei:=@Wk
def SQ:=@VM
def JA:=@Go.step_append_lies
def SU:=@Vo
def mX:=@Go.info_parts
def p6:=@Go.IntKind.wrap_i64
def SX:=@Go.Lib.run_eql_slice_nil
def fo:=@Go.heap_alloc_new
def Nf:=@Go.Oper.upon_value
def qL:=@Go.Sem.run_bind
def GC:=@Go.World.news_of_block
def Ng:=@Go.Result.andThen_ok
def SZ:=@Go.Frame.finish_at
def Z4:=@Go.Oper.wp_mono
def S1:=@VQ
def Nh:=@Wz
def JC:=@WA
def Ni:=@WG
def Z5:=@Go.World.block_lt_of_cell?
def Z6:=@Go.Sem.runT_fst
def JE:=@Go.wpOps_cons
def ki:=@Wm
def Z9:=@Go.World.cells?_some
def JG:=@U4
def wF:=@Go.IntWalk.i64_in
def CM:=@Go.wp_mono
def wH:=@Vl
def Es:=@Go.World.ownsRow_nil
def Nq:=@VA
def Nt:=@V7
def JJ:=@Vg
def Ta:=@Go.run_loadAt_mid
def AZ:=@V1
def ue:=@UX
def ψ:=@Go.results_none
def Ny:=@VF
def CO:=@Go.DataW.trod_int
def Γ:=@VV
def GG:=@V0
def NC:=@Go.bodyPost_ret
def CQ:=@Wr
def CR:=@Go.Calls.quiet_of_same
def JL:=@Go.Addr.add_mid
def JO:=@Go.mem_ready
def nH:=@Go.run_underlying
def JP:=@VZ
def GJ:=@VG
def JV:=@Go.run_append_own_at
def Ψ:=@Go.Sem.run_pure
def qD:=@Vj
def qS:=@VX
def qU:=@Go.run_storeAt_mid
def _root_.Go.Calls.bE:=@Go.Calls.mono
instance:Coe Q Ending:=⟨.returned⟩
def cA{c d:Sort _}{a:c}{b:d}:a=a/\b=b:=⟨U,U⟩
def fB{d e f:Sort _}{a:d}{b:e}{c:f}:a=a/\b=b/\c=c:=⟨U,U,U⟩
def Gc{e f g h:Sort _}{a:e}{b:f}{c:g}{d:h}:a=a/\b=b/\c=c/\d=d:=⟨U,U,U,U⟩
def NI{f g h i j:Sort _}{a:f}{b:g}{c:h}{d:i}{e:j}:a=a/\b=b/\c=c/\d=d/\e=e:=⟨U,U,U,U,U⟩
def pA{b:Sort _}{a:b}:a=a/\bh:=⟨U,aB⟩
def rX{c d:Sort _}{a:c}{b:d}:a=a/\b=b/\bh:=⟨U,U,aB⟩
def iP{d e f:Sort _}{a:d}{b:e}{c:f}:a=a/\b=b/\c=c/\bh:=⟨U,U,U,aB⟩
def lX{e f g h:Sort _}{a:e}{b:f}{c:g}{d:h}:a=a/\b=b/\c=c/\d=d/\bh:=⟨U,U,U,U,aB⟩
def lx{f g h i j:Sort _}{a:f}{b:g}{c:h}{d:i}{e:j}:a=a/\b=b/\c=c/\d=d/\e=e/\bh:=⟨U,U,U,U,U,aB⟩
def CG{g h i j k l:Sort _}{a:g}{b:h}{c:i}{d:j}{e:k}{f:l}:a=a/\b=b/\c=c/\d=d/\e=e/\f=f/\bh:=⟨U,U,U,U,U,U,aB⟩
def rp2{c d:Sort _}{a:c}{b:d}{q:Prop}(h:q):a=a/\b=b/\q:=⟨U,U,h⟩
def bJ{p:Prop}(h:p):Hid p:=h
def bG{p:Prop}(h:Hid p):p:=h
structure bI(S:V->Prop)(w w':Z):Prop where
 os:w'.os=w.os
 tape:w'.tape=w.tape
 output:w'.output=w.output
 size:(w:V)<=(w':V)
 block:∀k,k<(w:V)->¬S k->w'.heap[k]?=w.heap[k]?
def bI.refl(S:V->Prop)(w):bI S w w:=⟨U,U,U,cC _,λ_ _ _=>U⟩
def bI.bE(h:bI C w W)(d:∀k,k<(w:V)->C k->T k):bI T w W:=⟨h.os,h.tape,h.output,h.size,λk a c=>h.block k a λb=>c<|d k a b⟩
def bI.bH{a b:Z}(h:bI C a b)(k:bI T b w)(e:∀i,i<(a:V)->T i->C i):bI C a w:=⟨k.os.bH h.os,k.tape.bH h.tape,k.output.bH h.output,eB h.size k.size,λi c d=>(k.block i (fI c h.size) λf=>d<|e i c f).bH<|h.block i c d⟩
def bI.drew(h:bI T w W):bI T w W.drew:=⟨h.os,h.tape,h.output,h.size,h.block⟩
def bI.drewN(h:bI T w W)(n):bI T w (W.drewN n):=by induction n with|zero=>exact h|succ n a=>exact a.drew
def bI.alloc(h:bI C w W)(o):bI C w (W.alloc o):=h.bH (T:=λ_=>aM) ⟨U,U,U,bB,λk a _=>ue _ _ _ a⟩ (λ_ _ h=>h.bM)
theorem bI.setCell(h:bI T w W){p:U3}(c:T p.block\/(w:V)<=p.block)(u):bI T w (W.setCell p u):=h.bH ⟨U,U,U,by simp[Ux],λk _ a=>Below.heap_setCell _ _ _ _ a⟩ (λi b e=>ab)
def bI.y9{a:Z}{c:aO V}(h:bI T w W)(b:W.grownBy a c)(j:∀k,c=Y k->k<w->T k):bI T w a:=h.bH ⟨b.os,b.tape,b.output,b.size,λk f g=>b.block k f λe=>g e.cD⟩ (λi d e=>j i e d)
def bI.cell(h:bI T w W){p:U3}(b:p.block<w)(a:¬T p.block):W.cell? p=w.cell? p:=World.cell?_of_block (h.block _ b a)
def dp{o:Obj}(h:w.heap[B]?=Y o):B<w:=(kT.1 h).1
def bI.heap(h:bI T w W){o:Obj}(a:w.heap[B]?=Y o)(b:¬T B):W.heap[B]?=Y o:=(h.block B (dp a) b).bH a
def Own(S:V->Prop)(w:Z)(e a:V)(v:Q)(n:V)(b:R Q):Prop:=w.ownsRow 0 e a v n b/\∀k,v.ownBlock=Y k->S k
def Own.bU{S T:V->Prop}(h:Own S w B p v j r)(i:bI T w w')(f:∀k,k<(w:V)->S k->¬T k):Own S w' B p v j r:=by refine⟨⟨h.1.1,?_⟩,h.2⟩;rcases h.1.2with l|⟨g,c,d,rfl,e,a,b⟩;exact aQ l;exact aY ⟨g,c,d,U,e,i.heap a<|f g (dp a)<|h.2 g U,b⟩
def Own.bE(h:Own C w B p v j r)(b:∀k,k<(w:V)->C k->T k):Own T w B p v j r:=⟨h.1,λk a=>b k ((h.1.lt k a).2)<|h.2 k a⟩
def Own.nil(S:V->Prop)(w)(e a:V):Own S w e a (aN H 0 0) 0 []:=⟨Es _ _ _ _,λk h=>by simp[S0]at h⟩
def jK{a:V×V}(h:w.heap[B]?=Y (aJ F e a))(u):(w.setCell (B,o) u).heap[B]?=Y (aJ (F.setIfInBounds o u) e a):=by simp[Ux,T4,h]
def bQ{a:V×V}(h:w.heap[B]?=Y (aJ F e a)):w.cell? (B,o)=F[o]?:=cell_of_row w B o F e a h
def ep(h:w.heap[B]?=Y (aJ F e (0,0))):w.frozen? (B,o)=y:=by simp[World.frozen?,h]
def Gh(w:Z)(a b:Obj):((w.alloc a).alloc b).heap[(w:V)+1]?=Y b:=by have:=fo (w.alloc a) b;simpa using this
def A7{a:Z}{b:aO V}(h:bI (λ_=>aM) w W)(c:W.grownBy a b):bI (λk=>b=Y k) w a:=(h.bE λ_ _ f=>f.bM).y9 c (λ_ e _=>e)
def bI.range(h:bI T w W)(d:w.rangeAt B p r)(a:B<w)(c:¬T B):W.rangeAt B p r:=λj v b=>(h.cell a c).bH<|d j v b
theorem Own.field{t d a:V}{q:R Q}(n:w.heap[p]?=Y (aJ F t (0,0)))(c:Own T w j b v i r)(l:¬T p)(o:bI (λk=>v.ownBlock=Y k) w W)(e:W.ownsRow 0 j b (d,g,f) g q)(m:v.ownBlock=Y d\/d=a)(u:w<=a):(W.setCell (p,B) (d,g,f)).heap[p]?=Y (aJ (F.setIfInBounds B (d,g,f)) t (0,0))/\Own (λk=>T k\/w<=k) (W.setCell (p,B) (d,g,f)) j b (d,g,f) g q/\bI (λk=>k=p\/T k) w (W.setCell (p,B) (d,g,f)):=by have:=dp n;(have:d≠p:=by rintro rfl;rcases m with h|h;exact l<|c.2 _ h;omega);refine⟨jK (o.heap n λj=>l<|c.2 p j) _,?_,?_⟩;refine Own.bU ⟨e,?_⟩ ((bI.refl (λk=>k=p) W).setCell (p:=(p,B)) (.inl U) _) ?_;intro k h;simp[S0,jM]at h;subst h;rcases m with h|h;exact aQ<|c.2 _ h;omega;grind;exact(o.bE λk _ j=>.inr<|c.2 k j).setCell (.inl<|.inl U) _
def Y4{a b:aK}(h:a=b):br (.bool a)=b:=by rw[h]
def P8{k:IntKind}{a b:S}(h:a=b):br (.int k a)=aD k b:=by rw[h]
def xk(c:S)(n:V):V:=((if c<0then-(c+1)else c)%(n:S)).toNat
def vO(c)(n:V)(e:0<n):xk c n<n:=by rw[xk];let a:=Z2 (if c<0then-(c+1)else c) (b:=(n:S)) X;let d:=Ut (if c<0then-(c+1)else c) (b:=(n:S)) X;omega
def vR(c:S)(n:V)(w:Z)(h:-9223372036854775808<=c)(i:c<=9223372036854775807)(j:0<n)(f:n<=9223372036854775807):aG ay 75 #[c,n] w λe g=>e=aD A (xk c n)/\g=w:=by by_cases d:c<0;{(have a:((xk c n:V):S)=(-(c+1))%(n:S):=by rw[xk];rw[bZ d,Um<|Z2 _ X]);have b:Hid (((xk c n:V):S)=(-(c+1))%(n:S)):=a;clear a;go_enter func75,ntmps75;go_wp2;go_ret;exact⟨P8 (by rw[b.out,<-Int.neg_tmod,Int.tmod_eq_emod_of_nonneg X]),U⟩};{(have a:((xk c n:V):S)=c%(n:S):=by rw[xk];rw[bO d,Um<|Z2 _ X]);have b:Hid (((xk c n:V):S)=c%(n:S)):=a;clear a;go_enter func75,ntmps75;go_wp2;go_ret;exact⟨P8 b.out.cD,U⟩}
theorem wb(p n a:V)(c:aO U3)(i:V)(w:Z)(f:w.cell? p=aN c n a)(g:i<n)(b:n<=9223372036854775807):aG ay 254 #[aF p,i] w λe d=>e=O/\d=w:=by go_enter func254,ntmps254;go_wp2;go_ret;simp_all
def uu(a:R S)(k:S):aK:=a.contains k
theorem axI(a:R S)(z k:S):uu (a++[z]) k=(uu a k||z==k):=by unfold uu;grind
theorem ayb(a)(k:S)(j:V)(h:uu (a.take j) k=O):uu a k=O:=by unfold uu at*;grind
def an4(b c f:V)(a:R S)(k:S)(w:Z)(B:a=c)(q:c<=1000)(d:c<=f)(p:∀j,j<(a:V)->w.cell? (b,j)=aD A (a.getD j 0)):aG ay 38 #[aN b c f,k] w λe v=>e=br (.bool<|uu a k)/\v=w:=by go_enter func38,ntmps38;go_wp2;go_loop[5] (λi=>∃j:V,j<=c/\i=aD A j/\uu (a.take j) k=y) (λi=>c-(TS i).toNat);(case atStart=>exact⟨0,dR _,U,U⟩);case round=>obtain⟨j,x,rfl,g⟩:=hrel;have n:Hid (uu (a.take j) k=y):=g;clear g;by_cases u:j<c;{have t:=p j X;(have r:a.take (j+1)=a.take j++[a.getD j 0]:=by rw[Eh X];simp[Uv,show j<(a:V)by omega]);(have o:Hid (uu (a.take (j+1)) k=(uu (a.take j) k||a.getD j 0==k)):=by rw[r];exact axI _ _ _);clear r p;generalize a.getD j 0=z at*;by_cases m:z=k;{(let l:(z==k)=O:=by simpa using m);let h:Hid ((z==k)=O):=l;clear d;subst m;go_wp2;go_ret;exact⟨Y4 (ayb a z (j+1) (by rw[o.out,h.out];simp)).cD,U⟩};{(let l:(z==k)=y:=by simpa using m);let h:Hid ((z==k)=y):=l;go_wp2;go_round;(case rel=>exact⟨j+1,X,by go_num,by rw[o.out,n.out,h.out];rfl⟩);case measure=>simp[TS];omega}};{let s:Hid (a.take j=a):=ui X;go_wp2;go_ret;exact⟨Y4 (by rw[<-s.out];exact n.out.cD),U⟩}
structure DM where
 cX:R aV
 eY:R (V×aV)
 jW:V
variable{m:DM}
structure DM.ok(m:DM):Prop where
 len:1<=(m.cX:V)/\(m.cX:V)<=128
 cX:∀s∈m.cX,s.size=64
 eY:∀x∈m.eY,x.1<m.cX/\x.2.size=64
def fg(s:aV):R Q:=s.data.toList.map λb=>aD .u8 (b.toNat:S)
def pS(l:R aV):R Q:=l.flatMap fg
def rD(x:V×aV):R Q:=aD A (x.1:S)::fg x.2
def FC(l:R (V×aV)):R Q:=l.flatMap rD
def tq(s:aV):(fg s)=s.size:=by simp[fg]
def Ko(s:aV):∀u∈fg s,u.oneCell'=O:=by intro u a;simp[fg,iO]at a;obtain⟨b,_,rfl⟩:=a;rfl
def we(x:V×aV):∀u∈rD x,u.oneCell'=O:=by intro u a;rcases ju.1 a with rfl|h;rfl;exact Ko _ u h
def SB(x:V×aV)(h:x.2.size=64):(rD x:V)=65:=by simp[rD,tq,h]
def kZ(S:V->Prop)(w:Z)(p t f j g l h:V)(c:R Q)(i:V)(d:R Q)(a:V):Prop:=∃b e,w.heap[p]?=aJ #[b,e,a] t/\S p/\Own (λk=>S k/\k≠p) w f j b h c/\Own (λk=>S k/\k≠p/\b.ownBlock≠Y k) w g l e i d
def kZ.bU{S T:V->Prop}{d:R Q}(h:kZ S w B p j b i k g r f d c)(m:bI T w w')(e:∀a,a<(w:V)->S a->¬T a):kZ S w' B p j b i k g r f d c:=by have⟨u,v,n,o,q,t⟩:=h;exact⟨u,v,m.heap n<|e B (dp n) o,o,q.bU m λa l s=>e a l s.1,t.bU m λa l s=>e a l s.1⟩
def kZ.bE{d:R Q}(h:kZ C w B p j b i k g r f d c)(e:∀a,a<(w:V)->C a->T a):kZ T w B p j b i k g r f d c:=by have⟨t,u,m,n,o,q⟩:=h;exact⟨t,u,m,e B (dp m) n,o.bE λa l s=>⟨e a l s.1,s.2⟩,q.bE λa l s=>⟨e a l s.1,s.2⟩⟩
def Own.dL(h:Own T w B p v j r):Own (λk=>T k/\v.ownBlock=Y k) w B p v j r:=⟨h.1,λk B=>⟨h.2 k B,B⟩⟩
def Own.lt(h:Own T w B p v j r)(a:v.ownBlock=b):b<w:=(h.1.lt b a).2
theorem kZ.append{K:V}{q:R Q}{d m a:V}{z:R Q}{x:Q}(t:w.heap[B]?=aJ #[v,x,c] p)(F:T B)(u:Own (λk=>T k/\k≠B) w j b v f r)(J:Own (λk=>T k/\k≠B/\v.ownBlock≠Y k) w i g x K q)(G:bI (λk=>x.ownBlock=Y k) w W)(l:W.ownsRow 0 i g (aN m n d) n z)(o:x.ownBlock=m\/m=a)(E:w<=a):kZ (λk=>T k\/w<=k) (W.setCell (B,1)<|aN m n d) B p j b i g f r n z c/\bI T w (W.setCell (B,1)<|aN m n d):=by obtain⟨C,D,s⟩:=Own.field t J (λh=>h.2.1 U) G l o E;let I:=dp t;refine⟨⟨v,aN m n d,C,aQ F,?_,?_⟩,?_⟩;{refine(u.dL.bU s λk _ h L=>?_).bE λk _ h=>⟨aQ h.1.1,h.1.2⟩;simp_all};{refine D.bE λk _ h=>?_;rcases h with h|h;{simp_all};exact⟨aY h,X,λe=>by have:=u.lt e;omega⟩};refine s.bE λk _ h=>?_;grind
def nT(S:V->Prop)(w:Z)(p:V)(m:DM):Prop:=kZ S w p 232 305 64 307 65 m.cX (pS m.cX) m.eY (FC m.eY) m.jW
theorem Ca{M:Type}(f:M->R Q)(c:V):∀(l:R M)(k j:V)(x:M),(∀b∈l,(f b)=c)->l[k]?=x->j<c->(l.flatMap f)[k*c+j]?=(f x)[j]?|[],k,j,x,_,h,_=>ax|a::l,0,j,x,d,h,g=>ab|a::l,k+1,j,x,d,h,g=>by rw[uh,qN ab,d a bB];(let e:(k+1)*c+j-c=k*c+j:=by rw[El];omega);rw[e];exact Ca f c l k j x (λb i=>d b (by simp[i])) ca g
theorem wi{M:Type}(f:M->R Q)(c:V)(l:R M)(h:∀b∈l,(f b)=c):(l.flatMap f:V)=l*c:=by induction l with|nil=>simp|cons a l d=>grind
theorem Own.open(h:Own T w B p v j r)(o:0<j):∃g b,v=(g,j,b)/\j<=b/\T g/\g<w/\(∀a u,r[a]?=Y u->w.cell? ⟨g,a,H⟩=Y u)/\(∀a,w.frozen? ⟨g,a,H⟩=y):=by have⟨⟨n,k⟩,e⟩:=h;rcases k with⟨_,l⟩|⟨g,b,d,rfl,_,c,f,_,i,q⟩;omega;refine⟨g,b,U,f,e g U,dp c,?_,λa=>ep c⟩;intro a u m;rw[bQ c];grind
def qy(l:R (V×aV))(i:V)(s:aV):aV:=l.foldl (λs x=>if x.1=i then x.2 else s) s
def anB(l:R (V×aV))(x:V×aV)(i:V)(s:aV):qy (l++[x]) i s=if x.1=i then x.2 else qy l i s:=by simp[qy]
def DM.read(m:DM)(i:V):aV:=qy m.eY i (m.cX.getD i ByteArray.empty)
def Dm:aV:=⟨(bj 64 (0:UInt8))⟩
def arf:Dm.size=64:=bA
def ap9:fg Dm=bj 64 (aD .u8 0):=by rw[fg,Dm];simp
def Dy(n:V):DM:=⟨bj n Dm,[],0⟩
def axC(n:V)(b:1<=n)(c:n<=128):(Dy n).ok:=by refine⟨by simp[Dy];omega,?_,by simp[Dy]⟩;intro s a;simp[Dy]at a;rw[a.2];exact arf
def avE(n:V):pS (bj n Dm)=bj (n*64) (aD .u8 0):=by induction n with|zero=>rfl|succ n a=>rw[q_,pS,uh];show fg Dm++pS (bj n Dm)=_;rw[a,ap9,rb];congr 1;omega
def OL(v)(k n:V)(a:0<k):(TA (ba k v) n).toList=bj n v:=by apply rr;simp[TA];intro i b c;have:i%k<k:=JU _ a;simp[TA,this]
def wv:(prog.info? 305).map (λi=>(i.zero,i.size,i.bytes))=Y (Y (bf<|ba 64<|.int .u8 0),64,64):=bz
def ard(n:V)(w:Z)(u:1<=n)(v:n<=128):aG ay 119 #[aD A n] w λe i=>∃p,e=aU #[(p,0),aD A 0]/\nT (λk=>w<=k) i p (Dy n)/\bI (λ_=>aM) w i:=by(let s:decide ((n:S)<1)=y:=af);(let t:decide ((128:S)<(n:S))=y:=af);have⟨r,o,d,f,g⟩:=mX wv;go_enter func119,ntmps119;go_wp2_with(at_make;go_must(refine wpList_make_full _ U (.tmp 10) (.tmp 10) 229 U 0 305 r (bf<|ba 64<|.int .u8 0) 64 underlying229 o d f A A _ _ n U U bC bC (by rw[g];omega) au (dR _) ?_;intro b a m));go_ret2;let c:bI () w b:=(bI.refl _ _).y9 m (λk h=>ae);let q:=(a.lt (w:V) U).2;refine⟨(b:V),U,⟨aN (w:V) n n,nx,?_,?_,?_,Own.nil _ _ _ _⟩,c.alloc _⟩;exact heap_alloc_last b _;show(w:V)<=(b:V);omega;refine Own.bU ⟨?_,?_⟩ ((bI.refl _ b).alloc _) λ_ _ _ h=>h;(let j:(Dy n).cX.length=n:=by simp[Dy]);(let l:pS (Dy n).cX=(TA (ba 64<|.int .u8 0) (n*64)).toList:=by rw[OL _ _ _ X];exact avE n);rw[j,l];exact a;intro k c;simp[S0]at c;exact⟨X,X⟩
def DM.put(m:DM)(i:V)(s:aV):DM:=⟨m.cX,m.eY++[(i,s)],m.jW⟩
def DM.EA(h:m.ok)(b:n<m.cX)(c:s.size=64):(m.put n s).ok:=by exists h.len,h.cX;intro x a;simp[DM.put,Gz,CI]at a;rcases a with a|rfl;exact h.eY x a;exact⟨b,c⟩
theorem Own.len{l:R Q}(h:Own T w n p v B l):∃b a,v=aN b B a/\B<=a:=by rcases h.1.2with d|⟨g,a,c,rfl,_,_,e,_⟩;{simp_all};grind
theorem Qy(b:V):∀(l:R Q)(k:V)(a:aC Q)(i:V),b+k+l<=a.size->((l.zipIdx k).foldl (λ(cs:aC Q) (x:Q×V)=>cs.setIfInBounds (b+x.2) x.1) a)[i]?=if b+k<=i/\i<b+k+l then l[i-(b+k)]?else a[i]?|[],k,a,i,_=>by have:¬(b+k<=i/\i<b+k+([]:R Q)):=bB;rw[bO this];rfl|x::l,k,a,i,h=>by simp[pB]at h;rw[ru,y_,Qy b l (k+1) _ i af];by_cases c:b+(k+1)<=i/\i<b+(k+1)+l;grind;rw[bO c];by_cases d:i=b+k;grind;grind
theorem ap'(c a:aC Q)(h:a.size=c.size):(c.zipIdx.foldl (λ(cs:aC Q) (x:Q×V)=>cs.setIfInBounds (0+x.2) x.1) a)=c:=by apply ze;intro i;rw[<-GD,Te,Qy 0 c.toList 0 a i af];simp_all
def wI(W:Z)(t e:aR)(i:TypeInfo)(z v:Q)(a:V)(l:P.underlying t=Y (.slice e))(j:P.info? e=Y i)(m:i.zero=z)(d:i.size=a)(n:z.cells.size=a)(o:0<a)(p:a<=16777216)(h:v.cells.size=a):(bu t 1 #[(0,v)]).run P W=.ok (aN W 1 1) (W.alloc<|aJ v.cells e):=by(have g:((WI (1*a)).map (z.cells[·%z.cells.size]!)).size=v.cells.size:=kx);let k:¬(1*a>2^24):=X;let b:¬(1*a=0):=X;(let f:SW (λi=>Y (i*a,a)) ((WI (1*a)).map (z.cells[·%z.cells.size]!)) [(0,v)]=v.cells:=by have:=ap' v.cells _ g;rw[SW];simp only[S6];rw[bO (by rw[g];simp[h])];rw[SW];rw[this]);simp[Nat.one_mul]at f k b;let c:¬(16777216<a):=X;simp[bu,nH l,Ub,j,sizeOf,TO,m,d,c,b,newRow,f]
def aAs(W:Z)(t e:aR)(i:TypeInfo)(z v:Q)(b:aC Q)(a:V)(k:P.underlying t=Y (.slice e))(j:P.info? e=i)(m:i.zero=z)(c:i.size=a)(d:z.cells.size=a)(f:0<a)(g:a<=16777216)(h:v.cells=b)(l:b.size=a):(bu t 1 #[(0,v)]).run P W=.ok (aN W 1 1) (W.alloc<|aJ b e):=by subst h;exact wI W t e i z v a k j m c d f g l
def wP(b:V->aO (V×V))(a)(i e d:V)(v)(f:R (V×Q))(h:b i=Y (e,d))(k:v.cells.size=d)(l:e+d<=a.size):SW b a ((i,v)::f)=SW b (v.cells.zipIdx.foldl (λcs (c,j)=>cs.setIfInBounds (e+j) c) a) f:=by let g:¬(a.size<e+d):=X;simp[SW,h,k,g]
theorem atM(z:aC Q)(x:Q)(b:R Q)(e:x.cells=#[x])(c:z.size=b+1):SW (#[(0,1),(1,(b:V))][·]?) z [(0,x),(1,bf b)]=Y (x::b):=by(have g:(x.cells.zipIdx.foldl (λ(b:aC Q) (a:Q×V)=>b.setIfInBounds (0+a.2) a.1) z)=z.setIfInBounds 0 x:=gx);rw[wP _ _ 0 0 1 x _ U gx X];rw[g,wP _ _ 1 1 b (bf b) _ U (by simp[Tp]) (by simp[c];omega)];simp only[Tp,SW];congr 1;apply ze;intro i;rw[<-GD,Te,Qy 1 b 0 _ i (by simp[c];omega)];by_cases h:1+0<=i/\i<1+0+b;rw[bZ h];obtain⟨d,rfl⟩:∃d,i=d+1:=⟨i-1,X⟩;simp;rw[bO h];by_cases f:i=0;subst f;simp[c];grind
def aDd(W:Z)(a:U3)(b:V):(UP 305 (a,64,b)).run ay W=.ok (a) W:=by simp[UP,nH qD]
def aoc:(prog.info? 305).map (·.size)=Y 64:=bz
def VB(x:Q):Sem Q:=Tu 305 x
def wQ(x:Q):Tu 305 x=VB x:=U
def Xt(W:Z)(b o)(a)(d:W.rangeAt b o a)(c:a.length=64):(VB<|aF<|Y (b,o)).run ay W=.ok (bf a.toArray) W:=Ta W b o 305 a _ d qD U (by rw[c];exact aoc)
def Q5:(prog.info? 307).map (λi=>(i.zero,i.size,i.bytes))=Y (Y (bf (ba 1 (aD A 0)++ba 64 (.int .u8 0))),65,72):=bz
def ayn:(prog.info? 3).map (·.size)=Y 1:=bz
def NJ:(prog.info? 305).map (·.size)=Y 64:=bz
def Jv(W:Z)(h:(P.info? B).map (·.size)=p):(sizeOf B).run P W=.ok p W:=by cases a:P.info? B with|none=>simp[a]at h|some i=>(have:i.size=p:=by simpa[a]using h);simp[sizeOf,Ub,a,this]
def yn(i:S)(a:R Q):aC Q:=(aD A i::a)
def ar6(i)(a:R Q):(yn i a).size=a+1:=by simp[yn]
def av3(W:Z)(i:S)(b:R Q)(d:(b:V)=64):(TL 307 #[(0,i),(1,bf b.toArray)]).run ay W=.ok (bf<|yn i b) W:=by have⟨k,f,c,h,j⟩:=mX Q5;have e:=atM (ba 1 (aD A 0)++ba 64 (.int .u8 0)) i b U ky;rw[d]at e;(let g:(TO 307).run ay W=.ok (bf (ba 1 (aD A 0)++ba 64 (.int .u8 0))) W:=by simp[TO,Ub,f,c]);rw[TL];simp only[qL,g,Ng,nH underlying307,Tp];simp[Jv _ ayn,Jv _ NJ];let a:=e;simp[Array.replicate_one,NE]at a;rw[a];rfl
section
theorem wR:(bf (ba 1 (aD A 0)++ba 64 (.int .u8 0))).cells.size=65:=by show(ba 1 (aD A 0)++ba 64 (aD .u8 0)).size=65;simp_all
def aym(W:Z)(i)(a)(b:a.length=64):(bu 230 1 #[(0,bf (yn i a))]).run ay W=.ok (aN (W:V) 1 1) (W.alloc<|aJ (yn i a) 307):=by have⟨h,c,d,e,g⟩:=mX Q5;(have f:(yn i a).size=65:=by rw[ar6,b]);generalize yn i a=a at*;exact aAs W 230 307 h _ (bf a) a 65 underlying230 c d e wR X X U f
def wW(a:aC (V×Q)):Sem Q:=TL 307 a
def aug(a:aC (V×Q)):TL 307 a=wW a:=U
def axp(W:Z)(i:S)(a:R Q)(b:(a:V)=64):(wW #[(0,i),(1,bf a.toArray)]).run ay W=.ok (bf<|yn i a) W:=av3 W i a b
def w8(a:aC (V×Q)):Sem Q:=bu 230 1 a
def azh(a:aC (V×Q)):bu 230 1 a=w8 a:=U
def ay'(W:Z)(i)(a)(b:a.length=64):(w8 #[(0,bf (yn i a))]).run ay W=.ok (aN (W:V) 1 1) (W.alloc<|aJ (yn i a) 307):=aym W i a b
attribute[local go_sem↓]aug azh wQ
attribute[local go_sem]axp ay'
def NP(i c b:V)(s:aV)(hD:nT T w B m)(hm:m.ok)(hi:i<m.cX)(P:s.size=64)(hN:((m.eY:V)+1)*72<=140737488355328)(N:w.rangeAt c 0 (fg s))(v:c<w)(u:¬T c)(F:64<=b):aG ay 190 #[aF B,i,aN c 64 b] w λe a=>e=aD A 0/\nT (λk=>T k\/w<=k) a B (m.put i s)/\bI T w a:=by have⟨vd,Q,h,hS,K,l⟩:=hD;obtain⟨R,S,rfl,J⟩:=K.len;let I:=bQ (o:=0) h;let q:=bQ (o:=1) h;simp at I q;let hn:=hm.len.2;(let p:(fg s:V)=64:=by rw[tq,P]);have⟨i0,x,C,D,E⟩:=mX Q5;let z:¬Q.ownBlock=B:=λe=>(l.2 _ e).2.1 U;let M:=dp h;have haa:=λW=>aDd W c b;go_enter func190,ntmps190;go_wp2_with(go_at_call 254;refine(wb B (m.cX:V) S R i _ I hi X).bE ?_;rintro e a ⟨rfl,rfl⟩);have kM:(VB<|aF c).run ay a.drew=.ok (bf (fg s).toArray) a.drew:=Xt _ c 0 _ (by simpa using N) p;go_region_law((refine JA _ bC _ _ _ bC 0 307 i0 _ 65 72 underlying230 x C D E wR X Q (m.eY:V) (FC m.eY) bC ((l.1.alloc _).drew) ⟨a.heap.size,0,H⟩ 1 1 (rD (i,s)) bC (by rw[SB _ P]) (GC (cs:=yn i<|fg s) (t:=307) (fr:=(0,0)) gf) (we _) X au X (dR _) (a.heap.size+1) bB ?_;intro gg G w1 g d n L;have f:=A7 ((bI.refl _ a).alloc _).drew d;let j:=f.heap h z;let r:=bQ (o:=1) j;let hf2:=ep (o:=1) j;simp at r;let hr2:=f.range N v λe=>u (l.2 _ e).1));all_goals go_wp2;go_ret;have⟨g1,g2⟩:=kZ.append h hS (K) l f g n X;refine⟨U,?_,g2⟩;rw[nT,DM.put,FC];rw[jN,Er,CV,Nr];exact g1
end

section
attribute[local go_sem↓]Go.wp_at_zero Go.wp_at_succ
def mz:aC Q:=ba 64 (.int .u8 0)
def Sh:(prog.info? 5).map (λi=>(i.zero,i.size,i.bytes))=Y (Y (.int .u8 0),1,1):=bz
def xa(W:Z):(Instr.makeSlice 138 (aD A 64)<|aD A 64).run ay W=.ok (aN W 64 64) (W.alloc<|aJ mz 5):=by have⟨f,d,a,b,c⟩:=mX Sh;have:=run_make W 138 5 f _ GJ d a A A 64 64 X X (by rw[c];omega) X;rw[this,b];(let e:TA (aD .u8 0).cells (Int.toNat 64*1)=mz:=by apply SS.1;show(TA (ba 1<|aD .u8 0) 64).toList=_;rw[OL _ 1 _ X];simp[mz]);rw[e];rfl
end
section
theorem Own.range(h:Own T w B p (aN i j b) j r){c:R Q}(u:∀a,a<(c:V)->r[k+a]?=c[a]?):w.rangeAt i k c:=by have⟨⟨t,m⟩,o⟩:=h;rcases m with⟨d,_⟩|⟨n,e,f,d,_,g,q,_,l,x⟩;cases d;cases d;intro a v s;rw[bQ g];grind
def aAA(h:Own T w 305 64 (aN B l p) l (pS l))(e:∀s∈l,s.size=64)(c:l[j]?=Y s):w.rangeAt B (j*64) (fg s):=h.range (λa d=>Ca fg 64 l j a s (λb f=>by rw[tq,e b f]) c (by rw[tq,e s<|gi c]at d;exact d))
theorem xb{l:R (V×aV)}(h:Own T w 307 65 (aN B l p) l (FC l))(f:∀x∈l,x.2.size=64)(e:l[j]?=Y x):w.cell? (B,j*65)=Y x.1/\w.rangeAt B (j*65+1) (fg x.2)/\w.rangeAt B (j*65) (rD x):=by have d:=h.range λa c=>Ca rD 65 l j a x (λb g=>SB b<|f b g) e (by rw[SB x<|f x<|gi e]at c;exact c);refine⟨d 0 _ U,?_,d⟩;intro a v c;have:=d (a+1) v (by simpa[rD]using c);grind
theorem amB(l:R (V×aV))(i:V)(s:aV)(k:V)(c:k<l)(n:∀(j:V)(x:V×aV),k<j->l[j]?=x->x.1≠i)(x:V×aV)(o:l[k]?=x)(m:x.1=i):qy l i s=x.2:=by(have e:l.take (k+1)=l.take k++[x]:=by rw[JK,o];rfl);(have f:∀(d:R (V×aV))(t:aV),(∀a∈d,a.1≠i)->qy d i t=t:=by intro d;induction d with|nil=>intro t _;rfl|cons a d r=>intro t h;show qy d i (if a.1=i then a.2 else t)=t;grind);(have g:qy l i s=qy (l.drop (k+1)) i (qy (l.take (k+1)) i s):=by have b:qy (l.take (k+1)++l.drop (k+1)) i s=qy (l.drop (k+1)) i (qy (l.take (k+1)) i s):=Nj;rw[<-((rG _ _).cD)]at b;exact b);rw[g,f _ _ (λa p=>by have⟨j,q⟩:=zf p;grind),e,anB,bZ m]
def av_(l:R (V×aV))(i:V)(s:aV)(b:∀(j:V)(x:V×aV),l[j]?=Y x->x.1≠i):qy l i s=s:=by induction l generalizing s with|nil=>rfl|cons a d e=>show qy d i (if a.1=i then a.2 else s)=s;rw[bO<|b 0 a bB,e s λj x c=>b (j+1) x al]
def Xl(h:aK)(x:Q):Sem Q:=To 305 h x
def azG(h:aK)(x:Q):To 305 h x=Xl h x:=U
def aqo:(prog.info? 305).map (λi=>(i.zero,i.size,i.bytes))=Y (Y (bf mz),64,64):=wv
def ayy(W:Z):(Xl O<|aU #[]).run ay W=.ok (aF W) (W.alloc<|aJ mz 305):=by have⟨e,b,a,c,d⟩:=mX aqo;simp[Xl,To,TO,Ub,b,a,newVar,newRow,Tp]
def xf(x v:Q):Sem Unit:=Ts 305 x v
def apY(x v:Q):Ts 305 x v=xf x v:=U
def YG(W:Z)(c a:aC Q)(e:c.size=64)(b:a.size=64)(d:a.all (·.oneCell')=O):(xf (aF W)<|bf a).run ay (W.alloc<|aJ c 305)=.ok () (W.alloc<|aJ a 305):=WJ W 305 c a (by rw[b];exact NJ) X d
attribute[local go_sem↓]wQ azG apY
attribute[local go_sem]ayy
def B_:mz.size=64:=by simp[mz]
def Us(s:aV):(fg s).toArray.all (·.oneCell')=O:=all_oneCell_toArray (Ko s)
def avN:f255.results=#[.cell 4 305]:=bz
theorem aAo{d:Func}{p:Tmp}(h:d.results=#[.cell p e])(b:aC Q)(P:aX)(w:Z):(results d b).run P w=((asAddr<|b.getD p undef).run P w).andThen λa c=>(loadVar e a).run P c:=by simp only[results,h];simp_all
def xi(a:aC Q)(W:Z)(c:aC Q)(b:c.size=64)(d:a.getD 4 undef=aF W):(results f255 a).run ay (W.alloc<|aJ c 305)=.ok (bf c) (W.alloc<|aJ c 305):=by rw[aAo avN,d];simp[asAddr,Ψ,Ng];exact run_loadVar_new W 305 c 64 _ qD (by rw[b];exact NJ)
def xl{b:aC Q}(h:F=b):br (bf F)=bf b:=by rw[h]
def awy(i:V)(hD:nT T w B m)(q:m.ok)(hi:i<m.cX)(hN:(m.eY:V)*72<=140737488355328):aG ay 255 #[aF B,i] w λe w'=>e=bf (fg<|m.read i)/\bI () w w':=by have⟨vd,vp,p,hS,K,t⟩:=hD;obtain⟨g,cap,rfl,qc,_,wU,_,_⟩:=K.open X;have hc:=bQ (o:=0) p;have J:=bQ (o:=1) p;simp at hc J;have hpl:=dp p;have Q:=t;obtain⟨ap,cp,rfl,hcp⟩:=t.len;(have u:∀(k:V)(x:V×aV),m.eY[k]?=Y x->∃d,ap=Y ⟨d,0,H⟩/\d<w/\w.cell? ⟨d,k*65,H⟩=aD A (x.1:S)/\w.rangeAt d (k*65+1) (fg x.2):=by intro k x C;have wJ:=(dV.1 C).1;have⟨d,cap',hv,_,_,f,_,_⟩:=t.open X;cases hv;have⟨q1,q2,_⟩:=xb t (λx h=>(q.eY x h).2) C;exact⟨d,U,f,q1,q2⟩);(have c:m.cX[i]?=m.cX.getD i ByteArray.empty:=by simp[Uv,hi]);have L:=aAA K (λs R=>q.cX s R) c;have z:(m.cX.getD i ByteArray.empty).size=64:=q.cX _<|gi c;have v:∀(k:V)(x:V×aV),m.eY[k]?=Y x->x.2.size=64:=λk x C=>(q.eY x<|gi C).2;have HP:=bJ v;have HC:=bJ u;have HD:=bJ c;have HM:=bJ z;have HR:Hid (m.read i=qy m.eY i (m.cX.getD i ByteArray.empty)):=U;clear v u c z t Q K p q HD;generalize m.cX.getD i ByteArray.empty=D at*;go_enter func255,ntmps255;go_wp2;go_loop[5] (λk=>∃j:V,j<=m.eY/\k=aD A ((j:S)-1)/\∀(l:V)(x:V×aV),j<=l->m.eY[l]?=Y x->x.1≠i) (λk=>(TS k+1).toNat);(case atStart=>exact⟨(m.eY:V),cC _,U,λl x b h=>aS (dV.1 h).1 X⟩);case round=>obtain⟨j,hj,rfl,r⟩:=hrel;have G:=bJ r;clear r;by_cases hlt:0<j;{obtain⟨k,rfl⟩:∃k,j=k+1:=⟨j-1,X⟩;obtain⟨x,h⟩:∃x,m.eY[k]?=Y x:=⟨_,eh X⟩;obtain⟨d,rfl,f,k0,k1⟩:=bG HC k x h;have I:=bJ h;clear h;have⟨E,F⟩:=x;simp only at k0 k1;have e1:((k+1:V):S)-1=(k:S):=X;rw[e1];clear e1;by_cases M:E=i;{(have p:((E:S)==(i:S))=O:=by simp[M]);have R:=bG HP k _<|bG I;(have b:(fg F:V)=64:=by rw[tq];exact R);have P:=Xt (w.alloc<|aJ mz 305) d (k*65+1) (fg F) (Uk k1 _) b;have W:=YG w mz (fg F).toArray B_ nh<|Us _;go_wp2;refine NC (xi _ w _ nh U) U ⟨xl ?_,(bI.refl _ _).alloc _⟩;rw[bG HR,amB m.eY i D k X (λl a b n=>bG G l a X n) (E,F) (bG I) M]};{(have p:((E:S)==(i:S))=y:=af);go_wp2;go_round;(case rel=>refine⟨k,X,by go_num,λl a b n=>?_⟩;by_cases e:l=k;subst e;rw[bG I]at n;cases n;exact M;exact bG G l a X n);case measure=>simp[TS]}};{have N:j=0:=X;subst N;(have b:(fg D:V)=64:=by rw[tq];exact bG HM);have P:=Xt (w.alloc<|aJ mz 305) g (i*64) _ (Uk L _) b;have W:=YG w mz (fg D).toArray B_ nh<|Us _;go_wp2;refine NC (xi _ w _ nh U) U ⟨xl ?_,(bI.refl _ _).alloc _⟩;rw[bG HR,av_ m.eY i D λl a n=>bG G l a (dR _) n]}
theorem auZ(l:R (V×aV))(i:V):∀s,s.size=64->(∀x∈l,x.2.size=64)->(qy l i s).size=64:=by induction l with|nil=>intro s h _;exact h|cons a d e=>intro s c b;show(qy d i (if a.1=i then a.2 else s)).size=64;grind
def DM.asr(b:m.ok)(c:B<m.cX):(m.read B).size=64:=by refine auZ _ _ _ ?_ λx d=>(b.eY x d).2;(have a:m.cX[B]?=m.cX.getD B ByteArray.empty:=by simp[Uv,c]);exact b.cX _<|gi a
theorem ane(i:V)(f:nT T w B m)(c:m.ok)(b:i<m.cX)(t:(m.eY:V)*72<=140737488355328):aG ay 184 #[aF B,aD A i] w λe d=>∃g,e=aU #[aN (Y (g,0)) 64 64,aD A 0]/\(w:V)<=g/\d.heap[g]?=aJ (fg<|m.read i).toArray 305 (0,0)/\bI () w d:=by have a:=f;have⟨D,E,h,z,l,v⟩:=f;obtain⟨r,s,rfl,k⟩:=l.len;have j:=bQ (o:=0) h;simp at j;have C:=c.len.2;(have u:(fg<|m.read i:V)=64:=by rw[tq];exact DM.asr c b);have q:=bJ a;clear a l v h;have x:=λW=>YG W mz (fg<|m.read i).toArray B_ (by simp[u])<|Us _;go_enter func184,ntmps184;go_wp2_with(first|(go_at_call 254;refine(wb B (m.cX:V) s r i _ j b X).bE ?_;rintro e d ⟨rfl,rfl⟩)|(go_at_call 255;refine(awy i (bG q) c b t).bE ?_;rintro e p ⟨rfl,n⟩));go_ret2;exact⟨p,U,n.size,heap_alloc_last p _,n.alloc _⟩
end
def GK{f:V×V}:∀(c:R Q)(o:V)(w:Z)(a:aC Q),w.heap[B]?=aJ a e f->o+c<=a.size->∃b,(w.setCells B o c).heap[B]?=aJ b e f/\b.size=a.size/\∀i:V,b[i]?=if o<=i/\i<o+c then c[i-o]?else a[i]?|[],o,w,a,h,_=>⟨a,h,U,λi=>by rw[bO bB]⟩|v::r,o,w,a,h,p=>by simp[pB]at p;have⟨b,j,k,l⟩:=GK r (o+1) (w.setCell (B,o) v) (a.setIfInBounds o v) (jK h v) af;refine⟨b,j,by simpa using k,λi=>?_⟩;rw[l i];by_cases g:o+1<=i/\i<o+1+r;rw[bZ g,bZ af];obtain⟨d,n⟩:∃d,i-o=d+1:=⟨i-o-1,X⟩;rw[n,JQ];congr 1;omega;rw[bO g];by_cases m:i=o;subst m;rw[bZ bB,ZY,Z7,Array.getElem?_setIfInBounds_self,bZ X];rw[bO af,sd X]
def FV(b:V):∀(a:R Q)(o:V)(w:Z),bI (λk=>k=b) w (w.setCells b o a)|[],_,w=>bI.refl _ w|v::r,o,w=>by exact((bI.refl (λk=>k=b) w).setCell (p:=(b,o)) (aQ U) v).bH (FV b r (o+1) _) λ_ _ h=>h
theorem Own.store{T:V->Prop}{w:Z}{B p j b i:V}{r g:R Q}(h:Own T w B p (aN i j b) j r)(o:V)(d:R Q)(L:(g:V)=r)(K:o+(d:V)<=r)(D:∀a:V,g[a]?=if o<=a/\a<o+d then d[a-o]?else r[a]?):Own T (w.setCells i o d) B p (aN i j b) j g:=by have⟨⟨J,z⟩,s⟩:=h;rcases z with⟨f,_⟩|⟨G,k,c,f,t,v,u,x,C,m⟩;cases f;cases f;(have:r<=c.size:=by rw[<-m];simp;omega);have⟨e,n,I,q⟩:=GK d o w c v X;refine⟨⟨X,aY ⟨i,b,e,U,t,n,u,x,X,?_⟩⟩,s⟩;apply qM;intro a;rw[D a,mZ,m6,q a];(let E:r[a]?=if a<j*p then c[a]?else H:=by rw[<-m,mZ,m6]);rw[E];by_cases l:o<=a/\a<o+d;grind;rw[bO l,bO l]
theorem an2(l:R aV)(i:V)(s:aV)(j:∀s∈l,s.size=64)(p:i<l)(k:s.size=64):(pS<|l.set i s:V)=(pS l)/\i*64+(fg s:V)<=(pS l)/\∀q:V,(pS<|l.set i s)[q]?=if i*64<=q/\q<i*64+(fg s)then(fg s)[q-i*64]?else(pS l)[q]?:=by(have b:∀t∈l.set i s,(fg t:V)=64:=by intro t f;rw[tq];rcases List.mem_or_eq_of_mem_set f with h|h;exact j t h;rw[h];exact k);(have c:∀t∈l,(fg t:V)=64:=λt f=>by rw[tq];exact j t f);(have m:(pS<|l.set i s:V)=(l:V)*64:=by unfold pS;rw[wi fg 64 _ b,pD]);have n:(pS l:V)=(l:V)*64:=wi fg 64 _ c;(have o:(fg s:V)=64:=by rw[tq,k]);refine⟨X,X,λq=>?_⟩;by_cases u:q<(l:V)*64;obtain⟨a,r,e,rfl⟩:∃a r,r<64/\q=a*64+r:=⟨q/64,q%64,JU _ X,X⟩;have g:a<(l:V):=X;by_cases d:a=i;subst d;rw[bZ X];have:=Ca fg 64 (l.set a s) a r s b (by simp[g]) e;rw[show pS (l.set a s)=(l.set a s).flatMap fg from U,this];congr 1;omega;rw[bO X];exact(Ca fg 64 (l.set i s) a r l[a] b ab e).bH (Ca fg 64 l a r l[a] c (eh g) e).cD;grind
def uU(l:R aV)(b:R (V×aV))(a:V->aK):V->R aV|0=>l|k+1=>match b[k]?with|Y x=>if a k then(uU l b a k).set x.1 x.2 else uU l b a k|H=>uU l b a k
theorem Jg(l:R aV)(b:R (V×aV))(a:V->aK)(k:V):(uU l b a k:V)=l:=by induction k with|zero=>rfl|succ k c=>rw[uU];grind
theorem ZJ(l)(b:R (V×aV))(a:V->aK)(c:∀s∈l,s.size=64)(d:∀x∈b,x.2.size=64)(k):∀s∈uU l b a k,s.size=64:=by induction k with|zero=>exact c|succ k e=>rw[uU];grind
def ap8{b:R (V×aV)}{a:V->aK}(d:b[B]?=x)(c:a B=O):uU l b a (B+1)=(uU l b a B).set x.1 x.2:=by rw[uU,d];simp[c]
def MS(n:V):R UInt8:=[SO n,SO (n/256),SO (n/65536),SO (n/16777216),SO (n/4294967296),SO (n/1099511627776),SO (n/281474976710656),SO (n/72057594037927936)]
def MP(a b:V)(t:R UInt8):R UInt8:=MS a++MS b++SO t::t++bj (47-t) 0
def kI(a b:V)(t:aV):aV:=⟨(MP a b t.data.toList)⟩
def aue(a b)(t):(kI a b t).data.toList=MP a b t.data.toList:=U
def C6(a b)(t)(h:t.size<=47):(kI a b t).size=64:=by show(MP a b t.data.toList).toArray.size=64;simp[NA,MP,MS,jN,pB,S_,se];omega
def DM.sync(m:DM):DM:=⟨uU m.cX m.eY (λ_=>O) m.eY,[],m.jW+1⟩
def DM.YA(a:m.ok):m.sync.ok:=⟨by simpa[DM.sync,Jg]using a.len,ZJ _ _ _ (λq b=>a.cX q b) (λx c=>(a.eY x c).2) _,by simp[DM.sync]⟩
def DM.al8(m:DM):(m.sync.cX:V)=m.cX:=Jg _ _ _ _
def DM.qh(m:DM)(a:R V)(s:aV):DM:=a.foldl (λm i=>m.put i s) m
def DM.awu(m:DM)(a:R V)(i:V)(s:aV):m.qh (a++[i]) s=(m.qh a s).put i s:=by simp[DM.qh]
def DM.Mv(s):∀(a:R V)(m:DM),(m.qh a s).cX=m.cX|[],_=>U|i::a,m=>(DM.Mv s a<|m.put i s).bH U
def DM.Yo(s):∀(a:R V)(m:DM),(m.qh a s).jW=m.jW|[],_=>U|i::a,m=>(DM.Yo s a<|m.put i s).bH U
def DM.TG(s):∀(a:R V)(m:DM),(m.qh a s).eY.length=m.eY+a|[],_=>U|i::a,m=>by show((m.put i s).qh a s).eY.length=_;rw[DM.TG s a<|m.put i s];simp[DM.put];omega
def DM.Px(c:s.size=64):∀(a:R V){m:DM},m.ok->(∀i∈a,i<m.cX)->(m.qh a s).ok|[],_,h,_=>h|i::a,m,h,b=>DM.Px c a (DM.EA h (b i bB) c) (λj d=>b j ky)
structure JM where
 bR:V
 bK:V
 L:R aV
 low:V
 eL:V
 dT:V
 eE:aV
def qG(a b n:V):V:=2+(n-1)%(a*b)
def Qc(a b n:V)(h:0<a*b):qG a b n<a*b+2:=by have:=JU (n-1) h;rw[qG];omega
def DC:aV:=⟨#[112,97,99,116,32,106,111,117,114,110,97,108]⟩
structure JM.ok(j:JM):Prop where
 bR:2<=j.bR/\j.bR<=6
 bK:2<=j.bK/\j.bK<=16
 low:1<=j.low/\j.low<=j.L+1
 win:j.L<=(j.low-1)/j.bK*j.bK+j.bR*j.bK
 eE:j.eE.size<=40
 vv:(j.L:V)<2305843009213693952/\j.dT<2305843009213693952
def JM.ok.span{j:JM}(h:j.ok):(j.L:V)+1<=j.low+j.bR*j.bK:=by let a:=Nc (j.low-1) j.bK;have:=h.win;let c:=h.low;omega
def JM.ok.pos{j:JM}(h:j.ok):4<=j.bR*j.bK/\j.bR*j.bK<=96:=⟨ug h.bR.1 h.bK.1,ug h.bR.2 h.bK.2⟩
structure vJ(j:JM)(m:DM):Prop where
 ok:j.ok
 eL:j.low<=j.eL+1/\j.eL<=j.L
 gh:j.bR*j.bK+2<=m.cX
 xo:(m.eY:V)=j.L-j.eL
def Y5{j:JM}(c:j.ok)(b:j.eL=j.L)(a:j.bR*j.bK+2<=m.cX):vJ j m.sync:=⟨c,by have:=c.low;omega,by rw[m.al8];exact a,by rw[b,ZY];rfl⟩
def vJ.atA{j:JM}(h:vJ j m):vJ {j with eL:=j.L} m.sync:=Y5 ⟨h.ok.bR,h.ok.bK,h.ok.low,h.ok.win,h.ok.eE,h.ok.vv⟩ U h.gh
theorem vJ.rS{j:JM}(h:vJ j m)(e:j.low<=B)(a:B<=j.L+1)(c:s.size<=40):vJ {j with low:=B,eE:=s,eL:=j.L} (m.put 1<|kI B j.dT s).sync:=by let f:(j.low-1)/j.bK*j.bK<=(B-1)/j.bK*j.bK:=rV _<|SP X;let d:=h.ok.win;let b:=h.ok.low;exact Y5 ⟨h.ok.bR,h.ok.bK,⟨by show 1<=B;omega,a⟩,ab,c,h.ok.vv⟩ U h.gh
def vJ.append{j:JM}(h:vJ j m)(a:j.L/j.bK<(j.low-1)/j.bK+j.bR)(c:(j.L:V)+1<2305843009213693952)(x)(b):vJ {j with L:=j.L++[s]} (m.put x b):=by let f:=h.eL;let d:=h.ok.low;let e:=h.ok.bK;have:=h.xo;exact⟨⟨h.ok.bR,h.ok.bK,⟨h.ok.low.1,af⟩,by simpa using(by rw[<-El];exact((Nat.div_lt_iff_lt_mul X).1 a)),h.ok.eE,⟨al,h.ok.vv.2⟩⟩,⟨h.eL.1,af⟩,h.gh,by simp[DM.put];omega⟩
def uo(c d b a:V):R V:=(a_ a).map λk=>qG c d (b+k)
def azr(b c a k:V):uo b c a (k+1)=uo b c a k++[qG b c (a+k)]:=by simp[uo,Ep]
def tJ:aV:=kI 0 0 ByteArray.empty
section
def J3:aC Q:=ba 1 (aD A 0)++ba 64 (.int .u8 0)
theorem ao5:J3.size=65:=by rw[J3];simp_all
def xv:(prog.info? 307).map (·.size)=Y 65:=bz
def xC(x:Q):Sem Q:=Tu 307 x
def aCa(x:Q):Tu 307 x=xC x:=U
def axO(W:Z)(b o)(a)(d:W.rangeAt b o a)(c:a.length=65):(xC<|aF<|Y (b,o)).run ay W=.ok (bf a.toArray) W:=Ta W b o 307 a _ d underlying307 U (by rw[c];exact xv)
def Zi(h:aK)(x:Q):Sem Q:=To 307 h x
def avm(h)(x:Q):To 307 h x=Zi h x:=U
def anr(W:Z):(Zi O<|aU #[]).run ay W=.ok (aF W) (W.alloc<|aJ J3 307):=by have⟨f,b,a,d,e⟩:=mX Q5;let c:f.zero=bf J3:=a;simp[Zi,To,TO,Ub,b,c,newVar,newRow,Tp]
def xD(x v:Q):Sem Unit:=Ts 307 x v
def amy(x v:Q):Ts 307 x v=xD x v:=U
def ao7(W:Z)(c a:aC Q)(e:c.size=65)(b:a.size=65)(d:a.all (·.oneCell')=O):(xD (aF W)<|bf a).run ay (W.alloc<|aJ c 307)=.ok () (W.alloc<|aJ a 307):=WJ W 307 c a (by rw[b];exact xv) X d
attribute[local go_sem↓]aCa avm amy
attribute[local go_sem]anr
def Oi(S:V->Prop)(w:Z)(p g a:V)(d:Q)(m:DM)(b:V->aK)(k:V)(c:Z):Prop:=c.heap[p]?=aJ #[aN g m.cX a,d,m.jW] 232/\Own (λk=>S k/\k≠p) c 305 64 (aN g m.cX a) m.cX (pS<|uU m.cX m.eY b k)/\Own (λk=>S k/\k≠p/\g≠k) c 307 65 d m.eY (FC m.eY)/\bI (λk=>k=g) w c
def E8(p g n a B:V)(x:V×aV)(w:Z):Prop:=w.cell? p=aN g n a/\w.cell? B=x.1/\w.rangeAt B 1 (fg x.2)/\w.there g (x.1*64) 64
theorem asw(z:w.heap[B]?=aJ #[aN p j b,v,i] 232)(C:Own T w 305 64 (aN p j b) j (pS l))(q:x.2.size=64)(F:x.1<l)(e:p≠B)(G:j=l)(n:∀s∈l,s.size=64):E8 B p j b w x (w.alloc<|aJ (rD x) 307):=by have g:=heap_alloc_last w<|aJ (rD x) 307;have m:bI () w (w.alloc<|aJ (rD x) 307):=(bI.refl _ _).alloc _;refine⟨(bQ (o:=0)<|m.heap z λh=>h),(bQ (o:=0) g),?_,?_⟩;intro a c t;rw[bQ g];simp[rD,NE];grind;intro a t;rcases(C.bU m λ_ _ _ h=>h).1.2with⟨d,_⟩|⟨D,f,r,d,_,k,E,_,u,I⟩;cases d;cases d;rw[ep k,bQ k];grind
def E8.drew(h:E8 B p j b i x w):E8 B p j b i x w.drew:=⟨h.1,h.2.1,(World.rangeAt_drew _ _ _ _).2 h.2.2.1,(World.there_drew _ _ _ _).2 h.2.2.2⟩
def E8.setCells(h:E8 B p j b i x w)(f:p≠B)(d:p≠i):E8 B p j b i x (w.setCells p k r):=by have a:=FV p r k w;let c:=Z5 w _ h.2.1;refine⟨(a.cell (Z5 w _ h.1) λe=>f e.cD).bH h.1,(a.cell c λe=>d e.cD).bH h.2.1,a.range h.2.2.1 c λe=>d e.cD,World.there_setCells h.2.2.2 _ _ _⟩
def amY(d:w.heap[p]?=aJ #[aN b j i,v,B] 232)(a:T p)(f:Own (λk=>T k/\k≠p) w 305 64 (aN b j i) j (pS l))(c:j=l):nT T ((w.setCell (p,1) nx).setCell (p,2)<|aD A ((B:S)+1)) p ⟨l,[],B+1⟩:=by subst c;refine⟨aN b l i,nx,?_,a,f.bU (((bI.refl (λk=>k=p) w).setCell (p:=(p,1)) (aQ U) _).setCell (p:=(p,2)) (aQ U) _) λk _ h e=>h.2 e,Own.nil _ _ _ _⟩;exact jK (jK d _) _
def aCj{a:V->aK}(h:Oi T w B p j v m a b W)(i:m.eY[b]?=Y x)(t:a b=O)(n:m.ok)(l:p≠B):Oi T w B p j v m a (b+1) ((W.alloc<|aJ (rD x) 307).drew.setCells p (x.1*64)<|fg x.2):=by have⟨z,C,D,E⟩:=h;have g:=n.eY x<|gi i;let d:bI () W (W.alloc<|aJ (rD x) 307).drew:=((bI.refl _ _).alloc _).drew;let c:=(d.bE λ_ _ f=>f.bM).bH (FV p (fg x.2) (x.1*64) (W.alloc<|aJ (rD x) 307).drew) λ_ _ e=>e;have⟨o,q,r⟩:=an2 (uU m.cX m.eY a b) x.1 x.2 (ZJ m.cX m.eY a (λs u=>n.cX s u) (λx i=>(n.eY x i).2) b) (by rw[Jg];exact g.1) g.2;refine⟨c.heap z λe=>l e.cD,?_,D.bU c λk _ h e=>h.2.2 e.cD,E.bH c λ_ _ e=>e⟩;rw[ap8 i t];exact(C.bU d λ_ _ _ h=>h).store (x.1*64) (fg x.2) o q r
theorem aCp(hD:nT T w B m)(L:m.ok)(hN:(m.eY:V)*72<=140737488355328)(hy:m.jW<9223372036854775807):aG ay 195 #[aF B] w λe n=>e=aU #[]/\nT T n B ⟨uU m.cX m.eY (λ_=>O) m.eY,[],m.jW+1⟩/\bI T w n:=by have⟨vd,vp,F,E,J,M⟩:=hD;have hn:=L.len;obtain⟨g,l,rfl,R,c,wU,_,_⟩:=J.open X;have I:=bQ (o:=1) F;simp at I;have u:Own (λk=>T k/\k≠B/\g≠k) w 307 65 vp m.eY (FC m.eY):=M.bE λk _ h=>⟨h.1,h.2.1,λe=>h.2.2 (by rw[<-e];rfl)⟩;have q:Oi T w B g l vp m (λ_=>O) 0 w:=⟨F,J,u,bI.refl _ _⟩;have⟨ap,cp,N,hcp⟩:=M.len;have C:=bJ q;have p:=bJ L;clear q L M u J F;subst N;go_enter func195,ntmps195;go_wp2;go_loopw[9] (λi wr=>∃j:V,j<=m.eY/\i=aD A j/\Oi T w B g l (aN ap m.eY cp) m (λ_=>O) j wr) (λi _=>m.eY-(TS i).toNat);(case atStart=>exact⟨0,dR _,U,bG C⟩);case round=>obtain⟨j,hj,rfl,D⟩:=hrel;by_cases hlt:j<m.eY;{obtain⟨x,f⟩:∃x,m.eY[j]?=Y x:=⟨_,eh X⟩;have HX:=bJ f;have HR:=bJ D;have⟨d,v,z,P⟩:=D;have b:=(bG p).eY x<|gi f;have⟨gp,Q,hv,_,aFq,VK,_,_⟩:=z.open X;cases hv;have⟨_,_,hr⟩:=xb z (λx f=>((bG p).eY x f).2) f;have a:=SB x b.2;have kM:=axO wr gp (j*65) _ hr a;have hst:=ao7 wr J3 (rD x).toArray ao5 (by simp[a])<|all_oneCell_toArray<|we x;have r:=asw d v b.2 (by rw[Jg];exact b.1) c.2 (Jg _ _ _ _).cD<|ZJ _ _ _ (λs hs=>(bG p).cX s hs) (λx f=>((bG p).eY x f).2) _;have hpB:=dp d;(have K:g≠wr.heap.size:=by have:=P.size;omega);have hu:=qD;(have G:(fg x.2:V)=64:=by rw[tq];exact b.2);(have aFV:(prog.info? 305).map (·.size)=Y (fg x.2:V):=by rw[G];exact NJ);have Jm:=Ko x.2;have jR:(0:S)<=(x.1:S):=wG _;(have oG:(x.1:S)<((m.cX:V):S):=by have:=b.1;omega);clear f d v z a hr;generalize hW:wr.alloc (aJ (rD x).toArray 307)=W at*;go_wp2;go_region_held3(λn=>n.cell? (B,0)=aN (Y (g,0)) (m.cX:V) l/\n.cell? (wr.heap.size,0)=aD A (x.1:S)/\n.rangeAt wr.heap.size 1 (fg x.2)/\n.there g (x.1*64) 64) (first|exact r.drew|exact r.drew.setCells c.2 K) (fail);go_wp2;go_roundw;(case rel=>subst hW;exact⟨j+1,X,by go_num,aCj (bG HR) (bG HX) U (bG p) c.2⟩);case measure=>simp[TS];omega};{have⟨d,v,z,P⟩:=D;let z1:=bQ (o:=1) d;let z2:=bQ (o:=2) d;let f1:=ep (o:=1) d;let f2:=ep (o:=2) d;simp at z1 z2;let t:j=(m.eY:V):=X;have HJ:=bJ t;clear t;go_wp2;go_end0;refine⟨U,?_,?_⟩;rw[bG HJ]at v;exact amY d E v (Jg _ _ _ _).cD;exact((P.bE (λk _ e=>by subst e;exact c.1)).setCell (aQ E) _).setCell (aQ E) _}
end
section
def orI(x a:Q):Sem Q:=TY .or 3 x a
def asI(x a:Q):TY .or 3 x a=orI x a:=U
def ax8(x a:Q):Sem Q:=TY .shl 3 x a
def anD(x a:Q):TY .shl 3 x a=ax8 x a:=U
def VJ(x a:Q):Sem Q:=TY .shr 3 x a
def xF(x a:Q):TY .shr 3 x a=VJ x a:=U
def apg(j:V):(2:V)^(8*j)=256^j:=by rw[Nat.pow_mul]
def Uz(W:Z)(n j:V)(c:j<8):(VJ n<|aD A (8*(j:S))).run ay W=.ok (n/256^j:V) W:=by(have e:min (8*(j:S)).toNat IntKind.i64.bits=8*j:=mu);unfold VJ TY Op.shift;simp only;rw[bO X,e];(let a:(n:S).fdiv (2^(8*j))=((n/256^j:V):S):=by(let b:(2:S)^(8*j)=((256^j:V):S):=by rw[<-apg,sf];rfl);rw[b,Int.fdiv_eq_ediv_of_nonneg _<|wG _];rfl);rw[a];rfl
attribute[local go_sem↓]asI anD xF
def ku(n i:V):Q:=.int .u8 ((n/256^i%256:V):S)
def toU8(x:Q):Sem Q:=TN 3 5 x
def toU8_eq(x:Q):TN 3 5 x=toU8 x:=U
def GZ(W:Z)(x:V):(toU8 x).run ay W=.ok (.int .u8 ((x%256:V):S)) W:=by unfold toU8;simp[go_sem,wH,underlying5];rw[IntKind.wrap_u8]
attribute[local go_sem↓]toU8_eq
def zF(b o n:V)(c:aC Q)(t:aR)(w:Z)(j:V)(d:Z):Prop:=∃a:aC Q,d.heap[b]?=aJ a t/\a.size=c.size/\(∀k,a[k]?=if o<=k/\k<o+j then Y (ku n (k-o))else c[k]?)/\bI (λk=>k=b) w d
theorem zF.step{B p j b:V}{F:aC Q}{e:aR}{w W:Z}(h:zF B p j F e w b W)(i:p+b<F.size):zF B p j F e w (b+1) (W.setCell (B,p+b)<|ku j b):=by have⟨a,c,d,g,f⟩:=h;refine⟨a.setIfInBounds (p+b)<|ku j b,jK c _,ky,λk=>?_,f.setCell (aQ U) _⟩;rw[uZ];grind
theorem xO(b o d l n:V)(f:aC Q)(t:aR)(w:Z)(F:n<9223372036854775808)(C:8<=d)(B:d<=64)(x:w.heap[b]?=aJ f t (0,0))(c:o+8<=f.size):aG ay 294 #[((b,o),d,l),aD A (n:S)] w λe L=>e=aU #[]/\zF b o n f t w 8 L:=by have E:Hid (zF b o n f t w 0 w):=bJ ⟨f,x,U,λk=>by rw[bO X],bI.refl _ _⟩;have g:=bJ c;clear x c;go_enter func294,ntmps294;go_wp2;go_loopw[5] (λi wr=>∃j:V,j<=8/\i=aD A j/\Hid (zF b o n f t w j wr)) (λi _=>8-(TS i).toNat);(case atStart=>grind);case round=>obtain⟨j,P,rfl,h⟩:=hrel;by_cases p:j<8;{have⟨m,q,I,J,K⟩:=bG h;let c:=bG g;have z:∃u,wr.cell? (b,o+j)=Y u:=⟨m[o+j]'X,by rw[bQ q];grind⟩;have⟨u,z⟩:=z;have N:=ep (o:=o+j) q;have G:=Uz wr n j p;have s:=GZ wr (n/256^j);obtain⟨v,r⟩:∃v,Hid (v=n/256^j%256):=⟨_,bJ U⟩;rw[<-bG r]at s;generalize n/256^j=a at G s;have M:(0:S)<=(j:S):=wG _;have D:(j:S)<(d:S):=X;clear q I J K c;go_wp2;go_roundw;(case rel=>refine⟨j+1,X,by go_num,bJ ?_⟩;(let e:aD .u8 (v:S)=ku n j:=by rw[bG r];rfl);rw[e];exact(bG h).step (by have:=bG g;omega));case measure=>simp[TS];omega};{go_wp2;go_end0;exists U;have:=bG h;rw[bG<|bJ (show j=8by omega)]at this;exact this}
def amH(n):(MS n).map (λb=>aD .u8 (b.toNat:S))=(a_ 8).map (ku n):=by simp only[MS,AV,S',(λx=>U),show a_ 8=[0,1,2,3,4,5,6,7]from U,ku];simp
def zF.sR(h:zF B p j F e w 8 W)(o:p+8<=F.size):W.heap[B]?=aJ (F.toList.take p++(a_ 8).map (ku j)++F.toList.drop (p+8)).toArray e/\bI (λk=>k=B) w W:=by have⟨c,f,n,g,i⟩:=h;refine⟨?_,i⟩;rw[f];congr 2;apply ze;intro k;have a:∀l:R Q,l.toArray[k]?=l[k]?:=λl=>bB;rw[g k,a (F.toList.take p++(a_ 8).map (ku j)++F.toList.drop (p+8))];(let b:(F.toList.take p)=p:=af);by_cases d:k<p;rw[bO X,CP,zh X,mZ,bZ d];simp;by_cases m:k<p+8;rw[bZ ⟨X,m⟩,CP,qN X,b,zh af,lQ,sk X];rfl;rw[bO X,CP,qN X,b,qN af,p_,List.length_range,List.getElem?_drop];simp[m6];congr 1;omega
end
section
def i6(S:V->Prop)(w:Z)(v:Q)(s:aV):Prop:=∃c b,v=aN c s.size b/\s.size<=b/\(c=H->s.size=0)/\∀a,c=Y a->∃g o,a=(g,o)/\(∃x t d,w.heap[g]?=aJ x t d)/\S g/\w.rangeAt g o (fg s)
def i6.bU{S T:V->Prop}(h:i6 S w v s)(j:bI T w w')(i:∀k,k<(w:V)->S k->¬T k):i6 S w' v s:=by have⟨l,b,p,q,r,u⟩:=h;refine⟨l,b,p,q,r,λa z=>?_⟩;have⟨g,o,e,⟨x,t,n,f⟩,d,m⟩:=u a z;have c:=dp f;exact⟨g,o,e,⟨x,t,n,j.heap f<|i g c d⟩,d,j.range m c<|i g c d⟩
theorem i6.bE(h:i6 C w v s)(j:∀k,k<(w:V)->C k->T k):i6 T w v s:=by have⟨c,b,d,e,f,g⟩:=h;refine⟨c,b,d,e,f,λa i=>?_⟩;grind
def i6.nil(S:V->Prop)(w:Z):i6 S w nx ByteArray.empty:=⟨H,0,U,cC _,λ_=>U,λa h=>ae⟩
def i6.row{f:V×V}(c:w.heap[B]?=aJ F e f)(g:T B)(l:s.size=n)(k:n<=p)(m:∀j,j<(fg s:V)->F[b+j]?=(fg s)[j]?):i6 T w (aN (Y (B,b)) n p) s:=by subst l;refine⟨Y (B,b),p,U,k,(λh=>ae),λa i=>?_⟩;cases i;refine⟨B,b,U,⟨_,_,_,c⟩,g,λj v d=>?_⟩;rw[bQ c,m j<|(dV.1 d).1];exact d
def Vy(a:aC Q):Sem Q:=Uw #[138,138] 3 a
def ayU(a:aC Q):Uw #[138,138] 3 a=Vy a:=U
def amX{a:aC Q}{b:V×V}(h:w.heap[B]?=aJ F e b):(w.setRow B a).heap[B]?=aJ a e b:=setRow_heap w B F a e b h
theorem bI.setRow(h:bI C w W)(d:C B\/w<=B)(a):bI C w (W.setRow B a):=h.bH (T:=λk=>k=B) ⟨U,U,U,by simp[US],λk _ b=>by simp[US,T4,js b]⟩ (λi c e=>ab)
theorem arh(W:Z)(g:V)(b)(t)(s:aV)(v:Q)(S:V->Prop)(w:i6 S W v s)(m:W.heap[g]?=aJ b t)(u:b.size=64)(F:s.size<=40):∃i,(Vy #[aN (Y (g,17)) 47 47,v]).run ay W=.ok s.size i/\Hid (i.heap[g]?=aJ (b.toList.take 17++fg s++b.toList.drop (17+s.size)).toArray t/\bI (λk=>k=g) W i):=by obtain⟨n,c,rfl,D,E,r⟩:=w;let p:=GJ;let f:(prog.info? 5).map (·.size)=Y 1:=bz;by_cases h:s.size=0;refine⟨W,?_,bJ ⟨?_,bI.refl _ _⟩⟩;have:=run_copy_none W 138 138 3 5 (Y (g,17)) n 47 47 s.size c p f (by rw[h];rfl);rw[Vy];rw[this,h];rfl;let e:=Z3.1 (by rw[tq];exact h);rw[e,h,JN,xM,rG];exact m;{cases n with|none=>simp_all|some a=>obtain⟨l,o,rfl,B,C,q⟩:=r a U;let z:=tq s;have:=run_copy_row (P:=ay) W 138 138 3 5 g 17 47 47 (l,o) s.size c b t (fg s) p f m ab (λj v x=>by(let d:((l,o):U3).add j=(l,o+j):=hZ);rw[d];exact q j v x) X<|Ko s;rw[z]at this;exact⟨_,this,bJ ⟨amX m,(bI.refl (λk=>k=g) W).setRow (aQ U) _⟩⟩}
theorem xX(a b)(t:aV)(c:t.size<=40):fg (kI a b t)=(a_ 8).map (ku a)++(a_ 8).map (ku b)++aD .u8 (t.size:S)::fg t++bj (47-t.size) (.int .u8 0):=by(have:((SO t.size).toNat:S)=(t.size:S):=by show((t.size%256:V):S)=_;omega);unfold fg;rw[aue];simp[MP,p7,amH,AV,List.map_replicate,Eu];simp_all
theorem aC5(a B T:R Q)(x z:Q)(g:(a:V)=8)(o:(B:V)=8)(n:V)(p:(T:V)=n)(q:n<=40)(c e d:aC Q)(k:c=((bj 64 z).take 0++a++(bj 64 z).drop (0+8)).toArray)(l:e=(c.toList.take 8++B++c.toList.drop (8+8)).toArray)(m:d=e.setIfInBounds 16 x):d.toList.take 17++T++d.toList.drop (17+n)=a++B++x::T++bj (47-n) z:=by(have h:c.toList=a++bj 56 z:=by rw[k];show List.take 0 _++a++_=_;rw[NF,AW,sE]);(have i:e.toList=a++B++bj 48 z:=by rw[l,h];rw[List.take_left' g,sK,Z8 X,g,AW,sE]);(let b:(a++B).length=16:=by rw[jN,g,o]);(let j:d.toList=a++B++x::bj 47 z:=by rw[m,sS,i,Td _ _ X,b,ZY,q_,List.set_cons_zero]);let f:17+n-16=n+1:=X;rw[j,List.take_append,sK,b,ui X,Z8 X,f,sT,sE,AW];simp_all
def zF.out(h:zF B p j F e w 8 W)(g:p+8<=F.size):∃a:aC Q,Hid (a=(F.toList.take p++(a_ 8).map (ku j)++F.toList.drop (p+8)).toArray)/\Hid (a.size=F.size)/\Hid (W.heap[B]?=aJ a e)/\Hid (bI (λk=>k=B) w W):=by have⟨b,f⟩:=h.sR g;have⟨a,c,d,_,_⟩:=h;rw[c]at b;simp only[jM,Obj.cells.injEq]at b;exact⟨a,bJ b.1,bJ d,bJ c,bJ f⟩
attribute[local go_sem↓]ayU
theorem Xg(c:V->Prop)(a b:V)(v:Q)(t:aV)(w:Z)(W:a<9223372036854775808)(hb:b<9223372036854775808)(F:t.size<=40)(M:i6 c w v t):aG ay 258 #[aD A (a:S),aD A (b:S),v] w λe N=>e=aN (w:V) 64 64/\N.heap[(w:V)]?=aJ (fg<|kI a b t).toArray 5 (0,0)/\bI (λ_=>aM) w N:=by have⟨ao,R,G,K,_⟩:=M;subst G;rename_i hx;clear hx;let r8:=xa;let n:bI () w (w.alloc<|aJ mz 5):=(bI.refl _ _).alloc _;have P:=bJ n;clear n;go_enter func258,ntmps258;go_wp2_with fail;go_at_call 294;refine(xO (w:V) 0 64 64 a mz 5 _ W X X (bG<|bJ<|heap_alloc_last w<|aJ mz 5) (by rw[B_];omega)).bE ?_;rintro e w2 ⟨rfl,l⟩;have⟨J,q,d,s,x⟩:=l.out (by rw[B_];omega);clear l;go_wp2_with fail;go_at_call 294;refine(xO (w:V) 8 56 56 b J 5 _ hb X X (bG s) (by rw[bG d,B_];omega)).bE ?_;rintro e I ⟨rfl,m⟩;have⟨D,r,j,h,z⟩:=m.out (by rw[bG d,B_];omega);clear m;let g:∃u,I.cell? ((w:V),16)=Y u:=⟨D[16]'(by rw[bG j,bG d,B_];omega),by rw[bQ<|bG h];simp_all⟩;have⟨u16,g⟩:=g;let L:=ep (o:=16)<|bG h;let i:bI (λk=>k=(w:V)) w (I.setCell ((w:V),16)<|.int .u8 (t.size:S)):=((((bG P).bE (T:=λk=>k=(w:V)) λ_ _ f=>f.bM).bH (bG x) λ_ _ e=>e).bH (bG z) λ_ _ e=>e).setCell (p:=((w:V),16)) (aQ U) _;have⟨w4,E,C⟩:=arh (I.setCell ((w:V),16)<|.int .u8 (t.size:S)) (w:V) (D.setIfInBounds 16<|.int .u8 (t.size:S)) 5 t _ c ((bG<|bJ M).bU i λk hk _ e=>X) (jK (bG h) _) (by rw[Array.size_setIfInBounds,bG j,bG d];exact B_)<|bG<|bJ F;have B:=bJ i;clear i;go_wp2;go_ret;have⟨q1,q2⟩:=bG C;refine⟨U,?_,?_⟩;{rw[q1,xX a b t F];have:=aC5 ((a_ 8).map<|ku a) ((a_ 8).map<|ku b) (fg t) (.int .u8 (t.size:S)) (.int .u8 0) bB bB t.size (tq t) F J D _ (by rw[bG q,show mz.toList=bj 64 (.int .u8 0)from by rw[mz];simp_all]) (bG r) U;rw[this]};refine((bG B).bH q2 λ_ _ e=>e).bE λk hk e=>?_;omega
end
section
def ayX(W:Z)(a)(n c):(TY .eql 138 (aN a n c) nx).run ay W=.ok (.bool a.isNone) W:=SX W 138 5 a n c 0 0 GJ
def aDj(x:Q):Sem Q:=TN 138 9 x
def ap_(x:Q):TN 138 9 x=aDj x:=U
def x7(a:aC Q):Sem Q:=Uo #[138,138] 138 a
def Oz(a:aC Q):Uo #[138,138] 138 a=x7 a:=U
def X1:Sem Q:=bu 138 0 #[]
def aAg:bu 138 0 #[]=X1:=U
theorem arW(W:Z):X1.run ay W=.ok (aN W 0 0) (W.alloc<|aJ #[] 5):=by rw[X1,bu];simp[nH GJ,(λa=>Jv a bz),newRow,SW];grind
theorem aAe(S:V->Prop)(W:Z)(w:U3)(a:V)(s:aV)(h:i6 S W (w,s.size,a) s)(hs:s.size<=40):∃m b,(x7 #[aN W 0 0,(w,s.size,a)]).run ay (W.alloc<|aJ #[] 5)=.ok m b/\Hid (i6 (λk=>W<=k) b m s/\bI () W b):=by have⟨L,q,r,t,v⟩:=mX Sh;let d:bI () W (W.alloc<|aJ #[] 5):=(bI.refl _ _).alloc _;have⟨D,x,K,h2,h3,G⟩:=h.bU d λ_ _ _ f=>f;cases K;obtain⟨g,o,rfl,R,T,F⟩:=G _ U;have⟨m,b,M,N,P,_,i⟩:=JV (W.alloc<|aJ #[] 5) 0 138 138 5 L _ 1 1 GJ q r t v U X (aN W 0 0) 0 [] (⟨U,aY ⟨W,0,#[],U,dR _,heap_alloc_last W _,cC _,dR _,cA⟩⟩) (g,o) s.size a (fg s) (by rw[tq];omega) (λj u B=>by(let c:((g,o):U3).add j=(g,o+j):=hZ);rw[c];exact F j u B) (Ko s) bw X<|dR _;refine⟨m,b,M,bJ ⟨?_,?_⟩⟩;rcases N.2with⟨rfl,h0⟩|⟨z,Q,E,rfl,_,p,n,_,I,J⟩;grind;refine i6.row p ?_ X n λj B=>?_;(have:z=W\/z=W+1:=by rcases i with i|i;exact aQ (by simpa[S0]using i);exact aY (by simpa[S0]using i));omega;have:=eH (λl=>l[j]?) J;simp[AW,Φ]at this;rw[mZ,bZ ab]at this;rw[i9,<-this];simp;exact(d.bE λ_ _ f=>f.bM).y9 P (λk C _=>by simpa[S0]using C.cD) |>.bE (λk C e=>X)
def Lp(x a:Q):Sem Q:=TY .mul 3 x a
def FJ(x a:Q):TY .mul 3 x a=Lp x a:=U
def B4(W:Z)(a b:V)(h:a*b<=9223372036854775807):(Lp a b).run ay W=.ok (a*b:V) W:=by rw[Lp];have e:(a:S)*(b:S)=((a*b:V):S):=U;simp only[binOp_mul,Op.intArith];rw[e,wF _ ⟨X,X⟩];rfl
attribute[local go_sem↓]Oz aAg ap_ FJ
attribute[local go_sem]arW
def azz(S:V->Prop)(v)(s)(w:Z)(h:i6 S w v s)(p:s.size<=40):aG ay 261 #[v] w λe m=>∃f,e=br f/\i6 (λk=>w<=k) m f s/\bI () w m:=by let n:=h;obtain⟨i,b,rfl,r,d,j⟩:=n;let l:=λW=>ayX W i s.size b;cases i with|none=>have c:=bJ<|d U;clear d j h;go_enter func261,ntmps261;go_wp2;go_ret;exact⟨aN H 0 0,U,⟨H,0,by rw[bG c],by rw[bG c];omega,λ_=>bG c,λa o=>by cases o⟩,bI.refl _ _⟩|some a=>have⟨f,q,t,g⟩:=aAe S w a b s h p;clear d j h;go_enter func261,ntmps261;go_wp2;go_ret;exact⟨_,U,(bG g).1,(bG g).2⟩
theorem Qq(c a n:V)(w:Z)(h:w.cell? (c,2)=a)(l:1<=a)(f:a<=16)(j:1<=n)(d:n<9223372036854775807):aG ay 256 #[aF c,n] w λe g=>e=((n-1)/a:V)/\g=w:=by obtain⟨k,rfl⟩:∃k,n=k+1:=⟨n-1,X⟩;obtain⟨q,b⟩:∃q:V,Hid (q=k/a):=⟨_,bJ U⟩;rw[S8,<-bG b];go_enter func256,ntmps256;go_wp2;go_ret;refine⟨P8 ?_,U⟩;let e:(k:S)/(a:S)=((k/a:V):S):=U;let i:=AY k a;rw[bG b,e,IntWalk.wrap64_in _ ⟨ab,X⟩]
theorem x8(d a b n:V)(w:Z)(m:w.cell? (d,1)=a)(o:w.cell? (d,2)=b)(g:1<=a*b/\a*b<=96)(p:1<=n)(j:n<9223372036854775807):aG ay 257 #[aF d,n] w λe l=>e=(qG a b n:V)/\bI () w l:=by obtain⟨k,rfl⟩:∃k,n=k+1:=⟨n-1,X⟩;obtain⟨C,f⟩:∃q:V,Hid (q=a*b):=⟨_,bJ U⟩;have c:=λW=>B4 W a b X;rw[qG];rw[<-bG f]at c g⊢;let h:(0:S)<=(k:S)%(C:S):=Z2 _ X;let i:(k:S)%(C:S)<(C:S):=Ut _ X;go_enter func257,ntmps257;go_wp2;go_quiet(fail);go_wp2;go_ret;refine⟨P8 ?_,(bI.refl _ w).drewN _⟩;simp_all
end
def tL(w:Z)(h g c f e b d a:V)(i:Q):Prop:=w.heap[h]?=aJ #[aF g,c,f,e,b,d,a,i] 282
def tL.cells{w:Z}{B p j b i k g f:V}{v:Q}(h:tL w B p j b i k g f v):w.cell? B=aF p/\w.cell? (B,1)=j/\w.cell? (B,2)=b/\w.cell? (B,3)=i/\w.cell? (B,4)=k/\w.cell? (B,5)=g/\w.cell? (B,6)=f/\w.cell? (B,7)=v:=⟨bQ h,bQ h,bQ h,bQ h,bQ h,bQ h,bQ h,bQ h⟩
def tL.frozen{w:Z}{B p j b i k g f:V}{v:Q}(h:tL w B p j b i k g f v)(o:V):w.frozen? (B,o)=y:=ep h
def tL.bU(h:tL w B p j b i k g f v)(a:bI T w w')(c:¬T B):tL w' B p j b i k g f v:=a.heap h c
def tL.lt(h:tL w B p j b i k g f v):B<w:=dp h
def bI.L8(w)(n):bI T w (w.drewN n):=(bI.refl T w).drewN n
def JD(S:V->Prop)(w:Z)(h i d g f b e a:V)(c:aV)(m:DM):Prop:=∃(D J:V->Prop) (j:Q),(∀k,D k->S k)/\(∀k,J k->S k)/\(∀k,D k->¬J k)/\nT D w i m/\tL w h i d g f b e a j/\J h/\i6 (λk=>J k/\k≠h) w j c
def JD.bE(h:JD C w B p j b i k g f s m)(e:∀a,a<(w:V)->C a->T a):JD T w B p j b i k g f s m:=by have⟨D,J,x,o,q,r,t,c,u,v⟩:=h;refine⟨λa=>D a/\a<w,λa=>J a/\a<(w:V),x,λa h=>e a h.2<|o a h.1,λa h=>e a h.2<|q a h.1,λa h n=>r a h.1 n.1,kZ.bE t λa l d=>⟨d,l⟩,c,⟨u,c.lt⟩,v.bE λa l d=>⟨⟨d.1,l⟩,d.2⟩⟩
def JD.bU{S T:V->Prop}(h:JD S w B p j b i k g f s m)(n:bI T w w')(e:∀a,a<(w:V)->S a->¬T a):JD S w' B p j b i k g f s m:=by have⟨D,J,x,o,c,t,u,q,r,v⟩:=h;exact⟨D,J,x,o,c,t,kZ.bU u n λa l d=>e a l<|o a d,q.bU n<|e B q.lt<|c B r,r,v.bU n λa l d=>e a l<|c a d.1⟩
def JD.at{a:V}(h:JD T w B p j b i g f a s m):∃c,tL w B p j b i g f a c/\i6 T w c s:=by have⟨D,J,c,o,e,q,r,l,t,n⟩:=h;exact⟨c,l,n.bE λk _ d=>e k d.1⟩
def JD.own(h:JD T w B p j b i k g f s m):T B/\B<w:=by have⟨D,J,q,e,a,l,n,c,d,o⟩:=h;exact⟨a B d,c.lt⟩
def JD.aun{a:V}(h:JD T w B j b i g f c a s m)(x:V):JD T (w.setCell (B,4) x) B j b i g x c a s m:=by have⟨D,J,C,r,t,n,u,v,o,z⟩:=h;let q:bI (λk=>k=B) w (w.setCell (B,4) x):=(bI.refl (λk=>k=B) w).setCell (p:=(B,4)) (aQ U) _;exact⟨D,J,C,r,t,n,kZ.bU u q λk l d e=>n k d (by rw[e];exact o),jK v _,o,z.bU q λk l d e=>d.2 e⟩
def JD.aq'{a:V}(h:JD T w B j b i g f c a s m)(x:V):JD T (w.setCell (B,5) x) B j b i g f x a s m:=by have⟨D,J,C,r,t,n,u,v,o,z⟩:=h;let q:bI (λk=>k=B) w (w.setCell (B,5) x):=(bI.refl (λk=>k=B) w).setCell (p:=(B,5)) (aQ U) _;exact⟨D,J,C,r,t,n,kZ.bU u q λk l d e=>n k d (by rw[e];exact o),jK v _,o,z.bU q λk l d e=>d.2 e⟩
def JD.ap3{a:V}(h:JD T w B j b i g f c a s m)(x:V):JD T (w.setCell (B,3) x) B j b i x f c a s m:=by have⟨D,J,C,r,t,n,u,v,o,z⟩:=h;let q:bI (λk=>k=B) w (w.setCell (B,3) x):=(bI.refl (λk=>k=B) w).setCell (p:=(B,3)) (aQ U) _;exact⟨D,J,C,r,t,n,kZ.bU u q λk l d e=>n k d (by rw[e];exact o),jK v _,o,z.bU q λk l d e=>d.2 e⟩
theorem JD.anw{n:aV}(h:JD T w B j b i g f o c s m)(q:bI () w W)(E:i6 (λk=>w<=k) W v n):JD (λk=>T k\/w<=k) (W.setCell (B,7) v) B j b i g f o c n m:=by have⟨D,J,K,u,F,x,z,r,C,G⟩:=h;let I:=r.lt;let t:bI (λk=>k=B) W (W.setCell (B,7) v):=(bI.refl (λk=>k=B) W).setCell (p:=(B,7)) (aQ U) _;refine⟨λk=>D k/\k<(w:V),λk=>k=B\/(w:V)<=k,v,λk d=>aQ<|u k d.1,?_,?_,?_,jK (r.bU q λa=>a) _,aQ U,?_⟩;{simp_all};grind;exact kZ.bU (kZ.bE z λk l d=>⟨d,l⟩) ((q.bE λ_ _ a=>a.bM).bH t λ_ _ e=>e) λk l d e=>x k d.1 (by rw[e];exact C);exact(E.bU t λk l d e=>X).bE λk l d=>⟨aY d,X⟩
def x9{a:V}(hJ:JD T w B p j b i g f a s m)(E:m.ok)(hN:(m.eY:V)*72<=140737488355328)(hy:m.jW<9223372036854775807)(hn:1<=g)(gQ:g<9223372036854775807):aG ay 259 #[aF B] w λe F=>e=aU #[]/\JD T F B p j b i g (g-1) a s m.sync/\bI T w F:=by have⟨D,J,vn,u,v,r,x,t,z,C⟩:=hJ;have⟨c0,_⟩:=t.cells;rename_i hx;clear hx;have L:=bJ E;have I:=bJ t;have o:=bJ x;have G:=bJ C;have n:=bJ z;clear E t x C z;go_enter func259,ntmps259;go_wp2_with fail;go_at_call 195;apply(aCp (bG o) (bG L) hN hy).bE;rintro e w1 ⟨rfl,l,h⟩;let c:=(bG I).bU h λd=>r _ d<|bG n;have⟨M,N,P,Q,R,W,c6',c7'⟩:=c.cells;have hf5:=c.frozen 5;have q:Hid (JD T w1 B p j b i g f a s m.sync):=bJ ⟨D,J,vn,u,v,r,l,c,bG n,(bG G).bU h λk _ d e=>r k e d.1⟩;have K:=bJ<|h.bE λk _ d=>u k d;clear c l h;go_wp2;go_end0;refine⟨U,?_,(bG K).setCell (aQ<|v _<|bG n) _⟩;let e:(g:S)-1=((g-1:V):S):=X;rw[e];exact(bG q).aq' (g-1)
theorem ya(hJ:JD C w B p j b i g f n s m)(hm:m.ok)(hN:((m.eY:V)+1)*72<=140737488355328)(hy:m.jW<9223372036854775807)(hn:1<=g)(gQ:g<9223372036854775807)(h2d:2<=(m.cX:V))(kq:i<4611686018427387904)(Ji:n<4611686018427387904)(x:s.size<=40):aG ay 262 #[aF B] w λe z=>e=aU #[]/\JD (λk=>C k\/(w:V)<=k) z B p j b i g (g-1) n s ((m.put 1<|kI i n s).sync)/\bI C w z:=by have⟨D,J,vn,h1,h2,h3,h4,L,h6,h7⟩:=hJ;have⟨c0,c1,c2,c3,c4,c5,c6,c7⟩:=L.cells;have hpl:=L.lt;have HM:=bJ hm;have HH:=bJ L;have Q:=bJ (kZ.bE (T:=λk=>D k/\k<(w:V)) h4 λk l d=>⟨d,l⟩:nT (λk=>D k/\k<(w:V)) w p m);have N:=bJ h7;have H6:=bJ h6;have r:(kI i n s).size=64:=C6 _ _ _ X;have HS:=bJ r;clear hm L h4 h7 h6 r;go_enter func262,ntmps262;go_wp2;go_region_held3(λz=>z.cell? B=aF p/\z.cell? (B,3)=i/\z.cell? (B,6)=n/\z.cell? (B,7)=vn) (first|exact⟨c0,c3,c6,c7⟩|grind|grind) (first|(go_at_call 258;refine(Xg (λk=>J k/\k≠B) i n vn s w.drew X X x<|bG N).bE ?_;rintro e w1 ⟨rfl,M,v⟩;have o:bI () w w1:=⟨v.os,v.tape,v.output,v.size,v.block⟩;have HG:=bJ M;have F:=bJ o;have E:=bJ<|(bG HH).bU o λa=>a;have⟨d0,d1,d2,d3,d4,d5,d6,d7⟩:=(bG E).cells;have P:=bJ<|kZ.bU (bG Q) o λ_ _ _ a=>a;have HB1:=bJ<|(bG N).bU o λ_ _ _ a=>a;have hs1:=o.size;clear M v o)|(go_at_call 190;refine(NP 1 (w:V) 64 (kI i n s) (bG P) (bG HM) X (bG HS) hN (by have M:=bG HG;intro c u hj;rw[i9];exact(bQ M).bH (by simpa using hj)) (dp<|bG HG) (λh=>X) X).bE ?_;rintro e w2 ⟨rfl,G,q⟩;have t:=(bG E).bU q λd=>h3 _ d.1<|bG H6;have⟨e0,e1,e2,e3,e4,e5,e6,e7⟩:=t.cells;have S:Hid (JD (λk=>C k\/(w:V)<=k) w2 B p j b i g f n s<|m.put 1<|kI i n s):=bJ ⟨λk=>(D k/\k<(w:V))\/(w1:V)<=k,λk=>J k/\k<(w:V),vn,(λk d=>ab),(λk d=>aQ<|h2 k d.1),(λk d d'=>ab),G,t,⟨bG H6,hpl⟩,((bG N).bE λk l d=>⟨⟨d.1,l⟩,d.2⟩).bU ((bG F).bE (T:=λk=>D k/\k<(w:V)) (λ_ _ a=>a.bM) |>.bH q (λ_ _ d=>d)) λk _ d d'=>h3 k d'.1 d.1.1⟩;have W:=bJ<|((bG F).bE λ_ _ a=>a.bM).bH q λk _ d=>h1 k d.1;clear t G q));go_wp2_with fail;go_at_call 259;apply(x9 (bG S) (DM.EA (bG HM) X<|bG HS) (by simpa[DM.put]using hN) (by simpa[DM.put]using hy) hn gQ).bE;rintro e w3 ⟨rfl,I,K⟩;have R:=bJ I;have Gu:=bJ K;clear I K;go_wp2;go_end0;refine⟨U,bG R,(bG W).bH (bG Gu) λk v h=>?_⟩;grind
section
theorem aBH:fg tJ=bj 64 (aD .u8 0):=by rw[tJ,xX 0 0 ByteArray.empty bB];(let a:(a_ 8).map (ku 0)=bj 8 (.int .u8 0):=by rw[List.eq_replicate_iff];exact⟨bB,λb c=>by obtain⟨i,_,rfl⟩:=iO.1 c;exact(λi=>by rw[ku];rw[Nat.zero_div];rfl) i⟩);rw[a];let d:fg ByteArray.empty=[]:=U;simp_all
theorem alD:(fg tJ)=mz:=by rw[aBH];rw[mz];grind
def QL:tJ.size=64:=C6 _ _ _ bB
def Db(S:V->Prop)(w:Z)(j i b e g a f c:V)(d:aV)(m:DM)(k:V)(h:Z):Prop:=JD (λx=>(S x/\x<w)\/(w:V)<x) h j i b e g a f c d (m.qh (uo b e a k) tJ)/\h.heap[(w:V)]?=aJ mz 5/\bI S w h
def Uu(a b c k:V)(h:0<a*b):∀i∈uo a b c k,i<a*b+2:=by intro i d;obtain⟨x,_,rfl⟩:=iO.1 d;exact Qc _ _ _ h
def afe(b c a k:V):(uo b c a k)=k:=by simp[uo]
theorem Db.step{T:V->Prop}{w w1 W:Z}{B p j b i k g f h:V}{s:aV}{m:DM}{C J:V->Prop}{v:Q}{a:Z}(K:∀h,C h->(T h/\h<w)\/w<h)(E:∀h,J h->(T h/\h<w)\/w<h)(t:∀h,C h->¬J h)(u:tL a B p j b i k g f v)(x:J B)(F:i6 (λh=>J h/\h≠B) a v s)(z:a.heap[(w:V)]?=aJ mz 5)(I:bI T w a)(o:bI () a w1)(q:nT (λh=>(C h/\h<a)\/w1<=h) W p ((m.qh (uo j b k h) tJ).put (qG j b (k+h)) tJ))(r:bI (λh=>C h/\h<a) w1 W):Db T w B p j b i k g f s m (h+1) W:=by have:=dp z;let M:=o.size;have n:=(o.bE λ_ _ c=>c.bM).bH r λ_ _ d=>d;refine⟨⟨λh=>(C h/\h<(a:V))\/(w1:V)<=h,λh=>J h/\h<(a:V),v,?_,λh d=>E h d.1,?_,?_,u.bU n λd=>t _ d.1 x,⟨x,(u.lt)⟩,?_⟩,?_,?_⟩;grind;grind;rw[azr,DM.awu];exact q;exact(F.bE λh l d=>⟨⟨d.1,l⟩,d.2⟩).bU n λh _ d D=>t h D.1 d.1.1;refine n.heap z λd=>?_;grind;refine I.bH n λe L d=>?_;grind
def Db.drewN(h:Db T w B p j b i k g f s m c W)(n:V):Db T w B p j b i k g f s m c (W.drewN n):=⟨h.1.bU (bI.L8 W n) λ_ _ _ a=>a,h.2.1,h.2.2.drewN n⟩
def aAl(a q:V)(d:nT T w B m)(f:m.ok)(l:q<m.cX)(g:((m.eY:V)+1)*72<=140737488355328)(b:w.heap[a]?=aJ mz 5)(i:¬T a):aG ay 190 #[aF B,q,aN a 64 64] w λe c=>e=aD A 0/\nT (λk=>T k\/w<=k) c B (m.put q tJ)/\bI T w c:=NP q a 64 tJ d f l QL g (by intro j u h;rw[i9];apply(bQ b).bH;rw[<-alD];simpa using h) (dp b) i X
attribute[local go_sem↓]FJ
theorem apa(I:JD T w B p j b i g f o s m)(hm:m.ok)(hN:((m.eY:V)+100)*72<=140737488355328)(hy:m.jW<9223372036854775807)(hC:1<=j*b/\j*b<=96)(hroom:j*b+2<=(m.cX:V))(hn:1<=g)(gQ:g<4611686018427387904)(kq:i<=g)(au_:g<=i+j*b)(Ji:o<4611686018427387904)(Xf:s.size<=40):aG ay 221 #[aF B] w λe w'=>e=aU #[]/\JD (λk=>T k\/(w:V)<=k) w' B p j b i g (g-1) o s (((m.qh (uo j b g (j*b-(g-i))) tJ).put 1<|kI i o s).sync)/\bI T w w':=by have r8:=xa;have dF:bI () w (w.alloc<|aJ mz 5):=(bI.refl _ _).alloc _;have Q:Db T w B p j b i g f o s m 0 (w.alloc<|aJ mz 5):=⟨(JD.bU (I.bE λk l n=>⟨n,l⟩) dF λ_ _ _ a=>a).bE λk l n=>aQ n,heap_alloc_last w _,dF.bE λ_ _ a=>a.bM⟩;have⟨vn,hat,_⟩:=Q.1.at;rename_i hx;clear hx;have⟨c0,c1,c2,c3,c4,c5,c6,c7⟩:=hat.cells;have rP:=bJ Q;have HM:=bJ hm;obtain⟨C,z⟩:∃q:V,Hid (q=j*b):=⟨_,bJ U⟩;have hmul:=λW=>B4 W j b X;rw[<-bG z]at hmul hC hroom au_;have hpl:=I.own.2;clear I hm dF Q hat;generalize hW:w.alloc (aJ mz 5)=W0 at*;go_enter func221,ntmps221;go_wp2;go_quiet(fail);clear c0 c1 c2 c3 c4 c5 c6 c7;go_wp2;go_loopw[26] (λc wr=>∃k:V,(k:S)<=(C:S)-((g:S)-(i:S))/\c=aD A k/\Hid (Db T w B p j b i g f o s m k wr)) (λc _=>C-(g-i)-(TS c).toNat);(case atStart=>exact⟨0,X,U,bJ<|(bG rP).drewN _⟩);case round=>obtain⟨k,hk,rfl,HR⟩:=hrel;by_cases hlt:(k:S)<(C:S)-((g:S)-(i:S));{have⟨I,hg,P⟩:=bG HR;have⟨D,J,vn',N,h2,h3,h4,h5,h6,h7⟩:=I;have⟨c0,c1,c2,c3,c4,c5,c6,c7⟩:=h5.cells;have t:=h5.lt;have C3:=bJ (kZ.bE h4 λk l d=>⟨d,l⟩:nT (λk=>D k/\k<wr.heap.size) wr p (m.qh (uo j b g k) tJ));(have pX:qG j b (g+k)<(m.cX:V):=by have:=Qc j b (g+k) pM;rw[<-bG z]at this;omega);have v:=DM.Px QL _ (bG HM) (λc hi=>by have:=Uu j b g k pM c hi;rw[<-bG z]at this;omega);(have Rp:((m.qh (uo j b g k) tJ).eY.length+1)*72<=140737488355328:=pp);(have K:qG j b (g+k)<(m.qh (uo j b g k) tJ).cX.length:=by rw[DM.Mv];exact pX);have L:=bJ K;have F:=bJ v;have HMN:=bJ Rp;clear v Rp K;(have G:=bJ λW N h2=>by have:=x8 B j b (g+k) W N h2 (by rw[<-bG z];exact hC) X X;exact this);have HH:=bJ<|show(∀k,D k->(T k/\k<(w:V))\/(w:V)<k)/\(∀k,J k->(T k/\k<(w:V))\/(w:V)<k)/\(∀k,D k->¬J k)/\tL wr B p j b i g f o vn'/\J B/\i6 (λk=>J k/\k≠B) wr vn' s/\wr.heap[(w:V)]?=aJ mz 5/\bI T w wr from⟨N,h2,h3,h5,h6,h7,hg,P⟩;have HG:=bJ hg;(have hND:∀k,D k->k≠(w:V):=λk d e=>by rcases N k d with h|h<;>omega);have HND:=bJ hND;have xN:¬D B:=λd=>h3 _ d h6;clear N h2 h3 h4 h5 h6 h7 hg P pX hND;have HWR:Hid (IntKind.i64.wrap ((g:S)+(k:S))=(g:S)+(k:S)):=bJ<|wF _ ⟨X,X⟩;obtain⟨q,HQS⟩:∃q:V,Hid (q=qG j b (g+k)):=⟨_,bJ U⟩;rw[<-bG HQS]at G L;obtain⟨M,HMM⟩:∃M:DM,Hid (M=m.qh (uo j b g k) tJ):=⟨_,bJ U⟩;rw[<-bG HMM]at L F HMN C3;clear HR;go_wp2;go_region_held3(λw'=>w'.cell? B=aF p/\w'.cell? (B,4)=g) (first|exact⟨c0,c4⟩|exact⟨d0,d4⟩|exact⟨e0,e4⟩) (first|(go_at_call 257;rw[bG HWR];refine(bG G wr.drew c1 c2).bE ?_;rintro e w1 ⟨rfl,u⟩;have r:bI () wr w1:=⟨u.os,u.tape,u.output,u.size,u.block⟩;have d0:=(r.cell t λa=>a).bH c0;have d4:=(r.cell t λa=>a).bH c4;have EC:=bJ<|kZ.bU (bG C3) r λ_ _ _ a=>a;have Xa:=bJ<|r.heap (bG HG) λa=>a;have uT:=bJ r;have hs1:=r.size;clear u r)|(go_at_call 190;refine(aAl (w:V) q (bG EC) (bG F) (bG L) (bG HMN) (bG Xa) λh=>bG HND _ h.1 U).bE ?_;rintro e w2 ⟨rfl,qd,E⟩;have e0:=(E.cell (by exact fI t hs1) λd=>xN d.1).bH d0;have e4:=(E.cell (by exact fI t hs1) λd=>xN d.1).bH d4;have Ku:=bJ qd;have u_:=bJ E;clear qd E));go_wp2;go_roundw;(case rel=>refine⟨k+1,X,by go_num,bJ ?_⟩;have⟨N,h2,h3,h5,h6,h7,hg,P⟩:=bG HH;have:=bG Ku;rw[bG HQS,bG HMM]at this;exact Db.step N h2 h3 h5 h6 h7 hg P (bG uT) this<|bG u_);case measure=>simp[TS];omega};{have⟨I,hg,P⟩:=bG HR;have eJ:k=C-(g-i):=X;have X_:=bJ eJ;have R:=Uu j b g k pM;rw[<-bG z]at R;have v:=DM.Px QL _ (bG HM) (λc hi=>by have:=R c hi;omega);have HJ:=bJ I;have HOK:=bJ v;have HK:=bJ P;clear I hg P eJ R v;go_wp2_with fail;go_at_call 262;refine(ya (bG HJ) (bG HOK) pp (by rw[DM.Yo];exact hy) hn X (by rw[DM.Mv];omega) X Ji Xf).bE ?_;rintro e w3 ⟨rfl,Kc,hk3⟩;have ES:=bJ Kc;have Gu:=bJ hk3;clear Kc hk3;go_wp2;go_end0;let hJ3:=bG ES;rw[bG X_,bG z]at hJ3;let s1:=(bG HK).size;refine⟨U,hJ3.bE λx l h=>?_,(bG HK).bH (bG Gu) λx hx h=>?_⟩;rcases h with(h|h)|h;exact aQ h.1;exact aY X;omega;rcases h with h|h;exact h.1;omega}
end
section
attribute[local go_sem↓]FJ
end
section
attribute[local go_sem↓]FJ
def asN(a b:V)(f:nT T w B m)(i:m.ok)(t:(m.eY:V)*72<=140737488355328)(k:2<=a/\a<=6)(j:2<=b/\b<=16)(c:a*b+2<=m.cX):aG ay 219 #[aF B,a,b] w λe u=>e=O/\bI () w u:=by have s:4<=a*b/\a*b<=96:=⟨ug k.1 j.1,ug k.2 j.2⟩;obtain⟨C,r⟩:∃q:V,Hid (q=a*b):=⟨_,bJ U⟩;let d:=λW=>B4 W a b X;rw[<-bG r]at d s c;have l:=bJ f;have p:=bJ i;have n:Hid (2+(C:S)-1=((C+1:V):S)):=bJ X;clear f i;go_enter func219,ntmps219;go_wp2_with fail;go_at_call 184;rw[bG n];apply(ane (C+1) (bG l) (bG p) X t).bE;rintro e v ⟨g,rfl,_,_,h⟩;have o:=bJ h;clear h;go_wp2;go_ret;exact⟨U,bG o⟩
def axM:fg DC=[.int .u8 112,.int .u8 97,.int .u8 99,.int .u8 116,.int .u8 32,.int .u8 106,.int .u8 111,.int .u8 117,.int .u8 114,.int .u8 110,.int .u8 97,.int .u8 108]:=U
def Xd(x:Q):Sem Q:=TN 138 138 x
def aqv(x:Q):TN 138 138 x=Xd x:=U
theorem awa(W:Z)(g n c:V)(a:aC Q)(t:aR)(e:W.heap[g]?=aJ a t):∃b,(Xd<|aN g n c).run ay W=.ok (aN g n c) b/\Hid (b.heap[g]?=aJ a t (a.size,a.size+1)/\bI (λk=>k=g) W b):=by(let d:W.shape? g=Y (t,a.size):=by unfold World.shape?;rw[e]);refine⟨W.freeze (g,a.size) 1,?_,bJ ⟨?_,?_⟩⟩;rw[Xd];simp[TN,nH GJ,nH underlying5,markStringish,d];rw[UT];grind;rw[UT];rw[bO bA];exact⟨U,U,U,bB,λk _ f=>ab⟩
attribute[local go_sem↓]aqv
def aot(b c:V)(w:Z)(C:b<=6)(B:c<=16):aG ay 220 #[aD A (b:S),aD A (c:S)] w λe t=>∃g,e=aN (Y (g,0)) 64 64/\(w:V)<=g/\t.heap[g]?=aJ (fg<|kI b c DC).toArray 5 (0,0)/\bI (λ_=>aM) w t:=by obtain⟨a,o⟩:∃a:aC Q,Hid (a=#[.int .u8 112,.int .u8 97,.int .u8 99,.int .u8 116,.int .u8 32,.int .u8 106,.int .u8 111,.int .u8 117,.int .u8 114,.int .u8 110,.int .u8 97,.int .u8 108]):=⟨_,bJ U⟩;have⟨l,m,h⟩:=awa (w.alloc<|aJ a 5) w 12 12 a 5<|heap_alloc_last w _;have⟨r,s⟩:=bG h;have p:i6 (λ_=>bh) l (aN w 12 12) DC:=i6.row r aB U (cC _) (λj z=>by rw[i9,axM,bG o];simp);have i:bI () w l:=((((bI.refl (λ_=>aM) w).alloc<|aJ a 5).bE (T:=λk=>k=w) λ_ _ f=>f.bM).bH s λ_ _ e=>e).bE λk n e=>X;have u:=bJ p;have d:=bJ i;clear p i r s h;rw[bG o]at m;go_enter func220,ntmps220;go_wp2_with fail;go_at_call 258;apply(Xg (λ_=>bh) b c _ DC _ X X bA<|bG u).bE;rintro e D ⟨rfl,q,n⟩;have v:=bJ q;have x:=bJ n;clear q n;go_wp2;go_ret;exact⟨l,U,(bG d).size,bG v,(bG d).bH (bG x) λ_ _ f=>f⟩
end
def Ss(a b:V)(m:DM):DM:=(((m.put 0<|kI a b DC).qh (uo a b 1 (a*b-(1-1))) tJ).put 1<|kI 1 1 ByteArray.empty).sync
def Wl(n a b:V)(h:(n+b)*72<=140737488355328)(c:a<=b):(n+a)*72<=140737488355328:=eB (rV 72 X) h
def yd(n b:V)(h:(n+b)*72<=140737488355328):n*72<=140737488355328:=eB (rV 72 X) h
theorem ank(a b:V)(hD:nT C w B m)(hm:m.ok)(hN:((m.eY:V)+101)*72<=140737488355328)(hy:m.jW<9223372036854775807)(G:2<=a/\a<=6)(F:2<=b/\b<=16)(c:a*b+2<=(m.cX:V)):aG ay 149 #[aF (Y (B,0)),aD A (a:S),aD A (b:S)] w λe w'=>∃pj,e=aU #[aF (Y (pj,0)),aD A 0]/\(w:V)<=pj/\JD (λk=>C k\/(w:V)<=k) w' pj B a b 1 1 0 1 ByteArray.empty (Ss a b m)/\bI C w w':=by have HC:Hid (4<=a*b/\a*b<=96):=bJ ⟨ug G.1 F.1,ug G.2 F.2⟩;have HF:=bJ<|asN a b hD hm (yd _ _ hN) G F c;have HD:=bJ (kZ.bE (T:=λk=>C k/\k<(w:V)) hD λk l d=>⟨d,l⟩:nT (λk=>C k/\k<(w:V)) w B m);have HM:=bJ hm;have HR:=bJ c;have HS:Hid ((kI a b DC).size=64):=bJ<|C6 _ _ _ bA;have v:0<(m.cX:V):=X;clear hD hm c;go_enter func149,ntmps149;go_wp2_with fail;go_at_call 219;refine(bG HF).bE ?_;rintro e r ⟨rfl,n⟩;have K:=bJ<|kZ.bU (bG HD) n λ_ _ _ f=>f;have Q:=bJ n;have hs1:=n.size;clear n;go_wp2_with fail;have o:=heap_alloc_last r<|aJ #[aF B,a,b,aD A 1,aD A 1,aD A 0,aD A 1,nx] 282;have p:bI () r (r.alloc<|aJ #[aF B,a,b,aD A 1,aD A 1,aD A 0,aD A 1,nx] 282):=(bI.refl _ _).alloc _;generalize r.alloc (aJ #[aF B,a,b,aD A 1,aD A 1,aD A 0,aD A 1,nx] 282)=W2 at*;have I:=bJ o;have R:=bJ p;have hl2:=dp o;have L:=bJ<|kZ.bU (bG K) p λ_ _ _ f=>f;clear o p;go_at_call 220;refine(aot a b W2 G.2 F.2).bE ?_;rintro e w3 ⟨g,rfl,hg,z,i⟩;have W:=bJ i;have HG:=bJ z;have J:=bJ<|i.heap (bG I) λf=>f;have M:=bJ<|kZ.bU (bG L) i λ_ _ _ f=>f;have hs3:=i.size;clear z i;go_wp2_with fail;go_at_call 190;refine(NP 0 g 64 (kI a b DC) (bG M) (bG HM) v (bG HS) (Wl _ 1 _ hN X) (by have hg:=bG HG;intro j u hj;rw[i9];exact(bQ hg).bH (by simpa using hj)) (dp<|bG HG) (λh=>X) X).bE ?_;rintro e w4 ⟨rfl,x,q⟩;have t:=q.heap (bG J) λh=>X;have P:Hid (JD (λk=>(C k/\k<(w:V))\/(w:V)<=k) w4 (r:V) B a b 1 1 0 1 ByteArray.empty<|m.put 0<|kI a b DC):=bJ ⟨λk=>(C k/\k<(w:V))\/(w3:V)<=k,λk=>k=(r:V),nx,(λk d=>ab),(λk d=>aY X),(λk d e=>X),x,t,U,i6.nil _ _⟩;have s:=bJ<|((((bG Q).bH (bG R) λ_ _ f=>f).bH (bG W) λ_ _ f=>f).bE λ_ _ f=>f.bM).bH q λ_ _ h=>h;clear x q t;go_wp2_with fail;go_at_call 221;refine(apa (bG P) (DM.EA (bG HM) v<|bG HS) (by show((m.eY++[_]).length+100)*72<=_;simp_all) hy (by have:=bG HC;omega) (bG HR) X X X X X bB).bE ?_;rintro e w5 ⟨rfl,D,E⟩;have N:=bJ D;have HK5:=bJ E;have hs4:=(bG s).size;clear D E;go_wp2;go_ret2;refine⟨(r:V),U,hs1,(bG N).bE λk l h=>?_,((bG s).bE λ_ _ h=>h.1).bH (bG HK5) λk hk h=>?_⟩;grind;grind
theorem asX(n t:V)(G)(z:JD T w B p j b i k g f s m)(hn:n<=40)(r:1<=b/\b<=16)(hr:j<=6)(o:1<=i)(v:i<4611686018427387904)(d:1<=k)(q:k<4611686018427387904)(u:(i-1)/b+j<=(k-1)/b):aG ay 186 #[aF B,aN G n t] w λe K=>e=aU #[aD A 0,aD A 2]/\bI () w K:=by have⟨vn,l,_⟩:=z.at;rename_i J;clear J;have⟨c0,N,x,P,c4,Q,R,c7⟩:=l.cells;have C:=λW h=>Qq B b i W h r.1 r.2 o X;have D:=λW h=>Qq B b k W h r.1 r.2 d X;have L:=AY (i-1) b;have M:=AY (k-1) b;generalize(i-1)/b=a at*;generalize(k-1)/b=c at*;have E:=bJ C;have F:=bJ D;(have I:decide ((j:S)<=(c:S)-(a:S))=O:=af);clear z l C D;go_enter func186,ntmps186;go_wp2;go_quiet(first|(go_at_call_of 256 (aD TK (i:S));exact CR<|bG E _ x)|(go_at_call_of 256 (aD TK (k:S));exact CR<|bG F _ x));go_wp2;go_ret2;exact⟨U,(bI.refl _ w).drewN _⟩
theorem awK(T:V->Prop){v:V}(cap:V)(ao:aO U3)(r:aV)(hJ:JD C w B p j b i g f v s m)(hm:m.ok)(hN:((m.eY:V)+1)*72<=140737488355328)(hs:r.size<=40)(hv:i6 T w (aN ao r.size cap) r)(hp:1<=b/\b<=16)(hr:j<=6)(hC:1<=j*b/\j*b<=96)(K:j*b+2<=(m.cX:V))(kq:1<=i)(az4:i<4611686018427387904)(F:1<=g)(age:g<4611686018427387904)(ng:(g-1)/b<(i-1)/b+j):aG ay 186 #[aF B,aN ao r.size cap] w λe L=>e=aU #[g,aD A 0]/\JD (λk=>C k\/(w:V)<=k) L B p j b i (g+1) f v s (m.put (qG j b g)<|kI g 0 r)/\bI C w L:=by have⟨D,J,vn,h1,h2,h3,h4,h5,h6,h7⟩:=hJ;have⟨c0,c1,c2,c3,c4,c5,c6,c7⟩:=h5.cells;have s1:=λW h=>Qq B b i W h hp.1 hp.2 kq X;have s2:=λW h=>Qq B b g W h hp.1 hp.2 F X;have b1:=AY (i-1) b;have b2:=AY (g-1) b;(have pX:qG j b g<(m.cX:V):=by have:=Qc j b g X;omega);have R:Hid (∀W:Z,W.cell? (B,1)=j->W.cell? (B,2)=b->aG ay 257 #[aF B,g] W λe L=>e=(qG j b g:V)/\bI () W L):=bJ λW h1 h2=>x8 B j b g W h1 h2 hC F X;generalize(i-1)/b=a at*;generalize(g-1)/b=c at*;have H1:=bJ s1;have H2:=bJ s2;(have uR:decide ((j:S)<=(c:S)-(a:S))=y:=af);have MF:=bJ pX;have hpl:=h5.lt;have HM:=bJ hm;have HV:=bJ hv;have HH:=bJ h5;have C3:=bJ (kZ.bE (T:=λk=>D k/\k<(w:V)) h4 λk l d=>⟨d,l⟩:nT (λk=>D k/\k<(w:V)) w p m);have HB:=bJ h7;have H6:=bJ h6;have HS:Hid ((kI g 0 r).size=64):=bJ<|C6 _ _ _ X;clear h4 h5 h6 h7 s1 s2 pX hm hv hC K;generalize qG j b g=q at*;go_enter func186,ntmps186;go_wp2;go_quiet(first|(go_at_call_of 256 (aD TK (i:S));exact CR<|bG H1 _ c2)|(go_at_call_of 256 (aD TK (g:S));exact CR<|bG H2 _ c2));have z:bI () w (w.drewN nq):=(bI.refl _ w).drewN nq;generalize w.drewN nq=wq at*;have P:=bJ<|(bG HH).bU z λn=>n;have HDq:=bJ<|kZ.bU (bG C3) z λ_ _ _ n=>n;have HVq:=bJ<|(bG HV).bU z λ_ _ _ n=>n;have HKq:=bJ z;have hsq:=z.size;clear z c0 c1 c2 c3 c4 c5 c6 c7;have⟨c0,c1,c2,c3,c4,c5,c6,c7⟩:=(bG P).cells;go_wp2;go_region_held3(λL=>L.cell? B=aF p) (first|exact c0|exact d0|exact e0|exact f0) (first|(go_at_call 257;refine(bG R wq.drew c1 c2).bE ?_;rintro e w1 ⟨rfl,x⟩;have t:bI () wq w1:=⟨x.os,x.tape,x.output,x.size,x.block⟩;have M:=bJ<|(bG P).bU t λn=>n;have⟨d0,d1,d2,d3,d4,d5,d6,d7⟩:=(bG M).cells;have EC:=bJ<|kZ.bU (bG HDq) t λ_ _ _ n=>n;have U':=bJ<|(bG HVq).bU t λ_ _ _ n=>n;have uT:=bJ<|(bG HKq).bH t λ_ _ n=>n;have hs1:=t.size;clear x t)|(go_at_call 258;refine(Xg T g 0 _ r w1 X X hs<|bG U').bE ?_;rintro e w2 ⟨rfl,hg,E⟩;have HG:=bJ hg;have N:=bJ<|(bG M).bU E λn=>n;have⟨e0,e1,e2,e3,e4,e5,e6,e7⟩:=(bG N).cells;have Ku:=bJ<|kZ.bU (bG EC) E λ_ _ _ n=>n;have Q:=bJ<|(bG uT).bH E λ_ _ n=>n;have hs2:=E.size;clear hg E)|(go_at_call 190;refine(NP q (w1:V) 64 (kI g 0 r) (bG Ku) (bG HM) (bG MF) (bG HS) hN (by have hg:=bG HG;intro o u hj;rw[i9];exact(bQ hg).bH ab) (dp<|bG HG) (λh=>X) X).bE ?_;rintro e w3 ⟨rfl,hd3,I⟩;have G:=(bG N).bU I λd=>h3 _ d.1<|bG H6;have⟨f0,f1,f2,f3,f4,f5,f6,f7⟩:=G.cells;have hf4:=G.frozen 4;have EW:Hid (JD (λk=>C k\/(w:V)<=k) w3 B p j b i g f v s<|m.put q<|kI g 0 r):=bJ ⟨λk=>(D k/\k<(w:V))\/(w2:V)<=k,λk=>J k/\k<(w:V),vn,(λk d=>ab),(λk d=>aQ<|h2 k d.1),(λk d d'=>ab),hd3,G,⟨bG H6,hpl⟩,((bG HB).bE λk l d=>⟨⟨d.1,l⟩,d.2⟩).bU ((bG Q).bE (T:=λk=>D k/\k<(w:V)) (λ_ _ n=>n.bM) |>.bH I (λ_ _ d=>d)) λk _ d d'=>h3 k d'.1 d.1.1⟩;have Gu:=bJ<|((bG Q).bE λ_ _ n=>n.bM).bH I λk _ d=>h1 k d.1;clear G hd3 I));go_wp2;go_ret2;refine⟨U,(bG EW).aun (g+1),(bG Gu).setCell (aQ<|h2 _<|bG H6) _⟩
theorem alI(n:V)(c:JD T w B p j b i k g f s m)(D:n<k)(C:n<=g):aG ay 187 #[aF B,n] w λe h=>e=aD A 0/\h=w:=by have⟨E,a,_⟩:=c.at;rename_i d;clear d;have⟨c0,l,o,q,c4,r,t,u⟩:=a.cells;let v:decide ((n:S)<0)=y:=bB;(let x:decide ((k:S)<=(n:S))=y:=af);(let z:decide ((g:S)<(n:S))=y:=af);clear c a;go_enter func187,ntmps187;go_wp2;go_ret;simp_all
def aoC(n:V)(h:JD T w B p j b i k g f s m)(r:m.ok)(v:(m.eY:V)*72<=140737488355328)(z:m.jW<9223372036854775807)(N:n<k)(M:g<n)(l:k<9223372036854775807):aG ay 187 #[aF B,n] w λe t=>e=aD A 0/\JD T t B p j b i k (k-1) f s m.sync/\bI T w t:=by have⟨P,a,_⟩:=h.at;rename_i x;clear x;have⟨c0,C,D,E,c4,F,G,I⟩:=a.cells;let J:decide ((n:S)<0)=y:=bB;(let K:decide ((k:S)<=(n:S))=y:=af);(let L:decide ((g:S)<(n:S))=O:=af);have u:=bJ<|x9 h r v z X l;clear h a r;go_enter func187,ntmps187;go_wp2_with fail;go_at_call 259;apply(bG u).bE;rintro e Q ⟨rfl,o,q⟩;have c:=bJ o;have d:=bJ q;clear o q;go_wp2;go_ret;exact⟨U,bG c,bG d⟩
theorem anF(T:V->Prop){K:V}(J x:V)(ao:aO U3)(n:aV)(Q:JD C w B j b i g f K o s m)(hm:m.ok)(hN:((m.eY:V)+1)*72<=140737488355328)(hy:m.jW<9223372036854775807)(hx0:g<=x)(hx1:x<=f)(hs:n.size<=40)(hv:i6 T w (aN ao n.size J) n)(L:¬T B)(kq:1<=g)(R:f<4611686018427387904)(h2d:2<=(m.cX:V))(Ji:o<4611686018427387904):aG ay 200 #[aF B,x,aN ao n.size J] w λe w'=>e=aD A 0/\JD (λk=>C k\/w<=k) w' B j b i x f (f-1) o n ((m.put 1<|kI x o n).sync)/\bI C w w':=by have⟨vn,z,_⟩:=Q.at;rename_i hx;clear hx;have⟨c0,c1,c2,c3,c4,c5,c6,c7⟩:=z.cells;have KL:=z.frozen 3;have hpl:=z.lt;(have g0:decide ((x:S)<(g:S))=y:=af);(have g1:decide ((f:S)<(x:S))=y:=af);(have g2:decide ((40:S)<(n.size:S))=y:=af);have P:=Q.own;have D:bI (λk=>k=B) w (w.setCell (B,3) x):=(bI.refl (λk=>k=B) w).setCell (p:=(B,3)) (aQ U) _;have G:=bJ<|Q.ap3 x;have U':=bJ<|hv.bU D λk _ t e=>L bD;have uT:=bJ<|D.bE (T:=C) λk _ e=>bD;have hs1:=D.size;have HM:=bJ hm;clear Q z hm hv D;go_enter func200,ntmps200;go_wp2_with fail;generalize w.setCell (B,3) x=w1 at*;go_at_call 261;apply(azz T _ n w1 (bG U') hs).bE;rintro e w2 ⟨v',rfl,F,u⟩;(obtain⟨v,r,rfl⟩:∃v r,v'=aN v n.size r:=by have⟨a,c,h,_⟩:=F;grind);(have q:∃E,tL w2 B j b i x f K o E:=by have⟨E,h,_⟩:=(bG G).at;exact⟨E,h.bU u λd=>d⟩);have⟨E,q⟩:=q;have⟨d0,d1,d2,d3,d4,d5,d6,d7⟩:=q.cells;have hf7:=q.frozen 7;have W:=bJ<|(bG G).anw u F;have I:=bJ<|(((bG uT).bH (u.bE (T:=C) λ_ _ d=>d.bM) λ_ _ h=>h)).setCell (p:=(B,7)) (aQ P.1)<|aN v n.size r;have hs2:=u.size;clear q u F;go_wp2_with fail;generalize w2.setCell (B,7) (aN v n.size r)=w3 at*;go_at_call 262;apply(ya (bG W) (bG HM) hN hy X X h2d X Ji hs).bE;rintro e w4 ⟨rfl,M,N⟩;have T8:=bJ M;have PU:=bJ N;clear M N;go_wp2;go_ret;let hs3:=(bG I).size;refine⟨U,(bG T8).bE λk l h=>?_,(bG I).bH (bG PU) λk hk h=>?_⟩;grind;grind
theorem yk(a:V)(x:S)(w:Z)(h:w.cell? (a,3)=x):aG ay 152 #[aF a] w λe b=>e=x/\b=w:=by go_enter func152,ntmps152;go_wp2;go_ret;simp_all
theorem amn(a:V)(x:S)(w:Z)(h:w.cell? (a,4)=x):aG ay 153 #[aF a] w λe b=>e=x/\b=w:=by go_enter func153,ntmps153;go_wp2;go_ret;simp_all
theorem asR(a:V)(x:S)(w:Z)(h:w.cell? (a,6)=x):aG ay 222 #[aF a] w λe b=>e=x/\b=w:=by go_enter func222,ntmps222;go_wp2;go_ret;simp_all
def vJ.TE{j:JM}(h:vJ j m):((m.eY:V)+101)*72<=140737488355328:=by let a:=h.ok.span;let b:=h.eL;let c:=h.ok.pos;let d:=h.xo;omega
def jH(S:V->Prop)(w:Z)(b a:V)(j:JM)(m:DM):Prop:=JD S w b a j.bR j.bK j.low ((j.L:V)+1) j.eL j.dT j.eE m/\vJ j m/\m.ok
def jH.bE{j:JM}(h:jH C w B p j m)(a:∀k,k<(w:V)->C k->T k):jH T w B p j m:=⟨h.1.bE a,h.2⟩
def jH.bU{S T:V->Prop}{j:JM}(h:jH S w B p j m)(b:bI T w w')(a:∀k,k<(w:V)->S k->¬T k):jH S w' B p j m:=⟨h.1.bU b a,h.2⟩
def jH.at{j:JM}(h:jH T w B p j m):∃a,tL w B p j.bR j.bK j.low ((j.L:V)+1) j.eL j.dT a:=by have⟨a,h,_⟩:=h.1.at;exact⟨a,h⟩
def JM.uW(j:JM):Prop:=(j.low-1)/j.bK+j.bR<=j.L/j.bK
instance(j:JM):Decidable j.uW:=by unfold JM.uW;infer_instance
def aoR(n a:V)(b){j:JM}(h:jH T w B p j m)(f:n<=40)(d:j.uW):aG ay 186 #[aF B,aN b n a] w λe g=>e=aU #[aD A 0,aD A 2]/\bI () w g:=by let c:=h.2.1.ok.low;have:=h.2.1.ok.vv;exact asX n a b h.1 f ⟨by have:=h.2.1.ok.bK;omega,h.2.1.ok.bK.2⟩ h.2.1.ok.bR.2 c.1 X X X (by rw[S8];exact d)
theorem alV(a:V->Prop)(b)(d)(s:aV){j:JM}(h:jH T w B p j m)(t:s.size<=40)(u:i6 a w (aN d s.size b) s)(r:¬j.uW)(c:(j.L:V)+1<2305843009213693952):aG ay 186 #[aF B,aN d s.size b] w λe g=>e=aU #[((j.L:V)+1:V),aD A 0]/\jH (λk=>T k\/w<=k) g B p {j with L:=j.L++[s]} (m.put (qG j.bR j.bK ((j.L:V)+1))<|kI ((j.L:V)+1) 0 s)/\bI T w g:=by let n:=h.2.1.ok.low;let o:=h.2.1.ok.pos;let q:=h.2.1.gh;let x:=Qc j.bR j.bK ((j.L:V)+1) X;(have f:(j.L:V)/j.bK<(j.low-1)/j.bK+j.bR:=by unfold JM.uW at r;omega);refine(awK a b d s h.1 h.2.2 (Wl _ 1 _ h.2.1.TE X) t u ⟨ab,h.2.1.ok.bK.2⟩ h.2.1.ok.bR.2 ⟨X,o.2⟩ q n.1 X X X bD).bE ?_;rintro e g ⟨i,v,l⟩;refine⟨i,⟨?_,h.2.1.append f c _ _,DM.EA h.2.2 X<|C6 _ _ _ X⟩,l⟩;simp_all
def aCJ(n:V){j:JM}(h:jH T w B p j m)(g:m.jW<9223372036854775807)(k:n<=j.L)(f:j.eL<n):aG ay 187 #[aF B,n] w λe a=>e=aD A 0/\jH T a B p {j with eL:=j.L} m.sync/\bI T w a:=by have:=h.2.1.ok.vv;refine(aoC n h.1 h.2.2 (yd _ _ h.2.1.TE) g X f X).bE ?_;rintro e a ⟨c,b,d⟩;rw[S8]at b;exact⟨c,⟨b,h.2.1.atA,DM.YA h.2.2⟩,d⟩
def avK(n:V){j:JM}(h:jH T w B p j m)(c:n<=j.L)(a:n<=j.eL):aG ay 187 #[aF B,n] w λe b=>e=aD A 0/\b=w:=alI n h.1 X a
def aon(a:V->Prop)(b x:V)(f)(s){j:JM}(h:jH T w B p j m)(t:m.jW<9223372036854775807)(c:j.low<=x)(d:x<=j.L+1)(l:s.size<=40)(r:i6 a w (aN f s.size b) s)(q:¬a B):aG ay 200 #[aF B,x,aN f s.size b] w λe g=>e=aD A 0/\jH (λk=>T k\/w<=k) g B p {j with low:=x,eE:=s,eL:=j.L} ((m.put 1<|kI x j.dT s).sync)/\bI T w g:=by let u:=h.2.1.ok.vv;let v:=h.2.1.gh;refine(anF a b x f s h.1 h.2.2 (Wl _ 1 _ h.2.1.TE X) t c d l r q (h.2.1.ok.low).1 X X X).bE ?_;rintro e g ⟨n,i,o⟩;rw[S8]at i;exact⟨n,⟨i,h.2.1.rS c d l,DM.YA<|DM.EA h.2.2 X<|C6 _ _ _ X⟩,o⟩
def Y6(a b:V):JM:=⟨a,b,[],1,0,1,ByteArray.empty⟩
def aCv(a:V->Prop)(j b c:V)(m:DM)(w:Z)(s:nT a w j m)(n:m.ok)(t:((m.eY:V)+101)*72<=140737488355328)(v:m.jW<9223372036854775807)(h:2<=b/\b<=6)(g:2<=c/\c<=16)(d:b*c+2<=m.cX):aG ay 149 #[aF j,aD A (b:S),aD A (c:S)] w λe l=>∃f,e=aU #[aF (Y (f,0)),aD A 0]/\(w:V)<=f/\jH (λk=>a k\/(w:V)<=k) l f j (Y6 b c) (Ss b c m)/\bI a w l:=by have:4<=b*c/\b*c<=96:=⟨ug h.1 g.1,ug h.2 g.2⟩;refine(ank b c s n t v h g d).bE ?_;rintro e l ⟨f,o,p,q,r⟩;refine⟨f,o,p,⟨q,?_,?_⟩,r⟩;exact Y5 ⟨h,g,⟨cC _,cC _⟩,dR _,dR _,⟨by show 0<2305843009213693952;omega,by show 1<2305843009213693952;omega⟩⟩ U (by show _<=(DM.qh _ _ _).cX.length;rw[DM.Mv];exact d);refine DM.YA<|DM.EA (DM.Px QL _ (DM.EA n X<|C6 _ _ _ bA) λi u=>?_) ?_<|C6 _ _ _ bB;have:=Uu b c 1 _ X i u;show i<m.cX;omega;rw[DM.Mv];show 1<(m.cX:V);omega
def aAM(a b)(m):(Ss a b m).jW=m.jW+1:=by rw[Ss,DM.sync];show(((m.put 0 _).qh _ _).jW+1)=_;rw[DM.Yo];rfl
structure Tx where
 cg:V
 bY:V
 seq:V
theorem Tx.ext'{t b:Tx}(a:t.cg=b.cg)(c:t.bY=b.bY)(d:t.seq=b.seq):t=b:=by cases t;simp_all
instance:DecidableEq Tx:=λa b=>decidable_of_iff (a.cg=b.cg/\a.bY=b.bY/\a.seq=b.seq) ⟨λh=>Tx.ext' h.1 h.2.1 h.2.2,λh=>bD⟩
def dc:Tx:=⟨0,0,0⟩
def Tx.le(a b:Tx):aK:=decide (a.cg<b.cg)||(decide (a.cg=b.cg)&&(decide (a.bY<b.bY)||(decide (a.bY=b.bY)&&decide (a.seq<=b.seq))))
structure dH where
 nodes:V
 dG:V
 bR:V
 bK:V
 eI:V
structure fL where
 kind:V
 b9:V
 to:V
 bW:Tx
structure Ev where
 kind:V
 node:V
 bW:Tx
 cy:V
 qP:fL
structure dh where
 cU:V
 waits:V
 cy:V
 ej:V
 eX:V
 blk:V
structure jL where
 kind:V
 bW:Tx
 nodes:V
 cy:V
def Rx(n:V):R UInt8:=[SO n,SO (n/256),SO (n/65536),SO (n/16777216)]
def vA(t:Tx):R UInt8:=Rx t.bY++Rx t.seq
def jL.bytes(r:jL):aV:=⟨([SO r.kind,SO r.nodes,SO r.cy,SO r.bW.cg]++vA r.bW)⟩
def yq(l:R Tx):aV:=⟨(l.flatMap vA)⟩
def anl(t:Tx):(vA t:V)=8:=U
def jL.ym(r:jL):r.bytes.size=12:=U
def yp(l:R Tx):(yq l).size=(l:V)*8:=by show(l.flatMap vA).toArray.size=_;rw[NA];induction l with|nil=>rfl|cons t l a=>rw[uh,jN,anl,a,pB];omega
structure NM where
 id:V
 cw:dH
 bY:V
 oK:aK
 forced:V
 gA:V
 dN:V
 cM:R jL
 low:V
 eL:V
 sQ:R Tx
 dJ:V
 bF:R (Tx×dh)
 b_:R (Tx×V)
 dK:R Tx
 evs:R Ev
 pd:V
 bo:V
 bp:V
def NM.jm(n:NM):JM:=⟨n.cw.bR,n.cw.bK,n.cM.map jL.bytes,n.low,n.eL,n.bY,yq n.sQ⟩
def NM.Ii(n:NM):(n.jm.L:V)=n.cM:=by simp[NM.jm]
section
variable{α:Type}
def kF(l:R (Tx×α))(t:Tx):aK:=l.any (λx=>decide (x.1=t))
def cZ(l:R (Tx×α))(t:Tx):aO α:=(l.find? λx=>decide (x.1=t)).map Prod.snd
def dl(l:R (Tx×α))(t:Tx)(a:α):R (Tx×α):=l.map (λx=>if x.1=t then(t,a)else x)
def jI(l:R (Tx×α))(t:Tx)(a:α):R (Tx×α):=if kF l t then dl l t a else l++[(t,a)]
def eR(l:R (Tx×α))(t:Tx):R (Tx×α):=l.filter (λx=>decide (x.1≠t))
end
def gO:fL:=⟨0,0,0,dc⟩
def qH(s:V):R V:=(a_ 4).filter (λi=>s.testBit i)
def fc(s i:V):V:=if s.testBit i then s-2^i else s
def NM.send(n:NM)(a b:V)(t:Tx):NM:={n with evs:=n.evs++[⟨1,n.id,t,0,⟨a,n.id,b,t⟩⟩],dN:=n.dN+1}
def NM.j_(n:NM)(a s:V)(t:Tx):NM:=(qH s).foldl (λn i=>n.send a i t) n
def NM.iW(n:NM)(b:V)(t:Tx)(a:V):NM:={n with evs:=n.evs++[⟨b,n.id,t,a,gO⟩]}
def NM.write(n:NM)(r:jL):V×NM:=if n.jm.uW then(0,n)else((n.cM:V)+1,{n with cM:=n.cM++[r]})
def NM.jQ(n:NM)(r:jL):V×NM:=if n.jm.uW then(0,{n with forced:=n.forced+1})else((n.cM:V)+1,{n with cM:=n.cM++[r],eL:=n.cM+1,forced:=n.forced+1})
def NM.sD(n:NM)(r:jL):NM:=let m:=(n.write r).2;{m with gA:=m.gA+1}
def NM.oo(n:NM)(t:Tx):aK:=t.le (n.dK.getD t.cg dc)
def NM.oq(n:NM)(t:Tx):NM:=if n.oo t then n else{n with dK:=n.dK.set t.cg t}
def NM.rS(n:NM)(a:V):NM:={n with low:=a,sQ:=n.dK,eL:=n.cM}
def NM.mark(n:NM)(t:Tx):NM:=let m:=n.oq t;{m.rS m.low with forced:=m.forced+1}
def NM.uM(n:NM):V:=if n.cw.dG=3then 1 else 2
def NM.j4(n:NM)(a:V):aK:=decide (n.cw.dG=1)||decide (a≠n.uM)
def order(a:V):V:=if a=1then 4 else 5
def NM.gT(n:NM)(i:V):V:=(i-1)/n.cw.bK
def NM.gh(n:NM):V:=n.cw.bR*n.cw.bK-((n.cM:V)-n.gT n.low*n.cw.bK)
def NM.iM(n:NM):V:=3*(n.bF:V)+2*n.b_
def NM.qJ(n:NM):aK:=decide (4<=(n.bF:V))||(decide (n.gh<n.iM+3)||decide (1073741824<=n.dJ))
def NM.mH(n:NM):V:=n.b_.foldl (λl x=>min l x.2) (n.bF.foldl (λl x=>if x.2.eX=0then l else min l x.2.eX) ((n.cM:V)+1))
def NM.dP(n:NM):NM:=if n.gT n.low<n.gT n.mH then n.rS n.mH else n
def NM.kh(n:NM)(t:Tx):NM:=let m:=n.sD ⟨4,t,0,0⟩;{m with bF:=eR m.bF t}
def NM.settle(n:NM)(t:Tx)(d:dh)(a b:V):NM:=let m:=(n.iW 2 t a).j_ (order a) b t;let k:={m with bF:=dl m.bF t {d with cy:=a,waits:=b}};if k.j4 a then(if b=0then k.kh t else k)else{k with bF:=eR k.bF t}
def NM.qO(n:NM)(t:Tx)(d:dh)(k s oc:V):NM:=let a:=n.jQ ⟨k,t,s,0⟩;{a.2with bF:=dl a.2.bF t {d with eX:=a.1}}.settle t {d with eX:=a.1} oc s
def NM.si(n:NM)(t:Tx)(d:dh):NM:=n.qO t d 2 d.cU 1
def NM.jF(n:NM)(t:Tx)(d:dh)(a:V):NM:=if n.cw.dG=1then n.qO t d 3 a 2 else n.settle t d 2 a
def NM.begin(n:NM)(t:Tx)(b c:V):NM:=let a:=if n.cw.dG=3then n.jQ ⟨1,t,b,0⟩else(0,n);{a.2with dJ:=a.2.dJ+1,bF:=jI a.2.bF t ⟨b,b,0,0,a.1,c⟩}.j_ 1 b t
def NM.ud(n:NM)(t:Tx)(a:V):aO dh:=match cZ n.bF t with|H=>H|Y d=>if d.cy≠0\/d.waits.testBit a=y then H else Y d
def NM.uS(n:NM)(t:Tx)(a:V):NM:=match n.ud t a with|H=>n|Y d=>let m:={n with bF:=dl n.bF t {d with waits:=fc d.waits a}};if fc d.waits a=0then m.si t {d with waits:=fc d.waits a}else m
def NM.uq(n:NM)(t:Tx)(a:V):NM:=match n.ud t a with|H=>n|Y d=>n.jF t d (fc d.cU a)
def NM.mA(n:NM)(t:Tx)(a:V):NM:=match cZ n.bF t with|H=>n|Y d=>if d.cy=0\/d.waits.testBit a=y then n else let m:={n with bF:=dl n.bF t {d with waits:=fc d.waits a}};if fc d.waits a=0then m.kh t else m
def NM.mI(n:NM)(t:Tx)(a:V):NM:=match cZ n.bF t with|H=>n.send (order n.uM) a t|Y d=>if d.cy=0then n else n.send (order d.cy) a t
def NM.tV(n:NM)(t:Tx):NM:=let a:=n.jQ ⟨5,t,0,0⟩;{a.2with b_:=jI a.2.b_ t a.1}.oq t
def NM.oB(n:NM)(t:Tx)(a:V):NM:=if kF n.b_ t then n.send 2 a t else if n.oo t then n else if n.oK then(n.mark t).send 3 a t else if 4<=(n.b_:V)\/n.gh<n.iM+2then n else(n.tV t).send 2 a t
def NM.apply(n:NM)(t:Tx)(a:V)(b:aK):NM:=let k:=(if b then(n.jQ ⟨6,t,0,a⟩).2 else n.sD ⟨6,t,0,a⟩).iW 3 t a;{k with b_:=eR k.b_ t}
def NM.oh(n:NM)(t:Tx)(b a:V):NM:=let m:=if kF n.b_ t then n.apply t a (n.j4 a)else if n.j4 a=O/\n.oo t=y then n.mark t else n;if n.j4 a then m.send 6 b t else m
def NM.act(n:NM)(m:fL):NM:=match m.kind with|1=>n.oB m.bW m.b9|2=>n.uS m.bW m.b9|3=>n.uq m.bW m.b9|4=>n.oh m.bW m.b9 1|5=>n.oh m.bW m.b9 2|6=>n.mA m.bW m.b9|7=>n.mI m.bW m.b9|_=>n
def C4:R Tx:=bj 4 dc
