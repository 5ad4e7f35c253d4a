import Derived.Test.YthbmmbgkchiajaaGreatD2
set_option maxRecDepth 100000
set_option maxHeartbeats 8000000
set_option linter.all false
open Prod renaming fst→ay
open Option renaming some→aa,none→af
namespace Go.Proofs.YthbmmbgkchiajaaGreat
open Go.RowKit Tryz
variable{H:List Ev}{a b:Type}{aX:List Rec}{bq:List (Tx×Nat)}{k v:Nat}{l opn:List (Tx×cj)}{marks notes:List Tx}{r:Rec}{t x:Tx}
theorem EI{c:Type}{b:List c->Prop}(nil:b [])(snoc:∀l r,b l->b (l++[r]))(l:List c):b l:=by(have h:∀m:List c,b m.reverse:=by intro m;induction m with|nil=>exact nil|cons a m d=>simp_all);have:=h l.reverse;simp_all
section
variable(ad de:Rec->Bool)(x:Tx)
def jI(b:Bool)(l:List Rec):Bool:=l.foldl (λb r=>if r.bh=x then(if ad r then true else if de r then false else b)else b) b
theorem QI(b:Bool)(l m:List Rec):jI ad de x b (l++m)=jI ad de x (jI ad de x b l) m:=aaT
theorem su(b:Bool)(l:List Rec)(r:Rec):jI ad de x b (l++[r])=if r.bh=x then(if ad r then true else if de r then false else jI ad de x b l)else jI ad de x b l:=by rw[QI];rfl
theorem Sc(b:Bool)(l:List Rec)(r:Rec):jI ad de x b (r::l)=jI ad de x (if r.bh=x then(if ad r then true else if de r then false else b)else b) l:=rfl
theorem apG(l:List Rec):∀b,jI ad de x false l=true->jI ad de x b l=true:=by induction l with|nil=>intro b h;cases h|cons r l a=>intro b h;rw[Sc]at h⊢;grind
theorem aBt(l:List Rec):∀b a,(∃r∈l,r.bh=x/\(ad r=true\/de r=true))->jI ad de x b l=jI ad de x a l:=by induction l with|nil=>simp_all|cons r l f=>intro b a ⟨s,e,c,d⟩;rw[Sc,Sc];grind
theorem aEF(l:List Rec):∀b,(∀r∈l,r.bh=x->ad r=false/\de r=false)->jI ad de x b l=b:=by induction l with|nil=>intro b _;rfl|cons r l c=>intro b h;rw[Sc,c _ λs a=>h s<|rS _ a];simp_all
theorem agB(l:List Rec)(k i:Nat)(r:Rec)(h:l[i]?=aa r)(c:k<=i)(b:r.bh=x)(a:ad r=true\/de r=true):jI ad de x false (l.drop k)=jI ad de x false l:=by(conv=>rhs;rw[<-Nj k l]);rw[QI];refine aBt ad de x _ _ _ ⟨r,?_,b,a⟩;refine fp (i:=i-k) ?_;simp_all
theorem OJ(l:List Rec)(k:Nat)(h:jI ad de x false (l.drop k)=true):jI ad de x false l=true:=by rw[<-Nj k l,QI];exact apG ad de x _ _ h
end
def DJ(l:List Tx)(x:Tx):List Tx:=if x∈l then l else l++[x]
def oD(a b:Rec->Bool)(l:List Rec):List Tx:=l.foldl (λk r=>if a r then DJ k r.bh else if b r then k.filter (λy=>decide (y≠r.bh))else k) []
theorem afT(a b:Rec->Bool)(l:List Rec)(r:Rec):oD a b (l++[r])=if a r then DJ (oD a b l) r.bh else if b r then(oD a b l).filter (λy=>decide (y≠r.bh))else oD a b l:=by unfold oD;simp_all
theorem aty{l:List Tx}(x:Tx)(h:l.Nodup):(DJ l x).Nodup:=by unfold DJ;grind
theorem ajz{l:List Tx}{x y:Tx}:y∈DJ l x↔y∈l\/y=x:=by unfold DJ;grind
theorem akb(a b:Rec->Bool)(l:List Rec):(oD a b l).Nodup:=by induction l using EI with|nil=>exact CR|snoc l r c=>rw[afT];split;exact aty _ c;grind
theorem Kq(a c:Rec->Bool)(l:List Rec)(x:Tx):x∈oD a c l↔jI a c x false l=true:=by induction l using EI with|nil=>simp[oD,jI]|snoc l r e=>rw[afT,su];by_cases b:r.bh=x;rw[bw b];by_cases d:a r=true;rw[bw d,bw d,ajz];simp[b];grind;rw[dz b];split;rw[ajz];grind;grind
theorem Lb{l:List Tx}:∀{m:List Tx},l.Nodup->(∀x∈l,x∈m)->l.length<=m.length:=by induction l with|nil=>simp_all|cons a l i=>intro m g h;have d:=h a oT;have b:=Nb.1 g;have j:=i b.2 (λx f=>by have c:x≠a:=λe=>b.1 (e▸f);exact(List.mem_erase_of_ne c).2<|h x<|rS _ f);have k:=List.length_erase_of_mem d;have n:=List.length_pos_of_mem d;rw[lG];omega
def b_(k f a:Nat)(x:Tx):Ev:=⟨1,f,x,0,⟨k,f,a,x⟩⟩
def cF(f:Nat)(x:Tx)(a:Nat):Ev:=⟨2,f,x,a,jk⟩
def lJ(b a:Nat)(c:Bool)(x:Tx):Prop:=x.inc<b\/(x.inc=b/\(c=false\/x.seq<=a))
def ypA(r:Rec):Bool:=decide (r.kind=5)
def mG(r:Rec):Bool:=decide (r.kind=6)
def gu(v:Nat)(r:Rec):Bool:=decide (r.kind=1)||(decide (r.kind=2)&&decide (v≠3))||(decide (r.kind=3)&&decide (r.nodes≠0))
def jC(v:Nat)(r:Rec):Bool:=(decide (r.kind=2)&&decide (v=3))||decide (r.kind=4)
abbrev gN(l:List Rec)(x:Tx):Bool:=jI ypA mG x false l
abbrev ly(v:Nat)(l:List Rec)(x:Tx):Bool:=jI (gu v) (jC v) x false l
def rem(v:Nat)(d:cj):Nat:=if d.outcome=0/\v≠3then 2 else 1
def nZ(v:Nat)(a:List (Tx×cj)):Nat:=(a.map λx=>rem v x.2).sum
structure et(v ring aY:Nat)(up:Bool)(aX:List Rec)(safe low:Nat)(opn:List (Tx×cj))(bq:List (Tx×Nat)):Prop where
 zT:2<=aY
 m_:1<=low/\low<=aX.length+1
 jX:safe<=aX.length/\low<=safe+1
 all:∀k,safe<=k->k<=aX.length->(oD (gu v) (jC v)<|aX.take k).length+(oD ypA mG<|aX.take k).length+k<=ring*aY+(low-1)/aY*aY/\(oD (gu v) (jC v)<|aX.take k).length<=4/\(oD ypA mG<|aX.take k).length<=4
 mem:up=true->nZ v opn+bq.length+aX.length<=ring*aY+(low-1)/aY*aY/\opn.length<=4/\bq.length<=4
 sub:up=true->∀x,ly v aX x=true->∃d,bH opn x=aa d/\1<=d.fE/\∃r,aX[d.fE-1]?=aa r/\r.bh=x/\gu v r=true
 yg:∀k x,safe<=k->k<=aX.length->ly v (aX.take k) x=true->ly v ((aX.take k).drop (low-1)) x=true
 mz:(opn.map ay).Nodup
 oW:(bq.map ay).Nodup
section
variable{v id inc begun safe low:Nat}{up:Bool}
end
section
variable{v id safe low:Nat}{up:Bool}
end
theorem dH{l:List a}{r s:a}{i:Nat}(h:(l++[r])[i]?=aa s):l[i]?=aa s\/(i=l.length/\s=r):=by grind
theorem Ij{l:List a}{r s:a}{i:Nat}(h:l[i]?=aa s):(l++[r])[i]?=aa s:=by grind
def Ht(l:List a)(r:a):(l++[r])[l.length]?=aa r:=aP
def RJ(l:List a)(r:a)(h:k<=l.length):(l++[r]).take k=l.take k:=aCd h
def yO(l:List a)(r:a)(h:l.length+1<=k):(l++[r]).take k=l++[r]:=CL (by simpa using h)
def J1(l:List a)(r:a)(h:k<=l.length):(l++[r]).drop k=l.drop k++[r]:=List.drop_append_of_le_length h
section
variable{v id inc begun safe ya low:Nat}{up:Bool}
def lJ.down(h:lJ inc begun up x):lJ inc 0 false x:=h.imp (λz=>z) (λz=>⟨z.1,.inl aS⟩)
end
section
variable{v id safe ya low:Nat}{up:Bool}
def C0(l:List Rec)(r:Rec)(x:Tx)(a:r.kind≠5)(b:r.kind≠6):gN (l++[r]) x=gN l x:=by unfold gN;rw[su];simp[ypA,mG,a,b]
theorem Ak{l:List (Tx×b)}(h:cR l x=true):∃a,bH l x=aa a:=by unfold cR at h;unfold bH;have⟨y,c,d⟩:=List.any_eq_true.1 h;cases e:l.find? λy=>decide (y.1=x)with|none=>grind|some z=>simp_all
end
section
variable{v ring aY safe ya low:Nat}{up:Bool}{opn opn':List (Tx×cj)}{bq G7:List (Tx×Nat)}
def ae2(v:Nat)(d:cj):1<=rem v d:=by unfold rem;split<;>omega
def xt(v:Nat)(x:Tx×cj)(l:List (Tx×cj)):nZ v (x::l)=rem v x.2+nZ v l:=by simp[nZ]
def Pb(v:Nat)(l:List (Tx×cj)):l.length<=nZ v l:=by induction l with|nil=>exact gi _|cons x l a=>rw[xt,lG];have:=ae2 v x.2;omega
def abq(h:∀x,ly v aX x=true->∃d,bH opn x=aa d):(oD (gu v) (jC v) aX).length<=opn.length:=by have:=Lb (m:=opn.map ay) (akb (gu v) (jC v) aX) (λx b=>by have⟨d,a⟩:=h x<|(Kq _ _ _ _).1 b;exact fY.2 ⟨_,jA a,aS⟩);simpa using this
def ajp(h:∀x,cR bq x=gN aX x):(oD ypA mG aX).length<=bq.length:=by have:=Lb (akb ypA mG aX) λx a=>rL.1<|(h x).trans<|(Kq _ _ _ _).1 a;simpa using this
theorem et.app(h:et v ring aY up aX safe low opn bq)(y:safe<=ya)(g:ya<=aX.length+1)(o:nZ v opn'+G7.length+(aX.length+1)<=ring*aY+(low-1)/aY*aY/\opn'.length<=4/\G7.length<=4)(b:∀x,ly v (aX++[r]) x=true->∃d,bH opn' x=aa d/\1<=d.fE/\∃s,(aX++[r])[d.fE-1]?=aa s/\s.bh=x/\gu v s=true)(q:∀x,cR G7 x=gN (aX++[r]) x)(p:(opn'.map ay).Nodup)(f:(G7.map ay).Nodup):et v ring aY up (aX++[r]) ya low opn' G7:=by have j:=h.m_;have i:=h.jX;refine⟨h.zT,by simp;omega,⟨by simpa using g,aM⟩,λk n e=>?_,λ_=>by simpa using o,λ_=>b,λk x n e c=>?_,p,f⟩;by_cases a:k<=aX.length;rw[RJ _ _ a];exact h.all k aM a;rw[yO _ _ aM];have t:=abq (λx c=>by have⟨d,m,_⟩:=b x c;exact⟨d,m⟩);have u:=ajp q;have w:=Pb v opn';grind;by_cases a:k<=aX.length;rw[RJ _ _ a]at c⊢;exact h.yg k x aM a c;rw[yO _ _ aM]at c⊢;rw[J1 _ _ aM];unfold ly at c⊢;rw[su]at c⊢;have l:=h.yg aX.length x i.1<|bB _;grind
def et.xY(h:et v ring aY up aX safe low opn bq){a:Nat}(j:up=true)(s:∀x,cR bq x=gN aX x)(w:low<=a)(e:a<=aX.length+1)(f:a=low\/∀x d,bH opn x=aa d->d.fE≠0->a<=d.fE):et v ring aY up aX aX.length a opn bq:=by have n:(low-1)/aY*aY<=(a-1)/aY*aY:=qU _<|aaC aM;have⟨y,t,u⟩:=h.mem j;refine⟨h.zT,⟨by have:=h.m_;omega,e⟩,⟨bB _,e⟩,λk q i=>?_,λ_=>⟨aM,t,u⟩,h.sub,λk x q i c=>?_,h.mz,h.oW⟩;have b:k=aX.length:=aM;subst b;rw[ub];have o:=abq (λx c=>by have⟨d,g,_⟩:=h.sub j x c;exact⟨d,g⟩);have l:=ajp s;have m:=Pb v opn;omega;have b:k=aX.length:=aM;subst b;rcases f with rfl|f;exact h.yg aX.length x h.jX.1 (bB _) c;rw[ub]at c⊢;have⟨d,g,o,r,l,m,p⟩:=h.sub j x c;have:=f x d g aM;unfold ly;rw[agB (gu v) (jC v) x aX (a-1) (d.fE-1) r l aM m<|.inl p];exact c
def et.cP(h:et v ring aY up aX safe low opn bq)(l:safe<=k)(i:k<=aX.length):et v ring aY false (aX.take k) safe low [] []:=by have a:∀j,(aX.take k).take j=aX.take (min j k):=λj=>List.take_take;(have d:(aX.take k).length=k:=by rw[FQ];omega);have c:=h.jX.2;refine⟨h.zT,⟨h.m_.1,aM⟩,⟨aM,c⟩,λj g b=>?_,λe=>(by cases e),λe=>(by cases e),λj x g b f=>?_,CR,CR⟩;rw[a];have:=h.all (min j k) aM aM;omega;rw[a]at f⊢;exact h.yg _ x aM aM f
end
section
variable{α:Type}
theorem S_{a b:Bool}(h:a=true↔b=true):a=b:=aR
def aft(l:List (Tx×α))(t x:Tx)(a:α):cR (cx l t a) x=cR l x:=S_ (by rw[rL,rL,H5])
theorem Hz(l:List (Tx×α))(t x:Tx)(a:α):cR (dw l t a) x=(cR l x||decide (x=t)):=by unfold dw;by_cases h:cR l t=true;{rw[bw h,aft];simp_all};rw[dz h];unfold cR;grind
theorem D6(l:List (Tx×α))(t x:Tx):cR (cU l t) x=(cR l x&&decide (x≠t)):=by refine S_ ?_;rw[fF,rL,rL,fY,fY];constructor;rintro⟨y,a,rfl⟩;have⟨b,c⟩:=Jh.1 a;grind;rintro⟨⟨y,a,rfl⟩,b⟩;exact⟨y,Jh.2 ⟨a,b⟩,aS⟩
theorem Cc{l:List (Tx×α)}:bH l x=af↔cR l x=false:=by constructor;{intro h;cases b:cR l x with|false=>rfl|true=>have⟨a,e⟩:=Ak b;simp_all};{intro h;cases b:bH l x with|none=>rfl|some a=>have:=rL.2<|fY.2 ⟨_,jA b,aS⟩;simp_all}
def yv{l:List (Tx×α)}{a:α}(h:bH l x=aa a):cR l x=true:=by cases b:cR l x with|true=>rfl|false=>rw[Cc.2 b]at h;cases h
theorem mg{l:List (Tx×α)}{a:α}(h:cR l t=true):bH (cx l t a) t=aa a:=by unfold cR at h;unfold bH cx;induction l with|nil=>simp at h|cons y l b=>grind
theorem alj(l:List (Tx×α))(a:α)(h:x≠t):bH (l++[(t,a)]) x=bH l x:=by unfold bH;grind
theorem apk{l:List (Tx×α)}(a:α)(h:cR l t=false):bH (l++[(t,a)]) t=aa a:=by have b:=Cc.2 h;unfold bH at b⊢;grind
def xB(l:List (Tx×α))(a:α)(h:x≠t):bH (dw l t a) x=bH l x:=by unfold dw;split;exact sI l a h;exact alj l a h
def xj(l:List (Tx×α))(t:Tx)(a:α):bH (dw l t a) t=aa a:=by unfold dw;split;exact mg (by assumption);rename_i b;exact apk a (by simpa using b)
def zM(l:List (Tx×α))(t:Tx):bH (cU l t) t=af:=Cc.2 (by rw[D6];simp)
end
theorem RZ(n:NM)(a:n.aZ.bK<=3):n.eJ 1=decide (n.aZ.bK≠3):=by unfold NM.eJ NM.nQ;simp_all
def xr(r:Rec):Nat:=if r.kind=2then 1 else 2
structure JY(v i:Nat)(L:List Rec)(opn:List (Tx×cj))(bq:List (Tx×Nat)):Prop where
 KP:∀x,cR opn x=jI (gu v) (jC v) x false L
 R8:∀x,cR bq x=jI ypA mG x false L
 A9:∀x d,bH opn x=aa d->∃j r,L[j]?=aa r/\r.bh=x/\gu v r=true/\d.parts=r.nodes/\d.waits=r.nodes/\d.outcome=xr r/\d.gh=0/\d.fE=i+j/\∀j' s,j<j'->L[j']?=aa s->s.bh=x->gu v s=false/\jC v s=false
 P5:∀x k,bH bq x=aa k->∃j r,L[j]?=aa r/\r.kind=5/\r.bh=x/\k=i+j
 mz:(opn.map ay).Nodup
 oW:(bq.map ay).Nodup
theorem axv(n:NM)(i:Nat)(r:Rec)(b:Nat)(c:n.aZ.bK<=3):(n.gw i r b).opn=if gu n.aZ.bK r then dw n.opn r.bh ⟨r.nodes,r.nodes,xr r,0,i,b⟩else if jC n.aZ.bK r then cU n.opn r.bh else n.opn:=by unfold NM.gw gu jC xr;split;rename_i h;simp[h,NM.reopen];rename_i h;rw[RZ n c];by_cases a:n.aZ.bK=3<;>simp[h,a,NM.reopen];rename_i h;by_cases a:r.nodes=0<;>simp[h,a,NM.reopen];{simp_all};rename_i h;simp[h,NM.dY];split<;>rfl;rename_i h;simp[h,NM.dY];split<;>rfl;simp_all
theorem ay4(n:NM)(i:Nat)(r:Rec)(b:Nat):(n.gw i r b).bq=if ypA r then dw n.bq r.bh i else if mG r then cU n.bq r.bh else n.bq:=by unfold NM.gw ypA mG;split;rename_i h;simp[h,NM.reopen];rename_i h;split<;>simp[h,NM.reopen];rename_i h;split<;>simp[h,NM.reopen];{simp_all};rename_i h;simp[h,NM.dY];split<;>rfl;rename_i h;simp[h,NM.dY];split<;>rfl;simp_all
theorem adA(n:NM)(i:Nat)(r:Rec)(b:Nat):(n.gw i r b).marks=if r.kind=5\/r.kind=6then(n.dY r.bh).marks else n.marks:=by unfold NM.gw;split;rename_i h;simp[h,NM.reopen];rename_i h;split<;>simp[h,NM.reopen];rename_i h;split<;>simp[h,NM.reopen];{simp_all};rename_i h;simp[h,NM.dY,NM.lu];split<;>rfl;rename_i h;simp[h,NM.dY,NM.lu];split<;>rfl;simp_all
structure Ei(n m:NM):Prop where
 id:m.id=n.id
 aZ:m.aZ=n.aZ
 up:m.up=n.up
 inc:m.inc=n.inc
 aX:m.aX=n.aX
 low:m.low=n.low
 safe:m.safe=n.safe
 notes:m.notes=n.notes
 begun:m.begun=n.begun
 evs:m.evs=n.evs
 fQ:m.fQ=n.fQ
 bV:m.bV=n.bV
 Dl:m.forced=n.forced/\m.dC=n.dC/\m.cQ=n.cQ
def Ei.trans{a b c:NM}(h:Ei a b)(k:Ei b c):Ei a c:=⟨k.id.trans h.id,k.aZ.trans h.aZ,k.up.trans h.up,k.inc.trans h.inc,k.aX.trans h.aX,k.low.trans h.low,k.safe.trans h.safe,k.notes.trans h.notes,k.begun.trans h.begun,k.evs.trans h.evs,k.fQ.trans h.fQ,k.bV.trans h.bV,k.Dl.1.trans h.Dl.1,k.Dl.2.1.trans h.Dl.2.1,k.Dl.2.2.trans h.Dl.2.2⟩
def al4(n:NM)(i:Nat)(r:Rec)(b:Nat):Ei n (n.gw i r b):=by unfold NM.gw NM.reopen NM.dY;split<;>(try split)<;>exact⟨aS,aS,aS,aS,aS,aS,aS,aS,aS,aS,aS,aS,aS,aS,aS⟩
def Qu(l:List (Rec×Nat)):∀n i,Ei n (n.h_ i l):=by induction l with|nil=>intro n i;exact⟨aS,aS,aS,aS,aS,aS,aS,aS,aS,aS,aS,aS,aS,aS,aS⟩|cons x l a=>intro n i;exact(al4 n i x.1 x.2).trans<|a _ _
theorem awn(n:NM)(i:Nat)(M:n.aZ.bK<=3)(z:n.opn=[])(A:n.bq=[])(l:List (Rec×Nat)):JY n.aZ.bK i (l.map ay) (n.h_ i l).opn (n.h_ i l).bq:=by induction l using EI with|nil=>refine⟨λx=>?_,λx=>?_,λx d h=>?_,λx d h=>?_,?_,?_⟩;show cR n.opn x=_;rw[z];rfl;show cR n.bq x=_;rw[A];rfl;have:bH n.opn x=aa d:=h;rw[z]at this;cases this;have:bH n.bq x=aa d:=h;rw[A]at this;cases this;{show(n.opn.map _).Nodup;simp_all};{show(n.bq.map _).Nodup;simp_all}|snoc l y c=>rw[O5,pW];have B:=Qu l n i;(have w:(n.h_ i l).aZ.bK<=3:=by rw[B.aZ];exact M);generalize Q:n.h_ i l=m at*;rw[axv m _ _ _ w,ay4,B.aZ];have k:(l.map ay).length=l.length:=vC _;generalize P:l.map ay=L at*;have⟨r,b⟩:=y;simp[ud,Js];refine⟨λx=>?_,λx=>?_,λx d h=>?_,λx d h=>?_,?_,?_⟩;{rw[su,<-c.KP];by_cases a:gu n.aZ.bK r=true;rw[bw a,bw a,Hz];grind;{rw[dz a,dz a];by_cases f:jC n.aZ.bK r=true;rw[bw f,bw f,D6];grind;simp_all}};{rw[su,<-c.R8];by_cases a:ypA r=true;rw[bw a,bw a,Hz];grind;{rw[dz a,dz a];by_cases f:mG r=true;rw[bw f,bw f,D6];grind;simp_all}};{(have g:∀{d:cj},bH m.opn x=aa d->(r.bh=x->gu n.aZ.bK r=false/\jC n.aZ.bK r=false)->∃j s,(L++[r])[j]?=aa s/\s.bh=x/\gu n.aZ.bK s=true/\d.parts=s.nodes/\d.waits=s.nodes/\d.outcome=xr s/\d.gh=0/\d.fE=i+j/\∀o u,j<o->(L++[r])[o]?=aa u->u.bh=x->gu n.aZ.bK u=false/\jC n.aZ.bK u=false:=by intro d t K;have⟨j,s,p,q,D,E,F,G,H,I,N⟩:=c.A9 x d t;refine⟨j,s,Ij p,q,D,E,F,G,H,I,λo u J C v=>?_⟩;rcases dH C with O|⟨_,rfl⟩;grind;exact K v);by_cases a:gu n.aZ.bK r=true;{rw[bw a]at h;by_cases e:x=r.bh;{subst e;rw[xj]at h;cases h;refine⟨L.length,r,Ht _ _,aS,a,aS,aS,aS,aS,aR,λo u J C=>?_⟩;grind};rw[xB _ _ e]at h;grind};{rw[dz a]at h;by_cases f:jC n.aZ.bK r=true;rw[bw f]at h;by_cases e:x=r.bh;subst e;rw[zM]at h;cases h;rw[sK _ e]at h;grind;simp_all}};{(have g:bH m.bq x=aa d->∃j s,(L++[r])[j]?=aa s/\s.kind=5/\s.bh=x/\d=i+j:=by intro t;have⟨j,s,p,q⟩:=c.P5 x d t;exact⟨j,s,Ij p,q⟩);by_cases a:ypA r=true;rw[bw a]at h;by_cases e:x=r.bh;subst e;rw[xj]at h;cases h;exact⟨L.length,r,Ht _ _,by simpa[ypA]using a,aS,by rw[k]⟩;rw[xB _ _ e]at h;exact g h;{rw[dz a]at h;by_cases f:mG r=true;rw[bw f]at h;by_cases e:x=r.bh;subst e;rw[zM]at h;cases h;rw[sK _ e]at h;exact g h;simp_all}};split;exact B0 _ _ c.mz;split;exact Cv _ c.mz;exact c.mz;split;exact B0 _ _ c.oW;split;exact Cv _ c.oW;exact c.oW
theorem adQ{l:List a}{k j:Nat}{r:a}(h:(l.drop k)[j]?=aa r):l[k+j]?=aa r:=aR
def acd(h:gu v r=true):r.kind=1\/(r.kind=2/\v≠3)\/(r.kind=3/\r.nodes≠0):=by simp[gu,xG,fF,AY]at h;omega
section
variable{v id inc begun safe low:Nat}
def lJ.up(h:lJ inc begun false x)(b:Nat):lJ (inc+1) b true x:=by unfold lJ at*;omega
theorem et.js{b f:Nat}(h:et v b f false aX safe low [] [])(a:JY v low (aX.drop (low-1)) opn bq):et v b f true aX aX.length low opn bq:=by have e:=h.all aX.length h.jX.1<|bB _;rw[ub]at e;(have E:opn.length<=(oD (gu v) (jC v) aX).length:=by have:=Lb a.mz λx c=>(Kq _ _ _ _).2<|OJ _ _ _ _ (low-1)<|(a.KP x).symm.trans<|rL.2 c;simpa using this);(have F:bq.length<=(oD ypA mG aX).length:=by have:=Lb a.oW λx c=>(Kq _ _ _ _).2<|OJ _ _ _ _ (low-1)<|(a.R8 x).symm.trans<|rL.2 c;simpa using this);(have p:nZ v opn=opn.length:=by(have:∀l:List (Tx×cj),(∀y∈l,y.2.outcome≠0)->nZ v l=l.length:=by intro l;induction l with|nil=>intro _;rfl|cons y l C=>intro o;rw[xt,C λz B=>o z<|rS _ B,lG];have:=o y oT;unfold rem;grind);refine this opn λy A=>?_;have⟨j,r,_,_,_,_,_,u,_⟩:=a.A9 y.1 y.2<|Kz a.mz A;rw[u];unfold xr;split<;>omega);have G:=h.m_.1;refine⟨h.zT,h.m_,⟨bB _,h.m_.2⟩,λk w i=>?_,λ_=>⟨aM,aM,aM⟩,λ_ x c=>?_,λk x w i c=>?_,a.mz,a.oW⟩;grind;{have m:=h.yg aX.length x h.jX.1 (bB _) aR;rw[ub]at m;have⟨d,n⟩:=Ak<|(a.KP x).trans m;have⟨j,r,q,s,t,_,_,_,_,D,_⟩:=a.A9 x d n;exact⟨d,n,aM,r,by rw[show d.fE-1=low-1+j from aM];exact adQ q,s,t⟩};have g:k=aX.length:=aM;subst g;exact h.yg aX.length x h.jX.1 (bB _) c
end
theorem ae4(l:List (Tx×b))(t:Tx)(a:b):cU (cx l t a) t=cU l t:=by unfold cx cU;induction l with|nil=>rfl|cons x l c=>grind
section
variable{v id inc begun safe ya low:Nat}{up:Bool}
end
section
variable{v id inc begun safe ya low:Nat}{opn opn':List (Tx×cj)}{d:cj}
end
section
variable{v id safe ya low:Nat}{up:Bool}
theorem Iy(l:List Rec)(r:Rec)(x:Tx)(a:r.kind=5):gN (l++[r]) x=(gN l x||decide (x=r.bh)):=by unfold gN;rw[su];by_cases e:r.bh=x;subst e;simp[ypA,a];grind
theorem Fp(l:List Rec)(r:Rec)(x:Tx)(a:r.kind=6):gN (l++[r]) x=(gN l x&&decide (x≠r.bh)):=by unfold gN;rw[su];by_cases e:r.bh=x;subst e;simp[ypA,mG,a];grind
end
section
variable{d d':cj}
theorem aiA(x:Tx×cj)(l:List (Tx×cj))(t:Tx):bH (x::l) t=if x.1=t then aa x.2 else bH l t:=by unfold bH;grind
def ar6{l:List (Tx×b)}(a:b)(h:cR l t=false):cx l t a=l:=by unfold cx;(conv=>rhs;rw[<-List.map_id l]);refine xK λx c=>?_;rw[dz,id];intro e;rw[rL.2<|fY.2 ⟨x,c,e⟩]at h;cases h
def abZ{l:List (Tx×b)}(h:cR l t=false):cU l t=l:=by unfold cU;refine ala.2 λx a=>?_;simp[ne_eq,decide_not,Bool.not_eq_eq_eq_not,Bool.not_true,alf];intro e;rw[rL.2<|fY.2 ⟨x,a,e⟩]at h;cases h
def O4{x:Tx×a}{l:List (Tx×a)}(h:((x::l).map ay).Nodup):cR l x.1=false/\(l.map ay).Nodup:=by rw[ud,Nb]at h;refine⟨?_,h.2⟩;cases e:cR l x.1with|false=>rfl|true=>exact absurd (rL.1 e) h.1
theorem ag'(c:(l.map ay).Nodup)(h:bH l t=aa d):nZ v (cx l t d')+rem v d=nZ v l+rem v d':=by induction l with|nil=>cases h|cons x l f=>have⟨a,b⟩:=O4 c;rw[aiA]at h;show nZ v ((if x.1=t then(t,d')else x)::cx l t d')+_=_;by_cases e:x.1=t;rw[bw e]at h⊢;cases h;rw[ar6 _ (e▸a),xt,xt];grind;rw[dz e]at h⊢;have:=f b h;rw[xt,xt];omega
def acw(g:(l.map ay).Nodup)(h:bH l t=aa d):nZ v (cU l t)+rem v d=nZ v l/\(cU l t).length+1=l.length:=by induction l with|nil=>cases h|cons x l i=>have⟨c,f⟩:=O4 g;rw[aiA]at h;unfold cU;by_cases e:x.1=t;rw[bw e]at h;cases h;rw[abd (by simp[e])];have:List.filter (λx=>decide (x.1≠t)) l=cU l t:=rfl;rw[this,abZ (e▸c),xt,lG];omega;rw[dz e]at h;rw[List.filter_cons_of_pos (by simp[e])];have:List.filter (λx=>decide (x.1≠t)) l=cU l t:=rfl;have⟨a,b⟩:=i f h;rw[this,xt,xt,lG,lG];omega
def apY{g:Type}{l:List (Tx×g)}(d:(l.map ay).Nodup)(h:cR l t=true):(cU l t).length+1=l.length:=by induction l with|nil=>cases h|cons x l f=>have⟨b,c⟩:=O4 d;unfold cU;have a:List.filter (λx=>decide (x.1≠t)) l=cU l t:=rfl;by_cases e:x.1=t;rw[abd (by simp[e]),a,abZ (e▸b),lG];rw[List.filter_cons_of_pos (by simp[e]),a,lG,lG,f c (by unfold cR at h⊢;simpa[e]using h)]
def ajG(h:cR l t=false):nZ v (dw l t d)=nZ v l+rem v d/\(dw l t d).length=l.length+1:=by unfold dw;rw[dz (by rw[h];simp)];unfold nZ;simp
theorem aqj{l:List (Tx×b)}{a:b}(h:cR l t=false):(dw l t a).length=l.length+1:=by unfold dw;simp_all
def P0(l:List (Tx×cj)):nZ v l<=2*l.length:=by induction l with|nil=>exact bB _|cons x l a=>rw[xt,lG];(have:rem v x.2<=2:=by unfold rem;split<;>omega);omega
def ao8{l:List Rec}(h:r.bh≠x):ly v (l++[r]) x=ly v l x:=by unfold ly;rw[su,dz h]
def atj{l:List Rec}(h:4<r.kind):ly v (l++[r]) x=ly v l x:=by unfold ly;rw[su];(have a:gu v r=false:=by simp[gu];omega);(have b:jC v r=false:=by simp[jC];omega);simp[a,b]
end
section
variable{v ring aY safe ya low:Nat}{up:Bool}{d d':cj}
def et.cx(h:et v ring aY up aX safe low opn bq)(f:bH opn t=aa d)(j:d'.fE=d.fE)(l:rem v d'<=rem v d):et v ring aY up aX safe low (cx opn t d') bq:=by refine⟨h.zT,h.m_,h.jX,h.all,λg=>?_,λg x k=>?_,h.yg,by rw[H5];exact h.mz,h.oW⟩;have⟨a,b,c⟩:=h.mem g;have:=ag' (v:=v) (d':=d') h.mz f;exact⟨aM,by rw[Mr];exact b,c⟩;have⟨e,a,b⟩:=h.sub g x k;by_cases i:x=t;subst i;rw[f]at a;cases a;exact⟨d',mg<|yv f,by rw[j];exact b⟩;exact⟨e,by rw[sI _ _ i];exact a,b⟩
theorem et.cU(h:et v ring aY up aX safe low opn bq)(g:bH opn t=aa d)(j:ly v aX t=false):et v ring aY up aX safe low (cU opn t) bq:=by have⟨k,l⟩:=acw (v:=v) h.mz g;refine⟨h.zT,h.m_,h.jX,h.all,λf=>?_,λf x i=>?_,h.yg,Cv _ h.mz,h.oW⟩;have⟨a,b,c⟩:=h.mem f;omega;{have⟨e,a,b⟩:=h.sub f x i;exact⟨e,by rw[sK _ λe=>aR];exact a,b⟩}
theorem et.RU(h:et v ring aY true aX safe low opn bq){c:List (Tx×cj)}(l:∀x,x≠t->bH c x=bH opn x)(i:r.bh=t)(f:x≠t)(g:ly v (aX++[r]) x=true):∃d,bH c x=aa d/\1<=d.fE/\∃s,(aX++[r])[d.fE-1]?=aa s/\s.bh=x/\gu v s=true:=by rw[ao8 λe=>f<|e.symm.trans i]at g;have⟨e,a,b,s,j,k⟩:=h.sub aS x g;grind
theorem et.ahB(h:et v ring aY true aX safe low opn bq)(u:∀x,cR bq x=gN aX x)(n:r.kind≠5/\r.kind≠6)(f:r.bh=t)(w:safe<=ya)(j:ya<=aX.length+1)(l:bH opn t=aa d)(o:rem v d'<rem v d)(q:d'.fE=aX.length+1)(g:gu v r=true\/(jC v r=false/\ly v aX t=false)):et v ring aY true (aX++[r]) ya low (YthbmmbgkchiajaaGreat.cx opn t d') bq:=by have m:=yv l;have⟨a,b,c⟩:=h.mem aS;have A:=ag' (v:=v) (d':=d') h.mz l;refine h.app w j ⟨aM,by rw[Mr];exact b,c⟩ (λx k=>?_) (λx=>by rw[C0 _ _ _ n.1 n.2];exact u x) (by rw[H5];exact h.mz) h.oW;by_cases e:x=t;{subst e;rcases g with g|⟨s,i⟩;{exact⟨d',mg m,aM,r,aR,f,g⟩};{unfold ly at k i;rw[su,bw f]at k;by_cases p:gu v r=true;{exact⟨d',mg m,aM,r,aR,f,p⟩};simp_all}};exact h.RU (λy z=>sI _ _ z) f e k
def et.ab6(h:et v ring aY true aX safe low opn bq)(m:∀x,cR bq x=gN aX x)(i:r.kind≠5/\r.kind≠6)(k:r.bh=t)(n:safe<=ya)(g:ya<=aX.length+1)(l:bH opn t=aa d)(j:gu v r=false/\jC v r=true):et v ring aY true (aX++[r]) ya low (YthbmmbgkchiajaaGreat.cU opn t) bq:=by have⟨a,b,c⟩:=h.mem aS;have⟨p,q⟩:=acw (v:=v) h.mz l;have:=ae2 v d;refine h.app n g ⟨aM,aM,c⟩ (λx f=>?_) (λx=>by rw[C0 _ _ _ i.1 i.2];exact m x) (Cv _ h.mz) h.oW;by_cases e:x=t;subst e;unfold ly at f;rw[su,bw k,j.1,j.2]at f;cases f;exact h.RU (λy o=>sK _ o) k e f
theorem et.open(h:et v ring aY true aX safe low opn bq)(g:bH opn t=af)(l:opn.length<4)(f:2*opn.length+bq.length+2+aX.length<=ring*aY+(low-1)/aY*aY):et v ring aY true aX safe low (dw opn t d) bq:=by have⟨a,b,c⟩:=h.mem aS;have⟨m,n⟩:=ajG (v:=v) (d:=d)<|Cc.1 g;have:=P0 (v:=v) opn;(have:rem v d<=2:=by unfold rem;split<;>omega);refine⟨h.zT,h.m_,h.jX,h.all,λ_=>⟨aM,aM,c⟩,λi x j=>?_,h.yg,B0 _ _ h.mz,h.oW⟩;have⟨e,a,b⟩:=h.sub i x j;exact⟨e,by rw[xB _ _ λk=>aR];exact a,b⟩
theorem et.alA(h:et v ring aY true aX safe low opn bq)(l:∀x,cR bq x=gN aX x)(j:r.kind=1)(i:r.bh=t)(m:safe<=ya)(g:ya<=aX.length+1)(k:bH opn t=af)(p:v=3)(s:d.fE=aX.length+1)(q:opn.length<4)(f:2*opn.length+bq.length+2+aX.length<=ring*aY+(low-1)/aY*aY):et v ring aY true (aX++[r]) ya low (dw opn t d) bq:=by have⟨a,b,c⟩:=h.mem aS;have⟨u,w⟩:=ajG (v:=v) (d:=d)<|Cc.1 k;have:=P0 (v:=v) opn;(have:rem v d=1:=by unfold rem;simp_all);refine h.app m g ⟨aM,aM,c⟩ (λx n=>?_) (λx=>by rw[C0 _ _ _ aM aM];exact l x) (B0 _ _ h.mz) h.oW;by_cases e:x=t;{subst e;exact⟨d,xj _ _ _,aM,r,aR,i,by simp[gu,j]⟩};exact h.RU (λy o=>xB _ _ o) i e n
theorem et.afN(h:et v ring aY true aX safe low opn bq)(f:4<r.kind)(c:ly v (aX++[r]) x=true):∃d,bH opn x=aa d/\1<=d.fE/\∃s,(aX++[r])[d.fE-1]?=aa s/\s.bh=x/\gu v s=true:=by rw[atj f]at c;have⟨e,a,b,s,g,i⟩:=h.sub aS x c;grind
def et.mi(h:et v ring aY true aX safe low opn bq)(f:∀x,cR bq x=gN aX x)(e:cR bq t=false)(i:bq.length<4)(d:2*opn.length+bq.length+2+aX.length<=ring*aY+(low-1)/aY*aY):et v ring aY true (aX++[⟨5,t,0,0⟩]) (aX.length+1) low opn (dw bq t (aX.length+1)):=by have⟨a,b,c⟩:=h.mem aS;have j:=aqj (a:=aX.length+1) e;have:=P0 (v:=v) opn;refine h.app (by have:=h.jX.1;omega) (bB _) ⟨aM,b,aM⟩ (λx g=>h.afN aP g) (λx=>by rw[Iy _ _ _ aS,Hz,f x]) h.mz<|B0 _ _ h.oW
def et.apply(h:et v ring aY true aX safe low opn bq)(f:∀x,cR bq x=gN aX x){j:Nat}(e:cR bq t=true)(g:safe<=ya)(d:ya<=aX.length+1):et v ring aY true (aX++[⟨6,t,0,j⟩]) ya low opn (YthbmmbgkchiajaaGreat.cU bq t):=by have⟨a,b,c⟩:=h.mem aS;have k:=apY h.oW e;refine h.app g d ⟨aM,b,aM⟩ (λx i=>h.afN aP i) (λx=>by rw[Fp _ _ _ aS,D6,f x]) h.mz<|Cv _ h.oW
theorem et.ui(h:et v ring aY true aX safe low opn bq)(d:0<opn.length+bq.length):¬(low-1)/aY+ring<=aX.length/aY:=by have⟨a,b,c⟩:=h.mem aS;have:=Pb v opn;have g:=h.zT;intro e;have f:=cL (qU _ e)<|Je _ _;grind
theorem et.aiD(h:et v ring aY true aX safe low opn bq)(a:aX.length<ring*aY+(low-1)/aY*aY):¬(low-1)/aY+ring<=aX.length/aY:=by intro e;have b:=cL (qU _ e)<|Je _ _;grind
end
structure l6(N:Nat)(x:Tx):Prop where
 a_:x.a_<N
 lf:1<=x.inc
 inc:x.inc<=1073741824
 seq:x.seq<=1073741824
def qf(y:Tx):Prop:=y.inc<=1073741824/\y.seq<=1073741824
structure SI(N inc begun:Nat)(aX:List Rec)(notes:List Tx)(opn:List (Tx×cj))(bq:List (Tx×Nat))(marks:List Tx):Prop where
 lf:1<=inc
 vW:inc<=1073741824
 zy:begun<=1073741824
 pG:∀r∈aX,l6 N r.bh/\1<=r.kind/\r.kind<=6/\r.nodes<2^N/\r.outcome<3
 wP:notes=[]\/notes.length=4/\∀y∈notes,qf y
 oF:∀x d,bH opn x=aa d->l6 N x/\d.parts<2^N/\d.waits<2^N
 jf:∀x,cR bq x=true->l6 N x
 x_:marks.length=4/\∀y∈marks,qf y
section
variable{N p:Nat}{T es:List Ev}{ns:List NM}{n n':NM}
end
