import Derived.Test.YthbmmbgkchiajaaGreatD6
import Derived.Test.YthbmmbgkchiajaaGreatB2
set_option maxRecDepth 100000
set_option maxHeartbeats 8000000
set_option linter.all false
open Go renaming World→ah,Calls→aj,Value→ai
open And renaming intro→aA
open Option renaming some→aa,none→af
open Go.IntKind renaming i64→ae
namespace Go.Proofs.YthbmmbgkchiajaaGreat
open Go.RowKit Tryz
section
attribute[local go_sem↓]abw
def aIP(a b c:Bool):a=false\/(a=true/\b=false)\/(a=true/\b=true/\c=false)\/(a=true/\b=true/\c=true):=by cases a<;>cases b<;>cases c<;>simp
def an3{w:ah}{e a n b:Nat}{d:Option Addr}{i:List ai}(h:w.ownsRow 0 e a (.slice d n b) n i){j:Nat}(l:j<n):∃g,d=aa ⟨g,0,af⟩:=by rcases h.2with⟨e,k⟩|⟨g,c,f,e,_⟩;cases e;omega;cases e;exact⟨g,aS⟩
end
section
def neE(x y:ai):Sem ai:=binOp .neq 56 x y
def aDd(x y:ai):binOp .neq 56 x y=neE x y:=rfl
def ams(W:ah)(d:Nat)(t:Tx):(Op.equalIn (d+2) 38 (bC t)<|bC t).run prog W=.ok true W:=by unfold bC Op.equalIn;simp[go_sem,underlying38,part]
def aA9(W:ah)(d:Nat)(m:fq):(Op.equalIn (d+3) 54 (.agg (fB m).toArray)<|.agg (fB m).toArray).run prog W=.ok true W:=by have h:=λW=>ams W d m.bh;unfold bC at h;unfold Op.equalIn fB;simp[go_sem,underlying54,part,h]
def aE1(W:ah)(e:Ev):(Op.equal 56 (.agg (cG e).toArray)<|.agg (cG e).toArray).run prog W=.ok true W:=by have a:=λW=>ams W 9997 e.bh;have b:=λW=>aA9 W 9996 e.gM;unfold bC at a;unfold fB at b;rw[show Op.equal 56 (.agg (cG e).toArray) (.agg (cG e).toArray)=Op.equalIn (9999+1) 56 (.agg (cG e).toArray) (.agg (cG e).toArray)from rfl];unfold Op.equalIn cG;simp[go_sem,underlying56,part,a,b]
def ayJ(W:ah)(e:Ev):(neE (.agg (cG e).toArray)<|.agg (cG e).toArray).run prog W=.ok (.bool false) W:=by have a:neE (.agg (cG e).toArray) (.agg (cG e).toArray)=(λb=>Value.bool (!b))<$>Op.equal 56 (.agg (cG e).toArray) (.agg (cG e).toArray):=rfl;rw[a];simp[aE1]
attribute[local go_sem↓]aDd
def ay3(o p:Option Addr)(g h:Nat)(l:List Ev)(w:ah)(k:w.ownsRow 0 56 12 (.slice o l.length g) l.length (l.flatMap cG))(m:w.ownsRow 0 56 12 (.slice p l.length h) l.length (l.flatMap cG))(hl:l.length<=1099511627776):aj prog 37 #[.slice o l.length g,.slice p l.length h] w λe w'=>e=.returned (.bool true):=by have d:=aW<|aA k m;clear k m;go_enter func37,ntmps37;go_wp2;go_loopw[5] (λi wr=>∃j:Nat,j<=l.length/\i=.int ae (j:Int)/\∃q,wr=w.drewN q) (λi _=>l.length-(intOf i).toNat);(case atStart=>exact⟨0,aM,aS,⟨0,aS⟩⟩);case round=>obtain⟨j,hj,rfl,⟨q,U⟩⟩:=hrel;by_cases c:j<l.length;{obtain⟨R,rfl⟩:=an3 (aU d).1 c;obtain⟨S,rfl⟩:=an3 (aU d).2 c;have a:=Ln (aqM R l w (aU d).1) (aV.DK w q) j c;have b:=Ln (aqM S l w (aU d).2) (aV.DK w q) j c;have f:=λW=>ayJ W<|l.getD j eY;have Z:(0:Int)<=(j:Int):=kg _;have n:(j:Int)<(l.length:Int):=aM;have r:=a 0 aM;have s:=a 1 aM;have t:=a 2 aM;have u:=a 3 aM;have v:=a 4 aM;have x:=a 5 aM;have y:=a 6 aM;have z:=a 7 aM;have A:=a 8 aM;have B:=a 9 aM;have C:=a 10 aM;have D:=a 11 aM;have E:=b 0 aM;have F:=b 1 aM;have G:=b 2 aM;have H:=b 3 aM;have I:=b 4 aM;have J:=b 5 aM;have K:=b 6 aM;have L:=b 7 aM;have M:=b 8 aM;have N:=b 9 aM;have O:=b 10 aM;have P:=b 11 aM;clear a b d;generalize l.getD j eY=Q at*;have⟨V,X,⟨a,b,xc⟩,Y,⟨mk,mf,mt,⟨ma,mb,mc⟩⟩⟩:=Q;simp[cG]at f;simp[cG]at r s t u v x y z A B C D E F G H I J K L M N O P;go_wp2_with fail;go_region_with(fail);all_goals go_wp2;go_roundw;(case rel=>exact⟨j+1,aM,by go_num,⟨_,aS⟩⟩);case measure=>simp[intOf];omega};{have T:¬(j:Int)<(l.length:Int):=aM;go_wp2;go_ret;rfl}
end
