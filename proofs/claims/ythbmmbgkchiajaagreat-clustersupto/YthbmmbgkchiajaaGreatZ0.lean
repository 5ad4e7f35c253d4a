import GoSem.Step
set_option linter.defProp false
namespace Go.Proofs
theorem X{p:Prop}(h:p:=by omega):p:=h
theorem bA{p:Prop}(h:p:=by decide):p:=h
theorem bB{p:Prop}(h:p:=by simp):p:=h
theorem bC{p:Prop}(h:p:=by rfl):p:=h
theorem bD{p:Prop}(h:p:=by simp_all):p:=h
def SP:=@Nat.div_le_div_right
def Eh:=@List.take_succ_eq_append_getElem
def vC:=@Array.all_eq_true'
def SS:=@Array.toList_inj
def nA:=@Array.getD_eq_getD_getElem?
def ZY:=@Nat.sub_self
def Nb:=@List.getElem?_eq_none
def s_:=@Bool.true_eq_false
def JB:=@List.length_filter_le
def wD:=@List.mem_cons_self
def ZZ:=@Array.toList_eraseIdxIfInBounds
def uY:=@List.map_map
def CI:=@List.mem_singleton
def Z0:=@List.mem_iff_getElem?
def Z1:=@List.forIn_cons
def xI:=@List.mem_range
def Gz:=@List.mem_append
def n6:=@List.not_mem_nil
def vw:=@Nat.add_le_add_right
def Nc:=@Nat.div_mul_le_self
def jS:=@if_false
def AV:=@List.map_cons
def Z2:=@Int.emod_nonneg
def iO:=@List.mem_map
def te:=@List.getElem?_replicate
def tl:=@Array.getElem?_replicate
def CJ:=@Prod.mk.injEq
def SY:=@Nat.le_of_not_lt
def GA:=@List.mem_filter
def Ek:=@Option.map_none
def uc:=@List.pairwise_iff_getElem
def Z3:=@List.length_eq_zero_iff
def CK:=@Array.toList_filter
def El:=@Nat.add_mul
def mq:=@decide_eq_true
def GD:=@Array.foldl_toList
def mY:=@List.getD_eq_getElem?_getD
def tE:=@List.Sublist.map
def ti:=@Option.bind_some
def lA:=@if_true
def dR:=@Nat.zero_le
def se:=@List.length_replicate
def mZ:=@List.getElem?_take
def q_:=@List.replicate_succ
def y_:=@List.foldl_cons
def S2:=@List.findIdx?_eq_some_iff_getElem
def Em:=@Bool.or_eq_true
def CL:=@ne_eq
def vo:=@List.getElem?_eq_none_iff
def dV:=@List.getElem?_eq_some_iff
def Nj:=@List.foldl_append
def xJ:=@Option.some.inj
def S3:=@List.mapM_cons
def JF:=@Nat.lt_trichotomy
def Nk:=@Array.getElem?_eq_none
def Z7:=@List.getElem?_cons_zero
def Z8:=@List.drop_of_length_le
def AW:=@List.nil_append
def GF:=@List.cons_append
def qM:=@List.ext_getElem?
def vF:=@Option.isNone_iff_eq_none
def Eo:=@Nat.succ_mul
def jM:=@Option.some.injEq
def rb:=@List.replicate_append_replicate
def tz:=@List.filter_eq_self
def za:=@List.map_congr_left
def rr:=@List.ext_getElem
def tP:=@List.filter_sublist
def sk:=@List.getElem?_range
def AX:=@List.length_take
def gw:=@Bool.and_eq_true
def Nl:=@Nat.le_of_ble_eq_true
def pB:=@List.length_cons
def Z':=@Nat.le_max_left
def S4:=@Nat.lt_succ_self
def pC:=@Nat.eq_zero_or_pos
def S5:=@Nat.pow_le_pow_right
def Z_:=@Go.Loc.cell.injEq
def oI:=@List.getElem?_set
def JH:=@Array.ext'
def lQ:=@List.getElem?_map
def tX:=@List.getElem_map
def η:=@List.pairwise_map
def Ep:=@List.range_succ
def S6:=@Nat.zero_mul
def Er:=@List.flatMap_append
def gi:=@List.mem_of_getElem?
def js:=@Ne.symm
def eB:=@Nat.le_trans
def tn:=@List.eq_nil_of_length_eq_zero
def S7:=@Array.mem_append
def bZ:=@if_pos
def JI:=@Nat.le_add_right
def CN:=@List.mem_toArray
def xK:=@Option.map_eq_some_iff
def wG:=@Int.natCast_nonneg
def tA:=@List.find?_cons
def S8:=@Nat.add_sub_cancel
def Nn:=@Option.getD_none
def Np:=@Nat.min_le_left
def AY:=@Nat.div_le_self
def ν:=@List.length_reverse
def Et:=@List.drop_eq_getElem_cons
def nB:=@Option.map_some
def S9:=@Nat.lt_irrefl
def uZ:=@Array.getElem?_setIfInBounds
def fI:=@Nat.lt_of_lt_of_le
def Nr:=@List.flatMap_singleton
def sT:=@List.drop_succ_cons
def Eu:=@Array.length_toList
def ta:=@decide_eq_false_iff_not
def Ns:=@List.getElem?_inj
def ξ:=@List.nodup_nil
def π:=@Array.toList_append
def rU:=@Option.getD_some
def S':=@List.map_nil
def jT:=@List.all_eq_true
def S_:=@List.length_nil
def n7:=@or_false
def Nu:=@Std.Legacy.Range.forIn_eq_forIn_range'
def Ew:=@Int.natCast_zero
def Nv:=@not_true_eq_false
def υ:=@List.filter_append
def χ:=@Array.mapM_eq_mapM_toList
def Nw:=@BitVec.ofInt_natCast
def va:=@Array.getElem_ofFn
def JK:=@List.take_add_one
def nG:=@Bool.false_eq_true
def ω:=@Nat.pos_iff_ne_zero
def NA:=@List.size_toArray
def Δ:=@List.eraseIdx_eq_take_drop_succ
def pD:=@List.length_set
def uy:=@Function.comp_def
def Tb:=@Bool.not_eq_true'
def tW:=@Array.contains_push
def p7:=@List.map_append
def Td:=@List.set_append_right
def CP:=@List.append_assoc
def uz:=@Bool.eq_false_iff
def ND:=@and_true
def Te:=@Array.toList_zipIdx
def tc:=@Array.all_eq_true_iff_forall_mem
def NE:=@List.getElem?_toArray
def ze:=@Array.ext_getElem?
def jN:=@List.length_append
def qN:=@List.getElem?_append_right
def GH:=@Array.forIn_toList
def uf:=@Array.mem_of_getElem?
def JN:=@List.append_nil
def eh:=@List.getElem?_eq_getElem
def Tf:=@Nat.lt_succ_of_lt
def CU:=@List.cons.injEq
def CV:=@List.length_singleton
def Th:=@Nat.lt_trans
def Θ:=@Nat.lt_asymm
def Ξ:=@Nat.le_max_right
def rV:=@Nat.mul_le_mul_right
def Ti:=@Array.toList_modify
def JQ:=@List.getElem?_cons_succ
def JR:=@List.set_set
def u7:=@Array.size_push
def zf:=@List.getElem?_of_mem
def Φ:=@Nat.mul_one
def zg:=@Nat.min_le_right
def JS:=@Classical.byContradiction
def sK:=@List.drop_append
def JU:=@Nat.mod_lt
def ju:=@List.mem_cons
def CW:=@List.all_cons
def xL:=@Nat.add_assoc
def p_:=@List.length_map
def Tj:=@Bool.eq_iff_iff
def uL:=@List.filter_cons
def tU:=@List.nodup_append
def CX:=@Nat.lt_of_le_of_lt
def ru:=@List.zipIdx_cons
def zh:=@List.getElem?_append_left
def CY:=@List.mem_cons_of_mem
def Tk:=@Option.bind_eq_some_iff
def tw:=@List.nodup_cons
def sS:=@Array.toList_setIfInBounds
def Ω:=@List.mapM_nil
def Tl:=@Nat.mod_eq_of_lt
def xM:=@Nat.add_zero
def A0:=@Classical.axiomOfChoice
def i9:=@Nat.zero_add
def q8:=@not_false_eq_true
def NF:=@List.take_zero
def ug:=@Nat.mul_le_mul
def JW:=@Array.toList_map
def bO:=@if_neg
def fw:=@Array.getElem?_eq_getElem
def cC:=@Nat.le_refl
def eH:=@congrArg
def IF:=@List.countP_eq_length_filter
def uh:=@List.flatMap_cons
def mr:=@decide_eq_false
def sE:=@List.drop_replicate
def sd:=@Array.getElem?_setIfInBounds_ne
def Tm:=@List.getElem_mem
def kT:=@Array.getElem?_eq_some_iff
def ui:=@List.take_of_length_le
def rG:=@List.take_append_drop
def zj:=@Nat.lt_or_ge
def uj:=@beq_iff_eq
def IN:=@Array.eq_empty_of_size_eq_zero
def vm:=@List.length_drop
def Tn:=@decide_eq_true_eq
def sf:=@Int.natCast_pow
def n9:=@beq_eq_false_iff_ne
def JX:=@List.drop_eq_nil_of_le
def q7:=@List.map_singleton
def vx:=@Nat.mul_add_mod_self_right
def m6:=@Array.getElem?_toList
def u9:=@Nat.not_lt_zero
def Ey:=@Nat.le_succ
def lR:=@of_decide_eq_false
def kj:=@of_decide_eq_true
def Ez:=@List.mem_flatMap
def _root_.Eq.bH:=@Eq.trans
def _root_.Iff.bH:=@Iff.trans
def _root_.HEq.bH:=@HEq.trans
def _root_.List.Perm.bH:=@List.Perm.trans
def _root_.Relation.TransGen.bH:=@Relation.TransGen.trans
def _root_.False.bM:=@False.elim
def _root_.Or.bM:=@Or.elim
def _root_.Subsingleton.bM:=@Subsingleton.elim
def _root_.Option.bM:=@Option.elim
def _root_.Eq.cD:=@Eq.symm
def _root_.Ne.cD:=@Ne.symm
def _root_.Or.cD:=@Or.symm
theorem ab{p:Prop}(h:p:=by grind):p:=h
theorem ae{p:Prop}(h:p:=by cases h):p:=h
theorem af{p:Prop}(h:p:=by simp;omega):p:=h
theorem ag{p:Prop}(h:p:=by have:=(bG m).2.2;omega):p:=h
theorem ah{p:Prop}(h:p:=by cases e):p:=h
theorem ai{p:Prop}(h:p:=by rw[n9];omega):p:=h
theorem aj{p:Prop}(h:p:=by simp only[phi];omega):p:=h
theorem ak{p:Prop}(h:p:=by rw[e];simp):p:=h
theorem al{p:Prop}(h:p:=by simpa using c):p:=h
theorem aq{p:Prop}(h:p:=by rw[p6];omega):p:=h
theorem au{p:Prop}(h:p:=by unfold maxLen;omega):p:=h
theorem aw{p:Prop}(h:p:=by have⟨⟨m,j,q⟩,l⟩:=h;refine⟨m,j,q,λg b a k=>?_⟩;have⟨⟨n,o,r⟩,s⟩:=k;refine⟨⟨n,λi f=>(o i<|fI f l.size).bH<|j i f,r⟩,l.bH s λi f e=>?_⟩;simp_all):p:=h
theorem ax{p:Prop}(h:p:=by simp at h):p:=h
theorem a6{p:Prop}(h:p:=by rw[lQ]at e;cases hr:(a_ (K.ps:V))[j]?with|none=>rw[hr]at e;cases e|some y=>have⟨C,h2⟩:=dV.1 hr;rw[hr]at e;simp at h2;subst h2;cases e;exact⟨by simpa using C,U⟩):p:=h
theorem a7{p:Prop}(h:p:=by simp[gZ,lM]):p:=h
theorem a8{p:Prop}(h:p:=by simpa using e):p:=h
theorem a9{p:Prop}(h:p:=by simpa[iv]using a):p:=h
theorem bk{p:Prop}(h:p:=by obtain⟨i,b,d⟩:=c;obtain⟨l⟩:=b;obtain⟨k⟩:=d;simp only at f g h;subst f g h;rw[execOp];simp only[e,resolve,invoke,builtin,qL,Ψ,Ng];simp_all):p:=h
theorem bl{p:Prop}(h:p:=by unfold NM.act;rw[e];try rfl):p:=h
theorem bm{p:Prop}(h:p:=by rw[Kr]at e;(repeat'(split at e));(all_goals first|(cases e;done)|skip);cases e;exact⟨⟨_,by assumption,by assumption⟩,by assumption⟩):p:=h
theorem bw{p:Prop}(h:p:=by rw[maxLen];omega):p:=h
theorem ca{p:Prop}(h:p:=by simpa using h):p:=h
theorem cc{p:Prop}(h:p:=by cases b;rfl):p:=h
theorem c9{p:Prop}(h:p:=by refine⟨Ren.le_refl _,bB,λc _ e=>?_,λ_ _ h=>.inl h,U,U,U,λc b d=>aS (CX b (by simpa using d))<|S9 _,cC _⟩;grind):p:=h
theorem c_{p:Prop}(h:p:=by cases e;exact bX U):p:=h
theorem db{p:Prop}(h:p:=by simp[SV.rk]at h):p:=h
theorem de{p:Prop}(h:p:=by cases e;rfl):p:=h
theorem dj{p:Prop}(h:p:=by simpa[SV.nl]using M):p:=h
theorem dk{p:Prop}(h:p:=by simpa[SV.nl]using G):p:=h
theorem dq{p:Prop}(h:p:=by rw[wF _ ⟨X,X⟩];omega):p:=h
theorem du{p:Prop}(h:p:=by simpa using d):p:=h
theorem dy{p:Prop}(h:p:=by simpa using(eH not D3).cD.bH b):p:=h
theorem dQ{p:Prop}(h:p:=by rw[bG b];rfl):p:=h
theorem eu{p:Prop}(h:p:=by have⟨m1,k1,k2⟩:=s1.m.2;have⟨m2,k3,k4⟩:=B.m.2;rw[(zH k1 .u).2,(zH k3 .u).2,k2,k4]):p:=h
theorem ew{p:Prop}(h:p:=by have⟨m,o,j⟩:=x;have⟨g,I,z⟩:=f;have⟨w,J⟩:=p;cases J;exact q s m g _ _<|.inl w):p:=h
theorem eS{p:Prop}(h:p:=by have:(e.key,e.val)∈h.map (λe=>(e.key,e.val)):=iO.2 ⟨e,b,U⟩;rw[a,iO]at this;grind):p:=h
theorem eU{p:Prop}(h:p:=by have:(cO x.1,x.2)∈l.map (λx=>(cO x.1,x.2)):=iO.2 ⟨x,b,U⟩;rw[<-a,iO]at this;grind):p:=h
theorem e_{p:Prop}(h:p:=by cases h3:l.getD 3 y with|true=>rfl|false=>have:=(G.lO h3).2.1;rw[hl4]at this;cases this):p:=h
theorem fa{p:Prop}(h:p:=by first|exact isAgg73|exact AZ|exact isAgg75):p:=h
theorem fb{p:Prop}(h:p:=by simpa[iv]using b):p:=h
theorem fs{p:Prop}(h:p:=by simpa using l):p:=h
theorem fv{p:Prop}(h:p:=by simpa using a):p:=h
theorem ga{p:Prop}(h:p:=by simp[bt,MemAct.touch?]at c):p:=h
theorem gb{p:Prop}(h:p:=by(have:0<q:=by simpa[SV.nl]using M);omega):p:=h
theorem gd{p:Prop}(h:p:=by rcases a.2with⟨e,_⟩|⟨P,c',G,e,_⟩;exact⟨_,_,_,e⟩;exact⟨_,_,_,e⟩):p:=h
theorem gf{p:Prop}(h:p:=by exact fo _ _):p:=h
theorem gk{p:Prop}(h:p:=by show n.id<_;rw[h.id.1];exact h.id.2):p:=h
theorem gn{p:Prop}(h:p:=by cases h;rfl):p:=h
theorem gv{p:Prop}(h:p:=by rw[this];simp):p:=h
theorem gx{p:Prop}(h:p:=by rw[e];rfl):p:=h
theorem gD{p:Prop}(h:p:=by assumption):p:=h
theorem gE{p:Prop}(h:p:=by have:=h.own;simp_all):p:=h
theorem gF{p:Prop}(h:p:=by show(n.evs++[_]).length<=B+1;rw[jN];have:=h.dw.evs;simp;omega):p:=h
theorem gM{p:Prop}(h:p:=by unfold World.cell? at h;grind):p:=h
theorem gN{p:Prop}(h:p:=by simpa[SV.rk]using h):p:=h
theorem gX{p:Prop}(h:p:=by simp only[bV.cN];rw[hr j f b]):p:=h
theorem g_{p:Prop}(h:p:=by rw[h.own];simp):p:=h
theorem hZ{p:Prop}(h:p:=by rw[Addr.add];split<;>simp_all):p:=h
theorem il{p:Prop}(h:p:=by have:=k1.sz.1;omega):p:=h
theorem im{p:Prop}(h:p:=by obtain rfl:=xJ (ho.cD.bH U);exact F ⟨4,.data⟩ bB U):p:=h
theorem iu{p:Prop}(h:p:=by have:=L.low;rw[Bool.and_eq_false_iff];right;exact mr X):p:=h
theorem iC{p:Prop}(h:p:=by simp[deafBehind,semEvents]):p:=h
theorem iI{p:Prop}(h:p:=by rw[s]at d;cases d):p:=h
theorem iS{p:Prop}(h:p:=by have:=p.2.1;omega):p:=h
theorem i_{p:Prop}(h:p:=by obtain rfl|rfl|rfl:n=0\/n=1\/n=2:=X;all_goals decide):p:=h
theorem jb{p:Prop}(h:p:=by rw[Region.binds];simp_all):p:=h
theorem jj{p:Prop}(h:p:=by simpa[iv]using c):p:=h
theorem jx{p:Prop}(h:p:=by rw[<-nA];exact d):p:=h
theorem jZ{p:Prop}(h:p:=by rcases d.cI with q|⟨k,q,K⟩;{simp_all};simp_all):p:=h
theorem kn{p:Prop}(h:p:=by simp[Value.ownBlock]at e):p:=h
theorem ko{p:Prop}(h:p:=by rw[s];rfl):p:=h
theorem kx{p:Prop}(h:p:=by simp[h]):p:=h
theorem ky{p:Prop}(h:p:=by simp[d]):p:=h
theorem kE{p:Prop}(h:p:=by rw[h.m.1];omega):p:=h
theorem k_{p:Prop}(h:p:=by rw[e]):p:=h
theorem la{p:Prop}(h:p:=by have:=i.2;omega):p:=h
theorem lp{p:Prop}(h:p:=by cases b<;>first|exact bX<|.int _ _|exact cR _ _):p:=h
theorem lC{p:Prop}(h:p:=by rw[mY,eh a]at*;unfold eR;rw[Eh a,υ];simp_all):p:=h
theorem lE{p:Prop}(h:p:=by obtain⟨_,_,_,g⟩:=h;exact g.len▸g.dw.2.2):p:=h
theorem lJ{p:Prop}(h:p:=by rw[g.own];simp):p:=h
theorem lK{p:Prop}(h:p:=by rw[<-l];exact((bI.refl _ w).alloc _).alloc _):p:=h
theorem lL{p:Prop}(h:p:=by rcases F with F|rfl;have:=jo d F;omega;omega):p:=h
theorem lP{p:Prop}(h:p:=by simp[bV.qK];exact C.1):p:=h
theorem mu{p:Prop}(h:p:=by show min _ 64=_;omega):p:=h
theorem mv{p:Prop}(h:p:=by rw[<-hX];exact fo _ _):p:=h
theorem mw{p:Prop}(h:p:=by unfold lI at g;omega):p:=h
theorem mB{p:Prop}(h:p:=by simpa using f):p:=h
theorem mG{p:Prop}(h:p:=by simp only;rw[f];simp):p:=h
theorem mL{p:Prop}(h:p:=by simp only;rw[L];simp):p:=h
theorem mQ{p:Prop}(h:p:=by show j<min 4 4;omega):p:=h
theorem mS{p:Prop}(h:p:=by rw[bne_iff_ne];omega):p:=h
theorem mT{p:Prop}(h:p:=by simpa[bV.qK]using T):p:=h
theorem nh{p:Prop}(h:p:=by simp[b]):p:=h
theorem nm{p:Prop}(h:p:=by rw[s];exact⟨k.base,k.os,k.obj,k.lY⟩):p:=h
theorem nF{p:Prop}(h:p:=by rw[h.T];exact k.arg):p:=h
theorem n8{p:Prop}(h:p:=by rw[dl];rw[uY];refine za λx _=>?_;grind):p:=h
theorem oe{p:Prop}(h:p:=by rw[d]at e;simp at e):p:=h
theorem ol{p:Prop}(h:p:=by cases a):p:=h
theorem ot{p:Prop}(h:p:=by simp[bt]at e):p:=h
theorem ou{p:Prop}(h:p:=by rw[uj];omega):p:=h
theorem ov{p:Prop}(h:p:=by rw[ql];omega):p:=h
theorem ox{p:Prop}(h:p:=by simpa[pend]using o):p:=h
theorem oy{p:Prop}(h:p:=by simp[Act.eval,stA]):p:=h
theorem oC{p:Prop}(h:p:=by rw[pD];exact h.m.1):p:=h
theorem oE{p:Prop}(h:p:=by have:=h.xH a;omega):p:=h
theorem oF{p:Prop}(h:p:=by cases v<;>cases x<;>first|rfl|cases h):p:=h
theorem oR{p:Prop}(h:p:=by simpa using h.len):p:=h
theorem pf{p:Prop}(h:p:=by simp[lM]):p:=h
theorem ph{p:Prop}(h:p:=by rw[m.sz];exact a1):p:=h
theorem pi{p:Prop}(h:p:=by rw[ee,sF]at E;rw[gw,gw]at E;exact E):p:=h
theorem po{p:Prop}(h:p:=by rw[JQ];exact eh X):p:=h
theorem pp{p:Prop}(h:p:=by rw[DM.TG,afe];exact eB (rV 72 X) hN):p:=h
theorem px{p:Prop}(h:p:=by rw[<-w];rfl):p:=h
theorem pJ{p:Prop}(h:p:=by rw[k.sz];exact z):p:=h
theorem pM{p:Prop}(h:p:=by rw[<-bG z];omega):p:=h
theorem p5{p:Prop}(h:p:=by rw[NM.j4,NM.uM];rw[h.cw];simp[f]):p:=h
theorem p8{p:Prop}(h:p:=by rw[<-l,ue _ _ _ bB];exact fo _ _):p:=h
theorem p9{p:Prop}(h:p:=by simpa[Value.ownBlock]using h.cD):p:=h
theorem qe{p:Prop}(h:p:=by simp[SV.ns]at h):p:=h
theorem qf{p:Prop}(h:p:=by simp at h;omega):p:=h
theorem qk{p:Prop}(h:p:=by simp at K;omega):p:=h
theorem qq{p:Prop}(h:p:=by show(w.heap.push o).size=_;simp):p:=h
theorem qt{p:Prop}(h:p:=by show(a.drawn:S)=w.drawn+_;omega):p:=h
