import Derived.Test.YthbmmbgkchiajaaGreatZ0
import GoSem.Step
set_option maxRecDepth 100000
set_option maxHeartbeats 8000000
set_option linter.all false
open Go renaming World→Z,Value→Q
open Option renaming some→Y,none→H
open _root_ renaming Nat→V,List→R,Int→S,Array→aC,False→aM,Bool→aK,CoeDep→SO
open Go.Value renaming int→aA
open Go.IntKind renaming i64→A
namespace Go.Proofs
instance:Coe S Q:=⟨.int A⟩
instance:Coe V Q:=⟨λn=>aA A n⟩
instance:Coe aK Q:=⟨.bool⟩
instance:Coe V Addr:=⟨λp=>⟨p,0,H⟩⟩
instance{p q:V}:SO (V×V) (p,q) Addr:=⟨⟨p,q,H⟩⟩
structure Mx where
 a:Unit
def mx:Mx:=⟨()⟩
structure Nx where
 a:Unit
def nx:Nx:=⟨()⟩
structure Iz where
 a:Unit
instance:Coe Iz Q:=⟨λ_=>aA A 0⟩
instance:Coe Mx V:=⟨λ_=>1099511627776⟩
instance:Coe Nx Q:=⟨λ_=>.slice H 0 0⟩
instance:Coe Z V:=⟨λw=>w.heap.size⟩
instance{a:Type}:CoeOut (R a) V:=⟨List.length⟩
instance{a:Type}:CoeOut (R a) (aC a):=⟨List.toArray⟩
instance:Coe Addr Q:=⟨λa=>.pointer<|Y a⟩
instance{p q:V}:SO (V×V) (p,q) Q:=⟨.pointer<|Y ⟨p,q,H⟩⟩
instance{a:Addr}{n c:V}:SO (Addr×V×V) (a,n,c) Q:=⟨.slice (Y a) n c⟩
instance{p n c:V}:SO (V×V×V) (p,n,c) Q:=⟨.slice (Y ⟨p,0,H⟩) n c⟩
instance{p q n c:V}:SO ((V×V)×V×V) ((p,q),n,c) Q:=⟨.slice (Y ⟨p,q,H⟩) n c⟩
instance:Coe Unit (V->Prop):=⟨λ_ _=>aM⟩
