import Derived.Test.YthbmmbgkchiajaaGreatZ0
import GoSem.Step
set_option maxRecDepth 100000
set_option maxHeartbeats 8000000
set_option linter.all false
open Go renaming Value→ah
open Option renaming none→ai
open Go.IntKind renaming i64→aa
namespace Go.Proofs
instance:Coe Int ah:=⟨.int aa⟩
instance:Coe Nat ah:=⟨λn=>.int aa n⟩
instance:Coe Bool ah:=⟨.bool⟩
instance:Coe Nat Addr:=⟨λp=>⟨p,0,ai⟩⟩
instance{p q:Nat}:CoeDep (Nat×Nat) (p,q) Addr:=⟨⟨p,q,ai⟩⟩
structure Mx where
 a:Unit
def mx:Mx:=⟨()⟩
structure Nx where
 a:Unit
def nx:Nx:=⟨()⟩
structure Iz where
 a:Unit
instance:Coe Iz ah:=⟨λ_=>.int aa 0⟩
instance:Coe Mx Nat:=⟨λ_=>1099511627776⟩
instance:Coe Nx ah:=⟨λ_=>.slice ai 0 0⟩
instance:Coe Unit (Nat->Prop):=⟨λ_ _=>False⟩
