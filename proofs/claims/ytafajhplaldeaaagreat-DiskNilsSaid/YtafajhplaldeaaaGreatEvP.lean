/- The program that is evaluated; which functions without a text are followed; how many variables there are. -/
import Derived.Test.YtafajhplaldeaaaGreatEvT
import Derived.Test.YtafajhplaldeaaaGreatProg
namespace Go.Ev
open Go
inductive Ext where
  | same | indexByte | count | index | compare | makeNoZero (el : TypeId) | cas (k : IntKind) | loadA (k : IntKind) | storeA | addA (k : IntKind) | nothing | marked | mapClone | twin (f : Nat)
noncomputable def PP : Program := Go.Proofs.Tryz.prog
def XX (f : Nat) : Option Ext := match f with
  | 87 => some .mapClone
  | 90 => some .nothing
  | 91 => some (.cas .i32)
  | 92 => some .nothing
  | 93 => some .marked
  | 95 => some .marked
  | 96 => some (.addA .i32)
  | _ => none
def NG : Nat := 0
def LB : Nat := 65536
end Go.Ev
