/- The program that is evaluated; which functions without a text are followed; how many variables there are. -/
import Derived.Test.YtafajhplaldeaaaEvT
import Derived.Test.YtafajhplaldeaaaProg
namespace Go.Ev
open Go
inductive Ext where
  | same | indexByte | count | index | compare | makeNoZero (el : TypeId) | cas (k : IntKind) | loadA (k : IntKind) | storeA | addA (k : IntKind) | nothing | marked | mapClone | twin (f : Nat)
noncomputable def PP : Program := Go.Proofs.Try.prog
def XX (f : Nat) : Option Ext := match f with
  | 59 => some .nothing
  | 60 => some (.cas .i32)
  | 61 => some .nothing
  | 62 => some .marked
  | 64 => some .marked
  | 65 => some (.addA .i32)
  | _ => none
def NG : Nat := 0
def LB : Nat := 1048576
end Go.Ev
