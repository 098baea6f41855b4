/- The program that is evaluated; which functions without a text are followed; how many variables there are. -/
import Derived.Test.YtafajhplaldeaaaGreatDoorEvT
import Derived.Test.YtafajhplaldeaaaGreatDoorProg
namespace Go.Ev
open Go
inductive Ext where
  | same | indexByte | count | index | compare | makeNoZero (el : TypeId) | cas (k : IntKind) | loadA (k : IntKind) | storeA | addA (k : IntKind) | nothing | marked | mapClone | twin (f : Nat)
noncomputable def PP : Program := Go.Proofs.Tryz.prog
def XX (f : Nat) : Option Ext := match f with
  | 151 => some .mapClone
  | 172 => some .nothing
  | 173 => some (.cas .i32)
  | 174 => some .nothing
  | 175 => some .marked
  | 177 => some .marked
  | 178 => some (.addA .i32)
  | 243 => some (.makeNoZero 5)
  | 262 => some .same
  | 273 => some .indexByte
  | _ => none
def NG : Nat := 8
def LB : Nat := 65536
end Go.Ev
