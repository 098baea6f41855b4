/- The program that is evaluated; which functions without a text are followed; how many variables there are. -/
import Derived.Test.YthagfammfejenaaDoorEvT
import Derived.Test.YthagfammfejenaaDoorProg
namespace Go.Ev
open Go
inductive Ext where
  | same | indexByte | count | index | compare | makeNoZero (el : TypeId) | cas (k : IntKind) | loadA (k : IntKind) | storeA | addA (k : IntKind) | nothing | twin (f : Nat)
noncomputable def PP : Program := Go.Proofs.Tryd.prog
def XX (f : Nat) : Option Ext := match f with
  | 69 => some .count
  | 97 => some .same
  | 111 => some .indexByte
  | _ => none
def NG : Nat := 4
end Go.Ev
