/- Proper of the program: the whole text. -/
import Derived.Test.YtiddnacmopfamaaDoorPgZ
namespace Go.Proofs.YtiddnacmopfamaaDoor
open Go.RowKit
set_option linter.unusedVariables false
set_option linter.unusedSimpArgs false

def propT (s : ByteArray) (p : Int) : ByteArray := if wrongN p 0 [s] = 0 then propS p.toNat s else ⟨#[]⟩

end Go.Proofs.YtiddnacmopfamaaDoor
