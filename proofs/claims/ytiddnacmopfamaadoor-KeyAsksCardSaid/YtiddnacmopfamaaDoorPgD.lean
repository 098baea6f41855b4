/- Proper of the reference. -/
import Derived.Test.YtiddnacmopfamaaDoorPgB
namespace Go.Proofs.YtiddnacmopfamaaDoor
open Go.RowKit
set_option linter.unusedVariables false
set_option linter.unusedSimpArgs false

end Go.Proofs.YtiddnacmopfamaaDoor
