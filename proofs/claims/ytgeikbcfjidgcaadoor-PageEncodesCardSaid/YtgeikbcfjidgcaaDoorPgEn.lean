/- The way back: what Utf8.encode wrote of a byte's character, Utf8.decode reads, wherever it stands. -/
import Derived.Test.YtgeikbcfjidgcaaDoorPgDp
namespace Go.Proofs.YtgeikbcfjidgcaaDoor
open Go.RowKit
set_option linter.unusedVariables false

theorem dec_tab : ∀ (p : Fin 3) (b : Fin 256), (chI p.val b.val).isSome = true → (((Utf8.decode (Utf8.encode ((chI p.val b.val).getD 0)) 0).1 : Int) = (chI p.val b.val).getD 0 ∧ (Utf8.decode (Utf8.encode ((chI p.val b.val).getD 0)) 0).2 = (Utf8.encode ((chI p.val b.val).getD 0)).size) := by decide +kernel
end Go.Proofs.YtgeikbcfjidgcaaDoor
