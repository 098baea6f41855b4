/- Upper and Lower of the reference. -/
import Derived.Test.YtiddnacmopfamaaDoorPgA
import Derived.Test.YtiddnacmopfamaaDoorPgZ2
namespace Go.Proofs.YtiddnacmopfamaaDoor
open Go.RowKit
set_option linter.unusedVariables false
set_option linter.unusedSimpArgs false

theorem pair_cells (w : World) (s : ByteArray) (p : Int) :
    ((w.alloc (.cells #[.string s] 9)).alloc (.cells #[.int .i64 p] 3)).cell? ⟨w.heap.size, 0, none⟩ = some (.string s) ∧ ((w.alloc (.cells #[.string s] 9)).alloc (.cells #[.int .i64 p] 3)).cell? ⟨w.heap.size + 1, 0, none⟩ = some (.int .i64 p) :=
  ⟨cell_new1 _ _ _ _, by
    have h := cell_new2 (w.alloc (.cells #[.string s] 9)) (.int .i64 p) 3
    rwa [show (w.alloc (.cells #[.string s] 9)).heap.size = w.heap.size + 1 by simp] at h⟩
theorem two_below (w : World) (a b : Obj) : Below w.heap.size w ((w.alloc a).alloc b) := ((Below.refl _ _).alloc (Nat.le_refl _) _).alloc (by simp) _

end Go.Proofs.YtiddnacmopfamaaDoor
