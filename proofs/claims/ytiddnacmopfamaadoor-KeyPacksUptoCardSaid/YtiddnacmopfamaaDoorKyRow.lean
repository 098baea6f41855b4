/- Slices of truths and of texts that came in. -/
import Derived.Test.YtiddnacmopfamaaDoorKyR
namespace Go.Proofs.YtiddnacmopfamaaDoor
open Go.RowKit
set_option linter.unusedVariables false
/-- A slice of truths that came in. -/
def RdB (w : World) (A : Option Addr) (ds : List Bool) : Prop := ∀ j, j < ds.length → ∃ ad, A = some ad ∧ ad.block < w.heap.size ∧ w.cell? (ad.add j) = some (.bool (ds.getD j false))
theorem RdB.below {w w' : World} {A : Option Addr} {ds : List Bool} (h : RdB w A ds) (hb : Below w.heap.size w w') : RdB w' A ds := fun j hj => by
  obtain ⟨ad, e, hl, hc⟩ := h j hj
  exact ⟨ad, e, by have := hb.size; omega, (hb.cell (p := ad.add j) (by rw [block_of_plus]; exact hl)).trans hc⟩
/-- A slice of texts that came in. -/
def RdS (w : World) (A : Option Addr) (ss : List ByteArray) : Prop := ∀ j, j < ss.length → ∃ ad, A = some ad ∧ ad.block < w.heap.size ∧ w.cell? (ad.add j) = some (.string (ss.getD j nos))
theorem RdS.below {w w' : World} {A : Option Addr} {ss : List ByteArray} (h : RdS w A ss) (hb : Below w.heap.size w w') : RdS w' A ss := fun j hj => by
  obtain ⟨ad, e, hl, hc⟩ := h j hj
  exact ⟨ad, e, by have := hb.size; omega, (hb.cell (p := ad.add j) (by rw [block_of_plus]; exact hl)).trans hc⟩
end Go.Proofs.YtiddnacmopfamaaDoor
