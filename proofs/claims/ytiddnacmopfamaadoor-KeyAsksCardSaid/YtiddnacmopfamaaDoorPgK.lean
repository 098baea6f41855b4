/- known and over of the statements. -/
import Derived.Test.YtiddnacmopfamaaDoorPgS
namespace Go.Proofs.YtiddnacmopfamaaDoor
open Go.RowKit
set_option linter.unusedVariables false
set_option linter.unusedSimpArgs false

theorem kn1 : upT ⟨#[228]⟩ 1 = ⟨#[196]⟩ ∧ wrongN 1 0 [⟨#[228]⟩] = 0 := by decide +kernel
theorem kn2 : upT ⟨#[228]⟩ 2 = ⟨#[148]⟩ ∧ wrongN 2 0 [⟨#[228]⟩] = 0 := by decide +kernel
theorem kn3 : weiT ⟨#[233]⟩ 1 1 = ⟨#[69]⟩ ∧ wrongN 1 1 [⟨#[233]⟩] = 0 := by decide +kernel
theorem kn4 : sndT ⟨#[84, 121, 109, 99, 122, 97, 107]⟩ = ⟨#[84, 53, 50, 50]⟩ ∧ wrongN 0 0 [⟨#[84, 121, 109, 99, 122, 97, 107]⟩] = 0 := by decide +kernel

end Go.Proofs.YtiddnacmopfamaaDoor
