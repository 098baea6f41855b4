/- A byte slice that a law is given. -/
import Derived.Test.YtoldjpnkgdhpkaaFr
import Derived.Test.YtoldjpnkgdhpkaaU
import Derived.OpenShut
namespace Go.Proofs.Ytoldjpnkgdhpkaa
open Go.RowKit
set_option linter.unusedVariables false

structure InB (w : World) (A : Option Addr) (zs : List Int) (c : Nat) : Prop where
  rd : Rd w w.heap.size .u8 A zs
  cap : zs.length ≤ c
  max : c ≤ 9223372036854775807
  byt : bytesI zs
theorem InB.of {w : World} {A : Option Addr} {xs : List Int} {c : Nat} (h1 : Rd w w.heap.size .u8 A xs) (h2 : xs.length ≤ c) (h3 : c ≤ maxLen) (h4 : ∀ z ∈ xs, (Lit.int .u8 z).wf = true) : InB w A xs c :=
  ⟨h1, h2, by unfold maxLen at h3; omega, fun z hz => bounds_u8 (h4 z hz)⟩
end Go.Proofs.Ytoldjpnkgdhpkaa
