/-
  DERIVED. GIVEN WITH THE SEED: THE CARDS: each row of YtafajhplaldeaaaGreatDoorRows.lean that lists a variable, with what it lists TIED to the program's text (the seventh form; the later family's looks); each row that meets fmt, with fmt's text TOLD by the authors' own Lean function (tested against real Go, not proved from fmt's source: count such statements apart). THE CARD IS WHAT COUNTS. Prove the row's statement (the work); the ties are given (YtafajhplaldeaaaGreatDoorTie.lean); close each card by the builder's one call (the guide's Derived/Test/ToyasCard.lean, 'card_holds'). Laid BY PROGRAM, IN A SANDBOX (cutbox-door.mjs). By AI agents, Wed Nov 11 2026. No macro, syntax, notation, axiom, sorry.
-/
import Derived.Test.YtafajhplaldeaaaGreatDoorRows
import GoSem.ClaimSeven
namespace Go.Proofs.YtafajhplaldeaaaGreatDoor
namespace Rows

/-- THE TIED CARD OF 'cabinetrylaw17.BufNils'. -/
def bufNilsCard : Claim7 := { stood := { row := bufNilsRow, standIns := [], harness := (true, "76a1f4f6411672b33dc0da518540ac282d6fd7c1d01b2d4a162191c5deea1857"), looks := true }, kinds := [], alts := [], laidByText := true, laidKinds := [.data, .data, .data, .data, .data, .pinned], laidTests := true, laidLooks := .later }
def BufNilsCardSaid : Prop := Claim7.holds Tryz.pinned (.plain (OpenSpec.ofChange bufNilsSpec)) bufNilsCard

/-- THE TIED CARD OF 'cabinetrylaw18.LogNil'. -/
def logNilCard : Claim7 := { stood := { row := logNilRow, standIns := [], harness := (true, "76a1f4f6411672b33dc0da518540ac282d6fd7c1d01b2d4a162191c5deea1857"), looks := true }, kinds := [], alts := [], laidByText := true, laidKinds := [.data, .data, .data, .data, .data, .data, .pinned], laidTests := true, laidLooks := .later }
def LogNilCardSaid : Prop := Claim7.holds Tryz.pinned (.plain (OpenSpec.ofChange logNilSpec)) logNilCard

/-- THE SECOND FORM's CARD OF 'cabinetrylaw17.BufNils'. -/
def bufNilsUptoCard : Claim7 := { stood := { row := bufNilsUptoRow, standIns := [], harness := (true, "76a1f4f6411672b33dc0da518540ac282d6fd7c1d01b2d4a162191c5deea1857"), looks := true }, kinds := [], alts := [], laidByText := true, laidKinds := [.data, .data, .data, .data, .data, .pinned], laidTests := true, laidLooks := .later }
def BufNilsUptoCardSaid : Prop := Claim7.holds Tryz.pinned (.plain (OpenSpec.upto bufNilsSpec)) bufNilsUptoCard

/-- THE SECOND FORM's CARD OF 'cabinetrylaw18.LogNil'. -/
def logNilUptoCard : Claim7 := { stood := { row := logNilUptoRow, standIns := [], harness := (true, "76a1f4f6411672b33dc0da518540ac282d6fd7c1d01b2d4a162191c5deea1857"), looks := true }, kinds := [], alts := [], laidByText := true, laidKinds := [.data, .data, .data, .data, .data, .data, .pinned], laidTests := true, laidLooks := .later }
def LogNilUptoCardSaid : Prop := Claim7.holds Tryz.pinned (.plain (OpenSpec.upto logNilSpec)) logNilUptoCard
end Rows
end Go.Proofs.YtafajhplaldeaaaGreatDoor
