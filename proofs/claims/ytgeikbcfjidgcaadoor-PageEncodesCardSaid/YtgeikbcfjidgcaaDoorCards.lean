/-
  DERIVED. GIVEN WITH THE SEED: THE CARDS: each row of YtgeikbcfjidgcaaDoorRows.lean that lists a variable, with what it lists TIED to the program's text (the seventh form; the later family's looks); each row that meets fmt, with fmt's text TOLD by the authors' own Lean function (tested against real Go, not proved from fmt's source: count such statements apart). THE CARD IS WHAT COUNTS. Prove the row's statement (the work); the ties are given (YtgeikbcfjidgcaaDoorTie.lean); close each card by the builder's one call (the guide's Derived/Test/ToyasCard.lean, 'card_holds'). Laid BY PROGRAM, IN A SANDBOX (cutbox-door.mjs). By AI agents, Wed Nov 11 2026. No macro, syntax, notation, axiom, sorry.
-/
import Derived.Test.YtgeikbcfjidgcaaDoorRows
import GoSem.ClaimSeven
namespace Go.Proofs.YtgeikbcfjidgcaaDoor
namespace Rows

/-- THE TIED CARD OF 'cabinetrylaw02.PageDecodes'. -/
def pageDecodesCard : Claim7 := { stood := { row := pageDecodesRow, standIns := [], harness := (true, "604d23044473d119d0421bccdaafaf50f86097518ed533ba3fb93cb525ff5169"), looks := false }, kinds := [], alts := [], laidByText := true, laidKinds := [.data, .data, .data, .data, .pinned], laidTests := true, laidLooks := .later }
def PageDecodesCardSaid : Prop := Claim7.holds Tryd.pinned (.plain (OpenSpec.ofChange pageDecodesSpec)) pageDecodesCard

/-- THE TIED CARD OF 'cabinetrylaw02.PageEncodes'. -/
def pageEncodesCard : Claim7 := { stood := { row := pageEncodesRow, standIns := [], harness := (true, "604d23044473d119d0421bccdaafaf50f86097518ed533ba3fb93cb525ff5169"), looks := false }, kinds := [], alts := [], laidByText := true, laidKinds := [.data, .data, .data, .data, .pinned], laidTests := true, laidLooks := .later }
def PageEncodesCardSaid : Prop := Claim7.holds Tryd.pinned (.plain (OpenSpec.ofChange pageEncodesSpec)) pageEncodesCard

/-- THE TIED CARD OF 'cabinetrylaw02.PageConverts'. -/
def pageConvertsCard : Claim7 := { stood := { row := pageConvertsRow, standIns := [], harness := (true, "604d23044473d119d0421bccdaafaf50f86097518ed533ba3fb93cb525ff5169"), looks := false }, kinds := [], alts := [], laidByText := true, laidKinds := [.data, .data, .data], laidTests := true, laidLooks := .later }
def PageConvertsCardSaid : Prop := Claim7.holds Tryd.pinned (.plain (OpenSpec.ofChange pageConvertsSpec)) pageConvertsCard

/-- THE TIED CARD OF 'cabinetrylaw02.PageCases'. -/
def pageCasesCard : Claim7 := { stood := { row := pageCasesRow, standIns := [], harness := (true, "604d23044473d119d0421bccdaafaf50f86097518ed533ba3fb93cb525ff5169"), looks := false }, kinds := [], alts := [], laidByText := true, laidKinds := [.data, .data], laidTests := true, laidLooks := .later }
def PageCasesCardSaid : Prop := Claim7.holds Tryd.pinned (.plain (OpenSpec.ofChange pageCasesSpec)) pageCasesCard

/-- THE TIED CARD OF 'cabinetrylaw02.PageFolds'. -/
def pageFoldsCard : Claim7 := { stood := { row := pageFoldsRow, standIns := [], harness := (true, "604d23044473d119d0421bccdaafaf50f86097518ed533ba3fb93cb525ff5169"), looks := false }, kinds := [], alts := [], laidByText := true, laidKinds := [.data, .data], laidTests := true, laidLooks := .later }
def PageFoldsCardSaid : Prop := Claim7.holds Tryd.pinned (.plain (OpenSpec.ofChange pageFoldsSpec)) pageFoldsCard

/-- THE TIED CARD OF 'cabinetrylaw02.PageOrders'. -/
def pageOrdersCard : Claim7 := { stood := { row := pageOrdersRow, standIns := [], harness := (true, "604d23044473d119d0421bccdaafaf50f86097518ed533ba3fb93cb525ff5169"), looks := false }, kinds := [], alts := [], laidByText := true, laidKinds := [.data, .data], laidTests := true, laidLooks := .later }
def PageOrdersCardSaid : Prop := Claim7.holds Tryd.pinned (.plain (OpenSpec.ofChange pageOrdersSpec)) pageOrdersCard

/-- THE TIED CARD OF 'cabinetrylaw02.PageSorts'. -/
def pageSortsCard : Claim7 := { stood := { row := pageSortsRow, standIns := [], harness := (true, "604d23044473d119d0421bccdaafaf50f86097518ed533ba3fb93cb525ff5169"), looks := false }, kinds := [], alts := [], laidByText := true, laidKinds := [.data, .data], laidTests := true, laidLooks := .later }
def PageSortsCardSaid : Prop := Claim7.holds Tryd.pinned (.plain (OpenSpec.ofChange pageSortsSpec)) pageSortsCard

/-- THE TIED CARD OF 'cabinetrylaw02.PageLikes'. -/
def pageLikesCard : Claim7 := { stood := { row := pageLikesRow, standIns := [], harness := (true, "604d23044473d119d0421bccdaafaf50f86097518ed533ba3fb93cb525ff5169"), looks := false }, kinds := [], alts := [], laidByText := true, laidKinds := [.data, .data], laidTests := true, laidLooks := .later }
def PageLikesCardSaid : Prop := Claim7.holds Tryd.pinned (.plain (OpenSpec.ofChange pageLikesSpec)) pageLikesCard

/-- THE TIED CARD OF 'cabinetrylaw02.PageSounds'. -/
def pageSoundsCard : Claim7 := { stood := { row := pageSoundsRow, standIns := [], harness := (true, "604d23044473d119d0421bccdaafaf50f86097518ed533ba3fb93cb525ff5169"), looks := false }, kinds := [], alts := [], laidByText := true, laidKinds := [.data, .data], laidTests := true, laidLooks := .later }
def PageSoundsCardSaid : Prop := Claim7.holds Tryd.pinned (.plain (OpenSpec.ofChange pageSoundsSpec)) pageSoundsCard

/-- THE SECOND FORM's CARD OF 'cabinetrylaw02.PageDecodes'. -/
def pageDecodesUptoCard : Claim7 := { stood := { row := pageDecodesUptoRow, standIns := [], harness := (true, "604d23044473d119d0421bccdaafaf50f86097518ed533ba3fb93cb525ff5169"), looks := false }, kinds := [], alts := [], laidByText := true, laidKinds := [.data, .data, .data, .data, .pinned], laidTests := true, laidLooks := .later }
def PageDecodesUptoCardSaid : Prop := Claim7.holds Tryd.pinned (.plain (OpenSpec.upto pageDecodesSpec)) pageDecodesUptoCard

/-- THE SECOND FORM's CARD OF 'cabinetrylaw02.PageEncodes'. -/
def pageEncodesUptoCard : Claim7 := { stood := { row := pageEncodesUptoRow, standIns := [], harness := (true, "604d23044473d119d0421bccdaafaf50f86097518ed533ba3fb93cb525ff5169"), looks := false }, kinds := [], alts := [], laidByText := true, laidKinds := [.data, .data, .data, .data, .pinned], laidTests := true, laidLooks := .later }
def PageEncodesUptoCardSaid : Prop := Claim7.holds Tryd.pinned (.plain (OpenSpec.upto pageEncodesSpec)) pageEncodesUptoCard

/-- THE SECOND FORM's CARD OF 'cabinetrylaw02.PageConverts'. -/
def pageConvertsUptoCard : Claim7 := { stood := { row := pageConvertsUptoRow, standIns := [], harness := (true, "604d23044473d119d0421bccdaafaf50f86097518ed533ba3fb93cb525ff5169"), looks := false }, kinds := [], alts := [], laidByText := true, laidKinds := [.data, .data, .data], laidTests := true, laidLooks := .later }
def PageConvertsUptoCardSaid : Prop := Claim7.holds Tryd.pinned (.plain (OpenSpec.upto pageConvertsSpec)) pageConvertsUptoCard

/-- THE SECOND FORM's CARD OF 'cabinetrylaw02.PageCases'. -/
def pageCasesUptoCard : Claim7 := { stood := { row := pageCasesUptoRow, standIns := [], harness := (true, "604d23044473d119d0421bccdaafaf50f86097518ed533ba3fb93cb525ff5169"), looks := false }, kinds := [], alts := [], laidByText := true, laidKinds := [.data, .data], laidTests := true, laidLooks := .later }
def PageCasesUptoCardSaid : Prop := Claim7.holds Tryd.pinned (.plain (OpenSpec.upto pageCasesSpec)) pageCasesUptoCard

/-- THE SECOND FORM's CARD OF 'cabinetrylaw02.PageFolds'. -/
def pageFoldsUptoCard : Claim7 := { stood := { row := pageFoldsUptoRow, standIns := [], harness := (true, "604d23044473d119d0421bccdaafaf50f86097518ed533ba3fb93cb525ff5169"), looks := false }, kinds := [], alts := [], laidByText := true, laidKinds := [.data, .data], laidTests := true, laidLooks := .later }
def PageFoldsUptoCardSaid : Prop := Claim7.holds Tryd.pinned (.plain (OpenSpec.upto pageFoldsSpec)) pageFoldsUptoCard

/-- THE SECOND FORM's CARD OF 'cabinetrylaw02.PageOrders'. -/
def pageOrdersUptoCard : Claim7 := { stood := { row := pageOrdersUptoRow, standIns := [], harness := (true, "604d23044473d119d0421bccdaafaf50f86097518ed533ba3fb93cb525ff5169"), looks := false }, kinds := [], alts := [], laidByText := true, laidKinds := [.data, .data], laidTests := true, laidLooks := .later }
def PageOrdersUptoCardSaid : Prop := Claim7.holds Tryd.pinned (.plain (OpenSpec.upto pageOrdersSpec)) pageOrdersUptoCard

/-- THE SECOND FORM's CARD OF 'cabinetrylaw02.PageSorts'. -/
def pageSortsUptoCard : Claim7 := { stood := { row := pageSortsUptoRow, standIns := [], harness := (true, "604d23044473d119d0421bccdaafaf50f86097518ed533ba3fb93cb525ff5169"), looks := false }, kinds := [], alts := [], laidByText := true, laidKinds := [.data, .data], laidTests := true, laidLooks := .later }
def PageSortsUptoCardSaid : Prop := Claim7.holds Tryd.pinned (.plain (OpenSpec.upto pageSortsSpec)) pageSortsUptoCard

/-- THE SECOND FORM's CARD OF 'cabinetrylaw02.PageLikes'. -/
def pageLikesUptoCard : Claim7 := { stood := { row := pageLikesUptoRow, standIns := [], harness := (true, "604d23044473d119d0421bccdaafaf50f86097518ed533ba3fb93cb525ff5169"), looks := false }, kinds := [], alts := [], laidByText := true, laidKinds := [.data, .data], laidTests := true, laidLooks := .later }
def PageLikesUptoCardSaid : Prop := Claim7.holds Tryd.pinned (.plain (OpenSpec.upto pageLikesSpec)) pageLikesUptoCard

/-- THE SECOND FORM's CARD OF 'cabinetrylaw02.PageSounds'. -/
def pageSoundsUptoCard : Claim7 := { stood := { row := pageSoundsUptoRow, standIns := [], harness := (true, "604d23044473d119d0421bccdaafaf50f86097518ed533ba3fb93cb525ff5169"), looks := false }, kinds := [], alts := [], laidByText := true, laidKinds := [.data, .data], laidTests := true, laidLooks := .later }
def PageSoundsUptoCardSaid : Prop := Claim7.holds Tryd.pinned (.plain (OpenSpec.upto pageSoundsSpec)) pageSoundsUptoCard
end Rows
end Go.Proofs.YtgeikbcfjidgcaaDoor
