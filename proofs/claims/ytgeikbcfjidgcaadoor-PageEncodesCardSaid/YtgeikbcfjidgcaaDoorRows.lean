/-
  NARROWER THAN 'FOR EVERY INPUT', by the rows' own cells (each row's printed sentence says how): PageDecodes: laid · PageEncodes: laid · PageConverts: laid · PageCases: laid · PageFolds: laid · PageOrders: laid · PageSorts: laid · PageLikes: laid · PageSounds: laid.
  DERIVED. THE GIVEN ROWS OF THIS SEAT. 9 by the template 'for every input the law returns true; each argument reads behind the call as it read before'; 0 by the template 'total and deterministic' (their statements: YtgeikbcfjidgcaaDoorTotals.lean).
  GIVEN WITH THE SEED: the statements are not yours to turn. If you find one false, say at which input.
  Laid BY PROGRAM, IN A SANDBOX (cutbox-rows.mjs): the forced cells as the released guide's own fill.sh prints them over the translation c5edbaa084872b77… (all of the seat's roots in one cut). By AI agents, Wed Nov 11 2026. No macro, syntax, notation, axiom, sorry.
-/
import Derived.Test.YtgeikbcfjidgcaaDoorChecked
import GoSem.PinnedTables
import GoSem.Claim
import GoSem.ClaimJoined
import GoSem.ClaimMapViews
import Derived.JoinedTies
import Derived.KernelRfl
namespace Go.Proofs.YtgeikbcfjidgcaaDoor
/- THE CELL 'sum', in the pinned program and in every row, IS THE sha256 OF THE DUMP (.gsa) THAT YtgeikbcfjidgcaaDoorProg.lean LOADS. Nothing in Lean hashes anything: it is a label: what it is worth is what the hold of that sum in a sandbox is worth. -/
noncomputable def Tryd.pinned : Pinned := { name := "ytgeikbcfjidgcaadoor", sum := "c5edbaa084872b77783162c9c5a4fc86bf256f824fa494c2f1f59fce1e6e4b1a", checked := Tryd.checked }
namespace Rows
def none {H : Type} : Left H := { results := [], args := [] }

/- WHAT THE LISTED PACKAGE-LEVEL VARIABLES READ AS WHEN THE CALL BEGINS. Each datum BY PROGRAM (the guide's laid-datum.mjs) off the statement by which the dump's own 'gosem.cut.vars' lays the variable. In a bare row this is a premise. The card (YtgeikbcfjidgcaaDoorCards.lean) ties it to the program's text. -/
def laid_unicode_utf8_acceptRanges {H : Type} : DataW H := .agg [.agg [.lit (.int .u8 128), .lit (.int .u8 191)], .agg [.lit (.int .u8 160), .lit (.int .u8 191)], .agg [.lit (.int .u8 128), .lit (.int .u8 159)], .agg [.lit (.int .u8 144), .lit (.int .u8 191)], .agg [.lit (.int .u8 128), .lit (.int .u8 143)], .agg [.lit (.int .u8 0), .lit (.int .u8 0)], .agg [.lit (.int .u8 0), .lit (.int .u8 0)], .agg [.lit (.int .u8 0), .lit (.int .u8 0)], .agg [.lit (.int .u8 0), .lit (.int .u8 0)], .agg [.lit (.int .u8 0), .lit (.int .u8 0)], .agg [.lit (.int .u8 0), .lit (.int .u8 0)], .agg [.lit (.int .u8 0), .lit (.int .u8 0)], .agg [.lit (.int .u8 0), .lit (.int .u8 0)], .agg [.lit (.int .u8 0), .lit (.int .u8 0)], .agg [.lit (.int .u8 0), .lit (.int .u8 0)], .agg [.lit (.int .u8 0), .lit (.int .u8 0)]]
def laid_cabinetry_page_cases {H : Type} : DataW H := .agg [.agg [.agg [.lit (.int .u8 65), .lit (.int .u8 90), .lit (.int .u8 32)], .agg [.lit (.int .u8 1), .lit (.int .u8 0), .lit (.int .u8 0)], .agg [.lit (.int .u8 1), .lit (.int .u8 0), .lit (.int .u8 0)]], .agg [.agg [.lit (.int .u8 65), .lit (.int .u8 90), .lit (.int .u8 32)], .agg [.lit (.int .u8 192), .lit (.int .u8 222), .lit (.int .u8 32)], .agg [.lit (.int .u8 1), .lit (.int .u8 0), .lit (.int .u8 0)]], .agg [.agg [.lit (.int .u8 65), .lit (.int .u8 90), .lit (.int .u8 32)], .agg [.lit (.int .u8 128), .lit (.int .u8 143), .lit (.int .u8 32)], .agg [.lit (.int .u8 144), .lit (.int .u8 159), .lit (.int .u8 80)]]]
def laid_cabinetry_page_accents {H : Type} : DataW H := .agg [.agg [.lit (.int .u8 192), .lit (.int .u8 197), .lit (.int .u8 65)], .agg [.lit (.int .u8 199), .lit (.int .u8 199), .lit (.int .u8 67)], .agg [.lit (.int .u8 200), .lit (.int .u8 203), .lit (.int .u8 69)], .agg [.lit (.int .u8 204), .lit (.int .u8 207), .lit (.int .u8 73)], .agg [.lit (.int .u8 209), .lit (.int .u8 209), .lit (.int .u8 78)], .agg [.lit (.int .u8 210), .lit (.int .u8 214), .lit (.int .u8 79)], .agg [.lit (.int .u8 217), .lit (.int .u8 220), .lit (.int .u8 85)], .agg [.lit (.int .u8 221), .lit (.int .u8 221), .lit (.int .u8 89)], .agg [.lit (.int .u8 1), .lit (.int .u8 0), .lit (.int .u8 0)]]
def laid_cabinetry_page_spans {H : Type} : DataW H := .agg [.agg [.agg [.lit (.int .i64 0), .lit (.int .i64 127), .lit (.int .i64 0)], .agg [.lit (.int .i64 1), .lit (.int .i64 0), .lit (.int .i64 0)], .agg [.lit (.int .i64 1), .lit (.int .i64 0), .lit (.int .i64 0)]], .agg [.agg [.lit (.int .i64 0), .lit (.int .i64 255), .lit (.int .i64 0)], .agg [.lit (.int .i64 1), .lit (.int .i64 0), .lit (.int .i64 0)], .agg [.lit (.int .i64 1), .lit (.int .i64 0), .lit (.int .i64 0)]], .agg [.agg [.lit (.int .i64 0), .lit (.int .i64 127), .lit (.int .i64 0)], .agg [.lit (.int .i64 128), .lit (.int .i64 175), .lit (.int .i64 1040)], .agg [.lit (.int .i64 224), .lit (.int .i64 239), .lit (.int .i64 1088)]]]
/-- One of Go's own tables, pinned by name: the form's constant. -/
def laid_unicode_utf8_first : DataW Unit := Go.Pinned.utf8First

/-- 'cabinetrylaw02.PageDecodes': WHATEVER THE INPUT: true; the input reads as it did. -/
def pageDecodesSpec : ChangeSpec := { name := "pageDecodes", fn := fun _ => fun
  | [d1, d2] => { results := [.lit (.bool true)], args := [d1, d2] }
  | _ => none }
def pageDecodesRow : OpenClaim := { program := "ytgeikbcfjidgcaadoor", sum := "c5edbaa084872b77783162c9c5a4fc86bf256f824fa494c2f1f59fce1e6e4b1a", func := "cabinetry/cabinetrylaw02.PageDecodes", spec := "pageDecodes", inPlace := ["internal/abi.NoEscape"], unfollowed := true, recurses := true, named := ["cabinetry/page.cases", "cabinetry/page.accents", "cabinetry/page.spans", "unicode/utf8.first", "unicode/utf8.acceptRanges"], apart := false, laid := [("unicode/utf8.acceptRanges", laid_unicode_utf8_acceptRanges), ("cabinetry/page.cases", laid_cabinetry_page_cases), ("cabinetry/page.accents", laid_cabinetry_page_accents), ("cabinetry/page.spans", laid_cabinetry_page_spans), ("unicode/utf8.first", laid_unicode_utf8_first)] }
def PageDecodesSaid : Prop := pageDecodesRow.holds Tryd.pinned (OpenSpec.ofChange pageDecodesSpec)

/-- ITS FALSE NEIGHBOUR: 'it returns false'. Refute it at one input. -/
def pageDecodesWrong : ChangeSpec := { name := "pageDecodes", fn := fun _ => fun
  | [d1, d2] => { results := [.lit (.bool false)], args := [d1, d2] }
  | _ => none }
def PageDecodesWrongFalsely : Prop := pageDecodesRow.holds Tryd.pinned (OpenSpec.ofChange pageDecodesWrong)

/-- 'cabinetrylaw02.PageEncodes': WHATEVER THE INPUT: true; the input reads as it did. -/
def pageEncodesSpec : ChangeSpec := { name := "pageEncodes", fn := fun _ => fun
  | [d1, d2] => { results := [.lit (.bool true)], args := [d1, d2] }
  | _ => none }
def pageEncodesRow : OpenClaim := { program := "ytgeikbcfjidgcaadoor", sum := "c5edbaa084872b77783162c9c5a4fc86bf256f824fa494c2f1f59fce1e6e4b1a", func := "cabinetry/cabinetrylaw02.PageEncodes", spec := "pageEncodes", unfollowed := true, recurses := true, named := ["cabinetry/page.cases", "cabinetry/page.accents", "unicode/utf8.first", "unicode/utf8.acceptRanges", "cabinetry/page.spans"], apart := false, laid := [("unicode/utf8.acceptRanges", laid_unicode_utf8_acceptRanges), ("cabinetry/page.cases", laid_cabinetry_page_cases), ("cabinetry/page.accents", laid_cabinetry_page_accents), ("cabinetry/page.spans", laid_cabinetry_page_spans), ("unicode/utf8.first", laid_unicode_utf8_first)] }
def PageEncodesSaid : Prop := pageEncodesRow.holds Tryd.pinned (OpenSpec.ofChange pageEncodesSpec)

/-- ITS FALSE NEIGHBOUR: 'it returns false'. Refute it at one input. -/
def pageEncodesWrong : ChangeSpec := { name := "pageEncodes", fn := fun _ => fun
  | [d1, d2] => { results := [.lit (.bool false)], args := [d1, d2] }
  | _ => none }
def PageEncodesWrongFalsely : Prop := pageEncodesRow.holds Tryd.pinned (OpenSpec.ofChange pageEncodesWrong)

/-- 'cabinetrylaw02.PageConverts': WHATEVER THE INPUT: true; the input reads as it did. -/
def pageConvertsSpec : ChangeSpec := { name := "pageConverts", fn := fun _ => fun
  | [d1, d2, d3] => { results := [.lit (.bool true)], args := [d1, d2, d3] }
  | _ => none }
def pageConvertsRow : OpenClaim := { program := "ytgeikbcfjidgcaadoor", sum := "c5edbaa084872b77783162c9c5a4fc86bf256f824fa494c2f1f59fce1e6e4b1a", func := "cabinetry/cabinetrylaw02.PageConverts", spec := "pageConverts", unfollowed := true, recurses := true, named := ["cabinetry/page.cases", "cabinetry/page.accents", "cabinetry/page.spans"], apart := false, laid := [("cabinetry/page.cases", laid_cabinetry_page_cases), ("cabinetry/page.accents", laid_cabinetry_page_accents), ("cabinetry/page.spans", laid_cabinetry_page_spans)] }
def PageConvertsSaid : Prop := pageConvertsRow.holds Tryd.pinned (OpenSpec.ofChange pageConvertsSpec)

/-- ITS FALSE NEIGHBOUR: 'it returns false'. Refute it at one input. -/
def pageConvertsWrong : ChangeSpec := { name := "pageConverts", fn := fun _ => fun
  | [d1, d2, d3] => { results := [.lit (.bool false)], args := [d1, d2, d3] }
  | _ => none }
def PageConvertsWrongFalsely : Prop := pageConvertsRow.holds Tryd.pinned (OpenSpec.ofChange pageConvertsWrong)

/-- 'cabinetrylaw02.PageCases': WHATEVER THE INPUT: true; the input reads as it did. -/
def pageCasesSpec : ChangeSpec := { name := "pageCases", fn := fun _ => fun
  | [d1, d2] => { results := [.lit (.bool true)], args := [d1, d2] }
  | _ => none }
def pageCasesRow : OpenClaim := { program := "ytgeikbcfjidgcaadoor", sum := "c5edbaa084872b77783162c9c5a4fc86bf256f824fa494c2f1f59fce1e6e4b1a", func := "cabinetry/cabinetrylaw02.PageCases", spec := "pageCases", unfollowed := true, recurses := true, named := ["cabinetry/page.cases", "cabinetry/page.accents"], apart := false, laid := [("cabinetry/page.cases", laid_cabinetry_page_cases), ("cabinetry/page.accents", laid_cabinetry_page_accents)] }
def PageCasesSaid : Prop := pageCasesRow.holds Tryd.pinned (OpenSpec.ofChange pageCasesSpec)

/-- ITS FALSE NEIGHBOUR: 'it returns false'. Refute it at one input. -/
def pageCasesWrong : ChangeSpec := { name := "pageCases", fn := fun _ => fun
  | [d1, d2] => { results := [.lit (.bool false)], args := [d1, d2] }
  | _ => none }
def PageCasesWrongFalsely : Prop := pageCasesRow.holds Tryd.pinned (OpenSpec.ofChange pageCasesWrong)

/-- 'cabinetrylaw02.PageFolds': WHATEVER THE INPUT: true; the input reads as it did. -/
def pageFoldsSpec : ChangeSpec := { name := "pageFolds", fn := fun _ => fun
  | [d1, d2] => { results := [.lit (.bool true)], args := [d1, d2] }
  | _ => none }
def pageFoldsRow : OpenClaim := { program := "ytgeikbcfjidgcaadoor", sum := "c5edbaa084872b77783162c9c5a4fc86bf256f824fa494c2f1f59fce1e6e4b1a", func := "cabinetry/cabinetrylaw02.PageFolds", spec := "pageFolds", unfollowed := true, recurses := true, named := ["cabinetry/page.cases", "cabinetry/page.accents"], apart := false, laid := [("cabinetry/page.cases", laid_cabinetry_page_cases), ("cabinetry/page.accents", laid_cabinetry_page_accents)] }
def PageFoldsSaid : Prop := pageFoldsRow.holds Tryd.pinned (OpenSpec.ofChange pageFoldsSpec)

/-- ITS FALSE NEIGHBOUR: 'it returns false'. Refute it at one input. -/
def pageFoldsWrong : ChangeSpec := { name := "pageFolds", fn := fun _ => fun
  | [d1, d2] => { results := [.lit (.bool false)], args := [d1, d2] }
  | _ => none }
def PageFoldsWrongFalsely : Prop := pageFoldsRow.holds Tryd.pinned (OpenSpec.ofChange pageFoldsWrong)

/-- 'cabinetrylaw02.PageOrders': WHATEVER THE INPUT: true; the input reads as it did. -/
def pageOrdersSpec : ChangeSpec := { name := "pageOrders", fn := fun _ => fun
  | [d1, d2, d3] => { results := [.lit (.bool true)], args := [d1, d2, d3] }
  | _ => none }
def pageOrdersRow : OpenClaim := { program := "ytgeikbcfjidgcaadoor", sum := "c5edbaa084872b77783162c9c5a4fc86bf256f824fa494c2f1f59fce1e6e4b1a", func := "cabinetry/cabinetrylaw02.PageOrders", spec := "pageOrders", inPlace := ["internal/bytealg.abigen_runtime_cmpstring"], unfollowed := true, recurses := true, named := ["cabinetry/page.cases", "cabinetry/page.accents"], apart := false, laid := [("cabinetry/page.cases", laid_cabinetry_page_cases), ("cabinetry/page.accents", laid_cabinetry_page_accents)] }
def PageOrdersSaid : Prop := pageOrdersRow.holds Tryd.pinned (OpenSpec.ofChange pageOrdersSpec)

/-- ITS FALSE NEIGHBOUR: 'it returns false'. Refute it at one input. -/
def pageOrdersWrong : ChangeSpec := { name := "pageOrders", fn := fun _ => fun
  | [d1, d2, d3] => { results := [.lit (.bool false)], args := [d1, d2, d3] }
  | _ => none }
def PageOrdersWrongFalsely : Prop := pageOrdersRow.holds Tryd.pinned (OpenSpec.ofChange pageOrdersWrong)

/-- 'cabinetrylaw02.PageSorts': WHATEVER THE INPUT: true; the input reads as it did. -/
def pageSortsSpec : ChangeSpec := { name := "pageSorts", fn := fun _ => fun
  | [d1, d2] => { results := [.lit (.bool true)], args := [d1, d2] }
  | _ => none }
def pageSortsRow : OpenClaim := { program := "ytgeikbcfjidgcaadoor", sum := "c5edbaa084872b77783162c9c5a4fc86bf256f824fa494c2f1f59fce1e6e4b1a", func := "cabinetry/cabinetrylaw02.PageSorts", spec := "pageSorts", inPlace := ["internal/bytealg.abigen_runtime_cmpstring"], unfollowed := true, recurses := true, named := ["cabinetry/page.cases", "cabinetry/page.accents"], apart := false, laid := [("cabinetry/page.cases", laid_cabinetry_page_cases), ("cabinetry/page.accents", laid_cabinetry_page_accents)] }
def PageSortsSaid : Prop := pageSortsRow.holds Tryd.pinned (OpenSpec.ofChange pageSortsSpec)

/-- ITS FALSE NEIGHBOUR: 'it returns false'. Refute it at one input. -/
def pageSortsWrong : ChangeSpec := { name := "pageSorts", fn := fun _ => fun
  | [d1, d2] => { results := [.lit (.bool false)], args := [d1, d2] }
  | _ => none }
def PageSortsWrongFalsely : Prop := pageSortsRow.holds Tryd.pinned (OpenSpec.ofChange pageSortsWrong)

/-- 'cabinetrylaw02.PageLikes': WHATEVER THE INPUT: true; the input reads as it did. -/
def pageLikesSpec : ChangeSpec := { name := "pageLikes", fn := fun _ => fun
  | [d1, d2, d3] => { results := [.lit (.bool true)], args := [d1, d2, d3] }
  | _ => none }
def pageLikesRow : OpenClaim := { program := "ytgeikbcfjidgcaadoor", sum := "c5edbaa084872b77783162c9c5a4fc86bf256f824fa494c2f1f59fce1e6e4b1a", func := "cabinetry/cabinetrylaw02.PageLikes", spec := "pageLikes", unfollowed := true, recurses := true, named := ["cabinetry/page.cases", "cabinetry/page.accents"], apart := false, laid := [("cabinetry/page.cases", laid_cabinetry_page_cases), ("cabinetry/page.accents", laid_cabinetry_page_accents)] }
def PageLikesSaid : Prop := pageLikesRow.holds Tryd.pinned (OpenSpec.ofChange pageLikesSpec)

/-- ITS FALSE NEIGHBOUR: 'it returns false'. Refute it at one input. -/
def pageLikesWrong : ChangeSpec := { name := "pageLikes", fn := fun _ => fun
  | [d1, d2, d3] => { results := [.lit (.bool false)], args := [d1, d2, d3] }
  | _ => none }
def PageLikesWrongFalsely : Prop := pageLikesRow.holds Tryd.pinned (OpenSpec.ofChange pageLikesWrong)

/-- 'cabinetrylaw02.PageSounds': WHATEVER THE INPUT: true; the input reads as it did. -/
def pageSoundsSpec : ChangeSpec := { name := "pageSounds", fn := fun _ => fun
  | [d] => { results := [.lit (.bool true)], args := [d] }
  | _ => none }
def pageSoundsRow : OpenClaim := { program := "ytgeikbcfjidgcaadoor", sum := "c5edbaa084872b77783162c9c5a4fc86bf256f824fa494c2f1f59fce1e6e4b1a", func := "cabinetry/cabinetrylaw02.PageSounds", spec := "pageSounds", unfollowed := true, recurses := true, named := ["cabinetry/page.cases", "cabinetry/page.accents"], apart := false, laid := [("cabinetry/page.cases", laid_cabinetry_page_cases), ("cabinetry/page.accents", laid_cabinetry_page_accents)] }
def PageSoundsSaid : Prop := pageSoundsRow.holds Tryd.pinned (OpenSpec.ofChange pageSoundsSpec)

/-- ITS FALSE NEIGHBOUR: 'it returns false'. Refute it at one input. -/
def pageSoundsWrong : ChangeSpec := { name := "pageSounds", fn := fun _ => fun
  | [d] => { results := [.lit (.bool false)], args := [d] }
  | _ => none }
def PageSoundsWrongFalsely : Prop := pageSoundsRow.holds Tryd.pinned (OpenSpec.ofChange pageSoundsWrong)

/- THE SECOND FORM. 'bulk': how many values and letters a reading holds, each counted each time it is reached (what is shared counts as often as it is met; a slice's spare places count too). A statement '..UptoSaid' is the law's where the arguments, and the package variables that the reading takes, are together of bulk at most 1048576: NARROWER than '..Said'. Prove '..Said' where nothing that the law and all that it calls make is longer than what came in: it says more and counts as full. Else prove '..UptoSaid'. A law counts once. -/
mutual
def uptoBulk {H : Type} : DataW H → Nat
  | .lit (.string bytes) => bytes.length + 1
  | .lit _ => 1
  | .nil => 1
  | .ptr d => uptoBulk d + 1
  | .slice elems spare => uptoBulkAll elems + uptoBulkAll spare + 1
  | .agg parts => uptoBulkAll parts + 1
  | .iface _ d => uptoBulk d + 1
  | .map entries => uptoBulkEntries entries + 1
  | .held _ => 1
def uptoBulkAll {H : Type} : List (DataW H) → Nat
  | [] => 0
  | d :: r => uptoBulk d + uptoBulkAll r
def uptoBulkEntries {H : Type} : List (Lit × DataW H) → Nat
  | [] => 0
  | x :: r => uptoBulkEntry x + uptoBulkEntries r
def uptoBulkEntry {H : Type} : Lit × DataW H → Nat
  | (.string bytes, d) => bytes.length + uptoBulk d + 1
  | (_, d) => uptoBulk d + 1
 end
def uptoSmall : (H : Type) → List (DataW H) → Bool := fun _ ds => decide (uptoBulkAll ds ≤ 1048576)
def OpenSpec.upto (s : _root_.Go.ChangeSpec) : _root_.Go.OpenSpec := { _root_.Go.OpenSpec.ofChange s with cond := some uptoSmall }

/-- 'cabinetrylaw02.PageDecodes', WHERE WHAT IT READS IS OF BULK AT MOST 1048576: true; the input reads as it did. -/
def pageDecodesUptoRow : OpenClaim := { program := "ytgeikbcfjidgcaadoor", sum := "c5edbaa084872b77783162c9c5a4fc86bf256f824fa494c2f1f59fce1e6e4b1a", func := "cabinetry/cabinetrylaw02.PageDecodes", spec := "pageDecodes", inPlace := ["internal/abi.NoEscape"], unfollowed := true, recurses := true, named := ["cabinetry/page.cases", "cabinetry/page.accents", "cabinetry/page.spans", "unicode/utf8.first", "unicode/utf8.acceptRanges"], apart := false, laid := [("unicode/utf8.acceptRanges", laid_unicode_utf8_acceptRanges), ("cabinetry/page.cases", laid_cabinetry_page_cases), ("cabinetry/page.accents", laid_cabinetry_page_accents), ("cabinetry/page.spans", laid_cabinetry_page_spans), ("unicode/utf8.first", laid_unicode_utf8_first)], narrowed := true }
def PageDecodesUptoSaid : Prop := pageDecodesUptoRow.holds Tryd.pinned (OpenSpec.upto pageDecodesSpec)

/-- 'cabinetrylaw02.PageEncodes', WHERE WHAT IT READS IS OF BULK AT MOST 1048576: true; the input reads as it did. -/
def pageEncodesUptoRow : OpenClaim := { program := "ytgeikbcfjidgcaadoor", sum := "c5edbaa084872b77783162c9c5a4fc86bf256f824fa494c2f1f59fce1e6e4b1a", func := "cabinetry/cabinetrylaw02.PageEncodes", spec := "pageEncodes", unfollowed := true, recurses := true, named := ["cabinetry/page.cases", "cabinetry/page.accents", "unicode/utf8.first", "unicode/utf8.acceptRanges", "cabinetry/page.spans"], apart := false, laid := [("unicode/utf8.acceptRanges", laid_unicode_utf8_acceptRanges), ("cabinetry/page.cases", laid_cabinetry_page_cases), ("cabinetry/page.accents", laid_cabinetry_page_accents), ("cabinetry/page.spans", laid_cabinetry_page_spans), ("unicode/utf8.first", laid_unicode_utf8_first)], narrowed := true }
def PageEncodesUptoSaid : Prop := pageEncodesUptoRow.holds Tryd.pinned (OpenSpec.upto pageEncodesSpec)

/-- 'cabinetrylaw02.PageConverts', WHERE WHAT IT READS IS OF BULK AT MOST 1048576: true; the input reads as it did. -/
def pageConvertsUptoRow : OpenClaim := { program := "ytgeikbcfjidgcaadoor", sum := "c5edbaa084872b77783162c9c5a4fc86bf256f824fa494c2f1f59fce1e6e4b1a", func := "cabinetry/cabinetrylaw02.PageConverts", spec := "pageConverts", unfollowed := true, recurses := true, named := ["cabinetry/page.cases", "cabinetry/page.accents", "cabinetry/page.spans"], apart := false, laid := [("cabinetry/page.cases", laid_cabinetry_page_cases), ("cabinetry/page.accents", laid_cabinetry_page_accents), ("cabinetry/page.spans", laid_cabinetry_page_spans)], narrowed := true }
def PageConvertsUptoSaid : Prop := pageConvertsUptoRow.holds Tryd.pinned (OpenSpec.upto pageConvertsSpec)

/-- 'cabinetrylaw02.PageCases', WHERE WHAT IT READS IS OF BULK AT MOST 1048576: true; the input reads as it did. -/
def pageCasesUptoRow : OpenClaim := { program := "ytgeikbcfjidgcaadoor", sum := "c5edbaa084872b77783162c9c5a4fc86bf256f824fa494c2f1f59fce1e6e4b1a", func := "cabinetry/cabinetrylaw02.PageCases", spec := "pageCases", unfollowed := true, recurses := true, named := ["cabinetry/page.cases", "cabinetry/page.accents"], apart := false, laid := [("cabinetry/page.cases", laid_cabinetry_page_cases), ("cabinetry/page.accents", laid_cabinetry_page_accents)], narrowed := true }
def PageCasesUptoSaid : Prop := pageCasesUptoRow.holds Tryd.pinned (OpenSpec.upto pageCasesSpec)

/-- 'cabinetrylaw02.PageFolds', WHERE WHAT IT READS IS OF BULK AT MOST 1048576: true; the input reads as it did. -/
def pageFoldsUptoRow : OpenClaim := { program := "ytgeikbcfjidgcaadoor", sum := "c5edbaa084872b77783162c9c5a4fc86bf256f824fa494c2f1f59fce1e6e4b1a", func := "cabinetry/cabinetrylaw02.PageFolds", spec := "pageFolds", unfollowed := true, recurses := true, named := ["cabinetry/page.cases", "cabinetry/page.accents"], apart := false, laid := [("cabinetry/page.cases", laid_cabinetry_page_cases), ("cabinetry/page.accents", laid_cabinetry_page_accents)], narrowed := true }
def PageFoldsUptoSaid : Prop := pageFoldsUptoRow.holds Tryd.pinned (OpenSpec.upto pageFoldsSpec)

/-- 'cabinetrylaw02.PageOrders', WHERE WHAT IT READS IS OF BULK AT MOST 1048576: true; the input reads as it did. -/
def pageOrdersUptoRow : OpenClaim := { program := "ytgeikbcfjidgcaadoor", sum := "c5edbaa084872b77783162c9c5a4fc86bf256f824fa494c2f1f59fce1e6e4b1a", func := "cabinetry/cabinetrylaw02.PageOrders", spec := "pageOrders", inPlace := ["internal/bytealg.abigen_runtime_cmpstring"], unfollowed := true, recurses := true, named := ["cabinetry/page.cases", "cabinetry/page.accents"], apart := false, laid := [("cabinetry/page.cases", laid_cabinetry_page_cases), ("cabinetry/page.accents", laid_cabinetry_page_accents)], narrowed := true }
def PageOrdersUptoSaid : Prop := pageOrdersUptoRow.holds Tryd.pinned (OpenSpec.upto pageOrdersSpec)

/-- 'cabinetrylaw02.PageSorts', WHERE WHAT IT READS IS OF BULK AT MOST 1048576: true; the input reads as it did. -/
def pageSortsUptoRow : OpenClaim := { program := "ytgeikbcfjidgcaadoor", sum := "c5edbaa084872b77783162c9c5a4fc86bf256f824fa494c2f1f59fce1e6e4b1a", func := "cabinetry/cabinetrylaw02.PageSorts", spec := "pageSorts", inPlace := ["internal/bytealg.abigen_runtime_cmpstring"], unfollowed := true, recurses := true, named := ["cabinetry/page.cases", "cabinetry/page.accents"], apart := false, laid := [("cabinetry/page.cases", laid_cabinetry_page_cases), ("cabinetry/page.accents", laid_cabinetry_page_accents)], narrowed := true }
def PageSortsUptoSaid : Prop := pageSortsUptoRow.holds Tryd.pinned (OpenSpec.upto pageSortsSpec)

/-- 'cabinetrylaw02.PageLikes', WHERE WHAT IT READS IS OF BULK AT MOST 1048576: true; the input reads as it did. -/
def pageLikesUptoRow : OpenClaim := { program := "ytgeikbcfjidgcaadoor", sum := "c5edbaa084872b77783162c9c5a4fc86bf256f824fa494c2f1f59fce1e6e4b1a", func := "cabinetry/cabinetrylaw02.PageLikes", spec := "pageLikes", unfollowed := true, recurses := true, named := ["cabinetry/page.cases", "cabinetry/page.accents"], apart := false, laid := [("cabinetry/page.cases", laid_cabinetry_page_cases), ("cabinetry/page.accents", laid_cabinetry_page_accents)], narrowed := true }
def PageLikesUptoSaid : Prop := pageLikesUptoRow.holds Tryd.pinned (OpenSpec.upto pageLikesSpec)

/-- 'cabinetrylaw02.PageSounds', WHERE WHAT IT READS IS OF BULK AT MOST 1048576: true; the input reads as it did. -/
def pageSoundsUptoRow : OpenClaim := { program := "ytgeikbcfjidgcaadoor", sum := "c5edbaa084872b77783162c9c5a4fc86bf256f824fa494c2f1f59fce1e6e4b1a", func := "cabinetry/cabinetrylaw02.PageSounds", spec := "pageSounds", unfollowed := true, recurses := true, named := ["cabinetry/page.cases", "cabinetry/page.accents"], apart := false, laid := [("cabinetry/page.cases", laid_cabinetry_page_cases), ("cabinetry/page.accents", laid_cabinetry_page_accents)], narrowed := true }
def PageSoundsUptoSaid : Prop := pageSoundsUptoRow.holds Tryd.pinned (OpenSpec.upto pageSoundsSpec)

end Rows
end Go.Proofs.YtgeikbcfjidgcaaDoor
