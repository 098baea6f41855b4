/- From the rows' condition to the table of powers of ten. -/
import Derived.Test.YtfgadkknfehkcaaDoorLaid
import Derived.Test.YtfgadkknfehkcaaDoorPad
namespace Go.Proofs.YtfgadkknfehkcaaDoor
open Go.RowKit Go.Lib
set_option linter.unusedVariables false

theorem pow_datum : Rows.laid_internal_strconv_uint64pow10 = (tabData .u64 Lib.pow10Tab : DataW Unit) := rfl
set_option maxRecDepth 100000 in
theorem pow_of_laid {l : List (String × DataW Unit)} {W : World} (h : laidMet Tryd.prog l W) (hm : ("internal/strconv.uint64pow10", Rows.laid_internal_strconv_uint64pow10) ∈ l) : Pow W := by
  obtain ⟨g, t, cs, fuel, p, hg, ht, hvar, hd⟩ := laidMet.reads h hm
  obtain rfl := Option.some.inj (gPow.symm.trans hg)
  have ht' : (Tryd.prog.globals[4]?).map (·.type) = some 149 := by kernel_rfl
  obtain rfl := Option.some.inj (ht'.symm.trans ht)
  rw [pow_datum] at hd
  show TabIs Tryd.prog W "internal/strconv.uint64pow10" .u64 Lib.pow10Tab
  unfold TabIs
  rw [hvar, ← cells_of_tab Tryd.underlying149 Tryd.underlying123 (by kernel_rfl) (by kernel_rfl) hd]
end Go.Proofs.YtfgadkknfehkcaaDoor
