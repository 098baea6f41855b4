/- From the rows' condition to what the walks ask of the memory. -/
import Derived.Test.YtfgadkknfehkcaaDoorRows
import Derived.Test.YtfgadkknfehkcaaDoorCal
import Derived.Lib.LaidU8
namespace Go.Proofs.YtfgadkknfehkcaaDoor
open Go.RowKit Go.Lib
set_option linter.unusedVariables false

theorem own : ownKnob Tryd.prog.godebug = none := by kernel_rfl
theorem gDays : Tryd.prog.globalNamed "cabinetry/val.daysBefore" = some 0 := by kernel_rfl
theorem gDaysType : (Tryd.prog.globals[0]?).map (·.type) = some 117 := by kernel_rfl
theorem c117 : Tryd.prog.cellsOf 117 = 13 := by kernel_rfl
theorem c3 : Tryd.prog.cellsOf 3 = 1 := by kernel_rfl

theorem days_datum : Rows.laid_cabinetry_val_daysBefore = (tabData .i64 [0, 31, 59, 90, 120, 151, 181, 212, 243, 273, 304, 334, 365] : DataW Unit) := rfl

theorem tab_of_laid {l : List (String × DataW Unit)} {W : World} (h : laidMet Tryd.prog l W) (hm : ("cabinetry/val.daysBefore", Rows.laid_cabinetry_val_daysBefore) ∈ l) : Tab W := by
  obtain ⟨g, t, cs, fuel, p, hg, ht, hvar, hd⟩ := laidMet.reads h hm
  obtain rfl := Option.some.inj (gDays.symm.trans hg)
  obtain rfl := Option.some.inj (gDaysType.symm.trans ht)
  rw [days_datum] at hd
  have hT : TabIs Tryd.prog W "cabinetry/val.daysBefore" .i64 [0, 31, 59, 90, 120, 151, 181, 212, 243, 273, 304, 334, 365] := by
    unfold TabIs
    rw [hvar, ← cells_of_tab Tryd.underlying117 Tryd.underlying3 c3 c117 hd]
  intro m h1 h2
  have hc := hT.cell gDays (m.toNat - 1) (by simp; omega)
  rw [hc]
  obtain rfl | rfl | rfl | rfl | rfl | rfl | rfl | rfl | rfl | rfl | rfl | rfl | rfl : m = 1 ∨ m = 2 ∨ m = 3 ∨ m = 4 ∨ m = 5 ∨ m = 6 ∨ m = 7 ∨ m = 8 ∨ m = 9 ∨ m = 10 ∨ m = 11 ∨ m = 12 ∨ m = 13 := by omega
  all_goals rfl
end Go.Proofs.YtfgadkknfehkcaaDoor
