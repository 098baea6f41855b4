/- From the rows' condition to the tables of capitals and of accents; the walk of PageSounds. -/
import Derived.Test.YtiddnacmopfamaaDoorRows
import Derived.Test.YtiddnacmopfamaaDoorPgY
import Derived.Lib.LaidU8
namespace Go.Proofs.YtiddnacmopfamaaDoor
open Go.RowKit Go.Lib
set_option linter.unusedVariables false
set_option linter.unusedSimpArgs false

theorem own : ownKnob Tryd.prog.godebug = none := by kernel_rfl
theorem gCases : Tryd.prog.globalNamed "cabinetry/page.cases" = some 1 := by kernel_rfl
theorem gAcc : Tryd.prog.globalNamed "cabinetry/page.accents" = some 0 := by kernel_rfl
theorem gCasesT : (Tryd.prog.globals[1]?).map (·.type) = some 158 := by kernel_rfl
theorem gAccT : (Tryd.prog.globals[0]?).map (·.type) = some 151 := by kernel_rfl
theorem cc5 : Tryd.prog.cellsOf 5 = 1 := by kernel_rfl
theorem cc87 : Tryd.prog.cellsOf 150 = 3 := by kernel_rfl
theorem cc88 : Tryd.prog.cellsOf 157 = 9 := by kernel_rfl

def casesR : List (List (List Int)) := [[[65, 90, 32], [1, 0, 0], [1, 0, 0]], [[65, 90, 32], [192, 222, 32], [1, 0, 0]], [[65, 90, 32], [128, 143, 32], [144, 159, 80]]]
def accR : List (List Int) := [[192, 197, 65], [199, 199, 67], [200, 203, 69], [204, 207, 73], [209, 209, 78], [210, 214, 79], [217, 220, 85], [221, 221, 89], [1, 0, 0]]
theorem cases_datum : Rows.laid_cabinetry_page_cases = (.agg (casesR.map fun x => .agg (x.map fun y => tabData .u8 y)) : DataW Unit) := rfl
theorem acc_datum : Rows.laid_cabinetry_page_accents = (.agg (accR.map fun y => tabData .u8 y) : DataW Unit) := rfl

theorem row_cells {W : World} {base : Nat} {sp : Nat → Bool} {held : Bool} {fuel : Nat} {cs : List Value} {n : Nat} {t : TypeId} {rows : List (List Int)} {p : List MemPlace} (ht : Tryd.prog.underlying t = some (.array n 150))
    (h : DataW.trod (fun _ => ()) Tryd.prog W base sp held fuel t cs = some (.agg (rows.map fun y => tabData .u8 y), p)) (b : Nat) (hb : b < n) (hr : b < rows.length) :
    (cs.drop (b * 3)).take 3 = (rows.getD b []).map fun z => Value.int .u8 z := by
  obtain ⟨f, d, q, hd, h1⟩ := array_elem ht h b hb
  rw [cc87] at h1
  have hd' : d = tabData .u8 (rows.getD b []) := by
    rw [List.getElem?_map, List.getElem?_eq_getElem hr] at hd
    simp only [Option.map_some, Option.some.injEq] at hd
    rw [← hd]
    simp [List.getD, hr]
  subst hd'
  exact cells_of_tab Tryd.underlying150 Tryd.underlying5 cc5 cc87 h1
theorem take3_at {α : Type} {cs : List α} {k c : Nat} {l : List α} (h : (cs.drop k).take 3 = l) (hc : c < 3) : cs[k + c]? = l[c]? := by
  rw [← h, List.getElem?_take, if_pos hc, List.getElem?_drop]

theorem tabs_of_laid {l : List (String × DataW Unit)} {W : World} (h : laidMet Tryd.prog l W) (hm : ("cabinetry/page.cases", Rows.laid_cabinetry_page_cases) ∈ l) (hm2 : ("cabinetry/page.accents", Rows.laid_cabinetry_page_accents) ∈ l) : Tabs W := by
  have mk : (∀ i, i < 27 → W.cell? ⟨1, i, none⟩ = some (.int .u8 (casesL.getD i 0))) → (∀ i, i < 27 → W.cell? ⟨0, i, none⟩ = some (.int .u8 (accL.getD i 0))) → Tabs W := fun h1 h2 => ⟨h1, h2, by
    have h := h1 0 (by omega)
    rcases Nat.lt_or_ge 1 W.heap.size with q | q
    · exact q
    · have : W.heap[1]? = none := Array.getElem?_eq_none q
      simp [World.cell?, this] at h⟩
  refine mk ?_ ?_
  · obtain ⟨g, t, cs, fuel, p, hg, ht, hvar, hd⟩ := laidMet.reads h hm
    obtain rfl := Option.some.inj (gCases.symm.trans hg)
    obtain rfl := Option.some.inj (gCasesT.symm.trans ht)
    rw [cases_datum] at hd
    have key : ∀ a b c, a < 3 → b < 3 → c < 3 → cs.toList[a * 9 + (b * 3 + c)]? = some (.int .u8 (casesL.getD (a * 9 + (b * 3 + c)) 0)) := by
      intro a b c ha hb hc
      obtain ⟨f, d, q, hd1, h1⟩ := array_elem Tryd.underlying158 hd a ha
      rw [cc88] at h1
      have hd' : d = .agg ((casesR.getD a []).map fun y => tabData .u8 y) := by
        have hr : a < casesR.length := ha
        rw [List.getElem?_map, List.getElem?_eq_getElem hr] at hd1
        simp only [Option.map_some, Option.some.injEq] at hd1
        rw [← hd1]
        simp [List.getD, hr]
      subst hd'
      have h3 := row_cells Tryd.underlying157 h1 b hb (by
        rcases (show a = 0 ∨ a = 1 ∨ a = 2 by omega) with rfl | rfl | rfl <;> exact hb)
      have h4 := take3_at h3 hc
      rw [List.getElem?_take, if_pos (by omega), List.getElem?_drop] at h4
      rw [h4]
      rcases (show a = 0 ∨ a = 1 ∨ a = 2 by omega) with rfl | rfl | rfl <;> rcases (show b = 0 ∨ b = 1 ∨ b = 2 by omega) with rfl | rfl | rfl <;> rcases (show c = 0 ∨ c = 1 ∨ c = 2 by omega) with rfl | rfl | rfl <;> rfl
    intro i hi
    have hk := key (i / 9) (i / 3 % 3) (i % 3) (by omega) (by omega) (by omega)
    rw [show i / 9 * 9 + (i / 3 % 3 * 3 + i % 3) = i by omega] at hk
    rw [World.var?_cell hg hvar i, ← Array.getElem?_toList]
    exact hk
  · obtain ⟨g, t, cs, fuel, p, hg, ht, hvar, hd⟩ := laidMet.reads h hm2
    obtain rfl := Option.some.inj (gAcc.symm.trans hg)
    obtain rfl := Option.some.inj (gAccT.symm.trans ht)
    rw [acc_datum] at hd
    intro i hi
    have h3 := row_cells Tryd.underlying151 hd (i / 3) (by omega) (by show i / 3 < 9; omega)
    have h4 := take3_at h3 (c := i % 3) (by omega)
    rw [show i / 3 * 3 + i % 3 = i by omega] at h4
    rw [World.var?_cell hg hvar i, ← Array.getElem?_toList, h4]
    rcases (show i / 3 = 0 ∨ i / 3 = 1 ∨ i / 3 = 2 ∨ i / 3 = 3 ∨ i / 3 = 4 ∨ i / 3 = 5 ∨ i / 3 = 6 ∨ i / 3 = 7 ∨ i / 3 = 8 by omega) with e | e | e | e | e | e | e | e | e <;> rcases (show i % 3 = 0 ∨ i % 3 = 1 ∨ i % 3 = 2 by omega) with f | f | f <;>
      (have ei : i = i / 3 * 3 + i % 3 := by omega
       rw [e, f] at ei
       rw [e, f, ei]; rfl)

end Go.Proofs.YtiddnacmopfamaaDoor
