/- The walk of PageConverts. -/
import Derived.Test.YtgeikbcfjidgcaaDoorPgC4
import Derived.Test.YtgeikbcfjidgcaaDoorPgN
namespace Go.Proofs.YtgeikbcfjidgcaaDoor
open Go.RowKit Go.Lib
set_option linter.unusedVariables false
set_option linter.unusedSimpArgs false

theorem gSpans : Tryd.prog.globalNamed "cabinetry/page.spans" = some 0 := by kernel_rfl
theorem gSpansT : (Tryd.prog.globals[0]?).map (·.type) = some 77 := by kernel_rfl
theorem ccI : Tryd.prog.cellsOf 3 = 1 := by kernel_rfl
theorem cc75 : Tryd.prog.cellsOf 75 = 3 := by kernel_rfl
theorem cc76 : Tryd.prog.cellsOf 76 = 9 := by kernel_rfl
def spansR : List (List (List Int)) := [[[0, 127, 0], [1, 0, 0], [1, 0, 0]], [[0, 255, 0], [1, 0, 0], [1, 0, 0]], [[0, 127, 0], [128, 175, 1040], [224, 239, 1088]]]
theorem spans_datum : Rows.laid_cabinetry_page_spans = (.agg (spansR.map fun x => .agg (x.map fun y => tabData .i64 y)) : DataW Unit) := rfl
theorem getD_get {α : Type} (l : List α) (b : Nat) (d : α) (h : b < l.length) : l[b] = l.getD b d := by simp [List.getD, h]
theorem sp_of_laid {l : List (String × DataW Unit)} {W : World} (h : laidMet Tryd.prog l W) (hm : ("cabinetry/page.spans", Rows.laid_cabinetry_page_spans) ∈ l) : SpTab W := by
  obtain ⟨g, t, cs, fuel, p, hg, ht, hvar, hd⟩ := laidMet.reads h hm
  obtain rfl := Option.some.inj (gSpans.symm.trans hg)
  obtain rfl := Option.some.inj (gSpansT.symm.trans ht)
  rw [spans_datum] at hd
  have key : ∀ a b c, a < 3 → b < 3 → c < 3 → cs.toList[a * 9 + (b * 3 + c)]? = some (.int .i64 (spansL.getD (a * 9 + (b * 3 + c)) 0)) := by
    intro a b c ha hb hc
    obtain ⟨f, d, q, hd1, h1⟩ := array_elem Tryd.underlying77 hd a ha
    rw [cc76] at h1
    have hd' : d = .agg ((spansR.getD a []).map fun y => tabData .i64 y) := by
      have hr : a < spansR.length := ha
      rw [List.getElem?_map, List.getElem?_eq_getElem hr] at hd1
      simp only [Option.map_some, Option.some.injEq] at hd1
      rw [← hd1]
      simp [List.getD, hr]
    subst hd'
    have hbl : b < (spansR.getD a []).length := by
      rcases (show a = 0 ∨ a = 1 ∨ a = 2 by omega) with rfl | rfl | rfl <;> exact hb
    obtain ⟨f2, d2, q2, hd2, h2⟩ := array_elem Tryd.underlying76 h1 b hb
    rw [cc75] at h2
    have hd2' : d2 = tabData .i64 ((spansR.getD a []).getD b []) := by
      rw [List.getElem?_map, List.getElem?_eq_getElem hbl] at hd2
      simp only [Option.map_some, Option.some.injEq] at hd2
      rw [← hd2]
      exact congrArg (tabData .i64) (getD_get _ _ [] hbl)
    subst hd2'
    have h3 := cells_of_tab Tryd.underlying75 Tryd.underlying3 ccI cc75 h2
    have h4 := take3_at h3 hc
    rw [List.getElem?_take, if_pos (by omega), List.getElem?_drop] at h4
    rw [h4]
    rcases (show a = 0 ∨ a = 1 ∨ a = 2 by omega) with rfl | rfl | rfl <;> rcases (show b = 0 ∨ b = 1 ∨ b = 2 by omega) with rfl | rfl | rfl <;> rcases (show c = 0 ∨ c = 1 ∨ c = 2 by omega) with rfl | rfl | rfl <;> rfl
  intro i hi
  have hk := key (i / 9) (i / 3 % 3) (i % 3) (by omega) (by omega) (by omega)
  rw [show i / 9 * 9 + (i / 3 % 3 * 3 + i % 3) = i by omega] at hk
  rw [World.var?_cell hg hvar i, ← Array.getElem?_toList]
  exact hk

set_option maxHeartbeats 4000000 in
set_option maxRecDepth 40000 in
theorem pageConverts_any (s : ByteArray) (a b : Int) (y : Nat) (hy : y < 256) (w : World) (ht : Tabs w) (hsp : SpTab w) (hs : s.size ≤ maxLen) :
    Calls Tryd.prog 5 #[.string s, .agg #[.int .i64 a, .int .i64 b], .int .u8 y] w fun e w' => e = .returned (.bool true) ∧ Below w.heap.size w w' := by
  have HT := Lib.hid ht; clear ht
  have HSP := Lib.hid hsp; clear hsp
  have C0 := Lib.hid (over_any s hs)
  go_enter Tryd.func5, Tryd.ntmps5
  go_wp2_with fail
  refine (C0.out _).mono ?_
  rintro e w1 ⟨rfl, rfl⟩
  have hb0 : Below w.heap.size w (w.alloc (.cells #[.int .i64 a, .int .i64 b] 30)) := (Below.refl _ _).alloc (Nat.le_refl _) _
  have BX0 := Lib.hid (Bx.new w a b 30)
  have HT0 := Lib.hid (HT.out.below hb0 (Nat.le_refl _))
  have HSP0 := Lib.hid (HSP.out.below hb0 HT.out.pos)
  have HB0 := Lib.hid hb0; clear hb0
  generalize w.alloc (.cells #[.int .i64 a, .int .i64 b] 30) = w0 at *
  cases ho : decide (16384 < s.size)
  · clear ho
    have C1 := Lib.hid (fun W h h2 => Convert_any s a b y hy W h h2 hs)
    have C2 := Lib.hid (fun W => refConvert_any s a b y hy W hs)
    generalize cvT s a b y = x at *
    generalize cvK s a b = k at *
    generalize cvE s a b = n at *
    obtain ⟨c0, c1, _⟩ := BX0.out
    go_wp2_with fail
    refine (C1.out _ HT0.out HSP0.out).mono ?_
    rintro e x1 ⟨rfl, hb1⟩
    have HT1 := Lib.hid (HT0.out.below hb1 (Nat.le_refl _))
    have BX1 := Lib.hid (BX0.out.below hb1 (Nat.le_refl _))
    have HB1 := Lib.hid (HB0.out.trans (hb1.mono HB0.out.size)); clear hb1 c0 c1
    obtain ⟨c0, c1, _⟩ := BX1.out
    go_wp2_with fail
    refine (C2.out _).mono ?_
    rintro e x2 ⟨rfl, hb2⟩
    have HT2 := Lib.hid (HT1.out.below hb2 (Nat.le_refl _))
    have HB2 := Lib.hid (HB1.out.trans (hb2.mono HB1.out.size)); clear hb2 c0 c1
    go_wp2_with fail
    refine (known_any _ HT2.out).mono ?_
    rintro e x5 ⟨rfl, hb5⟩
    have HB5 := Lib.hid (HB2.out.trans (hb5.mono HB2.out.size)); clear hb5
    go_wp2_with fail
    go_ret
    exact ⟨rfl, HB5.out⟩
  · clear ho
    go_wp2_with fail
    refine (known_any _ HT0.out).mono ?_
    rintro e w3 ⟨rfl, hb3⟩
    have HB3 := Lib.hid (HB0.out.trans (hb3.mono HB0.out.size)); clear hb3
    go_wp2_with fail
    go_ret
    exact ⟨rfl, HB3.out⟩

theorem pageConverts_all (s : ByteArray) (a b y : Int) (w : World) (ht : Tabs w) (hsp : SpTab w) (hs : s.size ≤ maxLen) (hy : 0 ≤ y ∧ y ≤ 255) :
    Calls Tryd.prog 5 #[.string s, .agg #[.int .i64 a, .int .i64 b], .int .u8 y] w fun e w' => e = .returned (.bool true) ∧ Below w.heap.size w w' := by
  obtain ⟨z, rfl⟩ : ∃ z : Nat, y = z := ⟨y.toNat, by omega⟩
  exact pageConverts_any s a b z (by omega) w ht hsp hs
end Go.Proofs.YtgeikbcfjidgcaaDoor
