/- The law TableFits. -/
import Derived.Test.YtcgfeeobkoomfaaGreatDoorTbU
namespace Go.Proofs.YtcgfeeobkoomfaaGreatDoor
open Go.RowKit
set_option linter.unusedVariables false
set_option linter.unusedSimpArgs false
set_option maxRecDepth 40000
set_option maxHeartbeats 4000000 in
theorem fits_law (nm : ByteArray) (fk wd : Int) (nu : Bool) (p k n : Int) (s : ByteArray) (hs : nm.size ≤ maxLen) (hz : s.size ≤ maxLen) (w : World) (hL : Lds w) :
    Calls Tryz.prog 8 #[fv nm fk wd nu, .int .i64 p, vv k n s] w fun e w' => e = .returned (.bool true) ∧ Below w.heap.size w w' := by
  have CK := Lib.hid (fun W hW => known_any W hW)
  have hb0 : Below w.heap.size w ((w.alloc (.cells #[.string nm, .int .i64 fk, .int .i64 wd, .bool nu] 49)).alloc (.cells #[.int .i64 k, .int .i64 n, .string s] 51)) := ((Below.refl _ _).alloc (Nat.le_refl _) _).alloc (by simp) _
  have HB0 := Lib.hid hb0
  have HL0 := Lib.hid (hL.below hb0)
  have z0 : w.heap.size + 2 ≤ ((w.alloc (.cells #[.string nm, .int .i64 fk, .int .i64 wd, .bool nu] 49)).alloc (.cells #[.int .i64 k, .int .i64 n, .string s] 51)).heap.size := by simp
  have Z0 := Lib.hid z0
  clear hb0 z0
  cases hov : decide ((2000000 : Int) < wrap64 ((nm.size : Int) + s.size))
  case true =>
    go_enter Tryz.func8, Tryz.ntmps8
    go_wp2_with fail
    refine (CK.out _ HL0.out).mono ?_
    rintro e w1 ⟨rfl, hb1⟩
    go_wp2_with fail
    go_ret
    exact ⟨rfl, HB0.out.trans (hb1.mono HB0.out.size)⟩
  case false =>
    obtain ⟨k', n', s', er, ⟨H1, H2⟩, hz', H3⟩ := fit_both nm fk wd nu p k n s hs hz
    have C1 := Lib.hid H1
    have C2 := Lib.hid H2
    have CS := Lib.hid (fun W => Same_self k' n' s' W)
    have he : (er == er) = true := by simp
    have he' : (er != er) = false := by simp
    go_enter Tryz.func8, Tryz.ntmps8
    go_wp2_with fail
    refine (C1.out _ HL0.out).mono ?_
    unfold FitR
    rintro e w1 ⟨rfl, hb1⟩
    have fz : w.heap.size + 2 ≤ w1.heap.size := Nat.le_trans Z0.out hb1.size
    have b0 : w1.cell? ⟨w.heap.size, 0, none⟩ = some (.string nm) := (hb1.cell (p := ⟨w.heap.size, 0, none⟩) (by have := Z0.out; show w.heap.size < _; omega)).trans (by simp [go_sem])
    have b1 : w1.cell? ⟨w.heap.size, 1, none⟩ = some (.int .i64 fk) := (hb1.cell (p := ⟨w.heap.size, 1, none⟩) (by have := Z0.out; show w.heap.size < _; omega)).trans (by simp [go_sem])
    have b2 : w1.cell? ⟨w.heap.size, 2, none⟩ = some (.int .i64 wd) := (hb1.cell (p := ⟨w.heap.size, 2, none⟩) (by have := Z0.out; show w.heap.size < _; omega)).trans (by simp [go_sem])
    have b3 : w1.cell? ⟨w.heap.size, 3, none⟩ = some (.bool nu) := (hb1.cell (p := ⟨w.heap.size, 3, none⟩) (by have := Z0.out; show w.heap.size < _; omega)).trans (by simp [go_sem])
    have v0 : w1.cell? ⟨w.heap.size + 1, 0, none⟩ = some (.int .i64 k) := (hb1.cell (p := ⟨w.heap.size + 1, 0, none⟩) (by have := Z0.out; show w.heap.size + 1 < _; omega)).trans (by simp [go_sem])
    have v1 : w1.cell? ⟨w.heap.size + 1, 1, none⟩ = some (.int .i64 n) := (hb1.cell (p := ⟨w.heap.size + 1, 1, none⟩) (by have := Z0.out; show w.heap.size + 1 < _; omega)).trans (by simp [go_sem])
    have v2 : w1.cell? ⟨w.heap.size + 1, 2, none⟩ = some (.string s) := (hb1.cell (p := ⟨w.heap.size + 1, 2, none⟩) (by have := Z0.out; show w.heap.size + 1 < _; omega)).trans (by simp [go_sem])
    have HB1 := Lib.hid (HB0.out.trans (hb1.mono HB0.out.size))
    have g0 : w.heap.size < w1.heap.size := by omega
    have g1 : w.heap.size + 1 < w1.heap.size := by omega
    clear hb1
    go_wp2_with fail
    refine (C2.out _).mono ?_
    rintro e w2 ⟨rfl, hb2⟩
    have hba := (Below.refl w1.heap.size w1).alloc (Nat.le_refl _) (.cells #[.int .i64 k', .int .i64 n', .string s'] 51)
    have hbb := hba.trans (hb2.mono hba.size)
    have hz2 : w1.heap.size + 1 ≤ w2.heap.size := Nat.le_trans (by simp) hb2.size
    have r0 : w2.cell? ⟨w1.heap.size, 0, none⟩ = some (.int .i64 k') := (hb2.cell (p := ⟨w1.heap.size, 0, none⟩) (by simp)).trans (by simp [go_sem])
    have r1 : w2.cell? ⟨w1.heap.size, 1, none⟩ = some (.int .i64 n') := (hb2.cell (p := ⟨w1.heap.size, 1, none⟩) (by simp)).trans (by simp [go_sem])
    have r2 : w2.cell? ⟨w1.heap.size, 2, none⟩ = some (.string s') := (hb2.cell (p := ⟨w1.heap.size, 2, none⟩) (by simp)).trans (by simp [go_sem])
    have x0 := (hbb.cell (p := ⟨w.heap.size, 0, none⟩) g0).trans b0
    have x1 := (hbb.cell (p := ⟨w.heap.size, 1, none⟩) g0).trans b1
    have x2 := (hbb.cell (p := ⟨w.heap.size, 2, none⟩) g0).trans b2
    have x3 := (hbb.cell (p := ⟨w.heap.size, 3, none⟩) g0).trans b3
    have HB2 := Lib.hid (HB1.out.trans (hbb.mono HB1.out.size))
    have gg0 : w.heap.size < w2.heap.size := by omega
    have gg1 : w1.heap.size < w2.heap.size := by omega
    clear hb2 hbb hba b0 b1 b2 b3 v0 v1 v2
    go_wp2_with fail
    refine (CS.out _).mono ?_
    rintro e w3 ⟨rfl, hb3⟩
    have hba := (Below.refl w2.heap.size w2).alloc (Nat.le_refl _) (.cells #[.int .i64 k', .int .i64 n', .string s'] 51)
    have hbb := hba.trans (hb3.mono hba.size)
    have y0 := (hbb.cell (p := ⟨w.heap.size, 0, none⟩) gg0).trans x0
    have y1 := (hbb.cell (p := ⟨w.heap.size, 1, none⟩) gg0).trans x1
    have y2 := (hbb.cell (p := ⟨w.heap.size, 2, none⟩) gg0).trans x2
    have y3 := (hbb.cell (p := ⟨w.heap.size, 3, none⟩) gg0).trans x3
    have s0 := (hbb.cell (p := ⟨w1.heap.size, 0, none⟩) gg1).trans r0
    have s1 := (hbb.cell (p := ⟨w1.heap.size, 1, none⟩) gg1).trans r1
    have s2 := (hbb.cell (p := ⟨w1.heap.size, 2, none⟩) gg1).trans r2
    have hz3 : w2.heap.size + 1 ≤ w3.heap.size := Nat.le_trans (by simp) hb3.size
    have HB3 := Lib.hid (HB2.out.trans (hbb.mono HB2.out.size))
    have HL3 := Lib.hid (hL.below HB3.out)
    clear hb3 hbb hba r0 r1 r2 x0 x1 x2 x3
    by_cases hr : er = 0
    · have C3 := Lib.hid (H3 hr).1
      subst hr
      go_wp2_with fail
      refine (C3.out _ HL3.out).mono ?_
      unfold FitR
      rintro e w4 ⟨rfl, hb4⟩
      have gg3 : w1.heap.size < w3.heap.size := by omega
      have p0 := (hb4.cell (p := ⟨w1.heap.size, 0, none⟩) gg3).trans s0
      have p1 := (hb4.cell (p := ⟨w1.heap.size, 1, none⟩) gg3).trans s1
      have p2 := (hb4.cell (p := ⟨w1.heap.size, 2, none⟩) gg3).trans s2
      have hz4 : w1.heap.size < w4.heap.size := Nat.lt_of_lt_of_le gg3 hb4.size
      have HB4 := Lib.hid (HB3.out.trans (hb4.mono HB3.out.size))
      have HBb := Lib.hid (HB4.out.alloc HB4.out.size (.cells #[.int .i64 k', .int .i64 n', .string s'] 51))
      clear hb4 y0 y1 y2 y3 s0 s1 s2
      go_wp2_with fail
      refine (CS.out _).mono ?_
      rintro e w5 ⟨rfl, hb5⟩
      have HB5 := Lib.hid (HBb.out.trans (hb5.mono HBb.out.size))
      have HL5 := Lib.hid (hL.below HB5.out)
      clear hb5
      go_wp2_with fail
      refine (CK.out _ HL5.out).mono ?_
      rintro e w6 ⟨rfl, hb6⟩
      go_wp2_with fail
      go_ret
      exact ⟨rfl, HB5.out.trans (hb6.mono HB5.out.size)⟩
    · have hr' : (er == 0) = false := by simpa using hr
      go_wp2_with fail
      refine (CK.out _ HL3.out).mono ?_
      rintro e w4 ⟨rfl, hb4⟩
      go_wp2_with fail
      go_ret
      exact ⟨rfl, HB3.out.trans (hb4.mono HB3.out.size)⟩
end Go.Proofs.YtcgfeeobkoomfaaGreatDoor
