/- Fit of both: values that a field may have, the program. -/
import Derived.Test.YtcgfeeobkoomfaaGreatDoorTbF
import Derived.Deep.RegionHeld3
namespace Go.Proofs.YtcgfeeobkoomfaaGreatDoor
open Go.RowKit
set_option linter.unusedVariables false
set_option linter.unusedSimpArgs false
set_option maxRecDepth 40000

set_option maxHeartbeats 4000000 in
theorem fit_text_yes (nm : ByteArray) (m : Nat) (nu : Bool) (q : Nat) (n : Int) (s : ByteArray) (w : World) (hs : nm.size ≤ maxLen) (h : fldB nm 4 m = true) (hp : decide (0 ≤ (q : Int) ∧ (q : Int) ≤ 2) = true) (hz : s.size ≤ maxLen) (hv : vE 4 n s = 0) (hq : q < 3) (hm : m ≤ 254) (hLd : Lds w) (hok : vld q (cutT s m).data.toList = true) : Calls Tryz.prog 33 #[fv nm 4 m nu, .int .i64 q, vv 4 n s] w (FitR 4 0 (cutT s m) 0 w) := by
  have CF := Lib.hid (fun W hW => fitText_any nm 4 m nu q 4 n s W hq hm hz hW)
  unfold TxR at CF
  rw [hok] at CF
  simp only [if_true, if_false, Bool.false_eq_true] at CF
  clear hok
  generalize cutT s m = t at *
  have KF := Lib.hid (fun W => kindOf_any nm 4 m nu W)
  rw [show kofN 4 = 4 from rfl] at KF
  have C1 := Lib.hid (fun W => isField_any nm 4 m nu W hs)
  unfold FldP at C1
  rw [h] at C1
  have C2 := Lib.hid (fun W => isPage_any q W)
  rw [hp] at C2
  have C3 := Lib.hid (fun W => validate_any 4 n s W hz)
  rw [hv] at C3
  clear hv
  clear h hp
  have hF : FB (((w.alloc (.cells #[.string nm, .int .i64 4, .int .i64 m, .bool nu] 49)).alloc (.cells #[.int .i64 4, .int .i64 n, .string s] 51)).alloc (.cells #[.int .i64 0, .int .i64 0, .string nos] 51)) w.heap.size nm 4 m nu 4 n s := FB.new w nm 4 m nu 4 n s
  have HB := Lib.hid (three_below w (.cells #[.string nm, .int .i64 4, .int .i64 m, .bool nu] 49) (.cells #[.int .i64 4, .int .i64 n, .string s] 51) (.cells #[.int .i64 0, .int .i64 0, .string nos] 51))
  obtain ⟨f0, f1, f2, f3, v0, v1, v2, r0, r1, r2, q0, q1, q2, z1, z2, z3⟩ := hF
  have hF := FB.new w nm 4 m nu 4 n s
  go_enter Tryz.func33, Tryz.ntmps33
  go_wp2_with fail
  refine (C1.out _).mono ?_
  rintro e w1 ⟨rfl, hb1⟩
  have hF1 := hF.below hb1 hF.z3
  have HB1 := Lib.hid (HB.out.trans (hb1.mono (by have := HB.out.size; omega)))
  clear hF HB hb1 f0 f1 f2 f3 v0 v1 v2 r0 r1 r2 q0 q1 q2 z1 z2 z3
  have hF := hF1
  have HB := HB1
  clear hF1 HB1
  obtain ⟨f0, f1, f2, f3, v0, v1, v2, r0, r1, r2, q0, q1, q2, z1, z2, z3⟩ := hF
  have hF : FB w1 w.heap.size nm 4 m nu 4 n s := ⟨f0, f1, f2, f3, v0, v1, v2, r0, r1, r2, q0, q1, q2, z1, z2, z3⟩
  go_wp2_with fail
  refine (C2.out _).mono ?_
  rintro e w' ⟨rfl, rfl⟩
  go_wp2_with fail
  refine (C3.out _).mono ?_
  rintro e w2 ⟨rfl, hb2⟩
  have hF2 := hF.below hb2 hF.z3
  have HB2 := Lib.hid (HB.out.trans (hb2.mono (by have := HB.out.size; omega)))
  clear hF HB hb2 f0 f1 f2 f3 v0 v1 v2 r0 r1 r2 q0 q1 q2 z1 z2 z3
  have hF := hF2
  have HB := HB2
  clear hF2 HB2
  obtain ⟨f0, f1, f2, f3, v0, v1, v2, r0, r1, r2, q0, q1, q2, z1, z2, z3⟩ := hF
  have hF : FB w2 w.heap.size nm 4 m nu 4 n s := ⟨f0, f1, f2, f3, v0, v1, v2, r0, r1, r2, q0, q1, q2, z1, z2, z3⟩
  go_wp2_with fail
  have hbw := Lib.hid (Below.refl w2.heap.size w2).drew
  have hzd : w2.heap.size ≤ w2.drew.heap.size := by simp
  go_region_held3 (fun x => x.cell? ⟨w.heap.size, 0, none⟩ = some (.string nm) ∧ x.cell? ⟨w.heap.size, 1, none⟩ = some (.int .i64 4) ∧ x.cell? ⟨w.heap.size, 2, none⟩ = some (.int .i64 m) ∧ x.cell? ⟨w.heap.size, 3, none⟩ = some (.bool nu) ∧ x.cell? ⟨w.heap.size + 1, 0, none⟩ = some (.int .i64 4)) (first | exact ⟨f0, f1, f2, f3, v0⟩ | go_keep)
    (first | (go_at_call 70; (with_reducible refine (KF.out _).mono ?_); rintro e xK ⟨rfl, hx1⟩; have f0 : xK.cell? ⟨w.heap.size, 0, none⟩ = some (.string nm) := (hx1.cell (p := ⟨w.heap.size, 0, none⟩) (by simp at hzd ⊢; omega)).trans f0; have f1 : xK.cell? ⟨w.heap.size, 1, none⟩ = some (.int .i64 4) := (hx1.cell (p := ⟨w.heap.size, 1, none⟩) (by simp at hzd ⊢; omega)).trans f1; have f2 : xK.cell? ⟨w.heap.size, 2, none⟩ = some (.int .i64 m) := (hx1.cell (p := ⟨w.heap.size, 2, none⟩) (by simp at hzd ⊢; omega)).trans f2; have f3 : xK.cell? ⟨w.heap.size, 3, none⟩ = some (.bool nu) := (hx1.cell (p := ⟨w.heap.size, 3, none⟩) (by simp at hzd ⊢; omega)).trans f3; have v0 : xK.cell? ⟨w.heap.size + 1, 0, none⟩ = some (.int .i64 4) := (hx1.cell (p := ⟨w.heap.size + 1, 0, none⟩) (by simp at hzd ⊢; omega)).trans v0; have hbw := Lib.hid (hbw.out.trans (hx1.mono hzd)); clear hx1 hzd))
  all_goals
    have hFQ := hF.below hbw.out hF.z3
    have HBQ := Lib.hid (HB.out.trans (hbw.out.mono (by have := HB.out.size; omega)))
    clear hF HB hbw f0 f1 f2 f3 v0 v1 v2 r0 r1 r2 q0 q1 q2 z1 z2 z3
    have hF := hFQ
    have HB := HBQ
    clear hFQ HBQ
    obtain ⟨f0, f1, f2, f3, v0, v1, v2, r0, r1, r2, q0, q1, q2, z1, z2, z3⟩ := hF
    have hF : FB xK w.heap.size nm 4 m nu 4 n s := ⟨f0, f1, f2, f3, v0, v1, v2, r0, r1, r2, q0, q1, q2, z1, z2, z3⟩
  all_goals
    have hLx := hLd.below HB.out
    go_wp2_with fail
    refine (CF.out _ hLx).mono ?_
    rintro e w3 ⟨rfl, hb3⟩
    have hF3 := hF.below hb3 hF.z3
    have HB3 := Lib.hid (HB.out.trans (hb3.mono (by have := HB.out.size; omega)))
    clear hF HB hb3 f0 f1 f2 f3 v0 v1 v2 r0 r1 r2 q0 q1 q2 z1 z2 z3
    have hF := hF3
    have HB := HB3
    clear hF3 HB3
    obtain ⟨f0, f1, f2, f3, v0, v1, v2, r0, r1, r2, q0, q1, q2, z1, z2, z3⟩ := hF
    have hF : FB w3 w.heap.size nm 4 m nu 4 n s := ⟨f0, f1, f2, f3, v0, v1, v2, r0, r1, r2, q0, q1, q2, z1, z2, z3⟩
  all_goals
    go_wp2_with fail
    exact bodyPost_ret (v := .tuple #[vv 4 0 t, .int .i64 0]) (by simp [results, Tryz.results33, go_sem, r0, r1, r2, z1, z2, z3]) rfl ⟨rfl, ((HB.out.setCell (by simp; omega) _).setCell (by simp; omega) _).setCell (by simp; omega) _⟩

set_option maxHeartbeats 4000000 in
theorem fit_text_no (nm : ByteArray) (m : Nat) (nu : Bool) (q : Nat) (n : Int) (s : ByteArray) (w : World) (hs : nm.size ≤ maxLen) (h : fldB nm 4 m = true) (hp : decide (0 ≤ (q : Int) ∧ (q : Int) ≤ 2) = true) (hz : s.size ≤ maxLen) (hv : vE 4 n s = 0) (hq : q < 3) (hm : m ≤ 254) (hLd : Lds w) (hok : vld q (cutT s m).data.toList = false) : Calls Tryz.prog 33 #[fv nm 4 m nu, .int .i64 q, vv 4 n s] w (FitR 0 0 nos 10 w) := by
  have CF := Lib.hid (fun W hW => fitText_any nm 4 m nu q 4 n s W hq hm hz hW)
  unfold TxR at CF
  rw [hok] at CF
  simp only [if_true, if_false, Bool.false_eq_true] at CF
  clear hok
  generalize cutT s m = t at *
  have KF := Lib.hid (fun W => kindOf_any nm 4 m nu W)
  rw [show kofN 4 = 4 from rfl] at KF
  have C1 := Lib.hid (fun W => isField_any nm 4 m nu W hs)
  unfold FldP at C1
  rw [h] at C1
  have C2 := Lib.hid (fun W => isPage_any q W)
  rw [hp] at C2
  have C3 := Lib.hid (fun W => validate_any 4 n s W hz)
  rw [hv] at C3
  clear hv
  clear h hp
  have hF : FB (((w.alloc (.cells #[.string nm, .int .i64 4, .int .i64 m, .bool nu] 49)).alloc (.cells #[.int .i64 4, .int .i64 n, .string s] 51)).alloc (.cells #[.int .i64 0, .int .i64 0, .string nos] 51)) w.heap.size nm 4 m nu 4 n s := FB.new w nm 4 m nu 4 n s
  have HB := Lib.hid (three_below w (.cells #[.string nm, .int .i64 4, .int .i64 m, .bool nu] 49) (.cells #[.int .i64 4, .int .i64 n, .string s] 51) (.cells #[.int .i64 0, .int .i64 0, .string nos] 51))
  obtain ⟨f0, f1, f2, f3, v0, v1, v2, r0, r1, r2, q0, q1, q2, z1, z2, z3⟩ := hF
  have hF := FB.new w nm 4 m nu 4 n s
  go_enter Tryz.func33, Tryz.ntmps33
  go_wp2_with fail
  refine (C1.out _).mono ?_
  rintro e w1 ⟨rfl, hb1⟩
  have hF1 := hF.below hb1 hF.z3
  have HB1 := Lib.hid (HB.out.trans (hb1.mono (by have := HB.out.size; omega)))
  clear hF HB hb1 f0 f1 f2 f3 v0 v1 v2 r0 r1 r2 q0 q1 q2 z1 z2 z3
  have hF := hF1
  have HB := HB1
  clear hF1 HB1
  obtain ⟨f0, f1, f2, f3, v0, v1, v2, r0, r1, r2, q0, q1, q2, z1, z2, z3⟩ := hF
  have hF : FB w1 w.heap.size nm 4 m nu 4 n s := ⟨f0, f1, f2, f3, v0, v1, v2, r0, r1, r2, q0, q1, q2, z1, z2, z3⟩
  go_wp2_with fail
  refine (C2.out _).mono ?_
  rintro e w' ⟨rfl, rfl⟩
  go_wp2_with fail
  refine (C3.out _).mono ?_
  rintro e w2 ⟨rfl, hb2⟩
  have hF2 := hF.below hb2 hF.z3
  have HB2 := Lib.hid (HB.out.trans (hb2.mono (by have := HB.out.size; omega)))
  clear hF HB hb2 f0 f1 f2 f3 v0 v1 v2 r0 r1 r2 q0 q1 q2 z1 z2 z3
  have hF := hF2
  have HB := HB2
  clear hF2 HB2
  obtain ⟨f0, f1, f2, f3, v0, v1, v2, r0, r1, r2, q0, q1, q2, z1, z2, z3⟩ := hF
  have hF : FB w2 w.heap.size nm 4 m nu 4 n s := ⟨f0, f1, f2, f3, v0, v1, v2, r0, r1, r2, q0, q1, q2, z1, z2, z3⟩
  go_wp2_with fail
  have hbw := Lib.hid (Below.refl w2.heap.size w2).drew
  have hzd : w2.heap.size ≤ w2.drew.heap.size := by simp
  go_region_held3 (fun x => x.cell? ⟨w.heap.size, 0, none⟩ = some (.string nm) ∧ x.cell? ⟨w.heap.size, 1, none⟩ = some (.int .i64 4) ∧ x.cell? ⟨w.heap.size, 2, none⟩ = some (.int .i64 m) ∧ x.cell? ⟨w.heap.size, 3, none⟩ = some (.bool nu) ∧ x.cell? ⟨w.heap.size + 1, 0, none⟩ = some (.int .i64 4)) (first | exact ⟨f0, f1, f2, f3, v0⟩ | go_keep)
    (first | (go_at_call 70; (with_reducible refine (KF.out _).mono ?_); rintro e xK ⟨rfl, hx1⟩; have f0 : xK.cell? ⟨w.heap.size, 0, none⟩ = some (.string nm) := (hx1.cell (p := ⟨w.heap.size, 0, none⟩) (by simp at hzd ⊢; omega)).trans f0; have f1 : xK.cell? ⟨w.heap.size, 1, none⟩ = some (.int .i64 4) := (hx1.cell (p := ⟨w.heap.size, 1, none⟩) (by simp at hzd ⊢; omega)).trans f1; have f2 : xK.cell? ⟨w.heap.size, 2, none⟩ = some (.int .i64 m) := (hx1.cell (p := ⟨w.heap.size, 2, none⟩) (by simp at hzd ⊢; omega)).trans f2; have f3 : xK.cell? ⟨w.heap.size, 3, none⟩ = some (.bool nu) := (hx1.cell (p := ⟨w.heap.size, 3, none⟩) (by simp at hzd ⊢; omega)).trans f3; have v0 : xK.cell? ⟨w.heap.size + 1, 0, none⟩ = some (.int .i64 4) := (hx1.cell (p := ⟨w.heap.size + 1, 0, none⟩) (by simp at hzd ⊢; omega)).trans v0; have hbw := Lib.hid (hbw.out.trans (hx1.mono hzd)); clear hx1 hzd))
  all_goals
    have hFQ := hF.below hbw.out hF.z3
    have HBQ := Lib.hid (HB.out.trans (hbw.out.mono (by have := HB.out.size; omega)))
    clear hF HB hbw f0 f1 f2 f3 v0 v1 v2 r0 r1 r2 q0 q1 q2 z1 z2 z3
    have hF := hFQ
    have HB := HBQ
    clear hFQ HBQ
    obtain ⟨f0, f1, f2, f3, v0, v1, v2, r0, r1, r2, q0, q1, q2, z1, z2, z3⟩ := hF
    have hF : FB xK w.heap.size nm 4 m nu 4 n s := ⟨f0, f1, f2, f3, v0, v1, v2, r0, r1, r2, q0, q1, q2, z1, z2, z3⟩
  all_goals
    have hLx := hLd.below HB.out
    go_wp2_with fail
    refine (CF.out _ hLx).mono ?_
    rintro e w3 ⟨rfl, hb3⟩
    have hF3 := hF.below hb3 hF.z3
    have HB3 := Lib.hid (HB.out.trans (hb3.mono (by have := HB.out.size; omega)))
    clear hF HB hb3 f0 f1 f2 f3 v0 v1 v2 r0 r1 r2 q0 q1 q2 z1 z2 z3
    have hF := hF3
    have HB := HB3
    clear hF3 HB3
    obtain ⟨f0, f1, f2, f3, v0, v1, v2, r0, r1, r2, q0, q1, q2, z1, z2, z3⟩ := hF
    have hF : FB w3 w.heap.size nm 4 m nu 4 n s := ⟨f0, f1, f2, f3, v0, v1, v2, r0, r1, r2, q0, q1, q2, z1, z2, z3⟩
  all_goals
    go_wp2_with fail
    exact bodyPost_ret (v := .tuple #[vv 0 0 nos, .int .i64 10]) (by simp [results, Tryz.results33, go_sem, r0, r1, r2, z1, z2, z3]) rfl ⟨rfl, ((HB.out.setCell (by simp; omega) _).setCell (by simp; omega) _).setCell (by simp; omega) _⟩

set_option maxHeartbeats 4000000 in
theorem fit_num_yes (nm : ByteArray) (m : Nat) (nu : Bool) (p n : Int) (s : ByteArray) (w : World) (hs : nm.size ≤ maxLen) (h : fldB nm 2 m = true) (hp : decide (0 ≤ p ∧ p ≤ 2) = true) (hz : s.size ≤ maxLen) (hv : vE 2 n s = 0) (hin : inB n = true) (hm1 : 1 ≤ m) (hm : m ≤ 254) (hLd : Lds w) (hok : decide ((dec n).size ≤ m) = true) : Calls Tryz.prog 33 #[fv nm 2 m nu, .int .i64 p, vv 2 n s] w (FitR 2 n s 0 w) := by
  have CF := Lib.hid (fun W hW => rightJ_any n m hin hm1 hm W hW)
  rw [hok] at CF
  clear hok hin
  generalize strB n m = t at *
  have KF := Lib.hid (fun W => kindOf_any nm 2 m nu W)
  rw [show kofN 2 = 2 from rfl] at KF
  have C1 := Lib.hid (fun W => isField_any nm 2 m nu W hs)
  unfold FldP at C1
  rw [h] at C1
  have C2 := Lib.hid (fun W => isPage_any p W)
  rw [hp] at C2
  have C3 := Lib.hid (fun W => validate_any 2 n s W hz)
  rw [hv] at C3
  clear hv
  clear h hp
  have hF : FB (((w.alloc (.cells #[.string nm, .int .i64 2, .int .i64 m, .bool nu] 49)).alloc (.cells #[.int .i64 2, .int .i64 n, .string s] 51)).alloc (.cells #[.int .i64 0, .int .i64 0, .string nos] 51)) w.heap.size nm 2 m nu 2 n s := FB.new w nm 2 m nu 2 n s
  have HB := Lib.hid (three_below w (.cells #[.string nm, .int .i64 2, .int .i64 m, .bool nu] 49) (.cells #[.int .i64 2, .int .i64 n, .string s] 51) (.cells #[.int .i64 0, .int .i64 0, .string nos] 51))
  obtain ⟨f0, f1, f2, f3, v0, v1, v2, r0, r1, r2, q0, q1, q2, z1, z2, z3⟩ := hF
  have hF := FB.new w nm 2 m nu 2 n s
  go_enter Tryz.func33, Tryz.ntmps33
  go_wp2_with fail
  refine (C1.out _).mono ?_
  rintro e w1 ⟨rfl, hb1⟩
  have hF1 := hF.below hb1 hF.z3
  have HB1 := Lib.hid (HB.out.trans (hb1.mono (by have := HB.out.size; omega)))
  clear hF HB hb1 f0 f1 f2 f3 v0 v1 v2 r0 r1 r2 q0 q1 q2 z1 z2 z3
  have hF := hF1
  have HB := HB1
  clear hF1 HB1
  obtain ⟨f0, f1, f2, f3, v0, v1, v2, r0, r1, r2, q0, q1, q2, z1, z2, z3⟩ := hF
  have hF : FB w1 w.heap.size nm 2 m nu 2 n s := ⟨f0, f1, f2, f3, v0, v1, v2, r0, r1, r2, q0, q1, q2, z1, z2, z3⟩
  go_wp2_with fail
  refine (C2.out _).mono ?_
  rintro e w' ⟨rfl, rfl⟩
  go_wp2_with fail
  refine (C3.out _).mono ?_
  rintro e w2 ⟨rfl, hb2⟩
  have hF2 := hF.below hb2 hF.z3
  have HB2 := Lib.hid (HB.out.trans (hb2.mono (by have := HB.out.size; omega)))
  clear hF HB hb2 f0 f1 f2 f3 v0 v1 v2 r0 r1 r2 q0 q1 q2 z1 z2 z3
  have hF := hF2
  have HB := HB2
  clear hF2 HB2
  obtain ⟨f0, f1, f2, f3, v0, v1, v2, r0, r1, r2, q0, q1, q2, z1, z2, z3⟩ := hF
  have hF : FB w2 w.heap.size nm 2 m nu 2 n s := ⟨f0, f1, f2, f3, v0, v1, v2, r0, r1, r2, q0, q1, q2, z1, z2, z3⟩
  go_wp2_with fail
  have hbw := Lib.hid (Below.refl w2.heap.size w2).drew
  have hzd : w2.heap.size ≤ w2.drew.heap.size := by simp
  go_region_held3 (fun x => x.cell? ⟨w.heap.size, 0, none⟩ = some (.string nm) ∧ x.cell? ⟨w.heap.size, 1, none⟩ = some (.int .i64 2) ∧ x.cell? ⟨w.heap.size, 2, none⟩ = some (.int .i64 m) ∧ x.cell? ⟨w.heap.size, 3, none⟩ = some (.bool nu) ∧ x.cell? ⟨w.heap.size + 1, 0, none⟩ = some (.int .i64 2)) (first | exact ⟨f0, f1, f2, f3, v0⟩ | go_keep)
    (first | (go_at_call 70; (with_reducible refine (KF.out _).mono ?_); rintro e xK ⟨rfl, hx1⟩; have f0 : xK.cell? ⟨w.heap.size, 0, none⟩ = some (.string nm) := (hx1.cell (p := ⟨w.heap.size, 0, none⟩) (by simp at hzd ⊢; omega)).trans f0; have f1 : xK.cell? ⟨w.heap.size, 1, none⟩ = some (.int .i64 2) := (hx1.cell (p := ⟨w.heap.size, 1, none⟩) (by simp at hzd ⊢; omega)).trans f1; have f2 : xK.cell? ⟨w.heap.size, 2, none⟩ = some (.int .i64 m) := (hx1.cell (p := ⟨w.heap.size, 2, none⟩) (by simp at hzd ⊢; omega)).trans f2; have f3 : xK.cell? ⟨w.heap.size, 3, none⟩ = some (.bool nu) := (hx1.cell (p := ⟨w.heap.size, 3, none⟩) (by simp at hzd ⊢; omega)).trans f3; have v0 : xK.cell? ⟨w.heap.size + 1, 0, none⟩ = some (.int .i64 2) := (hx1.cell (p := ⟨w.heap.size + 1, 0, none⟩) (by simp at hzd ⊢; omega)).trans v0; have hbw := Lib.hid (hbw.out.trans (hx1.mono hzd)); clear hx1 hzd))
  all_goals
    have hFQ := hF.below hbw.out hF.z3
    have HBQ := Lib.hid (HB.out.trans (hbw.out.mono (by have := HB.out.size; omega)))
    clear hF HB hbw f0 f1 f2 f3 v0 v1 v2 r0 r1 r2 q0 q1 q2 z1 z2 z3
    have hF := hFQ
    have HB := HBQ
    clear hFQ HBQ
    obtain ⟨f0, f1, f2, f3, v0, v1, v2, r0, r1, r2, q0, q1, q2, z1, z2, z3⟩ := hF
    have hF : FB xK w.heap.size nm 2 m nu 2 n s := ⟨f0, f1, f2, f3, v0, v1, v2, r0, r1, r2, q0, q1, q2, z1, z2, z3⟩
  all_goals
    have hLx := hLd.below HB.out
    go_wp2_with fail
    refine (CF.out _ hLx).mono ?_
    rintro e w3 ⟨rfl, hb3⟩
    have hF3 := hF.below hb3 hF.z3
    have HB3 := Lib.hid (HB.out.trans (hb3.mono (by have := HB.out.size; omega)))
    clear hF HB hb3 f0 f1 f2 f3 v0 v1 v2 r0 r1 r2 q0 q1 q2 z1 z2 z3
    have hF := hF3
    have HB := HB3
    clear hF3 HB3
    obtain ⟨f0, f1, f2, f3, v0, v1, v2, r0, r1, r2, q0, q1, q2, z1, z2, z3⟩ := hF
    have hF : FB w3 w.heap.size nm 2 m nu 2 n s := ⟨f0, f1, f2, f3, v0, v1, v2, r0, r1, r2, q0, q1, q2, z1, z2, z3⟩
  all_goals
    go_wp2_with fail
    exact bodyPost_ret (v := .tuple #[vv 2 n s, .int .i64 0]) (by simp [results, Tryz.results33, go_sem, r0, r1, r2, z1, z2, z3]) rfl ⟨rfl, ((HB.out.setCell (by simp; omega) _).setCell (by simp; omega) _).setCell (by simp; omega) _⟩

set_option maxHeartbeats 4000000 in
theorem fit_num_no (nm : ByteArray) (m : Nat) (nu : Bool) (p n : Int) (s : ByteArray) (w : World) (hs : nm.size ≤ maxLen) (h : fldB nm 2 m = true) (hp : decide (0 ≤ p ∧ p ≤ 2) = true) (hz : s.size ≤ maxLen) (hv : vE 2 n s = 0) (hin : inB n = true) (hm1 : 1 ≤ m) (hm : m ≤ 254) (hLd : Lds w) (hok : decide ((dec n).size ≤ m) = false) : Calls Tryz.prog 33 #[fv nm 2 m nu, .int .i64 p, vv 2 n s] w (FitR 0 0 nos 10 w) := by
  have CF := Lib.hid (fun W hW => rightJ_any n m hin hm1 hm W hW)
  rw [hok] at CF
  clear hok hin
  generalize strB n m = t at *
  have KF := Lib.hid (fun W => kindOf_any nm 2 m nu W)
  rw [show kofN 2 = 2 from rfl] at KF
  have C1 := Lib.hid (fun W => isField_any nm 2 m nu W hs)
  unfold FldP at C1
  rw [h] at C1
  have C2 := Lib.hid (fun W => isPage_any p W)
  rw [hp] at C2
  have C3 := Lib.hid (fun W => validate_any 2 n s W hz)
  rw [hv] at C3
  clear hv
  clear h hp
  have hF : FB (((w.alloc (.cells #[.string nm, .int .i64 2, .int .i64 m, .bool nu] 49)).alloc (.cells #[.int .i64 2, .int .i64 n, .string s] 51)).alloc (.cells #[.int .i64 0, .int .i64 0, .string nos] 51)) w.heap.size nm 2 m nu 2 n s := FB.new w nm 2 m nu 2 n s
  have HB := Lib.hid (three_below w (.cells #[.string nm, .int .i64 2, .int .i64 m, .bool nu] 49) (.cells #[.int .i64 2, .int .i64 n, .string s] 51) (.cells #[.int .i64 0, .int .i64 0, .string nos] 51))
  obtain ⟨f0, f1, f2, f3, v0, v1, v2, r0, r1, r2, q0, q1, q2, z1, z2, z3⟩ := hF
  have hF := FB.new w nm 2 m nu 2 n s
  go_enter Tryz.func33, Tryz.ntmps33
  go_wp2_with fail
  refine (C1.out _).mono ?_
  rintro e w1 ⟨rfl, hb1⟩
  have hF1 := hF.below hb1 hF.z3
  have HB1 := Lib.hid (HB.out.trans (hb1.mono (by have := HB.out.size; omega)))
  clear hF HB hb1 f0 f1 f2 f3 v0 v1 v2 r0 r1 r2 q0 q1 q2 z1 z2 z3
  have hF := hF1
  have HB := HB1
  clear hF1 HB1
  obtain ⟨f0, f1, f2, f3, v0, v1, v2, r0, r1, r2, q0, q1, q2, z1, z2, z3⟩ := hF
  have hF : FB w1 w.heap.size nm 2 m nu 2 n s := ⟨f0, f1, f2, f3, v0, v1, v2, r0, r1, r2, q0, q1, q2, z1, z2, z3⟩
  go_wp2_with fail
  refine (C2.out _).mono ?_
  rintro e w' ⟨rfl, rfl⟩
  go_wp2_with fail
  refine (C3.out _).mono ?_
  rintro e w2 ⟨rfl, hb2⟩
  have hF2 := hF.below hb2 hF.z3
  have HB2 := Lib.hid (HB.out.trans (hb2.mono (by have := HB.out.size; omega)))
  clear hF HB hb2 f0 f1 f2 f3 v0 v1 v2 r0 r1 r2 q0 q1 q2 z1 z2 z3
  have hF := hF2
  have HB := HB2
  clear hF2 HB2
  obtain ⟨f0, f1, f2, f3, v0, v1, v2, r0, r1, r2, q0, q1, q2, z1, z2, z3⟩ := hF
  have hF : FB w2 w.heap.size nm 2 m nu 2 n s := ⟨f0, f1, f2, f3, v0, v1, v2, r0, r1, r2, q0, q1, q2, z1, z2, z3⟩
  go_wp2_with fail
  have hbw := Lib.hid (Below.refl w2.heap.size w2).drew
  have hzd : w2.heap.size ≤ w2.drew.heap.size := by simp
  go_region_held3 (fun x => x.cell? ⟨w.heap.size, 0, none⟩ = some (.string nm) ∧ x.cell? ⟨w.heap.size, 1, none⟩ = some (.int .i64 2) ∧ x.cell? ⟨w.heap.size, 2, none⟩ = some (.int .i64 m) ∧ x.cell? ⟨w.heap.size, 3, none⟩ = some (.bool nu) ∧ x.cell? ⟨w.heap.size + 1, 0, none⟩ = some (.int .i64 2)) (first | exact ⟨f0, f1, f2, f3, v0⟩ | go_keep)
    (first | (go_at_call 70; (with_reducible refine (KF.out _).mono ?_); rintro e xK ⟨rfl, hx1⟩; have f0 : xK.cell? ⟨w.heap.size, 0, none⟩ = some (.string nm) := (hx1.cell (p := ⟨w.heap.size, 0, none⟩) (by simp at hzd ⊢; omega)).trans f0; have f1 : xK.cell? ⟨w.heap.size, 1, none⟩ = some (.int .i64 2) := (hx1.cell (p := ⟨w.heap.size, 1, none⟩) (by simp at hzd ⊢; omega)).trans f1; have f2 : xK.cell? ⟨w.heap.size, 2, none⟩ = some (.int .i64 m) := (hx1.cell (p := ⟨w.heap.size, 2, none⟩) (by simp at hzd ⊢; omega)).trans f2; have f3 : xK.cell? ⟨w.heap.size, 3, none⟩ = some (.bool nu) := (hx1.cell (p := ⟨w.heap.size, 3, none⟩) (by simp at hzd ⊢; omega)).trans f3; have v0 : xK.cell? ⟨w.heap.size + 1, 0, none⟩ = some (.int .i64 2) := (hx1.cell (p := ⟨w.heap.size + 1, 0, none⟩) (by simp at hzd ⊢; omega)).trans v0; have hbw := Lib.hid (hbw.out.trans (hx1.mono hzd)); clear hx1 hzd))
  all_goals
    have hFQ := hF.below hbw.out hF.z3
    have HBQ := Lib.hid (HB.out.trans (hbw.out.mono (by have := HB.out.size; omega)))
    clear hF HB hbw f0 f1 f2 f3 v0 v1 v2 r0 r1 r2 q0 q1 q2 z1 z2 z3
    have hF := hFQ
    have HB := HBQ
    clear hFQ HBQ
    obtain ⟨f0, f1, f2, f3, v0, v1, v2, r0, r1, r2, q0, q1, q2, z1, z2, z3⟩ := hF
    have hF : FB xK w.heap.size nm 2 m nu 2 n s := ⟨f0, f1, f2, f3, v0, v1, v2, r0, r1, r2, q0, q1, q2, z1, z2, z3⟩
  all_goals
    have hLx := hLd.below HB.out
    go_wp2_with fail
    refine (CF.out _ hLx).mono ?_
    rintro e w3 ⟨rfl, hb3⟩
    have hF3 := hF.below hb3 hF.z3
    have HB3 := Lib.hid (HB.out.trans (hb3.mono (by have := HB.out.size; omega)))
    clear hF HB hb3 f0 f1 f2 f3 v0 v1 v2 r0 r1 r2 q0 q1 q2 z1 z2 z3
    have hF := hF3
    have HB := HB3
    clear hF3 HB3
    obtain ⟨f0, f1, f2, f3, v0, v1, v2, r0, r1, r2, q0, q1, q2, z1, z2, z3⟩ := hF
    have hF : FB w3 w.heap.size nm 2 m nu 2 n s := ⟨f0, f1, f2, f3, v0, v1, v2, r0, r1, r2, q0, q1, q2, z1, z2, z3⟩
  all_goals
    go_wp2_with fail
    exact bodyPost_ret (v := .tuple #[vv 0 0 nos, .int .i64 10]) (by simp [results, Tryz.results33, go_sem, r0, r1, r2, z1, z2, z3]) rfl ⟨rfl, ((HB.out.setCell (by simp; omega) _).setCell (by simp; omega) _).setCell (by simp; omega) _⟩

set_option maxHeartbeats 4000000 in
theorem fit_memo_yes (nm : ByteArray) (wd : Int) (nu : Bool) (p n : Int) (s : ByteArray) (w : World) (hs : nm.size ≤ maxLen) (h : fldB nm 5 wd = true) (hp : decide (0 ≤ p ∧ p ≤ 2) = true) (hz : s.size ≤ maxLen) (hv : vE 2 n s = 0) (h1 : 0 ≤ n) (h2 : n ≤ 99999999) : Calls Tryz.prog 33 #[fv nm 5 wd nu, .int .i64 p, vv 2 n s] w (FitR 2 n s 0 w) := by
  have KF := Lib.hid (fun W => kindOf_any nm 5 wd nu W)
  rw [show kofN 5 = 2 from rfl] at KF
  have C1 := Lib.hid (fun W => isField_any nm 5 wd nu W hs)
  unfold FldP at C1
  rw [h] at C1
  have C2 := Lib.hid (fun W => isPage_any p W)
  rw [hp] at C2
  have C3 := Lib.hid (fun W => validate_any 2 n s W hz)
  rw [hv] at C3
  clear hv
  clear h hp
  have hF : FB (((w.alloc (.cells #[.string nm, .int .i64 5, .int .i64 wd, .bool nu] 49)).alloc (.cells #[.int .i64 2, .int .i64 n, .string s] 51)).alloc (.cells #[.int .i64 0, .int .i64 0, .string nos] 51)) w.heap.size nm 5 wd nu 2 n s := FB.new w nm 5 wd nu 2 n s
  have HB := Lib.hid (three_below w (.cells #[.string nm, .int .i64 5, .int .i64 wd, .bool nu] 49) (.cells #[.int .i64 2, .int .i64 n, .string s] 51) (.cells #[.int .i64 0, .int .i64 0, .string nos] 51))
  obtain ⟨f0, f1, f2, f3, v0, v1, v2, r0, r1, r2, q0, q1, q2, z1, z2, z3⟩ := hF
  have hF := FB.new w nm 5 wd nu 2 n s
  go_enter Tryz.func33, Tryz.ntmps33
  go_wp2_with fail
  refine (C1.out _).mono ?_
  rintro e w1 ⟨rfl, hb1⟩
  have hF1 := hF.below hb1 hF.z3
  have HB1 := Lib.hid (HB.out.trans (hb1.mono (by have := HB.out.size; omega)))
  clear hF HB hb1 f0 f1 f2 f3 v0 v1 v2 r0 r1 r2 q0 q1 q2 z1 z2 z3
  have hF := hF1
  have HB := HB1
  clear hF1 HB1
  obtain ⟨f0, f1, f2, f3, v0, v1, v2, r0, r1, r2, q0, q1, q2, z1, z2, z3⟩ := hF
  have hF : FB w1 w.heap.size nm 5 wd nu 2 n s := ⟨f0, f1, f2, f3, v0, v1, v2, r0, r1, r2, q0, q1, q2, z1, z2, z3⟩
  go_wp2_with fail
  refine (C2.out _).mono ?_
  rintro e w' ⟨rfl, rfl⟩
  go_wp2_with fail
  refine (C3.out _).mono ?_
  rintro e w2 ⟨rfl, hb2⟩
  have hF2 := hF.below hb2 hF.z3
  have HB2 := Lib.hid (HB.out.trans (hb2.mono (by have := HB.out.size; omega)))
  clear hF HB hb2 f0 f1 f2 f3 v0 v1 v2 r0 r1 r2 q0 q1 q2 z1 z2 z3
  have hF := hF2
  have HB := HB2
  clear hF2 HB2
  obtain ⟨f0, f1, f2, f3, v0, v1, v2, r0, r1, r2, q0, q1, q2, z1, z2, z3⟩ := hF
  have hF : FB w2 w.heap.size nm 5 wd nu 2 n s := ⟨f0, f1, f2, f3, v0, v1, v2, r0, r1, r2, q0, q1, q2, z1, z2, z3⟩
  go_wp2_with fail
  have hbw := Lib.hid (Below.refl w2.heap.size w2).drew
  have hzd : w2.heap.size ≤ w2.drew.heap.size := by simp
  go_region_held3 (fun x => x.cell? ⟨w.heap.size, 0, none⟩ = some (.string nm) ∧ x.cell? ⟨w.heap.size, 1, none⟩ = some (.int .i64 5) ∧ x.cell? ⟨w.heap.size, 2, none⟩ = some (.int .i64 wd) ∧ x.cell? ⟨w.heap.size, 3, none⟩ = some (.bool nu) ∧ x.cell? ⟨w.heap.size + 1, 0, none⟩ = some (.int .i64 2)) (first | exact ⟨f0, f1, f2, f3, v0⟩ | go_keep)
    (first | (go_at_call 70; (with_reducible refine (KF.out _).mono ?_); rintro e xK ⟨rfl, hx1⟩; have f0 : xK.cell? ⟨w.heap.size, 0, none⟩ = some (.string nm) := (hx1.cell (p := ⟨w.heap.size, 0, none⟩) (by simp at hzd ⊢; omega)).trans f0; have f1 : xK.cell? ⟨w.heap.size, 1, none⟩ = some (.int .i64 5) := (hx1.cell (p := ⟨w.heap.size, 1, none⟩) (by simp at hzd ⊢; omega)).trans f1; have f2 : xK.cell? ⟨w.heap.size, 2, none⟩ = some (.int .i64 wd) := (hx1.cell (p := ⟨w.heap.size, 2, none⟩) (by simp at hzd ⊢; omega)).trans f2; have f3 : xK.cell? ⟨w.heap.size, 3, none⟩ = some (.bool nu) := (hx1.cell (p := ⟨w.heap.size, 3, none⟩) (by simp at hzd ⊢; omega)).trans f3; have v0 : xK.cell? ⟨w.heap.size + 1, 0, none⟩ = some (.int .i64 2) := (hx1.cell (p := ⟨w.heap.size + 1, 0, none⟩) (by simp at hzd ⊢; omega)).trans v0; have hbw := Lib.hid (hbw.out.trans (hx1.mono hzd)); clear hx1 hzd))
  all_goals
    have hFQ := hF.below hbw.out hF.z3
    have HBQ := Lib.hid (HB.out.trans (hbw.out.mono (by have := HB.out.size; omega)))
    clear hF HB hbw f0 f1 f2 f3 v0 v1 v2 r0 r1 r2 q0 q1 q2 z1 z2 z3
    have hF := hFQ
    have HB := HBQ
    clear hFQ HBQ
    obtain ⟨f0, f1, f2, f3, v0, v1, v2, r0, r1, r2, q0, q1, q2, z1, z2, z3⟩ := hF
    have hF : FB xK w.heap.size nm 5 wd nu 2 n s := ⟨f0, f1, f2, f3, v0, v1, v2, r0, r1, r2, q0, q1, q2, z1, z2, z3⟩
  all_goals
    go_wp2_with fail
    exact bodyPost_ret (v := .tuple #[vv 2 n s, .int .i64 0]) (by simp [results, Tryz.results33, go_sem, r0, r1, r2, z1, z2, z3]) rfl ⟨rfl, ((HB.out.setCell (by simp; omega) _).setCell (by simp; omega) _).setCell (by simp; omega) _⟩

set_option maxHeartbeats 4000000 in
theorem fit_memo_low (nm : ByteArray) (wd : Int) (nu : Bool) (p n : Int) (s : ByteArray) (w : World) (hs : nm.size ≤ maxLen) (h : fldB nm 5 wd = true) (hp : decide (0 ≤ p ∧ p ≤ 2) = true) (hz : s.size ≤ maxLen) (hv : vE 2 n s = 0) (h1 : n < 0) : Calls Tryz.prog 33 #[fv nm 5 wd nu, .int .i64 p, vv 2 n s] w (FitR 0 0 nos 10 w) := by
  have KF := Lib.hid (fun W => kindOf_any nm 5 wd nu W)
  rw [show kofN 5 = 2 from rfl] at KF
  have C1 := Lib.hid (fun W => isField_any nm 5 wd nu W hs)
  unfold FldP at C1
  rw [h] at C1
  have C2 := Lib.hid (fun W => isPage_any p W)
  rw [hp] at C2
  have C3 := Lib.hid (fun W => validate_any 2 n s W hz)
  rw [hv] at C3
  clear hv
  clear h hp
  have hF : FB (((w.alloc (.cells #[.string nm, .int .i64 5, .int .i64 wd, .bool nu] 49)).alloc (.cells #[.int .i64 2, .int .i64 n, .string s] 51)).alloc (.cells #[.int .i64 0, .int .i64 0, .string nos] 51)) w.heap.size nm 5 wd nu 2 n s := FB.new w nm 5 wd nu 2 n s
  have HB := Lib.hid (three_below w (.cells #[.string nm, .int .i64 5, .int .i64 wd, .bool nu] 49) (.cells #[.int .i64 2, .int .i64 n, .string s] 51) (.cells #[.int .i64 0, .int .i64 0, .string nos] 51))
  obtain ⟨f0, f1, f2, f3, v0, v1, v2, r0, r1, r2, q0, q1, q2, z1, z2, z3⟩ := hF
  have hF := FB.new w nm 5 wd nu 2 n s
  go_enter Tryz.func33, Tryz.ntmps33
  go_wp2_with fail
  refine (C1.out _).mono ?_
  rintro e w1 ⟨rfl, hb1⟩
  have hF1 := hF.below hb1 hF.z3
  have HB1 := Lib.hid (HB.out.trans (hb1.mono (by have := HB.out.size; omega)))
  clear hF HB hb1 f0 f1 f2 f3 v0 v1 v2 r0 r1 r2 q0 q1 q2 z1 z2 z3
  have hF := hF1
  have HB := HB1
  clear hF1 HB1
  obtain ⟨f0, f1, f2, f3, v0, v1, v2, r0, r1, r2, q0, q1, q2, z1, z2, z3⟩ := hF
  have hF : FB w1 w.heap.size nm 5 wd nu 2 n s := ⟨f0, f1, f2, f3, v0, v1, v2, r0, r1, r2, q0, q1, q2, z1, z2, z3⟩
  go_wp2_with fail
  refine (C2.out _).mono ?_
  rintro e w' ⟨rfl, rfl⟩
  go_wp2_with fail
  refine (C3.out _).mono ?_
  rintro e w2 ⟨rfl, hb2⟩
  have hF2 := hF.below hb2 hF.z3
  have HB2 := Lib.hid (HB.out.trans (hb2.mono (by have := HB.out.size; omega)))
  clear hF HB hb2 f0 f1 f2 f3 v0 v1 v2 r0 r1 r2 q0 q1 q2 z1 z2 z3
  have hF := hF2
  have HB := HB2
  clear hF2 HB2
  obtain ⟨f0, f1, f2, f3, v0, v1, v2, r0, r1, r2, q0, q1, q2, z1, z2, z3⟩ := hF
  have hF : FB w2 w.heap.size nm 5 wd nu 2 n s := ⟨f0, f1, f2, f3, v0, v1, v2, r0, r1, r2, q0, q1, q2, z1, z2, z3⟩
  go_wp2_with fail
  have hbw := Lib.hid (Below.refl w2.heap.size w2).drew
  have hzd : w2.heap.size ≤ w2.drew.heap.size := by simp
  go_region_held3 (fun x => x.cell? ⟨w.heap.size, 0, none⟩ = some (.string nm) ∧ x.cell? ⟨w.heap.size, 1, none⟩ = some (.int .i64 5) ∧ x.cell? ⟨w.heap.size, 2, none⟩ = some (.int .i64 wd) ∧ x.cell? ⟨w.heap.size, 3, none⟩ = some (.bool nu) ∧ x.cell? ⟨w.heap.size + 1, 0, none⟩ = some (.int .i64 2)) (first | exact ⟨f0, f1, f2, f3, v0⟩ | go_keep)
    (first | (go_at_call 70; (with_reducible refine (KF.out _).mono ?_); rintro e xK ⟨rfl, hx1⟩; have f0 : xK.cell? ⟨w.heap.size, 0, none⟩ = some (.string nm) := (hx1.cell (p := ⟨w.heap.size, 0, none⟩) (by simp at hzd ⊢; omega)).trans f0; have f1 : xK.cell? ⟨w.heap.size, 1, none⟩ = some (.int .i64 5) := (hx1.cell (p := ⟨w.heap.size, 1, none⟩) (by simp at hzd ⊢; omega)).trans f1; have f2 : xK.cell? ⟨w.heap.size, 2, none⟩ = some (.int .i64 wd) := (hx1.cell (p := ⟨w.heap.size, 2, none⟩) (by simp at hzd ⊢; omega)).trans f2; have f3 : xK.cell? ⟨w.heap.size, 3, none⟩ = some (.bool nu) := (hx1.cell (p := ⟨w.heap.size, 3, none⟩) (by simp at hzd ⊢; omega)).trans f3; have v0 : xK.cell? ⟨w.heap.size + 1, 0, none⟩ = some (.int .i64 2) := (hx1.cell (p := ⟨w.heap.size + 1, 0, none⟩) (by simp at hzd ⊢; omega)).trans v0; have hbw := Lib.hid (hbw.out.trans (hx1.mono hzd)); clear hx1 hzd))
  all_goals
    have hFQ := hF.below hbw.out hF.z3
    have HBQ := Lib.hid (HB.out.trans (hbw.out.mono (by have := HB.out.size; omega)))
    clear hF HB hbw f0 f1 f2 f3 v0 v1 v2 r0 r1 r2 q0 q1 q2 z1 z2 z3
    have hF := hFQ
    have HB := HBQ
    clear hFQ HBQ
    obtain ⟨f0, f1, f2, f3, v0, v1, v2, r0, r1, r2, q0, q1, q2, z1, z2, z3⟩ := hF
    have hF : FB xK w.heap.size nm 5 wd nu 2 n s := ⟨f0, f1, f2, f3, v0, v1, v2, r0, r1, r2, q0, q1, q2, z1, z2, z3⟩
  all_goals
    go_wp2_with fail
    exact bodyPost_ret (v := .tuple #[vv 0 0 nos, .int .i64 10]) (by simp [results, Tryz.results33, go_sem, r0, r1, r2, z1, z2, z3]) rfl ⟨rfl, ((HB.out.setCell (by simp; omega) _).setCell (by simp; omega) _).setCell (by simp; omega) _⟩

set_option maxHeartbeats 4000000 in
theorem fit_memo_high (nm : ByteArray) (wd : Int) (nu : Bool) (p n : Int) (s : ByteArray) (w : World) (hs : nm.size ≤ maxLen) (h : fldB nm 5 wd = true) (hp : decide (0 ≤ p ∧ p ≤ 2) = true) (hz : s.size ≤ maxLen) (hv : vE 2 n s = 0) (h1 : 0 ≤ n) (h2 : 99999999 < n) : Calls Tryz.prog 33 #[fv nm 5 wd nu, .int .i64 p, vv 2 n s] w (FitR 0 0 nos 10 w) := by
  have KF := Lib.hid (fun W => kindOf_any nm 5 wd nu W)
  rw [show kofN 5 = 2 from rfl] at KF
  have C1 := Lib.hid (fun W => isField_any nm 5 wd nu W hs)
  unfold FldP at C1
  rw [h] at C1
  have C2 := Lib.hid (fun W => isPage_any p W)
  rw [hp] at C2
  have C3 := Lib.hid (fun W => validate_any 2 n s W hz)
  rw [hv] at C3
  clear hv
  clear h hp
  have hF : FB (((w.alloc (.cells #[.string nm, .int .i64 5, .int .i64 wd, .bool nu] 49)).alloc (.cells #[.int .i64 2, .int .i64 n, .string s] 51)).alloc (.cells #[.int .i64 0, .int .i64 0, .string nos] 51)) w.heap.size nm 5 wd nu 2 n s := FB.new w nm 5 wd nu 2 n s
  have HB := Lib.hid (three_below w (.cells #[.string nm, .int .i64 5, .int .i64 wd, .bool nu] 49) (.cells #[.int .i64 2, .int .i64 n, .string s] 51) (.cells #[.int .i64 0, .int .i64 0, .string nos] 51))
  obtain ⟨f0, f1, f2, f3, v0, v1, v2, r0, r1, r2, q0, q1, q2, z1, z2, z3⟩ := hF
  have hF := FB.new w nm 5 wd nu 2 n s
  go_enter Tryz.func33, Tryz.ntmps33
  go_wp2_with fail
  refine (C1.out _).mono ?_
  rintro e w1 ⟨rfl, hb1⟩
  have hF1 := hF.below hb1 hF.z3
  have HB1 := Lib.hid (HB.out.trans (hb1.mono (by have := HB.out.size; omega)))
  clear hF HB hb1 f0 f1 f2 f3 v0 v1 v2 r0 r1 r2 q0 q1 q2 z1 z2 z3
  have hF := hF1
  have HB := HB1
  clear hF1 HB1
  obtain ⟨f0, f1, f2, f3, v0, v1, v2, r0, r1, r2, q0, q1, q2, z1, z2, z3⟩ := hF
  have hF : FB w1 w.heap.size nm 5 wd nu 2 n s := ⟨f0, f1, f2, f3, v0, v1, v2, r0, r1, r2, q0, q1, q2, z1, z2, z3⟩
  go_wp2_with fail
  refine (C2.out _).mono ?_
  rintro e w' ⟨rfl, rfl⟩
  go_wp2_with fail
  refine (C3.out _).mono ?_
  rintro e w2 ⟨rfl, hb2⟩
  have hF2 := hF.below hb2 hF.z3
  have HB2 := Lib.hid (HB.out.trans (hb2.mono (by have := HB.out.size; omega)))
  clear hF HB hb2 f0 f1 f2 f3 v0 v1 v2 r0 r1 r2 q0 q1 q2 z1 z2 z3
  have hF := hF2
  have HB := HB2
  clear hF2 HB2
  obtain ⟨f0, f1, f2, f3, v0, v1, v2, r0, r1, r2, q0, q1, q2, z1, z2, z3⟩ := hF
  have hF : FB w2 w.heap.size nm 5 wd nu 2 n s := ⟨f0, f1, f2, f3, v0, v1, v2, r0, r1, r2, q0, q1, q2, z1, z2, z3⟩
  go_wp2_with fail
  have hbw := Lib.hid (Below.refl w2.heap.size w2).drew
  have hzd : w2.heap.size ≤ w2.drew.heap.size := by simp
  go_region_held3 (fun x => x.cell? ⟨w.heap.size, 0, none⟩ = some (.string nm) ∧ x.cell? ⟨w.heap.size, 1, none⟩ = some (.int .i64 5) ∧ x.cell? ⟨w.heap.size, 2, none⟩ = some (.int .i64 wd) ∧ x.cell? ⟨w.heap.size, 3, none⟩ = some (.bool nu) ∧ x.cell? ⟨w.heap.size + 1, 0, none⟩ = some (.int .i64 2)) (first | exact ⟨f0, f1, f2, f3, v0⟩ | go_keep)
    (first | (go_at_call 70; (with_reducible refine (KF.out _).mono ?_); rintro e xK ⟨rfl, hx1⟩; have f0 : xK.cell? ⟨w.heap.size, 0, none⟩ = some (.string nm) := (hx1.cell (p := ⟨w.heap.size, 0, none⟩) (by simp at hzd ⊢; omega)).trans f0; have f1 : xK.cell? ⟨w.heap.size, 1, none⟩ = some (.int .i64 5) := (hx1.cell (p := ⟨w.heap.size, 1, none⟩) (by simp at hzd ⊢; omega)).trans f1; have f2 : xK.cell? ⟨w.heap.size, 2, none⟩ = some (.int .i64 wd) := (hx1.cell (p := ⟨w.heap.size, 2, none⟩) (by simp at hzd ⊢; omega)).trans f2; have f3 : xK.cell? ⟨w.heap.size, 3, none⟩ = some (.bool nu) := (hx1.cell (p := ⟨w.heap.size, 3, none⟩) (by simp at hzd ⊢; omega)).trans f3; have v0 : xK.cell? ⟨w.heap.size + 1, 0, none⟩ = some (.int .i64 2) := (hx1.cell (p := ⟨w.heap.size + 1, 0, none⟩) (by simp at hzd ⊢; omega)).trans v0; have hbw := Lib.hid (hbw.out.trans (hx1.mono hzd)); clear hx1 hzd))
  all_goals
    have hFQ := hF.below hbw.out hF.z3
    have HBQ := Lib.hid (HB.out.trans (hbw.out.mono (by have := HB.out.size; omega)))
    clear hF HB hbw f0 f1 f2 f3 v0 v1 v2 r0 r1 r2 q0 q1 q2 z1 z2 z3
    have hF := hFQ
    have HB := HBQ
    clear hFQ HBQ
    obtain ⟨f0, f1, f2, f3, v0, v1, v2, r0, r1, r2, q0, q1, q2, z1, z2, z3⟩ := hF
    have hF : FB xK w.heap.size nm 5 wd nu 2 n s := ⟨f0, f1, f2, f3, v0, v1, v2, r0, r1, r2, q0, q1, q2, z1, z2, z3⟩
  all_goals
    go_wp2_with fail
    exact bodyPost_ret (v := .tuple #[vv 0 0 nos, .int .i64 10]) (by simp [results, Tryz.results33, go_sem, r0, r1, r2, z1, z2, z3]) rfl ⟨rfl, ((HB.out.setCell (by simp; omega) _).setCell (by simp; omega) _).setCell (by simp; omega) _⟩

set_option maxHeartbeats 4000000 in
theorem fit_else_1 (nm : ByteArray) (wd : Int) (nu : Bool) (p n : Int) (s : ByteArray) (w : World) (hs : nm.size ≤ maxLen) (h : fldB nm 1 wd = true) (hp : decide (0 ≤ p ∧ p ≤ 2) = true) (hz : s.size ≤ maxLen) (hv : vE 1 n s = 0) : Calls Tryz.prog 33 #[fv nm 1 wd nu, .int .i64 p, vv 1 n s] w (FitR 1 n s 0 w) := by
  have KF := Lib.hid (fun W => kindOf_any nm 1 wd nu W)
  rw [show kofN 1 = 1 from rfl] at KF
  have C1 := Lib.hid (fun W => isField_any nm 1 wd nu W hs)
  unfold FldP at C1
  rw [h] at C1
  have C2 := Lib.hid (fun W => isPage_any p W)
  rw [hp] at C2
  have C3 := Lib.hid (fun W => validate_any 1 n s W hz)
  rw [hv] at C3
  clear hv
  clear h hp
  have hF : FB (((w.alloc (.cells #[.string nm, .int .i64 1, .int .i64 wd, .bool nu] 49)).alloc (.cells #[.int .i64 1, .int .i64 n, .string s] 51)).alloc (.cells #[.int .i64 0, .int .i64 0, .string nos] 51)) w.heap.size nm 1 wd nu 1 n s := FB.new w nm 1 wd nu 1 n s
  have HB := Lib.hid (three_below w (.cells #[.string nm, .int .i64 1, .int .i64 wd, .bool nu] 49) (.cells #[.int .i64 1, .int .i64 n, .string s] 51) (.cells #[.int .i64 0, .int .i64 0, .string nos] 51))
  obtain ⟨f0, f1, f2, f3, v0, v1, v2, r0, r1, r2, q0, q1, q2, z1, z2, z3⟩ := hF
  have hF := FB.new w nm 1 wd nu 1 n s
  go_enter Tryz.func33, Tryz.ntmps33
  go_wp2_with fail
  refine (C1.out _).mono ?_
  rintro e w1 ⟨rfl, hb1⟩
  have hF1 := hF.below hb1 hF.z3
  have HB1 := Lib.hid (HB.out.trans (hb1.mono (by have := HB.out.size; omega)))
  clear hF HB hb1 f0 f1 f2 f3 v0 v1 v2 r0 r1 r2 q0 q1 q2 z1 z2 z3
  have hF := hF1
  have HB := HB1
  clear hF1 HB1
  obtain ⟨f0, f1, f2, f3, v0, v1, v2, r0, r1, r2, q0, q1, q2, z1, z2, z3⟩ := hF
  have hF : FB w1 w.heap.size nm 1 wd nu 1 n s := ⟨f0, f1, f2, f3, v0, v1, v2, r0, r1, r2, q0, q1, q2, z1, z2, z3⟩
  go_wp2_with fail
  refine (C2.out _).mono ?_
  rintro e w' ⟨rfl, rfl⟩
  go_wp2_with fail
  refine (C3.out _).mono ?_
  rintro e w2 ⟨rfl, hb2⟩
  have hF2 := hF.below hb2 hF.z3
  have HB2 := Lib.hid (HB.out.trans (hb2.mono (by have := HB.out.size; omega)))
  clear hF HB hb2 f0 f1 f2 f3 v0 v1 v2 r0 r1 r2 q0 q1 q2 z1 z2 z3
  have hF := hF2
  have HB := HB2
  clear hF2 HB2
  obtain ⟨f0, f1, f2, f3, v0, v1, v2, r0, r1, r2, q0, q1, q2, z1, z2, z3⟩ := hF
  have hF : FB w2 w.heap.size nm 1 wd nu 1 n s := ⟨f0, f1, f2, f3, v0, v1, v2, r0, r1, r2, q0, q1, q2, z1, z2, z3⟩
  go_wp2_with fail
  have hbw := Lib.hid (Below.refl w2.heap.size w2).drew
  have hzd : w2.heap.size ≤ w2.drew.heap.size := by simp
  go_region_held3 (fun x => x.cell? ⟨w.heap.size, 0, none⟩ = some (.string nm) ∧ x.cell? ⟨w.heap.size, 1, none⟩ = some (.int .i64 1) ∧ x.cell? ⟨w.heap.size, 2, none⟩ = some (.int .i64 wd) ∧ x.cell? ⟨w.heap.size, 3, none⟩ = some (.bool nu) ∧ x.cell? ⟨w.heap.size + 1, 0, none⟩ = some (.int .i64 1)) (first | exact ⟨f0, f1, f2, f3, v0⟩ | go_keep)
    (first | (go_at_call 70; (with_reducible refine (KF.out _).mono ?_); rintro e xK ⟨rfl, hx1⟩; have f0 : xK.cell? ⟨w.heap.size, 0, none⟩ = some (.string nm) := (hx1.cell (p := ⟨w.heap.size, 0, none⟩) (by simp at hzd ⊢; omega)).trans f0; have f1 : xK.cell? ⟨w.heap.size, 1, none⟩ = some (.int .i64 1) := (hx1.cell (p := ⟨w.heap.size, 1, none⟩) (by simp at hzd ⊢; omega)).trans f1; have f2 : xK.cell? ⟨w.heap.size, 2, none⟩ = some (.int .i64 wd) := (hx1.cell (p := ⟨w.heap.size, 2, none⟩) (by simp at hzd ⊢; omega)).trans f2; have f3 : xK.cell? ⟨w.heap.size, 3, none⟩ = some (.bool nu) := (hx1.cell (p := ⟨w.heap.size, 3, none⟩) (by simp at hzd ⊢; omega)).trans f3; have v0 : xK.cell? ⟨w.heap.size + 1, 0, none⟩ = some (.int .i64 1) := (hx1.cell (p := ⟨w.heap.size + 1, 0, none⟩) (by simp at hzd ⊢; omega)).trans v0; have hbw := Lib.hid (hbw.out.trans (hx1.mono hzd)); clear hx1 hzd))
  all_goals
    have hFQ := hF.below hbw.out hF.z3
    have HBQ := Lib.hid (HB.out.trans (hbw.out.mono (by have := HB.out.size; omega)))
    clear hF HB hbw f0 f1 f2 f3 v0 v1 v2 r0 r1 r2 q0 q1 q2 z1 z2 z3
    have hF := hFQ
    have HB := HBQ
    clear hFQ HBQ
    obtain ⟨f0, f1, f2, f3, v0, v1, v2, r0, r1, r2, q0, q1, q2, z1, z2, z3⟩ := hF
    have hF : FB xK w.heap.size nm 1 wd nu 1 n s := ⟨f0, f1, f2, f3, v0, v1, v2, r0, r1, r2, q0, q1, q2, z1, z2, z3⟩
  all_goals
    go_wp2_with fail
    exact bodyPost_ret (v := .tuple #[vv 1 n s, .int .i64 0]) (by simp [results, Tryz.results33, go_sem, r0, r1, r2, z1, z2, z3]) rfl ⟨rfl, ((HB.out.setCell (by simp; omega) _).setCell (by simp; omega) _).setCell (by simp; omega) _⟩

set_option maxHeartbeats 4000000 in
theorem fit_else_3 (nm : ByteArray) (wd : Int) (nu : Bool) (p n : Int) (s : ByteArray) (w : World) (hs : nm.size ≤ maxLen) (h : fldB nm 3 wd = true) (hp : decide (0 ≤ p ∧ p ≤ 2) = true) (hz : s.size ≤ maxLen) (hv : vE 3 n s = 0) : Calls Tryz.prog 33 #[fv nm 3 wd nu, .int .i64 p, vv 3 n s] w (FitR 3 n s 0 w) := by
  have KF := Lib.hid (fun W => kindOf_any nm 3 wd nu W)
  rw [show kofN 3 = 3 from rfl] at KF
  have C1 := Lib.hid (fun W => isField_any nm 3 wd nu W hs)
  unfold FldP at C1
  rw [h] at C1
  have C2 := Lib.hid (fun W => isPage_any p W)
  rw [hp] at C2
  have C3 := Lib.hid (fun W => validate_any 3 n s W hz)
  rw [hv] at C3
  clear hv
  clear h hp
  have hF : FB (((w.alloc (.cells #[.string nm, .int .i64 3, .int .i64 wd, .bool nu] 49)).alloc (.cells #[.int .i64 3, .int .i64 n, .string s] 51)).alloc (.cells #[.int .i64 0, .int .i64 0, .string nos] 51)) w.heap.size nm 3 wd nu 3 n s := FB.new w nm 3 wd nu 3 n s
  have HB := Lib.hid (three_below w (.cells #[.string nm, .int .i64 3, .int .i64 wd, .bool nu] 49) (.cells #[.int .i64 3, .int .i64 n, .string s] 51) (.cells #[.int .i64 0, .int .i64 0, .string nos] 51))
  obtain ⟨f0, f1, f2, f3, v0, v1, v2, r0, r1, r2, q0, q1, q2, z1, z2, z3⟩ := hF
  have hF := FB.new w nm 3 wd nu 3 n s
  go_enter Tryz.func33, Tryz.ntmps33
  go_wp2_with fail
  refine (C1.out _).mono ?_
  rintro e w1 ⟨rfl, hb1⟩
  have hF1 := hF.below hb1 hF.z3
  have HB1 := Lib.hid (HB.out.trans (hb1.mono (by have := HB.out.size; omega)))
  clear hF HB hb1 f0 f1 f2 f3 v0 v1 v2 r0 r1 r2 q0 q1 q2 z1 z2 z3
  have hF := hF1
  have HB := HB1
  clear hF1 HB1
  obtain ⟨f0, f1, f2, f3, v0, v1, v2, r0, r1, r2, q0, q1, q2, z1, z2, z3⟩ := hF
  have hF : FB w1 w.heap.size nm 3 wd nu 3 n s := ⟨f0, f1, f2, f3, v0, v1, v2, r0, r1, r2, q0, q1, q2, z1, z2, z3⟩
  go_wp2_with fail
  refine (C2.out _).mono ?_
  rintro e w' ⟨rfl, rfl⟩
  go_wp2_with fail
  refine (C3.out _).mono ?_
  rintro e w2 ⟨rfl, hb2⟩
  have hF2 := hF.below hb2 hF.z3
  have HB2 := Lib.hid (HB.out.trans (hb2.mono (by have := HB.out.size; omega)))
  clear hF HB hb2 f0 f1 f2 f3 v0 v1 v2 r0 r1 r2 q0 q1 q2 z1 z2 z3
  have hF := hF2
  have HB := HB2
  clear hF2 HB2
  obtain ⟨f0, f1, f2, f3, v0, v1, v2, r0, r1, r2, q0, q1, q2, z1, z2, z3⟩ := hF
  have hF : FB w2 w.heap.size nm 3 wd nu 3 n s := ⟨f0, f1, f2, f3, v0, v1, v2, r0, r1, r2, q0, q1, q2, z1, z2, z3⟩
  go_wp2_with fail
  have hbw := Lib.hid (Below.refl w2.heap.size w2).drew
  have hzd : w2.heap.size ≤ w2.drew.heap.size := by simp
  go_region_held3 (fun x => x.cell? ⟨w.heap.size, 0, none⟩ = some (.string nm) ∧ x.cell? ⟨w.heap.size, 1, none⟩ = some (.int .i64 3) ∧ x.cell? ⟨w.heap.size, 2, none⟩ = some (.int .i64 wd) ∧ x.cell? ⟨w.heap.size, 3, none⟩ = some (.bool nu) ∧ x.cell? ⟨w.heap.size + 1, 0, none⟩ = some (.int .i64 3)) (first | exact ⟨f0, f1, f2, f3, v0⟩ | go_keep)
    (first | (go_at_call 70; (with_reducible refine (KF.out _).mono ?_); rintro e xK ⟨rfl, hx1⟩; have f0 : xK.cell? ⟨w.heap.size, 0, none⟩ = some (.string nm) := (hx1.cell (p := ⟨w.heap.size, 0, none⟩) (by simp at hzd ⊢; omega)).trans f0; have f1 : xK.cell? ⟨w.heap.size, 1, none⟩ = some (.int .i64 3) := (hx1.cell (p := ⟨w.heap.size, 1, none⟩) (by simp at hzd ⊢; omega)).trans f1; have f2 : xK.cell? ⟨w.heap.size, 2, none⟩ = some (.int .i64 wd) := (hx1.cell (p := ⟨w.heap.size, 2, none⟩) (by simp at hzd ⊢; omega)).trans f2; have f3 : xK.cell? ⟨w.heap.size, 3, none⟩ = some (.bool nu) := (hx1.cell (p := ⟨w.heap.size, 3, none⟩) (by simp at hzd ⊢; omega)).trans f3; have v0 : xK.cell? ⟨w.heap.size + 1, 0, none⟩ = some (.int .i64 3) := (hx1.cell (p := ⟨w.heap.size + 1, 0, none⟩) (by simp at hzd ⊢; omega)).trans v0; have hbw := Lib.hid (hbw.out.trans (hx1.mono hzd)); clear hx1 hzd))
  all_goals
    have hFQ := hF.below hbw.out hF.z3
    have HBQ := Lib.hid (HB.out.trans (hbw.out.mono (by have := HB.out.size; omega)))
    clear hF HB hbw f0 f1 f2 f3 v0 v1 v2 r0 r1 r2 q0 q1 q2 z1 z2 z3
    have hF := hFQ
    have HB := HBQ
    clear hFQ HBQ
    obtain ⟨f0, f1, f2, f3, v0, v1, v2, r0, r1, r2, q0, q1, q2, z1, z2, z3⟩ := hF
    have hF : FB xK w.heap.size nm 3 wd nu 3 n s := ⟨f0, f1, f2, f3, v0, v1, v2, r0, r1, r2, q0, q1, q2, z1, z2, z3⟩
  all_goals
    go_wp2_with fail
    exact bodyPost_ret (v := .tuple #[vv 3 n s, .int .i64 0]) (by simp [results, Tryz.results33, go_sem, r0, r1, r2, z1, z2, z3]) rfl ⟨rfl, ((HB.out.setCell (by simp; omega) _).setCell (by simp; omega) _).setCell (by simp; omega) _⟩
end Go.Proofs.YtcgfeeobkoomfaaGreatDoor
