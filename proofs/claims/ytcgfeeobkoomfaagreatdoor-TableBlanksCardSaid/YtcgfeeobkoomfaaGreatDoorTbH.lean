/- Fit of both: values that a field may have, the reference. -/
import Derived.Test.YtcgfeeobkoomfaaGreatDoorTbG
import Derived.BigQuiet
import Derived.Deep.QuietTactic
namespace Go.Proofs.YtcgfeeobkoomfaaGreatDoor
open Go.RowKit
set_option linter.unusedVariables false
set_option linter.unusedSimpArgs false
set_option maxRecDepth 40000

theorem below_drewN (W : World) (n : Nat) : Below W.heap.size W (W.drewN n) := by
  induction n with
  | zero => exact Below.refl _ _
  | succ n ih => exact ih.drew
theorem isMemo_any (n : Int) (b : Bool) (w : World) (hb : (decide (0 ≤ n) && decide (n ≤ 99999999)) = b) : Calls Tryz.prog 119 #[.int .i64 n] w fun e w' => e = .returned (.bool b) ∧ w = w' := by
  by_cases h1 : 0 ≤ n
  · by_cases h2 : n ≤ 99999999
    · have e : b = true := by rw [← hb]; simp [h1, h2]
      rw [e]; clear e hb
      have h3 : decide (n ≤ 99999999) = true := by simpa using h2
      go_enter Tryz.func119, Tryz.ntmps119
      go_wp2_with fail
      go_ret
      exact ⟨rfl, rfl⟩
    · have e : b = false := by rw [← hb]; simp [h1, h2]
      rw [e]; clear e hb
      have h3 : decide (n ≤ 99999999) = false := by simpa using h2
      go_enter Tryz.func119, Tryz.ntmps119
      go_wp2_with fail
      go_ret
      exact ⟨rfl, rfl⟩
  · have e : b = false := by rw [← hb]; simp [h1]
    rw [e]; clear e hb
    have h3 : decide (0 ≤ n) = false := by simpa using h1
    go_enter Tryz.func119, Tryz.ntmps119
    go_wp2_with fail
    go_ret
    exact ⟨rfl, rfl⟩
theorem Text_any (s : ByteArray) (w : World) : Calls Tryz.prog 46 #[.string s] w fun e w' => e = .returned (vv 4 0 s) ∧ Below w.heap.size w w' := by
  go_enter Tryz.func46, Tryz.ntmps46
  go_wp2_with fail
  first
    | (go_ret; exact ⟨rfl, Below.refl _ _⟩)
    | exact bodyPost_ret (v := vv 4 0 s) (by simp [results, Tryz.results46, go_sem]) rfl ⟨rfl, by first | exact (Below.refl _ _).alloc (Nat.le_refl _) _ | exact ((((Below.refl _ _).alloc (Nat.le_refl _) _).setCell (by simp) _).setCell (by simp) _).setCell (by simp) _⟩

set_option maxHeartbeats 4000000 in
theorem fits_num (nm : ByteArray) (m : Nat) (nu : Bool) (p n : Int) (s : ByteArray) (w : World) (hz : s.size ≤ maxLen) (hv : vE 2 n s = 0) (hin : inB n = true) (hm : m ≤ 254) : Calls Tryz.prog 87 #[fv nm 2 m nu, .int .i64 p, vv 2 n s] w fun e w' => e = .returned (.bool (decide ((dec n).size ≤ m))) ∧ Below w.heap.size w w' := by
  have C3 := Lib.hid (fun W => refValidate_any 2 n s W hz)
  rw [hv] at C3
  clear hv
  have hn := (inB_iff n).1 hin
  have CW := Lib.hid (Written_any n (by omega) (by omega))
  have hsz := dec_size n (by omega) (by omega)
  clear hin hn
  generalize dec n = d at *
  have hb2 : Below w.heap.size w ((w.alloc (.cells #[.string nm, .int .i64 2, .int .i64 m, .bool nu] 49)).alloc (.cells #[.int .i64 2, .int .i64 n, .string s] 51)) := ((Below.refl _ _).alloc (Nat.le_refl _) _).alloc (by simp) _
  have HB0 := Lib.hid hb2
  clear hb2
  go_enter Tryz.func87, Tryz.ntmps87
  go_wp2_with fail
  refine (C3.out _).mono ?_
  rintro e w1 ⟨rfl, hb1⟩
  have f1 : w1.cell? ⟨w.heap.size, 1, none⟩ = some (.int .i64 2) := (hb1.cell (p := ⟨w.heap.size, 1, none⟩) (by simp; omega)).trans (by simp [go_sem])
  have f2 : w1.cell? ⟨w.heap.size, 2, none⟩ = some (.int .i64 m) := (hb1.cell (p := ⟨w.heap.size, 2, none⟩) (by simp; omega)).trans (by simp [go_sem])
  have v0 : w1.cell? ⟨w.heap.size + 1, 0, none⟩ = some (.int .i64 2) := (hb1.cell (p := ⟨w.heap.size + 1, 0, none⟩) (by simp)).trans (by simp [go_sem])
  have v1 : w1.cell? ⟨w.heap.size + 1, 1, none⟩ = some (.int .i64 n) := (hb1.cell (p := ⟨w.heap.size + 1, 1, none⟩) (by simp)).trans (by simp [go_sem])
  have HB := Lib.hid (HB0.out.trans (hb1.mono (by simp; omega)))
  clear hb1 HB0
  go_wp2_with fail
  go_quiet ((go_at_call 111; exact Calls.quiet_of_same ((CW.out _).mono fun e w' h => ⟨h.1, h.2.symm⟩)))
  go_wp2_with fail
  go_ret
  exact ⟨rfl, by first | exact HB.out | exact HB.out.trans ((below_drewN _ _).mono HB.out.size)⟩

set_option maxHeartbeats 4000000 in
theorem fits_memo (nm : ByteArray) (wd : Int) (nu : Bool) (p n : Int) (s : ByteArray) (w : World) (hz : s.size ≤ maxLen) (hv : vE 2 n s = 0)  : Calls Tryz.prog 87 #[fv nm 5 wd nu, .int .i64 p, vv 2 n s] w fun e w' => e = .returned (.bool (decide (0 ≤ n) && decide (n ≤ 99999999))) ∧ Below w.heap.size w w' := by
  have C3 := Lib.hid (fun W => refValidate_any 2 n s W hz)
  rw [hv] at C3
  clear hv
  have CM := Lib.hid (fun W => isMemo_any n _ W rfl)
  generalize (decide (0 ≤ n) && decide (n ≤ 99999999)) = b at *
  have hb2 : Below w.heap.size w ((w.alloc (.cells #[.string nm, .int .i64 5, .int .i64 wd, .bool nu] 49)).alloc (.cells #[.int .i64 2, .int .i64 n, .string s] 51)) := ((Below.refl _ _).alloc (Nat.le_refl _) _).alloc (by simp) _
  have HB0 := Lib.hid hb2
  clear hb2
  go_enter Tryz.func87, Tryz.ntmps87
  go_wp2_with fail
  refine (C3.out _).mono ?_
  rintro e w1 ⟨rfl, hb1⟩
  have f1 : w1.cell? ⟨w.heap.size, 1, none⟩ = some (.int .i64 5) := (hb1.cell (p := ⟨w.heap.size, 1, none⟩) (by simp; omega)).trans (by simp [go_sem])
  have f2 : w1.cell? ⟨w.heap.size, 2, none⟩ = some (.int .i64 wd) := (hb1.cell (p := ⟨w.heap.size, 2, none⟩) (by simp; omega)).trans (by simp [go_sem])
  have v0 : w1.cell? ⟨w.heap.size + 1, 0, none⟩ = some (.int .i64 2) := (hb1.cell (p := ⟨w.heap.size + 1, 0, none⟩) (by simp)).trans (by simp [go_sem])
  have v1 : w1.cell? ⟨w.heap.size + 1, 1, none⟩ = some (.int .i64 n) := (hb1.cell (p := ⟨w.heap.size + 1, 1, none⟩) (by simp)).trans (by simp [go_sem])
  have HB := Lib.hid (HB0.out.trans (hb1.mono (by simp; omega)))
  clear hb1 HB0
  go_wp2_with fail
  refine (CM.out _).mono ?_
  rintro e w' ⟨rfl, rfl⟩
  go_wp2_with fail
  go_ret
  exact ⟨rfl, HB.out⟩

set_option maxHeartbeats 4000000 in
theorem fits_else_1 (nm : ByteArray) (wd : Int) (nu : Bool) (p n : Int) (s : ByteArray) (w : World) (hz : s.size ≤ maxLen) (hv : vE 1 n s = 0)  : Calls Tryz.prog 87 #[fv nm 1 wd nu, .int .i64 p, vv 1 n s] w fun e w' => e = .returned (.bool true) ∧ Below w.heap.size w w' := by
  have C3 := Lib.hid (fun W => refValidate_any 1 n s W hz)
  rw [hv] at C3
  clear hv
  have hb2 : Below w.heap.size w ((w.alloc (.cells #[.string nm, .int .i64 1, .int .i64 wd, .bool nu] 49)).alloc (.cells #[.int .i64 1, .int .i64 n, .string s] 51)) := ((Below.refl _ _).alloc (Nat.le_refl _) _).alloc (by simp) _
  have HB0 := Lib.hid hb2
  clear hb2
  go_enter Tryz.func87, Tryz.ntmps87
  go_wp2_with fail
  refine (C3.out _).mono ?_
  rintro e w1 ⟨rfl, hb1⟩
  have f1 : w1.cell? ⟨w.heap.size, 1, none⟩ = some (.int .i64 1) := (hb1.cell (p := ⟨w.heap.size, 1, none⟩) (by simp; omega)).trans (by simp [go_sem])
  have f2 : w1.cell? ⟨w.heap.size, 2, none⟩ = some (.int .i64 wd) := (hb1.cell (p := ⟨w.heap.size, 2, none⟩) (by simp; omega)).trans (by simp [go_sem])
  have v0 : w1.cell? ⟨w.heap.size + 1, 0, none⟩ = some (.int .i64 1) := (hb1.cell (p := ⟨w.heap.size + 1, 0, none⟩) (by simp)).trans (by simp [go_sem])
  have v1 : w1.cell? ⟨w.heap.size + 1, 1, none⟩ = some (.int .i64 n) := (hb1.cell (p := ⟨w.heap.size + 1, 1, none⟩) (by simp)).trans (by simp [go_sem])
  have HB := Lib.hid (HB0.out.trans (hb1.mono (by simp; omega)))
  clear hb1 HB0
  go_wp2_with fail
  go_ret
  exact ⟨rfl, HB.out⟩

set_option maxHeartbeats 4000000 in
theorem fits_else_3 (nm : ByteArray) (wd : Int) (nu : Bool) (p n : Int) (s : ByteArray) (w : World) (hz : s.size ≤ maxLen) (hv : vE 3 n s = 0)  : Calls Tryz.prog 87 #[fv nm 3 wd nu, .int .i64 p, vv 3 n s] w fun e w' => e = .returned (.bool true) ∧ Below w.heap.size w w' := by
  have C3 := Lib.hid (fun W => refValidate_any 3 n s W hz)
  rw [hv] at C3
  clear hv
  have hb2 : Below w.heap.size w ((w.alloc (.cells #[.string nm, .int .i64 3, .int .i64 wd, .bool nu] 49)).alloc (.cells #[.int .i64 3, .int .i64 n, .string s] 51)) := ((Below.refl _ _).alloc (Nat.le_refl _) _).alloc (by simp) _
  have HB0 := Lib.hid hb2
  clear hb2
  go_enter Tryz.func87, Tryz.ntmps87
  go_wp2_with fail
  refine (C3.out _).mono ?_
  rintro e w1 ⟨rfl, hb1⟩
  have f1 : w1.cell? ⟨w.heap.size, 1, none⟩ = some (.int .i64 3) := (hb1.cell (p := ⟨w.heap.size, 1, none⟩) (by simp; omega)).trans (by simp [go_sem])
  have f2 : w1.cell? ⟨w.heap.size, 2, none⟩ = some (.int .i64 wd) := (hb1.cell (p := ⟨w.heap.size, 2, none⟩) (by simp; omega)).trans (by simp [go_sem])
  have v0 : w1.cell? ⟨w.heap.size + 1, 0, none⟩ = some (.int .i64 3) := (hb1.cell (p := ⟨w.heap.size + 1, 0, none⟩) (by simp)).trans (by simp [go_sem])
  have v1 : w1.cell? ⟨w.heap.size + 1, 1, none⟩ = some (.int .i64 n) := (hb1.cell (p := ⟨w.heap.size + 1, 1, none⟩) (by simp)).trans (by simp [go_sem])
  have HB := Lib.hid (HB0.out.trans (hb1.mono (by simp; omega)))
  clear hb1 HB0
  go_wp2_with fail
  go_ret
  exact ⟨rfl, HB.out⟩

set_option maxHeartbeats 4000000 in
theorem fitted_nil_no (nm : ByteArray) (fk wd : Int) (p n : Int) (s : ByteArray) (w : World) : Calls Tryz.prog 74 #[fv nm fk wd false, .int .i64 p, vv 0 n s] w (FitR 0 0 nos 7 w) := by
  have hF : FB (((w.alloc (.cells #[.string nm, .int .i64 fk, .int .i64 wd, .bool false] 49)).alloc (.cells #[.int .i64 0, .int .i64 n, .string s] 51)).alloc (.cells #[.int .i64 0, .int .i64 0, .string nos] 51)) w.heap.size nm fk wd false 0 n s := FB.new w nm fk wd false 0 n s
  have HB := Lib.hid (three_below w (.cells #[.string nm, .int .i64 fk, .int .i64 wd, .bool false] 49) (.cells #[.int .i64 0, .int .i64 n, .string s] 51) (.cells #[.int .i64 0, .int .i64 0, .string nos] 51))
  obtain ⟨f0, f1, f2, f3, v0, v1, v2, r0, r1, r2, q0, q1, q2, z1, z2, z3⟩ := hF
  have hF := FB.new w nm fk wd false 0 n s
  go_enter Tryz.func74, Tryz.ntmps74
  go_wp2_with fail
  exact bodyPost_ret (v := .tuple #[vv 0 0 nos, .int .i64 7]) (by simp [results, Tryz.results74, go_sem, r0, r1, r2, z1, z2, z3]) rfl ⟨rfl, by first | exact ((HB.out.setCell (by simp; omega) _).setCell (by simp; omega) _).setCell (by simp; omega) _ | exact three_below _ _ _ _⟩

set_option maxHeartbeats 4000000 in
theorem fitted_nil_yes (nm : ByteArray) (fk wd : Int) (p n : Int) (s : ByteArray) (w : World) : Calls Tryz.prog 74 #[fv nm fk wd true, .int .i64 p, vv 0 n s] w (FitR 0 n s 0 w) := by
  have hF : FB (((w.alloc (.cells #[.string nm, .int .i64 fk, .int .i64 wd, .bool true] 49)).alloc (.cells #[.int .i64 0, .int .i64 n, .string s] 51)).alloc (.cells #[.int .i64 0, .int .i64 0, .string nos] 51)) w.heap.size nm fk wd true 0 n s := FB.new w nm fk wd true 0 n s
  have HB := Lib.hid (three_below w (.cells #[.string nm, .int .i64 fk, .int .i64 wd, .bool true] 49) (.cells #[.int .i64 0, .int .i64 n, .string s] 51) (.cells #[.int .i64 0, .int .i64 0, .string nos] 51))
  obtain ⟨f0, f1, f2, f3, v0, v1, v2, r0, r1, r2, q0, q1, q2, z1, z2, z3⟩ := hF
  have hF := FB.new w nm fk wd true 0 n s
  go_enter Tryz.func74, Tryz.ntmps74
  go_wp2_with fail
  exact bodyPost_ret (v := .tuple #[vv 0 n s, .int .i64 0]) (by simp [results, Tryz.results74, go_sem, r0, r1, r2, z1, z2, z3]) rfl ⟨rfl, by first | exact ((HB.out.setCell (by simp; omega) _).setCell (by simp; omega) _).setCell (by simp; omega) _ | exact three_below _ _ _ _⟩

set_option maxHeartbeats 4000000 in
theorem fitted_kind_memo (nm : ByteArray) (wd : Int) (nu : Bool) (p k n : Int) (s : ByteArray) (w : World) (hk : k ≠ 0) (hd : k ≠ 2) : Calls Tryz.prog 74 #[fv nm 5 wd nu, .int .i64 p, vv k n s] w (FitR 0 0 nos 6 w) := by
  have hk' : (k == 0) = false := by simpa using hk
  have hd' : (k != 2) = true := by simpa using hd
  clear hk hd
  have hF : FB (((w.alloc (.cells #[.string nm, .int .i64 5, .int .i64 wd, .bool nu] 49)).alloc (.cells #[.int .i64 k, .int .i64 n, .string s] 51)).alloc (.cells #[.int .i64 0, .int .i64 0, .string nos] 51)) w.heap.size nm 5 wd nu k n s := FB.new w nm 5 wd nu k n s
  have HB := Lib.hid (three_below w (.cells #[.string nm, .int .i64 5, .int .i64 wd, .bool nu] 49) (.cells #[.int .i64 k, .int .i64 n, .string s] 51) (.cells #[.int .i64 0, .int .i64 0, .string nos] 51))
  obtain ⟨f0, f1, f2, f3, v0, v1, v2, r0, r1, r2, q0, q1, q2, z1, z2, z3⟩ := hF
  have hF := FB.new w nm 5 wd nu k n s
  go_enter Tryz.func74, Tryz.ntmps74
  go_wp2_with fail
  exact bodyPost_ret (v := .tuple #[vv 0 0 nos, .int .i64 6]) (by simp [results, Tryz.results74, go_sem, r0, r1, r2, z1, z2, z3]) rfl ⟨rfl, by first | exact ((HB.out.setCell (by simp; omega) _).setCell (by simp; omega) _).setCell (by simp; omega) _ | exact three_below _ _ _ _⟩

set_option maxHeartbeats 4000000 in
theorem fitted_kind_else (nm : ByteArray) (fk wd : Int) (nu : Bool) (p k n : Int) (s : ByteArray) (w : World) (hk : k ≠ 0) (hf : fk ≠ 5) (hd : k ≠ fk) : Calls Tryz.prog 74 #[fv nm fk wd nu, .int .i64 p, vv k n s] w (FitR 0 0 nos 6 w) := by
  have hk' : (k == 0) = false := by simpa using hk
  have hd' : (k != fk) = true := by simpa using hd
  have h5 : (fk == 5) = false := by simpa using hf
  clear hk hd hf
  have hF : FB (((w.alloc (.cells #[.string nm, .int .i64 fk, .int .i64 wd, .bool nu] 49)).alloc (.cells #[.int .i64 k, .int .i64 n, .string s] 51)).alloc (.cells #[.int .i64 0, .int .i64 0, .string nos] 51)) w.heap.size nm fk wd nu k n s := FB.new w nm fk wd nu k n s
  have HB := Lib.hid (three_below w (.cells #[.string nm, .int .i64 fk, .int .i64 wd, .bool nu] 49) (.cells #[.int .i64 k, .int .i64 n, .string s] 51) (.cells #[.int .i64 0, .int .i64 0, .string nos] 51))
  obtain ⟨f0, f1, f2, f3, v0, v1, v2, r0, r1, r2, q0, q1, q2, z1, z2, z3⟩ := hF
  have hF := FB.new w nm fk wd nu k n s
  go_enter Tryz.func74, Tryz.ntmps74
  go_wp2_with fail
  exact bodyPost_ret (v := .tuple #[vv 0 0 nos, .int .i64 6]) (by simp [results, Tryz.results74, go_sem, r0, r1, r2, z1, z2, z3]) rfl ⟨rfl, by first | exact ((HB.out.setCell (by simp; omega) _).setCell (by simp; omega) _).setCell (by simp; omega) _ | exact three_below _ _ _ _⟩

set_option maxHeartbeats 4000000 in
theorem fitted_num_yes (nm : ByteArray) (m : Nat) (nu : Bool) (p n : Int) (s : ByteArray) (w : World) (hz : s.size ≤ maxLen) (hv : vE 2 n s = 0) (hin : inB n = true) (hm : m ≤ 254) (hok : decide ((dec n).size ≤ m) = true) : Calls Tryz.prog 74 #[fv nm 2 m nu, .int .i64 p, vv 2 n s] w (FitR 2 n s 0 w) := by
  have CF := Lib.hid (fun W => fits_num nm m nu p n s W hz hv hin hm)
  rw [hok] at CF
  clear hok
  have hF : FB (((w.alloc (.cells #[.string nm, .int .i64 2, .int .i64 m, .bool nu] 49)).alloc (.cells #[.int .i64 2, .int .i64 n, .string s] 51)).alloc (.cells #[.int .i64 0, .int .i64 0, .string nos] 51)) w.heap.size nm 2 m nu 2 n s := FB.new w nm 2 m nu 2 n s
  have HB := Lib.hid (three_below w (.cells #[.string nm, .int .i64 2, .int .i64 m, .bool nu] 49) (.cells #[.int .i64 2, .int .i64 n, .string s] 51) (.cells #[.int .i64 0, .int .i64 0, .string nos] 51))
  obtain ⟨f0, f1, f2, f3, v0, v1, v2, r0, r1, r2, q0, q1, q2, z1, z2, z3⟩ := hF
  have hF := FB.new w nm 2 m nu 2 n s
  go_enter Tryz.func74, Tryz.ntmps74
  go_wp2_with fail
  refine (CF.out _).mono ?_
  rintro e w1 ⟨rfl, hb1⟩
  have hF1 := hF.below hb1 hF.z3
  have HB1 := Lib.hid (HB.out.trans (hb1.mono (by have := HB.out.size; omega)))
  clear hF HB hb1 f0 f1 f2 f3 v0 v1 v2 r0 r1 r2 q0 q1 q2 z1 z2 z3
  have hF := hF1
  have HB := HB1
  clear hF1 HB1
  obtain ⟨f0, f1, f2, f3, v0, v1, v2, r0, r1, r2, q0, q1, q2, z1, z2, z3⟩ := hF
  have hF : FB w1 w.heap.size nm 2 m nu 2 n s := ⟨f0, f1, f2, f3, v0, v1, v2, r0, r1, r2, q0, q1, q2, z1, z2, z3⟩
  go_wp2_with fail
  exact bodyPost_ret (v := .tuple #[vv 2 n s, .int .i64 0]) (by simp [results, Tryz.results74, go_sem, r0, r1, r2, z1, z2, z3]) rfl ⟨rfl, by first | exact ((HB.out.setCell (by simp; omega) _).setCell (by simp; omega) _).setCell (by simp; omega) _ | exact three_below _ _ _ _⟩

set_option maxHeartbeats 4000000 in
theorem fitted_num_no (nm : ByteArray) (m : Nat) (nu : Bool) (p n : Int) (s : ByteArray) (w : World) (hz : s.size ≤ maxLen) (hv : vE 2 n s = 0) (hin : inB n = true) (hm : m ≤ 254) (hok : decide ((dec n).size ≤ m) = false) : Calls Tryz.prog 74 #[fv nm 2 m nu, .int .i64 p, vv 2 n s] w (FitR 0 0 nos 10 w) := by
  have CF := Lib.hid (fun W => fits_num nm m nu p n s W hz hv hin hm)
  rw [hok] at CF
  clear hok
  have hF : FB (((w.alloc (.cells #[.string nm, .int .i64 2, .int .i64 m, .bool nu] 49)).alloc (.cells #[.int .i64 2, .int .i64 n, .string s] 51)).alloc (.cells #[.int .i64 0, .int .i64 0, .string nos] 51)) w.heap.size nm 2 m nu 2 n s := FB.new w nm 2 m nu 2 n s
  have HB := Lib.hid (three_below w (.cells #[.string nm, .int .i64 2, .int .i64 m, .bool nu] 49) (.cells #[.int .i64 2, .int .i64 n, .string s] 51) (.cells #[.int .i64 0, .int .i64 0, .string nos] 51))
  obtain ⟨f0, f1, f2, f3, v0, v1, v2, r0, r1, r2, q0, q1, q2, z1, z2, z3⟩ := hF
  have hF := FB.new w nm 2 m nu 2 n s
  go_enter Tryz.func74, Tryz.ntmps74
  go_wp2_with fail
  refine (CF.out _).mono ?_
  rintro e w1 ⟨rfl, hb1⟩
  have hF1 := hF.below hb1 hF.z3
  have HB1 := Lib.hid (HB.out.trans (hb1.mono (by have := HB.out.size; omega)))
  clear hF HB hb1 f0 f1 f2 f3 v0 v1 v2 r0 r1 r2 q0 q1 q2 z1 z2 z3
  have hF := hF1
  have HB := HB1
  clear hF1 HB1
  obtain ⟨f0, f1, f2, f3, v0, v1, v2, r0, r1, r2, q0, q1, q2, z1, z2, z3⟩ := hF
  have hF : FB w1 w.heap.size nm 2 m nu 2 n s := ⟨f0, f1, f2, f3, v0, v1, v2, r0, r1, r2, q0, q1, q2, z1, z2, z3⟩
  go_wp2_with fail
  exact bodyPost_ret (v := .tuple #[vv 0 0 nos, .int .i64 10]) (by simp [results, Tryz.results74, go_sem, r0, r1, r2, z1, z2, z3]) rfl ⟨rfl, by first | exact ((HB.out.setCell (by simp; omega) _).setCell (by simp; omega) _).setCell (by simp; omega) _ | exact three_below _ _ _ _⟩

set_option maxHeartbeats 4000000 in
theorem fitted_memo_yes (nm : ByteArray) (wd : Int) (nu : Bool) (p n : Int) (s : ByteArray) (w : World) (hz : s.size ≤ maxLen) (hv : vE 2 n s = 0) (hok : (decide (0 ≤ n) && decide (n ≤ 99999999)) = true) : Calls Tryz.prog 74 #[fv nm 5 wd nu, .int .i64 p, vv 2 n s] w (FitR 2 n s 0 w) := by
  have CF := Lib.hid (fun W => fits_memo nm wd nu p n s W hz hv)
  rw [hok] at CF
  clear hok
  have hF : FB (((w.alloc (.cells #[.string nm, .int .i64 5, .int .i64 wd, .bool nu] 49)).alloc (.cells #[.int .i64 2, .int .i64 n, .string s] 51)).alloc (.cells #[.int .i64 0, .int .i64 0, .string nos] 51)) w.heap.size nm 5 wd nu 2 n s := FB.new w nm 5 wd nu 2 n s
  have HB := Lib.hid (three_below w (.cells #[.string nm, .int .i64 5, .int .i64 wd, .bool nu] 49) (.cells #[.int .i64 2, .int .i64 n, .string s] 51) (.cells #[.int .i64 0, .int .i64 0, .string nos] 51))
  obtain ⟨f0, f1, f2, f3, v0, v1, v2, r0, r1, r2, q0, q1, q2, z1, z2, z3⟩ := hF
  have hF := FB.new w nm 5 wd nu 2 n s
  go_enter Tryz.func74, Tryz.ntmps74
  go_wp2_with fail
  refine (CF.out _).mono ?_
  rintro e w1 ⟨rfl, hb1⟩
  have hF1 := hF.below hb1 hF.z3
  have HB1 := Lib.hid (HB.out.trans (hb1.mono (by have := HB.out.size; omega)))
  clear hF HB hb1 f0 f1 f2 f3 v0 v1 v2 r0 r1 r2 q0 q1 q2 z1 z2 z3
  have hF := hF1
  have HB := HB1
  clear hF1 HB1
  obtain ⟨f0, f1, f2, f3, v0, v1, v2, r0, r1, r2, q0, q1, q2, z1, z2, z3⟩ := hF
  have hF : FB w1 w.heap.size nm 5 wd nu 2 n s := ⟨f0, f1, f2, f3, v0, v1, v2, r0, r1, r2, q0, q1, q2, z1, z2, z3⟩
  go_wp2_with fail
  exact bodyPost_ret (v := .tuple #[vv 2 n s, .int .i64 0]) (by simp [results, Tryz.results74, go_sem, r0, r1, r2, z1, z2, z3]) rfl ⟨rfl, by first | exact ((HB.out.setCell (by simp; omega) _).setCell (by simp; omega) _).setCell (by simp; omega) _ | exact three_below _ _ _ _⟩

set_option maxHeartbeats 4000000 in
theorem fitted_memo_no (nm : ByteArray) (wd : Int) (nu : Bool) (p n : Int) (s : ByteArray) (w : World) (hz : s.size ≤ maxLen) (hv : vE 2 n s = 0) (hok : (decide (0 ≤ n) && decide (n ≤ 99999999)) = false) : Calls Tryz.prog 74 #[fv nm 5 wd nu, .int .i64 p, vv 2 n s] w (FitR 0 0 nos 10 w) := by
  have CF := Lib.hid (fun W => fits_memo nm wd nu p n s W hz hv)
  rw [hok] at CF
  clear hok
  have hF : FB (((w.alloc (.cells #[.string nm, .int .i64 5, .int .i64 wd, .bool nu] 49)).alloc (.cells #[.int .i64 2, .int .i64 n, .string s] 51)).alloc (.cells #[.int .i64 0, .int .i64 0, .string nos] 51)) w.heap.size nm 5 wd nu 2 n s := FB.new w nm 5 wd nu 2 n s
  have HB := Lib.hid (three_below w (.cells #[.string nm, .int .i64 5, .int .i64 wd, .bool nu] 49) (.cells #[.int .i64 2, .int .i64 n, .string s] 51) (.cells #[.int .i64 0, .int .i64 0, .string nos] 51))
  obtain ⟨f0, f1, f2, f3, v0, v1, v2, r0, r1, r2, q0, q1, q2, z1, z2, z3⟩ := hF
  have hF := FB.new w nm 5 wd nu 2 n s
  go_enter Tryz.func74, Tryz.ntmps74
  go_wp2_with fail
  refine (CF.out _).mono ?_
  rintro e w1 ⟨rfl, hb1⟩
  have hF1 := hF.below hb1 hF.z3
  have HB1 := Lib.hid (HB.out.trans (hb1.mono (by have := HB.out.size; omega)))
  clear hF HB hb1 f0 f1 f2 f3 v0 v1 v2 r0 r1 r2 q0 q1 q2 z1 z2 z3
  have hF := hF1
  have HB := HB1
  clear hF1 HB1
  obtain ⟨f0, f1, f2, f3, v0, v1, v2, r0, r1, r2, q0, q1, q2, z1, z2, z3⟩ := hF
  have hF : FB w1 w.heap.size nm 5 wd nu 2 n s := ⟨f0, f1, f2, f3, v0, v1, v2, r0, r1, r2, q0, q1, q2, z1, z2, z3⟩
  go_wp2_with fail
  exact bodyPost_ret (v := .tuple #[vv 0 0 nos, .int .i64 10]) (by simp [results, Tryz.results74, go_sem, r0, r1, r2, z1, z2, z3]) rfl ⟨rfl, by first | exact ((HB.out.setCell (by simp; omega) _).setCell (by simp; omega) _).setCell (by simp; omega) _ | exact three_below _ _ _ _⟩

set_option maxHeartbeats 4000000 in
theorem fitted_else_1 (nm : ByteArray) (wd : Int) (nu : Bool) (p n : Int) (s : ByteArray) (w : World) (hz : s.size ≤ maxLen) (hv : vE 1 n s = 0) : Calls Tryz.prog 74 #[fv nm 1 wd nu, .int .i64 p, vv 1 n s] w (FitR 1 n s 0 w) := by
  have CF := Lib.hid (fun W => fits_else_1 nm wd nu p n s W hz hv)
  have hF : FB (((w.alloc (.cells #[.string nm, .int .i64 1, .int .i64 wd, .bool nu] 49)).alloc (.cells #[.int .i64 1, .int .i64 n, .string s] 51)).alloc (.cells #[.int .i64 0, .int .i64 0, .string nos] 51)) w.heap.size nm 1 wd nu 1 n s := FB.new w nm 1 wd nu 1 n s
  have HB := Lib.hid (three_below w (.cells #[.string nm, .int .i64 1, .int .i64 wd, .bool nu] 49) (.cells #[.int .i64 1, .int .i64 n, .string s] 51) (.cells #[.int .i64 0, .int .i64 0, .string nos] 51))
  obtain ⟨f0, f1, f2, f3, v0, v1, v2, r0, r1, r2, q0, q1, q2, z1, z2, z3⟩ := hF
  have hF := FB.new w nm 1 wd nu 1 n s
  go_enter Tryz.func74, Tryz.ntmps74
  go_wp2_with fail
  refine (CF.out _).mono ?_
  rintro e w1 ⟨rfl, hb1⟩
  have hF1 := hF.below hb1 hF.z3
  have HB1 := Lib.hid (HB.out.trans (hb1.mono (by have := HB.out.size; omega)))
  clear hF HB hb1 f0 f1 f2 f3 v0 v1 v2 r0 r1 r2 q0 q1 q2 z1 z2 z3
  have hF := hF1
  have HB := HB1
  clear hF1 HB1
  obtain ⟨f0, f1, f2, f3, v0, v1, v2, r0, r1, r2, q0, q1, q2, z1, z2, z3⟩ := hF
  have hF : FB w1 w.heap.size nm 1 wd nu 1 n s := ⟨f0, f1, f2, f3, v0, v1, v2, r0, r1, r2, q0, q1, q2, z1, z2, z3⟩
  go_wp2_with fail
  exact bodyPost_ret (v := .tuple #[vv 1 n s, .int .i64 0]) (by simp [results, Tryz.results74, go_sem, r0, r1, r2, z1, z2, z3]) rfl ⟨rfl, by first | exact ((HB.out.setCell (by simp; omega) _).setCell (by simp; omega) _).setCell (by simp; omega) _ | exact three_below _ _ _ _⟩

set_option maxHeartbeats 4000000 in
theorem fitted_else_3 (nm : ByteArray) (wd : Int) (nu : Bool) (p n : Int) (s : ByteArray) (w : World) (hz : s.size ≤ maxLen) (hv : vE 3 n s = 0) : Calls Tryz.prog 74 #[fv nm 3 wd nu, .int .i64 p, vv 3 n s] w (FitR 3 n s 0 w) := by
  have CF := Lib.hid (fun W => fits_else_3 nm wd nu p n s W hz hv)
  have hF : FB (((w.alloc (.cells #[.string nm, .int .i64 3, .int .i64 wd, .bool nu] 49)).alloc (.cells #[.int .i64 3, .int .i64 n, .string s] 51)).alloc (.cells #[.int .i64 0, .int .i64 0, .string nos] 51)) w.heap.size nm 3 wd nu 3 n s := FB.new w nm 3 wd nu 3 n s
  have HB := Lib.hid (three_below w (.cells #[.string nm, .int .i64 3, .int .i64 wd, .bool nu] 49) (.cells #[.int .i64 3, .int .i64 n, .string s] 51) (.cells #[.int .i64 0, .int .i64 0, .string nos] 51))
  obtain ⟨f0, f1, f2, f3, v0, v1, v2, r0, r1, r2, q0, q1, q2, z1, z2, z3⟩ := hF
  have hF := FB.new w nm 3 wd nu 3 n s
  go_enter Tryz.func74, Tryz.ntmps74
  go_wp2_with fail
  refine (CF.out _).mono ?_
  rintro e w1 ⟨rfl, hb1⟩
  have hF1 := hF.below hb1 hF.z3
  have HB1 := Lib.hid (HB.out.trans (hb1.mono (by have := HB.out.size; omega)))
  clear hF HB hb1 f0 f1 f2 f3 v0 v1 v2 r0 r1 r2 q0 q1 q2 z1 z2 z3
  have hF := hF1
  have HB := HB1
  clear hF1 HB1
  obtain ⟨f0, f1, f2, f3, v0, v1, v2, r0, r1, r2, q0, q1, q2, z1, z2, z3⟩ := hF
  have hF : FB w1 w.heap.size nm 3 wd nu 3 n s := ⟨f0, f1, f2, f3, v0, v1, v2, r0, r1, r2, q0, q1, q2, z1, z2, z3⟩
  go_wp2_with fail
  exact bodyPost_ret (v := .tuple #[vv 3 n s, .int .i64 0]) (by simp [results, Tryz.results74, go_sem, r0, r1, r2, z1, z2, z3]) rfl ⟨rfl, by first | exact ((HB.out.setCell (by simp; omega) _).setCell (by simp; omega) _).setCell (by simp; omega) _ | exact three_below _ _ _ _⟩

set_option maxHeartbeats 4000000 in
theorem fitted_text_yes_a (nm : ByteArray) (m : Nat) (nu : Bool) (q : Nat) (n : Int) (s : ByteArray) (w : World) (hz : s.size ≤ maxLen) (hq : q < 3) (hm : m ≤ 254) (hok : vld q (cutT s m).data.toList = true) (hw : s.size < m) : Calls Tryz.prog 74 #[fv nm 4 m nu, .int .i64 q, vv 4 n s] w (FitR 4 0 (cutT s m) 0 w) := by
  have hle := cutT_le s m
  have CB := Lib.hid (fun W => Bare_any (s.extract 0 (min s.size m)) W (by unfold maxLen at hz ⊢; simp; omega))
  rw [show trimR (s.extract 0 (min s.size m)) = cutT s m from rfl] at CB
  have CW := Lib.hid (fun W => refWritten_any (cutT s m) q hq W (by unfold maxLen; omega))
  rw [hok] at CW
  unfold maxLen at hz
  have hmin : min s.size m = s.size := by omega
  rw [hmin, show s.extract 0 s.size = s from by apply ByteArray.ext; simp] at CB
  have d1 : (s.size : Int) < m := by omega
  have hmi : min (s.size : Int) m = s.size := by omega
  clear hmin hok
  generalize cutT s m = t at *
  have CX := Lib.hid (fun W => Text_any t W)
  have hF : FB (((w.alloc (.cells #[.string nm, .int .i64 4, .int .i64 m, .bool nu] 49)).alloc (.cells #[.int .i64 4, .int .i64 n, .string s] 51)).alloc (.cells #[.int .i64 0, .int .i64 0, .string nos] 51)) w.heap.size nm 4 m nu 4 n s := FB.new w nm 4 m nu 4 n s
  have HB := Lib.hid (three_below w (.cells #[.string nm, .int .i64 4, .int .i64 m, .bool nu] 49) (.cells #[.int .i64 4, .int .i64 n, .string s] 51) (.cells #[.int .i64 0, .int .i64 0, .string nos] 51))
  obtain ⟨f0, f1, f2, f3, v0, v1, v2, r0, r1, r2, q0, q1, q2, z1, z2, z3⟩ := hF
  have hF := FB.new w nm 4 m nu 4 n s
  go_enter Tryz.func74, Tryz.ntmps74
  go_wp2_with fail
  refine (CB.out _).mono ?_
  rintro e w' ⟨rfl, rfl⟩
  go_wp2_with fail
  refine (CW.out _).mono ?_
  rintro e w' ⟨rfl, rfl⟩
  go_wp2_with fail
  refine (CX.out _).mono ?_
  rintro e w1 ⟨rfl, hb1⟩
  have hF1 := hF.below hb1 hF.z3
  have HB1 := Lib.hid (HB.out.trans (hb1.mono (by have := HB.out.size; omega)))
  clear hF HB hb1 f0 f1 f2 f3 v0 v1 v2 r0 r1 r2 q0 q1 q2 z1 z2 z3
  have hF := hF1
  have HB := HB1
  clear hF1 HB1
  obtain ⟨f0, f1, f2, f3, v0, v1, v2, r0, r1, r2, q0, q1, q2, z1, z2, z3⟩ := hF
  have hF : FB w1 w.heap.size nm 4 m nu 4 n s := ⟨f0, f1, f2, f3, v0, v1, v2, r0, r1, r2, q0, q1, q2, z1, z2, z3⟩
  go_wp2_with fail
  exact bodyPost_ret (v := .tuple #[vv 4 0 t, .int .i64 0]) (by simp [results, Tryz.results74, go_sem, r0, r1, r2, z1, z2, z3]) rfl ⟨rfl, by first | exact ((HB.out.setCell (by simp; omega) _).setCell (by simp; omega) _).setCell (by simp; omega) _ | exact three_below _ _ _ _⟩

set_option maxHeartbeats 4000000 in
theorem fitted_text_yes_b (nm : ByteArray) (m : Nat) (nu : Bool) (q : Nat) (n : Int) (s : ByteArray) (w : World) (hz : s.size ≤ maxLen) (hq : q < 3) (hm : m ≤ 254) (hok : vld q (cutT s m).data.toList = true) (hw : m ≤ s.size) : Calls Tryz.prog 74 #[fv nm 4 m nu, .int .i64 q, vv 4 n s] w (FitR 4 0 (cutT s m) 0 w) := by
  have hle := cutT_le s m
  have CB := Lib.hid (fun W => Bare_any (s.extract 0 (min s.size m)) W (by unfold maxLen at hz ⊢; simp; omega))
  rw [show trimR (s.extract 0 (min s.size m)) = cutT s m from rfl] at CB
  have CW := Lib.hid (fun W => refWritten_any (cutT s m) q hq W (by unfold maxLen; omega))
  rw [hok] at CW
  unfold maxLen at hz
  have hmin : min s.size m = m := by omega
  rw [hmin] at CB
  have d1 : (m : Int) ≤ s.size := by omega
  have hmi : min (s.size : Int) m = m := by omega
  clear hmin hok
  generalize cutT s m = t at *
  have CX := Lib.hid (fun W => Text_any t W)
  have hF : FB (((w.alloc (.cells #[.string nm, .int .i64 4, .int .i64 m, .bool nu] 49)).alloc (.cells #[.int .i64 4, .int .i64 n, .string s] 51)).alloc (.cells #[.int .i64 0, .int .i64 0, .string nos] 51)) w.heap.size nm 4 m nu 4 n s := FB.new w nm 4 m nu 4 n s
  have HB := Lib.hid (three_below w (.cells #[.string nm, .int .i64 4, .int .i64 m, .bool nu] 49) (.cells #[.int .i64 4, .int .i64 n, .string s] 51) (.cells #[.int .i64 0, .int .i64 0, .string nos] 51))
  obtain ⟨f0, f1, f2, f3, v0, v1, v2, r0, r1, r2, q0, q1, q2, z1, z2, z3⟩ := hF
  have hF := FB.new w nm 4 m nu 4 n s
  go_enter Tryz.func74, Tryz.ntmps74
  go_wp2_with fail
  refine (CB.out _).mono ?_
  rintro e w' ⟨rfl, rfl⟩
  go_wp2_with fail
  refine (CW.out _).mono ?_
  rintro e w' ⟨rfl, rfl⟩
  go_wp2_with fail
  refine (CX.out _).mono ?_
  rintro e w1 ⟨rfl, hb1⟩
  have hF1 := hF.below hb1 hF.z3
  have HB1 := Lib.hid (HB.out.trans (hb1.mono (by have := HB.out.size; omega)))
  clear hF HB hb1 f0 f1 f2 f3 v0 v1 v2 r0 r1 r2 q0 q1 q2 z1 z2 z3
  have hF := hF1
  have HB := HB1
  clear hF1 HB1
  obtain ⟨f0, f1, f2, f3, v0, v1, v2, r0, r1, r2, q0, q1, q2, z1, z2, z3⟩ := hF
  have hF : FB w1 w.heap.size nm 4 m nu 4 n s := ⟨f0, f1, f2, f3, v0, v1, v2, r0, r1, r2, q0, q1, q2, z1, z2, z3⟩
  go_wp2_with fail
  exact bodyPost_ret (v := .tuple #[vv 4 0 t, .int .i64 0]) (by simp [results, Tryz.results74, go_sem, r0, r1, r2, z1, z2, z3]) rfl ⟨rfl, by first | exact ((HB.out.setCell (by simp; omega) _).setCell (by simp; omega) _).setCell (by simp; omega) _ | exact three_below _ _ _ _⟩

set_option maxHeartbeats 4000000 in
theorem fitted_text_no_a (nm : ByteArray) (m : Nat) (nu : Bool) (q : Nat) (n : Int) (s : ByteArray) (w : World) (hz : s.size ≤ maxLen) (hq : q < 3) (hm : m ≤ 254) (hok : vld q (cutT s m).data.toList = false) (hw : s.size < m) : Calls Tryz.prog 74 #[fv nm 4 m nu, .int .i64 q, vv 4 n s] w (FitR 0 0 nos 10 w) := by
  have hle := cutT_le s m
  have CB := Lib.hid (fun W => Bare_any (s.extract 0 (min s.size m)) W (by unfold maxLen at hz ⊢; simp; omega))
  rw [show trimR (s.extract 0 (min s.size m)) = cutT s m from rfl] at CB
  have CW := Lib.hid (fun W => refWritten_any (cutT s m) q hq W (by unfold maxLen; omega))
  rw [hok] at CW
  unfold maxLen at hz
  have hmin : min s.size m = s.size := by omega
  rw [hmin, show s.extract 0 s.size = s from by apply ByteArray.ext; simp] at CB
  have d1 : (s.size : Int) < m := by omega
  have hmi : min (s.size : Int) m = s.size := by omega
  clear hmin hok
  generalize cutT s m = t at *
  have CX := Lib.hid (fun W => Text_any t W)
  have hF : FB (((w.alloc (.cells #[.string nm, .int .i64 4, .int .i64 m, .bool nu] 49)).alloc (.cells #[.int .i64 4, .int .i64 n, .string s] 51)).alloc (.cells #[.int .i64 0, .int .i64 0, .string nos] 51)) w.heap.size nm 4 m nu 4 n s := FB.new w nm 4 m nu 4 n s
  have HB := Lib.hid (three_below w (.cells #[.string nm, .int .i64 4, .int .i64 m, .bool nu] 49) (.cells #[.int .i64 4, .int .i64 n, .string s] 51) (.cells #[.int .i64 0, .int .i64 0, .string nos] 51))
  obtain ⟨f0, f1, f2, f3, v0, v1, v2, r0, r1, r2, q0, q1, q2, z1, z2, z3⟩ := hF
  have hF := FB.new w nm 4 m nu 4 n s
  go_enter Tryz.func74, Tryz.ntmps74
  go_wp2_with fail
  refine (CB.out _).mono ?_
  rintro e w' ⟨rfl, rfl⟩
  go_wp2_with fail
  refine (CW.out _).mono ?_
  rintro e w' ⟨rfl, rfl⟩
  go_wp2_with fail
  exact bodyPost_ret (v := .tuple #[vv 0 0 nos, .int .i64 10]) (by simp [results, Tryz.results74, go_sem, r0, r1, r2, z1, z2, z3]) rfl ⟨rfl, by first | exact ((HB.out.setCell (by simp; omega) _).setCell (by simp; omega) _).setCell (by simp; omega) _ | exact three_below _ _ _ _⟩

set_option maxHeartbeats 4000000 in
theorem fitted_text_no_b (nm : ByteArray) (m : Nat) (nu : Bool) (q : Nat) (n : Int) (s : ByteArray) (w : World) (hz : s.size ≤ maxLen) (hq : q < 3) (hm : m ≤ 254) (hok : vld q (cutT s m).data.toList = false) (hw : m ≤ s.size) : Calls Tryz.prog 74 #[fv nm 4 m nu, .int .i64 q, vv 4 n s] w (FitR 0 0 nos 10 w) := by
  have hle := cutT_le s m
  have CB := Lib.hid (fun W => Bare_any (s.extract 0 (min s.size m)) W (by unfold maxLen at hz ⊢; simp; omega))
  rw [show trimR (s.extract 0 (min s.size m)) = cutT s m from rfl] at CB
  have CW := Lib.hid (fun W => refWritten_any (cutT s m) q hq W (by unfold maxLen; omega))
  rw [hok] at CW
  unfold maxLen at hz
  have hmin : min s.size m = m := by omega
  rw [hmin] at CB
  have d1 : (m : Int) ≤ s.size := by omega
  have hmi : min (s.size : Int) m = m := by omega
  clear hmin hok
  generalize cutT s m = t at *
  have CX := Lib.hid (fun W => Text_any t W)
  have hF : FB (((w.alloc (.cells #[.string nm, .int .i64 4, .int .i64 m, .bool nu] 49)).alloc (.cells #[.int .i64 4, .int .i64 n, .string s] 51)).alloc (.cells #[.int .i64 0, .int .i64 0, .string nos] 51)) w.heap.size nm 4 m nu 4 n s := FB.new w nm 4 m nu 4 n s
  have HB := Lib.hid (three_below w (.cells #[.string nm, .int .i64 4, .int .i64 m, .bool nu] 49) (.cells #[.int .i64 4, .int .i64 n, .string s] 51) (.cells #[.int .i64 0, .int .i64 0, .string nos] 51))
  obtain ⟨f0, f1, f2, f3, v0, v1, v2, r0, r1, r2, q0, q1, q2, z1, z2, z3⟩ := hF
  have hF := FB.new w nm 4 m nu 4 n s
  go_enter Tryz.func74, Tryz.ntmps74
  go_wp2_with fail
  refine (CB.out _).mono ?_
  rintro e w' ⟨rfl, rfl⟩
  go_wp2_with fail
  refine (CW.out _).mono ?_
  rintro e w' ⟨rfl, rfl⟩
  go_wp2_with fail
  exact bodyPost_ret (v := .tuple #[vv 0 0 nos, .int .i64 10]) (by simp [results, Tryz.results74, go_sem, r0, r1, r2, z1, z2, z3]) rfl ⟨rfl, by first | exact ((HB.out.setCell (by simp; omega) _).setCell (by simp; omega) _).setCell (by simp; omega) _ | exact three_below _ _ _ _⟩

set_option maxHeartbeats 4000000 in
theorem refFit_of (nm : ByteArray) (fk wd : Int) (nu : Bool) (p k n : Int) (s : ByteArray) (k' n' : Int) (s' : ByteArray) (er : Int) (w : World) (hs : nm.size ≤ maxLen) (h : fldB nm fk wd = true) (hp : decide (0 ≤ p ∧ p ≤ 2) = true) (hz : s.size ≤ maxLen) (hv : vE k n s = 0) (hF' : ∀ W, Calls Tryz.prog 74 #[fv nm fk wd nu, .int .i64 p, vv k n s] W (FitR k' n' s' er W)) : Calls Tryz.prog 34 #[fv nm fk wd nu, .int .i64 p, vv k n s] w (FitR k' n' s' er w) := by
  have CF := Lib.hid hF'
  unfold FitR at CF
  clear hF'
  have C1 := Lib.hid (fun W => refIsField_any nm fk wd nu W hs)
  unfold FldP at C1
  rw [h] at C1
  have C2 := Lib.hid (fun W => refIsPage_any p W)
  rw [hp] at C2
  have C3 := Lib.hid (fun W => refValidate_any k n s W hz)
  rw [hv] at C3
  clear hv
  clear h hp
  have hF : FB (((w.alloc (.cells #[.string nm, .int .i64 fk, .int .i64 wd, .bool nu] 49)).alloc (.cells #[.int .i64 k, .int .i64 n, .string s] 51)).alloc (.cells #[.int .i64 0, .int .i64 0, .string nos] 51)) w.heap.size nm fk wd nu k n s := FB.new w nm fk wd nu k n s
  have HB := Lib.hid (three_below w (.cells #[.string nm, .int .i64 fk, .int .i64 wd, .bool nu] 49) (.cells #[.int .i64 k, .int .i64 n, .string s] 51) (.cells #[.int .i64 0, .int .i64 0, .string nos] 51))
  obtain ⟨f0, f1, f2, f3, v0, v1, v2, r0, r1, r2, q0, q1, q2, z1, z2, z3⟩ := hF
  have hF := FB.new w nm fk wd nu k n s
  go_enter Tryz.func34, Tryz.ntmps34
  go_wp2_with fail
  refine (C1.out _).mono ?_
  rintro e w1 ⟨rfl, hb1⟩
  have hF1 := hF.below hb1 hF.z3
  have HB1 := Lib.hid (HB.out.trans (hb1.mono (by have := HB.out.size; omega)))
  clear hF HB hb1 f0 f1 f2 f3 v0 v1 v2 r0 r1 r2 q0 q1 q2 z1 z2 z3
  have hF := hF1
  have HB := HB1
  clear hF1 HB1
  obtain ⟨f0, f1, f2, f3, v0, v1, v2, r0, r1, r2, q0, q1, q2, z1, z2, z3⟩ := hF
  have hF : FB w1 w.heap.size nm fk wd nu k n s := ⟨f0, f1, f2, f3, v0, v1, v2, r0, r1, r2, q0, q1, q2, z1, z2, z3⟩
  go_wp2_with fail
  refine (C2.out _).mono ?_
  rintro e w' ⟨rfl, rfl⟩
  go_wp2_with fail
  refine (C3.out _).mono ?_
  rintro e w2 ⟨rfl, hb2⟩
  have hF2 := hF.below hb2 hF.z3
  have HB2 := Lib.hid (HB.out.trans (hb2.mono (by have := HB.out.size; omega)))
  clear hF HB hb2 f0 f1 f2 f3 v0 v1 v2 r0 r1 r2 q0 q1 q2 z1 z2 z3
  have hF := hF2
  have HB := HB2
  clear hF2 HB2
  obtain ⟨f0, f1, f2, f3, v0, v1, v2, r0, r1, r2, q0, q1, q2, z1, z2, z3⟩ := hF
  have hF : FB w2 w.heap.size nm fk wd nu k n s := ⟨f0, f1, f2, f3, v0, v1, v2, r0, r1, r2, q0, q1, q2, z1, z2, z3⟩
  go_wp2_with fail
  refine (CF.out _).mono ?_
  rintro e w3 ⟨rfl, hb3⟩
  have hF3 := hF.below hb3 hF.z3
  have HB3 := Lib.hid (HB.out.trans (hb3.mono (by have := HB.out.size; omega)))
  clear hF HB hb3 f0 f1 f2 f3 v0 v1 v2 r0 r1 r2 q0 q1 q2 z1 z2 z3
  have hF := hF3
  have HB := HB3
  clear hF3 HB3
  obtain ⟨f0, f1, f2, f3, v0, v1, v2, r0, r1, r2, q0, q1, q2, z1, z2, z3⟩ := hF
  have hF : FB w3 w.heap.size nm fk wd nu k n s := ⟨f0, f1, f2, f3, v0, v1, v2, r0, r1, r2, q0, q1, q2, z1, z2, z3⟩
  go_wp2_with fail
  exact bodyPost_ret (v := .tuple #[vv k' n' s', .int .i64 er]) (by simp [results, Tryz.results34, go_sem, r0, r1, r2, z1, z2, z3]) rfl ⟨rfl, by first | exact ((HB.out.setCell (by simp; omega) _).setCell (by simp; omega) _).setCell (by simp; omega) _ | exact three_below _ _ _ _⟩
end Go.Proofs.YtcgfeeobkoomfaaGreatDoor
