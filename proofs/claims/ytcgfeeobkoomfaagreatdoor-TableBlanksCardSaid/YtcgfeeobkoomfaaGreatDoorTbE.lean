/- Fit of both: the cases. -/
import Derived.Test.YtcgfeeobkoomfaaGreatDoorTbD
import Derived.Deep.RegionHeld3
namespace Go.Proofs.YtcgfeeobkoomfaaGreatDoor
open Go.RowKit
set_option linter.unusedVariables false
set_option linter.unusedSimpArgs false
set_option maxRecDepth 40000

/-- Both answer k' n' s' and the error e. -/
def FitR (k n : Int) (s : ByteArray) (er : Int) (w : World) (e : Ending) (w' : World) : Prop := e = .returned (.tuple #[vv k n s, .int .i64 er]) ∧ Below w.heap.size w w'
theorem three_below (w : World) (a b c : Obj) : Below w.heap.size w (((w.alloc a).alloc b).alloc c) :=
  (((Below.refl _ _).alloc (Nat.le_refl _) _).alloc (by simp) _).alloc (by simp; omega) _
/-- The boxes of a field, of a value and of the answer. -/
structure FB (W : World) (B : Nat) (nm : ByteArray) (fk wd : Int) (nu : Bool) (k n : Int) (s : ByteArray) : Prop where
  f0 : W.cell? ⟨B, 0, none⟩ = some (.string nm)
  f1 : W.cell? ⟨B, 1, none⟩ = some (.int .i64 fk)
  f2 : W.cell? ⟨B, 2, none⟩ = some (.int .i64 wd)
  f3 : W.cell? ⟨B, 3, none⟩ = some (.bool nu)
  v0 : W.cell? ⟨B + 1, 0, none⟩ = some (.int .i64 k)
  v1 : W.cell? ⟨B + 1, 1, none⟩ = some (.int .i64 n)
  v2 : W.cell? ⟨B + 1, 2, none⟩ = some (.string s)
  r0 : W.cell? ⟨B + 1 + 1, 0, none⟩ = some (.int .i64 0)
  r1 : W.cell? ⟨B + 1 + 1, 1, none⟩ = some (.int .i64 0)
  r2 : W.cell? ⟨B + 1 + 1, 2, none⟩ = some (.string nos)
  q0 : W.frozen? ⟨B + 1 + 1, 0, none⟩ = false
  q1 : W.frozen? ⟨B + 1 + 1, 1, none⟩ = false
  q2 : W.frozen? ⟨B + 1 + 1, 2, none⟩ = false
  z1 : B < W.heap.size
  z2 : B + 1 < W.heap.size
  z3 : B + 1 + 1 < W.heap.size
theorem FB.new (w : World) (nm : ByteArray) (fk wd : Int) (nu : Bool) (k n : Int) (s : ByteArray) : FB (((w.alloc (.cells #[.string nm, .int .i64 fk, .int .i64 wd, .bool nu] 49)).alloc (.cells #[.int .i64 k, .int .i64 n, .string s] 51)).alloc (.cells #[.int .i64 0, .int .i64 0, .string nos] 51)) w.heap.size nm fk wd nu k n s := by
  constructor <;> simp [go_sem]
theorem FB.below {W W' : World} {B : Nat} {nm : ByteArray} {fk wd : Int} {nu : Bool} {k n : Int} {s : ByteArray} (h : FB W B nm fk wd nu k n s) (hb : Below W.heap.size W W') (hz : B + 1 + 1 < W.heap.size) : FB W' B nm fk wd nu k n s where
  f0 := (hb.cell (p := ⟨B, 0, none⟩) h.z1).trans h.f0
  f1 := (hb.cell (p := ⟨B, 1, none⟩) h.z1).trans h.f1
  f2 := (hb.cell (p := ⟨B, 2, none⟩) h.z1).trans h.f2
  f3 := (hb.cell (p := ⟨B, 3, none⟩) h.z1).trans h.f3
  v0 := (hb.cell (p := ⟨B + 1, 0, none⟩) h.z2).trans h.v0
  v1 := (hb.cell (p := ⟨B + 1, 1, none⟩) h.z2).trans h.v1
  v2 := (hb.cell (p := ⟨B + 1, 2, none⟩) h.z2).trans h.v2
  r0 := (hb.cell (p := ⟨B + 1 + 1, 0, none⟩) h.z3).trans h.r0
  r1 := (hb.cell (p := ⟨B + 1 + 1, 1, none⟩) h.z3).trans h.r1
  r2 := (hb.cell (p := ⟨B + 1 + 1, 2, none⟩) h.z3).trans h.r2
  q0 := (hb.frozen (p := ⟨B + 1 + 1, 0, none⟩) h.z3).trans h.q0
  q1 := (hb.frozen (p := ⟨B + 1 + 1, 1, none⟩) h.z3).trans h.q1
  q2 := (hb.frozen (p := ⟨B + 1 + 1, 2, none⟩) h.z3).trans h.q2
  z1 := Nat.lt_of_lt_of_le h.z1 hb.size
  z2 := Nat.lt_of_lt_of_le h.z2 hb.size
  z3 := Nat.lt_of_lt_of_le h.z3 hb.size

set_option maxHeartbeats 4000000 in
theorem fit_f (nm : ByteArray) (fk wd : Int) (nu : Bool) (p k n : Int) (s : ByteArray) (w : World) (hs : nm.size ≤ maxLen) (h : fldB nm fk wd = false) : Calls Tryz.prog 33 #[fv nm fk wd nu, .int .i64 p, vv k n s] w (FitR 0 0 nos 1 w) := by
  have C1 := Lib.hid (fun W => isField_any nm fk wd nu W hs)
  unfold FldP at C1
  rw [h] at C1
  clear h
  have hF : FB (((w.alloc (.cells #[.string nm, .int .i64 fk, .int .i64 wd, .bool nu] 49)).alloc (.cells #[.int .i64 k, .int .i64 n, .string s] 51)).alloc (.cells #[.int .i64 0, .int .i64 0, .string nos] 51)) w.heap.size nm fk wd nu k n s := FB.new w nm fk wd nu k n s
  have HB := Lib.hid (three_below w (.cells #[.string nm, .int .i64 fk, .int .i64 wd, .bool nu] 49) (.cells #[.int .i64 k, .int .i64 n, .string s] 51) (.cells #[.int .i64 0, .int .i64 0, .string nos] 51))
  obtain ⟨f0, f1, f2, f3, v0, v1, v2, r0, r1, r2, q0, q1, q2, z1, z2, z3⟩ := hF
  have hF := FB.new w nm fk wd nu k n s
  go_enter Tryz.func33, Tryz.ntmps33
  go_wp2_with fail
  refine (C1.out _).mono ?_
  rintro e w1 ⟨rfl, hb1⟩
  have hF1 := hF.below hb1 hF.z3
  have HB1 := Lib.hid (HB.out.trans (hb1.mono (by have := HB.out.size; omega)))
  clear hF HB hb1 f0 f1 f2 f3 v0 v1 v2 r0 r1 r2 q0 q1 q2 z1 z2 z3
  have hF := hF1
  have HB := HB1
  clear hF1 HB1
  obtain ⟨f0, f1, f2, f3, v0, v1, v2, r0, r1, r2, q0, q1, q2, z1, z2, z3⟩ := hF
  have hF : FB w1 w.heap.size nm fk wd nu k n s := ⟨f0, f1, f2, f3, v0, v1, v2, r0, r1, r2, q0, q1, q2, z1, z2, z3⟩
  go_wp2_with fail
  exact bodyPost_ret (v := .tuple #[vv 0 0 nos, .int .i64 1]) (by simp [results, Tryz.results33, go_sem, r0, r1, r2, z1, z2, z3]) rfl ⟨rfl, ((HB.out.setCell (by simp; omega) _).setCell (by simp; omega) _).setCell (by simp; omega) _⟩

set_option maxHeartbeats 4000000 in
theorem rfit_f (nm : ByteArray) (fk wd : Int) (nu : Bool) (p k n : Int) (s : ByteArray) (w : World) (hs : nm.size ≤ maxLen) (h : fldB nm fk wd = false) : Calls Tryz.prog 34 #[fv nm fk wd nu, .int .i64 p, vv k n s] w (FitR 0 0 nos 1 w) := by
  have C1 := Lib.hid (fun W => refIsField_any nm fk wd nu W hs)
  unfold FldP at C1
  rw [h] at C1
  clear h
  have hF : FB (((w.alloc (.cells #[.string nm, .int .i64 fk, .int .i64 wd, .bool nu] 49)).alloc (.cells #[.int .i64 k, .int .i64 n, .string s] 51)).alloc (.cells #[.int .i64 0, .int .i64 0, .string nos] 51)) w.heap.size nm fk wd nu k n s := FB.new w nm fk wd nu k n s
  have HB := Lib.hid (three_below w (.cells #[.string nm, .int .i64 fk, .int .i64 wd, .bool nu] 49) (.cells #[.int .i64 k, .int .i64 n, .string s] 51) (.cells #[.int .i64 0, .int .i64 0, .string nos] 51))
  obtain ⟨f0, f1, f2, f3, v0, v1, v2, r0, r1, r2, q0, q1, q2, z1, z2, z3⟩ := hF
  have hF := FB.new w nm fk wd nu k n s
  go_enter Tryz.func34, Tryz.ntmps34
  go_wp2_with fail
  refine (C1.out _).mono ?_
  rintro e w1 ⟨rfl, hb1⟩
  have hF1 := hF.below hb1 hF.z3
  have HB1 := Lib.hid (HB.out.trans (hb1.mono (by have := HB.out.size; omega)))
  clear hF HB hb1 f0 f1 f2 f3 v0 v1 v2 r0 r1 r2 q0 q1 q2 z1 z2 z3
  have hF := hF1
  have HB := HB1
  clear hF1 HB1
  obtain ⟨f0, f1, f2, f3, v0, v1, v2, r0, r1, r2, q0, q1, q2, z1, z2, z3⟩ := hF
  have hF : FB w1 w.heap.size nm fk wd nu k n s := ⟨f0, f1, f2, f3, v0, v1, v2, r0, r1, r2, q0, q1, q2, z1, z2, z3⟩
  go_wp2_with fail
  exact bodyPost_ret (v := .tuple #[vv 0 0 nos, .int .i64 1]) (by simp [results, Tryz.results34, go_sem, r0, r1, r2, z1, z2, z3]) rfl ⟨rfl, ((HB.out.setCell (by simp; omega) _).setCell (by simp; omega) _).setCell (by simp; omega) _⟩

set_option maxHeartbeats 4000000 in
theorem fit_p (nm : ByteArray) (fk wd : Int) (nu : Bool) (p k n : Int) (s : ByteArray) (w : World) (hs : nm.size ≤ maxLen) (h : fldB nm fk wd = true) (hp : decide (0 ≤ p ∧ p ≤ 2) = false) : Calls Tryz.prog 33 #[fv nm fk wd nu, .int .i64 p, vv k n s] w (FitR 0 0 nos 1 w) := by
  have C1 := Lib.hid (fun W => isField_any nm fk wd nu W hs)
  unfold FldP at C1
  rw [h] at C1
  have C2 := Lib.hid (fun W => isPage_any p W)
  rw [hp] at C2
  clear h hp
  have hF : FB (((w.alloc (.cells #[.string nm, .int .i64 fk, .int .i64 wd, .bool nu] 49)).alloc (.cells #[.int .i64 k, .int .i64 n, .string s] 51)).alloc (.cells #[.int .i64 0, .int .i64 0, .string nos] 51)) w.heap.size nm fk wd nu k n s := FB.new w nm fk wd nu k n s
  have HB := Lib.hid (three_below w (.cells #[.string nm, .int .i64 fk, .int .i64 wd, .bool nu] 49) (.cells #[.int .i64 k, .int .i64 n, .string s] 51) (.cells #[.int .i64 0, .int .i64 0, .string nos] 51))
  obtain ⟨f0, f1, f2, f3, v0, v1, v2, r0, r1, r2, q0, q1, q2, z1, z2, z3⟩ := hF
  have hF := FB.new w nm fk wd nu k n s
  go_enter Tryz.func33, Tryz.ntmps33
  go_wp2_with fail
  refine (C1.out _).mono ?_
  rintro e w1 ⟨rfl, hb1⟩
  have hF1 := hF.below hb1 hF.z3
  have HB1 := Lib.hid (HB.out.trans (hb1.mono (by have := HB.out.size; omega)))
  clear hF HB hb1 f0 f1 f2 f3 v0 v1 v2 r0 r1 r2 q0 q1 q2 z1 z2 z3
  have hF := hF1
  have HB := HB1
  clear hF1 HB1
  obtain ⟨f0, f1, f2, f3, v0, v1, v2, r0, r1, r2, q0, q1, q2, z1, z2, z3⟩ := hF
  have hF : FB w1 w.heap.size nm fk wd nu k n s := ⟨f0, f1, f2, f3, v0, v1, v2, r0, r1, r2, q0, q1, q2, z1, z2, z3⟩
  go_wp2_with fail
  refine (C2.out _).mono ?_
  rintro e w' ⟨rfl, rfl⟩
  go_wp2_with fail
  exact bodyPost_ret (v := .tuple #[vv 0 0 nos, .int .i64 1]) (by simp [results, Tryz.results33, go_sem, r0, r1, r2, z1, z2, z3]) rfl ⟨rfl, ((HB.out.setCell (by simp; omega) _).setCell (by simp; omega) _).setCell (by simp; omega) _⟩

set_option maxHeartbeats 4000000 in
theorem rfit_p (nm : ByteArray) (fk wd : Int) (nu : Bool) (p k n : Int) (s : ByteArray) (w : World) (hs : nm.size ≤ maxLen) (h : fldB nm fk wd = true) (hp : decide (0 ≤ p ∧ p ≤ 2) = false) : Calls Tryz.prog 34 #[fv nm fk wd nu, .int .i64 p, vv k n s] w (FitR 0 0 nos 1 w) := by
  have C1 := Lib.hid (fun W => refIsField_any nm fk wd nu W hs)
  unfold FldP at C1
  rw [h] at C1
  have C2 := Lib.hid (fun W => refIsPage_any p W)
  rw [hp] at C2
  clear h hp
  have hF : FB (((w.alloc (.cells #[.string nm, .int .i64 fk, .int .i64 wd, .bool nu] 49)).alloc (.cells #[.int .i64 k, .int .i64 n, .string s] 51)).alloc (.cells #[.int .i64 0, .int .i64 0, .string nos] 51)) w.heap.size nm fk wd nu k n s := FB.new w nm fk wd nu k n s
  have HB := Lib.hid (three_below w (.cells #[.string nm, .int .i64 fk, .int .i64 wd, .bool nu] 49) (.cells #[.int .i64 k, .int .i64 n, .string s] 51) (.cells #[.int .i64 0, .int .i64 0, .string nos] 51))
  obtain ⟨f0, f1, f2, f3, v0, v1, v2, r0, r1, r2, q0, q1, q2, z1, z2, z3⟩ := hF
  have hF := FB.new w nm fk wd nu k n s
  go_enter Tryz.func34, Tryz.ntmps34
  go_wp2_with fail
  refine (C1.out _).mono ?_
  rintro e w1 ⟨rfl, hb1⟩
  have hF1 := hF.below hb1 hF.z3
  have HB1 := Lib.hid (HB.out.trans (hb1.mono (by have := HB.out.size; omega)))
  clear hF HB hb1 f0 f1 f2 f3 v0 v1 v2 r0 r1 r2 q0 q1 q2 z1 z2 z3
  have hF := hF1
  have HB := HB1
  clear hF1 HB1
  obtain ⟨f0, f1, f2, f3, v0, v1, v2, r0, r1, r2, q0, q1, q2, z1, z2, z3⟩ := hF
  have hF : FB w1 w.heap.size nm fk wd nu k n s := ⟨f0, f1, f2, f3, v0, v1, v2, r0, r1, r2, q0, q1, q2, z1, z2, z3⟩
  go_wp2_with fail
  refine (C2.out _).mono ?_
  rintro e w' ⟨rfl, rfl⟩
  go_wp2_with fail
  exact bodyPost_ret (v := .tuple #[vv 0 0 nos, .int .i64 1]) (by simp [results, Tryz.results34, go_sem, r0, r1, r2, z1, z2, z3]) rfl ⟨rfl, ((HB.out.setCell (by simp; omega) _).setCell (by simp; omega) _).setCell (by simp; omega) _⟩

set_option maxHeartbeats 4000000 in
theorem fit_v (nm : ByteArray) (fk wd : Int) (nu : Bool) (p k n : Int) (s : ByteArray) (w : World) (hs : nm.size ≤ maxLen) (h : fldB nm fk wd = true) (hp : decide (0 ≤ p ∧ p ≤ 2) = true) (hz : s.size ≤ maxLen) (er : Int) (her : vE k n s = er) (hne : er ≠ 0) : Calls Tryz.prog 33 #[fv nm fk wd nu, .int .i64 p, vv k n s] w (FitR 0 0 nos er w) := by
  have C1 := Lib.hid (fun W => isField_any nm fk wd nu W hs)
  unfold FldP at C1
  rw [h] at C1
  have C2 := Lib.hid (fun W => isPage_any p W)
  rw [hp] at C2
  have C3 := Lib.hid (fun W => validate_any k n s W hz)
  rw [her] at C3
  have hne' : (er != 0) = true := by simpa using hne
  clear her hne
  clear h hp
  have hF : FB (((w.alloc (.cells #[.string nm, .int .i64 fk, .int .i64 wd, .bool nu] 49)).alloc (.cells #[.int .i64 k, .int .i64 n, .string s] 51)).alloc (.cells #[.int .i64 0, .int .i64 0, .string nos] 51)) w.heap.size nm fk wd nu k n s := FB.new w nm fk wd nu k n s
  have HB := Lib.hid (three_below w (.cells #[.string nm, .int .i64 fk, .int .i64 wd, .bool nu] 49) (.cells #[.int .i64 k, .int .i64 n, .string s] 51) (.cells #[.int .i64 0, .int .i64 0, .string nos] 51))
  obtain ⟨f0, f1, f2, f3, v0, v1, v2, r0, r1, r2, q0, q1, q2, z1, z2, z3⟩ := hF
  have hF := FB.new w nm fk wd nu k n s
  go_enter Tryz.func33, Tryz.ntmps33
  go_wp2_with fail
  refine (C1.out _).mono ?_
  rintro e w1 ⟨rfl, hb1⟩
  have hF1 := hF.below hb1 hF.z3
  have HB1 := Lib.hid (HB.out.trans (hb1.mono (by have := HB.out.size; omega)))
  clear hF HB hb1 f0 f1 f2 f3 v0 v1 v2 r0 r1 r2 q0 q1 q2 z1 z2 z3
  have hF := hF1
  have HB := HB1
  clear hF1 HB1
  obtain ⟨f0, f1, f2, f3, v0, v1, v2, r0, r1, r2, q0, q1, q2, z1, z2, z3⟩ := hF
  have hF : FB w1 w.heap.size nm fk wd nu k n s := ⟨f0, f1, f2, f3, v0, v1, v2, r0, r1, r2, q0, q1, q2, z1, z2, z3⟩
  go_wp2_with fail
  refine (C2.out _).mono ?_
  rintro e w' ⟨rfl, rfl⟩
  go_wp2_with fail
  refine (C3.out _).mono ?_
  rintro e w2 ⟨rfl, hb2⟩
  have hF2 := hF.below hb2 hF.z3
  have HB2 := Lib.hid (HB.out.trans (hb2.mono (by have := HB.out.size; omega)))
  clear hF HB hb2 f0 f1 f2 f3 v0 v1 v2 r0 r1 r2 q0 q1 q2 z1 z2 z3
  have hF := hF2
  have HB := HB2
  clear hF2 HB2
  obtain ⟨f0, f1, f2, f3, v0, v1, v2, r0, r1, r2, q0, q1, q2, z1, z2, z3⟩ := hF
  have hF : FB w2 w.heap.size nm fk wd nu k n s := ⟨f0, f1, f2, f3, v0, v1, v2, r0, r1, r2, q0, q1, q2, z1, z2, z3⟩
  go_wp2_with fail
  exact bodyPost_ret (v := .tuple #[vv 0 0 nos, .int .i64 er]) (by simp [results, Tryz.results33, go_sem, r0, r1, r2, z1, z2, z3]) rfl ⟨rfl, ((HB.out.setCell (by simp; omega) _).setCell (by simp; omega) _).setCell (by simp; omega) _⟩

set_option maxHeartbeats 4000000 in
theorem rfit_v (nm : ByteArray) (fk wd : Int) (nu : Bool) (p k n : Int) (s : ByteArray) (w : World) (hs : nm.size ≤ maxLen) (h : fldB nm fk wd = true) (hp : decide (0 ≤ p ∧ p ≤ 2) = true) (hz : s.size ≤ maxLen) (er : Int) (her : vE k n s = er) (hne : er ≠ 0) : Calls Tryz.prog 34 #[fv nm fk wd nu, .int .i64 p, vv k n s] w (FitR 0 0 nos er w) := by
  have C1 := Lib.hid (fun W => refIsField_any nm fk wd nu W hs)
  unfold FldP at C1
  rw [h] at C1
  have C2 := Lib.hid (fun W => refIsPage_any p W)
  rw [hp] at C2
  have C3 := Lib.hid (fun W => refValidate_any k n s W hz)
  rw [her] at C3
  have hne' : (er != 0) = true := by simpa using hne
  clear her hne
  clear h hp
  have hF : FB (((w.alloc (.cells #[.string nm, .int .i64 fk, .int .i64 wd, .bool nu] 49)).alloc (.cells #[.int .i64 k, .int .i64 n, .string s] 51)).alloc (.cells #[.int .i64 0, .int .i64 0, .string nos] 51)) w.heap.size nm fk wd nu k n s := FB.new w nm fk wd nu k n s
  have HB := Lib.hid (three_below w (.cells #[.string nm, .int .i64 fk, .int .i64 wd, .bool nu] 49) (.cells #[.int .i64 k, .int .i64 n, .string s] 51) (.cells #[.int .i64 0, .int .i64 0, .string nos] 51))
  obtain ⟨f0, f1, f2, f3, v0, v1, v2, r0, r1, r2, q0, q1, q2, z1, z2, z3⟩ := hF
  have hF := FB.new w nm fk wd nu k n s
  go_enter Tryz.func34, Tryz.ntmps34
  go_wp2_with fail
  refine (C1.out _).mono ?_
  rintro e w1 ⟨rfl, hb1⟩
  have hF1 := hF.below hb1 hF.z3
  have HB1 := Lib.hid (HB.out.trans (hb1.mono (by have := HB.out.size; omega)))
  clear hF HB hb1 f0 f1 f2 f3 v0 v1 v2 r0 r1 r2 q0 q1 q2 z1 z2 z3
  have hF := hF1
  have HB := HB1
  clear hF1 HB1
  obtain ⟨f0, f1, f2, f3, v0, v1, v2, r0, r1, r2, q0, q1, q2, z1, z2, z3⟩ := hF
  have hF : FB w1 w.heap.size nm fk wd nu k n s := ⟨f0, f1, f2, f3, v0, v1, v2, r0, r1, r2, q0, q1, q2, z1, z2, z3⟩
  go_wp2_with fail
  refine (C2.out _).mono ?_
  rintro e w' ⟨rfl, rfl⟩
  go_wp2_with fail
  refine (C3.out _).mono ?_
  rintro e w2 ⟨rfl, hb2⟩
  have hF2 := hF.below hb2 hF.z3
  have HB2 := Lib.hid (HB.out.trans (hb2.mono (by have := HB.out.size; omega)))
  clear hF HB hb2 f0 f1 f2 f3 v0 v1 v2 r0 r1 r2 q0 q1 q2 z1 z2 z3
  have hF := hF2
  have HB := HB2
  clear hF2 HB2
  obtain ⟨f0, f1, f2, f3, v0, v1, v2, r0, r1, r2, q0, q1, q2, z1, z2, z3⟩ := hF
  have hF : FB w2 w.heap.size nm fk wd nu k n s := ⟨f0, f1, f2, f3, v0, v1, v2, r0, r1, r2, q0, q1, q2, z1, z2, z3⟩
  go_wp2_with fail
  exact bodyPost_ret (v := .tuple #[vv 0 0 nos, .int .i64 er]) (by simp [results, Tryz.results34, go_sem, r0, r1, r2, z1, z2, z3]) rfl ⟨rfl, ((HB.out.setCell (by simp; omega) _).setCell (by simp; omega) _).setCell (by simp; omega) _⟩

set_option maxHeartbeats 4000000 in
theorem fit_nil_no (nm : ByteArray) (fk wd : Int) (nu : Bool) (p k n : Int) (s : ByteArray) (w : World) (hs : nm.size ≤ maxLen) (h : fldB nm fk wd = true) (hp : decide (0 ≤ p ∧ p ≤ 2) = true) (hz : s.size ≤ maxLen) (hv : vE k n s = 0) (hk : k = 0) (hn : nu = false) : Calls Tryz.prog 33 #[fv nm fk wd nu, .int .i64 p, vv k n s] w (FitR 0 0 nos 7 w) := by
  subst hk hn
  have C1 := Lib.hid (fun W => isField_any nm fk wd false W hs)
  unfold FldP at C1
  rw [h] at C1
  have C2 := Lib.hid (fun W => isPage_any p W)
  rw [hp] at C2
  have C3 := Lib.hid (fun W => validate_any 0 n s W hz)
  rw [hv] at C3
  clear hv
  clear h hp
  have hF : FB (((w.alloc (.cells #[.string nm, .int .i64 fk, .int .i64 wd, .bool false] 49)).alloc (.cells #[.int .i64 0, .int .i64 n, .string s] 51)).alloc (.cells #[.int .i64 0, .int .i64 0, .string nos] 51)) w.heap.size nm fk wd false 0 n s := FB.new w nm fk wd false 0 n s
  have HB := Lib.hid (three_below w (.cells #[.string nm, .int .i64 fk, .int .i64 wd, .bool false] 49) (.cells #[.int .i64 0, .int .i64 n, .string s] 51) (.cells #[.int .i64 0, .int .i64 0, .string nos] 51))
  obtain ⟨f0, f1, f2, f3, v0, v1, v2, r0, r1, r2, q0, q1, q2, z1, z2, z3⟩ := hF
  have hF := FB.new w nm fk wd false 0 n s
  go_enter Tryz.func33, Tryz.ntmps33
  go_wp2_with fail
  refine (C1.out _).mono ?_
  rintro e w1 ⟨rfl, hb1⟩
  have hF1 := hF.below hb1 hF.z3
  have HB1 := Lib.hid (HB.out.trans (hb1.mono (by have := HB.out.size; omega)))
  clear hF HB hb1 f0 f1 f2 f3 v0 v1 v2 r0 r1 r2 q0 q1 q2 z1 z2 z3
  have hF := hF1
  have HB := HB1
  clear hF1 HB1
  obtain ⟨f0, f1, f2, f3, v0, v1, v2, r0, r1, r2, q0, q1, q2, z1, z2, z3⟩ := hF
  have hF : FB w1 w.heap.size nm fk wd false 0 n s := ⟨f0, f1, f2, f3, v0, v1, v2, r0, r1, r2, q0, q1, q2, z1, z2, z3⟩
  go_wp2_with fail
  refine (C2.out _).mono ?_
  rintro e w' ⟨rfl, rfl⟩
  go_wp2_with fail
  refine (C3.out _).mono ?_
  rintro e w2 ⟨rfl, hb2⟩
  have hF2 := hF.below hb2 hF.z3
  have HB2 := Lib.hid (HB.out.trans (hb2.mono (by have := HB.out.size; omega)))
  clear hF HB hb2 f0 f1 f2 f3 v0 v1 v2 r0 r1 r2 q0 q1 q2 z1 z2 z3
  have hF := hF2
  have HB := HB2
  clear hF2 HB2
  obtain ⟨f0, f1, f2, f3, v0, v1, v2, r0, r1, r2, q0, q1, q2, z1, z2, z3⟩ := hF
  have hF : FB w2 w.heap.size nm fk wd false 0 n s := ⟨f0, f1, f2, f3, v0, v1, v2, r0, r1, r2, q0, q1, q2, z1, z2, z3⟩
  go_wp2_with fail
  exact bodyPost_ret (v := .tuple #[vv 0 0 nos, .int .i64 7]) (by simp [results, Tryz.results33, go_sem, r0, r1, r2, z1, z2, z3]) rfl ⟨rfl, ((HB.out.setCell (by simp; omega) _).setCell (by simp; omega) _).setCell (by simp; omega) _⟩

set_option maxHeartbeats 4000000 in
theorem fit_nil_yes (nm : ByteArray) (fk wd : Int) (nu : Bool) (p k n : Int) (s : ByteArray) (w : World) (hs : nm.size ≤ maxLen) (h : fldB nm fk wd = true) (hp : decide (0 ≤ p ∧ p ≤ 2) = true) (hz : s.size ≤ maxLen) (hv : vE k n s = 0) (hk : k = 0) (hn : nu = true) : Calls Tryz.prog 33 #[fv nm fk wd nu, .int .i64 p, vv k n s] w (FitR k n s 0 w) := by
  subst hk hn
  have C1 := Lib.hid (fun W => isField_any nm fk wd true W hs)
  unfold FldP at C1
  rw [h] at C1
  have C2 := Lib.hid (fun W => isPage_any p W)
  rw [hp] at C2
  have C3 := Lib.hid (fun W => validate_any 0 n s W hz)
  rw [hv] at C3
  clear hv
  clear h hp
  have hF : FB (((w.alloc (.cells #[.string nm, .int .i64 fk, .int .i64 wd, .bool true] 49)).alloc (.cells #[.int .i64 0, .int .i64 n, .string s] 51)).alloc (.cells #[.int .i64 0, .int .i64 0, .string nos] 51)) w.heap.size nm fk wd true 0 n s := FB.new w nm fk wd true 0 n s
  have HB := Lib.hid (three_below w (.cells #[.string nm, .int .i64 fk, .int .i64 wd, .bool true] 49) (.cells #[.int .i64 0, .int .i64 n, .string s] 51) (.cells #[.int .i64 0, .int .i64 0, .string nos] 51))
  obtain ⟨f0, f1, f2, f3, v0, v1, v2, r0, r1, r2, q0, q1, q2, z1, z2, z3⟩ := hF
  have hF := FB.new w nm fk wd true 0 n s
  go_enter Tryz.func33, Tryz.ntmps33
  go_wp2_with fail
  refine (C1.out _).mono ?_
  rintro e w1 ⟨rfl, hb1⟩
  have hF1 := hF.below hb1 hF.z3
  have HB1 := Lib.hid (HB.out.trans (hb1.mono (by have := HB.out.size; omega)))
  clear hF HB hb1 f0 f1 f2 f3 v0 v1 v2 r0 r1 r2 q0 q1 q2 z1 z2 z3
  have hF := hF1
  have HB := HB1
  clear hF1 HB1
  obtain ⟨f0, f1, f2, f3, v0, v1, v2, r0, r1, r2, q0, q1, q2, z1, z2, z3⟩ := hF
  have hF : FB w1 w.heap.size nm fk wd true 0 n s := ⟨f0, f1, f2, f3, v0, v1, v2, r0, r1, r2, q0, q1, q2, z1, z2, z3⟩
  go_wp2_with fail
  refine (C2.out _).mono ?_
  rintro e w' ⟨rfl, rfl⟩
  go_wp2_with fail
  refine (C3.out _).mono ?_
  rintro e w2 ⟨rfl, hb2⟩
  have hF2 := hF.below hb2 hF.z3
  have HB2 := Lib.hid (HB.out.trans (hb2.mono (by have := HB.out.size; omega)))
  clear hF HB hb2 f0 f1 f2 f3 v0 v1 v2 r0 r1 r2 q0 q1 q2 z1 z2 z3
  have hF := hF2
  have HB := HB2
  clear hF2 HB2
  obtain ⟨f0, f1, f2, f3, v0, v1, v2, r0, r1, r2, q0, q1, q2, z1, z2, z3⟩ := hF
  have hF : FB w2 w.heap.size nm fk wd true 0 n s := ⟨f0, f1, f2, f3, v0, v1, v2, r0, r1, r2, q0, q1, q2, z1, z2, z3⟩
  go_wp2_with fail
  exact bodyPost_ret (v := .tuple #[vv 0 n s, .int .i64 0]) (by simp [results, Tryz.results33, go_sem, r0, r1, r2, z1, z2, z3]) rfl ⟨rfl, ((HB.out.setCell (by simp; omega) _).setCell (by simp; omega) _).setCell (by simp; omega) _⟩

set_option maxHeartbeats 4000000 in
theorem fit_kind (nm : ByteArray) (fk wd : Int) (nu : Bool) (p k n : Int) (s : ByteArray) (w : World) (hs : nm.size ≤ maxLen) (h : fldB nm fk wd = true) (hp : decide (0 ≤ p ∧ p ≤ 2) = true) (hz : s.size ≤ maxLen) (hv : vE k n s = 0) (hk : k ≠ 0) (hd : k ≠ kofN fk) : Calls Tryz.prog 33 #[fv nm fk wd nu, .int .i64 p, vv k n s] w (FitR 0 0 nos 6 w) := by
  have hk' : (k == 0) = false := by simpa using hk
  have hd' : (k != kofN fk) = true := by simpa using hd
  have KF := Lib.hid (fun W => kindOf_any nm fk wd nu W)
  generalize kofN fk = kk at *
  clear hk hd
  have C1 := Lib.hid (fun W => isField_any nm fk wd nu W hs)
  unfold FldP at C1
  rw [h] at C1
  have C2 := Lib.hid (fun W => isPage_any p W)
  rw [hp] at C2
  have C3 := Lib.hid (fun W => validate_any k n s W hz)
  rw [hv] at C3
  clear hv
  clear h hp
  have hF : FB (((w.alloc (.cells #[.string nm, .int .i64 fk, .int .i64 wd, .bool nu] 49)).alloc (.cells #[.int .i64 k, .int .i64 n, .string s] 51)).alloc (.cells #[.int .i64 0, .int .i64 0, .string nos] 51)) w.heap.size nm fk wd nu k n s := FB.new w nm fk wd nu k n s
  have HB := Lib.hid (three_below w (.cells #[.string nm, .int .i64 fk, .int .i64 wd, .bool nu] 49) (.cells #[.int .i64 k, .int .i64 n, .string s] 51) (.cells #[.int .i64 0, .int .i64 0, .string nos] 51))
  obtain ⟨f0, f1, f2, f3, v0, v1, v2, r0, r1, r2, q0, q1, q2, z1, z2, z3⟩ := hF
  have hF := FB.new w nm fk wd nu k n s
  go_enter Tryz.func33, Tryz.ntmps33
  go_wp2_with fail
  refine (C1.out _).mono ?_
  rintro e w1 ⟨rfl, hb1⟩
  have hF1 := hF.below hb1 hF.z3
  have HB1 := Lib.hid (HB.out.trans (hb1.mono (by have := HB.out.size; omega)))
  clear hF HB hb1 f0 f1 f2 f3 v0 v1 v2 r0 r1 r2 q0 q1 q2 z1 z2 z3
  have hF := hF1
  have HB := HB1
  clear hF1 HB1
  obtain ⟨f0, f1, f2, f3, v0, v1, v2, r0, r1, r2, q0, q1, q2, z1, z2, z3⟩ := hF
  have hF : FB w1 w.heap.size nm fk wd nu k n s := ⟨f0, f1, f2, f3, v0, v1, v2, r0, r1, r2, q0, q1, q2, z1, z2, z3⟩
  go_wp2_with fail
  refine (C2.out _).mono ?_
  rintro e w' ⟨rfl, rfl⟩
  go_wp2_with fail
  refine (C3.out _).mono ?_
  rintro e w2 ⟨rfl, hb2⟩
  have hF2 := hF.below hb2 hF.z3
  have HB2 := Lib.hid (HB.out.trans (hb2.mono (by have := HB.out.size; omega)))
  clear hF HB hb2 f0 f1 f2 f3 v0 v1 v2 r0 r1 r2 q0 q1 q2 z1 z2 z3
  have hF := hF2
  have HB := HB2
  clear hF2 HB2
  obtain ⟨f0, f1, f2, f3, v0, v1, v2, r0, r1, r2, q0, q1, q2, z1, z2, z3⟩ := hF
  have hF : FB w2 w.heap.size nm fk wd nu k n s := ⟨f0, f1, f2, f3, v0, v1, v2, r0, r1, r2, q0, q1, q2, z1, z2, z3⟩
  go_wp2_with fail
  have hbw := Lib.hid (Below.refl w2.heap.size w2).drew
  have hzd : w2.heap.size ≤ w2.drew.heap.size := by simp
  go_region_held3 (fun x => x.cell? ⟨w.heap.size, 0, none⟩ = some (.string nm) ∧ x.cell? ⟨w.heap.size, 1, none⟩ = some (.int .i64 fk) ∧ x.cell? ⟨w.heap.size, 2, none⟩ = some (.int .i64 wd) ∧ x.cell? ⟨w.heap.size, 3, none⟩ = some (.bool nu) ∧ x.cell? ⟨w.heap.size + 1, 0, none⟩ = some (.int .i64 k)) (first | exact ⟨f0, f1, f2, f3, v0⟩ | go_keep)
    (first | (go_at_call 70; (with_reducible refine (KF.out _).mono ?_); rintro e xK ⟨rfl, hx1⟩; have f0 : xK.cell? ⟨w.heap.size, 0, none⟩ = some (.string nm) := (hx1.cell (p := ⟨w.heap.size, 0, none⟩) (by simp at hzd ⊢; omega)).trans f0; have f1 : xK.cell? ⟨w.heap.size, 1, none⟩ = some (.int .i64 fk) := (hx1.cell (p := ⟨w.heap.size, 1, none⟩) (by simp at hzd ⊢; omega)).trans f1; have f2 : xK.cell? ⟨w.heap.size, 2, none⟩ = some (.int .i64 wd) := (hx1.cell (p := ⟨w.heap.size, 2, none⟩) (by simp at hzd ⊢; omega)).trans f2; have f3 : xK.cell? ⟨w.heap.size, 3, none⟩ = some (.bool nu) := (hx1.cell (p := ⟨w.heap.size, 3, none⟩) (by simp at hzd ⊢; omega)).trans f3; have v0 : xK.cell? ⟨w.heap.size + 1, 0, none⟩ = some (.int .i64 k) := (hx1.cell (p := ⟨w.heap.size + 1, 0, none⟩) (by simp at hzd ⊢; omega)).trans v0; have hbw := Lib.hid (hbw.out.trans (hx1.mono hzd)); clear hx1 hzd))
  all_goals
    have hFQ := hF.below hbw.out hF.z3
    have HBQ := Lib.hid (HB.out.trans (hbw.out.mono (by have := HB.out.size; omega)))
    clear hF HB hbw f0 f1 f2 f3 v0 v1 v2 r0 r1 r2 q0 q1 q2 z1 z2 z3
    have hF := hFQ
    have HB := HBQ
    clear hFQ HBQ
    obtain ⟨f0, f1, f2, f3, v0, v1, v2, r0, r1, r2, q0, q1, q2, z1, z2, z3⟩ := hF
    have hF : FB xK w.heap.size nm fk wd nu k n s := ⟨f0, f1, f2, f3, v0, v1, v2, r0, r1, r2, q0, q1, q2, z1, z2, z3⟩
  all_goals
    go_wp2_with fail
    exact bodyPost_ret (v := .tuple #[vv 0 0 nos, .int .i64 6]) (by simp [results, Tryz.results33, go_sem, r0, r1, r2, z1, z2, z3]) rfl ⟨rfl, ((HB.out.setCell (by simp; omega) _).setCell (by simp; omega) _).setCell (by simp; omega) _⟩
end Go.Proofs.YtcgfeeobkoomfaaGreatDoor
