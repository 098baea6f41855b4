/- The walks of Weekday, Stamp and Months of the program and of the reference. -/
import Derived.Test.YtfgadkknfehkcaaDoorMonths
import Derived.Test.YtfgadkknfehkcaaDoorPad
import Derived.Test.YtfgadkknfehkcaaDoorRefSplit
namespace Go.Proofs.YtfgadkknfehkcaaDoor
open Go.RowKit
set_option linter.unusedVariables false

abbrev IsDay (n : Int) : Prop := 0 ≤ n ∧ n ≤ 3652059
def wkR (n : Int) : Int := if IsDay n ∧ n ≠ 0 then n % 7 + 1 else 0
def dyE (n : Int) : Int := if IsDay n then 0 else 1

set_option maxHeartbeats 400000 in
theorem Weekday_any (n : Int) (w : World) :
    Calls Tryd.prog 38 #[.int .i64 n] w fun e w' => e = .returned (.tuple #[.int .i64 (wkR n), .int .i64 (dyE n)]) ∧ w = w' := by
  by_cases h : IsDay n
  · have hv : decide (0 ≤ n ∧ n ≤ 3652059) = true := by simpa using h
    have hE : dyE n = 0 := if_pos h
    obtain ⟨h0, h1⟩ := h
    by_cases z : n = 0
    · subst z
      have hR : wkR 0 = 0 := by decide
      rw [hE, hR]; clear hE hR
      go_enter Tryd.func38, Tryd.ntmps38
      go_wp2_with fail
      refine (isDay_any _ _).mono ?_
      rintro e w' ⟨rfl, rfl⟩
      rw [hv]; clear hv
      go_wp2
      go_ret2
      exact ⟨rfl, rfl⟩
    · have hR : wkR n = n % 7 + 1 := if_pos ⟨⟨h0, h1⟩, z⟩
      have z' : (n == 0) = false := by simpa using z
      rw [hE, hR]; clear hE hR
      go_enter Tryd.func38, Tryd.ntmps38
      go_wp2_with fail
      refine (isDay_any _ _).mono ?_
      rintro e w' ⟨rfl, rfl⟩
      rw [hv]; clear hv
      go_wp2
      go_ret2
      exact ⟨rfl, rfl⟩
  · have hv : decide (0 ≤ n ∧ n ≤ 3652059) = false := by simpa using h
    have hE : dyE n = 1 := if_neg h
    have hR : wkR n = 0 := if_neg (fun q => h q.1)
    rw [hE, hR]; clear hE hR h
    go_enter Tryd.func38, Tryd.ntmps38
    go_wp2_with fail
    refine (isDay_any _ _).mono ?_
    rintro e w' ⟨rfl, rfl⟩
    rw [hv]; clear hv
    go_wp2
    go_ret2
    exact ⟨rfl, rfl⟩
set_option maxHeartbeats 400000 in
theorem refWeekday_any (n : Int) (w : World) :
    Calls Tryd.prog 39 #[.int .i64 n] w fun e w' => e = .returned (.tuple #[.int .i64 (wkR n), .int .i64 (dyE n)]) ∧ w = w' := by
  by_cases h : IsDay n
  · have hE : dyE n = 0 := if_pos h
    obtain ⟨h0, h1⟩ := h
    by_cases z : n = 0
    · subst z
      have hR : wkR 0 = 0 := by decide
      rw [hE, hR]; clear hE hR
      go_enter Tryd.func39, Tryd.ntmps39
      go_wp2
      go_ret2
      exact ⟨rfl, rfl⟩
    · have hR : wkR n = n % 7 + 1 := if_pos ⟨⟨h0, h1⟩, z⟩
      have z' : (n == 0) = false := by simpa using z
      rw [hE, hR]; clear hE hR
      go_enter Tryd.func39, Tryd.ntmps39
      go_wp2
      go_ret2
      exact ⟨rfl, rfl⟩
  · have hE : dyE n = 1 := if_neg h
    have hR : wkR n = 0 := if_neg (fun q => h q.1)
    rw [hE, hR]; clear hE hR
    by_cases a : n < 0
    · clear h
      go_enter Tryd.func39, Tryd.ntmps39
      go_wp2
      go_ret2
      exact ⟨rfl, rfl⟩
    · have b : 3652059 < n := by unfold IsDay at h; omega
      clear h
      go_enter Tryd.func39, Tryd.ntmps39
      go_wp2
      go_ret2
      exact ⟨rfl, rfl⟩

theorem dec_le (n : Int) (k : Nat) (h0 : 0 ≤ n) (h : n.toNat < 10 ^ (k + 1)) : (dec n).size ≤ k + 1 := by
  rw [dec_nat n h0]
  have := dec_len n.toNat k h
  show (Lib.decDigits n.toNat).toArray.size ≤ k + 1
  simpa using this
theorem pad_size (n : Int) (k : Nat) (h : (dec n).size ≤ k) : (pad n k).size = k := by
  unfold pad; rw [ByteArray.size_append, zeros_size]; omega

def blanks : ByteArray := ⟨#[32, 32, 32, 32, 32, 32, 32, 32]⟩
def stampB (y m d : Int) : ByteArray := pad y 4 ++ pad m 2 ++ pad d 2

set_option maxHeartbeats 1000000 in
theorem stamp_of (y m d n : Int) (w : World) (h : Cal.Ok y m d) (hn : Cal.num y m d = n) (ht : Tab w) (hw : Pow w) :
    Calls Tryd.prog 60 #[.int .i64 n] w fun e w' => e = .returned (.string (stampB y m d)) ∧ Below w.heap.size w w' := by
  have hb := Cal.num_bd h
  rw [hn] at hb
  have n0 : (n == 0) = false := by simp; omega
  have HN := Lib.hid hn; clear hn
  have HT := Lib.hid ht; clear ht
  have HW := Lib.hid hw; clear hw
  have HH := Lib.hid h
  obtain ⟨a, b, c, e, f, g⟩ := h
  have hm := Cal.ml_bd y m
  have s1 := dec_le y 3 (by omega) (by omega)
  have s2 := dec_le m 1 (by omega) (by omega)
  have s3 := dec_le d 1 (by omega) (by omega)
  have p1 := pad_size y 4 s1
  have p2 := pad_size m 2 s2
  have p3 := pad_size d 2 s3
  have C1 := Lib.hid (digits_any y 4 (by omega) (by omega) s1 (by omega))
  have C2 := Lib.hid (digits_any m 2 (by omega) (by omega) s2 (by omega))
  have C3 := Lib.hid (digits_any d 2 (by omega) (by omega) s3 (by omega))
  clear s1 s2 s3
  unfold stampB
  generalize pad y 4 = x at *
  generalize pad m 2 = v at *
  generalize pad d 2 = u at *
  go_enter Tryd.func60, Tryd.ntmps60
  go_wp2_with fail
  refine (split_of y m d n _ HH.out HN.out HT.out).mono ?_
  rintro e w' ⟨rfl, rfl⟩
  go_wp2_with fail
  refine (C1.out _ HW.out).mono ?_
  rintro e w1 ⟨rfl, hb1⟩
  have HW1 := Lib.hid (HW.out.below hb1)
  go_wp2_with fail
  refine (C2.out _ HW1.out).mono ?_
  rintro e w2 ⟨rfl, hb2⟩
  have HW2 := Lib.hid (HW1.out.below hb2)
  go_wp2_with fail
  refine (C3.out _ HW2.out).mono ?_
  rintro e w3 ⟨rfl, hb3⟩
  have z1 := hb1.size
  have z2 := hb2.size
  go_wp2_with fail
  go_ret
  exact ⟨rfl, (hb1.trans (hb2.mono (by omega))).trans (hb3.mono (by omega))⟩
theorem stamp_zero (w : World) :
    Calls Tryd.prog 60 #[.int .i64 0] w fun e w' => e = .returned (.string blanks) ∧ w = w' := by
  go_enter Tryd.func60, Tryd.ntmps60
  go_wp2
  go_ret
  exact ⟨rfl, rfl⟩
end Go.Proofs.YtfgadkknfehkcaaDoor
