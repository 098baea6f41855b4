/- How many blocks a text needs: of the program and of the reference. -/
import Derived.Test.YtkjbkiiddnkmaaaProg
import Derived.Test.YtkjbkiiddnkmaaaChecked
import Derived.WalkKit
import Derived.Lib.Hide
namespace Go.Proofs.Ytkjbkiiddnkmaaa
open Go.RowKit
set_option linter.unusedVariables false
set_option linter.unusedSimpArgs false
set_option maxRecDepth 40000

def isz (n : Int) : Bool := decide (16 ≤ n) && (decide (n ≤ 256) && (n % 16 == 0))
def ndN (size n : Int) : Int := (n + 12 + size - 1) / size
theorem isz_on {n : Int} (h : isz n = true) : 16 ≤ n ∧ n ≤ 256 := by
  unfold isz at h
  simp at h
  exact ⟨h.1, h.2.1⟩
theorem isSize_any (n : Int) (w : World) : Calls Try.prog 32 #[.int .i64 n] w fun e w' => e = .returned (.bool (isz n)) ∧ w = w' := by
  by_cases h1 : 16 ≤ n
  · by_cases h2 : n ≤ 256
    · have hv : isz n = (n % 16 == 0) := by unfold isz; simp [h1, h2]
      rw [hv]; clear hv
      go_enter Try.func32, Try.ntmps32
      go_wp2
      all_goals (go_ret; exact ⟨by first | rfl | simp_all, rfl⟩)
    · have hv : isz n = false := by unfold isz; simp [h2]
      rw [hv]; clear hv
      go_enter Try.func32, Try.ntmps32
      go_wp2
      go_ret
      exact ⟨rfl, rfl⟩
  · have hv : isz n = false := by unfold isz; simp [h1]
    rw [hv]; clear hv
    go_enter Try.func32, Try.ntmps32
    go_wp2
    go_ret
    exact ⟨rfl, rfl⟩
theorem refIsSize_any (n : Int) (w : World) : Calls Try.prog 33 #[.int .i64 n] w fun e w' => e = .returned (.bool (isz n)) ∧ w = w' := by
  by_cases h1 : 16 ≤ n
  · by_cases h2 : n ≤ 256
    · have hv : isz n = (n % 16 == 0) := by unfold isz; simp [h1, h2]
      rw [hv]; clear hv
      go_enter Try.func33, Try.ntmps33
      go_wp2
      all_goals (go_ret; exact ⟨by first | rfl | simp_all, rfl⟩)
    · have hv : isz n = false := by unfold isz; simp [h2]
      rw [hv]; clear hv
      go_enter Try.func33, Try.ntmps33
      go_wp2
      go_ret
      exact ⟨rfl, rfl⟩
  · have hv : isz n = false := by unfold isz; simp [h1]
    rw [hv]; clear hv
    go_enter Try.func33, Try.ntmps33
    go_wp2
    go_ret
    exact ⟨rfl, rfl⟩
theorem needs_any (z n : Int) (w : World) (h1 : 16 ≤ z) (h2 : z ≤ 256) (h3 : 0 ≤ n) (h4 : n ≤ 2048) : Calls Try.prog 54 #[.int .i64 z, .int .i64 n] w fun e w' => e = .returned (.int .i64 (ndN z n)) ∧ w = w' := by
  have hv : ndN z n = (12 + n + z - 1) / z := by unfold ndN; rw [Int.add_comm n 12]
  rw [hv]; clear hv
  go_enter Try.func54, Try.ntmps54
  go_wp2
  go_ret
  exact ⟨rfl, rfl⟩
theorem refNeeds_in (z n : Int) (w : World) (h1 : 16 ≤ z) (h2 : z ≤ 256) (h3 : 0 ≤ n) (h4 : n ≤ 2048) : Calls Try.prog 53 #[.int .i64 z, .int .i64 n] w fun e w' => e = .returned (.int .i64 (ndN z n)) ∧ w = w' := by
  unfold ndN
  go_enter Try.func53, Try.ntmps53
  go_wp2
  go_ret
  exact ⟨rfl, rfl⟩
/-- What Needs answers, and its error. -/
def ndV (z n : Int) : Int := if isz z = true ∧ 0 ≤ n ∧ n ≤ 2048 then ndN z n else 0
def ndE (z n : Int) : Int := if isz z = true ∧ 0 ≤ n ∧ n ≤ 2048 then 0 else 1
theorem Needs_any (z n : Int) (w : World) : Calls Try.prog 21 #[.int .i64 z, .int .i64 n] w fun e w' => e = .returned (.tuple #[.int .i64 (ndV z n), .int .i64 (ndE z n)]) ∧ w = w' := by
  have C1 := Lib.hid (fun W => isSize_any z W)
  cases hz : isz z
  · have hv : ndV z n = 0 := by unfold ndV; simp [hz]
    have he : ndE z n = 1 := by unfold ndE; simp [hz]
    rw [hv, he]; clear hv he
    rw [hz] at C1
    clear hz
    go_enter Try.func21, Try.ntmps21
    go_wp2_with fail
    refine (C1.out _).mono ?_
    rintro e w' ⟨rfl, rfl⟩
    go_wp2_with fail
    go_ret2
    exact ⟨rfl, rfl⟩
  · obtain ⟨z1, z2⟩ := isz_on hz
    rw [hz] at C1
    by_cases h : 0 ≤ n ∧ n ≤ 2048
    · have hv : ndV z n = ndN z n := by unfold ndV; rw [if_pos ⟨hz, h⟩]
      have he : ndE z n = 0 := by unfold ndE; rw [if_pos ⟨hz, h⟩]
      rw [hv, he]; clear hv he
      obtain ⟨h3, h4⟩ := h
      have C2 := Lib.hid (fun W => needs_any z n W z1 z2 h3 h4)
      clear hz z1 z2
      go_enter Try.func21, Try.ntmps21
      go_wp2_with fail
      refine (C1.out _).mono ?_
      rintro e w' ⟨rfl, rfl⟩
      go_wp2_with fail
      refine (C2.out _).mono ?_
      rintro e w' ⟨rfl, rfl⟩
      go_wp2_with fail
      go_ret2
      exact ⟨rfl, rfl⟩
    · have hv : ndV z n = 0 := by unfold ndV; rw [if_neg (fun h' => h h'.2)]
      have he : ndE z n = 1 := by unfold ndE; rw [if_neg (fun h' => h h'.2)]
      rw [hv, he]; clear hv he
      clear hz z1 z2
      by_cases h3 : 0 ≤ n
      · have h4 : ¬ n ≤ 2048 := fun h' => h ⟨h3, h'⟩
        clear h
        go_enter Try.func21, Try.ntmps21
        go_wp2_with fail
        refine (C1.out _).mono ?_
        rintro e w' ⟨rfl, rfl⟩
        go_wp2_with fail
        go_ret2
        exact ⟨rfl, rfl⟩
      · clear h
        go_enter Try.func21, Try.ntmps21
        go_wp2_with fail
        refine (C1.out _).mono ?_
        rintro e w' ⟨rfl, rfl⟩
        go_wp2_with fail
        go_ret2
        exact ⟨rfl, rfl⟩
theorem refNeeds_any (z n : Int) (w : World) : Calls Try.prog 22 #[.int .i64 z, .int .i64 n] w fun e w' => e = .returned (.tuple #[.int .i64 (ndV z n), .int .i64 (ndE z n)]) ∧ w = w' := by
  have C1 := Lib.hid (fun W => refIsSize_any z W)
  cases hz : isz z
  · have hv : ndV z n = 0 := by unfold ndV; simp [hz]
    have he : ndE z n = 1 := by unfold ndE; simp [hz]
    rw [hv, he]; clear hv he
    rw [hz] at C1
    clear hz
    go_enter Try.func22, Try.ntmps22
    go_wp2_with fail
    refine (C1.out _).mono ?_
    rintro e w' ⟨rfl, rfl⟩
    go_wp2_with fail
    go_ret2
    exact ⟨rfl, rfl⟩
  · obtain ⟨z1, z2⟩ := isz_on hz
    rw [hz] at C1
    by_cases h : 0 ≤ n ∧ n ≤ 2048
    · have hv : ndV z n = ndN z n := by unfold ndV; rw [if_pos ⟨hz, h⟩]
      have he : ndE z n = 0 := by unfold ndE; rw [if_pos ⟨hz, h⟩]
      rw [hv, he]; clear hv he
      obtain ⟨h3, h4⟩ := h
      have C2 := Lib.hid (fun W => refNeeds_in z n W z1 z2 h3 h4)
      clear hz z1 z2
      go_enter Try.func22, Try.ntmps22
      go_wp2_with fail
      refine (C1.out _).mono ?_
      rintro e w' ⟨rfl, rfl⟩
      go_wp2_with fail
      refine (C2.out _).mono ?_
      rintro e w' ⟨rfl, rfl⟩
      go_wp2_with fail
      go_ret2
      exact ⟨rfl, rfl⟩
    · have hv : ndV z n = 0 := by unfold ndV; rw [if_neg (fun h' => h h'.2)]
      have he : ndE z n = 1 := by unfold ndE; rw [if_neg (fun h' => h h'.2)]
      rw [hv, he]; clear hv he
      clear hz z1 z2
      by_cases h3 : 0 ≤ n
      · have h4 : ¬ n ≤ 2048 := fun h' => h ⟨h3, h'⟩
        clear h
        go_enter Try.func22, Try.ntmps22
        go_wp2_with fail
        refine (C1.out _).mono ?_
        rintro e w' ⟨rfl, rfl⟩
        go_wp2_with fail
        go_ret2
        exact ⟨rfl, rfl⟩
      · clear h
        go_enter Try.func22, Try.ntmps22
        go_wp2_with fail
        refine (C1.out _).mono ?_
        rintro e w' ⟨rfl, rfl⟩
        go_wp2_with fail
        go_ret2
        exact ⟨rfl, rfl⟩
end Go.Proofs.Ytkjbkiiddnkmaaa
