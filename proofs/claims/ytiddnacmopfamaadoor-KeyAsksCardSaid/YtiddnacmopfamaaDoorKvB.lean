/- The walks of Validate and Both of the reference. -/
import Derived.Test.YtiddnacmopfamaaDoorKvA
namespace Go.Proofs.YtiddnacmopfamaaDoor
open Go.RowKit
set_option linter.unusedVariables false
set_option linter.unusedSimpArgs false

theorem refInNum_any (n : Int) (w : World) :
    Calls Tryd.prog 58 #[.int .i64 n] w fun e w' => e = .returned (.bool (inB n)) ∧ w = w' := by
  by_cases a : -1000000000000000 ≤ n
  · by_cases b : n ≤ 1000000000000000
    · have hv : inB n = true := by simp [inB]; omega
      rw [hv]; clear hv
      go_enter Tryd.func58, Tryd.ntmps58
      go_wp2
      go_ret
      exact ⟨rfl, rfl⟩
    · have hv : inB n = false := by simp [inB]; omega
      rw [hv]; clear hv
      go_enter Tryd.func58, Tryd.ntmps58
      go_wp2
      go_ret
      exact ⟨rfl, rfl⟩
  · have hv : inB n = false := by simp [inB]; omega
    rw [hv]; clear hv
    go_enter Tryd.func58, Tryd.ntmps58
    go_wp2
    go_ret
    exact ⟨rfl, rfl⟩

/-- The reference's road: 'ok' of a kind, then the text. -/
theorem vE_mk (k n : Int) (s : ByteArray) (ok : Bool) (hl : ¬ 2048 < s.size) (h : isV k n s.toList.isEmpty = (ok && (decide (k = 4) || s.toList.isEmpty))) :
    vE k n s = if (ok && (decide (k = 4) || s.toList.isEmpty)) = true then 0 else 1 := by
  unfold vE; rw [if_neg hl, h]

set_option maxHeartbeats 4000000 in
theorem refValidate_any (k n : Int) (s : ByteArray) (w : World) (hs : s.size ≤ maxLen) :
    Calls Tryd.prog 22 #[vv k n s] w fun e w' => e = .returned (.int .i64 (vE k n s)) ∧ Below w.heap.size w w' := by
  unfold maxLen at hs
  by_cases hl : 2048 < s.size
  · have hv : vE k n s = 3 := by simp [vE, hl]
    rw [hv]; clear hv
    go_enter Tryd.func22, Tryd.ntmps22
    go_wp2
    go_ret
    exact ⟨rfl, (Below.refl _ _).alloc (Nat.le_refl _) _⟩
  have bel : ∀ w : World, ∀ o, Below w.heap.size w (w.alloc o) := fun w o => (Below.refl _ _).alloc (Nat.le_refl _) _
  by_cases h4 : k = 4
  · subst h4
    cases a : n == 0
    · have hv : vE 4 n s = 1 := by simp at a; simp [vE, hl, isV, a]
      rw [hv]; clear hv
      go_enter Tryd.func22, Tryd.ntmps22
      go_wp2
      go_ret
      exact ⟨rfl, bel _ _⟩
    · have hv : vE 4 n s = 0 := by simp at a; simp [vE, hl, isV, a]
      rw [hv]; clear hv
      go_enter Tryd.func22, Tryd.ntmps22
      go_wp2
      go_ret
      exact ⟨rfl, bel _ _⟩
  have h4' : (k == 4) = false := by simpa using h4
  cases he : s.toList.isEmpty
  · have hv : vE k n s = 1 := by simp [vE, hl, isV, h4, he]
    rw [hv]; clear hv
    by_cases h0 : k = 0
    · subst h0
      go_enter Tryd.func22, Tryd.ntmps22
      go_wp2
      all_goals go_ret
      all_goals exact ⟨rfl, bel _ _⟩
    have h0' : (k == 0) = false := by simpa using h0
    by_cases h1 : k = 1
    · subst h1
      go_enter Tryd.func22, Tryd.ntmps22
      go_wp2
      all_goals go_ret
      all_goals exact ⟨rfl, bel _ _⟩
    have h1' : (k == 1) = false := by simpa using h1
    by_cases h2 : k = 2
    · subst h2
      cases hi : inB n
      · have HI := Lib.hid hi; clear hi
        go_enter Tryd.func22, Tryd.ntmps22
        go_wp2_with fail
        refine (refInNum_any _ _).mono ?_
        rintro e w' ⟨rfl, rfl⟩
        rw [HI.out]
        go_wp2
        all_goals go_ret
        all_goals exact ⟨rfl, bel _ _⟩
      · have HI := Lib.hid hi; clear hi
        go_enter Tryd.func22, Tryd.ntmps22
        go_wp2_with fail
        refine (refInNum_any _ _).mono ?_
        rintro e w' ⟨rfl, rfl⟩
        rw [HI.out]
        go_wp2
        all_goals go_ret
        all_goals exact ⟨rfl, bel _ _⟩
    have h2' : (k == 2) = false := by simpa using h2
    by_cases h3 : k = 3
    · subst h3
      go_enter Tryd.func22, Tryd.ntmps22
      go_wp2
      all_goals go_ret
      all_goals exact ⟨rfl, bel _ _⟩
    have h3' : (k == 3) = false := by simpa using h3
    clear h0 h1 h2 h3 h4
    go_enter Tryd.func22, Tryd.ntmps22
    go_wp2
    all_goals go_ret
    all_goals exact ⟨rfl, bel _ _⟩
  · by_cases h0 : k = 0
    · subst h0
      cases a : n == 0
      · have hv : vE 0 n s = 1 := by simp at a; simp [vE, hl, isV, he, a]
        rw [hv]; clear hv
        go_enter Tryd.func22, Tryd.ntmps22
        go_wp2
        go_ret
        exact ⟨rfl, bel _ _⟩
      · have hv : vE 0 n s = 0 := by simp at a; simp [vE, hl, isV, he, a]
        rw [hv]; clear hv
        go_enter Tryd.func22, Tryd.ntmps22
        go_wp2
        go_ret
        exact ⟨rfl, bel _ _⟩
    have h0' : (k == 0) = false := by simpa using h0
    by_cases h1 : k = 1
    · subst h1
      cases a : n == 0
      · cases b : n == 1
        · have hv : vE 1 n s = 1 := by simp at a b; simp [vE, hl, isV, he, a, b]
          rw [hv]; clear hv
          go_enter Tryd.func22, Tryd.ntmps22
          go_wp2
          go_ret
          exact ⟨rfl, bel _ _⟩
        · have hv : vE 1 n s = 0 := by simp at a b; simp [vE, hl, isV, he, a, b]
          rw [hv]; clear hv
          go_enter Tryd.func22, Tryd.ntmps22
          go_wp2
          go_ret
          exact ⟨rfl, bel _ _⟩
      · have hv : vE 1 n s = 0 := by simp at a; simp [vE, hl, isV, he, a]
        rw [hv]; clear hv
        go_enter Tryd.func22, Tryd.ntmps22
        go_wp2
        go_ret
        exact ⟨rfl, bel _ _⟩
    have h1' : (k == 1) = false := by simpa using h1
    by_cases h2 : k = 2
    · subst h2
      cases hi : inB n
      · have hv : vE 2 n s = 1 := by simp [vE, hl, isV, he, hi]
        rw [hv]; clear hv
        have HI := Lib.hid hi; clear hi
        go_enter Tryd.func22, Tryd.ntmps22
        go_wp2_with fail
        refine (refInNum_any _ _).mono ?_
        rintro e w' ⟨rfl, rfl⟩
        rw [HI.out]
        go_wp2
        go_ret
        exact ⟨rfl, bel _ _⟩
      · have hv : vE 2 n s = 0 := by simp [vE, hl, isV, he, hi]
        rw [hv]; clear hv
        have HI := Lib.hid hi; clear hi
        go_enter Tryd.func22, Tryd.ntmps22
        go_wp2_with fail
        refine (refInNum_any _ _).mono ?_
        rintro e w' ⟨rfl, rfl⟩
        rw [HI.out]
        go_wp2
        go_ret
        exact ⟨rfl, bel _ _⟩
    have h2' : (k == 2) = false := by simpa using h2
    by_cases h3 : k = 3
    · subst h3
      by_cases a : 0 ≤ n
      · by_cases b : n ≤ 3652059
        · have hv : vE 3 n s = 0 := by simp [vE, hl, isV, he, a, b]
          rw [hv]; clear hv
          go_enter Tryd.func22, Tryd.ntmps22
          go_wp2
          go_ret
          exact ⟨rfl, bel _ _⟩
        · have hv : vE 3 n s = 1 := by simp [vE, hl, isV, he, a, b]
          rw [hv]; clear hv
          go_enter Tryd.func22, Tryd.ntmps22
          go_wp2
          go_ret
          exact ⟨rfl, bel _ _⟩
      · have hv : vE 3 n s = 1 := by simp [vE, hl, isV, he, a]
        rw [hv]; clear hv
        go_enter Tryd.func22, Tryd.ntmps22
        go_wp2
        go_ret
        exact ⟨rfl, bel _ _⟩
    have h3' : (k == 3) = false := by simpa using h3
    have hv : vE k n s = 1 := by simp [vE, hl, isV, he, h0, h1, h2, h3, h4]
    rw [hv]; clear hv h0 h1 h2 h3 h4
    go_enter Tryd.func22, Tryd.ntmps22
    go_wp2
    go_ret
    exact ⟨rfl, bel _ _⟩

set_option maxHeartbeats 400000 in
theorem refBoth_any (k n : Int) (s : ByteArray) (k' n' : Int) (s' : ByteArray) (w : World) (hs : s.size ≤ maxLen) (hs' : s'.size ≤ maxLen) :
    Calls Tryd.prog 59 #[vv k n s, vv k' n' s'] w fun e w' => e = .returned (.int .i64 (if vE k n s = 0 then vE k' n' s' else vE k n s)) ∧ Below w.heap.size w w' := by
  by_cases h : vE k n s = 0
  · rw [if_pos h]
    have hb : (vE k n s != 0) = false := by simp [h]
    clear h
    have HB := Lib.hid hb; clear hb
    go_enter Tryd.func59, Tryd.ntmps59
    go_wp2_with fail
    refine (refValidate_any _ _ _ _ hs).mono ?_
    rintro e w1 ⟨rfl, hb1⟩
    obtain ⟨hc, hf⟩ := bcell hb1
    have HB' := HB.out
    go_wp2_with fail
    refine (refValidate_any _ _ _ _ hs').mono ?_
    rintro e w2 ⟨rfl, hb2⟩
    go_wp2_with fail
    go_ret
    exact ⟨rfl, ((((Below.refl _ _).alloc (Nat.le_refl _) _).alloc (by simp) _).trans (hb1.mono (by simp; omega))).trans (hb2.mono (by have := hb1.size; simp at this; omega))⟩
  · rw [if_neg h]
    have hb : (vE k n s != 0) = true := by simp [h]
    clear h
    have HB := Lib.hid hb; clear hb
    go_enter Tryd.func59, Tryd.ntmps59
    go_wp2_with fail
    refine (refValidate_any _ _ _ _ hs).mono ?_
    rintro e w1 ⟨rfl, hb1⟩
    have HB' := HB.out
    go_wp2_with fail
    go_ret
    exact ⟨rfl, (((Below.refl _ _).alloc (Nat.le_refl _) _).alloc (by simp) _).trans (hb1.mono (by simp; omega))⟩
end Go.Proofs.YtiddnacmopfamaaDoor
