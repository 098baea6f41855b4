/- The walks of Validate, isValue, both of the program: which values there are. -/
import Derived.Test.YtiddnacmopfamaaDoorPgI
import Derived.IntWalk
import Derived.WalkKit
import Derived.WalkSpells
import Derived.WalkLawsBesides
import Derived.Lib.Hide
import Derived.Lib.Strings
namespace Go.Proofs.YtiddnacmopfamaaDoor
open Go.RowKit
set_option linter.unusedVariables false
set_option linter.unusedSimpArgs false

/-- A value as it is handed over. -/
abbrev vv (k n : Int) (s : ByteArray) : Value := .agg #[.int .i64 k, .int .i64 n, .string s]

theorem bcell {W w1 : World} (hb : Below W.heap.size W w1) : (∀ b o, b < W.heap.size → w1.cell? ⟨b, o, none⟩ = W.cell? ⟨b, o, none⟩) ∧ (∀ b o, b < W.heap.size → w1.frozen? ⟨b, o, none⟩ = W.frozen? ⟨b, o, none⟩) :=
  ⟨fun b o h => hb.cell (p := ⟨b, o, none⟩) h, fun b o h => hb.frozen (p := ⟨b, o, none⟩) h⟩

def inB (n : Int) : Bool := decide (-1000000000000000 ≤ n ∧ n ≤ 1000000000000000)
/-- Which kind and number are of a value without a text; of a text. -/
def isV (k n : Int) (e : Bool) : Bool :=
  if k = 4 then decide (n = 0) else if e = false then false else if k = 0 then decide (n = 0) else if k = 1 then decide (n = 0 ∨ n = 1) else if k = 2 then inB n
  else if k = 3 then decide (0 ≤ n ∧ n ≤ 3652059) else false

set_option maxHeartbeats 400000 in
theorem inRange_any (n : Int) (w : World) :
    Calls Tryd.prog 103 #[.int .i64 n] w fun e w' => e = .returned (.bool (inB n)) ∧ w = w' := by
  by_cases a : -1000000000000000 ≤ n
  · by_cases b : n ≤ 1000000000000000
    · have hv : inB n = true := by simp [inB]; omega
      rw [hv]; clear hv
      go_enter Tryd.func103, Tryd.ntmps103
      go_wp2
      go_ret
      exact ⟨rfl, rfl⟩
    · have hv : inB n = false := by simp [inB]; omega
      rw [hv]; clear hv
      go_enter Tryd.func103, Tryd.ntmps103
      go_wp2
      go_ret
      exact ⟨rfl, rfl⟩
  · have hv : inB n = false := by simp [inB]; omega
    rw [hv]; clear hv
    go_enter Tryd.func103, Tryd.ntmps103
    go_wp2
    go_ret
    exact ⟨rfl, rfl⟩

set_option maxHeartbeats 400000 in
theorem isValue_text (n : Int) (s : ByteArray) (w : World) :
    Calls Tryd.prog 88 #[vv 4 n s] w fun e w' => e = .returned (.bool (decide (n = 0))) ∧ Below w.heap.size w w' := by
  by_cases a : n = 0
  · subst a
    go_enter Tryd.func88, Tryd.ntmps88
    go_wp2
    go_ret
    exact ⟨rfl, (Below.refl _ _).alloc (Nat.le_refl _) _⟩
  · have hv : decide (n = 0) = false := by simpa using a
    have a' : (n == 0) = false := by simpa using a
    rw [hv]; clear hv a
    go_enter Tryd.func88, Tryd.ntmps88
    go_wp2
    go_ret
    exact ⟨rfl, (Below.refl _ _).alloc (Nat.le_refl _) _⟩

set_option maxHeartbeats 400000 in
theorem isValue_some (k n : Int) (s : ByteArray) (w : World) (hk : k ≠ 4) (hs : s.toList.isEmpty = false) :
    Calls Tryd.prog 88 #[vv k n s] w fun e w' => e = .returned (.bool false) ∧ Below w.heap.size w w' := by
  have hk' : (k == 4) = false := by simpa using hk
  clear hk
  go_enter Tryd.func88, Tryd.ntmps88
  go_wp2
  go_ret
  exact ⟨rfl, (Below.refl _ _).alloc (Nat.le_refl _) _⟩

abbrev nos : ByteArray := ⟨#[]⟩

set_option maxHeartbeats 1000000 in
theorem isValue_none (k n : Int) (w : World) (hk : k ≠ 4) :
    Calls Tryd.prog 88 #[vv k n nos] w fun e w' => e = .returned (.bool (isV k n true)) ∧ Below w.heap.size w w' := by
  have hk' : (k == 4) = false := by simpa using hk
  by_cases h0 : k = 0
  · subst h0
    by_cases a : n = 0
    · subst a
      go_enter Tryd.func88, Tryd.ntmps88
      go_wp2
      go_ret
      exact ⟨rfl, (Below.refl _ _).alloc (Nat.le_refl _) _⟩
    · have hv : isV 0 n true = false := by simp [isV, a]
      have a' : (n == 0) = false := by simpa using a
      rw [hv]; clear hv a
      go_enter Tryd.func88, Tryd.ntmps88
      go_wp2
      go_ret
      exact ⟨rfl, (Below.refl _ _).alloc (Nat.le_refl _) _⟩
  have h0' : (k == 0) = false := by simpa using h0
  by_cases h1 : k = 1
  · subst h1
    by_cases a : n = 0
    · subst a
      go_enter Tryd.func88, Tryd.ntmps88
      go_wp2
      go_ret
      exact ⟨rfl, (Below.refl _ _).alloc (Nat.le_refl _) _⟩
    · by_cases b : n = 1
      · subst b
        go_enter Tryd.func88, Tryd.ntmps88
        go_wp2
        go_ret
        exact ⟨rfl, (Below.refl _ _).alloc (Nat.le_refl _) _⟩
      · have hv : isV 1 n true = false := by simp [isV, a, b]
        have a' : (n == 0) = false := by simpa using a
        have b' : (n == 1) = false := by simpa using b
        rw [hv]; clear hv a b
        go_enter Tryd.func88, Tryd.ntmps88
        go_wp2
        go_ret
        exact ⟨rfl, (Below.refl _ _).alloc (Nat.le_refl _) _⟩
  have h1' : (k == 1) = false := by simpa using h1
  by_cases h2 : k = 2
  · subst h2
    have hv : isV 2 n true = inB n := by simp [isV]
    rw [hv]; clear hv
    go_enter Tryd.func88, Tryd.ntmps88
    go_wp2_with (go_at_call 103; refine (inRange_any _ _).mono ?_; rintro e w' ⟨rfl, rfl⟩)
    go_ret
    exact ⟨rfl, (Below.refl _ _).alloc (Nat.le_refl _) _⟩
  have h2' : (k == 2) = false := by simpa using h2
  by_cases h3 : k = 3
  · subst h3
    by_cases a : 0 ≤ n
    · by_cases b : n ≤ 3652059
      · have hv : isV 3 n true = true := by simp [isV, a, b]
        rw [hv]; clear hv
        go_enter Tryd.func88, Tryd.ntmps88
        go_wp2
        go_ret
        exact ⟨rfl, (Below.refl _ _).alloc (Nat.le_refl _) _⟩
      · have hv : isV 3 n true = false := by simp [isV, a, b]
        rw [hv]; clear hv
        go_enter Tryd.func88, Tryd.ntmps88
        go_wp2
        go_ret
        exact ⟨rfl, (Below.refl _ _).alloc (Nat.le_refl _) _⟩
    · have hv : isV 3 n true = false := by simp [isV, a]
      rw [hv]; clear hv
      go_enter Tryd.func88, Tryd.ntmps88
      go_wp2
      go_ret
      exact ⟨rfl, (Below.refl _ _).alloc (Nat.le_refl _) _⟩
  have h3' : (k == 3) = false := by simpa using h3
  have hv : isV k n true = false := by simp [isV, hk, h0, h1, h2, h3]
  rw [hv]; clear hv hk h0 h1 h2 h3
  go_enter Tryd.func88, Tryd.ntmps88
  go_wp2
  go_ret
  exact ⟨rfl, (Below.refl _ _).alloc (Nat.le_refl _) _⟩

theorem bytes_none {s : ByteArray} (h : s.toList.isEmpty = true) : s = nos := by
  have h' : s.toList = [] := by simpa using h
  rw [Lib.toList_data] at h'
  cases s with | mk d => simp at h'; subst h'; rfl
theorem isValue_any (k n : Int) (s : ByteArray) (w : World) :
    Calls Tryd.prog 88 #[vv k n s] w fun e w' => e = .returned (.bool (isV k n s.toList.isEmpty)) ∧ Below w.heap.size w w' := by
  by_cases hk : k = 4
  · subst hk
    have hv : isV 4 n s.toList.isEmpty = decide (n = 0) := by simp [isV]
    rw [hv]; exact isValue_text n s w
  · cases hs : s.toList.isEmpty
    · have hv : isV k n false = false := by simp [isV, hk]
      rw [hv]; exact isValue_some k n s w hk hs
    · obtain rfl := bytes_none hs
      exact isValue_none k n w hk

/-- What Validate says. -/
def vE (k n : Int) (s : ByteArray) : Int := if 2048 < s.size then 3 else if isV k n s.toList.isEmpty = true then 0 else 1
theorem vE_cases (k n : Int) (s : ByteArray) : vE k n s = 0 ∨ vE k n s = 1 ∨ vE k n s = 3 := by
  unfold vE; repeat' split
  all_goals omega

set_option maxHeartbeats 400000 in
theorem validate_any (k n : Int) (s : ByteArray) (w : World) (hs : s.size ≤ maxLen) :
    Calls Tryd.prog 73 #[vv k n s] w fun e w' => e = .returned (.int .i64 (vE k n s)) ∧ Below w.heap.size w w' := by
  unfold maxLen at hs
  by_cases hl : 2048 < s.size
  · have hv : vE k n s = 3 := by simp [vE, hl]
    rw [hv]; clear hv
    go_enter Tryd.func73, Tryd.ntmps73
    go_wp2
    go_ret
    exact ⟨rfl, (Below.refl _ _).alloc (Nat.le_refl _) _⟩
  · cases hb : isV k n s.toList.isEmpty
    · have hv : vE k n s = 1 := by simp [vE, hl, hb]
      rw [hv]; clear hv
      have HB := Lib.hid hb; clear hb
      go_enter Tryd.func73, Tryd.ntmps73
      go_wp2_with fail
      refine (isValue_any _ _ _ _).mono ?_
      rintro e w' ⟨rfl, hb1⟩
      rw [HB.out]
      go_wp2_with fail
      go_ret
      exact ⟨rfl, ((Below.refl _ _).alloc (Nat.le_refl _) _).trans (hb1.mono (by simp))⟩
    · have hv : vE k n s = 0 := by simp [vE, hl, hb]
      rw [hv]; clear hv
      have HB := Lib.hid hb; clear hb
      go_enter Tryd.func73, Tryd.ntmps73
      go_wp2_with fail
      refine (isValue_any _ _ _ _).mono ?_
      rintro e w' ⟨rfl, hb1⟩
      rw [HB.out]
      go_wp2_with fail
      go_ret
      exact ⟨rfl, ((Below.refl _ _).alloc (Nat.le_refl _) _).trans (hb1.mono (by simp))⟩
end Go.Proofs.YtiddnacmopfamaaDoor
