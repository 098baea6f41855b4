/- One text out of these: KvA KvB KvC KvD. -/
import Derived.Test.YtiddnacmopfamaaDoorPgAll
import Derived.IntWalk
import Derived.WalkKit
import Derived.WalkSpells
import Derived.WalkLawsBesides
import Derived.Lib.Hide
import Derived.Lib.Strings
/- The walks of Validate, isValue, both of the program: which values there are. -/
namespace Go.Proofs.YtiddnacmopfamaaDoor
open Go.RowKit
set_option linter.unusedVariables false
set_option linter.unusedSimpArgs false

/-- A value as it is handed over. -/
abbrev vv (k n : Int) (s : ByteArray) : Value := .agg #[.int .i64 k, .int .i64 n, .string s]

theorem bcell {W w1 : World} (hb : Below W.heap.size W w1) : (∀ b o, b < W.heap.size → w1.cell? ⟨b, o, none⟩ = W.cell? ⟨b, o, none⟩) ∧ (∀ b o, b < W.heap.size → w1.frozen? ⟨b, o, none⟩ = W.frozen? ⟨b, o, none⟩) :=
  ⟨fun b o h => hb.cell (p := ⟨b, o, none⟩) h, fun b o h => hb.frozen (p := ⟨b, o, none⟩) h⟩

def inB (n : Int) : Bool := decide (-1000000000000000 ≤ n ∧ n ≤ 1000000000000000)
/-- Which kind and number are of a value without a text; of a text. -/
def isV (k n : Int) (e : Bool) : Bool :=
  if k = 4 then decide (n = 0) else if e = false then false else if k = 0 then decide (n = 0) else if k = 1 then decide (n = 0 ∨ n = 1) else if k = 2 then inB n
  else if k = 3 then decide (0 ≤ n ∧ n ≤ 3652059) else false

set_option maxHeartbeats 400000 in
theorem inRange_any (n : Int) (w : World) :
    Calls Tryd.prog 103 #[.int .i64 n] w fun e w' => e = .returned (.bool (inB n)) ∧ w = w' := by
  by_cases a : -1000000000000000 ≤ n
  · by_cases b : n ≤ 1000000000000000
    · have hv : inB n = true := by simp [inB]; omega
      rw [hv]; clear hv
      go_enter Tryd.func103, Tryd.ntmps103
      go_wp2
      go_ret
      exact ⟨rfl, rfl⟩
    · have hv : inB n = false := by simp [inB]; omega
      rw [hv]; clear hv
      go_enter Tryd.func103, Tryd.ntmps103
      go_wp2
      go_ret
      exact ⟨rfl, rfl⟩
  · have hv : inB n = false := by simp [inB]; omega
    rw [hv]; clear hv
    go_enter Tryd.func103, Tryd.ntmps103
    go_wp2
    go_ret
    exact ⟨rfl, rfl⟩

set_option maxHeartbeats 400000 in
theorem isValue_text (n : Int) (s : ByteArray) (w : World) :
    Calls Tryd.prog 88 #[vv 4 n s] w fun e w' => e = .returned (.bool (decide (n = 0))) ∧ Below w.heap.size w w' := by
  by_cases a : n = 0
  · subst a
    go_enter Tryd.func88, Tryd.ntmps88
    go_wp2
    go_ret
    exact ⟨rfl, (Below.refl _ _).alloc (Nat.le_refl _) _⟩
  · have hv : decide (n = 0) = false := by simpa using a
    have a' : (n == 0) = false := by simpa using a
    rw [hv]; clear hv a
    go_enter Tryd.func88, Tryd.ntmps88
    go_wp2
    go_ret
    exact ⟨rfl, (Below.refl _ _).alloc (Nat.le_refl _) _⟩

set_option maxHeartbeats 400000 in
theorem isValue_some (k n : Int) (s : ByteArray) (w : World) (hk : k ≠ 4) (hs : s.toList.isEmpty = false) :
    Calls Tryd.prog 88 #[vv k n s] w fun e w' => e = .returned (.bool false) ∧ Below w.heap.size w w' := by
  have hk' : (k == 4) = false := by simpa using hk
  clear hk
  go_enter Tryd.func88, Tryd.ntmps88
  go_wp2
  go_ret
  exact ⟨rfl, (Below.refl _ _).alloc (Nat.le_refl _) _⟩

abbrev nos : ByteArray := ⟨#[]⟩

set_option maxHeartbeats 1000000 in
theorem isValue_none (k n : Int) (w : World) (hk : k ≠ 4) :
    Calls Tryd.prog 88 #[vv k n nos] w fun e w' => e = .returned (.bool (isV k n true)) ∧ Below w.heap.size w w' := by
  have hk' : (k == 4) = false := by simpa using hk
  by_cases h0 : k = 0
  · subst h0
    by_cases a : n = 0
    · subst a
      go_enter Tryd.func88, Tryd.ntmps88
      go_wp2
      go_ret
      exact ⟨rfl, (Below.refl _ _).alloc (Nat.le_refl _) _⟩
    · have hv : isV 0 n true = false := by simp [isV, a]
      have a' : (n == 0) = false := by simpa using a
      rw [hv]; clear hv a
      go_enter Tryd.func88, Tryd.ntmps88
      go_wp2
      go_ret
      exact ⟨rfl, (Below.refl _ _).alloc (Nat.le_refl _) _⟩
  have h0' : (k == 0) = false := by simpa using h0
  by_cases h1 : k = 1
  · subst h1
    by_cases a : n = 0
    · subst a
      go_enter Tryd.func88, Tryd.ntmps88
      go_wp2
      go_ret
      exact ⟨rfl, (Below.refl _ _).alloc (Nat.le_refl _) _⟩
    · by_cases b : n = 1
      · subst b
        go_enter Tryd.func88, Tryd.ntmps88
        go_wp2
        go_ret
        exact ⟨rfl, (Below.refl _ _).alloc (Nat.le_refl _) _⟩
      · have hv : isV 1 n true = false := by simp [isV, a, b]
        have a' : (n == 0) = false := by simpa using a
        have b' : (n == 1) = false := by simpa using b
        rw [hv]; clear hv a b
        go_enter Tryd.func88, Tryd.ntmps88
        go_wp2
        go_ret
        exact ⟨rfl, (Below.refl _ _).alloc (Nat.le_refl _) _⟩
  have h1' : (k == 1) = false := by simpa using h1
  by_cases h2 : k = 2
  · subst h2
    have hv : isV 2 n true = inB n := by simp [isV]
    rw [hv]; clear hv
    go_enter Tryd.func88, Tryd.ntmps88
    go_wp2_with (go_at_call 103; refine (inRange_any _ _).mono ?_; rintro e w' ⟨rfl, rfl⟩)
    go_ret
    exact ⟨rfl, (Below.refl _ _).alloc (Nat.le_refl _) _⟩
  have h2' : (k == 2) = false := by simpa using h2
  by_cases h3 : k = 3
  · subst h3
    by_cases a : 0 ≤ n
    · by_cases b : n ≤ 3652059
      · have hv : isV 3 n true = true := by simp [isV, a, b]
        rw [hv]; clear hv
        go_enter Tryd.func88, Tryd.ntmps88
        go_wp2
        go_ret
        exact ⟨rfl, (Below.refl _ _).alloc (Nat.le_refl _) _⟩
      · have hv : isV 3 n true = false := by simp [isV, a, b]
        rw [hv]; clear hv
        go_enter Tryd.func88, Tryd.ntmps88
        go_wp2
        go_ret
        exact ⟨rfl, (Below.refl _ _).alloc (Nat.le_refl _) _⟩
    · have hv : isV 3 n true = false := by simp [isV, a]
      rw [hv]; clear hv
      go_enter Tryd.func88, Tryd.ntmps88
      go_wp2
      go_ret
      exact ⟨rfl, (Below.refl _ _).alloc (Nat.le_refl _) _⟩
  have h3' : (k == 3) = false := by simpa using h3
  have hv : isV k n true = false := by simp [isV, hk, h0, h1, h2, h3]
  rw [hv]; clear hv hk h0 h1 h2 h3
  go_enter Tryd.func88, Tryd.ntmps88
  go_wp2
  go_ret
  exact ⟨rfl, (Below.refl _ _).alloc (Nat.le_refl _) _⟩

theorem bytes_none {s : ByteArray} (h : s.toList.isEmpty = true) : s = nos := by
  have h' : s.toList = [] := by simpa using h
  rw [Lib.toList_data] at h'
  cases s with | mk d => simp at h'; subst h'; rfl
theorem isValue_any (k n : Int) (s : ByteArray) (w : World) :
    Calls Tryd.prog 88 #[vv k n s] w fun e w' => e = .returned (.bool (isV k n s.toList.isEmpty)) ∧ Below w.heap.size w w' := by
  by_cases hk : k = 4
  · subst hk
    have hv : isV 4 n s.toList.isEmpty = decide (n = 0) := by simp [isV]
    rw [hv]; exact isValue_text n s w
  · cases hs : s.toList.isEmpty
    · have hv : isV k n false = false := by simp [isV, hk]
      rw [hv]; exact isValue_some k n s w hk hs
    · obtain rfl := bytes_none hs
      exact isValue_none k n w hk

/-- What Validate says. -/
def vE (k n : Int) (s : ByteArray) : Int := if 2048 < s.size then 3 else if isV k n s.toList.isEmpty = true then 0 else 1
theorem vE_cases (k n : Int) (s : ByteArray) : vE k n s = 0 ∨ vE k n s = 1 ∨ vE k n s = 3 := by
  unfold vE; repeat' split
  all_goals omega

set_option maxHeartbeats 400000 in
theorem validate_any (k n : Int) (s : ByteArray) (w : World) (hs : s.size ≤ maxLen) :
    Calls Tryd.prog 73 #[vv k n s] w fun e w' => e = .returned (.int .i64 (vE k n s)) ∧ Below w.heap.size w w' := by
  unfold maxLen at hs
  by_cases hl : 2048 < s.size
  · have hv : vE k n s = 3 := by simp [vE, hl]
    rw [hv]; clear hv
    go_enter Tryd.func73, Tryd.ntmps73
    go_wp2
    go_ret
    exact ⟨rfl, (Below.refl _ _).alloc (Nat.le_refl _) _⟩
  · cases hb : isV k n s.toList.isEmpty
    · have hv : vE k n s = 1 := by simp [vE, hl, hb]
      rw [hv]; clear hv
      have HB := Lib.hid hb; clear hb
      go_enter Tryd.func73, Tryd.ntmps73
      go_wp2_with fail
      refine (isValue_any _ _ _ _).mono ?_
      rintro e w' ⟨rfl, hb1⟩
      rw [HB.out]
      go_wp2_with fail
      go_ret
      exact ⟨rfl, ((Below.refl _ _).alloc (Nat.le_refl _) _).trans (hb1.mono (by simp))⟩
    · have hv : vE k n s = 0 := by simp [vE, hl, hb]
      rw [hv]; clear hv
      have HB := Lib.hid hb; clear hb
      go_enter Tryd.func73, Tryd.ntmps73
      go_wp2_with fail
      refine (isValue_any _ _ _ _).mono ?_
      rintro e w' ⟨rfl, hb1⟩
      rw [HB.out]
      go_wp2_with fail
      go_ret
      exact ⟨rfl, ((Below.refl _ _).alloc (Nat.le_refl _) _).trans (hb1.mono (by simp))⟩
end Go.Proofs.YtiddnacmopfamaaDoor

/- The walks of Validate and Both of the reference. -/
namespace Go.Proofs.YtiddnacmopfamaaDoor
open Go.RowKit
set_option linter.unusedVariables false
set_option linter.unusedSimpArgs false

theorem refInNum_any (n : Int) (w : World) :
    Calls Tryd.prog 58 #[.int .i64 n] w fun e w' => e = .returned (.bool (inB n)) ∧ w = w' := by
  by_cases a : -1000000000000000 ≤ n
  · by_cases b : n ≤ 1000000000000000
    · have hv : inB n = true := by simp [inB]; omega
      rw [hv]; clear hv
      go_enter Tryd.func58, Tryd.ntmps58
      go_wp2
      go_ret
      exact ⟨rfl, rfl⟩
    · have hv : inB n = false := by simp [inB]; omega
      rw [hv]; clear hv
      go_enter Tryd.func58, Tryd.ntmps58
      go_wp2
      go_ret
      exact ⟨rfl, rfl⟩
  · have hv : inB n = false := by simp [inB]; omega
    rw [hv]; clear hv
    go_enter Tryd.func58, Tryd.ntmps58
    go_wp2
    go_ret
    exact ⟨rfl, rfl⟩

/-- The reference's road: 'ok' of a kind, then the text. -/
theorem vE_mk (k n : Int) (s : ByteArray) (ok : Bool) (hl : ¬ 2048 < s.size) (h : isV k n s.toList.isEmpty = (ok && (decide (k = 4) || s.toList.isEmpty))) :
    vE k n s = if (ok && (decide (k = 4) || s.toList.isEmpty)) = true then 0 else 1 := by
  unfold vE; rw [if_neg hl, h]

set_option maxHeartbeats 4000000 in
theorem refValidate_any (k n : Int) (s : ByteArray) (w : World) (hs : s.size ≤ maxLen) :
    Calls Tryd.prog 22 #[vv k n s] w fun e w' => e = .returned (.int .i64 (vE k n s)) ∧ Below w.heap.size w w' := by
  unfold maxLen at hs
  by_cases hl : 2048 < s.size
  · have hv : vE k n s = 3 := by simp [vE, hl]
    rw [hv]; clear hv
    go_enter Tryd.func22, Tryd.ntmps22
    go_wp2
    go_ret
    exact ⟨rfl, (Below.refl _ _).alloc (Nat.le_refl _) _⟩
  have bel : ∀ w : World, ∀ o, Below w.heap.size w (w.alloc o) := fun w o => (Below.refl _ _).alloc (Nat.le_refl _) _
  by_cases h4 : k = 4
  · subst h4
    cases a : n == 0
    · have hv : vE 4 n s = 1 := by simp at a; simp [vE, hl, isV, a]
      rw [hv]; clear hv
      go_enter Tryd.func22, Tryd.ntmps22
      go_wp2
      go_ret
      exact ⟨rfl, bel _ _⟩
    · have hv : vE 4 n s = 0 := by simp at a; simp [vE, hl, isV, a]
      rw [hv]; clear hv
      go_enter Tryd.func22, Tryd.ntmps22
      go_wp2
      go_ret
      exact ⟨rfl, bel _ _⟩
  have h4' : (k == 4) = false := by simpa using h4
  cases he : s.toList.isEmpty
  · have hv : vE k n s = 1 := by simp [vE, hl, isV, h4, he]
    rw [hv]; clear hv
    by_cases h0 : k = 0
    · subst h0
      go_enter Tryd.func22, Tryd.ntmps22
      go_wp2
      all_goals go_ret
      all_goals exact ⟨rfl, bel _ _⟩
    have h0' : (k == 0) = false := by simpa using h0
    by_cases h1 : k = 1
    · subst h1
      go_enter Tryd.func22, Tryd.ntmps22
      go_wp2
      all_goals go_ret
      all_goals exact ⟨rfl, bel _ _⟩
    have h1' : (k == 1) = false := by simpa using h1
    by_cases h2 : k = 2
    · subst h2
      cases hi : inB n
      · have HI := Lib.hid hi; clear hi
        go_enter Tryd.func22, Tryd.ntmps22
        go_wp2_with fail
        refine (refInNum_any _ _).mono ?_
        rintro e w' ⟨rfl, rfl⟩
        rw [HI.out]
        go_wp2
        all_goals go_ret
        all_goals exact ⟨rfl, bel _ _⟩
      · have HI := Lib.hid hi; clear hi
        go_enter Tryd.func22, Tryd.ntmps22
        go_wp2_with fail
        refine (refInNum_any _ _).mono ?_
        rintro e w' ⟨rfl, rfl⟩
        rw [HI.out]
        go_wp2
        all_goals go_ret
        all_goals exact ⟨rfl, bel _ _⟩
    have h2' : (k == 2) = false := by simpa using h2
    by_cases h3 : k = 3
    · subst h3
      go_enter Tryd.func22, Tryd.ntmps22
      go_wp2
      all_goals go_ret
      all_goals exact ⟨rfl, bel _ _⟩
    have h3' : (k == 3) = false := by simpa using h3
    clear h0 h1 h2 h3 h4
    go_enter Tryd.func22, Tryd.ntmps22
    go_wp2
    all_goals go_ret
    all_goals exact ⟨rfl, bel _ _⟩
  · by_cases h0 : k = 0
    · subst h0
      cases a : n == 0
      · have hv : vE 0 n s = 1 := by simp at a; simp [vE, hl, isV, he, a]
        rw [hv]; clear hv
        go_enter Tryd.func22, Tryd.ntmps22
        go_wp2
        go_ret
        exact ⟨rfl, bel _ _⟩
      · have hv : vE 0 n s = 0 := by simp at a; simp [vE, hl, isV, he, a]
        rw [hv]; clear hv
        go_enter Tryd.func22, Tryd.ntmps22
        go_wp2
        go_ret
        exact ⟨rfl, bel _ _⟩
    have h0' : (k == 0) = false := by simpa using h0
    by_cases h1 : k = 1
    · subst h1
      cases a : n == 0
      · cases b : n == 1
        · have hv : vE 1 n s = 1 := by simp at a b; simp [vE, hl, isV, he, a, b]
          rw [hv]; clear hv
          go_enter Tryd.func22, Tryd.ntmps22
          go_wp2
          go_ret
          exact ⟨rfl, bel _ _⟩
        · have hv : vE 1 n s = 0 := by simp at a b; simp [vE, hl, isV, he, a, b]
          rw [hv]; clear hv
          go_enter Tryd.func22, Tryd.ntmps22
          go_wp2
          go_ret
          exact ⟨rfl, bel _ _⟩
      · have hv : vE 1 n s = 0 := by simp at a; simp [vE, hl, isV, he, a]
        rw [hv]; clear hv
        go_enter Tryd.func22, Tryd.ntmps22
        go_wp2
        go_ret
        exact ⟨rfl, bel _ _⟩
    have h1' : (k == 1) = false := by simpa using h1
    by_cases h2 : k = 2
    · subst h2
      cases hi : inB n
      · have hv : vE 2 n s = 1 := by simp [vE, hl, isV, he, hi]
        rw [hv]; clear hv
        have HI := Lib.hid hi; clear hi
        go_enter Tryd.func22, Tryd.ntmps22
        go_wp2_with fail
        refine (refInNum_any _ _).mono ?_
        rintro e w' ⟨rfl, rfl⟩
        rw [HI.out]
        go_wp2
        go_ret
        exact ⟨rfl, bel _ _⟩
      · have hv : vE 2 n s = 0 := by simp [vE, hl, isV, he, hi]
        rw [hv]; clear hv
        have HI := Lib.hid hi; clear hi
        go_enter Tryd.func22, Tryd.ntmps22
        go_wp2_with fail
        refine (refInNum_any _ _).mono ?_
        rintro e w' ⟨rfl, rfl⟩
        rw [HI.out]
        go_wp2
        go_ret
        exact ⟨rfl, bel _ _⟩
    have h2' : (k == 2) = false := by simpa using h2
    by_cases h3 : k = 3
    · subst h3
      by_cases a : 0 ≤ n
      · by_cases b : n ≤ 3652059
        · have hv : vE 3 n s = 0 := by simp [vE, hl, isV, he, a, b]
          rw [hv]; clear hv
          go_enter Tryd.func22, Tryd.ntmps22
          go_wp2
          go_ret
          exact ⟨rfl, bel _ _⟩
        · have hv : vE 3 n s = 1 := by simp [vE, hl, isV, he, a, b]
          rw [hv]; clear hv
          go_enter Tryd.func22, Tryd.ntmps22
          go_wp2
          go_ret
          exact ⟨rfl, bel _ _⟩
      · have hv : vE 3 n s = 1 := by simp [vE, hl, isV, he, a]
        rw [hv]; clear hv
        go_enter Tryd.func22, Tryd.ntmps22
        go_wp2
        go_ret
        exact ⟨rfl, bel _ _⟩
    have h3' : (k == 3) = false := by simpa using h3
    have hv : vE k n s = 1 := by simp [vE, hl, isV, he, h0, h1, h2, h3, h4]
    rw [hv]; clear hv h0 h1 h2 h3 h4
    go_enter Tryd.func22, Tryd.ntmps22
    go_wp2
    go_ret
    exact ⟨rfl, bel _ _⟩

set_option maxHeartbeats 400000 in
theorem refBoth_any (k n : Int) (s : ByteArray) (k' n' : Int) (s' : ByteArray) (w : World) (hs : s.size ≤ maxLen) (hs' : s'.size ≤ maxLen) :
    Calls Tryd.prog 59 #[vv k n s, vv k' n' s'] w fun e w' => e = .returned (.int .i64 (if vE k n s = 0 then vE k' n' s' else vE k n s)) ∧ Below w.heap.size w w' := by
  by_cases h : vE k n s = 0
  · rw [if_pos h]
    have hb : (vE k n s != 0) = false := by simp [h]
    clear h
    have HB := Lib.hid hb; clear hb
    go_enter Tryd.func59, Tryd.ntmps59
    go_wp2_with fail
    refine (refValidate_any _ _ _ _ hs).mono ?_
    rintro e w1 ⟨rfl, hb1⟩
    obtain ⟨hc, hf⟩ := bcell hb1
    have HB' := HB.out
    go_wp2_with fail
    refine (refValidate_any _ _ _ _ hs').mono ?_
    rintro e w2 ⟨rfl, hb2⟩
    go_wp2_with fail
    go_ret
    exact ⟨rfl, ((((Below.refl _ _).alloc (Nat.le_refl _) _).alloc (by simp) _).trans (hb1.mono (by simp; omega))).trans (hb2.mono (by have := hb1.size; simp at this; omega))⟩
  · rw [if_neg h]
    have hb : (vE k n s != 0) = true := by simp [h]
    clear h
    have HB := Lib.hid hb; clear hb
    go_enter Tryd.func59, Tryd.ntmps59
    go_wp2_with fail
    refine (refValidate_any _ _ _ _ hs).mono ?_
    rintro e w1 ⟨rfl, hb1⟩
    have HB' := HB.out
    go_wp2_with fail
    go_ret
    exact ⟨rfl, (((Below.refl _ _).alloc (Nat.le_refl _) _).alloc (by simp) _).trans (hb1.mono (by simp; omega))⟩
end Go.Proofs.YtiddnacmopfamaaDoor

/- The walks of Compare of the program and of the reference. -/
namespace Go.Proofs.YtiddnacmopfamaaDoor
open Go.RowKit
set_option linter.unusedVariables false
set_option linter.unusedSimpArgs false

theorem vbyte_at (s : ByteArray) (k : Nat) (hk : k < s.size) : s.data.toList[k]? = some (s[k]'hk) := by
  rw [List.getElem?_eq_getElem (by exact hk)]; rfl
theorem u8_yes (b : UInt8) (n : UInt8) (h : ((b.toNat : Int) == (n.toNat : Int)) = true) : b = n := by
  have : (b.toNat : Int) = n.toNat := by simpa using h
  exact UInt8.toNat_inj.1 (by omega)
theorem u8_no (b : UInt8) (n : UInt8) (h : ((b.toNat : Int) == (n.toNat : Int)) = false) : b ≠ n := by
  rintro rfl; simp at h

def cmpI (a b : Int) : Int := if a < b then -1 else if b < a then 1 else 0
def bothE (k n : Int) (s : ByteArray) (k' n' : Int) (s' : ByteArray) : Int := if vE k n s = 0 then vE k' n' s' else vE k n s
def cmpE (k n : Int) (s : ByteArray) (k' n' : Int) (s' : ByteArray) : Int := if bothE k n s k' n' s' = 0 then (if k = k' ∧ k ≠ 0 then 0 else 6) else bothE k n s k' n' s'
def cmpR (k n : Int) (s : ByteArray) (k' n' : Int) (s' : ByteArray) : Int :=
  if bothE k n s k' n' s' = 0 ∧ k = k' ∧ k ≠ 0 then (if k = 4 then Lib.compareBytes s.data.toList s'.data.toList else cmpI n n') else 0

theorem cmpInts_any (a b : Int) (w : World) :
    Calls Tryd.prog 25 #[.int .i64 a, .int .i64 b] w fun e w' => e = .returned (.int .i64 (cmpI a b)) ∧ w = w' := by
  by_cases h : a < b
  · have hv : cmpI a b = -1 := by simp [cmpI, h]
    rw [hv]; clear hv
    go_enter Tryd.func25, Tryd.ntmps25
    go_wp2
    go_ret
    exact ⟨rfl, rfl⟩
  · by_cases h2 : b < a
    · have hv : cmpI a b = 1 := by simp [cmpI, h, h2]
      rw [hv]; clear hv
      go_enter Tryd.func25, Tryd.ntmps25
      go_wp2
      go_ret
      exact ⟨rfl, rfl⟩
    · have hv : cmpI a b = 0 := by simp [cmpI, h, h2]
      rw [hv]; clear hv
      go_enter Tryd.func25, Tryd.ntmps25
      go_wp2
      go_ret
      exact ⟨rfl, rfl⟩

theorem cmp_nil (b : List UInt8) : Lib.compareBytes [] b = cmpI 0 b.length := by
  cases b with
  | nil => rfl
  | cons x xs =>
    simp only [Lib.compareBytes, cmpI, List.length_cons]
    rw [if_pos (by omega)]
theorem cmp_nil' (a : List UInt8) : Lib.compareBytes a [] = cmpI a.length 0 := by
  cases a with
  | nil => rfl
  | cons x xs =>
    simp only [Lib.compareBytes, cmpI, List.length_cons]
    rw [if_neg (by omega), if_pos (by omega)]
/-- Behind k equal bytes. -/
theorem cmp_at (a b : List UInt8) : ∀ (k : Nat), (∀ j, j < k → a[j]? = b[j]?) → Lib.compareBytes a b = Lib.compareBytes (a.drop k) (b.drop k) := by
  intro k
  induction k generalizing a b with
  | zero => intro _; simp
  | succ k ih =>
    intro h
    cases a with
    | nil =>
      cases b with
      | nil => simp
      | cons y ys => have := h 0 (by omega); simp at this
    | cons x xs =>
      cases b with
      | nil => have := h 0 (by omega); simp at this
      | cons y ys =>
        have h0 := h 0 (by omega)
        simp at h0
        subst h0
        have := ih xs ys (fun j hj => by have := h (j + 1) (by omega); simpa using this)
        simp only [Lib.compareBytes, List.drop_succ_cons]
        rw [if_neg (by simp), if_neg (by simp)]
        exact this

/-- Where the first k bytes are the same and one of the two has no more. -/
theorem cmp_end (a b : ByteArray) (k : Nat) (hk : k ≤ a.size) (hk' : k ≤ b.size) (he : k = a.size ∨ k = b.size) (h : ∀ j : Nat, j < k → a.data.toList[j]? = b.data.toList[j]?) :
    Lib.compareBytes a.data.toList b.data.toList = cmpI a.size b.size := by
  have hla : a.data.toList.length = a.size := rfl
  have hlb : b.data.toList.length = b.size := rfl
  rw [cmp_at _ _ k h]
  rcases he with he | he
  · rw [List.drop_eq_nil_of_le (by omega : a.data.toList.length ≤ k), cmp_nil, List.length_drop, hlb]
    unfold cmpI; (repeat' split) <;> omega
  · rw [List.drop_eq_nil_of_le (by omega : b.data.toList.length ≤ k), cmp_nil', List.length_drop, hla]
    unfold cmpI; (repeat' split) <;> omega
theorem cmp_differ (a b : ByteArray) (k : Nat) (hk : k < a.size) (hk' : k < b.size) (h : ∀ j : Nat, j < k → a.data.toList[j]? = b.data.toList[j]?) (hq : a[k] ≠ b[k]) :
    Lib.compareBytes a.data.toList b.data.toList = cmpI a[k].toNat b[k].toNat := by
  have ea : a.data.toList.drop k = a[k] :: a.data.toList.drop (k + 1) := List.drop_eq_getElem_cons (by exact hk)
  have eb : b.data.toList.drop k = b[k] :: b.data.toList.drop (k + 1) := List.drop_eq_getElem_cons (by exact hk')
  rw [cmp_at _ _ k h, ea, eb]
  have hne : a[k].toNat ≠ b[k].toNat := fun e => hq (UInt8.toNat_inj.1 e)
  simp only [Lib.compareBytes, cmpI, UInt8.lt_iff_toNat_lt]
  by_cases hlt : a[k].toNat < b[k].toNat
  · rw [if_pos hlt, if_pos (by omega)]
  · rw [if_neg hlt, if_pos (by omega), if_neg (by omega), if_pos (by omega)]
set_option maxHeartbeats 1000000 in
theorem cmpTexts_any (a b : ByteArray) (w : World) (ha : a.size ≤ maxLen) (hb : b.size ≤ maxLen) :
    Calls Tryd.prog 27 #[.string a, .string b] w fun e w' => e = .returned (.int .i64 (Lib.compareBytes a.data.toList b.data.toList)) ∧ Below w.heap.size w w' := by
  unfold maxLen at ha hb
  generalize hv : Lib.compareBytes a.data.toList b.data.toList = v
  have HV := Lib.hid hv; clear hv
  go_enter Tryd.func27, Tryd.ntmps27
  go_wp2
  go_loopw [5] (fun t wr => ∃ k : Nat, k ≤ a.size ∧ k ≤ b.size ∧ t = .int .i64 k ∧ Hid (∀ j : Nat, j < k → a.data.toList[j]? = b.data.toList[j]?) ∧ Below w.heap.size w wr) (fun t _ => a.size - (intOf t).toNat)
  case atStart => exact ⟨0, by omega, by omega, rfl, Lib.hid (fun j h => by omega), Below.refl _ _⟩
  case round =>
    obtain ⟨k, hk, hk', rfl, HA, hbw⟩ := hrel
    have i1 : 0 ≤ (k : Int) := by omega
    by_cases h1 : k < a.size
    · by_cases h2 : k < b.size
      · have i2 : (k : Int) < a.size := by omega
        have i3 : (k : Int) < b.size := by omega
        cases hq : ((a[k]'h1).toNat : Int) != (b[k]'h2).toNat
        · go_wp2
          go_region
          all_goals go_wp2
          go_roundw
          case rel =>
            refine ⟨k + 1, by omega, by omega, by go_num, Lib.hid (fun j hj => ?_), hbw.drew⟩
            rcases Nat.lt_or_ge j k with q | q
            · exact HA.out j q
            · have : j = k := by omega
              subst this
              rw [vbyte_at a j h1, vbyte_at b j h2]
              have := u8_yes a[j] b[j] (by simpa using hq)
              rw [this]
          case measure => simp [intOf]; omega
        · have hd := cmp_differ a b k h1 h2 HA.out (u8_no _ _ (by simpa using hq))
          have HD := Lib.hid hd; clear hd
          have wa : IntKind.i64.wrap ((a[k]'h1).toNat : Int) = (a[k]'h1).toNat := IntWalk.i64_in _ (by have := UInt8.toNat_lt (a[k]'h1); omega)
          have wb : IntKind.i64.wrap ((b[k]'h2).toNat : Int) = (b[k]'h2).toNat := IntWalk.i64_in _ (by have := UInt8.toNat_lt (b[k]'h2); omega)
          go_wp2
          go_region
          all_goals go_wp2
          go_region_with (go_at_call 25; refine (cmpInts_any _ _ _).mono ?_; rintro e w' ⟨rfl, rfl⟩)
          all_goals go_wp2
          all_goals go_ret
          all_goals refine ⟨by rw [← HV.out, HD.out]; rfl, ?_⟩
          all_goals repeat (first | (with_reducible exact hbw) | (with_reducible refine Below.drew ?_))
      · have i3 : ¬ (k : Int) < b.size := by omega
        have hd := cmp_end a b k hk hk' (by omega) HA.out
        have HD := Lib.hid hd; clear hd
        go_wp2_with fail
        refine (cmpInts_any _ _ _).mono ?_
        rintro e w' ⟨rfl, rfl⟩
        go_wp2_with fail
        go_ret
        refine ⟨?_, hbw⟩
        rw [← HV.out, HD.out]; rfl
    · have i2 : ¬ (k : Int) < a.size := by omega
      have hd := cmp_end a b k hk hk' (by omega) HA.out
      have HD := Lib.hid hd; clear hd
      go_wp2_with fail
      refine (cmpInts_any _ _ _).mono ?_
      rintro e w' ⟨rfl, rfl⟩
      go_wp2_with fail
      go_ret
      refine ⟨?_, hbw⟩
      rw [← HV.out, HD.out]; rfl

end Go.Proofs.YtiddnacmopfamaaDoor

/- The walk of SameValue of the reference, for a value and itself. -/
namespace Go.Proofs.YtiddnacmopfamaaDoor
open Go.RowKit
set_option linter.unusedVariables false
set_option linter.unusedSimpArgs false

set_option maxHeartbeats 1000000 in
theorem Same_self (k n : Int) (s : ByteArray) (w : World) :
    Calls Tryd.prog 20 #[vv k n s, vv k n s] w fun e w' => e = .returned (.bool true) ∧ Below w.heap.size w w' := by
  have q1 : (k == k) = true := by simp
  have q2 : (n == n) = true := by simp
  have q3 : (s.toList == s.toList) = true := by simp
  go_enter Tryd.func20, Tryd.ntmps20
  go_wp2
  go_ret
  exact ⟨rfl, ((Below.refl _ _).alloc (Nat.le_refl _) _).alloc (by simp) _⟩
end Go.Proofs.YtiddnacmopfamaaDoor
