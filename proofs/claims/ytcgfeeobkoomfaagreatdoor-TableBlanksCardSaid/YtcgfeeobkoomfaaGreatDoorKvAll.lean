/- One text out of these: KvA KvB KvC KvD. -/
import Derived.Test.YtcgfeeobkoomfaaGreatDoorTbB
import Derived.BigQuiet
import Derived.IntWalk
import Derived.WalkKit
import Derived.WalkSpells
import Derived.WalkLawsBesides
import Derived.Lib.Hide
import Derived.Lib.Strings
/- The walks of Validate, isValue, both of the program: which values there are. -/
namespace Go.Proofs.YtcgfeeobkoomfaaGreatDoor
open Go.RowKit
set_option linter.unusedVariables false
set_option linter.unusedSimpArgs false

/-- A value as it is handed over. -/
abbrev vv (k n : Int) (s : ByteArray) : Value := .agg #[.int .i64 k, .int .i64 n, .string s]

theorem bcell {W w1 : World} (hb : Below W.heap.size W w1) : (∀ b o, b < W.heap.size → w1.cell? ⟨b, o, none⟩ = W.cell? ⟨b, o, none⟩) ∧ (∀ b o, b < W.heap.size → w1.frozen? ⟨b, o, none⟩ = W.frozen? ⟨b, o, none⟩) :=
  ⟨fun b o h => hb.cell (p := ⟨b, o, none⟩) h, fun b o h => hb.frozen (p := ⟨b, o, none⟩) h⟩

def inB (n : Int) : Bool := decide (-1000000000000000 ≤ n ∧ n ≤ 1000000000000000)
/-- Which kind and number are of a value without a text; of a text. -/
def isV (k n : Int) (e : Bool) : Bool :=
  if k = 4 then decide (n = 0) else if e = false then false else if k = 0 then decide (n = 0) else if k = 1 then decide (n = 0 ∨ n = 1) else if k = 2 then inB n
  else if k = 3 then decide (0 ≤ n ∧ n ≤ 3652059) else false

set_option maxHeartbeats 400000 in
theorem inRange_any (n : Int) (w : World) :
    Calls Tryz.prog 134 #[.int .i64 n] w fun e w' => e = .returned (.bool (inB n)) ∧ w = w' := by
  by_cases a : -1000000000000000 ≤ n
  · by_cases b : n ≤ 1000000000000000
    · have hv : inB n = true := by simp [inB]; omega
      rw [hv]; clear hv
      go_enter Tryz.func134, Tryz.ntmps134
      go_wp2
      go_ret
      exact ⟨rfl, rfl⟩
    · have hv : inB n = false := by simp [inB]; omega
      rw [hv]; clear hv
      go_enter Tryz.func134, Tryz.ntmps134
      go_wp2
      go_ret
      exact ⟨rfl, rfl⟩
  · have hv : inB n = false := by simp [inB]; omega
    rw [hv]; clear hv
    go_enter Tryz.func134, Tryz.ntmps134
    go_wp2
    go_ret
    exact ⟨rfl, rfl⟩

set_option maxHeartbeats 400000 in
theorem isValue_text (n : Int) (s : ByteArray) (w : World) :
    Calls Tryz.prog 101 #[vv 4 n s] w fun e w' => e = .returned (.bool (decide (n = 0))) ∧ Below w.heap.size w w' := by
  by_cases a : n = 0
  · subst a
    go_enter Tryz.func101, Tryz.ntmps101
    go_wp2
    go_ret
    exact ⟨rfl, (Below.refl _ _).alloc (Nat.le_refl _) _⟩
  · have hv : decide (n = 0) = false := by simpa using a
    have a' : (n == 0) = false := by simpa using a
    rw [hv]; clear hv a
    go_enter Tryz.func101, Tryz.ntmps101
    go_wp2
    go_ret
    exact ⟨rfl, (Below.refl _ _).alloc (Nat.le_refl _) _⟩

set_option maxHeartbeats 400000 in
theorem isValue_some (k n : Int) (s : ByteArray) (w : World) (hk : k ≠ 4) (hs : s.toList.isEmpty = false) :
    Calls Tryz.prog 101 #[vv k n s] w fun e w' => e = .returned (.bool false) ∧ Below w.heap.size w w' := by
  have hk' : (k == 4) = false := by simpa using hk
  clear hk
  go_enter Tryz.func101, Tryz.ntmps101
  go_wp2
  go_ret
  exact ⟨rfl, (Below.refl _ _).alloc (Nat.le_refl _) _⟩

abbrev nos : ByteArray := ⟨#[]⟩

set_option maxHeartbeats 1000000 in
theorem isValue_none (k n : Int) (w : World) (hk : k ≠ 4) :
    Calls Tryz.prog 101 #[vv k n nos] w fun e w' => e = .returned (.bool (isV k n true)) ∧ Below w.heap.size w w' := by
  have hk' : (k == 4) = false := by simpa using hk
  by_cases h0 : k = 0
  · subst h0
    by_cases a : n = 0
    · subst a
      go_enter Tryz.func101, Tryz.ntmps101
      go_wp2
      go_ret
      exact ⟨rfl, (Below.refl _ _).alloc (Nat.le_refl _) _⟩
    · have hv : isV 0 n true = false := by simp [isV, a]
      have a' : (n == 0) = false := by simpa using a
      rw [hv]; clear hv a
      go_enter Tryz.func101, Tryz.ntmps101
      go_wp2
      go_ret
      exact ⟨rfl, (Below.refl _ _).alloc (Nat.le_refl _) _⟩
  have h0' : (k == 0) = false := by simpa using h0
  by_cases h1 : k = 1
  · subst h1
    by_cases a : n = 0
    · subst a
      go_enter Tryz.func101, Tryz.ntmps101
      go_wp2
      go_ret
      exact ⟨rfl, (Below.refl _ _).alloc (Nat.le_refl _) _⟩
    · by_cases b : n = 1
      · subst b
        go_enter Tryz.func101, Tryz.ntmps101
        go_wp2
        go_ret
        exact ⟨rfl, (Below.refl _ _).alloc (Nat.le_refl _) _⟩
      · have hv : isV 1 n true = false := by simp [isV, a, b]
        have a' : (n == 0) = false := by simpa using a
        have b' : (n == 1) = false := by simpa using b
        rw [hv]; clear hv a b
        go_enter Tryz.func101, Tryz.ntmps101
        go_wp2
        go_ret
        exact ⟨rfl, (Below.refl _ _).alloc (Nat.le_refl _) _⟩
  have h1' : (k == 1) = false := by simpa using h1
  by_cases h2 : k = 2
  · subst h2
    have hv : isV 2 n true = inB n := by simp [isV]
    rw [hv]; clear hv
    go_enter Tryz.func101, Tryz.ntmps101
    go_wp2_with (go_at_call 134; refine (inRange_any _ _).mono ?_; rintro e w' ⟨rfl, rfl⟩)
    go_ret
    exact ⟨rfl, (Below.refl _ _).alloc (Nat.le_refl _) _⟩
  have h2' : (k == 2) = false := by simpa using h2
  by_cases h3 : k = 3
  · subst h3
    by_cases a : 0 ≤ n
    · by_cases b : n ≤ 3652059
      · have hv : isV 3 n true = true := by simp [isV, a, b]
        rw [hv]; clear hv
        go_enter Tryz.func101, Tryz.ntmps101
        go_wp2
        go_ret
        exact ⟨rfl, (Below.refl _ _).alloc (Nat.le_refl _) _⟩
      · have hv : isV 3 n true = false := by simp [isV, a, b]
        rw [hv]; clear hv
        go_enter Tryz.func101, Tryz.ntmps101
        go_wp2
        go_ret
        exact ⟨rfl, (Below.refl _ _).alloc (Nat.le_refl _) _⟩
    · have hv : isV 3 n true = false := by simp [isV, a]
      rw [hv]; clear hv
      go_enter Tryz.func101, Tryz.ntmps101
      go_wp2
      go_ret
      exact ⟨rfl, (Below.refl _ _).alloc (Nat.le_refl _) _⟩
  have h3' : (k == 3) = false := by simpa using h3
  have hv : isV k n true = false := by simp [isV, hk, h0, h1, h2, h3]
  rw [hv]; clear hv hk h0 h1 h2 h3
  go_enter Tryz.func101, Tryz.ntmps101
  go_wp2
  go_ret
  exact ⟨rfl, (Below.refl _ _).alloc (Nat.le_refl _) _⟩

theorem bytes_none {s : ByteArray} (h : s.toList.isEmpty = true) : s = nos := by
  have h' : s.toList = [] := by simpa using h
  rw [Lib.toList_data] at h'
  cases s with | mk d => simp at h'; subst h'; rfl
theorem isValue_any (k n : Int) (s : ByteArray) (w : World) :
    Calls Tryz.prog 101 #[vv k n s] w fun e w' => e = .returned (.bool (isV k n s.toList.isEmpty)) ∧ Below w.heap.size w w' := by
  by_cases hk : k = 4
  · subst hk
    have hv : isV 4 n s.toList.isEmpty = decide (n = 0) := by simp [isV]
    rw [hv]; exact isValue_text n s w
  · cases hs : s.toList.isEmpty
    · have hv : isV k n false = false := by simp [isV, hk]
      rw [hv]; exact isValue_some k n s w hk hs
    · obtain rfl := bytes_none hs
      exact isValue_none k n w hk

/-- What Validate says. -/
def vE (k n : Int) (s : ByteArray) : Int := if 2048 < s.size then 3 else if isV k n s.toList.isEmpty = true then 0 else 1
theorem vE_cases (k n : Int) (s : ByteArray) : vE k n s = 0 ∨ vE k n s = 1 ∨ vE k n s = 3 := by
  unfold vE; repeat' split
  all_goals omega

set_option maxHeartbeats 400000 in
theorem validate_any (k n : Int) (s : ByteArray) (w : World) (hs : s.size ≤ maxLen) :
    Calls Tryz.prog 69 #[vv k n s] w fun e w' => e = .returned (.int .i64 (vE k n s)) ∧ Below w.heap.size w w' := by
  unfold maxLen at hs
  by_cases hl : 2048 < s.size
  · have hv : vE k n s = 3 := by simp [vE, hl]
    rw [hv]; clear hv
    go_enter Tryz.func69, Tryz.ntmps69
    go_wp2
    go_ret
    exact ⟨rfl, (Below.refl _ _).alloc (Nat.le_refl _) _⟩
  · cases hb : isV k n s.toList.isEmpty
    · have hv : vE k n s = 1 := by simp [vE, hl, hb]
      rw [hv]; clear hv
      have HB := Lib.hid hb; clear hb
      go_enter Tryz.func69, Tryz.ntmps69
      go_wp2_with fail
      refine (isValue_any _ _ _ _).mono ?_
      rintro e w' ⟨rfl, hb1⟩
      rw [HB.out]
      go_wp2_with fail
      go_ret
      exact ⟨rfl, ((Below.refl _ _).alloc (Nat.le_refl _) _).trans (hb1.mono (by simp))⟩
    · have hv : vE k n s = 0 := by simp [vE, hl, hb]
      rw [hv]; clear hv
      have HB := Lib.hid hb; clear hb
      go_enter Tryz.func69, Tryz.ntmps69
      go_wp2_with fail
      refine (isValue_any _ _ _ _).mono ?_
      rintro e w' ⟨rfl, hb1⟩
      rw [HB.out]
      go_wp2_with fail
      go_ret
      exact ⟨rfl, ((Below.refl _ _).alloc (Nat.le_refl _) _).trans (hb1.mono (by simp))⟩
end Go.Proofs.YtcgfeeobkoomfaaGreatDoor

/- The walks of Validate and Both of the reference. -/
namespace Go.Proofs.YtcgfeeobkoomfaaGreatDoor
open Go.RowKit
set_option linter.unusedVariables false
set_option linter.unusedSimpArgs false

theorem refInNum_any (n : Int) (w : World) :
    Calls Tryz.prog 106 #[.int .i64 n] w fun e w' => e = .returned (.bool (inB n)) ∧ w = w' := by
  by_cases a : -1000000000000000 ≤ n
  · by_cases b : n ≤ 1000000000000000
    · have hv : inB n = true := by simp [inB]; omega
      rw [hv]; clear hv
      go_enter Tryz.func106, Tryz.ntmps106
      go_wp2
      go_ret
      exact ⟨rfl, rfl⟩
    · have hv : inB n = false := by simp [inB]; omega
      rw [hv]; clear hv
      go_enter Tryz.func106, Tryz.ntmps106
      go_wp2
      go_ret
      exact ⟨rfl, rfl⟩
  · have hv : inB n = false := by simp [inB]; omega
    rw [hv]; clear hv
    go_enter Tryz.func106, Tryz.ntmps106
    go_wp2
    go_ret
    exact ⟨rfl, rfl⟩

/-- The reference's road: 'ok' of a kind, then the text. -/
theorem vE_mk (k n : Int) (s : ByteArray) (ok : Bool) (hl : ¬ 2048 < s.size) (h : isV k n s.toList.isEmpty = (ok && (decide (k = 4) || s.toList.isEmpty))) :
    vE k n s = if (ok && (decide (k = 4) || s.toList.isEmpty)) = true then 0 else 1 := by
  unfold vE; rw [if_neg hl, h]

set_option maxHeartbeats 4000000 in
theorem refValidate_any (k n : Int) (s : ByteArray) (w : World) (hs : s.size ≤ maxLen) :
    Calls Tryz.prog 73 #[vv k n s] w fun e w' => e = .returned (.int .i64 (vE k n s)) ∧ Below w.heap.size w w' := by
  unfold maxLen at hs
  by_cases hl : 2048 < s.size
  · have hv : vE k n s = 3 := by simp [vE, hl]
    rw [hv]; clear hv
    go_enter Tryz.func73, Tryz.ntmps73
    go_wp2
    go_ret
    exact ⟨rfl, (Below.refl _ _).alloc (Nat.le_refl _) _⟩
  have bel : ∀ w : World, ∀ o, Below w.heap.size w (w.alloc o) := fun w o => (Below.refl _ _).alloc (Nat.le_refl _) _
  by_cases h4 : k = 4
  · subst h4
    cases a : n == 0
    · have hv : vE 4 n s = 1 := by simp at a; simp [vE, hl, isV, a]
      rw [hv]; clear hv
      go_enter Tryz.func73, Tryz.ntmps73
      go_wp2
      go_ret
      exact ⟨rfl, bel _ _⟩
    · have hv : vE 4 n s = 0 := by simp at a; simp [vE, hl, isV, a]
      rw [hv]; clear hv
      go_enter Tryz.func73, Tryz.ntmps73
      go_wp2
      go_ret
      exact ⟨rfl, bel _ _⟩
  have h4' : (k == 4) = false := by simpa using h4
  cases he : s.toList.isEmpty
  · have hv : vE k n s = 1 := by simp [vE, hl, isV, h4, he]
    rw [hv]; clear hv
    by_cases h0 : k = 0
    · subst h0
      go_enter Tryz.func73, Tryz.ntmps73
      go_wp2
      all_goals go_ret
      all_goals exact ⟨rfl, bel _ _⟩
    have h0' : (k == 0) = false := by simpa using h0
    by_cases h1 : k = 1
    · subst h1
      go_enter Tryz.func73, Tryz.ntmps73
      go_wp2
      all_goals go_ret
      all_goals exact ⟨rfl, bel _ _⟩
    have h1' : (k == 1) = false := by simpa using h1
    by_cases h2 : k = 2
    · subst h2
      cases hi : inB n
      · have HI := Lib.hid hi; clear hi
        go_enter Tryz.func73, Tryz.ntmps73
        go_wp2_with fail
        refine (refInNum_any _ _).mono ?_
        rintro e w' ⟨rfl, rfl⟩
        rw [HI.out]
        go_wp2
        all_goals go_ret
        all_goals exact ⟨rfl, bel _ _⟩
      · have HI := Lib.hid hi; clear hi
        go_enter Tryz.func73, Tryz.ntmps73
        go_wp2_with fail
        refine (refInNum_any _ _).mono ?_
        rintro e w' ⟨rfl, rfl⟩
        rw [HI.out]
        go_wp2
        all_goals go_ret
        all_goals exact ⟨rfl, bel _ _⟩
    have h2' : (k == 2) = false := by simpa using h2
    by_cases h3 : k = 3
    · subst h3
      go_enter Tryz.func73, Tryz.ntmps73
      go_wp2
      all_goals go_ret
      all_goals exact ⟨rfl, bel _ _⟩
    have h3' : (k == 3) = false := by simpa using h3
    clear h0 h1 h2 h3 h4
    go_enter Tryz.func73, Tryz.ntmps73
    go_wp2
    all_goals go_ret
    all_goals exact ⟨rfl, bel _ _⟩
  · by_cases h0 : k = 0
    · subst h0
      cases a : n == 0
      · have hv : vE 0 n s = 1 := by simp at a; simp [vE, hl, isV, he, a]
        rw [hv]; clear hv
        go_enter Tryz.func73, Tryz.ntmps73
        go_wp2
        go_ret
        exact ⟨rfl, bel _ _⟩
      · have hv : vE 0 n s = 0 := by simp at a; simp [vE, hl, isV, he, a]
        rw [hv]; clear hv
        go_enter Tryz.func73, Tryz.ntmps73
        go_wp2
        go_ret
        exact ⟨rfl, bel _ _⟩
    have h0' : (k == 0) = false := by simpa using h0
    by_cases h1 : k = 1
    · subst h1
      cases a : n == 0
      · cases b : n == 1
        · have hv : vE 1 n s = 1 := by simp at a b; simp [vE, hl, isV, he, a, b]
          rw [hv]; clear hv
          go_enter Tryz.func73, Tryz.ntmps73
          go_wp2
          go_ret
          exact ⟨rfl, bel _ _⟩
        · have hv : vE 1 n s = 0 := by simp at a b; simp [vE, hl, isV, he, a, b]
          rw [hv]; clear hv
          go_enter Tryz.func73, Tryz.ntmps73
          go_wp2
          go_ret
          exact ⟨rfl, bel _ _⟩
      · have hv : vE 1 n s = 0 := by simp at a; simp [vE, hl, isV, he, a]
        rw [hv]; clear hv
        go_enter Tryz.func73, Tryz.ntmps73
        go_wp2
        go_ret
        exact ⟨rfl, bel _ _⟩
    have h1' : (k == 1) = false := by simpa using h1
    by_cases h2 : k = 2
    · subst h2
      cases hi : inB n
      · have hv : vE 2 n s = 1 := by simp [vE, hl, isV, he, hi]
        rw [hv]; clear hv
        have HI := Lib.hid hi; clear hi
        go_enter Tryz.func73, Tryz.ntmps73
        go_wp2_with fail
        refine (refInNum_any _ _).mono ?_
        rintro e w' ⟨rfl, rfl⟩
        rw [HI.out]
        go_wp2
        go_ret
        exact ⟨rfl, bel _ _⟩
      · have hv : vE 2 n s = 0 := by simp [vE, hl, isV, he, hi]
        rw [hv]; clear hv
        have HI := Lib.hid hi; clear hi
        go_enter Tryz.func73, Tryz.ntmps73
        go_wp2_with fail
        refine (refInNum_any _ _).mono ?_
        rintro e w' ⟨rfl, rfl⟩
        rw [HI.out]
        go_wp2
        go_ret
        exact ⟨rfl, bel _ _⟩
    have h2' : (k == 2) = false := by simpa using h2
    by_cases h3 : k = 3
    · subst h3
      by_cases a : 0 ≤ n
      · by_cases b : n ≤ 3652059
        · have hv : vE 3 n s = 0 := by simp [vE, hl, isV, he, a, b]
          rw [hv]; clear hv
          go_enter Tryz.func73, Tryz.ntmps73
          go_wp2
          go_ret
          exact ⟨rfl, bel _ _⟩
        · have hv : vE 3 n s = 1 := by simp [vE, hl, isV, he, a, b]
          rw [hv]; clear hv
          go_enter Tryz.func73, Tryz.ntmps73
          go_wp2
          go_ret
          exact ⟨rfl, bel _ _⟩
      · have hv : vE 3 n s = 1 := by simp [vE, hl, isV, he, a]
        rw [hv]; clear hv
        go_enter Tryz.func73, Tryz.ntmps73
        go_wp2
        go_ret
        exact ⟨rfl, bel _ _⟩
    have h3' : (k == 3) = false := by simpa using h3
    have hv : vE k n s = 1 := by simp [vE, hl, isV, he, h0, h1, h2, h3, h4]
    rw [hv]; clear hv h0 h1 h2 h3 h4
    go_enter Tryz.func73, Tryz.ntmps73
    go_wp2
    go_ret
    exact ⟨rfl, bel _ _⟩

end Go.Proofs.YtcgfeeobkoomfaaGreatDoor

/- The walks of Compare of the program and of the reference. -/
namespace Go.Proofs.YtcgfeeobkoomfaaGreatDoor
open Go.RowKit
set_option linter.unusedVariables false
set_option linter.unusedSimpArgs false

theorem vbyte_at (s : ByteArray) (k : Nat) (hk : k < s.size) : s.data.toList[k]? = some (s[k]'hk) := by
  rw [List.getElem?_eq_getElem (by exact hk)]; rfl
theorem u8_yes (b : UInt8) (n : UInt8) (h : ((b.toNat : Int) == (n.toNat : Int)) = true) : b = n := by
  have : (b.toNat : Int) = n.toNat := by simpa using h
  exact UInt8.toNat_inj.1 (by omega)
theorem u8_no (b : UInt8) (n : UInt8) (h : ((b.toNat : Int) == (n.toNat : Int)) = false) : b ≠ n := by
  rintro rfl; simp at h

def cmpI (a b : Int) : Int := if a < b then -1 else if b < a then 1 else 0
def bothE (k n : Int) (s : ByteArray) (k' n' : Int) (s' : ByteArray) : Int := if vE k n s = 0 then vE k' n' s' else vE k n s
def cmpE (k n : Int) (s : ByteArray) (k' n' : Int) (s' : ByteArray) : Int := if bothE k n s k' n' s' = 0 then (if k = k' ∧ k ≠ 0 then 0 else 6) else bothE k n s k' n' s'
end Go.Proofs.YtcgfeeobkoomfaaGreatDoor

/- The walk of SameValue of the reference, for a value and itself. -/
namespace Go.Proofs.YtcgfeeobkoomfaaGreatDoor
open Go.RowKit
set_option linter.unusedVariables false
set_option linter.unusedSimpArgs false

set_option maxHeartbeats 1000000 in
theorem Same_self (k n : Int) (s : ByteArray) (w : World) :
    Calls Tryz.prog 35 #[vv k n s, vv k n s] w fun e w' => e = .returned (.bool true) ∧ Below w.heap.size w w' := by
  have q1 : (k == k) = true := by simp
  have q2 : (n == n) = true := by simp
  have q3 : (s.toList == s.toList) = true := by simp
  go_enter Tryz.func35, Tryz.ntmps35
  go_wp2
  go_ret
  exact ⟨rfl, ((Below.refl _ _).alloc (Nat.le_refl _) _).alloc (by simp) _⟩
end Go.Proofs.YtcgfeeobkoomfaaGreatDoor
