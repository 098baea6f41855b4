/- isOperator, compared, keys of bounds: of the program. -/
import Derived.Test.YtiddnacmopfamaaDoorKyN
namespace Go.Proofs.YtiddnacmopfamaaDoor
open Go.RowKit
set_option linter.unusedVariables false
set_option linter.unusedSimpArgs false
set_option maxRecDepth 40000
def isO (s : ByteArray) : Bool := s.toList == [61] || s.toList == [61, 61] || s.toList == [60] || s.toList == [60, 61] || s.toList == [62] || s.toList == [62, 61]
set_option maxHeartbeats 1000000 in
theorem isOperator_any (s : ByteArray) (w : World) :
    Calls Tryd.prog 64 #[.string s] w fun e w' => e = .returned (.bool (isO s)) ∧ Below w.heap.size w w' := by
  unfold isO
  generalize h1 : (s.toList == [61]) = b1
  generalize h2 : (s.toList == [61, 61]) = b2
  generalize h3 : (s.toList == [60]) = b3
  generalize h4 : (s.toList == [60, 61]) = b4
  generalize h5 : (s.toList == [62]) = b5
  generalize h6 : (s.toList == [62, 61]) = b6
  go_enter Tryd.func64, Tryd.ntmps64
  cases b1
  · cases b2
    · cases b3
      · cases b4
        · cases b5
          · cases b6
            all_goals go_wp2_with fail
            all_goals go_ret
            all_goals exact ⟨rfl, Below.refl _ _⟩
          · go_wp2_with fail
            go_ret
            exact ⟨rfl, Below.refl _ _⟩
        · go_wp2_with fail
          go_ret
          exact ⟨rfl, Below.refl _ _⟩
      · go_wp2_with fail
        go_ret
        exact ⟨rfl, Below.refl _ _⟩
    · go_wp2_with fail
      go_ret
      exact ⟨rfl, Below.refl _ _⟩
  · go_wp2_with fail
    go_ret
    exact ⟨rfl, Below.refl _ _⟩

/-- The value of two bounds and whether they belong to it. -/
abbrev bv (lo hi : ByteArray) (a b : Bool) : Value := .agg #[.string lo, .string hi, .bool a, .bool b]
def cmpV (op k : ByteArray) (cut : Bool) : ByteArray × ByteArray × Bool × Bool :=
  if (op.toList == [60] || op.toList == [60, 61]) = true then (nos, k, false, cut || op.toList == [60, 61])
  else if (op.toList == [62] || op.toList == [62, 61]) = true then (k, nos, cut || op.toList == [62, 61], false) else (k, k, true, true)
set_option maxHeartbeats 4000000 in
theorem compared_any (s k : ByteArray) (cut : Bool) (w : World) :
    Calls Tryd.prog 66 #[.string s, .string k, .bool cut] w fun e w' => e = .returned (bv (cmpV s k cut).1 (cmpV s k cut).2.1 (cmpV s k cut).2.2.1 (cmpV s k cut).2.2.2) ∧ Below w.heap.size w w' := by
  unfold cmpV
  generalize h3 : (s.toList == [60]) = b3
  generalize h4 : (s.toList == [60, 61]) = b4
  generalize h5 : (s.toList == [62]) = b5
  generalize h6 : (s.toList == [62, 61]) = b6
  go_enter Tryd.func66, Tryd.ntmps66
  cases cut <;> cases b3 <;> cases b4 <;> cases b5 <;> cases b6
  all_goals go_wp2_with fail
  all_goals first
    | exact bodyPost_ret (v := bv k k true true) (by simp [results, Tryd.results66, go_sem]) rfl ⟨rfl, by (repeat (first | exact Below.refl _ _ | (refine Below.drew ?_) | (refine Below.setCell ?_ (by first | exact Nat.le_refl _ | simp) _) | (refine Below.alloc ?_ (Nat.le_refl _) _)))⟩
    | exact bodyPost_ret (v := bv nos k false true) (by simp [results, Tryd.results66, go_sem]) rfl ⟨rfl, by (repeat (first | exact Below.refl _ _ | (refine Below.drew ?_) | (refine Below.setCell ?_ (by first | exact Nat.le_refl _ | simp) _) | (refine Below.alloc ?_ (Nat.le_refl _) _)))⟩
    | exact bodyPost_ret (v := bv nos k false false) (by simp [results, Tryd.results66, go_sem]) rfl ⟨rfl, by (repeat (first | exact Below.refl _ _ | (refine Below.drew ?_) | (refine Below.setCell ?_ (by first | exact Nat.le_refl _ | simp) _) | (refine Below.alloc ?_ (Nat.le_refl _) _)))⟩
    | exact bodyPost_ret (v := bv k nos true false) (by simp [results, Tryd.results66, go_sem]) rfl ⟨rfl, by (repeat (first | exact Below.refl _ _ | (refine Below.drew ?_) | (refine Below.setCell ?_ (by first | exact Nat.le_refl _ | simp) _) | (refine Below.alloc ?_ (Nat.le_refl _) _)))⟩
    | exact bodyPost_ret (v := bv k nos false false) (by simp [results, Tryd.results66, go_sem]) rfl ⟨rfl, by (repeat (first | exact Below.refl _ _ | (refine Below.drew ?_) | (refine Below.setCell ?_ (by first | exact Nat.le_refl _ | simp) _) | (refine Below.alloc ?_ (Nat.le_refl _) _)))⟩
    | fail
end Go.Proofs.YtiddnacmopfamaaDoor
