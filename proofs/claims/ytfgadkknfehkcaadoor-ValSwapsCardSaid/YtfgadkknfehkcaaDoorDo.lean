/- The walks of Do and its operations on texts, as far as a difference of texts goes. -/
import Derived.Test.YtfgadkknfehkcaaDoorVals
import Derived.StillTailTactics
namespace Go.Proofs.YtfgadkknfehkcaaDoor
open Go.RowKit
set_option linter.unusedVariables false

theorem Text_any (s : ByteArray) (w : World) :
    Calls Tryd.prog 58 #[.string s] w fun e w' => e = .returned (vv 4 0 s) ∧ Below w.heap.size w w' ∧ w.heap.size < w'.heap.size := by
  go_enter Tryd.func58, Tryd.ntmps58
  go_wp2
  exact bodyPost_ret (v := vv 4 0 s) (by simp [results, Tryd.results58, go_sem]) rfl ⟨rfl, (Below.refl _ _).alloc (Nat.le_refl _) _, by simp⟩

theorem text_yes (s : ByteArray) (w : World) (h : s.size ≤ 2048) :
    Calls Tryd.prog 114 #[.string s] w fun e w' => e = .returned (.tuple #[vv 4 0 s, .int .i64 0]) ∧ Below w.heap.size w w' ∧ w.heap.size < w'.heap.size := by
  go_enter Tryd.func114, Tryd.ntmps114
  go_wp2
  exact bodyPost_ret (v := .tuple #[vv 4 0 s, .int .i64 0]) (by simp [results, Tryd.results114, go_sem]) rfl ⟨rfl, (Below.refl _ _).alloc (Nat.le_refl _) _, by simp⟩
theorem text_no (s : ByteArray) (w : World) (h : 2048 < s.size) (hs : s.size ≤ maxLen) :
    Calls Tryd.prog 114 #[.string s] w fun e w' => e = .returned (.tuple #[vv 0 0 nos, .int .i64 3]) ∧ Below w.heap.size w w' ∧ w.heap.size < w'.heap.size := by
  unfold maxLen at hs
  go_enter Tryd.func114, Tryd.ntmps114
  go_wp2
  exact bodyPost_ret (v := .tuple #[vv 0 0 nos, .int .i64 3]) (by simp [results, Tryd.results114, go_sem]) rfl ⟨rfl, (Below.refl _ _).alloc (Nat.le_refl _) _, by simp⟩

set_option maxHeartbeats 400000 in
theorem isPair_any (k n : Int) (s : ByteArray) (k' n' : Int) (s' : ByteArray) (a b : Int) (w : World) :
    Calls Tryd.prog 111 #[vv k n s, vv k' n' s', .int .i64 a, .int .i64 b] w fun e w' => e = .returned (.bool (k == a && k' == b)) ∧ Below w.heap.size w w' := by
  cases h1 : k == a
  · go_enter Tryd.func111, Tryd.ntmps111
    go_wp2
    go_ret
    exact ⟨rfl, ((Below.refl _ _).alloc (Nat.le_refl _) _).alloc (by simp) _⟩
  · cases h2 : k' == b
    · go_enter Tryd.func111, Tryd.ntmps111
      go_wp2
      go_ret
      exact ⟨rfl, ((Below.refl _ _).alloc (Nat.le_refl _) _).alloc (by simp) _⟩
    · go_enter Tryd.func111, Tryd.ntmps111
      go_wp2
      go_ret
      exact ⟨rfl, ((Below.refl _ _).alloc (Nat.le_refl _) _).alloc (by simp) _⟩

set_option maxHeartbeats 400000 in
theorem both_any (k n : Int) (s : ByteArray) (k' n' : Int) (s' : ByteArray) (w : World) (hs : s.size ≤ maxLen) (hs' : s'.size ≤ maxLen) :
    Calls Tryd.prog 63 #[vv k n s, vv k' n' s'] w fun e w' => e = .returned (.int .i64 (if vE k n s = 0 then vE k' n' s' else vE k n s)) ∧ Below w.heap.size w w' := by
  by_cases h : vE k n s = 0
  · rw [if_pos h]
    have hb : (vE k n s != 0) = false := by simp [h]
    clear h
    have HB := Lib.hid hb; clear hb
    go_enter Tryd.func63, Tryd.ntmps63
    go_wp2_with fail
    refine (validate_any _ _ _ _ hs).mono ?_
    rintro e w1 ⟨rfl, hb1⟩
    obtain ⟨hc, hf⟩ := bcell hb1
    have HB' := HB.out
    go_wp2_with fail
    refine (validate_any _ _ _ _ hs').mono ?_
    rintro e w2 ⟨rfl, hb2⟩
    go_wp2_with fail
    go_ret
    exact ⟨rfl, ((((Below.refl _ _).alloc (Nat.le_refl _) _).alloc (by simp) _).trans (hb1.mono (by simp; omega))).trans (hb2.mono (by have := hb1.size; simp at this; omega))⟩
  · rw [if_neg h]
    have hb : (vE k n s != 0) = true := by simp [h]
    clear h
    have HB := Lib.hid hb; clear hb
    go_enter Tryd.func63, Tryd.ntmps63
    go_wp2_with fail
    refine (validate_any _ _ _ _ hs).mono ?_
    rintro e w1 ⟨rfl, hb1⟩
    have HB' := HB.out
    go_wp2_with fail
    go_ret
    exact ⟨rfl, (((Below.refl _ _).alloc (Nat.le_refl _) _).alloc (by simp) _).trans (hb1.mono (by simp; omega))⟩
end Go.Proofs.YtfgadkknfehkcaaDoor
