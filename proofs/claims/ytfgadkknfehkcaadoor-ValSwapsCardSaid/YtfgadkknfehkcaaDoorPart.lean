/- The walks of bounds, cut, Part and Stuff of both. -/
import Derived.Test.YtfgadkknfehkcaaDoorTrim2
namespace Go.Proofs.YtfgadkknfehkcaaDoor
open Go.RowKit
set_option linter.unusedVariables false

abbrev I64 (a : Int) : Prop := -9223372036854775808 ≤ a ∧ a ≤ 9223372036854775807

set_option maxHeartbeats 2000000 in
theorem bounds_any (L : Nat) (hL : L ≤ 2048) (a n : Int) (ha : I64 a) (hn : I64 n) (w : World) :
    Calls Tryd.prog 97 #[.int .i64 L, .int .i64 a, .int .i64 n] w fun e w' => e = .returned (.tuple #[.int .i64 (min (max a 1 - 1) L), .int .i64 (min (max a 1 - 1) L + min (max n 0) (L - min (max a 1 - 1) L))]) ∧ w = w' := by
  go_enter Tryd.func97, Tryd.ntmps97
  go_wp2
  go_ret2
  exact ⟨rfl, rfl⟩
set_option maxHeartbeats 2000000 in
theorem cut_any (s : ByteArray) (hL : s.size ≤ 2048) (a n : Int) (ha : I64 a) (hn : I64 n) (w : World) :
    Calls Tryd.prog 98 #[.string s, .int .i64 a, .int .i64 n] w fun e w' => e = .returned (.tuple #[.int .i64 (min (max a 1) (s.size + 1) - 1), .int .i64 (min (max a 1) (s.size + 1) - 1 + min (max n 0) (s.size - (min (max a 1) (s.size + 1) - 1)))]) ∧ w = w' := by
  go_enter Tryd.func98, Tryd.ntmps98
  go_wp2
  go_ret2
  exact ⟨rfl, rfl⟩
/-- The two places of a part. -/
theorem cut_both (s : ByteArray) (hL : s.size ≤ 2048) (a n : Int) (ha : I64 a) (hn : I64 n) : ∃ p q : Nat, p ≤ q ∧ q ≤ s.size ∧
    (∀ w, Calls Tryd.prog 97 #[.int .i64 s.size, .int .i64 a, .int .i64 n] w fun e w' => e = .returned (.tuple #[.int .i64 p, .int .i64 q]) ∧ w = w') ∧
    (∀ w, Calls Tryd.prog 98 #[.string s, .int .i64 a, .int .i64 n] w fun e w' => e = .returned (.tuple #[.int .i64 p, .int .i64 q]) ∧ w = w') := by
  refine ⟨(min (max a 1 - 1) (s.size : Int)).toNat, (min (max a 1 - 1) (s.size : Int) + min (max n 0) (s.size - min (max a 1 - 1) (s.size : Int))).toNat, by omega, by omega, fun w => ?_, fun w => ?_⟩
  · have := bounds_any s.size hL a n ha hn w
    rw [show (((min (max a 1 - 1) (s.size : Int)).toNat : Nat) : Int) = min (max a 1 - 1) s.size from by omega,
      show (((min (max a 1 - 1) (s.size : Int) + min (max n 0) (s.size - min (max a 1 - 1) (s.size : Int))).toNat : Nat) : Int) = min (max a 1 - 1) s.size + min (max n 0) (s.size - min (max a 1 - 1) s.size) from by omega]
    exact this
  · have := cut_any s hL a n ha hn w
    rw [show (((min (max a 1 - 1) (s.size : Int)).toNat : Nat) : Int) = min (max a 1) (s.size + 1) - 1 from by omega,
      show (((min (max a 1 - 1) (s.size : Int) + min (max n 0) (s.size - min (max a 1 - 1) (s.size : Int))).toNat : Nat) : Int) = min (max a 1) (s.size + 1) - 1 + min (max n 0) (s.size - (min (max a 1) (s.size + 1) - 1)) from by omega]
    exact this

abbrev PartIs (s : ByteArray) (a n : Int) (t : ByteArray) (x : Int) : Prop :=
  (∀ w, Calls Tryd.prog 50 #[.string s, .int .i64 a, .int .i64 n] w fun e w' => e = .returned (.tuple #[.string t, .int .i64 x]) ∧ Below w.heap.size w w') ∧
  (∀ w, Calls Tryd.prog 51 #[.string s, .int .i64 a, .int .i64 n] w fun e w' => e = .returned (.tuple #[.string t, .int .i64 x]) ∧ w = w')

set_option maxHeartbeats 2000000 in
theorem part_any (s : ByteArray) (a n : Int) (hs : s.size ≤ maxLen) (ha : I64 a) (hn : I64 n) : ∃ t x, PartIs s a n t x := by
  have C := Lib.hid (fun b cap w hc => large_one s hs b cap w hc)
  have C' := Lib.hid (long_any s hs)
  by_cases h : 2048 < s.size
  · have hd : decide (2048 < s.size) = true := by simpa using h
    rw [hd] at C C'
    clear hd
    refine ⟨nos, 3, fun w => ?_, fun w => ?_⟩
    · go_enter Tryd.func50, Tryd.ntmps50
      go_wp2_with fail
      refine (C.out _ _ _ (by go_simp)).mono ?_
      rintro e w' ⟨rfl, rfl⟩
      go_wp2
      go_ret2
      exact ⟨rfl, (Below.refl _ _).alloc (Nat.le_refl _) _⟩
    · go_enter Tryd.func51, Tryd.ntmps51
      go_wp2_with fail
      refine (C'.out _).mono ?_
      rintro e w' ⟨rfl, rfl⟩
      go_wp2
      go_ret2
      exact ⟨rfl, rfl⟩
  · have hd : decide (2048 < s.size) = false := by simpa using h
    rw [hd] at C C'
    clear hd
    obtain ⟨p, q, hpq, hq, c1, c2⟩ := cut_both s (by omega) a n ha hn
    have C1 := Lib.hid c1; clear c1
    have C2 := Lib.hid c2; clear c2
    have i1 : (p : Int) ≤ q := by omega
    have i2 : (q : Int) ≤ s.size := by omega
    refine ⟨s.extract p q, 0, fun w => ?_, fun w => ?_⟩
    · go_enter Tryd.func50, Tryd.ntmps50
      go_wp2_with fail
      refine (C.out _ _ _ (by go_simp)).mono ?_
      rintro e w' ⟨rfl, rfl⟩
      go_wp2_with fail
      refine (C1.out _).mono ?_
      rintro e w' ⟨rfl, rfl⟩
      go_wp2
      go_ret2
      exact ⟨rfl, (Below.refl _ _).alloc (Nat.le_refl _) _⟩
    · go_enter Tryd.func51, Tryd.ntmps51
      go_wp2_with fail
      refine (C'.out _).mono ?_
      rintro e w' ⟨rfl, rfl⟩
      go_wp2_with fail
      refine (C2.out _).mono ?_
      rintro e w' ⟨rfl, rfl⟩
      go_wp2
      go_ret2
      exact ⟨rfl, rfl⟩

/-- notLarge and fit: one answer. -/
theorem fit_both (s : ByteArray) (hs : s.size ≤ maxLen) : ∃ t x, (∀ w, Calls Tryd.prog 99 #[.string s] w fun e w' => e = .returned (.tuple #[.string t, .int .i64 x]) ∧ Below w.heap.size w w') ∧
    (∀ w, Calls Tryd.prog 100 #[.string s] w fun e w' => e = .returned (.tuple #[.string t, .int .i64 x]) ∧ w = w') := by
  have C := Lib.hid (fun b cap w hc => large_one s hs b cap w hc)
  have C' := Lib.hid (long_any s hs)
  by_cases h : 2048 < s.size
  · have hd : decide (2048 < s.size) = true := by simpa using h
    rw [hd] at C C'
    clear hd
    refine ⟨nos, 3, fun w => ?_, fun w => ?_⟩
    · go_enter Tryd.func99, Tryd.ntmps99
      go_wp2_with fail
      refine (C.out _ _ _ (by go_simp)).mono ?_
      rintro e w' ⟨rfl, rfl⟩
      go_wp2
      go_ret2
      exact ⟨rfl, (Below.refl _ _).alloc (Nat.le_refl _) _⟩
    · go_enter Tryd.func100, Tryd.ntmps100
      go_wp2_with fail
      refine (C'.out _).mono ?_
      rintro e w' ⟨rfl, rfl⟩
      go_wp2
      go_ret2
      exact ⟨rfl, rfl⟩
  · have hd : decide (2048 < s.size) = false := by simpa using h
    rw [hd] at C C'
    clear hd
    refine ⟨s, 0, fun w => ?_, fun w => ?_⟩
    · go_enter Tryd.func99, Tryd.ntmps99
      go_wp2_with fail
      refine (C.out _ _ _ (by go_simp)).mono ?_
      rintro e w' ⟨rfl, rfl⟩
      go_wp2
      go_ret2
      exact ⟨rfl, (Below.refl _ _).alloc (Nat.le_refl _) _⟩
    · go_enter Tryd.func100, Tryd.ntmps100
      go_wp2_with fail
      refine (C'.out _).mono ?_
      rintro e w' ⟨rfl, rfl⟩
      go_wp2
      go_ret2
      exact ⟨rfl, rfl⟩
end Go.Proofs.YtfgadkknfehkcaaDoor
