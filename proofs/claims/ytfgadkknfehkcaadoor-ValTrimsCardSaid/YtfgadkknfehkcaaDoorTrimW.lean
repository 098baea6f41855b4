/- The walks of Pad of both and of ValTrims. -/
import Derived.Test.YtfgadkknfehkcaaDoorTrim2
import Derived.Test.YtfgadkknfehkcaaDoorKnown
namespace Go.Proofs.YtfgadkknfehkcaaDoor
open Go.RowKit
set_option linter.unusedVariables false

abbrev PdIs (s : ByteArray) (n side : Int) (t : ByteArray) (x : Int) : Prop :=
  (∀ w, Calls Tryd.prog 48 #[.string s, .int .i64 n, .int .i64 side] w fun e w' => e = .returned (.tuple #[.string t, .int .i64 x]) ∧ Below w.heap.size w w') ∧
  (∀ w, Calls Tryd.prog 49 #[.string s, .int .i64 n, .int .i64 side] w fun e w' => e = .returned (.tuple #[.string t, .int .i64 x]) ∧ w = w')

set_option maxHeartbeats 2000000 in
theorem pad_large (s : ByteArray) (n side : Int) (hs : s.size ≤ maxLen) (h : 2048 < s.size) : PdIs s n side nos 3 := by
  have hd : decide (2048 < s.size) = true := by simpa using h
  have C := Lib.hid (fun b cap w hc => large_one s hs b cap w hc)
  have C' := Lib.hid (long_any s hs)
  rw [hd] at C C'
  clear hd
  refine ⟨fun w => ?_, fun w => ?_⟩
  · go_enter Tryd.func48, Tryd.ntmps48
    go_wp2_with fail
    refine (C.out _ _ _ (by go_simp)).mono ?_
    rintro e w' ⟨rfl, rfl⟩
    go_wp2
    go_ret2
    exact ⟨rfl, (Below.refl _ _).alloc (Nat.le_refl _) _⟩
  · go_enter Tryd.func49, Tryd.ntmps49
    go_wp2_with fail
    refine (C'.out _).mono ?_
    rintro e w' ⟨rfl, rfl⟩
    go_wp2
    go_ret2
    exact ⟨rfl, rfl⟩

set_option maxHeartbeats 4000000 in
theorem pad_bad (s : ByteArray) (n side : Int) (h : ¬ 2048 < s.size) (hb : n < 0 ∨ 2048 < n ∨ side < 0 ∨ 2 < side) : PdIs s n side nos 1 := by
  have hs : s.size ≤ maxLen := by unfold maxLen; omega
  have hd : decide (2048 < s.size) = false := by simpa using h
  have C := Lib.hid (fun b cap w hc => large_one s hs b cap w hc)
  have C' := Lib.hid (long_any s hs)
  rw [hd] at C C'
  clear hd
  have hc : n < 0 ∨ (¬ n < 0 ∧ 2048 < n) ∨ (¬ n < 0 ∧ ¬ 2048 < n ∧ side < 0) ∨ (¬ n < 0 ∧ ¬ 2048 < n ∧ ¬ side < 0 ∧ 2 < side) := by omega
  clear hb
  refine ⟨fun w => ?_, fun w => ?_⟩
  · rcases hc with a | ⟨a, b⟩ | ⟨a, b, c⟩ | ⟨a, b, c, d⟩
    all_goals
      go_enter Tryd.func48, Tryd.ntmps48
      go_wp2_with fail
      refine (C.out _ _ _ (by go_simp)).mono ?_
      rintro e w' ⟨rfl, rfl⟩
      go_wp2
      go_ret2
      exact ⟨rfl, (Below.refl _ _).alloc (Nat.le_refl _) _⟩
  · rcases hc with a | ⟨a, b⟩ | ⟨a, b, c⟩ | ⟨a, b, c, d⟩
    all_goals
      go_enter Tryd.func49, Tryd.ntmps49
      go_wp2_with fail
      refine (C'.out _).mono ?_
      rintro e w' ⟨rfl, rfl⟩
      go_wp2
      go_ret2
      exact ⟨rfl, rfl⟩

set_option maxHeartbeats 4000000 in
theorem pad_cut (s : ByteArray) (n : Nat) (side : Int) (h : ¬ 2048 < s.size) (n1 : n ≤ s.size) (s0 : 0 ≤ side) (s1 : side ≤ 2) : PdIs s n side (s.extract 0 n) 0 := by
  have hs : s.size ≤ maxLen := by unfold maxLen; omega
  have hd : decide (2048 < s.size) = false := by simpa using h
  have C := Lib.hid (fun b cap w hc => large_one s hs b cap w hc)
  have C' := Lib.hid (long_any s hs)
  rw [hd] at C C'
  clear hd
  have i1 : (n : Int) ≤ s.size := by omega
  have i2 : ¬ 2048 < (n : Int) := by omega
  have i3 : ¬ (n : Int) < 0 := by omega
  have i4 : ¬ side < 0 := by omega
  have i5 : ¬ 2 < side := by omega
  refine ⟨fun w => ?_, fun w => ?_⟩
  · go_enter Tryd.func48, Tryd.ntmps48
    go_wp2_with fail
    refine (C.out _ _ _ (by go_simp)).mono ?_
    rintro e w' ⟨rfl, rfl⟩
    go_wp2
    go_ret2
    exact ⟨rfl, (Below.refl _ _).alloc (Nat.le_refl _) _⟩
  · go_enter Tryd.func49, Tryd.ntmps49
    go_wp2_with fail
    refine (C'.out _).mono ?_
    rintro e w' ⟨rfl, rfl⟩
    go_wp2
    go_ret2
    exact ⟨rfl, rfl⟩

/-- An array by value, indexed: a law that the walk lacks. -/
theorem idx0 (a b c : Int) (w : World) : (Instr.index 84 (.agg #[.int .i64 a, .int .i64 b, .int .i64 c]) (.int .i64 0)).run Tryd.prog w = .ok (.int .i64 a) w := by
  simp [Instr.index, asIntOf, run_underlying Tryd.underlying84, go_sem]
theorem idx1 (a b c : Int) (w : World) : (Instr.index 84 (.agg #[.int .i64 a, .int .i64 b, .int .i64 c]) (.int .i64 1)).run Tryd.prog w = .ok (.int .i64 b) w := by
  simp [Instr.index, asIntOf, run_underlying Tryd.underlying84, go_sem]
theorem idx2 (a b c : Int) (w : World) : (Instr.index 84 (.agg #[.int .i64 a, .int .i64 b, .int .i64 c]) (.int .i64 2)).run Tryd.prog w = .ok (.int .i64 c) w := by
  simp [Instr.index, asIntOf, run_underlying Tryd.underlying84, go_sem]
attribute [local go_sem] idx0 idx1 idx2

set_option maxHeartbeats 4000000 in
set_option maxRecDepth 100000 in
theorem pad_more (s : ByteArray) (n k f : Nat) (side : Int) (h : ¬ 2048 < s.size) (n1 : s.size < n) (n2 : n ≤ 2048) (hk : n = s.size + k)
    (hf : (side = 0 ∧ f = 0) ∨ (side = 1 ∧ f = k) ∨ (side = 2 ∧ f = k / 2)) : PdIs s n side (fill 32 f ++ s ++ fill 32 (k - f)) 0 := by
  have hs : s.size ≤ maxLen := by unfold maxLen; omega
  have hd : decide (2048 < s.size) = false := by simpa using h
  have C := Lib.hid (fun b cap w hc => large_one s hs b cap w hc)
  have C' := Lib.hid (long_any s hs)
  rw [hd] at C C'
  clear hd
  have hfk : f ≤ k := by omega
  have R1 := Lib.hid (Repeat_fill 32 f (by omega))
  have R2 := Lib.hid (Repeat_fill 32 (k - f) (by omega))
  have T1 := Lib.hid (Times_any 32 f (by omega))
  have T2 := Lib.hid (Times_any 32 (k - f) (by omega))
  have z1 := fill_size 32 f
  have z2 := fill_size 32 (k - f)
  generalize fill 32 f = A at *
  generalize fill 32 (k - f) = B at *
  have i1 : ¬ (n : Int) ≤ s.size := by omega
  have i2 : ¬ 2048 < (n : Int) := by omega
  have i3 : ¬ (n : Int) < 0 := by omega
  have e1 : (n : Int) - s.size = k := by omega
  have e2 : ((k - f : Nat) : Int) = (k : Int) - f := by omega
  rw [e2] at R2 T2
  have HK := Lib.hid hk
  clear e2 hk
  have hx : ∃ x y : Int, (f : Int) = x ∧ (k : Int) - f = y ∧ ((side = 0 ∧ x = 0 ∧ y = k) ∨ (side = 1 ∧ x = k ∧ y = 0) ∨ (side = 2 ∧ x = (k : Int) / 2 ∧ y = (k : Int) - (k : Int) / 2)) := by
    refine ⟨_, _, rfl, rfl, ?_⟩
    rcases hf with ⟨a, b⟩ | ⟨a, b⟩ | ⟨a, b⟩
    · left; omega
    · right; left; omega
    · right; right; omega
  clear hf
  obtain ⟨x, y, hx1, hx2, hf⟩ := hx
  rw [hx1] at R1 T1
  rw [hx2] at R2 T2
  clear hx1 hx2
  rcases hf with ⟨rfl, rfl, rfl⟩ | ⟨rfl, rfl, rfl⟩ | ⟨rfl, rfl, rfl⟩
  all_goals
    refine ⟨fun w => ?_, fun w => ?_⟩
    · go_enter Tryd.func48, Tryd.ntmps48
      go_wp2_with fail
      refine (C.out _ _ _ (by go_simp)).mono ?_
      rintro e w' ⟨rfl, rfl⟩
      go_wp2_with fail
      refine (R1.out _).mono ?_
      rintro e w1 ⟨rfl, hb1⟩
      have q1 := hb1.size
      simp at q1
      go_wp2_with fail
      refine (R2.out _).mono ?_
      rintro e w2 ⟨rfl, hb2⟩
      go_wp2
      go_ret2
      exact ⟨rfl, ((((Below.refl _ _).alloc (Nat.le_refl _) _).trans (hb1.mono (by simp)))).trans (hb2.mono (by omega))⟩
    · go_enter Tryd.func49, Tryd.ntmps49
      go_wp2_with fail
      refine (C'.out _).mono ?_
      rintro e w' ⟨rfl, rfl⟩
      go_wp2_with fail
      refine (T1.out _).mono ?_
      rintro e w' ⟨rfl, rfl⟩
      go_wp2_with fail
      refine (T2.out _).mono ?_
      rintro e w' ⟨rfl, rfl⟩
      go_wp2
      go_ret2
      exact ⟨rfl, rfl⟩

theorem pad_any (s : ByteArray) (n side : Int) (hs : s.size ≤ maxLen) : ∃ t x, PdIs s n side t x := by
  by_cases h : 2048 < s.size
  · exact ⟨nos, 3, pad_large s n side hs h⟩
  by_cases hb : n < 0 ∨ 2048 < n ∨ side < 0 ∨ 2 < side
  · exact ⟨nos, 1, pad_bad s n side h hb⟩
  obtain ⟨m, rfl⟩ : ∃ m : Nat, n = m := ⟨n.toNat, by omega⟩
  by_cases hm : m ≤ s.size
  · exact ⟨_, 0, pad_cut s m side h hm (by omega) (by omega)⟩
  · have hside : side = 0 ∨ side = 1 ∨ side = 2 := by omega
    rcases hside with rfl | rfl | rfl
    · exact ⟨_, 0, pad_more s m (m - s.size) 0 0 h (by omega) (by omega) (by omega) (.inl ⟨rfl, rfl⟩)⟩
    · exact ⟨_, 0, pad_more s m (m - s.size) (m - s.size) 1 h (by omega) (by omega) (by omega) (.inr (.inl ⟨rfl, rfl⟩))⟩
    · exact ⟨_, 0, pad_more s m (m - s.size) ((m - s.size) / 2) 2 h (by omega) (by omega) (by omega) (.inr (.inr ⟨rfl, rfl⟩))⟩

set_option maxHeartbeats 2000000 in
theorem trims_any (s : ByteArray) (n side : Int) (w : World) (ht : Tab w) (hs : s.size ≤ maxLen) :
    Calls Tryd.prog 13 #[.string s, .int .i64 n, .int .i64 side] w fun e w' => e = .returned (.bool true) ∧ Below w.heap.size w w' := by
  have hp := ht.pos
  obtain ⟨t, x, c1, c2⟩ := trim_any s side hs
  obtain ⟨u, y, c3, c4⟩ := pad_any s n side hs
  have C1 := Lib.hid c1; clear c1
  have C2 := Lib.hid c2; clear c2
  have C3 := Lib.hid c3; clear c3
  have C4 := Lib.hid c4; clear c4
  have HT := Lib.hid ht; clear ht
  have q1 : (t.toList == t.toList) = true := by simp
  have q2 : (x == x) = true := by simp
  have q3 : (u.toList == u.toList) = true := by simp
  have q4 : (y == y) = true := by simp
  unfold maxLen at hs
  by_cases hl : 20000 < s.size
  · go_enter Tryd.func13, Tryd.ntmps13
    go_wp2_with fail
    refine (known_any _ HT.out).mono ?_
    rintro e w1 ⟨rfl, hb1⟩
    go_wp2_with fail
    go_ret
    exact ⟨rfl, hb1⟩
  · go_enter Tryd.func13, Tryd.ntmps13
    go_wp2_with fail
    refine (C1.out _).mono ?_
    rintro e w1 ⟨rfl, hb1⟩
    have z1 := hb1.size
    go_wp2_with fail
    refine (C2.out _).mono ?_
    rintro e w' ⟨rfl, rfl⟩
    go_wp2_with fail
    refine (C3.out _).mono ?_
    rintro e w2 ⟨rfl, hb2⟩
    have z2 := hb2.size
    have hB2 : Below w.heap.size w w2 := hb1.trans (hb2.mono (by omega))
    have HT2 := Lib.hid (HT.out.below hB2 hp)
    go_wp2_with fail
    refine (C4.out _).mono ?_
    rintro e w' ⟨rfl, rfl⟩
    go_wp2_with fail
    refine (known_any _ HT2.out).mono ?_
    rintro e w3 ⟨rfl, hb3⟩
    go_wp2_with fail
    go_ret
    exact ⟨rfl, hB2.trans (hb3.mono (by omega))⟩
end Go.Proofs.YtfgadkknfehkcaaDoor
