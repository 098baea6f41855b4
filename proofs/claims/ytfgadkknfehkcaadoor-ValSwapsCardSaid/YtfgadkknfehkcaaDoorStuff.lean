/- The walks of Stuff of both. -/
import Derived.Test.YtfgadkknfehkcaaDoorPart
import Derived.Lib.SmallJoins
namespace Go.Proofs.YtfgadkknfehkcaaDoor
open Go.RowKit
set_option linter.unusedVariables false

abbrev StuffIs (s : ByteArray) (a n : Int) (u : ByteArray) (t : ByteArray) (x : Int) : Prop :=
  (∀ w, Calls Tryd.prog 52 #[.string s, .int .i64 a, .int .i64 n, .string u] w fun e w' => e = .returned (.tuple #[.string t, .int .i64 x]) ∧ Below w.heap.size w w') ∧
  (∀ w, Calls Tryd.prog 53 #[.string s, .int .i64 a, .int .i64 n, .string u] w fun e w' => e = .returned (.tuple #[.string t, .int .i64 x]) ∧ Below w.heap.size w w')

theorem large_two (s u : ByteArray) (hs : s.size ≤ maxLen) (hu : u.size ≤ maxLen) (b cap : Nat) (w : World) (hc : w.cell? ⟨b, 0, none⟩ = some (.string s)) (hc' : w.cell? ⟨b, 1, none⟩ = some (.string u)) :
    Calls Tryd.prog 93 #[.slice (some ⟨b, 0, none⟩) 2 cap] w fun e w' => e = .returned (.bool (decide (2048 < s.size) || decide (2048 < u.size))) ∧ w = w' := by
  have := isLarge_any b cap [s, u] (by intro v hv; rcases List.mem_cons.1 hv with rfl | hv; exact hs; rw [List.mem_singleton.1 hv]; exact hu) (by simp) w (fun i hi => by
    have hi' : i < 2 := hi
    rcases (show i = 0 ∨ i = 1 by omega) with rfl | rfl
    · exact hc
    · exact hc')
  rw [show larges [s, u] = (decide (2048 < s.size) || decide (2048 < u.size)) from by simp [larges]] at this
  exact this

set_option maxHeartbeats 4000000 in
theorem stuff_any (s : ByteArray) (a n : Int) (u : ByteArray) (hs : s.size ≤ maxLen) (hu : u.size ≤ maxLen) (ha : I64 a) (hn : I64 n) : ∃ t x, StuffIs s a n u t x := by
  have C := Lib.hid (fun b cap w hc hc' => large_two s u hs hu b cap w hc hc')
  have S' := Lib.hid (long_any s hs)
  have U' := Lib.hid (long_any u hu)
  by_cases h : 2048 < s.size
  · have hd : decide (2048 < s.size) = true := by simpa using h
    rw [hd] at C S'
    rw [Bool.true_or] at C
    clear hd
    refine ⟨nos, 3, fun w => ?_, fun w => ?_⟩
    · go_enter Tryd.func52, Tryd.ntmps52
      go_wp2_with fail
      refine (C.out _ _ _ (by go_simp) (by go_simp)).mono ?_
      rintro e w' ⟨rfl, rfl⟩
      go_wp2
      go_ret2
      exact ⟨rfl, (Below.refl _ _).alloc (Nat.le_refl _) _⟩
    · go_enter Tryd.func53, Tryd.ntmps53
      go_wp2_with fail
      refine (S'.out _).mono ?_
      rintro e w' ⟨rfl, rfl⟩
      go_wp2
      go_ret2
      exact ⟨rfl, Below.refl _ _⟩
  have hd : decide (2048 < s.size) = false := by simpa using h
  rw [hd] at C S'
  rw [Bool.false_or] at C
  clear hd
  by_cases h' : 2048 < u.size
  · have hd : decide (2048 < u.size) = true := by simpa using h'
    rw [hd] at C U'
    clear hd
    refine ⟨nos, 3, fun w => ?_, fun w => ?_⟩
    · go_enter Tryd.func52, Tryd.ntmps52
      go_wp2_with fail
      refine (C.out _ _ _ (by go_simp) (by go_simp)).mono ?_
      rintro e w' ⟨rfl, rfl⟩
      go_wp2
      go_ret2
      exact ⟨rfl, (Below.refl _ _).alloc (Nat.le_refl _) _⟩
    · go_enter Tryd.func53, Tryd.ntmps53
      go_wp2_with fail
      refine (S'.out _).mono ?_
      rintro e w' ⟨rfl, rfl⟩
      go_wp2_with fail
      refine (U'.out _).mono ?_
      rintro e w' ⟨rfl, rfl⟩
      go_wp2
      go_ret2
      exact ⟨rfl, Below.refl _ _⟩
  have hd : decide (2048 < u.size) = false := by simpa using h'
  rw [hd] at C U'
  clear hd
  obtain ⟨p, q, hpq, hq, c1, c2⟩ := cut_both s (by omega) a n ha hn
  have C1 := Lib.hid c1; clear c1
  have C2 := Lib.hid c2; clear c2
  have i1 : (p : Int) ≤ s.size := by omega
  have i2 : (q : Int) ≤ s.size := by omega
  have hX : (s.extract 0 p ++ u ++ s.extract q s.size).size ≤ maxLen := by unfold maxLen; simp; omega
  obtain ⟨t, x, f1, f2⟩ := fit_both (s.extract 0 p ++ u ++ s.extract q s.size) hX
  have F1 := Lib.hid f1; clear f1
  have F2 := Lib.hid f2; clear f2
  clear hX
  refine ⟨t, x, fun w => ?_, fun w => ?_⟩
  · go_enter Tryd.func52, Tryd.ntmps52
    go_wp2_with fail
    refine (C.out _ _ _ (by go_simp) (by go_simp)).mono ?_
    rintro e w' ⟨rfl, rfl⟩
    go_wp2_with fail
    refine (C1.out _).mono ?_
    rintro e w' ⟨rfl, rfl⟩
    go_wp2_with fail
    go_region_with (go_at_call 99; refine (F1.out _).mono ?_; rintro e w2 ⟨rfl, hb2⟩)
    all_goals go_wp2
    all_goals refine bodyPost_ret (v := .tuple #[.string t, .int .i64 x]) (by first | (simp [results, Tryd.results52, go_sem]; done) | (go_simp; simp [results, Tryd.results52, go_sem])) rfl ⟨rfl, ?_⟩
    all_goals exact ((Below.refl _ _).alloc (Nat.le_refl _) _).drew.trans (hb2.mono (by simp))
  · go_enter Tryd.func53, Tryd.ntmps53
    go_wp2_with fail
    refine (S'.out _).mono ?_
    rintro e w' ⟨rfl, rfl⟩
    go_wp2_with fail
    refine (U'.out _).mono ?_
    rintro e w' ⟨rfl, rfl⟩
    go_wp2_with fail
    refine (C2.out _).mono ?_
    rintro e w' ⟨rfl, rfl⟩
    go_wp2_with fail
    go_region_with (go_at_call 100; refine (F2.out _).mono ?_; rintro e w2 ⟨rfl, rfl⟩)
    all_goals go_wp2
    all_goals refine bodyPost_ret (v := .tuple #[.string t, .int .i64 x]) (by first | (simp [results, Tryd.results53, go_sem]; done) | (go_simp; simp [results, Tryd.results53, go_sem])) rfl ⟨rfl, ?_⟩
    all_goals repeat (first | (with_reducible exact Below.refl _ _) | (with_reducible refine Below.drew ?_))
end Go.Proofs.YtfgadkknfehkcaaDoor
