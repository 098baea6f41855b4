/- The walks of Trim and Pad of both. -/
import Derived.Test.YtfgadkknfehkcaaDoorTrim
import Derived.Test.YtfgadkknfehkcaaDoorStr
namespace Go.Proofs.YtfgadkknfehkcaaDoor
open Go.RowKit
set_option linter.unusedVariables false

theorem tr_cons (x : UInt8) (l : List UInt8) (c : UInt8) : Lib.trimRightB (x :: l) c = if (Lib.trimRightB l c).isEmpty = true ∧ x = c then [] else x :: Lib.trimRightB l c := by
  unfold Lib.trimRightB
  rw [List.reverse_cons, List.dropWhile_append]
  by_cases h : (List.dropWhile (fun y => y == c) l.reverse).isEmpty = true
  · rw [if_pos h]
    have h' : List.dropWhile (fun y => y == c) l.reverse = [] := by simpa using h
    rw [h']
    by_cases hx : x = c
    · rw [if_pos ⟨rfl, hx⟩]; simp [hx]
    · rw [if_neg (fun q => hx q.2)]; simp [hx]
  · rw [if_neg h, if_neg (fun q => h (by simpa using q.1))]; simp
theorem trim_both (l : List UInt8) (c : UInt8) : Lib.trimRightB (Lib.trimLeftB l c) c = Lib.trimB l c := by
  unfold Lib.trimB
  induction l with
  | nil => rfl
  | cons x l ih =>
    rw [tr_cons]
    by_cases hx : x = c
    · have e : Lib.trimLeftB (x :: l) c = Lib.trimLeftB l c := by unfold Lib.trimLeftB; rw [List.dropWhile_cons_of_pos (by simpa using hx)]
      rw [e, ih]
      by_cases h : (Lib.trimRightB l c).isEmpty = true
      · rw [if_pos ⟨h, hx⟩]
        have : Lib.trimRightB l c = [] := by simpa using h
        rw [this]
      · rw [if_neg (fun q => h q.1)]
        unfold Lib.trimLeftB; rw [List.dropWhile_cons_of_pos (by simpa using hx)]
    · have e : Lib.trimLeftB (x :: l) c = x :: l := by unfold Lib.trimLeftB; rw [List.dropWhile_cons_of_neg (by simpa using hx)]
      rw [e, tr_cons, if_neg (fun q => hx q.2)]
      unfold Lib.trimLeftB; rw [List.dropWhile_cons_of_neg (by simpa using hx)]

/-- Trim of both: one answer. -/
abbrev TrIs (s : ByteArray) (side : Int) (t : ByteArray) (x : Int) : Prop :=
  (∀ w, Calls Tryd.prog 46 #[.string s, .int .i64 side] w fun e w' => e = .returned (.tuple #[.string t, .int .i64 x]) ∧ Below w.heap.size w w') ∧
  (∀ w, Calls Tryd.prog 47 #[.string s, .int .i64 side] w fun e w' => e = .returned (.tuple #[.string t, .int .i64 x]) ∧ w = w')

theorem large_one (s : ByteArray) (hs : s.size ≤ maxLen) (b cap : Nat) (w : World) (hc : w.cell? ⟨b, 0, none⟩ = some (.string s)) :
    Calls Tryd.prog 93 #[.slice (some ⟨b, 0, none⟩) 1 cap] w fun e w' => e = .returned (.bool (decide (2048 < s.size))) ∧ w = w' := by
  have := isLarge_any b cap [s] (by simpa using hs) (by simp) w (fun i hi => by
    have : i = 0 := by simpa using hi
    subst this; exact hc)
  rw [show larges [s] = decide (2048 < s.size) from by simp [larges]] at this
  exact this

set_option maxHeartbeats 2000000 in
theorem trim_large (s : ByteArray) (side : Int) (hs : s.size ≤ maxLen) (h : 2048 < s.size) : TrIs s side nos 3 := by
  have hd : decide (2048 < s.size) = true := by simpa using h
  have C := Lib.hid (fun b cap w hc => large_one s hs b cap w hc)
  have C' := Lib.hid (long_any s hs)
  rw [hd] at C C'
  clear hd
  refine ⟨fun w => ?_, fun w => ?_⟩
  · go_enter Tryd.func46, Tryd.ntmps46
    go_wp2_with fail
    refine (C.out _ _ _ (by go_simp)).mono ?_
    rintro e w' ⟨rfl, rfl⟩
    go_wp2
    go_ret2
    exact ⟨rfl, (Below.refl _ _).alloc (Nat.le_refl _) _⟩
  · go_enter Tryd.func47, Tryd.ntmps47
    go_wp2_with fail
    refine (C'.out _).mono ?_
    rintro e w' ⟨rfl, rfl⟩
    go_wp2
    go_ret2
    exact ⟨rfl, rfl⟩
set_option maxHeartbeats 4000000 in
theorem trim_small (s : ByteArray) (side : Int) (h : ¬ 2048 < s.size) : ∃ t x, TrIs s side t x := by
  have hs : s.size ≤ maxLen := by unfold maxLen; omega
  have hd : decide (2048 < s.size) = false := by simpa using h
  have C := Lib.hid (fun b cap w hc => large_one s hs b cap w hc)
  have C' := Lib.hid (long_any s hs)
  rw [hd] at C C'
  clear hd
  by_cases s0 : side = 0
  · subst s0
    refine ⟨trimR s, 0, fun w => ?_, fun w => ?_⟩
    · go_enter Tryd.func46, Tryd.ntmps46
      go_wp2_with fail
      refine (C.out _ _ _ (by go_simp)).mono ?_
      rintro e w' ⟨rfl, rfl⟩
      go_wp2_with fail
      refine (trimR_any s _ hs).mono ?_
      rintro e w' ⟨rfl, rfl⟩
      go_wp2
      go_ret2
      exact ⟨rfl, (Below.refl _ _).alloc (Nat.le_refl _) _⟩
    · go_enter Tryd.func47, Tryd.ntmps47
      go_wp2_with fail
      refine (C'.out _).mono ?_
      rintro e w' ⟨rfl, rfl⟩
      go_wp2_with fail
      refine (Bare_any s _ hs).mono ?_
      rintro e w' ⟨rfl, rfl⟩
      go_wp2
      go_ret2
      exact ⟨rfl, rfl⟩
  have t0 : (side == 0) = false := by simpa using s0
  by_cases s1 : side = 1
  · subst s1
    refine ⟨trimL s, 0, fun w => ?_, fun w => ?_⟩
    · go_enter Tryd.func46, Tryd.ntmps46
      go_wp2_with fail
      refine (C.out _ _ _ (by go_simp)).mono ?_
      rintro e w' ⟨rfl, rfl⟩
      go_wp2_with fail
      refine (Tryd.strings_TrimLeft_one s 32 (by decide) _).mono ?_
      rintro e w' ⟨rfl, rfl⟩
      go_wp2
      go_ret2
      exact ⟨rfl, (Below.refl _ _).alloc (Nat.le_refl _) _⟩
    · go_enter Tryd.func47, Tryd.ntmps47
      go_wp2_with fail
      refine (C'.out _).mono ?_
      rintro e w' ⟨rfl, rfl⟩
      go_wp2_with fail
      refine (front_any s hs _).mono ?_
      rintro e w' ⟨rfl, rfl⟩
      go_wp2
      go_ret2
      exact ⟨rfl, rfl⟩
  have t1 : (side == 1) = false := by simpa using s1
  by_cases s2 : side = 2
  · subst s2
    have hl : (trimL s).size ≤ maxLen := Nat.le_trans (trimLeft_le s) hs
    have hb : trimR (trimL s) = ⟨(Lib.trimB s.data.toList 32).toArray⟩ := by
      unfold trimR trimL
      rw [← trim_both]
    have HB := Lib.hid hb; clear hb
    refine ⟨trimR (trimL s), 0, fun w => ?_, fun w => ?_⟩
    · go_enter Tryd.func46, Tryd.ntmps46
      go_wp2_with fail
      refine (C.out _ _ _ (by go_simp)).mono ?_
      rintro e w' ⟨rfl, rfl⟩
      go_wp2_with fail
      refine (Tryd.strings_Trim_one s 32 (by decide) _ hs).mono ?_
      rintro e w1 ⟨rfl, hw⟩
      rw [← HB.out]
      rcases hw with rfl | rfl
      · go_wp2
        go_ret2
        exact ⟨rfl, (Below.refl _ _).alloc (Nat.le_refl _) _⟩
      · go_wp2
        go_ret2
        exact ⟨rfl, ((Below.refl _ _).alloc (Nat.le_refl _) _).drew⟩
    · go_enter Tryd.func47, Tryd.ntmps47
      go_wp2_with fail
      refine (C'.out _).mono ?_
      rintro e w' ⟨rfl, rfl⟩
      go_wp2_with fail
      refine (front_any s hs _).mono ?_
      rintro e w' ⟨rfl, rfl⟩
      go_wp2_with fail
      refine (Bare_any _ _ hl).mono ?_
      rintro e w' ⟨rfl, rfl⟩
      go_wp2
      go_ret2
      exact ⟨rfl, rfl⟩
  have t2 : (side == 2) = false := by simpa using s2
  clear s0 s1 s2
  refine ⟨nos, 1, fun w => ?_, fun w => ?_⟩
  · go_enter Tryd.func46, Tryd.ntmps46
    go_wp2_with fail
    refine (C.out _ _ _ (by go_simp)).mono ?_
    rintro e w' ⟨rfl, rfl⟩
    go_wp2
    go_ret2
    exact ⟨rfl, (Below.refl _ _).alloc (Nat.le_refl _) _⟩
  · go_enter Tryd.func47, Tryd.ntmps47
    go_wp2_with fail
    refine (C'.out _).mono ?_
    rintro e w' ⟨rfl, rfl⟩
    go_wp2
    go_ret2
    exact ⟨rfl, rfl⟩
theorem trim_any (s : ByteArray) (side : Int) (hs : s.size ≤ maxLen) : ∃ t x, TrIs s side t x := by
  by_cases h : 2048 < s.size
  · exact ⟨nos, 3, trim_large s side hs h⟩
  · exact trim_small s side h
end Go.Proofs.YtfgadkknfehkcaaDoor
