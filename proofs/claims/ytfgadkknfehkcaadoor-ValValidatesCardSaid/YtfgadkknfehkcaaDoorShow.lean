/- The walks of Show of the program and of the reference. -/
import Derived.Test.YtfgadkknfehkcaaDoorStamp2
import Derived.Test.YtfgadkknfehkcaaDoorRefVal
import Derived.Test.YtfgadkknfehkcaaDoorKnown
namespace Go.Proofs.YtfgadkknfehkcaaDoor
open Go.RowKit
set_option linter.unusedVariables false

abbrev ShowIs (k n : Int) (s t : ByteArray) (x : Int) : Prop :=
  ∀ w, Tab w → Pow w → Calls Tryd.prog 17 #[vv k n s] w fun e w' => e = .returned (.tuple #[.string t, .int .i64 x]) ∧ Below w.heap.size w w'
abbrev ShownIs (k n : Int) (s t : ByteArray) : Prop :=
  ∀ w, Calls Tryd.prog 61 #[vv k n s] w fun e w' => e = .returned (.string t) ∧ Below w.heap.size w w'

set_option maxHeartbeats 400000 in
theorem Show_err (k n : Int) (s : ByteArray) (hs : s.size ≤ maxLen) (x : Int) (h : vE k n s = x) (hx : x ≠ 0) : ShowIs k n s nos x := by
  intro w _ _
  have hb : (x != 0) = true := by simpa using hx
  have HV := Lib.hid h; clear h hx
  go_enter Tryd.func17, Tryd.ntmps17
  go_wp2_with fail
  refine (validate_any _ _ _ _ hs).mono ?_
  rintro e w1 ⟨rfl, hb1⟩
  rw [HV.out]
  go_wp2
  go_ret2
  exact ⟨rfl, ((Below.refl _ _).alloc (Nat.le_refl _) _).trans (hb1.mono (by simp))⟩

set_option maxHeartbeats 1000000 in
theorem Show_plain (k n : Int) (s t : ByteArray) (hs : s.size ≤ maxLen) (h : vE k n s = 0)
    (hk : (k = 0 ∧ t = ⟨#[78, 73, 76]⟩) ∨ (k = 1 ∧ n = 1 ∧ t = ⟨#[46, 84, 46]⟩) ∨ (k = 1 ∧ (n == 1) = false ∧ t = ⟨#[46, 70, 46]⟩) ∨ (k = 4 ∧ t = s)) : ShowIs k n s t 0 ∧ ShownIs k n s t := by
  have HV := Lib.hid h; clear h
  rcases hk with ⟨rfl, rfl⟩ | ⟨rfl, rfl, rfl⟩ | ⟨rfl, h1, rfl⟩ | ⟨rfl, rfl⟩
  all_goals
    constructor
    · intro w _ _
      go_enter Tryd.func17, Tryd.ntmps17
      go_wp2_with fail
      refine (validate_any _ _ _ _ hs).mono ?_
      rintro e w1 ⟨rfl, hb1⟩
      rw [HV.out]
      obtain ⟨hc1, hf1⟩ := bcell hb1
      have ha1 : w.heap.size < w1.heap.size := by have := hb1.size; simp at *; omega
      go_wp2
      go_ret2
      exact ⟨rfl, ((Below.refl _ _).alloc (Nat.le_refl _) _).trans (hb1.mono (by simp))⟩
    · intro w
      go_enter Tryd.func61, Tryd.ntmps61
      go_wp2
      go_ret
      exact ⟨rfl, (Below.refl _ _).alloc (Nat.le_refl _) _⟩

set_option maxHeartbeats 1000000 in
theorem Show_num (n : Int) (s : ByteArray) (hs : s.size ≤ maxLen) (h : vE 2 n s = 0) (b : -9223372036854775808 ≤ n ∧ n ≤ 9223372036854775807) : ShowIs 2 n s (dec n) 0 ∧ ShownIs 2 n s (dec n) := by
  have HV := Lib.hid h; clear h
  constructor
  · intro w _ hw
    have HW := Lib.hid hw; clear hw
    go_enter Tryd.func17, Tryd.ntmps17
    go_wp2_with fail
    refine (validate_any _ _ _ _ hs).mono ?_
    rintro e w1 ⟨rfl, hb1⟩
    rw [HV.out]
    obtain ⟨hc1, hf1⟩ := bcell hb1
    have ha1 : w.heap.size < w1.heap.size := by have := hb1.size; simp at *; omega
    have hb1' : Below w.heap.size w w1 := ((Below.refl _ _).alloc (Nat.le_refl _) _).trans (hb1.mono (by simp))
    go_wp2_with fail
    refine (decimal_any n b.1 b.2 _ (HW.out.below hb1')).mono ?_
    rintro e w2 ⟨rfl, hb2⟩
    go_wp2
    go_ret2
    exact ⟨rfl, hb1'.trans (hb2.mono (by omega))⟩
  · intro w
    go_enter Tryd.func61, Tryd.ntmps61
    go_wp2_with fail
    refine (Written_any n b.1 b.2 _).mono ?_
    rintro e w' ⟨rfl, rfl⟩
    go_wp2
    go_ret
    exact ⟨rfl, (Below.refl _ _).alloc (Nat.le_refl _) _⟩

def dashed (st : ByteArray) : ByteArray := st.extract 0 4 ++ ⟨#[45]⟩ ++ st.extract 4 6 ++ ⟨#[45]⟩ ++ st.extract 6 8

set_option maxHeartbeats 2000000 in
theorem Show_date (n : Int) (s st : ByteArray) (x : Int) (hs : s.size ≤ maxLen) (h : vE 3 n s = 0) (hst : st.size = 8)
    (c : ∀ w, Tab w → Pow w → Calls Tryd.prog 60 #[.int .i64 n] w fun e w' => e = .returned (.string st) ∧ Below w.heap.size w w')
    (c' : ∀ w, Calls Tryd.prog 41 #[.int .i64 n] w fun e w' => e = .returned (.tuple #[.string st, .int .i64 x]) ∧ w = w') : ShowIs 3 n s (dashed st) 0 ∧ ShownIs 3 n s (dashed st) := by
  have HV := Lib.hid h; clear h
  have C := Lib.hid c; clear c
  have C' := Lib.hid c'; clear c'
  constructor
  · intro w ht hw
    have hp := ht.pos
    have HT := Lib.hid ht; clear ht
    have HW := Lib.hid hw; clear hw
    go_enter Tryd.func17, Tryd.ntmps17
    go_wp2_with fail
    refine (validate_any _ _ _ _ hs).mono ?_
    rintro e w1 ⟨rfl, hb1⟩
    rw [HV.out]
    obtain ⟨hc1, hf1⟩ := bcell hb1
    have ha1 : w.heap.size < w1.heap.size := by have := hb1.size; simp at *; omega
    have hb1' : Below w.heap.size w w1 := ((Below.refl _ _).alloc (Nat.le_refl _) _).trans (hb1.mono (by simp))
    go_wp2_with fail
    refine (C.out _ (HT.out.below hb1' hp) (HW.out.below hb1')).mono ?_
    rintro e w2 ⟨rfl, hb2⟩
    have hbw : Below w.heap.size w w2 := hb1'.trans (hb2.mono (by omega))
    go_wp2_with fail
    go_region
    all_goals go_wp2
    all_goals go_ret2
    all_goals refine ⟨rfl, ?_⟩
    all_goals repeat (first | (with_reducible exact hbw) | (with_reducible refine Below.drew ?_))
  · intro w
    go_enter Tryd.func61, Tryd.ntmps61
    go_wp2_with fail
    refine (C'.out _).mono ?_
    rintro e w' ⟨rfl, rfl⟩
    go_wp2_with fail
    go_region
    all_goals go_wp2
    all_goals go_ret
    all_goals refine ⟨rfl, ?_⟩
    all_goals repeat (first | (with_reducible exact (Below.refl _ _).alloc (Nat.le_refl _) _) | (with_reducible refine Below.drew ?_))

theorem stampB_size (y m d : Int) (h : Cal.Ok y m d) : (stampB y m d).size = 8 := by
  obtain ⟨a, b, c, e, f, g⟩ := h
  have hm := Cal.ml_bd y m
  have s1 := dec_le y 3 (by omega) (by omega)
  have s2 := dec_le m 1 (by omega) (by omega)
  have s3 := dec_le d 1 (by omega) (by omega)
  unfold stampB
  rw [ByteArray.size_append, ByteArray.size_append, pad_size y 4 s1, pad_size m 2 s2, pad_size d 2 s3]

/-- Show of both: one answer. -/
theorem show_value (k n : Int) (s : ByteArray) (hs : s.size ≤ maxLen) (hn : -9223372036854775808 ≤ n ∧ n ≤ 9223372036854775807) (h : vE k n s = 0) : ∃ t, ShowIs k n s t 0 ∧ ShownIs k n s t := by
  have hl : ¬ 2048 < s.size := fun q => by simp [vE, q] at h
  have hv : isV k n s.toList.isEmpty = true := by
    cases hq : isV k n s.toList.isEmpty
    · simp [vE, hl, hq] at h
    · rfl
  by_cases k4 : k = 4
  · exact ⟨s, Show_plain k n s s hs h (.inr (.inr (.inr ⟨k4, rfl⟩)))⟩
  have he : s.toList.isEmpty = true := by
    cases hq : s.toList.isEmpty
    · simp [isV, k4, hq] at hv
    · rfl
  rw [he] at hv
  by_cases k0 : k = 0
  · exact ⟨_, Show_plain k n s _ hs h (.inl ⟨k0, rfl⟩)⟩
  by_cases k1 : k = 1
  · by_cases n1 : n = 1
    · exact ⟨_, Show_plain k n s _ hs h (.inr (.inl ⟨k1, n1, rfl⟩))⟩
    · exact ⟨_, Show_plain k n s _ hs h (.inr (.inr (.inl ⟨k1, by simpa using n1, rfl⟩)))⟩
  by_cases k2 : k = 2
  · subst k2
    exact ⟨_, Show_num n s hs h hn⟩
  by_cases k3 : k = 3
  · subst k3
    have hd : 0 ≤ n ∧ n ≤ 3652059 := by simpa [isV] using hv
    by_cases z : n = 0
    · subst z
      exact ⟨_, Show_date 0 s blanks 0 hs h rfl (fun w _ _ => (stamp_zero w).mono fun e w' hq => ⟨hq.1, hq.2 ▸ Below.refl _ _⟩) (fun w => refStamp_zero w)⟩
    · obtain ⟨y, m, d, ok, hq⟩ := Cal.num_all n (by omega) hd.2
      exact ⟨_, Show_date n s (stampB y m d) 0 hs h (stampB_size y m d ok) (fun w ht hp => stamp_of y m d n w ok hq ht hp) (fun w => refStamp_of y m d n w ok hq)⟩
  · simp [isV, k0, k1, k2, k3, k4] at hv

set_option maxHeartbeats 1000000 in
theorem show_both (k n : Int) (s : ByteArray) (hs : s.size ≤ maxLen) (hn : -9223372036854775808 ≤ n ∧ n ≤ 9223372036854775807) : ∃ (t : ByteArray) (x : Int), ShowIs k n s t x ∧
    (∀ w, Calls Tryd.prog 18 #[vv k n s] w fun e w' => e = .returned (.tuple #[.string t, .int .i64 x]) ∧ Below w.heap.size w w') := by
  by_cases h : vE k n s = 0
  · obtain ⟨t, h1, h2⟩ := show_value k n s hs hn h
    refine ⟨t, 0, h1, fun w => ?_⟩
    have HV := Lib.hid h; clear h
    have C := Lib.hid h2; clear h2 h1
    go_enter Tryd.func18, Tryd.ntmps18
    go_wp2_with fail
    refine (refValidate_any _ _ _ _ hs).mono ?_
    rintro e w1 ⟨rfl, hb1⟩
    rw [HV.out]
    obtain ⟨hc1, hf1⟩ := bcell hb1
    have ha1 : w.heap.size < w1.heap.size := by have := hb1.size; simp at *; omega
    have hb1' : Below w.heap.size w w1 := ((Below.refl _ _).alloc (Nat.le_refl _) _).trans (hb1.mono (by simp))
    go_wp2_with fail
    refine (C.out _).mono ?_
    rintro e w2 ⟨rfl, hb2⟩
    go_wp2
    go_ret2
    exact ⟨rfl, hb1'.trans (hb2.mono (by omega))⟩
  · refine ⟨nos, vE k n s, Show_err k n s hs _ rfl h, fun w => ?_⟩
    have hb : (vE k n s != 0) = true := by simpa using h
    generalize hx : vE k n s = x at *
    have HV := Lib.hid hx; clear hx h
    go_enter Tryd.func18, Tryd.ntmps18
    go_wp2_with fail
    refine (refValidate_any _ _ _ _ hs).mono ?_
    rintro e w1 ⟨rfl, hb1⟩
    rw [HV.out]
    go_wp2
    go_ret2
    exact ⟨rfl, ((Below.refl _ _).alloc (Nat.le_refl _) _).trans (hb1.mono (by simp))⟩
end Go.Proofs.YtfgadkknfehkcaaDoor
