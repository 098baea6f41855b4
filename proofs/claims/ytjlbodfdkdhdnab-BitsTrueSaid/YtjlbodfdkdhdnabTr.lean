/- True of the program and of the reference. -/
import Derived.Test.YtjlbodfdkdhdnabSr
namespace Go.Proofs.Ytjlbodfdkdhdnab
open Go.RowKit
set_option linter.unusedVariables false
set_option linter.unusedSimpArgs false

def trB (s m y : List Int) : Bool := decide ((lessL s y).length = 0) && decide ((lessL y m).length = 0)
def TRes (w : World) (b : Bool) (n : Int) (e : Ending) (w' : World) : Prop := e = .returned (.tuple #[.bool b, .int .i64 n]) ∧ Below w.heap.size w w'

set_option maxHeartbeats 4000000 in
theorem true_ok (A A2 A3 : Option Addr) (c c2 c3 : Nat) (s m y : List Int) (w : World) (h1 : Lk w w.heap.size A s c) (h2 : Lk w w.heap.size A2 m c2) (h3 : Lk w w.heap.size A3 y c3) (hv : VN s m = 0) (hy : isSetB 300 y = true) (i1 : IsS s) (i2 : IsS m) (i3 : IsS y) :
    Calls Try.prog 25 #[.agg #[.slice A s.length c, .slice A2 m.length c2], .slice A3 y.length c3] w (TRes w (trB s m y) 0) := by
  have C1 : Hid (∀ W, Below w.heap.size w W → w.heap.size ≤ W.heap.size → Calls Try.prog 54 #[.slice A s.length c, .slice A3 y.length c3] W fun e w' => ∃ A c, e = .returned (.slice A (lessL s y).length c) ∧ Below W.heap.size W w') :=
    Lib.hid fun W hb hz => (without_any A A3 c c3 s y W ((h1.below hb).more hz) ((h3.below hb).more hz)).mono fun e w' ⟨v, h1, h2, h3⟩ => by
      obtain ⟨A, c, rfl, _⟩ := h2.out; exact ⟨A, c, h1, h3⟩
  have C2 : Hid (∀ W, Below w.heap.size w W → w.heap.size ≤ W.heap.size → Calls Try.prog 54 #[.slice A3 y.length c3, .slice A2 m.length c2] W fun e w' => ∃ A c, e = .returned (.slice A (lessL y m).length c) ∧ Below W.heap.size W w') :=
    Lib.hid fun W hb hz => (without_any A3 A2 c3 c2 y m W ((h3.below hb).more hz) ((h2.below hb).more hz)).mono fun e w' ⟨v, h1, h2, h3⟩ => by
      obtain ⟨A, c, rfl, _⟩ := h2.out; exact ⟨A, c, h1, h3⟩
  unfold trB TRes
  generalize (lessL s y).length = n1 at *
  generalize (lessL y m).length = n2 at *
  clear i1 i2 i3
  by_cases a1 : n1 = 0
  · subst a1
    by_cases a2 : n2 = 0
    · subst a2
      have H1 := Lib.hid h1; clear h1
      have H2 := Lib.hid h2; clear h2
      have H3 := Lib.hid h3; clear h3
      have HV := Lib.hid hv; clear hv
      go_enter Try.func25, Try.ntmps25
      go_wp2_with fail
      refine (validate_any A A2 c c2 s m _ ((H1.out.alloc (Nat.le_refl _) _).more (by simp)) ((H2.out.alloc (Nat.le_refl _) _).more (by simp))).mono ?_
      rintro e w1 ⟨rfl, hb1⟩
      rw [HV.out]
      obtain ⟨k2, hz1, hw1⟩ := one_of hb1
      obtain ⟨q1, q2, _, _⟩ := two_cells k2
      have K2 := Lib.hid k2; clear k2
      have HW1 := Lib.hid hw1; clear hw1
      have HB1 := Lib.hid hb1; clear hb1
      go_wp2_with fail
      refine (isSet_any A3 c3 y 300 _ _ (H3.out.below HW1.out).rd H3.out.i64 (by have := H3.out.len; omega)).mono ?_
      rintro e w' ⟨rfl, rfl⟩
      rw [hy]
      go_wp2_with fail
      refine (C1.out _ HW1.out (by omega)).mono ?_
      rintro e w2 ⟨D1, d1, rfl, hb2⟩
      have HW2 := Lib.hid (HW1.out.trans (hb2.mono (by omega)))
      have hz2 : w.heap.size + 1 ≤ w2.heap.size := by have := hb2.size; omega
      have q1' := (hb2.cell (p := ⟨w.heap.size, 0, none⟩) (by simp; omega)).trans q1
      have q2' := (hb2.cell (p := ⟨w.heap.size, 1, none⟩) (by simp; omega)).trans q2
      clear hb2 q1 q2
      have q1 := q1'; have q2 := q2'
      clear q1' q2'
      go_wp2_with fail
      refine (C2.out _ HW2.out (by omega)).mono ?_
      rintro e w3 ⟨D2, d2, rfl, hb3⟩
      have HW3 := Lib.hid (HW2.out.trans (hb3.mono (by omega)))
      clear hb3
      go_wp2_with fail
      go_ret2
      exact ⟨by simp , HW3.out⟩
    · have b2 : decide ((n2 : Int) = 0) = false := by simpa using a2
      have b2' : ((n2 : Int) == 0) = false := by simpa using a2
      have H1 := Lib.hid h1; clear h1
      have H2 := Lib.hid h2; clear h2
      have H3 := Lib.hid h3; clear h3
      have HV := Lib.hid hv; clear hv
      go_enter Try.func25, Try.ntmps25
      go_wp2_with fail
      refine (validate_any A A2 c c2 s m _ ((H1.out.alloc (Nat.le_refl _) _).more (by simp)) ((H2.out.alloc (Nat.le_refl _) _).more (by simp))).mono ?_
      rintro e w1 ⟨rfl, hb1⟩
      rw [HV.out]
      obtain ⟨k2, hz1, hw1⟩ := one_of hb1
      obtain ⟨q1, q2, _, _⟩ := two_cells k2
      have K2 := Lib.hid k2; clear k2
      have HW1 := Lib.hid hw1; clear hw1
      have HB1 := Lib.hid hb1; clear hb1
      go_wp2_with fail
      refine (isSet_any A3 c3 y 300 _ _ (H3.out.below HW1.out).rd H3.out.i64 (by have := H3.out.len; omega)).mono ?_
      rintro e w' ⟨rfl, rfl⟩
      rw [hy]
      go_wp2_with fail
      refine (C1.out _ HW1.out (by omega)).mono ?_
      rintro e w2 ⟨D1, d1, rfl, hb2⟩
      have HW2 := Lib.hid (HW1.out.trans (hb2.mono (by omega)))
      have hz2 : w.heap.size + 1 ≤ w2.heap.size := by have := hb2.size; omega
      have q1' := (hb2.cell (p := ⟨w.heap.size, 0, none⟩) (by simp; omega)).trans q1
      have q2' := (hb2.cell (p := ⟨w.heap.size, 1, none⟩) (by simp; omega)).trans q2
      clear hb2 q1 q2
      have q1 := q1'; have q2 := q2'
      clear q1' q2'
      go_wp2_with fail
      refine (C2.out _ HW2.out (by omega)).mono ?_
      rintro e w3 ⟨D2, d2, rfl, hb3⟩
      have HW3 := Lib.hid (HW2.out.trans (hb3.mono (by omega)))
      clear hb3
      go_wp2_with fail
      go_ret2
      exact ⟨by simp [a2], HW3.out⟩
  · have b1 : decide ((n1 : Int) = 0) = false := by simpa using a1
    have b1' : ((n1 : Int) == 0) = false := by simpa using a1
    have H1 := Lib.hid h1; clear h1
    have H2 := Lib.hid h2; clear h2
    have H3 := Lib.hid h3; clear h3
    have HV := Lib.hid hv; clear hv
    go_enter Try.func25, Try.ntmps25
    go_wp2_with fail
    refine (validate_any A A2 c c2 s m _ ((H1.out.alloc (Nat.le_refl _) _).more (by simp)) ((H2.out.alloc (Nat.le_refl _) _).more (by simp))).mono ?_
    rintro e w1 ⟨rfl, hb1⟩
    rw [HV.out]
    obtain ⟨k2, hz1, hw1⟩ := one_of hb1
    obtain ⟨q1, q2, _, _⟩ := two_cells k2
    have K2 := Lib.hid k2; clear k2
    have HW1 := Lib.hid hw1; clear hw1
    have HB1 := Lib.hid hb1; clear hb1
    go_wp2_with fail
    refine (isSet_any A3 c3 y 300 _ _ (H3.out.below HW1.out).rd H3.out.i64 (by have := H3.out.len; omega)).mono ?_
    rintro e w' ⟨rfl, rfl⟩
    rw [hy]
    go_wp2_with fail
    refine (C1.out _ HW1.out (by omega)).mono ?_
    rintro e w2 ⟨D1, d1, rfl, hb2⟩
    have HW2 := Lib.hid (HW1.out.trans (hb2.mono (by omega)))
    clear hb2
    go_wp2_with fail
    go_ret2
    exact ⟨by simp [a1], HW2.out⟩

set_option maxHeartbeats 4000000 in
theorem true_err (A A2 A3 : Option Addr) (c c2 c3 : Nat) (s m y : List Int) (w : World) (h1 : Lk w w.heap.size A s c) (h2 : Lk w w.heap.size A2 m c2) (h3 : Lk w w.heap.size A3 y c3) (hb : stB s m y = false) :
    Calls Try.prog 25 #[.agg #[.slice A s.length c, .slice A2 m.length c2], .slice A3 y.length c3] w (TRes w false 1) := by
  unfold TRes
  rcases VN_cases s m with ⟨hv, hvb⟩ | ⟨hv, hvb⟩
  · have hy : isSetB 300 y = false := by simpa [stB, hvb] using hb
    clear hb hvb
    have H1 := Lib.hid h1; clear h1
    have H2 := Lib.hid h2; clear h2
    have H3 := Lib.hid h3; clear h3
    have HV := Lib.hid hv; clear hv
    go_enter Try.func25, Try.ntmps25
    go_wp2_with fail
    refine (validate_any A A2 c c2 s m _ ((H1.out.alloc (Nat.le_refl _) _).more (by simp)) ((H2.out.alloc (Nat.le_refl _) _).more (by simp))).mono ?_
    rintro e w1 ⟨rfl, hb1⟩
    rw [HV.out]
    obtain ⟨k2, hz1, hw1⟩ := one_of hb1
    obtain ⟨q1, q2, _, _⟩ := two_cells k2
    have K2 := Lib.hid k2; clear k2
    have HW1 := Lib.hid hw1; clear hw1
    have HB1 := Lib.hid hb1; clear hb1
    go_wp2_with fail
    refine (isSet_any A3 c3 y 300 _ _ (H3.out.below HW1.out).rd H3.out.i64 (by have := H3.out.len; omega)).mono ?_
    rintro e w' ⟨rfl, rfl⟩
    rw [hy]
    go_wp2_with fail
    go_ret2
    exact ⟨rfl, HW1.out⟩
  · clear hb hvb
    have H1 := Lib.hid h1; clear h1
    have H2 := Lib.hid h2; clear h2
    have H3 := Lib.hid h3; clear h3
    have HV := Lib.hid hv; clear hv
    go_enter Try.func25, Try.ntmps25
    go_wp2_with fail
    refine (validate_any A A2 c c2 s m _ ((H1.out.alloc (Nat.le_refl _) _).more (by simp)) ((H2.out.alloc (Nat.le_refl _) _).more (by simp))).mono ?_
    rintro e w1 ⟨rfl, hb1⟩
    rw [HV.out]
    obtain ⟨k2, hz1, hw1⟩ := one_of hb1
    obtain ⟨q1, q2, _, _⟩ := two_cells k2
    have K2 := Lib.hid k2; clear k2
    have HW1 := Lib.hid hw1; clear hw1
    have HB1 := Lib.hid hb1; clear hb1
    go_wp2_with fail
    go_ret2
    exact ⟨rfl, HW1.out⟩

theorem true_any (A A2 A3 : Option Addr) (c c2 c3 : Nat) (s m y : List Int) (w : World) (h1 : Lk w w.heap.size A s c) (h2 : Lk w w.heap.size A2 m c2) (h3 : Lk w w.heap.size A3 y c3) : Calls Try.prog 25 #[.agg #[.slice A s.length c, .slice A2 m.length c2], .slice A3 y.length c3] w (TRes w (stB s m y && trB s m y) (if stB s m y then 0 else 1)) := by
  cases h : stB s m y
  · simpa using true_err A A2 A3 c c2 c3 s m y w h1 h2 h3 h
  · have h' := h
    simp only [stB, Bool.and_eq_true] at h'
    have hv : VN s m = 0 := by rw [VN, h'.1]; rfl
    have hk := (VB_iff s m).1 h'.1
    simpa using true_ok A A2 A3 c c2 c3 s m y w h1 h2 h3 hv h'.2 hk.1 hk.2.1 ((IsS.iff y).1 h'.2)

set_option maxHeartbeats 4000000 in
theorem refTrue_ok (A A2 A3 : Option Addr) (c c2 c3 : Nat) (s m y : List Int) (w : World) (h1 : Lk w w.heap.size A s c) (h2 : Lk w w.heap.size A2 m c2) (h3 : Lk w w.heap.size A3 y c3) (hv : VN s m = 0) (hy : isSetB 300 y = true) (i1 : IsS s) (i2 : IsS m) (i3 : IsS y) :
    Calls Try.prog 26 #[.agg #[.slice A s.length c, .slice A2 m.length c2], .slice A3 y.length c3] w (TRes w (trB s m y) 0) := by
  have eC1 : s.filter (fun x => !decide (x ∈ y)) = lessL s y := lessL_eq i1.2 i3.2
  have C1 : Hid (∀ W, Below w.heap.size w W → w.heap.size ≤ W.heap.size → Calls Try.prog 59 #[.slice A s.length c, .slice A3 y.length c3] W fun e w' => ∃ A c, e = .returned (.slice A (lessL s y).length c) ∧ Below W.heap.size W w') :=
    Lib.hid fun W hb hz => (less_any A A3 c c3 s y W ((h1.below hb).more hz).rd ((h3.below hb).more hz).rd (by have := h1.len; omega) (by have := h3.len; omega)).mono fun e w' ⟨v, h1, h2, h3⟩ => by
      have h2 := h2.of_eq eC1
      obtain ⟨A, c, rfl, _⟩ := h2.out; exact ⟨A, c, h1, h3⟩
  clear eC1
  have eC2 : y.filter (fun x => !decide (x ∈ m)) = lessL y m := lessL_eq i3.2 i2.2
  have C2 : Hid (∀ W, Below w.heap.size w W → w.heap.size ≤ W.heap.size → Calls Try.prog 59 #[.slice A3 y.length c3, .slice A2 m.length c2] W fun e w' => ∃ A c, e = .returned (.slice A (lessL y m).length c) ∧ Below W.heap.size W w') :=
    Lib.hid fun W hb hz => (less_any A3 A2 c3 c2 y m W ((h3.below hb).more hz).rd ((h2.below hb).more hz).rd (by have := h3.len; omega) (by have := h2.len; omega)).mono fun e w' ⟨v, h1, h2, h3⟩ => by
      have h2 := h2.of_eq eC2
      obtain ⟨A, c, rfl, _⟩ := h2.out; exact ⟨A, c, h1, h3⟩
  clear eC2
  unfold trB TRes
  generalize (lessL s y).length = n1 at *
  generalize (lessL y m).length = n2 at *
  clear i1 i2 i3
  by_cases a1 : n1 = 0
  · subst a1
    by_cases a2 : n2 = 0
    · subst a2
      have H1 := Lib.hid h1; clear h1
      have H2 := Lib.hid h2; clear h2
      have H3 := Lib.hid h3; clear h3
      have HV := Lib.hid hv; clear hv
      go_enter Try.func26, Try.ntmps26
      go_wp2_with fail
      refine (refValidate_any A A2 c c2 s m _ ((H1.out.alloc (Nat.le_refl _) _).more (by simp)) ((H2.out.alloc (Nat.le_refl _) _).more (by simp))).mono ?_
      rintro e w1 ⟨rfl, hb1⟩
      rw [HV.out]
      obtain ⟨k2, hz1, hw1⟩ := one_of hb1
      obtain ⟨q1, q2, _, _⟩ := two_cells k2
      have K2 := Lib.hid k2; clear k2
      have HW1 := Lib.hid hw1; clear hw1
      have HB1 := Lib.hid hb1; clear hb1
      go_wp2_with fail
      refine (refIsSet_any A3 c3 y _ _ (H3.out.below HW1.out).rd H3.out.i64 (by have := H3.out.len; omega)).mono ?_
      rintro e wd ⟨rfl, hdr⟩
      rw [hy]
      have HWd := Lib.hid (Dr.below HW1.out hdr)
      obtain ⟨q1, q2, _, _⟩ := two_cells (K2.out.dr hdr)
      have hzd : w.heap.size + 1 ≤ wd.heap.size := by obtain ⟨n, rfl⟩ := hdr; simpa using hz1
      clear hdr
      go_wp2_with fail
      refine (C1.out _ HWd.out (by omega)).mono ?_
      rintro e w2 ⟨D1, d1, rfl, hb2⟩
      have HW2 := Lib.hid (HWd.out.trans (hb2.mono (by omega)))
      have hz2 : w.heap.size + 1 ≤ w2.heap.size := by have := hb2.size; omega
      have q1' := (hb2.cell (p := ⟨w.heap.size, 0, none⟩) (by simp; omega)).trans q1
      have q2' := (hb2.cell (p := ⟨w.heap.size, 1, none⟩) (by simp; omega)).trans q2
      clear hb2 q1 q2
      have q1 := q1'; have q2 := q2'
      clear q1' q2'
      go_wp2_with fail
      refine (C2.out _ HW2.out (by omega)).mono ?_
      rintro e w3 ⟨D2, d2, rfl, hb3⟩
      have HW3 := Lib.hid (HW2.out.trans (hb3.mono (by omega)))
      clear hb3
      go_wp2_with fail
      go_ret2
      exact ⟨by simp , HW3.out⟩
    · have b2 : decide ((n2 : Int) = 0) = false := by simpa using a2
      have b2' : ((n2 : Int) == 0) = false := by simpa using a2
      have H1 := Lib.hid h1; clear h1
      have H2 := Lib.hid h2; clear h2
      have H3 := Lib.hid h3; clear h3
      have HV := Lib.hid hv; clear hv
      go_enter Try.func26, Try.ntmps26
      go_wp2_with fail
      refine (refValidate_any A A2 c c2 s m _ ((H1.out.alloc (Nat.le_refl _) _).more (by simp)) ((H2.out.alloc (Nat.le_refl _) _).more (by simp))).mono ?_
      rintro e w1 ⟨rfl, hb1⟩
      rw [HV.out]
      obtain ⟨k2, hz1, hw1⟩ := one_of hb1
      obtain ⟨q1, q2, _, _⟩ := two_cells k2
      have K2 := Lib.hid k2; clear k2
      have HW1 := Lib.hid hw1; clear hw1
      have HB1 := Lib.hid hb1; clear hb1
      go_wp2_with fail
      refine (refIsSet_any A3 c3 y _ _ (H3.out.below HW1.out).rd H3.out.i64 (by have := H3.out.len; omega)).mono ?_
      rintro e wd ⟨rfl, hdr⟩
      rw [hy]
      have HWd := Lib.hid (Dr.below HW1.out hdr)
      obtain ⟨q1, q2, _, _⟩ := two_cells (K2.out.dr hdr)
      have hzd : w.heap.size + 1 ≤ wd.heap.size := by obtain ⟨n, rfl⟩ := hdr; simpa using hz1
      clear hdr
      go_wp2_with fail
      refine (C1.out _ HWd.out (by omega)).mono ?_
      rintro e w2 ⟨D1, d1, rfl, hb2⟩
      have HW2 := Lib.hid (HWd.out.trans (hb2.mono (by omega)))
      have hz2 : w.heap.size + 1 ≤ w2.heap.size := by have := hb2.size; omega
      have q1' := (hb2.cell (p := ⟨w.heap.size, 0, none⟩) (by simp; omega)).trans q1
      have q2' := (hb2.cell (p := ⟨w.heap.size, 1, none⟩) (by simp; omega)).trans q2
      clear hb2 q1 q2
      have q1 := q1'; have q2 := q2'
      clear q1' q2'
      go_wp2_with fail
      refine (C2.out _ HW2.out (by omega)).mono ?_
      rintro e w3 ⟨D2, d2, rfl, hb3⟩
      have HW3 := Lib.hid (HW2.out.trans (hb3.mono (by omega)))
      clear hb3
      go_wp2_with fail
      go_ret2
      exact ⟨by simp [a2], HW3.out⟩
  · have b1 : decide ((n1 : Int) = 0) = false := by simpa using a1
    have b1' : ((n1 : Int) == 0) = false := by simpa using a1
    have H1 := Lib.hid h1; clear h1
    have H2 := Lib.hid h2; clear h2
    have H3 := Lib.hid h3; clear h3
    have HV := Lib.hid hv; clear hv
    go_enter Try.func26, Try.ntmps26
    go_wp2_with fail
    refine (refValidate_any A A2 c c2 s m _ ((H1.out.alloc (Nat.le_refl _) _).more (by simp)) ((H2.out.alloc (Nat.le_refl _) _).more (by simp))).mono ?_
    rintro e w1 ⟨rfl, hb1⟩
    rw [HV.out]
    obtain ⟨k2, hz1, hw1⟩ := one_of hb1
    obtain ⟨q1, q2, _, _⟩ := two_cells k2
    have K2 := Lib.hid k2; clear k2
    have HW1 := Lib.hid hw1; clear hw1
    have HB1 := Lib.hid hb1; clear hb1
    go_wp2_with fail
    refine (refIsSet_any A3 c3 y _ _ (H3.out.below HW1.out).rd H3.out.i64 (by have := H3.out.len; omega)).mono ?_
    rintro e wd ⟨rfl, hdr⟩
    rw [hy]
    have HWd := Lib.hid (Dr.below HW1.out hdr)
    obtain ⟨q1, q2, _, _⟩ := two_cells (K2.out.dr hdr)
    have hzd : w.heap.size + 1 ≤ wd.heap.size := by obtain ⟨n, rfl⟩ := hdr; simpa using hz1
    clear hdr
    go_wp2_with fail
    refine (C1.out _ HWd.out (by omega)).mono ?_
    rintro e w2 ⟨D1, d1, rfl, hb2⟩
    have HW2 := Lib.hid (HWd.out.trans (hb2.mono (by omega)))
    clear hb2
    go_wp2_with fail
    go_ret2
    exact ⟨by simp [a1], HW2.out⟩

set_option maxHeartbeats 4000000 in
theorem refTrue_err (A A2 A3 : Option Addr) (c c2 c3 : Nat) (s m y : List Int) (w : World) (h1 : Lk w w.heap.size A s c) (h2 : Lk w w.heap.size A2 m c2) (h3 : Lk w w.heap.size A3 y c3) (hb : stB s m y = false) :
    Calls Try.prog 26 #[.agg #[.slice A s.length c, .slice A2 m.length c2], .slice A3 y.length c3] w (TRes w false 1) := by
  unfold TRes
  rcases VN_cases s m with ⟨hv, hvb⟩ | ⟨hv, hvb⟩
  · have hy : isSetB 300 y = false := by simpa [stB, hvb] using hb
    clear hb hvb
    have H1 := Lib.hid h1; clear h1
    have H2 := Lib.hid h2; clear h2
    have H3 := Lib.hid h3; clear h3
    have HV := Lib.hid hv; clear hv
    go_enter Try.func26, Try.ntmps26
    go_wp2_with fail
    refine (refValidate_any A A2 c c2 s m _ ((H1.out.alloc (Nat.le_refl _) _).more (by simp)) ((H2.out.alloc (Nat.le_refl _) _).more (by simp))).mono ?_
    rintro e w1 ⟨rfl, hb1⟩
    rw [HV.out]
    obtain ⟨k2, hz1, hw1⟩ := one_of hb1
    obtain ⟨q1, q2, _, _⟩ := two_cells k2
    have K2 := Lib.hid k2; clear k2
    have HW1 := Lib.hid hw1; clear hw1
    have HB1 := Lib.hid hb1; clear hb1
    go_wp2_with fail
    refine (refIsSet_any A3 c3 y _ _ (H3.out.below HW1.out).rd H3.out.i64 (by have := H3.out.len; omega)).mono ?_
    rintro e wd ⟨rfl, hdr⟩
    rw [hy]
    have HWd := Lib.hid (Dr.below HW1.out hdr)
    obtain ⟨q1, q2, _, _⟩ := two_cells (K2.out.dr hdr)
    have hzd : w.heap.size + 1 ≤ wd.heap.size := by obtain ⟨n, rfl⟩ := hdr; simpa using hz1
    clear hdr
    go_wp2_with fail
    go_ret2
    exact ⟨rfl, HWd.out⟩
  · clear hb hvb
    have H1 := Lib.hid h1; clear h1
    have H2 := Lib.hid h2; clear h2
    have H3 := Lib.hid h3; clear h3
    have HV := Lib.hid hv; clear hv
    go_enter Try.func26, Try.ntmps26
    go_wp2_with fail
    refine (refValidate_any A A2 c c2 s m _ ((H1.out.alloc (Nat.le_refl _) _).more (by simp)) ((H2.out.alloc (Nat.le_refl _) _).more (by simp))).mono ?_
    rintro e w1 ⟨rfl, hb1⟩
    rw [HV.out]
    obtain ⟨k2, hz1, hw1⟩ := one_of hb1
    obtain ⟨q1, q2, _, _⟩ := two_cells k2
    have K2 := Lib.hid k2; clear k2
    have HW1 := Lib.hid hw1; clear hw1
    have HB1 := Lib.hid hb1; clear hb1
    go_wp2_with fail
    go_ret2
    exact ⟨rfl, HW1.out⟩

theorem refTrue_any (A A2 A3 : Option Addr) (c c2 c3 : Nat) (s m y : List Int) (w : World) (h1 : Lk w w.heap.size A s c) (h2 : Lk w w.heap.size A2 m c2) (h3 : Lk w w.heap.size A3 y c3) : Calls Try.prog 26 #[.agg #[.slice A s.length c, .slice A2 m.length c2], .slice A3 y.length c3] w (TRes w (stB s m y && trB s m y) (if stB s m y then 0 else 1)) := by
  cases h : stB s m y
  · simpa using refTrue_err A A2 A3 c c2 c3 s m y w h1 h2 h3 h
  · have h' := h
    simp only [stB, Bool.and_eq_true] at h'
    have hv : VN s m = 0 := by rw [VN, h'.1]; rfl
    have hk := (VB_iff s m).1 h'.1
    simpa using refTrue_ok A A2 A3 c c2 c3 s m y w h1 h2 h3 hv h'.2 hk.1 hk.2.1 ((IsS.iff y).1 h'.2)

end Go.Proofs.Ytjlbodfdkdhdnab
