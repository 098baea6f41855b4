/- The walk of BitsSettles. -/
import Derived.Test.YtjlbodfdkdhdnabSr
import Derived.Test.YtjlbodfdkdhdnabNtR
import Derived.Test.YtjlbodfdkdhdnabL3
namespace Go.Proofs.Ytjlbodfdkdhdnab
open Go.RowKit
set_option linter.unusedVariables false
set_option linter.unusedSimpArgs false

theorem setL_isS (l : List Int) : IsS (setL l) := by
  unfold setL; cases h : isSetB 300 l
  · exact ⟨by simp, by simp⟩
  · exact (IsS.iff l).1 h
theorem dbL_isS (s m : List Int) : IsS (dbL s m) := by
  unfold dbL; cases h : VB s m
  · exact ⟨by simp, by simp⟩
  · exact ((VB_iff s m).1 h).2.1.merge ((VB_iff s m).1 h).1 _ _ _
theorem opstl_isS (s m y : List Int) : IsS (opS (stB s m y) (stl s m y)) := opS_isS fun h => by
  simp only [stB, Bool.and_eq_true] at h
  have hk := (VB_iff s m).1 h.1
  exact stl_isS hk.1 hk.2.1 ((IsS.iff y).1 h.2)

set_option maxHeartbeats 8000000 in
theorem bitsSettles_any (A A2 A3 : Option Addr) (c c2 c3 : Nat) (s m y : List Int) (w : World) (h1 : In w A s c) (h2 : In w A2 m c2) (h3 : In w A3 y c3) :
    Calls Try.prog 7 #[.agg #[.slice A s.length c, .slice A2 m.length c2], .slice A3 y.length c3] w fun e w' => e = .returned (.bool true) ∧ Below w.heap.size w w' := by
  have l1 := h1.len; have l2 := h2.len; have l3 := h3.len
  generalize hoa : (decide (3000 < s.length) || decide (3000 < m.length)) = oa
  have HOA := Lib.hid hoa; clear hoa
  cases oa
  · by_cases hy : 3000 < y.length
    · go_enter Try.func7, Try.ntmps7
      go_wp2_with fail
      refine (over_any A A2 c c2 s m _ l1 l2).mono ?_
      rintro e y1 ⟨rfl, hb1⟩
      rw [HOA.out]
      have HW1 := Lib.hid (bstep hb1); clear hb1
      go_wp2_with fail
      refine (known_any _).mono ?_
      rintro e y3 ⟨rfl, hb3⟩
      have HW3 := Lib.hid (HW1.out.trans (hb3.mono HW1.out.size)); clear hb3
      go_wp2_with fail
      go_ret
      exact ⟨rfl, HW3.out⟩
    · have ha := HOA.out
      simp only [Bool.or_eq_false_iff, decide_eq_false_iff_not] at ha
      have g1 := h1.lk (by omega); have g2 := h2.lk (by omega); have g3 := h3.lk (by omega)
      clear ha
      have c1 : ∀ W, Below w.heap.size w W → w.heap.size ≤ W.heap.size → Calls Try.prog 28 #[.agg #[.slice A s.length c, .slice A2 m.length c2], .slice A3 y.length c3] W (KRes W (opS (stB s m y) (stl s m y)) (opS (stB s m y) (stl s m y)) (opN (stB s m y))) := fun W hw hz => KRes.of_if (settle_any A A2 A3 c c2 c3 s m y W ((g1.below hw).more hz) ((g2.below hw).more hz) ((g3.below hw).more hz))
      have c2' : ∀ W, Below w.heap.size w W → w.heap.size ≤ W.heap.size → Calls Try.prog 29 #[.agg #[.slice A s.length c, .slice A2 m.length c2], .slice A3 y.length c3] W (KRes W (opS (stB s m y) (stl s m y)) (opS (stB s m y) (stl s m y)) (opN (stB s m y))) := fun W hw hz => KRes.of_if (refSettle_any A A2 A3 c c2 c3 s m y W ((g1.below hw).more hz) ((g2.below hw).more hz) ((g3.below hw).more hz))
      have c3' : ∀ W, Below w.heap.size w W → w.heap.size ≤ W.heap.size → Calls Try.prog 30 #[.agg #[.slice A s.length c, .slice A2 m.length c2]] W (LRes W (dbL s m) (VN s m)) := fun W hw hz => doubt_any A A2 c c2 s m W ((g1.below hw).more hz) ((g2.below hw).more hz)
      have c4 : ∀ W, Below w.heap.size w W → w.heap.size ≤ W.heap.size → Calls Try.prog 31 #[.agg #[.slice A s.length c, .slice A2 m.length c2]] W (LRes W (dbL s m) (VN s m)) := fun W hw hz => refDoubt_any A A2 c c2 s m W ((g1.below hw).more hz) ((g2.below hw).more hz)
      have c5 : ∀ W, Below w.heap.size w W → w.heap.size ≤ W.heap.size → Calls Try.prog 32 #[.slice A3 y.length c3] W (KRes W (setL y) (setL y) (setN y)) := fun W hw hz => knownS_any A3 c3 y W ((g3.below hw).more hz)
      have c6 : ∀ W, Below w.heap.size w W → w.heap.size ≤ W.heap.size → Calls Try.prog 33 #[.slice A3 y.length c3] W (KRes W (setL y) (setL y) (setN y)) := fun W hw hz => refKnownS_any A3 c3 y W ((g3.below hw).more hz)
      have i1 := opstl_isS s m y
      have i2 := dbL_isS s m
      have i3 := setL_isS y
      generalize opS (stB s m y) (stl s m y) = iS at *
      generalize dbL s m = dL at *
      generalize setL y = kL at *
      generalize opN (stB s m y) = k1 at *
      generalize VN s m = k2 at *
      generalize setN y = k3 at *
      have C1 := Lib.hid c1; clear c1
      have C2 := Lib.hid c2'; clear c2'
      have C3 := Lib.hid c3'; clear c3'
      have C4 := Lib.hid c4; clear c4
      have C5 := Lib.hid c5; clear c5
      have C6 := Lib.hid c6; clear c6
      have I1 := Lib.hid i1; clear i1
      have I2 := Lib.hid i2; clear i2
      have I3 := Lib.hid i3; clear i3
      clear g1 g2 g3 h1 h2 h3
      go_enter Try.func7, Try.ntmps7
      go_wp2_with fail
      refine (over_any A A2 c c2 s m _ l1 l2).mono ?_
      rintro e y1 ⟨rfl, hb1⟩
      rw [HOA.out]
      obtain ⟨k2a, hz1, hw1⟩ := one_of hb1
      obtain ⟨q1, q2, _, _⟩ := two_cells k2a
      have K2 := Lib.hid k2a; clear k2a
      have HW2 := Lib.hid hw1; clear hw1
      have HB1 := Lib.hid hb1; clear hb1
      go_wp2_with fail
      refine (C1.out _ HW2.out (by omega)).mono ?_
      rintro e x1 ⟨D1, d1, E1, f1, rfl, ho1, hp1, hb1⟩
      have K2a := Lib.hid (K2.out.below hb1 (by omega)); clear K2
      have hz3 : w.heap.size + 1 ≤ x1.heap.size := by have := hb1.size; omega
      have HW3 := Lib.hid (HW2.out.trans (hb1.mono (by omega)))
      have t1 : w.heap.size < x1.heap.size := by omega
      have L1 := Lib.hid (ho1.lkS I1.out); clear ho1
      have M1 := Lib.hid (hp1.lkS I1.out); clear hp1
      clear q1 q2 hb1
      obtain ⟨q1, q2, _, _⟩ := two_cells K2a.out
      go_wp2_with fail
      refine (C2.out _ (HW3.out.alloc (by omega) _) (by simp; omega)).mono ?_
      rintro e x2 ⟨D2, d2, E2, f2, rfl, ho2, hp2, hb2⟩
      have K5b := Lib.hid ((Bk.new x1 _ _).below hb2 (by simp))
      have K2b := Lib.hid ((K2a.out.alloc _).below hb2 (by simp; omega)); clear K2a
      have hz4 : x1.heap.size + 1 ≤ x2.heap.size := by have := hb2.size; simpa using this
      have HB12 := Lib.hid ((Below.of_alloc x1 _ _ (Nat.le_refl _)).trans (hb2.mono (by simp)))
      have HW4 := Lib.hid (HW3.out.trans (HB12.out.mono (by omega)))
      have L2 := Lib.hid (ho2.lkS I1.out); clear ho2
      have M2 := Lib.hid (hp2.lkS I1.out); clear hp2
      have t2 : w.heap.size < x2.heap.size := by omega
      clear q1 q2 hb2
      obtain ⟨q1, q2, _, _⟩ := two_cells K2b.out
      go_wp2_with fail
      refine (C3.out _ (HW4.out.alloc (by omega) _) (by simp; omega)).mono ?_
      rintro e x3 ⟨D3, d3, rfl, ho3, hb3⟩
      have K7c := Lib.hid ((Bk.new x2 _ _).below hb3 (by simp))
      have K5c := Lib.hid ((K5b.out.alloc _).below hb3 (by simp; omega)); clear K5b
      have K2c := Lib.hid ((K2b.out.alloc _).below hb3 (by simp; omega)); clear K2b
      have hz5 : x2.heap.size + 1 ≤ x3.heap.size := by have := hb3.size; simpa using this
      have HB23 := Lib.hid ((Below.of_alloc x2 _ _ (Nat.le_refl _)).trans (hb3.mono (by simp)))
      have HW5 := Lib.hid (HW4.out.trans (HB23.out.mono (by omega)))
      have L3 := Lib.hid (ho3.lkS I2.out); clear ho3
      have t3 : w.heap.size < x3.heap.size := by omega
      clear q1 q2 hb3
      obtain ⟨q1, q2, _, _⟩ := two_cells K2c.out
      go_wp2_with fail
      refine (C4.out _ HW5.out (by omega)).mono ?_
      rintro e x4 ⟨D4, d4, rfl, ho4, hb4⟩
      have K7d := Lib.hid (K7c.out.below hb4 (by omega)); clear K7c
      have K5d := Lib.hid (K5c.out.below hb4 (by omega)); clear K5c
      have hz6 : x3.heap.size ≤ x4.heap.size := hb4.size
      have HB34 := Lib.hid hb4
      have HW6 := Lib.hid (HW5.out.trans (hb4.mono (by omega)))
      have L4 := Lib.hid (ho4.lkS I2.out); clear ho4
      clear q1 q2 hb4
      go_wp2_with fail
      refine (C5.out _ HW6.out (by omega)).mono ?_
      rintro e x5 ⟨D5, d5, E5, f5, rfl, ho5, hp5, hb5⟩
      have K7e := Lib.hid (K7d.out.below hb5 (by omega)); clear K7d
      have K5e := Lib.hid (K5d.out.below hb5 (by omega)); clear K5d
      have hz7 : x4.heap.size ≤ x5.heap.size := hb5.size
      have HB45 := Lib.hid hb5
      have HW7 := Lib.hid (HW6.out.trans (hb5.mono (by omega)))
      have L5 := Lib.hid (ho5.lkS I3.out); clear ho5
      have M5 := Lib.hid (hp5.lkS I3.out); clear hp5
      clear hb5
      go_wp2_with fail
      refine (C6.out _ (HW7.out.alloc (by omega) _) (by simp; omega)).mono ?_
      rintro e x6 ⟨D6, d6, E6, f6, rfl, ho6, hp6, hb6⟩
      have K9f := Lib.hid ((Bk.new x5 _ _).below hb6 (by simp))
      have K7f := Lib.hid ((K7e.out.alloc _).below hb6 (by simp; omega)); clear K7e
      have K5f := Lib.hid ((K5e.out.alloc _).below hb6 (by simp; omega)); clear K5e
      have hz8 : x5.heap.size + 1 ≤ x6.heap.size := by have := hb6.size; simpa using this
      have HB56 := Lib.hid ((Below.of_alloc x5 _ _ (Nat.le_refl _)).trans (hb6.mono (by simp)))
      have HW8 := Lib.hid (HW7.out.trans (HB56.out.mono (by omega)))
      have L6 := Lib.hid (ho6.lkS I3.out); clear ho6
      have M6 := Lib.hid (hp6.lkS I3.out); clear hp6
      clear hb6
      obtain ⟨q1, q2, _, _⟩ := two_cells K5f.out
      obtain ⟨q3, q4, _, _⟩ := two_cells K7f.out
      have v1 : x1.heap.size < x6.heap.size := by omega
      have v2 : x2.heap.size < x6.heap.size := by omega
      obtain ⟨X, hX⟩ : ∃ X, X = x6.alloc (.cells #[.slice D6 kL.length d6, .slice E6 kL.length f6] 24) := ⟨_, rfl⟩
      have hXs : X.heap.size = x6.heap.size + 1 := by rw [hX]; simp
      have B6X : Below x6.heap.size x6 X := by rw [hX]; exact Below.of_alloc _ _ _ (Nat.le_refl _)
      have J11 : Bk X x6.heap.size 24 #[.slice D6 kL.length d6, .slice E6 kL.length f6] := by rw [hX]; exact Bk.new _ _ _
      have J9 := K9f.out.below B6X K9f.out.lt
      clear K9f K7f K5f
      have B5X := HB56.out.trans (B6X.mono (by omega))
      have B4X := HB45.out.trans (B5X.mono (by omega))
      have B3X := HB34.out.trans (B4X.mono (by omega))
      have B2X := HB23.out.trans (B3X.mono (by omega))
      have B1X := HB12.out.trans (B2X.mono (by omega))
      have BWX := HW3.out.trans (B1X.mono (by omega))
      have S1 : Hid (Calls Try.prog 18 #[.agg #[.slice D1 iS.length d1, .slice E1 iS.length f1], .agg #[.slice D2 iS.length d2, .slice E2 iS.length f2]] X fun e w' => e = .returned (.bool true) ∧ Below X.heap.size X w') :=
        Lib.hid ((same_any D1 E1 D2 E2 d1 f1 d2 f2 iS iS iS iS X ((L1.out.below B1X).more (by omega)) ((M1.out.below B1X).more (by omega)) ((L2.out.below B2X).more (by omega)) ((M2.out.below B2X).more (by omega))).mono fun e w' ⟨he, h⟩ => ⟨by rw [he]; simp, h⟩)
      have S2 : Hid (∀ W, Below X.heap.size X W → X.heap.size ≤ W.heap.size → Calls Try.prog 34 #[.slice D3 dL.length d3, .slice D4 dL.length d4] W fun e w' => e = .returned (.bool true) ∧ Below W.heap.size W w') :=
        Lib.hid fun W hb hz => (sameInts_any D3 D4 d3 d4 dL dL W _ _ (((L3.out.below B3X).more (Nat.le_refl _) |>.below (hb.mono (by omega)))).rd (((L4.out.below B4X).more (Nat.le_refl _) |>.below (hb.mono (by omega)))).rd (by have := L3.out.len; omega) (by have := L3.out.len; omega)).mono fun e w' ⟨he, h⟩ => ⟨by rw [he]; simp, Dr.below (Below.refl _ _) h⟩
      have S3 : Hid (∀ W, Below X.heap.size X W → X.heap.size ≤ W.heap.size → Calls Try.prog 18 #[.agg #[.slice D5 kL.length d5, .slice E5 kL.length f5], .agg #[.slice D6 kL.length d6, .slice E6 kL.length f6]] W fun e w' => e = .returned (.bool true) ∧ Below W.heap.size W w') :=
        Lib.hid fun W hb hz => (same_any D5 E5 D6 E6 d5 f5 d6 f6 kL kL kL kL W (((L5.out.below B5X).more (by omega) |>.below hb).more hz) (((M5.out.below B5X).more (by omega) |>.below hb).more hz) (((L6.out.below B6X).more (by omega) |>.below hb).more hz) (((M6.out.below B6X).more (by omega) |>.below hb).more hz)).mono fun e w' ⟨he, h⟩ => ⟨by rw [he]; simp, h⟩
      have p5 : x5.heap.size < X.heap.size := by omega
      have p6 : x6.heap.size < X.heap.size := by omega
      have p0 : w.heap.size < X.heap.size := by omega
      have BWX' := Lib.hid BWX; clear BWX
      have JJ := Lib.hid (And.intro J9 J11); clear J9 J11
      clear B1X B2X B3X B4X B5X B6X hXs L1 L2 L3 L4 L5 L6 M1 M2 M5 M6 HB12 HB23 HB34 HB45 HB56 HW2 HW3 HW4 HW5 HW6 HW7 HW8 C1 C2 C3 C4 C5 C6 K2c HB1
      have HX := Lib.hid hX; clear hX
      go_wp2_with fail
      rw [← HX.out]
      clear HX
      refine S1.out.mono ?_
      rintro e z1 ⟨rfl, hb5⟩
      have HB5 := Lib.hid hb5; clear hb5
      go_wp2_with fail
      refine (S2.out _ HB5.out HB5.out.size).mono ?_
      rintro e z2 ⟨rfl, hb6⟩
      have HB6 := Lib.hid (HB5.out.trans (hb6.mono HB5.out.size)); clear hb6
      obtain ⟨q5, q6, _, _⟩ := two_cells (JJ.out.1.below HB6.out (by omega))
      obtain ⟨q7, q8, _, _⟩ := two_cells (JJ.out.2.below HB6.out (by omega))
      have zz : x5.heap.size < z2.heap.size := by have := HB6.out.size; omega
      have zz6 : x6.heap.size < z2.heap.size := by have := HB6.out.size; omega
      clear q1 q2 q3 q4
      go_wp2_with fail
      refine (S3.out _ HB6.out HB6.out.size).mono ?_
      rintro e z3 ⟨rfl, hb7⟩
      have HB7 := Lib.hid (HB6.out.trans (hb7.mono HB6.out.size)); clear hb7 q5 q6 q7 q8
      go_wp2_with fail
      refine (known_any _).mono ?_
      rintro e z4 ⟨rfl, hb8⟩
      have HB8 := Lib.hid (HB7.out.trans (hb8.mono HB7.out.size)); clear hb8
      go_wp2_with fail
      go_ret
      exact ⟨rfl, BWX'.out.trans (HB8.out.mono (by omega))⟩
  · go_enter Try.func7, Try.ntmps7
    go_wp2_with fail
    refine (over_any A A2 c c2 s m _ l1 l2).mono ?_
    rintro e y1 ⟨rfl, hb1⟩
    rw [HOA.out]
    have HW1 := Lib.hid (bstep hb1); clear hb1
    go_wp2_with fail
    refine (known_any _).mono ?_
    rintro e y3 ⟨rfl, hb3⟩
    have HW3 := Lib.hid (HW1.out.trans (hb3.mono HW1.out.size)); clear hb3
    go_wp2_with fail
    go_ret
    exact ⟨rfl, HW3.out⟩
end Go.Proofs.Ytjlbodfdkdhdnab
