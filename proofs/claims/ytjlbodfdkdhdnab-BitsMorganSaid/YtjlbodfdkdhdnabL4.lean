/- The walk of BitsNots. -/
import Derived.Test.YtjlbodfdkdhdnabNtR
import Derived.Test.YtjlbodfdkdhdnabL3
namespace Go.Proofs.Ytjlbodfdkdhdnab
open Go.RowKit
set_option linter.unusedVariables false
set_option linter.unusedSimpArgs false

theorem isS_less {N : Nat} {m : List Int} (hN : N ≤ 300) (hm : IsS m) : IsS (lessL (upTo N) m) := (isS_upTo hN).merge hm _ _ _
def notRS (s m : List Int) (n : Int) : List Int := opS (notB s m n) (lessL (upTo n.toNat) m)
def notRM (s m : List Int) (n : Int) : List Int := opS (notB s m n) (lessL (upTo n.toNat) s)
theorem notB_of {s m : List Int} {n : Int} (h : notB s m n = true) : IsS s ∧ IsS m ∧ n.toNat ≤ 300 := by
  simp only [notB, Bool.and_eq_true] at h
  obtain ⟨N, rfl, hN⟩ := cntB_nat h.1.2
  have := (VB_iff s m).1 h.1.1
  exact ⟨this.1, this.2.1, by simpa using hN⟩
theorem notRS_isS (s m : List Int) (n : Int) : IsS (notRS s m n) := opS_isS fun h => isS_less (notB_of h).2.2 (notB_of h).2.1
theorem notRM_isS (s m : List Int) (n : Int) : IsS (notRM s m n) := opS_isS fun h => isS_less (notB_of h).2.2 (notB_of h).1
def anyRM (n : Int) : List Int := if cntB n then upTo n.toNat else []
theorem anyRM_isS (n : Int) : IsS (anyRM n) := by
  unfold anyRM; cases h : cntB n
  · exact ⟨by simp, by simp⟩
  · obtain ⟨N, rfl, hN⟩ := cntB_nat h; simpa using isS_upTo hN
theorem isS_nil : IsS [] := ⟨by simp, by simp⟩

set_option maxHeartbeats 8000000 in
theorem bitsNots_any (A A2 : Option Addr) (c c2 : Nat) (s m : List Int) (n : Int) (w : World) (h1 : In w A s c) (h2 : In w A2 m c2) :
    Calls Try.prog 4 #[.agg #[.slice A s.length c, .slice A2 m.length c2], .int .i64 n] w fun e w' => e = .returned (.bool true) ∧ Below w.heap.size w w' := by
  have l1 := h1.len; have l2 := h2.len
  generalize hoa : (decide (3000 < s.length) || decide (3000 < m.length)) = oa
  have HOA := Lib.hid hoa; clear hoa
  cases oa
  · have ha := HOA.out
    simp only [Bool.or_eq_false_iff, decide_eq_false_iff_not] at ha
    have g1 := h1.lk (by omega); have g2 := h2.lk (by omega)
    clear ha
    have c1 : ∀ W, Below w.heap.size w W → w.heap.size ≤ W.heap.size → Calls Try.prog 21 #[.agg #[.slice A s.length c, .slice A2 m.length c2], .int .i64 n] W (KRes W (notRS s m n) (notRM s m n) (opN (notB s m n))) := fun W hw hz => KRes.of_if (not_any A A2 c c2 s m n W ((g1.below hw).more hz) ((g2.below hw).more hz))
    have c2' : ∀ W, Below w.heap.size w W → w.heap.size ≤ W.heap.size → Calls Try.prog 22 #[.agg #[.slice A s.length c, .slice A2 m.length c2], .int .i64 n] W (KRes W (notRS s m n) (notRM s m n) (opN (notB s m n))) := fun W hw hz => KRes.of_if (refNot_any A A2 c c2 s m n W ((g1.below hw).more hz) ((g2.below hw).more hz))
    have c3 : ∀ W, Calls Try.prog 23 #[.int .i64 n] W (KRes W [] (anyRM n) (if cntB n then 0 else 1)) := fun W => any_any n W
    have c4 : ∀ W, Calls Try.prog 24 #[.int .i64 n] W (KRes W [] (anyRM n) (if cntB n then 0 else 1)) := fun W => refAny_any n W
    have i1 := notRS_isS s m n
    have i2 := notRM_isS s m n
    have i4 := anyRM_isS n
    have i3 := isS_nil
    generalize notRS s m n = iS at *
    generalize notRM s m n = iM at *
    generalize anyRM n = uM at *
    generalize ([] : List Int) = uS at *
    generalize opN (notB s m n) = k1 at *
    generalize (if cntB n then (0 : Int) else 1) = k2 at *
    have C1 := Lib.hid c1; clear c1
    have C2 := Lib.hid c2'; clear c2'
    have C3 := Lib.hid c3; clear c3
    have C4 := Lib.hid c4; clear c4
    have I1 := Lib.hid i1; clear i1
    have I2 := Lib.hid i2; clear i2
    have I3 := Lib.hid i3; clear i3
    have I4 := Lib.hid i4; clear i4
    clear g1 g2 h1 h2
    go_enter Try.func4, Try.ntmps4
    go_wp2_with fail
    refine (over_any A A2 c c2 s m _ l1 l2).mono ?_
    rintro e y1 ⟨rfl, hb1⟩
    rw [HOA.out]
    obtain ⟨k2a, hz1, hw1⟩ := one_of hb1
    obtain ⟨q1, q2, _, _⟩ := two_cells k2a
    have K2 := Lib.hid k2a; clear k2a
    have HW2 := Lib.hid hw1; clear hw1
    have HB1 := Lib.hid hb1; clear hb1
    go_wp2_with fail
    refine (C1.out _ HW2.out (by omega)).mono ?_
    rintro e x1 ⟨D1, d1, E1, f1, rfl, ho1, hp1, hb1⟩
    have K2a := Lib.hid (K2.out.below hb1 (by omega)); clear K2
    have hz3 : w.heap.size + 1 ≤ x1.heap.size := by have := hb1.size; omega
    have HW3 := Lib.hid (HW2.out.trans (hb1.mono (by omega)))
    have t1 : w.heap.size < x1.heap.size := by omega
    have L1 := Lib.hid (ho1.lkS I1.out); clear ho1
    have M1 := Lib.hid (hp1.lkS I2.out); clear hp1
    clear q1 q2 hb1
    obtain ⟨q1, q2, _, _⟩ := two_cells K2a.out
    go_wp2_with fail
    refine (C2.out _ (HW3.out.alloc (by omega) _) (by simp; omega)).mono ?_
    rintro e x2 ⟨D2, d2, E2, f2, rfl, ho2, hp2, hb2⟩
    have K5b := Lib.hid ((Bk.new x1 _ _).below hb2 (by simp))
    have hz4 : x1.heap.size + 1 ≤ x2.heap.size := by have := hb2.size; simpa using this
    have HB12 := Lib.hid ((Below.of_alloc x1 _ _ (Nat.le_refl _)).trans (hb2.mono (by simp)))
    have HW4 := Lib.hid (HW3.out.trans (HB12.out.mono (by omega)))
    have L2 := Lib.hid (ho2.lkS I1.out); clear ho2
    have M2 := Lib.hid (hp2.lkS I2.out); clear hp2
    clear q1 q2 hb2
    go_wp2_with fail
    refine (C3.out _).mono ?_
    rintro e x3 ⟨D3, d3, E3, f3, rfl, ho3, hp3, hb3⟩
    have K7c := Lib.hid ((Bk.new x2 _ _).below hb3 (by simp))
    have K5c := Lib.hid ((K5b.out.alloc _).below hb3 (by simp; omega)); clear K5b
    have hz5 : x2.heap.size + 1 ≤ x3.heap.size := by have := hb3.size; simpa using this
    have HB23 := Lib.hid ((Below.of_alloc x2 _ _ (Nat.le_refl _)).trans (hb3.mono (by simp)))
    have HW5 := Lib.hid (HW4.out.trans (HB23.out.mono (by omega)))
    have L3 := Lib.hid (ho3.lkS I3.out); clear ho3
    have M3 := Lib.hid (hp3.lkS I4.out); clear hp3
    clear hb3
    go_wp2_with fail
    refine (C4.out _).mono ?_
    rintro e x4 ⟨D4, d4, E4, f4, rfl, ho4, hp4, hb4⟩
    have K9d := Lib.hid ((Bk.new x3 _ _).below hb4 (by simp))
    have K7d := Lib.hid ((K7c.out.alloc _).below hb4 (by simp; omega)); clear K7c
    have K5d := Lib.hid ((K5c.out.alloc _).below hb4 (by simp; omega)); clear K5c
    have hz6 : x3.heap.size + 1 ≤ x4.heap.size := by have := hb4.size; simpa using this
    have HB34 := Lib.hid ((Below.of_alloc x3 _ _ (Nat.le_refl _)).trans (hb4.mono (by simp)))
    have HW6 := Lib.hid (HW5.out.trans (HB34.out.mono (by omega)))
    have L4 := Lib.hid (ho4.lkS I3.out); clear ho4
    have M4 := Lib.hid (hp4.lkS I4.out); clear hp4
    clear hb4
    obtain ⟨q1, q2, _, _⟩ := two_cells K5d.out
    obtain ⟨q3, q4, _, _⟩ := two_cells K7d.out
    have v1 : x1.heap.size < x4.heap.size := by omega
    have v2 : x2.heap.size < x4.heap.size := by omega
    obtain ⟨X, hX⟩ : ∃ X, X = x4.alloc (.cells #[.slice D4 uS.length d4, .slice E4 uM.length f4] 24) := ⟨_, rfl⟩
    have hXs : X.heap.size = x4.heap.size + 1 := by rw [hX]; simp
    have B4X : Below x4.heap.size x4 X := by rw [hX]; exact Below.of_alloc _ _ _ (Nat.le_refl _)
    have J11 : Bk X x4.heap.size 24 #[.slice D4 uS.length d4, .slice E4 uM.length f4] := by rw [hX]; exact Bk.new _ _ _
    have J9 := K9d.out.below B4X K9d.out.lt
    have J7 := K7d.out.below B4X K7d.out.lt
    have J5 := K5d.out.below B4X K5d.out.lt
    clear K9d K7d K5d
    have B3X := HB34.out.trans (B4X.mono (by omega))
    have B2X := HB23.out.trans (B3X.mono (by omega))
    have B1X := HB12.out.trans (B2X.mono (by omega))
    have BWX := HW3.out.trans (B1X.mono (by omega))
    have s1 : Calls Try.prog 18 #[.agg #[.slice D1 iS.length d1, .slice E1 iM.length f1], .agg #[.slice D2 iS.length d2, .slice E2 iM.length f2]] X fun e w' => e = .returned (.bool true) ∧ Below X.heap.size X w' :=
      (same_any D1 E1 D2 E2 d1 f1 d2 f2 iS iM iS iM X ((L1.out.below B1X).more (by omega)) ((M1.out.below B1X).more (by omega)) ((L2.out.below B2X).more (by omega)) ((M2.out.below B2X).more (by omega))).mono fun e w' ⟨he, h⟩ => ⟨by rw [he]; simp, h⟩
    have s2 : ∀ W, Below X.heap.size X W → X.heap.size ≤ W.heap.size → Calls Try.prog 18 #[.agg #[.slice D3 uS.length d3, .slice E3 uM.length f3], .agg #[.slice D4 uS.length d4, .slice E4 uM.length f4]] W fun e w' => e = .returned (.bool true) ∧ Below W.heap.size W w' :=
      fun W hb hz => (same_any D3 E3 D4 E4 d3 f3 d4 f4 uS uM uS uM W (((L3.out.below B3X).more (by omega) |>.below hb).more hz) (((M3.out.below B3X).more (by omega) |>.below hb).more hz) (((L4.out.below B4X).more (by omega) |>.below hb).more hz) (((M4.out.below B4X).more (by omega) |>.below hb).more hz)).mono fun e w' ⟨he, h⟩ => ⟨by rw [he]; simp, h⟩
    have S1 := Lib.hid s1; clear s1
    have S2 := Lib.hid s2; clear s2
    have p1 : x1.heap.size < X.heap.size := by omega
    have p2 : x2.heap.size < X.heap.size := by omega
    have p3 : x3.heap.size < X.heap.size := by omega
    have p4 : x4.heap.size < X.heap.size := by omega
    have p0 : w.heap.size < X.heap.size := by omega
    have BWX' := Lib.hid BWX; clear BWX
    have JJ := Lib.hid (And.intro J9 J11); clear J9 J11 J5 J7
    clear B1X B2X B3X B4X hXs
    have HX := Lib.hid hX; clear hX
    go_wp2_with fail
    rw [← HX.out]
    clear HX
    refine S1.out.mono ?_
    rintro e z1 ⟨rfl, hb5⟩
    have HB5 := Lib.hid hb5
    obtain ⟨q5, q6, _, _⟩ := two_cells (JJ.out.1.below hb5 (by omega))
    obtain ⟨q7, q8, _, _⟩ := two_cells (JJ.out.2.below hb5 (by omega))
    clear q1 q2 q3 q4 hb5
    go_wp2_with fail
    refine (S2.out _ HB5.out HB5.out.size).mono ?_
    rintro e z2 ⟨rfl, hb6⟩
    have HB6 := Lib.hid hb6; clear hb6 q5 q6 q7 q8
    go_wp2_with fail
    refine (known_any _).mono ?_
    rintro e z3 ⟨rfl, hb7⟩
    have HB7 := Lib.hid hb7; clear hb7
    go_wp2_with fail
    go_ret
    have b1 := BWX'.out.trans (HB5.out.mono (by omega))
    have b2 := b1.trans (HB6.out.mono b1.size)
    exact ⟨rfl, b2.trans (HB7.out.mono b2.size)⟩
  · go_enter Try.func4, Try.ntmps4
    go_wp2_with fail
    refine (over_any A A2 c c2 s m _ l1 l2).mono ?_
    rintro e y1 ⟨rfl, hb1⟩
    rw [HOA.out]
    have HW1 := Lib.hid (bstep hb1); clear hb1
    go_wp2_with fail
    refine (known_any _).mono ?_
    rintro e y3 ⟨rfl, hb3⟩
    have HW3 := Lib.hid (HW1.out.trans (hb3.mono HW1.out.size)); clear hb3
    go_wp2_with fail
    go_ret
    exact ⟨rfl, HW3.out⟩
end Go.Proofs.Ytjlbodfdkdhdnab
