/- The walk of BitsMorgan. -/
import Derived.Test.YtjlbodfdkdhdnabMoM
import Derived.Test.YtjlbodfdkdhdnabL4
namespace Go.Proofs.Ytjlbodfdkdhdnab
open Go.RowKit
set_option linter.unusedVariables false
set_option linter.unusedSimpArgs false

set_option maxHeartbeats 8000000 in
theorem bitsMorgan_ok (A A2 B1 B2 : Option Addr) (c c2 e1 e2 : Nat) (s m s2 m2 : List Int) (n : Int) (w : World) (h1 : In w A s c) (h2 : In w A2 m c2) (h3 : In w B1 s2 e1) (h4 : In w B2 m2 e2) (N : Nat) (hN : N ≤ 300) (kn1 : Kn s m N) (kn2 : Kn s2 m2 N) (hnn : n = N) (la : s.length ≤ 3000 ∧ m.length ≤ 3000 ∧ s2.length ≤ 3000 ∧ m2.length ≤ 3000) :
    Calls Try.prog 5 #[.agg #[.slice A s.length c, .slice A2 m.length c2], .agg #[.slice B1 s2.length e1, .slice B2 m2.length e2], .int .i64 n] w fun e w' => e = .returned (.bool true) ∧ Below w.heap.size w w' := by
  subst hnn
  have l1 := h1.len; have l2 := h2.len; have l3 := h3.len; have l4 := h4.len
  have g1 := h1.lk la.1; have g2 := h2.lk la.2.1; have g3 := h3.lk la.2.2.1; have g4 := h4.lk la.2.2.2
  have hoa : (decide (3000 < s.length) || decide (3000 < m.length)) = false := by simp; omega
  have hob : (decide (3000 < s2.length) || decide (3000 < m2.length)) = false := by simp; omega
  have HOA := Lib.hid hoa; clear hoa
  have HOB := Lib.hid hob; clear hob
  have kn3 := kn1.not hN
  have kn4 := kn2.not hN
  have kn5 := kn1.and kn2
  have kn6 := kn5.not hN
  have eq1 : lessL (upTo N) (interL m m2) = unionL (lessL (upTo N) m) (lessL (upTo N) m2) := morgan_eq hN kn1.hm kn2.hm
  have eq2 : lessL (upTo N) (interL s s2) = unionL (lessL (upTo N) s) (lessL (upTo N) s2) := morgan_eq hN kn1.hs kn2.hs
  have eq3 : lessL (upTo N) (lessL (upTo N) s) = s := back_eq hN kn1.hs fun z hz => kn1.le z (kn1.sub z hz)
  have eq4 : lessL (upTo N) (lessL (upTo N) m) = m := back_eq hN kn1.hm kn1.le
  have c1 : ∀ W, Below w.heap.size w W → w.heap.size ≤ W.heap.size → Calls Try.prog 21 #[.agg #[.slice A s.length c, .slice A2 m.length c2], .int .i64 N] W (KRes W (lessL (upTo N) m) (lessL (upTo N) s) 0) := fun W hw hz => by
    have := not_any A A2 c c2 s m N W ((g1.below hw).more hz) ((g2.below hw).more hz)
    rw [kn1.notB hN, Int.toNat_natCast] at this; exact this
  have c2' : ∀ W, Below w.heap.size w W → w.heap.size ≤ W.heap.size → Calls Try.prog 21 #[.agg #[.slice B1 s2.length e1, .slice B2 m2.length e2], .int .i64 N] W (KRes W (lessL (upTo N) m2) (lessL (upTo N) s2) 0) := fun W hw hz => by
    have := not_any B1 B2 e1 e2 s2 m2 N W ((g3.below hw).more hz) ((g4.below hw).more hz)
    rw [kn2.notB hN, Int.toNat_natCast] at this; exact this
  have c3 : ∀ W, Below w.heap.size w W → w.heap.size ≤ W.heap.size → Calls Try.prog 14 #[.agg #[.slice A s.length c, .slice A2 m.length c2], .agg #[.slice B1 s2.length e1, .slice B2 m2.length e2]] W (KRes W (interL s s2) (interL m m2) 0) := fun W hw hz => by
    have := and_any A A2 B1 B2 c c2 e1 e2 s m s2 m2 W ((g1.below hw).more hz) ((g2.below hw).more hz) ((g3.below hw).more hz) ((g4.below hw).more hz)
    rw [kn1.vb, kn2.vb] at this; exact this
  have c4 : ∀ (D E : Option Addr) (d f : Nat) W, Lk W W.heap.size D (interL s s2) d → Lk W W.heap.size E (interL m m2) f → Calls Try.prog 21 #[.agg #[.slice D (interL s s2).length d, .slice E (interL m m2).length f], .int .i64 N] W (KRes W (lessL (upTo N) (interL m m2)) (lessL (upTo N) (interL s s2)) 0) := fun D E d f W hd he => by
    have := not_any D E d f _ _ N W hd he
    rw [kn5.notB hN, Int.toNat_natCast] at this; exact this
  have c5 : ∀ (D E D' E' : Option Addr) (d f d' f' : Nat) W, Lk W W.heap.size D (lessL (upTo N) m) d → Lk W W.heap.size E (lessL (upTo N) s) f → Lk W W.heap.size D' (lessL (upTo N) m2) d' → Lk W W.heap.size E' (lessL (upTo N) s2) f' → Calls Try.prog 16 #[.agg #[.slice D (lessL (upTo N) m).length d, .slice E (lessL (upTo N) s).length f], .agg #[.slice D' (lessL (upTo N) m2).length d', .slice E' (lessL (upTo N) s2).length f']] W (KRes W (lessL (upTo N) (interL m m2)) (lessL (upTo N) (interL s s2)) 0) := fun D E D' E' d f d' f' W hd he hd' he' => by
    have := or_any D E D' E' d f d' f' _ _ _ _ W hd he hd' he'
    rw [kn3.vb, kn4.vb, ← eq1, ← eq2] at this; exact this
  have c6 : ∀ (D E : Option Addr) (d f : Nat) W, Lk W W.heap.size D (lessL (upTo N) m) d → Lk W W.heap.size E (lessL (upTo N) s) f → Calls Try.prog 21 #[.agg #[.slice D (lessL (upTo N) m).length d, .slice E (lessL (upTo N) s).length f], .int .i64 N] W (KRes W s m 0) := fun D E d f W hd he => by
    have := not_any D E d f _ _ N W hd he
    rw [kn3.notB hN, Int.toNat_natCast, eq3, eq4] at this; exact this
  have i1 := kn3.hs; have i2 := kn3.hm; have i3 := kn4.hs; have i4 := kn4.hm; have i5 := kn5.hs; have i6 := kn5.hm; have i7 := kn6.hs; have i8 := kn6.hm; have i9 := kn1.hs; have i10 := kn1.hm
  clear kn1 kn2 kn3 kn4 kn5 kn6 eq1 eq2 eq3 eq4
  generalize lessL (upTo N) (interL m m2) = rS at *
  generalize lessL (upTo N) (interL s s2) = rM at *
  generalize lessL (upTo N) m = aS at *
  generalize lessL (upTo N) s = aM at *
  generalize lessL (upTo N) m2 = bS at *
  generalize lessL (upTo N) s2 = bM at *
  generalize interL s s2 = iS at *
  generalize interL m m2 = iM at *
  have C1 := Lib.hid c1; clear c1
  have C2 := Lib.hid c2'; clear c2'
  have C3 := Lib.hid c3; clear c3
  have C4 := Lib.hid c4; clear c4
  have C5 := Lib.hid c5; clear c5
  have C6 := Lib.hid c6; clear c6
  have I1 := Lib.hid i1; have I2 := Lib.hid i2; have I3 := Lib.hid i3; have I4 := Lib.hid i4; have I5 := Lib.hid i5; have I6 := Lib.hid i6; have I7 := Lib.hid i7; have I8 := Lib.hid i8; have I9 := Lib.hid i9; have I10 := Lib.hid i10
  clear i1 i2 i3 i4 i5 i6 i7 i8 i9 i10
  have G1 := Lib.hid g1; have G2 := Lib.hid g2
  clear g1 g2 g3 g4 h1 h2 h3 h4
  go_enter Try.func5, Try.ntmps5
  go_wp2_with fail
  refine (over_any A A2 c c2 s m _ l1 l2).mono ?_
  rintro e y1 ⟨rfl, hb1⟩
  rw [HOA.out]
  obtain ⟨k2, k3, hz1, hw1⟩ := two_of hb1
  obtain ⟨q1, q2, _, _⟩ := two_cells k2
  obtain ⟨q3, q4, _, _⟩ := two_cells k3
  have HW1 := Lib.hid hw1; clear hw1
  have HB1 := Lib.hid hb1; clear hb1
  go_wp2_with fail
  refine (over_any B1 B2 e1 e2 s2 m2 _ l3 l4).mono ?_
  rintro e y2 ⟨rfl, hb2⟩
  rw [HOB.out]
  have K2y2 := Lib.hid (k2.below hb2 (by omega)); clear k2
  have K3y2 := Lib.hid (k3.below hb2 (by omega)); clear k3
  clear q1 q2 q3 q4
  obtain ⟨q1, q2, _, _⟩ := two_cells K2y2.out
  obtain ⟨q3, q4, _, _⟩ := two_cells K3y2.out
  have hzy2 : w.heap.size + 1 + 1 ≤ y2.heap.size := by have := hb2.size; omega
  have HWy2 := Lib.hid (HW1.out.trans (hb2.mono (by omega))); clear hb2
  go_wp2_with fail
  refine (C1.out _ HWy2.out (by omega)).mono ?_
  rintro e x1 ⟨D1, d1, E1, f1, rfl, ho1, hp1, hb1⟩
  have K2x1 := Lib.hid (K2y2.out.below hb1 (by omega)); clear K2y2
  have K3x1 := Lib.hid (K3y2.out.below hb1 (by omega)); clear K3y2
  have hzx1 : w.heap.size + 1 + 1 ≤ x1.heap.size := by have := hb1.size; omega
  have HWx1 := Lib.hid (HWy2.out.trans (hb1.mono (by omega)))
  have t1_0 : w.heap.size < x1.heap.size := by omega
  have t1_1 : w.heap.size + 1 < x1.heap.size := by omega
  have L1 := Lib.hid (ho1.lkS I1.out); clear ho1
  have M1 := Lib.hid (hp1.lkS I2.out); clear hp1
  clear hb1
  clear q1 q2 q3 q4
  obtain ⟨q1, q2, _, _⟩ := two_cells K2x1.out
  obtain ⟨q3, q4, _, _⟩ := two_cells K3x1.out
  go_wp2_with fail
  refine (C2.out _ (HWx1.out.alloc (by omega) _) (by simp; omega)).mono ?_
  rintro e x2 ⟨D2, d2, E2, f2, rfl, ho2, hp2, hb2⟩
  have K2x2 := Lib.hid ((K2x1.out.alloc _).below hb2 (by simp; omega)); clear K2x1
  have K3x2 := Lib.hid ((K3x1.out.alloc _).below hb2 (by simp; omega)); clear K3x1
  have KNx1x2 := Lib.hid ((Bk.new x1 _ _).below hb2 (by simp))
  have hzx2 : x1.heap.size + 1 ≤ x2.heap.size := by have := hb2.size; simpa using this
  have HBx1x2 := Lib.hid ((Below.of_alloc x1 _ _ (Nat.le_refl _)).trans (hb2.mono (by simp)))
  have HWx2 := Lib.hid (HWx1.out.trans (HBx1x2.out.mono (by omega)))
  have t2_0 : w.heap.size < x2.heap.size := by omega
  have t2_1 : w.heap.size + 1 < x2.heap.size := by omega
  have t2_2 : x1.heap.size < x2.heap.size := by omega
  have L2 := Lib.hid (ho2.lkS I3.out); clear ho2
  have M2 := Lib.hid (hp2.lkS I4.out); clear hp2
  clear hb2
  clear q1 q2 q3 q4
  obtain ⟨q1, q2, _, _⟩ := two_cells K2x2.out
  obtain ⟨q3, q4, _, _⟩ := two_cells K3x2.out
  go_wp2_with fail
  refine (C3.out _ (HWx2.out.alloc (by omega) _) (by simp; omega)).mono ?_
  rintro e x3 ⟨D3, d3, E3, f3, rfl, ho3, hp3, hb3⟩
  have K2x3 := Lib.hid ((K2x2.out.alloc _).below hb3 (by simp; omega)); clear K2x2
  have K3x3 := Lib.hid ((K3x2.out.alloc _).below hb3 (by simp; omega)); clear K3x2
  have KNx1x3 := Lib.hid ((KNx1x2.out.alloc _).below hb3 (by simp; omega)); clear KNx1x2
  have KNx2x3 := Lib.hid ((Bk.new x2 _ _).below hb3 (by simp))
  have hzx3 : x2.heap.size + 1 ≤ x3.heap.size := by have := hb3.size; simpa using this
  have HBx2x3 := Lib.hid ((Below.of_alloc x2 _ _ (Nat.le_refl _)).trans (hb3.mono (by simp)))
  have HWx3 := Lib.hid (HWx2.out.trans (HBx2x3.out.mono (by omega)))
  have t3_0 : w.heap.size < x3.heap.size := by omega
  have t3_1 : w.heap.size + 1 < x3.heap.size := by omega
  have t3_2 : x1.heap.size < x3.heap.size := by omega
  have t3_3 : x2.heap.size < x3.heap.size := by omega
  have L3 := Lib.hid (ho3.lkS I5.out); clear ho3
  have M3 := Lib.hid (hp3.lkS I6.out); clear hp3
  clear hb3
  clear q1 q2 q3 q4
  go_wp2_with fail
  refine (C4.out _ _ _ _ _ ((L3.out.alloc (Nat.le_refl _) _).more (by simp)) ((M3.out.alloc (Nat.le_refl _) _).more (by simp))).mono ?_
  rintro e x4 ⟨D4, d4, E4, f4, rfl, ho4, hp4, hb4⟩
  have K2x4 := Lib.hid ((K2x3.out.alloc _).below hb4 (by simp; omega)); clear K2x3
  have K3x4 := Lib.hid ((K3x3.out.alloc _).below hb4 (by simp; omega)); clear K3x3
  have KNx1x4 := Lib.hid ((KNx1x3.out.alloc _).below hb4 (by simp; omega)); clear KNx1x3
  have KNx2x4 := Lib.hid ((KNx2x3.out.alloc _).below hb4 (by simp; omega)); clear KNx2x3
  have KNx3x4 := Lib.hid ((Bk.new x3 _ _).below hb4 (by simp))
  have hzx4 : x3.heap.size + 1 ≤ x4.heap.size := by have := hb4.size; simpa using this
  have HBx3x4 := Lib.hid ((Below.of_alloc x3 _ _ (Nat.le_refl _)).trans (hb4.mono (by simp)))
  have HWx4 := Lib.hid (HWx3.out.trans (HBx3x4.out.mono (by omega)))
  have t4_0 : w.heap.size < x4.heap.size := by omega
  have t4_1 : w.heap.size + 1 < x4.heap.size := by omega
  have t4_2 : x1.heap.size < x4.heap.size := by omega
  have t4_3 : x2.heap.size < x4.heap.size := by omega
  have t4_4 : x3.heap.size < x4.heap.size := by omega
  have L4 := Lib.hid (ho4.lkS I7.out); clear ho4
  have M4 := Lib.hid (hp4.lkS I8.out); clear hp4
  clear hb4
  have B1x4 := Lib.hid ((HBx1x2.out.trans (HBx2x3.out.mono (by omega))).trans (HBx3x4.out.mono (by omega)))
  have B2x4 := Lib.hid (HBx2x3.out.trans (HBx3x4.out.mono (by omega)))
  obtain ⟨q1, q2, _, _⟩ := two_cells KNx1x4.out
  obtain ⟨q3, q4, _, _⟩ := two_cells KNx2x4.out
  go_wp2_with fail
  refine (C5.out _ _ _ _ _ _ _ _ _ ((((L1.out.below B1x4.out).more (by omega)).alloc (Nat.le_refl _) _).more (by simp)) ((((M1.out.below B1x4.out).more (by omega)).alloc (Nat.le_refl _) _).more (by simp)) ((((L2.out.below B2x4.out).more (by omega)).alloc (Nat.le_refl _) _).more (by simp)) ((((M2.out.below B2x4.out).more (by omega)).alloc (Nat.le_refl _) _).more (by simp))).mono ?_
  rintro e x5 ⟨D5, d5, E5, f5, rfl, ho5, hp5, hb5⟩
  have K2x5 := Lib.hid ((K2x4.out.alloc _).below hb5 (by simp; omega)); clear K2x4
  have K3x5 := Lib.hid ((K3x4.out.alloc _).below hb5 (by simp; omega)); clear K3x4
  have KNx1x5 := Lib.hid ((KNx1x4.out.alloc _).below hb5 (by simp; omega)); clear KNx1x4
  have KNx2x5 := Lib.hid ((KNx2x4.out.alloc _).below hb5 (by simp; omega)); clear KNx2x4
  have KNx3x5 := Lib.hid ((KNx3x4.out.alloc _).below hb5 (by simp; omega)); clear KNx3x4
  have KNx4x5 := Lib.hid ((Bk.new x4 _ _).below hb5 (by simp))
  have hzx5 : x4.heap.size + 1 ≤ x5.heap.size := by have := hb5.size; simpa using this
  have HBx4x5 := Lib.hid ((Below.of_alloc x4 _ _ (Nat.le_refl _)).trans (hb5.mono (by simp)))
  have HWx5 := Lib.hid (HWx4.out.trans (HBx4x5.out.mono (by omega)))
  have t5_0 : w.heap.size < x5.heap.size := by omega
  have t5_1 : w.heap.size + 1 < x5.heap.size := by omega
  have t5_2 : x1.heap.size < x5.heap.size := by omega
  have t5_3 : x2.heap.size < x5.heap.size := by omega
  have t5_4 : x3.heap.size < x5.heap.size := by omega
  have t5_5 : x4.heap.size < x5.heap.size := by omega
  have L5 := Lib.hid (ho5.lkS I7.out); clear ho5
  have M5 := Lib.hid (hp5.lkS I8.out); clear hp5
  clear hb5
  have B1x5 := Lib.hid (B1x4.out.trans (HBx4x5.out.mono (by omega)))
  clear q1 q2 q3 q4
  obtain ⟨q1, q2, _, _⟩ := two_cells KNx1x5.out
  go_wp2_with fail
  refine (C6.out _ _ _ _ _ ((((L1.out.below B1x5.out).more (by omega)).alloc (Nat.le_refl _) _).more (by simp)) ((((M1.out.below B1x5.out).more (by omega)).alloc (Nat.le_refl _) _).more (by simp))).mono ?_
  rintro e x6 ⟨D6, d6, E6, f6, rfl, ho6, hp6, hb6⟩
  have K2x6 := Lib.hid ((K2x5.out.alloc _).below hb6 (by simp; omega)); clear K2x5
  have K3x6 := Lib.hid ((K3x5.out.alloc _).below hb6 (by simp; omega)); clear K3x5
  have KNx1x6 := Lib.hid ((KNx1x5.out.alloc _).below hb6 (by simp; omega)); clear KNx1x5
  have KNx2x6 := Lib.hid ((KNx2x5.out.alloc _).below hb6 (by simp; omega)); clear KNx2x5
  have KNx3x6 := Lib.hid ((KNx3x5.out.alloc _).below hb6 (by simp; omega)); clear KNx3x5
  have KNx4x6 := Lib.hid ((KNx4x5.out.alloc _).below hb6 (by simp; omega)); clear KNx4x5
  have KNx5x6 := Lib.hid ((Bk.new x5 _ _).below hb6 (by simp))
  have hzx6 : x5.heap.size + 1 ≤ x6.heap.size := by have := hb6.size; simpa using this
  have HBx5x6 := Lib.hid ((Below.of_alloc x5 _ _ (Nat.le_refl _)).trans (hb6.mono (by simp)))
  have HWx6 := Lib.hid (HWx5.out.trans (HBx5x6.out.mono (by omega)))
  have t6_0 : w.heap.size < x6.heap.size := by omega
  have t6_1 : w.heap.size + 1 < x6.heap.size := by omega
  have t6_2 : x1.heap.size < x6.heap.size := by omega
  have t6_3 : x2.heap.size < x6.heap.size := by omega
  have t6_4 : x3.heap.size < x6.heap.size := by omega
  have t6_5 : x4.heap.size < x6.heap.size := by omega
  have t6_6 : x5.heap.size < x6.heap.size := by omega
  have L6 := Lib.hid (ho6.lkS I9.out); clear ho6
  have M6 := Lib.hid (hp6.lkS I10.out); clear hp6
  clear hb6
  clear q1 q2
  obtain ⟨q1, q2, _, _⟩ := two_cells KNx4x6.out
  obtain ⟨q3, q4, _, _⟩ := two_cells KNx5x6.out
  obtain ⟨X, hX⟩ : ∃ X, X = x6.alloc (.cells #[.slice D6 s.length d6, .slice E6 m.length f6] 24) := ⟨_, rfl⟩
  have hXs : X.heap.size = x6.heap.size + 1 := by rw [hX]; simp
  have B6X : Below x6.heap.size x6 X := by rw [hX]; exact Below.of_alloc _ _ _ (Nat.le_refl _)
  have J17 : Bk X x6.heap.size 24 #[.slice D6 s.length d6, .slice E6 m.length f6] := by rw [hX]; exact Bk.new _ _ _
  have J3 := K2x6.out.below B6X K2x6.out.lt
  have B5X := HBx5x6.out.trans (B6X.mono (by omega))
  have B4X := HBx4x5.out.trans (B5X.mono (by omega))
  have BWX := HWx6.out.trans (B6X.mono (by omega))
  have s1 : Calls Try.prog 18 #[.agg #[.slice D4 rS.length d4, .slice E4 rM.length f4], .agg #[.slice D5 rS.length d5, .slice E5 rM.length f5]] X fun e w' => e = .returned (.bool true) ∧ Below X.heap.size X w' :=
    (same_any D4 E4 D5 E5 d4 f4 d5 f5 rS rM rS rM X ((L4.out.below B4X).more (by omega)) ((M4.out.below B4X).more (by omega)) ((L5.out.below B5X).more (by omega)) ((M5.out.below B5X).more (by omega))).mono fun e w' ⟨he, h⟩ => ⟨by rw [he]; simp, h⟩
  have s2 : ∀ W, Below X.heap.size X W → X.heap.size ≤ W.heap.size → Calls Try.prog 18 #[.agg #[.slice D6 s.length d6, .slice E6 m.length f6], .agg #[.slice A s.length c, .slice A2 m.length c2]] W fun e w' => e = .returned (.bool true) ∧ Below W.heap.size W w' :=
    fun W hb hz => (same_any D6 E6 A A2 d6 f6 c c2 s m s m W (((L6.out.below B6X).more (by omega) |>.below hb).more hz) (((M6.out.below B6X).more (by omega) |>.below hb).more hz) (((G1.out.below BWX).more (by omega) |>.below hb).more hz) (((G2.out.below BWX).more (by omega) |>.below hb).more hz)).mono fun e w' ⟨he, h⟩ => ⟨by rw [he]; simp, h⟩
  have S1 := Lib.hid s1; clear s1
  have S2 := Lib.hid s2; clear s2
  have p6 : x6.heap.size < X.heap.size := by omega
  have p0 : w.heap.size < X.heap.size := by omega
  have BWX' := Lib.hid BWX; clear BWX
  have JJ := Lib.hid (And.intro J17 J3); clear J17 J3
  clear B6X B5X B4X hXs
  have HX := Lib.hid hX; clear hX
  go_wp2_with fail
  rw [← HX.out]
  clear HX
  refine S1.out.mono ?_
  rintro e z1 ⟨rfl, hb5⟩
  have HB5 := Lib.hid hb5
  obtain ⟨q5, q6, _, _⟩ := two_cells (JJ.out.1.below hb5 (by omega))
  obtain ⟨q7, q8, _, _⟩ := two_cells (JJ.out.2.below hb5 (by omega))
  clear q1 q2 q3 q4 hb5
  go_wp2_with fail
  refine (S2.out _ HB5.out HB5.out.size).mono ?_
  rintro e z2 ⟨rfl, hb6⟩
  have HB6 := Lib.hid hb6; clear hb6 q5 q6 q7 q8
  go_wp2_with fail
  refine (known_any _).mono ?_
  rintro e z3 ⟨rfl, hb7⟩
  have HB7 := Lib.hid hb7; clear hb7
  go_wp2_with fail
  go_ret
  have b1 := BWX'.out.trans (HB5.out.mono (by omega))
  have b2 := b1.trans (HB6.out.mono b1.size)
  exact ⟨rfl, b2.trans (HB7.out.mono b2.size)⟩

set_option maxHeartbeats 8000000 in
theorem bitsMorgan_no (A A2 B1 B2 : Option Addr) (c c2 e1 e2 : Nat) (s m s2 m2 : List Int) (n : Int) (w : World) (h1 : In w A s c) (h2 : In w A2 m c2) (h3 : In w B1 s2 e1) (h4 : In w B2 m2 e2) (hno : notB s m n = false ∨ notB s2 m2 n = false) (la : s.length ≤ 3000 ∧ m.length ≤ 3000 ∧ s2.length ≤ 3000 ∧ m2.length ≤ 3000) :
    Calls Try.prog 5 #[.agg #[.slice A s.length c, .slice A2 m.length c2], .agg #[.slice B1 s2.length e1, .slice B2 m2.length e2], .int .i64 n] w fun e w' => e = .returned (.bool true) ∧ Below w.heap.size w w' := by
  have l1 := h1.len; have l2 := h2.len; have l3 := h3.len; have l4 := h4.len
  have g1 := h1.lk la.1; have g2 := h2.lk la.2.1; have g3 := h3.lk la.2.2.1; have g4 := h4.lk la.2.2.2
  have hoa : (decide (3000 < s.length) || decide (3000 < m.length)) = false := by simp; omega
  have hob : (decide (3000 < s2.length) || decide (3000 < m2.length)) = false := by simp; omega
  have HOA := Lib.hid hoa; clear hoa
  have HOB := Lib.hid hob; clear hob
  have c1 : ∀ W, Below w.heap.size w W → w.heap.size ≤ W.heap.size → Calls Try.prog 21 #[.agg #[.slice A s.length c, .slice A2 m.length c2], .int .i64 n] W (KRes W (notRS s m n) (notRM s m n) (opN (notB s m n))) := fun W hw hz => KRes.of_if (not_any A A2 c c2 s m n W ((g1.below hw).more hz) ((g2.below hw).more hz))
  have c2' : ∀ W, Below w.heap.size w W → w.heap.size ≤ W.heap.size → Calls Try.prog 21 #[.agg #[.slice B1 s2.length e1, .slice B2 m2.length e2], .int .i64 n] W (KRes W (notRS s2 m2 n) (notRM s2 m2 n) (opN (notB s2 m2 n))) := fun W hw hz => KRes.of_if (not_any B1 B2 e1 e2 s2 m2 n W ((g3.below hw).more hz) ((g4.below hw).more hz))
  have I1 := Lib.hid (notRS_isS s m n); have I2 := Lib.hid (notRM_isS s m n); have I3 := Lib.hid (notRS_isS s2 m2 n); have I4 := Lib.hid (notRM_isS s2 m2 n)
  generalize notRS s m n = aS at *
  generalize notRM s m n = aM at *
  generalize notRS s2 m2 n = bS at *
  generalize notRM s2 m2 n = bM at *
  generalize notB s m n = va at *
  generalize notB s2 m2 n = vb at *
  have C1 := Lib.hid c1; clear c1
  have C2 := Lib.hid c2'; clear c2'
  clear g1 g2 g3 g4 h1 h2 h3 h4
  cases va
  · have hn1 : opN false = 1 := rfl
    have C1' := C1
    clear C1
    rw [hn1] at C1'
    have C1 := C1'; clear C1'
    cases vb
    · rw [hn1] at C2
      clear hn1 hno
      go_enter Try.func5, Try.ntmps5
      go_wp2_with fail
      refine (over_any A A2 c c2 s m _ l1 l2).mono ?_
      rintro e y1 ⟨rfl, hb1⟩
      rw [HOA.out]
      obtain ⟨k2, k3, hz1, hw1⟩ := two_of hb1
      obtain ⟨q1, q2, _, _⟩ := two_cells k2
      obtain ⟨q3, q4, _, _⟩ := two_cells k3
      have HW1 := Lib.hid hw1; clear hw1
      have HB1 := Lib.hid hb1; clear hb1
      go_wp2_with fail
      refine (over_any B1 B2 e1 e2 s2 m2 _ l3 l4).mono ?_
      rintro e y2 ⟨rfl, hb2⟩
      rw [HOB.out]
      have K2y2 := Lib.hid (k2.below hb2 (by omega)); clear k2
      have K3y2 := Lib.hid (k3.below hb2 (by omega)); clear k3
      clear q1 q2 q3 q4
      obtain ⟨q1, q2, _, _⟩ := two_cells K2y2.out
      obtain ⟨q3, q4, _, _⟩ := two_cells K3y2.out
      have hzy2 : w.heap.size + 1 + 1 ≤ y2.heap.size := by have := hb2.size; omega
      have HWy2 := Lib.hid (HW1.out.trans (hb2.mono (by omega))); clear hb2
      go_wp2_with fail
      refine (C1.out _ HWy2.out (by omega)).mono ?_
      rintro e x1 ⟨D1, d1, E1, f1, rfl, ho1, hp1, hb1⟩
      have K2x1 := Lib.hid (K2y2.out.below hb1 (by omega)); clear K2y2
      have K3x1 := Lib.hid (K3y2.out.below hb1 (by omega)); clear K3y2
      have hzx1 : w.heap.size + 1 + 1 ≤ x1.heap.size := by have := hb1.size; omega
      have HWx1 := Lib.hid (HWy2.out.trans (hb1.mono (by omega)))
      have t1_0 : w.heap.size < x1.heap.size := by omega
      have t1_1 : w.heap.size + 1 < x1.heap.size := by omega
      have L1 := Lib.hid (ho1.lkS I1.out); clear ho1
      have M1 := Lib.hid (hp1.lkS I2.out); clear hp1
      clear hb1
      clear q1 q2 q3 q4
      obtain ⟨q1, q2, _, _⟩ := two_cells K2x1.out
      obtain ⟨q3, q4, _, _⟩ := two_cells K3x1.out
      go_wp2_with fail
      refine (C2.out _ (HWx1.out.alloc (by omega) _) (by simp; omega)).mono ?_
      rintro e x2 ⟨D2, d2, E2, f2, rfl, ho2, hp2, hb2⟩
      have K2x2 := Lib.hid ((K2x1.out.alloc _).below hb2 (by simp; omega)); clear K2x1
      have K3x2 := Lib.hid ((K3x1.out.alloc _).below hb2 (by simp; omega)); clear K3x1
      have KNx1x2 := Lib.hid ((Bk.new x1 _ _).below hb2 (by simp))
      have hzx2 : x1.heap.size + 1 ≤ x2.heap.size := by have := hb2.size; simpa using this
      have HBx1x2 := Lib.hid ((Below.of_alloc x1 _ _ (Nat.le_refl _)).trans (hb2.mono (by simp)))
      have HWx2 := Lib.hid (HWx1.out.trans (HBx1x2.out.mono (by omega)))
      have t2_0 : w.heap.size < x2.heap.size := by omega
      have t2_1 : w.heap.size + 1 < x2.heap.size := by omega
      have t2_2 : x1.heap.size < x2.heap.size := by omega
      have L2 := Lib.hid (ho2.lkS I3.out); clear ho2
      have M2 := Lib.hid (hp2.lkS I4.out); clear hp2
      clear hb2
      clear q1 q2 q3 q4
      obtain ⟨q1, q2, _, _⟩ := two_cells K2x2.out
      obtain ⟨q3, q4, _, _⟩ := two_cells K3x2.out
      go_wp2_with fail
      refine (known_any _).mono ?_
      rintro e y9 ⟨rfl, hb9⟩
      have HW9 := Lib.hid ((HWx2.out.alloc (by omega) _).trans (hb9.mono (by simp; omega))); clear hb9
      go_wp2_with fail
      go_ret
      exact ⟨rfl, HW9.out⟩
    · have hn2 : opN true = 0 := rfl
      rw [hn2] at C2
      clear hn1 hn2 hno
      go_enter Try.func5, Try.ntmps5
      go_wp2_with fail
      refine (over_any A A2 c c2 s m _ l1 l2).mono ?_
      rintro e y1 ⟨rfl, hb1⟩
      rw [HOA.out]
      obtain ⟨k2, k3, hz1, hw1⟩ := two_of hb1
      obtain ⟨q1, q2, _, _⟩ := two_cells k2
      obtain ⟨q3, q4, _, _⟩ := two_cells k3
      have HW1 := Lib.hid hw1; clear hw1
      have HB1 := Lib.hid hb1; clear hb1
      go_wp2_with fail
      refine (over_any B1 B2 e1 e2 s2 m2 _ l3 l4).mono ?_
      rintro e y2 ⟨rfl, hb2⟩
      rw [HOB.out]
      have K2y2 := Lib.hid (k2.below hb2 (by omega)); clear k2
      have K3y2 := Lib.hid (k3.below hb2 (by omega)); clear k3
      clear q1 q2 q3 q4
      obtain ⟨q1, q2, _, _⟩ := two_cells K2y2.out
      obtain ⟨q3, q4, _, _⟩ := two_cells K3y2.out
      have hzy2 : w.heap.size + 1 + 1 ≤ y2.heap.size := by have := hb2.size; omega
      have HWy2 := Lib.hid (HW1.out.trans (hb2.mono (by omega))); clear hb2
      go_wp2_with fail
      refine (C1.out _ HWy2.out (by omega)).mono ?_
      rintro e x1 ⟨D1, d1, E1, f1, rfl, ho1, hp1, hb1⟩
      have K2x1 := Lib.hid (K2y2.out.below hb1 (by omega)); clear K2y2
      have K3x1 := Lib.hid (K3y2.out.below hb1 (by omega)); clear K3y2
      have hzx1 : w.heap.size + 1 + 1 ≤ x1.heap.size := by have := hb1.size; omega
      have HWx1 := Lib.hid (HWy2.out.trans (hb1.mono (by omega)))
      have t1_0 : w.heap.size < x1.heap.size := by omega
      have t1_1 : w.heap.size + 1 < x1.heap.size := by omega
      have L1 := Lib.hid (ho1.lkS I1.out); clear ho1
      have M1 := Lib.hid (hp1.lkS I2.out); clear hp1
      clear hb1
      clear q1 q2 q3 q4
      obtain ⟨q1, q2, _, _⟩ := two_cells K2x1.out
      obtain ⟨q3, q4, _, _⟩ := two_cells K3x1.out
      go_wp2_with fail
      refine (C2.out _ (HWx1.out.alloc (by omega) _) (by simp; omega)).mono ?_
      rintro e x2 ⟨D2, d2, E2, f2, rfl, ho2, hp2, hb2⟩
      have K2x2 := Lib.hid ((K2x1.out.alloc _).below hb2 (by simp; omega)); clear K2x1
      have K3x2 := Lib.hid ((K3x1.out.alloc _).below hb2 (by simp; omega)); clear K3x1
      have KNx1x2 := Lib.hid ((Bk.new x1 _ _).below hb2 (by simp))
      have hzx2 : x1.heap.size + 1 ≤ x2.heap.size := by have := hb2.size; simpa using this
      have HBx1x2 := Lib.hid ((Below.of_alloc x1 _ _ (Nat.le_refl _)).trans (hb2.mono (by simp)))
      have HWx2 := Lib.hid (HWx1.out.trans (HBx1x2.out.mono (by omega)))
      have t2_0 : w.heap.size < x2.heap.size := by omega
      have t2_1 : w.heap.size + 1 < x2.heap.size := by omega
      have t2_2 : x1.heap.size < x2.heap.size := by omega
      have L2 := Lib.hid (ho2.lkS I3.out); clear ho2
      have M2 := Lib.hid (hp2.lkS I4.out); clear hp2
      clear hb2
      clear q1 q2 q3 q4
      obtain ⟨q1, q2, _, _⟩ := two_cells K2x2.out
      obtain ⟨q3, q4, _, _⟩ := two_cells K3x2.out
      go_wp2_with fail
      refine (known_any _).mono ?_
      rintro e y9 ⟨rfl, hb9⟩
      have HW9 := Lib.hid ((HWx2.out.alloc (by omega) _).trans (hb9.mono (by simp; omega))); clear hb9
      go_wp2_with fail
      go_ret
      exact ⟨rfl, HW9.out⟩
  · have hvb : vb = false := by rcases hno with h | h <;> simp_all
    subst hvb
    have hn1 : opN false = 1 := rfl
    have hn2 : opN true = 0 := rfl
    rw [hn2] at C1
    rw [hn1] at C2
    clear hn1 hn2 hno
    go_enter Try.func5, Try.ntmps5
    go_wp2_with fail
    refine (over_any A A2 c c2 s m _ l1 l2).mono ?_
    rintro e y1 ⟨rfl, hb1⟩
    rw [HOA.out]
    obtain ⟨k2, k3, hz1, hw1⟩ := two_of hb1
    obtain ⟨q1, q2, _, _⟩ := two_cells k2
    obtain ⟨q3, q4, _, _⟩ := two_cells k3
    have HW1 := Lib.hid hw1; clear hw1
    have HB1 := Lib.hid hb1; clear hb1
    go_wp2_with fail
    refine (over_any B1 B2 e1 e2 s2 m2 _ l3 l4).mono ?_
    rintro e y2 ⟨rfl, hb2⟩
    rw [HOB.out]
    have K2y2 := Lib.hid (k2.below hb2 (by omega)); clear k2
    have K3y2 := Lib.hid (k3.below hb2 (by omega)); clear k3
    clear q1 q2 q3 q4
    obtain ⟨q1, q2, _, _⟩ := two_cells K2y2.out
    obtain ⟨q3, q4, _, _⟩ := two_cells K3y2.out
    have hzy2 : w.heap.size + 1 + 1 ≤ y2.heap.size := by have := hb2.size; omega
    have HWy2 := Lib.hid (HW1.out.trans (hb2.mono (by omega))); clear hb2
    go_wp2_with fail
    refine (C1.out _ HWy2.out (by omega)).mono ?_
    rintro e x1 ⟨D1, d1, E1, f1, rfl, ho1, hp1, hb1⟩
    have K2x1 := Lib.hid (K2y2.out.below hb1 (by omega)); clear K2y2
    have K3x1 := Lib.hid (K3y2.out.below hb1 (by omega)); clear K3y2
    have hzx1 : w.heap.size + 1 + 1 ≤ x1.heap.size := by have := hb1.size; omega
    have HWx1 := Lib.hid (HWy2.out.trans (hb1.mono (by omega)))
    have t1_0 : w.heap.size < x1.heap.size := by omega
    have t1_1 : w.heap.size + 1 < x1.heap.size := by omega
    have L1 := Lib.hid (ho1.lkS I1.out); clear ho1
    have M1 := Lib.hid (hp1.lkS I2.out); clear hp1
    clear hb1
    clear q1 q2 q3 q4
    obtain ⟨q1, q2, _, _⟩ := two_cells K2x1.out
    obtain ⟨q3, q4, _, _⟩ := two_cells K3x1.out
    go_wp2_with fail
    refine (C2.out _ (HWx1.out.alloc (by omega) _) (by simp; omega)).mono ?_
    rintro e x2 ⟨D2, d2, E2, f2, rfl, ho2, hp2, hb2⟩
    have K2x2 := Lib.hid ((K2x1.out.alloc _).below hb2 (by simp; omega)); clear K2x1
    have K3x2 := Lib.hid ((K3x1.out.alloc _).below hb2 (by simp; omega)); clear K3x1
    have KNx1x2 := Lib.hid ((Bk.new x1 _ _).below hb2 (by simp))
    have hzx2 : x1.heap.size + 1 ≤ x2.heap.size := by have := hb2.size; simpa using this
    have HBx1x2 := Lib.hid ((Below.of_alloc x1 _ _ (Nat.le_refl _)).trans (hb2.mono (by simp)))
    have HWx2 := Lib.hid (HWx1.out.trans (HBx1x2.out.mono (by omega)))
    have t2_0 : w.heap.size < x2.heap.size := by omega
    have t2_1 : w.heap.size + 1 < x2.heap.size := by omega
    have t2_2 : x1.heap.size < x2.heap.size := by omega
    have L2 := Lib.hid (ho2.lkS I3.out); clear ho2
    have M2 := Lib.hid (hp2.lkS I4.out); clear hp2
    clear hb2
    clear q1 q2 q3 q4
    obtain ⟨q1, q2, _, _⟩ := two_cells K2x2.out
    obtain ⟨q3, q4, _, _⟩ := two_cells K3x2.out
    go_wp2_with fail
    refine (known_any _).mono ?_
    rintro e y9 ⟨rfl, hb9⟩
    have HW9 := Lib.hid ((HWx2.out.alloc (by omega) _).trans (hb9.mono (by simp; omega))); clear hb9
    go_wp2_with fail
    go_ret
    exact ⟨rfl, HW9.out⟩

set_option maxHeartbeats 8000000 in
theorem bitsMorgan_any (A A2 B1 B2 : Option Addr) (c c2 e1 e2 : Nat) (s m s2 m2 : List Int) (n : Int) (w : World) (h1 : In w A s c) (h2 : In w A2 m c2) (h3 : In w B1 s2 e1) (h4 : In w B2 m2 e2) :
    Calls Try.prog 5 #[.agg #[.slice A s.length c, .slice A2 m.length c2], .agg #[.slice B1 s2.length e1, .slice B2 m2.length e2], .int .i64 n] w fun e w' => e = .returned (.bool true) ∧ Below w.heap.size w w' := by
  have l1 := h1.len; have l2 := h2.len; have l3 := h3.len; have l4 := h4.len
  by_cases la : s.length ≤ 3000 ∧ m.length ≤ 3000 ∧ s2.length ≤ 3000 ∧ m2.length ≤ 3000
  · by_cases hno : notB s m n = false ∨ notB s2 m2 n = false
    · exact bitsMorgan_no A A2 B1 B2 c c2 e1 e2 s m s2 m2 n w h1 h2 h3 h4 hno la
    · have ha : notB s m n = true := by cases h : notB s m n <;> simp_all
      have hb : notB s2 m2 n = true := by cases h : notB s2 m2 n <;> simp_all
      have hc := ha
      simp only [notB, Bool.and_eq_true] at hc
      obtain ⟨N, rfl, hN⟩ := cntB_nat hc.1.2
      exact bitsMorgan_ok A A2 B1 B2 c c2 e1 e2 s m s2 m2 N w h1 h2 h3 h4 N hN (Kn.of ha) (Kn.of hb) rfl la
  · generalize hoa : (decide (3000 < s.length) || decide (3000 < m.length)) = oa
    generalize hob : (decide (3000 < s2.length) || decide (3000 < m2.length)) = ob
    have hor : oa = true ∨ ob = true := by
      rw [← hoa, ← hob]; simp; omega
    have HOA := Lib.hid hoa; clear hoa
    have HOB := Lib.hid hob; clear hob la
    cases oa
    · have hob : ob = true := by rcases hor with h | h <;> simp_all
      subst hob
      clear hor
      go_enter Try.func5, Try.ntmps5
      go_wp2_with fail
      refine (over_any A A2 c c2 s m _ l1 l2).mono ?_
      rintro e y1 ⟨rfl, hb1⟩
      rw [HOA.out]
      obtain ⟨k2, k3, hz1, hw1⟩ := two_of hb1
      obtain ⟨q1, q2, _, _⟩ := two_cells k2
      obtain ⟨q3, q4, _, _⟩ := two_cells k3
      have HW1 := Lib.hid hw1; clear hw1
      have HB1 := Lib.hid hb1; clear hb1
      go_wp2_with fail
      refine (over_any B1 B2 e1 e2 s2 m2 _ l3 l4).mono ?_
      rintro e y2 ⟨rfl, hb2⟩
      rw [HOB.out]
      have HW2 := Lib.hid (HW1.out.trans (hb2.mono (by omega))); clear hb2
      go_wp2_with fail
      refine (known_any _).mono ?_
      rintro e y9 ⟨rfl, hb9⟩
      have HW9 := Lib.hid (HW2.out.trans (hb9.mono HW2.out.size)); clear hb9
      go_wp2_with fail
      go_ret
      exact ⟨rfl, HW9.out⟩
    · clear hor
      go_enter Try.func5, Try.ntmps5
      go_wp2_with fail
      refine (over_any A A2 c c2 s m _ l1 l2).mono ?_
      rintro e y1 ⟨rfl, hb1⟩
      rw [HOA.out]
      have HW1 := Lib.hid ((below2 w _ _).trans (hb1.mono (by simp; omega))); clear hb1
      go_wp2_with fail
      refine (known_any _).mono ?_
      rintro e y9 ⟨rfl, hb9⟩
      have HW9 := Lib.hid (HW1.out.trans (hb9.mono HW1.out.size)); clear hb9
      go_wp2_with fail
      go_ret
      exact ⟨rfl, HW9.out⟩
end Go.Proofs.Ytjlbodfdkdhdnab
