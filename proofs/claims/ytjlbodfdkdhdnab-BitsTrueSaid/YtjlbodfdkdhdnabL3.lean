/- The walk of BitsJoins. -/
import Derived.Test.YtjlbodfdkdhdnabR8
import Derived.Test.YtjlbodfdkdhdnabL11
import Derived.Deep.RegionHeld3
import Derived.Deep.DrawnRows
namespace Go.Proofs.Ytjlbodfdkdhdnab
open Go.RowKit
set_option linter.unusedVariables false
set_option linter.unusedSimpArgs false
attribute [local go_sem ↓] Go.wp_at_zero Go.wp_at_succ

def opS (v : Bool) (l : List Int) : List Int := if v then l else []
def opN (v : Bool) : Int := if v then 0 else 1
theorem opS_isS {v : Bool} {l : List Int} (h : v = true → IsS l) : IsS (opS v l) := by
  cases v
  · exact ⟨by simp [opS], by simp [opS]⟩
  · exact h rfl
theorem KRes.of_if {w : World} {v : Bool} {l k : List Int} {P : Program} {f : FuncId} {args : Array Value} (h : Calls P f args w (if v then KRes w l k 0 else KRes w [] [] 1)) : Calls P f args w (KRes w (opS v l) (opS v k) (opN v)) := by
  cases v <;> exact h
theorem vb_and {s m s2 m2 : List Int} (h : (VB s m && VB s2 m2) = true) : (IsS s ∧ IsS m) ∧ IsS s2 ∧ IsS m2 := by
  rw [Bool.and_eq_true, VB_iff, VB_iff] at h
  exact ⟨⟨h.1.1, h.1.2.1⟩, h.2.1, h.2.2.1⟩
theorem two_of {w w1 : World} {cs1 cs2 : Array Value} {t1 t2 : TypeId} (hb1 : Below ((w.alloc (.cells cs1 t1)).alloc (.cells cs2 t2)).heap.size ((w.alloc (.cells cs1 t1)).alloc (.cells cs2 t2)) w1) :
    Bk w1 w.heap.size t1 cs1 ∧ Bk w1 (w.heap.size + 1) t2 cs2 ∧ w.heap.size + 1 + 1 ≤ w1.heap.size ∧ Below w.heap.size w w1 := by
  refine ⟨((Bk.new w _ _).alloc _).below hb1 (by simp; omega), (by simpa using Bk.new (w.alloc _) _ _ : Bk _ _ _ _).below hb1 (by simp), by have := hb1.size; simp at this; omega, ?_⟩
  exact (below2 w _ _).trans (hb1.mono (by simp; omega))
theorem Own.lkS {w : World} {base : Nat} {A : Option Addr} {c : Nat} {zs : List Int} (h : Own w base 3 .i64 (.slice A zs.length c) zs) (hs : IsS zs) : Lk w w.heap.size A zs c :=
  h.lk' (by have := hs.length_le; omega) hs.is64

set_option maxHeartbeats 8000000 in
theorem bitsJoins_any (A A2 B1 B2 : Option Addr) (c c2 e1 e2 : Nat) (s m s2 m2 : List Int) (w : World) (h1 : In w A s c) (h2 : In w A2 m c2) (h3 : In w B1 s2 e1) (h4 : In w B2 m2 e2) :
    Calls Try.prog 3 #[.agg #[.slice A s.length c, .slice A2 m.length c2], .agg #[.slice B1 s2.length e1, .slice B2 m2.length e2]] w fun e w' => e = .returned (.bool true) ∧ Below w.heap.size w w' := by
  have l1 := h1.len; have l2 := h2.len; have l3 := h3.len; have l4 := h4.len
  generalize hoa : (decide (3000 < s.length) || decide (3000 < m.length)) = oa
  generalize hob : (decide (3000 < s2.length) || decide (3000 < m2.length)) = ob
  have HOA := Lib.hid hoa; clear hoa
  have HOB := Lib.hid hob; clear hob
  cases oa
  · cases ob
    · have ha := HOA.out; have hb := HOB.out
      simp only [Bool.or_eq_false_iff, decide_eq_false_iff_not] at ha hb
      have g1 := h1.lk (by omega); have g2 := h2.lk (by omega); have g3 := h3.lk (by omega); have g4 := h4.lk (by omega)
      clear ha hb
      have c1 : ∀ W, Below w.heap.size w W → w.heap.size ≤ W.heap.size → Calls Try.prog 14 #[.agg #[.slice A s.length c, .slice A2 m.length c2], .agg #[.slice B1 s2.length e1, .slice B2 m2.length e2]] W (KRes W (opS (VB s m && VB s2 m2) (interL s s2)) (opS (VB s m && VB s2 m2) (interL m m2)) (opN (VB s m && VB s2 m2))) := fun W hw hz => KRes.of_if (and_any A A2 B1 B2 c c2 e1 e2 s m s2 m2 W ((g1.below hw).more hz) ((g2.below hw).more hz) ((g3.below hw).more hz) ((g4.below hw).more hz))
      have c2' : ∀ W, Below w.heap.size w W → w.heap.size ≤ W.heap.size → Calls Try.prog 15 #[.agg #[.slice A s.length c, .slice A2 m.length c2], .agg #[.slice B1 s2.length e1, .slice B2 m2.length e2]] W (KRes W (opS (VB s m && VB s2 m2) (interL s s2)) (opS (VB s m && VB s2 m2) (interL m m2)) (opN (VB s m && VB s2 m2))) := fun W hw hz => KRes.of_if (refAnd_any A A2 B1 B2 c c2 e1 e2 s m s2 m2 W ((g1.below hw).more hz) ((g2.below hw).more hz) ((g3.below hw).more hz) ((g4.below hw).more hz))
      have c3 : ∀ W, Below w.heap.size w W → w.heap.size ≤ W.heap.size → Calls Try.prog 16 #[.agg #[.slice A s.length c, .slice A2 m.length c2], .agg #[.slice B1 s2.length e1, .slice B2 m2.length e2]] W (KRes W (opS (VB s m && VB s2 m2) (unionL s s2)) (opS (VB s m && VB s2 m2) (unionL m m2)) (opN (VB s m && VB s2 m2))) := fun W hw hz => KRes.of_if (or_any A A2 B1 B2 c c2 e1 e2 s m s2 m2 W ((g1.below hw).more hz) ((g2.below hw).more hz) ((g3.below hw).more hz) ((g4.below hw).more hz))
      have c4 : ∀ W, Below w.heap.size w W → w.heap.size ≤ W.heap.size → Calls Try.prog 17 #[.agg #[.slice A s.length c, .slice A2 m.length c2], .agg #[.slice B1 s2.length e1, .slice B2 m2.length e2]] W (KRes W (opS (VB s m && VB s2 m2) (unionL s s2)) (opS (VB s m && VB s2 m2) (unionL m m2)) (opN (VB s m && VB s2 m2))) := fun W hw hz => KRes.of_if (refOr_any A A2 B1 B2 c c2 e1 e2 s m s2 m2 W ((g1.below hw).more hz) ((g2.below hw).more hz) ((g3.below hw).more hz) ((g4.below hw).more hz))
      have v1 : ∀ W, Below w.heap.size w W → w.heap.size ≤ W.heap.size → Calls Try.prog 19 #[.agg #[.slice A s.length c, .slice A2 m.length c2]] W fun e w' => e = .returned (.int .i64 (VN s m)) ∧ Below W.heap.size W w' := fun W hw hz => validate_any A A2 c c2 s m W ((g1.below hw).more hz) ((g2.below hw).more hz)
      have v2 : ∀ W, Below w.heap.size w W → w.heap.size ≤ W.heap.size → Calls Try.prog 20 #[.agg #[.slice A s.length c, .slice A2 m.length c2]] W fun e w' => e = .returned (.int .i64 (VN s m)) ∧ Below W.heap.size W w' := fun W hw hz => refValidate_any A A2 c c2 s m W ((g1.below hw).more hz) ((g2.below hw).more hz)
      have i1 : IsS (opS (VB s m && VB s2 m2) (interL s s2)) := opS_isS fun h => (vb_and h).1.1.merge (vb_and h).2.1 _ _ _
      have i2 : IsS (opS (VB s m && VB s2 m2) (interL m m2)) := opS_isS fun h => (vb_and h).1.2.merge (vb_and h).2.2 _ _ _
      have i3 : IsS (opS (VB s m && VB s2 m2) (unionL s s2)) := opS_isS fun h => (vb_and h).1.1.merge (vb_and h).2.1 _ _ _
      have i4 : IsS (opS (VB s m && VB s2 m2) (unionL m m2)) := opS_isS fun h => (vb_and h).1.2.merge (vb_and h).2.2 _ _ _
      generalize opS (VB s m && VB s2 m2) (interL s s2) = iS at *
      generalize opS (VB s m && VB s2 m2) (interL m m2) = iM at *
      generalize opS (VB s m && VB s2 m2) (unionL s s2) = uS at *
      generalize opS (VB s m && VB s2 m2) (unionL m m2) = uM at *
      generalize opN (VB s m && VB s2 m2) = n at *
      generalize VN s m = vn at *
      have C1 := Lib.hid c1; clear c1
      have C2 := Lib.hid c2'; clear c2'
      have C3 := Lib.hid c3; clear c3
      have C4 := Lib.hid c4; clear c4
      have V1 := Lib.hid v1; clear v1
      have V2 := Lib.hid v2; clear v2
      have I1 := Lib.hid i1; clear i1
      have I2 := Lib.hid i2; clear i2
      have I3 := Lib.hid i3; clear i3
      have I4 := Lib.hid i4; clear i4
      clear g1 g2 g3 g4 h1 h2 h3 h4
      go_enter Try.func3, Try.ntmps3
      go_wp2_with fail
      refine (over_any A A2 c c2 s m _ l1 l2).mono ?_
      rintro e y1 ⟨rfl, hb1⟩
      rw [HOA.out]
      obtain ⟨k2, k3, hz1, hw1⟩ := two_of hb1
      obtain ⟨q1, q2, _, _⟩ := two_cells k2
      obtain ⟨q3, q4, _, _⟩ := two_cells k3
      have HW1 := Lib.hid hw1; clear hw1
      have HB1 := Lib.hid hb1; clear hb1
      go_wp2_with fail
      refine (over_any B1 B2 e1 e2 s2 m2 _ l3 l4).mono ?_
      rintro e y2 ⟨rfl, hb2⟩
      rw [HOB.out]
      have K2 := Lib.hid (k2.below hb2 (by omega)); clear k2
      have K3 := Lib.hid (k3.below hb2 (by omega)); clear k3
      clear q1 q2 q3 q4
      obtain ⟨q1, q2, _, _⟩ := two_cells K2.out
      obtain ⟨q3, q4, _, _⟩ := two_cells K3.out
      have hz2 : w.heap.size + 1 + 1 ≤ y2.heap.size := by have := hb2.size; omega
      have HW2 := Lib.hid (HW1.out.trans (hb2.mono (by omega))); clear hb2
      go_wp2_with fail
      refine (C1.out _ HW2.out (by omega)).mono ?_
      rintro e x1 ⟨D1, d1, E1, f1, rfl, ho1, hp1, hb1⟩
      have K2a := Lib.hid (K2.out.below hb1 (by omega)); clear K2
      have K3a := Lib.hid (K3.out.below hb1 (by omega)); clear K3
      have hz3 : w.heap.size + 1 + 1 ≤ x1.heap.size := by have := hb1.size; omega
      have HW3 := Lib.hid (HW2.out.trans (hb1.mono (by omega)))
      have t1 : w.heap.size < x1.heap.size := by omega
      have u1 : w.heap.size + 1 < x1.heap.size := by omega
      have L1 := Lib.hid (ho1.lkS I1.out); clear ho1
      have M1 := Lib.hid (hp1.lkS I2.out); clear hp1
      clear q1 q2 q3 q4 hb1
      obtain ⟨q1, q2, _, _⟩ := two_cells K2a.out
      obtain ⟨q3, q4, _, _⟩ := two_cells K3a.out
      go_wp2_with fail
      refine (C2.out _ (HW3.out.alloc (by omega) _) (by simp; omega)).mono ?_
      rintro e x2 ⟨D2, d2, E2, f2, rfl, ho2, hp2, hb2⟩
      have K5b := Lib.hid ((Bk.new x1 _ _).below hb2 (by simp))
      have K2b := Lib.hid ((K2a.out.alloc _).below hb2 (by simp; omega)); clear K2a
      have K3b := Lib.hid ((K3a.out.alloc _).below hb2 (by simp; omega)); clear K3a
      have hz4 : x1.heap.size + 1 ≤ x2.heap.size := by have := hb2.size; simpa using this
      have HB12 := Lib.hid ((Below.of_alloc x1 _ _ (Nat.le_refl _)).trans (hb2.mono (by simp)))
      have HW4 := Lib.hid (HW3.out.trans (HB12.out.mono (by omega)))
      have t2 : w.heap.size < x2.heap.size := by omega
      have u2 : w.heap.size + 1 < x2.heap.size := by omega
      have L2 := Lib.hid (ho2.lkS I1.out); clear ho2
      have M2 := Lib.hid (hp2.lkS I2.out); clear hp2
      clear q1 q2 q3 q4 hb2
      obtain ⟨q1, q2, _, _⟩ := two_cells K2b.out
      obtain ⟨q3, q4, _, _⟩ := two_cells K3b.out
      go_wp2_with fail
      refine (C3.out _ (HW4.out.alloc (by omega) _) (by simp; omega)).mono ?_
      rintro e x3 ⟨D3, d3, E3, f3, rfl, ho3, hp3, hb3⟩
      have K7c := Lib.hid ((Bk.new x2 _ _).below hb3 (by simp))
      have K5c := Lib.hid ((K5b.out.alloc _).below hb3 (by simp; omega)); clear K5b
      have K2c := Lib.hid ((K2b.out.alloc _).below hb3 (by simp; omega)); clear K2b
      have K3c := Lib.hid ((K3b.out.alloc _).below hb3 (by simp; omega)); clear K3b
      have hz5 : x2.heap.size + 1 ≤ x3.heap.size := by have := hb3.size; simpa using this
      have HB23 := Lib.hid ((Below.of_alloc x2 _ _ (Nat.le_refl _)).trans (hb3.mono (by simp)))
      have HW5 := Lib.hid (HW4.out.trans (HB23.out.mono (by omega)))
      have t3 : w.heap.size < x3.heap.size := by omega
      have u3 : w.heap.size + 1 < x3.heap.size := by omega
      have L3 := Lib.hid (ho3.lkS I3.out); clear ho3
      have M3 := Lib.hid (hp3.lkS I4.out); clear hp3
      clear q1 q2 q3 q4 hb3
      obtain ⟨q1, q2, _, _⟩ := two_cells K2c.out
      obtain ⟨q3, q4, _, _⟩ := two_cells K3c.out
      go_wp2_with fail
      refine (C4.out _ (HW5.out.alloc (by omega) _) (by simp; omega)).mono ?_
      rintro e x4 ⟨D4, d4, E4, f4, rfl, ho4, hp4, hb4⟩
      have K9d := Lib.hid ((Bk.new x3 _ _).below hb4 (by simp))
      have K7d := Lib.hid ((K7c.out.alloc _).below hb4 (by simp; omega)); clear K7c
      have K5d := Lib.hid ((K5c.out.alloc _).below hb4 (by simp; omega)); clear K5c
      have K2d := Lib.hid ((K2c.out.alloc _).below hb4 (by simp; omega)); clear K2c
      have K3d := Lib.hid ((K3c.out.alloc _).below hb4 (by simp; omega)); clear K3c
      have hz6 : x3.heap.size + 1 ≤ x4.heap.size := by have := hb4.size; simpa using this
      have HB34 := Lib.hid ((Below.of_alloc x3 _ _ (Nat.le_refl _)).trans (hb4.mono (by simp)))
      have HW6 := Lib.hid (HW5.out.trans (HB34.out.mono (by omega)))
      have t4 : w.heap.size < x4.heap.size := by omega
      have u4 : w.heap.size + 1 < x4.heap.size := by omega
      have L4 := Lib.hid (ho4.lkS I3.out); clear ho4
      have M4 := Lib.hid (hp4.lkS I4.out); clear hp4
      clear q1 q2 q3 q4 hb4
      obtain ⟨q1, q2, _, _⟩ := two_cells K2d.out
      go_wp2_with fail
      obtain ⟨X, hX⟩ : ∃ X, X = x4.alloc (.cells #[.slice D4 uS.length d4, .slice E4 uM.length f4] 24) := ⟨_, rfl⟩
      have hXs : X.heap.size = x4.heap.size + 1 := by rw [hX]; simp
      have B4X : Below x4.heap.size x4 X := by rw [hX]; exact Below.of_alloc _ _ _ (Nat.le_refl _)
      have J11 : Bk X x4.heap.size 24 #[.slice D4 uS.length d4, .slice E4 uM.length f4] := by rw [hX]; exact Bk.new _ _ _
      rw [← hX]
      clear hX q1 q2
      have J9 := K9d.out.below B4X K9d.out.lt
      have J7 := K7d.out.below B4X K7d.out.lt
      have J5 := K5d.out.below B4X K5d.out.lt
      have J2 := K2d.out.below B4X K2d.out.lt
      clear K9d K7d K5d K2d K3d
      have B3X := HB34.out.trans (B4X.mono (by omega))
      have B2X := HB23.out.trans (B3X.mono (by omega))
      have B1X := HB12.out.trans (B2X.mono (by omega))
      have BWX := HW3.out.trans (B1X.mono (by omega))
      have hp1 : x1.heap.size < X.heap.size := by omega
      have hp2 : x2.heap.size < X.heap.size := by omega
      have hp3 : x3.heap.size < X.heap.size := by omega
      have hp4 : x4.heap.size < X.heap.size := by omega
      have hp0 : w.heap.size < X.heap.size := by omega
      have S1 : Hid (∀ W, Below X.heap.size X W → X.heap.size ≤ W.heap.size → Calls Try.prog 18 #[.agg #[.slice D1 iS.length d1, .slice E1 iM.length f1], .agg #[.slice D2 iS.length d2, .slice E2 iM.length f2]] W fun e w' => e = .returned (.bool true) ∧ Below W.heap.size W w') :=
        Lib.hid fun W hb hz => (same_any D1 E1 D2 E2 d1 f1 d2 f2 iS iM iS iM W (((L1.out.below B1X).more (by omega) |>.below hb).more hz) (((M1.out.below B1X).more (by omega) |>.below hb).more hz) (((L2.out.below B2X).more (by omega) |>.below hb).more hz) (((M2.out.below B2X).more (by omega) |>.below hb).more hz)).mono fun e w' ⟨he, h⟩ => ⟨by rw [he]; simp, h⟩
      have S2 : Hid (∀ W, Below X.heap.size X W → X.heap.size ≤ W.heap.size → Calls Try.prog 18 #[.agg #[.slice D3 uS.length d3, .slice E3 uM.length f3], .agg #[.slice D4 uS.length d4, .slice E4 uM.length f4]] W fun e w' => e = .returned (.bool true) ∧ Below W.heap.size W w') :=
        Lib.hid fun W hb hz => (same_any D3 E3 D4 E4 d3 f3 d4 f4 uS uM uS uM W (((L3.out.below B3X).more (by omega) |>.below hb).more hz) (((M3.out.below B3X).more (by omega) |>.below hb).more hz) (((L4.out.below B4X).more (by omega) |>.below hb).more hz) (((M4.out.below B4X).more (by omega) |>.below hb).more hz)).mono fun e w' ⟨he, h⟩ => ⟨by rw [he]; simp, h⟩
      have V1' : Hid (∀ W, Below X.heap.size X W → X.heap.size ≤ W.heap.size → Calls Try.prog 19 #[.agg #[.slice A s.length c, .slice A2 m.length c2]] W fun e w' => e = .returned (.int .i64 vn) ∧ Below W.heap.size W w') := Lib.hid fun W hb hz => V1.out W (BWX.trans (hb.mono (by omega))) (by omega)
      have V2' : Hid (∀ W, Below X.heap.size X W → X.heap.size ≤ W.heap.size → Calls Try.prog 20 #[.agg #[.slice A s.length c, .slice A2 m.length c2]] W fun e w' => e = .returned (.int .i64 vn) ∧ Below W.heap.size W w') := Lib.hid fun W hb hz => V2.out W (BWX.trans (hb.mono (by omega))) (by omega)
      obtain ⟨q1, q2, _, _⟩ := two_cells J2
      obtain ⟨q3, q4, _, _⟩ := two_cells J5
      obtain ⟨q5, q6, _, _⟩ := two_cells J7
      obtain ⟨q7, q8, _, _⟩ := two_cells J9
      obtain ⟨q9, q10, _, _⟩ := two_cells J11
      have JJ := Lib.hid (And.intro J2 (And.intro J5 (And.intro J7 (And.intro J9 J11)))); clear J2 J5 J7 J9 J11
      have BWX' := Lib.hid BWX; clear BWX
      clear B1X B2X B3X B4X L1 L2 L3 L4 M1 M2 M3 M4 HB12 HB23 HB34 HW1 HW2 HW3 HW4 HW5 HW6 V1 V2 C1 C2 C3 C4 I1 I2 I3 I4 hz1 hz2 hz3 hz4 hz5 hz6 t1 t2 t3 t4 u1 u2 u3 u4 hXs HB1 HOA HOB l1 l2 l3 l4
      have hbw := Lib.hid ((Below.refl X.heap.size X).drew)
      have hz : X.heap.size ≤ X.drew.heap.size := by simp
      go_region_held3 (fun x => x.cell? ⟨w.heap.size, 0, none⟩ = some (.slice A s.length c) ∧ x.cell? ⟨w.heap.size, 1, none⟩ = some (.slice A2 m.length c2) ∧ x.cell? ⟨x1.heap.size, 0, none⟩ = some (.slice D1 iS.length d1) ∧ x.cell? ⟨x1.heap.size, 1, none⟩ = some (.slice E1 iM.length f1) ∧ x.cell? ⟨x2.heap.size, 0, none⟩ = some (.slice D2 iS.length d2) ∧ x.cell? ⟨x2.heap.size, 1, none⟩ = some (.slice E2 iM.length f2) ∧ x.cell? ⟨x3.heap.size, 0, none⟩ = some (.slice D3 uS.length d3) ∧ x.cell? ⟨x3.heap.size, 1, none⟩ = some (.slice E3 uM.length f3) ∧ x.cell? ⟨x4.heap.size, 0, none⟩ = some (.slice D4 uS.length d4) ∧ x.cell? ⟨x4.heap.size, 1, none⟩ = some (.slice E4 uM.length f4))
        (first | exact ⟨q1, q2, q3, q4, q5, q6, q7, q8, q9, q10⟩ | go_keep)
        (first
        | (go_at_call 18; (with_reducible refine (S1.out _ hbw.out hz).mono ?_); rintro e z1 ⟨rfl, hx1⟩;
           have q1 : z1.cell? ⟨w.heap.size, 0, none⟩ = some (.slice A s.length c) := (hx1.cell (p := ⟨w.heap.size, 0, none⟩) (by simp at hz ⊢; omega)).trans q1;
           have q2 : z1.cell? ⟨w.heap.size, 1, none⟩ = some (.slice A2 m.length c2) := (hx1.cell (p := ⟨w.heap.size, 1, none⟩) (by simp at hz ⊢; omega)).trans q2;
           have q3 : z1.cell? ⟨x1.heap.size, 0, none⟩ = some (.slice D1 iS.length d1) := (hx1.cell (p := ⟨x1.heap.size, 0, none⟩) (by simp at hz ⊢; omega)).trans q3;
           have q4 : z1.cell? ⟨x1.heap.size, 1, none⟩ = some (.slice E1 iM.length f1) := (hx1.cell (p := ⟨x1.heap.size, 1, none⟩) (by simp at hz ⊢; omega)).trans q4;
           have q5 : z1.cell? ⟨x2.heap.size, 0, none⟩ = some (.slice D2 iS.length d2) := (hx1.cell (p := ⟨x2.heap.size, 0, none⟩) (by simp at hz ⊢; omega)).trans q5;
           have q6 : z1.cell? ⟨x2.heap.size, 1, none⟩ = some (.slice E2 iM.length f2) := (hx1.cell (p := ⟨x2.heap.size, 1, none⟩) (by simp at hz ⊢; omega)).trans q6;
           have q7 : z1.cell? ⟨x3.heap.size, 0, none⟩ = some (.slice D3 uS.length d3) := (hx1.cell (p := ⟨x3.heap.size, 0, none⟩) (by simp at hz ⊢; omega)).trans q7;
           have q8 : z1.cell? ⟨x3.heap.size, 1, none⟩ = some (.slice E3 uM.length f3) := (hx1.cell (p := ⟨x3.heap.size, 1, none⟩) (by simp at hz ⊢; omega)).trans q8;
           have q9 : z1.cell? ⟨x4.heap.size, 0, none⟩ = some (.slice D4 uS.length d4) := (hx1.cell (p := ⟨x4.heap.size, 0, none⟩) (by simp at hz ⊢; omega)).trans q9;
           have q10 : z1.cell? ⟨x4.heap.size, 1, none⟩ = some (.slice E4 uM.length f4) := (hx1.cell (p := ⟨x4.heap.size, 1, none⟩) (by simp at hz ⊢; omega)).trans q10;
           have hz' : X.heap.size ≤ z1.heap.size := (Nat.le_trans hz hx1.size);
           have hbw := Lib.hid (hbw.out.trans (hx1.mono (by omega)));
           clear hz;
           have hz := hz';
           clear hx1 hz')
        | (go_at_call 18; (with_reducible refine (S2.out _ hbw.out hz).mono ?_); rintro e z2 ⟨rfl, hx2⟩;
           have q1 : z2.cell? ⟨w.heap.size, 0, none⟩ = some (.slice A s.length c) := (hx2.cell (p := ⟨w.heap.size, 0, none⟩) (by simp at hz ⊢; omega)).trans q1;
           have q2 : z2.cell? ⟨w.heap.size, 1, none⟩ = some (.slice A2 m.length c2) := (hx2.cell (p := ⟨w.heap.size, 1, none⟩) (by simp at hz ⊢; omega)).trans q2;
           have q3 : z2.cell? ⟨x1.heap.size, 0, none⟩ = some (.slice D1 iS.length d1) := (hx2.cell (p := ⟨x1.heap.size, 0, none⟩) (by simp at hz ⊢; omega)).trans q3;
           have q4 : z2.cell? ⟨x1.heap.size, 1, none⟩ = some (.slice E1 iM.length f1) := (hx2.cell (p := ⟨x1.heap.size, 1, none⟩) (by simp at hz ⊢; omega)).trans q4;
           have q5 : z2.cell? ⟨x2.heap.size, 0, none⟩ = some (.slice D2 iS.length d2) := (hx2.cell (p := ⟨x2.heap.size, 0, none⟩) (by simp at hz ⊢; omega)).trans q5;
           have q6 : z2.cell? ⟨x2.heap.size, 1, none⟩ = some (.slice E2 iM.length f2) := (hx2.cell (p := ⟨x2.heap.size, 1, none⟩) (by simp at hz ⊢; omega)).trans q6;
           have q7 : z2.cell? ⟨x3.heap.size, 0, none⟩ = some (.slice D3 uS.length d3) := (hx2.cell (p := ⟨x3.heap.size, 0, none⟩) (by simp at hz ⊢; omega)).trans q7;
           have q8 : z2.cell? ⟨x3.heap.size, 1, none⟩ = some (.slice E3 uM.length f3) := (hx2.cell (p := ⟨x3.heap.size, 1, none⟩) (by simp at hz ⊢; omega)).trans q8;
           have q9 : z2.cell? ⟨x4.heap.size, 0, none⟩ = some (.slice D4 uS.length d4) := (hx2.cell (p := ⟨x4.heap.size, 0, none⟩) (by simp at hz ⊢; omega)).trans q9;
           have q10 : z2.cell? ⟨x4.heap.size, 1, none⟩ = some (.slice E4 uM.length f4) := (hx2.cell (p := ⟨x4.heap.size, 1, none⟩) (by simp at hz ⊢; omega)).trans q10;
           have hz' : X.heap.size ≤ z2.heap.size := (Nat.le_trans hz hx2.size);
           have hbw := Lib.hid (hbw.out.trans (hx2.mono (by omega)));
           clear hz;
           have hz := hz';
           clear hx2 hz')
        | (go_at_call 19; (with_reducible refine (V1'.out _ hbw.out hz).mono ?_); rintro e z3 ⟨rfl, hx3⟩;
           have q1 : z3.cell? ⟨w.heap.size, 0, none⟩ = some (.slice A s.length c) := (hx3.cell (p := ⟨w.heap.size, 0, none⟩) (by simp at hz ⊢; omega)).trans q1;
           have q2 : z3.cell? ⟨w.heap.size, 1, none⟩ = some (.slice A2 m.length c2) := (hx3.cell (p := ⟨w.heap.size, 1, none⟩) (by simp at hz ⊢; omega)).trans q2;
           have q3 : z3.cell? ⟨x1.heap.size, 0, none⟩ = some (.slice D1 iS.length d1) := (hx3.cell (p := ⟨x1.heap.size, 0, none⟩) (by simp at hz ⊢; omega)).trans q3;
           have q4 : z3.cell? ⟨x1.heap.size, 1, none⟩ = some (.slice E1 iM.length f1) := (hx3.cell (p := ⟨x1.heap.size, 1, none⟩) (by simp at hz ⊢; omega)).trans q4;
           have q5 : z3.cell? ⟨x2.heap.size, 0, none⟩ = some (.slice D2 iS.length d2) := (hx3.cell (p := ⟨x2.heap.size, 0, none⟩) (by simp at hz ⊢; omega)).trans q5;
           have q6 : z3.cell? ⟨x2.heap.size, 1, none⟩ = some (.slice E2 iM.length f2) := (hx3.cell (p := ⟨x2.heap.size, 1, none⟩) (by simp at hz ⊢; omega)).trans q6;
           have q7 : z3.cell? ⟨x3.heap.size, 0, none⟩ = some (.slice D3 uS.length d3) := (hx3.cell (p := ⟨x3.heap.size, 0, none⟩) (by simp at hz ⊢; omega)).trans q7;
           have q8 : z3.cell? ⟨x3.heap.size, 1, none⟩ = some (.slice E3 uM.length f3) := (hx3.cell (p := ⟨x3.heap.size, 1, none⟩) (by simp at hz ⊢; omega)).trans q8;
           have q9 : z3.cell? ⟨x4.heap.size, 0, none⟩ = some (.slice D4 uS.length d4) := (hx3.cell (p := ⟨x4.heap.size, 0, none⟩) (by simp at hz ⊢; omega)).trans q9;
           have q10 : z3.cell? ⟨x4.heap.size, 1, none⟩ = some (.slice E4 uM.length f4) := (hx3.cell (p := ⟨x4.heap.size, 1, none⟩) (by simp at hz ⊢; omega)).trans q10;
           have hz' : X.heap.size ≤ z3.heap.size := (Nat.le_trans hz hx3.size);
           have hbw := Lib.hid (hbw.out.trans (hx3.mono (by omega)));
           clear hz;
           have hz := hz';
           clear hx3 hz')
        | (go_at_call 20; (with_reducible refine (V2'.out _ hbw.out hz).mono ?_); rintro e z4 ⟨rfl, hx4⟩;
           have q1 : z4.cell? ⟨w.heap.size, 0, none⟩ = some (.slice A s.length c) := (hx4.cell (p := ⟨w.heap.size, 0, none⟩) (by simp at hz ⊢; omega)).trans q1;
           have q2 : z4.cell? ⟨w.heap.size, 1, none⟩ = some (.slice A2 m.length c2) := (hx4.cell (p := ⟨w.heap.size, 1, none⟩) (by simp at hz ⊢; omega)).trans q2;
           have q3 : z4.cell? ⟨x1.heap.size, 0, none⟩ = some (.slice D1 iS.length d1) := (hx4.cell (p := ⟨x1.heap.size, 0, none⟩) (by simp at hz ⊢; omega)).trans q3;
           have q4 : z4.cell? ⟨x1.heap.size, 1, none⟩ = some (.slice E1 iM.length f1) := (hx4.cell (p := ⟨x1.heap.size, 1, none⟩) (by simp at hz ⊢; omega)).trans q4;
           have q5 : z4.cell? ⟨x2.heap.size, 0, none⟩ = some (.slice D2 iS.length d2) := (hx4.cell (p := ⟨x2.heap.size, 0, none⟩) (by simp at hz ⊢; omega)).trans q5;
           have q6 : z4.cell? ⟨x2.heap.size, 1, none⟩ = some (.slice E2 iM.length f2) := (hx4.cell (p := ⟨x2.heap.size, 1, none⟩) (by simp at hz ⊢; omega)).trans q6;
           have q7 : z4.cell? ⟨x3.heap.size, 0, none⟩ = some (.slice D3 uS.length d3) := (hx4.cell (p := ⟨x3.heap.size, 0, none⟩) (by simp at hz ⊢; omega)).trans q7;
           have q8 : z4.cell? ⟨x3.heap.size, 1, none⟩ = some (.slice E3 uM.length f3) := (hx4.cell (p := ⟨x3.heap.size, 1, none⟩) (by simp at hz ⊢; omega)).trans q8;
           have q9 : z4.cell? ⟨x4.heap.size, 0, none⟩ = some (.slice D4 uS.length d4) := (hx4.cell (p := ⟨x4.heap.size, 0, none⟩) (by simp at hz ⊢; omega)).trans q9;
           have q10 : z4.cell? ⟨x4.heap.size, 1, none⟩ = some (.slice E4 uM.length f4) := (hx4.cell (p := ⟨x4.heap.size, 1, none⟩) (by simp at hz ⊢; omega)).trans q10;
           have hz' : X.heap.size ≤ z4.heap.size := (Nat.le_trans hz hx4.size);
           have hbw := Lib.hid (hbw.out.trans (hx4.mono (by omega)));
           clear hz;
           have hz := hz';
           clear hx4 hz')
        | (go_at_call 13; (with_reducible refine (known_any _).mono ?_); rintro e z5 ⟨rfl, hx5⟩;
           have q1 : z5.cell? ⟨w.heap.size, 0, none⟩ = some (.slice A s.length c) := (hx5.cell (p := ⟨w.heap.size, 0, none⟩) (by simp at hz ⊢; omega)).trans q1;
           have q2 : z5.cell? ⟨w.heap.size, 1, none⟩ = some (.slice A2 m.length c2) := (hx5.cell (p := ⟨w.heap.size, 1, none⟩) (by simp at hz ⊢; omega)).trans q2;
           have q3 : z5.cell? ⟨x1.heap.size, 0, none⟩ = some (.slice D1 iS.length d1) := (hx5.cell (p := ⟨x1.heap.size, 0, none⟩) (by simp at hz ⊢; omega)).trans q3;
           have q4 : z5.cell? ⟨x1.heap.size, 1, none⟩ = some (.slice E1 iM.length f1) := (hx5.cell (p := ⟨x1.heap.size, 1, none⟩) (by simp at hz ⊢; omega)).trans q4;
           have q5 : z5.cell? ⟨x2.heap.size, 0, none⟩ = some (.slice D2 iS.length d2) := (hx5.cell (p := ⟨x2.heap.size, 0, none⟩) (by simp at hz ⊢; omega)).trans q5;
           have q6 : z5.cell? ⟨x2.heap.size, 1, none⟩ = some (.slice E2 iM.length f2) := (hx5.cell (p := ⟨x2.heap.size, 1, none⟩) (by simp at hz ⊢; omega)).trans q6;
           have q7 : z5.cell? ⟨x3.heap.size, 0, none⟩ = some (.slice D3 uS.length d3) := (hx5.cell (p := ⟨x3.heap.size, 0, none⟩) (by simp at hz ⊢; omega)).trans q7;
           have q8 : z5.cell? ⟨x3.heap.size, 1, none⟩ = some (.slice E3 uM.length f3) := (hx5.cell (p := ⟨x3.heap.size, 1, none⟩) (by simp at hz ⊢; omega)).trans q8;
           have q9 : z5.cell? ⟨x4.heap.size, 0, none⟩ = some (.slice D4 uS.length d4) := (hx5.cell (p := ⟨x4.heap.size, 0, none⟩) (by simp at hz ⊢; omega)).trans q9;
           have q10 : z5.cell? ⟨x4.heap.size, 1, none⟩ = some (.slice E4 uM.length f4) := (hx5.cell (p := ⟨x4.heap.size, 1, none⟩) (by simp at hz ⊢; omega)).trans q10;
           have hz' : X.heap.size ≤ z5.heap.size := (Nat.le_trans hz hx5.size);
           have hbw := Lib.hid (hbw.out.trans (hx5.mono (by omega)));
           clear hz;
           have hz := hz';
           clear hx5 hz'))
      all_goals go_wp2
      all_goals go_ret
      all_goals exact ⟨rfl, BWX'.out.trans (hbw.out.mono (by omega))⟩
    · have HB := HOB
      go_enter Try.func3, Try.ntmps3
      go_wp2_with fail
      refine (over_any A A2 c c2 s m _ l1 l2).mono ?_
      rintro e y1 ⟨rfl, hb1⟩
      rw [HOA.out]
      obtain ⟨k2, k3, hz1, hw1⟩ := two_of hb1
      obtain ⟨q1, q2, _, _⟩ := two_cells k2
      obtain ⟨q3, q4, _, _⟩ := two_cells k3
      have HW1 := Lib.hid hw1; clear hw1
      have HB1 := Lib.hid hb1; clear hb1
      go_wp2_with fail
      refine (over_any B1 B2 e1 e2 s2 m2 _ l3 l4).mono ?_
      rintro e y2 ⟨rfl, hb2⟩
      rw [HOB.out]
      have HW2 := Lib.hid (HW1.out.trans (hb2.mono (by omega))); clear hb2
      go_wp2_with fail
      refine (known_any _).mono ?_
      rintro e y3 ⟨rfl, hb3⟩
      have HW3 := Lib.hid (HW2.out.trans (hb3.mono HW2.out.size)); clear hb3
      go_wp2_with fail
      go_ret
      exact ⟨rfl, HW3.out⟩
  · go_enter Try.func3, Try.ntmps3
    go_wp2_with fail
    refine (over_any A A2 c c2 s m _ l1 l2).mono ?_
    rintro e y1 ⟨rfl, hb1⟩
    rw [HOA.out]
    have HW1 := Lib.hid ((below2 w _ _).trans (hb1.mono (by simp; omega))); clear hb1
    go_wp2_with fail
    refine (known_any _).mono ?_
    rintro e y3 ⟨rfl, hb3⟩
    have HW3 := Lib.hid (HW1.out.trans (hb3.mono HW1.out.size)); clear hb3
    go_wp2_with fail
    go_ret
    exact ⟨rfl, HW3.out⟩
end Go.Proofs.Ytjlbodfdkdhdnab
