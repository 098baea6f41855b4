/- joined and Or of the program. -/
import Derived.Test.YtoldjpnkgdhpkaaJ
import Derived.Deep.RegionHeld3
import Derived.Deep.DrawnRows
namespace Go.Proofs.Ytoldjpnkgdhpkaa
open Go.RowKit
set_option linter.unusedVariables false
set_option linter.unusedSimpArgs false
attribute [local go_sem ↓] Go.wp_at_zero Go.wp_at_succ

set_option maxHeartbeats 4000000 in
theorem joined_unionL (A A2 B1 B2 : Option Addr) (c c2 e1 e2 : Nat) (s m s2 m2 : List Int) (w : World) (h1 : Lk w w.heap.size A s c) (h2 : Lk w w.heap.size A2 m c2) (h3 : Lk w w.heap.size B1 s2 e1) (h4 : Lk w w.heap.size B2 m2 e2)
    (hv : VN s m = 0) (hv2 : VN s2 m2 = 0) :
    Calls Try.prog 47 #[.agg #[.slice A s.length c, .slice A2 m.length c2], .agg #[.slice B1 s2.length e1, .slice B2 m2.length e2], .func (.func 51) #[] #[]] w (KRes w (unionL s s2) (unionL m m2) 0) := by
  have H1 := Lib.hid h1; clear h1
  have H2 := Lib.hid h2; clear h2
  have H3 := Lib.hid h3; clear h3
  have H4 := Lib.hid h4; clear h4
  have HV := Lib.hid hv; clear hv
  have HV2 := Lib.hid hv2; clear hv2
  go_enter Try.func47, Try.ntmps47
  go_wp2_with fail
  refine (validate_any A A2 c c2 s m _ (lk3 H1.out _ _ _) (lk3 H2.out _ _ _)).mono ?_
  rintro e w1 ⟨rfl, hb1⟩
  rw [HV.out]
  obtain ⟨k3, k4, k6, hz1, hbw1⟩ := three hb1
  obtain ⟨q1, q2, _, _⟩ := two_cells k3
  obtain ⟨q3, q4, _, _⟩ := two_cells k4
  go_wp2_with fail
  refine (validate_any B1 B2 e1 e2 s2 m2 _ ((H3.out.below hbw1).more (by omega)) ((H4.out.below hbw1).more (by omega))).mono ?_
  rintro e w2 ⟨rfl, hb2⟩
  rw [HV2.out]
  have k3' := k3.below hb2 (by omega)
  have k4' := k4.below hb2 (by omega)
  have k6' := k6.below hb2 (by omega)
  have hz2 : w.heap.size + 1 + 1 + 1 ≤ w2.heap.size := by have := hb2.size; omega
  have hbw2 : Below w.heap.size w w2 := hbw1.trans (hb2.mono (by omega))
  clear q1 q2 q3 q4
  obtain ⟨q1, q2, _, _⟩ := two_cells k3'
  obtain ⟨q3, q4, _, _⟩ := two_cells k4'
  obtain ⟨r0, r1, f0, f1⟩ := two_cells k6'
  have K3 := Lib.hid k3; clear k3
  have K4 := Lib.hid k4; clear k4
  have K6 := Lib.hid k6; clear k6
  have HW1 := Lib.hid hbw1; clear hbw1
  have HW2 := Lib.hid hbw2; clear hbw2
  go_wp2_with fail
  have C1 : Hid (∀ W, Below w.heap.size w W → w.heap.size + 1 + 1 + 1 ≤ W.heap.size → Calls Try.prog 51 #[.slice A s.length c, .slice B1 s2.length e1] W fun e w' => ∃ A c, e = .returned (.slice A (unionL s s2).length c) ∧ Own w' (w.heap.size + 1 + 1 + 1) 3 .i64 (.slice A (unionL s s2).length c) (unionL s s2) ∧ Below W.heap.size W w') :=
    Lib.hid fun W hb hz => (either_any A B1 c e1 s s2 W ((H1.out.below hb).more (by omega)) ((H3.out.below hb).more (by omega))).mono fun e w' ⟨v, h1, h2, h3⟩ => by obtain ⟨A, c, rfl, _⟩ := h2.out; exact ⟨A, c, h1, h2.low hz, h3⟩
  have C2 : Hid (∀ W, Below w.heap.size w W → w.heap.size + 1 + 1 + 1 ≤ W.heap.size → Calls Try.prog 51 #[.slice A2 m.length c2, .slice B2 m2.length e2] W fun e w' => ∃ A c, e = .returned (.slice A (unionL m m2).length c) ∧ Own w' (w.heap.size + 1 + 1 + 1) 3 .i64 (.slice A (unionL m m2).length c) (unionL m m2) ∧ Below W.heap.size W w') :=
    Lib.hid fun W hb hz => (either_any A2 B2 c2 e2 m m2 W ((H2.out.below hb).more (by omega)) ((H4.out.below hb).more (by omega))).mono fun e w' ⟨v, h1, h2, h3⟩ => by obtain ⟨A, c, rfl, _⟩ := h2.out; exact ⟨A, c, h1, h2.low hz, h3⟩
  have hbw := Lib.hid HW2.out.drew
  have hz : w.heap.size + 1 + 1 + 1 ≤ w2.drew.heap.size := by simpa using hz2
  go_region_held3 (fun x => x.cell? ⟨w.heap.size, 0, none⟩ = some (.slice A s.length c) ∧ x.cell? ⟨w.heap.size, 1, none⟩ = some (.slice A2 m.length c2) ∧ x.cell? ⟨w.heap.size + 1, 0, none⟩ = some (.slice B1 s2.length e1) ∧ x.cell? ⟨w.heap.size + 1, 1, none⟩ = some (.slice B2 m2.length e2))
    (first | exact ⟨q1, q2, q3, q4⟩ | exact ⟨(far2 (by omega)).trans q1, (far2 (by omega)).trans q2, (far2 (by omega)).trans q3, (far2 (by omega)).trans q4⟩ | go_keep)
    (first
      | (go_at_call 51; (with_reducible refine (C1.out _ hbw.out hz).mono ?_); rintro e x1 ⟨D1, d1, rfl, ho1, hx1⟩;
         have q1 : x1.cell? ⟨w.heap.size, 0, none⟩ = some (.slice A s.length c) := (hx1.cell (p := ⟨w.heap.size, 0, none⟩) (by simp at hz ⊢; omega)).trans q1;
         have q2 : x1.cell? ⟨w.heap.size, 1, none⟩ = some (.slice A2 m.length c2) := (hx1.cell (p := ⟨w.heap.size, 1, none⟩) (by simp at hz ⊢; omega)).trans q2;
         have q3 : x1.cell? ⟨w.heap.size + 1, 0, none⟩ = some (.slice B1 s2.length e1) := (hx1.cell (p := ⟨w.heap.size + 1, 0, none⟩) (by simp at hz ⊢; omega)).trans q3;
         have q4 : x1.cell? ⟨w.heap.size + 1, 1, none⟩ = some (.slice B2 m2.length e2) := (hx1.cell (p := ⟨w.heap.size + 1, 1, none⟩) (by simp at hz ⊢; omega)).trans q4;
         have r0 : x1.cell? ⟨w.heap.size + 1 + 1, 0, none⟩ = some (.slice none 0 0) := (hx1.cell (p := ⟨w.heap.size + 1 + 1, 0, none⟩) (by simp at hz ⊢; omega)).trans r0;
         have r1 : x1.cell? ⟨w.heap.size + 1 + 1, 1, none⟩ = some (.slice none 0 0) := (hx1.cell (p := ⟨w.heap.size + 1 + 1, 1, none⟩) (by simp at hz ⊢; omega)).trans r1;
         have f0 : x1.frozen? ⟨w.heap.size + 1 + 1, 0, none⟩ = false := (hx1.frozen (p := ⟨w.heap.size + 1 + 1, 0, none⟩) (by simp at hz ⊢; omega)).trans f0;
         have f1 : x1.frozen? ⟨w.heap.size + 1 + 1, 1, none⟩ = false := (hx1.frozen (p := ⟨w.heap.size + 1 + 1, 1, none⟩) (by simp at hz ⊢; omega)).trans f1;
         have hz' : w.heap.size + 1 + 1 + 1 ≤ x1.heap.size := (Nat.le_trans hz hx1.size);
         have hbw := Lib.hid (hbw.out.trans (hx1.mono (by omega)));
         clear hz;
         have hz := hz';
         have hX1 := Lib.hid hx1; clear hx1 hz';
         have HO1 := Lib.hid ho1; clear ho1)
      | (go_at_call 51; (with_reducible refine (C2.out _ hbw.out hz).mono ?_); rintro e x2 ⟨D2, d2, rfl, ho2, hx2⟩;
         have q1 : x2.cell? ⟨w.heap.size, 0, none⟩ = some (.slice A s.length c) := (hx2.cell (p := ⟨w.heap.size, 0, none⟩) (by simp at hz ⊢; omega)).trans q1;
         have q2 : x2.cell? ⟨w.heap.size, 1, none⟩ = some (.slice A2 m.length c2) := (hx2.cell (p := ⟨w.heap.size, 1, none⟩) (by simp at hz ⊢; omega)).trans q2;
         have q3 : x2.cell? ⟨w.heap.size + 1, 0, none⟩ = some (.slice B1 s2.length e1) := (hx2.cell (p := ⟨w.heap.size + 1, 0, none⟩) (by simp at hz ⊢; omega)).trans q3;
         have q4 : x2.cell? ⟨w.heap.size + 1, 1, none⟩ = some (.slice B2 m2.length e2) := (hx2.cell (p := ⟨w.heap.size + 1, 1, none⟩) (by simp at hz ⊢; omega)).trans q4;
         have r0 : x2.cell? ⟨w.heap.size + 1 + 1, 0, none⟩ = some (.slice none 0 0) := (hx2.cell (p := ⟨w.heap.size + 1 + 1, 0, none⟩) (by simp at hz ⊢; omega)).trans r0;
         have r1 : x2.cell? ⟨w.heap.size + 1 + 1, 1, none⟩ = some (.slice none 0 0) := (hx2.cell (p := ⟨w.heap.size + 1 + 1, 1, none⟩) (by simp at hz ⊢; omega)).trans r1;
         have f0 : x2.frozen? ⟨w.heap.size + 1 + 1, 0, none⟩ = false := (hx2.frozen (p := ⟨w.heap.size + 1 + 1, 0, none⟩) (by simp at hz ⊢; omega)).trans f0;
         have f1 : x2.frozen? ⟨w.heap.size + 1 + 1, 1, none⟩ = false := (hx2.frozen (p := ⟨w.heap.size + 1 + 1, 1, none⟩) (by simp at hz ⊢; omega)).trans f1;
         have hz' : w.heap.size + 1 + 1 + 1 ≤ x2.heap.size := (Nat.le_trans hz hx2.size);
         have hbw := Lib.hid (hbw.out.trans (hx2.mono (by omega)));
         clear hz;
         have hz := hz';
         have hX2 := Lib.hid hx2; clear hx2 hz';
         have HO2 := Lib.hid ho2; clear ho2))
  all_goals go_wp2
  all_goals
    refine bodyPost_ret (v := .tuple #[.agg #[.slice D1 (unionL s s2).length d1, .slice D2 (unionL m m2).length d2], .int .i64 0]) (by simp [results, Try.results47, go_sem, r0, r1, f0, f1]) rfl ⟨_, _, _, _, rfl, ?_, ?_, ?_⟩
    · first
        | exact (((HO1.out.below hX2.out (Nat.le_refl _)).setCell (by simp) _).setCell (by simp) _).low (by omega)
        | exact ((HO1.out.setCell (by simp) _).setCell (by simp) _).low (by omega)
    · first
        | exact (((HO2.out.below hX1.out (Nat.le_refl _)).setCell (by simp) _).setCell (by simp) _).low (by omega)
        | exact ((HO2.out.setCell (by simp) _).setCell (by simp) _).low (by omega)
    · exact (hbw.out.setCell (by simp; omega) _).setCell (by simp; omega) _

set_option maxHeartbeats 4000000 in
theorem joined_unionL_err (A A2 B1 B2 : Option Addr) (c c2 e1 e2 : Nat) (s m s2 m2 : List Int) (w : World) (h1 : Lk w w.heap.size A s c) (h2 : Lk w w.heap.size A2 m c2) (h3 : Lk w w.heap.size B1 s2 e1) (h4 : Lk w w.heap.size B2 m2 e2)
    (hv : VN s m = 1 ∨ VN s2 m2 = 1) :
    Calls Try.prog 47 #[.agg #[.slice A s.length c, .slice A2 m.length c2], .agg #[.slice B1 s2.length e1, .slice B2 m2.length e2], .func (.func 51) #[] #[]] w (KRes w [] [] 1) := by
  have H1 := Lib.hid h1; clear h1
  have H2 := Lib.hid h2; clear h2
  have H3 := Lib.hid h3; clear h3
  have H4 := Lib.hid h4; clear h4
  rcases VN_cases s m with ⟨hv1, _⟩ | ⟨hv1, _⟩
  · have hv2 : VN s2 m2 = 1 := by rcases hv with h | h <;> omega
    have HV := Lib.hid hv1; clear hv1 hv
    have HV2 := Lib.hid hv2; clear hv2
    go_enter Try.func47, Try.ntmps47
    go_wp2_with fail
    refine (validate_any A A2 c c2 s m _ (lk3 H1.out _ _ _) (lk3 H2.out _ _ _)).mono ?_
    rintro e w1 ⟨rfl, hb1⟩
    rw [HV.out]
    obtain ⟨k3, k4, k6, hz1, hbw1⟩ := three hb1
    obtain ⟨q1, q2, _, _⟩ := two_cells k3
    obtain ⟨q3, q4, _, _⟩ := two_cells k4
    have HW1 := Lib.hid hbw1; clear hbw1
    go_wp2_with fail
    refine (validate_any B1 B2 e1 e2 s2 m2 _ ((H3.out.below HW1.out).more (by omega)) ((H4.out.below HW1.out).more (by omega))).mono ?_
    rintro e w2 ⟨rfl, hb2⟩
    rw [HV2.out]
    have k6' := k6.below hb2 (by omega)
    obtain ⟨r0, r1, f0, f1⟩ := two_cells k6'
    have hz2 : w.heap.size + 1 + 1 + 1 ≤ w2.heap.size := by have := hb2.size; omega
    have HB2 := Lib.hid hb2; clear hb2
    clear q1 q2 q3 q4
    go_wp2_with fail
    refine bodyPost_ret (v := .tuple #[.agg #[.slice none 0 0, .slice none 0 0], .int .i64 1]) (by simp [results, Try.results47, go_sem, r0, r1, f0, f1]) rfl ⟨none, 0, none, 0, rfl, Own.nil _ _ _ _, Own.nil _ _ _ _, ?_⟩
    exact ((HW1.out.trans (HB2.out.mono (by omega))).setCell (by simp; omega) _).setCell (by simp; omega) _
  · have HV := Lib.hid hv1; clear hv1 hv
    go_enter Try.func47, Try.ntmps47
    go_wp2_with fail
    refine (validate_any A A2 c c2 s m _ (lk3 H1.out _ _ _) (lk3 H2.out _ _ _)).mono ?_
    rintro e w1 ⟨rfl, hb1⟩
    rw [HV.out]
    obtain ⟨k3, k4, k6, hz1, hbw1⟩ := three hb1
    obtain ⟨r0, r1, f0, f1⟩ := two_cells k6
    have HW1 := Lib.hid hbw1; clear hbw1
    have HB1 := Lib.hid hb1; clear hb1
    go_wp2_with fail
    refine bodyPost_ret (v := .tuple #[.agg #[.slice none 0 0, .slice none 0 0], .int .i64 1]) (by simp [results, Try.results47, go_sem, r0, r1, f0, f1]) rfl ⟨none, 0, none, 0, rfl, Own.nil _ _ _ _, Own.nil _ _ _ _, ?_⟩
    exact (HW1.out.setCell (by simp; omega) _).setCell (by simp; omega) _

set_option maxHeartbeats 4000000 in
theorem or_of (A A2 B1 B2 : Option Addr) (c c2 e1 e2 : Nat) (s m s2 m2 : List Int) (w : World) (h1 : Lk w w.heap.size A s c) (h2 : Lk w w.heap.size A2 m c2) (h3 : Lk w w.heap.size B1 s2 e1) (h4 : Lk w w.heap.size B2 m2 e2) {S M : List Int} {n : Int}
    (hj : ∀ W, Below w.heap.size w W → w.heap.size ≤ W.heap.size → Calls Try.prog 47 #[.agg #[.slice A s.length c, .slice A2 m.length c2], .agg #[.slice B1 s2.length e1, .slice B2 m2.length e2], .func (.func 51) #[] #[]] W (KRes W S M n)) :
    Calls Try.prog 16 #[.agg #[.slice A s.length c, .slice A2 m.length c2], .agg #[.slice B1 s2.length e1, .slice B2 m2.length e2]] w (KRes w S M n) := by
  have HJ := Lib.hid hj; clear hj
  go_enter Try.func16, Try.ntmps16
  go_wp2_with fail
  refine (HJ.out _ (((Below.of_alloc w _ _ (Nat.le_refl _)).alloc (by simp) _).alloc (by simp; omega) _) (by simp; omega)).mono ?_
  rintro e w1 ⟨D1, d1, D2, d2, rfl, ho1, ho2, hb1⟩
  obtain ⟨k3, k4, k6, hz1, hbw1⟩ := three hb1
  obtain ⟨r0, r1, f0, f1⟩ := two_cells k6
  have HW1 := Lib.hid hbw1; clear hbw1
  have HB1 := Lib.hid hb1; clear hb1
  have HO1 := Lib.hid ho1; clear ho1
  have HO2 := Lib.hid ho2; clear ho2
  go_wp2_with fail
  refine bodyPost_ret (v := .tuple #[.agg #[.slice D1 S.length d1, .slice D2 M.length d2], .int .i64 n]) (by simp [results, Try.results16, go_sem, r0, r1, f0, f1]) rfl ⟨_, _, _, _, rfl, ?_, ?_, ?_⟩
  · exact ((HO1.out.setCell (by simp) _).setCell (by simp) _).low (by simp; omega)
  · exact ((HO2.out.setCell (by simp) _).setCell (by simp) _).low (by simp; omega)
  · exact (HW1.out.setCell (by simp; omega) _).setCell (by simp; omega) _

theorem or_any (A A2 B1 B2 : Option Addr) (c c2 e1 e2 : Nat) (s m s2 m2 : List Int) (w : World) (h1 : Lk w w.heap.size A s c) (h2 : Lk w w.heap.size A2 m c2) (h3 : Lk w w.heap.size B1 s2 e1) (h4 : Lk w w.heap.size B2 m2 e2) :
    Calls Try.prog 16 #[.agg #[.slice A s.length c, .slice A2 m.length c2], .agg #[.slice B1 s2.length e1, .slice B2 m2.length e2]] w (if VB s m && VB s2 m2 then KRes w (unionL s s2) (unionL m m2) 0 else KRes w [] [] 1) := by
  rcases VN_cases s m with ⟨v1, b1⟩ | ⟨v1, b1⟩
  · rcases VN_cases s2 m2 with ⟨v2, b2⟩ | ⟨v2, b2⟩
    · rw [b1, b2]
      exact or_of A A2 B1 B2 c c2 e1 e2 s m s2 m2 w h1 h2 h3 h4 fun W hb hz => joined_unionL A A2 B1 B2 c c2 e1 e2 s m s2 m2 W ((h1.below hb).more hz) ((h2.below hb).more hz) ((h3.below hb).more hz) ((h4.below hb).more hz) v1 v2
    · rw [b1, b2]
      exact or_of A A2 B1 B2 c c2 e1 e2 s m s2 m2 w h1 h2 h3 h4 fun W hb hz => joined_unionL_err A A2 B1 B2 c c2 e1 e2 s m s2 m2 W ((h1.below hb).more hz) ((h2.below hb).more hz) ((h3.below hb).more hz) ((h4.below hb).more hz) (.inr v2)
  · rw [b1]
    exact or_of A A2 B1 B2 c c2 e1 e2 s m s2 m2 w h1 h2 h3 h4 fun W hb hz => joined_unionL_err A A2 B1 B2 c c2 e1 e2 s m s2 m2 W ((h1.below hb).more hz) ((h2.below hb).more hz) ((h3.below hb).more hz) ((h4.below hb).more hz) (.inl v1)
end Go.Proofs.Ytoldjpnkgdhpkaa
