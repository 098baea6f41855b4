/- Settle and Doubt of the reference, Doubt of the program. -/
import Derived.Test.YtjlbodfdkdhdnabSt
import Derived.Test.YtjlbodfdkdhdnabL11
import Derived.Deep.RegionHeld3
import Derived.Deep.DrawnRows
namespace Go.Proofs.Ytjlbodfdkdhdnab
open Go.RowKit
set_option linter.unusedVariables false
set_option linter.unusedSimpArgs false
attribute [local go_sem ↓] Go.wp_at_zero Go.wp_at_succ

set_option maxHeartbeats 4000000 in
theorem refSettle_ok (A A2 A3 : Option Addr) (c c2 c3 : Nat) (s m y : List Int) (w : World) (h1 : Lk w w.heap.size A s c) (h2 : Lk w w.heap.size A2 m c2) (h3 : Lk w w.heap.size A3 y c3) (hv : VN s m = 0) (hy : isSetB 300 y = true) (k1 : IsS s) (k2 : IsS m) (k3 : IsS y) :
    Calls Try.prog 29 #[.agg #[.slice A s.length c, .slice A2 m.length c2], .slice A3 y.length c3] w (KRes w (stl s m y) (stl s m y) 0) := by
  have H1 := Lib.hid h1; clear h1
  have H2 := Lib.hid h2; clear h2
  have H3 := Lib.hid h3; clear h3
  have HV := Lib.hid hv; clear hv
  have I1 : Hid (IsS (interL m y)) := Lib.hid (k2.merge k3 _ _ _)
  have I2 : Hid (IsS (stl s m y)) := Lib.hid (stl_isS k1 k2 k3)
  have E1 : Hid ((upTo 300).filter (fun x => decide (x ∈ s) || decide (x ∈ interL m y)) = stl s m y) := Lib.hid (unionL_eq k1 (k2.merge k3 _ _ _))
  have E2 : Hid (m.filter (fun x => decide (x ∈ y)) = interL m y) := Lib.hid (interL_eq k2.2 k3.2)
  clear k1 k2 k3
  go_enter Try.func29, Try.ntmps29
  go_wp2_with fail
  refine (refValidate_any A A2 c c2 s m _ ((lk2 H1.out _ _).more (by simp; omega)) ((lk2 H2.out _ _).more (by simp; omega))).mono ?_
  rintro e w1 ⟨rfl, hb1⟩
  rw [HV.out]
  obtain ⟨k2, k4, hz1, hw1⟩ := twoW hb1
  obtain ⟨q1, q2, _, _⟩ := two_cells k2
  obtain ⟨r0, r1, f0, f1⟩ := two_cells k4
  have K2 := Lib.hid k2; clear k2
  have K4 := Lib.hid k4; clear k4
  have HW1 := Lib.hid hw1; clear hw1
  have HB1 := Lib.hid hb1; clear hb1
  go_wp2_with fail
  refine (refIsSet_any A3 c3 y _ _ (H3.out.below HW1.out).rd H3.out.i64 (by have := H3.out.len; omega)).mono ?_
  rintro e wd ⟨rfl, hdr⟩
  rw [hy]
  have HWd := Lib.hid (Dr.below HW1.out hdr)
  obtain ⟨q1, q2, _, _⟩ := two_cells (K2.out.dr hdr)
  obtain ⟨r0, r1, f0, f1⟩ := two_cells (K4.out.dr hdr)
  have hzd : w.heap.size + 1 + 1 ≤ wd.heap.size := by obtain ⟨n, rfl⟩ := hdr; simpa using hz1
  clear hdr
  go_wp2_with fail
  have C1 : Hid (∀ W, Below w.heap.size w W → w.heap.size + 1 + 1 ≤ W.heap.size → Calls Try.prog 50 #[.slice A2 m.length c2, .slice A3 y.length c3] W fun e w' => ∃ A c, e = .returned (.slice A (interL m y).length c) ∧ Lk w' w'.heap.size A (interL m y) c ∧ Below W.heap.size W w') :=
    Lib.hid fun W hb hz => (inBoth_any A2 A3 c2 c3 m y W ((H2.out.below hb).more (by omega)).rd ((H3.out.below hb).more (by omega)).rd (by have := H2.out.len; omega) (by have := H3.out.len; omega)).mono fun e w' ⟨v, h1, h2, h3⟩ => by
      have h2 := h2.of_eq E2.out
      obtain ⟨A, c, rfl, _⟩ := h2.out; exact ⟨A, c, h1, h2.lkS I1.out, h3⟩
  have C2 : Hid (∀ (D : Option Addr) (d : Nat) (W : World), Lk W W.heap.size D (interL m y) d → Below w.heap.size w W → w.heap.size + 1 + 1 ≤ W.heap.size → Calls Try.prog 52 #[.slice A s.length c, .slice D (interL m y).length d] W fun e w' => ∃ A c, e = .returned (.slice A (stl s m y).length c) ∧ Lk w' w'.heap.size A (stl s m y) c ∧ Below W.heap.size W w') :=
    Lib.hid fun D d W hk hb hz => (refEither_any A D c d s (interL m y) W ((H1.out.below hb).more (by omega)).rd hk.rd (by have := H1.out.len; omega) (by have := hk.len; omega)).mono fun e w' ⟨v, h1, h2, h3⟩ => by
      have h2 := h2.of_eq E1.out
      obtain ⟨A, c, rfl, _⟩ := h2.out; exact ⟨A, c, h1, h2.lkS I2.out, h3⟩
  have C3 : Hid (∀ (D : Option Addr) (d : Nat) (W : World), Lk W W.heap.size D (stl s m y) d → w.heap.size + 1 + 1 ≤ W.heap.size → Calls Try.prog 33 #[.slice D (stl s m y).length d] W fun e w' => ∃ (A : Option Addr) (c : Nat) (A' : Option Addr) (c' : Nat), e = .returned (.tuple #[.agg #[.slice A (stl s m y).length c, .slice A' (stl s m y).length c'], .int .i64 0]) ∧ Own w' (w.heap.size + 1 + 1) 3 .i64 (.slice A (stl s m y).length c) (stl s m y) ∧ Own w' (w.heap.size + 1 + 1) 3 .i64 (.slice A' (stl s m y).length c') (stl s m y) ∧ Below W.heap.size W w') :=
    Lib.hid fun D d W hk hz => (refKnown_ok D d (stl s m y) W hk ((IsS.iff _).2 I2.out)).mono fun e w' ⟨A, c, A', c', he, h1, h2, h3⟩ => ⟨A, c, A', c', he, h1.low hz, h2.low hz, h3⟩
  have hbw := Lib.hid HWd.out.drew
  have hz : w.heap.size + 1 + 1 ≤ wd.drew.heap.size := by simpa using hzd
  go_region_held3 (fun x => x.cell? ⟨w.heap.size, 0, none⟩ = some (.slice A s.length c) ∧ x.cell? ⟨w.heap.size, 1, none⟩ = some (.slice A2 m.length c2))
    (first | exact ⟨q1, q2⟩ | exact ⟨(far2 (by omega)).trans q1, (far2 (by omega)).trans q2⟩ | go_keep)
    (first
      | (go_at_call 50; (with_reducible refine (C1.out _ hbw.out hz).mono ?_); rintro e x1 ⟨D1, d1, rfl, hk1, hx1⟩;
         have q1 : x1.cell? ⟨w.heap.size, 0, none⟩ = some (.slice A s.length c) := (hx1.cell (p := ⟨w.heap.size, 0, none⟩) (by simp at hz ⊢; omega)).trans q1;
         have q2 : x1.cell? ⟨w.heap.size, 1, none⟩ = some (.slice A2 m.length c2) := (hx1.cell (p := ⟨w.heap.size, 1, none⟩) (by simp at hz ⊢; omega)).trans q2;
         have r0 : x1.cell? ⟨w.heap.size + 1, 0, none⟩ = some (.slice none 0 0) := (hx1.cell (p := ⟨w.heap.size + 1, 0, none⟩) (by simp at hz ⊢; omega)).trans r0;
         have r1 : x1.cell? ⟨w.heap.size + 1, 1, none⟩ = some (.slice none 0 0) := (hx1.cell (p := ⟨w.heap.size + 1, 1, none⟩) (by simp at hz ⊢; omega)).trans r1;
         have f0 : x1.frozen? ⟨w.heap.size + 1, 0, none⟩ = false := (hx1.frozen (p := ⟨w.heap.size + 1, 0, none⟩) (by simp at hz ⊢; omega)).trans f0;
         have f1 : x1.frozen? ⟨w.heap.size + 1, 1, none⟩ = false := (hx1.frozen (p := ⟨w.heap.size + 1, 1, none⟩) (by simp at hz ⊢; omega)).trans f1;
         have hz' : w.heap.size + 1 + 1 ≤ x1.heap.size := (Nat.le_trans hz hx1.size);
         have hbw := Lib.hid (hbw.out.trans (hx1.mono (by omega)));
         clear hz;
         have hz := hz';
         clear hz';
         have HK1 := Lib.hid hk1; clear hk1 hx1)
      | (go_at_call 52; (with_reducible refine (C2.out _ _ _ HK1.out hbw.out hz).mono ?_); rintro e x2 ⟨D2, d2, rfl, hk2, hx2⟩;
         have q1 : x2.cell? ⟨w.heap.size, 0, none⟩ = some (.slice A s.length c) := (hx2.cell (p := ⟨w.heap.size, 0, none⟩) (by simp at hz ⊢; omega)).trans q1;
         have q2 : x2.cell? ⟨w.heap.size, 1, none⟩ = some (.slice A2 m.length c2) := (hx2.cell (p := ⟨w.heap.size, 1, none⟩) (by simp at hz ⊢; omega)).trans q2;
         have r0 : x2.cell? ⟨w.heap.size + 1, 0, none⟩ = some (.slice none 0 0) := (hx2.cell (p := ⟨w.heap.size + 1, 0, none⟩) (by simp at hz ⊢; omega)).trans r0;
         have r1 : x2.cell? ⟨w.heap.size + 1, 1, none⟩ = some (.slice none 0 0) := (hx2.cell (p := ⟨w.heap.size + 1, 1, none⟩) (by simp at hz ⊢; omega)).trans r1;
         have f0 : x2.frozen? ⟨w.heap.size + 1, 0, none⟩ = false := (hx2.frozen (p := ⟨w.heap.size + 1, 0, none⟩) (by simp at hz ⊢; omega)).trans f0;
         have f1 : x2.frozen? ⟨w.heap.size + 1, 1, none⟩ = false := (hx2.frozen (p := ⟨w.heap.size + 1, 1, none⟩) (by simp at hz ⊢; omega)).trans f1;
         have hz' : w.heap.size + 1 + 1 ≤ x2.heap.size := (Nat.le_trans hz hx2.size);
         have hbw := Lib.hid (hbw.out.trans (hx2.mono (by omega)));
         clear hz;
         have hz := hz';
         clear hz';
         have HK2 := Lib.hid hk2; clear hk2 hx2)
      | (go_at_call 33; (with_reducible refine (C3.out _ _ _ HK2.out hz).mono ?_); rintro e x3 ⟨D3, d3, D4, d4, rfl, ho3, ho4, hx3⟩;
         have q1 : x3.cell? ⟨w.heap.size, 0, none⟩ = some (.slice A s.length c) := (hx3.cell (p := ⟨w.heap.size, 0, none⟩) (by simp at hz ⊢; omega)).trans q1;
         have q2 : x3.cell? ⟨w.heap.size, 1, none⟩ = some (.slice A2 m.length c2) := (hx3.cell (p := ⟨w.heap.size, 1, none⟩) (by simp at hz ⊢; omega)).trans q2;
         have r0 : x3.cell? ⟨w.heap.size + 1, 0, none⟩ = some (.slice none 0 0) := (hx3.cell (p := ⟨w.heap.size + 1, 0, none⟩) (by simp at hz ⊢; omega)).trans r0;
         have r1 : x3.cell? ⟨w.heap.size + 1, 1, none⟩ = some (.slice none 0 0) := (hx3.cell (p := ⟨w.heap.size + 1, 1, none⟩) (by simp at hz ⊢; omega)).trans r1;
         have f0 : x3.frozen? ⟨w.heap.size + 1, 0, none⟩ = false := (hx3.frozen (p := ⟨w.heap.size + 1, 0, none⟩) (by simp at hz ⊢; omega)).trans f0;
         have f1 : x3.frozen? ⟨w.heap.size + 1, 1, none⟩ = false := (hx3.frozen (p := ⟨w.heap.size + 1, 1, none⟩) (by simp at hz ⊢; omega)).trans f1;
         have hz' : w.heap.size + 1 + 1 ≤ x3.heap.size := (Nat.le_trans hz hx3.size);
         have hbw := Lib.hid (hbw.out.trans (hx3.mono (by omega)));
         clear hz;
         have hz := hz';
         clear hz';
         have HO3 := Lib.hid ho3; clear ho3; have HO4 := Lib.hid ho4; clear ho4 hx3))
  go_wp2
  refine bodyPost_ret (v := .tuple #[.agg #[.slice D3 (stl s m y).length d3, .slice D4 (stl s m y).length d4], .int .i64 0]) (by simp [results, Try.results29, go_sem, r0, r1, f0, f1]) rfl ⟨_, _, _, _, rfl, ?_, ?_, ?_⟩
  · exact ((HO3.out.setCell (by first | (simp; done) | (simp; omega)) _).setCell (by first | (simp; done) | (simp; omega)) _).low (by omega)
  · exact ((HO4.out.setCell (by first | (simp; done) | (simp; omega)) _).setCell (by first | (simp; done) | (simp; omega)) _).low (by omega)
  · exact (hbw.out.setCell (by first | (simp; done) | (simp; omega)) _).setCell (by first | (simp; done) | (simp; omega)) _

set_option maxHeartbeats 4000000 in
theorem refSettle_err (A A2 A3 : Option Addr) (c c2 c3 : Nat) (s m y : List Int) (w : World) (h1 : Lk w w.heap.size A s c) (h2 : Lk w w.heap.size A2 m c2) (h3 : Lk w w.heap.size A3 y c3) (hb : stB s m y = false) :
    Calls Try.prog 29 #[.agg #[.slice A s.length c, .slice A2 m.length c2], .slice A3 y.length c3] w (KRes w [] [] 1) := by
  rcases VN_cases s m with ⟨hv, hvb⟩ | ⟨hv, hvb⟩
  · have hy : isSetB 300 y = false := by simpa [stB, hvb] using hb
    clear hb hvb
    have H1 := Lib.hid h1; clear h1
    have H2 := Lib.hid h2; clear h2
    have H3 := Lib.hid h3; clear h3
    have HV := Lib.hid hv; clear hv
    go_enter Try.func29, Try.ntmps29
    go_wp2_with fail
    refine (refValidate_any A A2 c c2 s m _ ((lk2 H1.out _ _).more (by simp; omega)) ((lk2 H2.out _ _).more (by simp; omega))).mono ?_
    rintro e w1 ⟨rfl, hb1⟩
    rw [HV.out]
    obtain ⟨k2, k4, hz1, hw1⟩ := twoW hb1
    obtain ⟨q1, q2, _, _⟩ := two_cells k2
    obtain ⟨r0, r1, f0, f1⟩ := two_cells k4
    have K2 := Lib.hid k2; clear k2
    have K4 := Lib.hid k4; clear k4
    have HW1 := Lib.hid hw1; clear hw1
    have HB1 := Lib.hid hb1; clear hb1
    go_wp2_with fail
    refine (refIsSet_any A3 c3 y _ _ (H3.out.below HW1.out).rd H3.out.i64 (by have := H3.out.len; omega)).mono ?_
    rintro e wd ⟨rfl, hdr⟩
    rw [hy]
    have HWd := Lib.hid (Dr.below HW1.out hdr)
    obtain ⟨q1, q2, _, _⟩ := two_cells (K2.out.dr hdr)
    obtain ⟨r0, r1, f0, f1⟩ := two_cells (K4.out.dr hdr)
    have hzd : w.heap.size + 1 + 1 ≤ wd.heap.size := by obtain ⟨n, rfl⟩ := hdr; simpa using hz1
    clear hdr
    go_wp2_with fail
    refine bodyPost_ret (v := .tuple #[.agg #[.slice none 0 0, .slice none 0 0], .int .i64 1]) (by simp [results, Try.results29, go_sem, r0, r1, f0, f1]) rfl ⟨none, 0, none, 0, rfl, Own.nil _ _ _ _, Own.nil _ _ _ _, ?_⟩
    exact (HWd.out.setCell (by first | (simp; done) | (simp; omega)) _).setCell (by first | (simp; done) | (simp; omega)) _
  · clear hb hvb
    have H1 := Lib.hid h1; clear h1
    have H2 := Lib.hid h2; clear h2
    have H3 := Lib.hid h3; clear h3
    have HV := Lib.hid hv; clear hv
    go_enter Try.func29, Try.ntmps29
    go_wp2_with fail
    refine (refValidate_any A A2 c c2 s m _ ((lk2 H1.out _ _).more (by simp; omega)) ((lk2 H2.out _ _).more (by simp; omega))).mono ?_
    rintro e w1 ⟨rfl, hb1⟩
    rw [HV.out]
    obtain ⟨k2, k4, hz1, hw1⟩ := twoW hb1
    obtain ⟨q1, q2, _, _⟩ := two_cells k2
    obtain ⟨r0, r1, f0, f1⟩ := two_cells k4
    have K2 := Lib.hid k2; clear k2
    have K4 := Lib.hid k4; clear k4
    have HW1 := Lib.hid hw1; clear hw1
    have HB1 := Lib.hid hb1; clear hb1
    go_wp2_with fail
    refine bodyPost_ret (v := .tuple #[.agg #[.slice none 0 0, .slice none 0 0], .int .i64 1]) (by simp [results, Try.results29, go_sem, r0, r1, f0, f1]) rfl ⟨none, 0, none, 0, rfl, Own.nil _ _ _ _, Own.nil _ _ _ _, ?_⟩
    exact (HW1.out.setCell (by first | (simp; done) | (simp; omega)) _).setCell (by first | (simp; done) | (simp; omega)) _

theorem refSettle_any (A A2 A3 : Option Addr) (c c2 c3 : Nat) (s m y : List Int) (w : World) (h1 : Lk w w.heap.size A s c) (h2 : Lk w w.heap.size A2 m c2) (h3 : Lk w w.heap.size A3 y c3) : Calls Try.prog 29 #[.agg #[.slice A s.length c, .slice A2 m.length c2], .slice A3 y.length c3] w (if stB s m y then KRes w (stl s m y) (stl s m y) 0 else KRes w [] [] 1) := by
  cases h : stB s m y
  · exact refSettle_err A A2 A3 c c2 c3 s m y w h1 h2 h3 h
  · have h' := h
    simp only [stB, Bool.and_eq_true] at h'
    have hv : VN s m = 0 := by rw [VN, h'.1]; rfl
    have hk := (VB_iff s m).1 h'.1
    exact refSettle_ok A A2 A3 c c2 c3 s m y w h1 h2 h3 hv h'.2 hk.1 hk.2.1 ((IsS.iff y).1 h'.2)

def dbL (s m : List Int) : List Int := if VB s m then lessL m s else []
set_option maxHeartbeats 2000000 in
theorem doubt_any (A A2 : Option Addr) (c c2 : Nat) (s m : List Int) (w : World) (h1 : Lk w w.heap.size A s c) (h2 : Lk w w.heap.size A2 m c2) :
    Calls Try.prog 30 #[.agg #[.slice A s.length c, .slice A2 m.length c2]] w (LRes w (dbL s m) (VN s m)) := by
  have H1 := Lib.hid h1; clear h1
  have H2 := Lib.hid h2; clear h2
  rcases VN_cases s m with ⟨hv, hvb⟩ | ⟨hv, hvb⟩
  · have hd : dbL s m = lessL m s := by rw [dbL, hvb]; rfl
    rw [hd]
    have HV := Lib.hid hv; clear hv hd hvb
    rw [HV.out]
    go_enter Try.func30, Try.ntmps30
    go_wp2_with fail
    refine (validate_any A A2 c c2 s m _ ((H1.out.alloc (Nat.le_refl _) _).more (by simp)) ((H2.out.alloc (Nat.le_refl _) _).more (by simp))).mono ?_
    rintro e w1 ⟨rfl, hb1⟩
    rw [HV.out]
    obtain ⟨k2, hz1, hw1⟩ := one_of hb1
    obtain ⟨q1, q2, _, _⟩ := two_cells k2
    have HW1 := Lib.hid hw1; clear hw1
    have HB1 := Lib.hid hb1; clear hb1
    go_wp2_with fail
    refine (without_any A2 A c2 c m s _ ((H2.out.below HW1.out).more (by omega)) ((H1.out.below HW1.out).more (by omega))).mono ?_
    rintro e w2 ⟨v, rfl, ho, hb2⟩
    have HO := Lib.hid ho; clear ho
    have HB2 := Lib.hid hb2; clear hb2
    go_wp2_with fail
    go_ret2
    exact .ok rfl (HO.out.low (by omega)) (HW1.out.trans (HB2.out.mono (by omega)))
  · have hd : dbL s m = [] := by rw [dbL, hvb]; rfl
    rw [hd]
    have HV := Lib.hid hv; clear hv hd hvb
    rw [HV.out]
    go_enter Try.func30, Try.ntmps30
    go_wp2_with fail
    refine (validate_any A A2 c c2 s m _ ((H1.out.alloc (Nat.le_refl _) _).more (by simp)) ((H2.out.alloc (Nat.le_refl _) _).more (by simp))).mono ?_
    rintro e w1 ⟨rfl, hb1⟩
    rw [HV.out]
    have HW1 := Lib.hid (bstep hb1); clear hb1
    go_wp2_with fail
    go_ret2
    exact .err rfl HW1.out
set_option maxHeartbeats 2000000 in
theorem refDoubt_any (A A2 : Option Addr) (c c2 : Nat) (s m : List Int) (w : World) (h1 : Lk w w.heap.size A s c) (h2 : Lk w w.heap.size A2 m c2) :
    Calls Try.prog 31 #[.agg #[.slice A s.length c, .slice A2 m.length c2]] w (LRes w (dbL s m) (VN s m)) := by
  have H1 := Lib.hid h1; clear h1
  have H2 := Lib.hid h2; clear h2
  rcases VN_cases s m with ⟨hv, hvb⟩ | ⟨hv, hvb⟩
  · have hd : dbL s m = lessL m s := by rw [dbL, hvb]; rfl
    have hk := (VB_iff s m).1 hvb
    have E := Lib.hid (lessL_eq hk.2.1.2 hk.1.2)
    rw [hd]
    have HV := Lib.hid hv; clear hv hd hvb hk
    rw [HV.out]
    go_enter Try.func31, Try.ntmps31
    go_wp2_with fail
    refine (refValidate_any A A2 c c2 s m _ ((H1.out.alloc (Nat.le_refl _) _).more (by simp)) ((H2.out.alloc (Nat.le_refl _) _).more (by simp))).mono ?_
    rintro e w1 ⟨rfl, hb1⟩
    rw [HV.out]
    obtain ⟨k2, hz1, hw1⟩ := one_of hb1
    obtain ⟨q1, q2, _, _⟩ := two_cells k2
    have HW1 := Lib.hid hw1; clear hw1
    have HB1 := Lib.hid hb1; clear hb1
    go_wp2_with fail
    refine (less_any A2 A c2 c m s _ ((H2.out.below HW1.out).more (by omega)).rd ((H1.out.below HW1.out).more (by omega)).rd (by have := H2.out.len; omega) (by have := H1.out.len; omega)).mono ?_
    rintro e w2 ⟨v, rfl, ho, hb2⟩
    have HO := Lib.hid (ho.of_eq E.out); clear ho
    have HB2 := Lib.hid hb2; clear hb2
    go_wp2_with fail
    go_ret2
    exact .ok rfl (HO.out.low (by omega)) (HW1.out.trans (HB2.out.mono (by omega)))
  · have hd : dbL s m = [] := by rw [dbL, hvb]; rfl
    rw [hd]
    have HV := Lib.hid hv; clear hv hd hvb
    rw [HV.out]
    go_enter Try.func31, Try.ntmps31
    go_wp2_with fail
    refine (refValidate_any A A2 c c2 s m _ ((H1.out.alloc (Nat.le_refl _) _).more (by simp)) ((H2.out.alloc (Nat.le_refl _) _).more (by simp))).mono ?_
    rintro e w1 ⟨rfl, hb1⟩
    rw [HV.out]
    have HW1 := Lib.hid (bstep hb1); clear hb1
    go_wp2_with fail
    go_ret2
    exact .err rfl HW1.out
end Go.Proofs.Ytjlbodfdkdhdnab
