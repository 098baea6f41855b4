/- Settle and Doubt, of the program and the reference. -/
import Derived.Test.YtjlbodfdkdhdnabSe2
import Derived.Deep.RegionHeld3
import Derived.Deep.DrawnRows
namespace Go.Proofs.Ytjlbodfdkdhdnab
open Go.RowKit
set_option linter.unusedVariables false
set_option linter.unusedSimpArgs false
attribute [local go_sem ↓] Go.wp_at_zero Go.wp_at_succ

/-- What is sure when the doubtful ones of a set are. -/
def stl (s m y : List Int) : List Int := unionL s (interL m y)
def stB (s m y : List Int) : Bool := VB s m && isSetB 300 y
theorem stl_isS {s m y : List Int} (hs : IsS s) (hm : IsS m) (hy : IsS y) : IsS (stl s m y) := hs.merge (hm.merge hy _ _ _) _ _ _

set_option maxHeartbeats 4000000 in
theorem settle_ok (A A2 A3 : Option Addr) (c c2 c3 : Nat) (s m y : List Int) (w : World) (h1 : Lk w w.heap.size A s c) (h2 : Lk w w.heap.size A2 m c2) (h3 : Lk w w.heap.size A3 y c3) (hv : VN s m = 0) (hy : isSetB 300 y = true) (i1 : IsS (interL m y)) (i2 : IsS (stl s m y)) :
    Calls Try.prog 28 #[.agg #[.slice A s.length c, .slice A2 m.length c2], .slice A3 y.length c3] w (KRes w (stl s m y) (stl s m y) 0) := by
  have H1 := Lib.hid h1; clear h1
  have H2 := Lib.hid h2; clear h2
  have H3 := Lib.hid h3; clear h3
  have HV := Lib.hid hv; clear hv
  have I1 := Lib.hid i1; clear i1
  have I2 := Lib.hid i2; clear i2
  go_enter Try.func28, Try.ntmps28
  go_wp2_with fail
  refine (validate_any A A2 c c2 s m _ ((lk2 H1.out _ _).more (by simp; omega)) ((lk2 H2.out _ _).more (by simp; omega))).mono ?_
  rintro e w1 ⟨rfl, hb1⟩
  rw [HV.out]
  obtain ⟨k2, k4, hz1, hw1⟩ := twoW hb1
  obtain ⟨q1, q2, _, _⟩ := two_cells k2
  obtain ⟨r0, r1, f0, f1⟩ := two_cells k4
  have K2 := Lib.hid k2; clear k2
  have K4 := Lib.hid k4; clear k4
  have HW1 := Lib.hid hw1; clear hw1
  have HB1 := Lib.hid hb1; clear hb1
  go_wp2_with fail
  refine (isSet_any A3 c3 y 300 _ _ (H3.out.below HW1.out).rd H3.out.i64 (by have := H3.out.len; omega)).mono ?_
  rintro e w' ⟨rfl, rfl⟩
  rw [hy]
  go_wp2_with fail
  have C1 : Hid (∀ W, Below w.heap.size w W → w.heap.size + 1 + 1 ≤ W.heap.size → Calls Try.prog 48 #[.slice A2 m.length c2, .slice A3 y.length c3] W fun e w' => ∃ A c, e = .returned (.slice A (interL m y).length c) ∧ Lk w' w'.heap.size A (interL m y) c ∧ Below W.heap.size W w') :=
    Lib.hid fun W hb hz => (both_any A2 A3 c2 c3 m y W ((H2.out.below hb).more (by omega)) ((H3.out.below hb).more (by omega))).mono fun e w' ⟨v, h1, h2, h3⟩ => by obtain ⟨A, c, rfl, _⟩ := h2.out; exact ⟨A, c, h1, h2.lkS I1.out, h3⟩
  have C2 : Hid (∀ (D : Option Addr) (d : Nat) (W : World), Lk W W.heap.size D (interL m y) d → Below w.heap.size w W → w.heap.size + 1 + 1 ≤ W.heap.size → Calls Try.prog 51 #[.slice A s.length c, .slice D (interL m y).length d] W fun e w' => ∃ A c, e = .returned (.slice A (stl s m y).length c) ∧ Own w' (w.heap.size + 1 + 1) 3 .i64 (.slice A (stl s m y).length c) (stl s m y) ∧ Below W.heap.size W w') :=
    Lib.hid fun D d W hk hb hz => (either_any A D c d s (interL m y) W ((H1.out.below hb).more (by omega)) hk).mono fun e w' ⟨v, h1, h2, h3⟩ => by
      have h2 : Own w' W.heap.size 3 .i64 v (stl s m y) := h2
      obtain ⟨A, c, rfl, _⟩ := h2.out; exact ⟨A, c, h1, h2.low hz, h3⟩
  have hbw := Lib.hid HW1.out.drew
  have hz : w.heap.size + 1 + 1 ≤ w1.drew.heap.size := by simpa using hz1
  go_region_held3 (fun x => x.cell? ⟨w.heap.size, 0, none⟩ = some (.slice A s.length c) ∧ x.cell? ⟨w.heap.size, 1, none⟩ = some (.slice A2 m.length c2))
    (first | exact ⟨q1, q2⟩ | go_keep)
    (first
      | (go_at_call 48; (with_reducible refine (C1.out _ hbw.out hz).mono ?_); rintro e x1 ⟨D1, d1, rfl, hk1, hx1⟩;
         have q1 : x1.cell? ⟨w.heap.size, 0, none⟩ = some (.slice A s.length c) := (hx1.cell (p := ⟨w.heap.size, 0, none⟩) (by simp at hz ⊢; omega)).trans q1;
         have q2 : x1.cell? ⟨w.heap.size, 1, none⟩ = some (.slice A2 m.length c2) := (hx1.cell (p := ⟨w.heap.size, 1, none⟩) (by simp at hz ⊢; omega)).trans q2;
         have r0 : x1.cell? ⟨w.heap.size + 1, 0, none⟩ = some (.slice none 0 0) := (hx1.cell (p := ⟨w.heap.size + 1, 0, none⟩) (by simp at hz ⊢; omega)).trans r0;
         have r1 : x1.cell? ⟨w.heap.size + 1, 1, none⟩ = some (.slice none 0 0) := (hx1.cell (p := ⟨w.heap.size + 1, 1, none⟩) (by simp at hz ⊢; omega)).trans r1;
         have f0 : x1.frozen? ⟨w.heap.size + 1, 0, none⟩ = false := (hx1.frozen (p := ⟨w.heap.size + 1, 0, none⟩) (by simp at hz ⊢; omega)).trans f0;
         have f1 : x1.frozen? ⟨w.heap.size + 1, 1, none⟩ = false := (hx1.frozen (p := ⟨w.heap.size + 1, 1, none⟩) (by simp at hz ⊢; omega)).trans f1;
         have hz' : w.heap.size + 1 + 1 ≤ x1.heap.size := (Nat.le_trans hz hx1.size);
         have hbw := Lib.hid (hbw.out.trans (hx1.mono (by omega)));
         clear hz;
         have hz := hz';
         clear hz';
         have HK1 := Lib.hid hk1; clear hk1 hx1)
      | (go_at_call 51; (with_reducible refine (C2.out _ _ _ HK1.out hbw.out hz).mono ?_); rintro e x2 ⟨D2, d2, rfl, ho2, hx2⟩;
         have q1 : x2.cell? ⟨w.heap.size, 0, none⟩ = some (.slice A s.length c) := (hx2.cell (p := ⟨w.heap.size, 0, none⟩) (by simp at hz ⊢; omega)).trans q1;
         have q2 : x2.cell? ⟨w.heap.size, 1, none⟩ = some (.slice A2 m.length c2) := (hx2.cell (p := ⟨w.heap.size, 1, none⟩) (by simp at hz ⊢; omega)).trans q2;
         have r0 : x2.cell? ⟨w.heap.size + 1, 0, none⟩ = some (.slice none 0 0) := (hx2.cell (p := ⟨w.heap.size + 1, 0, none⟩) (by simp at hz ⊢; omega)).trans r0;
         have r1 : x2.cell? ⟨w.heap.size + 1, 1, none⟩ = some (.slice none 0 0) := (hx2.cell (p := ⟨w.heap.size + 1, 1, none⟩) (by simp at hz ⊢; omega)).trans r1;
         have f0 : x2.frozen? ⟨w.heap.size + 1, 0, none⟩ = false := (hx2.frozen (p := ⟨w.heap.size + 1, 0, none⟩) (by simp at hz ⊢; omega)).trans f0;
         have f1 : x2.frozen? ⟨w.heap.size + 1, 1, none⟩ = false := (hx2.frozen (p := ⟨w.heap.size + 1, 1, none⟩) (by simp at hz ⊢; omega)).trans f1;
         have hz' : w.heap.size + 1 + 1 ≤ x2.heap.size := (Nat.le_trans hz hx2.size);
         have hbw := Lib.hid (hbw.out.trans (hx2.mono (by omega)));
         clear hz;
         have hz := hz';
         clear hz';
         have HO2 := Lib.hid ho2; clear ho2 hx2))
  go_wp2_with fail
  refine (clone_any D2 d2 (stl s m y) _ (HO2.out.lkS I2.out)).mono ?_
  rintro e x3 ⟨v3, rfl, ho3, hx3⟩
  obtain ⟨D3, d3, rfl, _⟩ := ho3.out
  have HO3 := Lib.hid (ho3.low hz); clear ho3
  have q1 : x3.cell? ⟨w.heap.size, 0, none⟩ = some (.slice A s.length c) := (hx3.cell (p := ⟨w.heap.size, 0, none⟩) (by simp at hz ⊢; omega)).trans q1
  have q2 : x3.cell? ⟨w.heap.size, 1, none⟩ = some (.slice A2 m.length c2) := (hx3.cell (p := ⟨w.heap.size, 1, none⟩) (by simp at hz ⊢; omega)).trans q2
  have r0 : x3.cell? ⟨w.heap.size + 1, 0, none⟩ = some (.slice none 0 0) := (hx3.cell (p := ⟨w.heap.size + 1, 0, none⟩) (by simp at hz ⊢; omega)).trans r0
  have r1 : x3.cell? ⟨w.heap.size + 1, 1, none⟩ = some (.slice none 0 0) := (hx3.cell (p := ⟨w.heap.size + 1, 1, none⟩) (by simp at hz ⊢; omega)).trans r1
  have f0 : x3.frozen? ⟨w.heap.size + 1, 0, none⟩ = false := (hx3.frozen (p := ⟨w.heap.size + 1, 0, none⟩) (by simp at hz ⊢; omega)).trans f0
  have f1 : x3.frozen? ⟨w.heap.size + 1, 1, none⟩ = false := (hx3.frozen (p := ⟨w.heap.size + 1, 1, none⟩) (by simp at hz ⊢; omega)).trans f1
  have hz' : w.heap.size + 1 + 1 ≤ x3.heap.size := (Nat.le_trans hz hx3.size)
  have hbw := Lib.hid (hbw.out.trans (hx3.mono (by omega)))
  clear hz
  have hz := hz'
  clear hz'
  have HO2' := Lib.hid (HO2.out.below hx3 (Nat.le_refl _)); clear HO2 hx3
  go_wp2_with fail
  refine bodyPost_ret (v := .tuple #[.agg #[.slice D2 (stl s m y).length d2, .slice D3 (stl s m y).length d3], .int .i64 0]) (by simp [results, Try.results28, go_sem, r0, r1, f0, f1]) rfl ⟨_, _, _, _, rfl, ?_, ?_, ?_⟩
  · exact ((HO2'.out.setCell (by first | (simp; done) | (simp; omega)) _).setCell (by first | (simp; done) | (simp; omega)) _).low (by omega)
  · exact ((HO3.out.setCell (by first | (simp; done) | (simp; omega)) _).setCell (by first | (simp; done) | (simp; omega)) _).low (by omega)
  · exact (hbw.out.setCell (by first | (simp; done) | (simp; omega)) _).setCell (by first | (simp; done) | (simp; omega)) _

set_option maxHeartbeats 4000000 in
theorem settle_err (A A2 A3 : Option Addr) (c c2 c3 : Nat) (s m y : List Int) (w : World) (h1 : Lk w w.heap.size A s c) (h2 : Lk w w.heap.size A2 m c2) (h3 : Lk w w.heap.size A3 y c3) (hb : stB s m y = false) :
    Calls Try.prog 28 #[.agg #[.slice A s.length c, .slice A2 m.length c2], .slice A3 y.length c3] w (KRes w [] [] 1) := by
  rcases VN_cases s m with ⟨hv, hvb⟩ | ⟨hv, hvb⟩
  · have hy : isSetB 300 y = false := by simpa [stB, hvb] using hb
    clear hb hvb
    have H1 := Lib.hid h1; clear h1
    have H2 := Lib.hid h2; clear h2
    have H3 := Lib.hid h3; clear h3
    have HV := Lib.hid hv; clear hv
    go_enter Try.func28, Try.ntmps28
    go_wp2_with fail
    refine (validate_any A A2 c c2 s m _ ((lk2 H1.out _ _).more (by simp; omega)) ((lk2 H2.out _ _).more (by simp; omega))).mono ?_
    rintro e w1 ⟨rfl, hb1⟩
    rw [HV.out]
    obtain ⟨k2, k4, hz1, hw1⟩ := twoW hb1
    obtain ⟨q1, q2, _, _⟩ := two_cells k2
    obtain ⟨r0, r1, f0, f1⟩ := two_cells k4
    have K2 := Lib.hid k2; clear k2
    have K4 := Lib.hid k4; clear k4
    have HW1 := Lib.hid hw1; clear hw1
    have HB1 := Lib.hid hb1; clear hb1
    go_wp2_with fail
    refine (isSet_any A3 c3 y 300 _ _ (H3.out.below HW1.out).rd H3.out.i64 (by have := H3.out.len; omega)).mono ?_
    rintro e w' ⟨rfl, rfl⟩
    rw [hy]
    go_wp2_with fail
    refine bodyPost_ret (v := .tuple #[.agg #[.slice none 0 0, .slice none 0 0], .int .i64 1]) (by simp [results, Try.results28, go_sem, r0, r1, f0, f1]) rfl ⟨none, 0, none, 0, rfl, Own.nil _ _ _ _, Own.nil _ _ _ _, ?_⟩
    exact (HW1.out.setCell (by first | (simp; done) | (simp; omega)) _).setCell (by first | (simp; done) | (simp; omega)) _
  · clear hb hvb
    have H1 := Lib.hid h1; clear h1
    have H2 := Lib.hid h2; clear h2
    have H3 := Lib.hid h3; clear h3
    have HV := Lib.hid hv; clear hv
    go_enter Try.func28, Try.ntmps28
    go_wp2_with fail
    refine (validate_any A A2 c c2 s m _ ((lk2 H1.out _ _).more (by simp; omega)) ((lk2 H2.out _ _).more (by simp; omega))).mono ?_
    rintro e w1 ⟨rfl, hb1⟩
    rw [HV.out]
    obtain ⟨k2, k4, hz1, hw1⟩ := twoW hb1
    obtain ⟨q1, q2, _, _⟩ := two_cells k2
    obtain ⟨r0, r1, f0, f1⟩ := two_cells k4
    have K2 := Lib.hid k2; clear k2
    have K4 := Lib.hid k4; clear k4
    have HW1 := Lib.hid hw1; clear hw1
    have HB1 := Lib.hid hb1; clear hb1
    go_wp2_with fail
    refine bodyPost_ret (v := .tuple #[.agg #[.slice none 0 0, .slice none 0 0], .int .i64 1]) (by simp [results, Try.results28, go_sem, r0, r1, f0, f1]) rfl ⟨none, 0, none, 0, rfl, Own.nil _ _ _ _, Own.nil _ _ _ _, ?_⟩
    exact (HW1.out.setCell (by first | (simp; done) | (simp; omega)) _).setCell (by first | (simp; done) | (simp; omega)) _

theorem settle_any (A A2 A3 : Option Addr) (c c2 c3 : Nat) (s m y : List Int) (w : World) (h1 : Lk w w.heap.size A s c) (h2 : Lk w w.heap.size A2 m c2) (h3 : Lk w w.heap.size A3 y c3) : Calls Try.prog 28 #[.agg #[.slice A s.length c, .slice A2 m.length c2], .slice A3 y.length c3] w (if stB s m y then KRes w (stl s m y) (stl s m y) 0 else KRes w [] [] 1) := by
  cases h : stB s m y
  · exact settle_err A A2 A3 c c2 c3 s m y w h1 h2 h3 h
  · have h' := h
    simp only [stB, Bool.and_eq_true] at h'
    have hv : VN s m = 0 := by rw [VN, h'.1]; rfl
    have hk := (VB_iff s m).1 h'.1
    have hy := (IsS.iff y).1 h'.2
    exact settle_ok A A2 A3 c c2 c3 s m y w h1 h2 h3 hv h'.2 (hk.2.1.merge hy _ _ _) (stl_isS hk.1 hk.2.1 hy)
end Go.Proofs.Ytjlbodfdkdhdnab
