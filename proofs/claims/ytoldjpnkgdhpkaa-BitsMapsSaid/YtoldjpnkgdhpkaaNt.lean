/- Not and Any, of the program and the reference. -/
import Derived.Test.YtoldjpnkgdhpkaaR8
import Derived.Test.YtoldjpnkgdhpkaaSm
import Derived.Deep.RegionHeld3
import Derived.Deep.DrawnRows
namespace Go.Proofs.Ytoldjpnkgdhpkaa
open Go.RowKit
set_option linter.unusedVariables false
set_option linter.unusedSimpArgs false
attribute [local go_sem ↓] Go.wp_at_zero Go.wp_at_succ

theorem twoW {w w1 : World} {cs1 cs2 : Array Value} {t1 t2 : TypeId} (hb1 : Below ((w.alloc (.cells cs1 t1)).alloc (.cells cs2 t2)).heap.size ((w.alloc (.cells cs1 t1)).alloc (.cells cs2 t2)) w1) :
    Bk w1 w.heap.size t1 cs1 ∧ Bk w1 (w.heap.size + 1) t2 cs2 ∧ w.heap.size + 1 + 1 ≤ w1.heap.size ∧ Below w.heap.size w w1 := by
  refine ⟨((Bk.new w _ _).alloc _).below hb1 (by simp; omega), (by simpa using Bk.new (w.alloc _) _ _ : Bk _ _ _ _).below hb1 (by simp), by have := hb1.size; simp at this; omega, ?_⟩
  exact (below2 w _ _).trans (hb1.mono (by simp; omega))
/-- The complement can be told. -/
def notB (s m : List Int) (n : Int) : Bool := VB s m && cntB n && isSetB n m
theorem cntB_nat {n : Int} (h : cntB n = true) : ∃ N : Nat, n = N ∧ N ≤ 300 := by
  simp [cntB] at h; exact ⟨n.toNat, by omega, by omega⟩
theorem lk_upTo {w : World} {base : Nat} {v : Value} {N : Nat} (h : Own w base 3 .i64 v (upTo N)) (hN : N ≤ 300) : ∃ A c, v = .slice A (upTo N).length c ∧ Lk w w.heap.size A (upTo N) c :=
  h.lk (by rw [upTo_len]; omega) (isS_upTo hN).is64

set_option maxHeartbeats 4000000 in
theorem not_ok (A A2 : Option Addr) (c c2 : Nat) (s m : List Int) (N : Nat) (w : World) (h1 : Lk w w.heap.size A s c) (h2 : Lk w w.heap.size A2 m c2)
    (hv : VN s m = 0) (hN : N ≤ 300) (hc : cntB N = true) (hm : isSetB N m = true) :
    Calls Try.prog 21 #[.agg #[.slice A s.length c, .slice A2 m.length c2], .int .i64 N] w (KRes w (lessL (upTo N) m) (lessL (upTo N) s) 0) := by
  have H1 := Lib.hid h1; clear h1
  have H2 := Lib.hid h2; clear h2
  have HV := Lib.hid hv; clear hv
  go_enter Try.func21, Try.ntmps21
  go_wp2_with fail
  refine (validate_any A A2 c c2 s m _ ((lk2 H1.out _ _).more (by simp; omega)) ((lk2 H2.out _ _).more (by simp; omega))).mono ?_
  rintro e w1 ⟨rfl, hb1⟩
  rw [HV.out]
  obtain ⟨k2, k4, hz1, hw1⟩ := twoW hb1
  obtain ⟨q1, q2, _, _⟩ := two_cells k2
  have HW1 := Lib.hid hw1; clear hw1
  have HB1 := Lib.hid hb1; clear hb1
  go_wp2_with fail
  refine (isCount_any _ _).mono ?_
  rintro e w' ⟨rfl, rfl⟩
  rw [hc]
  go_wp2_with fail
  refine (isSet_any A2 c2 m N _ _ (H2.out.below HW1.out).rd H2.out.i64 (by have := H2.out.len; omega)).mono ?_
  rintro e w' ⟨rfl, rfl⟩
  rw [hm]
  go_wp2_with fail
  refine (upTo_any N _ hN).mono ?_
  rintro e Y ⟨va, rfl, hoa, hby⟩
  obtain ⟨AU, cu, rfl, lku⟩ := lk_upTo hoa hN
  have LU := Lib.hid lku; clear lku
  have HOA := Lib.hid hoa; clear hoa
  have k2' := k2.below hby (by omega)
  have k4' := k4.below hby (by omega)
  have hy : w.heap.size + 1 + 1 ≤ Y.heap.size := by have := hby.size; omega
  have HWY := Lib.hid (HW1.out.trans (hby.mono (by omega))); clear hby
  clear q1 q2
  obtain ⟨q1, q2, _, _⟩ := two_cells k2'
  obtain ⟨r0, r1, f0, f1⟩ := two_cells k4'
  have K2 := Lib.hid k2; clear k2
  have K4 := Lib.hid k4; clear k4
  have HN := Lib.hid hN; clear hN
  go_wp2_with fail
  have C1 : Hid (∀ W, Below Y.heap.size Y W → Y.heap.size ≤ W.heap.size → Calls Try.prog 54 #[.slice AU (upTo N).length cu, .slice A2 m.length c2] W fun e w' => ∃ A c, e = .returned (.slice A (lessL (upTo N) m).length c) ∧ Own w' Y.heap.size 3 .i64 (.slice A (lessL (upTo N) m).length c) (lessL (upTo N) m) ∧ Below W.heap.size W w') :=
    Lib.hid fun W hb hz => (without_any AU A2 cu c2 (upTo N) m W ((LU.out.below hb).more hz) (((H2.out.below HWY.out).more (by omega)).below hb |>.more hz)).mono fun e w' ⟨v, h1, h2, h3⟩ => by obtain ⟨A, c, rfl, _⟩ := h2.out; exact ⟨A, c, h1, h2.low hz, h3⟩
  have C2 : Hid (∀ W, Below Y.heap.size Y W → Y.heap.size ≤ W.heap.size → Calls Try.prog 54 #[.slice AU (upTo N).length cu, .slice A s.length c] W fun e w' => ∃ A c, e = .returned (.slice A (lessL (upTo N) s).length c) ∧ Own w' Y.heap.size 3 .i64 (.slice A (lessL (upTo N) s).length c) (lessL (upTo N) s) ∧ Below W.heap.size W w') :=
    Lib.hid fun W hb hz => (without_any AU A cu c (upTo N) s W ((LU.out.below hb).more hz) (((H1.out.below HWY.out).more (by omega)).below hb |>.more hz)).mono fun e w' ⟨v, h1, h2, h3⟩ => by obtain ⟨A, c, rfl, _⟩ := h2.out; exact ⟨A, c, h1, h2.low hz, h3⟩
  have hbw := Lib.hid (Below.refl Y.heap.size Y).drew
  have hz : Y.heap.size ≤ Y.drew.heap.size := by simp
  go_region_held3 (fun x => x.cell? ⟨w.heap.size, 0, none⟩ = some (.slice A s.length c) ∧ x.cell? ⟨w.heap.size, 1, none⟩ = some (.slice A2 m.length c2))
    (first | exact ⟨q1, q2⟩ | exact ⟨(far2 (by omega)).trans q1, (far2 (by omega)).trans q2⟩ | go_keep)
    (first
      | (go_at_call 54; (with_reducible refine (C1.out _ hbw.out hz).mono ?_); rintro e x1 ⟨D1, d1, rfl, ho1, hx1⟩;
         have q1 : x1.cell? ⟨w.heap.size, 0, none⟩ = some (.slice A s.length c) := (hx1.cell (p := ⟨w.heap.size, 0, none⟩) (by simp at hz ⊢; omega)).trans q1;
         have q2 : x1.cell? ⟨w.heap.size, 1, none⟩ = some (.slice A2 m.length c2) := (hx1.cell (p := ⟨w.heap.size, 1, none⟩) (by simp at hz ⊢; omega)).trans q2;
         have r0 : x1.cell? ⟨w.heap.size + 1, 0, none⟩ = some (.slice none 0 0) := (hx1.cell (p := ⟨w.heap.size + 1, 0, none⟩) (by simp at hz ⊢; omega)).trans r0;
         have r1 : x1.cell? ⟨w.heap.size + 1, 1, none⟩ = some (.slice none 0 0) := (hx1.cell (p := ⟨w.heap.size + 1, 1, none⟩) (by simp at hz ⊢; omega)).trans r1;
         have f0 : x1.frozen? ⟨w.heap.size + 1, 0, none⟩ = false := (hx1.frozen (p := ⟨w.heap.size + 1, 0, none⟩) (by simp at hz ⊢; omega)).trans f0;
         have f1 : x1.frozen? ⟨w.heap.size + 1, 1, none⟩ = false := (hx1.frozen (p := ⟨w.heap.size + 1, 1, none⟩) (by simp at hz ⊢; omega)).trans f1;
         have hz' : Y.heap.size ≤ x1.heap.size := (Nat.le_trans hz hx1.size);
         have hbw := Lib.hid (hbw.out.trans (hx1.mono (by omega)));
         clear hz;
         have hz := hz';
         have hX1 := Lib.hid hx1; clear hx1 hz';
         have HO1 := Lib.hid ho1; clear ho1)
      | (go_at_call 54; (with_reducible refine (C2.out _ hbw.out hz).mono ?_); rintro e x2 ⟨D2, d2, rfl, ho2, hx2⟩;
         have q1 : x2.cell? ⟨w.heap.size, 0, none⟩ = some (.slice A s.length c) := (hx2.cell (p := ⟨w.heap.size, 0, none⟩) (by simp at hz ⊢; omega)).trans q1;
         have q2 : x2.cell? ⟨w.heap.size, 1, none⟩ = some (.slice A2 m.length c2) := (hx2.cell (p := ⟨w.heap.size, 1, none⟩) (by simp at hz ⊢; omega)).trans q2;
         have r0 : x2.cell? ⟨w.heap.size + 1, 0, none⟩ = some (.slice none 0 0) := (hx2.cell (p := ⟨w.heap.size + 1, 0, none⟩) (by simp at hz ⊢; omega)).trans r0;
         have r1 : x2.cell? ⟨w.heap.size + 1, 1, none⟩ = some (.slice none 0 0) := (hx2.cell (p := ⟨w.heap.size + 1, 1, none⟩) (by simp at hz ⊢; omega)).trans r1;
         have f0 : x2.frozen? ⟨w.heap.size + 1, 0, none⟩ = false := (hx2.frozen (p := ⟨w.heap.size + 1, 0, none⟩) (by simp at hz ⊢; omega)).trans f0;
         have f1 : x2.frozen? ⟨w.heap.size + 1, 1, none⟩ = false := (hx2.frozen (p := ⟨w.heap.size + 1, 1, none⟩) (by simp at hz ⊢; omega)).trans f1;
         have hz' : Y.heap.size ≤ x2.heap.size := (Nat.le_trans hz hx2.size);
         have hbw := Lib.hid (hbw.out.trans (hx2.mono (by omega)));
         clear hz;
         have hz := hz';
         have hX2 := Lib.hid hx2; clear hx2 hz';
         have HO2 := Lib.hid ho2; clear ho2))
  all_goals go_wp2
  all_goals
    refine bodyPost_ret (v := .tuple #[.agg #[.slice D1 (lessL (upTo N) m).length d1, .slice D2 (lessL (upTo N) s).length d2], .int .i64 0]) (by simp [results, Try.results21, go_sem, r0, r1, f0, f1]) rfl ⟨_, _, _, _, rfl, ?_, ?_, ?_⟩
    · first
        | exact (((HO1.out.below hX2.out (Nat.le_refl _)).setCell (by first | (simp; done) | (simp; omega)) _).setCell (by first | (simp; done) | (simp; omega)) _).low (by omega)
        | exact ((HO1.out.setCell (by first | (simp; done) | (simp; omega)) _).setCell (by first | (simp; done) | (simp; omega)) _).low (by omega)
    · first
        | exact (((HO2.out.below hX1.out (Nat.le_refl _)).setCell (by first | (simp; done) | (simp; omega)) _).setCell (by first | (simp; done) | (simp; omega)) _).low (by omega)
        | exact ((HO2.out.setCell (by first | (simp; done) | (simp; omega)) _).setCell (by first | (simp; done) | (simp; omega)) _).low (by omega)
    · exact ((HWY.out.trans (hbw.out.mono (by omega))).setCell (by first | (simp; done) | (simp; omega)) _).setCell (by first | (simp; done) | (simp; omega)) _

set_option maxHeartbeats 4000000 in
theorem not_err (A A2 : Option Addr) (c c2 : Nat) (s m : List Int) (n : Int) (w : World) (h1 : Lk w w.heap.size A s c) (h2 : Lk w w.heap.size A2 m c2)
    (hn : notB s m n = false) :
    Calls Try.prog 21 #[.agg #[.slice A s.length c, .slice A2 m.length c2], .int .i64 n] w (KRes w [] [] 1) := by
  have H1 := Lib.hid h1; clear h1
  have H2 := Lib.hid h2; clear h2
  rcases VN_cases s m with ⟨hv, hvb⟩ | ⟨hv, hvb⟩
  · have HV := Lib.hid hv; clear hv
    cases hc : cntB n
    · clear hn hvb
      go_enter Try.func21, Try.ntmps21
      go_wp2_with fail
      refine (validate_any A A2 c c2 s m _ ((lk2 H1.out _ _).more (by simp; omega)) ((lk2 H2.out _ _).more (by simp; omega))).mono ?_
      rintro e w1 ⟨rfl, hb1⟩
      rw [HV.out]
      obtain ⟨k2, k4, hz1, hw1⟩ := twoW hb1
      obtain ⟨q1, q2, _, _⟩ := two_cells k2
      obtain ⟨r0, r1, f0, f1⟩ := two_cells k4
      have HW1 := Lib.hid hw1; clear hw1
      have HB1 := Lib.hid hb1; clear hb1
      go_wp2_with fail
      refine (isCount_any _ _).mono ?_
      rintro e w' ⟨rfl, rfl⟩
      rw [hc]
      go_wp2_with fail
      refine bodyPost_ret (v := .tuple #[.agg #[.slice none 0 0, .slice none 0 0], .int .i64 1]) (by simp [results, Try.results21, go_sem, r0, r1, f0, f1]) rfl ⟨none, 0, none, 0, rfl, Own.nil _ _ _ _, Own.nil _ _ _ _, ?_⟩
      exact (HW1.out.setCell (by first | (simp; done) | (simp; omega)) _).setCell (by first | (simp; done) | (simp; omega)) _
    · have hm : isSetB n m = false := by simpa [notB, hvb, hc] using hn
      clear hn hvb
      go_enter Try.func21, Try.ntmps21
      go_wp2_with fail
      refine (validate_any A A2 c c2 s m _ ((lk2 H1.out _ _).more (by simp; omega)) ((lk2 H2.out _ _).more (by simp; omega))).mono ?_
      rintro e w1 ⟨rfl, hb1⟩
      rw [HV.out]
      obtain ⟨k2, k4, hz1, hw1⟩ := twoW hb1
      obtain ⟨q1, q2, _, _⟩ := two_cells k2
      obtain ⟨r0, r1, f0, f1⟩ := two_cells k4
      have HW1 := Lib.hid hw1; clear hw1
      have HB1 := Lib.hid hb1; clear hb1
      go_wp2_with fail
      refine (isCount_any _ _).mono ?_
      rintro e w' ⟨rfl, rfl⟩
      rw [hc]
      go_wp2_with fail
      refine (isSet_any A2 c2 m n _ _ (H2.out.below HW1.out).rd H2.out.i64 (by have := H2.out.len; omega)).mono ?_
      rintro e w' ⟨rfl, rfl⟩
      rw [hm]
      go_wp2_with fail
      refine bodyPost_ret (v := .tuple #[.agg #[.slice none 0 0, .slice none 0 0], .int .i64 1]) (by simp [results, Try.results21, go_sem, r0, r1, f0, f1]) rfl ⟨none, 0, none, 0, rfl, Own.nil _ _ _ _, Own.nil _ _ _ _, ?_⟩
      exact (HW1.out.setCell (by first | (simp; done) | (simp; omega)) _).setCell (by first | (simp; done) | (simp; omega)) _
  · have HV := Lib.hid hv; clear hv hn hvb
    go_enter Try.func21, Try.ntmps21
    go_wp2_with fail
    refine (validate_any A A2 c c2 s m _ ((lk2 H1.out _ _).more (by simp; omega)) ((lk2 H2.out _ _).more (by simp; omega))).mono ?_
    rintro e w1 ⟨rfl, hb1⟩
    rw [HV.out]
    obtain ⟨k2, k4, hz1, hw1⟩ := twoW hb1
    obtain ⟨q1, q2, _, _⟩ := two_cells k2
    obtain ⟨r0, r1, f0, f1⟩ := two_cells k4
    have HW1 := Lib.hid hw1; clear hw1
    have HB1 := Lib.hid hb1; clear hb1
    go_wp2_with fail
    refine bodyPost_ret (v := .tuple #[.agg #[.slice none 0 0, .slice none 0 0], .int .i64 1]) (by simp [results, Try.results21, go_sem, r0, r1, f0, f1]) rfl ⟨none, 0, none, 0, rfl, Own.nil _ _ _ _, Own.nil _ _ _ _, ?_⟩
    exact (HW1.out.setCell (by first | (simp; done) | (simp; omega)) _).setCell (by first | (simp; done) | (simp; omega)) _

theorem not_any (A A2 : Option Addr) (c c2 : Nat) (s m : List Int) (n : Int) (w : World) (h1 : Lk w w.heap.size A s c) (h2 : Lk w w.heap.size A2 m c2) :
    Calls Try.prog 21 #[.agg #[.slice A s.length c, .slice A2 m.length c2], .int .i64 n] w (if notB s m n then KRes w (lessL (upTo n.toNat) m) (lessL (upTo n.toNat) s) 0 else KRes w [] [] 1) := by
  cases h : notB s m n
  · exact not_err A A2 c c2 s m n w h1 h2 h
  · have h' := h
    simp only [notB, Bool.and_eq_true] at h'
    obtain ⟨N, rfl, hN⟩ := cntB_nat h'.1.2
    have hv : VN s m = 0 := by rw [VN, h'.1.1]; rfl
    rw [Int.toNat_natCast]
    exact not_ok A A2 c c2 s m N w h1 h2 hv hN h'.1.2 h'.2
end Go.Proofs.Ytoldjpnkgdhpkaa
