/- Not and Any of the reference, Any of the program. -/
import Derived.Test.YtoldjpnkgdhpkaaNt
import Derived.Deep.RegionHeld3
import Derived.Deep.DrawnRows
namespace Go.Proofs.Ytoldjpnkgdhpkaa
open Go.RowKit
set_option linter.unusedVariables false
set_option linter.unusedSimpArgs false
attribute [local go_sem ↓] Go.wp_at_zero Go.wp_at_succ

theorem getD_last (xs : List Int) (h : 0 < xs.length) : xs.getLast? = some (xs.getD (xs.length - 1) 0) := by
  rw [List.getLast?_eq_getElem?, List.getD, List.getElem?_eq_getElem (by omega)]; rfl
/-- All numbers of a set are at most n, told by the last one. -/
def belB (xs : List Int) (n : Int) : Bool := cntB n && (decide (xs.length = 0) || decide (xs.getD (xs.length - 1) 0 ≤ n))
theorem belB_set {xs : List Int} {n : Int} (h : IsS xs) : belB xs n = (cntB n && isSetB n xs) := by
  cases hc : cntB n
  · simp [belB, hc]
  · simp only [belB, hc, Bool.true_and]
    by_cases h0 : xs.length = 0
    · rw [List.length_eq_zero_iff] at h0; subst h0; simp [isSetB, setFrom]
    · have hl : xs.getD (xs.length - 1) 0 ∈ xs := by rw [List.getD, List.getElem?_eq_getElem (by omega)]; exact List.getElem_mem _
      rw [Bool.eq_iff_iff, isSetB_iff]
      simp only [h0, decide_false, Bool.false_or, decide_eq_true_eq]
      constructor
      · intro hle
        refine ⟨fun x hx => ⟨(h.1 x hx).1, ?_⟩, h.2⟩
        obtain ⟨i, hi, rfl⟩ := List.mem_iff_getElem.1 hx
        have e : xs[i] = xs.getD i 0 := by simp [List.getD, List.getElem?_eq_getElem hi]
        rcases Nat.lt_or_ge i (xs.length - 1) with hlt | hge
        · have := asc_lt h.2 hlt (by omega); omega
        · have : i = xs.length - 1 := by omega
          subst this; omega
      · rintro ⟨h1, _⟩; exact (h1 _ hl).2

set_option maxHeartbeats 2000000 in
theorem isBelow_any (A : Option Addr) (c : Nat) (xs : List Int) (n : Int) (w : World) (B : Nat) (hr : Rd w B .i64 A xs) (hm : xs.length ≤ 1000000) :
    Calls Try.prog 58 #[.slice A xs.length c, .int .i64 n] w fun e w' => e = .returned (.bool (belB xs n)) ∧ w = w' := by
  have HR := Lib.hid hr; clear hr
  by_cases h1 : 0 ≤ n
  · have d1 := dec_le h1
    by_cases h2 : n ≤ 300
    · have d2 := dec_le h2
      by_cases h0 : xs.length = 0
      · have hxs : xs = [] := List.length_eq_zero_iff.1 h0
        subst hxs
        clear h0
        simp only [List.length_nil]
        go_enter Try.func58, Try.ntmps58
        go_wp2
        go_ret
        exact ⟨ret_b (by simp [belB, cntB, h1, h2]), rfl⟩
      · obtain ⟨ad, rfl, _, hc⟩ := HR.out (by omega)
        have hck := hc (xs.length - 1) (by omega)
        have HC := Lib.hid hc; clear hc
        have hbe : belB xs n = decide (xs.getD (xs.length - 1) 0 ≤ n) := by simp [belB, cntB, h1, h2, h0]
        have HBE := Lib.hid hbe; clear hbe
        generalize hlen : xs.length = l at *
        have HLEN := Lib.hid hlen; clear hlen
        have d0 : ((l : Int) == 0) = false := by rw [beq_eq_false_iff_ne]; omega
        have j1 : (0 : Int) ≤ (l : Int) - 1 := by omega
        have j2 : (l : Int) - 1 < l := by omega
        have H0 := Lib.hid h0; clear h0
        generalize xs.getD (l - 1) 0 = x at *
        by_cases h3 : x ≤ n
        · have d3 := dec_le h3
          go_enter Try.func58, Try.ntmps58
          go_wp2
          go_ret
          exact ⟨ret_b (by rw [HBE.out]; simp [h3]), rfl⟩
        · have d3 := dec_nole h3
          go_enter Try.func58, Try.ntmps58
          go_wp2
          go_ret
          exact ⟨ret_b (by rw [HBE.out]; simp; omega), rfl⟩
    · have d2 := dec_nole h2
      go_enter Try.func58, Try.ntmps58
      go_wp2
      go_ret
      exact ⟨ret_b (by have hcn : cntB n = false := by simp [cntB]; omega
                       simp [belB, hcn]), rfl⟩
  · have d1 := dec_nole h1
    go_enter Try.func58, Try.ntmps58
    go_wp2
    go_ret
    exact ⟨ret_b (by have hcn : cntB n = false := by simp [cntB]; omega
                     simp [belB, hcn]), rfl⟩

set_option maxHeartbeats 4000000 in
theorem refNot_ok (A A2 : Option Addr) (c c2 : Nat) (s m : List Int) (N : Nat) (w : World) (h1 : Lk w w.heap.size A s c) (h2 : Lk w w.heap.size A2 m c2)
    (hv : VN s m = 0) (hN : N ≤ 300) (hbl : belB m N = true) (hs : Asc s) (hm : Asc m) :
    Calls Try.prog 22 #[.agg #[.slice A s.length c, .slice A2 m.length c2], .int .i64 N] w (KRes w (lessL (upTo N) m) (lessL (upTo N) s) 0) := by
  have H1 := Lib.hid h1; clear h1
  have H2 := Lib.hid h2; clear h2
  have HV := Lib.hid hv; clear hv
  have HS := Lib.hid hs; clear hs
  have HM := Lib.hid hm; clear hm
  go_enter Try.func22, Try.ntmps22
  go_wp2_with fail
  refine (refValidate_any A A2 c c2 s m _ ((lk2 H1.out _ _).more (by simp; omega)) ((lk2 H2.out _ _).more (by simp; omega))).mono ?_
  rintro e w1 ⟨rfl, hb1⟩
  rw [HV.out]
  obtain ⟨k2, k4, hz1, hw1⟩ := twoW hb1
  obtain ⟨q1, q2, _, _⟩ := two_cells k2
  obtain ⟨r0, r1, f0, f1⟩ := two_cells k4
  have K2 := Lib.hid k2; clear k2
  have K4 := Lib.hid k4; clear k4
  have HW1 := Lib.hid hw1; clear hw1
  have HB1 := Lib.hid hb1; clear hb1
  go_wp2_with fail
  refine (isBelow_any A2 c2 m N _ _ (H2.out.below HW1.out).rd (by have := H2.out.len; omega)).mono ?_
  rintro e w' ⟨rfl, rfl⟩
  rw [hbl]
  have HN := Lib.hid hN; clear hN
  have HBL := Lib.hid hbl; clear hbl
  go_wp2_with fail
  have CU : Hid (∀ W, Below w.heap.size w W → w.heap.size + 1 + 1 ≤ W.heap.size → Calls Try.prog 60 #[.int .i64 N] W fun e w' => ∃ A c, e = .returned (.slice A (upTo N).length c) ∧ Lk w' w'.heap.size A (upTo N) c ∧ Below W.heap.size W w') :=
    Lib.hid fun W hb hz => (refUpTo_any N W HN.out).mono fun e w' ⟨v, h1, h2, h3⟩ => by obtain ⟨A, c, rfl, hk⟩ := lk_upTo h2 HN.out; exact ⟨A, c, h1, hk, h3⟩
  have C1 : Hid (∀ (AU : Option Addr) (cu : Nat) (W : World), Lk W W.heap.size AU (upTo N) cu → Below w.heap.size w W → w.heap.size + 1 + 1 ≤ W.heap.size → Calls Try.prog 59 #[.slice AU (upTo N).length cu, .slice A2 m.length c2] W fun e w' => ∃ A c, e = .returned (.slice A (lessL (upTo N) m).length c) ∧ Own w' (w.heap.size + 1 + 1) 3 .i64 (.slice A (lessL (upTo N) m).length c) (lessL (upTo N) m) ∧ Below W.heap.size W w') :=
    Lib.hid fun AU cu W hk hb hz => (less_any AU A2 cu c2 (upTo N) m W hk.rd ((H2.out.below hb).more (by omega)).rd (by have := hk.len; omega) (by have := H2.out.len; omega)).mono fun e w' ⟨v, h1, h2, h3⟩ => by
      have h2 := h2.of_eq (lessL_eq (asc_upTo N) HM.out)
      obtain ⟨A, c, rfl, _⟩ := h2.out
      exact ⟨A, c, h1, h2.low hz, h3⟩
  have C2 : Hid (∀ (AU : Option Addr) (cu : Nat) (W : World), Lk W W.heap.size AU (upTo N) cu → Below w.heap.size w W → w.heap.size + 1 + 1 ≤ W.heap.size → Calls Try.prog 59 #[.slice AU (upTo N).length cu, .slice A s.length c] W fun e w' => ∃ A c, e = .returned (.slice A (lessL (upTo N) s).length c) ∧ Own w' (w.heap.size + 1 + 1) 3 .i64 (.slice A (lessL (upTo N) s).length c) (lessL (upTo N) s) ∧ Below W.heap.size W w') :=
    Lib.hid fun AU cu W hk hb hz => (less_any AU A cu c (upTo N) s W hk.rd ((H1.out.below hb).more (by omega)).rd (by have := hk.len; omega) (by have := H1.out.len; omega)).mono fun e w' ⟨v, h1, h2, h3⟩ => by
      have h2 := h2.of_eq (lessL_eq (asc_upTo N) HS.out)
      obtain ⟨A, c, rfl, _⟩ := h2.out
      exact ⟨A, c, h1, h2.low hz, h3⟩
  have hbw := Lib.hid HW1.out.drew
  have hz : w.heap.size + 1 + 1 ≤ w1.drew.heap.size := by simpa using hz1
  go_region_held3 (fun x => x.cell? ⟨w.heap.size, 0, none⟩ = some (.slice A s.length c) ∧ x.cell? ⟨w.heap.size, 1, none⟩ = some (.slice A2 m.length c2))
    (first | exact ⟨q1, q2⟩ | exact ⟨(far2 (by omega)).trans q1, (far2 (by omega)).trans q2⟩ | go_keep)
    (first
      | (go_at_call 60; (with_reducible refine (CU.out _ hbw.out hz).mono ?_); rintro e x0 ⟨D0, d0, rfl, hk0, hx0⟩;
         have q1 : x0.cell? ⟨w.heap.size, 0, none⟩ = some (.slice A s.length c) := (hx0.cell (p := ⟨w.heap.size, 0, none⟩) (by simp at hz ⊢; omega)).trans q1;
         have q2 : x0.cell? ⟨w.heap.size, 1, none⟩ = some (.slice A2 m.length c2) := (hx0.cell (p := ⟨w.heap.size, 1, none⟩) (by simp at hz ⊢; omega)).trans q2;
         have r0 : x0.cell? ⟨w.heap.size + 1, 0, none⟩ = some (.slice none 0 0) := (hx0.cell (p := ⟨w.heap.size + 1, 0, none⟩) (by simp at hz ⊢; omega)).trans r0;
         have r1 : x0.cell? ⟨w.heap.size + 1, 1, none⟩ = some (.slice none 0 0) := (hx0.cell (p := ⟨w.heap.size + 1, 1, none⟩) (by simp at hz ⊢; omega)).trans r1;
         have f0 : x0.frozen? ⟨w.heap.size + 1, 0, none⟩ = false := (hx0.frozen (p := ⟨w.heap.size + 1, 0, none⟩) (by simp at hz ⊢; omega)).trans f0;
         have f1 : x0.frozen? ⟨w.heap.size + 1, 1, none⟩ = false := (hx0.frozen (p := ⟨w.heap.size + 1, 1, none⟩) (by simp at hz ⊢; omega)).trans f1;
         have hz' : w.heap.size + 1 + 1 ≤ x0.heap.size := (Nat.le_trans hz hx0.size);
         have hbw := Lib.hid (hbw.out.trans (hx0.mono (by omega)));
         clear hz;
         have hz := hz';
         clear hz';
         try (have ho1' := Lib.hid (HO1.out.below hx0 (Nat.le_refl _)); clear HO1; have HO1 := ho1'; clear ho1');
         have HK0 := Lib.hid hk0; clear hk0 hx0)
      | (go_at_call 59; (with_reducible refine (C1.out _ _ _ HK0.out hbw.out hz).mono ?_); rintro e x1 ⟨D1, d1, rfl, ho1, hx1⟩;
         have q1 : x1.cell? ⟨w.heap.size, 0, none⟩ = some (.slice A s.length c) := (hx1.cell (p := ⟨w.heap.size, 0, none⟩) (by simp at hz ⊢; omega)).trans q1;
         have q2 : x1.cell? ⟨w.heap.size, 1, none⟩ = some (.slice A2 m.length c2) := (hx1.cell (p := ⟨w.heap.size, 1, none⟩) (by simp at hz ⊢; omega)).trans q2;
         have r0 : x1.cell? ⟨w.heap.size + 1, 0, none⟩ = some (.slice none 0 0) := (hx1.cell (p := ⟨w.heap.size + 1, 0, none⟩) (by simp at hz ⊢; omega)).trans r0;
         have r1 : x1.cell? ⟨w.heap.size + 1, 1, none⟩ = some (.slice none 0 0) := (hx1.cell (p := ⟨w.heap.size + 1, 1, none⟩) (by simp at hz ⊢; omega)).trans r1;
         have f0 : x1.frozen? ⟨w.heap.size + 1, 0, none⟩ = false := (hx1.frozen (p := ⟨w.heap.size + 1, 0, none⟩) (by simp at hz ⊢; omega)).trans f0;
         have f1 : x1.frozen? ⟨w.heap.size + 1, 1, none⟩ = false := (hx1.frozen (p := ⟨w.heap.size + 1, 1, none⟩) (by simp at hz ⊢; omega)).trans f1;
         have hz' : w.heap.size + 1 + 1 ≤ x1.heap.size := (Nat.le_trans hz hx1.size);
         have hbw := Lib.hid (hbw.out.trans (hx1.mono (by omega)));
         clear hz;
         have hz := hz';
         clear hz';
         have HO1 := Lib.hid ho1; clear ho1 hx1)
      | (go_at_call 59; (with_reducible refine (C2.out _ _ _ HK0.out hbw.out hz).mono ?_); rintro e x2 ⟨D2, d2, rfl, ho2, hx2⟩;
         have q1 : x2.cell? ⟨w.heap.size, 0, none⟩ = some (.slice A s.length c) := (hx2.cell (p := ⟨w.heap.size, 0, none⟩) (by simp at hz ⊢; omega)).trans q1;
         have q2 : x2.cell? ⟨w.heap.size, 1, none⟩ = some (.slice A2 m.length c2) := (hx2.cell (p := ⟨w.heap.size, 1, none⟩) (by simp at hz ⊢; omega)).trans q2;
         have r0 : x2.cell? ⟨w.heap.size + 1, 0, none⟩ = some (.slice none 0 0) := (hx2.cell (p := ⟨w.heap.size + 1, 0, none⟩) (by simp at hz ⊢; omega)).trans r0;
         have r1 : x2.cell? ⟨w.heap.size + 1, 1, none⟩ = some (.slice none 0 0) := (hx2.cell (p := ⟨w.heap.size + 1, 1, none⟩) (by simp at hz ⊢; omega)).trans r1;
         have f0 : x2.frozen? ⟨w.heap.size + 1, 0, none⟩ = false := (hx2.frozen (p := ⟨w.heap.size + 1, 0, none⟩) (by simp at hz ⊢; omega)).trans f0;
         have f1 : x2.frozen? ⟨w.heap.size + 1, 1, none⟩ = false := (hx2.frozen (p := ⟨w.heap.size + 1, 1, none⟩) (by simp at hz ⊢; omega)).trans f1;
         have hz' : w.heap.size + 1 + 1 ≤ x2.heap.size := (Nat.le_trans hz hx2.size);
         have hbw := Lib.hid (hbw.out.trans (hx2.mono (by omega)));
         clear hz;
         have hz := hz';
         clear hz';
         have ho1' := Lib.hid (HO1.out.below hx2 (Nat.le_refl _)); clear HO1; have HO1 := ho1'; clear ho1';
         have HO2 := Lib.hid ho2; clear ho2 hx2))
  all_goals go_wp2
  all_goals
    refine bodyPost_ret (v := .tuple #[.agg #[.slice D1 (lessL (upTo N) m).length d1, .slice D2 (lessL (upTo N) s).length d2], .int .i64 0]) (by simp [results, Try.results22, go_sem, r0, r1, f0, f1]) rfl ⟨_, _, _, _, rfl, ?_, ?_, ?_⟩
    · exact ((HO1.out.setCell (by first | (simp; done) | (simp; omega)) _).setCell (by first | (simp; done) | (simp; omega)) _).low (by omega)
    · exact ((HO2.out.setCell (by first | (simp; done) | (simp; omega)) _).setCell (by first | (simp; done) | (simp; omega)) _).low (by omega)
    · exact (hbw.out.setCell (by first | (simp; done) | (simp; omega)) _).setCell (by first | (simp; done) | (simp; omega)) _

set_option maxHeartbeats 4000000 in
theorem refNot_err1 (A A2 : Option Addr) (c c2 : Nat) (s m : List Int) (n : Int) (w : World) (h1 : Lk w w.heap.size A s c) (h2 : Lk w w.heap.size A2 m c2)
    (hv : VN s m = 1) : Calls Try.prog 22 #[.agg #[.slice A s.length c, .slice A2 m.length c2], .int .i64 n] w (KRes w [] [] 1) := by
  have H1 := Lib.hid h1; clear h1
  have H2 := Lib.hid h2; clear h2
  have HV := Lib.hid hv; clear hv
  go_enter Try.func22, Try.ntmps22
  go_wp2_with fail
  refine (refValidate_any A A2 c c2 s m _ ((lk2 H1.out _ _).more (by simp; omega)) ((lk2 H2.out _ _).more (by simp; omega))).mono ?_
  rintro e w1 ⟨rfl, hb1⟩
  rw [HV.out]
  obtain ⟨k2, k4, hz1, hw1⟩ := twoW hb1
  obtain ⟨q1, q2, _, _⟩ := two_cells k2
  obtain ⟨r0, r1, f0, f1⟩ := two_cells k4
  have HW1 := Lib.hid hw1; clear hw1
  have HB1 := Lib.hid hb1; clear hb1
  go_wp2_with fail
  refine bodyPost_ret (v := .tuple #[.agg #[.slice none 0 0, .slice none 0 0], .int .i64 1]) (by simp [results, Try.results22, go_sem, r0, r1, f0, f1]) rfl ⟨none, 0, none, 0, rfl, Own.nil _ _ _ _, Own.nil _ _ _ _, ?_⟩
  exact (HW1.out.setCell (by first | (simp; done) | (simp; omega)) _).setCell (by first | (simp; done) | (simp; omega)) _

set_option maxHeartbeats 4000000 in
theorem refNot_err2 (A A2 : Option Addr) (c c2 : Nat) (s m : List Int) (n : Int) (w : World) (h1 : Lk w w.heap.size A s c) (h2 : Lk w w.heap.size A2 m c2)
    (hv : VN s m = 0) (hbl : belB m n = false) : Calls Try.prog 22 #[.agg #[.slice A s.length c, .slice A2 m.length c2], .int .i64 n] w (KRes w [] [] 1) := by
  have H1 := Lib.hid h1; clear h1
  have H2 := Lib.hid h2; clear h2
  have HV := Lib.hid hv; clear hv
  go_enter Try.func22, Try.ntmps22
  go_wp2_with fail
  refine (refValidate_any A A2 c c2 s m _ ((lk2 H1.out _ _).more (by simp; omega)) ((lk2 H2.out _ _).more (by simp; omega))).mono ?_
  rintro e w1 ⟨rfl, hb1⟩
  rw [HV.out]
  obtain ⟨k2, k4, hz1, hw1⟩ := twoW hb1
  obtain ⟨q1, q2, _, _⟩ := two_cells k2
  obtain ⟨r0, r1, f0, f1⟩ := two_cells k4
  have HW1 := Lib.hid hw1; clear hw1
  have HB1 := Lib.hid hb1; clear hb1
  go_wp2_with fail
  refine (isBelow_any A2 c2 m n _ _ (H2.out.below HW1.out).rd (by have := H2.out.len; omega)).mono ?_
  rintro e w' ⟨rfl, rfl⟩
  rw [hbl]
  go_wp2_with fail
  refine bodyPost_ret (v := .tuple #[.agg #[.slice none 0 0, .slice none 0 0], .int .i64 1]) (by simp [results, Try.results22, go_sem, r0, r1, f0, f1]) rfl ⟨none, 0, none, 0, rfl, Own.nil _ _ _ _, Own.nil _ _ _ _, ?_⟩
  exact (HW1.out.setCell (by first | (simp; done) | (simp; omega)) _).setCell (by first | (simp; done) | (simp; omega)) _

theorem refNot_any (A A2 : Option Addr) (c c2 : Nat) (s m : List Int) (n : Int) (w : World) (h1 : Lk w w.heap.size A s c) (h2 : Lk w w.heap.size A2 m c2) :
    Calls Try.prog 22 #[.agg #[.slice A s.length c, .slice A2 m.length c2], .int .i64 n] w (if notB s m n then KRes w (lessL (upTo n.toNat) m) (lessL (upTo n.toNat) s) 0 else KRes w [] [] 1) := by
  rcases VN_cases s m with ⟨hv, hvb⟩ | ⟨hv, hvb⟩
  · have hset := (VB_iff s m).1 hvb
    have hnb : notB s m n = belB m n := by rw [belB_set hset.2.1, notB, hvb, Bool.true_and]
    rw [hnb]
    cases h : belB m n
    · exact refNot_err2 A A2 c c2 s m n w h1 h2 hv h
    · have hc : cntB n = true := by simp only [belB, Bool.and_eq_true] at h; exact h.1
      obtain ⟨N, rfl, hN⟩ := cntB_nat hc
      rw [Int.toNat_natCast]
      exact refNot_ok A A2 c c2 s m N w h1 h2 hv hN h hset.1.2 hset.2.1.2
  · have hnb : notB s m n = false := by simp [notB, hvb]
    rw [hnb]
    exact refNot_err1 A A2 c c2 s m n w h1 h2 hv

theorem one_of {w w1 : World} {cs1 : Array Value} {t1 : TypeId} (hb1 : Below (w.alloc (.cells cs1 t1)).heap.size (w.alloc (.cells cs1 t1)) w1) :
    Bk w1 w.heap.size t1 cs1 ∧ w.heap.size + 1 ≤ w1.heap.size ∧ Below w.heap.size w w1 :=
  ⟨(Bk.new w _ _).below hb1 (by simp), by have := hb1.size; simpa using this, bstep hb1⟩
theorem any_isB : ∀ n : Int, belB [] n = cntB n := fun n => by simp [belB]

set_option maxHeartbeats 2000000 in
theorem any_any (n : Int) (w : World) : Calls Try.prog 23 #[.int .i64 n] w (KRes w [] (if cntB n then upTo n.toNat else []) (if cntB n then 0 else 1)) := by
  cases hc : cntB n
  · go_enter Try.func23, Try.ntmps23
    go_wp2_with fail
    refine (isCount_any _ _).mono ?_
    rintro e w' ⟨rfl, rfl⟩
    rw [hc]
    go_wp2_with fail
    refine bodyPost_ret (v := .tuple #[.agg #[.slice none 0 0, .slice none 0 0], .int .i64 1]) (by simp [results, Try.results23, go_sem]) rfl ⟨none, 0, none, 0, rfl, Own.nil _ _ _ _, Own.nil _ _ _ _, Below.of_alloc _ _ _ (Nat.le_refl _)⟩
  · obtain ⟨N, rfl, hN⟩ := cntB_nat hc
    rw [Int.toNat_natCast]
    go_enter Try.func23, Try.ntmps23
    go_wp2_with fail
    refine (isCount_any _ _).mono ?_
    rintro e w' ⟨rfl, rfl⟩
    rw [hc]
    go_wp2_with fail
    refine (upTo_any N _ hN).mono ?_
    rintro e w1 ⟨v, rfl, ho, hb1⟩
    obtain ⟨k2, hz1, hw1⟩ := one_of hb1
    obtain ⟨A1, c1, rfl, _⟩ := ho.out
    obtain ⟨r0, r1, f0, f1⟩ := two_cells k2
    have HO := Lib.hid ho; clear ho
    have HW1 := Lib.hid hw1; clear hw1
    have HB1 := Lib.hid hb1; clear hb1
    have HN := Lib.hid hN; clear hN
    go_wp2_with fail
    refine bodyPost_ret (v := .tuple #[.agg #[.slice none 0 0, .slice A1 (upTo N).length c1], .int .i64 0]) (by simp [results, Try.results23, go_sem, r0, r1, f0, f1]) rfl ⟨none, 0, _, _, rfl, Own.nil _ _ _ _, ?_, ?_⟩
    · exact ((HO.out.setCell (by first | (simp; done) | (simp; omega)) _).setCell (by first | (simp; done) | (simp; omega)) _).low (by simp)
    · exact (HW1.out.setCell (by first | (simp; done) | (simp; omega)) _).setCell (by first | (simp; done) | (simp; omega)) _

set_option maxHeartbeats 2000000 in
theorem refAny_any (n : Int) (w : World) : Calls Try.prog 24 #[.int .i64 n] w (KRes w [] (if cntB n then upTo n.toNat else []) (if cntB n then 0 else 1)) := by
  have hbe := any_isB n
  cases hc : cntB n
  · rw [hc] at hbe
    go_enter Try.func24, Try.ntmps24
    go_wp2_with fail
    refine (isBelow_any none 0 [] n _ 0 Rd.nil (by simp)).mono ?_
    rintro e w' ⟨rfl, rfl⟩
    rw [hbe]
    go_wp2_with fail
    refine bodyPost_ret (v := .tuple #[.agg #[.slice none 0 0, .slice none 0 0], .int .i64 1]) (by simp [results, Try.results24, go_sem]) rfl ⟨none, 0, none, 0, rfl, Own.nil _ _ _ _, Own.nil _ _ _ _, Below.of_alloc _ _ _ (Nat.le_refl _)⟩
  · obtain ⟨N, rfl, hN⟩ := cntB_nat hc
    rw [hc] at hbe
    rw [Int.toNat_natCast]
    go_enter Try.func24, Try.ntmps24
    go_wp2_with fail
    refine (isBelow_any none 0 [] N _ 0 Rd.nil (by simp)).mono ?_
    rintro e w' ⟨rfl, rfl⟩
    rw [hbe]
    go_wp2_with fail
    refine (refUpTo_any N _ hN).mono ?_
    rintro e w1 ⟨v, rfl, ho, hb1⟩
    obtain ⟨k2, hz1, hw1⟩ := one_of hb1
    obtain ⟨A1, c1, rfl, _⟩ := ho.out
    obtain ⟨r0, r1, f0, f1⟩ := two_cells k2
    have HO := Lib.hid ho; clear ho
    have HW1 := Lib.hid hw1; clear hw1
    have HB1 := Lib.hid hb1; clear hb1
    have HN := Lib.hid hN; clear hN
    go_wp2_with fail
    refine bodyPost_ret (v := .tuple #[.agg #[.slice none 0 0, .slice A1 (upTo N).length c1], .int .i64 0]) (by simp [results, Try.results24, go_sem, r0, r1, f0, f1]) rfl ⟨none, 0, _, _, rfl, Own.nil _ _ _ _, ?_, ?_⟩
    · exact ((HO.out.setCell (by first | (simp; done) | (simp; omega)) _).setCell (by first | (simp; done) | (simp; omega)) _).low (by simp)
    · exact (HW1.out.setCell (by first | (simp; done) | (simp; omega)) _).setCell (by first | (simp; done) | (simp; omega)) _
end Go.Proofs.Ytoldjpnkgdhpkaa
