/- merge of the program for the union and the intersection. -/
import Derived.Test.YtoldjpnkgdhpkaaMg
namespace Go.Proofs.Ytoldjpnkgdhpkaa
open Go.RowKit
set_option linter.unusedVariables false
set_option linter.unusedSimpArgs false

set_option maxHeartbeats 8000000 in
theorem merge_both (A A2 : Option Addr) (c c2 : Nat) (xs ys : List Int) (w : World) (hr : Rd w w.heap.size .i64 A xs) (hr2 : Rd w w.heap.size .i64 A2 ys) (hm : xs.length ≤ 100000) (hm2 : ys.length ≤ 100000) (hc : xs.length ≤ c) (hc2 : ys.length ≤ c2)
    (hcm : c ≤ 9223372036854775807) (hcm2 : c2 ≤ 9223372036854775807) :
    Calls Try.prog 67 #[.slice A xs.length c, .slice A2 ys.length c2, .func (.func 68) #[] #[]] w fun e w' => ∃ v, e = .returned v ∧ Own w' w.heap.size 3 .i64 v (mergeK false false true xs ys) ∧ Below w.heap.size w w' := by
  have HR := Lib.hid hr; clear hr
  have HR2 := Lib.hid hr2; clear hr2
  have hml : (mergeK false false true xs ys).length ≤ 1000000 := by have := mergeK_len false false true xs ys; omega
  go_enter Try.func67, Try.ntmps67
  go_wp2
  go_loopw [0, 1, 7] (fun a b v wr => ∃ (A A2 : Option Addr) (c c2 : Nat) (xs' ys' acc : List Int), a = .slice A xs'.length c ∧ b = .slice A2 ys'.length c2 ∧ (xs'.length ≤ c ∧ c ≤ 9223372036854775807 ∧ ys'.length ≤ c2 ∧ c2 ≤ 9223372036854775807 ∧ xs'.length ≤ 100000 ∧ ys'.length ≤ 100000) ∧ Rd w w.heap.size .i64 A xs' ∧ Rd w w.heap.size .i64 A2 ys' ∧
      Own wr w.heap.size 3 .i64 v acc ∧ acc ++ mergeK false false true xs' ys' = mergeK false false true xs ys ∧ Below w.heap.size w wr) (fun a b _ _ => lenV a + lenV b)
  case atStart => exact ⟨A, A2, c, c2, xs, ys, [], rfl, rfl, ⟨hc, hcm, hc2, hcm2, hm, hm2⟩, HR.out, HR2.out, Own.nil _ _ _ _, rfl, Below.refl _ _⟩
  case round =>
    obtain ⟨A, A2, c, c2, xs', ys', acc, rfl, rfl, ⟨g1, g2, g3, g4, g5, g6⟩, r1, r2, hown, hmg, hb⟩ := hrel
    have hal : acc.length ≤ 1000000 := length_ok hmg hml
    have HO := Lib.hid hown; clear hown
    have HB := Lib.hid hb; clear hb
    have HM := Lib.hid hmg; clear hmg
    have R1 := Lib.hid r1; clear r1
    have R2 := Lib.hid r2; clear r2
    rcases xs' with _ | ⟨x, xs'⟩
    · rcases ys' with _ | ⟨y, ys'⟩
      · go_wp2
        go_ret
        exact ⟨_, rfl, HO.out.of_eq (by have := HM.out; rw [mergeK, List.append_nil] at this; exact this), HB.out⟩
      · obtain ⟨ad2, rfl, _, hcb⟩ := (R2.out.below HB.out) (by simp)
        have hy : wr.cell? ad2 = some (.int .i64 y) := by simpa [Addr.add] using hcb 0 (by simp)
        have HCB := Lib.hid hcb; clear hcb
        simp only [List.length_cons, List.length_nil] at g1 g3 g5 g6 ⊢
        go_wp2
        go_quiet (fail)
        go_wp2
        go_quiet (fail)
        go_wp2_with (go_at_call 68; (with_reducible refine (keepBoth_any _ _ _).mono ?_); rintro e w1 ⟨rfl, rfl⟩)
        all_goals
          go_roundw
          case rel =>
            refine ⟨_, _, _, _, [], ys', _, rfl, rfl, ⟨by omega, by omega, by simp only [List.length_cons] at *; omega, by omega, by simp only [List.length_cons] at *; omega, by simp only [List.length_cons] at *; omega⟩, ?_, ?_, HO.out.dr ⟨_, rfl⟩, step_no HM.out mk_b, Dr.below HB.out ⟨_, rfl⟩⟩
            · exact R1.out
            · first | exact Rd.tail_if R2.out (by omega) | exact Rd.tail R2.out rfl | exact Rd.tail_in (by omega)
          case measure => (simp only [lenV_slice, List.length_cons, List.length_nil]; omega)
    · rcases ys' with _ | ⟨y, ys'⟩
      · obtain ⟨ad, rfl, _, hca⟩ := (R1.out.below HB.out) (by simp)
        have hx : wr.cell? ad = some (.int .i64 x) := by simpa [Addr.add] using hca 0 (by simp)
        have HCA := Lib.hid hca; clear hca
        simp only [List.length_cons, List.length_nil] at g1 g3 g5 g6 ⊢
        go_wp2
        go_quiet (fail)
        go_wp2
        go_quiet (fail)
        go_wp2_with (go_at_call 68; (with_reducible refine (keepBoth_any _ _ _).mono ?_); rintro e w1 ⟨rfl, rfl⟩)
        all_goals
          go_roundw
          case rel =>
            refine ⟨_, _, _, _, xs', [], _, rfl, rfl, ⟨by omega, by omega, by simp only [List.length_cons] at *; omega, by omega, by simp only [List.length_cons] at *; omega, by simp only [List.length_cons] at *; omega⟩, ?_, ?_, HO.out.dr ⟨_, rfl⟩, step_no HM.out mk_a, Dr.below HB.out ⟨_, rfl⟩⟩
            · first | exact Rd.tail_if R1.out (by omega) | exact Rd.tail R1.out rfl | exact Rd.tail_in (by omega)
            · exact R2.out
          case measure => (simp only [lenV_slice, List.length_cons, List.length_nil]; omega)
      · obtain ⟨ad, rfl, _, hca⟩ := (R1.out.below HB.out) (by simp)
        obtain ⟨ad2, rfl, _, hcb⟩ := (R2.out.below HB.out) (by simp)
        have hx : wr.cell? ad = some (.int .i64 x) := by simpa [Addr.add] using hca 0 (by simp)
        have hy : wr.cell? ad2 = some (.int .i64 y) := by simpa [Addr.add] using hcb 0 (by simp)
        have HCA := Lib.hid hca; clear hca
        have HCB := Lib.hid hcb; clear hcb
        simp only [List.length_cons] at g1 g3 g5 g6 ⊢
        by_cases h : x < y
        · have d1 := dec_le (show x ≤ y by omega)
          have d2 := dec_nole (show ¬ y ≤ x by omega)
          go_wp2
          go_quiet (fail)
          go_wp2
          go_quiet (fail)
          go_wp2_with (go_at_call 68; (with_reducible refine (keepBoth_any _ _ _).mono ?_); rintro e w1 ⟨rfl, rfl⟩)
          all_goals
            go_roundw
            case rel =>
              refine ⟨_, _, _, _, xs', (y :: ys'), _, rfl, rfl, ⟨by omega, by omega, by simp only [List.length_cons] at *; omega, by omega, by simp only [List.length_cons] at *; omega, by simp only [List.length_cons] at *; omega⟩, ?_, ?_, HO.out.dr ⟨_, rfl⟩, step_no HM.out (mk_ab h), Dr.below HB.out ⟨_, rfl⟩⟩
              · first | exact Rd.tail_if R1.out (by omega) | exact Rd.tail R1.out rfl | exact Rd.tail_in (by omega)
              · exact R2.out
            case measure => (simp only [lenV_slice, List.length_cons, List.length_nil]; omega)
        · by_cases h' : y < x
          · have d1 := dec_nole (show ¬ x ≤ y by omega)
            have d2 := dec_le (show y ≤ x by omega)
            go_wp2
            go_quiet (fail)
            go_wp2
            go_quiet (fail)
            go_wp2_with (go_at_call 68; (with_reducible refine (keepBoth_any _ _ _).mono ?_); rintro e w1 ⟨rfl, rfl⟩)
            all_goals
              go_roundw
              case rel =>
                refine ⟨_, _, _, _, (x :: xs'), ys', _, rfl, rfl, ⟨by omega, by omega, by simp only [List.length_cons] at *; omega, by omega, by simp only [List.length_cons] at *; omega, by simp only [List.length_cons] at *; omega⟩, ?_, ?_, HO.out.dr ⟨_, rfl⟩, step_no HM.out (mk_ba h'), Dr.below HB.out ⟨_, rfl⟩⟩
                · exact R1.out
                · first | exact Rd.tail_if R2.out (by omega) | exact Rd.tail R2.out rfl | exact Rd.tail_in (by omega)
              case measure => (simp only [lenV_slice, List.length_cons, List.length_nil]; omega)
          · have d1 := dec_le (show x ≤ y by omega)
            have d2 := dec_le (show y ≤ x by omega)
            have h3 : x = y := by omega
            have H3 := Lib.hid h3; clear h3
            go_wp2
            go_quiet (fail)
            go_wp2
            go_quiet (fail)
            go_wp2_with (first
              | (go_at_call 68; (with_reducible refine (keepBoth_any _ _ _).mono ?_); rintro e w1 ⟨rfl, rfl⟩)
              | (at_builtin; refine app_int rfl _ _ rfl w.heap.size _ _ x rfl ((HO.out.dr ⟨_, rfl⟩).alloc _) ⟨wr.heap.size, 0, none⟩ 1 rfl (new_cell _ _ _) hal (size_alloc (Nat.le_trans HB.out.size (Nat.le_refl _)) _) ?_; intro v1 w1 hown1 hb1))
            all_goals
              go_roundw
              case rel =>
                refine ⟨_, _, _, _, xs', ys', _, rfl, rfl, ⟨by omega, by omega, by simp only [List.length_cons] at *; omega, by omega, by simp only [List.length_cons] at *; omega, by simp only [List.length_cons] at *; omega⟩, ?_, ?_, hown1, step_yes HM.out (mk_eq H3.out), ((Dr.below HB.out ⟨_, rfl⟩).alloc (Nat.le_trans HB.out.size (Nat.le_refl _)) _).trans hb1⟩
                · first | exact Rd.tail_if R1.out (by omega) | exact Rd.tail R1.out rfl | exact Rd.tail_in (by omega)
                · first | exact Rd.tail_if R2.out (by omega) | exact Rd.tail R2.out rfl | exact Rd.tail_in (by omega)
              case measure => (simp only [lenV_slice, List.length_cons, List.length_nil]; omega)
end Go.Proofs.Ytoldjpnkgdhpkaa
