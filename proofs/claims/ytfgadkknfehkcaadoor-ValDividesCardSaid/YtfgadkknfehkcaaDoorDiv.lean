/- The walks of Num, InNum, number, div, mod and of ValDivides. -/
import Derived.Test.YtfgadkknfehkcaaDoorKnown
import Derived.Test.YtfgadkknfehkcaaDoorDoOp3
import Derived.Test.YtfgadkknfehkcaaDoorDoOp4
namespace Go.Proofs.YtfgadkknfehkcaaDoor
open Go.RowKit
set_option linter.unusedVariables false

theorem Num_any (n : Int) (w : World) :
    Calls Tryd.prog 28 #[.int .i64 n] w fun e w' => e = .returned (vv 2 n nos) ∧ Below w.heap.size w w' ∧ w.heap.size < w'.heap.size := by
  go_enter Tryd.func28, Tryd.ntmps28
  go_wp2
  exact bodyPost_ret (v := vv 2 n nos) (by simp [results, Tryd.results28, go_sem]) rfl ⟨rfl, (Below.refl _ _).alloc (Nat.le_refl _) _, by simp⟩
theorem InNum_any (n : Int) (w : World) :
    Calls Tryd.prog 29 #[.int .i64 n] w fun e w' => e = .returned (.bool (inB n)) ∧ w = w' := by
  by_cases a : -1000000000000000 ≤ n
  · by_cases b : n ≤ 1000000000000000
    · have hv : inB n = true := by simp [inB]; omega
      rw [hv]; clear hv
      go_enter Tryd.func29, Tryd.ntmps29
      go_wp2
      go_ret
      exact ⟨rfl, rfl⟩
    · have hv : inB n = false := by simp [inB]; omega
      rw [hv]; clear hv
      go_enter Tryd.func29, Tryd.ntmps29
      go_wp2
      go_ret
      exact ⟨rfl, rfl⟩
  · have hv : inB n = false := by simp [inB]; omega
    rw [hv]; clear hv
    go_enter Tryd.func29, Tryd.ntmps29
    go_wp2
    go_ret
    exact ⟨rfl, rfl⟩
set_option maxHeartbeats 400000 in
theorem number_yes (n : Int) (w : World) (h : inB n = true) :
    Calls Tryd.prog 112 #[.int .i64 n] w fun e w' => e = .returned (.tuple #[vv 2 n nos, .int .i64 0]) ∧ Below w.heap.size w w' ∧ w.heap.size < w'.heap.size := by
  go_enter Tryd.func112, Tryd.ntmps112
  go_wp2_with fail
  refine (inRange_any n _).mono ?_
  rintro e w' ⟨rfl, rfl⟩
  go_wp2
  exact bodyPost_ret (v := .tuple #[vv 2 n nos, .int .i64 0]) (by simp [results, Tryd.results112, go_sem]) rfl ⟨rfl, (Below.refl _ _).alloc (Nat.le_refl _) _, by simp⟩
set_option maxHeartbeats 400000 in
theorem number_no (n : Int) (w : World) (h : inB n = false) :
    Calls Tryd.prog 112 #[.int .i64 n] w fun e w' => e = .returned (.tuple #[vv 0 0 nos, .int .i64 3]) ∧ Below w.heap.size w w' ∧ w.heap.size < w'.heap.size := by
  go_enter Tryd.func112, Tryd.ntmps112
  go_wp2_with fail
  refine (inRange_any n _).mono ?_
  rintro e w' ⟨rfl, rfl⟩
  go_wp2
  exact bodyPost_ret (v := .tuple #[vv 0 0 nos, .int .i64 3]) (by simp [results, Tryd.results112, go_sem]) rfl ⟨rfl, (Below.refl _ _).alloc (Nat.le_refl _) _, by simp⟩

set_option maxHeartbeats 1000000 in
theorem div_nums (a b : Int) (s s' : ByteArray) (w : World) (hb : (b == 0) = false) (hr : inB (a.tdiv b) = true) (ha : IntKind.i64.wrap (a.tdiv b) = a.tdiv b) :
    Calls Tryd.prog 75 #[vv 2 a s, vv 2 b s'] w fun e w' => e = .returned (.tuple #[vv 2 (a.tdiv b) nos, .int .i64 0]) ∧ Below w.heap.size w w' ∧ w.heap.size < w'.heap.size := by
  have HR := Lib.hid hr; clear hr
  have hb0 : ¬ b = 0 := by simpa using hb
  go_enter Tryd.func75, Tryd.ntmps75
  go_wp2_with fail
  refine (isPair_any _ _ _ _ _ _ _ _ _).mono ?_
  rintro e w1 ⟨rfl, hb1⟩
  obtain ⟨hc1, hf1⟩ := bcell hb1
  have ha1 : w.heap.size < w1.heap.size := by have := hb1.size; simp at *; omega
  have hd1 : w.heap.size + 1 < w1.heap.size := by have := hb1.size; simp at *; omega
  have he1 : w.heap.size + 1 + 1 < w1.heap.size := by have := hb1.size; simp at *; omega
  go_wp2_with fail
  refine (number_yes _ _ HR.out).mono ?_
  rintro e w2 ⟨rfl, hb2, hz2⟩
  obtain ⟨hc2, hf2⟩ := bcell hb2
  have ha2 : w.heap.size < w2.heap.size := by omega
  have hd2 : w.heap.size + 1 < w2.heap.size := by omega
  have he2 : w.heap.size + 1 + 1 < w2.heap.size := by omega
  have hbw : Below w.heap.size w w2 := by
    refine (((((Below.refl _ _).alloc (Nat.le_refl _) _).alloc (by simp) _).alloc (by simp; omega) _).trans (hb1.mono (by simp; omega))).trans (hb2.mono (by omega))
  have q0 : w2.cell? ⟨w.heap.size + 1 + 1, 0, none⟩ = some (.int .i64 0) := by rw [hc2 _ _ (by omega)]; go_simp
  have q1 : w2.cell? ⟨w.heap.size + 1 + 1, 1, none⟩ = some (.int .i64 0) := by rw [hc2 _ _ (by omega)]; go_simp
  have q2 : w2.cell? ⟨w.heap.size + 1 + 1, 2, none⟩ = some (.string nos) := by rw [hc2 _ _ (by omega)]; go_simp
  go_wp2_with fail
  refine bodyPost_ret (v := .tuple #[vv 2 (a.tdiv b) nos, .int .i64 0]) (by simp [results, Tryd.results75, go_sem, q0, q1, q2, ha2, hd2, he2]) rfl ⟨rfl, ?_, ?_⟩
  · exact ((hbw.setCell (by simp; omega) _).setCell (by simp; omega) _).setCell (by simp; omega) _
  · simp; omega
set_option maxHeartbeats 1000000 in
theorem mod_nums (a b : Int) (s s' : ByteArray) (w : World) (hb : (b == 0) = false) (hr : inB (a.tmod b) = true) (ha : IntKind.i64.wrap (a.tmod b) = a.tmod b) :
    Calls Tryd.prog 76 #[vv 2 a s, vv 2 b s'] w fun e w' => e = .returned (.tuple #[vv 2 (a.tmod b) nos, .int .i64 0]) ∧ Below w.heap.size w w' ∧ w.heap.size < w'.heap.size := by
  have HR := Lib.hid hr; clear hr
  have hb0 : ¬ b = 0 := by simpa using hb
  go_enter Tryd.func76, Tryd.ntmps76
  go_wp2_with fail
  refine (isPair_any _ _ _ _ _ _ _ _ _).mono ?_
  rintro e w1 ⟨rfl, hb1⟩
  obtain ⟨hc1, hf1⟩ := bcell hb1
  have ha1 : w.heap.size < w1.heap.size := by have := hb1.size; simp at *; omega
  have hd1 : w.heap.size + 1 < w1.heap.size := by have := hb1.size; simp at *; omega
  have he1 : w.heap.size + 1 + 1 < w1.heap.size := by have := hb1.size; simp at *; omega
  go_wp2_with fail
  refine (number_yes _ _ HR.out).mono ?_
  rintro e w2 ⟨rfl, hb2, hz2⟩
  obtain ⟨hc2, hf2⟩ := bcell hb2
  have ha2 : w.heap.size < w2.heap.size := by omega
  have hd2 : w.heap.size + 1 < w2.heap.size := by omega
  have he2 : w.heap.size + 1 + 1 < w2.heap.size := by omega
  have hbw : Below w.heap.size w w2 := by
    refine (((((Below.refl _ _).alloc (Nat.le_refl _) _).alloc (by simp) _).alloc (by simp; omega) _).trans (hb1.mono (by simp; omega))).trans (hb2.mono (by omega))
  have q0 : w2.cell? ⟨w.heap.size + 1 + 1, 0, none⟩ = some (.int .i64 0) := by rw [hc2 _ _ (by omega)]; go_simp
  have q1 : w2.cell? ⟨w.heap.size + 1 + 1, 1, none⟩ = some (.int .i64 0) := by rw [hc2 _ _ (by omega)]; go_simp
  have q2 : w2.cell? ⟨w.heap.size + 1 + 1, 2, none⟩ = some (.string nos) := by rw [hc2 _ _ (by omega)]; go_simp
  go_wp2_with fail
  refine bodyPost_ret (v := .tuple #[vv 2 (a.tmod b) nos, .int .i64 0]) (by simp [results, Tryd.results76, go_sem, q0, q1, q2, ha2, hd2, he2]) rfl ⟨rfl, ?_, ?_⟩
  · exact ((hbw.setCell (by simp; omega) _).setCell (by simp; omega) _).setCell (by simp; omega) _
  · simp; omega
set_option maxHeartbeats 1000000 in
theorem div_zero (a : Int) (s s' : ByteArray) (w : World) :
    Calls Tryd.prog 75 #[vv 2 a s, vv 2 0 s'] w fun e w' => e = .returned (.tuple #[vv 0 0 nos, .int .i64 2]) ∧ Below w.heap.size w w' ∧ w.heap.size < w'.heap.size := by
  go_enter Tryd.func75, Tryd.ntmps75
  go_wp2_with fail
  refine (isPair_any _ _ _ _ _ _ _ _ _).mono ?_
  rintro e w1 ⟨rfl, hb1⟩
  obtain ⟨hc1, hf1⟩ := bcell hb1
  have ha1 : w.heap.size < w1.heap.size := by have := hb1.size; simp at *; omega
  have hd1 : w.heap.size + 1 < w1.heap.size := by have := hb1.size; simp at *; omega
  have he1 : w.heap.size + 1 + 1 < w1.heap.size := by have := hb1.size; simp at *; omega
  have q0 : w1.cell? ⟨w.heap.size + 1 + 1, 0, none⟩ = some (.int .i64 0) := by rw [hc1 _ _ (by simp)]; go_simp
  have q1 : w1.cell? ⟨w.heap.size + 1 + 1, 1, none⟩ = some (.int .i64 0) := by rw [hc1 _ _ (by simp)]; go_simp
  have q2 : w1.cell? ⟨w.heap.size + 1 + 1, 2, none⟩ = some (.string nos) := by rw [hc1 _ _ (by simp)]; go_simp
  have hbw : Below w.heap.size w w1 := by
    refine ((((Below.refl _ _).alloc (Nat.le_refl _) _).alloc (by simp) _).alloc (by simp; omega) _).trans (hb1.mono (by simp; omega))
  go_wp2_with fail
  refine bodyPost_ret (v := .tuple #[vv 0 0 nos, .int .i64 2]) (by simp [results, Tryd.results75, go_sem, q0, q1, q2, ha1, hd1, he1]) rfl ⟨rfl, ?_, ?_⟩
  · exact ((hbw.setCell (by simp; omega) _).setCell (by simp; omega) _).setCell (by simp; omega) _
  · simp; omega
set_option maxHeartbeats 1000000 in
theorem mod_zero (a : Int) (s s' : ByteArray) (w : World) :
    Calls Tryd.prog 76 #[vv 2 a s, vv 2 0 s'] w fun e w' => e = .returned (.tuple #[vv 0 0 nos, .int .i64 2]) ∧ Below w.heap.size w w' ∧ w.heap.size < w'.heap.size := by
  go_enter Tryd.func76, Tryd.ntmps76
  go_wp2_with fail
  refine (isPair_any _ _ _ _ _ _ _ _ _).mono ?_
  rintro e w1 ⟨rfl, hb1⟩
  obtain ⟨hc1, hf1⟩ := bcell hb1
  have ha1 : w.heap.size < w1.heap.size := by have := hb1.size; simp at *; omega
  have hd1 : w.heap.size + 1 < w1.heap.size := by have := hb1.size; simp at *; omega
  have he1 : w.heap.size + 1 + 1 < w1.heap.size := by have := hb1.size; simp at *; omega
  have q0 : w1.cell? ⟨w.heap.size + 1 + 1, 0, none⟩ = some (.int .i64 0) := by rw [hc1 _ _ (by simp)]; go_simp
  have q1 : w1.cell? ⟨w.heap.size + 1 + 1, 1, none⟩ = some (.int .i64 0) := by rw [hc1 _ _ (by simp)]; go_simp
  have q2 : w1.cell? ⟨w.heap.size + 1 + 1, 2, none⟩ = some (.string nos) := by rw [hc1 _ _ (by simp)]; go_simp
  have hbw : Below w.heap.size w w1 := by
    refine ((((Below.refl _ _).alloc (Nat.le_refl _) _).alloc (by simp) _).alloc (by simp; omega) _).trans (hb1.mono (by simp; omega))
  go_wp2_with fail
  refine bodyPost_ret (v := .tuple #[vv 0 0 nos, .int .i64 2]) (by simp [results, Tryd.results76, go_sem, q0, q1, q2, ha1, hd1, he1]) rfl ⟨rfl, ?_, ?_⟩
  · exact ((hbw.setCell (by simp; omega) _).setCell (by simp; omega) _).setCell (by simp; omega) _
  · simp; omega
end Go.Proofs.YtfgadkknfehkcaaDoor
