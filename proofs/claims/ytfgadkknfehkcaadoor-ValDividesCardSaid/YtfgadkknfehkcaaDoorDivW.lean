/- The walk of ValDivides. -/
import Derived.Test.YtfgadkknfehkcaaDoorDiv
import Derived.Test.YtfgadkknfehkcaaDoorDivM
import Derived.Test.YtfgadkknfehkcaaDoorDoErr
namespace Go.Proofs.YtfgadkknfehkcaaDoor
open Go.RowKit
set_option linter.unusedVariables false

theorem vE_num (n : Int) : vE 2 n nos = if inB n = true then 0 else 1 := by
  unfold vE isV; rw [if_neg (by decide)]; simp [nos]
set_option maxHeartbeats 1000000 in
theorem divides_out (a b : Int) (w : World) (ht : Tab w) (h : (inB a && inB b) = false) :
    Calls Tryd.prog 8 #[.int .i64 a, .int .i64 b] w fun e w' => e = .returned (.bool true) ∧ Below w.heap.size w w' := by
  have hp := ht.pos
  have HT := Lib.hid ht; clear ht
  have hv : (if vE 2 a nos = 0 then vE 2 b nos else vE 2 a nos) = 1 := by
    rw [vE_num, vE_num]
    cases h1 : inB a <;> cases h2 : inB b <;> simp_all
  have HV := Lib.hid hv; clear hv
  go_enter Tryd.func8, Tryd.ntmps8
  go_wp2_with fail
  refine (Num_any _ _).mono ?_
  rintro e w1 ⟨rfl, hb1, hz1⟩
  go_wp2_with fail
  refine (Num_any _ _).mono ?_
  rintro e w2 ⟨rfl, hb2, hz2⟩
  go_wp2_with fail
  refine (do_err 3 2 a nos 2 b nos 1 _ (by decide) (by decide) HV.out rfl).mono ?_
  rintro e w3 ⟨rfl, hb3, hz3⟩
  have hbA : Below w.heap.size w w3 := (hb1.trans (hb2.mono (by omega))).trans (hb3.mono (by omega))
  go_wp2_with fail
  refine (Num_any _ _).mono ?_
  rintro e w4 ⟨rfl, hb4, hz4⟩
  go_wp2_with fail
  refine (Num_any _ _).mono ?_
  rintro e w5 ⟨rfl, hb5, hz5⟩
  go_wp2_with fail
  refine (do_err 4 2 a nos 2 b nos 1 _ (by decide) (by decide) HV.out rfl).mono ?_
  rintro e w6 ⟨rfl, hb6, hz6⟩
  simp at hz4
  have hbB : Below w.heap.size w w6 := (((hbA.alloc (by omega) _).trans (hb4.mono (by simp; omega))).trans (hb5.mono (by omega))).trans (hb6.mono (by omega))
  go_wp2_with fail
  refine (InNum_any _ _).mono ?_
  rintro e w' ⟨rfl, rfl⟩
  have htk : Tab (w6.alloc (.cells #[.int .i64 0, .int .i64 0, .string nos] 23)) := (HT.out.below hbB hp).below ((Below.refl _ _).alloc (Nat.le_refl _) _) (by omega)
  cases h1 : inB a
  · go_wp2_with fail
    refine (known_any _ htk).mono ?_
    rintro e w7 ⟨rfl, hb7⟩
    go_wp2_with fail
    go_ret
    exact ⟨rfl, (hbB.alloc (by omega) _).trans (hb7.mono (by simp; omega))⟩
  · have h2 : inB b = false := by simpa [h1] using h
    go_wp2_with fail
    refine (InNum_any _ _).mono ?_
    rintro e w' ⟨rfl, rfl⟩
    rw [h2]
    go_wp2_with fail
    refine (known_any _ htk).mono ?_
    rintro e w7 ⟨rfl, hb7⟩
    go_wp2_with fail
    go_ret
    exact ⟨rfl, (hbB.alloc (by omega) _).trans (hb7.mono (by simp; omega))⟩

set_option maxHeartbeats 2000000 in
theorem divides_zero (a : Int) (w : World) (ht : Tab w) (h1 : inB a = true) :
    Calls Tryd.prog 8 #[.int .i64 a, .int .i64 0] w fun e w' => e = .returned (.bool true) ∧ Below w.heap.size w w' := by
  have hp := ht.pos
  have HT := Lib.hid ht; clear ht
  have hv : (if vE 2 a nos = 0 then vE 2 0 nos else vE 2 a nos) = 0 := by
    rw [vE_num, vE_num, h1]; decide
  have HV := Lib.hid hv; clear hv
  go_enter Tryd.func8, Tryd.ntmps8
  go_wp2_with fail
  refine (Num_any _ _).mono ?_
  rintro e w1 ⟨rfl, hb1, hz1⟩
  go_wp2_with fail
  refine (Num_any _ _).mono ?_
  rintro e w2 ⟨rfl, hb2, hz2⟩
  go_wp2_with fail
  refine (do_op3 2 a nos 2 0 nos 0 0 nos 2 _ (by decide) (by decide) HV.out rfl rfl (fun w => div_zero a nos nos w)).mono ?_
  rintro e w3 ⟨rfl, hb3, hz3⟩
  have hbA : Below w.heap.size w w3 := (hb1.trans (hb2.mono (by omega))).trans (hb3.mono (by omega))
  go_wp2_with fail
  refine (Num_any _ _).mono ?_
  rintro e w4 ⟨rfl, hb4, hz4⟩
  go_wp2_with fail
  refine (Num_any _ _).mono ?_
  rintro e w5 ⟨rfl, hb5, hz5⟩
  go_wp2_with fail
  refine (do_op4 2 a nos 2 0 nos 0 0 nos 2 _ (by decide) (by decide) HV.out rfl rfl (fun w => mod_zero a nos nos w)).mono ?_
  rintro e w6 ⟨rfl, hb6, hz6⟩
  simp at hz4
  have hbB : Below w.heap.size w w6 := (((hbA.alloc (by omega) _).trans (hb4.mono (by simp; omega))).trans (hb5.mono (by omega))).trans (hb6.mono (by omega))
  go_wp2_with fail
  refine (InNum_any _ _).mono ?_
  rintro e w' ⟨rfl, rfl⟩
  have htk : Tab (w6.alloc (.cells #[.int .i64 0, .int .i64 0, .string nos] 23)) := (HT.out.below hbB hp).below ((Below.refl _ _).alloc (Nat.le_refl _) _) (by omega)
  rw [h1]
  go_wp2_with fail
  refine (InNum_any _ _).mono ?_
  rintro e w' ⟨rfl, rfl⟩
  rw [show inB 0 = true from by decide]
  go_wp2_with fail
  refine (known_any _ htk).mono ?_
  rintro e w7 ⟨rfl, hb7⟩
  go_wp2_with fail
  go_ret
  exact ⟨rfl, (hbB.alloc (by omega) _).trans (hb7.mono (by simp; omega))⟩

set_option maxHeartbeats 2000000 in
theorem divides_yes (a b : Int) (w : World) (ht : Tab w) (h1 : inB a = true) (h2 : inB b = true) (hz : (b == 0) = false) :
    Calls Tryd.prog 8 #[.int .i64 a, .int .i64 b] w fun e w' => e = .returned (.bool true) ∧ Below w.heap.size w w' := by
  have hp := ht.pos
  have HT := Lib.hid ht; clear ht
  have hv : (if vE 2 a nos = 0 then vE 2 b nos else vE 2 a nos) = 0 := by
    rw [vE_num, vE_num, h1, h2]; decide
  have HV := Lib.hid hv; clear hv
  have hb0 : b ≠ 0 := by simpa using hz
  obtain ⟨m1, m2, m3, m4, m5, m6⟩ := div_abs a b hb0
  have b1 := (inB_iff a).1 h1
  have b2 := (inB_iff b).1 h2
  have hq : ∀ w, Calls Tryd.prog 75 #[vv 2 a nos, vv 2 b nos] w fun e w' => e = .returned (.tuple #[vv 2 (a.tdiv b) nos, .int .i64 0]) ∧ Below w.heap.size w w' ∧ w.heap.size < w'.heap.size :=
    fun w => div_nums a b nos nos w hz ((inB_iff _).2 (by omega)) (IntWalk.i64_in _ (by omega))
  have hr : ∀ w, Calls Tryd.prog 76 #[vv 2 a nos, vv 2 b nos] w fun e w' => e = .returned (.tuple #[vv 2 (a.tmod b) nos, .int .i64 0]) ∧ Below w.heap.size w w' ∧ w.heap.size < w'.heap.size :=
    fun w => mod_nums a b nos nos w hz ((inB_iff _).2 (by omega)) (IntWalk.i64_in _ (by omega))
  have HQ := Lib.hid hq; clear hq
  have HR := Lib.hid hr; clear hr
  generalize a.tdiv b = q at *
  generalize a.tmod b = r at *
  have s1 : IntKind.i64.wrap (IntKind.i64.wrap (b * q) + r) = a := by
    rw [IntWalk.i64_in (b * q) (by omega), m1]; exact IntWalk.i64_in _ (by omega)
  have s2 : IntKind.i64.wrap (-r) = -r := IntWalk.i64_in _ (by omega)
  have s3 : IntKind.i64.wrap (-b) = -b := IntWalk.i64_in _ (by omega)
  have M1 := Lib.hid m1; clear m1
  go_enter Tryd.func8, Tryd.ntmps8
  go_wp2_with fail
  refine (Num_any _ _).mono ?_
  rintro e w1 ⟨rfl, hb1, hz1⟩
  go_wp2_with fail
  refine (Num_any _ _).mono ?_
  rintro e w2 ⟨rfl, hb2, hz2⟩
  go_wp2_with fail
  refine (do_op3 2 a nos 2 b nos 2 q nos 0 _ (by decide) (by decide) HV.out rfl rfl HQ.out).mono ?_
  rintro e w3 ⟨rfl, hb3, hz3⟩
  have hbA : Below w.heap.size w w3 := (hb1.trans (hb2.mono (by omega))).trans (hb3.mono (by omega))
  go_wp2_with fail
  refine (Num_any _ _).mono ?_
  rintro e w4 ⟨rfl, hb4, hz4⟩
  go_wp2_with fail
  refine (Num_any _ _).mono ?_
  rintro e w5 ⟨rfl, hb5, hz5⟩
  go_wp2_with fail
  refine (do_op4 2 a nos 2 b nos 2 r nos 0 _ (by decide) (by decide) HV.out rfl rfl HR.out).mono ?_
  rintro e w6 ⟨rfl, hb6, hz6⟩
  simp at hz4
  have hbB : Below w.heap.size w w6 := (((hbA.alloc (by omega) _).trans (hb4.mono (by simp; omega))).trans (hb5.mono (by omega))).trans (hb6.mono (by omega))
  have hbC : Below (w3.heap.size + 1) (w3.alloc (.cells #[.int .i64 2, .int .i64 q, .string nos] 23)) w6 := by
    have e3 : (w3.alloc (.cells #[.int .i64 2, .int .i64 q, .string nos] 23)).heap.size = w3.heap.size + 1 := by simp
    rw [e3] at hb4
    exact (hb4.trans (hb5.mono (by omega))).trans (hb6.mono (by omega))
  have k0 : w6.cell? ⟨w3.heap.size, 0, none⟩ = some (.int .i64 2) := by rw [hbC.cell (p := ⟨w3.heap.size, 0, none⟩) (by simp)]; go_simp
  have k1 : w6.cell? ⟨w3.heap.size, 1, none⟩ = some (.int .i64 q) := by rw [hbC.cell (p := ⟨w3.heap.size, 1, none⟩) (by simp)]; go_simp
  have hlt : w3.heap.size < w6.heap.size := by omega
  clear hb1 hb2 hb3 hb4 hb5 hb6
  go_wp2_with fail
  refine (InNum_any _ _).mono ?_
  rintro e w' ⟨rfl, rfl⟩
  have htk : Tab (w6.alloc (.cells #[.int .i64 2, .int .i64 r, .string nos] 23)) := (HT.out.below hbB hp).below ((Below.refl _ _).alloc (Nat.le_refl _) _) (by omega)
  rw [h1]
  go_wp2_with fail
  refine (InNum_any _ _).mono ?_
  rintro e w' ⟨rfl, rfl⟩
  rw [h2]
  go_wp2_with fail
  all_goals
    first
      | refine (known_any _ htk).mono ?_
      | refine (known_any (w6.alloc (.cells #[.int .i64 2, .int .i64 0, .string nos] 23)) ((HT.out.below hbB hp).below ((Below.refl _ _).alloc (Nat.le_refl _) _) (by omega))).mono ?_
    rintro e w7 ⟨rfl, hb7⟩
    go_wp2_with fail
    go_ret
    exact ⟨rfl, (hbB.alloc (by omega) _).trans (hb7.mono (by simp; omega))⟩

theorem divides_any (a b : Int) (w : World) (ht : Tab w) (ha : -9223372036854775808 ≤ a ∧ a ≤ 9223372036854775807) (hb : -9223372036854775808 ≤ b ∧ b ≤ 9223372036854775807) :
    Calls Tryd.prog 8 #[.int .i64 a, .int .i64 b] w fun e w' => e = .returned (.bool true) ∧ Below w.heap.size w w' := by
  cases h1 : inB a
  · exact divides_out a b w ht (by rw [h1]; rfl)
  · cases h2 : inB b
    · exact divides_out a b w ht (by rw [h1, h2]; rfl)
    · cases hz : b == 0
      · exact divides_yes a b w ht h1 h2 hz
      · obtain rfl : b = 0 := by simpa using hz
        exact divides_zero a w ht h1
end Go.Proofs.YtfgadkknfehkcaaDoor
