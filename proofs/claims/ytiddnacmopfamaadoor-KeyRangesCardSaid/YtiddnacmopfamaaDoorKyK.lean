/- known of the law; the walks of KeyShorts. -/
import Derived.Test.YtiddnacmopfamaaDoorKyZ
import Derived.Test.YtiddnacmopfamaaDoorKyB
import Derived.Test.YtiddnacmopfamaaDoorKyV
namespace Go.Proofs.YtiddnacmopfamaaDoor
open Go.RowKit
set_option linter.unusedVariables false
set_option linter.unusedSimpArgs false
set_option maxRecDepth 40000

theorem Text_any (s : ByteArray) (w : World) : Calls Tryd.prog 35 #[.string s] w fun e w' => e = .returned (vv 4 0 s) ∧ Below w.heap.size w w' := by
  go_enter Tryd.func35, Tryd.ntmps35
  go_wp2
  exact bodyPost_ret (v := vv 4 0 s) (by simp [results, Tryd.results35, go_sem]) rfl ⟨rfl, ((Below.refl _ _).alloc (Nat.le_refl _) _)⟩
theorem kk1 : keyT 4 0 ⟨#[97]⟩ 0 0 false = ⟨#[4, 97, 0, 0]⟩ ∧ wvE 4 0 ⟨#[97]⟩ 0 0 = 0 := by decide +kernel
theorem kk2 : oT (behO (⟨#[4, 255]⟩ : ByteArray).data.toList) = ⟨#[5]⟩ ∧ (behO (⟨#[4, 255]⟩ : ByteArray).data.toList).isSome = true := by decide +kernel
theorem kk3 : shT ⟨#[97, 98, 99]⟩ ⟨#[97, 98, 120]⟩ = ⟨#[97, 98, 100]⟩ ∧ shE ⟨#[97, 98, 99]⟩ ⟨#[97, 98, 120]⟩ = 0 := by decide +kernel

set_option maxHeartbeats 4000000 in
theorem known_any (w : World) (he : Env w) : Calls Tryd.prog 15 #[] w fun e w' => e = .returned (.bool true) ∧ Below w.heap.size w w' := by
  have HE := Lib.hid he; clear he
  have C1 := Lib.hid (fun W h => Encode_any 4 0 ⟨#[97]⟩ 0 0 false W h (by decide))
  have C2 := Lib.hid (fun W => Behind_any ⟨#[4, 255]⟩ W (by decide))
  have C3 := Lib.hid (fun W => Short_any ⟨#[97, 98, 99]⟩ ⟨#[97, 98, 120]⟩ W (by decide) (by decide))
  rw [kk1.1, kk1.2] at C1
  rw [kk2.1, kk2.2] at C2
  rw [kk3.1, kk3.2] at C3
  go_enter Tryd.func15, Tryd.ntmps15
  go_wp2_with fail
  refine (Text_any _ _).mono ?_
  rintro e w0 ⟨rfl, hb0⟩
  have HE0 := Lib.hid (HE.out.below hb0 (Nat.le_refl _))
  have HB0 := Lib.hid hb0; clear hb0
  go_wp2_with fail
  refine (C1.out _ HE0.out).mono ?_
  rintro e w1 ⟨rfl, hb1⟩
  have HB1 := Lib.hid (HB0.out.trans (hb1.mono HB0.out.size)); clear hb1
  go_wp2_with fail
  refine (C2.out _).mono ?_
  rintro e w2 ⟨rfl, hb2⟩
  have HB2 := Lib.hid (HB1.out.trans (hb2.mono HB1.out.size)); clear hb2
  go_wp2_with fail
  refine (C3.out _).mono ?_
  rintro e w3 ⟨rfl, hb3⟩
  have HB3 := Lib.hid (HB2.out.trans (hb3.mono HB2.out.size)); clear hb3
  go_wp2_with fail
  go_ret
  exact ⟨rfl, HB3.out⟩

set_option maxHeartbeats 4000000 in
theorem keyShorts_any (a b : ByteArray) (w : World) (he : Env w) (ha : a.size ≤ 140737488355328) (hb : b.size ≤ 140737488355328) :
    Calls Tryd.prog 12 #[.string a, .string b] w fun e w' => e = .returned (.bool true) ∧ Below w.heap.size w w' := by
  have HE := Lib.hid he; clear he
  have C0 := Lib.hid (fun W h => known_any W h)
  by_cases hl : 4000 < a.size + b.size
  · have i1 : 4000 < (a.size : Int) + b.size := by omega
    go_enter Tryd.func12, Tryd.ntmps12
    go_wp2_with fail
    refine (C0.out _ HE.out).mono ?_
    rintro e w3 ⟨rfl, hb3⟩
    have HB3 := Lib.hid hb3; clear hb3
    go_wp2_with fail
    go_ret
    exact ⟨rfl, HB3.out⟩
  · have i1 : ¬ 4000 < (a.size : Int) + b.size := by omega
    have C1 := Lib.hid (fun W => Short_any a b W (by omega) (by omega))
    have C2 := Lib.hid (fun W => refShort_any a b W (by omega) (by omega))
    generalize shT a b = x at *
    generalize shE a b = n at *
    go_enter Tryd.func12, Tryd.ntmps12
    go_wp2_with fail
    refine (C1.out _).mono ?_
    rintro e w1 ⟨rfl, hb1⟩
    have HE1 := Lib.hid (HE.out.below hb1 (Nat.le_refl _))
    have HB1 := Lib.hid hb1; clear hb1
    go_wp2_with fail
    refine (C2.out _).mono ?_
    rintro e w2 ⟨rfl, hb2⟩
    have HE2 := Lib.hid (HE1.out.below hb2 (Nat.le_refl _))
    have HB2 := Lib.hid (HB1.out.trans (hb2.mono HB1.out.size)); clear hb2
    go_wp2_with fail
    refine (C0.out _ HE2.out).mono ?_
    rintro e w3 ⟨rfl, hb3⟩
    have HB3 := Lib.hid (HB2.out.trans (hb3.mono HB2.out.size)); clear hb3
    go_wp2_with fail
    go_ret
    exact ⟨rfl, HB3.out⟩
end Go.Proofs.YtiddnacmopfamaaDoor
