/- known and over of the statements. -/
import Derived.Test.YtgeikbcfjidgcaaDoorPgS
namespace Go.Proofs.YtgeikbcfjidgcaaDoor
open Go.RowKit
set_option linter.unusedVariables false
set_option linter.unusedSimpArgs false

set_option maxHeartbeats 1000000 in
theorem Sound_any (s : ByteArray) (w : World) (ht : Tabs w) (hs : s.size ≤ maxLen) :
    Calls Tryd.prog 36 #[.string s] w (TRes w (sndT s) (wrongN 0 0 [s])) := by
  cases hz : decide (wrongN 0 0 [s] = 0)
  · have HT := Lib.hid ht; clear ht
    have hz : ¬ wrongN 0 0 [s] = 0 := by simpa using hz
    have e1 : sndT s = ⟨#[]⟩ := by simp [sndT, hz]
    rw [e1]
    have hcon := Lib.hid (wrong_any 0 0 [s])
    simp only [List.length_singleton] at hcon
    generalize wrongN 0 0 [s] = n at *
    have dn : (n != 0) = true := by simpa using hz
    clear hz e1
    go_enter Tryd.func36, Tryd.ntmps36
    go_wp2_with fail
    refine (hcon.out ⟨w.heap.size, 0, none⟩ 1 _ (by simp) (by simpa using hs) (text_cell w s _ rfl)).mono ?_
    rintro e w1 ⟨rfl, rfl⟩
    go_wp2_with fail
    go_ret2
    exact ⟨rfl, (Below.refl _ _).alloc (Nat.le_refl _) _⟩
  · have hz : wrongN 0 0 [s] = 0 := by simpa using hz
    exact Sound_ok s w ht ((wrong_zero hz).2.2.2 s (by simp)) hz

theorem kn1 : upT ⟨#[228]⟩ 1 = ⟨#[196]⟩ ∧ wrongN 1 0 [⟨#[228]⟩] = 0 := by decide +kernel
theorem kn2 : upT ⟨#[228]⟩ 2 = ⟨#[148]⟩ ∧ wrongN 2 0 [⟨#[228]⟩] = 0 := by decide +kernel
theorem kn3 : weiT ⟨#[233]⟩ 1 1 = ⟨#[69]⟩ ∧ wrongN 1 1 [⟨#[233]⟩] = 0 := by decide +kernel
theorem kn4 : sndT ⟨#[84, 121, 109, 99, 122, 97, 107]⟩ = ⟨#[84, 53, 50, 50]⟩ ∧ wrongN 0 0 [⟨#[84, 121, 109, 99, 122, 97, 107]⟩] = 0 := by decide +kernel

set_option maxHeartbeats 2000000 in
theorem known_any (w : World) (ht : Tabs w) : Calls Tryd.prog 13 #[] w fun e w' => e = .returned (.bool true) ∧ Below w.heap.size w w' := by
  have HT := Lib.hid ht; clear ht
  have C1 := Lib.hid (fun W h => Upper_any ⟨#[228]⟩ 1 W h (by decide))
  have C2 := Lib.hid (fun W h => Upper_any ⟨#[228]⟩ 2 W h (by decide))
  have C3 := Lib.hid (fun W h => Weights_any ⟨#[233]⟩ 1 1 W h (by decide))
  have C4 := Lib.hid (fun W h => Sound_any ⟨#[84, 121, 109, 99, 122, 97, 107]⟩ W h (by decide))
  rw [kn1.1, kn1.2] at C1
  rw [kn2.1, kn2.2] at C2
  rw [kn3.1, kn3.2] at C3
  rw [kn4.1, kn4.2] at C4
  go_enter Tryd.func13, Tryd.ntmps13
  go_wp2_with fail
  refine (C1.out _ HT.out).mono ?_
  rintro e w1 ⟨rfl, hb1⟩
  have HB1 := Lib.hid hb1; clear hb1
  have HT1 := Lib.hid (HT.out.below HB1.out (Nat.le_refl _))
  go_wp2_with fail
  refine (C2.out _ HT1.out).mono ?_
  rintro e w2 ⟨rfl, hb2⟩
  have HT2 := Lib.hid (HT1.out.below hb2 (Nat.le_refl _))
  have HB2 := Lib.hid (HB1.out.trans (hb2.mono HB1.out.size)); clear hb2
  go_wp2_with fail
  refine (C3.out _ HT2.out).mono ?_
  rintro e w3 ⟨rfl, hb3⟩
  have HT3 := Lib.hid (HT2.out.below hb3 (Nat.le_refl _))
  have HB3 := Lib.hid (HB2.out.trans (hb3.mono HB2.out.size)); clear hb3
  go_wp2_with fail
  refine (C4.out _ HT3.out).mono ?_
  rintro e w4 ⟨rfl, hb4⟩
  have HB4 := Lib.hid (HB3.out.trans (hb4.mono HB3.out.size)); clear hb4
  go_wp2_with fail
  go_ret
  exact ⟨rfl, HB4.out⟩

set_option maxHeartbeats 1000000 in
theorem over_any (s : ByteArray) (hs : s.size ≤ maxLen) (w : World) : Calls Tryd.prog 12 #[.string s] w fun e w' => e = .returned (.bool (decide (16384 < s.size))) ∧ w = w' := by
  unfold maxLen at hs
  by_cases h : 16384 < s.size
  · have e1 : decide (16384 < s.size) = true := by simpa using h
    have i1 : (16384 : Int) < s.size := by omega
    rw [e1]; clear e1 h
    go_enter Tryd.func12, Tryd.ntmps12
    go_wp2
    go_ret
    exact ⟨rfl, rfl⟩
  · have e1 : decide (16384 < s.size) = false := by simpa using h
    have i1 : ¬ (16384 : Int) < s.size := by omega
    rw [e1]; clear e1 h
    go_enter Tryd.func12, Tryd.ntmps12
    go_wp2
    go_ret
    exact ⟨rfl, rfl⟩
end Go.Proofs.YtgeikbcfjidgcaaDoor
