/- The law of LexSames. -/
import Derived.Test.YthagfammfejenaaDoorLxB
import Derived.Test.YthagfammfejenaaDoorEvK1
namespace Go.Proofs.YthagfammfejenaaDoor
open Go.RowKit
set_option linter.unusedVariables false
set_option linter.unusedSimpArgs false
set_option maxRecDepth 40000
set_option maxHeartbeats 4000000 in
theorem over_any (A : Option Addr) (c : Nat) (a : List Tk) (w : World) (ha : TkA w A a) (la : a.length ≤ 140737488355328) :
    Calls Tryd.prog 15 #[.slice A a.length c] w fun e w' => (∃ q : Bool, e = .returned (.bool q)) ∧ Below w.heap.size w w' := by
  go_enter Tryd.func15, Tryd.ntmps15
  go_wp2_with fail
  go_loopw [3, 4] (fun n i wr => ∃ k : Nat, k ≤ a.length ∧ (∃ m : Int, n = .int .i64 m) ∧ i = .int .i64 k ∧ Below w.heap.size w wr) (fun n i _ => a.length - (intOf i).toNat)
  case atStart => exact ⟨0, by omega, ⟨_, rfl⟩, rfl, Below.refl _ _⟩
  case round =>
    obtain ⟨k, hk, ⟨m, rfl⟩, rfl, hW⟩ := hrel
    have HW := Lib.hid hW; clear hW
    by_cases h1 : k < a.length
    · obtain ⟨g, o1, rfl, hA⟩ := ha (tk_ne h1)
      obtain ⟨c0, c1, c2⟩ := (hA.below HW.out hA.1).2 k h1
      obtain ⟨X, hX⟩ : ∃ X, X = a[k] := ⟨_, rfl⟩
      rw [← hX] at c0 c1 c2
      have HX := Lib.hid hX; clear hX
      obtain ⟨x0, x1, x2⟩ := X
      simp only [TkAt] at c0 c1 c2
      have i1 : (0 : Int) ≤ (k : Int) := by omega
      have i2 : (k : Int) < a.length := by omega
      go_wp2_with fail
      exact ⟨⟨k + 1, by omega, ⟨_, rfl⟩, by go_num, HW.out⟩, by simp [intOf]; omega⟩
    · have hkl : k = a.length := by omega
      clear hkl
      by_cases hm : 20000 < m
      · go_wp2_with fail
        go_ret
        exact ⟨by first | exact ⟨_, rfl⟩ | exact .inl rfl | exact .inr rfl, HW.out⟩
      · go_wp2_with fail
        go_ret
        exact ⟨by first | exact ⟨_, rfl⟩ | exact .inl rfl | exact .inr rfl, HW.out⟩

set_option maxHeartbeats 2000000 in
theorem lexSames_any (A B : Option Addr) (c d : Nat) (a b : List Tk) (w : World) (hs : Ev.NG ≤ w.heap.size) (ha : TkA w A a) (hb : TkA w B b) (la : a.length ≤ 140737488355328) (lb : b.length ≤ 140737488355328) :
    Calls Tryd.prog 8 #[.slice A a.length c, .slice B b.length d] w fun e w' => e = .returned (.bool true) ∧ Below w.heap.size w w' := by
  have HO1 := Lib.hid (fun W h => over_any A c a W h la)
  have HO2 := Lib.hid (fun W h => over_any B d b W h lb)
  have HS := Lib.hid (fun W h1 h2 => Same_any A B c d a b W h1 h2 la lb)
  have HR := Lib.hid (fun W h1 h2 => refSame_any A B c d a b W h1 h2 la lb)
  have HK := Lib.hid (fun W (h : Ev.NG ≤ W.heap.size) => Ev.known_any W h)
  have HZ := Lib.hid hs; clear hs
  go_enter Tryd.func8, Tryd.ntmps8
  go_wp2_with fail
  refine (HO1.out _ ha).mono ?_
  rintro e w1 ⟨⟨q1, rfl⟩, hb1⟩
  have HB1 := Lib.hid hb1; clear hb1
  cases q1
  · go_wp2_with fail
    refine (HO2.out _ (hb.below HB1.out)).mono ?_
    rintro e w2 ⟨⟨q2, rfl⟩, hb2⟩
    have HB2 := Lib.hid (HB1.out.trans (hb2.mono HB1.out.size)); clear hb2 HB1
    cases q2
    · go_wp2_with fail
      refine (HS.out _ (ha.below HB2.out) (hb.below HB2.out)).mono ?_
      rintro e w3 ⟨rfl, hb3⟩
      have HB3 := Lib.hid (HB2.out.trans (hb3.mono HB2.out.size)); clear hb3 HB2
      go_wp2_with fail
      refine (HR.out _ (ha.below HB3.out) (hb.below HB3.out)).mono ?_
      rintro e w4 ⟨rfl, hb4⟩
      have HB4 := Lib.hid (HB3.out.trans (hb4.mono HB3.out.size)); clear hb4 HB3
      have dq : (sameB a b == sameB a b) = true := by simp
      go_wp2_with fail
      refine (HK.out _ (Nat.le_trans HZ.out HB4.out.size)).mono ?_
      rintro e w5 ⟨rfl, hb5⟩
      have HB5 := Lib.hid (HB4.out.trans (hb5.mono HB4.out.size)); clear hb5 HB4
      go_wp2_with fail
      go_ret
      exact ⟨rfl, HB5.out⟩
    · go_wp2_with fail
      refine (HK.out _ (Nat.le_trans HZ.out HB2.out.size)).mono ?_
      rintro e w5 ⟨rfl, hb5⟩
      have HB5 := Lib.hid (HB2.out.trans (hb5.mono HB2.out.size)); clear hb5 HB2
      go_wp2_with fail
      (try rw [Exit.noGoto_ret])
      go_ret
      exact ⟨rfl, HB5.out⟩
  · go_wp2_with fail
    refine (HK.out _ (Nat.le_trans HZ.out HB1.out.size)).mono ?_
    rintro e w5 ⟨rfl, hb5⟩
    have HB5 := Lib.hid (HB1.out.trans (hb5.mono HB1.out.size)); clear hb5 HB1
    go_wp2_with fail
    (try rw [Exit.noGoto_ret])
    go_ret
    exact ⟨rfl, HB5.out⟩
theorem lexSames_law (A : Option Addr) (a : List Tk) (c : Nat) (B : Option Addr) (b : List Tk) (d : Nat) (w : World) (hs : Ev.NG ≤ w.heap.size) (ha : TkA w A a) (la : a.length ≤ 140737488355328) (hb : TkA w B b) (lb : b.length ≤ 140737488355328) :
    Calls Tryd.prog 8 #[.slice A a.length c, .slice B b.length d] w fun e w' => e = .returned (.bool true) ∧ Below w.heap.size w w' := lexSames_any A B c d a b w hs ha hb la lb
end Go.Proofs.YthagfammfejenaaDoor
