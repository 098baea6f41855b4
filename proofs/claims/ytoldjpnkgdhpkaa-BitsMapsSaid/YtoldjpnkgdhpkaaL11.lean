/- The walk of BitsShifts. -/
import Derived.Test.YtoldjpnkgdhpkaaR6
import Derived.Test.YtoldjpnkgdhpkaaKn
namespace Go.Proofs.Ytoldjpnkgdhpkaa
open Go.RowKit
set_option linter.unusedVariables false
set_option linter.unusedSimpArgs false

/-- A list of the call's own, with an error's number. -/
def LRes (w : World) (l : List Int) (n : Int) (e : Ending) (w' : World) : Prop :=
  ∃ (A : Option Addr) (c : Nat), e = .returned (.tuple #[.slice A l.length c, .int .i64 n]) ∧ Own w' w.heap.size 3 .i64 (.slice A l.length c) l ∧ Below w.heap.size w w'
theorem LRes.err {w w' : World} {e : Ending} (he : e = .returned (.tuple #[.slice none 0 0, .int .i64 1])) (hb : Below w.heap.size w w') : LRes w [] 1 e w' := ⟨none, 0, he, Own.nil _ _ _ _, hb⟩
theorem LRes.ok {w w' : World} {e : Ending} {v : Value} {l : List Int} {n : Int} (he : e = .returned (.tuple #[v, .int .i64 n])) (ho : Own w' w.heap.size 3 .i64 v l) (hb : Below w.heap.size w w') : LRes w l n e w' := by
  obtain ⟨A, c, rfl, _⟩ := ho.out
  exact ⟨A, c, he, ho, hb⟩

def shiftB (xs ys : List Int) : Bool := isSetB 300 xs && isSetB 300 ys
def shiftRL (xs ys : List Int) : List Int := if shiftB xs ys then shiftL xs ys else []
def shiftRN (xs ys : List Int) : Int := if shiftB xs ys then 0 else 1
theorem shift_any (A A2 : Option Addr) (c c2 : Nat) (xs ys : List Int) (w : World) (h1 : Lk w w.heap.size A xs c) (h2 : Lk w w.heap.size A2 ys c2) :
    Calls Try.prog 45 #[.slice A xs.length c, .slice A2 ys.length c2] w (LRes w (shiftRL xs ys) (shiftRN xs ys)) := by
  by_cases h : shiftB xs ys = true
  · have h' : isSetB 300 xs = true ∧ isSetB 300 ys = true := by simpa [shiftB] using h
    rw [shiftRL, shiftRN, if_pos h, if_pos h]
    exact (shift_ok A A2 c c2 xs ys w h1 h2 h'.1 h'.2).mono fun e w' ⟨v, he, ho, hb⟩ => .ok he ho hb
  · have h' : isSetB 300 xs = false ∨ isSetB 300 ys = false := by
      cases hx : isSetB 300 xs <;> simp [shiftB, hx] at h ⊢; exact h
    rw [shiftRL, shiftRN, if_neg h, if_neg h]
    exact (shift_err A A2 c c2 xs ys w h1 h2 h').mono fun e w' ⟨he, hw⟩ => .err he (hw ▸ Below.refl _ _)
theorem refShift_any (A A2 : Option Addr) (c c2 : Nat) (xs ys : List Int) (w : World) (h1 : Lk w w.heap.size A xs c) (h2 : Lk w w.heap.size A2 ys c2) :
    Calls Try.prog 46 #[.slice A xs.length c, .slice A2 ys.length c2] w (LRes w (shiftRL xs ys) (shiftRN xs ys)) := by
  by_cases h : shiftB xs ys = true
  · have h' : isSetB 300 xs = true ∧ isSetB 300 ys = true := by simpa [shiftB] using h
    rw [shiftRL, shiftRN, if_pos h, if_pos h]
    exact (refShift_ok A A2 c c2 xs ys w h1 h2 h'.1 h'.2).mono fun e w' ⟨v, he, ho, hb⟩ => .ok he ho hb
  · have h' : isSetB 300 xs = false ∨ isSetB 300 ys = false := by
      cases hx : isSetB 300 xs <;> simp [shiftB, hx] at h ⊢; exact h
    rw [shiftRL, shiftRN, if_neg h, if_neg h]
    exact (refShift_err A A2 c c2 xs ys w h1 h2 h').mono fun e w' ⟨he, hw⟩ => .err he (Dr.below (Below.refl _ _) hw)
theorem shiftRL_len (xs ys : List Int) : (shiftRL xs ys).length ≤ xs.length := by
  unfold shiftRL; split
  · exact shift_len _ _
  · simp

/-- What a list that came in must be. -/
structure In (w : World) (A : Option Addr) (zs : List Int) (c : Nat) : Prop where
  rd : Rd w w.heap.size .i64 A zs
  len : zs.length ≤ 9223372036854775807
  cap : zs.length ≤ c
  max : c ≤ 9223372036854775807
  i64 : Is64 zs
theorem In.lk {w : World} {A : Option Addr} {zs : List Int} {c : Nat} (h : In w A zs c) (hl : zs.length ≤ 3000) : Lk w w.heap.size A zs c := ⟨h.rd, hl, h.cap, h.max, h.i64⟩

set_option maxHeartbeats 2000000 in
theorem bitsShifts_any (A A2 : Option Addr) (c c2 : Nat) (xs ys : List Int) (w : World) (h1 : In w A xs c) (h2 : In w A2 ys c2) :
    Calls Try.prog 11 #[.slice A xs.length c, .slice A2 ys.length c2] w fun e w' => e = .returned (.bool true) ∧ Below w.heap.size w w' := by
  have l1 := h1.len
  have l2 := h2.len
  by_cases ha : 3000 < xs.length
  · go_enter Try.func11, Try.ntmps11
    go_wp2_with fail
    refine (known_any _).mono ?_
    rintro e w1 ⟨rfl, hb⟩
    go_wp2_with fail
    go_ret
    exact ⟨rfl, hb⟩
  · by_cases hb : 3000 < ys.length
    · go_enter Try.func11, Try.ntmps11
      go_wp2_with fail
      refine (known_any _).mono ?_
      rintro e w1 ⟨rfl, hb⟩
      go_wp2_with fail
      go_ret
      exact ⟨rfl, hb⟩
    · have hrl : (shiftRL xs ys).length ≤ 3000 := Nat.le_trans (shiftRL_len _ _) (by omega)
      have k1 := h1.lk (by omega)
      have k2 := h2.lk (by omega)
      have c1 := shift_any A A2 c c2 xs ys w k1 k2
      have c2' : ∀ W, Below w.heap.size w W → w.heap.size ≤ W.heap.size → Calls Try.prog 46 #[.slice A xs.length c, .slice A2 ys.length c2] W (LRes W (shiftRL xs ys) (shiftRN xs ys)) := fun W hw hz =>
        refShift_any A A2 c c2 xs ys W ((k1.below hw).more hz) ((k2.below hw).more hz)
      generalize shiftRL xs ys = l at *
      generalize shiftRN xs ys = n at *
      have C1 := Lib.hid c1; clear c1
      have C2 := Lib.hid c2'; clear c2' k1 k2 h1 h2
      go_enter Try.func11, Try.ntmps11
      go_wp2_with fail
      refine C1.out.mono ?_
      rintro e w1 ⟨D1, d1, rfl, ho1, hb1⟩
      have HO1 := Lib.hid ho1; clear ho1
      have HB1 := Lib.hid hb1; clear hb1
      go_wp2_with fail
      refine (C2.out _ HB1.out HB1.out.size).mono ?_
      rintro e w2 ⟨D2, d2, rfl, ho2, hb2⟩
      obtain ⟨_, _, e1, _, _, hr1⟩ := HO1.out.out
      obtain ⟨_, _, e2, _, _, hr2⟩ := ho2.out
      have r1 : Rd w2 w1.heap.size .i64 D1 l := by injection e1 with e1; subst e1; exact hr1.below hb2
      have r2 : Rd w2 w2.heap.size .i64 D2 l := by injection e2 with e2; subst e2; exact hr2
      have R1 := Lib.hid r1; clear r1 e1 hr1
      have R2 := Lib.hid r2; clear r2 e2 hr2
      have HO2 := Lib.hid ho2; clear ho2
      have HB2 := Lib.hid hb2; clear hb2
      go_wp2_with fail
      refine (sameInts_any D1 D2 d1 d2 l l _ _ _ R1.out R2.out (by omega) (by omega)).mono ?_
      rintro e w3 ⟨rfl, hd3⟩
      have HD3 := Lib.hid hd3; clear hd3
      have ht : decide (l = l) = true := by simp
      rw [ht]
      clear ht
      go_wp2_with fail
      refine (known_any _).mono ?_
      rintro e w4 ⟨rfl, hb4⟩
      have HB4 := Lib.hid hb4; clear hb4
      go_wp2_with fail
      go_ret
      have hb3 := Dr.below (HB1.out.trans (HB2.out.mono HB1.out.size)) HD3.out
      exact ⟨rfl, hb3.trans (HB4.out.mono hb3.size)⟩
end Go.Proofs.Ytoldjpnkgdhpkaa
