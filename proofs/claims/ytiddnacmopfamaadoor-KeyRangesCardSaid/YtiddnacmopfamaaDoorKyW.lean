/- What is wrong with a value, a page and a collation. -/
import Derived.Test.YtiddnacmopfamaaDoorKvAll
import Derived.Test.YtiddnacmopfamaaDoorKyT
namespace Go.Proofs.YtiddnacmopfamaaDoor
open Go.RowKit
set_option linter.unusedVariables false
set_option linter.unusedSimpArgs false
set_option maxRecDepth 40000

def wpE (p c : Int) : Int := if 0 ≤ p ∧ p < 3 ∧ (c = 0 ∨ c = 1) then 0 else 1
theorem keyWrong_any (p c : Int) (w : World) : Calls Tryd.prog 74 #[.int .i64 p, .int .i64 c] w fun e w' => e = .returned (.int .i64 (wpE p c)) ∧ w = w' := by
  by_cases h1 : p < 0
  · have hv : wpE p c = 1 := by unfold wpE; rw [if_neg (by omega)]
    rw [hv]; clear hv
    go_enter Tryd.func74, Tryd.ntmps74
    go_wp2
    go_ret
    exact ⟨rfl, rfl⟩
  by_cases h2 : 2 < p
  · have hv : wpE p c = 1 := by unfold wpE; rw [if_neg (by omega)]
    rw [hv]; clear hv
    go_enter Tryd.func74, Tryd.ntmps74
    go_wp2
    go_ret
    exact ⟨rfl, rfl⟩
  by_cases h3 : c = 0
  · subst h3
    have hv : wpE p 0 = 0 := by unfold wpE; rw [if_pos (by omega)]
    rw [hv]; clear hv
    go_enter Tryd.func74, Tryd.ntmps74
    go_wp2
    go_ret
    exact ⟨rfl, rfl⟩
  by_cases h4 : c = 1
  · subst h4
    have hv : wpE p 1 = 0 := by unfold wpE; rw [if_pos (by omega)]
    rw [hv]; clear hv
    go_enter Tryd.func74, Tryd.ntmps74
    go_wp2
    go_ret
    exact ⟨rfl, rfl⟩
  · have hv : wpE p c = 1 := by unfold wpE; rw [if_neg (by omega)]
    have h3' : (c != 0) = true := by simpa using h3
    have h4' : (c != 1) = true := by simpa using h4
    rw [hv]; clear hv h3 h4
    go_enter Tryd.func74, Tryd.ntmps74
    go_wp2
    go_ret
    exact ⟨rfl, rfl⟩

def wvE (k n : Int) (s : ByteArray) (p c : Int) : Int := if vE k n s = 0 then wpE p c else vE k n s
/-- The cells of a value. -/
def VCell (w : World) (g : Nat) (k n : Int) (s : ByteArray) : Prop := w.cell? ⟨g, 0, none⟩ = some (.int .i64 k) ∧ w.cell? ⟨g, 1, none⟩ = some (.int .i64 n) ∧ w.cell? ⟨g, 2, none⟩ = some (.string s) ∧ g < w.heap.size
theorem VCell.below {w w' : World} {g B : Nat} {k n : Int} {s : ByteArray} (h : VCell w g k n s) (hb : Below B w w') (hg : g < B) : VCell w' g k n s :=
  ⟨(hb.cell (p := ⟨g, 0, none⟩) hg).trans h.1, (hb.cell (p := ⟨g, 1, none⟩) hg).trans h.2.1, (hb.cell (p := ⟨g, 2, none⟩) hg).trans h.2.2.1, by have := h.2.2.2; have := hb.size; omega⟩
theorem VCell.new (w : World) (k n : Int) (s : ByteArray) (t : TypeId) : VCell (w.alloc (.cells #[.int .i64 k, .int .i64 n, .string s] t)) w.heap.size k n s := ⟨by simp, by simp, by simp, by simp⟩
theorem VCell.drew {w : World} {g : Nat} {k n : Int} {s : ByteArray} (h : VCell w g k n s) : VCell w.drew g k n s := h

theorem tab2 (k : Nat) (hk : k < 2) (w : World) : (Instr.index 103 (.agg #[.int .i64 3, .int .i64 1]) (.int .i64 k)).run Tryd.prog w = .ok (.int .i64 (if k = 0 then 3 else 1)) w := by
  rcases (show k = 0 ∨ k = 1 by omega) with rfl | rfl <;> kernel_rfl

set_option maxHeartbeats 8000000 in
theorem wrongValues_one (k n : Int) (s : ByteArray) (p c : Int) (g : Nat) (w : World) (hs : s.size ≤ maxLen) (hv : VCell w g k n s) :
    Calls Tryd.prog 52 #[.slice (some ⟨g, 0, none⟩) 1 1, .int .i64 p, .int .i64 c] w fun e w' => e = .returned (.int .i64 (wvE k n s p c)) ∧ Below w.heap.size w w' := by
  have HV := Lib.hid hv; clear hv
  have HC := Lib.hid (fun W => validate_any k n s W hs)
  have hcs := vE_cases k n s
  have HW : Hid (wvE k n s p c = if vE k n s = 0 then wpE p c else vE k n s) := Lib.hid rfl
  generalize wvE k n s p c = r at *
  generalize vE k n s = v at *
  have HT := Lib.hid (fun k hk w => tab2 k hk w)
  go_enter Tryd.func52, Tryd.ntmps52
  go_wp2_with fail
  go_loopw [12] (fun i wr => ∃ j : Nat, j ≤ 2 ∧ i = .int .i64 j ∧ (1 ≤ j → v ≠ 3) ∧ (2 ≤ j → v ≠ 1) ∧ Below w.heap.size w wr) (fun i _ => 2 - (intOf i).toNat)
  case atStart => exact ⟨0, by omega, rfl, by omega, by omega, Below.refl _ _⟩
  case round =>
    obtain ⟨j, hj, rfl, hv3, hv1, hbel⟩ := hrel
    have HB := Lib.hid hbel; clear hbel
    obtain ⟨c0, c1, c2, _⟩ := HV.out.below HB.out HV.out.2.2.2
    by_cases hlt : j < 2
    · have hlt' : (j : Int) < 2 := by omega
      have hix := HT.out j hlt
      have hne : Hid (1 ≤ j → v ≠ 3) := Lib.hid hv3
      obtain ⟨bad, hbad⟩ : ∃ b : Int, b = (if j = 0 then 3 else 1) := ⟨_, rfl⟩
      have hix' : ∀ (w : World), (Instr.index 103 (.agg #[.int .i64 3, .int .i64 1]) (.int .i64 j)).run Tryd.prog w = .ok (.int .i64 bad) w := fun W => by rw [hbad]; exact hix W
      have HBAD := Lib.hid hbad
      clear hix hbad hv3 hv1
      go_wp2_with fail
      obtain ⟨wo, rfl⟩ : ∃ wo : World, wo = wr := ⟨_, rfl⟩
      clear c0 c1 c2 hix'
      go_loopw [17] (fun i wr => ∃ l : Nat, l ≤ 1 ∧ i = .int .i64 l ∧ (1 ≤ l → v ≠ bad) ∧ Below w.heap.size w wr) (fun i _ => 1 - (intOf i).toNat)
      case atStart => exact ⟨0, by omega, rfl, by omega, HB.out⟩
      case round =>
        obtain ⟨l, hl, rfl, hvb, hbel2⟩ := hrel
        have HB2 := Lib.hid hbel2; clear hbel2
        obtain ⟨c0, c1, c2, _⟩ := HV.out.below HB2.out HV.out.2.2.2
        by_cases hl0 : l = 0
        · subst hl0
          clear hvb
          have HC2 := Lib.hid (HC.out (wr.alloc (.cells #[.int .i64 k, .int .i64 n, .string s] 23)))
          by_cases hq : v = bad
          · have hq' : (v == bad) = true := by simpa using hq
            have hr : r = bad := by
              rw [HW.out, if_neg (by have := HBAD.out; split at this <;> omega), hq]
            subst hr
            clear hq
            go_wp2_with fail
            refine (HC2.out).mono ?_
            rintro e w1 ⟨rfl, hb1⟩
            have HB3 := Lib.hid ((HB2.out.alloc HB2.out.size _).trans (hb1.mono (size_alloc HB2.out.size _))); clear hb1
            go_wp2_with fail
            (try rw [Exit.noGoto_ret])
            go_ret
            exact ⟨rfl, HB3.out⟩
          · have hq' : (v == bad) = false := by simpa using hq
            go_wp2_with fail
            refine (HC2.out).mono ?_
            rintro e w1 ⟨rfl, hb1⟩
            have HB3 := Lib.hid ((HB2.out.alloc HB2.out.size _).trans (hb1.mono (size_alloc HB2.out.size _))); clear hb1
            have HQ := Lib.hid hq; clear hq
            go_wp2_with fail
            go_roundw
            case rel => exact ⟨1, by omega, rfl, fun _ => HQ.out, HB3.out⟩
            case measure => simp [intOf]
        · have hl1 : l = 1 := by omega
          subst hl1
          have HVB := Lib.hid (hvb (by omega)); clear hvb hl0
          go_wp2_with fail
          go_roundw
          case rel => exact ⟨j + 1, by omega, by go_num, fun h => by (have h1 := HBAD.out; have h2 := HVB.out; have h3 := hne.out; split at h1 <;> omega), fun h => by (have h1 := HBAD.out; have h2 := HVB.out; split at h1 <;> omega), HB2.out⟩
          case measure => simp [intOf]; omega
    · have hlt' : ¬ (j : Int) < 2 := by omega
      have hr : r = wpE p c := by rw [HW.out, if_pos (by omega)]
      subst hr
      clear hv3 hv1
      go_wp2_with fail
      refine (keyWrong_any _ _ _).mono ?_
      rintro e w1 ⟨rfl, rfl⟩
      go_wp2_with fail
      go_ret
      exact ⟨rfl, HB.out⟩
end Go.Proofs.YtiddnacmopfamaaDoor
