/- take of the reference, takeNumber of the program. -/
import Derived.Test.YtoldjpnkgdhpkaaU
import Derived.Test.YtoldjpnkgdhpkaaBitsQ
import Derived.Deep.QuietTactic
import Derived.BigQuiet
namespace Go.Proofs.Ytoldjpnkgdhpkaa
open Go.RowKit
set_option linter.unusedVariables false
set_option linter.unusedSimpArgs false

theorem plus_zero (a : Addr) : a.add 0 = a := by unfold Addr.add; obtain ⟨b, o, m⟩ := a; split <;> simp_all
theorem take_nil {bs : List Int} (h : bs.length = 0) : takeL bs = none := by
  rw [List.length_eq_zero_iff.1 h]; rfl
theorem take_small {bs : List Int} (h : 0 < bs.length) (hx : bs.getD 0 0 < 128) : takeL bs = some (bs.getD 0 0, bs.drop 1) := by
  match bs, h with
  | x :: r, _ => simp at hx; simp [takeL, hx]
theorem take_one {bs : List Int} (h : bs.length = 1) (hx : ¬ bs.getD 0 0 < 128) : takeL bs = none := by
  match bs, h with
  | [x], _ => simp at hx; simp [takeL]; omega
theorem take_big {bs : List Int} (h : 1 < bs.length) (hx : ¬ bs.getD 0 0 < 128) : takeL bs = some (bs.getD 0 0 - 128 + 128 * bs.getD 1 0, bs.drop 2) := by
  match bs, h with
  | x :: y :: r, _ => simp at hx; simp [takeL]; omega
def tkG (bs : List Int) : Int := match takeL bs with | some (g, _) => g | none => 0
def tkN (bs : List Int) : Int := match takeL bs with | some (_, r) => ((bs.length - r.length : Nat) : Int) | none => 0

set_option maxHeartbeats 2000000 in
theorem take_any (A : Option Addr) (c : Nat) (bs : List Int) (w : World) (B : Nat) (hr : Rd w B .u8 A bs) (hl : bs.length ≤ 3000) (hok : bytesI bs) :
    Calls Try.prog 66 #[.slice A bs.length c] w fun e w' => e = .returned (.tuple #[.int .i64 (tkG bs), .int .i64 (tkN bs)]) ∧ Dr w w' := by
  rcases Nat.eq_zero_or_pos bs.length with h0 | h0
  · have e1 : tkG bs = 0 := by simp [tkG, take_nil h0]
    have e2 : tkN bs = 0 := by simp [tkN, take_nil h0]
    rw [e1, e2, h0]
    clear e1 e2 hr hok hl h0
    go_enter Try.func66, Try.ntmps66
    go_wp2_with fail
    go_ret2
    exact ⟨rfl, ⟨0, rfl⟩⟩
  · obtain ⟨ad, rfl, _, hc⟩ := hr h0
    have hc0 := hc 0 h0
    rw [plus_zero] at hc0
    have hm0 : 0 ≤ bs.getD 0 0 ∧ bs.getD 0 0 ≤ 255 := by
      rw [List.getD_eq_getElem?_getD, List.getElem?_eq_getElem h0]; exact hok _ (List.getElem_mem h0)
    have i0 : (0 : Int) < bs.length := by omega
    have z0 : ((bs.length : Int) == 0) = false := beq_false_of_ne (by omega)
    by_cases hx : bs.getD 0 0 < 128
    · have e1 : tkG bs = bs.getD 0 0 := by simp [tkG, take_small h0 hx]
      have e2 : tkN bs = 1 := by unfold tkN; rw [take_small h0 hx]; simp only [List.length_drop]; omega
      rw [e1, e2]
      clear e1 e2 hc hok
      generalize bs.getD 0 0 = x at *
      go_enter Try.func66, Try.ntmps66
      go_wp2_with fail
      go_ret2
      exact ⟨rfl, ⟨0, rfl⟩⟩
    · by_cases h1 : bs.length = 1
      · have e1 : tkG bs = 0 := by simp [tkG, take_one h1 hx]
        have e2 : tkN bs = 0 := by simp [tkN, take_one h1 hx]
        rw [e1, e2]
        have z1 : ((bs.length : Int) == 1) = true := by simp [h1]
        clear e1 e2 hc hok h1
        generalize bs.getD 0 0 = x at *
        go_enter Try.func66, Try.ntmps66
        go_wp2_with fail
        go_ret2
        exact ⟨rfl, ⟨0, rfl⟩⟩
      · have hc1 : w.cell? ⟨ad.block, ad.off + 1, none⟩ = some (.int .u8 (bs.getD 1 0)) := by simpa [Addr.add] using hc 1 (by omega)
        have e1 : tkG bs = bs.getD 0 0 - 128 + 128 * bs.getD 1 0 := by simp [tkG, take_big (show 1 < bs.length by omega) hx]
        have e2 : tkN bs = 2 := by unfold tkN; rw [take_big (show 1 < bs.length by omega) hx]; simp only [List.length_drop]; omega
        rw [e1, e2]
        have hm1 : 0 ≤ bs.getD 1 0 ∧ bs.getD 1 0 ≤ 255 := by
          rw [List.getD_eq_getElem?_getD, List.getElem?_eq_getElem (show 1 < bs.length by omega)]; exact hok _ (List.getElem_mem _)
        have i1 : (1 : Int) < bs.length := by omega
        have z1 : ((bs.length : Int) == 1) = false := beq_false_of_ne (by omega)
        clear e1 e2 hc hok h1
        generalize bs.getD 0 0 = x at *
        generalize bs.getD 1 0 = y at *
        go_enter Try.func66, Try.ntmps66
        go_wp2_with fail
        go_quiet (fail)
        go_wp2_with fail
        go_ret2
        exact ⟨rfl, ⟨_, rfl⟩⟩
end Go.Proofs.Ytoldjpnkgdhpkaa
