/- Equal of two byte slices; number of the reference. -/
import Derived.Test.YtoldjpnkgdhpkaaSm
import Derived.Test.YtoldjpnkgdhpkaaKn
namespace Go.Proofs.Ytoldjpnkgdhpkaa
open Go.RowKit
set_option linter.unusedVariables false
set_option linter.unusedSimpArgs false

set_option maxHeartbeats 2000000 in
theorem eqBytes_any (A A2 : Option Addr) (c c2 : Nat) (xs ys : List Int) (w : World) (B B2 : Nat) (hr : Rd w B .u8 A xs) (hr2 : Rd w B2 .u8 A2 ys) (hm : xs.length ≤ 1000000) (hm2 : ys.length ≤ 1000000) :
    Calls Try.prog 65 #[.slice A xs.length c, .slice A2 ys.length c2] w fun e w' => e = .returned (.bool (decide (xs = ys))) ∧ Dr w w' := by
  have HR := Lib.hid hr; clear hr
  have HR2 := Lib.hid hr2; clear hr2
  by_cases hl : xs.length = ys.length
  · have HL := Lib.hid hl
    generalize hn : ys.length = n at *
    have HN := Lib.hid hn; clear hn
    have hxn : xs.length = n := hl
    clear hl
    rw [hxn]
    have HX := Lib.hid hxn; clear hxn hm
    go_enter Try.func65, Try.ntmps65
    go_wp2
    go_loopw [13] (fun i wr => ∃ k : Nat, k ≤ n ∧ i = .int .i64 k ∧ xs.take k = ys.take k ∧ Dr w wr) (fun i _ => n - (intOf i).toNat)
    case atStart => exact ⟨0, by omega, rfl, by simp, Dr.refl _⟩
    case round =>
      obtain ⟨k, hk, rfl, hs, hd⟩ := hrel
      have HS := Lib.hid hs; clear hs
      have HD := Lib.hid hd; clear hd
      by_cases hlt : k < n
      · obtain ⟨ad, rfl, _, hc⟩ := (HR.out.dr HD.out) (by have := HX.out; omega)
        obtain ⟨ad2, rfl, _, hc2⟩ := (HR2.out.dr HD.out) (by have := HN.out; omega)
        have hck := hc k (by have := HX.out; omega)
        have hck2 := hc2 k (by have := HN.out; omega)
        have HC := Lib.hid hc; clear hc
        have HC2 := Lib.hid hc2; clear hc2
        have j1 : (0 : Int) ≤ (k : Int) := by omega
        have j2 : (k : Int) < n := by omega
        by_cases hxy : xs.getD k 0 = ys.getD k 0
        · have HE := Lib.hid (take_ext xs ys (by have := HX.out; omega) (by have := HN.out; omega) HS.out hxy)
          rw [hxy] at hck
          clear hxy
          generalize ys.getD k 0 = y at *
          go_wp2
          go_quiet (fail)
          go_wp2
          go_roundw
          case rel => exact ⟨k + 1, by omega, by go_num, HE.out, HD.out.step _⟩
          case measure => simp [intOf]; omega
        · have HE := Lib.hid (getD_ne hxy)
          have d : (xs.getD k 0 == ys.getD k 0) = false := by simpa using hxy
          have d2 : (xs.getD k 0 != ys.getD k 0) = true := by simpa using hxy
          clear hxy
          generalize ys.getD k 0 = y at *
          generalize xs.getD k 0 = x at *
          go_wp2
          go_quiet (fail)
          go_wp2
          go_ret
          exact ⟨ret_b (by simp [HE.out]), HD.out.step _⟩
      · have hkl : k = n := by omega
        have HK := Lib.hid hkl; clear hkl
        go_wp2
        go_ret
        exact ⟨ret_b (by have := HS.out; rw [HK.out, List.take_of_length_le (by have := HX.out; omega), List.take_of_length_le (by have := HN.out; omega)] at this; simp [this]), HD.out⟩
  · have HL := Lib.hid hl
    have d : ((xs.length : Int) == (ys.length : Int)) = false := by rw [beq_eq_false_iff_ne]; omega
    have d2 : ((xs.length : Int) != (ys.length : Int)) = true := by simp only [bne, d]; rfl
    clear hl
    go_enter Try.func65, Try.ntmps65
    go_wp2
    go_ret
    exact ⟨ret_b (by simp; intro e; exact HL.out (by rw [e])), Dr.refl _⟩


set_option maxHeartbeats 2000000 in
theorem number_any (n : Int) (w : World) (h0 : 0 ≤ n) (h1 : n ≤ 30000) :
    Calls Try.prog 63 #[.int .i64 n] w fun e w' => ∃ (A : Option Addr) (c : Nat), e = .returned (.slice A (numL n).length c) ∧ Rd w' w'.heap.size .u8 A (numL n) ∧ (numL n).length ≤ c ∧ Below w.heap.size w w' := by
  by_cases h : n < 128
  · rw [numL_small h]
    go_enter Try.func63, Try.ntmps63
    go_wp2_with fail
    go_ret
    exact ⟨_, _, rfl, (rd_new1 w .u8 5 n).more (by simp), by simp, Below.of_alloc _ _ _ (Nat.le_refl _)⟩
  · rw [numL_big h]
    go_enter Try.func63, Try.ntmps63
    go_wp2_with fail
    go_ret
    exact ⟨_, _, rfl, (rd_new2 w .u8 5 _ _).more (by simp), by simp, Below.of_alloc _ _ _ (Nat.le_refl _)⟩
end Go.Proofs.Ytoldjpnkgdhpkaa
