/- IsSet and Has of the reference. -/
import Derived.Test.YtoldjpnkgdhpkaaIsSet
namespace Go.Proofs.Ytoldjpnkgdhpkaa
open Go.RowKit
set_option linter.unusedVariables false

/-- The world after reading in an open order. -/
def Dr (w w' : World) : Prop := ∃ m, w' = w.drewN m
theorem Dr.refl (w : World) : Dr w w := ⟨0, rfl⟩
theorem Dr.trans {a b c : World} (h : Dr a b) (k : Dr b c) : Dr a c := by
  obtain ⟨m, rfl⟩ := h; obtain ⟨n, rfl⟩ := k; exact ⟨m + n, by rw [World.drewN_drewN]⟩
theorem Dr.below {B : Nat} {a b c : World} (h : Below B a b) (k : Dr b c) : Below B a c := by
  obtain ⟨m, rfl⟩ := k; exact ⟨h.os, h.tape, h.output, h.size, h.block⟩

theorem Dr.cell {a b : World} (h : Dr a b) (p : Addr) : b.cell? p = a.cell? p := by obtain ⟨m, rfl⟩ := h; rfl
theorem Dr.step {a b : World} (h : Dr a b) (n : Nat) : Dr a (b.drewN n) := h.trans ⟨n, rfl⟩
theorem Rd.dr {w w' : World} {B : Nat} {k : IntKind} {A : Option Addr} {zs : List Int} (h : Rd w B k A zs) (hd : Dr w w') : Rd w' B k A zs := by obtain ⟨m, rfl⟩ := hd; exact h
theorem dec_no {a b : Int} (h : ¬ a < b) : decide (a < b) = false := by simpa using h
theorem dec_yes {a b : Int} (h : a < b) : decide (a < b) = true := by simpa using h
theorem dec_nole {a b : Int} (h : ¬ a ≤ b) : decide (a ≤ b) = false := by simpa using h
theorem dec_le {a b : Int} (h : a ≤ b) : decide (a ≤ b) = true := by simpa using h

set_option maxHeartbeats 2000000 in
theorem refIsSet_any (A : Option Addr) (c : Nat) (zs : List Int) (w : World) (B : Nat) (hr : Rd w B .i64 A zs) (hb : Is64 zs) (hm : zs.length ≤ 9223372036854775807) :
    Calls Try.prog 55 #[.slice A zs.length c] w fun e w' => e = .returned (.bool (isSetB 300 zs)) ∧ Dr w w' := by
  have HB := Lib.hid hb; clear hb
  have HR := Lib.hid hr; clear hr
  go_enter Try.func55, Try.ntmps55
  go_wp2
  go_loopw [3] (fun i wr => ∃ k : Nat, k ≤ zs.length ∧ i = .int .i64 k ∧ isSetB 300 zs = setFrom (prevOf zs k) 300 (zs.drop k) ∧ 0 ≤ prevOf zs k ∧ Dr w wr) (fun i _ => zs.length - (intOf i).toNat)
  case atStart => exact ⟨0, by omega, rfl, by simp [isSetB, prevOf], by simp [prevOf], Dr.refl _⟩
  case round =>
    obtain ⟨k, hk, rfl, hs, hp, hd⟩ := hrel
    have HS := Lib.hid hs; clear hs
    have HD := Lib.hid hd; clear hd
    by_cases hlt : k < zs.length
    · obtain ⟨ad, rfl, _, hc⟩ := (HR.out.dr HD.out) (by omega)
      have hx := HB.out.at_ hlt
      have hck := hc k hlt
      have hck1 : 0 < k → wr.cell? (ad.add (k - 1)) = some (.int .i64 (zs.getD (k - 1) 0)) := fun h => hc (k - 1) (by omega)
      have HC := Lib.hid hc; clear hc
      have he := setFrom_at 300 zs hlt
      have HE := Lib.hid he; clear he
      have hpv : prevOf zs (k + 1) = zs.getD k 0 := by simp [prevOf]
      have HPV := Lib.hid hpv; clear hpv
      have hpp : (k = 0 ∧ prevOf zs k = 0) ∨ (0 < k ∧ prevOf zs k = zs.getD (k - 1) 0) := prev_cases zs k
      have HPP := Lib.hid hpp; clear hpp
      have j1 : (0 : Int) ≤ (k : Int) := by omega
      have j2 : (k : Int) < zs.length := by omega
      generalize zs.getD k 0 = x at *
      generalize zs.getD (k - 1) 0 = y at *
      by_cases h1 : x < 1
      · have d1 := dec_yes h1
        go_wp2
        go_quiet (fail)
        go_wp2
        go_ret
        exact ⟨set_no HS.out HE.out (fun _ _ => by omega), HD.out.step _⟩
      · have d1 := dec_no h1
        by_cases h2 : 300 < x
        · have d2 := dec_yes h2
          go_wp2
          go_quiet (fail)
          go_wp2
          go_ret
          exact ⟨set_no HS.out HE.out (fun _ _ => by omega), HD.out.step _⟩
        · have d2 := dec_no h2
          by_cases h3 : 0 < k
          · have d3 : decide (0 < k) = true := by simpa using h3
            have hck2 := hck1 (by omega)
            have j3 : (0 : Int) ≤ (k : Int) - 1 := by omega
            have j4 : (k : Int) - 1 < zs.length := by omega
            by_cases h4 : x ≤ y
            · have d4 := dec_le h4
              go_wp2
              go_quiet (fail)
              go_wp2
              go_ret
              exact ⟨set_no HS.out HE.out (fun _ _ => by have := HPP.out; omega), HD.out.step _⟩
            · have d4 := dec_nole h4
              go_wp2
              go_quiet (fail)
              go_wp2
              go_roundw
              case rel => exact ⟨k + 1, by omega, by go_num, set_go HS.out HE.out (by have := HPP.out; omega) (by omega), by rw [HPV.out]; omega, HD.out.step _⟩
              case measure => simp [intOf]; omega
          · have d3 : decide (0 < k) = false := by simpa using h3
            go_wp2
            go_quiet (fail)
            go_wp2
            go_roundw
            case rel => exact ⟨k + 1, by omega, by go_num, set_go HS.out HE.out (by have := HPP.out; omega) (by omega), by rw [HPV.out]; omega, HD.out.step _⟩
            case measure => simp [intOf]; omega
    · have hkl : k = zs.length := by omega
      have HK := Lib.hid hkl; clear hkl
      go_wp2
      go_ret
      exact ⟨ret_b (by rw [HS.out, List.drop_of_length_le (by have := HK.out; omega)]; rfl), HD.out⟩

theorem decide_mem_cons (zs : List Int) (k : Nat) (x : Int) (h : k < zs.length) : decide (x ∈ zs.drop k) = (decide (zs.getD k 0 = x) || decide (x ∈ zs.drop (k + 1))) := by
  rw [drop_at zs h]; simp [List.mem_cons, eq_comm]

set_option maxHeartbeats 2000000 in
theorem has_any (A : Option Addr) (c : Nat) (zs : List Int) (x : Int) (w : World) (B : Nat) (hr : Rd w B .i64 A zs) (hm : zs.length ≤ 9223372036854775807) :
    Calls Try.prog 27 #[.slice A zs.length c, .int .i64 x] w fun e w' => e = .returned (.bool (decide (x ∈ zs))) ∧ w = w' := by
  have HR := Lib.hid hr; clear hr
  go_enter Try.func27, Try.ntmps27
  go_wp2
  go_loop [5] (fun i => ∃ k : Nat, k ≤ zs.length ∧ i = .int .i64 k ∧ decide (x ∈ zs) = decide (x ∈ zs.drop k)) (fun i => zs.length - (intOf i).toNat)
  case atStart => exact ⟨0, by omega, rfl, by simp⟩
  case round =>
    obtain ⟨k, hk, rfl, hs⟩ := hrel
    have HS := Lib.hid hs; clear hs
    by_cases hlt : k < zs.length
    · obtain ⟨ad, rfl, _, hc⟩ := HR.out (by omega)
      have hck := hc k hlt
      have HC := Lib.hid hc; clear hc
      have he := decide_mem_cons zs k x hlt
      have HE := Lib.hid he; clear he
      generalize zs.getD k 0 = y at *
      by_cases hxy : y = x
      · have d : (y == x) = true := by simpa using hxy
        have HX := Lib.hid hxy; clear hxy
        go_wp2
        all_goals
          go_ret
          exact ⟨ret_b (by rw [HS.out, HE.out]; simp [HX.out]), rfl⟩
      · have d : (y == x) = false := by simpa using hxy
        have HX := Lib.hid hxy; clear hxy
        go_wp2
        all_goals
          go_round
          case rel => exact ⟨k + 1, by omega, by go_num, by rw [HS.out, HE.out]; simp [HX.out]⟩
          case measure => simp [intOf]; omega
    · have hkl : k = zs.length := by omega
      have HK := Lib.hid hkl; clear hkl
      go_wp2
      go_ret
      exact ⟨ret_b (by rw [HS.out, List.drop_of_length_le (by have := HK.out; omega)]; simp), rfl⟩
end Go.Proofs.Ytoldjpnkgdhpkaa
