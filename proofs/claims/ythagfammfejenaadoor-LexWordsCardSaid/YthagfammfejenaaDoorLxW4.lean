/- Which texts are names: the program and the reference. -/
import Derived.Test.YthagfammfejenaaDoorLxW3
namespace Go.Proofs.YthagfammfejenaaDoor
open Go.RowKit
set_option linter.unusedVariables false
set_option linter.unusedSimpArgs false
set_option maxRecDepth 40000
def okAt (k b : Nat) : Prop := (65 ≤ b ∧ b ≤ 90) ∨ b = 95 ∨ (k ≠ 0 ∧ 48 ≤ b ∧ b ≤ 57)
instance (k b : Nat) : Decidable (okAt k b) := by unfold okAt; infer_instance
def nameB (s : ByteArray) : Bool := decide (1 ≤ s.size ∧ s.size ≤ 10 ∧ ∀ k (h : k < s.size), okAt k s[k].toNat)
theorem name_no {s : ByteArray} (k : Nat) (h : k < s.size) (hb : ¬ okAt k s[k].toNat) : nameB s = false := by
  unfold nameB; rw [decide_eq_false]; exact fun h' => hb (h'.2.2 k h)
theorem name_short {s : ByteArray} (h : s.size < 1 ∨ 10 < s.size) : nameB s = false := by
  unfold nameB; rw [decide_eq_false]; intro h'; omega
theorem name_yes {s : ByteArray} (h1 : 1 ≤ s.size) (h2 : s.size ≤ 10) (h : ∀ k (h : k < s.size), okAt k s[k].toNat) : nameB s = true := by
  unfold nameB; rw [decide_eq_true]; exact ⟨h1, h2, h⟩
def Upto (s : ByteArray) (k : Nat) : Prop := ∀ j (h : j < s.size), j < k → okAt j s[j].toNat
theorem upto_step {s : ByteArray} {k : Nat} (h : k < s.size) (hu : Upto s k) (ho : okAt k s[k].toNat) : Upto s (k + 1) := fun j hj hk => by
  rcases Nat.lt_or_eq_of_le (Nat.le_of_lt_succ hk) with h1 | h1
  · exact hu j hj h1
  · subst h1; exact ho
def NmP (s : ByteArray) (w : World) (e : Ending) (w' : World) : Prop := e = .returned (.bool (nameB s)) ∧ w = w'
theorem emp_size (s : ByteArray) : s.toList.isEmpty = decide (s.size = 0) := by
  rw [Lib.toList_data, show s.size = s.data.toList.length from rfl]
  cases s.data.toList <;> simp
def isLet (b : Nat) : Bool := decide (b = 95 ∨ (97 ≤ b ∧ b ≤ 122) ∨ (65 ≤ b ∧ b ≤ 90))
set_option maxHeartbeats 2000000 in
theorem isLetter_any (b : Nat) (hb : b < 256) (w : World) : Calls Tryd.prog 66 #[.int .u8 b] w fun e w' => e = .returned (.bool (isLet b)) ∧ w = w' := by
  rcases (show (0 ≤ b ∧ b ≤ 47) ∨ (48 ≤ b ∧ b ≤ 57) ∨ (58 ≤ b ∧ b ≤ 64) ∨ (65 ≤ b ∧ b ≤ 90) ∨ (91 ≤ b ∧ b ≤ 94) ∨ (95 ≤ b ∧ b ≤ 95) ∨ (96 ≤ b ∧ b ≤ 96) ∨ (97 ≤ b ∧ b ≤ 122) ∨ (123 ≤ b ∧ b ≤ 255) by omega) with ⟨q1, q2⟩ | ⟨q1, q2⟩ | ⟨q1, q2⟩ | ⟨q1, q2⟩ | ⟨q1, q2⟩ | ⟨q1, q2⟩ | ⟨q1, q2⟩ | ⟨q1, q2⟩ | ⟨q1, q2⟩
  · rw [show isLet b = false by unfold isLet; simp; omega]
    have f0 : decide (65 ≤ (b : Int)) = false := by simp; omega
    have f1 : decide ((b : Int) ≤ 90) = true := by simp; omega
    have f2 : ((b : Int) == 95) = false := by simp; omega
    have f3 : decide (97 ≤ (b : Int)) = false := by simp; omega
    have f4 : decide ((b : Int) ≤ 122) = true := by simp; omega
    clear q1 q2 hb
    go_enter Tryd.func66, Tryd.ntmps66
    go_wp2_with fail
    go_ret
    exact ⟨rfl, rfl⟩
  · rw [show isLet b = false by unfold isLet; simp; omega]
    have f0 : decide (65 ≤ (b : Int)) = false := by simp; omega
    have f1 : decide ((b : Int) ≤ 90) = true := by simp; omega
    have f2 : ((b : Int) == 95) = false := by simp; omega
    have f3 : decide (97 ≤ (b : Int)) = false := by simp; omega
    have f4 : decide ((b : Int) ≤ 122) = true := by simp; omega
    clear q1 q2 hb
    go_enter Tryd.func66, Tryd.ntmps66
    go_wp2_with fail
    go_ret
    exact ⟨rfl, rfl⟩
  · rw [show isLet b = false by unfold isLet; simp; omega]
    have f0 : decide (65 ≤ (b : Int)) = false := by simp; omega
    have f1 : decide ((b : Int) ≤ 90) = true := by simp; omega
    have f2 : ((b : Int) == 95) = false := by simp; omega
    have f3 : decide (97 ≤ (b : Int)) = false := by simp; omega
    have f4 : decide ((b : Int) ≤ 122) = true := by simp; omega
    clear q1 q2 hb
    go_enter Tryd.func66, Tryd.ntmps66
    go_wp2_with fail
    go_ret
    exact ⟨rfl, rfl⟩
  · rw [show isLet b = true by unfold isLet; simp; omega]
    have f0 : decide (65 ≤ (b : Int)) = true := by simp; omega
    have f1 : decide ((b : Int) ≤ 90) = true := by simp; omega
    have f2 : ((b : Int) == 95) = false := by simp; omega
    have f3 : decide (97 ≤ (b : Int)) = false := by simp; omega
    have f4 : decide ((b : Int) ≤ 122) = true := by simp; omega
    clear q1 q2 hb
    go_enter Tryd.func66, Tryd.ntmps66
    go_wp2_with fail
    go_ret
    exact ⟨rfl, rfl⟩
  · rw [show isLet b = false by unfold isLet; simp; omega]
    have f0 : decide (65 ≤ (b : Int)) = true := by simp; omega
    have f1 : decide ((b : Int) ≤ 90) = false := by simp; omega
    have f2 : ((b : Int) == 95) = false := by simp; omega
    have f3 : decide (97 ≤ (b : Int)) = false := by simp; omega
    have f4 : decide ((b : Int) ≤ 122) = true := by simp; omega
    clear q1 q2 hb
    go_enter Tryd.func66, Tryd.ntmps66
    go_wp2_with fail
    go_ret
    exact ⟨rfl, rfl⟩
  · rw [show isLet b = true by unfold isLet; simp; omega]
    have f0 : decide (65 ≤ (b : Int)) = true := by simp; omega
    have f1 : decide ((b : Int) ≤ 90) = false := by simp; omega
    have f2 : ((b : Int) == 95) = true := by simp; omega
    have f3 : decide (97 ≤ (b : Int)) = false := by simp; omega
    have f4 : decide ((b : Int) ≤ 122) = true := by simp; omega
    clear q1 q2 hb
    go_enter Tryd.func66, Tryd.ntmps66
    go_wp2_with fail
    go_ret
    exact ⟨rfl, rfl⟩
  · rw [show isLet b = false by unfold isLet; simp; omega]
    have f0 : decide (65 ≤ (b : Int)) = true := by simp; omega
    have f1 : decide ((b : Int) ≤ 90) = false := by simp; omega
    have f2 : ((b : Int) == 95) = false := by simp; omega
    have f3 : decide (97 ≤ (b : Int)) = false := by simp; omega
    have f4 : decide ((b : Int) ≤ 122) = true := by simp; omega
    clear q1 q2 hb
    go_enter Tryd.func66, Tryd.ntmps66
    go_wp2_with fail
    go_ret
    exact ⟨rfl, rfl⟩
  · rw [show isLet b = true by unfold isLet; simp; omega]
    have f0 : decide (65 ≤ (b : Int)) = true := by simp; omega
    have f1 : decide ((b : Int) ≤ 90) = false := by simp; omega
    have f2 : ((b : Int) == 95) = false := by simp; omega
    have f3 : decide (97 ≤ (b : Int)) = true := by simp; omega
    have f4 : decide ((b : Int) ≤ 122) = true := by simp; omega
    clear q1 q2 hb
    go_enter Tryd.func66, Tryd.ntmps66
    go_wp2_with fail
    go_ret
    exact ⟨rfl, rfl⟩
  · rw [show isLet b = false by unfold isLet; simp; omega]
    have f0 : decide (65 ≤ (b : Int)) = true := by simp; omega
    have f1 : decide ((b : Int) ≤ 90) = false := by simp; omega
    have f2 : ((b : Int) == 95) = false := by simp; omega
    have f3 : decide (97 ≤ (b : Int)) = true := by simp; omega
    have f4 : decide ((b : Int) ≤ 122) = false := by simp; omega
    clear q1 q2 hb
    go_enter Tryd.func66, Tryd.ntmps66
    go_wp2_with fail
    go_ret
    exact ⟨rfl, rfl⟩
theorem digit_yes (b : Nat) (w : World) (h : 48 ≤ b ∧ b ≤ 57) : Calls Tryd.prog 67 #[.int .u8 b] w fun e w' => e = .returned (.bool true) ∧ w = w' := by
  obtain ⟨h1, h2⟩ := h
  have h3 : decide ((b : Int) ≤ 57) = true := by simp; omega
  have h4 : decide (48 ≤ (b : Int)) = true := by simp; omega
  go_enter Tryd.func67, Tryd.ntmps67
  go_wp2_with fail
  go_ret
  exact ⟨rfl, rfl⟩
theorem digit_no (b : Nat) (w : World) (h : ¬ (48 ≤ b ∧ b ≤ 57)) : Calls Tryd.prog 67 #[.int .u8 b] w fun e w' => e = .returned (.bool false) ∧ w = w' := by
  by_cases h1 : 48 ≤ b
  · have h2 : decide ((b : Int) ≤ 57) = false := by simp; omega
    have h4 : decide (48 ≤ (b : Int)) = true := by simp; omega
    clear h
    go_enter Tryd.func67, Tryd.ntmps67
    go_wp2_with fail
    go_ret
    exact ⟨rfl, rfl⟩
  · have h2 : decide (48 ≤ (b : Int)) = false := by simp; omega
    clear h
    go_enter Tryd.func67, Tryd.ntmps67
    go_wp2_with fail
    go_ret
    exact ⟨rfl, rfl⟩
set_option maxHeartbeats 8000000 in
theorem isName_any (s : ByteArray) (w : World) (hs : s.size ≤ 140737488355328) : Calls Tryd.prog 24 #[.string s] w (NmP s w) := by
  have he := emp_size s
  by_cases h0 : s.size = 0
  · have hn := Lib.hid (name_short (s := s) (by omega))
    rw [h0] at he
    simp at he
    have he' : s.toList.isEmpty = true := by rw [he]; rfl
    clear h0 he
    go_enter Tryd.func24, Tryd.ntmps24
    go_wp2_with fail
    go_ret
    exact ⟨by rw [hn.out]; rfl, rfl⟩
  · have he' : s.toList.isEmpty = false := by rw [he]; simp [h0]
    clear he
    by_cases h2 : s.size ≤ 10
    · have HY := Lib.hid (name_yes (s := s) (by omega) h2)
      have HN := Lib.hid (fun k => name_no (s := s) k)
      go_enter Tryd.func24, Tryd.ntmps24
      go_wp2_with fail
      go_loop [15] (fun i => ∃ k : Nat, k ≤ s.size ∧ i = .int .i64 k ∧ Upto s k) (fun i => s.size - (intOf i).toNat)
      case atStart => exact ⟨0, by omega, rfl, fun j _ h => absurd h (Nat.not_lt_zero _)⟩
      case round =>
        obtain ⟨k, hk, rfl, hu⟩ := hrel
        by_cases hlt : k < s.size
        · have HN1 := Lib.hid (HN.out k hlt)
          have HS := Lib.hid (upto_step hlt hu)
          clear hu HN HY
          obtain ⟨b, hb⟩ : ∃ b, s[k].toNat = b := ⟨_, rfl⟩
          have hb256 : b < 256 := by rw [← hb]; exact byte_lt _
          rw [hb] at HN1 HS
          rcases (show (0 ≤ b ∧ b ≤ 47) ∨ (48 ≤ b ∧ b ≤ 57) ∨ (58 ≤ b ∧ b ≤ 64) ∨ (65 ≤ b ∧ b ≤ 90) ∨ (91 ≤ b ∧ b ≤ 94) ∨ (95 ≤ b ∧ b ≤ 95) ∨ (96 ≤ b ∧ b ≤ 96) ∨ (97 ≤ b ∧ b ≤ 122) ∨ (123 ≤ b ∧ b ≤ 255) by omega) with ⟨q1, q2⟩ | ⟨q1, q2⟩ | ⟨q1, q2⟩ | ⟨q1, q2⟩ | ⟨q1, q2⟩ | ⟨q1, q2⟩ | ⟨q1, q2⟩ | ⟨q1, q2⟩ | ⟨q1, q2⟩
          · by_cases hz : k = 0
            · have f0 : decide (65 ≤ (b : Int)) = false := by simp; omega
              have f1 : decide ((b : Int) ≤ 90) = true := by simp; omega
              have f2 : ((b : Int) == 95) = false := by simp; omega
              have f3 : decide ((b : Int) < 48) = true := by simp; omega
              have f4 : decide (57 < (b : Int)) = false := by simp; omega
              have f5 : decide (97 ≤ (b : Int)) = false := by simp; omega
              have f6 : decide ((b : Int) ≤ 122) = true := by simp; omega
              have hk0 : k = 0 := hz
              subst hk0
              have z1 : ((0 : Int) == 0) = true := by simp
              have HR := Lib.hid (HN1.out (by unfold okAt; omega))
              clear HS HN1
              go_wp2_with fail
              (try rw [Exit.noGoto_ret])
              go_ret
              exact ⟨by rw [HR.out]; rfl, rfl⟩
            · have f0 : decide (65 ≤ (b : Int)) = false := by simp; omega
              have f1 : decide ((b : Int) ≤ 90) = true := by simp; omega
              have f2 : ((b : Int) == 95) = false := by simp; omega
              have f3 : decide ((b : Int) < 48) = true := by simp; omega
              have f4 : decide (57 < (b : Int)) = false := by simp; omega
              have f5 : decide (97 ≤ (b : Int)) = false := by simp; omega
              have f6 : decide ((b : Int) ≤ 122) = true := by simp; omega
              have z1 : ((k : Int) == 0) = false := by simp; omega
              have z2 : decide (0 < (k : Int)) = true := by simp; omega
              have z3 : decide (0 < k) = true := by simp; omega
              have z4 : 0 < k := by omega
              have HR := Lib.hid (HN1.out (by unfold okAt; omega))
              clear HS HN1
              go_wp2_with fail
              (try rw [Exit.noGoto_ret])
              go_ret
              exact ⟨by rw [HR.out]; rfl, rfl⟩
          · by_cases hz : k = 0
            · have f0 : decide (65 ≤ (b : Int)) = false := by simp; omega
              have f1 : decide ((b : Int) ≤ 90) = true := by simp; omega
              have f2 : ((b : Int) == 95) = false := by simp; omega
              have f3 : decide ((b : Int) < 48) = false := by simp; omega
              have f4 : decide (57 < (b : Int)) = false := by simp; omega
              have f5 : decide (97 ≤ (b : Int)) = false := by simp; omega
              have f6 : decide ((b : Int) ≤ 122) = true := by simp; omega
              have hk0 : k = 0 := hz
              subst hk0
              have z1 : ((0 : Int) == 0) = true := by simp
              have HR := Lib.hid (HN1.out (by unfold okAt; omega))
              clear HS HN1
              go_wp2_with fail
              (try rw [Exit.noGoto_ret])
              go_ret
              exact ⟨by rw [HR.out]; rfl, rfl⟩
            · have f0 : decide (65 ≤ (b : Int)) = false := by simp; omega
              have f1 : decide ((b : Int) ≤ 90) = true := by simp; omega
              have f2 : ((b : Int) == 95) = false := by simp; omega
              have f3 : decide ((b : Int) < 48) = false := by simp; omega
              have f4 : decide (57 < (b : Int)) = false := by simp; omega
              have f5 : decide (97 ≤ (b : Int)) = false := by simp; omega
              have f6 : decide ((b : Int) ≤ 122) = true := by simp; omega
              have z1 : ((k : Int) == 0) = false := by simp; omega
              have z2 : decide (0 < (k : Int)) = true := by simp; omega
              have z3 : decide (0 < k) = true := by simp; omega
              have z4 : 0 < k := by omega
              have HR := Lib.hid (HS.out (by unfold okAt; omega))
              clear HS HN1
              go_wp2_with fail
              go_round
              case rel => exact ⟨k + 1, by omega, by go_num, HR.out⟩
              case measure => simp [intOf]; omega
          · by_cases hz : k = 0
            · have f0 : decide (65 ≤ (b : Int)) = false := by simp; omega
              have f1 : decide ((b : Int) ≤ 90) = true := by simp; omega
              have f2 : ((b : Int) == 95) = false := by simp; omega
              have f3 : decide ((b : Int) < 48) = false := by simp; omega
              have f4 : decide (57 < (b : Int)) = true := by simp; omega
              have f5 : decide (97 ≤ (b : Int)) = false := by simp; omega
              have f6 : decide ((b : Int) ≤ 122) = true := by simp; omega
              have hk0 : k = 0 := hz
              subst hk0
              have z1 : ((0 : Int) == 0) = true := by simp
              have HR := Lib.hid (HN1.out (by unfold okAt; omega))
              clear HS HN1
              go_wp2_with fail
              (try rw [Exit.noGoto_ret])
              go_ret
              exact ⟨by rw [HR.out]; rfl, rfl⟩
            · have f0 : decide (65 ≤ (b : Int)) = false := by simp; omega
              have f1 : decide ((b : Int) ≤ 90) = true := by simp; omega
              have f2 : ((b : Int) == 95) = false := by simp; omega
              have f3 : decide ((b : Int) < 48) = false := by simp; omega
              have f4 : decide (57 < (b : Int)) = true := by simp; omega
              have f5 : decide (97 ≤ (b : Int)) = false := by simp; omega
              have f6 : decide ((b : Int) ≤ 122) = true := by simp; omega
              have z1 : ((k : Int) == 0) = false := by simp; omega
              have z2 : decide (0 < (k : Int)) = true := by simp; omega
              have z3 : decide (0 < k) = true := by simp; omega
              have z4 : 0 < k := by omega
              have HR := Lib.hid (HN1.out (by unfold okAt; omega))
              clear HS HN1
              go_wp2_with fail
              (try rw [Exit.noGoto_ret])
              go_ret
              exact ⟨by rw [HR.out]; rfl, rfl⟩
          · by_cases hz : k = 0
            · have f0 : decide (65 ≤ (b : Int)) = true := by simp; omega
              have f1 : decide ((b : Int) ≤ 90) = true := by simp; omega
              have f2 : ((b : Int) == 95) = false := by simp; omega
              have f3 : decide ((b : Int) < 48) = false := by simp; omega
              have f4 : decide (57 < (b : Int)) = true := by simp; omega
              have f5 : decide (97 ≤ (b : Int)) = false := by simp; omega
              have f6 : decide ((b : Int) ≤ 122) = true := by simp; omega
              have hk0 : k = 0 := hz
              subst hk0
              have z1 : ((0 : Int) == 0) = true := by simp
              have HR := Lib.hid (HS.out (by unfold okAt; omega))
              clear HS HN1
              go_wp2_with fail
              go_round
              case rel => exact ⟨0 + 1, by omega, by go_num, HR.out⟩
              case measure => simp [intOf]; omega
            · have f0 : decide (65 ≤ (b : Int)) = true := by simp; omega
              have f1 : decide ((b : Int) ≤ 90) = true := by simp; omega
              have f2 : ((b : Int) == 95) = false := by simp; omega
              have f3 : decide ((b : Int) < 48) = false := by simp; omega
              have f4 : decide (57 < (b : Int)) = true := by simp; omega
              have f5 : decide (97 ≤ (b : Int)) = false := by simp; omega
              have f6 : decide ((b : Int) ≤ 122) = true := by simp; omega
              have z1 : ((k : Int) == 0) = false := by simp; omega
              have z2 : decide (0 < (k : Int)) = true := by simp; omega
              have z3 : decide (0 < k) = true := by simp; omega
              have z4 : 0 < k := by omega
              have HR := Lib.hid (HS.out (by unfold okAt; omega))
              clear HS HN1
              go_wp2_with fail
              go_round
              case rel => exact ⟨k + 1, by omega, by go_num, HR.out⟩
              case measure => simp [intOf]; omega
          · by_cases hz : k = 0
            · have f0 : decide (65 ≤ (b : Int)) = true := by simp; omega
              have f1 : decide ((b : Int) ≤ 90) = false := by simp; omega
              have f2 : ((b : Int) == 95) = false := by simp; omega
              have f3 : decide ((b : Int) < 48) = false := by simp; omega
              have f4 : decide (57 < (b : Int)) = true := by simp; omega
              have f5 : decide (97 ≤ (b : Int)) = false := by simp; omega
              have f6 : decide ((b : Int) ≤ 122) = true := by simp; omega
              have hk0 : k = 0 := hz
              subst hk0
              have z1 : ((0 : Int) == 0) = true := by simp
              have HR := Lib.hid (HN1.out (by unfold okAt; omega))
              clear HS HN1
              go_wp2_with fail
              (try rw [Exit.noGoto_ret])
              go_ret
              exact ⟨by rw [HR.out]; rfl, rfl⟩
            · have f0 : decide (65 ≤ (b : Int)) = true := by simp; omega
              have f1 : decide ((b : Int) ≤ 90) = false := by simp; omega
              have f2 : ((b : Int) == 95) = false := by simp; omega
              have f3 : decide ((b : Int) < 48) = false := by simp; omega
              have f4 : decide (57 < (b : Int)) = true := by simp; omega
              have f5 : decide (97 ≤ (b : Int)) = false := by simp; omega
              have f6 : decide ((b : Int) ≤ 122) = true := by simp; omega
              have z1 : ((k : Int) == 0) = false := by simp; omega
              have z2 : decide (0 < (k : Int)) = true := by simp; omega
              have z3 : decide (0 < k) = true := by simp; omega
              have z4 : 0 < k := by omega
              have HR := Lib.hid (HN1.out (by unfold okAt; omega))
              clear HS HN1
              go_wp2_with fail
              (try rw [Exit.noGoto_ret])
              go_ret
              exact ⟨by rw [HR.out]; rfl, rfl⟩
          · by_cases hz : k = 0
            · have f0 : decide (65 ≤ (b : Int)) = true := by simp; omega
              have f1 : decide ((b : Int) ≤ 90) = false := by simp; omega
              have f2 : ((b : Int) == 95) = true := by simp; omega
              have f3 : decide ((b : Int) < 48) = false := by simp; omega
              have f4 : decide (57 < (b : Int)) = true := by simp; omega
              have f5 : decide (97 ≤ (b : Int)) = false := by simp; omega
              have f6 : decide ((b : Int) ≤ 122) = true := by simp; omega
              have hk0 : k = 0 := hz
              subst hk0
              have z1 : ((0 : Int) == 0) = true := by simp
              have HR := Lib.hid (HS.out (by unfold okAt; omega))
              clear HS HN1
              go_wp2_with fail
              go_round
              case rel => exact ⟨0 + 1, by omega, by go_num, HR.out⟩
              case measure => simp [intOf]; omega
            · have f0 : decide (65 ≤ (b : Int)) = true := by simp; omega
              have f1 : decide ((b : Int) ≤ 90) = false := by simp; omega
              have f2 : ((b : Int) == 95) = true := by simp; omega
              have f3 : decide ((b : Int) < 48) = false := by simp; omega
              have f4 : decide (57 < (b : Int)) = true := by simp; omega
              have f5 : decide (97 ≤ (b : Int)) = false := by simp; omega
              have f6 : decide ((b : Int) ≤ 122) = true := by simp; omega
              have z1 : ((k : Int) == 0) = false := by simp; omega
              have z2 : decide (0 < (k : Int)) = true := by simp; omega
              have z3 : decide (0 < k) = true := by simp; omega
              have z4 : 0 < k := by omega
              have HR := Lib.hid (HS.out (by unfold okAt; omega))
              clear HS HN1
              go_wp2_with fail
              go_round
              case rel => exact ⟨k + 1, by omega, by go_num, HR.out⟩
              case measure => simp [intOf]; omega
          · by_cases hz : k = 0
            · have f0 : decide (65 ≤ (b : Int)) = true := by simp; omega
              have f1 : decide ((b : Int) ≤ 90) = false := by simp; omega
              have f2 : ((b : Int) == 95) = false := by simp; omega
              have f3 : decide ((b : Int) < 48) = false := by simp; omega
              have f4 : decide (57 < (b : Int)) = true := by simp; omega
              have f5 : decide (97 ≤ (b : Int)) = false := by simp; omega
              have f6 : decide ((b : Int) ≤ 122) = true := by simp; omega
              have hk0 : k = 0 := hz
              subst hk0
              have z1 : ((0 : Int) == 0) = true := by simp
              have HR := Lib.hid (HN1.out (by unfold okAt; omega))
              clear HS HN1
              go_wp2_with fail
              (try rw [Exit.noGoto_ret])
              go_ret
              exact ⟨by rw [HR.out]; rfl, rfl⟩
            · have f0 : decide (65 ≤ (b : Int)) = true := by simp; omega
              have f1 : decide ((b : Int) ≤ 90) = false := by simp; omega
              have f2 : ((b : Int) == 95) = false := by simp; omega
              have f3 : decide ((b : Int) < 48) = false := by simp; omega
              have f4 : decide (57 < (b : Int)) = true := by simp; omega
              have f5 : decide (97 ≤ (b : Int)) = false := by simp; omega
              have f6 : decide ((b : Int) ≤ 122) = true := by simp; omega
              have z1 : ((k : Int) == 0) = false := by simp; omega
              have z2 : decide (0 < (k : Int)) = true := by simp; omega
              have z3 : decide (0 < k) = true := by simp; omega
              have z4 : 0 < k := by omega
              have HR := Lib.hid (HN1.out (by unfold okAt; omega))
              clear HS HN1
              go_wp2_with fail
              (try rw [Exit.noGoto_ret])
              go_ret
              exact ⟨by rw [HR.out]; rfl, rfl⟩
          · by_cases hz : k = 0
            · have f0 : decide (65 ≤ (b : Int)) = true := by simp; omega
              have f1 : decide ((b : Int) ≤ 90) = false := by simp; omega
              have f2 : ((b : Int) == 95) = false := by simp; omega
              have f3 : decide ((b : Int) < 48) = false := by simp; omega
              have f4 : decide (57 < (b : Int)) = true := by simp; omega
              have f5 : decide (97 ≤ (b : Int)) = true := by simp; omega
              have f6 : decide ((b : Int) ≤ 122) = true := by simp; omega
              have hk0 : k = 0 := hz
              subst hk0
              have z1 : ((0 : Int) == 0) = true := by simp
              have HR := Lib.hid (HN1.out (by unfold okAt; omega))
              clear HS HN1
              go_wp2_with fail
              (try rw [Exit.noGoto_ret])
              go_ret
              exact ⟨by rw [HR.out]; rfl, rfl⟩
            · have f0 : decide (65 ≤ (b : Int)) = true := by simp; omega
              have f1 : decide ((b : Int) ≤ 90) = false := by simp; omega
              have f2 : ((b : Int) == 95) = false := by simp; omega
              have f3 : decide ((b : Int) < 48) = false := by simp; omega
              have f4 : decide (57 < (b : Int)) = true := by simp; omega
              have f5 : decide (97 ≤ (b : Int)) = true := by simp; omega
              have f6 : decide ((b : Int) ≤ 122) = true := by simp; omega
              have z1 : ((k : Int) == 0) = false := by simp; omega
              have z2 : decide (0 < (k : Int)) = true := by simp; omega
              have z3 : decide (0 < k) = true := by simp; omega
              have z4 : 0 < k := by omega
              have HR := Lib.hid (HN1.out (by unfold okAt; omega))
              clear HS HN1
              go_wp2_with fail
              (try rw [Exit.noGoto_ret])
              go_ret
              exact ⟨by rw [HR.out]; rfl, rfl⟩
          · by_cases hz : k = 0
            · have f0 : decide (65 ≤ (b : Int)) = true := by simp; omega
              have f1 : decide ((b : Int) ≤ 90) = false := by simp; omega
              have f2 : ((b : Int) == 95) = false := by simp; omega
              have f3 : decide ((b : Int) < 48) = false := by simp; omega
              have f4 : decide (57 < (b : Int)) = true := by simp; omega
              have f5 : decide (97 ≤ (b : Int)) = true := by simp; omega
              have f6 : decide ((b : Int) ≤ 122) = false := by simp; omega
              have hk0 : k = 0 := hz
              subst hk0
              have z1 : ((0 : Int) == 0) = true := by simp
              have HR := Lib.hid (HN1.out (by unfold okAt; omega))
              clear HS HN1
              go_wp2_with fail
              (try rw [Exit.noGoto_ret])
              go_ret
              exact ⟨by rw [HR.out]; rfl, rfl⟩
            · have f0 : decide (65 ≤ (b : Int)) = true := by simp; omega
              have f1 : decide ((b : Int) ≤ 90) = false := by simp; omega
              have f2 : ((b : Int) == 95) = false := by simp; omega
              have f3 : decide ((b : Int) < 48) = false := by simp; omega
              have f4 : decide (57 < (b : Int)) = true := by simp; omega
              have f5 : decide (97 ≤ (b : Int)) = true := by simp; omega
              have f6 : decide ((b : Int) ≤ 122) = false := by simp; omega
              have z1 : ((k : Int) == 0) = false := by simp; omega
              have z2 : decide (0 < (k : Int)) = true := by simp; omega
              have z3 : decide (0 < k) = true := by simp; omega
              have z4 : 0 < k := by omega
              have HR := Lib.hid (HN1.out (by unfold okAt; omega))
              clear HS HN1
              go_wp2_with fail
              (try rw [Exit.noGoto_ret])
              go_ret
              exact ⟨by rw [HR.out]; rfl, rfl⟩
        · have hks : k = s.size := by omega
          have HR := Lib.hid (HY.out (fun j hj => hu j hj (by omega)))
          clear hu HN HY
          go_wp2_with fail
          go_ret
          exact ⟨by rw [HR.out]; rfl, rfl⟩
    · have hn := Lib.hid (name_short (s := s) (by omega))
      have h3 : decide (10 < (s.size : Int)) = true := by simp; omega
      go_enter Tryd.func24, Tryd.ntmps24
      go_wp2_with fail
      go_ret
      exact ⟨by rw [hn.out]; rfl, rfl⟩
set_option maxHeartbeats 8000000 in
theorem isWord_any (s : ByteArray) (w : World) (hs : s.size ≤ 140737488355328) : Calls Tryd.prog 45 #[.string s, .int .i64 10] w (NmP s w) := by
  by_cases h0 : s.size = 0
  · have hn := Lib.hid (name_short (s := s) (by omega))
    have h1 : decide ((s.size : Int) < 1) = true := by simp; omega
    clear h0
    go_enter Tryd.func45, Tryd.ntmps45
    go_wp2_with fail
    go_ret
    exact ⟨by rw [hn.out]; rfl, rfl⟩
  · have h1 : decide ((s.size : Int) < 1) = false := by simp; omega
    by_cases h2 : s.size ≤ 10
    · have HY := Lib.hid (name_yes (s := s) (by omega) h2)
      have HN := Lib.hid (fun k => name_no (s := s) k)
      have h3 : decide (10 < (s.size : Int)) = false := by simp; omega
      go_enter Tryd.func45, Tryd.ntmps45
      go_wp2_with fail
      go_loop [5] (fun i => ∃ k : Nat, k ≤ s.size ∧ i = .int .i64 k ∧ Upto s k) (fun i => s.size - (intOf i).toNat)
      case atStart => exact ⟨0, by omega, rfl, fun j _ h => absurd h (Nat.not_lt_zero _)⟩
      case round =>
        obtain ⟨k, hk, rfl, hu⟩ := hrel
        by_cases hlt : k < s.size
        · have HN1 := Lib.hid (HN.out k hlt)
          have HS := Lib.hid (upto_step hlt hu)
          clear hu HN HY
          obtain ⟨b, hb⟩ : ∃ b, s[k].toNat = b := ⟨_, rfl⟩
          have hb256 : b < 256 := by rw [← hb]; exact byte_lt _
          rw [hb] at HN1 HS
          rcases (show (0 ≤ b ∧ b ≤ 47) ∨ (48 ≤ b ∧ b ≤ 57) ∨ (58 ≤ b ∧ b ≤ 64) ∨ (65 ≤ b ∧ b ≤ 90) ∨ (91 ≤ b ∧ b ≤ 94) ∨ (95 ≤ b ∧ b ≤ 95) ∨ (96 ≤ b ∧ b ≤ 96) ∨ (97 ≤ b ∧ b ≤ 122) ∨ (123 ≤ b ∧ b ≤ 255) by omega) with ⟨q1, q2⟩ | ⟨q1, q2⟩ | ⟨q1, q2⟩ | ⟨q1, q2⟩ | ⟨q1, q2⟩ | ⟨q1, q2⟩ | ⟨q1, q2⟩ | ⟨q1, q2⟩ | ⟨q1, q2⟩
          · by_cases hz : k = 0
            · have f0 : decide (65 ≤ (b : Int)) = false := by simp; omega
              have f1 : decide ((b : Int) ≤ 90) = true := by simp; omega
              have f2 : ((b : Int) == 95) = false := by simp; omega
              have f3 : decide ((b : Int) < 48) = true := by simp; omega
              have f4 : decide (57 < (b : Int)) = false := by simp; omega
              have f5 : decide (97 ≤ (b : Int)) = false := by simp; omega
              have f6 : decide ((b : Int) ≤ 122) = true := by simp; omega
              have hk0 : k = 0 := hz
              subst hk0
              have z1 : ((0 : Int) == 0) = true := by simp
              have HLE := Lib.hid (fun W => (by have := isLetter_any b (by omega) W; rw [show isLet b = false by unfold isLet; simp; omega] at this; exact this : Calls Tryd.prog 66 #[.int .u8 b] W fun e w1 => e = .returned (.bool false) ∧ W = w1))
              have HR := Lib.hid (HN1.out (by unfold okAt; omega))
              clear HS HN1
              go_wp2_with fail
              refine (HLE.out _).mono ?_
              rintro e y1 ⟨rfl, rfl⟩
              go_wp2_with fail
              (try rw [Exit.noGoto_ret])
              go_ret
              exact ⟨by rw [HR.out]; rfl, rfl⟩
            · have f0 : decide (65 ≤ (b : Int)) = false := by simp; omega
              have f1 : decide ((b : Int) ≤ 90) = true := by simp; omega
              have f2 : ((b : Int) == 95) = false := by simp; omega
              have f3 : decide ((b : Int) < 48) = true := by simp; omega
              have f4 : decide (57 < (b : Int)) = false := by simp; omega
              have f5 : decide (97 ≤ (b : Int)) = false := by simp; omega
              have f6 : decide ((b : Int) ≤ 122) = true := by simp; omega
              have z1 : ((k : Int) == 0) = false := by simp; omega
              have z2 : decide (0 < (k : Int)) = true := by simp; omega
              have z3 : decide (0 < k) = true := by simp; omega
              have z4 : 0 < k := by omega
              have HLE := Lib.hid (fun W => (by have := isLetter_any b (by omega) W; rw [show isLet b = false by unfold isLet; simp; omega] at this; exact this : Calls Tryd.prog 66 #[.int .u8 b] W fun e w1 => e = .returned (.bool false) ∧ W = w1))
              have HD := Lib.hid (fun W => digit_no b W (by omega))
              have HR := Lib.hid (HN1.out (by unfold okAt; omega))
              clear HS HN1
              go_wp2_with fail
              refine (HLE.out _).mono ?_
              rintro e y1 ⟨rfl, rfl⟩
              go_wp2_with fail
              refine (HD.out _).mono ?_
              rintro e y1 ⟨rfl, rfl⟩
              go_wp2_with fail
              (try rw [Exit.noGoto_ret])
              go_ret
              exact ⟨by rw [HR.out]; rfl, rfl⟩
          · by_cases hz : k = 0
            · have f0 : decide (65 ≤ (b : Int)) = false := by simp; omega
              have f1 : decide ((b : Int) ≤ 90) = true := by simp; omega
              have f2 : ((b : Int) == 95) = false := by simp; omega
              have f3 : decide ((b : Int) < 48) = false := by simp; omega
              have f4 : decide (57 < (b : Int)) = false := by simp; omega
              have f5 : decide (97 ≤ (b : Int)) = false := by simp; omega
              have f6 : decide ((b : Int) ≤ 122) = true := by simp; omega
              have hk0 : k = 0 := hz
              subst hk0
              have z1 : ((0 : Int) == 0) = true := by simp
              have HLE := Lib.hid (fun W => (by have := isLetter_any b (by omega) W; rw [show isLet b = false by unfold isLet; simp; omega] at this; exact this : Calls Tryd.prog 66 #[.int .u8 b] W fun e w1 => e = .returned (.bool false) ∧ W = w1))
              have HR := Lib.hid (HN1.out (by unfold okAt; omega))
              clear HS HN1
              go_wp2_with fail
              refine (HLE.out _).mono ?_
              rintro e y1 ⟨rfl, rfl⟩
              go_wp2_with fail
              (try rw [Exit.noGoto_ret])
              go_ret
              exact ⟨by rw [HR.out]; rfl, rfl⟩
            · have f0 : decide (65 ≤ (b : Int)) = false := by simp; omega
              have f1 : decide ((b : Int) ≤ 90) = true := by simp; omega
              have f2 : ((b : Int) == 95) = false := by simp; omega
              have f3 : decide ((b : Int) < 48) = false := by simp; omega
              have f4 : decide (57 < (b : Int)) = false := by simp; omega
              have f5 : decide (97 ≤ (b : Int)) = false := by simp; omega
              have f6 : decide ((b : Int) ≤ 122) = true := by simp; omega
              have z1 : ((k : Int) == 0) = false := by simp; omega
              have z2 : decide (0 < (k : Int)) = true := by simp; omega
              have z3 : decide (0 < k) = true := by simp; omega
              have z4 : 0 < k := by omega
              have HLE := Lib.hid (fun W => (by have := isLetter_any b (by omega) W; rw [show isLet b = false by unfold isLet; simp; omega] at this; exact this : Calls Tryd.prog 66 #[.int .u8 b] W fun e w1 => e = .returned (.bool false) ∧ W = w1))
              have HD := Lib.hid (fun W => digit_yes b W (by omega))
              have HR := Lib.hid (HS.out (by unfold okAt; omega))
              clear HS HN1
              go_wp2_with fail
              refine (HLE.out _).mono ?_
              rintro e y1 ⟨rfl, rfl⟩
              go_wp2_with fail
              refine (HD.out _).mono ?_
              rintro e y1 ⟨rfl, rfl⟩
              go_wp2_with fail
              go_round
              case rel => exact ⟨k + 1, by omega, by go_num, HR.out⟩
              case measure => simp [intOf]; omega
          · by_cases hz : k = 0
            · have f0 : decide (65 ≤ (b : Int)) = false := by simp; omega
              have f1 : decide ((b : Int) ≤ 90) = true := by simp; omega
              have f2 : ((b : Int) == 95) = false := by simp; omega
              have f3 : decide ((b : Int) < 48) = false := by simp; omega
              have f4 : decide (57 < (b : Int)) = true := by simp; omega
              have f5 : decide (97 ≤ (b : Int)) = false := by simp; omega
              have f6 : decide ((b : Int) ≤ 122) = true := by simp; omega
              have hk0 : k = 0 := hz
              subst hk0
              have z1 : ((0 : Int) == 0) = true := by simp
              have HLE := Lib.hid (fun W => (by have := isLetter_any b (by omega) W; rw [show isLet b = false by unfold isLet; simp; omega] at this; exact this : Calls Tryd.prog 66 #[.int .u8 b] W fun e w1 => e = .returned (.bool false) ∧ W = w1))
              have HR := Lib.hid (HN1.out (by unfold okAt; omega))
              clear HS HN1
              go_wp2_with fail
              refine (HLE.out _).mono ?_
              rintro e y1 ⟨rfl, rfl⟩
              go_wp2_with fail
              (try rw [Exit.noGoto_ret])
              go_ret
              exact ⟨by rw [HR.out]; rfl, rfl⟩
            · have f0 : decide (65 ≤ (b : Int)) = false := by simp; omega
              have f1 : decide ((b : Int) ≤ 90) = true := by simp; omega
              have f2 : ((b : Int) == 95) = false := by simp; omega
              have f3 : decide ((b : Int) < 48) = false := by simp; omega
              have f4 : decide (57 < (b : Int)) = true := by simp; omega
              have f5 : decide (97 ≤ (b : Int)) = false := by simp; omega
              have f6 : decide ((b : Int) ≤ 122) = true := by simp; omega
              have z1 : ((k : Int) == 0) = false := by simp; omega
              have z2 : decide (0 < (k : Int)) = true := by simp; omega
              have z3 : decide (0 < k) = true := by simp; omega
              have z4 : 0 < k := by omega
              have HLE := Lib.hid (fun W => (by have := isLetter_any b (by omega) W; rw [show isLet b = false by unfold isLet; simp; omega] at this; exact this : Calls Tryd.prog 66 #[.int .u8 b] W fun e w1 => e = .returned (.bool false) ∧ W = w1))
              have HD := Lib.hid (fun W => digit_no b W (by omega))
              have HR := Lib.hid (HN1.out (by unfold okAt; omega))
              clear HS HN1
              go_wp2_with fail
              refine (HLE.out _).mono ?_
              rintro e y1 ⟨rfl, rfl⟩
              go_wp2_with fail
              refine (HD.out _).mono ?_
              rintro e y1 ⟨rfl, rfl⟩
              go_wp2_with fail
              (try rw [Exit.noGoto_ret])
              go_ret
              exact ⟨by rw [HR.out]; rfl, rfl⟩
          · by_cases hz : k = 0
            · have f0 : decide (65 ≤ (b : Int)) = true := by simp; omega
              have f1 : decide ((b : Int) ≤ 90) = true := by simp; omega
              have f2 : ((b : Int) == 95) = false := by simp; omega
              have f3 : decide ((b : Int) < 48) = false := by simp; omega
              have f4 : decide (57 < (b : Int)) = true := by simp; omega
              have f5 : decide (97 ≤ (b : Int)) = false := by simp; omega
              have f6 : decide ((b : Int) ≤ 122) = true := by simp; omega
              have hk0 : k = 0 := hz
              subst hk0
              have z1 : ((0 : Int) == 0) = true := by simp
              have HLE := Lib.hid (fun W => (by have := isLetter_any b (by omega) W; rw [show isLet b = true by unfold isLet; simp; omega] at this; exact this : Calls Tryd.prog 66 #[.int .u8 b] W fun e w1 => e = .returned (.bool true) ∧ W = w1))
              have HR := Lib.hid (HS.out (by unfold okAt; omega))
              clear HS HN1
              go_wp2_with fail
              refine (HLE.out _).mono ?_
              rintro e y1 ⟨rfl, rfl⟩
              go_wp2_with fail
              go_round
              case rel => exact ⟨0 + 1, by omega, by go_num, HR.out⟩
              case measure => simp [intOf]; omega
            · have f0 : decide (65 ≤ (b : Int)) = true := by simp; omega
              have f1 : decide ((b : Int) ≤ 90) = true := by simp; omega
              have f2 : ((b : Int) == 95) = false := by simp; omega
              have f3 : decide ((b : Int) < 48) = false := by simp; omega
              have f4 : decide (57 < (b : Int)) = true := by simp; omega
              have f5 : decide (97 ≤ (b : Int)) = false := by simp; omega
              have f6 : decide ((b : Int) ≤ 122) = true := by simp; omega
              have z1 : ((k : Int) == 0) = false := by simp; omega
              have z2 : decide (0 < (k : Int)) = true := by simp; omega
              have z3 : decide (0 < k) = true := by simp; omega
              have z4 : 0 < k := by omega
              have HLE := Lib.hid (fun W => (by have := isLetter_any b (by omega) W; rw [show isLet b = true by unfold isLet; simp; omega] at this; exact this : Calls Tryd.prog 66 #[.int .u8 b] W fun e w1 => e = .returned (.bool true) ∧ W = w1))
              have HR := Lib.hid (HS.out (by unfold okAt; omega))
              clear HS HN1
              go_wp2_with fail
              refine (HLE.out _).mono ?_
              rintro e y1 ⟨rfl, rfl⟩
              go_wp2_with fail
              go_round
              case rel => exact ⟨k + 1, by omega, by go_num, HR.out⟩
              case measure => simp [intOf]; omega
          · by_cases hz : k = 0
            · have f0 : decide (65 ≤ (b : Int)) = true := by simp; omega
              have f1 : decide ((b : Int) ≤ 90) = false := by simp; omega
              have f2 : ((b : Int) == 95) = false := by simp; omega
              have f3 : decide ((b : Int) < 48) = false := by simp; omega
              have f4 : decide (57 < (b : Int)) = true := by simp; omega
              have f5 : decide (97 ≤ (b : Int)) = false := by simp; omega
              have f6 : decide ((b : Int) ≤ 122) = true := by simp; omega
              have hk0 : k = 0 := hz
              subst hk0
              have z1 : ((0 : Int) == 0) = true := by simp
              have HLE := Lib.hid (fun W => (by have := isLetter_any b (by omega) W; rw [show isLet b = false by unfold isLet; simp; omega] at this; exact this : Calls Tryd.prog 66 #[.int .u8 b] W fun e w1 => e = .returned (.bool false) ∧ W = w1))
              have HR := Lib.hid (HN1.out (by unfold okAt; omega))
              clear HS HN1
              go_wp2_with fail
              refine (HLE.out _).mono ?_
              rintro e y1 ⟨rfl, rfl⟩
              go_wp2_with fail
              (try rw [Exit.noGoto_ret])
              go_ret
              exact ⟨by rw [HR.out]; rfl, rfl⟩
            · have f0 : decide (65 ≤ (b : Int)) = true := by simp; omega
              have f1 : decide ((b : Int) ≤ 90) = false := by simp; omega
              have f2 : ((b : Int) == 95) = false := by simp; omega
              have f3 : decide ((b : Int) < 48) = false := by simp; omega
              have f4 : decide (57 < (b : Int)) = true := by simp; omega
              have f5 : decide (97 ≤ (b : Int)) = false := by simp; omega
              have f6 : decide ((b : Int) ≤ 122) = true := by simp; omega
              have z1 : ((k : Int) == 0) = false := by simp; omega
              have z2 : decide (0 < (k : Int)) = true := by simp; omega
              have z3 : decide (0 < k) = true := by simp; omega
              have z4 : 0 < k := by omega
              have HLE := Lib.hid (fun W => (by have := isLetter_any b (by omega) W; rw [show isLet b = false by unfold isLet; simp; omega] at this; exact this : Calls Tryd.prog 66 #[.int .u8 b] W fun e w1 => e = .returned (.bool false) ∧ W = w1))
              have HD := Lib.hid (fun W => digit_no b W (by omega))
              have HR := Lib.hid (HN1.out (by unfold okAt; omega))
              clear HS HN1
              go_wp2_with fail
              refine (HLE.out _).mono ?_
              rintro e y1 ⟨rfl, rfl⟩
              go_wp2_with fail
              refine (HD.out _).mono ?_
              rintro e y1 ⟨rfl, rfl⟩
              go_wp2_with fail
              (try rw [Exit.noGoto_ret])
              go_ret
              exact ⟨by rw [HR.out]; rfl, rfl⟩
          · by_cases hz : k = 0
            · have f0 : decide (65 ≤ (b : Int)) = true := by simp; omega
              have f1 : decide ((b : Int) ≤ 90) = false := by simp; omega
              have f2 : ((b : Int) == 95) = true := by simp; omega
              have f3 : decide ((b : Int) < 48) = false := by simp; omega
              have f4 : decide (57 < (b : Int)) = true := by simp; omega
              have f5 : decide (97 ≤ (b : Int)) = false := by simp; omega
              have f6 : decide ((b : Int) ≤ 122) = true := by simp; omega
              have hk0 : k = 0 := hz
              subst hk0
              have z1 : ((0 : Int) == 0) = true := by simp
              have HLE := Lib.hid (fun W => (by have := isLetter_any b (by omega) W; rw [show isLet b = true by unfold isLet; simp; omega] at this; exact this : Calls Tryd.prog 66 #[.int .u8 b] W fun e w1 => e = .returned (.bool true) ∧ W = w1))
              have HR := Lib.hid (HS.out (by unfold okAt; omega))
              clear HS HN1
              go_wp2_with fail
              refine (HLE.out _).mono ?_
              rintro e y1 ⟨rfl, rfl⟩
              go_wp2_with fail
              go_round
              case rel => exact ⟨0 + 1, by omega, by go_num, HR.out⟩
              case measure => simp [intOf]; omega
            · have f0 : decide (65 ≤ (b : Int)) = true := by simp; omega
              have f1 : decide ((b : Int) ≤ 90) = false := by simp; omega
              have f2 : ((b : Int) == 95) = true := by simp; omega
              have f3 : decide ((b : Int) < 48) = false := by simp; omega
              have f4 : decide (57 < (b : Int)) = true := by simp; omega
              have f5 : decide (97 ≤ (b : Int)) = false := by simp; omega
              have f6 : decide ((b : Int) ≤ 122) = true := by simp; omega
              have z1 : ((k : Int) == 0) = false := by simp; omega
              have z2 : decide (0 < (k : Int)) = true := by simp; omega
              have z3 : decide (0 < k) = true := by simp; omega
              have z4 : 0 < k := by omega
              have HLE := Lib.hid (fun W => (by have := isLetter_any b (by omega) W; rw [show isLet b = true by unfold isLet; simp; omega] at this; exact this : Calls Tryd.prog 66 #[.int .u8 b] W fun e w1 => e = .returned (.bool true) ∧ W = w1))
              have HR := Lib.hid (HS.out (by unfold okAt; omega))
              clear HS HN1
              go_wp2_with fail
              refine (HLE.out _).mono ?_
              rintro e y1 ⟨rfl, rfl⟩
              go_wp2_with fail
              go_round
              case rel => exact ⟨k + 1, by omega, by go_num, HR.out⟩
              case measure => simp [intOf]; omega
          · by_cases hz : k = 0
            · have f0 : decide (65 ≤ (b : Int)) = true := by simp; omega
              have f1 : decide ((b : Int) ≤ 90) = false := by simp; omega
              have f2 : ((b : Int) == 95) = false := by simp; omega
              have f3 : decide ((b : Int) < 48) = false := by simp; omega
              have f4 : decide (57 < (b : Int)) = true := by simp; omega
              have f5 : decide (97 ≤ (b : Int)) = false := by simp; omega
              have f6 : decide ((b : Int) ≤ 122) = true := by simp; omega
              have hk0 : k = 0 := hz
              subst hk0
              have z1 : ((0 : Int) == 0) = true := by simp
              have HLE := Lib.hid (fun W => (by have := isLetter_any b (by omega) W; rw [show isLet b = false by unfold isLet; simp; omega] at this; exact this : Calls Tryd.prog 66 #[.int .u8 b] W fun e w1 => e = .returned (.bool false) ∧ W = w1))
              have HR := Lib.hid (HN1.out (by unfold okAt; omega))
              clear HS HN1
              go_wp2_with fail
              refine (HLE.out _).mono ?_
              rintro e y1 ⟨rfl, rfl⟩
              go_wp2_with fail
              (try rw [Exit.noGoto_ret])
              go_ret
              exact ⟨by rw [HR.out]; rfl, rfl⟩
            · have f0 : decide (65 ≤ (b : Int)) = true := by simp; omega
              have f1 : decide ((b : Int) ≤ 90) = false := by simp; omega
              have f2 : ((b : Int) == 95) = false := by simp; omega
              have f3 : decide ((b : Int) < 48) = false := by simp; omega
              have f4 : decide (57 < (b : Int)) = true := by simp; omega
              have f5 : decide (97 ≤ (b : Int)) = false := by simp; omega
              have f6 : decide ((b : Int) ≤ 122) = true := by simp; omega
              have z1 : ((k : Int) == 0) = false := by simp; omega
              have z2 : decide (0 < (k : Int)) = true := by simp; omega
              have z3 : decide (0 < k) = true := by simp; omega
              have z4 : 0 < k := by omega
              have HLE := Lib.hid (fun W => (by have := isLetter_any b (by omega) W; rw [show isLet b = false by unfold isLet; simp; omega] at this; exact this : Calls Tryd.prog 66 #[.int .u8 b] W fun e w1 => e = .returned (.bool false) ∧ W = w1))
              have HD := Lib.hid (fun W => digit_no b W (by omega))
              have HR := Lib.hid (HN1.out (by unfold okAt; omega))
              clear HS HN1
              go_wp2_with fail
              refine (HLE.out _).mono ?_
              rintro e y1 ⟨rfl, rfl⟩
              go_wp2_with fail
              refine (HD.out _).mono ?_
              rintro e y1 ⟨rfl, rfl⟩
              go_wp2_with fail
              (try rw [Exit.noGoto_ret])
              go_ret
              exact ⟨by rw [HR.out]; rfl, rfl⟩
          · by_cases hz : k = 0
            · have f0 : decide (65 ≤ (b : Int)) = true := by simp; omega
              have f1 : decide ((b : Int) ≤ 90) = false := by simp; omega
              have f2 : ((b : Int) == 95) = false := by simp; omega
              have f3 : decide ((b : Int) < 48) = false := by simp; omega
              have f4 : decide (57 < (b : Int)) = true := by simp; omega
              have f5 : decide (97 ≤ (b : Int)) = true := by simp; omega
              have f6 : decide ((b : Int) ≤ 122) = true := by simp; omega
              have hk0 : k = 0 := hz
              subst hk0
              have z1 : ((0 : Int) == 0) = true := by simp
              have HLE := Lib.hid (fun W => (by have := isLetter_any b (by omega) W; rw [show isLet b = true by unfold isLet; simp; omega] at this; exact this : Calls Tryd.prog 66 #[.int .u8 b] W fun e w1 => e = .returned (.bool true) ∧ W = w1))
              have HR := Lib.hid (HN1.out (by unfold okAt; omega))
              clear HS HN1
              go_wp2_with fail
              refine (HLE.out _).mono ?_
              rintro e y1 ⟨rfl, rfl⟩
              go_wp2_with fail
              (try rw [Exit.noGoto_ret])
              go_ret
              exact ⟨by rw [HR.out]; rfl, rfl⟩
            · have f0 : decide (65 ≤ (b : Int)) = true := by simp; omega
              have f1 : decide ((b : Int) ≤ 90) = false := by simp; omega
              have f2 : ((b : Int) == 95) = false := by simp; omega
              have f3 : decide ((b : Int) < 48) = false := by simp; omega
              have f4 : decide (57 < (b : Int)) = true := by simp; omega
              have f5 : decide (97 ≤ (b : Int)) = true := by simp; omega
              have f6 : decide ((b : Int) ≤ 122) = true := by simp; omega
              have z1 : ((k : Int) == 0) = false := by simp; omega
              have z2 : decide (0 < (k : Int)) = true := by simp; omega
              have z3 : decide (0 < k) = true := by simp; omega
              have z4 : 0 < k := by omega
              have HLE := Lib.hid (fun W => (by have := isLetter_any b (by omega) W; rw [show isLet b = true by unfold isLet; simp; omega] at this; exact this : Calls Tryd.prog 66 #[.int .u8 b] W fun e w1 => e = .returned (.bool true) ∧ W = w1))
              have HR := Lib.hid (HN1.out (by unfold okAt; omega))
              clear HS HN1
              go_wp2_with fail
              refine (HLE.out _).mono ?_
              rintro e y1 ⟨rfl, rfl⟩
              go_wp2_with fail
              (try rw [Exit.noGoto_ret])
              go_ret
              exact ⟨by rw [HR.out]; rfl, rfl⟩
          · by_cases hz : k = 0
            · have f0 : decide (65 ≤ (b : Int)) = true := by simp; omega
              have f1 : decide ((b : Int) ≤ 90) = false := by simp; omega
              have f2 : ((b : Int) == 95) = false := by simp; omega
              have f3 : decide ((b : Int) < 48) = false := by simp; omega
              have f4 : decide (57 < (b : Int)) = true := by simp; omega
              have f5 : decide (97 ≤ (b : Int)) = true := by simp; omega
              have f6 : decide ((b : Int) ≤ 122) = false := by simp; omega
              have hk0 : k = 0 := hz
              subst hk0
              have z1 : ((0 : Int) == 0) = true := by simp
              have HLE := Lib.hid (fun W => (by have := isLetter_any b (by omega) W; rw [show isLet b = false by unfold isLet; simp; omega] at this; exact this : Calls Tryd.prog 66 #[.int .u8 b] W fun e w1 => e = .returned (.bool false) ∧ W = w1))
              have HR := Lib.hid (HN1.out (by unfold okAt; omega))
              clear HS HN1
              go_wp2_with fail
              refine (HLE.out _).mono ?_
              rintro e y1 ⟨rfl, rfl⟩
              go_wp2_with fail
              (try rw [Exit.noGoto_ret])
              go_ret
              exact ⟨by rw [HR.out]; rfl, rfl⟩
            · have f0 : decide (65 ≤ (b : Int)) = true := by simp; omega
              have f1 : decide ((b : Int) ≤ 90) = false := by simp; omega
              have f2 : ((b : Int) == 95) = false := by simp; omega
              have f3 : decide ((b : Int) < 48) = false := by simp; omega
              have f4 : decide (57 < (b : Int)) = true := by simp; omega
              have f5 : decide (97 ≤ (b : Int)) = true := by simp; omega
              have f6 : decide ((b : Int) ≤ 122) = false := by simp; omega
              have z1 : ((k : Int) == 0) = false := by simp; omega
              have z2 : decide (0 < (k : Int)) = true := by simp; omega
              have z3 : decide (0 < k) = true := by simp; omega
              have z4 : 0 < k := by omega
              have HLE := Lib.hid (fun W => (by have := isLetter_any b (by omega) W; rw [show isLet b = false by unfold isLet; simp; omega] at this; exact this : Calls Tryd.prog 66 #[.int .u8 b] W fun e w1 => e = .returned (.bool false) ∧ W = w1))
              have HD := Lib.hid (fun W => digit_no b W (by omega))
              have HR := Lib.hid (HN1.out (by unfold okAt; omega))
              clear HS HN1
              go_wp2_with fail
              refine (HLE.out _).mono ?_
              rintro e y1 ⟨rfl, rfl⟩
              go_wp2_with fail
              refine (HD.out _).mono ?_
              rintro e y1 ⟨rfl, rfl⟩
              go_wp2_with fail
              (try rw [Exit.noGoto_ret])
              go_ret
              exact ⟨by rw [HR.out]; rfl, rfl⟩
        · have hks : k = s.size := by omega
          have HR := Lib.hid (HY.out (fun j hj => hu j hj (by omega)))
          clear hu HN HY
          go_wp2_with fail
          go_ret
          exact ⟨by rw [HR.out]; rfl, rfl⟩
    · have hn := Lib.hid (name_short (s := s) (by omega))
      have h3 : decide (10 < (s.size : Int)) = true := by simp; omega
      go_enter Tryd.func45, Tryd.ntmps45
      go_wp2_with fail
      go_ret
      exact ⟨by rw [hn.out]; rfl, rfl⟩
theorem refIsName_any (s : ByteArray) (w : World) (hs : s.size ≤ 140737488355328) : Calls Tryd.prog 25 #[.string s] w (NmP s w) := by
  have HC := Lib.hid (fun W => isWord_any s W hs)
  go_enter Tryd.func25, Tryd.ntmps25
  go_wp2_with fail
  refine (HC.out _).mono ?_
  rintro e w1 ⟨rfl, rfl⟩
  go_wp2_with fail
  go_ret
  exact ⟨rfl, rfl⟩
end Go.Proofs.YthagfammfejenaaDoor
