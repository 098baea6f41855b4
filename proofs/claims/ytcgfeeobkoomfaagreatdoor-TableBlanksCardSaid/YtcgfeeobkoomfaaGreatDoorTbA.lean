/- Names and fields of both. -/
import Derived.Test.YtcgfeeobkoomfaaGreatDoorProg
import Derived.Test.YtcgfeeobkoomfaaGreatDoorChecked
import Derived.WalkKit
import Derived.Lib.Hide
import Derived.Below
import Derived.WalkSpells
import Derived.Lib.Bytes
namespace Go.Proofs.YtcgfeeobkoomfaaGreatDoor
open Go.RowKit
set_option linter.unusedVariables false
set_option linter.unusedSimpArgs false
set_option maxRecDepth 40000

def okAt (k b : Nat) : Prop := (65 ≤ b ∧ b ≤ 90) ∨ (k ≠ 0 ∧ ((48 ≤ b ∧ b ≤ 57) ∨ b = 95))
instance (k b : Nat) : Decidable (okAt k b) := by unfold okAt; infer_instance
def nameB (s : ByteArray) : Bool := decide (1 ≤ s.size ∧ s.size ≤ 10 ∧ ∀ k (h : k < s.size), okAt k s[k].toNat)
theorem name_no {s : ByteArray} (k : Nat) (h : k < s.size) (hb : ¬ okAt k s[k].toNat) : nameB s = false := by
  unfold nameB; rw [decide_eq_false]; exact fun h' => hb (h'.2.2 k h)
theorem name_short {s : ByteArray} (h : s.size < 1 ∨ 10 < s.size) : nameB s = false := by
  unfold nameB; rw [decide_eq_false]; intro h'; omega
theorem name_yes {s : ByteArray} (h1 : 1 ≤ s.size) (h2 : s.size ≤ 10) (h : ∀ k (h : k < s.size), okAt k s[k].toNat) : nameB s = true := by
  unfold nameB; rw [decide_eq_true]; exact ⟨h1, h2, h⟩
def Upto (s : ByteArray) (k : Nat) : Prop := ∀ j (h : j < s.size), j < k → okAt j s[j].toNat
theorem upto_step {s : ByteArray} {k : Nat} (h : k < s.size) (hu : Upto s k) (ho : okAt k s[k].toNat) : Upto s (k + 1) := fun j hj hk => by
  rcases Nat.lt_or_eq_of_le (Nat.le_of_lt_succ hk) with h1 | h1
  · exact hu j hj h1
  · subst h1; exact ho
def NmP (s : ByteArray) (w : World) (e : Ending) (w' : World) : Prop := e = .returned (.bool (nameB s)) ∧ w = w'

theorem emp_size (s : ByteArray) : s.toList.isEmpty = decide (s.size = 0) := by
  rw [Lib.toList_data, show s.size = s.data.toList.length from rfl]
  cases s.data.toList <;> simp
set_option maxHeartbeats 4000000 in
theorem isName_any (s : ByteArray) (w : World) (hs : s.size ≤ maxLen) : Calls Tryz.prog 88 #[.string s] w (NmP s w) := by
  unfold maxLen at hs
  have he := emp_size s
  by_cases h0 : s.size = 0
  · have hn := Lib.hid (name_short (s := s) (by omega))
    rw [h0] at he
    simp at he
    have he' : s.toList.isEmpty = true := by rw [he]; rfl
    clear h0 he
    go_enter Tryz.func88, Tryz.ntmps88
    go_wp2_with fail
    go_ret
    exact ⟨by rw [hn.out]; rfl, rfl⟩
  · have he' : s.toList.isEmpty = false := by rw [he]; simp [h0]
    clear he
    by_cases h2 : s.size ≤ 10
    · have HY := Lib.hid (name_yes (s := s) (by omega) h2)
      have HN := Lib.hid (fun k => name_no (s := s) k)
      go_enter Tryz.func88, Tryz.ntmps88
      go_wp2_with fail
      go_loop [15] (fun i => ∃ k : Nat, k ≤ s.size ∧ i = .int .i64 k ∧ Upto s k) (fun i => s.size - (intOf i).toNat)
      case atStart => exact ⟨0, by omega, rfl, fun j _ h => absurd h (Nat.not_lt_zero _)⟩
      case round =>
        obtain ⟨k, hk, rfl, hu⟩ := hrel
        by_cases hlt : k < s.size
        · have HN1 := Lib.hid (HN.out k hlt)
          have HS := Lib.hid (upto_step hlt hu)
          clear hu HN HY
          obtain ⟨b, hb⟩ : ∃ b, s[k].toNat = b := ⟨_, rfl⟩
          rw [hb] at HN1 HS
          by_cases q1 : 65 ≤ b
          · by_cases q2 : b ≤ 90
            · have ho : okAt k b := .inl ⟨q1, q2⟩
              have HR := Lib.hid (HS.out ho)
              clear HS HN1 ho
              go_wp2_with fail
              all_goals
                go_round
                case rel => exact ⟨k + 1, by omega, by go_num, HR.out⟩
                case measure => simp [intOf]; omega
            · have f1 : decide ((b : Int) ≤ 90) = false := by simp; omega
              by_cases z : k = 0
              · subst z
                have HR := Lib.hid (HN1.out (by unfold okAt; omega))
                clear HS HN1
                go_wp2_with fail
                all_goals
                  (try rw [Exit.noGoto_ret])
                  go_ret
                  exact ⟨by rw [HR.out]; rfl, rfl⟩
              · have z' : ((k : Int) == 0) = false := by simp; omega
                by_cases d1 : 48 ≤ b
                · by_cases d2 : b ≤ 57
                  · have HR := Lib.hid (HS.out (.inr ⟨z, .inl ⟨d1, d2⟩⟩))
                    clear HS HN1
                    go_wp2_with fail
                    all_goals
                      go_round
                      case rel => exact ⟨k + 1, by omega, by go_num, HR.out⟩
                      case measure => simp [intOf]; omega
                  · have f2 : decide ((b : Int) ≤ 57) = false := by simp; omega
                    by_cases d3 : b = 95
                    · have d4 : ((b : Int) == 95) = true := by simp; omega
                      have HR := Lib.hid (HS.out (.inr ⟨z, .inr d3⟩))
                      clear HS HN1 d3
                      go_wp2_with fail
                      all_goals
                        go_round
                        case rel => exact ⟨k + 1, by omega, by go_num, HR.out⟩
                        case measure => simp [intOf]; omega
                    · have d4 : ((b : Int) == 95) = false := by simp; omega
                      have HR := Lib.hid (HN1.out (by unfold okAt; omega))
                      clear HS HN1
                      go_wp2_with fail
                      all_goals
                        (try rw [Exit.noGoto_ret])
                        go_ret
                        exact ⟨by rw [HR.out]; rfl, rfl⟩
                · have f2 : decide (48 ≤ (b : Int)) = false := by simp; omega
                  have d4 : ((b : Int) == 95) = false := by simp; omega
                  have HR := Lib.hid (HN1.out (by unfold okAt; omega))
                  clear HS HN1
                  go_wp2_with fail
                  all_goals
                    (try rw [Exit.noGoto_ret])
                    go_ret
                    exact ⟨by rw [HR.out]; rfl, rfl⟩
          · have f1 : decide (65 ≤ (b : Int)) = false := by simp; omega
            by_cases z : k = 0
            · subst z
              have HR := Lib.hid (HN1.out (by unfold okAt; omega))
              clear HS HN1
              go_wp2_with fail
              all_goals
                (try rw [Exit.noGoto_ret])
                go_ret
                exact ⟨by rw [HR.out]; rfl, rfl⟩
            · have z' : ((k : Int) == 0) = false := by simp; omega
              by_cases d1 : 48 ≤ b
              · by_cases d2 : b ≤ 57
                · have HR := Lib.hid (HS.out (.inr ⟨z, .inl ⟨d1, d2⟩⟩))
                  clear HS HN1
                  go_wp2_with fail
                  all_goals
                    go_round
                    case rel => exact ⟨k + 1, by omega, by go_num, HR.out⟩
                    case measure => simp [intOf]; omega
                · have f2 : decide ((b : Int) ≤ 57) = false := by simp; omega
                  by_cases d3 : b = 95
                  · have d4 : ((b : Int) == 95) = true := by simp; omega
                    have HR := Lib.hid (HS.out (.inr ⟨z, .inr d3⟩))
                    clear HS HN1 d3
                    go_wp2_with fail
                    all_goals
                      go_round
                      case rel => exact ⟨k + 1, by omega, by go_num, HR.out⟩
                      case measure => simp [intOf]; omega
                  · have d4 : ((b : Int) == 95) = false := by simp; omega
                    have HR := Lib.hid (HN1.out (by unfold okAt; omega))
                    clear HS HN1
                    go_wp2_with fail
                    all_goals
                      (try rw [Exit.noGoto_ret])
                      go_ret
                      exact ⟨by rw [HR.out]; rfl, rfl⟩
              · have f2 : decide (48 ≤ (b : Int)) = false := by simp; omega
                have d4 : ((b : Int) == 95) = false := by simp; omega
                have HR := Lib.hid (HN1.out (by unfold okAt; omega))
                clear HS HN1
                go_wp2_with fail
                all_goals
                  (try rw [Exit.noGoto_ret])
                  go_ret
                  exact ⟨by rw [HR.out]; rfl, rfl⟩
        · obtain rfl : k = s.size := by omega
          have hr := Lib.hid (HY.out (fun j hj => hu j hj hj))
          go_wp2_with fail
          go_ret
          exact ⟨by rw [hr.out]; rfl, rfl⟩
    · have hn := Lib.hid (name_short (s := s) (by omega))
      have h3 : (10 : Int) < s.size := by omega
      clear h2
      go_enter Tryz.func88, Tryz.ntmps88
      go_wp2_with fail
      go_ret
      exact ⟨by rw [hn.out]; rfl, rfl⟩
end Go.Proofs.YtcgfeeobkoomfaaGreatDoor
