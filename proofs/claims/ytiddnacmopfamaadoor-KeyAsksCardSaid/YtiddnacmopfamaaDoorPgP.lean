/- pair, IsLetter, upper and lower of the reference. -/
import Derived.Test.YtiddnacmopfamaaDoorPgK
namespace Go.Proofs.YtiddnacmopfamaaDoor
open Go.RowKit
set_option linter.unusedVariables false
set_option linter.unusedSimpArgs false

def PairIs (b p : Nat) (w : World) : Prop := Calls Tryd.prog 89 #[.int .u8 b, .int .i64 p] w fun e w' => e = .returned (.tuple #[.bool (pairN p b).1, .bool (pairN p b).2.1, .int .u8 (pairN p b).2.2]) ∧ w = w'

set_option maxHeartbeats 1000000 in
theorem pair_0_0 (b : Nat) (w : World) (h1 : 0 ≤ b) (h2 : b ≤ 64) : PairIs b 0 w := by
  have hv : pairN 0 b = (false, false, 0) := (by decide +kernel : ∀ b : Fin 256, 0 ≤ b.val → b.val ≤ 64 → pairN 0 b.val = (false, false, 0)) ⟨b, by omega⟩ h1 h2
  unfold PairIs
  rw [hv]
  clear hv
  change Calls Tryd.prog 89 #[.int .u8 b, .int .i64 0] w fun e w' => e = .returned (.tuple #[.bool false, .bool false, .int .u8 0]) ∧ w = w'
  have g0 : ¬ (65 : Int) ≤ b := by omega
  have g1 : (b : Int) ≤ 90 := by omega
  have g2 : ¬ (97 : Int) ≤ b := by omega
  have g3 : (b : Int) ≤ 122 := by omega
  clear h1 h2
  go_enter Tryd.func89, Tryd.ntmps89
  go_wp2
  go_ret3
  exact ⟨rfl, rfl⟩

set_option maxHeartbeats 1000000 in
theorem pair_0_1 (b : Nat) (w : World) (h1 : 65 ≤ b) (h2 : b ≤ 90) : PairIs b 0 w := by
  have hv : pairN 0 b = (true, false, 32) := (by decide +kernel : ∀ b : Fin 256, 65 ≤ b.val → b.val ≤ 90 → pairN 0 b.val = (true, false, 32)) ⟨b, by omega⟩ h1 h2
  unfold PairIs
  rw [hv]
  clear hv
  change Calls Tryd.prog 89 #[.int .u8 b, .int .i64 0] w fun e w' => e = .returned (.tuple #[.bool true, .bool false, .int .u8 32]) ∧ w = w'
  have g0 : (65 : Int) ≤ b := by omega
  have g1 : (b : Int) ≤ 90 := by omega
  have g2 : ¬ (97 : Int) ≤ b := by omega
  have g3 : (b : Int) ≤ 122 := by omega
  clear h1 h2
  go_enter Tryd.func89, Tryd.ntmps89
  go_wp2
  go_ret3
  exact ⟨rfl, rfl⟩

set_option maxHeartbeats 1000000 in
theorem pair_0_2 (b : Nat) (w : World) (h1 : 91 ≤ b) (h2 : b ≤ 96) : PairIs b 0 w := by
  have hv : pairN 0 b = (false, false, 0) := (by decide +kernel : ∀ b : Fin 256, 91 ≤ b.val → b.val ≤ 96 → pairN 0 b.val = (false, false, 0)) ⟨b, by omega⟩ h1 h2
  unfold PairIs
  rw [hv]
  clear hv
  change Calls Tryd.prog 89 #[.int .u8 b, .int .i64 0] w fun e w' => e = .returned (.tuple #[.bool false, .bool false, .int .u8 0]) ∧ w = w'
  have g0 : (65 : Int) ≤ b := by omega
  have g1 : ¬ (b : Int) ≤ 90 := by omega
  have g2 : ¬ (97 : Int) ≤ b := by omega
  have g3 : (b : Int) ≤ 122 := by omega
  clear h1 h2
  go_enter Tryd.func89, Tryd.ntmps89
  go_wp2
  go_ret3
  exact ⟨rfl, rfl⟩

set_option maxHeartbeats 1000000 in
theorem pair_0_3 (b : Nat) (w : World) (h1 : 97 ≤ b) (h2 : b ≤ 122) : PairIs b 0 w := by
  have hv : pairN 0 b = (false, true, 32) := (by decide +kernel : ∀ b : Fin 256, 97 ≤ b.val → b.val ≤ 122 → pairN 0 b.val = (false, true, 32)) ⟨b, by omega⟩ h1 h2
  unfold PairIs
  rw [hv]
  clear hv
  change Calls Tryd.prog 89 #[.int .u8 b, .int .i64 0] w fun e w' => e = .returned (.tuple #[.bool false, .bool true, .int .u8 32]) ∧ w = w'
  have g0 : (65 : Int) ≤ b := by omega
  have g1 : ¬ (b : Int) ≤ 90 := by omega
  have g2 : (97 : Int) ≤ b := by omega
  have g3 : (b : Int) ≤ 122 := by omega
  clear h1 h2
  go_enter Tryd.func89, Tryd.ntmps89
  go_wp2
  go_ret3
  exact ⟨rfl, rfl⟩

set_option maxHeartbeats 1000000 in
theorem pair_0_4 (b : Nat) (w : World) (h1 : 123 ≤ b) (h2 : b ≤ 255) : PairIs b 0 w := by
  have hv : pairN 0 b = (false, false, 0) := (by decide +kernel : ∀ b : Fin 256, 123 ≤ b.val → b.val ≤ 255 → pairN 0 b.val = (false, false, 0)) ⟨b, by omega⟩ h1 h2
  unfold PairIs
  rw [hv]
  clear hv
  change Calls Tryd.prog 89 #[.int .u8 b, .int .i64 0] w fun e w' => e = .returned (.tuple #[.bool false, .bool false, .int .u8 0]) ∧ w = w'
  have g0 : (65 : Int) ≤ b := by omega
  have g1 : ¬ (b : Int) ≤ 90 := by omega
  have g2 : (97 : Int) ≤ b := by omega
  have g3 : ¬ (b : Int) ≤ 122 := by omega
  clear h1 h2
  go_enter Tryd.func89, Tryd.ntmps89
  go_wp2
  go_ret3
  exact ⟨rfl, rfl⟩

set_option maxHeartbeats 1000000 in
theorem pair_1_0 (b : Nat) (w : World) (h1 : 0 ≤ b) (h2 : b ≤ 64) : PairIs b 1 w := by
  have hv : pairN 1 b = (false, false, 0) := (by decide +kernel : ∀ b : Fin 256, 0 ≤ b.val → b.val ≤ 64 → pairN 1 b.val = (false, false, 0)) ⟨b, by omega⟩ h1 h2
  unfold PairIs
  rw [hv]
  clear hv
  change Calls Tryd.prog 89 #[.int .u8 b, .int .i64 1] w fun e w' => e = .returned (.tuple #[.bool false, .bool false, .int .u8 0]) ∧ w = w'
  have g0 : ¬ (65 : Int) ≤ b := by omega
  have g1 : (b : Int) ≤ 90 := by omega
  have g2 : ¬ (97 : Int) ≤ b := by omega
  have g3 : (b : Int) ≤ 122 := by omega
  have g4 : ¬ (192 : Int) ≤ b := by omega
  have g5 : (b : Int) ≤ 222 := by omega
  have g6 : ¬ (224 : Int) ≤ b := by omega
  have g7 : (b : Int) ≤ 254 := by omega
  have g8 : ((b : Int) != 215) = true := by simp; omega
  have g9 : ((b : Int) != 247) = true := by simp; omega
  clear h1 h2
  go_enter Tryd.func89, Tryd.ntmps89
  go_wp2
  go_ret3
  exact ⟨rfl, rfl⟩

set_option maxHeartbeats 1000000 in
theorem pair_1_1 (b : Nat) (w : World) (h1 : 65 ≤ b) (h2 : b ≤ 90) : PairIs b 1 w := by
  have hv : pairN 1 b = (true, false, 32) := (by decide +kernel : ∀ b : Fin 256, 65 ≤ b.val → b.val ≤ 90 → pairN 1 b.val = (true, false, 32)) ⟨b, by omega⟩ h1 h2
  unfold PairIs
  rw [hv]
  clear hv
  change Calls Tryd.prog 89 #[.int .u8 b, .int .i64 1] w fun e w' => e = .returned (.tuple #[.bool true, .bool false, .int .u8 32]) ∧ w = w'
  have g0 : (65 : Int) ≤ b := by omega
  have g1 : (b : Int) ≤ 90 := by omega
  have g2 : ¬ (97 : Int) ≤ b := by omega
  have g3 : (b : Int) ≤ 122 := by omega
  have g4 : ¬ (192 : Int) ≤ b := by omega
  have g5 : (b : Int) ≤ 222 := by omega
  have g6 : ¬ (224 : Int) ≤ b := by omega
  have g7 : (b : Int) ≤ 254 := by omega
  have g8 : ((b : Int) != 215) = true := by simp; omega
  have g9 : ((b : Int) != 247) = true := by simp; omega
  clear h1 h2
  go_enter Tryd.func89, Tryd.ntmps89
  go_wp2
  go_ret3
  exact ⟨rfl, rfl⟩

set_option maxHeartbeats 1000000 in
theorem pair_1_2 (b : Nat) (w : World) (h1 : 91 ≤ b) (h2 : b ≤ 96) : PairIs b 1 w := by
  have hv : pairN 1 b = (false, false, 0) := (by decide +kernel : ∀ b : Fin 256, 91 ≤ b.val → b.val ≤ 96 → pairN 1 b.val = (false, false, 0)) ⟨b, by omega⟩ h1 h2
  unfold PairIs
  rw [hv]
  clear hv
  change Calls Tryd.prog 89 #[.int .u8 b, .int .i64 1] w fun e w' => e = .returned (.tuple #[.bool false, .bool false, .int .u8 0]) ∧ w = w'
  have g0 : (65 : Int) ≤ b := by omega
  have g1 : ¬ (b : Int) ≤ 90 := by omega
  have g2 : ¬ (97 : Int) ≤ b := by omega
  have g3 : (b : Int) ≤ 122 := by omega
  have g4 : ¬ (192 : Int) ≤ b := by omega
  have g5 : (b : Int) ≤ 222 := by omega
  have g6 : ¬ (224 : Int) ≤ b := by omega
  have g7 : (b : Int) ≤ 254 := by omega
  have g8 : ((b : Int) != 215) = true := by simp; omega
  have g9 : ((b : Int) != 247) = true := by simp; omega
  clear h1 h2
  go_enter Tryd.func89, Tryd.ntmps89
  go_wp2
  go_ret3
  exact ⟨rfl, rfl⟩

set_option maxHeartbeats 1000000 in
theorem pair_1_3 (b : Nat) (w : World) (h1 : 97 ≤ b) (h2 : b ≤ 122) : PairIs b 1 w := by
  have hv : pairN 1 b = (false, true, 32) := (by decide +kernel : ∀ b : Fin 256, 97 ≤ b.val → b.val ≤ 122 → pairN 1 b.val = (false, true, 32)) ⟨b, by omega⟩ h1 h2
  unfold PairIs
  rw [hv]
  clear hv
  change Calls Tryd.prog 89 #[.int .u8 b, .int .i64 1] w fun e w' => e = .returned (.tuple #[.bool false, .bool true, .int .u8 32]) ∧ w = w'
  have g0 : (65 : Int) ≤ b := by omega
  have g1 : ¬ (b : Int) ≤ 90 := by omega
  have g2 : (97 : Int) ≤ b := by omega
  have g3 : (b : Int) ≤ 122 := by omega
  have g4 : ¬ (192 : Int) ≤ b := by omega
  have g5 : (b : Int) ≤ 222 := by omega
  have g6 : ¬ (224 : Int) ≤ b := by omega
  have g7 : (b : Int) ≤ 254 := by omega
  have g8 : ((b : Int) != 215) = true := by simp; omega
  have g9 : ((b : Int) != 247) = true := by simp; omega
  clear h1 h2
  go_enter Tryd.func89, Tryd.ntmps89
  go_wp2
  go_ret3
  exact ⟨rfl, rfl⟩

set_option maxHeartbeats 1000000 in
theorem pair_1_4 (b : Nat) (w : World) (h1 : 123 ≤ b) (h2 : b ≤ 191) : PairIs b 1 w := by
  have hv : pairN 1 b = (false, false, 0) := (by decide +kernel : ∀ b : Fin 256, 123 ≤ b.val → b.val ≤ 191 → pairN 1 b.val = (false, false, 0)) ⟨b, by omega⟩ h1 h2
  unfold PairIs
  rw [hv]
  clear hv
  change Calls Tryd.prog 89 #[.int .u8 b, .int .i64 1] w fun e w' => e = .returned (.tuple #[.bool false, .bool false, .int .u8 0]) ∧ w = w'
  have g0 : (65 : Int) ≤ b := by omega
  have g1 : ¬ (b : Int) ≤ 90 := by omega
  have g2 : (97 : Int) ≤ b := by omega
  have g3 : ¬ (b : Int) ≤ 122 := by omega
  have g4 : ¬ (192 : Int) ≤ b := by omega
  have g5 : (b : Int) ≤ 222 := by omega
  have g6 : ¬ (224 : Int) ≤ b := by omega
  have g7 : (b : Int) ≤ 254 := by omega
  have g8 : ((b : Int) != 215) = true := by simp; omega
  have g9 : ((b : Int) != 247) = true := by simp; omega
  clear h1 h2
  go_enter Tryd.func89, Tryd.ntmps89
  go_wp2
  go_ret3
  exact ⟨rfl, rfl⟩

set_option maxHeartbeats 1000000 in
theorem pair_1_5 (b : Nat) (w : World) (h1 : 192 ≤ b) (h2 : b ≤ 214) : PairIs b 1 w := by
  have hv : pairN 1 b = (true, false, 32) := (by decide +kernel : ∀ b : Fin 256, 192 ≤ b.val → b.val ≤ 214 → pairN 1 b.val = (true, false, 32)) ⟨b, by omega⟩ h1 h2
  unfold PairIs
  rw [hv]
  clear hv
  change Calls Tryd.prog 89 #[.int .u8 b, .int .i64 1] w fun e w' => e = .returned (.tuple #[.bool true, .bool false, .int .u8 32]) ∧ w = w'
  have g0 : (65 : Int) ≤ b := by omega
  have g1 : ¬ (b : Int) ≤ 90 := by omega
  have g2 : (97 : Int) ≤ b := by omega
  have g3 : ¬ (b : Int) ≤ 122 := by omega
  have g4 : (192 : Int) ≤ b := by omega
  have g5 : (b : Int) ≤ 222 := by omega
  have g6 : ¬ (224 : Int) ≤ b := by omega
  have g7 : (b : Int) ≤ 254 := by omega
  have g8 : ((b : Int) != 215) = true := by simp; omega
  have g9 : ((b : Int) != 247) = true := by simp; omega
  clear h1 h2
  go_enter Tryd.func89, Tryd.ntmps89
  go_wp2
  go_ret3
  exact ⟨rfl, rfl⟩

set_option maxHeartbeats 1000000 in
theorem pair_1_6 (b : Nat) (w : World) (h1 : 215 ≤ b) (h2 : b ≤ 215) : PairIs b 1 w := by
  have hv : pairN 1 b = (false, false, 0) := (by decide +kernel : ∀ b : Fin 256, 215 ≤ b.val → b.val ≤ 215 → pairN 1 b.val = (false, false, 0)) ⟨b, by omega⟩ h1 h2
  unfold PairIs
  rw [hv]
  clear hv
  change Calls Tryd.prog 89 #[.int .u8 b, .int .i64 1] w fun e w' => e = .returned (.tuple #[.bool false, .bool false, .int .u8 0]) ∧ w = w'
  have g0 : (65 : Int) ≤ b := by omega
  have g1 : ¬ (b : Int) ≤ 90 := by omega
  have g2 : (97 : Int) ≤ b := by omega
  have g3 : ¬ (b : Int) ≤ 122 := by omega
  have g4 : (192 : Int) ≤ b := by omega
  have g5 : (b : Int) ≤ 222 := by omega
  have g6 : ¬ (224 : Int) ≤ b := by omega
  have g7 : (b : Int) ≤ 254 := by omega
  have g8 : ((b : Int) != 215) = false := by simp; omega
  have g9 : ((b : Int) != 247) = true := by simp; omega
  clear h1 h2
  go_enter Tryd.func89, Tryd.ntmps89
  go_wp2
  go_ret3
  exact ⟨rfl, rfl⟩

set_option maxHeartbeats 1000000 in
theorem pair_1_7 (b : Nat) (w : World) (h1 : 216 ≤ b) (h2 : b ≤ 222) : PairIs b 1 w := by
  have hv : pairN 1 b = (true, false, 32) := (by decide +kernel : ∀ b : Fin 256, 216 ≤ b.val → b.val ≤ 222 → pairN 1 b.val = (true, false, 32)) ⟨b, by omega⟩ h1 h2
  unfold PairIs
  rw [hv]
  clear hv
  change Calls Tryd.prog 89 #[.int .u8 b, .int .i64 1] w fun e w' => e = .returned (.tuple #[.bool true, .bool false, .int .u8 32]) ∧ w = w'
  have g0 : (65 : Int) ≤ b := by omega
  have g1 : ¬ (b : Int) ≤ 90 := by omega
  have g2 : (97 : Int) ≤ b := by omega
  have g3 : ¬ (b : Int) ≤ 122 := by omega
  have g4 : (192 : Int) ≤ b := by omega
  have g5 : (b : Int) ≤ 222 := by omega
  have g6 : ¬ (224 : Int) ≤ b := by omega
  have g7 : (b : Int) ≤ 254 := by omega
  have g8 : ((b : Int) != 215) = true := by simp; omega
  have g9 : ((b : Int) != 247) = true := by simp; omega
  clear h1 h2
  go_enter Tryd.func89, Tryd.ntmps89
  go_wp2
  go_ret3
  exact ⟨rfl, rfl⟩

set_option maxHeartbeats 1000000 in
theorem pair_1_8 (b : Nat) (w : World) (h1 : 223 ≤ b) (h2 : b ≤ 223) : PairIs b 1 w := by
  have hv : pairN 1 b = (false, false, 0) := (by decide +kernel : ∀ b : Fin 256, 223 ≤ b.val → b.val ≤ 223 → pairN 1 b.val = (false, false, 0)) ⟨b, by omega⟩ h1 h2
  unfold PairIs
  rw [hv]
  clear hv
  change Calls Tryd.prog 89 #[.int .u8 b, .int .i64 1] w fun e w' => e = .returned (.tuple #[.bool false, .bool false, .int .u8 0]) ∧ w = w'
  have g0 : (65 : Int) ≤ b := by omega
  have g1 : ¬ (b : Int) ≤ 90 := by omega
  have g2 : (97 : Int) ≤ b := by omega
  have g3 : ¬ (b : Int) ≤ 122 := by omega
  have g4 : (192 : Int) ≤ b := by omega
  have g5 : ¬ (b : Int) ≤ 222 := by omega
  have g6 : ¬ (224 : Int) ≤ b := by omega
  have g7 : (b : Int) ≤ 254 := by omega
  have g8 : ((b : Int) != 215) = true := by simp; omega
  have g9 : ((b : Int) != 247) = true := by simp; omega
  clear h1 h2
  go_enter Tryd.func89, Tryd.ntmps89
  go_wp2
  go_ret3
  exact ⟨rfl, rfl⟩

set_option maxHeartbeats 1000000 in
theorem pair_1_9 (b : Nat) (w : World) (h1 : 224 ≤ b) (h2 : b ≤ 246) : PairIs b 1 w := by
  have hv : pairN 1 b = (false, true, 32) := (by decide +kernel : ∀ b : Fin 256, 224 ≤ b.val → b.val ≤ 246 → pairN 1 b.val = (false, true, 32)) ⟨b, by omega⟩ h1 h2
  unfold PairIs
  rw [hv]
  clear hv
  change Calls Tryd.prog 89 #[.int .u8 b, .int .i64 1] w fun e w' => e = .returned (.tuple #[.bool false, .bool true, .int .u8 32]) ∧ w = w'
  have g0 : (65 : Int) ≤ b := by omega
  have g1 : ¬ (b : Int) ≤ 90 := by omega
  have g2 : (97 : Int) ≤ b := by omega
  have g3 : ¬ (b : Int) ≤ 122 := by omega
  have g4 : (192 : Int) ≤ b := by omega
  have g5 : ¬ (b : Int) ≤ 222 := by omega
  have g6 : (224 : Int) ≤ b := by omega
  have g7 : (b : Int) ≤ 254 := by omega
  have g8 : ((b : Int) != 215) = true := by simp; omega
  have g9 : ((b : Int) != 247) = true := by simp; omega
  clear h1 h2
  go_enter Tryd.func89, Tryd.ntmps89
  go_wp2
  go_ret3
  exact ⟨rfl, rfl⟩

set_option maxHeartbeats 1000000 in
theorem pair_1_10 (b : Nat) (w : World) (h1 : 247 ≤ b) (h2 : b ≤ 247) : PairIs b 1 w := by
  have hv : pairN 1 b = (false, false, 0) := (by decide +kernel : ∀ b : Fin 256, 247 ≤ b.val → b.val ≤ 247 → pairN 1 b.val = (false, false, 0)) ⟨b, by omega⟩ h1 h2
  unfold PairIs
  rw [hv]
  clear hv
  change Calls Tryd.prog 89 #[.int .u8 b, .int .i64 1] w fun e w' => e = .returned (.tuple #[.bool false, .bool false, .int .u8 0]) ∧ w = w'
  have g0 : (65 : Int) ≤ b := by omega
  have g1 : ¬ (b : Int) ≤ 90 := by omega
  have g2 : (97 : Int) ≤ b := by omega
  have g3 : ¬ (b : Int) ≤ 122 := by omega
  have g4 : (192 : Int) ≤ b := by omega
  have g5 : ¬ (b : Int) ≤ 222 := by omega
  have g6 : (224 : Int) ≤ b := by omega
  have g7 : (b : Int) ≤ 254 := by omega
  have g8 : ((b : Int) != 215) = true := by simp; omega
  have g9 : ((b : Int) != 247) = false := by simp; omega
  clear h1 h2
  go_enter Tryd.func89, Tryd.ntmps89
  go_wp2
  go_ret3
  exact ⟨rfl, rfl⟩

set_option maxHeartbeats 1000000 in
theorem pair_1_11 (b : Nat) (w : World) (h1 : 248 ≤ b) (h2 : b ≤ 254) : PairIs b 1 w := by
  have hv : pairN 1 b = (false, true, 32) := (by decide +kernel : ∀ b : Fin 256, 248 ≤ b.val → b.val ≤ 254 → pairN 1 b.val = (false, true, 32)) ⟨b, by omega⟩ h1 h2
  unfold PairIs
  rw [hv]
  clear hv
  change Calls Tryd.prog 89 #[.int .u8 b, .int .i64 1] w fun e w' => e = .returned (.tuple #[.bool false, .bool true, .int .u8 32]) ∧ w = w'
  have g0 : (65 : Int) ≤ b := by omega
  have g1 : ¬ (b : Int) ≤ 90 := by omega
  have g2 : (97 : Int) ≤ b := by omega
  have g3 : ¬ (b : Int) ≤ 122 := by omega
  have g4 : (192 : Int) ≤ b := by omega
  have g5 : ¬ (b : Int) ≤ 222 := by omega
  have g6 : (224 : Int) ≤ b := by omega
  have g7 : (b : Int) ≤ 254 := by omega
  have g8 : ((b : Int) != 215) = true := by simp; omega
  have g9 : ((b : Int) != 247) = true := by simp; omega
  clear h1 h2
  go_enter Tryd.func89, Tryd.ntmps89
  go_wp2
  go_ret3
  exact ⟨rfl, rfl⟩

set_option maxHeartbeats 1000000 in
theorem pair_1_12 (b : Nat) (w : World) (h1 : 255 ≤ b) (h2 : b ≤ 255) : PairIs b 1 w := by
  have hv : pairN 1 b = (false, false, 0) := (by decide +kernel : ∀ b : Fin 256, 255 ≤ b.val → b.val ≤ 255 → pairN 1 b.val = (false, false, 0)) ⟨b, by omega⟩ h1 h2
  unfold PairIs
  rw [hv]
  clear hv
  change Calls Tryd.prog 89 #[.int .u8 b, .int .i64 1] w fun e w' => e = .returned (.tuple #[.bool false, .bool false, .int .u8 0]) ∧ w = w'
  have g0 : (65 : Int) ≤ b := by omega
  have g1 : ¬ (b : Int) ≤ 90 := by omega
  have g2 : (97 : Int) ≤ b := by omega
  have g3 : ¬ (b : Int) ≤ 122 := by omega
  have g4 : (192 : Int) ≤ b := by omega
  have g5 : ¬ (b : Int) ≤ 222 := by omega
  have g6 : (224 : Int) ≤ b := by omega
  have g7 : ¬ (b : Int) ≤ 254 := by omega
  have g8 : ((b : Int) != 215) = true := by simp; omega
  have g9 : ((b : Int) != 247) = true := by simp; omega
  clear h1 h2
  go_enter Tryd.func89, Tryd.ntmps89
  go_wp2
  go_ret3
  exact ⟨rfl, rfl⟩

set_option maxHeartbeats 1000000 in
theorem pair_2_0 (b : Nat) (w : World) (h1 : 0 ≤ b) (h2 : b ≤ 64) : PairIs b 2 w := by
  have hv : pairN 2 b = (false, false, 0) := (by decide +kernel : ∀ b : Fin 256, 0 ≤ b.val → b.val ≤ 64 → pairN 2 b.val = (false, false, 0)) ⟨b, by omega⟩ h1 h2
  unfold PairIs
  rw [hv]
  clear hv
  change Calls Tryd.prog 89 #[.int .u8 b, .int .i64 2] w fun e w' => e = .returned (.tuple #[.bool false, .bool false, .int .u8 0]) ∧ w = w'
  have g0 : ¬ (65 : Int) ≤ b := by omega
  have g1 : (b : Int) ≤ 90 := by omega
  have g2 : ¬ (97 : Int) ≤ b := by omega
  have g3 : (b : Int) ≤ 122 := by omega
  have g4 : ¬ (128 : Int) ≤ b := by omega
  have g5 : (b : Int) ≤ 143 := by omega
  have g6 : ¬ (144 : Int) ≤ b := by omega
  have g7 : (b : Int) ≤ 159 := by omega
  have g8 : ¬ (160 : Int) ≤ b := by omega
  have g9 : (b : Int) ≤ 175 := by omega
  have g10 : ¬ (224 : Int) ≤ b := by omega
  have g11 : (b : Int) ≤ 239 := by omega
  clear h1 h2
  go_enter Tryd.func89, Tryd.ntmps89
  go_wp2
  go_ret3
  exact ⟨rfl, rfl⟩

set_option maxHeartbeats 1000000 in
theorem pair_2_1 (b : Nat) (w : World) (h1 : 65 ≤ b) (h2 : b ≤ 90) : PairIs b 2 w := by
  have hv : pairN 2 b = (true, false, 32) := (by decide +kernel : ∀ b : Fin 256, 65 ≤ b.val → b.val ≤ 90 → pairN 2 b.val = (true, false, 32)) ⟨b, by omega⟩ h1 h2
  unfold PairIs
  rw [hv]
  clear hv
  change Calls Tryd.prog 89 #[.int .u8 b, .int .i64 2] w fun e w' => e = .returned (.tuple #[.bool true, .bool false, .int .u8 32]) ∧ w = w'
  have g0 : (65 : Int) ≤ b := by omega
  have g1 : (b : Int) ≤ 90 := by omega
  have g2 : ¬ (97 : Int) ≤ b := by omega
  have g3 : (b : Int) ≤ 122 := by omega
  have g4 : ¬ (128 : Int) ≤ b := by omega
  have g5 : (b : Int) ≤ 143 := by omega
  have g6 : ¬ (144 : Int) ≤ b := by omega
  have g7 : (b : Int) ≤ 159 := by omega
  have g8 : ¬ (160 : Int) ≤ b := by omega
  have g9 : (b : Int) ≤ 175 := by omega
  have g10 : ¬ (224 : Int) ≤ b := by omega
  have g11 : (b : Int) ≤ 239 := by omega
  clear h1 h2
  go_enter Tryd.func89, Tryd.ntmps89
  go_wp2
  go_ret3
  exact ⟨rfl, rfl⟩

set_option maxHeartbeats 1000000 in
theorem pair_2_2 (b : Nat) (w : World) (h1 : 91 ≤ b) (h2 : b ≤ 96) : PairIs b 2 w := by
  have hv : pairN 2 b = (false, false, 0) := (by decide +kernel : ∀ b : Fin 256, 91 ≤ b.val → b.val ≤ 96 → pairN 2 b.val = (false, false, 0)) ⟨b, by omega⟩ h1 h2
  unfold PairIs
  rw [hv]
  clear hv
  change Calls Tryd.prog 89 #[.int .u8 b, .int .i64 2] w fun e w' => e = .returned (.tuple #[.bool false, .bool false, .int .u8 0]) ∧ w = w'
  have g0 : (65 : Int) ≤ b := by omega
  have g1 : ¬ (b : Int) ≤ 90 := by omega
  have g2 : ¬ (97 : Int) ≤ b := by omega
  have g3 : (b : Int) ≤ 122 := by omega
  have g4 : ¬ (128 : Int) ≤ b := by omega
  have g5 : (b : Int) ≤ 143 := by omega
  have g6 : ¬ (144 : Int) ≤ b := by omega
  have g7 : (b : Int) ≤ 159 := by omega
  have g8 : ¬ (160 : Int) ≤ b := by omega
  have g9 : (b : Int) ≤ 175 := by omega
  have g10 : ¬ (224 : Int) ≤ b := by omega
  have g11 : (b : Int) ≤ 239 := by omega
  clear h1 h2
  go_enter Tryd.func89, Tryd.ntmps89
  go_wp2
  go_ret3
  exact ⟨rfl, rfl⟩

set_option maxHeartbeats 1000000 in
theorem pair_2_3 (b : Nat) (w : World) (h1 : 97 ≤ b) (h2 : b ≤ 122) : PairIs b 2 w := by
  have hv : pairN 2 b = (false, true, 32) := (by decide +kernel : ∀ b : Fin 256, 97 ≤ b.val → b.val ≤ 122 → pairN 2 b.val = (false, true, 32)) ⟨b, by omega⟩ h1 h2
  unfold PairIs
  rw [hv]
  clear hv
  change Calls Tryd.prog 89 #[.int .u8 b, .int .i64 2] w fun e w' => e = .returned (.tuple #[.bool false, .bool true, .int .u8 32]) ∧ w = w'
  have g0 : (65 : Int) ≤ b := by omega
  have g1 : ¬ (b : Int) ≤ 90 := by omega
  have g2 : (97 : Int) ≤ b := by omega
  have g3 : (b : Int) ≤ 122 := by omega
  have g4 : ¬ (128 : Int) ≤ b := by omega
  have g5 : (b : Int) ≤ 143 := by omega
  have g6 : ¬ (144 : Int) ≤ b := by omega
  have g7 : (b : Int) ≤ 159 := by omega
  have g8 : ¬ (160 : Int) ≤ b := by omega
  have g9 : (b : Int) ≤ 175 := by omega
  have g10 : ¬ (224 : Int) ≤ b := by omega
  have g11 : (b : Int) ≤ 239 := by omega
  clear h1 h2
  go_enter Tryd.func89, Tryd.ntmps89
  go_wp2
  go_ret3
  exact ⟨rfl, rfl⟩

set_option maxHeartbeats 1000000 in
theorem pair_2_4 (b : Nat) (w : World) (h1 : 123 ≤ b) (h2 : b ≤ 127) : PairIs b 2 w := by
  have hv : pairN 2 b = (false, false, 0) := (by decide +kernel : ∀ b : Fin 256, 123 ≤ b.val → b.val ≤ 127 → pairN 2 b.val = (false, false, 0)) ⟨b, by omega⟩ h1 h2
  unfold PairIs
  rw [hv]
  clear hv
  change Calls Tryd.prog 89 #[.int .u8 b, .int .i64 2] w fun e w' => e = .returned (.tuple #[.bool false, .bool false, .int .u8 0]) ∧ w = w'
  have g0 : (65 : Int) ≤ b := by omega
  have g1 : ¬ (b : Int) ≤ 90 := by omega
  have g2 : (97 : Int) ≤ b := by omega
  have g3 : ¬ (b : Int) ≤ 122 := by omega
  have g4 : ¬ (128 : Int) ≤ b := by omega
  have g5 : (b : Int) ≤ 143 := by omega
  have g6 : ¬ (144 : Int) ≤ b := by omega
  have g7 : (b : Int) ≤ 159 := by omega
  have g8 : ¬ (160 : Int) ≤ b := by omega
  have g9 : (b : Int) ≤ 175 := by omega
  have g10 : ¬ (224 : Int) ≤ b := by omega
  have g11 : (b : Int) ≤ 239 := by omega
  clear h1 h2
  go_enter Tryd.func89, Tryd.ntmps89
  go_wp2
  go_ret3
  exact ⟨rfl, rfl⟩

set_option maxHeartbeats 1000000 in
theorem pair_2_5 (b : Nat) (w : World) (h1 : 128 ≤ b) (h2 : b ≤ 143) : PairIs b 2 w := by
  have hv : pairN 2 b = (true, false, 32) := (by decide +kernel : ∀ b : Fin 256, 128 ≤ b.val → b.val ≤ 143 → pairN 2 b.val = (true, false, 32)) ⟨b, by omega⟩ h1 h2
  unfold PairIs
  rw [hv]
  clear hv
  change Calls Tryd.prog 89 #[.int .u8 b, .int .i64 2] w fun e w' => e = .returned (.tuple #[.bool true, .bool false, .int .u8 32]) ∧ w = w'
  have g0 : (65 : Int) ≤ b := by omega
  have g1 : ¬ (b : Int) ≤ 90 := by omega
  have g2 : (97 : Int) ≤ b := by omega
  have g3 : ¬ (b : Int) ≤ 122 := by omega
  have g4 : (128 : Int) ≤ b := by omega
  have g5 : (b : Int) ≤ 143 := by omega
  have g6 : ¬ (144 : Int) ≤ b := by omega
  have g7 : (b : Int) ≤ 159 := by omega
  have g8 : ¬ (160 : Int) ≤ b := by omega
  have g9 : (b : Int) ≤ 175 := by omega
  have g10 : ¬ (224 : Int) ≤ b := by omega
  have g11 : (b : Int) ≤ 239 := by omega
  clear h1 h2
  go_enter Tryd.func89, Tryd.ntmps89
  go_wp2
  go_ret3
  exact ⟨rfl, rfl⟩

set_option maxHeartbeats 1000000 in
theorem pair_2_6 (b : Nat) (w : World) (h1 : 144 ≤ b) (h2 : b ≤ 159) : PairIs b 2 w := by
  have hv : pairN 2 b = (true, false, 80) := (by decide +kernel : ∀ b : Fin 256, 144 ≤ b.val → b.val ≤ 159 → pairN 2 b.val = (true, false, 80)) ⟨b, by omega⟩ h1 h2
  unfold PairIs
  rw [hv]
  clear hv
  change Calls Tryd.prog 89 #[.int .u8 b, .int .i64 2] w fun e w' => e = .returned (.tuple #[.bool true, .bool false, .int .u8 80]) ∧ w = w'
  have g0 : (65 : Int) ≤ b := by omega
  have g1 : ¬ (b : Int) ≤ 90 := by omega
  have g2 : (97 : Int) ≤ b := by omega
  have g3 : ¬ (b : Int) ≤ 122 := by omega
  have g4 : (128 : Int) ≤ b := by omega
  have g5 : ¬ (b : Int) ≤ 143 := by omega
  have g6 : (144 : Int) ≤ b := by omega
  have g7 : (b : Int) ≤ 159 := by omega
  have g8 : ¬ (160 : Int) ≤ b := by omega
  have g9 : (b : Int) ≤ 175 := by omega
  have g10 : ¬ (224 : Int) ≤ b := by omega
  have g11 : (b : Int) ≤ 239 := by omega
  clear h1 h2
  go_enter Tryd.func89, Tryd.ntmps89
  go_wp2
  go_ret3
  exact ⟨rfl, rfl⟩

set_option maxHeartbeats 1000000 in
theorem pair_2_7 (b : Nat) (w : World) (h1 : 160 ≤ b) (h2 : b ≤ 175) : PairIs b 2 w := by
  have hv : pairN 2 b = (false, true, 32) := (by decide +kernel : ∀ b : Fin 256, 160 ≤ b.val → b.val ≤ 175 → pairN 2 b.val = (false, true, 32)) ⟨b, by omega⟩ h1 h2
  unfold PairIs
  rw [hv]
  clear hv
  change Calls Tryd.prog 89 #[.int .u8 b, .int .i64 2] w fun e w' => e = .returned (.tuple #[.bool false, .bool true, .int .u8 32]) ∧ w = w'
  have g0 : (65 : Int) ≤ b := by omega
  have g1 : ¬ (b : Int) ≤ 90 := by omega
  have g2 : (97 : Int) ≤ b := by omega
  have g3 : ¬ (b : Int) ≤ 122 := by omega
  have g4 : (128 : Int) ≤ b := by omega
  have g5 : ¬ (b : Int) ≤ 143 := by omega
  have g6 : (144 : Int) ≤ b := by omega
  have g7 : ¬ (b : Int) ≤ 159 := by omega
  have g8 : (160 : Int) ≤ b := by omega
  have g9 : (b : Int) ≤ 175 := by omega
  have g10 : ¬ (224 : Int) ≤ b := by omega
  have g11 : (b : Int) ≤ 239 := by omega
  clear h1 h2
  go_enter Tryd.func89, Tryd.ntmps89
  go_wp2
  go_ret3
  exact ⟨rfl, rfl⟩

set_option maxHeartbeats 1000000 in
theorem pair_2_8 (b : Nat) (w : World) (h1 : 176 ≤ b) (h2 : b ≤ 223) : PairIs b 2 w := by
  have hv : pairN 2 b = (false, false, 0) := (by decide +kernel : ∀ b : Fin 256, 176 ≤ b.val → b.val ≤ 223 → pairN 2 b.val = (false, false, 0)) ⟨b, by omega⟩ h1 h2
  unfold PairIs
  rw [hv]
  clear hv
  change Calls Tryd.prog 89 #[.int .u8 b, .int .i64 2] w fun e w' => e = .returned (.tuple #[.bool false, .bool false, .int .u8 0]) ∧ w = w'
  have g0 : (65 : Int) ≤ b := by omega
  have g1 : ¬ (b : Int) ≤ 90 := by omega
  have g2 : (97 : Int) ≤ b := by omega
  have g3 : ¬ (b : Int) ≤ 122 := by omega
  have g4 : (128 : Int) ≤ b := by omega
  have g5 : ¬ (b : Int) ≤ 143 := by omega
  have g6 : (144 : Int) ≤ b := by omega
  have g7 : ¬ (b : Int) ≤ 159 := by omega
  have g8 : (160 : Int) ≤ b := by omega
  have g9 : ¬ (b : Int) ≤ 175 := by omega
  have g10 : ¬ (224 : Int) ≤ b := by omega
  have g11 : (b : Int) ≤ 239 := by omega
  clear h1 h2
  go_enter Tryd.func89, Tryd.ntmps89
  go_wp2
  go_ret3
  exact ⟨rfl, rfl⟩

set_option maxHeartbeats 1000000 in
theorem pair_2_9 (b : Nat) (w : World) (h1 : 224 ≤ b) (h2 : b ≤ 239) : PairIs b 2 w := by
  have hv : pairN 2 b = (false, true, 80) := (by decide +kernel : ∀ b : Fin 256, 224 ≤ b.val → b.val ≤ 239 → pairN 2 b.val = (false, true, 80)) ⟨b, by omega⟩ h1 h2
  unfold PairIs
  rw [hv]
  clear hv
  change Calls Tryd.prog 89 #[.int .u8 b, .int .i64 2] w fun e w' => e = .returned (.tuple #[.bool false, .bool true, .int .u8 80]) ∧ w = w'
  have g0 : (65 : Int) ≤ b := by omega
  have g1 : ¬ (b : Int) ≤ 90 := by omega
  have g2 : (97 : Int) ≤ b := by omega
  have g3 : ¬ (b : Int) ≤ 122 := by omega
  have g4 : (128 : Int) ≤ b := by omega
  have g5 : ¬ (b : Int) ≤ 143 := by omega
  have g6 : (144 : Int) ≤ b := by omega
  have g7 : ¬ (b : Int) ≤ 159 := by omega
  have g8 : (160 : Int) ≤ b := by omega
  have g9 : ¬ (b : Int) ≤ 175 := by omega
  have g10 : (224 : Int) ≤ b := by omega
  have g11 : (b : Int) ≤ 239 := by omega
  clear h1 h2
  go_enter Tryd.func89, Tryd.ntmps89
  go_wp2
  go_ret3
  exact ⟨rfl, rfl⟩

set_option maxHeartbeats 1000000 in
theorem pair_2_10 (b : Nat) (w : World) (h1 : 240 ≤ b) (h2 : b ≤ 255) : PairIs b 2 w := by
  have hv : pairN 2 b = (false, false, 0) := (by decide +kernel : ∀ b : Fin 256, 240 ≤ b.val → b.val ≤ 255 → pairN 2 b.val = (false, false, 0)) ⟨b, by omega⟩ h1 h2
  unfold PairIs
  rw [hv]
  clear hv
  change Calls Tryd.prog 89 #[.int .u8 b, .int .i64 2] w fun e w' => e = .returned (.tuple #[.bool false, .bool false, .int .u8 0]) ∧ w = w'
  have g0 : (65 : Int) ≤ b := by omega
  have g1 : ¬ (b : Int) ≤ 90 := by omega
  have g2 : (97 : Int) ≤ b := by omega
  have g3 : ¬ (b : Int) ≤ 122 := by omega
  have g4 : (128 : Int) ≤ b := by omega
  have g5 : ¬ (b : Int) ≤ 143 := by omega
  have g6 : (144 : Int) ≤ b := by omega
  have g7 : ¬ (b : Int) ≤ 159 := by omega
  have g8 : (160 : Int) ≤ b := by omega
  have g9 : ¬ (b : Int) ≤ 175 := by omega
  have g10 : (224 : Int) ≤ b := by omega
  have g11 : ¬ (b : Int) ≤ 239 := by omega
  clear h1 h2
  go_enter Tryd.func89, Tryd.ntmps89
  go_wp2
  go_ret3
  exact ⟨rfl, rfl⟩
theorem pair_any (b p : Nat) (hb : b < 256) (hp : p < 3) (w : World) : PairIs b p w := by
  rcases (show p = 0 ∨ p = 1 ∨ p = 2 by omega) with rfl | rfl | rfl
  · rcases (show (0 ≤ b ∧ b ≤ 64) ∨ (65 ≤ b ∧ b ≤ 90) ∨ (91 ≤ b ∧ b ≤ 96) ∨ (97 ≤ b ∧ b ≤ 122) ∨ (123 ≤ b ∧ b ≤ 255) by omega) with ⟨h1, h2⟩ | ⟨h1, h2⟩ | ⟨h1, h2⟩ | ⟨h1, h2⟩ | ⟨h1, h2⟩
    · exact pair_0_0 b w h1 h2
    · exact pair_0_1 b w h1 h2
    · exact pair_0_2 b w h1 h2
    · exact pair_0_3 b w h1 h2
    · exact pair_0_4 b w h1 h2
  · rcases (show (0 ≤ b ∧ b ≤ 64) ∨ (65 ≤ b ∧ b ≤ 90) ∨ (91 ≤ b ∧ b ≤ 96) ∨ (97 ≤ b ∧ b ≤ 122) ∨ (123 ≤ b ∧ b ≤ 191) ∨ (192 ≤ b ∧ b ≤ 214) ∨ (215 ≤ b ∧ b ≤ 215) ∨ (216 ≤ b ∧ b ≤ 222) ∨ (223 ≤ b ∧ b ≤ 223) ∨ (224 ≤ b ∧ b ≤ 246) ∨ (247 ≤ b ∧ b ≤ 247) ∨ (248 ≤ b ∧ b ≤ 254) ∨ (255 ≤ b ∧ b ≤ 255) by omega) with ⟨h1, h2⟩ | ⟨h1, h2⟩ | ⟨h1, h2⟩ | ⟨h1, h2⟩ | ⟨h1, h2⟩ | ⟨h1, h2⟩ | ⟨h1, h2⟩ | ⟨h1, h2⟩ | ⟨h1, h2⟩ | ⟨h1, h2⟩ | ⟨h1, h2⟩ | ⟨h1, h2⟩ | ⟨h1, h2⟩
    · exact pair_1_0 b w h1 h2
    · exact pair_1_1 b w h1 h2
    · exact pair_1_2 b w h1 h2
    · exact pair_1_3 b w h1 h2
    · exact pair_1_4 b w h1 h2
    · exact pair_1_5 b w h1 h2
    · exact pair_1_6 b w h1 h2
    · exact pair_1_7 b w h1 h2
    · exact pair_1_8 b w h1 h2
    · exact pair_1_9 b w h1 h2
    · exact pair_1_10 b w h1 h2
    · exact pair_1_11 b w h1 h2
    · exact pair_1_12 b w h1 h2
  · rcases (show (0 ≤ b ∧ b ≤ 64) ∨ (65 ≤ b ∧ b ≤ 90) ∨ (91 ≤ b ∧ b ≤ 96) ∨ (97 ≤ b ∧ b ≤ 122) ∨ (123 ≤ b ∧ b ≤ 127) ∨ (128 ≤ b ∧ b ≤ 143) ∨ (144 ≤ b ∧ b ≤ 159) ∨ (160 ≤ b ∧ b ≤ 175) ∨ (176 ≤ b ∧ b ≤ 223) ∨ (224 ≤ b ∧ b ≤ 239) ∨ (240 ≤ b ∧ b ≤ 255) by omega) with ⟨h1, h2⟩ | ⟨h1, h2⟩ | ⟨h1, h2⟩ | ⟨h1, h2⟩ | ⟨h1, h2⟩ | ⟨h1, h2⟩ | ⟨h1, h2⟩ | ⟨h1, h2⟩ | ⟨h1, h2⟩ | ⟨h1, h2⟩ | ⟨h1, h2⟩
    · exact pair_2_0 b w h1 h2
    · exact pair_2_1 b w h1 h2
    · exact pair_2_2 b w h1 h2
    · exact pair_2_3 b w h1 h2
    · exact pair_2_4 b w h1 h2
    · exact pair_2_5 b w h1 h2
    · exact pair_2_6 b w h1 h2
    · exact pair_2_7 b w h1 h2
    · exact pair_2_8 b w h1 h2
    · exact pair_2_9 b w h1 h2
    · exact pair_2_10 b w h1 h2
end Go.Proofs.YtiddnacmopfamaaDoor
