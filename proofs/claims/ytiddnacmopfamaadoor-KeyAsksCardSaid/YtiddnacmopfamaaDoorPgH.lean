/- weight of the reference. -/
import Derived.Test.YtiddnacmopfamaaDoorPgE
namespace Go.Proofs.YtiddnacmopfamaaDoor
open Go.RowKit
set_option linter.unusedVariables false
set_option linter.unusedSimpArgs false

def WeiR (b u : Nat) (w : World) : Prop := Calls Tryd.prog 61 #[.int .u8 b, .int .i64 1, .int .i64 1] w fun e w' => e = .returned (.int .u8 (accN u)) ∧ w = w'

set_option maxHeartbeats 1000000 in
set_option maxRecDepth 40000 in
theorem weiR_0 (b u : Nat) (w : World) (C1 : Hid (∀ W : World, Calls Tryd.prog 80 #[.int .u8 b, .int .i64 1] W fun e w' => e = .returned (.bool true) ∧ W = w')) (C2 : Hid (∀ W : World, Calls Tryd.prog 81 #[.int .u8 b, .int .i64 1] W fun e w' => e = .returned (.int .u8 u) ∧ W = w'))
    (h1 : 0 ≤ u) (h2 : u ≤ 191) : WeiR b u w := by
  have hv : accN u = u := (by decide +kernel : ∀ u : Fin 256, 0 ≤ u.val → u.val ≤ 191 → accN u.val = u.val) ⟨u, by omega⟩ h1 h2
  unfold WeiR
  rw [hv]
  clear hv
  have g0 : ¬ (192 : Int) ≤ u := by omega
  have g1 : (u : Int) ≤ 197 := by omega
  have g2 : ¬ (200 : Int) ≤ u := by omega
  have g3 : (u : Int) ≤ 203 := by omega
  have g4 : ¬ (204 : Int) ≤ u := by omega
  have g5 : (u : Int) ≤ 207 := by omega
  have g6 : ¬ (210 : Int) ≤ u := by omega
  have g7 : (u : Int) ≤ 214 := by omega
  have g8 : ¬ (217 : Int) ≤ u := by omega
  have g9 : (u : Int) ≤ 220 := by omega
  have g10 : ((u : Int) == 199) = false := by simp; omega
  have g11 : ((u : Int) == 209) = false := by simp; omega
  have g12 : ((u : Int) == 221) = false := by simp; omega
  clear h1 h2
  go_enter Tryd.func61, Tryd.ntmps61
  go_wp2_with fail
  refine (C1.out _).mono ?_
  rintro e w1 ⟨rfl, rfl⟩
  go_wp2_with fail
  refine (C2.out _).mono ?_
  rintro e w1 ⟨rfl, rfl⟩
  go_wp2_with fail
  go_ret
  exact ⟨rfl, rfl⟩

set_option maxHeartbeats 1000000 in
set_option maxRecDepth 40000 in
theorem weiR_1 (b u : Nat) (w : World) (C1 : Hid (∀ W : World, Calls Tryd.prog 80 #[.int .u8 b, .int .i64 1] W fun e w' => e = .returned (.bool true) ∧ W = w')) (C2 : Hid (∀ W : World, Calls Tryd.prog 81 #[.int .u8 b, .int .i64 1] W fun e w' => e = .returned (.int .u8 u) ∧ W = w'))
    (h1 : 192 ≤ u) (h2 : u ≤ 197) : WeiR b u w := by
  have hv : accN u = 65 := (by decide +kernel : ∀ u : Fin 256, 192 ≤ u.val → u.val ≤ 197 → accN u.val = 65) ⟨u, by omega⟩ h1 h2
  unfold WeiR
  rw [hv]
  clear hv
  have g0 : (192 : Int) ≤ u := by omega
  have g1 : (u : Int) ≤ 197 := by omega
  have g2 : ¬ (200 : Int) ≤ u := by omega
  have g3 : (u : Int) ≤ 203 := by omega
  have g4 : ¬ (204 : Int) ≤ u := by omega
  have g5 : (u : Int) ≤ 207 := by omega
  have g6 : ¬ (210 : Int) ≤ u := by omega
  have g7 : (u : Int) ≤ 214 := by omega
  have g8 : ¬ (217 : Int) ≤ u := by omega
  have g9 : (u : Int) ≤ 220 := by omega
  have g10 : ((u : Int) == 199) = false := by simp; omega
  have g11 : ((u : Int) == 209) = false := by simp; omega
  have g12 : ((u : Int) == 221) = false := by simp; omega
  clear h1 h2
  go_enter Tryd.func61, Tryd.ntmps61
  go_wp2_with fail
  refine (C1.out _).mono ?_
  rintro e w1 ⟨rfl, rfl⟩
  go_wp2_with fail
  refine (C2.out _).mono ?_
  rintro e w1 ⟨rfl, rfl⟩
  go_wp2_with fail
  go_ret
  exact ⟨rfl, rfl⟩

set_option maxHeartbeats 1000000 in
set_option maxRecDepth 40000 in
theorem weiR_2 (b u : Nat) (w : World) (C1 : Hid (∀ W : World, Calls Tryd.prog 80 #[.int .u8 b, .int .i64 1] W fun e w' => e = .returned (.bool true) ∧ W = w')) (C2 : Hid (∀ W : World, Calls Tryd.prog 81 #[.int .u8 b, .int .i64 1] W fun e w' => e = .returned (.int .u8 u) ∧ W = w'))
    (h1 : 198 ≤ u) (h2 : u ≤ 198) : WeiR b u w := by
  have hv : accN u = u := (by decide +kernel : ∀ u : Fin 256, 198 ≤ u.val → u.val ≤ 198 → accN u.val = u.val) ⟨u, by omega⟩ h1 h2
  unfold WeiR
  rw [hv]
  clear hv
  have g0 : (192 : Int) ≤ u := by omega
  have g1 : ¬ (u : Int) ≤ 197 := by omega
  have g2 : ¬ (200 : Int) ≤ u := by omega
  have g3 : (u : Int) ≤ 203 := by omega
  have g4 : ¬ (204 : Int) ≤ u := by omega
  have g5 : (u : Int) ≤ 207 := by omega
  have g6 : ¬ (210 : Int) ≤ u := by omega
  have g7 : (u : Int) ≤ 214 := by omega
  have g8 : ¬ (217 : Int) ≤ u := by omega
  have g9 : (u : Int) ≤ 220 := by omega
  have g10 : ((u : Int) == 199) = false := by simp; omega
  have g11 : ((u : Int) == 209) = false := by simp; omega
  have g12 : ((u : Int) == 221) = false := by simp; omega
  clear h1 h2
  go_enter Tryd.func61, Tryd.ntmps61
  go_wp2_with fail
  refine (C1.out _).mono ?_
  rintro e w1 ⟨rfl, rfl⟩
  go_wp2_with fail
  refine (C2.out _).mono ?_
  rintro e w1 ⟨rfl, rfl⟩
  go_wp2_with fail
  go_ret
  exact ⟨rfl, rfl⟩

set_option maxHeartbeats 1000000 in
set_option maxRecDepth 40000 in
theorem weiR_3 (b u : Nat) (w : World) (C1 : Hid (∀ W : World, Calls Tryd.prog 80 #[.int .u8 b, .int .i64 1] W fun e w' => e = .returned (.bool true) ∧ W = w')) (C2 : Hid (∀ W : World, Calls Tryd.prog 81 #[.int .u8 b, .int .i64 1] W fun e w' => e = .returned (.int .u8 u) ∧ W = w'))
    (h1 : 199 ≤ u) (h2 : u ≤ 199) : WeiR b u w := by
  have hv : accN u = 67 := (by decide +kernel : ∀ u : Fin 256, 199 ≤ u.val → u.val ≤ 199 → accN u.val = 67) ⟨u, by omega⟩ h1 h2
  unfold WeiR
  rw [hv]
  clear hv
  have g0 : (192 : Int) ≤ u := by omega
  have g1 : ¬ (u : Int) ≤ 197 := by omega
  have g2 : ¬ (200 : Int) ≤ u := by omega
  have g3 : (u : Int) ≤ 203 := by omega
  have g4 : ¬ (204 : Int) ≤ u := by omega
  have g5 : (u : Int) ≤ 207 := by omega
  have g6 : ¬ (210 : Int) ≤ u := by omega
  have g7 : (u : Int) ≤ 214 := by omega
  have g8 : ¬ (217 : Int) ≤ u := by omega
  have g9 : (u : Int) ≤ 220 := by omega
  have g10 : ((u : Int) == 199) = true := by simp; omega
  have g11 : ((u : Int) == 209) = false := by simp; omega
  have g12 : ((u : Int) == 221) = false := by simp; omega
  clear h1 h2
  go_enter Tryd.func61, Tryd.ntmps61
  go_wp2_with fail
  refine (C1.out _).mono ?_
  rintro e w1 ⟨rfl, rfl⟩
  go_wp2_with fail
  refine (C2.out _).mono ?_
  rintro e w1 ⟨rfl, rfl⟩
  go_wp2_with fail
  go_ret
  exact ⟨rfl, rfl⟩

set_option maxHeartbeats 1000000 in
set_option maxRecDepth 40000 in
theorem weiR_4 (b u : Nat) (w : World) (C1 : Hid (∀ W : World, Calls Tryd.prog 80 #[.int .u8 b, .int .i64 1] W fun e w' => e = .returned (.bool true) ∧ W = w')) (C2 : Hid (∀ W : World, Calls Tryd.prog 81 #[.int .u8 b, .int .i64 1] W fun e w' => e = .returned (.int .u8 u) ∧ W = w'))
    (h1 : 200 ≤ u) (h2 : u ≤ 203) : WeiR b u w := by
  have hv : accN u = 69 := (by decide +kernel : ∀ u : Fin 256, 200 ≤ u.val → u.val ≤ 203 → accN u.val = 69) ⟨u, by omega⟩ h1 h2
  unfold WeiR
  rw [hv]
  clear hv
  have g0 : (192 : Int) ≤ u := by omega
  have g1 : ¬ (u : Int) ≤ 197 := by omega
  have g2 : (200 : Int) ≤ u := by omega
  have g3 : (u : Int) ≤ 203 := by omega
  have g4 : ¬ (204 : Int) ≤ u := by omega
  have g5 : (u : Int) ≤ 207 := by omega
  have g6 : ¬ (210 : Int) ≤ u := by omega
  have g7 : (u : Int) ≤ 214 := by omega
  have g8 : ¬ (217 : Int) ≤ u := by omega
  have g9 : (u : Int) ≤ 220 := by omega
  have g10 : ((u : Int) == 199) = false := by simp; omega
  have g11 : ((u : Int) == 209) = false := by simp; omega
  have g12 : ((u : Int) == 221) = false := by simp; omega
  clear h1 h2
  go_enter Tryd.func61, Tryd.ntmps61
  go_wp2_with fail
  refine (C1.out _).mono ?_
  rintro e w1 ⟨rfl, rfl⟩
  go_wp2_with fail
  refine (C2.out _).mono ?_
  rintro e w1 ⟨rfl, rfl⟩
  go_wp2_with fail
  go_ret
  exact ⟨rfl, rfl⟩

set_option maxHeartbeats 1000000 in
set_option maxRecDepth 40000 in
theorem weiR_5 (b u : Nat) (w : World) (C1 : Hid (∀ W : World, Calls Tryd.prog 80 #[.int .u8 b, .int .i64 1] W fun e w' => e = .returned (.bool true) ∧ W = w')) (C2 : Hid (∀ W : World, Calls Tryd.prog 81 #[.int .u8 b, .int .i64 1] W fun e w' => e = .returned (.int .u8 u) ∧ W = w'))
    (h1 : 204 ≤ u) (h2 : u ≤ 207) : WeiR b u w := by
  have hv : accN u = 73 := (by decide +kernel : ∀ u : Fin 256, 204 ≤ u.val → u.val ≤ 207 → accN u.val = 73) ⟨u, by omega⟩ h1 h2
  unfold WeiR
  rw [hv]
  clear hv
  have g0 : (192 : Int) ≤ u := by omega
  have g1 : ¬ (u : Int) ≤ 197 := by omega
  have g2 : (200 : Int) ≤ u := by omega
  have g3 : ¬ (u : Int) ≤ 203 := by omega
  have g4 : (204 : Int) ≤ u := by omega
  have g5 : (u : Int) ≤ 207 := by omega
  have g6 : ¬ (210 : Int) ≤ u := by omega
  have g7 : (u : Int) ≤ 214 := by omega
  have g8 : ¬ (217 : Int) ≤ u := by omega
  have g9 : (u : Int) ≤ 220 := by omega
  have g10 : ((u : Int) == 199) = false := by simp; omega
  have g11 : ((u : Int) == 209) = false := by simp; omega
  have g12 : ((u : Int) == 221) = false := by simp; omega
  clear h1 h2
  go_enter Tryd.func61, Tryd.ntmps61
  go_wp2_with fail
  refine (C1.out _).mono ?_
  rintro e w1 ⟨rfl, rfl⟩
  go_wp2_with fail
  refine (C2.out _).mono ?_
  rintro e w1 ⟨rfl, rfl⟩
  go_wp2_with fail
  go_ret
  exact ⟨rfl, rfl⟩

set_option maxHeartbeats 1000000 in
set_option maxRecDepth 40000 in
theorem weiR_6 (b u : Nat) (w : World) (C1 : Hid (∀ W : World, Calls Tryd.prog 80 #[.int .u8 b, .int .i64 1] W fun e w' => e = .returned (.bool true) ∧ W = w')) (C2 : Hid (∀ W : World, Calls Tryd.prog 81 #[.int .u8 b, .int .i64 1] W fun e w' => e = .returned (.int .u8 u) ∧ W = w'))
    (h1 : 208 ≤ u) (h2 : u ≤ 208) : WeiR b u w := by
  have hv : accN u = u := (by decide +kernel : ∀ u : Fin 256, 208 ≤ u.val → u.val ≤ 208 → accN u.val = u.val) ⟨u, by omega⟩ h1 h2
  unfold WeiR
  rw [hv]
  clear hv
  have g0 : (192 : Int) ≤ u := by omega
  have g1 : ¬ (u : Int) ≤ 197 := by omega
  have g2 : (200 : Int) ≤ u := by omega
  have g3 : ¬ (u : Int) ≤ 203 := by omega
  have g4 : (204 : Int) ≤ u := by omega
  have g5 : ¬ (u : Int) ≤ 207 := by omega
  have g6 : ¬ (210 : Int) ≤ u := by omega
  have g7 : (u : Int) ≤ 214 := by omega
  have g8 : ¬ (217 : Int) ≤ u := by omega
  have g9 : (u : Int) ≤ 220 := by omega
  have g10 : ((u : Int) == 199) = false := by simp; omega
  have g11 : ((u : Int) == 209) = false := by simp; omega
  have g12 : ((u : Int) == 221) = false := by simp; omega
  clear h1 h2
  go_enter Tryd.func61, Tryd.ntmps61
  go_wp2_with fail
  refine (C1.out _).mono ?_
  rintro e w1 ⟨rfl, rfl⟩
  go_wp2_with fail
  refine (C2.out _).mono ?_
  rintro e w1 ⟨rfl, rfl⟩
  go_wp2_with fail
  go_ret
  exact ⟨rfl, rfl⟩

set_option maxHeartbeats 1000000 in
set_option maxRecDepth 40000 in
theorem weiR_7 (b u : Nat) (w : World) (C1 : Hid (∀ W : World, Calls Tryd.prog 80 #[.int .u8 b, .int .i64 1] W fun e w' => e = .returned (.bool true) ∧ W = w')) (C2 : Hid (∀ W : World, Calls Tryd.prog 81 #[.int .u8 b, .int .i64 1] W fun e w' => e = .returned (.int .u8 u) ∧ W = w'))
    (h1 : 209 ≤ u) (h2 : u ≤ 209) : WeiR b u w := by
  have hv : accN u = 78 := (by decide +kernel : ∀ u : Fin 256, 209 ≤ u.val → u.val ≤ 209 → accN u.val = 78) ⟨u, by omega⟩ h1 h2
  unfold WeiR
  rw [hv]
  clear hv
  have g0 : (192 : Int) ≤ u := by omega
  have g1 : ¬ (u : Int) ≤ 197 := by omega
  have g2 : (200 : Int) ≤ u := by omega
  have g3 : ¬ (u : Int) ≤ 203 := by omega
  have g4 : (204 : Int) ≤ u := by omega
  have g5 : ¬ (u : Int) ≤ 207 := by omega
  have g6 : ¬ (210 : Int) ≤ u := by omega
  have g7 : (u : Int) ≤ 214 := by omega
  have g8 : ¬ (217 : Int) ≤ u := by omega
  have g9 : (u : Int) ≤ 220 := by omega
  have g10 : ((u : Int) == 199) = false := by simp; omega
  have g11 : ((u : Int) == 209) = true := by simp; omega
  have g12 : ((u : Int) == 221) = false := by simp; omega
  clear h1 h2
  go_enter Tryd.func61, Tryd.ntmps61
  go_wp2_with fail
  refine (C1.out _).mono ?_
  rintro e w1 ⟨rfl, rfl⟩
  go_wp2_with fail
  refine (C2.out _).mono ?_
  rintro e w1 ⟨rfl, rfl⟩
  go_wp2_with fail
  go_ret
  exact ⟨rfl, rfl⟩

set_option maxHeartbeats 1000000 in
set_option maxRecDepth 40000 in
theorem weiR_8 (b u : Nat) (w : World) (C1 : Hid (∀ W : World, Calls Tryd.prog 80 #[.int .u8 b, .int .i64 1] W fun e w' => e = .returned (.bool true) ∧ W = w')) (C2 : Hid (∀ W : World, Calls Tryd.prog 81 #[.int .u8 b, .int .i64 1] W fun e w' => e = .returned (.int .u8 u) ∧ W = w'))
    (h1 : 210 ≤ u) (h2 : u ≤ 214) : WeiR b u w := by
  have hv : accN u = 79 := (by decide +kernel : ∀ u : Fin 256, 210 ≤ u.val → u.val ≤ 214 → accN u.val = 79) ⟨u, by omega⟩ h1 h2
  unfold WeiR
  rw [hv]
  clear hv
  have g0 : (192 : Int) ≤ u := by omega
  have g1 : ¬ (u : Int) ≤ 197 := by omega
  have g2 : (200 : Int) ≤ u := by omega
  have g3 : ¬ (u : Int) ≤ 203 := by omega
  have g4 : (204 : Int) ≤ u := by omega
  have g5 : ¬ (u : Int) ≤ 207 := by omega
  have g6 : (210 : Int) ≤ u := by omega
  have g7 : (u : Int) ≤ 214 := by omega
  have g8 : ¬ (217 : Int) ≤ u := by omega
  have g9 : (u : Int) ≤ 220 := by omega
  have g10 : ((u : Int) == 199) = false := by simp; omega
  have g11 : ((u : Int) == 209) = false := by simp; omega
  have g12 : ((u : Int) == 221) = false := by simp; omega
  clear h1 h2
  go_enter Tryd.func61, Tryd.ntmps61
  go_wp2_with fail
  refine (C1.out _).mono ?_
  rintro e w1 ⟨rfl, rfl⟩
  go_wp2_with fail
  refine (C2.out _).mono ?_
  rintro e w1 ⟨rfl, rfl⟩
  go_wp2_with fail
  go_ret
  exact ⟨rfl, rfl⟩

set_option maxHeartbeats 1000000 in
set_option maxRecDepth 40000 in
theorem weiR_9 (b u : Nat) (w : World) (C1 : Hid (∀ W : World, Calls Tryd.prog 80 #[.int .u8 b, .int .i64 1] W fun e w' => e = .returned (.bool true) ∧ W = w')) (C2 : Hid (∀ W : World, Calls Tryd.prog 81 #[.int .u8 b, .int .i64 1] W fun e w' => e = .returned (.int .u8 u) ∧ W = w'))
    (h1 : 215 ≤ u) (h2 : u ≤ 216) : WeiR b u w := by
  have hv : accN u = u := (by decide +kernel : ∀ u : Fin 256, 215 ≤ u.val → u.val ≤ 216 → accN u.val = u.val) ⟨u, by omega⟩ h1 h2
  unfold WeiR
  rw [hv]
  clear hv
  have g0 : (192 : Int) ≤ u := by omega
  have g1 : ¬ (u : Int) ≤ 197 := by omega
  have g2 : (200 : Int) ≤ u := by omega
  have g3 : ¬ (u : Int) ≤ 203 := by omega
  have g4 : (204 : Int) ≤ u := by omega
  have g5 : ¬ (u : Int) ≤ 207 := by omega
  have g6 : (210 : Int) ≤ u := by omega
  have g7 : ¬ (u : Int) ≤ 214 := by omega
  have g8 : ¬ (217 : Int) ≤ u := by omega
  have g9 : (u : Int) ≤ 220 := by omega
  have g10 : ((u : Int) == 199) = false := by simp; omega
  have g11 : ((u : Int) == 209) = false := by simp; omega
  have g12 : ((u : Int) == 221) = false := by simp; omega
  clear h1 h2
  go_enter Tryd.func61, Tryd.ntmps61
  go_wp2_with fail
  refine (C1.out _).mono ?_
  rintro e w1 ⟨rfl, rfl⟩
  go_wp2_with fail
  refine (C2.out _).mono ?_
  rintro e w1 ⟨rfl, rfl⟩
  go_wp2_with fail
  go_ret
  exact ⟨rfl, rfl⟩

set_option maxHeartbeats 1000000 in
set_option maxRecDepth 40000 in
theorem weiR_10 (b u : Nat) (w : World) (C1 : Hid (∀ W : World, Calls Tryd.prog 80 #[.int .u8 b, .int .i64 1] W fun e w' => e = .returned (.bool true) ∧ W = w')) (C2 : Hid (∀ W : World, Calls Tryd.prog 81 #[.int .u8 b, .int .i64 1] W fun e w' => e = .returned (.int .u8 u) ∧ W = w'))
    (h1 : 217 ≤ u) (h2 : u ≤ 220) : WeiR b u w := by
  have hv : accN u = 85 := (by decide +kernel : ∀ u : Fin 256, 217 ≤ u.val → u.val ≤ 220 → accN u.val = 85) ⟨u, by omega⟩ h1 h2
  unfold WeiR
  rw [hv]
  clear hv
  have g0 : (192 : Int) ≤ u := by omega
  have g1 : ¬ (u : Int) ≤ 197 := by omega
  have g2 : (200 : Int) ≤ u := by omega
  have g3 : ¬ (u : Int) ≤ 203 := by omega
  have g4 : (204 : Int) ≤ u := by omega
  have g5 : ¬ (u : Int) ≤ 207 := by omega
  have g6 : (210 : Int) ≤ u := by omega
  have g7 : ¬ (u : Int) ≤ 214 := by omega
  have g8 : (217 : Int) ≤ u := by omega
  have g9 : (u : Int) ≤ 220 := by omega
  have g10 : ((u : Int) == 199) = false := by simp; omega
  have g11 : ((u : Int) == 209) = false := by simp; omega
  have g12 : ((u : Int) == 221) = false := by simp; omega
  clear h1 h2
  go_enter Tryd.func61, Tryd.ntmps61
  go_wp2_with fail
  refine (C1.out _).mono ?_
  rintro e w1 ⟨rfl, rfl⟩
  go_wp2_with fail
  refine (C2.out _).mono ?_
  rintro e w1 ⟨rfl, rfl⟩
  go_wp2_with fail
  go_ret
  exact ⟨rfl, rfl⟩

set_option maxHeartbeats 1000000 in
set_option maxRecDepth 40000 in
theorem weiR_11 (b u : Nat) (w : World) (C1 : Hid (∀ W : World, Calls Tryd.prog 80 #[.int .u8 b, .int .i64 1] W fun e w' => e = .returned (.bool true) ∧ W = w')) (C2 : Hid (∀ W : World, Calls Tryd.prog 81 #[.int .u8 b, .int .i64 1] W fun e w' => e = .returned (.int .u8 u) ∧ W = w'))
    (h1 : 221 ≤ u) (h2 : u ≤ 221) : WeiR b u w := by
  have hv : accN u = 89 := (by decide +kernel : ∀ u : Fin 256, 221 ≤ u.val → u.val ≤ 221 → accN u.val = 89) ⟨u, by omega⟩ h1 h2
  unfold WeiR
  rw [hv]
  clear hv
  have g0 : (192 : Int) ≤ u := by omega
  have g1 : ¬ (u : Int) ≤ 197 := by omega
  have g2 : (200 : Int) ≤ u := by omega
  have g3 : ¬ (u : Int) ≤ 203 := by omega
  have g4 : (204 : Int) ≤ u := by omega
  have g5 : ¬ (u : Int) ≤ 207 := by omega
  have g6 : (210 : Int) ≤ u := by omega
  have g7 : ¬ (u : Int) ≤ 214 := by omega
  have g8 : (217 : Int) ≤ u := by omega
  have g9 : ¬ (u : Int) ≤ 220 := by omega
  have g10 : ((u : Int) == 199) = false := by simp; omega
  have g11 : ((u : Int) == 209) = false := by simp; omega
  have g12 : ((u : Int) == 221) = true := by simp; omega
  clear h1 h2
  go_enter Tryd.func61, Tryd.ntmps61
  go_wp2_with fail
  refine (C1.out _).mono ?_
  rintro e w1 ⟨rfl, rfl⟩
  go_wp2_with fail
  refine (C2.out _).mono ?_
  rintro e w1 ⟨rfl, rfl⟩
  go_wp2_with fail
  go_ret
  exact ⟨rfl, rfl⟩

set_option maxHeartbeats 1000000 in
set_option maxRecDepth 40000 in
theorem weiR_12 (b u : Nat) (w : World) (C1 : Hid (∀ W : World, Calls Tryd.prog 80 #[.int .u8 b, .int .i64 1] W fun e w' => e = .returned (.bool true) ∧ W = w')) (C2 : Hid (∀ W : World, Calls Tryd.prog 81 #[.int .u8 b, .int .i64 1] W fun e w' => e = .returned (.int .u8 u) ∧ W = w'))
    (h1 : 222 ≤ u) (h2 : u ≤ 255) : WeiR b u w := by
  have hv : accN u = u := (by decide +kernel : ∀ u : Fin 256, 222 ≤ u.val → u.val ≤ 255 → accN u.val = u.val) ⟨u, by omega⟩ h1 h2
  unfold WeiR
  rw [hv]
  clear hv
  have g0 : (192 : Int) ≤ u := by omega
  have g1 : ¬ (u : Int) ≤ 197 := by omega
  have g2 : (200 : Int) ≤ u := by omega
  have g3 : ¬ (u : Int) ≤ 203 := by omega
  have g4 : (204 : Int) ≤ u := by omega
  have g5 : ¬ (u : Int) ≤ 207 := by omega
  have g6 : (210 : Int) ≤ u := by omega
  have g7 : ¬ (u : Int) ≤ 214 := by omega
  have g8 : (217 : Int) ≤ u := by omega
  have g9 : ¬ (u : Int) ≤ 220 := by omega
  have g10 : ((u : Int) == 199) = false := by simp; omega
  have g11 : ((u : Int) == 209) = false := by simp; omega
  have g12 : ((u : Int) == 221) = false := by simp; omega
  clear h1 h2
  go_enter Tryd.func61, Tryd.ntmps61
  go_wp2_with fail
  refine (C1.out _).mono ?_
  rintro e w1 ⟨rfl, rfl⟩
  go_wp2_with fail
  refine (C2.out _).mono ?_
  rintro e w1 ⟨rfl, rfl⟩
  go_wp2_with fail
  go_ret
  exact ⟨rfl, rfl⟩

set_option maxHeartbeats 2000000 in
theorem refWeight_any (b p c : Nat) (hb : b < 256) (hp : p < 3) (hc : c < 2) (w : World) :
    Calls Tryd.prog 61 #[.int .u8 b, .int .i64 p, .int .i64 c] w fun e w' => e = .returned (.int .u8 (weiN p c b)) ∧ w = w' := by
  have hl := Lib.hid (fun W => refIsLetter_any b p hb hp W)
  have hu := Lib.hid (fun W => refUpper_any b p hb hp W)
  rcases (show c = 0 ∨ c = 1 by omega) with rfl | rfl
  · have HW : Hid (weiN p 0 b = b) := Lib.hid (by simp [weiN])
    change Calls Tryd.prog 61 #[.int .u8 b, .int .i64 p, .int .i64 0] w _
    go_enter Tryd.func61, Tryd.ntmps61
    go_wp2_with fail
    go_ret
    exact ⟨by rw [HW.out]; rfl, rfl⟩
  · change Calls Tryd.prog 61 #[.int .u8 b, .int .i64 p, .int .i64 1] w _
    cases hlt : letN p b
    · have HW : Hid (weiN p 1 b = b) := Lib.hid (by simp [weiN, hlt])
      rw [hlt] at hl
      clear hlt
      go_enter Tryd.func61, Tryd.ntmps61
      go_wp2_with fail
      refine (hl.out _).mono ?_
      rintro e w1 ⟨rfl, rfl⟩
      go_wp2_with fail
      go_ret
      exact ⟨by rw [HW.out]; rfl, rfl⟩
    · rw [hlt] at hl
      have hul := up_lt hb hp
      by_cases h1 : p = 1
      · subst h1
        have hw : weiN 1 1 b = accN (upN 1 b) := by simp [weiN, hlt]
        rw [hw]
        clear hw hlt
        generalize upN 1 b = u at *
        show WeiR b u w
        rcases (show (0 ≤ u ∧ u ≤ 191) ∨ (192 ≤ u ∧ u ≤ 197) ∨ (198 ≤ u ∧ u ≤ 198) ∨ (199 ≤ u ∧ u ≤ 199) ∨ (200 ≤ u ∧ u ≤ 203) ∨ (204 ≤ u ∧ u ≤ 207) ∨ (208 ≤ u ∧ u ≤ 208) ∨ (209 ≤ u ∧ u ≤ 209) ∨ (210 ≤ u ∧ u ≤ 214) ∨ (215 ≤ u ∧ u ≤ 216) ∨ (217 ≤ u ∧ u ≤ 220) ∨ (221 ≤ u ∧ u ≤ 221) ∨ (222 ≤ u ∧ u ≤ 255) by omega) with ⟨h1, h2⟩ | ⟨h1, h2⟩ | ⟨h1, h2⟩ | ⟨h1, h2⟩ | ⟨h1, h2⟩ | ⟨h1, h2⟩ | ⟨h1, h2⟩ | ⟨h1, h2⟩ | ⟨h1, h2⟩ | ⟨h1, h2⟩ | ⟨h1, h2⟩ | ⟨h1, h2⟩ | ⟨h1, h2⟩
        · exact weiR_0 b u w hl hu h1 h2
        · exact weiR_1 b u w hl hu h1 h2
        · exact weiR_2 b u w hl hu h1 h2
        · exact weiR_3 b u w hl hu h1 h2
        · exact weiR_4 b u w hl hu h1 h2
        · exact weiR_5 b u w hl hu h1 h2
        · exact weiR_6 b u w hl hu h1 h2
        · exact weiR_7 b u w hl hu h1 h2
        · exact weiR_8 b u w hl hu h1 h2
        · exact weiR_9 b u w hl hu h1 h2
        · exact weiR_10 b u w hl hu h1 h2
        · exact weiR_11 b u w hl hu h1 h2
        · exact weiR_12 b u w hl hu h1 h2
      · have HW : Hid (weiN p 1 b = upN p b) := Lib.hid (by simp [weiN, hlt, h1])
        have d1 : ((p : Int) != 1) = true := by simp; omega
        clear hlt h1
        generalize upN p b = u at *
        go_enter Tryd.func61, Tryd.ntmps61
        go_wp2_with fail
        refine (hl.out _).mono ?_
        rintro e w1 ⟨rfl, rfl⟩
        go_wp2_with fail
        refine (hu.out _).mono ?_
        rintro e w1 ⟨rfl, rfl⟩
        go_wp2_with fail
        go_ret
        exact ⟨by rw [HW.out]; rfl, rfl⟩
end Go.Proofs.YtiddnacmopfamaaDoor
