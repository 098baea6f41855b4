/- char and byteOf of the reference. -/
import Derived.Test.YtgeikbcfjidgcaaDoorPgC1
namespace Go.Proofs.YtgeikbcfjidgcaaDoor
open Go.RowKit
set_option linter.unusedVariables false
set_option linter.unusedSimpArgs false

def chI (p b : Nat) : Option Int := (charN p b).map Int.ofNat
def byI (p : Nat) (c : Int) : Option Int := (bytN p c).map Int.ofNat
/-- A number and whether there is one, the world as it was. -/
def OptS (k : IntKind) (o : Option Int) (w : World) (e : Ending) (w' : World) : Prop := e = .returned (.tuple #[.int k (o.getD 0), .bool o.isSome]) ∧ w = w'

set_option maxHeartbeats 1000000 in
theorem char_0_0 (b : Nat) (w : World) (h1 : 0 ≤ b) (h2 : b ≤ 127) : Calls Tryd.prog 43 #[.int .u8 b, .int .i64 0] w (OptS .i64 (chI 0 b) w) := by
  have hv : charN 0 b = some b := by rw [charN, if_pos (by omega)]
  have he : chI 0 b = some (b : Int) := by rw [chI, hv]; simp
  rw [he]
  clear he hv
  have g0 : (b : Int) < 128 := by omega
  have g1 : (b : Int) ≤ 175 := by omega
  have g2 : ¬ (224 : Int) ≤ b := by omega
  have g3 : (b : Int) ≤ 239 := by omega
  go_enter Tryd.func43, Tryd.ntmps43
  go_wp2
  go_ret2
  exact ⟨rfl, rfl⟩

set_option maxHeartbeats 1000000 in
theorem char_0_1 (b : Nat) (w : World) (h1 : 128 ≤ b) (h2 : b ≤ 255) : Calls Tryd.prog 43 #[.int .u8 b, .int .i64 0] w (OptS .i64 (chI 0 b) w) := by
  have hv : charN 0 b = none := by rw [charN, if_neg (by omega), if_neg (by omega), if_neg (by omega)]
  have he : chI 0 b = none := by rw [chI, hv]; rfl
  rw [he]
  clear he hv
  have g0 : ¬ (b : Int) < 128 := by omega
  go_enter Tryd.func43, Tryd.ntmps43
  go_wp2
  go_ret2
  exact ⟨rfl, rfl⟩

set_option maxHeartbeats 1000000 in
theorem char_1_0 (b : Nat) (w : World) (h1 : 0 ≤ b) (h2 : b ≤ 127) : Calls Tryd.prog 43 #[.int .u8 b, .int .i64 1] w (OptS .i64 (chI 1 b) w) := by
  have hv : charN 1 b = some b := by rw [charN, if_pos (by omega)]
  have he : chI 1 b = some (b : Int) := by rw [chI, hv]; simp
  rw [he]
  clear he hv
  have g0 : (b : Int) < 128 := by omega
  have g1 : (b : Int) ≤ 175 := by omega
  have g2 : ¬ (224 : Int) ≤ b := by omega
  have g3 : (b : Int) ≤ 239 := by omega
  go_enter Tryd.func43, Tryd.ntmps43
  go_wp2
  go_ret2
  exact ⟨rfl, rfl⟩

set_option maxHeartbeats 1000000 in
theorem char_1_1 (b : Nat) (w : World) (h1 : 128 ≤ b) (h2 : b ≤ 255) : Calls Tryd.prog 43 #[.int .u8 b, .int .i64 1] w (OptS .i64 (chI 1 b) w) := by
  have hv : charN 1 b = some b := by rw [charN, if_pos (by omega)]
  have he : chI 1 b = some (b : Int) := by rw [chI, hv]; simp
  rw [he]
  clear he hv
  have g0 : ¬ (b : Int) < 128 := by omega
  go_enter Tryd.func43, Tryd.ntmps43
  go_wp2
  go_ret2
  exact ⟨rfl, rfl⟩

set_option maxHeartbeats 1000000 in
theorem char_2_0 (b : Nat) (w : World) (h1 : 0 ≤ b) (h2 : b ≤ 127) : Calls Tryd.prog 43 #[.int .u8 b, .int .i64 2] w (OptS .i64 (chI 2 b) w) := by
  have hv : charN 2 b = some b := by rw [charN, if_pos (by omega)]
  have he : chI 2 b = some (b : Int) := by rw [chI, hv]; simp
  rw [he]
  clear he hv
  have g0 : (b : Int) < 128 := by omega
  have g1 : (b : Int) ≤ 175 := by omega
  have g2 : ¬ (224 : Int) ≤ b := by omega
  have g3 : (b : Int) ≤ 239 := by omega
  go_enter Tryd.func43, Tryd.ntmps43
  go_wp2
  go_ret2
  exact ⟨rfl, rfl⟩

set_option maxHeartbeats 1000000 in
theorem char_2_1 (b : Nat) (w : World) (h1 : 128 ≤ b) (h2 : b ≤ 175) : Calls Tryd.prog 43 #[.int .u8 b, .int .i64 2] w (OptS .i64 (chI 2 b) w) := by
  have hv : charN 2 b = some (b - 128 + 1040) := by rw [charN, if_neg (by omega), if_pos (by omega)]
  have he : chI 2 b = some ((b : Int) - 128 + 1040) := by rw [chI, hv]; simp; omega
  rw [he]
  clear he hv
  have g0 : ¬ (b : Int) < 128 := by omega
  have g1 : (b : Int) ≤ 175 := by omega
  have g2 : ¬ (224 : Int) ≤ b := by omega
  have g3 : (b : Int) ≤ 239 := by omega
  go_enter Tryd.func43, Tryd.ntmps43
  go_wp2
  go_ret2
  exact ⟨rfl, rfl⟩

set_option maxHeartbeats 1000000 in
theorem char_2_2 (b : Nat) (w : World) (h1 : 176 ≤ b) (h2 : b ≤ 223) : Calls Tryd.prog 43 #[.int .u8 b, .int .i64 2] w (OptS .i64 (chI 2 b) w) := by
  have hv : charN 2 b = none := by rw [charN, if_neg (by omega), if_neg (by omega), if_neg (by omega)]
  have he : chI 2 b = none := by rw [chI, hv]; rfl
  rw [he]
  clear he hv
  have g0 : ¬ (b : Int) < 128 := by omega
  have g1 : ¬ (b : Int) ≤ 175 := by omega
  have g2 : ¬ (224 : Int) ≤ b := by omega
  have g3 : (b : Int) ≤ 239 := by omega
  go_enter Tryd.func43, Tryd.ntmps43
  go_wp2
  go_ret2
  exact ⟨rfl, rfl⟩

set_option maxHeartbeats 1000000 in
theorem char_2_3 (b : Nat) (w : World) (h1 : 224 ≤ b) (h2 : b ≤ 239) : Calls Tryd.prog 43 #[.int .u8 b, .int .i64 2] w (OptS .i64 (chI 2 b) w) := by
  have hv : charN 2 b = some (b - 224 + 1088) := by rw [charN, if_neg (by omega), if_neg (by omega), if_pos (by omega)]
  have he : chI 2 b = some ((b : Int) - 224 + 1088) := by rw [chI, hv]; simp; omega
  rw [he]
  clear he hv
  have g0 : ¬ (b : Int) < 128 := by omega
  have g1 : ¬ (b : Int) ≤ 175 := by omega
  have g2 : (224 : Int) ≤ b := by omega
  have g3 : (b : Int) ≤ 239 := by omega
  go_enter Tryd.func43, Tryd.ntmps43
  go_wp2
  go_ret2
  exact ⟨rfl, rfl⟩

set_option maxHeartbeats 1000000 in
theorem char_2_4 (b : Nat) (w : World) (h1 : 240 ≤ b) (h2 : b ≤ 255) : Calls Tryd.prog 43 #[.int .u8 b, .int .i64 2] w (OptS .i64 (chI 2 b) w) := by
  have hv : charN 2 b = none := by rw [charN, if_neg (by omega), if_neg (by omega), if_neg (by omega)]
  have he : chI 2 b = none := by rw [chI, hv]; rfl
  rw [he]
  clear he hv
  have g0 : ¬ (b : Int) < 128 := by omega
  have g1 : ¬ (b : Int) ≤ 175 := by omega
  have g2 : (224 : Int) ≤ b := by omega
  have g3 : ¬ (b : Int) ≤ 239 := by omega
  go_enter Tryd.func43, Tryd.ntmps43
  go_wp2
  go_ret2
  exact ⟨rfl, rfl⟩
theorem char_any (b p : Nat) (hb : b < 256) (hp : p < 3) (w : World) : Calls Tryd.prog 43 #[.int .u8 b, .int .i64 p] w (OptS .i64 (chI p b) w) := by
  rcases (show p = 0 ∨ p = 1 ∨ p = 2 by omega) with rfl | rfl | rfl
  · rcases (show (0 ≤ b ∧ b ≤ 127) ∨ (128 ≤ b ∧ b ≤ 255) by omega) with ⟨h1, h2⟩ | ⟨h1, h2⟩
    · exact char_0_0 b w h1 h2
    · exact char_0_1 b w h1 h2
  · rcases (show (0 ≤ b ∧ b ≤ 127) ∨ (128 ≤ b ∧ b ≤ 255) by omega) with ⟨h1, h2⟩ | ⟨h1, h2⟩
    · exact char_1_0 b w h1 h2
    · exact char_1_1 b w h1 h2
  · rcases (show (0 ≤ b ∧ b ≤ 127) ∨ (128 ≤ b ∧ b ≤ 175) ∨ (176 ≤ b ∧ b ≤ 223) ∨ (224 ≤ b ∧ b ≤ 239) ∨ (240 ≤ b ∧ b ≤ 255) by omega) with ⟨h1, h2⟩ | ⟨h1, h2⟩ | ⟨h1, h2⟩ | ⟨h1, h2⟩ | ⟨h1, h2⟩
    · exact char_2_0 b w h1 h2
    · exact char_2_1 b w h1 h2
    · exact char_2_2 b w h1 h2
    · exact char_2_3 b w h1 h2
    · exact char_2_4 b w h1 h2

theorem back_tab : ∀ (p : Fin 3) (b : Fin 256), (match charN p.val b.val with | some x => decide (bytN p.val x = some b.val) | none => true) = true := by decide +kernel
theorem byt_of_chr {p b : Nat} (hp : p < 3) (hb : b < 256) {c : Int} (h : chI p b = some c) : byI p c = some (b : Int) := by
  have ht := back_tab ⟨p, hp⟩ ⟨b, hb⟩
  simp only at ht
  unfold chI at h
  cases hc : charN p b with
  | none => rw [hc] at h; cases h
  | some x =>
    rw [hc] at h ht
    simp only [Option.map_some, Option.some.injEq] at h
    subst h
    simp only at ht
    unfold byI
    rw [show Int.ofNat x = (x : Int) from rfl, of_decide_eq_true ht]; rfl
theorem chr_of_byt {p : Nat} (hp : p < 3) {c : Int} {x : Int} (h : byI p c = some x) : ∃ b : Nat, b < 256 ∧ chI p b = some c := by
  unfold byI at h
  cases hc : bytN p c with
  | none => rw [hc] at h; cases h
  | some b =>
    refine ⟨b, ?_⟩
    unfold bytN at hc
    rcases (show p = 0 ∨ p = 1 ∨ p = 2 by omega) with rfl | rfl | rfl
    · rw [if_pos rfl] at hc
      split at hc
      · cases hc
        refine ⟨by omega, ?_⟩
        rw [chI, charN, if_pos (by omega)]; simp; omega
      · cases hc
    · rw [if_neg (by omega), if_pos rfl] at hc
      split at hc
      · cases hc
        refine ⟨by omega, ?_⟩
        rw [chI, charN, if_pos (.inr rfl)]; simp; omega
      · cases hc
    · rw [if_neg (by omega), if_neg (by omega)] at hc
      split at hc
      · cases hc
        refine ⟨by omega, ?_⟩
        rw [chI, charN, if_pos (by omega)]; simp; omega
      · split at hc
        · cases hc
          refine ⟨by omega, ?_⟩
          rw [chI, charN, if_neg (by omega), if_pos (by omega)]; simp; omega
        · split at hc
          · cases hc
            refine ⟨by omega, ?_⟩
            rw [chI, charN, if_neg (by omega), if_neg (by omega), if_pos (by omega)]; simp; omega
          · cases hc

set_option maxHeartbeats 4000000 in
set_option maxRecDepth 20000 in
theorem refByteOf_any (c : Int) (p : Nat) (hp : p < 3) (w : World) : Calls Tryd.prog 47 #[.int .i64 c, .int .i64 p] w (OptS .u8 (byI p c) w) := by
  go_enter Tryd.func47, Tryd.ntmps47
  go_wp2_with fail
  go_loop [6] (fun i => ∃ k : Nat, k ≤ 256 ∧ i = .int .i64 k ∧ Hid (∀ b, b < k → chI p b ≠ some c)) (fun i => 256 - (intOf i).toNat)
  case atStart => exact ⟨0, by omega, rfl, Lib.hid fun b h => by omega⟩
  case round =>
    obtain ⟨k, hk, rfl, HA⟩ := hrel
    by_cases hlt : k < 256
    · have C := Lib.hid (fun W => char_any k p hlt hp W)
      have hm := Lib.hid (fun h : chI p k = some c => byt_of_chr hp hlt h)
      have HN : Hid (∀ o, o = chI p k → o ≠ some c → ∀ b, b < k + 1 → chI p b ≠ some c) := Lib.hid fun o ho hne b hb => by
        rcases Nat.lt_or_ge b k with q | q
        · exact HA.out b q
        · obtain rfl : b = k := by omega
          rw [← ho]; exact hne
      have hk2 : (k : Int) < 256 := by omega
      generalize hoe : chI p k = o at *
      cases o with
      | none =>
        have HNN := Lib.hid (HN.out _ rfl (by simp))
        clear hm HN
        go_wp2_with fail
        refine (C.out _).mono ?_
        rintro e w1 ⟨rfl, rfl⟩
        simp only [Option.getD_none, Option.isSome_none]
        go_wp2_with fail
        first
        | (go_round; exact ⟨⟨k + 1, by omega, by go_num, HNN⟩, by simp [intOf]; omega⟩)
        | exact ⟨⟨k + 1, by omega, by go_num, HNN⟩, by simp [intOf]; omega⟩
      | some x =>
        by_cases hx : x = c
        · subst hx
          have HM := Lib.hid (hm.out rfl)
          clear hm HN
          go_wp2_with fail
          refine (C.out _).mono ?_
          rintro e w1 ⟨rfl, rfl⟩
          simp only [Option.getD_some, Option.isSome_some]
          go_wp2_with fail
          go_ret2
          exact ⟨by rw [HM.out]; rfl, rfl⟩
        · have hg : (x == c) = false := by simpa using hx
          have HNN := Lib.hid (HN.out _ rfl (by simpa using hx))
          clear hm HN hx
          go_wp2_with fail
          refine (C.out _).mono ?_
          rintro e w1 ⟨rfl, rfl⟩
          simp only [Option.getD_some, Option.isSome_some]
          go_wp2_with fail
          first
          | (go_round; exact ⟨⟨k + 1, by omega, by go_num, HNN⟩, by simp [intOf]; omega⟩)
          | exact ⟨⟨k + 1, by omega, by go_num, HNN⟩, by simp [intOf]; omega⟩
    · obtain rfl : k = 256 := by omega
      have hn : byI p c = none := by
        cases hb : byI p c with
        | none => rfl
        | some x =>
          obtain ⟨b, h1, h2⟩ := chr_of_byt hp hb
          exact absurd h2 (HA.out b h1)
      have HN := Lib.hid hn; clear hn
      go_wp2_with fail
      go_ret2
      exact ⟨by rw [HN.out]; rfl, rfl⟩
end Go.Proofs.YtgeikbcfjidgcaaDoor
