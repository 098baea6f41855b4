/- isLetter, weight and wrong of the program. -/
import Derived.Test.YtiddnacmopfamaaDoorPgT
namespace Go.Proofs.YtiddnacmopfamaaDoor
open Go.RowKit
set_option linter.unusedVariables false
set_option linter.unusedSimpArgs false

theorem up_lt {p b : Nat} (hb : b < 256) (hp : p < 3) : upN p b < 256 := (up_tab ⟨p, hp⟩ ⟨b, hb⟩).2.2.2.1
theorem low_lt {p b : Nat} (hb : b < 256) (hp : p < 3) : lowN p b < 256 := (up_tab ⟨p, hp⟩ ⟨b, hb⟩).2.2.2.2
theorem let_eq {p b : Nat} (hb : b < 256) (hp : p < 3) : (upN p b != lowN p b) = letN p b := (up_tab ⟨p, hp⟩ ⟨b, hb⟩).2.2.1

/-- What the functions have in common: a text too long, or a wrong page or collation. -/
def wrongN (p c : Int) (ss : List ByteArray) : Int := if ss.any (fun s => decide (2048 < s.size)) then 3 else if 0 ≤ p ∧ p < 3 ∧ (c = 0 ∨ c = 1) then 0 else 1
theorem any_take {ss : List ByteArray} {k : Nat} (h : k < ss.length) (f : ByteArray → Bool) : (ss.take (k + 1)).any f = ((ss.take k).any f || f (ss.getD k ByteArray.empty)) := by
  rw [List.take_succ_eq_append_getElem h, List.any_append]; simp [List.getD, h]
theorem any_at {ss : List ByteArray} {k : Nat} (h : k < ss.length) (f : ByteArray → Bool) (hf : f (ss.getD k ByteArray.empty) = true) : ss.any f = true := by
  rw [List.any_eq_true]
  refine ⟨_, List.getElem_mem h, ?_⟩
  simpa [List.getD, h] using hf

set_option maxHeartbeats 1000000 in
theorem isPage_any (p : Int) (w : World) : Calls Tryd.prog 104 #[.int .i64 p] w fun e w' => e = .returned (.bool (decide (0 ≤ p) && decide (p < 3))) ∧ w = w' := by
  by_cases h : 0 ≤ p
  · by_cases h2 : p < 3
    · have e1 : (decide (0 ≤ p) && decide (p < 3)) = true := by simp [h, h2]
      rw [e1]; clear e1
      go_enter Tryd.func104, Tryd.ntmps104
      go_wp2
      go_ret
      exact ⟨rfl, rfl⟩
    · have e1 : (decide (0 ≤ p) && decide (p < 3)) = false := by simp [h2]
      rw [e1]; clear e1
      go_enter Tryd.func104, Tryd.ntmps104
      go_wp2
      go_ret
      exact ⟨rfl, rfl⟩
  · have e1 : (decide (0 ≤ p) && decide (p < 3)) = false := by simp [h]
    rw [e1]; clear e1
    go_enter Tryd.func104, Tryd.ntmps104
    go_wp2
    go_ret
    exact ⟨rfl, rfl⟩

set_option maxHeartbeats 2000000 in
theorem wrong_any (p c : Int) (ss : List ByteArray) (ad : Addr) (cap : Nat) (w : World) (hl : ss.length ≤ 100) (hs : ∀ s ∈ ss, s.size ≤ maxLen)
    (hc : ∀ j, j < ss.length → w.cell? (ad.add j) = some (.string (ss.getD j ByteArray.empty))) :
    Calls Tryd.prog 90 #[.int .i64 p, .int .i64 c, .slice (some ad) ss.length cap] w fun e w' => e = .returned (.int .i64 (wrongN p c ss)) ∧ w = w' := by
  have HC := Lib.hid hc; clear hc
  have HS := Lib.hid hs; clear hs
  go_enter Tryd.func90, Tryd.ntmps90
  go_wp2_with fail
  go_loop [8, 11] (fun _ i => ∃ k : Nat, k ≤ ss.length ∧ i = .int .i64 k ∧ Hid ((ss.take k).any (fun s => decide (2048 < s.size)) = false)) (fun _ i => ss.length - (intOf i).toNat)
  case atStart => exact ⟨0, by omega, rfl, Lib.hid (by simp)⟩
  case round =>
    obtain ⟨k, hk, rfl, HA⟩ := hrel
    by_cases hlt : k < ss.length
    · have hck := HC.out k hlt
      have hmem : (ss.getD k ByteArray.empty).size ≤ maxLen := HS.out _ (by simp [List.getD, hlt])
      have ht := any_take hlt (fun s => decide (2048 < s.size))
      have hat := any_at hlt (fun s => decide (2048 < s.size))
      generalize ss.getD k ByteArray.empty = s at *
      unfold maxLen at hmem
      by_cases hbig : 2048 < s.size
      · have hw : wrongN p c ss = 3 := by unfold wrongN; rw [if_pos (hat (by simpa using hbig))]
        have HW := Lib.hid hw; clear hw hat ht
        have i1 : (2048 : Int) < s.size := by omega
        go_wp2_with fail
        go_ret
        exact ⟨by rw [HW.out]; rfl, rfl⟩
      · have hn : (ss.take (k + 1)).any (fun s => decide (2048 < s.size)) = false := by rw [ht, HA.out]; simpa using hbig
        have HN := Lib.hid hn; clear hn hat ht
        have i1 : ¬ (2048 : Int) < s.size := by omega
        go_wp2_with fail
        exact ⟨⟨k + 1, by omega, rfl, HN⟩, by simp [intOf]; omega⟩
    · have hkl : k = ss.length := by omega
      have hn : ss.any (fun s => decide (2048 < s.size)) = false := by have := HA.out; rwa [hkl, List.take_length] at this
      have HN := Lib.hid hn; clear hn
      have HK := Lib.hid hkl; clear hkl
      by_cases hp : 0 ≤ p ∧ p < 3
      · have e1 : (decide (0 ≤ p) && decide (p < 3)) = true := by simp [hp]
        have hcon := Lib.hid (fun W => by have h := isPage_any p W; rw [e1] at h; exact h)
        by_cases h0 : c = 0
        · have HW : Hid (wrongN p c ss = 0) := Lib.hid (by unfold wrongN; rw [HN.out]; simp [hp, h0])
          have d0 : (c != 0) = false := by simp [h0]
          clear hp e1 h0
          go_wp2_with fail
          refine (hcon.out _).mono ?_
          rintro e w' ⟨rfl, rfl⟩
          go_wp2_with fail
          go_ret
          exact ⟨by rw [HW.out]; rfl, rfl⟩
        · by_cases h1 : c = 1
          · have HW : Hid (wrongN p c ss = 0) := Lib.hid (by unfold wrongN; rw [HN.out]; simp [hp, h1])
            have d0 : (c != 0) = true := by simp [h0]
            have d1 : (c != 1) = false := by simp [h1]
            clear hp e1 h0 h1
            go_wp2_with fail
            refine (hcon.out _).mono ?_
            rintro e w' ⟨rfl, rfl⟩
            go_wp2_with fail
            go_ret
            exact ⟨by rw [HW.out]; rfl, rfl⟩
          · have HW : Hid (wrongN p c ss = 1) := Lib.hid (by unfold wrongN; rw [HN.out]; simp [hp, h0, h1])
            have d0 : (c != 0) = true := by simp [h0]
            have d1 : (c != 1) = true := by simp [h1]
            clear hp e1 h0 h1
            go_wp2_with fail
            refine (hcon.out _).mono ?_
            rintro e w' ⟨rfl, rfl⟩
            go_wp2_with fail
            go_ret
            exact ⟨by rw [HW.out]; rfl, rfl⟩
      · have e1 : (decide (0 ≤ p) && decide (p < 3)) = false := by
          cases h : (decide (0 ≤ p) && decide (p < 3))
          · rfl
          · exact absurd (by simpa using h) hp
        have hcon := Lib.hid (fun W => by have h := isPage_any p W; rw [e1] at h; exact h)
        have HW : Hid (wrongN p c ss = 1) := Lib.hid (by unfold wrongN; rw [HN.out, if_neg (by simp), if_neg (fun h => hp ⟨h.1, h.2.1⟩)])
        clear hp e1
        go_wp2_with fail
        refine (hcon.out _).mono ?_
        rintro e w' ⟨rfl, rfl⟩
        go_wp2_with fail
        go_ret
        exact ⟨by rw [HW.out]; rfl, rfl⟩
end Go.Proofs.YtiddnacmopfamaaDoor
