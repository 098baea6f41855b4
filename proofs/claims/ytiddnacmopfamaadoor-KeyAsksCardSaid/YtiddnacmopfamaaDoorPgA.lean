/- asked of the reference. -/
import Derived.Test.YtiddnacmopfamaaDoorPgL
namespace Go.Proofs.YtiddnacmopfamaaDoor
open Go.RowKit
set_option linter.unusedVariables false
set_option linter.unusedSimpArgs false

def askedN (m : Int) (ss : List ByteArray) (c : Int) (ps : List Int) : Int :=
  if ss.any (fun s => decide (m < (s.size : Int))) then 3 else if ps.any (fun p => decide (p < 0) || decide (2 < p)) then 1 else if c = 0 ∨ c = 1 then 0 else 1
theorem asked_wrong (ss : List ByteArray) (c p : Int) : askedN 2048 ss c [p] = wrongN p c ss := by
  unfold askedN wrongN
  have e : (fun s : ByteArray => decide ((2048 : Int) < (s.size : Int))) = fun s => decide (2048 < s.size) := by funext s; simp; omega
  rw [e]
  split
  · rfl
  · by_cases h : 0 ≤ p ∧ p < 3
    · have e2 : ([p].any fun p => decide (p < 0) || decide (2 < p)) = false := by simp; omega
      rw [e2, if_neg (by simp)]
      by_cases hc : c = 0 ∨ c = 1
      · rw [if_pos hc, if_pos ⟨h.1, h.2, hc⟩]
      · rw [if_neg hc, if_neg (fun q => hc q.2.2)]
    · have e2 : ([p].any fun p => decide (p < 0) || decide (2 < p)) = true := by simp; omega
      rw [e2, if_pos rfl, if_neg (fun q => h ⟨q.1, q.2.1⟩)]
theorem anyI_take {ss : List Int} {k : Nat} (h : k < ss.length) (f : Int → Bool) : (ss.take (k + 1)).any f = ((ss.take k).any f || f (ss.getD k 0)) := by
  rw [List.take_succ_eq_append_getElem h, List.any_append]; simp [List.getD, h]
theorem anyI_at {ss : List Int} {k : Nat} (h : k < ss.length) (f : Int → Bool) (hf : f (ss.getD k 0) = true) : ss.any f = true := by
  rw [List.any_eq_true]
  refine ⟨_, List.getElem_mem h, ?_⟩
  simpa [List.getD, h] using hf

set_option maxHeartbeats 2000000 in
theorem asked_any (m c : Int) (ss : List ByteArray) (ps : List Int) (ad ad2 : Addr) (cap cap2 : Nat) (w : World) (hl : ss.length ≤ 100) (hl2 : ps.length ≤ 100) (hs : ∀ s ∈ ss, s.size ≤ maxLen)
    (hc : ∀ j, j < ss.length → w.cell? (ad.add j) = some (.string (ss.getD j ByteArray.empty))) (hc2 : ∀ j, j < ps.length → w.cell? (ad2.add j) = some (.int .i64 (ps.getD j 0))) :
    Calls Tryd.prog 60 #[.int .i64 m, .slice (some ad) ss.length cap, .int .i64 c, .slice (some ad2) ps.length cap2] w fun e w' => e = .returned (.int .i64 (askedN m ss c ps)) ∧ w = w' := by
  have HC := Lib.hid hc; clear hc
  have HC2 := Lib.hid hc2; clear hc2
  have HS := Lib.hid hs; clear hs
  go_enter Tryd.func60, Tryd.ntmps60
  go_wp2_with fail
  go_loop [9] (fun i => ∃ k : Nat, k ≤ ss.length ∧ i = .int .i64 k ∧ Hid ((ss.take k).any (fun s => decide (m < (s.size : Int))) = false)) (fun i => ss.length - (intOf i).toNat)
  case atStart => exact ⟨0, by omega, rfl, Lib.hid (by simp)⟩
  case round =>
    obtain ⟨k, hk, rfl, HA⟩ := hrel
    by_cases hlt : k < ss.length
    · have hck := HC.out k hlt
      have hmem : (ss.getD k ByteArray.empty).size ≤ maxLen := HS.out _ (by simp [List.getD, hlt])
      have ht := any_take hlt (fun s => decide (m < (s.size : Int)))
      have hat := any_at hlt (fun s => decide (m < (s.size : Int)))
      generalize ss.getD k ByteArray.empty = s at *
      unfold maxLen at hmem
      by_cases hbig : m < (s.size : Int)
      · have hw : askedN m ss c ps = 3 := by unfold askedN; rw [if_pos (hat (by simpa using hbig))]
        have HW := Lib.hid hw; clear hw hat ht
        go_wp2_with fail
        go_ret
        exact ⟨by rw [HW.out]; rfl, rfl⟩
      · have hn : (ss.take (k + 1)).any (fun s => decide (m < (s.size : Int))) = false := by rw [ht, HA.out]; simpa using hbig
        have HN := Lib.hid hn; clear hn hat ht
        go_wp2_with fail
        exact ⟨⟨k + 1, by omega, rfl, HN⟩, by simp [intOf]; omega⟩
    · have hkl : k = ss.length := by omega
      have hn : ss.any (fun s => decide (m < (s.size : Int))) = false := by have := HA.out; rwa [hkl, List.take_length] at this
      have HN := Lib.hid hn; clear hn
      have HK := Lib.hid hkl; clear hkl
      go_wp2_with fail
      go_loop [10] (fun i => ∃ k : Nat, k ≤ ps.length ∧ i = .int .i64 k ∧ Hid ((ps.take k).any (fun p => decide (p < 0) || decide (2 < p)) = false)) (fun i => ps.length - (intOf i).toNat)
      case atStart => exact ⟨0, by omega, rfl, Lib.hid (by simp)⟩
      case round =>
        obtain ⟨k2, hk2, rfl, HA2⟩ := hrel
        by_cases hlt2 : k2 < ps.length
        · have hck := HC2.out k2 hlt2
          have ht := anyI_take hlt2 (fun p => decide (p < 0) || decide (2 < p))
          have hat := anyI_at hlt2 (fun p => decide (p < 0) || decide (2 < p))
          generalize ps.getD k2 0 = p at *
          by_cases h1 : p < 0
          · have HW : Hid (askedN m ss c ps = 1) := Lib.hid (by unfold askedN; rw [HN.out, if_neg (by simp), if_pos (hat (by simp [h1]))])
            clear hat ht
            go_wp2_with fail
            go_ret
            exact ⟨by rw [HW.out]; rfl, rfl⟩
          · by_cases h2 : 2 < p
            · have HW : Hid (askedN m ss c ps = 1) := Lib.hid (by unfold askedN; rw [HN.out, if_neg (by simp), if_pos (hat (by simp [h2]))])
              clear hat ht
              go_wp2_with fail
              go_ret
              exact ⟨by rw [HW.out]; rfl, rfl⟩
            · have HN2 : Hid ((ps.take (k2 + 1)).any (fun p => decide (p < 0) || decide (2 < p)) = false) := Lib.hid (by rw [ht, HA2.out]; simp [h1, h2])
              clear hat ht
              go_wp2_with fail
              exact ⟨⟨k2 + 1, by omega, rfl, HN2⟩, by simp [intOf]; omega⟩
        · have hkl : k2 = ps.length := by omega
          have hn : ps.any (fun p => decide (p < 0) || decide (2 < p)) = false := by have := HA2.out; rwa [hkl, List.take_length] at this
          have HN2 := Lib.hid hn; clear hn
          have HK2 := Lib.hid hkl; clear hkl
          by_cases h0 : c = 0
          · have HW : Hid (askedN m ss c ps = 0) := Lib.hid (by unfold askedN; rw [HN.out, HN2.out]; simp [h0])
            have d0 : (c != 0) = false := by simp [h0]
            clear h0
            go_wp2_with fail
            go_ret
            exact ⟨by rw [HW.out]; rfl, rfl⟩
          · by_cases h1 : c = 1
            · have HW : Hid (askedN m ss c ps = 0) := Lib.hid (by unfold askedN; rw [HN.out, HN2.out]; simp [h1])
              have d0 : (c != 0) = true := by simp [h0]
              have d1 : (c != 1) = false := by simp [h1]
              clear h0 h1
              go_wp2_with fail
              go_ret
              exact ⟨by rw [HW.out]; rfl, rfl⟩
            · have HW : Hid (askedN m ss c ps = 1) := Lib.hid (by unfold askedN; rw [HN.out, HN2.out]; simp [h0, h1])
              have d0 : (c != 0) = true := by simp [h0]
              have d1 : (c != 1) = true := by simp [h1]
              clear h0 h1
              go_wp2_with fail
              go_ret
              exact ⟨by rw [HW.out]; rfl, rfl⟩

theorem asked_one (c p : Int) (s : ByteArray) (n n2 : Nat) (w : World) (hs : s.size ≤ maxLen) (h1 : w.cell? ⟨n, 0, none⟩ = some (.string s)) (h2 : w.cell? ⟨n2, 0, none⟩ = some (.int .i64 p)) :
    Calls Tryd.prog 60 #[.int .i64 2048, .slice (some ⟨n, 0, none⟩) 1 1, .int .i64 c, .slice (some ⟨n2, 0, none⟩) 1 1] w fun e w' => e = .returned (.int .i64 (wrongN p c [s])) ∧ w = w' := by
  rw [← asked_wrong]
  exact asked_any 2048 c [s] [p] ⟨n, 0, none⟩ ⟨n2, 0, none⟩ 1 1 w (by simp) (by simp) (by simpa using hs) (fun j hj => by
    have h0 : j = 0 := by simpa using hj
    subst h0
    simpa [Addr.add] using h1) (fun j hj => by
    have h0 : j = 0 := by simpa using hj
    subst h0
    simpa [Addr.add] using h2)
end Go.Proofs.YtiddnacmopfamaaDoor
