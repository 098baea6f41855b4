/- Ranges of keys: equal texts of the reference, and a key inside a range. -/
import Derived.Test.YtiddnacmopfamaaDoorKyMd
import Derived.Test.YtiddnacmopfamaaDoorKyL
namespace Go.Proofs.YtiddnacmopfamaaDoor
open Go.RowKit
set_option linter.unusedVariables false
set_option maxRecDepth 40000

theorem trS_at (s : ByteArray) (k : Nat) (hk : k ≤ s.size) (h1 : ∀ (j : Nat) b, k ≤ j → s.data.toList[j]? = some b → b = 32) (h2 : ∀ b, 0 < k → s.data.toList[k - 1]? = some b → b ≠ 32) : trS s = s.extract 0 k := by
  have := Lib.trimRightB_take s.data.toList 32 k hk h1 h2
  unfold trS
  rw [this]
  apply ByteArray.ext
  apply Array.ext'
  simp
theorem byte_of (s : ByteArray) (k : Nat) (hk : k < s.size) : s.data.toList[k]? = some (s[k]'hk) := by
  rw [List.getElem?_eq_getElem (by exact hk)]; rfl
theorem u8y (b : UInt8) (n : UInt8) (h : ((b.toNat : Int) == (n.toNat : Int)) = true) : b = n := by
  have : (b.toNat : Int) = n.toNat := by simpa using h
  exact UInt8.toNat_inj.1 (by omega)
theorem u8n (b : UInt8) (n : UInt8) (h : ((b.toNat : Int) == (n.toNat : Int)) = false) : b ≠ n := by
  rintro rfl; simp at h
set_option maxHeartbeats 400000 in
theorem bare_any (s : ByteArray) (w : World) (hs : s.size ≤ 300000) :
    Calls Tryd.prog 87 #[.string s] w fun e w' => e = .returned (.string (trS s)) ∧ w = w' := by
  go_enter Tryd.func87, Tryd.ntmps87
  go_wp2
  go_loop [3] (fun t => ∃ k : Nat, k ≤ s.size ∧ t = .int .i64 k ∧ ∀ (j : Nat) b, k ≤ j → s.data.toList[j]? = some b → b = 32) (fun t => (intOf t).toNat)
  case atStart => exact ⟨s.size, Nat.le_refl _, rfl, fun j b h1 h2 => by have := (List.getElem?_eq_some_iff.1 h2).1; exact absurd this (by have : s.data.toList.length = s.size := rfl; omega)⟩
  case round =>
    obtain ⟨k, hk, rfl, hall⟩ := hrel
    have HA := Lib.hid hall; clear hall
    go_wp2
    case roundEnd =>
      rename_i g1 _ g2 g3
      have e := u8y _ 32 g3
      refine ⟨⟨k - 1, by omega, by congr 1; omega, fun j b hj hb => ?_⟩, by simp [intOf]; omega⟩
      rcases Nat.lt_or_ge j k with q | q
      · have : j = k - 1 := by omega
        subst this
        rw [byte_of s (k - 1) (by omega)] at hb
        exact (Option.some.inj hb).symm.trans e
      · exact HA.out j b q hb
    · rename_i g1 _ g2 g3
      have e := u8n _ 32 g3
      go_ret
      refine ⟨?_, rfl⟩
      rw [trS_at s k hk HA.out (fun b _ hb => by rw [byte_of s (k - 1) (by omega)] at hb; exact (Option.some.inj hb) ▸ e)]
      rfl
    · go_ret
      refine ⟨?_, rfl⟩
      have : k = 0 := by omega
      rw [trS_at s k hk HA.out (fun b _ hb => by omega)]
      rfl
set_option maxHeartbeats 400000 in
theorem refEqual_any (a b : ByteArray) (x : Bool) (w : World) (ha : a.size ≤ 300000) (hb : b.size ≤ 300000) :
    Calls Tryd.prog 70 #[.string a, .string b, .bool x] w fun e w' => e = .returned (.bool (eqX a b x)) ∧ w = w' := by
  have hL : eqX a b true = ((trS a).toList == (trS b).toList) := by unfold eqX; rw [if_pos rfl, Lib.toList_data, Lib.toList_data]
  have hF : eqX a b false = b.data.toList.isPrefixOf a.data.toList := rfl
  cases x
  · rw [hF]
    go_enter Tryd.func70, Tryd.ntmps70
    go_wp2_with fail
    refine (begins_any a b _ ha hb).mono ?_
    rintro e w' ⟨rfl, rfl⟩
    go_wp2_with fail
    go_ret
    exact ⟨by show Ending.returned (Value.bool (b.data.isPrefixOf a.data)) = _; simp, rfl⟩
  · rw [hL]
    clear hL hF
    go_enter Tryd.func70, Tryd.ntmps70
    go_wp2_with fail
    refine (bare_any a _ ha).mono ?_
    rintro e w' ⟨rfl, rfl⟩
    go_wp2_with fail
    refine (bare_any b _ hb).mono ?_
    rintro e w' ⟨rfl, rfl⟩
    go_wp2_with fail
    go_ret
    exact ⟨rfl, rfl⟩
end Go.Proofs.YtiddnacmopfamaaDoor
