/- The walks of Equal of the program and of the reference. -/
import Derived.Test.YtfgadkknfehkcaaDoorKnown
namespace Go.Proofs.YtfgadkknfehkcaaDoor
open Go.RowKit
set_option linter.unusedVariables false

theorem trimR_at (s : ByteArray) (k : Nat) (hk : k ≤ s.size) (h1 : ∀ (j : Nat) b, k ≤ j → s.data.toList[j]? = some b → b = 32) (h2 : ∀ b, 0 < k → s.data.toList[k - 1]? = some b → b ≠ 32) : trimR s = s.extract 0 k := by
  have := Lib.trimRightB_take s.data.toList 32 k hk h1 h2
  unfold trimR
  rw [this]
  apply ByteArray.ext
  apply Array.ext'
  simp
theorem byte_at (s : ByteArray) (k : Nat) (hk : k < s.size) : s.data.toList[k]? = some (s[k]'hk) := by
  rw [List.getElem?_eq_getElem (by exact hk)]; rfl
theorem u8_yes (b : UInt8) (n : UInt8) (h : ((b.toNat : Int) == (n.toNat : Int)) = true) : b = n := by
  have : (b.toNat : Int) = n.toNat := by simpa using h
  exact UInt8.toNat_inj.1 (by omega)
theorem u8_no (b : UInt8) (n : UInt8) (h : ((b.toNat : Int) == (n.toNat : Int)) = false) : b ≠ n := by
  rintro rfl; simp at h
set_option maxHeartbeats 400000 in
theorem Bare_any (s : ByteArray) (w : World) (hs : s.size ≤ maxLen) :
    Calls Tryd.prog 70 #[.string s] w fun e w' => e = .returned (.string (trimR s)) ∧ w = w' := by
  unfold maxLen at hs
  go_enter Tryd.func70, Tryd.ntmps70
  go_wp2
  go_loop [3] (fun t => ∃ k : Nat, k ≤ s.size ∧ t = .int .i64 k ∧ ∀ (j : Nat) b, k ≤ j → s.data.toList[j]? = some b → b = 32) (fun t => (intOf t).toNat)
  case atStart => exact ⟨s.size, Nat.le_refl _, rfl, fun j b h1 h2 => by have := (List.getElem?_eq_some_iff.1 h2).1; exact absurd this (by have : s.data.toList.length = s.size := rfl; omega)⟩
  case round =>
    obtain ⟨k, hk, rfl, hall⟩ := hrel
    have HA := Lib.hid hall; clear hall
    go_wp2
    case roundEnd =>
      rename_i g1 _ g2 g3
      have e := u8_yes _ 32 g3
      refine ⟨⟨k - 1, by omega, by congr 1; omega, fun j b hj hb => ?_⟩, by simp [intOf]; omega⟩
      rcases Nat.lt_or_ge j k with q | q
      · have : j = k - 1 := by omega
        subst this
        rw [byte_at s (k - 1) (by omega)] at hb
        exact (Option.some.inj hb).symm.trans e
      · exact HA.out j b q hb
    · rename_i g1 _ g2 g3
      have e := u8_no _ 32 g3
      go_ret
      refine ⟨?_, rfl⟩
      rw [trimR_at s k hk HA.out (fun b _ hb => by rw [byte_at s (k - 1) (by omega)] at hb; exact (Option.some.inj hb) ▸ e)]
      rfl
    · go_ret
      refine ⟨?_, rfl⟩
      have : k = 0 := by omega
      rw [trimR_at s k hk HA.out (fun b _ hb => by omega)]
      rfl
theorem toList_data (a : ByteArray) : a.toList = a.data.toList := ByteArray.toList_eq a
theorem same_bytes (a b : ByteArray) : (a.toList == b.toList) = true ↔ a = b := by
  rw [toList_data, toList_data]
  constructor
  · intro h
    have := eq_of_beq h
    exact ByteArray.ext (Array.ext' this)
  · rintro rfl; simp
theorem pre_iff (s p : ByteArray) : Lib.hasPrefix s.data.toList p.data.toList = true ↔ p.size ≤ s.size ∧ s.extract 0 p.size = p := by
  unfold Lib.hasPrefix
  rw [List.isPrefixOf_iff_prefix, List.prefix_iff_eq_take]
  have hl : p.data.toList.length = p.size := rfl
  have hs : s.data.toList.length = s.size := rfl
  constructor
  · intro h
    have hle : p.size ≤ s.size := by
      have := congrArg List.length h
      rw [List.length_take, hl, hs] at this; omega
    refine ⟨hle, ?_⟩
    apply ByteArray.ext
    apply Array.ext'
    rw [hl] at h
    rw [h]; simp
  · rintro ⟨h, e⟩
    rw [hl]
    have e2 : p.data.toList = (s.extract 0 p.size).data.toList := by rw [e]
    rw [e2]; simp
set_option maxHeartbeats 400000 in
theorem Begins_any (s p : ByteArray) (w : World) (hs : s.size ≤ maxLen) (hp : p.size ≤ maxLen) :
    Calls Tryd.prog 71 #[.string s, .string p] w fun e w' => e = .returned (.bool (Lib.hasPrefix s.data.toList p.data.toList)) ∧ w = w' := by
  unfold maxLen at hs hp
  have hq := pre_iff s p
  generalize Lib.hasPrefix s.data.toList p.data.toList = v at *
  have HQ := Lib.hid hq; clear hq
  by_cases h : p.size ≤ s.size
  · go_enter Tryd.func71, Tryd.ntmps71
    go_wp2
    go_ret
    refine ⟨?_, rfl⟩
    have : v = ((s.extract 0 p.size).toList == p.toList) := by
      rw [Bool.eq_iff_iff, HQ.out, same_bytes]; simp [h]
    rw [this]; rfl
  · have hv : v = false := by
      cases hv : v
      · rfl
      · exact absurd (HQ.out.1 hv).1 h
    subst hv
    go_enter Tryd.func71, Tryd.ntmps71
    go_wp2
    go_ret
    exact ⟨rfl, rfl⟩

/-- What Equal answers. -/
def eqV (a b : ByteArray) (x : Bool) : Bool := if x then (trimR a).toList == (trimR b).toList else Lib.hasPrefix a.data.toList b.data.toList

set_option maxHeartbeats 400000 in
theorem Equal_any (a b : ByteArray) (x : Bool) (w : World) (ha : a.size ≤ maxLen) (hb : b.size ≤ maxLen) :
    Calls Tryd.prog 23 #[.string a, .string b, .bool x] w fun e w' => e = .returned (.bool (eqV a b x)) ∧ w = w' := by
  cases x
  · go_enter Tryd.func23, Tryd.ntmps23
    go_wp2_with fail
    refine (Tryd.strings_HasPrefix a b _).mono ?_
    rintro e w' ⟨rfl, rfl⟩
    go_wp2_with fail
    go_ret
    exact ⟨rfl, rfl⟩
  · go_enter Tryd.func23, Tryd.ntmps23
    go_wp2_with fail
    refine (trimR_any a _ ha).mono ?_
    rintro e w' ⟨rfl, rfl⟩
    go_wp2_with fail
    refine (trimR_any b _ hb).mono ?_
    rintro e w' ⟨rfl, rfl⟩
    go_wp2_with fail
    go_ret
    exact ⟨rfl, rfl⟩
set_option maxHeartbeats 400000 in
theorem refEqual_any (a b : ByteArray) (x : Bool) (w : World) (ha : a.size ≤ maxLen) (hb : b.size ≤ maxLen) :
    Calls Tryd.prog 24 #[.string a, .string b, .bool x] w fun e w' => e = .returned (.bool (eqV a b x)) ∧ w = w' := by
  cases x
  · go_enter Tryd.func24, Tryd.ntmps24
    go_wp2_with fail
    refine (Begins_any a b _ ha hb).mono ?_
    rintro e w' ⟨rfl, rfl⟩
    go_wp2_with fail
    go_ret
    exact ⟨rfl, rfl⟩
  · go_enter Tryd.func24, Tryd.ntmps24
    go_wp2_with fail
    refine (Bare_any a _ ha).mono ?_
    rintro e w' ⟨rfl, rfl⟩
    go_wp2_with fail
    refine (Bare_any b _ hb).mono ?_
    rintro e w' ⟨rfl, rfl⟩
    go_wp2_with fail
    go_ret
    exact ⟨rfl, rfl⟩

set_option maxHeartbeats 400000 in
theorem equals_any (a b : ByteArray) (x : Bool) (w : World) (ht : Tab w) (ha : a.size ≤ maxLen) (hb : b.size ≤ maxLen) :
    Calls Tryd.prog 6 #[.string a, .string b, .bool x] w fun e w' => e = .returned (.bool true) ∧ Below w.heap.size w w' := by
  have HT := Lib.hid ht; clear ht
  have HA := Lib.hid ha
  have HB := Lib.hid hb
  unfold maxLen at ha hb
  cases t1 : decide (20000 < wrap64 ((a.size : Int) + b.size))
  rotate_left
  ·
    go_enter Tryd.func6, Tryd.ntmps6
    go_wp2_with fail
    refine (known_any _ HT.out).mono ?_
    rintro e w1 ⟨rfl, hb⟩
    go_wp2_with fail
    go_ret
    exact ⟨rfl, hb⟩
  · have t2 : (eqV a b x == eqV a b x) = true := by simp
    go_enter Tryd.func6, Tryd.ntmps6
    go_wp2_with fail
    refine (Equal_any a b x _ HA.out HB.out).mono ?_
    rintro e w' ⟨rfl, rfl⟩
    go_wp2_with fail
    refine (refEqual_any a b x _ HA.out HB.out).mono ?_
    rintro e w' ⟨rfl, rfl⟩
    go_wp2_with fail
    refine (known_any _ HT.out).mono ?_
    rintro e w1 ⟨rfl, hb⟩
    go_wp2_with fail
    go_ret
    exact ⟨rfl, hb⟩
end Go.Proofs.YtfgadkknfehkcaaDoor
