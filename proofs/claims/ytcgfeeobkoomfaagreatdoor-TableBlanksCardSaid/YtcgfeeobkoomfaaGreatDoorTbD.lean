/- Blanks at the end, a number in a width, the kind of a field's values, characters of the reference. -/
import Derived.Test.YtcgfeeobkoomfaaGreatDoorTbV
namespace Go.Proofs.YtcgfeeobkoomfaaGreatDoor
open Go.RowKit
set_option linter.unusedVariables false
set_option linter.unusedSimpArgs false
set_option maxRecDepth 40000

def trimR (s : ByteArray) : ByteArray := ⟨(Lib.trimRightB s.data.toList 32).toArray⟩
theorem trimR_at (s : ByteArray) (k : Nat) (hk : k ≤ s.size) (h1 : ∀ (j : Nat) b, k ≤ j → s.data.toList[j]? = some b → b = 32) (h2 : ∀ b, 0 < k → s.data.toList[k - 1]? = some b → b ≠ 32) : trimR s = s.extract 0 k := by
  have := Lib.trimRightB_take s.data.toList 32 k hk h1 h2
  unfold trimR
  rw [this]
  apply ByteArray.ext
  apply Array.ext'
  simp
set_option maxHeartbeats 400000 in
theorem Bare_any (s : ByteArray) (w : World) (hs : s.size ≤ maxLen) :
    Calls Tryz.prog 107 #[.string s] w fun e w' => e = .returned (.string (trimR s)) ∧ w = w' := by
  unfold maxLen at hs
  go_enter Tryz.func107, Tryz.ntmps107
  go_wp2
  go_loop [3] (fun t => ∃ k : Nat, k ≤ s.size ∧ t = .int .i64 k ∧ ∀ (j : Nat) b, k ≤ j → s.data.toList[j]? = some b → b = 32) (fun t => (intOf t).toNat)
  case atStart => exact ⟨s.size, Nat.le_refl _, rfl, fun j b h1 h2 => by have := (List.getElem?_eq_some_iff.1 h2).1; exact absurd this (by have : s.data.toList.length = s.size := rfl; omega)⟩
  case round =>
    obtain ⟨k, hk, rfl, hall⟩ := hrel
    have HA := Lib.hid hall; clear hall
    go_wp2
    case roundEnd =>
      rename_i g1 _ g2 g3
      have e := u8_yes _ 32 g3
      refine ⟨⟨k - 1, by omega, by congr 1; omega, fun j b hj hb => ?_⟩, by simp [intOf]; omega⟩
      rcases Nat.lt_or_ge j k with q | q
      · have : j = k - 1 := by omega
        subst this
        rw [vbyte_at s (k - 1) (by omega)] at hb
        exact (Option.some.inj hb).symm.trans e
      · exact HA.out j b q hb
    · rename_i g1 _ g2 g3
      have e := u8_no _ 32 g3
      go_ret
      refine ⟨?_, rfl⟩
      rw [trimR_at s k hk HA.out (fun b _ hb => by rw [vbyte_at s (k - 1) (by omega)] at hb; exact (Option.some.inj hb) ▸ e)]
      rfl
    · go_ret
      refine ⟨?_, rfl⟩
      have : k = 0 := by omega
      rw [trimR_at s k hk HA.out (fun b _ hb => by omega)]
      rfl

theorem dig_not (u : Nat) : ∀ b ∈ Lib.decDigits u, b ≠ 42 := by
  have one : ∀ d : Fin 10, UInt8.ofNat (48 + d.1) ≠ 42 := by decide
  induction u using Nat.strongRecOn with
  | ind u ih =>
    rw [Lib.decDigits]
    split
    · rename_i h
      intro b hb
      rw [List.mem_singleton.1 hb]; exact one ⟨u, h⟩
    · rename_i h
      intro b hb
      rcases List.mem_append.1 hb with q | q
      · exact ih (u / 10) (by omega) b q
      · rw [List.mem_singleton.1 q]; exact one ⟨u % 10, Nat.mod_lt _ (by omega)⟩
theorem itoa_not (n : Int) : ∀ b ∈ Lib.itoa n, b ≠ 42 := by
  unfold Lib.itoa
  split
  · intro b hb
    rcases List.mem_cons.1 hb with q | q
    · rw [q]; decide
    · exact dig_not _ b q
  · exact dig_not _
theorem star_mem {l : List UInt8} (h : Lib.hasPrefix l [42] = true) : (42 : UInt8) ∈ l := by
  cases l with
  | nil => simp [Lib.hasPrefix] at h
  | cons a l => simp [Lib.hasPrefix] at h; simp [h]
theorem star_no (n : Int) (m : Nat) : Lib.hasPrefix (fill 32 m ++ dec n).data.toList [42] = false := by
  cases h : Lib.hasPrefix (fill 32 m ++ dec n).data.toList [42]
  · rfl
  · have := star_mem h
    have e : (fill 32 m ++ dec n).data.toList = List.replicate m 32 ++ Lib.itoa n := by
      rw [ByteArray.data_append]; simp [fill, dec]
    rw [e] at this
    rcases List.mem_append.1 this with q | q
    · exact absurd (List.mem_replicate.1 q).2 (by decide)
    · exact absurd rfl (itoa_not n _ q)
theorem star_yes (k : Nat) (h : 1 ≤ k) : Lib.hasPrefix (fill 42 k).data.toList [42] = true := by
  obtain ⟨m, rfl⟩ : ∃ m, k = m + 1 := ⟨k - 1, by omega⟩
  simp [fill, List.replicate_succ, Lib.hasPrefix]
theorem star_str (n : Int) (k : Nat) (h : 1 ≤ k) : (!Lib.hasPrefix (strB n k).data.toList [42]) = decide ((dec n).size ≤ k) := by
  unfold strB
  by_cases hz : (dec n).size ≤ k
  · rw [if_pos hz, star_no]; simp [hz]
  · rw [if_neg hz, star_yes k h]; simp [hz]
/-- What the tables lie in. -/
structure Lds (w : World) : Prop where
  pow : Pow w
  sp : SpTab w
  big : 8 ≤ w.heap.size
theorem Lds.below {w w' : World} (h : Lds w) (hb : Below w.heap.size w w') : Lds w' := ⟨h.pow.below hb, h.sp.below hb (by have := h.big; omega), by have := h.big; have := hb.size; omega⟩

set_option maxHeartbeats 1000000 in
theorem rightJ_any (n : Int) (k : Nat) (h : inB n = true) (k1 : 1 ≤ k) (k2 : k ≤ 254) (w : World) (hw : Lds w) :
    Calls Tryz.prog 72 #[.int .i64 n, .int .i64 k] w fun e w' => e = .returned (.tuple #[.string (strB n k), .bool (decide ((dec n).size ≤ k))]) ∧ Below w.heap.size w w' := by
  have C := Lib.hid (Str_any n k h k1 k2 w hw.pow)
  have hst := star_str n k k1
  generalize strB n k = t at *
  have C2 := Lib.hid (fun W => Tryz.strings_HasPrefix t ⟨#[42]⟩ W)
  have e42 : (⟨#[42]⟩ : ByteArray).data.toList = [42] := rfl
  rw [e42] at C2
  rw [← hst]
  generalize Lib.hasPrefix t.data.toList [42] = x at *
  clear h hst e42
  go_enter Tryz.func72, Tryz.ntmps72
  go_wp2_with fail
  refine C.out.mono ?_
  rintro e w1 ⟨rfl, hb1⟩
  go_wp2_with fail
  refine (C2.out _).mono ?_
  rintro e w' ⟨rfl, rfl⟩
  go_wp2_with fail
  go_ret2
  exact ⟨rfl, hb1⟩

theorem kindOf_memo (nm : ByteArray) (wd : Int) (nu : Bool) (w : World) : Calls Tryz.prog 70 #[fv nm 5 wd nu] w fun e w' => e = .returned (.int .i64 2) ∧ Below w.heap.size w w' := by
  go_enter Tryz.func70, Tryz.ntmps70
  go_wp2_with fail
  go_ret
  exact ⟨rfl, (Below.refl _ _).alloc (Nat.le_refl _) _⟩
theorem kindOf_else (nm : ByteArray) (k wd : Int) (nu : Bool) (w : World) (hk : k ≠ 5) : Calls Tryz.prog 70 #[fv nm k wd nu] w fun e w' => e = .returned (.int .i64 k) ∧ Below w.heap.size w w' := by
  have hk' : (k == 5) = false := by simpa using hk
  clear hk
  go_enter Tryz.func70, Tryz.ntmps70
  go_wp2_with fail
  go_ret
  exact ⟨rfl, (Below.refl _ _).alloc (Nat.le_refl _) _⟩
def kofN (k : Int) : Int := if k = 5 then 2 else k
theorem kindOf_any (nm : ByteArray) (k wd : Int) (nu : Bool) (w : World) : Calls Tryz.prog 70 #[fv nm k wd nu] w fun e w' => e = .returned (.int .i64 (kofN k)) ∧ Below w.heap.size w w' := by
  unfold kofN
  split
  · rename_i h; subst h; exact kindOf_memo nm wd nu w
  · rename_i h; exact kindOf_else nm k wd nu w h

/-- Whether a byte is a character of a page. -/
def onB (p b : Nat) : Bool := (chI p b).isSome
theorem on_eq : ∀ (p : Fin 3) (b : Fin 256), onB p.val b.val = (if p.val = 0 then decide (b.val < 128) else if p.val = 1 then true else decide (b.val < 176) || (decide (224 ≤ b.val) && decide (b.val < 240))) := by decide +kernel
theorem On_any (b p : Nat) (hb : b < 256) (hp : p < 3) (w : World) : Calls Tryz.prog 143 #[.int .u8 b, .int .i64 p] w fun e w' => e = .returned (.bool (onB p b)) ∧ w = w' := by
  have he := on_eq ⟨p, hp⟩ ⟨b, hb⟩
  rcases (show p = 0 ∨ p = 1 ∨ p = 2 by omega) with rfl | rfl | rfl
  · simp only [if_true] at he
    rw [he]; clear he
    by_cases q : b < 128
    · have h1 : decide ((b : Int) < 128) = true := by simp; omega
      have h2 : decide (b < 128) = true := by simp; omega
      rw [h2]; clear h2
      change Calls Tryz.prog 143 #[.int .u8 b, .int .i64 0] w _
      go_enter Tryz.func143, Tryz.ntmps143
      go_wp2_with fail
      go_ret
      exact ⟨rfl, rfl⟩
    · have h1 : decide ((b : Int) < 128) = false := by simp; omega
      have h2 : decide (b < 128) = false := by simp; omega
      rw [h2]; clear h2
      change Calls Tryz.prog 143 #[.int .u8 b, .int .i64 0] w _
      go_enter Tryz.func143, Tryz.ntmps143
      go_wp2_with fail
      go_ret
      exact ⟨rfl, rfl⟩
  · simp only [show ¬ (1 = 0) by omega, if_true, if_false] at he
    rw [he]; clear he
    change Calls Tryz.prog 143 #[.int .u8 b, .int .i64 1] w _
    go_enter Tryz.func143, Tryz.ntmps143
    go_wp2_with fail
    go_ret
    exact ⟨rfl, rfl⟩
  · simp only [show ¬ (2 = 0) by omega, show ¬ (2 = 1) by omega, if_false] at he
    rw [he]; clear he
    by_cases q : b < 176
    · have h1 : decide ((b : Int) < 176) = true := by simp; omega
      have h2 : decide (b < 176) = true := by simp; omega
      rw [h2, Bool.true_or]; clear h2
      change Calls Tryz.prog 143 #[.int .u8 b, .int .i64 2] w _
      go_enter Tryz.func143, Tryz.ntmps143
      go_wp2_with fail
      go_ret
      exact ⟨rfl, rfl⟩
    · have h1 : decide ((b : Int) < 176) = false := by simp; omega
      have h2 : decide (b < 176) = false := by simp; omega
      rw [h2, Bool.false_or]; clear h2
      by_cases q2 : 224 ≤ b
      · have h3 : decide (224 ≤ (b : Int)) = true := by simp; omega
        have h4 : decide (224 ≤ b) = true := by simp; omega
        rw [h4, Bool.true_and]; clear h4
        by_cases q3 : b < 240
        · have h5 : decide ((b : Int) < 240) = true := by simp; omega
          have h6 : decide (b < 240) = true := by simp; omega
          rw [h6]; clear h6
          change Calls Tryz.prog 143 #[.int .u8 b, .int .i64 2] w _
          go_enter Tryz.func143, Tryz.ntmps143
          go_wp2_with fail
          go_ret
          exact ⟨rfl, rfl⟩
        · have h5 : decide ((b : Int) < 240) = false := by simp; omega
          have h6 : decide (b < 240) = false := by simp; omega
          rw [h6]; clear h6
          change Calls Tryz.prog 143 #[.int .u8 b, .int .i64 2] w _
          go_enter Tryz.func143, Tryz.ntmps143
          go_wp2_with fail
          go_ret
          exact ⟨rfl, rfl⟩
      · have h3 : decide (224 ≤ (b : Int)) = false := by simp; omega
        have h4 : decide (224 ≤ b) = false := by simp; omega
        rw [h4, Bool.false_and]; clear h4
        change Calls Tryz.prog 143 #[.int .u8 b, .int .i64 2] w _
        go_enter Tryz.func143, Tryz.ntmps143
        go_wp2_with fail
        go_ret
        exact ⟨rfl, rfl⟩
set_option maxHeartbeats 1000000 in
theorem refWritten_any (s : ByteArray) (q : Nat) (hq : q < 3) (w : World) (hs : s.size ≤ maxLen) :
    Calls Tryz.prog 108 #[.string s, .int .i64 q] w fun e w' => e = .returned (.bool (vld q s.data.toList)) ∧ w = w' := by
  unfold maxLen at hs
  have hsz : s.data.toList.length = s.size := rfl
  go_enter Tryz.func108, Tryz.ntmps108
  go_wp2_with fail
  go_loop [5] (fun i => ∃ k : Nat, k ≤ s.data.toList.length ∧ i = .int .i64 k ∧ vld q (s.data.toList.take k) = true) (fun i => s.size - (intOf i).toNat)
  case atStart => exact ⟨0, by omega, rfl, by simp [vld]⟩
  case round =>
    obtain ⟨k, hk, rfl, hv⟩ := hrel
    by_cases hlt : k < s.data.toList.length
    · have hks : k < s.size := by omega
      have hks' : (k : Int) < s.size := by omega
      have hsk : s[k].toNat = (s.data.toList.getD k 0).toNat := byte_at s k hks
      have hbb := byte_lt (s.data.toList.getD k 0)
      have HNO := Lib.hid (vld_no (p := q) (l := s.data.toList) hlt)
      have HST := Lib.hid (fun h => vld_step (p := q) (l := s.data.toList) hlt h hv)
      clear hv
      generalize (s.data.toList.getD k 0) = z at *
      have HCH := Lib.hid (fun W => On_any z.toNat q hbb hq W)
      unfold onB at HCH
      cases hco : (chI q z.toNat).isSome
      · have HN := Lib.hid (HNO.out hco)
        rw [hco] at HCH
        clear HNO HST hco
        go_wp2_with fail
        refine (HCH.out _).mono ?_
        rintro e w' ⟨rfl, rfl⟩
        go_wp2_with fail
        (try rw [Exit.noGoto_ret])
        go_ret
        exact ⟨by rw [HN.out]; rfl, rfl⟩
      · have HN := Lib.hid (HST.out hco)
        rw [hco] at HCH
        clear HNO HST hco
        go_wp2_with fail
        refine (HCH.out _).mono ?_
        rintro e w' ⟨rfl, rfl⟩
        go_wp2_with fail
        go_round
        case rel => exact ⟨k + 1, by omega, by go_num, HN.out⟩
        case measure => simp [intOf]; omega
    · have hkl : k = s.data.toList.length := by omega
      have hks : k = s.size := by omega
      have gk : ¬ (k : Int) < s.size := by omega
      rw [hkl, List.take_length] at hv
      have HV := Lib.hid hv
      clear hv hkl
      go_wp2_with fail
      go_ret
      exact ⟨by rw [HV.out]; rfl, rfl⟩
end Go.Proofs.YtcgfeeobkoomfaaGreatDoor
