/- The walks of decimal and of Written of the reference: a number in decimal digits. -/
import Derived.Test.YtcgfeeobkoomfaaGreatDoorShelf
import Derived.Test.YtcgfeeobkoomfaaGreatDoorKvAll
import Derived.Lib.AppendIntMem
import Derived.Lib.SmallJoins
namespace Go.Proofs.YtcgfeeobkoomfaaGreatDoor
open Go.RowKit
set_option linter.unusedVariables false

/-- A number in decimal digits. -/
def dig (n : Nat) : ByteArray := ⟨(Lib.decDigits n).toArray⟩
def dec (n : Int) : ByteArray := ⟨(Lib.itoa n).toArray⟩

theorem dec_len (n : Nat) : ∀ m, n < 10 ^ (m + 1) → (Lib.decDigits n).length ≤ m + 1 := by
  induction n using Nat.strongRecOn with
  | ind n ih =>
    intro m hm
    rw [Lib.decDigits]
    split
    · simp
    · rename_i h
      cases m with
      | zero => simp at hm; omega
      | succ m =>
        have := ih (n / 10) (by omega) m (by rw [Nat.pow_succ] at hm; omega)
        simp; omega
theorem dig_size (n : Nat) (h : n ≤ 9223372036854775808) : (dig n).size ≤ 19 := by
  have := dec_len n 18 (by omega)
  show (Lib.decDigits n).toArray.size ≤ 19
  simpa using this
theorem dig_small (n : Nat) (h : n < 10) : dig n = ⟨#[UInt8.ofNat (48 + n)]⟩ := by
  unfold dig; rw [Lib.decDigits, dif_pos h]
theorem dig_step (n : Nat) (h : 10 ≤ n) : dig (n / 10) ++ dig (n % 10) = dig n := by
  rw [dig_small (n % 10) (by omega)]
  have e : dig n = ⟨(Lib.decDigits (n / 10) ++ [UInt8.ofNat (48 + n % 10)]).toArray⟩ := by
    unfold dig; rw [Lib.decDigits, dif_neg (by omega)]
  rw [e]
  apply ByteArray.ext
  unfold dig
  simp

set_option maxHeartbeats 400000 in
theorem Written_nat (n : Nat) (hn : n ≤ 9223372036854775807) : ∀ w : World,
    Calls Tryz.prog 111 #[.int .i64 n] w fun e w' => e = .returned (.string (dig n)) ∧ w = w' := by
  induction n using Nat.strongRecOn with
  | ind n ih =>
    intro w
    by_cases h : n < 10
    · have hd := dig_small n h
      rw [hd]; clear hd ih
      obtain rfl | rfl | rfl | rfl | rfl | rfl | rfl | rfl | rfl | rfl : n = 0 ∨ n = 1 ∨ n = 2 ∨ n = 3 ∨ n = 4 ∨ n = 5 ∨ n = 6 ∨ n = 7 ∨ n = 8 ∨ n = 9 := by omega
      all_goals
        go_enter Tryz.func111, Tryz.ntmps111
        go_wp2
        go_ret
        exact ⟨rfl, rfl⟩
    · have c1 := ih (n / 10) (by omega) (by omega)
      have c2 := ih (n % 10) (by omega) (by omega)
      have e1 : ((n / 10 : Nat) : Int) = (n : Int) / 10 := by omega
      have e2 : ((n % 10 : Nat) : Int) = (n : Int) % 10 := by omega
      rw [e1] at c1
      rw [e2] at c2
      have C1 := Lib.hid c1; clear c1
      have C2 := Lib.hid c2; clear c2
      have hs := dig_step n (by omega)
      have z1 := dig_size (n / 10) (by omega)
      have z2 := dig_size (n % 10) (by omega)
      have HS := Lib.hid hs; clear hs ih e1 e2
      generalize dig (n / 10) = a at *
      generalize dig (n % 10) = b at *
      go_enter Tryz.func111, Tryz.ntmps111
      go_wp2_with fail
      refine (C1.out _).mono ?_
      rintro e w' ⟨rfl, rfl⟩
      go_wp2_with fail
      refine (C2.out _).mono ?_
      rintro e w' ⟨rfl, rfl⟩
      go_wp2_with fail
      go_ret
      exact ⟨by rw [← HS.out]; rfl, rfl⟩

theorem dec_nat (n : Int) (h : 0 ≤ n) : dec n = dig n.toNat := by
  unfold dec dig Lib.itoa; rw [if_neg (by omega)]
theorem dec_neg (n : Int) (h : n < 0) : dec n = ⟨#[45]⟩ ++ dig n.natAbs := by
  unfold dec dig Lib.itoa; rw [if_pos h]
  apply ByteArray.ext; simp
theorem dec_size (n : Int) (h : -9223372036854775808 ≤ n) (h' : n ≤ 9223372036854775807) : (dec n).size ≤ 20 := by
  by_cases hn : n < 0
  · rw [dec_neg n hn]
    have := dig_size n.natAbs (by omega)
    rw [ByteArray.size_append, show (⟨#[45]⟩ : ByteArray).size = 1 from rfl]; omega
  · rw [dec_nat n (by omega)]
    have := dig_size n.toNat (by omega)
    omega

set_option maxHeartbeats 400000 in
theorem Written_any (n : Int) (h : -9223372036854775808 ≤ n) (h' : n ≤ 9223372036854775807) (w : World) :
    Calls Tryz.prog 111 #[.int .i64 n] w fun e w' => e = .returned (.string (dec n)) ∧ w = w' := by
  by_cases hn : n < 0
  · by_cases hm : n = -9223372036854775808
    · subst hm
      have hd : dec (-9223372036854775808) = ⟨#[45, 57, 50, 50, 51, 51, 55, 50, 48, 51, 54, 56, 53, 52, 55, 55, 53, 56, 48, 56]⟩ := by
        rw [dec_neg _ (by omega)]
        have : dig (Int.natAbs (-9223372036854775808)) = ⟨#[57, 50, 50, 51, 51, 55, 50, 48, 51, 54, 56, 53, 52, 55, 55, 53, 56, 48, 56]⟩ := by
          show dig 9223372036854775808 = _
          unfold dig
          simp [Lib.decDigits]
        rw [this]; rfl
      rw [hd]; clear hd
      go_enter Tryz.func111, Tryz.ntmps111
      go_wp2
      go_ret
      exact ⟨rfl, rfl⟩
    · have c1 := Written_nat n.natAbs (by omega)
      rw [show ((n.natAbs : Nat) : Int) = -n from by omega] at c1
      have C1 := Lib.hid c1; clear c1
      have hw : IntKind.i64.wrap (-n) = -n := IntWalk.i64_in _ (by omega)
      have hm' : (n == -9223372036854775808) = false := by simpa using hm
      rw [dec_neg n hn]
      have z := dig_size n.natAbs (by omega)
      generalize dig n.natAbs = d at *
      clear hm
      go_enter Tryz.func111, Tryz.ntmps111
      go_wp2_with fail
      refine (C1.out _).mono ?_
      rintro e w' ⟨rfl, rfl⟩
      go_wp2_with fail
      go_ret
      exact ⟨rfl, rfl⟩
  · have c := Written_nat n.toNat (by omega) w
    rw [dec_nat n (by omega)]
    rwa [show ((n.toNat : Nat) : Int) = n from by omega] at c

set_option maxHeartbeats 400000 in
theorem decimal_any (n : Int) (h : -9223372036854775808 ≤ n) (h' : n ≤ 9223372036854775807) (w : World) (ht : Lib.TabIs Tryz.prog w "internal/strconv.uint64pow10" .u64 Lib.pow10Tab) :
    Calls Tryz.prog 141 #[.int .i64 n] w fun e w' => e = .returned (.string (dec n)) ∧ Below w.heap.size w w' := by
  have HT := Lib.hid ht; clear ht
  go_enter Tryz.func141, Tryz.ntmps141
  go_wp2_with fail
  refine (Tryz.strconv_Itoa n h h' _ HT.out).mono ?_
  rintro e w1 ⟨rfl, k, os, hw⟩
  have hb : Below w.heap.size w w1 := by rw [hw]; exact Lib.below_grow _ _ (Nat.le_refl _) _ _
  clear hw
  go_wp2_with fail
  go_ret
  exact ⟨rfl, hb⟩
/-- The table of powers lies in its variable. -/
abbrev Pow (w : World) : Prop := Lib.TabIs Tryz.prog w "internal/strconv.uint64pow10" .u64 Lib.pow10Tab
theorem gPow : Tryz.prog.globalNamed "internal/strconv.uint64pow10" = some 5 := by kernel_rfl
theorem Pow.below {w w' : World} (h : Pow w) (hb : Below w.heap.size w w') : Pow w' := Joins.tab_stays gPow h hb (Nat.le_refl _)
theorem inB_iff (n : Int) : inB n = true ↔ -1000000000000000 ≤ n ∧ n ≤ 1000000000000000 := by simp [inB]
def fill (c : UInt8) (n : Nat) : ByteArray := ⟨(List.replicate n c).toArray⟩
theorem fill_size (c : UInt8) (n : Nat) : (fill c n).size = n := by show (List.replicate n c).toArray.size = n; simp
theorem fill_succ (c : UInt8) (n : Nat) : fill c n ++ ⟨#[c]⟩ = fill c (n + 1) := by
  apply ByteArray.ext
  apply Array.ext'
  unfold fill
  simp [List.replicate_succ']
theorem repeat_fill (c : UInt8) : ∀ n, Lib.repeatL [c] n = List.replicate n c
  | 0 => rfl
  | n + 1 => by rw [Lib.repeatL, repeat_fill c n]; rfl
theorem Repeat_fill (c : UInt8) (n : Nat) (hn : n ≤ 100000) (w : World) :
    Calls Tryz.prog 129 #[.string ⟨#[c]⟩, .int .i64 n] w fun e w' => e = .returned (.string (fill c n)) ∧ Below w.heap.size w w' := by
  refine (Tryz.strings_Repeat ⟨#[c]⟩ n w (by omega) (by show 1 * _ ≤ _; omega)).mono ?_
  rintro e w' ⟨rfl, hb⟩
  refine ⟨?_, hb⟩
  rw [show (⟨#[c]⟩ : ByteArray).data.toList = [c] from rfl, repeat_fill]; rfl

set_option maxHeartbeats 400000 in
theorem Times_any (c : UInt8) (n : Nat) (hn : n ≤ 100000) (w : World) :
    Calls Tryz.prog 121 #[.string ⟨#[c]⟩, .int .i64 n] w fun e w' => e = .returned (.string (fill c n)) ∧ w = w' := by
  go_enter Tryz.func121, Tryz.ntmps121
  go_wp2
  go_loop [5, 6] (fun t i => ∃ j : Nat, j ≤ n ∧ t = .string (fill c j) ∧ i = .int .i64 j) (fun _ i => n - (intOf i).toNat)
  case atStart => exact ⟨0, by omega, rfl, rfl⟩
  case round =>
    obtain ⟨j, hj, rfl, rfl⟩ := hrel
    have hz := fill_size c j
    have HS := Lib.hid (fill_succ c j)
    generalize hq : fill c j = q at *
    have HQ := Lib.hid hq; clear hq
    by_cases hlt : j < n
    · have i1 : (j : Int) < n := by omega
      go_wp2
      exact ⟨⟨j + 1, by omega, by rw [← HS.out], rfl⟩, by simp [intOf]; omega⟩
    · have i1 : ¬ (j : Int) < n := by omega
      go_wp2
      go_ret
      have : j = n := by omega
      refine ⟨?_, rfl⟩
      rw [← this, HQ.out]; rfl


/-- val.Str: what it gives a right number in a right width. -/
def strB (n : Int) (k : Nat) : ByteArray := if (dec n).size ≤ k then fill 32 (k - (dec n).size) ++ dec n else fill 42 k
set_option maxHeartbeats 1000000 in
theorem Str_any (n : Int) (k : Nat) (h : inB n = true) (k1 : 1 ≤ k) (k2 : k ≤ 254) (w : World) (hw : Pow w) :
    Calls Tryz.prog 104 #[.int .i64 n, .int .i64 k] w fun e w' => e = .returned (.tuple #[.string (strB n k), .int .i64 0]) ∧ Below w.heap.size w w' := by
  have hn := (inB_iff n).1 h
  have HI := Lib.hid h; clear h
  have hd := dec_size n (by omega) (by omega)
  have C3 := Lib.hid (fun w hp => decimal_any n (by omega) (by omega) w hp)
  have HW := Lib.hid hw; clear hw
  by_cases hz : (dec n).size ≤ k
  · have e1 : strB n k = fill 32 (k - (dec n).size) ++ dec n := by unfold strB; rw [if_pos hz]
    rw [e1]; clear e1
    have C1 := Lib.hid (Repeat_fill 32 (k - (dec n).size) (by omega))
    have hs := fill_size 32 (k - (dec n).size)
    have hc : ((k - (dec n).size : Nat) : Int) = (k : Int) - (dec n).size := by omega
    rw [hc] at C1
    clear hc
    generalize fill 32 (k - (dec n).size) = f at *
    generalize dec n = d at *
    go_enter Tryz.func104, Tryz.ntmps104
    go_wp2_with fail
    refine (inRange_any _ _).mono ?_
    rintro e w' ⟨rfl, rfl⟩
    rw [HI.out]
    go_wp2_with fail
    refine (C3.out _ HW.out).mono ?_
    rintro e w1 ⟨rfl, hb1⟩
    go_wp2_with fail
    refine (C1.out _).mono ?_
    rintro e w2 ⟨rfl, hb2⟩
    have z := hb1.size
    go_wp2
    go_ret2
    exact ⟨rfl, hb1.trans (hb2.mono (by omega))⟩
  · have e1 : strB n k = fill 42 k := by unfold strB; rw [if_neg hz]
    rw [e1]; clear e1
    have C1 := Lib.hid (Repeat_fill 42 k (by omega))
    generalize dec n = d at *
    generalize fill 42 k = f at *
    go_enter Tryz.func104, Tryz.ntmps104
    go_wp2_with fail
    refine (inRange_any _ _).mono ?_
    rintro e w' ⟨rfl, rfl⟩
    rw [HI.out]
    go_wp2_with fail
    refine (C3.out _ HW.out).mono ?_
    rintro e w1 ⟨rfl, hb1⟩
    go_wp2_with fail
    refine (C1.out _).mono ?_
    rintro e w2 ⟨rfl, hb2⟩
    have z := hb1.size
    go_wp2
    go_ret2
    exact ⟨rfl, hb1.trans (hb2.mono (by omega))⟩
end Go.Proofs.YtcgfeeobkoomfaaGreatDoor
