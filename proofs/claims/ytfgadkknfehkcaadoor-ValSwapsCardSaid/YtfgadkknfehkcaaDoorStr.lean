/- The walks of Times and of Str of both: a number in a width. -/
import Derived.Test.YtfgadkknfehkcaaDoorNumM
import Derived.Test.YtfgadkknfehkcaaDoorRefVal
import Derived.Test.YtfgadkknfehkcaaDoorDivM
namespace Go.Proofs.YtfgadkknfehkcaaDoor
open Go.RowKit
set_option linter.unusedVariables false

def fill (c : UInt8) (n : Nat) : ByteArray := ⟨(List.replicate n c).toArray⟩
theorem fill_size (c : UInt8) (n : Nat) : (fill c n).size = n := by show (List.replicate n c).toArray.size = n; simp
theorem fill_succ (c : UInt8) (n : Nat) : fill c n ++ ⟨#[c]⟩ = fill c (n + 1) := by
  apply ByteArray.ext
  apply Array.ext'
  unfold fill
  simp [List.replicate_succ']
theorem repeat_fill (c : UInt8) : ∀ n, Lib.repeatL [c] n = List.replicate n c
  | 0 => rfl
  | n + 1 => by rw [Lib.repeatL, repeat_fill c n]; rfl
theorem Repeat_fill (c : UInt8) (n : Nat) (hn : n ≤ 100000) (w : World) :
    Calls Tryd.prog 80 #[.string ⟨#[c]⟩, .int .i64 n] w fun e w' => e = .returned (.string (fill c n)) ∧ Below w.heap.size w w' := by
  refine (Tryd.strings_Repeat ⟨#[c]⟩ n w (by omega) (by show 1 * _ ≤ _; omega)).mono ?_
  rintro e w' ⟨rfl, hb⟩
  refine ⟨?_, hb⟩
  rw [show (⟨#[c]⟩ : ByteArray).data.toList = [c] from rfl, repeat_fill]; rfl

set_option maxHeartbeats 400000 in
theorem Times_any (c : UInt8) (n : Nat) (hn : n ≤ 100000) (w : World) :
    Calls Tryd.prog 82 #[.string ⟨#[c]⟩, .int .i64 n] w fun e w' => e = .returned (.string (fill c n)) ∧ w = w' := by
  go_enter Tryd.func82, Tryd.ntmps82
  go_wp2
  go_loop [5, 6] (fun t i => ∃ j : Nat, j ≤ n ∧ t = .string (fill c j) ∧ i = .int .i64 j) (fun _ i => n - (intOf i).toNat)
  case atStart => exact ⟨0, by omega, rfl, rfl⟩
  case round =>
    obtain ⟨j, hj, rfl, rfl⟩ := hrel
    have hz := fill_size c j
    have HS := Lib.hid (fill_succ c j)
    generalize hq : fill c j = q at *
    have HQ := Lib.hid hq; clear hq
    by_cases hlt : j < n
    · have i1 : (j : Int) < n := by omega
      go_wp2
      exact ⟨⟨j + 1, by omega, by rw [← HS.out], rfl⟩, by simp [intOf]; omega⟩
    · have i1 : ¬ (j : Int) < n := by omega
      go_wp2
      go_ret
      have : j = n := by omega
      refine ⟨?_, rfl⟩
      rw [← this, HQ.out]; rfl

abbrev StrIs (n k : Int) (t : ByteArray) (x : Int) : Prop :=
  (∀ w, Pow w → Calls Tryd.prog 30 #[.int .i64 n, .int .i64 k] w fun e w' => e = .returned (.tuple #[.string t, .int .i64 x]) ∧ Below w.heap.size w w') ∧
  (∀ w, Calls Tryd.prog 31 #[.int .i64 n, .int .i64 k] w fun e w' => e = .returned (.tuple #[.string t, .int .i64 x]) ∧ w = w')

set_option maxHeartbeats 1000000 in
theorem Str_no (n k : Int) (h : inB n = false ∨ k < 1 ∨ 254 < k) : StrIs n k nos 1 := by
  have hk : (k < 1) ∨ (¬ k < 1 ∧ 254 < k) ∨ (¬ k < 1 ∧ ¬ 254 < k ∧ inB n = false) := by
    by_cases a : k < 1
    · exact .inl a
    · by_cases b : 254 < k
      · exact .inr (.inl ⟨a, b⟩)
      · refine .inr (.inr ⟨a, b, ?_⟩)
        rcases h with h | h | h
        · exact h
        · exact absurd h a
        · exact absurd h b
  clear h
  cases hi : inB n
  · have HI := Lib.hid hi
    refine ⟨fun w _ => ?_, fun w => ?_⟩
    · rcases hk with a | ⟨a, b⟩ | ⟨a, b, c⟩
      · clear hi
        go_enter Tryd.func30, Tryd.ntmps30
        go_wp2
        go_ret2
        exact ⟨rfl, Below.refl _ _⟩
      · clear hi
        go_enter Tryd.func30, Tryd.ntmps30
        go_wp2
        go_ret2
        exact ⟨rfl, Below.refl _ _⟩
      · clear hi c
        go_enter Tryd.func30, Tryd.ntmps30
        go_wp2_with fail
        refine (inRange_any _ _).mono ?_
        rintro e w' ⟨rfl, rfl⟩
        rw [HI.out]
        go_wp2
        go_ret2
        exact ⟨rfl, Below.refl _ _⟩
    · clear hk hi
      go_enter Tryd.func31, Tryd.ntmps31
      go_wp2_with fail
      refine (refInNum_any _ _).mono ?_
      rintro e w' ⟨rfl, rfl⟩
      rw [HI.out]
      go_wp2
      go_ret2
      exact ⟨rfl, rfl⟩
  · have HI := Lib.hid hi
    have hk' : (k < 1) ∨ (¬ k < 1 ∧ 254 < k) := by
      rcases hk with a | a | ⟨a, b, c⟩
      · exact .inl a
      · exact .inr a
      · rw [hi] at c; cases c
    clear hk hi
    refine ⟨fun w _ => ?_, fun w => ?_⟩
    · rcases hk' with a | ⟨a, b⟩
      all_goals
        go_enter Tryd.func30, Tryd.ntmps30
        go_wp2
        go_ret2
        exact ⟨rfl, Below.refl _ _⟩
    · rcases hk' with a | ⟨a, b⟩
      all_goals
        go_enter Tryd.func31, Tryd.ntmps31
        go_wp2_with fail
        refine (refInNum_any _ _).mono ?_
        rintro e w' ⟨rfl, rfl⟩
        rw [HI.out]
        go_wp2
        go_ret2
        exact ⟨rfl, rfl⟩

set_option maxHeartbeats 1000000 in
theorem Str_stars (n : Int) (k : Nat) (h : inB n = true) (k1 : 1 ≤ k) (k2 : k ≤ 254) (hz : k < (dec n).size) : StrIs n k (fill 42 k) 0 := by
  have hn := (inB_iff n).1 h
  have HI := Lib.hid h; clear h
  have hd := dec_size n (by omega) (by omega)
  have C1 := Lib.hid (Repeat_fill 42 k (by omega))
  have C2 := Lib.hid (Times_any 42 k (by omega))
  have C3 := Lib.hid (fun w hp => decimal_any n (by omega) (by omega) w hp)
  have C4 := Lib.hid (Written_any n (by omega) (by omega))
  generalize dec n = d at *
  generalize fill 42 k = f at *
  refine ⟨fun w hw => ?_, fun w => ?_⟩
  · have HW := Lib.hid hw; clear hw
    go_enter Tryd.func30, Tryd.ntmps30
    go_wp2_with fail
    refine (inRange_any _ _).mono ?_
    rintro e w' ⟨rfl, rfl⟩
    rw [HI.out]
    go_wp2_with fail
    refine (C3.out _ HW.out).mono ?_
    rintro e w1 ⟨rfl, hb1⟩
    go_wp2_with fail
    refine (C1.out _).mono ?_
    rintro e w2 ⟨rfl, hb2⟩
    have z := hb1.size
    go_wp2
    go_ret2
    exact ⟨rfl, hb1.trans (hb2.mono (by omega))⟩
  · go_enter Tryd.func31, Tryd.ntmps31
    go_wp2_with fail
    refine (refInNum_any _ _).mono ?_
    rintro e w' ⟨rfl, rfl⟩
    rw [HI.out]
    go_wp2_with fail
    refine (C4.out _).mono ?_
    rintro e w' ⟨rfl, rfl⟩
    go_wp2_with fail
    refine (C2.out _).mono ?_
    rintro e w' ⟨rfl, rfl⟩
    go_wp2
    go_ret2
    exact ⟨rfl, rfl⟩

set_option maxHeartbeats 1000000 in
theorem Str_yes (n : Int) (k : Nat) (h : inB n = true) (k1 : 1 ≤ k) (k2 : k ≤ 254) (hz : (dec n).size ≤ k) : StrIs n k (fill 32 (k - (dec n).size) ++ dec n) 0 := by
  have hn := (inB_iff n).1 h
  have HI := Lib.hid h; clear h
  have hd := dec_size n (by omega) (by omega)
  have C1 := Lib.hid (Repeat_fill 32 (k - (dec n).size) (by omega))
  have C2 := Lib.hid (Times_any 32 (k - (dec n).size) (by omega))
  have C3 := Lib.hid (fun w hp => decimal_any n (by omega) (by omega) w hp)
  have C4 := Lib.hid (Written_any n (by omega) (by omega))
  have hs := fill_size 32 (k - (dec n).size)
  have hc : ((k - (dec n).size : Nat) : Int) = (k : Int) - (dec n).size := by omega
  rw [hc] at C1 C2
  clear hc
  generalize fill 32 (k - (dec n).size) = f at *
  generalize dec n = d at *
  refine ⟨fun w hw => ?_, fun w => ?_⟩
  · have HW := Lib.hid hw; clear hw
    go_enter Tryd.func30, Tryd.ntmps30
    go_wp2_with fail
    refine (inRange_any _ _).mono ?_
    rintro e w' ⟨rfl, rfl⟩
    rw [HI.out]
    go_wp2_with fail
    refine (C3.out _ HW.out).mono ?_
    rintro e w1 ⟨rfl, hb1⟩
    go_wp2_with fail
    refine (C1.out _).mono ?_
    rintro e w2 ⟨rfl, hb2⟩
    have z := hb1.size
    go_wp2
    go_ret2
    exact ⟨rfl, hb1.trans (hb2.mono (by omega))⟩
  · go_enter Tryd.func31, Tryd.ntmps31
    go_wp2_with fail
    refine (refInNum_any _ _).mono ?_
    rintro e w' ⟨rfl, rfl⟩
    rw [HI.out]
    go_wp2_with fail
    refine (C4.out _).mono ?_
    rintro e w' ⟨rfl, rfl⟩
    go_wp2_with fail
    refine (C2.out _).mono ?_
    rintro e w' ⟨rfl, rfl⟩
    go_wp2
    go_ret2
    exact ⟨rfl, rfl⟩
end Go.Proofs.YtfgadkknfehkcaaDoor
