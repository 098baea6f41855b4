/- The walk of ValNumbers. -/
import Derived.Test.YtfgadkknfehkcaaDoorStr
import Derived.Test.YtfgadkknfehkcaaDoorKnown
namespace Go.Proofs.YtfgadkknfehkcaaDoor
open Go.RowKit
set_option linter.unusedVariables false

/-- What Str tells of a number: both the same; and it reads as the number again, if it is there. -/
theorem str_both (n k : Int) : ∃ (t : ByteArray) (x : Int), StrIs n k t x ∧ t.size ≤ 1000 ∧ (x = 0 → ∀ h : 0 < t.size, t[0] ≠ 42 → valB t = n) := by
  by_cases h : inB n = false ∨ k < 1 ∨ 254 < k
  · exact ⟨nos, 1, Str_no n k h, by decide, fun e => absurd e (by decide)⟩
  · have hi : inB n = true := by
      cases q : inB n
      · exact absurd (.inl q) h
      · rfl
    have hn := (inB_iff n).1 hi
    have h1 : 1 ≤ k := by
      rcases Int.lt_or_le k 1 with q | q
      · exact absurd (.inr (.inl q)) h
      · exact q
    have h2 : k ≤ 254 := by
      rcases Int.lt_or_le 254 k with q | q
      · exact absurd (.inr (.inr q)) h
      · exact q
    obtain ⟨m, rfl⟩ : ∃ m : Nat, k = m := ⟨k.toNat, by omega⟩
    have hd := dec_size n (by omega) (by omega)
    by_cases hz : (dec n).size ≤ m
    · refine ⟨_, 0, Str_yes n m hi (by omega) (by omega) hz, ?_, fun _ _ _ => ?_⟩
      · rw [ByteArray.size_append, fill_size]; omega
      · refine val_blanks (m - (dec n).size) n hn.1 hn.2 _ ?_
        rw [ByteArray.data_append]
        unfold fill dec
        simp
    · refine ⟨_, 0, Str_stars n m hi (by omega) (by omega) (by omega), ?_, fun _ hq hne => ?_⟩
      · rw [fill_size]; omega
      · exfalso
        apply hne
        have := fill_size 42 m
        show (List.replicate m (42 : UInt8)).toArray[0] = 42
        simp

set_option maxHeartbeats 4000000 in
theorem numbers_any (n k : Int) (s : ByteArray) (w : World) (ht : Tab w) (hw : Pow w) (hs : s.size ≤ maxLen) :
    Calls Tryd.prog 9 #[.int .i64 n, .int .i64 k, .string s] w fun e w' => e = .returned (.bool true) ∧ Below w.heap.size w w' := by
  have hp := ht.pos
  have HT := Lib.hid ht; clear ht
  have HW := Lib.hid hw; clear hw
  have HS := Lib.hid hs
  unfold maxLen at hs
  by_cases hl : 20000 < s.size
  · go_enter Tryd.func9, Tryd.ntmps9
    go_wp2_with fail
    refine (known_any _ HT.out).mono ?_
    rintro e w1 ⟨rfl, hb1⟩
    go_wp2_with fail
    go_ret
    exact ⟨rfl, hb1⟩
  · have C5 := Lib.hid (Val_any s HS.out)
    have C6 := Lib.hid (refVal_any s (by omega))
    obtain ⟨t, x, ⟨c1, c2⟩, htz, hval⟩ := str_both n k
    have C1 := Lib.hid c1; clear c1
    have C2 := Lib.hid c2; clear c2
    have C7 := Lib.hid (Val_any t (by unfold maxLen; omega))
    generalize valB s = v at *
    generalize valB t = u at *
    have HV := Lib.hid hval; clear hval
    have q1 : (t.toList == t.toList) = true := by simp
    have q1' : (t.toList != t.toList) = false := by simp
    have q2 : (x != x) = false := by simp
    have q3 : (v != v) = false := by simp
    have q4 : (x == x) = true := by simp
    have q5 : (v == v) = true := by simp
    have hcase : (x == 0) = false ∨ ((x == 0) = true ∧ t.toList.isEmpty = true) ∨ ((x == 0) = true ∧ t.toList.isEmpty = false ∧ ∃ h : 0 < t.size, (((t[0]'h).toNat : Int) != 42) = false) ∨ ((x == 0) = true ∧ t.toList.isEmpty = false ∧ ∃ h : 0 < t.size, (((t[0]'h).toNat : Int) != 42) = true ∧ (u != n) = false) := by
      cases hx : x == 0
      · exact .inl rfl
      · cases he : t.toList.isEmpty
        · have h0 : 0 < t.size := by
            rcases Nat.eq_zero_or_pos t.size with q | q
            · exfalso
              have : t.data.toList = [] := List.eq_nil_of_length_eq_zero q
              rw [toList_data, this] at he; cases he
            · exact q
          cases hc : (((t[0]'h0).toNat : Int) != 42)
          · exact .inr (.inr (.inl ⟨rfl, rfl, h0, hc⟩))
          · refine .inr (.inr (.inr ⟨rfl, rfl, h0, hc, ?_⟩))
            have := HV.out (by simpa using hx) h0 (fun q => by rw [q] at hc; exact absurd hc (by decide))
            simp [this]
        · exact .inr (.inl ⟨rfl, rfl⟩)
    rcases hcase with hx | ⟨hx, he⟩ | ⟨hx, he, h0, hc⟩ | ⟨hx, he, h0, hc, hu⟩
    all_goals
      try have i0 : (0 : Int) < t.size := by omega
      go_enter Tryd.func9, Tryd.ntmps9
      go_wp2_with fail
      refine (C1.out _ HW.out).mono ?_
      rintro e w1 ⟨rfl, hb1⟩
      have HT1 := Lib.hid (HT.out.below hb1 hp)
      have z1 := hb1.size
      go_wp2_with fail
      refine (C2.out _).mono ?_
      rintro e w' ⟨rfl, rfl⟩
      go_wp2_with fail
      refine (C5.out _).mono ?_
      rintro e w' ⟨rfl, rfl⟩
      go_wp2_with fail
      refine (C6.out _).mono ?_
      rintro e w' ⟨rfl, rfl⟩
      go_wp2_with fail
      try (refine (C7.out _).mono ?_; rintro e w' ⟨rfl, rfl⟩; go_wp2_with fail)
      refine (known_any _ HT1.out).mono ?_
      rintro e w2 ⟨rfl, hb2⟩
      go_wp2_with fail
      go_ret
      exact ⟨rfl, hb1.trans (hb2.mono (by omega))⟩
end Go.Proofs.YtfgadkknfehkcaaDoor
