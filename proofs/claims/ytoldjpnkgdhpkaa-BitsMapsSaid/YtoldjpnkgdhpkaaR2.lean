/- less, inBoth, either and upTo of the reference; upTo of the program. -/
import Derived.Test.YtoldjpnkgdhpkaaOwn
namespace Go.Proofs.Ytoldjpnkgdhpkaa
open Go.RowKit
set_option linter.unusedVariables false

set_option maxHeartbeats 2000000 in
theorem less_any (A A2 : Option Addr) (c c2 : Nat) (xs ys : List Int) (w : World) (hr : Rd w w.heap.size .i64 A xs) (hr2 : Rd w w.heap.size .i64 A2 ys) (hm : xs.length ≤ 1000000) (hm2 : ys.length ≤ 1000000) :
    Calls Try.prog 59 #[.slice A xs.length c, .slice A2 ys.length c2] w fun e w' => ∃ v, e = .returned v ∧ Own w' w.heap.size 3 .i64 v (xs.filter fun x => !decide (x ∈ ys)) ∧ Below w.heap.size w w' := by
  have HR := Lib.hid hr; clear hr
  have HR2 := Lib.hid hr2; clear hr2
  go_enter Try.func59, Try.ntmps59
  go_wp2
  go_loopw [5, 6] (fun v i wr => ∃ k : Nat, k ≤ xs.length ∧ i = .int .i64 k ∧ Own wr w.heap.size 3 .i64 v ((xs.take k).filter fun x => !decide (x ∈ ys)) ∧ Below w.heap.size w wr) (fun _ i _ => xs.length - (intOf i).toNat)
  case atStart => exact ⟨0, by omega, rfl, by simpa using Own.nil _ _ _ _, Below.refl _ _⟩
  case round =>
    obtain ⟨k, hk, rfl, hown, hb⟩ := hrel
    have HO := Lib.hid hown; clear hown
    have HB := Lib.hid hb; clear hb
    by_cases hlt : k < xs.length
    · obtain ⟨ad, rfl, _, hc⟩ := (HR.out.below HB.out) (by omega)
      have hck := hc k hlt
      have HC := Lib.hid hc; clear hc
      have j1 : (0 : Int) ≤ (k : Int) := by omega
      have j2 : (k : Int) < xs.length := by omega
      generalize hxx : xs.getD k 0 = x at *
      have HX := Lib.hid hxx; clear hxx
      have hlen := filter_take_len (fun x => !decide (x ∈ ys)) xs k
      by_cases hin : x ∈ ys
      · have hd : decide (x ∈ ys) = true := by simpa using hin
        have HI := Lib.hid hin; clear hin
        go_wp2_with (go_at_call 27; (with_reducible refine (has_any _ _ ys _ _ _ (HR2.out.below HB.out) (by omega)).mono ?_); rintro e w' ⟨rfl, rfl⟩)
        go_roundw
        case rel => exact ⟨k + 1, by omega, by go_num, HO.out.of_eq (filter_no _ xs hlt HX.out (by simp [HI.out])).symm, HB.out⟩
        case measure => simp [intOf]; omega
      · have hd : decide (x ∈ ys) = false := by simpa using hin
        have HI := Lib.hid hin; clear hin
        go_wp2_with (first
          | (go_at_call 27; (with_reducible refine (has_any _ _ ys _ _ _ (HR2.out.below HB.out) (by omega)).mono ?_); rintro e w' ⟨rfl, rfl⟩)
          | (at_builtin; refine app_int rfl _ _ rfl w.heap.size _ _ x rfl (HO.out.alloc _) ⟨wr.heap.size, 0, none⟩ 1 rfl (new_cell _ _ _) (by omega) (size_alloc HB.out.size _) ?_; intro v' w' hown' hb'))
        go_roundw
        case rel => exact ⟨k + 1, by omega, by go_num, hown'.of_eq (filter_yes _ xs hlt HX.out (by simp [HI.out])).symm, (HB.out.alloc HB.out.size _).trans (hb'.mono (Nat.le_refl _))⟩
        case measure => simp [intOf]; omega
    · have hkl : k = xs.length := by omega
      have HK := Lib.hid hkl; clear hkl
      go_wp2
      go_ret
      exact ⟨_, rfl, HO.out.of_eq (by rw [HK.out, List.take_length]), HB.out⟩

set_option maxHeartbeats 2000000 in
theorem inBoth_any (A A2 : Option Addr) (c c2 : Nat) (xs ys : List Int) (w : World) (hr : Rd w w.heap.size .i64 A xs) (hr2 : Rd w w.heap.size .i64 A2 ys) (hm : xs.length ≤ 1000000) (hm2 : ys.length ≤ 1000000) :
    Calls Try.prog 50 #[.slice A xs.length c, .slice A2 ys.length c2] w fun e w' => ∃ v, e = .returned v ∧ Own w' w.heap.size 3 .i64 v (xs.filter fun x => decide (x ∈ ys)) ∧ Below w.heap.size w w' := by
  have HR := Lib.hid hr; clear hr
  have HR2 := Lib.hid hr2; clear hr2
  go_enter Try.func50, Try.ntmps50
  go_wp2
  go_loopw [5, 6] (fun v i wr => ∃ k : Nat, k ≤ xs.length ∧ i = .int .i64 k ∧ Own wr w.heap.size 3 .i64 v ((xs.take k).filter fun x => decide (x ∈ ys)) ∧ Below w.heap.size w wr) (fun _ i _ => xs.length - (intOf i).toNat)
  case atStart => exact ⟨0, by omega, rfl, by simpa using Own.nil _ _ _ _, Below.refl _ _⟩
  case round =>
    obtain ⟨k, hk, rfl, hown, hb⟩ := hrel
    have HO := Lib.hid hown; clear hown
    have HB := Lib.hid hb; clear hb
    by_cases hlt : k < xs.length
    · obtain ⟨ad, rfl, _, hc⟩ := (HR.out.below HB.out) (by omega)
      have hck := hc k hlt
      have HC := Lib.hid hc; clear hc
      have j1 : (0 : Int) ≤ (k : Int) := by omega
      have j2 : (k : Int) < xs.length := by omega
      generalize hxx : xs.getD k 0 = x at *
      have HX := Lib.hid hxx; clear hxx
      have hlen := filter_take_len (fun x => decide (x ∈ ys)) xs k
      by_cases hin : x ∈ ys
      · have hd : decide (x ∈ ys) = true := by simpa using hin
        have HI := Lib.hid hin; clear hin
        go_wp2_with (first
          | (go_at_call 27; (with_reducible refine (has_any _ _ ys _ _ _ (HR2.out.below HB.out) (by omega)).mono ?_); rintro e w' ⟨rfl, rfl⟩)
          | (at_builtin; refine app_int rfl _ _ rfl w.heap.size _ _ x rfl (HO.out.alloc _) ⟨wr.heap.size, 0, none⟩ 1 rfl (new_cell _ _ _) (by omega) (size_alloc HB.out.size _) ?_; intro v' w' hown' hb'))
        go_roundw
        case rel => exact ⟨k + 1, by omega, by go_num, hown'.of_eq (filter_yes _ xs hlt HX.out (by simp [HI.out])).symm, (HB.out.alloc HB.out.size _).trans (hb'.mono (Nat.le_refl _))⟩
        case measure => simp [intOf]; omega
      · have hd : decide (x ∈ ys) = false := by simpa using hin
        have HI := Lib.hid hin; clear hin
        go_wp2_with (go_at_call 27; (with_reducible refine (has_any _ _ ys _ _ _ (HR2.out.below HB.out) (by omega)).mono ?_); rintro e w' ⟨rfl, rfl⟩)
        go_roundw
        case rel => exact ⟨k + 1, by omega, by go_num, HO.out.of_eq (filter_no _ xs hlt HX.out (by simp [HI.out])).symm, HB.out⟩
        case measure => simp [intOf]; omega
    · have hkl : k = xs.length := by omega
      have HK := Lib.hid hkl; clear hkl
      go_wp2
      go_ret
      exact ⟨_, rfl, HO.out.of_eq (by rw [HK.out, List.take_length]), HB.out⟩

theorem upTo_filter_succ (p : Int → Bool) (k : Nat) : (upTo (k + 1)).filter p = (upTo k).filter p ++ if p ((k : Int) + 1) = true then [(k : Int) + 1] else [] := by
  rw [upTo_succ, List.filter_append]
  by_cases h : p ((k : Int) + 1) = true <;> simp [h]

/-- The union, told number by number. -/
def eitherL (xs ys : List Int) : List Int := (upTo 300).filter fun x => decide (x ∈ xs) || decide (x ∈ ys)

set_option maxRecDepth 20000 in
set_option maxHeartbeats 2000000 in
theorem refEither_any (A A2 : Option Addr) (c c2 : Nat) (xs ys : List Int) (w : World) (hr : Rd w w.heap.size .i64 A xs) (hr2 : Rd w w.heap.size .i64 A2 ys) (hm : xs.length ≤ 1000000) (hm2 : ys.length ≤ 1000000) :
    Calls Try.prog 52 #[.slice A xs.length c, .slice A2 ys.length c2] w fun e w' => ∃ v, e = .returned v ∧ Own w' w.heap.size 3 .i64 v (eitherL xs ys) ∧ Below w.heap.size w w' := by
  have HR := Lib.hid hr; clear hr
  have HR2 := Lib.hid hr2; clear hr2
  go_enter Try.func52, Try.ntmps52
  go_wp2
  go_loopw [5, 6] (fun v i wr => ∃ k : Nat, k ≤ 300 ∧ i = .int .i64 (k + 1) ∧ Own wr w.heap.size 3 .i64 v ((upTo k).filter fun x => decide (x ∈ xs) || decide (x ∈ ys)) ∧ Below w.heap.size w wr) (fun _ i _ => 301 - (intOf i).toNat)
  case atStart => exact ⟨0, by omega, rfl, by simpa [upTo] using Own.nil _ _ _ _, Below.refl _ _⟩
  case round =>
    obtain ⟨k, hk, rfl, hown, hb⟩ := hrel
    have HO := Lib.hid hown; clear hown
    have HB := Lib.hid hb; clear hb
    by_cases hlt : k < 300
    · have hlen : ((upTo k).filter fun x => decide (x ∈ xs) || decide (x ∈ ys)).length ≤ 300 := Nat.le_trans (List.length_filter_le _ _) (by rw [upTo_len]; omega)
      have hs := upTo_filter_succ (fun x => decide (x ∈ xs) || decide (x ∈ ys)) k
      have HS := Lib.hid hs; clear hs
      by_cases h1 : ((k : Int) + 1) ∈ xs
      · have hd : decide (((k : Int) + 1) ∈ xs) = true := by simpa using h1
        have HI := Lib.hid h1; clear h1
        go_wp2_with (first
          | (go_at_call 27; (with_reducible refine (has_any _ _ xs _ _ _ (HR.out.below HB.out) (by omega)).mono ?_); rintro e w' ⟨rfl, rfl⟩)
          | (at_builtin; refine app_int rfl _ _ rfl w.heap.size _ _ ((k : Int) + 1) rfl (HO.out.alloc _) ⟨wr.heap.size, 0, none⟩ 1 rfl (new_cell _ _ _) (by omega) (size_alloc HB.out.size _) ?_; intro v' w' hown' hb'))
        go_roundw
        case rel => exact ⟨k + 1, by omega, by go_num, hown'.of_eq (by rw [HS.out, if_pos (by simp [HI.out])]), (HB.out.alloc HB.out.size _).trans (hb'.mono (Nat.le_refl _))⟩
        case measure => simp [intOf]; omega
      · have hd : decide (((k : Int) + 1) ∈ xs) = false := by simpa using h1
        have HI := Lib.hid h1; clear h1
        by_cases h2 : ((k : Int) + 1) ∈ ys
        · have hd2 : decide (((k : Int) + 1) ∈ ys) = true := by simpa using h2
          have HI2 := Lib.hid h2; clear h2
          go_wp2_with (first
            | (go_at_call 27; (with_reducible refine (has_any _ _ xs _ _ _ (HR.out.below HB.out) (by omega)).mono ?_); rintro e w' ⟨rfl, rfl⟩)
            | (go_at_call 27; (with_reducible refine (has_any _ _ ys _ _ _ (HR2.out.below HB.out) (by omega)).mono ?_); rintro e w' ⟨rfl, rfl⟩)
            | (at_builtin; refine app_int rfl _ _ rfl w.heap.size _ _ ((k : Int) + 1) rfl (HO.out.alloc _) ⟨wr.heap.size, 0, none⟩ 1 rfl (new_cell _ _ _) (by omega) (size_alloc HB.out.size _) ?_; intro v' w' hown' hb'))
          go_roundw
          case rel => exact ⟨k + 1, by omega, by go_num, hown'.of_eq (by rw [HS.out, if_pos (by simp [HI2.out])]), (HB.out.alloc HB.out.size _).trans (hb'.mono (Nat.le_refl _))⟩
          case measure => simp [intOf]; omega
        · have hd2 : decide (((k : Int) + 1) ∈ ys) = false := by simpa using h2
          have HI2 := Lib.hid h2; clear h2
          go_wp2_with (first
            | (go_at_call 27; (with_reducible refine (has_any _ _ xs _ _ _ (HR.out.below HB.out) (by omega)).mono ?_); rintro e w' ⟨rfl, rfl⟩)
            | (go_at_call 27; (with_reducible refine (has_any _ _ ys _ _ _ (HR2.out.below HB.out) (by omega)).mono ?_); rintro e w' ⟨rfl, rfl⟩))
          go_roundw
          case rel => exact ⟨k + 1, by omega, by go_num, HO.out.of_eq (by rw [HS.out, if_neg (by simp [HI.out, HI2.out])]; simp), HB.out⟩
          case measure => simp [intOf]; omega
    · have hkl : k = 300 := by omega
      have HK := Lib.hid hkl; clear hkl
      go_wp2
      go_ret
      exact ⟨_, rfl, HO.out.of_eq (by rw [HK.out]; rfl), HB.out⟩

set_option maxHeartbeats 2000000 in
theorem refUpTo_any (n : Nat) (w : World) (hn : n ≤ 300) :
    Calls Try.prog 60 #[.int .i64 n] w fun e w' => ∃ v, e = .returned v ∧ Own w' w.heap.size 3 .i64 v (upTo n) ∧ Below w.heap.size w w' := by
  go_enter Try.func60, Try.ntmps60
  go_wp2
  go_loopw [3, 4] (fun v i wr => ∃ k : Nat, k ≤ n ∧ i = .int .i64 (k + 1) ∧ Own wr w.heap.size 3 .i64 v (upTo k) ∧ Below w.heap.size w wr) (fun _ i _ => n + 1 - (intOf i).toNat)
  case atStart => exact ⟨0, by omega, rfl, by simpa [upTo] using Own.nil _ _ _ _, Below.refl _ _⟩
  case round =>
    obtain ⟨k, hk, rfl, hown, hb⟩ := hrel
    have HO := Lib.hid hown; clear hown
    have HB := Lib.hid hb; clear hb
    by_cases hlt : k < n
    · have hlen : (upTo k).length ≤ 300 := by rw [upTo_len]; omega
      go_wp2_with (at_builtin; refine app_int rfl _ _ rfl w.heap.size _ _ ((k : Int) + 1) rfl (HO.out.alloc _) ⟨wr.heap.size, 0, none⟩ 1 rfl (new_cell _ _ _) (by omega) (size_alloc HB.out.size _) ?_; intro v' w' hown' hb')
      go_roundw
      case rel => exact ⟨k + 1, by omega, by go_num, hown'.of_eq (upTo_succ k).symm, (HB.out.alloc HB.out.size _).trans (hb'.mono (Nat.le_refl _))⟩
      case measure => simp [intOf]; omega
    · have hkl : k = n := by omega
      have HK := Lib.hid hkl; clear hkl
      go_wp2
      go_ret
      exact ⟨_, rfl, HO.out.of_eq (by rw [HK.out]), HB.out⟩

set_option maxHeartbeats 2000000 in
theorem upTo_any (n : Nat) (w : World) (hn : n ≤ 300) :
    Calls Try.prog 57 #[.int .i64 n] w fun e w' => ∃ v, e = .returned v ∧ Own w' w.heap.size 3 .i64 v (upTo n) ∧ Below w.heap.size w w' := by
  go_enter Try.func57, Try.ntmps57
  go_wp2
  go_loopw [3, 6] (fun v i wr => ∃ k : Nat, k ≤ n ∧ i = .int .i64 k ∧ Own wr w.heap.size 3 .i64 v (upTo k) ∧ Below w.heap.size w wr) (fun _ i _ => n - (intOf i).toNat)
  case atStart => exact ⟨0, by omega, rfl, by simpa [upTo] using Own.nil _ _ _ _, Below.refl _ _⟩
  case round =>
    obtain ⟨k, hk, rfl, hown, hb⟩ := hrel
    have HO := Lib.hid hown; clear hown
    have HB := Lib.hid hb; clear hb
    by_cases hlt : k < n
    · have hlen : (upTo k).length ≤ 300 := by rw [upTo_len]; omega
      go_wp2_with (at_builtin; refine app_int rfl _ _ rfl w.heap.size _ _ ((k : Int) + 1) rfl (HO.out.alloc _) ⟨wr.heap.size, 0, none⟩ 1 rfl (new_cell _ _ _) (by omega) (size_alloc HB.out.size _) ?_; intro v' w' hown' hb')
      go_roundw
      case rel => exact ⟨k + 1, by omega, by go_num, hown'.of_eq (upTo_succ k).symm, (HB.out.alloc HB.out.size _).trans (hb'.mono (Nat.le_refl _))⟩
      case measure => simp [intOf]; omega
    · have hkl : k = n := by omega
      have HK := Lib.hid hkl; clear hkl
      go_wp2
      go_ret
      exact ⟨_, rfl, HO.out.of_eq (by rw [HK.out]), HB.out⟩
end Go.Proofs.Ytoldjpnkgdhpkaa
