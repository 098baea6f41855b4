/- Shift of the reference. -/
import Derived.Test.YtoldjpnkgdhpkaaSm
import Derived.Test.YtoldjpnkgdhpkaaP5
namespace Go.Proofs.Ytoldjpnkgdhpkaa
open Go.RowKit
set_option linter.unusedVariables false
set_option linter.unusedSimpArgs false

theorem below_yes (g : List Int) (x : Int) {j : Nat} (h : j < g.length) (hx : g.getD j 0 < x) : below (g.take (j + 1)) x = below (g.take j) x + 1 := by
  unfold below; rw [filter_yes _ g h rfl (by simpa using hx)]; simp
theorem below_no (g : List Int) (x : Int) {j : Nat} (h : j < g.length) (hx : ¬ g.getD j 0 < x) : below (g.take (j + 1)) x = below (g.take j) x := by
  unfold below; rw [filter_no _ g h rfl (by simpa using hx)]
theorem below_le (g : List Int) (x : Int) (j : Nat) : below (g.take j) x ≤ g.length := filter_take_len _ g j

set_option maxHeartbeats 1000000 in
theorem refShift_err (A A2 : Option Addr) (c c2 : Nat) (xs ys : List Int) (w : World) (h1 : Lk w w.heap.size A xs c) (h2 : Lk w w.heap.size A2 ys c2) (hs : isSetB 300 xs = false ∨ isSetB 300 ys = false) :
    Calls Try.prog 46 #[.slice A xs.length c, .slice A2 ys.length c2] w fun e w' => e = .returned (.tuple #[.slice none 0 0, .int .i64 1]) ∧ Dr w w' := by
  have H1 := Lib.hid h1; clear h1
  have H2 := Lib.hid h2; clear h2
  by_cases hx : isSetB 300 xs = true
  · have hy : isSetB 300 ys = false := by rcases hs with h | h <;> simp_all
    clear hs
    go_enter Try.func46, Try.ntmps46
    go_wp2_with fail
    refine (refIsSet_any A c xs _ _ H1.out.rd H1.out.i64 (by have := H1.out.len; omega)).mono ?_
    rintro e w' ⟨rfl, n1, rfl⟩
    go_wp2_with fail
    refine (refIsSet_any A2 c2 ys _ _ (H2.out.rd.drewN _) H2.out.i64 (by have := H2.out.len; omega)).mono ?_
    rintro e w' ⟨rfl, n2, rfl⟩
    go_wp2_with fail
    go_ret2
    exact ⟨rfl, ⟨_, rfl⟩⟩
  · have hx' : isSetB 300 xs = false := by simpa using hx
    clear hs hx
    go_enter Try.func46, Try.ntmps46
    go_wp2_with fail
    refine (refIsSet_any A c xs _ _ H1.out.rd H1.out.i64 (by have := H1.out.len; omega)).mono ?_
    rintro e w' ⟨rfl, n1, rfl⟩
    go_wp2_with fail
    go_ret2
    exact ⟨rfl, ⟨_, rfl⟩⟩

set_option maxHeartbeats 4000000 in
theorem refShift_ok (A A2 : Option Addr) (c c2 : Nat) (xs ys : List Int) (w : World) (h1 : Lk w w.heap.size A xs c) (h2 : Lk w w.heap.size A2 ys c2) (hx : isSetB 300 xs = true) (hy : isSetB 300 ys = true) :
    Calls Try.prog 46 #[.slice A xs.length c, .slice A2 ys.length c2] w fun e w' => ∃ v, e = .returned (.tuple #[v, .int .i64 0]) ∧ Own w' w.heap.size 3 .i64 v (shiftL xs ys) ∧ Below w.heap.size w w' := by
  have hX := (IsS.iff xs).1 hx
  have hY := (IsS.iff ys).1 hy
  have hlx := hX.length_le
  have hly := hY.length_le
  have HX := Lib.hid hX; clear hX
  have HY := Lib.hid hY; clear hY
  have H1 := Lib.hid h1; clear h1
  have H2 := Lib.hid h2; clear h2
  go_enter Try.func46, Try.ntmps46
  go_wp2_with fail
  refine (refIsSet_any A c xs _ _ H1.out.rd H1.out.i64 (by have := H1.out.len; omega)).mono ?_
  rintro e w' ⟨rfl, n1, rfl⟩
  go_wp2_with fail
  refine (refIsSet_any A2 c2 ys _ _ (H2.out.rd.drewN _) H2.out.i64 (by have := H2.out.len; omega)).mono ?_
  rintro e w' ⟨rfl, n2, rfl⟩
  go_wp2_with fail
  go_loopw [6, 7] (fun v i wr => ∃ (k : Nat), k ≤ xs.length ∧ i = .int .i64 k ∧ Own wr w.heap.size 3 .i64 v (shiftL (xs.take k) ys) ∧ Below w.heap.size w wr) (fun _ i _ => xs.length - (intOf i).toNat)
  case atStart => exact ⟨0, by omega, rfl, by simpa [shiftL] using Own.nil _ _ _ _, Dr.below (Below.refl _ _) ⟨_, rfl⟩⟩
  case round =>
    obtain ⟨k, hk, rfl, hown, hb⟩ := hrel
    obtain ⟨wo, rfl⟩ : ∃ wo : World, wo = wr := ⟨_, rfl⟩
    have HO := Lib.hid hown; clear hown
    have HB := Lib.hid hb; clear hb
    by_cases hlt : k < xs.length
    · obtain ⟨ad, rfl, _, hc⟩ := (H1.out.rd.below HB.out) (by omega)
      have hck := hc k hlt
      have HC := Lib.hid hc; clear hc
      have j1 : (0 : Int) ≤ (k : Int) := by omega
      have j2 : (k : Int) < xs.length := by omega
      generalize hx0 : xs.getD k 0 = x at *
      have HXX := Lib.hid hx0; clear hx0
      have hxb := HX.out.1 x (by rw [← HXX.out, List.getD, List.getElem?_eq_getElem hlt]; exact List.getElem_mem hlt)
      have hsl : (shiftL (xs.take k) ys).length ≤ 1000000 := Nat.le_trans (shift_len _ _) (by simp; omega)
      by_cases hin : x ∈ ys
      · have hd : decide (x ∈ ys) = true := by simpa using hin
        have HIN := Lib.hid hin; clear hin
        go_wp2_with (go_at_call 27; (with_reducible refine (has_any _ _ ys _ _ _ (H2.out.rd.below HB.out) (by omega)).mono ?_); rintro e w' ⟨rfl, rfl⟩)
        go_roundw
        case rel => exact ⟨k + 1, by omega, by go_num, HO.out.of_eq (shift_no ys xs hlt HXX.out HIN.out).symm, HB.out⟩
        case measure => simp [intOf]; omega
      · have hd : decide (x ∈ ys) = false := by simpa using hin
        have HNI := Lib.hid hin; clear hin
        go_wp2_with (go_at_call 27; (with_reducible refine (has_any _ _ ys _ _ _ (H2.out.rd.below HB.out) (by omega)).mono ?_); rintro e w' ⟨rfl, rfl⟩)
        go_loopw [8, 9] (fun n j wr => ∃ m : Nat, m ≤ ys.length ∧ j = .int .i64 m ∧ n = .int .i64 (x - below (ys.take m) x) ∧ Dr wo wr) (fun _ j _ => ys.length - (intOf j).toNat)
        case atStart => exact ⟨0, by omega, rfl, by simp [below], Dr.refl _⟩
        case round =>
          obtain ⟨m, hm, rfl, rfl, hd9⟩ := hrel
          have hbl := below_le ys x m
          have hckr : wr.cell? (ad.add k) = some (.int .i64 x) := by rw [hd9.cell]; exact hck
          have HD := Lib.hid hd9; clear hd9
          by_cases hmy : m < ys.length
          · obtain ⟨ad2, rfl, _, hc2⟩ := ((H2.out.rd.below HB.out).dr HD.out) (by omega)
            have hcm := hc2 m hmy
            have HC2 := Lib.hid hc2; clear hc2
            have j3 : (0 : Int) ≤ (m : Int) := by omega
            have j4 : (m : Int) < ys.length := by omega
            by_cases hyx : ys.getD m 0 < x
            · have hbe := below_yes ys x hmy hyx
              have HBE := Lib.hid hbe; clear hbe
              generalize ys.getD m 0 = y at *
              have d := dec_yes hyx
              generalize below (ys.take m) x = bl at *
              go_wp2
              go_quiet (fail)
              go_wp2
              go_roundw
              case rel => exact ⟨m + 1, by omega, by go_num, by rw [HBE.out]; congr 1; omega, HD.out.step _⟩
              case measure => simp [intOf]; omega
            · have hbe := below_no ys x hmy hyx
              have HBE := Lib.hid hbe; clear hbe
              generalize ys.getD m 0 = y at *
              have d := dec_no hyx
              generalize below (ys.take m) x = bl at *
              go_wp2
              go_quiet (fail)
              go_wp2
              go_roundw
              case rel => exact ⟨m + 1, by omega, by go_num, by rw [HBE.out], HD.out.step _⟩
              case measure => simp [intOf]; omega
          · have hml : m = ys.length := by omega
            have hbe : below (ys.take m) x = below ys x := by rw [hml, List.take_length]
            have HBE := Lib.hid hbe; clear hbe hml
            generalize below (ys.take m) x = bl at *
            have hbz : w.heap.size ≤ wr.heap.size := (Dr.below HB.out HD.out).size
            go_wp2_with (at_builtin; refine app_int rfl _ _ rfl w.heap.size _ _ (x - bl) rfl ((HO.out.dr HD.out).alloc _) ⟨wr.heap.size, 0, none⟩ 1 rfl (new_cell _ _ _) hsl (size_alloc hbz _) ?_; intro v' w' hown' hb')
            go_roundw
            case rel => exact ⟨k + 1, by omega, by go_num, hown'.of_eq (by rw [shift_yes ys xs hlt HXX.out HNI.out, HBE.out]), ((Dr.below HB.out HD.out).alloc hbz _).trans (hb'.mono (Nat.le_refl _))⟩
            case measure => simp [intOf]; omega
    · have hkl : k = xs.length := by omega
      have HK := Lib.hid hkl; clear hkl
      go_wp2
      go_ret2
      exact ⟨_, rfl, HO.out.of_eq (by rw [HK.out, List.take_length]), HB.out⟩
end Go.Proofs.Ytoldjpnkgdhpkaa
