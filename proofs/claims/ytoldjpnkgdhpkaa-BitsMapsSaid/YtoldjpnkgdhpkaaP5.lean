/- Shift of the program. -/
import Derived.Test.YtoldjpnkgdhpkaaP3
namespace Go.Proofs.Ytoldjpnkgdhpkaa
open Go.RowKit
set_option linter.unusedVariables false
set_option linter.unusedSimpArgs false

theorem shift_yes (g xs : List Int) {k : Nat} {x : Int} (h : k < xs.length) (hx : xs.getD k 0 = x) (hin : x ∉ g) : shiftL (xs.take (k + 1)) g = shiftL (xs.take k) g ++ [x - below g x] := by
  unfold shiftL; rw [filter_yes _ xs h hx (by simp [hin]), List.map_append]; rfl
theorem shift_no (g xs : List Int) {k : Nat} {x : Int} (h : k < xs.length) (hx : xs.getD k 0 = x) (hin : x ∈ g) : shiftL (xs.take (k + 1)) g = shiftL (xs.take k) g := by
  unfold shiftL; rw [filter_no _ xs h hx (by simp [hin])]
theorem shift_len (g xs : List Int) : (shiftL xs g).length ≤ xs.length := by unfold shiftL; rw [List.length_map]; exact List.length_filter_le _ _

set_option maxHeartbeats 1000000 in
theorem shift_err (A A2 : Option Addr) (c c2 : Nat) (xs ys : List Int) (w : World) (h1 : Lk w w.heap.size A xs c) (h2 : Lk w w.heap.size A2 ys c2) (hs : isSetB 300 xs = false ∨ isSetB 300 ys = false) :
    Calls Try.prog 45 #[.slice A xs.length c, .slice A2 ys.length c2] w fun e w' => e = .returned (.tuple #[.slice none 0 0, .int .i64 1]) ∧ w = w' := by
  have H1 := Lib.hid h1; clear h1
  have H2 := Lib.hid h2; clear h2
  by_cases hx : isSetB 300 xs = true
  · have hy : isSetB 300 ys = false := by rcases hs with h | h <;> simp_all
    clear hs
    go_enter Try.func45, Try.ntmps45
    go_wp2_with fail
    refine (isSet_any A c xs 300 _ _ H1.out.rd H1.out.i64 (by have := H1.out.len; omega)).mono ?_
    rintro e w' ⟨rfl, rfl⟩
    go_wp2_with fail
    refine (isSet_any A2 c2 ys 300 _ _ H2.out.rd H2.out.i64 (by have := H2.out.len; omega)).mono ?_
    rintro e w' ⟨rfl, rfl⟩
    go_wp2_with fail
    go_ret2
    exact ⟨rfl, rfl⟩
  · have hx' : isSetB 300 xs = false := by simpa using hx
    clear hs hx
    go_enter Try.func45, Try.ntmps45
    go_wp2_with fail
    refine (isSet_any A c xs 300 _ _ H1.out.rd H1.out.i64 (by have := H1.out.len; omega)).mono ?_
    rintro e w' ⟨rfl, rfl⟩
    go_wp2_with fail
    go_ret2
    exact ⟨rfl, rfl⟩

set_option maxHeartbeats 4000000 in
theorem shift_ok (A A2 : Option Addr) (c c2 : Nat) (xs ys : List Int) (w : World) (h1 : Lk w w.heap.size A xs c) (h2 : Lk w w.heap.size A2 ys c2) (hx : isSetB 300 xs = true) (hy : isSetB 300 ys = true) :
    Calls Try.prog 45 #[.slice A xs.length c, .slice A2 ys.length c2] w fun e w' => ∃ v, e = .returned (.tuple #[v, .int .i64 0]) ∧ Own w' w.heap.size 3 .i64 v (shiftL xs ys) ∧ Below w.heap.size w w' := by
  have hX := (IsS.iff xs).1 hx
  have hY := (IsS.iff ys).1 hy
  have hlx := hX.length_le
  have hly := hY.length_le
  have HX := Lib.hid hX; clear hX
  have HY := Lib.hid hY; clear hY
  have H1 := Lib.hid h1; clear h1
  have H2 := Lib.hid h2; clear h2
  go_enter Try.func45, Try.ntmps45
  go_wp2_with fail
  refine (isSet_any A c xs 300 _ _ H1.out.rd H1.out.i64 (by have := H1.out.len; omega)).mono ?_
  rintro e w' ⟨rfl, rfl⟩
  go_wp2_with fail
  refine (isSet_any A2 c2 ys 300 _ _ H2.out.rd H2.out.i64 (by have := H2.out.len; omega)).mono ?_
  rintro e w' ⟨rfl, rfl⟩
  go_wp2_with fail
  go_loopw [6, 7, 20] (fun v b i wr => ∃ (k n : Nat), k ≤ xs.length ∧ i = .int .i64 k ∧ b = .int .i64 n ∧ n ≤ ys.length ∧ (∀ j, j < n → k < xs.length → ys.getD j 0 < xs.getD k 0) ∧ Own wr w.heap.size 3 .i64 v (shiftL (xs.take k) ys) ∧ Below w.heap.size w wr) (fun _ _ i _ => xs.length - (intOf i).toNat)
  case atStart => exact ⟨0, 0, by omega, rfl, rfl, by omega, fun j hj => by omega, by simpa [shiftL] using Own.nil _ _ _ _, Below.refl _ _⟩
  case round =>
    obtain ⟨k, n, hk, rfl, rfl, hn, hlow, hown, hb⟩ := hrel
    have HO := Lib.hid hown; clear hown
    have HB := Lib.hid hb; clear hb
    have HLO := Lib.hid hlow; clear hlow
    by_cases hlt : k < xs.length
    · obtain ⟨ad, rfl, _, hc⟩ := (H1.out.rd.below HB.out) (by omega)
      have hck := hc k hlt
      have HC := Lib.hid hc; clear hc
      have hxx : xs.getD k 0 = xs.getD k 0 := rfl
      generalize hx0 : xs.getD k 0 = x at *
      have HXX := Lib.hid hx0; clear hx0 hxx
      have hxb := HX.out.1 x (by rw [← HXX.out, List.getD, List.getElem?_eq_getElem hlt]; exact List.getElem_mem hlt)
      have hsl : (shiftL (xs.take k) ys).length ≤ 1000000 := Nat.le_trans (shift_len _ _) (by simp; omega)
      go_wp2_with fail
      go_loop [7] (fun b => ∃ m : Nat, b = .int .i64 m ∧ m ≤ ys.length ∧ ∀ j, j < m → ys.getD j 0 < x) (fun b => ys.length - (intOf b).toNat)
      case atStart => exact ⟨n, rfl, hn, fun j hj => HLO.out j hj hlt⟩
      case round =>
        obtain ⟨m, rfl, hm, hlm⟩ := hrel
        have HLM := Lib.hid hlm; clear hlm
        by_cases hmy : m < ys.length
        · obtain ⟨ad2, rfl, _, hc2⟩ := (H2.out.rd.below HB.out) (by omega)
          have hcm := hc2 m hmy
          have HC2 := Lib.hid hc2; clear hc2
          have hmn : (m == ys.length) = false := by rw [beq_eq_false_iff_ne]; omega
          generalize hy0 : ys.getD m 0 = y at *
          have HY0 := Lib.hid hy0; clear hy0
          by_cases hyx : y < x
          · have d := dec_yes hyx
            go_wp2
            go_round
            case rel => exact ⟨m + 1, by go_num, by omega, fun j hj => by
              rcases Nat.lt_succ_iff_lt_or_eq.1 hj with h | h
              · exact HLM.out j h
              · rw [h, HY0.out]; exact hyx⟩
            case measure => simp [intOf]; omega
          · have d := dec_no hyx
            have hbe : below ys x = m := below_at ys x m HY.out.2 hm HLM.out (fun _ => by rw [HY0.out]; omega)
            have HBE := Lib.hid hbe; clear hbe
            have hme := mem_at ys x m HY.out.2 hm HLM.out (fun _ => by rw [HY0.out]; omega)
            by_cases hyx2 : y = x
            · have d2 : (y != x) = false := by simpa using hyx2
              have d3 : (y == x) = true := by simpa using hyx2
              have HIN := Lib.hid (hme.2 ⟨hmy, by rw [HY0.out]; exact hyx2⟩)
              have HYX := Lib.hid hyx2; clear hyx2 hme
              go_wp2
              go_roundw
              case rel => exact ⟨k + 1, m, by omega, by go_num, rfl, hm, fun j hj hk' => Int.lt_trans (HLM.out j hj) (by have := asc_lt HX.out.2 (Nat.lt_succ_self k) hk'; rw [HXX.out] at this; exact this), HO.out.of_eq (shift_no ys xs hlt HXX.out HIN.out).symm, HB.out⟩
              case measure => simp [intOf]; omega
            · have d2 : (y != x) = true := by simpa using hyx2
              have d3 : (y == x) = false := by simpa using hyx2
              have HNI : Hid (x ∉ ys) := Lib.hid fun hin => hyx2 (by rw [← HY0.out]; exact (hme.1 hin).2)
              clear hyx2 hme
              go_wp2_with (at_builtin; refine app_int rfl _ _ rfl w.heap.size _ _ (x - m) rfl (HO.out.alloc _) ⟨wr.heap.size, 0, none⟩ 1 rfl (new_cell _ _ _) hsl (size_alloc HB.out.size _) ?_; intro v' w' hown' hb')
              go_roundw
              case rel => exact ⟨k + 1, m, by omega, by go_num, rfl, hm, fun j hj hk' => Int.lt_trans (HLM.out j hj) (by have := asc_lt HX.out.2 (Nat.lt_succ_self k) hk'; rw [HXX.out] at this; exact this), hown'.of_eq (by rw [shift_yes ys xs hlt HXX.out HNI.out, HBE.out]), (HB.out.alloc HB.out.size _).trans (hb'.mono (Nat.le_refl _))⟩
              case measure => simp [intOf]; omega
        · obtain rfl : m = ys.length := by omega
          have hbe : below ys x = ys.length := below_at ys x ys.length HY.out.2 hm HLM.out (fun h => absurd h hmy)
          have HBE := Lib.hid hbe; clear hbe
          have hme := mem_at ys x ys.length HY.out.2 hm HLM.out (fun h => absurd h hmy)
          have HNI : Hid (x ∉ ys) := Lib.hid fun hin => hmy (hme.1 hin).1
          clear hme
          go_wp2_with (at_builtin; refine app_int rfl _ _ rfl w.heap.size _ _ (x - ys.length) rfl (HO.out.alloc _) ⟨wr.heap.size, 0, none⟩ 1 rfl (new_cell _ _ _) hsl (size_alloc HB.out.size _) ?_; intro v' w' hown' hb')
          go_roundw
          case rel => exact ⟨k + 1, ys.length, by omega, by go_num, rfl, hm, fun j hj hk' => Int.lt_trans (HLM.out j hj) (by have := asc_lt HX.out.2 (Nat.lt_succ_self k) hk'; rw [HXX.out] at this; exact this), hown'.of_eq (by rw [shift_yes ys xs hlt HXX.out HNI.out, HBE.out]), (HB.out.alloc HB.out.size _).trans (hb'.mono (Nat.le_refl _))⟩
          case measure => simp [intOf]; omega
    · have hkl : k = xs.length := by omega
      have HK := Lib.hid hkl; clear hkl
      go_wp2
      go_ret2
      exact ⟨_, rfl, HO.out.of_eq (by rw [HK.out, List.take_length]), HB.out⟩
end Go.Proofs.Ytoldjpnkgdhpkaa
