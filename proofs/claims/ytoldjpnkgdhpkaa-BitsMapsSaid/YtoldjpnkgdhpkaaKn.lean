/- known of the statements: three calls at fixed lists. -/
import Derived.Test.YtoldjpnkgdhpkaaSm
import Derived.Test.YtoldjpnkgdhpkaaP4
import Derived.Test.YtoldjpnkgdhpkaaP5
import Derived.Laws.BytesArg
namespace Go.Proofs.Ytoldjpnkgdhpkaa
open Go.RowKit
set_option linter.unusedVariables false
set_option linter.unusedSimpArgs false

theorem rd_new1 (w : World) (k : IntKind) (t : TypeId) (x : Int) : Rd (w.alloc (.cells #[.int k x] t)) (w.heap.size + 1) k (some ⟨w.heap.size, 0, none⟩) [x] := fun _ => by
  refine ⟨_, rfl, by simp, fun j hj => ?_⟩
  rcases j with _ | j
  · simp [Addr.add]
  · simp at hj
theorem rd_new3 (w : World) (k : IntKind) (t : TypeId) (x y z : Int) : Rd (w.alloc (.cells #[.int k x, .int k y, .int k z] t)) (w.heap.size + 1) k (some ⟨w.heap.size, 0, none⟩) [x, y, z] := fun _ => by
  refine ⟨_, rfl, by simp, fun j hj => ?_⟩
  rcases j with _ | _ | _ | j
  · simp [Addr.add]
  · simp [Addr.add]
  · simp [Addr.add]
  · simp at hj; omega
theorem conv_bytes {w : World} {B : Nat} {A : Option Addr} {zs : List Int} (h : Rd w B .u8 A zs) (c : Nat) : (convert 52 9 (.slice A zs.length c)).run Try.prog w = .ok (.string (strOfNums zs)) w := by
  rw [run_convert_bytes_string w _ _ _ A zs.length c Try.underlying52 Try.underlying5 Try.underlying9]
  rcases Nat.eq_zero_or_pos zs.length with h0 | h0
  · obtain rfl := List.length_eq_zero_iff.1 h0
    cases A <;> simp [Conv.bytesToString, loadCells] <;> rfl
  · obtain ⟨ad, rfl, _, hc⟩ := h h0
    have hl : (loadCells ad zs.length).run Try.prog w = .ok (zs.map (Value.int .u8)).toArray w := by
      have := run_loadCells_list (P := Try.prog) w ad (zs.map (Value.int .u8)) (fun j v hj => by
        rw [List.getElem?_map, Option.map_eq_some_iff] at hj
        obtain ⟨z, hz, rfl⟩ := hj
        obtain ⟨hj, rfl⟩ := List.getElem?_eq_some_iff.1 hz
        rw [hc j hj, List.getD, List.getElem?_eq_getElem hj]; rfl)
      simpa using this
    rw [run_bytesToString w _ zs.length c zs hl, foldl_push_bytes]
    simp [strOfNums, ByteArray.empty, ByteArray.emptyWithCapacity]
    rfl
theorem Own.lk' {w : World} {base : Nat} {A : Option Addr} {c : Nat} {zs : List Int} (h : Own w base 3 .i64 (.slice A zs.length c) zs) (hl : zs.length ≤ 3000) (hi : Is64 zs) : Lk w w.heap.size A zs c := by
  obtain ⟨A', c', e, h⟩ := h.lk hl hi
  injection e with e1 _ e3
  subst e1 e3
  exact h
theorem is64_of {zs : List Int} (h : zs.all (fun z => decide (-1000 ≤ z) && decide (z ≤ 1000)) = true) : Is64 zs := fun z hz => by
  have := List.all_eq_true.1 h z hz
  simp at this; omega
theorem kn_inter : interL [1] [2] = [] ∧ interL [1, 2] [1, 2] = [1, 2] := by constructor <;> simp [mergeK, em]
theorem kn_pack : packL 1 (rangesL [2, 3, 5]) = [1, 1, 1, 0] := by decide
theorem kn_shift : shiftL [2, 4, 6] [1, 4] = [1, 4] := by decide
theorem kn_v1 : VB [1] [1, 2] = true := by decide
theorem kn_v2 : VB [2] [1, 2] = true := by decide

set_option maxHeartbeats 4000000 in
theorem known_any (w : World) : Calls Try.prog 13 #[] w fun e w' => e = .returned (.bool true) ∧ Below w.heap.size w w' := by
  go_enter Try.func13, Try.ntmps13
  go_wp2_with fail
  have LK : ∀ {W : World} {ad : Option Addr} {zs : List Int} {c : Nat}, Rd W W.heap.size .i64 ad zs → zs.length ≤ 3000 → zs.length ≤ c → c ≤ 9223372036854775807 → Is64 zs → Lk W W.heap.size ad zs c := fun a b c d e => ⟨a, b, c, d, e⟩
  have hand := and_any (some ⟨w.heap.size, 0, none⟩) (some ⟨w.heap.size + 1, 0, none⟩) (some ⟨w.heap.size + 1 + 1, 0, none⟩) (some ⟨w.heap.size + 1 + 1 + 1, 0, none⟩) 1 2 1 2 [1] [1, 2] [2] [1, 2]
    ((((w.alloc (.cells #[.int .i64 1] 3)).alloc (.cells #[.int .i64 1, .int .i64 2] 3)).alloc (.cells #[.int .i64 2] 3)).alloc (.cells #[.int .i64 1, .int .i64 2] 3))
    (LK ((((rd_new1 w .i64 3 1).alloc (by simp) _).alloc (by simp) _).alloc (by simp) _ |>.more (by first | (simp; done) | (simp; omega))) (by simp) (by simp) (by omega) (by intro z hz; simp at hz; omega))
    (LK ((by simpa using ((rd_new2 (w.alloc _) .i64 3 1 2).alloc (by simp) _).alloc (by first | (simp; done) | (simp; omega)) _ : Rd _ (w.heap.size + 1 + 1) _ _ _).more (by simp)) (by simp) (by simp) (by omega) (by intro z hz; simp at hz; omega))
    (LK ((by simpa using (rd_new1 ((w.alloc _).alloc _) .i64 3 2).alloc (by simp) _ : Rd _ (w.heap.size + 1 + 1 + 1) _ _ _).more (by simp)) (by simp) (by simp) (by omega) (by intro z hz; simp at hz; omega))
    (LK ((by simpa using rd_new2 (((w.alloc _).alloc _).alloc _) .i64 3 1 2 : Rd _ (w.heap.size + 1 + 1 + 1 + 1) _ _ _).more (by simp)) (by simp) (by simp) (by omega) (by intro z hz; simp at hz; omega))
  rw [kn_v1, kn_v2, kn_inter.1, kn_inter.2] at hand
  refine Calls.mono hand ?_
  rintro e w1 ⟨D1, d1, D2, d2, rfl, ho1, ho2, hb1⟩
  have hs1 : w.heap.size ≤ w1.heap.size := by have := hb1.size; simp at this; omega
  have hbw1 : Below w.heap.size w w1 := ((((Below.of_alloc w _ _ (Nat.le_refl _)).alloc (by simp) _).alloc (by simp; omega) _).alloc (by simp; omega) _).trans (hb1.mono (by simp; omega))
  clear hand
  obtain ⟨_, _, _, _, hr2⟩ := ho2.out
  have HO1 := Lib.hid ho1; clear ho1
  have HO2 := Lib.hid ho2; clear ho2
  have HB1 := Lib.hid hb1; clear hb1
  have HW1 := Lib.hid hbw1; clear hbw1
  have e0 : ([] : List Int).length = 0 := rfl
  have e2 : ([1, 2] : List Int).length = 2 := rfl
  rw [e0, e2]
  go_wp2_with fail
  refine (pack_yes _ 3 [2, 3, 5] _ (LK (by simpa using rd_new3 (w1.alloc _) .i64 3 2 3 5) (by simp) (by simp) (by omega) (by intro z hz; simp at hz; omega)) (by decide)).mono ?_
  rintro e w2 ⟨v, rfl, ho3, hb2⟩
  rw [kn_pack] at ho3
  obtain ⟨D3, d3, rfl, _, _, hr3⟩ := ho3.out
  have k1 : Bk w2 w1.heap.size 24 #[.slice D1 0 d1, .slice D2 2 d2] := ((Bk.new w1 _ _).alloc _).below hb2 (by simp; omega)
  have hs2 : w1.heap.size + 1 + 1 ≤ w2.heap.size := by have := hb2.size; simp at this; omega
  have hbw2 : Below w1.heap.size w1 w2 := ((Below.of_alloc w1 _ _ (Nat.le_refl _)).alloc (by simp) _).trans (hb2.mono (by simp; omega))
  have HO3 := Lib.hid ho3; clear ho3
  have HB2 := Lib.hid hb2; clear hb2
  have HW2 := Lib.hid hbw2; clear hbw2
  have e4 : ([1, 1, 1, 0] : List Int).length = 4 := rfl
  rw [e4]
  go_wp2_with fail
  refine (shift_ok _ _ 3 2 [2, 4, 6] [1, 4] _ (LK ((by simpa using (rd_new3 w2 .i64 3 2 4 6).alloc (by simp) _ : Rd _ (w2.heap.size + 1) _ _ _).more (by simp)) (by simp) (by simp) (by omega) (by intro z hz; simp at hz; omega)) (LK (by simpa using rd_new2 (w2.alloc _) .i64 3 1 4) (by simp) (by simp) (by omega) (by intro z hz; simp at hz; omega)) (by decide) (by decide)).mono ?_
  rintro e w3 ⟨v, rfl, ho4, hb3⟩
  rw [kn_shift] at ho4
  obtain ⟨D4, d4, rfl, _, _, hr4⟩ := ho4.out
  have k2 : Bk w3 w1.heap.size 24 #[.slice D1 0 d1, .slice D2 2 d2] := ((k1.alloc _).alloc _).below hb3 (by simp; omega)
  have hs3 : w2.heap.size + 1 + 1 ≤ w3.heap.size := by have := hb3.size; simp at this; omega
  have hbw3 : Below w2.heap.size w2 w3 := ((Below.of_alloc w2 _ _ (Nat.le_refl _)).alloc (by simp) _).trans (hb3.mono (by simp; omega))
  have HO4 := Lib.hid ho4; clear ho4
  have HB3 := Lib.hid hb3; clear hb3
  have HW3 := Lib.hid hbw3; clear hbw3
  have K1 := Lib.hid k1; clear k1
  obtain ⟨q1, q2, _, _⟩ := two_cells k2
  have K2 := Lib.hid k2; clear k2
  have f4 : ([1, 4] : List Int).length = 2 := rfl
  rw [f4]
  go_wp2_with fail
  have m1 : Lk w3 w3.heap.size D1 [] d1 := (((HO1.out.lk' (by simp) (is64_of (by decide))).below HW2.out |>.more (by omega)).below HW3.out).more (by omega)
  have m2 : Lk w3 w3.heap.size D2 [1, 2] d2 := (((HO2.out.lk' (by simp) (is64_of (by decide))).below HW2.out |>.more (by omega)).below HW3.out).more (by omega)
  refine (same_any D1 D2 none _ d1 d2 0 2 [] [1, 2] [] [1, 2] _ ((m1.alloc (Nat.le_refl _) _).more (by simp)) ((m2.alloc (Nat.le_refl _) _).more (by simp)) ⟨Rd.nil, by simp, by simp, by simp, is64_of (by decide)⟩ (LK (by simpa using rd_new2 w3 .i64 3 1 2) (by simp) (by simp) (by omega) (is64_of (by decide)))).mono ?_
  rintro e w4 ⟨rfl, hb4⟩
  have hs4 : w3.heap.size + 1 ≤ w4.heap.size := by have := hb4.size; simpa using this
  have hbw4 := bstep hb4
  clear hb4 m1 m2
  have hr3' : Rd w4 w2.heap.size .u8 D3 [1, 1, 1, 0] := ((hr3.below HW3.out).below (hbw4.mono (by omega)))
  have hr4' : Rd w4 w3.heap.size .i64 D4 [1, 4] := hr4.below hbw4
  have hcv : (convert 52 9 (.slice D3 4 d3)).run Try.prog w4 = .ok (.string ⟨#[1, 1, 1, 0]⟩) w4 := conv_bytes hr3' d3
  have HR3 := Lib.hid hr3'; clear hr3'
  have HR4 := Lib.hid hr4'; clear hr4'
  have HW4 := Lib.hid hbw4; clear hbw4
  have ht : (decide (([] : List Int) = []) && decide (([1, 2] : List Int) = [1, 2])) = true := by decide
  rw [ht]
  clear ht q1 q2
  go_wp2_with fail
  refine (sameInts_any D4 _ d4 2 [1, 4] [1, 4] _ _ _ (HR4.out.alloc (by omega) _) (rd_new2 w4 .i64 3 1 4) (by simp) (by simp)).mono ?_
  rintro e w5 ⟨rfl, hd5⟩
  have HD5 := Lib.hid hd5; clear hd5
  have ht : decide (([1, 4] : List Int) = [1, 4]) = true := by decide
  rw [ht]
  clear ht
  go_wp2_with fail
  go_ret
  refine ⟨rfl, Dr.below ?_ HD5.out⟩
  exact (((HW1.out.trans (HW2.out.mono hs1)).trans (HW3.out.mono (by omega))).trans (HW4.out.mono (by omega))).alloc (by omega) _
end Go.Proofs.Ytoldjpnkgdhpkaa
