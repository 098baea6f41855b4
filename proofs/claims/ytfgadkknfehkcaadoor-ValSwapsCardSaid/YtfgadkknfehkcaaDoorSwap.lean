/- The walks of Swap of both. -/
import Derived.Test.YtfgadkknfehkcaaDoorAt
import Derived.Test.YtfgadkknfehkcaaDoorSwapM
import Derived.Lib.SplitLaws
namespace Go.Proofs.YtfgadkknfehkcaaDoor
open Go.RowKit
set_option linter.unusedVariables false

abbrev FitIs (s t : ByteArray) (x : Int) : Prop :=
  (∀ w, Calls Tryd.prog 99 #[.string s] w fun e w' => e = .returned (.tuple #[.string t, .int .i64 x]) ∧ Below w.heap.size w w') ∧
  (∀ w, Calls Tryd.prog 100 #[.string s] w fun e w' => e = .returned (.tuple #[.string t, .int .i64 x]) ∧ w = w')
theorem fit_big (s : ByteArray) (hs : s.size ≤ maxLen) (h : 2048 < s.size) : FitIs s nos 3 := by
  have C := Lib.hid (fun b cap w hc => large_one s hs b cap w hc)
  have C' := Lib.hid (long_any s hs)
  have hd : decide (2048 < s.size) = true := by simpa using h
  rw [hd] at C C'
  clear hd
  refine ⟨fun w => ?_, fun w => ?_⟩
  · go_enter Tryd.func99, Tryd.ntmps99
    go_wp2_with fail
    refine (C.out _ _ _ (by go_simp)).mono ?_
    rintro e w' ⟨rfl, rfl⟩
    go_wp2
    go_ret2
    exact ⟨rfl, (Below.refl _ _).alloc (Nat.le_refl _) _⟩
  · go_enter Tryd.func100, Tryd.ntmps100
    go_wp2_with fail
    refine (C'.out _).mono ?_
    rintro e w' ⟨rfl, rfl⟩
    go_wp2
    go_ret2
    exact ⟨rfl, rfl⟩

theorem fit_small (s : ByteArray) (hs : s.size ≤ maxLen) (h : ¬ 2048 < s.size) : FitIs s s 0 := by
  have C := Lib.hid (fun b cap w hc => large_one s hs b cap w hc)
  have C' := Lib.hid (long_any s hs)
  have hd : decide (2048 < s.size) = false := by simpa using h
  rw [hd] at C C'
  clear hd
  refine ⟨fun w => ?_, fun w => ?_⟩
  · go_enter Tryd.func99, Tryd.ntmps99
    go_wp2_with fail
    refine (C.out _ _ _ (by go_simp)).mono ?_
    rintro e w' ⟨rfl, rfl⟩
    go_wp2
    go_ret2
    exact ⟨rfl, (Below.refl _ _).alloc (Nat.le_refl _) _⟩
  · go_enter Tryd.func100, Tryd.ntmps100
    go_wp2_with fail
    refine (C'.out _).mono ?_
    rintro e w' ⟨rfl, rfl⟩
    go_wp2
    go_ret2
    exact ⟨rfl, rfl⟩

theorem large_three (s u v : ByteArray) (hs : s.size ≤ maxLen) (hu : u.size ≤ maxLen) (hv : v.size ≤ maxLen) (b cap : Nat) (w : World) (hc : w.cell? ⟨b, 0, none⟩ = some (.string s)) (hc' : w.cell? ⟨b, 1, none⟩ = some (.string u)) (hc'' : w.cell? ⟨b, 2, none⟩ = some (.string v)) :
    Calls Tryd.prog 93 #[.slice (some ⟨b, 0, none⟩) 3 cap] w fun e w' => e = .returned (.bool (decide (2048 < s.size) || (decide (2048 < u.size) || decide (2048 < v.size)))) ∧ w = w' := by
  have := isLarge_any b cap [s, u, v] (by intro z hz; rcases List.mem_cons.1 hz with rfl | hz; exact hs; rcases List.mem_cons.1 hz with rfl | hz; exact hu; rw [List.mem_singleton.1 hz]; exact hv) (by simp) w (fun i hi => by
    have hi' : i < 3 := hi
    rcases (show i = 0 ∨ i = 1 ∨ i = 2 by omega) with rfl | rfl | rfl
    · exact hc
    · exact hc'
    · exact hc'')
  rw [show larges [s, u, v] = (decide (2048 < s.size) || (decide (2048 < u.size) || decide (2048 < v.size))) from by simp [larges]] at this
  exact this

abbrev SwIs (s a b t : ByteArray) (x : Int) : Prop :=
  (∀ w, MaxL w → Calls Tryd.prog 56 #[.string s, .string a, .string b] w fun e w' => e = .returned (.tuple #[.string t, .int .i64 x]) ∧ Below w.heap.size w w') ∧
  (∀ w, Calls Tryd.prog 57 #[.string s, .string a, .string b] w fun e w' => e = .returned (.tuple #[.string t, .int .i64 x]) ∧ w = w')

set_option maxHeartbeats 4000000 in
theorem swap_large (s a b : ByteArray) (hs : s.size ≤ maxLen) (ha : a.size ≤ maxLen) (hb : b.size ≤ maxLen) (h : 2048 < s.size ∨ 2048 < a.size ∨ 2048 < b.size) : SwIs s a b nos 3 := by
  have hor : (decide (2048 < s.size) || (decide (2048 < a.size) || decide (2048 < b.size))) = true := by simpa using h
  have C := Lib.hid (fun p cap w hc hc' hc'' => large_three s a b hs ha hb p cap w hc hc' hc'')
  rw [hor] at C
  have S' := Lib.hid (long_any s hs)
  have A' := Lib.hid (long_any a ha)
  have B' := Lib.hid (long_any b hb)
  have hcase : decide (2048 < s.size) = true ∨ (decide (2048 < s.size) = false ∧ decide (2048 < a.size) = true) ∨ (decide (2048 < s.size) = false ∧ decide (2048 < a.size) = false ∧ decide (2048 < b.size) = true) := by
    by_cases p1 : 2048 < s.size
    · exact .inl (by simpa using p1)
    · by_cases p2 : 2048 < a.size
      · exact .inr (.inl ⟨by simpa using p1, by simpa using p2⟩)
      · exact .inr (.inr ⟨by simpa using p1, by simpa using p2, by simp; omega⟩)
  clear hor h
  refine ⟨fun w _ => ?_, fun w => ?_⟩
  · clear hcase
    go_enter Tryd.func56, Tryd.ntmps56
    go_wp2_with fail
    refine (C.out _ _ _ (by go_simp) (by go_simp) (by go_simp)).mono ?_
    rintro e w' ⟨rfl, rfl⟩
    go_wp2
    go_ret2
    exact ⟨rfl, (Below.refl _ _).alloc (Nat.le_refl _) _⟩
  · rcases hcase with h1 | ⟨h1, h2⟩ | ⟨h1, h2, h3⟩
    · rw [h1] at S'
      clear h1
      go_enter Tryd.func57, Tryd.ntmps57
      go_wp2_with fail
      refine (S'.out _).mono ?_
      rintro e w' ⟨rfl, rfl⟩
      go_wp2
      go_ret2
      exact ⟨rfl, rfl⟩
    · rw [h1] at S'
      rw [h2] at A'
      clear h1 h2
      go_enter Tryd.func57, Tryd.ntmps57
      go_wp2_with fail
      refine (S'.out _).mono ?_
      rintro e w' ⟨rfl, rfl⟩
      go_wp2_with fail
      refine (A'.out _).mono ?_
      rintro e w' ⟨rfl, rfl⟩
      go_wp2
      go_ret2
      exact ⟨rfl, rfl⟩
    · rw [h1] at S'
      rw [h2] at A'
      rw [h3] at B'
      clear h1 h2 h3
      go_enter Tryd.func57, Tryd.ntmps57
      go_wp2_with fail
      refine (S'.out _).mono ?_
      rintro e w' ⟨rfl, rfl⟩
      go_wp2_with fail
      refine (A'.out _).mono ?_
      rintro e w' ⟨rfl, rfl⟩
      go_wp2_with fail
      refine (B'.out _).mono ?_
      rintro e w' ⟨rfl, rfl⟩
      go_wp2
      go_ret2
      exact ⟨rfl, rfl⟩

set_option maxHeartbeats 4000000 in
set_option maxRecDepth 20000 in
theorem swap_small (s a b : ByteArray) (hs : ¬ 2048 < s.size) (ha : ¬ 2048 < a.size) (hb : ¬ 2048 < b.size) : ∃ t x, SwIs s a b t x := by
  have ms : s.size ≤ maxLen := by unfold maxLen; omega
  have ma : a.size ≤ maxLen := by unfold maxLen; omega
  have mb : b.size ≤ maxLen := by unfold maxLen; omega
  have C := Lib.hid (fun p cap w hc hc' hc'' => large_three s a b ms ma mb p cap w hc hc' hc'')
  rw [show (decide (2048 < s.size) || (decide (2048 < a.size) || decide (2048 < b.size))) = false from by simp; omega] at C
  have S' := Lib.hid (long_any s ms)
  have A' := Lib.hid (long_any a ma)
  have B' := Lib.hid (long_any b mb)
  rw [show decide (2048 < s.size) = false from by simpa using hs] at S'
  rw [show decide (2048 < a.size) = false from by simpa using ha] at A'
  rw [show decide (2048 < b.size) = false from by simpa using hb] at B'
  cases he : a.toList.isEmpty
  · have hane : a.data.toList ≠ [] := by intro q; rw [toList_data, q] at he; cases he
    have ha1 : 1 ≤ a.size := List.length_pos_iff.2 hane
    have hlen := rep_len a.data.toList b.data.toList hane _ s.data.toList (Nat.le_refl _)
    have hl1 : s.data.toList.length = s.size := rfl
    have hl2 : b.data.toList.length = b.size := rfl
    have hl3 : a.data.toList.length = a.size := rfl
    have hRA := replaceAll_rep a.data.toList b.data.toList s.data.toList hane
    have hcount := Lib.countB_le a ha1 _ s (Nat.le_refl _)
    have hmul : Lib.countB s a * b.size ≤ 2048 * 2048 := Nat.mul_le_mul (by omega) (by omega)
    have hmul2 : s.size * (1 + b.size) ≤ 2048 * 2049 := Nat.mul_le_mul (by omega) (by omega)
    rw [hl1, hl2] at hlen
    have RA := Lib.hid (fun m w hm => Tryd.strings_ReplaceAll s a b m w (by omega) hm ha1 (by omega))
    rw [hRA] at RA
    generalize hT : rep a.data.toList b.data.toList s.data.toList = T at *
    have HT := Lib.hid hT; clear hT
    have hTs : (⟨T.toArray⟩ : ByteArray).size = T.length := by show T.toArray.size = _; simp
    obtain ⟨t, x, hfit, hbig⟩ : ∃ t x, FitIs ⟨T.toArray⟩ t x ∧ (2048 < T.length → t = nos ∧ x = 3) := by
      by_cases q : 2048 < T.length
      · exact ⟨nos, 3, fit_big _ (by rw [hTs]; unfold maxLen; omega) (by rw [hTs]; exact q), fun _ => ⟨rfl, rfl⟩⟩
      · exact ⟨_, 0, fit_small _ (by rw [hTs]; unfold maxLen; omega) (by rw [hTs]; exact q), fun p => absurd p q⟩
    have F1 := Lib.hid hfit.1
    have F2 := Lib.hid hfit.2
    have HB := Lib.hid hbig
    have HNE := Lib.hid hane
    have LA := Lib.hid hl3
    clear hfit hbig hane hl1 hl2 hl3 hRA hcount hmul hmul2 hlen
    refine ⟨t, x, fun w hm => ?_, fun w => ?_⟩
    · have HM := Lib.hid (hm.below ((Below.refl _ _).alloc (Nat.le_refl _) (.cells #[.string s, .string a, .string b] 9))); clear hm
      go_enter Tryd.func56, Tryd.ntmps56
      go_wp2_with fail
      refine (C.out _ _ _ (by go_simp) (by go_simp) (by go_simp)).mono ?_
      rintro e w' ⟨rfl, rfl⟩
      obtain ⟨m, hm⟩ := HM.out
      go_wp2_with fail
      refine (RA.out m _ hm).mono ?_
      rintro e w2 ⟨rfl, hb2⟩
      go_wp2_with fail
      refine (F1.out _).mono ?_
      rintro e w3 ⟨rfl, hb3⟩
      have z2 := hb2.size
      simp at z2
      go_wp2
      go_ret2
      exact ⟨rfl, (((Below.refl _ _).alloc (Nat.le_refl _) _).trans (hb2.mono (by simp))).trans (hb3.mono (by omega))⟩
    · go_enter Tryd.func57, Tryd.ntmps57
      go_wp2_with fail
      refine (S'.out _).mono ?_
      rintro e w' ⟨rfl, rfl⟩
      go_wp2_with fail
      refine (A'.out _).mono ?_
      rintro e w' ⟨rfl, rfl⟩
      go_wp2_with fail
      refine (B'.out _).mono ?_
      rintro e w' ⟨rfl, rfl⟩
      go_wp2_with fail
      go_loop [8, 9] (fun v i => ∃ (o : ByteArray) (j : Nat), j ≤ s.size ∧ o.size ≤ 8192 ∧ v = .string o ∧ i = .int .i64 j ∧ Hid (o.data.toList ++ rep a.data.toList b.data.toList (s.data.toList.drop j) = T)) (fun _ i => s.size - (intOf i).toNat)
      case atStart => exact ⟨⟨#[]⟩, 0, by omega, by decide, rfl, rfl, Lib.hid (by rw [List.drop_zero]; exact HT.out)⟩
      case round =>
        obtain ⟨o, j, hj, ho, rfl, rfl, HR⟩ := hrel
        have j0 : 0 ≤ (j : Int) := by omega
        by_cases hlt : j < s.size
        · have i1 : (j : Int) < s.size := by omega
          have i2 : (j : Int) ≤ s.size := by omega
          have i3 : (j : Int) + 1 ≤ s.size := by omega
          have w1 : IntKind.i64.wrap (j + 1) = j + 1 := IntWalk.i64_in _ (by omega)
          have w2 : IntKind.i64.wrap (j + a.size) = j + a.size := IntWalk.i64_in _ (by omega)
          have hdl : (s.extract j s.size).data.toList = s.data.toList.drop j := by
            rw [ByteArray.data_extract, Array.toList_extract, List.extract_eq_take_drop, List.take_of_length_le (by rw [List.length_drop]; exact Nat.le_refl _)]
          have hbm : (s.extract j s.size).size ≤ maxLen := by unfold maxLen; simp; omega
          have B1 := Lib.hid (Begins_any (s.extract j s.size) a · hbm ma)
          rw [hdl] at B1
          have HBX := Lib.hid hbm
          clear hdl hbm
          cases hp : Lib.hasPrefix (s.data.toList.drop j) a.data.toList
          · have hr := HR.out
            rw [drop_at' s j hlt, rep_miss _ _ _ _ HNE.out (by rw [← drop_at' s j hlt]; exact hp)] at hr
            have hx : (s.extract j (j + 1)).data.toList = [s[j]] := by
              rw [part_list, drop_at' s j hlt]; rfl
            have ho2 : (o ++ s.extract j (j + 1)).data.toList ++ rep a.data.toList b.data.toList (s.data.toList.drop (j + 1)) = T := by
              rw [ByteArray.data_append, Array.toList_append, hx, List.append_assoc]; exact hr
            have hos : (o ++ s.extract j (j + 1)).size = o.size + 1 := by rw [ByteArray.size_append]; simp; omega
            have H2 := Lib.hid ho2; clear ho2 hr hx
            have HP := Lib.hid hp; clear hp
            have hxs : (s.extract j (j + 1)).size = 1 := by simp; omega
            generalize hx1 : s.extract j (j + 1) = xx at *
            generalize hq : o ++ xx = o2 at *
            by_cases big : 8192 < o.size + 1
            · have hTl : 2048 < T.length := by
                rw [← H2.out, List.length_append]
                have : o2.data.toList.length = o.size + 1 := hos
                omega
              obtain ⟨rfl, rfl⟩ := HB.out hTl
              have i9 : 8192 < (o.size : Int) + 1 := by omega
              go_wp2_with fail
              refine (B1.out _).mono ?_
              rintro e w' ⟨rfl, rfl⟩
              rw [HP.out]
              go_wp2
              go_ret2
              exact ⟨rfl, rfl⟩
            · have i9 : decide (8192 < (o2.size : Int)) = false := by rw [hos]; simp; omega
              have HOS := Lib.hid hos
              clear hos
              go_wp2_with fail
              refine (B1.out _).mono ?_
              rintro e w' ⟨rfl, rfl⟩
              rw [HP.out]
              go_wp2
              exact ⟨⟨o2, j + 1, by omega, by have := HOS.out; omega, rfl, rfl, H2⟩, by simp [intOf]; omega⟩
          · have hr := HR.out
            rw [rep_hit _ _ _ HNE.out hp, List.drop_drop, LA.out] at hr
            have hle := (List.isPrefixOf_iff_prefix.1 (show a.data.toList.isPrefixOf (s.data.toList.drop j) = true from hp)).length_le
            rw [List.length_drop, LA.out] at hle
            have hls : s.data.toList.length = s.size := rfl
            rw [hls] at hle
            have ho2 : (o ++ b).data.toList ++ rep a.data.toList b.data.toList (s.data.toList.drop (j + a.size)) = T := by
              rw [ByteArray.data_append, Array.toList_append, List.append_assoc]; exact hr
            have hos : (o ++ b).size = o.size + b.size := ByteArray.size_append
            have H2 := Lib.hid ho2; clear ho2 hr
            have HP := Lib.hid hp; clear hp hls
            by_cases big : 8192 < o.size + b.size
            · have hTl : 2048 < T.length := by
                rw [← H2.out, List.length_append]
                have : (o ++ b).data.toList.length = o.size + b.size := hos
                omega
              obtain ⟨rfl, rfl⟩ := HB.out hTl
              have i9 : 8192 < ((o ++ b).size : Int) := by rw [hos]; omega
              go_wp2_with fail
              refine (B1.out _).mono ?_
              rintro e w' ⟨rfl, rfl⟩
              rw [HP.out]
              go_wp2
              go_ret2
              exact ⟨rfl, rfl⟩
            · have i9 : ¬ 8192 < ((o ++ b).size : Int) := by rw [hos]; omega
              generalize hq : o ++ b = o2 at *
              go_wp2_with fail
              refine (B1.out _).mono ?_
              rintro e w' ⟨rfl, rfl⟩
              rw [HP.out]
              go_wp2
              exact ⟨⟨o2, j + a.size, by omega, by omega, rfl, by go_num, H2⟩, by simp [intOf]; omega⟩
        · have i1 : ¬ (j : Int) < s.size := by omega
          have hjs : j = s.size := by omega
          have hoT : o.data.toList = T := by
            rw [← HR.out, hjs, drop_all, rep_nil _ _ HNE.out, List.append_nil]
          have hoo : o = ⟨T.toArray⟩ := by
            apply ByteArray.ext; apply Array.ext'; rw [hoT]
          have HO := Lib.hid hoo; clear hoo hoT
          go_wp2_with fail
          rw [HO.out]
          refine (F2.out _).mono ?_
          rintro e w' ⟨rfl, rfl⟩
          go_wp2
          go_ret2
          exact ⟨rfl, rfl⟩
  · refine ⟨s, 0, fun w _ => ?_, fun w => ?_⟩
    · go_enter Tryd.func56, Tryd.ntmps56
      go_wp2_with fail
      refine (C.out _ _ _ (by go_simp) (by go_simp) (by go_simp)).mono ?_
      rintro e w' ⟨rfl, rfl⟩
      go_wp2
      go_ret2
      exact ⟨rfl, (Below.refl _ _).alloc (Nat.le_refl _) _⟩
    · go_enter Tryd.func57, Tryd.ntmps57
      go_wp2_with fail
      refine (S'.out _).mono ?_
      rintro e w' ⟨rfl, rfl⟩
      go_wp2_with fail
      refine (A'.out _).mono ?_
      rintro e w' ⟨rfl, rfl⟩
      go_wp2_with fail
      refine (B'.out _).mono ?_
      rintro e w' ⟨rfl, rfl⟩
      go_wp2
      go_ret2
      exact ⟨rfl, rfl⟩
end Go.Proofs.YtfgadkknfehkcaaDoor
