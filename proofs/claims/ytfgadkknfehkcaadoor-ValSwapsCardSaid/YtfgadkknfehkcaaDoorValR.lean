/- The walk of Val of the reference. -/
import Derived.Test.YtfgadkknfehkcaaDoorValN
namespace Go.Proofs.YtfgadkknfehkcaaDoor
open Go.RowKit
set_option linter.unusedVariables false

set_option maxHeartbeats 4000000 in
/-- The walk behind the blanks and a sign: from place p on. -/
theorem refVal_any (s : ByteArray) (hs : s.size ≤ 4611686018427387904) (w : World) :
    Calls Tryd.prog 33 #[.string s] w fun e w' => e = .returned (.int .i64 (valB s)) ∧ w = w' := by
  generalize hr : valB s = r
  have HR := Lib.hid hr; clear hr
  go_enter Tryd.func33, Tryd.ntmps33
  go_wp2
  go_loop [3] (fun i => ∃ k : Nat, k ≤ s.size ∧ i = .int .i64 k ∧ Hid (∀ (j : Nat) b, j < k → s.data.toList[j]? = some b → b = 32)) (fun i => s.size - (intOf i).toNat)
  case atStart => exact ⟨0, by omega, rfl, Lib.hid (fun j b h => by omega)⟩
  case round =>
    obtain ⟨k, hk, rfl, HB⟩ := hrel
    have i1 : 0 ≤ (k : Int) := by omega
    have hw : IntKind.i64.wrap (k + 1) = k + 1 := IntWalk.i64_in _ (by omega)
    by_cases hlt : k < s.size
    · have i2 : (k : Int) < s.size := by omega
      cases hb : ((s[k]'hlt).toNat : Int) == 32
      · have hne := u8_no _ 32 hb
        have ht : Lib.trimLeftB s.data.toList 32 = s.data.toList.drop k := Lib.trimLeftB_drop _ _ k hk HB.out (fun b h => by rw [byte_at s k hlt] at h; exact (Option.some.inj h) ▸ hne)
        have hv : signed (s.data.toList.drop k) = r := by rw [← ht]; exact HR.out
        rw [drop_at s k hlt] at hv
        have HV := Lib.hid hv; clear hv ht hne
        have hf : (((s[k]'hlt).toNat : Int) == 45) = true ∨ ((((s[k]'hlt).toNat : Int) == 45) = false ∧ (((s[k]'hlt).toNat : Int) == 43) = true) ∨ ((((s[k]'hlt).toNat : Int) == 45) = false ∧ (((s[k]'hlt).toNat : Int) == 43) = false) := by
          cases (((s[k]'hlt).toNat : Int) == 45) <;> cases (((s[k]'hlt).toNat : Int) == 43) <;> simp
        rcases hf with c1 | ⟨c1, c2⟩ | ⟨c1, c2⟩
        · have e45 := u8_yes _ 45 c1
          generalize hR : digs 0 (s.data.toList.drop (k + 1)) = R
          have HR0 := Lib.hid hR
          have HF : Hid (-R = r) := Lib.hid (by rw [← HV.out]; simp only [signed]; rw [if_pos e45, hR])
          clear hR e45 HV
          go_wp2_with fail
          go_loop [3, 5] (fun i v => ∃ (j : Nat) (a : Int), j ≤ s.size ∧ 0 ≤ a ∧ a ≤ 1000000000000000 ∧ i = .int .i64 j ∧ v = .int .i64 a ∧ Hid (digs a (s.data.toList.drop j) = R)) (fun i _ => s.size - (intOf i).toNat)
          case atStart => exact ⟨k + 1, 0, by omega, by omega, by omega, rfl, rfl, HR0⟩
          case round =>
            obtain ⟨j, a, hj, a0, a1, rfl, rfl, HD⟩ := hrel
            have j1 : 0 ≤ (j : Int) := by omega
            have hneg : IntKind.i64.wrap (-a) = -a := IntWalk.i64_in _ (by omega)
            by_cases hlt : j < s.size
            · have j2 : (j : Int) < s.size := by omega
              have hd := HD.out
              rw [drop_at s j hlt] at hd
              have hw : IntKind.i64.wrap (j + 1) = j + 1 := IntWalk.i64_in _ (by omega)
              cases hb : isD (s[j]'hlt).toNat
              · have ha : a = R := by rw [← hd]; simp only [digs]; rw [if_neg (by rw [hb]; decide)]
                have HA := Lib.hid ha; clear ha hd
                have HB := Lib.hid hb; clear hb
                go_wp2_with fail
                refine (refIsDigit_any _ _).mono ?_
                rintro e w' ⟨rfl, rfl⟩
                rw [HB.out]
                go_wp2_with fail
                go_ret
                exact ⟨by rw [← HF.out, ← HA.out]; rfl, rfl⟩
              · have hr2 : digs (min (a * 10 + (((s[j]'hlt).toNat : Int) - 48)) 1000000000000000) (s.data.toList.drop (j + 1)) = R := by
                  rw [← hd]; simp only [digs]; rw [if_pos hb]
                have hbb : 48 ≤ ((s[j]'hlt).toNat : Int) ∧ ((s[j]'hlt).toNat : Int) ≤ 57 := by simpa [isD] using hb
                have H2 := Lib.hid hr2; clear hr2 hd
                have HB := Lib.hid hb; clear hb
                generalize hc : ((s[j]'hlt).toNat : Int) = c at *
                have HC := Lib.hid hc
                have w1 : IntKind.u8.wrap (c - 48) = c - 48 := IntWalk.u8_in _ (by omega)
                have w2 : IntKind.i64.wrap (c - 48) = c - 48 := IntWalk.i64_in _ (by omega)
                have w3 : IntKind.i64.wrap (10 * a) = 10 * a := IntWalk.i64_in _ (by omega)
                have w4 : IntKind.i64.wrap (10 * a + (c - 48)) = 10 * a + (c - 48) := IntWalk.i64_in _ (by omega)
                go_wp2_with fail
                refine (refIsDigit_any _ _).mono ?_
                rintro e w' ⟨rfl, rfl⟩
                rw [HB.out]
                go_wp2_with fail
                refine ⟨⟨j + 1, _, by omega, ?_, ?_, rfl, rfl, ?_⟩, by simp [intOf]; omega⟩
                · omega
                · omega
                · exact Lib.hid (by rw [Int.mul_comm 10 a]; exact H2.out)
            · have hju : j = s.size := by omega
              have ha : a = R := by rw [← HD.out, hju, drop_all]; rfl
              have HA := Lib.hid ha; clear ha
              have j2 : ¬ (j : Int) < s.size := by omega
              go_wp2_with fail
              go_ret
              exact ⟨by rw [← HF.out, ← HA.out]; rfl, rfl⟩
        · have e45 := u8_no _ 45 c1
          have e43 := u8_yes _ 43 c2
          generalize hR : digs 0 (s.data.toList.drop (k + 1)) = R
          have HR0 := Lib.hid hR
          have HF : Hid (R = r) := Lib.hid (by rw [← HV.out]; simp only [signed]; rw [if_neg e45, if_pos e43, hR])
          clear hR e45 e43 HV
          go_wp2_with fail
          go_loop [3, 5] (fun i v => ∃ (j : Nat) (a : Int), j ≤ s.size ∧ 0 ≤ a ∧ a ≤ 1000000000000000 ∧ i = .int .i64 j ∧ v = .int .i64 a ∧ Hid (digs a (s.data.toList.drop j) = R)) (fun i _ => s.size - (intOf i).toNat)
          case atStart => exact ⟨k + 1, 0, by omega, by omega, by omega, rfl, rfl, HR0⟩
          case round =>
            obtain ⟨j, a, hj, a0, a1, rfl, rfl, HD⟩ := hrel
            have j1 : 0 ≤ (j : Int) := by omega
            have hneg : IntKind.i64.wrap (-a) = -a := IntWalk.i64_in _ (by omega)
            by_cases hlt : j < s.size
            · have j2 : (j : Int) < s.size := by omega
              have hd := HD.out
              rw [drop_at s j hlt] at hd
              have hw : IntKind.i64.wrap (j + 1) = j + 1 := IntWalk.i64_in _ (by omega)
              cases hb : isD (s[j]'hlt).toNat
              · have ha : a = R := by rw [← hd]; simp only [digs]; rw [if_neg (by rw [hb]; decide)]
                have HA := Lib.hid ha; clear ha hd
                have HB := Lib.hid hb; clear hb
                go_wp2_with fail
                refine (refIsDigit_any _ _).mono ?_
                rintro e w' ⟨rfl, rfl⟩
                rw [HB.out]
                go_wp2_with fail
                go_ret
                exact ⟨by rw [← HF.out, ← HA.out]; rfl, rfl⟩
              · have hr2 : digs (min (a * 10 + (((s[j]'hlt).toNat : Int) - 48)) 1000000000000000) (s.data.toList.drop (j + 1)) = R := by
                  rw [← hd]; simp only [digs]; rw [if_pos hb]
                have hbb : 48 ≤ ((s[j]'hlt).toNat : Int) ∧ ((s[j]'hlt).toNat : Int) ≤ 57 := by simpa [isD] using hb
                have H2 := Lib.hid hr2; clear hr2 hd
                have HB := Lib.hid hb; clear hb
                generalize hc : ((s[j]'hlt).toNat : Int) = c at *
                have HC := Lib.hid hc
                have w1 : IntKind.u8.wrap (c - 48) = c - 48 := IntWalk.u8_in _ (by omega)
                have w2 : IntKind.i64.wrap (c - 48) = c - 48 := IntWalk.i64_in _ (by omega)
                have w3 : IntKind.i64.wrap (10 * a) = 10 * a := IntWalk.i64_in _ (by omega)
                have w4 : IntKind.i64.wrap (10 * a + (c - 48)) = 10 * a + (c - 48) := IntWalk.i64_in _ (by omega)
                go_wp2_with fail
                refine (refIsDigit_any _ _).mono ?_
                rintro e w' ⟨rfl, rfl⟩
                rw [HB.out]
                go_wp2_with fail
                refine ⟨⟨j + 1, _, by omega, ?_, ?_, rfl, rfl, ?_⟩, by simp [intOf]; omega⟩
                · omega
                · omega
                · exact Lib.hid (by rw [Int.mul_comm 10 a]; exact H2.out)
            · have hju : j = s.size := by omega
              have ha : a = R := by rw [← HD.out, hju, drop_all]; rfl
              have HA := Lib.hid ha; clear ha
              have j2 : ¬ (j : Int) < s.size := by omega
              go_wp2_with fail
              go_ret
              exact ⟨by rw [← HF.out, ← HA.out]; rfl, rfl⟩
        · have e45 := u8_no _ 45 c1
          have e43 := u8_no _ 43 c2
          generalize hR : digs 0 (s.data.toList.drop k) = R
          have HR0 := Lib.hid hR
          have HF : Hid (R = r) := Lib.hid (by rw [← HV.out]; simp only [signed]; rw [if_neg e45, if_neg e43, ← drop_at s k hlt, hR])
          clear hR e45 e43 HV
          go_wp2_with fail
          go_loop [3, 5] (fun i v => ∃ (j : Nat) (a : Int), j ≤ s.size ∧ 0 ≤ a ∧ a ≤ 1000000000000000 ∧ i = .int .i64 j ∧ v = .int .i64 a ∧ Hid (digs a (s.data.toList.drop j) = R)) (fun i _ => s.size - (intOf i).toNat)
          case atStart => exact ⟨k, 0, by omega, by omega, by omega, rfl, rfl, HR0⟩
          case round =>
            obtain ⟨j, a, hj, a0, a1, rfl, rfl, HD⟩ := hrel
            have j1 : 0 ≤ (j : Int) := by omega
            have hneg : IntKind.i64.wrap (-a) = -a := IntWalk.i64_in _ (by omega)
            by_cases hlt : j < s.size
            · have j2 : (j : Int) < s.size := by omega
              have hd := HD.out
              rw [drop_at s j hlt] at hd
              have hw : IntKind.i64.wrap (j + 1) = j + 1 := IntWalk.i64_in _ (by omega)
              cases hb : isD (s[j]'hlt).toNat
              · have ha : a = R := by rw [← hd]; simp only [digs]; rw [if_neg (by rw [hb]; decide)]
                have HA := Lib.hid ha; clear ha hd
                have HB := Lib.hid hb; clear hb
                go_wp2_with fail
                refine (refIsDigit_any _ _).mono ?_
                rintro e w' ⟨rfl, rfl⟩
                rw [HB.out]
                go_wp2_with fail
                go_ret
                exact ⟨by rw [← HF.out, ← HA.out]; rfl, rfl⟩
              · have hr2 : digs (min (a * 10 + (((s[j]'hlt).toNat : Int) - 48)) 1000000000000000) (s.data.toList.drop (j + 1)) = R := by
                  rw [← hd]; simp only [digs]; rw [if_pos hb]
                have hbb : 48 ≤ ((s[j]'hlt).toNat : Int) ∧ ((s[j]'hlt).toNat : Int) ≤ 57 := by simpa [isD] using hb
                have H2 := Lib.hid hr2; clear hr2 hd
                have HB := Lib.hid hb; clear hb
                generalize hc : ((s[j]'hlt).toNat : Int) = c at *
                have HC := Lib.hid hc
                have w1 : IntKind.u8.wrap (c - 48) = c - 48 := IntWalk.u8_in _ (by omega)
                have w2 : IntKind.i64.wrap (c - 48) = c - 48 := IntWalk.i64_in _ (by omega)
                have w3 : IntKind.i64.wrap (10 * a) = 10 * a := IntWalk.i64_in _ (by omega)
                have w4 : IntKind.i64.wrap (10 * a + (c - 48)) = 10 * a + (c - 48) := IntWalk.i64_in _ (by omega)
                go_wp2_with fail
                refine (refIsDigit_any _ _).mono ?_
                rintro e w' ⟨rfl, rfl⟩
                rw [HB.out]
                go_wp2_with fail
                refine ⟨⟨j + 1, _, by omega, ?_, ?_, rfl, rfl, ?_⟩, by simp [intOf]; omega⟩
                · omega
                · omega
                · exact Lib.hid (by rw [Int.mul_comm 10 a]; exact H2.out)
            · have hju : j = s.size := by omega
              have ha : a = R := by rw [← HD.out, hju, drop_all]; rfl
              have HA := Lib.hid ha; clear ha
              have j2 : ¬ (j : Int) < s.size := by omega
              go_wp2_with fail
              go_ret
              exact ⟨by rw [← HF.out, ← HA.out]; rfl, rfl⟩
      · have he := u8_yes _ 32 hb
        go_wp2_with fail
        refine ⟨⟨k + 1, by omega, rfl, Lib.hid (fun j b h1 h2 => ?_)⟩, by simp [intOf]; omega⟩
        rcases Nat.lt_or_ge j k with q | q
        · exact HB.out j b q h2
        · have : j = k := by omega
          subst this
          rw [byte_at s j hlt] at h2
          exact (Option.some.inj h2) ▸ he
    · have hks : k = s.size := by omega
      have i2 : ¬ (k : Int) < s.size := by omega
      have ht : Lib.trimLeftB s.data.toList 32 = s.data.toList.drop k := Lib.trimLeftB_drop _ _ k hk HB.out (fun b h => by
        have := (List.getElem?_eq_some_iff.1 h).1; exact absurd this (by have : s.data.toList.length = s.size := rfl; omega))
      have hv : r = 0 := by rw [← HR.out]; unfold valB; rw [ht, hks, drop_all]; rfl
      have h00 : digs 0 (s.data.toList.drop k) = 0 := by rw [hks, drop_all]; rfl
      generalize hR : digs 0 (s.data.toList.drop k) = R at h00
      have HR0 := Lib.hid hR
      have HF : Hid (R = r) := Lib.hid (by rw [h00, hv])
      have HKS := Lib.hid hks
      clear hv ht hR hks h00
      go_wp2_with fail
      go_loop [3, 5] (fun i v => ∃ (j : Nat) (a : Int), j ≤ s.size ∧ 0 ≤ a ∧ a ≤ 1000000000000000 ∧ i = .int .i64 j ∧ v = .int .i64 a ∧ Hid (digs a (s.data.toList.drop j) = R)) (fun i _ => s.size - (intOf i).toNat)
      case atStart => exact ⟨k, 0, by omega, by omega, by omega, rfl, rfl, HR0⟩
      case round =>
        obtain ⟨j, a, hj, a0, a1, rfl, rfl, HD⟩ := hrel
        have j1 : 0 ≤ (j : Int) := by omega
        have hneg : IntKind.i64.wrap (-a) = -a := IntWalk.i64_in _ (by omega)
        by_cases hlt : j < s.size
        · have j2 : (j : Int) < s.size := by omega
          have hd := HD.out
          rw [drop_at s j hlt] at hd
          have hw : IntKind.i64.wrap (j + 1) = j + 1 := IntWalk.i64_in _ (by omega)
          cases hb : isD (s[j]'hlt).toNat
          · have ha : a = R := by rw [← hd]; simp only [digs]; rw [if_neg (by rw [hb]; decide)]
            have HA := Lib.hid ha; clear ha hd
            have HB := Lib.hid hb; clear hb
            go_wp2_with fail
            refine (refIsDigit_any _ _).mono ?_
            rintro e w' ⟨rfl, rfl⟩
            rw [HB.out]
            go_wp2_with fail
            go_ret
            exact ⟨by rw [← HF.out, ← HA.out]; rfl, rfl⟩
          · have hr2 : digs (min (a * 10 + (((s[j]'hlt).toNat : Int) - 48)) 1000000000000000) (s.data.toList.drop (j + 1)) = R := by
              rw [← hd]; simp only [digs]; rw [if_pos hb]
            have hbb : 48 ≤ ((s[j]'hlt).toNat : Int) ∧ ((s[j]'hlt).toNat : Int) ≤ 57 := by simpa [isD] using hb
            have H2 := Lib.hid hr2; clear hr2 hd
            have HB := Lib.hid hb; clear hb
            generalize hc : ((s[j]'hlt).toNat : Int) = c at *
            have HC := Lib.hid hc
            have w1 : IntKind.u8.wrap (c - 48) = c - 48 := IntWalk.u8_in _ (by omega)
            have w2 : IntKind.i64.wrap (c - 48) = c - 48 := IntWalk.i64_in _ (by omega)
            have w3 : IntKind.i64.wrap (10 * a) = 10 * a := IntWalk.i64_in _ (by omega)
            have w4 : IntKind.i64.wrap (10 * a + (c - 48)) = 10 * a + (c - 48) := IntWalk.i64_in _ (by omega)
            go_wp2_with fail
            refine (refIsDigit_any _ _).mono ?_
            rintro e w' ⟨rfl, rfl⟩
            rw [HB.out]
            go_wp2_with fail
            refine ⟨⟨j + 1, _, by omega, ?_, ?_, rfl, rfl, ?_⟩, by simp [intOf]; omega⟩
            · omega
            · omega
            · exact Lib.hid (by rw [Int.mul_comm 10 a]; exact H2.out)
        · have hju : j = s.size := by omega
          have ha : a = R := by rw [← HD.out, hju, drop_all]; rfl
          have HA := Lib.hid ha; clear ha
          have j2 : ¬ (j : Int) < s.size := by omega
          go_wp2_with fail
          go_ret
          exact ⟨by rw [← HF.out, ← HA.out]; rfl, rfl⟩
end Go.Proofs.YtfgadkknfehkcaaDoor
