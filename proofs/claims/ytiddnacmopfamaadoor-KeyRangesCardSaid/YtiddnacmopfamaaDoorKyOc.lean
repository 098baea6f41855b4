/- The walk of KeyOrders. -/
import Derived.Test.YtiddnacmopfamaaDoorKyOb
namespace Go.Proofs.YtiddnacmopfamaaDoor
open Go.RowKit
set_option linter.unusedVariables false
set_option linter.unusedSimpArgs false
set_option maxRecDepth 40000

theorem box_two (w : World) (k n : Int) (s : ByteArray) (k' n' : Int) (s' : ByteArray) :
    let wb := ((w.alloc (.cells #[.int .i64 k, .int .i64 n, .string s] 23)).alloc (.cells #[.int .i64 k', .int .i64 n', .string s'] 23))
    VW wb w.heap.size k n s ∧ VW wb (w.heap.size + 1) k' n' s' ∧ Below w.heap.size w wb := by
  intro wb
  have hz1 : (w.alloc (.cells #[.int .i64 k, .int .i64 n, .string s] 23)).heap.size = w.heap.size + 1 := by simp
  have h1 := VW.new w k n s 23
  have h2 := VW.new (w.alloc (.cells #[.int .i64 k, .int .i64 n, .string s] 23)) k' n' s' 23
  have b2 := Below.of_alloc (w.alloc (.cells #[.int .i64 k, .int .i64 n, .string s] 23)) (.cells #[.int .i64 k', .int .i64 n', .string s'] 23) _ (Nat.le_refl _)
  have h1' := h1.below b2 h1.1.2.2.2
  rw [hz1] at h2
  exact ⟨h1', h2, ((Below.refl _ _).alloc (Nat.le_refl _) _).alloc (by simp) _⟩
theorem wv_pg (k n : Int) (s : ByteArray) (m : Int) : wvE k n s (pgN m) (clN m) = vE k n s := by
  obtain ⟨h1, h2⟩ := pg_lt m
  unfold wvE
  have hp : wpE (pgN m) (clN m) = 0 := by unfold wpE; rw [if_pos (by omega)]
  rw [hp]
  by_cases h : vE k n s = 0
  · rw [if_pos h, h]
  · rw [if_neg h]
theorem cmpI_bd (a b : Int) : -1 ≤ cmpI a b ∧ cmpI a b ≤ 1 := by
  unfold cmpI
  by_cases h1 : a < b
  · rw [if_pos h1]; omega
  · rw [if_neg h1]
    by_cases h2 : b < a
    · rw [if_pos h2]; omega
    · rw [if_neg h2]; omega
theorem cmpB_bd : ∀ (a b : List UInt8), -1 ≤ Lib.compareBytes a b ∧ Lib.compareBytes a b ≤ 1
  | [], [] => by simp [Lib.compareBytes]
  | [], _ :: _ => by simp [Lib.compareBytes]
  | _ :: _, [] => by simp [Lib.compareBytes]
  | a :: xs, b :: ys => by
    rw [Lib.compareBytes]
    split
    · omega
    · split
      · omega
      · exact cmpB_bd xs ys
theorem ord_first (sa sb : ByteArray) (p c : Nat) (hp : p < 3) (hc : c < 2) : ordI (fstS sa) (fstS sb) p c = Lib.compareBytes (wei48 p c sa) (wei48 p c sb) ∧ wrongN p c [fstS sa, fstS sb] = 0 := by
  have hz := fst_size sa
  have hz2 := fst_size sb
  have h : wrongN p c [fstS sa, fstS sb] = 0 := by
    unfold wrongN
    rw [if_neg (by simp; omega), if_pos (by omega)]
  refine ⟨?_, h⟩
  unfold ordI
  rw [if_pos h, Int.toNat_natCast, Int.toNat_natCast, fst_wb, fst_wb]

set_option maxHeartbeats 32000000 in
theorem keyOrders_any (ka na : Int) (sa : ByteArray) (kb nb : Int) (sb : ByteArray) (m : Int) (w : World) (he : Env w) (hsa : sa.size ≤ 140737488355328) (hsb : sb.size ≤ 140737488355328) (hm : -9223372036854775808 ≤ m ∧ m ≤ 9223372036854775807) :
    Calls Tryd.prog 6 #[vv ka na sa, vv kb nb sb, .int .i64 m] w fun e w' => e = .returned (.bool true) ∧ Below w.heap.size w w' := by
  have hbox := box_two w ka na sa kb nb sb
  simp only at hbox
  have HEW := Lib.hid he
  have HE := Lib.hid (he.below hbox.2.2 (Nat.le_refl _)); clear he
  have HBX := Lib.hid hbox; clear hbox
  have C0 := Lib.hid (fun W h => known_any W h)
  obtain ⟨wb, hwb⟩ : ∃ wb, wb = ((w.alloc (.cells #[.int .i64 ka, .int .i64 na, .string sa] 23)).alloc (.cells #[.int .i64 kb, .int .i64 nb, .string sb] 23)) := ⟨_, rfl⟩
  rw [← hwb] at HBX HE
  have hbx : Below wb.heap.size wb (wb.alloc (.cells #[.int .i64 ka, .int .i64 na, .string sa, .int .i64 kb, .int .i64 nb, .string sb] 23)) := (Below.refl _ _).alloc (Nat.le_refl _) _
  have HA1 := Lib.hid (HBX.out.1.below hbx HBX.out.1.1.2.2.2)
  have HD1 := Lib.hid (HBX.out.2.1.below hbx HBX.out.2.1.1.2.2.2)
  have HE1 := Lib.hid (HE.out.below hbx (Nat.le_refl _))
  have HB1 := Lib.hid (HBX.out.2.2.trans (hbx.mono HBX.out.2.2.size))
  have HZB : Hid (wb.heap.size = w.heap.size + 1 + 1) := Lib.hid (by rw [hwb]; simp)
  have HOV : Hid (Calls Tryd.prog 14 #[.slice (some ⟨w.heap.size + 1 + 1, 0, none⟩) 2 2] (wb.alloc (.cells #[.int .i64 ka, .int .i64 na, .string sa, .int .i64 kb, .int .i64 nb, .string sb] 23)) fun e w' => e = .returned (.bool (ovB [sa, sb])) ∧ (wb.alloc (.cells #[.int .i64 ka, .int .i64 na, .string sa, .int .i64 kb, .int .i64 nb, .string sb] 23)) = w') := Lib.hid (by
    rw [← HZB.out]
    refine over_any [sa, sb] wb.heap.size 2 _ (by simp) (by simp [hsa, hsb]) (fun j hj => ?_)
    have hj2 : j = 0 ∨ j = 1 := by simp at hj; omega
    rcases hj2 with rfl | rfl <;> simp)
  clear hbx
  obtain ⟨⟨v0, v1, v2, _⟩, _⟩ := HBX.out.1
  obtain ⟨⟨u0, u1, u2, _⟩, _⟩ := HBX.out.2.1
  cases hov : ovB [sa, sb]
  · have hz : sa.size ≤ 40000 ∧ sb.size ≤ 40000 := by
      unfold ovB sumS at hov
      simp at hov
      omega
    obtain ⟨hza, hzb⟩ := hz
    rw [hov] at HOV
    have CP := Lib.hid (fun W => page_any m W)
    obtain ⟨hp3, hc2⟩ := pg_lt m
    have hva := wv_pg ka na sa m
    have hvb := wv_pg kb nb sb m
    have HKA : Hid (∀ d, vE ka na sa = 0 → keyT ka na sa (pgN m) (clN m) d = turnS d (encS ka na sa (pgN m) (clN m))) := Lib.hid (fun d h => by unfold keyT; rw [hva, if_pos h, Int.toNat_natCast, Int.toNat_natCast])
    have HKB : Hid (∀ d, vE kb nb sb = 0 → keyT kb nb sb (pgN m) (clN m) d = turnS d (encS kb nb sb (pgN m) (clN m))) := Lib.hid (fun d h => by unfold keyT; rw [hvb, if_pos h, Int.toNat_natCast, Int.toNat_natCast])
    generalize pgN m = p at *
    generalize clN m = c at *
    have EA := Lib.hid (fun d W h => Encode_any ka na sa p c d W h (by omega))
    have EB := Lib.hid (fun d W h => Encode_any kb nb sb p c d W h (by omega))
    rw [hva] at EA
    rw [hvb] at EB
    clear hva hvb hov
    have HPC := Lib.hid (And.intro hp3 hc2)
    by_cases hea : vE ka na sa = 0
    · by_cases heb : vE kb nb sb = 0
      · have HKA0 := Lib.hid (HKA.out false hea)
        have HKA1 := Lib.hid (HKA.out true hea)
        have HKB0 := Lib.hid (HKB.out false heb)
        have HKB1 := Lib.hid (HKB.out true heb)
        have HVA := Lib.hid hea
        have HVB := Lib.hid heb
        rw [hea] at EA
        rw [heb] at EB
        clear hea heb
        have EAf := Lib.hid (EA.out false)
        have EAt := Lib.hid (EA.out true)
        have EBf := Lib.hid (EB.out false)
        have EBt := Lib.hid (EB.out true)
        clear EA EB
        have HF := Lib.hid (fun W => first_any sa W (by omega))
        have HG := Lib.hid (fun W => first_any sb W (by omega))
        have HFV := Lib.hid (fst_valid HVA.out)
        have HGV := Lib.hid (fst_valid HVB.out)
        have HFZ := Lib.hid (fst_size sa)
        have HGZ := Lib.hid (fst_size sb)
        have HOF := Lib.hid (ord_first sa sb p c hp3 hc2)
        have HOK := Lib.hid (fun h => ord_keys p c HVA.out HVB.out h)
        rw [← HKA0.out, ← HKA1.out, ← HKB0.out, ← HKB1.out] at HOK
        have HXS : Hid (∀ k n s d, vE k n s = 0 → (keyT k n s p c d).size ≤ 200000) := Lib.hid (fun k n s d h => key_size k n s p c d h)
        have XS1 := Lib.hid (HXS.out ka na sa false HVA.out)
        have XS2 := Lib.hid (HXS.out kb nb sb false HVB.out)
        have XS3 := Lib.hid (HXS.out ka na sa true HVA.out)
        have XS4 := Lib.hid (HXS.out kb nb sb true HVB.out)
        clear HXS HKA HKB HKA0 HKA1 HKB0 HKB1
        generalize keyT ka na sa p c false = xa at *
        generalize keyT kb nb sb p c false = xb at *
        generalize keyT ka na sa p c true = ya at *
        generalize keyT kb nb sb p c true = yb at *
        have HWV : Hid (wantV ka na sa kb nb sb p c = if ka = 0 ∨ kb = 0 then cmpI (min ka 1) (min kb 1) else if ka = 4 then Lib.compareBytes (wei48 p c sa) (wei48 p c sb) else cmpI na nb) := Lib.hid rfl
        generalize wantV ka na sa kb nb sb p c = V at *
        generalize fstS sa = fa at *
        generalize fstS sb = fb at *
        subst hwb
        go_enter Tryd.func6, Tryd.ntmps6
        go_wp2_with fail
        generalize hwb : ((w.alloc (.cells #[.int .i64 ka, .int .i64 na, .string sa] 23)).alloc (.cells #[.int .i64 kb, .int .i64 nb, .string sb] 23)) = wb at *
        refine (HOV.out).mono ?_
        rintro e w1 ⟨rfl, rfl⟩
        clear v0 v1 v2 u0 u1 u2 hwb
        generalize wb.alloc (.cells #[.int .i64 ka, .int .i64 na, .string sa, .int .i64 kb, .int .i64 nb, .string sb] 23) = w1 at *
        obtain ⟨⟨v0, v1, v2, _⟩, _⟩ := HA1.out
        obtain ⟨⟨u0, u1, u2, _⟩, _⟩ := HD1.out
        go_wp2_with fail
        refine (CP.out _).mono ?_
        rintro e wq ⟨rfl, rfl⟩
        go_wp2_with fail
        refine (EAf.out _ HE1.out).mono ?_
        rintro e w2 ⟨rfl, hb2⟩
        have HA2 := Lib.hid (HA1.out.below hb2 HA1.out.1.2.2.2)
        have HD2 := Lib.hid (HD1.out.below hb2 HD1.out.1.2.2.2)
        have HE2 := Lib.hid (HE1.out.below hb2 (Nat.le_refl _))
        have HB2 := Lib.hid (HB1.out.trans (hb2.mono HB1.out.size))
        clear hb2
        clear v0 v1 v2 u0 u1 u2
        obtain ⟨⟨v0, v1, v2, _⟩, _⟩ := HA2.out
        obtain ⟨⟨u0, u1, u2, _⟩, _⟩ := HD2.out
        go_wp2_with fail
        refine (EBf.out _ HE2.out).mono ?_
        rintro e w3 ⟨rfl, hb3⟩
        have HA3 := Lib.hid (HA2.out.below hb3 HA2.out.1.2.2.2)
        have HD3 := Lib.hid (HD2.out.below hb3 HD2.out.1.2.2.2)
        have HE3 := Lib.hid (HE2.out.below hb3 (Nat.le_refl _))
        have HB3 := Lib.hid (HB2.out.trans (hb3.mono HB2.out.size))
        clear hb3
        clear v0 v1 v2 u0 u1 u2
        obtain ⟨⟨v0, v1, v2, _⟩, _⟩ := HA3.out
        obtain ⟨⟨u0, u1, u2, _⟩, _⟩ := HD3.out
        go_wp2_with fail
        refine (EAt.out _ HE3.out).mono ?_
        rintro e w4 ⟨rfl, hb4⟩
        have HA4 := Lib.hid (HA3.out.below hb4 HA3.out.1.2.2.2)
        have HD4 := Lib.hid (HD3.out.below hb4 HD3.out.1.2.2.2)
        have HE4 := Lib.hid (HE3.out.below hb4 (Nat.le_refl _))
        have HB4 := Lib.hid (HB3.out.trans (hb4.mono HB3.out.size))
        clear hb4
        clear v0 v1 v2 u0 u1 u2
        obtain ⟨⟨v0, v1, v2, _⟩, _⟩ := HA4.out
        obtain ⟨⟨u0, u1, u2, _⟩, _⟩ := HD4.out
        go_wp2_with fail
        refine (EBt.out _ HE4.out).mono ?_
        rintro e w5 ⟨rfl, hb5⟩
        have HA5 := Lib.hid (HA4.out.below hb5 HA4.out.1.2.2.2)
        have HD5 := Lib.hid (HD4.out.below hb5 HD4.out.1.2.2.2)
        have HE5 := Lib.hid (HE4.out.below hb5 (Nat.le_refl _))
        have HB5 := Lib.hid (HB4.out.trans (hb5.mono HB4.out.size))
        clear hb5
        clear v0 v1 v2 u0 u1 u2
        obtain ⟨⟨v0, v1, v2, _⟩, _⟩ := HA5.out
        obtain ⟨⟨u0, u1, u2, _⟩, _⟩ := HD5.out
        go_wp2_with fail
        skip
        have hne : w.heap.size ≠ w.heap.size + 1 := by omega
        have hne' : w.heap.size + 1 ≠ w.heap.size := by omega
        go_cut [] from 72 (fun wc => VW wc w.heap.size ka na fa ∧ VW wc (w.heap.size + 1) kb nb fb ∧ Below w.heap.size w wc)
        case first =>
          go_region_with (first | (go_at_call 23; (with_reducible refine (HF.out _).mono ?_); rintro e w8 ⟨rfl, rfl⟩) | (go_at_call 23; (with_reducible refine (HG.out _).mono ?_); rintro e w8 ⟨rfl, rfl⟩))
          all_goals
            go_wp2_with fail
            go_meet
            case rel =>
              refine ⟨?_, ?_, ?_⟩
              · repeat (first | (with_reducible exact HA5.out) | (with_reducible refine VW.drew ?_) | (with_reducible refine VW.other ?_ _ _ _ hne) | (with_reducible refine VW.set (s := sa) ?_ _))
              · repeat (first | (with_reducible exact HD5.out) | (with_reducible refine VW.drew ?_) | (with_reducible refine VW.other ?_ _ _ _ hne') | (with_reducible refine VW.set (s := sb) ?_ _))
              · repeat (first | (with_reducible exact HB5.out) | (with_reducible refine Below.drew ?_) | (with_reducible refine Below.setCell ?_ (by first | exact Nat.le_refl _ | exact Nat.le_succ _ | (simp; done) | omega) _))
        case rest =>
          obtain ⟨ha9, hd9, hb9⟩ := hcut
          have HA9 := Lib.hid ha9
          have HD9 := Lib.hid hd9
          have HB9 := Lib.hid hb9
          clear ha9 hd9 hb9
          have CC := Lib.hid (fun W => refCompare_any ka na fa kb nb fb W (by have := HFZ.out; unfold maxLen; omega) (by have := HGZ.out; unfold maxLen; omega))
          have HBO : Hid (bothE ka na fa kb nb fb = 0) := Lib.hid (by unfold bothE; rw [if_pos HFV.out, HGV.out])
          have HR2 : Hid (cmpE ka na fa kb nb fb = if ka = kb ∧ ka ≠ 0 then 0 else 6) := Lib.hid (by unfold cmpE; rw [if_pos HBO.out])
          have HR1 : Hid (ka = kb → ka ≠ 0 → ka ≠ 4 → cmpR ka na fa kb nb fb = cmpI na nb) := Lib.hid (fun h1 h2 h3 => by unfold cmpR; rw [if_pos ⟨HBO.out, h1, h2⟩, if_neg h3])
          generalize cmpR ka na fa kb nb fb = r1 at *
          generalize cmpE ka na fa kb nb fb = r2 at *
          have CI := Lib.hid (fun a b W => cmpInts_any a b W)
          by_cases hN : ka = 0 ∨ kb = 0
          · have HV : Hid (cmpI (min ka 1) (min kb 1) = V) := Lib.hid (by rw [HWV.out, if_pos hN])
            obtain ⟨ok1, ok2⟩ := HOK.out (by omega)
            have hV := cmpB_bd xa.data.toList xb.data.toList
            rw [ok1] at hV
            have CT1 := Lib.hid (fun W => cmpTexts_any xa xb W (by have := XS1.out; unfold maxLen; omega) (by have := XS2.out; unfold maxLen; omega))
            have CT2 := Lib.hid (fun W => cmpTexts_any ya yb W (by have := XS3.out; unfold maxLen; omega) (by have := XS4.out; unfold maxLen; omega))
            rw [ok1] at CT1
            rw [ok2] at CT2
            obtain ⟨hV1, hV2⟩ := hV
            clear ok1 ok2
            have hz : (ka == 0) = true ∨ ((ka == 0) = false ∧ (kb == 0) = true) := by
              by_cases e : ka = 0
              · left; simpa using e
              · right; exact ⟨by simpa using e, by simpa using hN.resolve_left e⟩
            clear hN
            rcases hz with hz | ⟨hz, hz2⟩
            all_goals
              obtain ⟨⟨v0, v1, v2, _⟩, _⟩ := HA9.out
              obtain ⟨⟨u0, u1, u2, _⟩, _⟩ := HD9.out
              go_wp2_with fail
              refine (CC.out _).mono ?_
              rintro e wA ⟨rfl, hbA⟩
              have HAA := Lib.hid (HA9.out.below hbA HA9.out.1.2.2.2)
              have HDA := Lib.hid (HD9.out.below hbA HD9.out.1.2.2.2)
              have HBA := Lib.hid (HB9.out.trans (hbA.mono HB9.out.size))
              clear hbA
              clear v0 v1 v2 u0 u1 u2
              obtain ⟨⟨v0, v1, v2, _⟩, _⟩ := HAA.out
              obtain ⟨⟨u0, u1, u2, _⟩, _⟩ := HDA.out
              go_wp2_with fail
              refine (CI.out _ _ _).mono ?_
              rintro e wB ⟨rfl, rfl⟩
              rw [HV.out]
              go_wp2_with fail
              refine (CT1.out _).mono ?_
              rintro e wP ⟨rfl, hbP⟩
              have HAP := Lib.hid (HAA.out.below hbP HAA.out.1.2.2.2)
              have HDP := Lib.hid (HDA.out.below hbP HDA.out.1.2.2.2)
              have HBP := Lib.hid (HBA.out.trans (hbP.mono HBA.out.size))
              clear hbP
              clear v0 v1 v2 u0 u1 u2
              obtain ⟨⟨v0, v1, v2, _⟩, _⟩ := HAP.out
              obtain ⟨⟨u0, u1, u2, _⟩, _⟩ := HDP.out
              go_wp2_with fail
              refine (CT2.out _).mono ?_
              rintro e wQ ⟨rfl, hbQ⟩
              have HAQ := Lib.hid (HAP.out.below hbQ HAP.out.1.2.2.2)
              have HDQ := Lib.hid (HDP.out.below hbQ HDP.out.1.2.2.2)
              have HBQ := Lib.hid (HBP.out.trans (hbQ.mono HBP.out.size))
              clear hbQ
              clear v0 v1 v2 u0 u1 u2
              obtain ⟨⟨v0, v1, v2, _⟩, _⟩ := HAQ.out
              obtain ⟨⟨u0, u1, u2, _⟩, _⟩ := HDQ.out
              go_wp2_with fail
              have HEQ := Lib.hid (HEW.out.below HBQ.out (Nat.le_refl _))
              refine (C0.out _ HEQ.out).mono ?_
              rintro e wz ⟨rfl, hbz⟩
              have HBZ := Lib.hid (HBQ.out.trans (hbz.mono HBQ.out.size)); clear hbz
              go_wp2_with fail
              go_ret
              exact ⟨rfl, HBZ.out⟩
          · have z1 : (ka == 0) = false := by simpa using fun h => hN (.inl h)
            have z2 : (kb == 0) = false := by simpa using fun h => hN (.inr h)
            by_cases hk : ka = kb
            · have hr : r2 = 0 := by rw [HR2.out, if_pos ⟨hk, fun h => hN (.inl h)⟩]
              subst hr
              obtain ⟨ok1, ok2⟩ := HOK.out (.inr (.inr hk))
              have hV := cmpB_bd xa.data.toList xb.data.toList
              rw [ok1] at hV
              have CT1 := Lib.hid (fun W => cmpTexts_any xa xb W (by have := XS1.out; unfold maxLen; omega) (by have := XS2.out; unfold maxLen; omega))
              have CT2 := Lib.hid (fun W => cmpTexts_any ya yb W (by have := XS3.out; unfold maxLen; omega) (by have := XS4.out; unfold maxLen; omega))
              rw [ok1] at CT1
              rw [ok2] at CT2
              obtain ⟨hV1, hV2⟩ := hV
              clear ok1 ok2
              by_cases h4 : ka = 4
              · have h4' : (ka == 4) = true := by simpa using h4
                have HV : Hid (ordI fa fb p c = V) := Lib.hid (by rw [HWV.out, if_neg hN, if_pos h4]; exact HOF.out.1)
                have CO := Lib.hid (fun W => refOrder_any fa fb p c W (by have := HFZ.out; unfold maxLen; omega) (by have := HGZ.out; unfold maxLen; omega))
                rw [HV.out, HOF.out.2] at CO
                clear hN hk h4
                obtain ⟨⟨v0, v1, v2, _⟩, _⟩ := HA9.out
                obtain ⟨⟨u0, u1, u2, _⟩, _⟩ := HD9.out
                go_wp2_with fail
                refine (CC.out _).mono ?_
                rintro e wA ⟨rfl, hbA⟩
                have HAA := Lib.hid (HA9.out.below hbA HA9.out.1.2.2.2)
                have HDA := Lib.hid (HD9.out.below hbA HD9.out.1.2.2.2)
                have HBA := Lib.hid (HB9.out.trans (hbA.mono HB9.out.size))
                clear hbA
                clear v0 v1 v2 u0 u1 u2
                obtain ⟨⟨v0, v1, v2, _⟩, _⟩ := HAA.out
                obtain ⟨⟨u0, u1, u2, _⟩, _⟩ := HDA.out
                go_wp2_with fail
                refine (CO.out _).mono ?_
                rintro e wB ⟨rfl, hbB⟩
                have HAB := Lib.hid (HAA.out.below hbB HAA.out.1.2.2.2)
                have HDB := Lib.hid (HDA.out.below hbB HDA.out.1.2.2.2)
                have HBB := Lib.hid (HBA.out.trans (hbB.mono HBA.out.size))
                clear hbB
                clear v0 v1 v2 u0 u1 u2
                obtain ⟨⟨v0, v1, v2, _⟩, _⟩ := HAB.out
                obtain ⟨⟨u0, u1, u2, _⟩, _⟩ := HDB.out
                go_wp2_with fail
                refine (CT1.out _).mono ?_
                rintro e wP ⟨rfl, hbP⟩
                have HAP := Lib.hid (HAB.out.below hbP HAB.out.1.2.2.2)
                have HDP := Lib.hid (HDB.out.below hbP HDB.out.1.2.2.2)
                have HBP := Lib.hid (HBB.out.trans (hbP.mono HBB.out.size))
                clear hbP
                clear v0 v1 v2 u0 u1 u2
                obtain ⟨⟨v0, v1, v2, _⟩, _⟩ := HAP.out
                obtain ⟨⟨u0, u1, u2, _⟩, _⟩ := HDP.out
                go_wp2_with fail
                refine (CT2.out _).mono ?_
                rintro e wQ ⟨rfl, hbQ⟩
                have HAQ := Lib.hid (HAP.out.below hbQ HAP.out.1.2.2.2)
                have HDQ := Lib.hid (HDP.out.below hbQ HDP.out.1.2.2.2)
                have HBQ := Lib.hid (HBP.out.trans (hbQ.mono HBP.out.size))
                clear hbQ
                clear v0 v1 v2 u0 u1 u2
                obtain ⟨⟨v0, v1, v2, _⟩, _⟩ := HAQ.out
                obtain ⟨⟨u0, u1, u2, _⟩, _⟩ := HDQ.out
                go_wp2_with fail
                have HEQ := Lib.hid (HEW.out.below HBQ.out (Nat.le_refl _))
                refine (C0.out _ HEQ.out).mono ?_
                rintro e wz ⟨rfl, hbz⟩
                have HBZ := Lib.hid (HBQ.out.trans (hbz.mono HBQ.out.size)); clear hbz
                go_wp2_with fail
                go_ret
                exact ⟨rfl, HBZ.out⟩
              · have h4' : (ka == 4) = false := by simpa using h4
                have HV : Hid (r1 = V) := Lib.hid (by rw [HWV.out, if_neg hN, if_neg h4]; exact HR1.out hk (fun h => hN (.inl h)) h4)
                rw [HV.out] at CC
                clear hN hk h4
                obtain ⟨⟨v0, v1, v2, _⟩, _⟩ := HA9.out
                obtain ⟨⟨u0, u1, u2, _⟩, _⟩ := HD9.out
                go_wp2_with fail
                refine (CC.out _).mono ?_
                rintro e wA ⟨rfl, hbA⟩
                have HAA := Lib.hid (HA9.out.below hbA HA9.out.1.2.2.2)
                have HDA := Lib.hid (HD9.out.below hbA HD9.out.1.2.2.2)
                have HBA := Lib.hid (HB9.out.trans (hbA.mono HB9.out.size))
                clear hbA
                clear v0 v1 v2 u0 u1 u2
                obtain ⟨⟨v0, v1, v2, _⟩, _⟩ := HAA.out
                obtain ⟨⟨u0, u1, u2, _⟩, _⟩ := HDA.out
                go_wp2_with fail
                refine (CT1.out _).mono ?_
                rintro e wP ⟨rfl, hbP⟩
                have HAP := Lib.hid (HAA.out.below hbP HAA.out.1.2.2.2)
                have HDP := Lib.hid (HDA.out.below hbP HDA.out.1.2.2.2)
                have HBP := Lib.hid (HBA.out.trans (hbP.mono HBA.out.size))
                clear hbP
                clear v0 v1 v2 u0 u1 u2
                obtain ⟨⟨v0, v1, v2, _⟩, _⟩ := HAP.out
                obtain ⟨⟨u0, u1, u2, _⟩, _⟩ := HDP.out
                go_wp2_with fail
                refine (CT2.out _).mono ?_
                rintro e wQ ⟨rfl, hbQ⟩
                have HAQ := Lib.hid (HAP.out.below hbQ HAP.out.1.2.2.2)
                have HDQ := Lib.hid (HDP.out.below hbQ HDP.out.1.2.2.2)
                have HBQ := Lib.hid (HBP.out.trans (hbQ.mono HBP.out.size))
                clear hbQ
                clear v0 v1 v2 u0 u1 u2
                obtain ⟨⟨v0, v1, v2, _⟩, _⟩ := HAQ.out
                obtain ⟨⟨u0, u1, u2, _⟩, _⟩ := HDQ.out
                go_wp2_with fail
                have HEQ := Lib.hid (HEW.out.below HBQ.out (Nat.le_refl _))
                refine (C0.out _ HEQ.out).mono ?_
                rintro e wz ⟨rfl, hbz⟩
                have HBZ := Lib.hid (HBQ.out.trans (hbz.mono HBQ.out.size)); clear hbz
                go_wp2_with fail
                go_ret
                exact ⟨rfl, HBZ.out⟩
            · have hr : r2 = 6 := by rw [HR2.out, if_neg (fun h => hk h.1)]
              subst hr
              clear hN hk
              obtain ⟨⟨v0, v1, v2, _⟩, _⟩ := HA9.out
              obtain ⟨⟨u0, u1, u2, _⟩, _⟩ := HD9.out
              go_wp2_with fail
              refine (CC.out _).mono ?_
              rintro e wA ⟨rfl, hbA⟩
              have HAA := Lib.hid (HA9.out.below hbA HA9.out.1.2.2.2)
              have HDA := Lib.hid (HD9.out.below hbA HD9.out.1.2.2.2)
              have HBA := Lib.hid (HB9.out.trans (hbA.mono HB9.out.size))
              clear hbA
              clear v0 v1 v2 u0 u1 u2
              obtain ⟨⟨v0, v1, v2, _⟩, _⟩ := HAA.out
              obtain ⟨⟨u0, u1, u2, _⟩, _⟩ := HDA.out
              go_wp2_with fail
              have HEA := Lib.hid (HEW.out.below HBA.out (Nat.le_refl _))
              refine (C0.out _ HEA.out).mono ?_
              rintro e wz ⟨rfl, hbz⟩
              have HBZ := Lib.hid (HBA.out.trans (hbz.mono HBA.out.size)); clear hbz
              go_wp2_with fail
              go_ret
              exact ⟨rfl, HBZ.out⟩
      · have hu : (vE kb nb sb != 0) = true := by simpa using heb
        rw [hea] at EA
        have EAf := Lib.hid (EA.out false)
        have EAt := Lib.hid (EA.out true)
        have EBf := Lib.hid (EB.out false)
        have EBt := Lib.hid (EB.out true)
        clear EA EB
        generalize vE kb nb sb = rb at *
        generalize keyT ka na sa p c false = xa at *
        generalize keyT kb nb sb p c false = xb at *
        generalize keyT ka na sa p c true = ya at *
        generalize keyT kb nb sb p c true = yb at *
        clear hea heb
        subst hwb
        go_enter Tryd.func6, Tryd.ntmps6
        go_wp2_with fail
        generalize hwb : ((w.alloc (.cells #[.int .i64 ka, .int .i64 na, .string sa] 23)).alloc (.cells #[.int .i64 kb, .int .i64 nb, .string sb] 23)) = wb at *
        refine (HOV.out).mono ?_
        rintro e w1 ⟨rfl, rfl⟩
        clear v0 v1 v2 u0 u1 u2 hwb
        generalize wb.alloc (.cells #[.int .i64 ka, .int .i64 na, .string sa, .int .i64 kb, .int .i64 nb, .string sb] 23) = w1 at *
        obtain ⟨⟨v0, v1, v2, _⟩, _⟩ := HA1.out
        obtain ⟨⟨u0, u1, u2, _⟩, _⟩ := HD1.out
        go_wp2_with fail
        refine (CP.out _).mono ?_
        rintro e wq ⟨rfl, rfl⟩
        go_wp2_with fail
        refine (EAf.out _ HE1.out).mono ?_
        rintro e w2 ⟨rfl, hb2⟩
        have HA2 := Lib.hid (HA1.out.below hb2 HA1.out.1.2.2.2)
        have HD2 := Lib.hid (HD1.out.below hb2 HD1.out.1.2.2.2)
        have HE2 := Lib.hid (HE1.out.below hb2 (Nat.le_refl _))
        have HB2 := Lib.hid (HB1.out.trans (hb2.mono HB1.out.size))
        clear hb2
        clear v0 v1 v2 u0 u1 u2
        obtain ⟨⟨v0, v1, v2, _⟩, _⟩ := HA2.out
        obtain ⟨⟨u0, u1, u2, _⟩, _⟩ := HD2.out
        go_wp2_with fail
        refine (EBf.out _ HE2.out).mono ?_
        rintro e w3 ⟨rfl, hb3⟩
        have HA3 := Lib.hid (HA2.out.below hb3 HA2.out.1.2.2.2)
        have HD3 := Lib.hid (HD2.out.below hb3 HD2.out.1.2.2.2)
        have HE3 := Lib.hid (HE2.out.below hb3 (Nat.le_refl _))
        have HB3 := Lib.hid (HB2.out.trans (hb3.mono HB2.out.size))
        clear hb3
        clear v0 v1 v2 u0 u1 u2
        obtain ⟨⟨v0, v1, v2, _⟩, _⟩ := HA3.out
        obtain ⟨⟨u0, u1, u2, _⟩, _⟩ := HD3.out
        go_wp2_with fail
        refine (EAt.out _ HE3.out).mono ?_
        rintro e w4 ⟨rfl, hb4⟩
        have HA4 := Lib.hid (HA3.out.below hb4 HA3.out.1.2.2.2)
        have HD4 := Lib.hid (HD3.out.below hb4 HD3.out.1.2.2.2)
        have HE4 := Lib.hid (HE3.out.below hb4 (Nat.le_refl _))
        have HB4 := Lib.hid (HB3.out.trans (hb4.mono HB3.out.size))
        clear hb4
        clear v0 v1 v2 u0 u1 u2
        obtain ⟨⟨v0, v1, v2, _⟩, _⟩ := HA4.out
        obtain ⟨⟨u0, u1, u2, _⟩, _⟩ := HD4.out
        go_wp2_with fail
        refine (EBt.out _ HE4.out).mono ?_
        rintro e w5 ⟨rfl, hb5⟩
        have HA5 := Lib.hid (HA4.out.below hb5 HA4.out.1.2.2.2)
        have HD5 := Lib.hid (HD4.out.below hb5 HD4.out.1.2.2.2)
        have HE5 := Lib.hid (HE4.out.below hb5 (Nat.le_refl _))
        have HB5 := Lib.hid (HB4.out.trans (hb5.mono HB4.out.size))
        clear hb5
        clear v0 v1 v2 u0 u1 u2
        obtain ⟨⟨v0, v1, v2, _⟩, _⟩ := HA5.out
        obtain ⟨⟨u0, u1, u2, _⟩, _⟩ := HD5.out
        go_wp2_with fail
        refine (C0.out _ HE5.out).mono ?_
        rintro e wz ⟨rfl, hbz⟩
        have HBZ := Lib.hid (HB5.out.trans (hbz.mono HB5.out.size)); clear hbz
        go_wp2_with fail
        go_ret
        exact ⟨rfl, HBZ.out⟩
    · have hu : (vE ka na sa != 0) = true := by simpa using hea
      have EAf := Lib.hid (EA.out false)
      have EAt := Lib.hid (EA.out true)
      have EBf := Lib.hid (EB.out false)
      have EBt := Lib.hid (EB.out true)
      clear EA EB
      generalize vE kb nb sb = rb at *
      generalize vE ka na sa = ra at *
      generalize keyT ka na sa p c false = xa at *
      generalize keyT kb nb sb p c false = xb at *
      generalize keyT ka na sa p c true = ya at *
      generalize keyT kb nb sb p c true = yb at *
      clear hea
      subst hwb
      go_enter Tryd.func6, Tryd.ntmps6
      go_wp2_with fail
      generalize hwb : ((w.alloc (.cells #[.int .i64 ka, .int .i64 na, .string sa] 23)).alloc (.cells #[.int .i64 kb, .int .i64 nb, .string sb] 23)) = wb at *
      refine (HOV.out).mono ?_
      rintro e w1 ⟨rfl, rfl⟩
      clear v0 v1 v2 u0 u1 u2 hwb
      generalize wb.alloc (.cells #[.int .i64 ka, .int .i64 na, .string sa, .int .i64 kb, .int .i64 nb, .string sb] 23) = w1 at *
      obtain ⟨⟨v0, v1, v2, _⟩, _⟩ := HA1.out
      obtain ⟨⟨u0, u1, u2, _⟩, _⟩ := HD1.out
      go_wp2_with fail
      refine (CP.out _).mono ?_
      rintro e wq ⟨rfl, rfl⟩
      go_wp2_with fail
      refine (EAf.out _ HE1.out).mono ?_
      rintro e w2 ⟨rfl, hb2⟩
      have HA2 := Lib.hid (HA1.out.below hb2 HA1.out.1.2.2.2)
      have HD2 := Lib.hid (HD1.out.below hb2 HD1.out.1.2.2.2)
      have HE2 := Lib.hid (HE1.out.below hb2 (Nat.le_refl _))
      have HB2 := Lib.hid (HB1.out.trans (hb2.mono HB1.out.size))
      clear hb2
      clear v0 v1 v2 u0 u1 u2
      obtain ⟨⟨v0, v1, v2, _⟩, _⟩ := HA2.out
      obtain ⟨⟨u0, u1, u2, _⟩, _⟩ := HD2.out
      go_wp2_with fail
      refine (EBf.out _ HE2.out).mono ?_
      rintro e w3 ⟨rfl, hb3⟩
      have HA3 := Lib.hid (HA2.out.below hb3 HA2.out.1.2.2.2)
      have HD3 := Lib.hid (HD2.out.below hb3 HD2.out.1.2.2.2)
      have HE3 := Lib.hid (HE2.out.below hb3 (Nat.le_refl _))
      have HB3 := Lib.hid (HB2.out.trans (hb3.mono HB2.out.size))
      clear hb3
      clear v0 v1 v2 u0 u1 u2
      obtain ⟨⟨v0, v1, v2, _⟩, _⟩ := HA3.out
      obtain ⟨⟨u0, u1, u2, _⟩, _⟩ := HD3.out
      go_wp2_with fail
      refine (EAt.out _ HE3.out).mono ?_
      rintro e w4 ⟨rfl, hb4⟩
      have HA4 := Lib.hid (HA3.out.below hb4 HA3.out.1.2.2.2)
      have HD4 := Lib.hid (HD3.out.below hb4 HD3.out.1.2.2.2)
      have HE4 := Lib.hid (HE3.out.below hb4 (Nat.le_refl _))
      have HB4 := Lib.hid (HB3.out.trans (hb4.mono HB3.out.size))
      clear hb4
      clear v0 v1 v2 u0 u1 u2
      obtain ⟨⟨v0, v1, v2, _⟩, _⟩ := HA4.out
      obtain ⟨⟨u0, u1, u2, _⟩, _⟩ := HD4.out
      go_wp2_with fail
      refine (EBt.out _ HE4.out).mono ?_
      rintro e w5 ⟨rfl, hb5⟩
      have HA5 := Lib.hid (HA4.out.below hb5 HA4.out.1.2.2.2)
      have HD5 := Lib.hid (HD4.out.below hb5 HD4.out.1.2.2.2)
      have HE5 := Lib.hid (HE4.out.below hb5 (Nat.le_refl _))
      have HB5 := Lib.hid (HB4.out.trans (hb5.mono HB4.out.size))
      clear hb5
      clear v0 v1 v2 u0 u1 u2
      obtain ⟨⟨v0, v1, v2, _⟩, _⟩ := HA5.out
      obtain ⟨⟨u0, u1, u2, _⟩, _⟩ := HD5.out
      go_wp2_with fail
      refine (C0.out _ HE5.out).mono ?_
      rintro e wz ⟨rfl, hbz⟩
      have HBZ := Lib.hid (HB5.out.trans (hbz.mono HB5.out.size)); clear hbz
      go_wp2_with fail
      go_ret
      exact ⟨rfl, HBZ.out⟩
  · rw [hov] at HOV
    clear hov
    subst hwb
    go_enter Tryd.func6, Tryd.ntmps6
    go_wp2_with fail
    generalize hwb : ((w.alloc (.cells #[.int .i64 ka, .int .i64 na, .string sa] 23)).alloc (.cells #[.int .i64 kb, .int .i64 nb, .string sb] 23)) = wb at *
    refine (HOV.out).mono ?_
    rintro e w1 ⟨rfl, rfl⟩
    clear v0 v1 v2 u0 u1 u2 hwb
    generalize wb.alloc (.cells #[.int .i64 ka, .int .i64 na, .string sa, .int .i64 kb, .int .i64 nb, .string sb] 23) = w1 at *
    go_wp2_with fail
    refine (C0.out _ HE1.out).mono ?_
    rintro e wz ⟨rfl, hbz⟩
    have HBZ := Lib.hid (HB1.out.trans (hbz.mono HB1.out.size)); clear hbz
    go_wp2_with fail
    go_ret
    exact ⟨rfl, HBZ.out⟩
theorem keyOrders_all (ka na : Int) (sa : ByteArray) (kb nb : Int) (sb : ByteArray) (m : Int) (w : World) (he : Env w) (h1 : -9223372036854775808 ≤ ka ∧ ka ≤ 9223372036854775807) (h2 : -9223372036854775808 ≤ na ∧ na ≤ 9223372036854775807) (hsa : sa.size ≤ 140737488355328) (h3 : -9223372036854775808 ≤ kb ∧ kb ≤ 9223372036854775807) (h4 : -9223372036854775808 ≤ nb ∧ nb ≤ 9223372036854775807) (hsb : sb.size ≤ 140737488355328) (hm : -9223372036854775808 ≤ m ∧ m ≤ 9223372036854775807) :
    Calls Tryd.prog 6 #[vv ka na sa, vv kb nb sb, .int .i64 m] w fun e w' => e = .returned (.bool true) ∧ Below w.heap.size w w' :=
  keyOrders_any ka na sa kb nb sb m w he hsa hsb hm
end Go.Proofs.YtiddnacmopfamaaDoor
