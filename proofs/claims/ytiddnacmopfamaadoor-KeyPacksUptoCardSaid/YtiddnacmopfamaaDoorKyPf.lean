/- Two equal lists of texts; the walk of KeyPacks. -/
import Derived.Test.YtiddnacmopfamaaDoorKyPe
import Derived.Test.YtiddnacmopfamaaDoorKyK
namespace Go.Proofs.YtiddnacmopfamaaDoor
open Go.RowKit
set_option linter.unusedVariables false
set_option linter.unusedSimpArgs false
set_option maxRecDepth 40000

theorem RdS.dr {w w' : World} {A : Option Addr} {ss : List ByteArray} (h : RdS w A ss) (hd : Dr w w') : RdS w' A ss := by obtain ⟨m, rfl⟩ := hd; exact h
set_option maxHeartbeats 8000000 in
theorem SameTexts_any (ss : List ByteArray) (A B : Option Addr) (c1 c2 : Nat) (w : World) (hl : ss.length ≤ 1000000) (ha : RdS w A ss) (hb : RdS w B ss) :
    Calls Tryd.prog 50 #[.slice A ss.length c1, .slice B ss.length c2] w fun e w' => e = .returned (.bool true) ∧ Below w.heap.size w w' := by
  have HA := Lib.hid ha
  have HB := Lib.hid hb
  clear ha hb
  go_enter Tryd.func50, Tryd.ntmps50
  go_wp2_with fail
  go_loopw [5] (fun i wr => ∃ j : Nat, j ≤ ss.length ∧ i = .int .i64 j ∧ Dr w wr) (fun i _ => ss.length - (intOf i).toNat)
  case atStart => exact ⟨0, by omega, rfl, Dr.refl _⟩
  case round =>
    obtain ⟨j, hj, rfl, hdr⟩ := hrel
    have HD := Lib.hid hdr; clear hdr
    by_cases hlt : j < ss.length
    · obtain ⟨a1, rfl, _, ca⟩ := (HA.out.dr HD.out) j hlt
      obtain ⟨a2, rfl, _, cb⟩ := (HB.out.dr HD.out) j hlt
      generalize ss.getD j nos = t at *
      have q3 : (t.toList == t.toList) = true := by simp
      have i1 : (0 : Int) ≤ (j : Int) := by omega
      have i2 : (j : Int) < ss.length := by omega
      go_wp2_with fail
      go_quiet (fail)
      go_wp2_with fail
      go_roundw
      case rel => exact ⟨j + 1, by omega, by go_num, HD.out.step _⟩
      case measure => simp [intOf]; omega
    · have hjl : j = ss.length := by omega
      clear hjl
      go_wp2_with fail
      go_ret
      exact ⟨rfl, Dr.below (Below.refl _ _) HD.out⟩

theorem packF_len : ∀ (ks : List ByteArray) (last : ByteArray) (acc q : List UInt8), packF last ks acc = (q, 0) → bigS ks = false → q.length ≤ acc.length + 102 * ks.length
  | [], last, acc, q, h, _ => by
    rw [packF] at h
    have h1 : acc = q := congrArg Prod.fst h
    subst h1; simp
  | k :: ks, last, acc, q, h, hb => by
    rw [packF] at h
    split at h
    · have := congrArg Prod.snd h; simp at this
    · have e : bigS (k :: ks) = (bigS [k] || bigS ks) := bigS_app [k] ks
      rw [e, bigS_one] at hb
      simp at hb
      have := packF_len ks k _ q h hb.2
      have h2 := entL_len last k
      rw [List.length_append] at this
      simp
      omega
theorem packR_len {ss : List ByteArray} {q : List UInt8} (h : packR ss = (q, 0)) : q.length ≤ 40000 := by
  obtain ⟨h1, h2, h3⟩ := packR_of h
  have := packF_len _ _ _ _ h3 h2
  simp at this
  omega
theorem unpF_len : ∀ (N : Nat) (b : List UInt8) (last : ByteArray) (acc : List ByteArray), b.length ≤ N → (unpF last b acc).1.length ≤ acc.length + b.length
  | _, [], last, acc, _ => by rw [unpF]; simp
  | _, [x], last, acc, _ => by rw [unpF]; simp
  | 0, _ :: _ :: _, _, _, h => by simp at h
  | N + 1, n :: m :: r, last, acc, h => by
    rw [unpF]
    split
    · simp
    · split
      · simp
      · have := unpF_len N (r.drop m.toNat) (keyB last n.toNat m.toNat r) (acc ++ [keyB last n.toNat m.toNat r]) (by simp at h ⊢; omega)
        simp at this ⊢
        omega
theorem mem_sum : ∀ (l : List Nat) (x : Nat), x ∈ l → x ≤ l.sum
  | [], x, h => by simp at h
  | a :: t, x, h => by
    rcases List.mem_cons.1 h with rfl | h
    · simp
    · have := mem_sum t x h
      simp; omega
theorem sumS_all {ss : List ByteArray} {j : Nat} (h : j < ss.length) : (ss.getD j nos).size ≤ sumS ss := by
  unfold sumS
  have e : ss.getD j nos = ss[j] := by simp [List.getD, h]
  rw [e]
  have : (ss.map ByteArray.size)[j]'(by simpa using h) ≤ (ss.map ByteArray.size).sum := mem_sum _ _ (List.getElem_mem _)
  simpa using this

set_option maxHeartbeats 16000000 in
theorem keyPacks_any (A : Option Addr) (ss : List ByteArray) (c : Nat) (A' : Option Addr) (b : List UInt8) (c' : Nat) (w : World) (he : Env w) (hr : RdS w A ss) (hc : b.length ≤ c') (hm : c' ≤ maxLen) (hrb : Rd w w.heap.size .u8 A' (bI b)) (ht : b.length + ss.length + sumS ss ≤ 1048576) :
    Calls Tryd.prog 13 #[.slice A ss.length c, .slice A' b.length c'] w fun e w' => e = .returned (.bool true) ∧ Below w.heap.size w w' := by
  have HE := Lib.hid he; clear he
  have C0 := Lib.hid (fun W h => known_any W h)
  have HRS := Lib.hid hr; clear hr
  have HRB := Lib.hid hrb; clear hrb
  have HSZ : Hid (∀ j, j < ss.length → (ss.getD j nos).size ≤ sumS ss) := Lib.hid (fun j h => sumS_all h)
  have HST : Hid (∀ k, k < ss.length → sumS (ss.take (k + 1)) = sumS (ss.take k) + (ss.getD k nos).size) := Lib.hid (fun k h => sumS_take h)
  have HSM : Hid (∀ k, sumS (ss.take k) ≤ sumS ss) := Lib.hid (fun k => by
    unfold sumS
    have h : ss.map ByteArray.size = (ss.take k).map ByteArray.size ++ (ss.drop k).map ByteArray.size := by rw [← List.map_append, List.take_append_drop]
    rw [h, List.sum_append]
    omega)
  have HSA : Hid (sumS (ss.take ss.length) = sumS ss) := Lib.hid (by rw [List.take_length])
  go_enter Tryd.func13, Tryd.ntmps13
  go_wp2_with fail
  go_loop [5, 6] (fun n i => ∃ k : Nat, k ≤ ss.length ∧ i = .int .i64 k ∧ n = .int .i64 ((b.length + ss.length + sumS (ss.take k) : Nat) : Int)) (fun _ i => ss.length - (intOf i).toNat)
  case atStart => exact ⟨0, by omega, rfl, by simp [sumS]⟩
  case round =>
    obtain ⟨k, hk, rfl, rfl⟩ := hrel
    have hsm := HSM.out k
    by_cases hlt : k < ss.length
    · obtain ⟨ad, rfl, hbad, hcell⟩ := HRS.out k hlt
      have htk := HST.out k hlt
      have hz := HSZ.out k hlt
      have hsm2 := HSM.out (k + 1)
      rw [htk] at hsm2
      generalize ss.getD k nos = x at *
      generalize sumS (ss.take k) = m at *
      have HTK := Lib.hid htk; clear htk
      go_wp2_with fail
      go_round
      case rel => exact ⟨k + 1, by omega, by go_num, by rw [HTK.out]; go_num⟩
      case measure => simp [intOf]; omega
    · have hkl : k = ss.length := by omega
      have HKS : Hid (sumS (ss.take k) = sumS ss) := Lib.hid (by rw [hkl]; exact HSA.out)
      rw [HKS.out] at hsm ⊢
      clear hkl HKS hsm
      generalize sumS ss = m at *
      by_cases ho : 100000 < b.length + ss.length + m
      · have i1 : (100000 : Int) < (b.length : Int) + ss.length + m := by omega
        clear ho
        go_wp2_with fail
        refine (C0.out _ HE.out).mono ?_
        rintro e w4 ⟨rfl, hb4⟩
        have HB4 := Lib.hid hb4; clear hb4
        go_wp2_with fail
        go_ret
        exact ⟨rfl, HB4.out⟩
      · have i1 : ¬ (100000 : Int) < (b.length : Int) + ss.length + m := by omega
        have hssz : ∀ s ∈ ss, s.size ≤ 140737488355328 := fun s hs => by
          obtain ⟨j, hj, rfl⟩ := List.getElem_of_mem hs
          have h := HSZ.out j hj
          have e : ss.getD j nos = ss[j] := by simp [List.getD, hj]
          rw [e] at h
          omega
        have HSS := Lib.hid hssz; clear hssz
        have P1 := Lib.hid (Pack_any A ss c w (by omega) HRS.out HSS.out)
        have P2 := Lib.hid (fun W h => refPack_any A ss c W (by omega) h HSS.out)
        have U1 := Lib.hid (fun W h => Unpack_any A' b c' W (by omega) hc hm h)
        have U2 := Lib.hid (fun W h => refUnpack_any A' b c' W (by omega) hc hm h)
        have hul := unpF_len _ b nos [] (Nat.le_refl _)
        have HPK := Lib.hid (fun q (h : packR ss = (q, 0)) => And.intro (packR_len h) (unp_back h))
        have UQ := Lib.hid (fun q A'' c'' W h1 h2 h3 h4 => Unpack_any A'' q c'' W h1 h2 h3 h4)
        rw [← unpF_par] at U2
        generalize unpF nos b [] = u at *
        generalize packR ss = q at *
        obtain ⟨ul, ue⟩ := u
        obtain ⟨ql, qe⟩ := q
        have hul2 : ul.length ≤ 1000000 := by simp at hul; omega
        have hss2 : ss.length ≤ 1000000 := by omega
        clear hul ho
        go_wp2_with fail
        refine (P1.out).mono ?_
        rintro e w1 ⟨v1, rfl, ho1, hb1⟩
        have HE1 := Lib.hid (HE.out.below hb1 (Nat.le_refl _))
        have HB1 := Lib.hid hb1
        have HO1 := Lib.hid ho1
        have HR1 := Lib.hid (HRS.out.below hb1)
        clear hb1 ho1
        go_wp2_with fail
        refine (P2.out _ HR1.out).mono ?_
        rintro e w2 ⟨v2, rfl, ho2, hb2⟩
        have HE2 := Lib.hid (HE1.out.below hb2 (Nat.le_refl _))
        have HB2 := Lib.hid (HB1.out.trans (hb2.mono HB1.out.size))
        have HO2 := Lib.hid ho2
        have HO1b := Lib.hid (HO1.out.below hb2 (Nat.le_refl _))
        have HRb2 := Lib.hid ((HRB.out.below HB2.out).more HB2.out.size)
        clear hb2 ho2
        go_wp2_with fail
        refine (U1.out _ HRb2.out).mono ?_
        rintro e w3 ⟨v3, rfl, ho3, hb3⟩
        have HE3 := Lib.hid (HE2.out.below hb3 (Nat.le_refl _))
        have HB3 := Lib.hid (HB2.out.trans (hb3.mono HB2.out.size))
        have HO3 := Lib.hid ho3
        have HO1c := Lib.hid (HO1b.out.below hb3 (Nat.le_refl _))
        have HO2c := Lib.hid (HO2.out.below hb3 (Nat.le_refl _))
        have HRb3 := Lib.hid ((HRB.out.below HB3.out).more HB3.out.size)
        clear hb3 ho3
        go_wp2_with fail
        refine (U2.out _ HRb3.out).mono ?_
        rintro e w4 ⟨v4, rfl, ho4, hb4⟩
        have HE4 := Lib.hid (HE3.out.below hb4 (Nat.le_refl _))
        have HB4 := Lib.hid (HB3.out.trans (hb4.mono HB3.out.size))
        have HO4 := Lib.hid ho4
        have HO1d := Lib.hid (HO1c.out.below hb4 (Nat.le_refl _))
        have HO2d := Lib.hid (HO2c.out.below hb4 (Nat.le_refl _))
        have HO3d := Lib.hid (HO3.out.below hb4 (Nat.le_refl _))
        clear hb4 ho4
        have hcv1 := conv_own HO1d.out
        have hcv2 := conv_own HO2d.out
        rw [strOf_bI] at hcv1 hcv2
        have hbe : ((BA ql).toList == (BA ql).toList) = true := by simp
        obtain ⟨D3, d3, rfl, hd3⟩ := HO3d.out.out
        obtain ⟨D4, d4, rfl, hd4⟩ := HO4.out.out
        have ST := Lib.hid (SameTexts_any ul D3 D4 d3 d4 w4 hul2 hd3 hd4)
        clear hd3 hd4
        go_wp2_with fail
        refine (ST.out).mono ?_
        rintro e w5 ⟨rfl, hb5⟩
        have HE5 := Lib.hid (HE4.out.below hb5 (Nat.le_refl _))
        have HB5 := Lib.hid (HB4.out.trans (hb5.mono HB4.out.size))
        have HO15 := Lib.hid (HO1d.out.below hb5 (Nat.le_refl _))
        clear hb5 hcv1 hcv2
        by_cases hqe : qe = 0
        · subst hqe
          obtain ⟨hql, hbk⟩ := HPK.out ql rfl
          obtain ⟨Q1, q1, rfl, hq1, hq2, hq3⟩ := HO15.out.out
          have UQ1 := Lib.hid (UQ.out ql Q1 q1 w5 (by omega) (by rw [bI_len] at hq1; exact hq1) hq2 hq3)
          rw [hbk] at UQ1
          have hqll : (bI ql).length = ql.length := bI_len ql
          rw [hqll]
          clear hbk hq1 hq2 hq3 hqll
          go_wp2_with fail
          refine (UQ1.out).mono ?_
          rintro e w6 ⟨v6, rfl, ho6, hb6⟩
          have HE6 := Lib.hid (HE5.out.below hb6 (Nat.le_refl _))
          have HB6 := Lib.hid (HB5.out.trans (hb6.mono HB5.out.size))
          have HR6 := Lib.hid (HRS.out.below HB6.out)
          clear hb6
          obtain ⟨D6, d6, rfl, hd6⟩ := ho6.out
          have ST6 := Lib.hid (SameTexts_any ss D6 A d6 c w6 hss2 hd6 HR6.out)
          clear hd6 ho6
          go_wp2_with fail
          refine (ST6.out).mono ?_
          rintro e w7 ⟨rfl, hb7⟩
          have HE7 := Lib.hid (HE6.out.below hb7 (Nat.le_refl _))
          have HB7 := Lib.hid (HB6.out.trans (hb7.mono HB6.out.size)); clear hb7
          go_wp2_with fail
          refine (C0.out _ HE7.out).mono ?_
          rintro e wz ⟨rfl, hbz⟩
          have HBZ := Lib.hid (HB7.out.trans (hbz.mono HB7.out.size)); clear hbz
          go_wp2_with fail
          go_ret
          exact ⟨rfl, HBZ.out⟩
        · have dn : (qe != 0) = true := by simpa using hqe
          clear hqe
          go_wp2_with fail
          refine (C0.out _ HE5.out).mono ?_
          rintro e wz ⟨rfl, hbz⟩
          have HBZ := Lib.hid (HB5.out.trans (hbz.mono HB5.out.size)); clear hbz
          go_wp2_with fail
          go_ret
          exact ⟨rfl, HBZ.out⟩
end Go.Proofs.YtiddnacmopfamaaDoor
