/- The walk of KeyRanges. -/
import Derived.Test.YtiddnacmopfamaaDoorKyMi
namespace Go.Proofs.YtiddnacmopfamaaDoor
open Go.RowKit
set_option linter.unusedVariables false
set_option linter.unusedSimpArgs false
set_option maxRecDepth 40000

theorem behF_size (l : List UInt8) : ∀ n, ((behF l n).getD []).length ≤ n
  | 0 => by simp [behF]
  | n + 1 => by
    unfold behF
    split
    · exact Nat.le_succ_of_le (behF_size l n)
    · simp only [Option.getD_some, List.length_append, List.length_take, List.length_cons, List.length_nil]; omega
theorem beh_size (s : ByteArray) : (oT (behO s.data.toList)).size ≤ s.size := by
  unfold oT behO
  rw [BA_size]
  exact behF_size _ _
theorem lo_size (x al : ByteArray) (b : Bool) : (loF x al b).size ≤ x.size + al.size + 1 ∧ (hiF x al b).size ≤ x.size + al.size + 1 := by
  have h := beh_size al
  have e0 : (⟨#[0]⟩ : ByteArray).size = 1 := rfl
  have hap : (x ++ (⟨#[0]⟩ : ByteArray)).size = x.size + 1 := by rw [ByteArray.size_append, e0]
  unfold loF hiF
  cases x.toList.isEmpty <;> cases b <;> simp only [if_true, if_false, Bool.false_eq_true] <;> omega
theorem keysV_size (lo hi : ByteArray) (a b : Bool) (k : Nat) (d : Bool) : (keysV lo hi a b k d).1.size ≤ lo.size + hi.size + 2 ∧ (keysV lo hi a b k d).2.size ≤ lo.size + hi.size + 2 := by
  have hz1 := turnS_size d lo
  have hz2 := turnS_size d hi
  have hz3 : (allS k d).size = 1 := by unfold allS; rw [turnS_size]; rfl
  have h1 := lo_size (turnS d hi) (allS k d) b
  have h2 := lo_size (turnS d lo) (allS k d) a
  have h3 := lo_size (turnS d lo) (allS k d) a
  have h4 := lo_size (turnS d hi) (allS k d) b
  unfold keysV
  cases d <;> simp only [if_true, if_false, Bool.false_eq_true] <;> omega
theorem rg_size (op : ByteArray) (k n : Int) (s : ByteArray) (p c : Nat) (x d : Bool) : (rgV op k n s p c x d).1.size ≤ 2000 ∧ (rgV op k n s p c x d).2.1.size ≤ 2000 := by
  have hp := prS_size p c s
  have ht := turnS_size d (prS p c s)
  have hb := beh_size (turnS d (prS p c s))
  have g1 := prS_size p c (trS s)
  have g2 := prS_size p c (padS s)
  have e0 : (⟨#[0, 0]⟩ : ByteArray).size = 2 := rfl
  have e1 : (prS p c (trS s) ++ (⟨#[0, 0]⟩ : ByteArray)).size = (prS p c (trS s)).size + 2 := by rw [ByteArray.size_append, e0]
  have e2 : (prS p c (padS s) ++ (⟨#[0, 0]⟩ : ByteArray)).size = (prS p c (padS s)).size + 2 := by rw [ByteArray.size_append, e0]
  have e3 : nos.size = 0 := rfl
  have hz := enc_size (k := k) (n := n) (s := s) p c
  have hB : (rgB op k n s p c).1.size ≤ 200 ∧ (rgB op k n s p c).2.1.size ≤ 200 := by
    have h := cmp_size op (encS k n s p c) (decide (k = 4 ∧ 48 ≤ s.size))
    unfold rgB
    split
    · exact ⟨by simp only []; omega, by simp only []; omega⟩
    · split
      · exact ⟨by simp only []; omega, by simp only []; omega⟩
      · omega
  have hK := keysV_size (rgB op k n s p c).1 (rgB op k n s p c).2.1 (rgB op k n s p c).2.2.1 (rgB op k n s p c).2.2.2 k.toNat d
  unfold rgV
  split
  · exact ⟨by simp only []; omega, by simp only []; omega⟩
  · exact ⟨by simp only []; omega, by simp only []; omega⟩

set_option maxHeartbeats 16000000 in
theorem keyRanges_any (kv nv : Int) (sv : ByteArray) (kw nw : Int) (sw : ByteArray) (r0 r1 r2 r3 : Int) (w : World) (he : Env w) (hsv : sv.size ≤ 140737488355328) (hsw : sw.size ≤ 140737488355328) :
    Calls Tryd.prog 10 #[vv kv nv sv, vv kw nw sw, .agg #[.int .i64 r0, .int .i64 r1, .int .i64 r2, .int .i64 r3]] w fun e w' => e = .returned (.bool true) ∧ Below w.heap.size w w' := by
  have hbox := box_vv4 w kv nv sv kw nw sw r0 r1 r2 r3
  simp only at hbox
  have HE := Lib.hid (he.below hbox.2.2.2 (Nat.le_refl _)); clear he
  have HBX := Lib.hid hbox; clear hbox
  have C0 := Lib.hid (fun W h => known_any W h)
  obtain ⟨wb, hwb⟩ : ∃ wb, wb = (((w.alloc (.cells #[.int .i64 kv, .int .i64 nv, .string sv] 23)).alloc (.cells #[.int .i64 kw, .int .i64 nw, .string sw] 23)).alloc (.cells #[.int .i64 r0, .int .i64 r1, .int .i64 r2, .int .i64 r3] 59)) := ⟨_, rfl⟩
  rw [← hwb] at HBX HE
  have hbx : Below wb.heap.size wb (wb.alloc (.cells #[.int .i64 kv, .int .i64 nv, .string sv, .int .i64 kw, .int .i64 nw, .string sw] 23)) := (Below.refl _ _).alloc (Nat.le_refl _) _
  have HV1 := Lib.hid (HBX.out.1.below hbx HBX.out.1.2.2.2)
  have HW1 := Lib.hid (HBX.out.2.1.below hbx HBX.out.2.1.2.2.2)
  have HR1 := Lib.hid (HBX.out.2.2.1.below hbx HBX.out.2.2.1.2.2.2.2)
  have HE1 := Lib.hid (HE.out.below hbx (Nat.le_refl _))
  have HB1 := Lib.hid (HBX.out.2.2.2.trans (hbx.mono HBX.out.2.2.2.size))
  have HZB : Hid (wb.heap.size = w.heap.size + 1 + 1 + 1) := Lib.hid (by rw [hwb]; simp)
  have HOV : Hid (Calls Tryd.prog 14 #[.slice (some ⟨w.heap.size + 1 + 1 + 1, 0, none⟩) 2 2] (wb.alloc (.cells #[.int .i64 kv, .int .i64 nv, .string sv, .int .i64 kw, .int .i64 nw, .string sw] 23)) fun e w' => e = .returned (.bool (ovB [sv, sw])) ∧ (wb.alloc (.cells #[.int .i64 kv, .int .i64 nv, .string sv, .int .i64 kw, .int .i64 nw, .string sw] 23)) = w') := Lib.hid (by
    rw [← HZB.out]
    refine over_any [sv, sw] wb.heap.size 2 _ (by simp) (by simp [hsv, hsw]) (fun j hj => ?_)
    have hj2 : j = 0 ∨ j = 1 := by simp at hj; omega
    rcases hj2 with rfl | rfl <;> simp)
  clear hbx
  obtain ⟨v0, v1, v2, _⟩ := HBX.out.1
  obtain ⟨u0, u1, u2, _⟩ := HBX.out.2.1
  cases hov : ovB [sv, sw]
  · have hz : sv.size ≤ 40000 ∧ sw.size ≤ 40000 := by
      unfold ovB sumS at hov
      simp at hov
      omega
    obtain ⟨hzv, hzw⟩ := hz
    rw [hov] at HOV
    clear hov
    have CP := Lib.hid (fun W => page_any r1 W)
    obtain ⟨hp3, hc2⟩ := pg_lt r1
    have hwv := wv_pg kv nv sv r1
    generalize pgN r1 = p at *
    generalize clN r1 = c at *
    have HPC := Lib.hid (And.intro hp3 hc2)
    have CO := Lib.hid (fun W => ops_at r0 W)
    have HIO := Lib.hid (opR_is r0)
    have hon := opN_lt r0
    obtain ⟨hs1, hs2⟩ := opN_step r0
    generalize opR r0 = op at *
    generalize opN r0 = jo at *
    generalize hm : r0.tmod 6 = m at *
    have CV := Lib.hid (fun W => refValidate_any kv nv sv W (by unfold maxLen; omega))
    have CW := Lib.hid (fun W => refValidate_any kw nw sw W (by unfold maxLen; omega))
    have hzb : w.heap.size + 2 < wb.heap.size := by rw [HZB.out]; omega
    subst hwb
    go_enter Tryd.func10, Tryd.ntmps10
    go_wp2_with fail
    generalize hwb : (((w.alloc (.cells #[.int .i64 kv, .int .i64 nv, .string sv] 23)).alloc (.cells #[.int .i64 kw, .int .i64 nw, .string sw] 23)).alloc (.cells #[.int .i64 r0, .int .i64 r1, .int .i64 r2, .int .i64 r3] 59)) = wb at *
    refine (HOV.out).mono ?_
    rintro e w1 ⟨rfl, rfl⟩
    clear v0 v1 v2 u0 u1 u2 hwb
    generalize wb.alloc (.cells #[.int .i64 kv, .int .i64 nv, .string sv, .int .i64 kw, .int .i64 nw, .string sw] 23) = w1 at *
    obtain ⟨v0, v1, v2, _⟩ := HV1.out
    obtain ⟨u0, u1, u2, _⟩ := HW1.out
    obtain ⟨q0, q1, q2, q3, _⟩ := HR1.out
    go_wp2_with fail
    refine (CP.out _).mono ?_
    rintro e wq ⟨rfl, rfl⟩
    go_wp2_with fail
    go_region
    go_wp2_with fail
    generalize hx : (r2 == 1) = x at *
    generalize hd : (r3 == 1) = d at *
    have j0 : (0 : Int) ≤ jo := by omega
    have j6 : (jo : Int) < 6 := by omega
    have jt : ((jo : Int)).toNat = jo := by omega
    have hbd : Below w1.heap.size w1 w1.drew := (Below.refl _ _).drew
    have HV2 := Lib.hid (HV1.out.below hbd HV1.out.2.2.2)
    have HW2 := Lib.hid (HW1.out.below hbd HW1.out.2.2.2)
    have HR2 := Lib.hid (HR1.out.below hbd HR1.out.2.2.2.2)
    have HE2 := Lib.hid (HE1.out.below hbd (Nat.le_refl _))
    have HB2 := Lib.hid (HB1.out.trans (hbd.mono HB1.out.size))
    clear hbd v0 v1 v2 u0 u1 u2 q0 q1 q2 q3
    generalize w1.drew = w2 at *
    obtain ⟨q0, q1, q2, q3, qs⟩ := HR2.out
    go_cut [11] from 37 (fun t wc => t = .string op ∧ VCell wc w.heap.size kv nv sv ∧ VCell wc (w.heap.size + 1) kw nw sw ∧ Env wc ∧ Below w.heap.size w wc)
    case first =>
      go_region_with (first | (go_at_call 37; (with_reducible refine (CO.out _).mono ?_); rintro e w8 ⟨g, rfl, hg, hb8⟩; have hq8 := (hb8.cell (p := ⟨w.heap.size + 2, 0, none⟩) qs).trans q0))
      all_goals
        go_wp2_with fail
        go_meet
        case rel =>
          have hbe : Below w2.heap.size w2 w8 := (Below.drew (Below.refl w2.heap.size w2)).trans (hb8.mono (by simp))
          exact ⟨rfl, HV2.out.below hbe HV2.out.2.2.2, HW2.out.below hbe HW2.out.2.2.2, HE2.out.below hbe (Nat.le_refl _), HB2.out.trans (hbe.mono HB2.out.size)⟩
    case rest =>
      obtain ⟨rfl, hv4, hw4, he4, hb4⟩ := hcut
      have HV4 := Lib.hid hv4
      have HW4 := Lib.hid hw4
      have HE4 := Lib.hid he4
      have HB4 := Lib.hid hb4
      clear hv4 hw4 he4 hb4 q0 q1 q2 q3 qs hs1 hs2 hm hon j0 j6 jt hx hd CO CP HV1 HW1 HR1 HE1 HB1 HV2 HW2 HR2 HE2 HB2 HBX HE HOV HZB
      obtain ⟨v0, v1, v2, _⟩ := HV4.out
      obtain ⟨u0, u1, u2, _⟩ := HW4.out
      by_cases hev : vE kv nv sv = 0
      · by_cases hk0 : kv = 0
        · have CR := Lib.hid (fun W h => Range_nil op kv nv sv x d p c W h (by omega) (hwv.trans hev) HIO.out hk0)
          rw [hev] at CV
          have hk' : ((kv : Int) == 0) = true := by simpa using hk0
          clear hwv hev hk0
          go_wp2_with fail
          refine (CR.out _ HE4.out).mono ?_
          rintro e w5 ⟨lo, hi, bb, rfl, hb5, _⟩
          have HV5 := Lib.hid (HV4.out.below hb5 HV4.out.2.2.2)
          have HE5 := Lib.hid (HE4.out.below hb5 (Nat.le_refl _))
          have HB5 := Lib.hid (HB4.out.trans (hb5.mono HB4.out.size))
          clear hb5 v0 v1 v2 u0 u1 u2
          obtain ⟨v0, v1, v2, _⟩ := HV5.out
          go_wp2_with fail
          refine (CV.out _).mono ?_
          rintro e w6 ⟨rfl, hb6⟩
          have HV6 := Lib.hid (HV5.out.below hb6 HV5.out.2.2.2)
          have HE6 := Lib.hid (HE5.out.below hb6 (Nat.le_refl _))
          have HB6 := Lib.hid (HB5.out.trans (hb6.mono HB5.out.size))
          clear hb6 v0 v1 v2
          obtain ⟨v0, v1, v2, _⟩ := HV6.out
          go_wp2_with fail
          refine (C0.out _ HE6.out).mono ?_
          rintro e w7 ⟨rfl, hb7⟩
          have HB7 := Lib.hid (HB6.out.trans (hb7.mono HB6.out.size))
          go_wp2_with fail
          go_ret
          exact ⟨rfl, HB7.out⟩
        · have CR := Lib.hid (fun W h => Range_val op kv nv sv x d p c W h (by omega) HPC.out.1 HPC.out.2 hev hk0 HIO.out)
          rw [hev] at CV
          have hk' : ((kv : Int) == 0) = false := by simpa using hk0
          have HVZ := Lib.hid (rg_size op kv nv sv p c x d)
          have HSU : Hid (c = 0 → (kv ≠ 4 ∨ sv.size ≤ 47 ∧ ¬ (eqO op = true ∧ x = true)) → (rgV op kv nv sv p c x d).2.2 = true) := Lib.hid (fun h1 h2 => range_sure HIO.out hev hk0 h1 h2)
          have HAL := Lib.hid (fun (h : vE kv nw sw = 0) => range_all (p := p) (c := c) (x := x) (d := d) HIO.out hev h hk0)
          have HEV := Lib.hid hev
          have HK0 := Lib.hid hk0
          clear hwv hev hk0
          generalize rgV op kv nv sv p c x d = V at *
          obtain ⟨lo, hi, su⟩ := V
          unfold RgV at CR
          simp only at CR HVZ HSU HAL
          go_wp2_with fail
          refine (CR.out _ HE4.out).mono ?_
          rintro e w5 ⟨rfl, hb5⟩
          have HV5 := Lib.hid (HV4.out.below hb5 HV4.out.2.2.2)
          have HW5 := Lib.hid (HW4.out.below hb5 HW4.out.2.2.2)
          have HE5 := Lib.hid (HE4.out.below hb5 (Nat.le_refl _))
          have HB5 := Lib.hid (HB4.out.trans (hb5.mono HB4.out.size))
          clear hb5 v0 v1 v2 u0 u1 u2
          obtain ⟨v0, v1, v2, _⟩ := HV5.out
          go_wp2_with fail
          refine (CV.out _).mono ?_
          rintro e w6 ⟨rfl, hb6⟩
          have HV6 := Lib.hid (HV5.out.below hb6 HV5.out.2.2.2)
          have HW6 := Lib.hid (HW5.out.below hb6 HW5.out.2.2.2)
          have HE6 := Lib.hid (HE5.out.below hb6 (Nat.le_refl _))
          have HB6 := Lib.hid (HB5.out.trans (hb6.mono HB5.out.size))
          clear hb6 v0 v1 v2
          obtain ⟨v0, v1, v2, _⟩ := HV6.out
          obtain ⟨u0, u1, u2, _⟩ := HW6.out
          go_upto_region 14 with fail
          go_cut [17] from 77 (fun t wc => ∃ mu : Bool, t = .bool mu ∧ (mu = true → su = true) ∧ wc = w6)
          case first =>
            have HEQ : Hid (eqO op = (op.toList == [61])) := Lib.hid rfl
            clear u0 u1 u2 C0 HAL HVZ
            by_cases hc : c = 0
            · have c1 : ((c : Int) == 0) = true := by simp [hc]
              have HC := Lib.hid hc
              clear hc
              by_cases h4 : kv = 4
              · subst h4
                by_cases h47 : sv.size ≤ 47
                · have i47 : (sv.size : Int) ≤ 47 := by omega
                  cases ho : (op.toList == [61])
                  · have hs := HSU.out HC.out (.inr ⟨h47, fun h => by have := h.1; rw [HEQ.out, ho] at this; cases this⟩)
                    clear HSU HEQ
                    go_wp2_with fail
                    go_meet
                    case rel =>
                      exact ⟨true, rfl, fun _ => hs, rfl⟩
                  · cases x
                    · have hs := HSU.out HC.out (.inr ⟨h47, fun h => by cases h.2⟩)
                      clear HSU HEQ
                      go_wp2_with fail
                      go_meet
                      case rel =>
                        exact ⟨true, rfl, fun _ => hs, rfl⟩
                    · clear HSU HEQ
                      go_wp2_with fail
                      go_meet
                      case rel =>
                        exact ⟨false, rfl, (fun h => by cases h), rfl⟩
                · have i47 : ¬ (sv.size : Int) ≤ 47 := by omega
                  clear HSU HEQ
                  go_wp2_with fail
                  go_meet
                  case rel =>
                    exact ⟨false, rfl, (fun h => by cases h), rfl⟩
              · have h4' : (kv != 4) = true := by simpa using h4
                have hs := HSU.out HC.out (.inl h4)
                clear HSU HEQ
                go_wp2_with fail
                go_meet
                case rel =>
                  exact ⟨true, rfl, fun _ => hs, rfl⟩
            · have c1 : ((c : Int) == 0) = false := by rw [beq_eq_false_iff_ne]; omega
              clear HSU HEQ hc
              go_wp2_with fail
              go_meet
              case rel =>
                exact ⟨false, rfl, (fun h => by cases h), rfl⟩
          case rest =>
            obtain ⟨mu, rfl, hmu, rfl⟩ := hcut
            have hm2 : mu = false ∨ (mu = true ∧ su = true) := by
              cases mu
              · exact .inl rfl
              · exact .inr ⟨rfl, hmu rfl⟩
            clear hmu HSU
            have HM2 := Lib.hid hm2
            clear hm2
            by_cases hw0 : vE kw nw sw = 0
            · by_cases hkk : kw = kv
              · subst hkk
                obtain ⟨A1, A2⟩ := HAL.out hw0
                have CK := Lib.hid (fun W => keyOf_any kw nw sw p c HPC.out.1 HPC.out.2 d W (by omega) hw0)
                have CI := Lib.hid (fun W => inside_any (turnS d (encS kw nw sw p c)) lo hi W (by have := turnS_size d (encS kw nw sw p c); have := enc_size (k := kw) (n := nw) (s := sw) p c; unfold maxLen; omega) (by have := HVZ.out; unfold maxLen; omega) (by have := HVZ.out; unfold maxLen; omega))
                have CH := Lib.hid (fun W => holds_any op kw nv nw sv sw x W HIO.out HEV.out hw0 HK0.out (by omega) (by omega))
                rw [hw0] at CW
                generalize inR (turnS d (encS kw nw sw p c)) lo hi = ii at *
                generalize turnS d (encS kw nw sw p c) = key at *
                generalize hoV op kw nw sw nv sv x = ho at *
                have h48 : ((sw.size : Int) ≤ 48 ∧ sw.size ≤ 48) ∨ (¬ (sw.size : Int) ≤ 48 ∧ ¬ sw.size ≤ 48) := by omega
                have HX : Hid (ho = true ∧ ii = true ∨ ho = false ∧ ii = false ∨ ho = false ∧ ii = true ∧ su = false ∨ ho = false ∧ ii = true ∧ su = true ∧ ¬ (sw.size : Int) ≤ 48) := Lib.hid (by
                  cases ho
                  · cases ii
                    · exact .inr (.inl ⟨rfl, rfl⟩)
                    · cases su
                      · exact .inr (.inr (.inl ⟨rfl, rfl, rfl⟩))
                      · rcases h48 with h | h
                        · exact absurd (A2 rfl rfl h.2) (by simp)
                        · exact .inr (.inr (.inr ⟨rfl, rfl, rfl, h.1⟩))
                  · exact .inl ⟨rfl, A1 rfl⟩)
                clear A1 A2 h48 hw0 HAL
                rcases HM2.out with rfl | ⟨rfl, rfl⟩
                all_goals
                  rcases HX.out with ⟨rfl, rfl⟩ | ⟨rfl, rfl⟩ | ⟨rfl, rfl, hq⟩ | ⟨rfl, rfl, hq, hq2⟩
                  all_goals first | (exfalso; simp at hq; done) | skip
                  all_goals
                    first | subst hq | skip
                    clear HX HM2
                    go_wp2_with fail
                    refine (CW.out _).mono ?_
                    rintro e w7 ⟨rfl, hb7⟩
                    have HV7 := Lib.hid (HV6.out.below hb7 HV6.out.2.2.2)
                    have HW7 := Lib.hid (HW6.out.below hb7 HW6.out.2.2.2)
                    have HE7 := Lib.hid (HE6.out.below hb7 (Nat.le_refl _))
                    have HB7 := Lib.hid (HB6.out.trans (hb7.mono HB6.out.size))
                    clear hb7 v0 v1 v2 u0 u1 u2
                    obtain ⟨v0, v1, v2, _⟩ := HV7.out
                    obtain ⟨u0, u1, u2, _⟩ := HW7.out
                    go_wp2_with fail
                    refine (CK.out _).mono ?_
                    rintro e w8 ⟨rfl, hb8⟩
                    have HV8 := Lib.hid (HV7.out.below hb8 HV7.out.2.2.2)
                    have HW8 := Lib.hid (HW7.out.below hb8 HW7.out.2.2.2)
                    have HE8 := Lib.hid (HE7.out.below hb8 (Nat.le_refl _))
                    have HB8 := Lib.hid (HB7.out.trans (hb8.mono HB7.out.size))
                    clear hb8 v0 v1 v2 u0 u1 u2
                    obtain ⟨v0, v1, v2, _⟩ := HV8.out
                    obtain ⟨u0, u1, u2, _⟩ := HW8.out
                    go_wp2_with fail
                    refine (CI.out _).mono ?_
                    rintro e wa ⟨rfl, hba⟩
                    have HVa := Lib.hid (HV8.out.below hba HV8.out.2.2.2)
                    have HWa := Lib.hid (HW8.out.below hba HW8.out.2.2.2)
                    have HEa := Lib.hid (HE8.out.below hba (Nat.le_refl _))
                    have HBa := Lib.hid (HB8.out.trans (hba.mono HB8.out.size))
                    clear hba v0 v1 v2 u0 u1 u2
                    obtain ⟨v0, v1, v2, _⟩ := HVa.out
                    obtain ⟨u0, u1, u2, _⟩ := HWa.out
                    go_wp2_with fail
                    refine (CH.out _).mono ?_
                    rintro e wb ⟨rfl, hbb⟩
                    have HVb := Lib.hid (HVa.out.below hbb HVa.out.2.2.2)
                    have HWb := Lib.hid (HWa.out.below hbb HWa.out.2.2.2)
                    have HEb := Lib.hid (HEa.out.below hbb (Nat.le_refl _))
                    have HBb := Lib.hid (HBa.out.trans (hbb.mono HBa.out.size))
                    clear hbb v0 v1 v2 u0 u1 u2
                    obtain ⟨v0, v1, v2, _⟩ := HVb.out
                    obtain ⟨u0, u1, u2, _⟩ := HWb.out
                    go_wp2_with fail
                    all_goals
                      refine (C0.out _ HEb.out).mono ?_
                      rintro e w9 ⟨rfl, hb9⟩
                      have HB9 := Lib.hid (HBb.out.trans (hb9.mono HBb.out.size))
                      go_wp2_with fail
                      go_ret
                      exact ⟨rfl, HB9.out⟩
              · have hkn : (kw != kv) = true := by simpa using hkk
                rw [hw0] at CW
                clear HAL hw0 hkk
                rcases HM2.out with rfl | ⟨rfl, rfl⟩
                all_goals
                  clear HM2
                  go_wp2_with fail
                  refine (CW.out _).mono ?_
                  rintro e w7 ⟨rfl, hb7⟩
                  have HV7 := Lib.hid (HV6.out.below hb7 HV6.out.2.2.2)
                  have HW7 := Lib.hid (HW6.out.below hb7 HW6.out.2.2.2)
                  have HE7 := Lib.hid (HE6.out.below hb7 (Nat.le_refl _))
                  have HB7 := Lib.hid (HB6.out.trans (hb7.mono HB6.out.size))
                  clear hb7 v0 v1 v2 u0 u1 u2
                  obtain ⟨v0, v1, v2, _⟩ := HV7.out
                  obtain ⟨u0, u1, u2, _⟩ := HW7.out
                  go_wp2_with fail
                  refine (C0.out _ HE7.out).mono ?_
                  rintro e w9 ⟨rfl, hb9⟩
                  have HB9 := Lib.hid (HB7.out.trans (hb9.mono HB7.out.size))
                  go_wp2_with fail
                  go_ret
                  exact ⟨rfl, HB9.out⟩
            · generalize vE kw nw sw = f at *
              have hf : (f != 0) = true := by simpa using hw0
              clear HAL hw0
              rcases HM2.out with rfl | ⟨rfl, rfl⟩
              all_goals
                clear HM2
                go_wp2_with fail
                refine (CW.out _).mono ?_
                rintro e w7 ⟨rfl, hb7⟩
                have HV7 := Lib.hid (HV6.out.below hb7 HV6.out.2.2.2)
                have HW7 := Lib.hid (HW6.out.below hb7 HW6.out.2.2.2)
                have HE7 := Lib.hid (HE6.out.below hb7 (Nat.le_refl _))
                have HB7 := Lib.hid (HB6.out.trans (hb7.mono HB6.out.size))
                clear hb7 v0 v1 v2 u0 u1 u2
                obtain ⟨v0, v1, v2, _⟩ := HV7.out
                obtain ⟨u0, u1, u2, _⟩ := HW7.out
                go_wp2_with fail
                refine (C0.out _ HE7.out).mono ?_
                rintro e w9 ⟨rfl, hb9⟩
                have HB9 := Lib.hid (HB7.out.trans (hb9.mono HB7.out.size))
                go_wp2_with fail
                go_ret
                exact ⟨rfl, HB9.out⟩
      · have CR := Lib.hid (fun W h => Range_bad op kv nv sv x d p c W h (by omega) (by rw [hwv]; exact hev))
        rw [hwv] at CR
        clear hwv
        generalize vE kv nv sv = f at *
        have hf : (f != 0) = true := by simpa using hev
        clear hev
        go_wp2_with fail
        refine (CR.out _ HE4.out).mono ?_
        rintro e w5 ⟨lo, hi, bb, rfl, hb5, _⟩
        have HV5 := Lib.hid (HV4.out.below hb5 HV4.out.2.2.2)
        have HE5 := Lib.hid (HE4.out.below hb5 (Nat.le_refl _))
        have HB5 := Lib.hid (HB4.out.trans (hb5.mono HB4.out.size))
        clear hb5 v0 v1 v2 u0 u1 u2
        obtain ⟨v0, v1, v2, _⟩ := HV5.out
        go_wp2_with fail
        refine (CV.out _).mono ?_
        rintro e w6 ⟨rfl, hb6⟩
        have HE6 := Lib.hid (HE5.out.below hb6 (Nat.le_refl _))
        have HB6 := Lib.hid (HB5.out.trans (hb6.mono HB5.out.size))
        clear hb6 v0 v1 v2
        go_wp2_with fail
        refine (C0.out _ HE6.out).mono ?_
        rintro e w7 ⟨rfl, hb7⟩
        have HB7 := Lib.hid (HB6.out.trans (hb7.mono HB6.out.size))
        go_wp2_with fail
        go_ret
        exact ⟨rfl, HB7.out⟩
  · rw [hov] at HOV
    subst hwb
    go_enter Tryd.func10, Tryd.ntmps10
    go_wp2_with fail
    generalize hwb : (((w.alloc (.cells #[.int .i64 kv, .int .i64 nv, .string sv] 23)).alloc (.cells #[.int .i64 kw, .int .i64 nw, .string sw] 23)).alloc (.cells #[.int .i64 r0, .int .i64 r1, .int .i64 r2, .int .i64 r3] 59)) = wb at *
    refine (HOV.out).mono ?_
    rintro e w1 ⟨rfl, rfl⟩
    clear v0 v1 v2 u0 u1 u2 hwb
    generalize wb.alloc (.cells #[.int .i64 kv, .int .i64 nv, .string sv, .int .i64 kw, .int .i64 nw, .string sw] 23) = w1 at *
    go_wp2_with fail
    refine (C0.out _ HE1.out).mono ?_
    rintro e w7 ⟨rfl, hb7⟩
    have HB7 := Lib.hid (HB1.out.trans (hb7.mono HB1.out.size))
    go_wp2_with fail
    go_ret
    exact ⟨rfl, HB7.out⟩
theorem keyRanges_all (kv nv : Int) (sv : ByteArray) (kw nw : Int) (sw : ByteArray) (r0 r1 r2 r3 : Int) (w : World) (he : Env w) (h1 : -9223372036854775808 ≤ kv ∧ kv ≤ 9223372036854775807) (h2 : -9223372036854775808 ≤ nv ∧ nv ≤ 9223372036854775807) (hsv : sv.size ≤ 140737488355328) (h3 : -9223372036854775808 ≤ kw ∧ kw ≤ 9223372036854775807) (h4 : -9223372036854775808 ≤ nw ∧ nw ≤ 9223372036854775807) (hsw : sw.size ≤ 140737488355328) (g0 : -9223372036854775808 ≤ r0 ∧ r0 ≤ 9223372036854775807) (g1 : -9223372036854775808 ≤ r1 ∧ r1 ≤ 9223372036854775807) (g2 : -9223372036854775808 ≤ r2 ∧ r2 ≤ 9223372036854775807) (g3 : -9223372036854775808 ≤ r3 ∧ r3 ≤ 9223372036854775807) :
    Calls Tryd.prog 10 #[vv kv nv sv, vv kw nw sw, .agg #[.int .i64 r0, .int .i64 r1, .int .i64 r2, .int .i64 r3]] w fun e w' => e = .returned (.bool true) ∧ Below w.heap.size w w' :=
  keyRanges_any kv nv sv kw nw sw r0 r1 r2 r3 w he hsv hsw
end Go.Proofs.YtiddnacmopfamaaDoor
