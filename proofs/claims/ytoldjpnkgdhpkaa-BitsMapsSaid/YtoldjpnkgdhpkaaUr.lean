/- Unpack of the reference. -/
import Derived.Test.YtoldjpnkgdhpkaaUp
import Derived.Test.YtoldjpnkgdhpkaaRp
import Derived.Lib.Bytes
namespace Go.Proofs.Ytoldjpnkgdhpkaa
open Go.RowKit
set_option linter.unusedVariables false
set_option linter.unusedSimpArgs false

theorem take_n {X : Option Addr} {n cc : Nat} {r : List Int} {w : World} {B : Nat} (hn : n = r.length) (hr : Rd w B .u8 X r) (hl : r.length ≤ 3000) (hok : bytesI r) :
    Calls Try.prog 66 #[.slice X n cc] w fun e w' => e = .returned (.tuple #[.int .i64 (tkG r), .int .i64 (tkN r)]) ∧ Dr w w' := by
  subst hn; exact take_any X cc r w B hr hl hok

theorem tk_some {r r1 : List Int} {g : Int} (h : takeL r = some (g, r1)) : tkG r = g ∧ ∃ q : Nat, (q = 1 ∨ q = 2) ∧ q ≤ r.length ∧ r1 = r.drop q ∧ tkN r = q := by
  refine ⟨by simp [tkG, h], ?_⟩
  have hlen := takeL_len h
  have key : r1 = r.drop 1 ∨ r1 = r.drop 2 := by
    rcases r with _ | ⟨x, t⟩
    · simp [takeL] at h
    · by_cases hx : x < 128
      · simp [takeL, hx] at h; exact .inl (by simp [h.2])
      · rcases t with _ | ⟨y, t⟩
        · simp [takeL, hx] at h
        · simp [takeL, hx] at h; exact .inr (by simp [h.2])
  have hN : tkN r = ((r.length - r1.length : Nat) : Int) := by simp [tkN, h]
  rcases key with hk | hk
  · have e : r1.length = r.length - 1 := by rw [hk, List.length_drop]
    exact ⟨1, .inl rfl, by omega, hk, by rw [hN]; omega⟩
  · have e : r1.length = r.length - 2 := by rw [hk, List.length_drop]
    rcases Nat.lt_or_ge r.length 2 with h2 | h2
    · refine ⟨1, .inl rfl, by omega, ?_, by rw [hN]; omega⟩
      rw [hk, List.drop_eq_nil_of_le (by omega), List.drop_eq_nil_of_le (by omega)]
    · exact ⟨2, .inr rfl, h2, hk, by rw [hN]; omega⟩
theorem tk_none {r : List Int} (h : takeL r = none) : tkG r = 0 ∧ tkN r = 0 := by simp [tkG, tkN, h]

theorem nums_back (zs : List Int) (hz : bytesI zs) : (zs.map fun n => UInt8.ofNat n.toNat).map (fun u => (u.toNat : Int)) = zs := by
  rw [List.map_map]
  conv => rhs; rw [← List.map_id zs]
  refine List.map_congr_left fun z hz' => ?_
  have := hz z hz'
  simp
  omega
theorem str_inj {xs ys : List Int} (hx : bytesI xs) (hy : bytesI ys) (h : strOfNums xs = strOfNums ys) : xs = ys := by
  have h' := congrArg (fun b : ByteArray => b.data.toList.map fun u => (u.toNat : Int)) h
  simp only [strOfNums_data] at h'
  rwa [nums_back xs hx, nums_back ys hy] at h'

structure UrI (w wr : World) (bs acc r : List Int) (la : Int) (at_ : Nat) (v : Value) : Prop where
  own : Own wr w.heap.size 3 .i64 v acc
  le : at_ ≤ bs.length
  rest : r = bs.drop at_
  n1 : 0 ≤ la
  n2 : la ≤ 300
  upt : Upto acc (la + 1)
  eq : unpackGo acc (la + 1) r = unpackGo [] 1 bs
  bel : Below w.heap.size w wr

set_option maxHeartbeats 8000000 in
set_option maxRecDepth 20000 in
theorem refUnpack_any (A : Option Addr) (c : Nat) (bs : List Int) (w : World) (hr : Rd w w.heap.size .u8 A bs) (hl : bs.length ≤ 3000) (hok : bytesI bs) (hcap : bs.length ≤ c) (hmax : c ≤ 9223372036854775807) :
    Calls Try.prog 44 #[.slice A bs.length c] w (LRes w (upkL bs) (upkN bs)) := by
  have HR := Lib.hid hr; clear hr
  have HOK := Lib.hid hok; clear hok
  go_enter Try.func44, Try.ntmps44
  go_wp2_with fail
  go_loopw [4, 5, 6] (fun v n s wr => ∃ (acc r : List Int) (la : Int) (k : Nat), n = .int .i64 la ∧ s = .int .i64 k ∧ UrI w wr bs acc r la k v) (fun _ _ s _ => bs.length - (intOf s).toNat)
  case atStart => exact ⟨[], bs, 0, 0, rfl, rfl, ⟨Own.nil _ _ _ _, by omega, rfl, by omega, by omega, ⟨by simp, List.Pairwise.nil⟩, rfl, Below.refl _ _⟩⟩
  case round =>
    obtain ⟨acc, r, la, k, rfl, rfl, hI⟩ := hrel
    have HI := Lib.hid hI; clear hI
    have hle := HI.out.le
    by_cases hlt : k < bs.length
    · obtain ⟨ad, rfl, _, hc⟩ := (HR.out.below HI.out.bel) (by omega)
      have HC := Lib.hid hc; clear hc
      have i0 : (k : Int) < bs.length := by omega
      have i1 : (0 : Int) ≤ k := by omega
      have i2 : (k : Int) ≤ bs.length := by omega
      have i3 : (bs.length : Int) ≤ c := by omega
      have i4 : ¬ c = k := by omega
      have HRk : Hid (Rd wr w.heap.size .u8 (some (ad.add k)) r) := Lib.hid (by
        have h := (HR.out.below HI.out.bel).cut (c := c) k hle hcap
        rw [if_neg i4, ← HI.out.rest] at h; exact h)
      have hrl : r.length = bs.length - k := by rw [HI.out.rest, List.length_drop]
      have hbr : Hid (bytesI r) := Lib.hid fun x hx => HOK.out x (by rw [HI.out.rest] at hx; exact List.mem_of_mem_drop hx)
      go_wp2_with fail
      refine (take_n (r := r) hrl.symm HRk.out (by omega) hbr.out).mono ?_
      rintro e w1 ⟨rfl, hd1⟩
      have HD1 := Lib.hid hd1; clear hd1
      rcases ht : takeL r with _ | ⟨g, r1⟩
      · rw [(tk_none ht).1, (tk_none ht).2]
        have hn := unpackGo_none1 acc (la + 1) (bs := r) (by intro e; rw [e] at hrl; simp at hrl; omega) ht
        rw [HI.out.eq] at hn
        have HN := Lib.hid hn; clear hn
        have HT := Lib.hid ht; clear ht
        go_wp2_with fail
        refine (take_n (r := r) hrl.symm (HRk.out.dr HD1.out) (by omega) hbr.out).mono ?_
        rintro e w2 ⟨rfl, hd2⟩
        have HD2 := Lib.hid (Dr.trans HD1.out hd2); clear hd2
        rw [(tk_none HT.out).1, (tk_none HT.out).2]
        go_wp2_with fail
        go_ret2
        rw [(upk_none HN.out).1, (upk_none HN.out).2]
        exact ⟨none, 0, rfl, Own.nil _ _ _ _, Dr.below HI.out.bel HD2.out⟩
      · obtain ⟨hG, q, hq, hql, hr1, hN⟩ := tk_some ht
        rw [hG, hN]
        clear hG hN
        have HT := Lib.hid ht; clear ht
        have hr1' : r1 = bs.drop (k + q) := by rw [hr1, HI.out.rest, List.drop_drop]
        have hl1 : r1.length = bs.length - (k + q) := by rw [hr1', List.length_drop]
        have HR1' := Lib.hid hr1'; clear hr1' hr1
        have i5 : (0 : Int) ≤ (k : Int) + q := by omega
        have i6 : (k : Int) + q ≤ bs.length := by omega
        by_cases hcq : c = k + q
        · have hl0 : r1.length = 0 := by omega
          have hn2 : takeL r1 = none := by rw [List.length_eq_zero_iff.1 hl0]; rfl
          have hn := unpackGo_none2 acc (la + 1) HT.out hn2
          rw [HI.out.eq] at hn
          have HN := Lib.hid hn; clear hn
          obtain ⟨hN1, hN2⟩ := tk_none hn2
          clear hn2
          have dq : ((q : Int) == 0) = false := by simp; omega
          go_wp2_with fail
          refine (take_n (X := some ad) (r := r1) (B := 0) (by omega) (fun h => absurd h (by omega)) (by omega) (fun x hx => by rw [List.length_eq_zero_iff.1 hl0] at hx; cases hx)).mono ?_
          rintro e w2 ⟨rfl, hd2⟩
          have HD2 := Lib.hid (Dr.trans HD1.out hd2); clear hd2
          rw [hN1, hN2]
          go_wp2_with fail
          go_ret2
          rw [(upk_none HN.out).1, (upk_none HN.out).2]
          exact ⟨none, 0, rfl, Own.nil _ _ _ _, Dr.below HI.out.bel HD2.out⟩
        · have HR1 : Hid (Rd wr w.heap.size .u8 (some (ad.add (k + q))) r1) := Lib.hid (by
            have h := (HR.out.below HI.out.bel).cut (c := c) (k + q) (by omega) hcap
            rw [if_neg hcq, ← HR1'.out] at h; exact h)
          have hb1 : Hid (bytesI r1) := Lib.hid fun x hx => HOK.out x (by rw [HR1'.out] at hx; exact List.mem_of_mem_drop hx)
          have dq : ((q : Int) == 0) = false := by simp; omega
          have hg0 := (takeL_ok HT.out (bytesI_ok hbr.out))
          have g0 := hg0.1
          have g1 := hg0.2.1
          clear hg0
          go_wp2_with fail
          refine (take_n (r := r1) (by omega) (HR1.out.dr HD1.out) (by omega) hb1.out).mono ?_
          rintro e w2 ⟨rfl, hd2⟩
          have HD2 := Lib.hid (Dr.trans HD1.out hd2); clear hd2
          rcases ht2 : takeL r1 with _ | ⟨m, r2⟩
          · rw [(tk_none ht2).1, (tk_none ht2).2]
            have hn := unpackGo_none2 acc (la + 1) HT.out ht2
            rw [HI.out.eq] at hn
            have HN := Lib.hid hn; clear hn ht2
            go_wp2_with fail
            go_ret2
            rw [(upk_none HN.out).1, (upk_none HN.out).2]
            exact ⟨none, 0, rfl, Own.nil _ _ _ _, Dr.below HI.out.bel HD2.out⟩
          · obtain ⟨hG2, q2, hq2, hql2, hr2, hN2⟩ := tk_some ht2
            rw [hG2, hN2]
            clear hG2 hN2
            have hm0 := takeL_ok ht2 (bytesI_ok hb1.out)
            have m0 := hm0.1
            have m1 := hm0.2.1
            clear hm0
            have HU := Lib.hid (unpackGo_step acc (la + 1) HT.out ht2)
            have HT2 := Lib.hid ht2; clear ht2
            have HR2' : Hid (r2 = bs.drop (k + q + q2)) := Lib.hid (by rw [hr2, HR1'.out, List.drop_drop])
            clear hr2
            have dq2 : ((q2 : Int) == 0) = false := by simp; omega
            have n1 := HI.out.n1
            have n2 := HI.out.n2
            by_cases hbig : 300 < la + g + 1 + m
            · go_wp2_with fail
              go_ret2
              have hn := HU.out
              rw [if_pos (by omega), HI.out.eq] at hn
              rw [(upk_none hn).1, (upk_none hn).2]
              exact ⟨none, 0, rfl, Own.nil _ _ _ _, Dr.below HI.out.bel HD2.out⟩
            · have hacc := (upto_isS HI.out.upt (by omega)).length_le
              go_wp2_with fail
              go_loopw [4, 11] (fun v i wq => ∃ t : Nat, t ≤ m.toNat + 1 ∧ i = .int .i64 (la + g + 1 + t) ∧ Own wq w.heap.size 3 .i64 v (acc ++ seg (la + 1 + g) t) ∧ Below w.heap.size w wq) (fun _ i _ => m.toNat + 1 - (intOf i - (la + g + 1)).toNat)
              case atStart => exact ⟨0, by omega, by go_num, (HI.out.own.dr HD2.out).of_eq (by simp [seg]), Dr.below HI.out.bel HD2.out⟩
              case round =>
                obtain ⟨t, ht, rfl, hown, hb⟩ := hrel
                have HO := Lib.hid hown; clear hown
                have HB := Lib.hid hb; clear hb
                by_cases hlt2 : t < m.toNat + 1
                · have j1 : la + g + 1 + (t : Int) ≤ la + g + 1 + m := by omega
                  have hls : (acc ++ seg (la + 1 + g) t).length ≤ 1000000 := by rw [List.length_append, seg_len]; omega
                  go_wp2_with (at_builtin; refine app_int rfl _ _ rfl w.heap.size _ _ (la + g + 1 + (t : Int)) rfl (HO.out.alloc _) ⟨wr.heap.size, 0, none⟩ 1 rfl (new_cell _ _ _) hls (size_alloc HB.out.size _) ?_; intro v' w' hown' hb')
                  go_roundw
                  case rel => exact ⟨t + 1, by omega, by go_num, hown'.of_eq (by rw [seg_succ, List.append_assoc, show la + g + 1 + (t : Int) = la + 1 + g + (t : Int) by omega]), (HB.out.alloc HB.out.size _).trans (hb'.mono (Nat.le_refl _))⟩
                  case measure => simp [intOf]; omega
                · have j1 : ¬ la + g + 1 + (t : Int) ≤ la + g + 1 + m := by omega
                  obtain rfl : t = m.toNat + 1 := by omega
                  have HN := Lib.hid (HI.out.upt.step (by omega) g0 m0)
                  have HE := HU.out
                  rw [if_neg (by omega), HI.out.eq] at HE
                  have HEQ := Lib.hid HE; clear HE
                  go_wp2_with fail
                  go_roundw
                  case rel => exact ⟨acc ++ seg (la + 1 + g) (m.toNat + 1), r2, la + g + 1 + m, k + q + q2, rfl, by go_num, ⟨HO.out, by omega, HR2'.out, by omega, by omega, by rw [show la + g + 1 + m + 1 = la + 1 + g + m + 1 by omega]; exact HN.out, by rw [show la + g + 1 + m + 1 = la + 1 + g + m + 1 by omega]; exact HEQ.out.symm, HB.out⟩⟩
                  case measure => simp only [intOf]; omega
    · have hkl : k = bs.length := by omega
      have hr0 : r = [] := by rw [HI.out.rest, hkl]; simp
      have hE : unpackGo [] 1 bs = some acc := by rw [← HI.out.eq, hr0, unpackGo_nil]
      have hS := upto_isS HI.out.upt (by have := HI.out.n2; omega)
      obtain ⟨V, cv, rfl, _, _, _⟩ := HI.out.own.out
      have HK := Lib.hid (HI.out.own.lk' (by have := hS.length_le; omega) hS.is64)
      have hsz := HI.out.bel.size
      have HEE := Lib.hid hE; clear hE
      have HSS := Lib.hid hS; clear hS
      go_wp2_with fail
      refine (refPack_yes V cv acc _ HK.out ((IsS.iff acc).2 HSS.out)).mono ?_
      rintro e w3 ⟨pv, rfl, hpo, hpb⟩
      obtain ⟨PV, pc, rfl, _, _, hpr⟩ := hpo.out
      have v1 := conv_bytes hpr pc
      have HPB := Lib.hid (HI.out.bel.trans (hpb.mono hsz))
      have HOW := Lib.hid (HI.out.own.below hpb (Nat.le_refl _)); clear hpb hpo hpr
      have v2 := conv_bytes (HR.out.below HPB.out) c
      by_cases hq : packL 1 (rangesL acc) = bs
      · have HG := Lib.hid (upk_good HEE.out hq)
        rw [hq] at v1
        rw [hq]
        go_wp2_with fail
        go_ret2
        rw [HG.out.1, HG.out.2]
        exact .ok rfl HOW.out HPB.out
      · have hb9 : bytesI (packL 1 (rangesL acc)) := packL_ok _ 1 (by omega) (rangesL_ok _ acc rfl HSS.out).1
        have hne : ((strOfNums (packL 1 (rangesL acc))).toList == (strOfNums bs).toList) = false := by
          rw [Lib.strOfNums_toList, Lib.strOfNums_toList, beq_eq_false_iff_ne]
          intro e
          have h' := congrArg (fun b : List UInt8 => b.map fun u => (u.toNat : Int)) e
          simp only [Lib.bytesOf] at h'
          rw [nums_back _ hb9, nums_back _ HOK.out] at h'
          exact hq h'
        have HG := Lib.hid (upk_bad HEE.out hq)
        clear hq
        go_wp2_with fail
        go_ret2
        rw [HG.out.1, HG.out.2]
        exact ⟨none, 0, rfl, Own.nil _ _ _ _, HPB.out⟩
end Go.Proofs.Ytoldjpnkgdhpkaa
