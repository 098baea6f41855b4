/- Unpack of the reference. -/
import Derived.Test.YtiddnacmopfamaaDoorKyPd
namespace Go.Proofs.YtiddnacmopfamaaDoor
open Go.RowKit
set_option linter.unusedVariables false
set_option linter.unusedSimpArgs false
set_option maxRecDepth 40000

theorem parF_bad {last : ByteArray} {n m : UInt8} {r : List UInt8} {acc : List ByteArray} (h : last.size < n.toNat ∨ r.length < m.toNat) : parF last (n :: m :: r) acc = none := by rw [parF, if_pos h]
theorem parF_good {last : ByteArray} {n m : UInt8} {r : List UInt8} {acc : List ByteArray} (h : ¬ (last.size < n.toNat ∨ r.length < m.toNat)) : parF last (n :: m :: r) acc = parF (keyB last n.toNat m.toNat r) (r.drop m.toNat) (acc ++ [keyB last n.toNat m.toNat r]) := by rw [parF, if_neg h]
theorem parF_one (last : ByteArray) (x : UInt8) (acc : List ByteArray) : parF last [x] acc = none := by rw [parF]
theorem parF_nil (last : ByteArray) (acc : List ByteArray) : parF last [] acc = some acc := by rw [parF]
theorem parR_none {b : List UInt8} (h : parF nos b [] = none) : parR b = ([], 11) := by unfold parR; rw [h]
theorem parR_some {b : List UInt8} {l : List ByteArray} (h : parF nos b [] = some l) : parR b = if packR l = (b, 0) then (l, 0) else ([], 11) := by unfold parR; rw [h]

set_option maxHeartbeats 16000000 in
theorem refUnpack_any (A : Option Addr) (b : List UInt8) (c : Nat) (w : World) (hl : b.length ≤ 200000) (hc : b.length ≤ c) (hm : c ≤ maxLen) (hr : Rd w w.heap.size .u8 A (bI b)) :
    Calls Tryd.prog 49 #[.slice A b.length c] w (URes w (parR b)) := by
  unfold maxLen at hm
  have HR := Lib.hid hr; clear hr
  have HNONE := Lib.hid (fun h => parR_none (b := b) h)
  have HSOME := Lib.hid (fun l h => parR_some (b := b) (l := l) h)
  generalize parR b = r at *
  obtain ⟨L, hL⟩ : ∃ L, L = b.length := ⟨_, rfl⟩
  rw [← hL] at hl hc ⊢
  have HL0 := Lib.hid hL; clear hL
  go_enter Tryd.func49, Tryd.ntmps49
  go_wp2_with fail
  go_loopw [4, 5, 6] (fun o l i wr => ∃ (p : Nat) (last : ByteArray) (acc : List ByteArray), p ≤ L ∧ i = .int .i64 p ∧ l = .string last ∧ last.size ≤ 600 ∧ acc.length ≤ p ∧ Hid (∀ s ∈ acc, s.size ≤ 600) ∧ OwnS wr w.heap.size o acc ∧ Hid (parF nos b [] = parF last (b.drop p) acc) ∧ Below w.heap.size w wr) (fun _ _ i _ => L - (intOf i).toNat)
  case atStart => exact ⟨0, nos, [], by omega, rfl, rfl, by decide, by simp, Lib.hid (fun s hs => by simp at hs), OwnS.nil _ _, Lib.hid rfl, Below.refl _ _⟩
  case round =>
    obtain ⟨p, last, acc, hp, rfl, rfl, hlast, hacc, HSZ, hown, HREL, hbel⟩ := hrel
    have HO := Lib.hid hown
    have HB := Lib.hid hbel
    by_cases hpl : p < L
    · clear hown hbel
      obtain ⟨lb, hlb⟩ : ∃ lb, lb = b.drop p := ⟨_, rfl⟩
      have HLB := Lib.hid hlb
      have HLN : Hid (lb.length = L - p) := Lib.hid (by rw [hlb, List.length_drop, ← HL0.out])
      rw [← hlb] at HREL
      clear hlb
      have i1 : (p : Int) < L := by omega
      have i0 : (0 : Int) ≤ p := by omega
      match lb, HLB, HLN, HREL with
      | [], HLB, HLN, HREL => exact absurd HLN.out (by simp; omega)
      | [x], HLB, HLN, HREL =>
        have hp2 : L = p + 1 := by have := HLN.out; simp at this; omega
        have HE := Lib.hid (HNONE.out (by rw [HREL.out]; exact parF_one _ _ _))
        have i2 : (L : Int) < p + 2 := by omega
        clear hp2
        go_wp2_with fail
        go_ret2
        exact URes.of HE.out (OwnS.nil _ _) HB.out
      | n :: m :: rr, HLB, HLN, HREL =>
        have hln : rr.length + 2 = L - p := by have := HLN.out; simpa using this
        obtain ⟨ad, rfl, hadb, hcells⟩ := HR.out (by rw [bI_len, ← HL0.out]; omega)
        have hget : ∀ q, (n :: m :: rr).getD q 0 = b.getD (p + q) 0 := fun q => by rw [HLB.out]; simp [List.getD, List.getElem?_drop]
        have k0 := (HB.out.cell (p := ad.add p) (by rw [block_of_plus]; exact hadb)).trans (hcells p (by rw [bI_len, ← HL0.out]; omega))
        have k1 := (HB.out.cell (p := ad.add (p + 1)) (by rw [block_of_plus]; exact hadb)).trans (hcells (p + 1) (by rw [bI_len, ← HL0.out]; omega))
        rw [bI_getD] at k0 k1
        have g0 := hget 0
        have g1 := hget 1
        rw [Nat.add_zero] at g0
        rw [← g0] at k0
        rw [← g1] at k1
        simp only [List.getD_cons_zero, List.getD_cons_succ] at k0 k1
        have k1' : wr.cell? ⟨ad.block, ad.off + (p + 1), none⟩ = some (.int .u8 (m.toNat : Int)) := by simpa [Addr.add] using k1
        clear k1
        clear hcells hget g0 g1
        have hnb := byte_lt n
        have hmb := byte_lt m
        have i2 : ¬ (L : Int) < p + 2 := by omega
        have i3 : (p : Int) + 1 < L := by omega
        have i3' : (0 : Int) ≤ (p : Int) + 1 := by omega
        have t1 : ((p : Int) + 1).toNat = p + 1 := by omega
        have HBAD := Lib.hid (fun h => parF_bad (last := last) (n := n) (m := m) (r := rr) (acc := acc) h)
        have HGD := Lib.hid (fun h => parF_good (last := last) (n := n) (m := m) (r := rr) (acc := acc) h)
        by_cases h1 : last.size < n.toNat
        · have HE := Lib.hid (HNONE.out (by rw [HREL.out]; exact HBAD.out (.inl h1)))
          have j1 : (last.size : Int) < n.toNat := by omega
          go_wp2_with fail
          go_ret2
          exact URes.of HE.out (OwnS.nil _ _) HB.out
        have j1 : ¬ (last.size : Int) < n.toNat := by omega
        by_cases h2 : rr.length < m.toNat
        · have HE := Lib.hid (HNONE.out (by rw [HREL.out]; exact HBAD.out (.inr h2)))
          have j2 : (L : Int) < p + 2 + (m.toNat : Int) := by omega
          go_wp2_with fail
          go_ret2
          exact URes.of HE.out (OwnS.nil _ _) HB.out
        have j2 : ¬ (L : Int) < p + 2 + (m.toNat : Int) := by omega
        have HPR := Lib.hid (HREL.out.trans (HGD.out (by omega)))
        have i5 : (n.toNat : Int) ≤ last.size := by omega
        have i6 : (p : Int) + 2 + (m.toNat : Int) ≤ L := by omega
        have i7 : (p : Int) + 2 + (m.toNat : Int) ≤ c := by omega
        have i8 : (0 : Int) ≤ n.toNat := by omega
        have i9 : (p : Int) + 2 ≤ p + 2 + (m.toNat : Int) := by omega
        have i11 : (0 : Int) ≤ (p : Int) + 2 := by omega
        have t2 : ((p : Int) + 2).toNat = p + 2 := by omega
        have t3 : ((p : Int) + 2 + (m.toNat : Int)).toNat = p + 2 + m.toNat := by omega
        have hks := keyB_size (last := last) (n := n.toNat) (m := m.toNat) (r := rr) (by omega) (by omega)
        have HKA := Lib.hid (keyB_app last n.toNat m.toNat rr (by omega))
        have hz1 : (last.extract 0 n.toNat).size = n.toNat := by rw [ByteArray.size_extract]; omega
        have hz2 : (BA (rr.take m.toNat)).size = m.toNat := by rw [BA_size, List.length_take]; omega
        have i10 : ¬ (9223372036854775807 < (last.extract 0 n.toNat).size + (BA (rr.take m.toNat)).size) := by omega
        have HR2 : Hid (∀ A2 W, Below w.heap.size w W → A2 = (if c = p + 2 then some ad else (some ad).map (·.add (p + 2))) → Rd W w.heap.size .u8 A2 (bI (rr.take m.toNat))) := Lib.hid (fun A2 W hb e => by
          have h := ((HR.out.below hb).cut (c := c) (p + 2) (by rw [bI_len, ← HL0.out]; omega) (by rw [bI_len, ← HL0.out]; omega)).takeN m.toNat
          rw [← e, ← bI_drop, ← bI_take] at h
          have e2 : b.drop (p + 2) = rr := by rw [← List.drop_drop, ← HLB.out]; rfl
          rw [e2] at h
          exact h)
        have HCV : Hid (∀ A2 c2 W, Below w.heap.size w W → A2 = (if c = p + 2 then some ad else (some ad).map (·.add (p + 2))) → (convert 73 9 (.slice A2 m.toNat c2)).run Tryd.prog W = .ok (.string (BA (rr.take m.toNat))) W) := Lib.hid (fun A2 c2 W hd e => by
          have h := conv_bytes (HR2.out A2 W hd e) c2
          rw [strOf_bI, bI_len, List.length_take, Nat.min_eq_left (by omega)] at h
          exact h)
        have hk600 : (keyB last n.toNat m.toNat rr).size ≤ 600 := by omega
        have HDROP : Hid (b.drop (p + 2 + m.toNat) = rr.drop m.toNat) := Lib.hid (by
          rw [← List.drop_drop, ← List.drop_drop, ← HLB.out]; rfl)
        have hacc2 : acc.length ≤ 200000 := by omega
        clear hz1 hz2 h1 h2 HGD HBAD
        generalize keyB last n.toNat m.toNat rr = k at *
        have hcs : (c = p + 2) ∨ ¬ (c = p + 2) := by omega
        have HPL : Hid (p + 2 + m.toNat ≤ L) := Lib.hid (by omega)
        clear hln
        rcases hcs with hc2 | hc2
        · have hc2t : (c = p + 2) = True := eq_true hc2
          have HC2 := Lib.hid hc2; clear hc2
          have hcv := HCV.out (some ad) (c - (p + 2)) wr HB.out (by rw [if_pos HC2.out])
          have hcv3 : ∀ q, _ := fun q => HCV.out (some ad) (c - (p + 2)) (wr.drewN q) (Dr.below HB.out ⟨q, rfl⟩) (by rw [if_pos HC2.out])
          go_wp2_with fail
          go_quiet (fail)
          clear hcv hcv3
          have HOq := Lib.hid (HO.out.dr ((Dr.refl wr).step nq))
          have HBq := Lib.hid (Dr.below HB.out ((Dr.refl wr).step nq))
          generalize wr.drewN nq = wq at *
          rw [HKA.out]
          have HO9 := Lib.hid (HOq.out.alloc (.cells #[.string k] 9))
          have HB9 := Lib.hid (HBq.out.alloc HBq.out.size (.cells #[.string k] 9))
          have HC9 := Lib.hid (new_cell wq (.string k) 9)
          go_wp2_with (at_builtin; refine app_str rfl (.tmp 65) (.tmp 67) rfl w.heap.size _ _ k rfl HO9.out ⟨wq.heap.size, 0, none⟩ 1 rfl HC9.out (by omega) HB9.out.size ?_; intro v4 w4 ho4 hb4 _; have HO4 := Lib.hid ho4; have HB4 := Lib.hid (HB9.out.trans hb4); clear ho4 hb4)
          go_roundw
          case rel => exact ⟨p + 2 + m.toNat, k, acc ++ [k], HPL.out, by simp, rfl, hk600, by simp; omega, Lib.hid (fun s hs => by rcases List.mem_append.1 hs with h | h; exact HSZ.out s h; rw [List.mem_singleton.1 h]; exact hk600), HO4.out, Lib.hid (by rw [HPR.out, HDROP.out]), HB4.out⟩
          case measure => simp [intOf]; omega
        · have hcv := HCV.out (some ⟨ad.block, ad.off + (p + 2), none⟩) (c - (p + 2)) wr HB.out (by rw [if_neg hc2]; simp [Addr.add])
          have hcv3 : ∀ q, _ := fun q => HCV.out (some ⟨ad.block, ad.off + (p + 2), none⟩) (c - (p + 2)) (wr.drewN q) (Dr.below HB.out ⟨q, rfl⟩) (by rw [if_neg hc2]; simp [Addr.add])
          go_wp2_with fail
          go_quiet (fail)
          clear hcv hcv3
          have HOq := Lib.hid (HO.out.dr ((Dr.refl wr).step nq))
          have HBq := Lib.hid (Dr.below HB.out ((Dr.refl wr).step nq))
          generalize wr.drewN nq = wq at *
          rw [HKA.out]
          have HO9 := Lib.hid (HOq.out.alloc (.cells #[.string k] 9))
          have HB9 := Lib.hid (HBq.out.alloc HBq.out.size (.cells #[.string k] 9))
          have HC9 := Lib.hid (new_cell wq (.string k) 9)
          go_wp2_with (at_builtin; refine app_str rfl (.tmp 65) (.tmp 67) rfl w.heap.size _ _ k rfl HO9.out ⟨wq.heap.size, 0, none⟩ 1 rfl HC9.out (by omega) HB9.out.size ?_; intro v4 w4 ho4 hb4 _; have HO4 := Lib.hid ho4; have HB4 := Lib.hid (HB9.out.trans hb4); clear ho4 hb4)
          go_roundw
          case rel => exact ⟨p + 2 + m.toNat, k, acc ++ [k], HPL.out, by simp, rfl, hk600, by simp; omega, Lib.hid (fun s hs => by rcases List.mem_append.1 hs with h | h; exact HSZ.out s h; rw [List.mem_singleton.1 h]; exact hk600), HO4.out, Lib.hid (by rw [HPR.out, HDROP.out]), HB4.out⟩
          case measure => simp [intOf]; omega
    · have hpe : p = L := by omega
      have HPS : Hid (parF nos b [] = some acc) := Lib.hid (by
        rw [HREL.out, hpe, HL0.out, List.drop_length]; exact parF_nil _ _)
      have HRS := Lib.hid (HSOME.out _ HPS.out)
      have hacc2 : acc.length ≤ 140737488355328 := by omega
      obtain ⟨Ao, co, rfl, hrs⟩ := hown.out
      have HPK := Lib.hid (refPack_any Ao acc co wr hacc2 hrs (fun s hs => by have := HSZ.out s hs; omega))
      have HCB : Hid (∀ W, Below w.heap.size w W → (convert 73 9 (.slice A L c)).run Tryd.prog W = .ok (.string (BA b)) W) := Lib.hid (fun W hb => by
        have h := conv_bytes (HR.out.below hb) c
        rw [strOf_bI, bI_len, ← HL0.out] at h
        exact h)
      clear hown hbel hpe hrs
      generalize packR acc = q at *
      obtain ⟨ql, qe⟩ := q
      go_wp2_with fail
      refine (HPK.out).mono ?_
      rintro e w1 ⟨v, rfl, ho1, hb1⟩
      have HB1 := Lib.hid (HB.out.trans (hb1.mono HB.out.size))
      have HO1 := Lib.hid (HO.out.below hb1 (Nat.le_refl _)); clear hb1
      have hcv1 := conv_own ho1
      rw [strOf_bI] at hcv1
      have hcv2 := HCB.out w1 HB1.out
      obtain ⟨Av, cv, rfl⟩ := len_own ho1
      clear ho1
      by_cases he : qe = 0
      · subst he
        by_cases hq : ql = b
        · have HE : Hid (r = (acc, 0)) := Lib.hid (by rw [HRS.out, if_pos (by rw [hq])])
          have hb : ((BA ql).toList == (BA b).toList) = true := by rw [hq]; simp
          clear hq
          go_wp2_with fail
          go_ret2
          exact URes.of HE.out HO1.out HB1.out
        · have HE : Hid (r = ([], 11)) := Lib.hid (by rw [HRS.out, if_neg (fun h => hq (congrArg Prod.fst h))])
          have hb : ((BA ql).toList == (BA b).toList) = false := by
            rw [Lib.toList_data, Lib.toList_data, BA_data, BA_data]; simpa using hq
          clear hq
          go_wp2_with fail
          go_ret2
          exact URes.of HE.out (OwnS.nil _ _) HB1.out
      · have HE : Hid (r = ([], 11)) := Lib.hid (by rw [HRS.out, if_neg (fun h => he (congrArg Prod.snd h))])
        have he' : (qe != 0) = true := by simpa using he
        clear he
        go_wp2_with fail
        go_ret2
        exact URes.of HE.out (OwnS.nil _ _) HB1.out
end Go.Proofs.YtiddnacmopfamaaDoor
