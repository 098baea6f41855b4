/- Pack of the reference. -/
import Derived.Test.YtiddnacmopfamaaDoorKyPa
namespace Go.Proofs.YtiddnacmopfamaaDoor
open Go.RowKit
set_option linter.unusedVariables false
set_option linter.unusedSimpArgs false
set_option maxRecDepth 40000

theorem cmp_flip : ∀ (a b : List UInt8), Lib.compareBytes b a = - Lib.compareBytes a b
  | [], [] => by simp [Lib.compareBytes]
  | [], _ :: _ => by simp [Lib.compareBytes]
  | _ :: _, [] => by simp [Lib.compareBytes]
  | a :: xs, b :: ys => by
    have ih := cmp_flip xs ys
    rw [Lib.compareBytes, Lib.compareBytes]
    simp only [UInt8.lt_iff_toNat_lt]
    by_cases h1 : a.toNat < b.toNat
    · rw [if_neg (by omega), if_pos h1, if_pos h1]; rfl
    · by_cases h2 : b.toNat < a.toNat
      · rw [if_pos h2, if_neg h1, if_pos h2]
      · rw [if_neg h2, if_neg h1, if_neg h1, if_neg h2, ih]
theorem add00 (g n : Nat) : (⟨g, 0, none⟩ : Addr).add n = ⟨g, n, none⟩ := by
  unfold Addr.add
  by_cases h : n = 0 <;> simp [h]
theorem bI_getD (l : List UInt8) (q : Nat) : (bI l).getD q 0 = (((l.getD q 0).toNat : Nat) : Int) := by
  unfold bI
  simp only [List.getD, List.getElem?_map]
  cases l[q]? <;> rfl
theorem cmp_first (b : List UInt8) : ¬ Lib.compareBytes b [] < 0 := by
  cases b <;> simp [Lib.compareBytes]

set_option maxHeartbeats 16000000 in
theorem refPack_any (A : Option Addr) (ss : List ByteArray) (cap : Nat) (w : World) (hl : ss.length ≤ 140737488355328) (hr : RdS w A ss) (hz : ∀ s ∈ ss, s.size ≤ 140737488355328) :
    Calls Tryd.prog 47 #[.slice A ss.length cap] w (PRes w (packR ss)) := by
  have HR := Lib.hid hr; clear hr
  have HZ : Hid (∀ j, j < ss.length → (ss.getD j nos).size ≤ 140737488355328) := Lib.hid (fun j hj => by
    have e : ss.getD j nos = ss[j] := by simp [List.getD, hj]
    rw [e]; exact hz _ (List.getElem_mem hj))
  clear hz
  by_cases h300 : 300 < ss.length
  · have HE : Hid (packR ss = ([], 3)) := Lib.hid (by unfold packR; rw [if_pos h300])
    have i1 : (300 : Int) < ss.length := by omega
    generalize packR ss = r at *
    go_enter Tryd.func47, Tryd.ntmps47
    go_wp2_with fail
    go_ret2
    exact PRes.of HE.out (Own.nil _ _ _ _) (Below.refl _ _)
  have i1 : ¬ (300 : Int) < ss.length := by omega
  have HP : Hid (packR ss = if bigS ss = true then ([], 3) else packF nos ss []) := Lib.hid (by unfold packR; rw [if_neg h300])
  generalize packR ss = r at *
  go_enter Tryd.func47, Tryd.ntmps47
  go_wp2_with fail
  go_loop [4] (fun i => ∃ k : Nat, k ≤ ss.length ∧ i = .int .i64 k ∧ bigS (ss.take k) = false) (fun i => ss.length - (intOf i).toNat)
  case atStart => exact ⟨0, by omega, rfl, by simp [bigS]⟩
  case round =>
    obtain ⟨k, hk, rfl, hno⟩ := hrel
    have HNO := Lib.hid hno; clear hno
    by_cases hlt : k < ss.length
    · obtain ⟨ad, rfl, hbad, hcell⟩ := HR.out k hlt
      have hzk := HZ.out k hlt
      have HT := Lib.hid (bigS_take hlt)
      have HI := Lib.hid (fun h => bigS_hit hlt h)
      generalize ss.getD k nos = x at *
      by_cases hx : 100 < x.size
      · have i2 : (100 : Int) < x.size := by omega
        have HE : Hid (r = ([], 3)) := Lib.hid (by rw [HP.out, if_pos (HI.out hx)])
        clear hx
        go_wp2_with fail
        go_ret2
        exact PRes.of HE.out (Own.nil _ _ _ _) (Below.refl _ _)
      · have i2 : ¬ (100 : Int) < x.size := by omega
        have HN : Hid (bigS (ss.take (k + 1)) = false) := Lib.hid (by rw [HT.out, HNO.out]; simpa using hx)
        clear hx
        go_wp2_with fail
        go_round
        case rel => exact ⟨k + 1, by omega, by go_num, HN.out⟩
        case measure => simp [intOf]; omega
    · have hkl : k = ss.length := by omega
      have HB0 : Hid (bigS ss = false) := Lib.hid (by have := HNO.out; rw [hkl, List.take_length] at this; exact this)
      have HPF : Hid (r = packF nos ss []) := Lib.hid (by rw [HP.out, HB0.out, if_neg (by simp)])
      clear hkl HP HNO
      go_wp2_with fail
      go_loopw [5, 6, 7] (fun o l i wr => ∃ (j : Nat) (last : ByteArray) (acc : List UInt8), j ≤ ss.length ∧ l = .string last ∧ i = .int .i64 j ∧ last.size ≤ 100 ∧ acc.length ≤ 102 * j ∧ Own wr w.heap.size 5 .u8 o (bI acc) ∧ Hid (r = packF last (ss.drop j) acc) ∧ (j = 0 → last = nos) ∧ Below w.heap.size w wr) (fun _ _ i _ => ss.length - (intOf i).toNat)
      case atStart => exact ⟨0, nos, [], by omega, rfl, rfl, by decide, by simp, Own.nil _ _ _ _, HPF, fun _ => rfl, Below.refl _ _⟩
      case round =>
        obtain ⟨j, last, acc, hj, rfl, rfl, hlast, hacc, hown, HREL, hfst, hbel⟩ := hrel
        have HO := Lib.hid hown; clear hown
        have HB := Lib.hid hbel; clear hbel
        by_cases hjl : j < ss.length
        · obtain ⟨ad, rfl, hbad, hcl⟩ := HR.out j hjl
          have hcell := (HB.out.cell (p := ad.add j) (by rw [block_of_plus]; exact hbad)).trans hcl
          have hcl0 := hcl
          clear hcl
          have hx100 := bigS_no HB0.out hjl
          have HBAD := Lib.hid (fun h => packF_bad (last := last) (acc := acc) hjl h)
          have HGOOD := Lib.hid (fun h => packF_good (last := last) (acc := acc) hjl h)
          have hentl := entL_len last (ss.getD j nos)
          generalize ss.getD j nos = x at *
          have HCT := Lib.hid (fun W => cmpTexts_any last x W (by unfold maxLen; omega) (by unfold maxLen; omega))
          have hfl := cmp_flip x.data.toList last.data.toList
          by_cases hc : Lib.compareBytes x.data.toList last.data.toList < 0
          · have hj0 : j ≠ 0 := fun e => by
              rw [hfst e] at hc
              exact cmp_first _ hc
            have HE : Hid (r = ([], 1)) := Lib.hid (by rw [HREL.out]; exact HBAD.out hc)
            have i2 : (0 : Int) < j := by omega
            have i3 : 0 < Lib.compareBytes last.data.toList x.data.toList := by omega
            clear hfst hc hj0 hfl
            generalize Lib.compareBytes last.data.toList x.data.toList = cv at *
            go_wp2_with fail
            refine (HCT.out _).mono ?_
            rintro e w1 ⟨rfl, hb1⟩
            have HB1 := Lib.hid (HB.out.trans (hb1.mono HB.out.size)); clear hb1
            go_wp2_with fail
            go_ret2
            exact PRes.of HE.out (Own.nil _ _ _ _) HB1.out
          · have HG := Lib.hid (HREL.out.trans (HGOOD.out hc))
            have i3 : ¬ 0 < Lib.compareBytes last.data.toList x.data.toList := by omega
            generalize hcv : Lib.compareBytes last.data.toList x.data.toList = cv at *
            clear hc hfl hcv
            have HXE := Lib.hid (fun n => ext_drop x n)
            have HLX := Lib.hid (lcp_le last.data.toList x.data.toList)
            have HEN : Hid (∀ n, lcp last.data.toList x.data.toList = n → n ≤ x.size → bI (entL last x) = [(n : Int), (x.size : Int) - n] ++ bI (x.data.toList.drop n)) := Lib.hid (fun n hn hn2 => by
              unfold entL
              rw [hn, bI_app]
              congr 1
              simp [bI]
              omega)
            have HCELL0 := Lib.hid hcl0
            obtain ⟨wo, rfl⟩ : ∃ wo : World, wo = wr := ⟨_, rfl⟩
            by_cases hj0 : j = 0
            · have i2 : ¬ (0 : Int) < (j : Int) := by omega
              clear hj0
              go_wp2_with fail
              have IJ := Lib.hid hjl
              have ij1 : (0 : Int) ≤ (j : Int) := by omega
              have ij2 : (j : Int) < ss.length := by omega
              have HW0 : Hid (wo = wo) := Lib.hid rfl
              go_loopw [8] (fun t wi => ∃ n : Nat, n ≤ last.size ∧ n ≤ x.size ∧ t = .int .i64 n ∧ Hid (∀ q : Nat, q < n → last.data.toList[q]? = x.data.toList[q]?) ∧ Dr wo wi) (fun t _ => last.size - (intOf t).toNat)
              case atStart => exact ⟨0, by omega, by omega, rfl, Lib.hid (fun j h => by omega), Dr.refl _⟩
              case round =>
                obtain ⟨n, hn1, hn2, rfl, HA, hdr⟩ := hrel
                have hcell := (hdr.cell (ad.add j)).trans hcell
                have HD := Lib.hid hdr; clear hdr
                have i4 : 0 ≤ (n : Int) := by omega
                have hex : (n < last.size ∧ n < x.size) ∨ (n < last.size ∧ ¬ n < x.size) ∨ ¬ n < last.size := by omega
                have HLST : Hid (∀ h : lcp last.data.toList x.data.toList = n, True) := Lib.hid (fun _ => trivial)
                by_cases hgo : ∃ (h1 : n < last.size) (h2 : n < x.size), (((last[n]'h1).toNat : Int) == (x[n]'h2).toNat) = true
                · obtain ⟨h1, h2, hq⟩ := hgo
                  have hs := u8_yes _ _ hq
                  have HN : Hid (∀ q : Nat, q < n + 1 → last.data.toList[q]? = x.data.toList[q]?) := Lib.hid fun q hj => by
                    rcases Nat.lt_or_ge q n with z | z
                    · exact HA.out q z
                    · have : q = n := by omega
                      subst this
                      rw [vbyte_at last q h1, vbyte_at x q h2, hs]
                  have i5 : (n : Int) < last.size := by omega
                  have i6 : (n : Int) < x.size := by omega
                  clear hs HA hex
                  go_wp2_with fail
                  go_quiet (fail)
                  go_wp2_with fail
                  go_roundw
                  case rel => exact ⟨n + 1, by omega, by omega, by go_num, HN, HD.out.step _⟩
                  case measure => simp [intOf]; omega
                · have HLC : Hid (lcp last.data.toList x.data.toList = n) := Lib.hid (lcp_is _ _ n hn1 hn2 HA.out (by
                    by_cases h1 : n < last.size
                    · by_cases h2 : n < x.size
                      · right; right
                        rw [vbyte_at last n h1, vbyte_at x n h2]
                        intro e
                        refine hgo ⟨h1, h2, ?_⟩
                        rw [Option.some.inj e]; simp
                      · right; left; have : x.data.toList.length = x.size := rfl; omega
                    · left; have : last.data.toList.length = last.size := rfl; omega))
                  have HENT := Lib.hid (HEN.out n HLC.out hn2)
                  clear HA HLST
                  have hw1 := u8w n (by omega)
                  have hw2 := u8w (x.size - n) (by omega)
                  rw [show ((x.size - n : Nat) : Int) = (x.size : Int) - n by omega] at hw2
                  have i7 : (n : Int) ≤ x.size := by omega
                  have i8 : (x.size : Int) ≤ 100 := by omega
                  obtain ⟨y, hy⟩ : ∃ y, y = x.extract n x.size := ⟨_, rfl⟩
                  have hyz : y.size ≤ 100 := by rw [hy, ByteArray.size_extract]; omega
                  have HYD : Hid (y.data.toList = x.data.toList.drop n) := Lib.hid (by rw [hy]; exact HXE.out n)
                  have HYE := Lib.hid hy.symm; clear hy
                  have HCV := Lib.hid (fun W : World => run_bytes_of_string (P := Tryd.prog) W 9 73 5 y Tryd.underlying9 Tryd.underlying73 Tryd.underlying5)
                  have HAL : Hid ((bI acc).length ≤ 102 * ss.length) := Lib.hid (by rw [bI_len]; omega)
                  have hq3 : (∃ (h1 : n < last.size) (h2 : n < x.size), (((last[n]'h1).toNat : Int) == (x[n]'h2).toNat) = false) ∨ (n < last.size ∧ ¬ n < x.size) ∨ ¬ n < last.size := by
                    by_cases h1 : n < last.size
                    · by_cases h2 : n < x.size
                      · left
                        refine ⟨h1, h2, ?_⟩
                        cases hq : (((last[n]'h1).toNat : Int) == (x[n]'h2).toNat)
                        · rfl
                        · exact absurd ⟨h1, h2, hq⟩ hgo
                      · right; left; exact ⟨h1, h2⟩
                    · right; right; exact h1
                  clear hgo hex
                  rcases hq3 with ⟨h1, h2, hq⟩ | ⟨h1, h2⟩ | h1
                  · have i5 : (n : Int) < last.size := by omega
                    have i6 : (n : Int) < x.size := by omega
                    go_wp2_with fail
                    go_quiet (fail)
                    have hcell := (((Dr.refl wr).step nq).cell (ad.add j)).trans hcell
                    have HOq := Lib.hid (HO.out.dr (HD.out.step nq))
                    have HBq := Lib.hid (Dr.below HB.out (HD.out.step nq))
                    generalize wr.drewN nq = wq at *
                    have HO2 := Lib.hid (HOq.out.alloc (.cells #[.int .u8 (n : Int), .int .u8 ((x.size : Int) - n)] 5))
                    have HB2 := Lib.hid (HBq.out.alloc HBq.out.size (.cells #[.int .u8 (n : Int), .int .u8 ((x.size : Int) - n)] 5))
                    have HC2 : Hid (∀ q, q < [(n : Int), (x.size : Int) - n].length → (wq.alloc (.cells #[.int .u8 (n : Int), .int .u8 ((x.size : Int) - n)] 5)).cell? ((⟨wq.heap.size, 0, none⟩ : Addr).add q) = some (.int .u8 ([(n : Int), (x.size : Int) - n].getD q 0))) := Lib.hid (fun q hq => by
                      rcases (show q = 0 ∨ q = 1 by simp at hq; omega) with rfl | rfl <;> simp [Addr.add])
                    have HCL : Hid (∀ W, Below w.heap.size w W → W.cell? (ad.add j) = some (.string x)) := Lib.hid (fun W hb => (hb.cell (p := ad.add j) (by rw [block_of_plus]; exact hbad)).trans HCELL0.out)
                    go_wp2_with (first | (at_builtin; refine app_list rfl (.tmp 68) (.tmp 79) rfl w.heap.size _ _ [(n : Int), (x.size : Int) - n] rfl HO2.out ⟨wq.heap.size, 0, none⟩ 2 2 rfl rfl HC2.out (by have := HAL.out; simp; omega) HB2.out.size ?_; intro v3 w3 ho3 hb3 _; have HO3 := Lib.hid ho3; have HB3 := Lib.hid (HB2.out.trans hb3); clear ho3 hb3; have hcell3 := HCL.out w3 HB3.out; have HYE3 := HYE.out; have hcv3 := HCV.out w3; have hbr3 := BRow.new w3.drew y (grownCap w3 y.size 0 5); rw [show w3.drew.heap.size = w3.heap.size from rfl] at hbr3; have hbl3 : Below w3.heap.size w3 (w3.drew.alloc (.cells (bytesRow y (grownCap w3 y.size 0 5)) 5 ((bytesRow y (grownCap w3 y.size 0 5)).size, (bytesRow y (grownCap w3 y.size 0 5)).size + 1))) := (((Below.refl _ _).drew).alloc (by simp) _); generalize hcp : grownCap w3 y.size 0 5 = cp at *; generalize w3.drew.alloc (.cells (bytesRow y cp) 5 ((bytesRow y cp).size, (bytesRow y cp).size + 1)) = w5 at *; have HO5 := Lib.hid (HO3.out.below hbl3 (Nat.le_refl _)); have HB5 := Lib.hid (HB3.out.trans (hbl3.mono HB3.out.size)); have HBR := Lib.hid hbr3; have hcell5 := HCL.out w5 HB5.out; clear hbr3 hbl3 hcp hcell) | (at_builtin; refine app_list rfl (.tmp 81) (.tmp 88) rfl w.heap.size _ _ (bI y.data.toList) rfl HO5.out ⟨w3.heap.size, 0, none⟩ y.size cp rfl (by rw [bI_len]; rfl) (fun q hq => by rw [bI_len] at hq; have h := (HBR.out.2 q hq).1; rw [add00, h, bI_getD]) (by have := HAL.out; have h2 : y.data.toList.length = y.size := rfl; rw [List.length_append, bI_len, bI_len] at *; simp at *; omega) HB5.out.size ?_; intro v6 w6 ho6 hb6 _; have HO6 := Lib.hid ho6; have HB6 := Lib.hid (HB5.out.trans hb6); have hcell6 := HCL.out w6 HB6.out; clear ho6 hb6))
                    go_roundw
                    case rel => exact ⟨j + 1, x, acc ++ entL last x, by omega, rfl, by go_num, hx100, by rw [List.length_append]; omega, HO6.out.of_eq (by rw [bI_app, HENT.out, HYD.out, List.append_assoc]), HG, by omega, HB6.out⟩
                    case measure => simp [intOf]; omega
                  · have i5 : (n : Int) < last.size := by omega
                    have i6 : ¬ (n : Int) < x.size := by omega
                    have i9 : decide (n < x.size) = false := by simpa using h2
                    go_wp2_with fail
                    go_quiet (fail)
                    have hcell := (((Dr.refl wr).step nq).cell (ad.add j)).trans hcell
                    have HOq := Lib.hid (HO.out.dr (HD.out.step nq))
                    have HBq := Lib.hid (Dr.below HB.out (HD.out.step nq))
                    generalize wr.drewN nq = wq at *
                    have HO2 := Lib.hid (HOq.out.alloc (.cells #[.int .u8 (n : Int), .int .u8 ((x.size : Int) - n)] 5))
                    have HB2 := Lib.hid (HBq.out.alloc HBq.out.size (.cells #[.int .u8 (n : Int), .int .u8 ((x.size : Int) - n)] 5))
                    have HC2 : Hid (∀ q, q < [(n : Int), (x.size : Int) - n].length → (wq.alloc (.cells #[.int .u8 (n : Int), .int .u8 ((x.size : Int) - n)] 5)).cell? ((⟨wq.heap.size, 0, none⟩ : Addr).add q) = some (.int .u8 ([(n : Int), (x.size : Int) - n].getD q 0))) := Lib.hid (fun q hq => by
                      rcases (show q = 0 ∨ q = 1 by simp at hq; omega) with rfl | rfl <;> simp [Addr.add])
                    have HCL : Hid (∀ W, Below w.heap.size w W → W.cell? (ad.add j) = some (.string x)) := Lib.hid (fun W hb => (hb.cell (p := ad.add j) (by rw [block_of_plus]; exact hbad)).trans HCELL0.out)
                    go_wp2_with (first | (at_builtin; refine app_list rfl (.tmp 68) (.tmp 79) rfl w.heap.size _ _ [(n : Int), (x.size : Int) - n] rfl HO2.out ⟨wq.heap.size, 0, none⟩ 2 2 rfl rfl HC2.out (by have := HAL.out; simp; omega) HB2.out.size ?_; intro v3 w3 ho3 hb3 _; have HO3 := Lib.hid ho3; have HB3 := Lib.hid (HB2.out.trans hb3); clear ho3 hb3; have hcell3 := HCL.out w3 HB3.out; have HYE3 := HYE.out; have hcv3 := HCV.out w3; have hbr3 := BRow.new w3.drew y (grownCap w3 y.size 0 5); rw [show w3.drew.heap.size = w3.heap.size from rfl] at hbr3; have hbl3 : Below w3.heap.size w3 (w3.drew.alloc (.cells (bytesRow y (grownCap w3 y.size 0 5)) 5 ((bytesRow y (grownCap w3 y.size 0 5)).size, (bytesRow y (grownCap w3 y.size 0 5)).size + 1))) := (((Below.refl _ _).drew).alloc (by simp) _); generalize hcp : grownCap w3 y.size 0 5 = cp at *; generalize w3.drew.alloc (.cells (bytesRow y cp) 5 ((bytesRow y cp).size, (bytesRow y cp).size + 1)) = w5 at *; have HO5 := Lib.hid (HO3.out.below hbl3 (Nat.le_refl _)); have HB5 := Lib.hid (HB3.out.trans (hbl3.mono HB3.out.size)); have HBR := Lib.hid hbr3; have hcell5 := HCL.out w5 HB5.out; clear hbr3 hbl3 hcp hcell) | (at_builtin; refine app_list rfl (.tmp 81) (.tmp 88) rfl w.heap.size _ _ (bI y.data.toList) rfl HO5.out ⟨w3.heap.size, 0, none⟩ y.size cp rfl (by rw [bI_len]; rfl) (fun q hq => by rw [bI_len] at hq; have h := (HBR.out.2 q hq).1; rw [add00, h, bI_getD]) (by have := HAL.out; have h2 : y.data.toList.length = y.size := rfl; rw [List.length_append, bI_len, bI_len] at *; simp at *; omega) HB5.out.size ?_; intro v6 w6 ho6 hb6 _; have HO6 := Lib.hid ho6; have HB6 := Lib.hid (HB5.out.trans hb6); have hcell6 := HCL.out w6 HB6.out; clear ho6 hb6))
                    go_roundw
                    case rel => exact ⟨j + 1, x, acc ++ entL last x, by omega, rfl, by go_num, hx100, by rw [List.length_append]; omega, HO6.out.of_eq (by rw [bI_app, HENT.out, HYD.out, List.append_assoc]), HG, by omega, HB6.out⟩
                    case measure => simp [intOf]; omega
                  · have i5 : ¬ (n : Int) < last.size := by omega
                    have i9 : decide (n < last.size) = false := by simpa using h1
                    go_wp2_with fail
                    go_quiet (fail)
                    have hcell := (((Dr.refl wr).step nq).cell (ad.add j)).trans hcell
                    have HOq := Lib.hid (HO.out.dr (HD.out.step nq))
                    have HBq := Lib.hid (Dr.below HB.out (HD.out.step nq))
                    generalize wr.drewN nq = wq at *
                    have HO2 := Lib.hid (HOq.out.alloc (.cells #[.int .u8 (n : Int), .int .u8 ((x.size : Int) - n)] 5))
                    have HB2 := Lib.hid (HBq.out.alloc HBq.out.size (.cells #[.int .u8 (n : Int), .int .u8 ((x.size : Int) - n)] 5))
                    have HC2 : Hid (∀ q, q < [(n : Int), (x.size : Int) - n].length → (wq.alloc (.cells #[.int .u8 (n : Int), .int .u8 ((x.size : Int) - n)] 5)).cell? ((⟨wq.heap.size, 0, none⟩ : Addr).add q) = some (.int .u8 ([(n : Int), (x.size : Int) - n].getD q 0))) := Lib.hid (fun q hq => by
                      rcases (show q = 0 ∨ q = 1 by simp at hq; omega) with rfl | rfl <;> simp [Addr.add])
                    have HCL : Hid (∀ W, Below w.heap.size w W → W.cell? (ad.add j) = some (.string x)) := Lib.hid (fun W hb => (hb.cell (p := ad.add j) (by rw [block_of_plus]; exact hbad)).trans HCELL0.out)
                    go_wp2_with (first | (at_builtin; refine app_list rfl (.tmp 68) (.tmp 79) rfl w.heap.size _ _ [(n : Int), (x.size : Int) - n] rfl HO2.out ⟨wq.heap.size, 0, none⟩ 2 2 rfl rfl HC2.out (by have := HAL.out; simp; omega) HB2.out.size ?_; intro v3 w3 ho3 hb3 _; have HO3 := Lib.hid ho3; have HB3 := Lib.hid (HB2.out.trans hb3); clear ho3 hb3; have hcell3 := HCL.out w3 HB3.out; have HYE3 := HYE.out; have hcv3 := HCV.out w3; have hbr3 := BRow.new w3.drew y (grownCap w3 y.size 0 5); rw [show w3.drew.heap.size = w3.heap.size from rfl] at hbr3; have hbl3 : Below w3.heap.size w3 (w3.drew.alloc (.cells (bytesRow y (grownCap w3 y.size 0 5)) 5 ((bytesRow y (grownCap w3 y.size 0 5)).size, (bytesRow y (grownCap w3 y.size 0 5)).size + 1))) := (((Below.refl _ _).drew).alloc (by simp) _); generalize hcp : grownCap w3 y.size 0 5 = cp at *; generalize w3.drew.alloc (.cells (bytesRow y cp) 5 ((bytesRow y cp).size, (bytesRow y cp).size + 1)) = w5 at *; have HO5 := Lib.hid (HO3.out.below hbl3 (Nat.le_refl _)); have HB5 := Lib.hid (HB3.out.trans (hbl3.mono HB3.out.size)); have HBR := Lib.hid hbr3; have hcell5 := HCL.out w5 HB5.out; clear hbr3 hbl3 hcp hcell) | (at_builtin; refine app_list rfl (.tmp 81) (.tmp 88) rfl w.heap.size _ _ (bI y.data.toList) rfl HO5.out ⟨w3.heap.size, 0, none⟩ y.size cp rfl (by rw [bI_len]; rfl) (fun q hq => by rw [bI_len] at hq; have h := (HBR.out.2 q hq).1; rw [add00, h, bI_getD]) (by have := HAL.out; have h2 : y.data.toList.length = y.size := rfl; rw [List.length_append, bI_len, bI_len] at *; simp at *; omega) HB5.out.size ?_; intro v6 w6 ho6 hb6 _; have HO6 := Lib.hid ho6; have HB6 := Lib.hid (HB5.out.trans hb6); have hcell6 := HCL.out w6 HB6.out; clear ho6 hb6))
                    go_roundw
                    case rel => exact ⟨j + 1, x, acc ++ entL last x, by omega, rfl, by go_num, hx100, by rw [List.length_append]; omega, HO6.out.of_eq (by rw [bI_app, HENT.out, HYD.out, List.append_assoc]), HG, by omega, HB6.out⟩
                    case measure => simp [intOf]; omega
            · have i2 : (0 : Int) < (j : Int) := by omega
              clear hj0
              go_wp2_with fail
              refine (HCT.out _).mono ?_
              rintro e w1 ⟨rfl, hb1⟩
              have hcell := (hb1.cell (p := ad.add j) (by rw [block_of_plus]; have := HB.out.size; omega)).trans hcell
              have HB1 := Lib.hid (HB.out.trans (hb1.mono HB.out.size))
              have HO1 := Lib.hid (HO.out.below hb1 (Nat.le_refl _)); clear hb1
              go_wp2_with fail
              have IJ := Lib.hid hjl
              have ij1 : (0 : Int) ≤ (j : Int) := by omega
              have ij2 : (j : Int) < ss.length := by omega
              have HW0 : Hid (w1 = w1) := Lib.hid rfl
              go_loopw [8] (fun t wi => ∃ n : Nat, n ≤ last.size ∧ n ≤ x.size ∧ t = .int .i64 n ∧ Hid (∀ q : Nat, q < n → last.data.toList[q]? = x.data.toList[q]?) ∧ Dr w1 wi) (fun t _ => last.size - (intOf t).toNat)
              case atStart => exact ⟨0, by omega, by omega, rfl, Lib.hid (fun j h => by omega), Dr.refl _⟩
              case round =>
                obtain ⟨n, hn1, hn2, rfl, HA, hdr⟩ := hrel
                have hcell := (hdr.cell (ad.add j)).trans hcell
                have HD := Lib.hid hdr; clear hdr
                have i4 : 0 ≤ (n : Int) := by omega
                have hex : (n < last.size ∧ n < x.size) ∨ (n < last.size ∧ ¬ n < x.size) ∨ ¬ n < last.size := by omega
                have HLST : Hid (∀ h : lcp last.data.toList x.data.toList = n, True) := Lib.hid (fun _ => trivial)
                by_cases hgo : ∃ (h1 : n < last.size) (h2 : n < x.size), (((last[n]'h1).toNat : Int) == (x[n]'h2).toNat) = true
                · obtain ⟨h1, h2, hq⟩ := hgo
                  have hs := u8_yes _ _ hq
                  have HN : Hid (∀ q : Nat, q < n + 1 → last.data.toList[q]? = x.data.toList[q]?) := Lib.hid fun q hj => by
                    rcases Nat.lt_or_ge q n with z | z
                    · exact HA.out q z
                    · have : q = n := by omega
                      subst this
                      rw [vbyte_at last q h1, vbyte_at x q h2, hs]
                  have i5 : (n : Int) < last.size := by omega
                  have i6 : (n : Int) < x.size := by omega
                  clear hs HA hex
                  go_wp2_with fail
                  go_quiet (fail)
                  go_wp2_with fail
                  go_roundw
                  case rel => exact ⟨n + 1, by omega, by omega, by go_num, HN, HD.out.step _⟩
                  case measure => simp [intOf]; omega
                · have HLC : Hid (lcp last.data.toList x.data.toList = n) := Lib.hid (lcp_is _ _ n hn1 hn2 HA.out (by
                    by_cases h1 : n < last.size
                    · by_cases h2 : n < x.size
                      · right; right
                        rw [vbyte_at last n h1, vbyte_at x n h2]
                        intro e
                        refine hgo ⟨h1, h2, ?_⟩
                        rw [Option.some.inj e]; simp
                      · right; left; have : x.data.toList.length = x.size := rfl; omega
                    · left; have : last.data.toList.length = last.size := rfl; omega))
                  have HENT := Lib.hid (HEN.out n HLC.out hn2)
                  clear HA HLST
                  have hw1 := u8w n (by omega)
                  have hw2 := u8w (x.size - n) (by omega)
                  rw [show ((x.size - n : Nat) : Int) = (x.size : Int) - n by omega] at hw2
                  have i7 : (n : Int) ≤ x.size := by omega
                  have i8 : (x.size : Int) ≤ 100 := by omega
                  obtain ⟨y, hy⟩ : ∃ y, y = x.extract n x.size := ⟨_, rfl⟩
                  have hyz : y.size ≤ 100 := by rw [hy, ByteArray.size_extract]; omega
                  have HYD : Hid (y.data.toList = x.data.toList.drop n) := Lib.hid (by rw [hy]; exact HXE.out n)
                  have HYE := Lib.hid hy.symm; clear hy
                  have HCV := Lib.hid (fun W : World => run_bytes_of_string (P := Tryd.prog) W 9 73 5 y Tryd.underlying9 Tryd.underlying73 Tryd.underlying5)
                  have HAL : Hid ((bI acc).length ≤ 102 * ss.length) := Lib.hid (by rw [bI_len]; omega)
                  have hq3 : (∃ (h1 : n < last.size) (h2 : n < x.size), (((last[n]'h1).toNat : Int) == (x[n]'h2).toNat) = false) ∨ (n < last.size ∧ ¬ n < x.size) ∨ ¬ n < last.size := by
                    by_cases h1 : n < last.size
                    · by_cases h2 : n < x.size
                      · left
                        refine ⟨h1, h2, ?_⟩
                        cases hq : (((last[n]'h1).toNat : Int) == (x[n]'h2).toNat)
                        · rfl
                        · exact absurd ⟨h1, h2, hq⟩ hgo
                      · right; left; exact ⟨h1, h2⟩
                    · right; right; exact h1
                  clear hgo hex
                  rcases hq3 with ⟨h1, h2, hq⟩ | ⟨h1, h2⟩ | h1
                  · have i5 : (n : Int) < last.size := by omega
                    have i6 : (n : Int) < x.size := by omega
                    go_wp2_with fail
                    go_quiet (fail)
                    have hcell := (((Dr.refl wr).step nq).cell (ad.add j)).trans hcell
                    have HOq := Lib.hid (HO1.out.dr (HD.out.step nq))
                    have HBq := Lib.hid (Dr.below HB1.out (HD.out.step nq))
                    generalize wr.drewN nq = wq at *
                    have HO2 := Lib.hid (HOq.out.alloc (.cells #[.int .u8 (n : Int), .int .u8 ((x.size : Int) - n)] 5))
                    have HB2 := Lib.hid (HBq.out.alloc HBq.out.size (.cells #[.int .u8 (n : Int), .int .u8 ((x.size : Int) - n)] 5))
                    have HC2 : Hid (∀ q, q < [(n : Int), (x.size : Int) - n].length → (wq.alloc (.cells #[.int .u8 (n : Int), .int .u8 ((x.size : Int) - n)] 5)).cell? ((⟨wq.heap.size, 0, none⟩ : Addr).add q) = some (.int .u8 ([(n : Int), (x.size : Int) - n].getD q 0))) := Lib.hid (fun q hq => by
                      rcases (show q = 0 ∨ q = 1 by simp at hq; omega) with rfl | rfl <;> simp [Addr.add])
                    have HCL : Hid (∀ W, Below w.heap.size w W → W.cell? (ad.add j) = some (.string x)) := Lib.hid (fun W hb => (hb.cell (p := ad.add j) (by rw [block_of_plus]; exact hbad)).trans HCELL0.out)
                    go_wp2_with (first | (at_builtin; refine app_list rfl (.tmp 68) (.tmp 79) rfl w.heap.size _ _ [(n : Int), (x.size : Int) - n] rfl HO2.out ⟨wq.heap.size, 0, none⟩ 2 2 rfl rfl HC2.out (by have := HAL.out; simp; omega) HB2.out.size ?_; intro v3 w3 ho3 hb3 _; have HO3 := Lib.hid ho3; have HB3 := Lib.hid (HB2.out.trans hb3); clear ho3 hb3; have hcell3 := HCL.out w3 HB3.out; have HYE3 := HYE.out; have hcv3 := HCV.out w3; have hbr3 := BRow.new w3.drew y (grownCap w3 y.size 0 5); rw [show w3.drew.heap.size = w3.heap.size from rfl] at hbr3; have hbl3 : Below w3.heap.size w3 (w3.drew.alloc (.cells (bytesRow y (grownCap w3 y.size 0 5)) 5 ((bytesRow y (grownCap w3 y.size 0 5)).size, (bytesRow y (grownCap w3 y.size 0 5)).size + 1))) := (((Below.refl _ _).drew).alloc (by simp) _); generalize hcp : grownCap w3 y.size 0 5 = cp at *; generalize w3.drew.alloc (.cells (bytesRow y cp) 5 ((bytesRow y cp).size, (bytesRow y cp).size + 1)) = w5 at *; have HO5 := Lib.hid (HO3.out.below hbl3 (Nat.le_refl _)); have HB5 := Lib.hid (HB3.out.trans (hbl3.mono HB3.out.size)); have HBR := Lib.hid hbr3; have hcell5 := HCL.out w5 HB5.out; clear hbr3 hbl3 hcp hcell) | (at_builtin; refine app_list rfl (.tmp 81) (.tmp 88) rfl w.heap.size _ _ (bI y.data.toList) rfl HO5.out ⟨w3.heap.size, 0, none⟩ y.size cp rfl (by rw [bI_len]; rfl) (fun q hq => by rw [bI_len] at hq; have h := (HBR.out.2 q hq).1; rw [add00, h, bI_getD]) (by have := HAL.out; have h2 : y.data.toList.length = y.size := rfl; rw [List.length_append, bI_len, bI_len] at *; simp at *; omega) HB5.out.size ?_; intro v6 w6 ho6 hb6 _; have HO6 := Lib.hid ho6; have HB6 := Lib.hid (HB5.out.trans hb6); have hcell6 := HCL.out w6 HB6.out; clear ho6 hb6))
                    go_roundw
                    case rel => exact ⟨j + 1, x, acc ++ entL last x, by omega, rfl, by go_num, hx100, by rw [List.length_append]; omega, HO6.out.of_eq (by rw [bI_app, HENT.out, HYD.out, List.append_assoc]), HG, by omega, HB6.out⟩
                    case measure => simp [intOf]; omega
                  · have i5 : (n : Int) < last.size := by omega
                    have i6 : ¬ (n : Int) < x.size := by omega
                    have i9 : decide (n < x.size) = false := by simpa using h2
                    go_wp2_with fail
                    go_quiet (fail)
                    have hcell := (((Dr.refl wr).step nq).cell (ad.add j)).trans hcell
                    have HOq := Lib.hid (HO1.out.dr (HD.out.step nq))
                    have HBq := Lib.hid (Dr.below HB1.out (HD.out.step nq))
                    generalize wr.drewN nq = wq at *
                    have HO2 := Lib.hid (HOq.out.alloc (.cells #[.int .u8 (n : Int), .int .u8 ((x.size : Int) - n)] 5))
                    have HB2 := Lib.hid (HBq.out.alloc HBq.out.size (.cells #[.int .u8 (n : Int), .int .u8 ((x.size : Int) - n)] 5))
                    have HC2 : Hid (∀ q, q < [(n : Int), (x.size : Int) - n].length → (wq.alloc (.cells #[.int .u8 (n : Int), .int .u8 ((x.size : Int) - n)] 5)).cell? ((⟨wq.heap.size, 0, none⟩ : Addr).add q) = some (.int .u8 ([(n : Int), (x.size : Int) - n].getD q 0))) := Lib.hid (fun q hq => by
                      rcases (show q = 0 ∨ q = 1 by simp at hq; omega) with rfl | rfl <;> simp [Addr.add])
                    have HCL : Hid (∀ W, Below w.heap.size w W → W.cell? (ad.add j) = some (.string x)) := Lib.hid (fun W hb => (hb.cell (p := ad.add j) (by rw [block_of_plus]; exact hbad)).trans HCELL0.out)
                    go_wp2_with (first | (at_builtin; refine app_list rfl (.tmp 68) (.tmp 79) rfl w.heap.size _ _ [(n : Int), (x.size : Int) - n] rfl HO2.out ⟨wq.heap.size, 0, none⟩ 2 2 rfl rfl HC2.out (by have := HAL.out; simp; omega) HB2.out.size ?_; intro v3 w3 ho3 hb3 _; have HO3 := Lib.hid ho3; have HB3 := Lib.hid (HB2.out.trans hb3); clear ho3 hb3; have hcell3 := HCL.out w3 HB3.out; have HYE3 := HYE.out; have hcv3 := HCV.out w3; have hbr3 := BRow.new w3.drew y (grownCap w3 y.size 0 5); rw [show w3.drew.heap.size = w3.heap.size from rfl] at hbr3; have hbl3 : Below w3.heap.size w3 (w3.drew.alloc (.cells (bytesRow y (grownCap w3 y.size 0 5)) 5 ((bytesRow y (grownCap w3 y.size 0 5)).size, (bytesRow y (grownCap w3 y.size 0 5)).size + 1))) := (((Below.refl _ _).drew).alloc (by simp) _); generalize hcp : grownCap w3 y.size 0 5 = cp at *; generalize w3.drew.alloc (.cells (bytesRow y cp) 5 ((bytesRow y cp).size, (bytesRow y cp).size + 1)) = w5 at *; have HO5 := Lib.hid (HO3.out.below hbl3 (Nat.le_refl _)); have HB5 := Lib.hid (HB3.out.trans (hbl3.mono HB3.out.size)); have HBR := Lib.hid hbr3; have hcell5 := HCL.out w5 HB5.out; clear hbr3 hbl3 hcp hcell) | (at_builtin; refine app_list rfl (.tmp 81) (.tmp 88) rfl w.heap.size _ _ (bI y.data.toList) rfl HO5.out ⟨w3.heap.size, 0, none⟩ y.size cp rfl (by rw [bI_len]; rfl) (fun q hq => by rw [bI_len] at hq; have h := (HBR.out.2 q hq).1; rw [add00, h, bI_getD]) (by have := HAL.out; have h2 : y.data.toList.length = y.size := rfl; rw [List.length_append, bI_len, bI_len] at *; simp at *; omega) HB5.out.size ?_; intro v6 w6 ho6 hb6 _; have HO6 := Lib.hid ho6; have HB6 := Lib.hid (HB5.out.trans hb6); have hcell6 := HCL.out w6 HB6.out; clear ho6 hb6))
                    go_roundw
                    case rel => exact ⟨j + 1, x, acc ++ entL last x, by omega, rfl, by go_num, hx100, by rw [List.length_append]; omega, HO6.out.of_eq (by rw [bI_app, HENT.out, HYD.out, List.append_assoc]), HG, by omega, HB6.out⟩
                    case measure => simp [intOf]; omega
                  · have i5 : ¬ (n : Int) < last.size := by omega
                    have i9 : decide (n < last.size) = false := by simpa using h1
                    go_wp2_with fail
                    go_quiet (fail)
                    have hcell := (((Dr.refl wr).step nq).cell (ad.add j)).trans hcell
                    have HOq := Lib.hid (HO1.out.dr (HD.out.step nq))
                    have HBq := Lib.hid (Dr.below HB1.out (HD.out.step nq))
                    generalize wr.drewN nq = wq at *
                    have HO2 := Lib.hid (HOq.out.alloc (.cells #[.int .u8 (n : Int), .int .u8 ((x.size : Int) - n)] 5))
                    have HB2 := Lib.hid (HBq.out.alloc HBq.out.size (.cells #[.int .u8 (n : Int), .int .u8 ((x.size : Int) - n)] 5))
                    have HC2 : Hid (∀ q, q < [(n : Int), (x.size : Int) - n].length → (wq.alloc (.cells #[.int .u8 (n : Int), .int .u8 ((x.size : Int) - n)] 5)).cell? ((⟨wq.heap.size, 0, none⟩ : Addr).add q) = some (.int .u8 ([(n : Int), (x.size : Int) - n].getD q 0))) := Lib.hid (fun q hq => by
                      rcases (show q = 0 ∨ q = 1 by simp at hq; omega) with rfl | rfl <;> simp [Addr.add])
                    have HCL : Hid (∀ W, Below w.heap.size w W → W.cell? (ad.add j) = some (.string x)) := Lib.hid (fun W hb => (hb.cell (p := ad.add j) (by rw [block_of_plus]; exact hbad)).trans HCELL0.out)
                    go_wp2_with (first | (at_builtin; refine app_list rfl (.tmp 68) (.tmp 79) rfl w.heap.size _ _ [(n : Int), (x.size : Int) - n] rfl HO2.out ⟨wq.heap.size, 0, none⟩ 2 2 rfl rfl HC2.out (by have := HAL.out; simp; omega) HB2.out.size ?_; intro v3 w3 ho3 hb3 _; have HO3 := Lib.hid ho3; have HB3 := Lib.hid (HB2.out.trans hb3); clear ho3 hb3; have hcell3 := HCL.out w3 HB3.out; have HYE3 := HYE.out; have hcv3 := HCV.out w3; have hbr3 := BRow.new w3.drew y (grownCap w3 y.size 0 5); rw [show w3.drew.heap.size = w3.heap.size from rfl] at hbr3; have hbl3 : Below w3.heap.size w3 (w3.drew.alloc (.cells (bytesRow y (grownCap w3 y.size 0 5)) 5 ((bytesRow y (grownCap w3 y.size 0 5)).size, (bytesRow y (grownCap w3 y.size 0 5)).size + 1))) := (((Below.refl _ _).drew).alloc (by simp) _); generalize hcp : grownCap w3 y.size 0 5 = cp at *; generalize w3.drew.alloc (.cells (bytesRow y cp) 5 ((bytesRow y cp).size, (bytesRow y cp).size + 1)) = w5 at *; have HO5 := Lib.hid (HO3.out.below hbl3 (Nat.le_refl _)); have HB5 := Lib.hid (HB3.out.trans (hbl3.mono HB3.out.size)); have HBR := Lib.hid hbr3; have hcell5 := HCL.out w5 HB5.out; clear hbr3 hbl3 hcp hcell) | (at_builtin; refine app_list rfl (.tmp 81) (.tmp 88) rfl w.heap.size _ _ (bI y.data.toList) rfl HO5.out ⟨w3.heap.size, 0, none⟩ y.size cp rfl (by rw [bI_len]; rfl) (fun q hq => by rw [bI_len] at hq; have h := (HBR.out.2 q hq).1; rw [add00, h, bI_getD]) (by have := HAL.out; have h2 : y.data.toList.length = y.size := rfl; rw [List.length_append, bI_len, bI_len] at *; simp at *; omega) HB5.out.size ?_; intro v6 w6 ho6 hb6 _; have HO6 := Lib.hid ho6; have HB6 := Lib.hid (HB5.out.trans hb6); have hcell6 := HCL.out w6 HB6.out; clear ho6 hb6))
                    go_roundw
                    case rel => exact ⟨j + 1, x, acc ++ entL last x, by omega, rfl, by go_num, hx100, by rw [List.length_append]; omega, HO6.out.of_eq (by rw [bI_app, HENT.out, HYD.out, List.append_assoc]), HG, by omega, HB6.out⟩
                    case measure => simp [intOf]; omega
        · have hjj : j = ss.length := by omega
          have HE : Hid (r = (acc, 0)) := Lib.hid (by rw [HREL.out, hjj]; exact packF_end)
          clear hjj
          go_wp2_with fail
          go_ret2
          exact PRes.of HE.out HO.out HB.out
end Go.Proofs.YtiddnacmopfamaaDoor
