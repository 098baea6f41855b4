/- Sound of the reference. -/
import Derived.Test.YtgeikbcfjidgcaaDoorPgQ
import Derived.Lib.Bytes
namespace Go.Proofs.YtgeikbcfjidgcaaDoor
open Go.RowKit
set_option linter.unusedVariables false
set_option linter.unusedSimpArgs false

def SN (l : List Nat) : ByteArray := strOfNums (l.map Int.ofNat)
theorem SN_nil : SN [] = ⟨#[]⟩ := by decide +kernel
theorem SN_size (l : List Nat) : (SN l).size = l.length := by simp [SN, strOfNums_size]
theorem SN_snoc (l : List Nat) (x : Nat) (z : Int) (h : z = x) : SN l ++ strOfNums [z] = SN (l ++ [x]) := by
  subst h
  apply ByteArray.ext
  simp [SN, strOfNums]
theorem SN_zero (l : List Nat) : SN l ++ ⟨#[48]⟩ = SN (l ++ [48]) := by
  apply ByteArray.ext
  simp [SN, strOfNums]
theorem SN_ne {l : List Nat} (h : l ≠ []) : (SN l).toList.isEmpty = false := by
  obtain ⟨x, r, rfl⟩ := List.exists_cons_of_ne_nil h
  rw [SN, Lib.strOfNums_toList]
  simp [Lib.bytesOf]
def szV : Value → Nat
  | .string t => t.size
  | _ => 0
theorem conv1 (w : World) (z : Int) (W : World) (n : Nat) (hW : W.cell? ⟨n, 0, none⟩ = some (.int .u8 z)) : (convert 46 9 (.slice (some ⟨n, 0, none⟩) 1 1)).run Tryd.prog W = .ok (.string (strOfNums [z])) W :=
  conv_bytes (zs := [z]) (B := n + 1) (fun _ => ⟨_, rfl, by simp, fun j hj => by
    have h0 : j = 0 := by simpa using hj
    subst h0
    simpa [Addr.add] using hW⟩) 1

set_option maxHeartbeats 8000000 in
set_option maxRecDepth 20000 in
theorem refSound_any (s : ByteArray) (w : World) (hs : s.size ≤ maxLen) :
    Calls Tryd.prog 37 #[.string s] w (TRes w (sndT s) (wrongN 0 0 [s])) := by
  by_cases hbig : 2048 < s.size
  · have e2 : wrongN 0 0 [s] = 3 := by simp [wrongN, hbig]
    have e1 : sndT s = ⟨#[]⟩ := by simp [sndT, e2]
    rw [e1, e2]
    have i1 : (2048 : Int) < s.size := by omega
    have i2 : (s.size : Int) ≤ 9223372036854775807 := by unfold maxLen at hs; omega
    clear e1 e2 hbig hs
    go_enter Tryd.func37, Tryd.ntmps37
    go_wp2_with fail
    go_ret2
    exact ⟨rfl, Below.refl _ _⟩
  · have e2 : wrongN 0 0 [s] = 0 := by simp [wrongN, hbig]
    have e1 : sndT s = SN (sndL (sb s)) := by simp [sndT, e2, SN]
    rw [e1, e2]
    have i1 : ¬ (2048 : Int) < s.size := by omega
    have hsz : s.size ≤ 2048 := by omega
    clear e1 e2 hbig hs
    go_enter Tryd.func37, Tryd.ntmps37
    go_wp2_with fail
    go_loopw [4, 5, 6] (fun o la i wr => ∃ k : Nat, k ≤ s.size ∧ i = .int .i64 k ∧ la = .int .i64 (sndGo ((sb s).take k)).2 ∧ o = .string (SN (sndGo ((sb s).take k)).1) ∧ Below w.heap.size w wr) (fun _ _ i _ => s.size - (intOf i).toNat)
    case atStart => exact ⟨0, by omega, rfl, by simp [sndGo], by simp [sndGo, SN_nil], Below.refl _ _⟩
    case round =>
      obtain ⟨k, hk, rfl, rfl, rfl, hbel⟩ := hrel
      have HB := Lib.hid hbel; clear hbel
      by_cases hlt : k < s.size
      · have hks : (k : Int) < s.size := by omega
        have hst := snd_take s hlt
        obtain ⟨i1', i2, i3, i4, i5⟩ := sndI_take s k
        have hb := s[k].toNat_lt
        generalize hbe : s[k].toNat = b at *
        generalize sndGo ((sb s).take k) = st at *
        obtain ⟨out, la⟩ := st
        simp only at i1' i2 i3 i4 i5
        have HST := Lib.hid hst; clear hst
        have HI5 := Lib.hid i5; clear i5
        go_wp2_with fail
        refine (refIsLetter_any b 0 hb (by omega) _).mono ?_
        rintro e w1 ⟨rfl, rfl⟩
        cases hl : letN 0 b
        · have hn : sndStep (out, la) b = (out, la) := by unfold sndStep; rw [hl]; rfl
          have HN := Lib.hid (HST.out.trans hn); clear hn hl
          go_wp2_with fail
          go_roundw
          case rel => exact ⟨k + 1, by omega, by go_num, by rw [HN.out], by rw [HN.out], HB.out⟩
          case measure => simp [intOf]; omega
        · obtain ⟨c1, c2⟩ := let0_tab ⟨b, hb⟩ hl
          simp only at c1 c2
          obtain ⟨d1, d2⟩ := dig_in c1 c2
          have HSU := Lib.hid (fun W => refUpper_any b 0 hb (by omega) W)
          have HSD := Lib.hid (fun W => digit_any (upN 0 b) c1 c2 W)
          have hsd := HST.out
          unfold sndStep at hsd
          rw [if_pos hl] at hsd
          clear HST hl
          generalize upN 0 b = c at *
          generalize digI c = d at *
          have HSD0 := Lib.hid hsd; clear hsd
          go_wp2_with fail
          refine (HSU.out _).mono ?_
          rintro e w2 ⟨rfl, rfl⟩
          go_wp2_with fail
          refine (HSD.out _).mono ?_
          rintro e w2 ⟨rfl, hb2⟩
          have HB2 := Lib.hid (HB.out.trans (hb2.mono HB.out.size)); clear hb2
          have hcv := fun (z : Int) => conv1 w2 z (w2.alloc (.cells #[.int .u8 z] 5)) w2.heap.size (by simp)
          have HCV := Lib.hid hcv; clear hcv
          by_cases ho : out = []
          · subst ho
            obtain rfl : la = 0 := i4 rfl
            have hsd := HSD0.out
            rw [if_pos rfl] at hsd
            have HN := Lib.hid hsd; clear hsd HSD0
            rw [SN_nil]
            have hcv := HCV.out (c : Int)
            have hs1 : strOfNums [(c : Int)] = SN [c] := by simp [SN]
            rw [hs1] at hcv
            clear hs1
            by_cases hd : d < 0
            · have hmx : max d 0 = 0 := by omega
              rw [hmx] at HN
              have hd1 : d = -1 := by omega
              subst hd1
              clear hmx hd
              go_wp2_with fail
              go_roundw
              case rel => exact ⟨k + 1, by omega, by go_num, by rw [HN.out], by rw [HN.out], HB2.out.alloc HB2.out.size _⟩
              case measure => simp [intOf]; omega
            · have hmx : max d 0 = d := by omega
              rw [hmx] at HN
              have hd0 : 0 ≤ d := by omega
              have HMX := Lib.hid hmx; clear hmx hd
              go_wp2_with fail
              go_roundw
              case rel => exact ⟨k + 1, by omega, by go_num, by rw [HN.out], by rw [HN.out], HB2.out.alloc HB2.out.size _⟩
              case measure => simp [intOf]; omega
          · have hsd := HSD0.out
            rw [if_neg ho] at hsd
            have hne := SN_ne ho
            have hsz2 := SN_size out
            have HSN := Lib.hid (fun (x : Nat) (z : Int) h => SN_snoc out x z h)
            have HTT : Hid (∃ t, t = SN out) := Lib.hid ⟨_, rfl⟩
            have hconc : ∀ (x : Nat) (z : Int), z = x → strOfNums [z] = SN [x] := fun x z h => by subst h; simp [SN]
            by_cases hd : d < 0
            · have HN : Hid (sndGo ((sb s).take (k + 1)) = (out, la)) := Lib.hid (by rw [hsd, if_pos hd])
              clear hsd HSD0 ho
              go_wp2_with fail
              go_roundw
              case rel => exact ⟨k + 1, by omega, by go_num, by rw [HN.out], by rw [HN.out], HB2.out⟩
              case measure => simp [intOf]; omega
            · rw [if_neg hd] at hsd
              by_cases h0 : d = 0
              · have HN : Hid (sndGo ((sb s).take (k + 1)) = (out, d)) := Lib.hid (by rw [hsd, if_neg (by omega)])
                subst h0
                clear hsd HSD0 ho hd
                go_wp2_with fail
                go_roundw
                case rel => exact ⟨k + 1, by omega, by go_num, by rw [HN.out], by rw [HN.out], HB2.out⟩
                case measure => simp [intOf]; omega
              · have hd0 : 0 < d := by omega
                by_cases hdl : d = la
                · have HN : Hid (sndGo ((sb s).take (k + 1)) = (out, d)) := Lib.hid (by rw [hsd, if_neg (fun h => h.2.1 hdl)])
                  have g1 : (d != la) = false := by simp [hdl]
                  have HDL := Lib.hid hdl
                  clear hsd HSD0 ho hd h0 hdl
                  go_wp2_with fail
                  go_roundw
                  case rel => exact ⟨k + 1, by omega, by go_num, by rw [HN.out], by rw [HN.out], HB2.out⟩
                  case measure => simp [intOf]; omega
                · have g1 : (d != la) = true := by simp [hdl]
                  by_cases h4 : out.length < 4
                  · have HN : Hid (sndGo ((sb s).take (k + 1)) = (out ++ [(48 + d).toNat], d)) := Lib.hid (by rw [hsd, if_pos ⟨hd0, hdl, h4⟩])
                    have g2 : (out.length : Int) < 4 := by omega
                    have hcv := HCV.out (48 + d)
                    have hs1 : (strOfNums [48 + d]).size = 1 := by simp [strOfNums_size]
                    have HSS := HSN.out (48 + d).toNat (48 + d) (by omega)
                    have HSS2 := Lib.hid HSS; clear HSS
                    generalize strOfNums [48 + d] = u at *
                    clear hsd HSD0 ho hd h0 hdl
                    go_wp2_with fail
                    go_roundw
                    case rel => exact ⟨k + 1, by omega, by go_num, by rw [HN.out], by rw [HN.out, ← HSS2.out], HB2.out.alloc HB2.out.size _⟩
                    case measure => simp [intOf]; omega
                  · have HN : Hid (sndGo ((sb s).take (k + 1)) = (out, d)) := Lib.hid (by rw [hsd, if_neg (fun h => h4 h.2.2)])
                    have g2 : ¬ (out.length : Int) < 4 := by omega
                    clear hsd HSD0 ho hd h0 hdl
                    go_wp2_with fail
                    go_roundw
                    case rel => exact ⟨k + 1, by omega, by go_num, by rw [HN.out], by rw [HN.out], HB2.out⟩
                    case measure => simp [intOf]; omega
      · have hkl : k = s.size := by omega
        have hst : sndGo ((sb s).take k) = sndGo (sb s) := by rw [hkl, ← sb_len, List.take_length]
        obtain ⟨_, _, i3, _, _⟩ := sndI_go (sb s) ([], 0) (by simp [SndI]) (sb_lt s)
        have HLL : Hid (sndL (sb s) = padZ (sndGo (sb s)).1) := Lib.hid rfl
        have i3' : (sndGo (sb s)).1.length ≤ 4 := i3
        rw [hst]
        clear hkl hst i3
        generalize (sndGo (sb s)).1 = out at *
        go_wp2_with fail
        go_loop [4] (fun o => ∃ j : Nat, o = .string (SN (out ++ List.replicate j 48)) ∧ (out = [] → j = 0) ∧ out.length + j ≤ 4) (fun o => 4 - szV o)
        case atStart => exact ⟨0, by simp, fun _ => rfl, i3'⟩
        case round =>
          obtain ⟨j, rfl, hj0, hj4⟩ := hrel
          by_cases hon : out = []
          · have hfin : SN (out ++ List.replicate j 48) = ⟨#[]⟩ := by rw [hj0 hon, hon]; exact SN_nil
            have HF : Hid (SN (sndL (sb s)) = ⟨#[]⟩) := Lib.hid (by rw [HLL.out, hon]; exact SN_nil)
            rw [hfin]
            clear hfin
            go_wp2_with fail
            go_ret2
            rw [HF.out]
            exact ⟨rfl, HB.out⟩
          · have hl := SN_size (out ++ List.replicate j 48)
            rw [List.length_append, List.length_replicate] at hl
            have hne := SN_ne (l := out ++ List.replicate j 48) (by simp [hon])
            have hz := SN_zero (out ++ List.replicate j 48)
            rw [List.append_assoc, ← List.replicate_succ'] at hz
            have hl2 := SN_size (out ++ List.replicate (j + 1) 48)
            rw [List.length_append, List.length_replicate] at hl2
            have HFN : Hid (out.length + j = 4 → SN (out ++ List.replicate j 48) = SN (sndL (sb s))) := Lib.hid fun h => by
              rw [HLL.out, padZ, if_neg hon, show 4 - out.length = j by omega]
            by_cases h4 : out.length + j < 4
            · have HZ := Lib.hid hz; clear hz HFN
              generalize SN (out ++ List.replicate j 48) = t at *
              have HL2 := Lib.hid hl2; clear hl2
              have g1 : (t.size : Int) < 4 := by omega
              have hts : t.size ≤ 4 := by omega
              have HL := Lib.hid hl; clear hl
              have HJ0 := Lib.hid hj0; clear hj0
              have HON := Lib.hid hon; clear hon
              go_wp2_with fail
              exact ⟨⟨j + 1, by rw [HZ.out], fun h => absurd h HON.out, by omega⟩, by
                have := HL.out
                have := HL2.out
                rw [HZ.out]
                simp only [szV]
                omega⟩
            · have hfn := HFN.out (by omega)
              rw [hfn] at hl hne ⊢
              have g1 : ¬ ((SN (sndL (sb s))).size : Int) < 4 := by omega
              clear hz hl2 HFN hfn hj0
              generalize SN (sndL (sb s)) = t at *
              have HL := Lib.hid hl; clear hl
              go_wp2_with fail
              go_ret2
              exact ⟨rfl, HB.out⟩
end Go.Proofs.YtgeikbcfjidgcaaDoor
