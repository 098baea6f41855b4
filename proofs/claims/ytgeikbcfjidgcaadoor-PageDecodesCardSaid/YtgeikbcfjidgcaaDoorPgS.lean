/- Sound of the program. -/
import Derived.Test.YtgeikbcfjidgcaaDoorPgO
namespace Go.Proofs.YtgeikbcfjidgcaaDoor
open Go.RowKit
set_option linter.unusedVariables false
set_option linter.unusedSimpArgs false

def sb (s : ByteArray) : List Nat := s.data.toList.map (·.toNat)
def sndT (s : ByteArray) : ByteArray := if wrongN 0 0 [s] = 0 then strOfNums ((sndL (sb s)).map Int.ofNat) else ⟨#[]⟩

/-- What holds of the state. -/
def SndI (st : List Nat × Int) : Prop := 0 ≤ st.2 ∧ st.2 ≤ 6 ∧ st.1.length ≤ 4 ∧ (st.1 = [] → st.2 = 0) ∧ ∀ x ∈ st.1, x < 256
theorem dig_in {c : Nat} (h1 : 65 ≤ c) (h2 : c ≤ 90) : -1 ≤ digI c ∧ digI c ≤ 6 := by
  have := dig_tab ⟨c - 65, by omega⟩
  rwa [show 65 + (⟨c - 65, by omega⟩ : Fin 26).val = c by simp; omega] at this
theorem sndI_step {st : List Nat × Int} {b : Nat} (h : SndI st) (hb : b < 256) : SndI (sndStep st b) := by
  obtain ⟨h1, h2, h3, h4, h5⟩ := h
  unfold sndStep
  split
  · rename_i hl
    obtain ⟨c1, c2⟩ := let0_tab ⟨b, hb⟩ hl
    simp only at c1 c2
    obtain ⟨d1, d2⟩ := dig_in c1 c2
    split
    · exact ⟨by simp only; omega, by simp only; omega, by simp, by simp, fun x hx => by simp at hx; omega⟩
    · split
      · exact ⟨h1, h2, h3, h4, h5⟩
      · split
        · rename_i hc
          refine ⟨by show 0 ≤ digI _; omega, by show digI _ ≤ 6; omega, by simp; omega, by simp, fun x hx => ?_⟩
          rcases List.mem_append.1 hx with hx | hx
          · exact h5 x hx
          · simp at hx; omega
        · rename_i hne _ _
          exact ⟨by simp only; omega, by simp only; omega, h3, fun e => absurd e hne, h5⟩
  · exact ⟨h1, h2, h3, h4, h5⟩
theorem sndI_go : ∀ (bs : List Nat) (st : List Nat × Int), SndI st → (∀ b ∈ bs, b < 256) → SndI (bs.foldl sndStep st)
  | [], st, h, _ => h
  | b :: bs, st, h, hb => sndI_go bs _ (sndI_step h (hb b (by simp))) (fun x hx => hb x (by simp [hx]))
theorem sb_lt (s : ByteArray) : ∀ b ∈ sb s, b < 256 := by
  intro b hb
  simp only [sb, List.mem_map] at hb
  obtain ⟨u, _, rfl⟩ := hb
  exact u.toNat_lt
theorem sb_len (s : ByteArray) : (sb s).length = s.size := by simp [sb]
theorem sndI_take (s : ByteArray) (k : Nat) : SndI (sndGo ((sb s).take k)) := sndI_go _ _ (by simp [SndI]) fun b hb => sb_lt s b (List.mem_of_mem_take hb)
theorem snd_take (s : ByteArray) {k : Nat} (hk : k < s.size) : sndGo ((sb s).take (k + 1)) = sndStep (sndGo ((sb s).take k)) (s[k].toNat) := by
  have hl : k < (sb s).length := by rw [sb_len]; exact hk
  rw [List.take_succ_eq_append_getElem hl]
  unfold sndGo
  rw [List.foldl_append]
  simp [sb]; rfl

theorem sound_tab : ∀ i : Fin 26, ((⟨#[48, 49, 50, 51, 48, 49, 50, 45, 48, 50, 50, 52, 53, 53, 48, 49, 50, 54, 50, 51, 48, 49, 45, 50, 48, 50]⟩ : ByteArray)[i.val]'i.isLt).toNat = (if digI (65 + i.val) = -1 then 45 else (48 + digI (65 + i.val)).toNat) := by decide +kernel
theorem sound_at (c : Nat) (h1 : 65 ≤ c) (h2 : c ≤ 90) : ∀ h, ((((⟨#[48, 49, 50, 51, 48, 49, 50, 45, 48, 50, 50, 52, 53, 53, 48, 49, 50, 54, 50, 51, 48, 49, 45, 50, 48, 50]⟩ : ByteArray)[c - 65]'h).toNat : Nat) : Int) = if digI c = -1 then 45 else 48 + digI c := by
  intro h
  have := sound_tab ⟨c - 65, by omega⟩
  simp only [show 65 + (c - 65) = c by omega] at this
  have hd := dig_in h1 h2
  rw [this]
  split
  · rfl
  · omega

def lenV : Value → Nat
  | .slice _ n _ => n
  | _ => 0
theorem lenV_slice (A : Option Addr) (n c : Nat) : lenV (.slice A n c) = n := rfl
set_option maxHeartbeats 8000000 in
set_option maxRecDepth 20000 in
theorem Sound_ok (s : ByteArray) (w : World) (ht : Tabs w) (hs : s.size ≤ 2048) (hz : wrongN 0 0 [s] = 0) :
    Calls Tryd.prog 36 #[.string s] w (TRes w (sndT s) (wrongN 0 0 [s])) := by
  have HT := Lib.hid ht; clear ht
  have e1 : sndT s = strOfNums ((sndL (sb s)).map Int.ofNat) := by simp [sndT, hz]
  rw [e1, hz]
  have hcon := Lib.hid (wrong_any 0 0 [s])
  rw [hz] at hcon
  simp only [List.length_singleton] at hcon
  clear hz e1
  go_enter Tryd.func36, Tryd.ntmps36
  go_wp2_with fail
  refine (hcon.out ⟨w.heap.size, 0, none⟩ 1 _ (by simp) (by simp [maxLen]; omega) (text_cell w s _ rfl)).mono ?_
  rintro e w1 ⟨rfl, rfl⟩
  have HB0 : Hid (Below w.heap.size w (w.alloc (.cells #[.string s] 9))) := Lib.hid ((Below.refl _ _).alloc (Nat.le_refl _) _)
  generalize w.alloc (.cells #[.string s] 9) = w0 at *
  go_wp2_with fail
  go_loopw [5, 6, 18] (fun v la i wr => ∃ k : Nat, k ≤ s.size ∧ i = .int .i64 k ∧ la = .int .u8 (48 + (sndGo ((sb s).take k)).2) ∧ Own wr w.heap.size 5 .u8 v ((sndGo ((sb s).take k)).1.map Int.ofNat) ∧ Below w.heap.size w wr) (fun _ _ i _ => s.size - (intOf i).toNat)
  case atStart => exact ⟨0, by omega, rfl, by simp [sndGo], by simpa [sndGo] using Own.nil _ _ _ _, HB0.out⟩
  case round =>
    obtain ⟨k, hk, rfl, rfl, hown, hbel⟩ := hrel
    have HB := Lib.hid hbel; clear hbel
    obtain ⟨A, cp, rfl, hcp1, hcp2, _⟩ := hown.out
    rw [List.length_map] at hown hcp1
    have HO := Lib.hid hown; clear hown
    by_cases hlt : k < s.size
    · have hks : (k : Int) < s.size := by omega
      have hst := snd_take s hlt
      obtain ⟨i1, i2, i3, i4, i5⟩ := sndI_take s k
      have hb := s[k].toNat_lt
      generalize hbe : s[k].toNat = b at *
      generalize sndGo ((sb s).take k) = st at *
      obtain ⟨out, la⟩ := st
      simp only at i1 i2 i3 i4 i5
      have HST := Lib.hid hst; clear hst
      have HI5 := Lib.hid i5; clear i5
      simp only at HO hcp1
      go_wp2_with fail
      refine (isLetter_any b 0 hb (by omega) _ (HT.out.below HB.out (Nat.le_refl _))).mono ?_
      rintro e w1 ⟨rfl, hb1⟩
      have HB1 := Lib.hid (HB.out.trans (hb1.mono HB.out.size))
      have HO1 := Lib.hid (HO.out.below hb1 (Nat.le_refl _)); clear hb1 HB HO
      cases hl : letN 0 b
      · have hn : sndStep (out, la) b = (out, la) := by unfold sndStep; rw [hl]; rfl
        have HN := Lib.hid (HST.out.trans hn); clear hn hl
        go_wp2_with fail
        go_roundw
        case rel => exact ⟨k + 1, by omega, by go_num, by rw [HN.out], by rw [HN.out]; exact HO1.out, HB1.out⟩
        case measure => simp [intOf]; omega
      · obtain ⟨c1, c2⟩ := let0_tab ⟨b, hb⟩ hl
        simp only at c1 c2
        obtain ⟨d1, d2⟩ := dig_in c1 c2
        have HSU := Lib.hid (fun W h => upper_any b 0 hb (by omega) W h)
        have hsd := HST.out
        unfold sndStep at hsd
        rw [if_pos hl] at hsd
        have hix := sound_at (upN 0 b) c1 c2
        clear HST hl
        generalize upN 0 b = c at *
        generalize digI c = d at *
        have j1 : (65 : Int) ≤ c := by omega
        have j2 : (c : Int) ≤ 90 := by omega
        obtain ⟨D, hD⟩ : ∃ D : Int, D = if d = -1 then 45 else 48 + d := ⟨_, rfl⟩
        rw [← hD] at hix
        have HIX := Lib.hid hix; clear hix
        have HSD0 := Lib.hid hsd; clear hsd
        go_wp2_with fail
        refine (HSU.out _ (HT.out.below HB1.out (Nat.le_refl _))).mono ?_
        rintro e w2 ⟨rfl, hb2⟩
        have HB2 := Lib.hid (HB1.out.trans (hb2.mono HB1.out.size))
        have HO2 := Lib.hid (HO1.out.below hb2 (Nat.le_refl _)); clear hb2 HB1 HO1
        have hix := HIX.out
        by_cases ho : out = []
        · subst ho
          obtain rfl : la = 0 := i4 rfl
          have hsd := HSD0.out
          rw [if_pos rfl] at hsd
          by_cases hd : d = -1
          · have HSD : Hid (sndGo ((sb s).take (k + 1)) = ([c], 0)) := Lib.hid (by rw [hsd, hd]; rfl)
            have HDE : Hid (D = 45) := Lib.hid (by rw [hD, if_pos hd])
            rw [HDE.out] at hix
            clear hD hd hsd HDE HSD0
            go_wp2_with (at_builtin; refine app_byte rfl _ _ rfl w.heap.size _ _ (c : Int) rfl (HO2.out.alloc _) ⟨w2.heap.size, 0, none⟩ 1 rfl (new_cell _ _ _) (by first | (simp; done) | (simp; omega)) (size_alloc HB2.out.size _) ?_; intro v3 w3 ho3 hb3 _; have HO3 := Lib.hid ho3; have HB3 := Lib.hid ((HB2.out.alloc HB2.out.size _).trans hb3); clear ho3 hb3)
            go_roundw
            case rel => exact ⟨k + 1, by omega, by go_num, by rw [HSD.out]; rfl, by rw [HSD.out]; exact ⟨HO3.out.of_eq (by simp), HB3.out⟩⟩
            case measure => simp [intOf]; omega
          · have HSD : Hid (sndGo ((sb s).take (k + 1)) = ([c], d)) := Lib.hid (by rw [hsd]; congr 1; omega)
            have hDE : D = 48 + d := by rw [hD, if_neg hd]
            have g1 : (D != 45) = true := by simp; omega
            have HDE := Lib.hid hDE
            clear hD hd hsd hDE HSD0
            go_wp2_with (at_builtin; refine app_byte rfl _ _ rfl w.heap.size _ _ (c : Int) rfl (HO2.out.alloc _) ⟨w2.heap.size, 0, none⟩ 1 rfl (new_cell _ _ _) (by first | (simp; done) | (simp; omega)) (size_alloc HB2.out.size _) ?_; intro v3 w3 ho3 hb3 _; have HO3 := Lib.hid ho3; have HB3 := Lib.hid ((HB2.out.alloc HB2.out.size _).trans hb3); clear ho3 hb3)
            go_roundw
            case rel => exact ⟨k + 1, by omega, by go_num, by rw [HSD.out]; rw [HDE.out], by rw [HSD.out]; exact ⟨HO3.out.of_eq (by simp), HB3.out⟩⟩
            case measure => simp [intOf]; omega
        · have hsd := HSD0.out
          rw [if_neg ho] at hsd
          have hop : 0 < out.length := List.length_pos_iff.2 ho
          have g0 : ((out.length : Int) == 0) = false := by simp [ho]
          by_cases hd : d = -1
          · have HSD : Hid (sndGo ((sb s).take (k + 1)) = (out, la)) := Lib.hid (by rw [hsd, if_pos (by omega)])
            have hDE : D = 45 := by rw [hD, if_pos hd]
            subst hDE
            clear hD hd hsd HSD0 ho
            go_wp2_with fail
            go_roundw
            case rel => exact ⟨k + 1, by omega, by go_num, by rw [HSD.out], by rw [HSD.out]; exact ⟨HO2.out, HB2.out⟩⟩
            case measure => simp [intOf]; omega
          · have hDE : D = 48 + d := by rw [hD, if_neg hd]
            have g1 : (D != 45) = true := by simp; omega
            rw [if_neg (by omega)] at hsd
            clear hD HSD0 ho
            by_cases h0 : d = 0
            · have HSD : Hid (sndGo ((sb s).take (k + 1)) = (out, d)) := Lib.hid (by rw [hsd, if_neg (by omega)])
              have g2 : (D != 48) = false := by simp; omega
              have HDE := Lib.hid hDE
              clear hd hsd hDE h0
              go_wp2_with fail
              go_roundw
              case rel => exact ⟨k + 1, by omega, by go_num, by rw [HSD.out]; rw [HDE.out], by rw [HSD.out]; exact ⟨HO2.out, HB2.out⟩⟩
              case measure => simp [intOf]; omega
            · have g2 : (D != 48) = true := by simp; omega
              by_cases hdl : d = la
              · have HSD : Hid (sndGo ((sb s).take (k + 1)) = (out, d)) := Lib.hid (by rw [hsd, if_neg (fun h => h.2.1 hdl)])
                have g3 : (D != 48 + la) = false := by simp; omega
                have HDE := Lib.hid hDE
                clear hd hsd hDE h0 hdl
                go_wp2_with fail
                go_roundw
                case rel => exact ⟨k + 1, by omega, by go_num, by rw [HSD.out]; rw [HDE.out], by rw [HSD.out]; exact ⟨HO2.out, HB2.out⟩⟩
                case measure => simp [intOf]; omega
              · have g3 : (D != 48 + la) = true := by simp; omega
                by_cases h4 : out.length < 4
                · have HSD : Hid (sndGo ((sb s).take (k + 1)) = (out ++ [(48 + d).toNat], d)) := Lib.hid (by rw [hsd, if_pos ⟨by omega, hdl, h4⟩])
                  have g4 : (out.length : Int) < 4 := by omega
                  have HDE := Lib.hid hDE
                  have HDD : Hid (D = ((48 + d).toNat : Int)) := Lib.hid (by omega)
                  clear hd hsd hDE h0 hdl
                  go_wp2_with (at_builtin; refine app_byte rfl _ _ rfl w.heap.size _ _ D rfl (HO2.out.alloc _) ⟨w2.heap.size, 0, none⟩ 1 rfl (new_cell _ _ _) (by first | (simp; done) | (simp; omega)) (size_alloc HB2.out.size _) ?_; intro v3 w3 ho3 hb3 _; have HO3 := Lib.hid ho3; have HB3 := Lib.hid ((HB2.out.alloc HB2.out.size _).trans hb3); clear ho3 hb3)
                  go_roundw
                  case rel => exact ⟨k + 1, by omega, by go_num, by rw [HSD.out]; rw [HDE.out], by rw [HSD.out]; exact ⟨HO3.out.of_eq (by rw [List.map_append, HDD.out]; rfl), HB3.out⟩⟩
                  case measure => simp [intOf]; omega
                · have HSD : Hid (sndGo ((sb s).take (k + 1)) = (out, d)) := Lib.hid (by rw [hsd, if_neg (fun h => h4 h.2.2)])
                  have g4 : ¬ (out.length : Int) < 4 := by omega
                  have HDE := Lib.hid hDE
                  clear hd hsd hDE h0 hdl
                  go_wp2_with fail
                  go_roundw
                  case rel => exact ⟨k + 1, by omega, by go_num, by rw [HSD.out]; rw [HDE.out], by rw [HSD.out]; exact ⟨HO2.out, HB2.out⟩⟩
                  case measure => simp [intOf]; omega
    · have hkl : k = s.size := by omega
      have hst : sndGo ((sb s).take k) = sndGo (sb s) := by rw [hkl, ← sb_len, List.take_length]
      rw [hst] at HO hcp1
      rw [List.length_map, hst]
      clear hkl hst
      obtain ⟨_, _, i3, _, _⟩ := sndI_go (sb s) ([], 0) (by simp [SndI]) (sb_lt s)
      have HLL : Hid (sndL (sb s) = padZ (sndGo (sb s)).1) := Lib.hid rfl
      have i3' : (sndGo (sb s)).1.length ≤ 4 := i3
      have HO' : Hid (Own wr w.heap.size 5 .u8 (.slice A (sndGo (sb s)).1.length cp) ((sndGo (sb s)).1.map Int.ofNat)) := HO
      clear i3 HO
      generalize (sndGo (sb s)).1 = out at *
      go_wp2_with fail
      go_loopw [5] (fun v wq => ∃ (A2 : Option Addr) (c2 : Nat) (N j : Nat), v = .slice A2 N c2 ∧ N = out.length + j ∧ (out = [] → j = 0) ∧ N ≤ 4 ∧ Own wq w.heap.size 5 .u8 (.slice A2 N c2) (out.map Int.ofNat ++ List.replicate j 48) ∧ Below w.heap.size w wq) (fun v _ => 4 - lenV v)
      case atStart => exact ⟨A, cp, out.length, 0, rfl, rfl, fun _ => rfl, i3', HO'.out.of_eq (by simp), HB.out⟩
      case round =>
        obtain ⟨A2, c2, N, j, rfl, hN, hj0, hN4, hown, hbel⟩ := hrel
        have HB := Lib.hid hbel; clear hbel
        have hlen : (out.map Int.ofNat ++ List.replicate j (48 : Int)).length = N := by simp; omega
        have HO := Lib.hid hown; clear hown
        by_cases h0 : N = 0
        · obtain ⟨A3, c3, e3, _, _, hrd⟩ := HO.out.out
          have hcv := conv_bytes hrd c2
          obtain rfl : A2 = A3 := by injection e3
          rw [hlen] at hcv
          subst h0
          have hon : out = [] := List.length_eq_zero_iff.1 (by omega)
          have hj : j = 0 := by omega
          have hfin : strOfNums (out.map Int.ofNat ++ List.replicate j 48) = strOfNums ((sndL (sb s)).map Int.ofNat) := by rw [HLL.out, hon, hj]; rfl
          rw [hfin] at hcv
          clear hfin hon hj hN hj0 hlen e3 hrd
          go_wp2_with fail
          go_ret2
          exact ⟨rfl, HB.out⟩
        · by_cases h4 : N < 4
          · have g1 : (0 : Int) < N := by omega
            have g2 : (N : Int) < 4 := by omega
            have HN := Lib.hid hN; clear hN
            clear h0
            go_wp2_with (at_builtin; refine app_byte rfl _ _ rfl w.heap.size _ _ 48 rfl (HO.out.alloc _) ⟨wr.heap.size, 0, none⟩ 1 rfl (new_cell _ _ _) (by rw [hlen]; omega) (size_alloc HB.out.size _) ?_; intro v3 w3 ho3 hb3 _; have HO3 := Lib.hid ho3; have HB3 := Lib.hid ((HB.out.alloc HB.out.size _).trans hb3); clear ho3 hb3)
            obtain ⟨A3, c3, rfl, _⟩ := HO3.out.out
            go_roundw
            case rel => exact ⟨A3, c3, N + 1, j + 1, by rw [List.length_append, hlen]; rfl, by have := HN.out; omega, fun h => by have hN := HN.out; rw [h] at hN; simp at hN; have := hj0 h; omega, by omega, by
              have h := HO3.out
              rw [List.length_append, hlen] at h
              exact h.of_eq (by rw [List.replicate_succ', List.append_assoc]), HB3.out⟩
            case measure => simp only [lenV_slice, List.length_append, hlen, List.length_singleton]; omega
          · obtain ⟨A3, c3, e3, _, _, hrd⟩ := HO.out.out
            have hcv := conv_bytes hrd c2
            obtain rfl : A2 = A3 := by injection e3
            rw [hlen] at hcv
            have hon : out ≠ [] := by rintro rfl; simp at hN; have := hj0 rfl; omega
            have hj : j = 4 - out.length := by omega
            have hfin : strOfNums (out.map Int.ofNat ++ List.replicate j 48) = strOfNums ((sndL (sb s)).map Int.ofNat) := by
              rw [HLL.out, padZ, if_neg hon, List.map_append, List.map_replicate, hj]; rfl
            rw [hfin] at hcv
            have g1 : (0 : Int) < N := by omega
            have g2 : ¬ (N : Int) < 4 := by omega
            clear hfin hon hj hN hj0 hlen e3 hrd h0
            go_wp2_with fail
            go_ret2
            exact ⟨rfl, HB.out⟩
end Go.Proofs.YtgeikbcfjidgcaaDoor
