/- Convert of the reference. -/
import Derived.Test.YtgeikbcfjidgcaaDoorPgC3
import Derived.Test.YtgeikbcfjidgcaaDoorPgB
namespace Go.Proofs.YtgeikbcfjidgcaaDoor
open Go.RowKit
set_option linter.unusedVariables false
set_option linter.unusedSimpArgs false

def cvI (p q y : Nat) (u : UInt8) : Int := (cvV p q y u.toNat : Int)
theorem strOf_map (f : Nat → Nat) (s : ByteArray) : strOfNums (s.data.toList.map fun u => (f u.toNat : Int)) = mapS f s := by
  apply ByteArray.ext
  simp [strOfNums, mapS, mapB]
theorem cells_sp (w : World) (s : ByteArray) (a b : Int) :
    ((w.alloc (.cells #[.string s] 9)).alloc (.cells #[.int .i64 a, .int .i64 b] 3)).cell? ⟨w.heap.size, 0, none⟩ = some (.string s) ∧ ∀ j, j < [a, b].length → ((w.alloc (.cells #[.string s] 9)).alloc (.cells #[.int .i64 a, .int .i64 b] 3)).cell? ((⟨w.heap.size + 1, 0, none⟩ : Addr).add j) = some (.int .i64 ([a, b].getD j 0)) := by
  refine ⟨cell_new1 _ _ _ _, fun j hj => ?_⟩
  have hz : (w.alloc (.cells #[.string s] 9)).heap.size = w.heap.size + 1 := by simp
  rw [← hz]
  rcases (show j = 0 ∨ j = 1 by simp at hj; omega) with rfl | rfl
  · simp [Addr.add]
  · simp [Addr.add]

set_option maxHeartbeats 8000000 in
theorem refConvert_any (s : ByteArray) (a b : Int) (y : Nat) (hy : y < 256) (w : World) (hs : s.size ≤ maxLen) :
    Calls Tryd.prog 21 #[.string s, .int .i64 a, .int .i64 b, .int .u8 y] w (CRes w (cvT s a b y) (cvK s a b) (cvE s a b)) := by
  have hpc := cells_sp w s a b
  have hcon : Hid (Calls Tryd.prog 42 #[.int .i64 2048, .slice (some ⟨w.heap.size, 0, none⟩) 1 1, .int .i64 0, .slice (some ⟨w.heap.size + 1, 0, none⟩) 2 2] ((w.alloc (.cells #[.string s] 9)).alloc (.cells #[.int .i64 a, .int .i64 b] 3)) fun e w' => e = .returned (.int .i64 (cvE s a b)) ∧ ((w.alloc (.cells #[.string s] 9)).alloc (.cells #[.int .i64 a, .int .i64 b] 3)) = w') := Lib.hid
    (asked_any 2048 0 [s] [a, b] ⟨w.heap.size, 0, none⟩ ⟨w.heap.size + 1, 0, none⟩ 1 2 _ (by simp) (by simp) (by simpa using hs) (fun j hj => by
      have h0 : j = 0 := by simpa using hj
      subst h0
      simp [Addr.add]) hpc.2)
  clear hpc
  have HB0 := Lib.hid (two_below w (.cells #[.string s] 9) (.cells #[.int .i64 a, .int .i64 b] 3))
  by_cases hz : cvE s a b = 0
  · have h2 : 0 ≤ a ∧ a < 3 ∧ 0 ≤ b ∧ b < 3 ∧ s.size ≤ 2048 := by
      rcases cvE_cases s a b with ⟨h1, h2⟩ | ⟨h1, h2, h3⟩ | ⟨h1, h2, h3, h4⟩
      · rw [hz] at h2; exact absurd h2.symm h1
      · rw [hz] at h3; cases h3
      · have hw := wrong_zero h1
        exact ⟨hw.1, hw.2.1, h2, h3, hw.2.2.2 s (by simp)⟩
    obtain ⟨a1, a2, b1, b2, hs2⟩ := h2
    obtain ⟨p, rfl⟩ : ∃ p : Nat, a = p := ⟨a.toNat, by omega⟩
    obtain ⟨q, rfl⟩ : ∃ q : Nat, b = q := ⟨b.toNat, by omega⟩
    have hp : p < 3 := by omega
    have hq : q < 3 := by omega
    have e1 : cvT s p q y = mapS (cvV p q y) s := by simp [cvT, hz]
    have e2 : cvK s p q = (cvC p q s.data.toList : Int) := by simp [cvK, hz]
    rw [e1, e2, hz]
    rw [hz] at hcon
    clear e1 e2 hz a1 a2 b1 b2
    have hsz : s.data.toList.length = s.size := rfl
    go_enter Tryd.func21, Tryd.ntmps21
    go_wp2_with fail
    refine (hcon.out).mono ?_
    rintro e w1 ⟨rfl, rfl⟩
    generalize (w.alloc (.cells #[.string s] 9)).alloc (.cells #[.int .i64 p, .int .i64 q] 3) = wb at *
    go_wp2_with fail
    go_loopw [12, 13, 14] (fun v mi i wr => ∃ k : Nat, k ≤ s.data.toList.length ∧ i = .int .i64 k ∧ mi = .int .i64 (cvC p q (s.data.toList.take k)) ∧ Own wr w.heap.size 5 .u8 v ((s.data.toList.take k).map (cvI p q y)) ∧ Below w.heap.size w wr) (fun _ _ i _ => s.size - (intOf i).toNat)
    case atStart => exact ⟨0, by omega, rfl, by simp [cvC], by simpa using Own.nil _ _ _ _, HB0.out⟩
    case round =>
      obtain ⟨k, hk, rfl, rfl, hown, hbel⟩ := hrel
      have HB := Lib.hid hbel; clear hbel
      obtain ⟨A, cp, rfl, hcp1, hcp2, _⟩ := hown.out
      have hL : ((s.data.toList.take k).map (cvI p q y)).length = k := by rw [List.length_map, List.length_take, Nat.min_eq_left hk]
      rw [hL] at hown hcp1 ⊢
      clear hL
      have HO := Lib.hid hown; clear hown
      by_cases hlt : k < s.data.toList.length
      · have hks : k < s.size := by omega
        have hks' : (k : Int) < s.size := by omega
        have hsk : s[k].toNat = (s.data.toList.getD k 0).toNat := byte_at s k hks
        have hbb := byte_lt (s.data.toList.getD k 0)
        have hct := cvC_take p q s.data.toList hlt
        have hcl := cvC_le p q s.data.toList k
        have htk : (s.data.toList.take (k + 1)).map (cvI p q y) = (s.data.toList.take k).map (cvI p q y) ++ [cvI p q y (s.data.toList.getD k 0)] := by
          rw [List.take_succ_eq_append_getElem hlt, List.map_append]
          have e : s.data.toList.getD k 0 = s.data.toList[k] := by rw [List.getD_eq_getElem?_getD, List.getElem?_eq_getElem hlt]; rfl
          rw [e]; rfl
        have hvi : cvI p q y (s.data.toList.getD k 0) = (cvV p q y (s.data.toList.getD k 0).toNat : Int) := rfl
        rw [hvi] at htk
        clear hvi
        have hzl : ((s.data.toList.take k).map (cvI p q y)).length ≤ 1000000 := by simp; omega
        generalize (s.data.toList.getD k 0) = z at *
        generalize cvC p q (s.data.toList.take k) = m at *
        have HTK := Lib.hid htk; clear htk
        have HCT := Lib.hid hct; clear hct
        have hCH := Lib.hid (fun W => char_any z.toNat p hbb hp W)
        cases hco : chI p z.toNat with
        | none =>
          rw [hco] at hCH
          have hv : cvV p q y z.toNat = y := by simp [cvV, cvO, hco]
          have hmi : cvM p q z = true := by simp [cvM, cvO, hco]
          rw [hv] at HTK
          rw [hmi] at HCT
          clear hv hmi hco
          go_wp2_with fail
          refine (hCH.out _).mono ?_
          rintro e w1 ⟨rfl, rfl⟩
          simp only [Option.getD_none, Option.isSome_none]
          go_wp2_with (at_builtin; refine app_byte rfl _ _ rfl w.heap.size _ _ (y : Int) rfl (HO.out.alloc _) ⟨wr.heap.size, 0, none⟩ 1 rfl (new_cell _ _ _) hzl (size_alloc HB.out.size _) ?_; intro v3 w3 ho3 hb3 _; have HO3 := Lib.hid ho3; have HB3 := Lib.hid ((HB.out.alloc HB.out.size _).trans hb3); clear ho3 hb3)
          go_roundw
          case rel => exact ⟨k + 1, by omega, by go_num, by rw [HCT.out]; go_num, HO3.out.of_eq HTK.out.symm, HB3.out⟩
          case measure => simp [intOf]; omega
        | some c =>
          rw [hco] at hCH
          have hby := Lib.hid (fun W => refByteOf_any c q hq W)
          cases hbo : byI q c with
          | none =>
            rw [hbo] at hby
            have hv : cvV p q y z.toNat = y := by simp [cvV, cvO, hco, hbo]
            have hmi : cvM p q z = true := by simp [cvM, cvO, hco, hbo]
            rw [hv] at HTK
            rw [hmi] at HCT
            clear hv hmi hco hbo
            go_wp2_with fail
            refine (hCH.out _).mono ?_
            rintro e w1 ⟨rfl, rfl⟩
            simp only [Option.getD_some, Option.isSome_some]
            go_wp2_with fail
            refine (hby.out _).mono ?_
            rintro e w2 ⟨rfl, rfl⟩
            simp only [Option.getD_none, Option.isSome_none]
            go_wp2_with (at_builtin; refine app_byte rfl _ _ rfl w.heap.size _ _ (y : Int) rfl (HO.out.alloc _) ⟨wr.heap.size, 0, none⟩ 1 rfl (new_cell _ _ _) hzl (size_alloc HB.out.size _) ?_; intro v3 w3 ho3 hb3 _; have HO3 := Lib.hid ho3; have HB3 := Lib.hid ((HB.out.alloc HB.out.size _).trans hb3); clear ho3 hb3)
            go_roundw
            case rel => exact ⟨k + 1, by omega, by go_num, by rw [HCT.out]; go_num, HO3.out.of_eq HTK.out.symm, HB3.out⟩
            case measure => simp [intOf]; omega
          | some x =>
            rw [hbo] at hby
            have hxr := byI_range hq hbo
            have hv : (cvV p q y z.toNat : Int) = x := by simp [cvV, cvO, hco, hbo]; omega
            have hmi : cvM p q z = false := by simp [cvM, cvO, hco, hbo]
            rw [hv] at HTK
            rw [hmi] at HCT
            clear hv hmi hco hbo
            go_wp2_with fail
            refine (hCH.out _).mono ?_
            rintro e w1 ⟨rfl, rfl⟩
            simp only [Option.getD_some, Option.isSome_some]
            go_wp2_with fail
            refine (hby.out _).mono ?_
            rintro e w2 ⟨rfl, rfl⟩
            simp only [Option.getD_some, Option.isSome_some]
            go_wp2_with (at_builtin; refine app_byte rfl _ _ rfl w.heap.size _ _ x rfl (HO.out.alloc _) ⟨wr.heap.size, 0, none⟩ 1 rfl (new_cell _ _ _) hzl (size_alloc HB.out.size _) ?_; intro v3 w3 ho3 hb3 _; have HO3 := Lib.hid ho3; have HB3 := Lib.hid ((HB.out.alloc HB.out.size _).trans hb3); clear ho3 hb3)
            go_roundw
            case rel => exact ⟨k + 1, by omega, by go_num, by rw [HCT.out]; rfl, HO3.out.of_eq HTK.out.symm, HB3.out⟩
            case measure => simp [intOf]; omega
      · have hkl : k = s.data.toList.length := by omega
        have hks : k = s.size := by omega
        obtain ⟨A3, c3, e3, _, _, hrd⟩ := HO.out.out
        have hcv := conv_bytes hrd cp
        obtain rfl : A = A3 := by injection e3
        rw [List.length_map, List.length_take, Nat.min_eq_left hk, hkl, List.take_length] at hcv
        rw [show strOfNums (s.data.toList.map (cvI p q y)) = mapS (cvV p q y) s from strOf_map _ s, hsz] at hcv
        rw [hkl, List.take_length, hsz]
        clear hkl hks e3 hrd hcp1 hcp2
        go_wp2_with fail
        go_ret3
        exact ⟨rfl, HB.out⟩
  · have e1 : cvT s a b y = ⟨#[]⟩ := by simp [cvT, hz]
    have e2 : cvK s a b = 0 := by simp [cvK, hz]
    rw [e1, e2]
    generalize cvE s a b = n at *
    have dn : (n != 0) = true := by simpa using hz
    clear e1 e2 hz
    go_enter Tryd.func21, Tryd.ntmps21
    go_wp2_with fail
    refine (hcon.out).mono ?_
    rintro e w1 ⟨rfl, rfl⟩
    go_wp2_with fail
    go_ret3
    exact ⟨rfl, HB0.out⟩
end Go.Proofs.YtgeikbcfjidgcaaDoor
