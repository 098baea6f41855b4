/- The weights of a text in a key, by the reference. -/
import Derived.Test.YtiddnacmopfamaaDoorKyR
namespace Go.Proofs.YtiddnacmopfamaaDoor
open Go.RowKit
set_option linter.unusedVariables false
set_option linter.unusedSimpArgs false
set_option maxRecDepth 40000

set_option maxHeartbeats 8000000 in
theorem weighed_le (s : ByteArray) (p c : Nat) (hp : p < 3) (hc : c < 2) (w : World) (hs : s.size ≤ 200000) (h48 : s.size ≤ 48) :
    Calls Tryd.prog 69 #[.string s, .int .i64 p, .int .i64 c] w fun e w' => e = .returned (.string (BA (esc (wei48 p c s)))) ∧ Below w.heap.size w w' := by
  obtain ⟨x, hx⟩ : ∃ x, x = s := ⟨_, rfl⟩
  have hX : x = BA (s.data.toList.take 48) := by
    rw [hx, List.take_of_length_le (by exact h48)]; rfl
  have hsz : x.size ≤ 48 := by rw [hX, BA_size]; simp; omega
  obtain ⟨q1, q2⟩ := weiT_ok (s := x) hp hc (by omega)
  have HW := Lib.hid (fun W => refWeightsT_any x p c W (by unfold maxLen; omega))
  rw [q1, q2] at HW
  have HYW : Hid ((mapS (weiN p c) x).data.toList = wei48 p c s) := Lib.hid (by rw [hX]; rfl)
  have HYZ : Hid ((mapS (weiN p c) x).size ≤ 48) := Lib.hid (by rw [mapS_size]; exact hsz)
  clear q1 q2 hX
  generalize mapS (weiN p c) x = y at *
  generalize wei48 p c s = l at *
  go_enter Tryd.func69, Tryd.ntmps69
  go_wp2_with fail
  rw [← hx]
  clear hx
  refine (HW.out _).mono ?_
  rintro e w1 ⟨rfl, hb1⟩
  have HB1 := Lib.hid hb1; clear hb1
  go_wp2_with fail
  go_loopw [9, 10] (fun o i wr => ∃ k : Nat, k ≤ y.data.toList.length ∧ i = .int .i64 k ∧ Own wr w.heap.size 5 .u8 o (bI (esc (y.data.toList.take k))) ∧ Below w.heap.size w wr) (fun _ i _ => y.size - (intOf i).toNat)
  case atStart => exact ⟨0, by omega, rfl, by simpa [bI, esc] using Own.nil _ _ _ _, HB1.out⟩
  case round =>
    obtain ⟨k, hk, rfl, hown, hbel⟩ := hrel
    have HB := Lib.hid hbel; clear hbel
    have hyl : y.data.toList.length = y.size := rfl
    have hlen : (bI (esc (y.data.toList.take k))).length ≤ 100000 := by
      have h1 := (esc_len (y.data.toList.take k)).2
      have h2 := HYZ.out
      have h3 : (y.data.toList.take k).length ≤ k := List.length_take_le _ _
      have h4 : y.data.toList.length = y.size := rfl
      rw [bI_len]; omega
    obtain ⟨zl, hzl⟩ : ∃ zl, zl = bI (esc (y.data.toList.take k)) := ⟨_, rfl⟩
    rw [← hzl] at hown hlen
    have HZL := Lib.hid hzl; clear hzl
    have HLE := Lib.hid hlen; clear hlen
    by_cases hlt : k < y.data.toList.length
    · obtain ⟨A, cp, rfl⟩ := len_own hown
      have HO := Lib.hid hown; clear hown
      have hks : k < y.size := by omega
      have hks' : (k : Int) < y.size := by omega
      have hat := byte_at y k hks
      have i9 : (k : Int) ≤ 48 := by have := HYZ.out; omega
      have htk : esc (y.data.toList.take (k + 1)) = esc (y.data.toList.take k) ++ esc [y.data.toList.getD k 0] := by
        rw [← esc_append]
        congr 1
        have e : y.data.toList.getD k 0 = y.data.toList[k] := by rw [List.getD_eq_getElem?_getD, List.getElem?_eq_getElem hlt]; rfl
        rw [e, List.take_succ_eq_append_getElem hlt]
      have hbb := byte_lt (y.data.toList.getD k 0)
      generalize y.data.toList.getD k 0 = u at *
      have HTK := Lib.hid htk; clear htk
      by_cases hu : u = 0
      · have hu' : ((u.toNat : Int) == 0) = true := by rw [hu]; rfl
        have HE : Hid (esc [u] = [0, 1]) := Lib.hid (by rw [hu]; rfl)
        have HU : Hid (u.toNat = 0) := Lib.hid (by rw [hu]; rfl)
        clear hu hyl
        go_wp2_with (first
          | (at_builtin; refine app_byte rfl (.tmp 29) _ rfl w.heap.size _ _ (u.toNat : Int) rfl (HO.out.alloc _) ⟨wr.heap.size, 0, none⟩ 1 rfl (new_cell _ _ _) (by have := HLE.out; omega) (size_alloc HB.out.size _) ?_; intro v3 w3 ho3 hb3 _; have HO3 := Lib.hid ho3; have HB3 := Lib.hid ((HB.out.alloc HB.out.size _).trans hb3); clear ho3 hb3)
          | (at_builtin; refine app_byte rfl (.tmp 39) _ rfl w.heap.size _ _ 1 rfl (HO3.out.alloc _) ⟨w3.heap.size, 0, none⟩ 1 rfl (new_cell _ _ _) (by have := HLE.out; rw [List.length_append]; simp; omega) (size_alloc HB3.out.size _) ?_; intro v4 w4 ho4 hb4 _; have HO4 := Lib.hid ho4; have HB4 := Lib.hid ((HB3.out.alloc HB3.out.size _).trans hb4); clear ho4 hb4))
        go_roundw
        case rel => exact ⟨k + 1, by omega, by go_num, HO4.out.of_eq (by rw [HTK.out, bI_app, HE.out, HZL.out, HU.out]; simp [bI]), HB4.out⟩
        case measure => simp [intOf]; omega
      · have hu' : ((u.toNat : Int) == 0) = false := by
          rw [beq_eq_false_iff_ne]
          intro h
          exact hu (UInt8.toNat_inj.1 (by have : (0 : UInt8).toNat = 0 := rfl; omega))
        have HE : Hid (esc [u] = [u]) := Lib.hid (by rw [esc_cons, if_neg hu]; rfl)
        clear hu hyl
        go_wp2_with (at_builtin; refine app_byte rfl (.tmp 29) _ rfl w.heap.size _ _ (u.toNat : Int) rfl (HO.out.alloc _) ⟨wr.heap.size, 0, none⟩ 1 rfl (new_cell _ _ _) (by have := HLE.out; omega) (size_alloc HB.out.size _) ?_; intro v3 w3 ho3 hb3 _; have HO3 := Lib.hid ho3; have HB3 := Lib.hid ((HB.out.alloc HB.out.size _).trans hb3); clear ho3 hb3)
        go_roundw
        case rel => exact ⟨k + 1, by omega, by go_num, HO3.out.of_eq (by rw [HTK.out, bI_app, HE.out, HZL.out]; simp [bI]), HB3.out⟩
        case measure => simp [intOf]; omega
    · have hkl : k = y.data.toList.length := by omega
      have hks : k = y.size := by omega
      have i2 : ¬ (k : Int) < y.size := by omega
      have hcv := conv_own hown
      have hz := HZL.out
      rw [hkl, List.take_length] at hz
      rw [hz, strOf_bI, HYW.out] at hcv
      obtain ⟨A, cp, rfl⟩ := len_own hown
      clear hz hown
      go_wp2_with fail
      go_ret
      exact ⟨rfl, HB.out⟩

set_option maxHeartbeats 8000000 in
theorem weighed_gt (s : ByteArray) (p c : Nat) (hp : p < 3) (hc : c < 2) (w : World) (hs : s.size ≤ 200000) (h48 : 48 < s.size) :
    Calls Tryd.prog 69 #[.string s, .int .i64 p, .int .i64 c] w fun e w' => e = .returned (.string (BA (esc (wei48 p c s)))) ∧ Below w.heap.size w w' := by
  obtain ⟨x, hx⟩ : ∃ x, x = s.extract 0 48 := ⟨_, rfl⟩
  have hX : x = BA (s.data.toList.take 48) := by
    rw [hx, take_ext _ _ (by omega)]
  have i48 : (48 : Int) < s.size := by omega
  have i49 : (48 : Int) ≤ s.size := by omega
  have hsz : x.size ≤ 48 := by rw [hX, BA_size]; simp; omega
  obtain ⟨q1, q2⟩ := weiT_ok (s := x) hp hc (by omega)
  have HW := Lib.hid (fun W => refWeightsT_any x p c W (by unfold maxLen; omega))
  rw [q1, q2] at HW
  have HYW : Hid ((mapS (weiN p c) x).data.toList = wei48 p c s) := Lib.hid (by rw [hX]; rfl)
  have HYZ : Hid ((mapS (weiN p c) x).size ≤ 48) := Lib.hid (by rw [mapS_size]; exact hsz)
  clear q1 q2 hX
  generalize mapS (weiN p c) x = y at *
  generalize wei48 p c s = l at *
  go_enter Tryd.func69, Tryd.ntmps69
  go_wp2_with fail
  rw [← hx]
  clear hx
  refine (HW.out _).mono ?_
  rintro e w1 ⟨rfl, hb1⟩
  have HB1 := Lib.hid hb1; clear hb1
  go_wp2_with fail
  go_loopw [9, 10] (fun o i wr => ∃ k : Nat, k ≤ y.data.toList.length ∧ i = .int .i64 k ∧ Own wr w.heap.size 5 .u8 o (bI (esc (y.data.toList.take k))) ∧ Below w.heap.size w wr) (fun _ i _ => y.size - (intOf i).toNat)
  case atStart => exact ⟨0, by omega, rfl, by simpa [bI, esc] using Own.nil _ _ _ _, HB1.out⟩
  case round =>
    obtain ⟨k, hk, rfl, hown, hbel⟩ := hrel
    have HB := Lib.hid hbel; clear hbel
    have hyl : y.data.toList.length = y.size := rfl
    have hlen : (bI (esc (y.data.toList.take k))).length ≤ 100000 := by
      have h1 := (esc_len (y.data.toList.take k)).2
      have h2 := HYZ.out
      have h3 : (y.data.toList.take k).length ≤ k := List.length_take_le _ _
      have h4 : y.data.toList.length = y.size := rfl
      rw [bI_len]; omega
    obtain ⟨zl, hzl⟩ : ∃ zl, zl = bI (esc (y.data.toList.take k)) := ⟨_, rfl⟩
    rw [← hzl] at hown hlen
    have HZL := Lib.hid hzl; clear hzl
    have HLE := Lib.hid hlen; clear hlen
    by_cases hlt : k < y.data.toList.length
    · obtain ⟨A, cp, rfl⟩ := len_own hown
      have HO := Lib.hid hown; clear hown
      have hks : k < y.size := by omega
      have hks' : (k : Int) < y.size := by omega
      have hat := byte_at y k hks
      have i9 : (k : Int) ≤ 48 := by have := HYZ.out; omega
      have htk : esc (y.data.toList.take (k + 1)) = esc (y.data.toList.take k) ++ esc [y.data.toList.getD k 0] := by
        rw [← esc_append]
        congr 1
        have e : y.data.toList.getD k 0 = y.data.toList[k] := by rw [List.getD_eq_getElem?_getD, List.getElem?_eq_getElem hlt]; rfl
        rw [e, List.take_succ_eq_append_getElem hlt]
      have hbb := byte_lt (y.data.toList.getD k 0)
      generalize y.data.toList.getD k 0 = u at *
      have HTK := Lib.hid htk; clear htk
      by_cases hu : u = 0
      · have hu' : ((u.toNat : Int) == 0) = true := by rw [hu]; rfl
        have HE : Hid (esc [u] = [0, 1]) := Lib.hid (by rw [hu]; rfl)
        have HU : Hid (u.toNat = 0) := Lib.hid (by rw [hu]; rfl)
        clear hu hyl
        go_wp2_with (first
          | (at_builtin; refine app_byte rfl (.tmp 29) _ rfl w.heap.size _ _ (u.toNat : Int) rfl (HO.out.alloc _) ⟨wr.heap.size, 0, none⟩ 1 rfl (new_cell _ _ _) (by have := HLE.out; omega) (size_alloc HB.out.size _) ?_; intro v3 w3 ho3 hb3 _; have HO3 := Lib.hid ho3; have HB3 := Lib.hid ((HB.out.alloc HB.out.size _).trans hb3); clear ho3 hb3)
          | (at_builtin; refine app_byte rfl (.tmp 39) _ rfl w.heap.size _ _ 1 rfl (HO3.out.alloc _) ⟨w3.heap.size, 0, none⟩ 1 rfl (new_cell _ _ _) (by have := HLE.out; rw [List.length_append]; simp; omega) (size_alloc HB3.out.size _) ?_; intro v4 w4 ho4 hb4 _; have HO4 := Lib.hid ho4; have HB4 := Lib.hid ((HB3.out.alloc HB3.out.size _).trans hb4); clear ho4 hb4))
        go_roundw
        case rel => exact ⟨k + 1, by omega, by go_num, HO4.out.of_eq (by rw [HTK.out, bI_app, HE.out, HZL.out, HU.out]; simp [bI]), HB4.out⟩
        case measure => simp [intOf]; omega
      · have hu' : ((u.toNat : Int) == 0) = false := by
          rw [beq_eq_false_iff_ne]
          intro h
          exact hu (UInt8.toNat_inj.1 (by have : (0 : UInt8).toNat = 0 := rfl; omega))
        have HE : Hid (esc [u] = [u]) := Lib.hid (by rw [esc_cons, if_neg hu]; rfl)
        clear hu hyl
        go_wp2_with (at_builtin; refine app_byte rfl (.tmp 29) _ rfl w.heap.size _ _ (u.toNat : Int) rfl (HO.out.alloc _) ⟨wr.heap.size, 0, none⟩ 1 rfl (new_cell _ _ _) (by have := HLE.out; omega) (size_alloc HB.out.size _) ?_; intro v3 w3 ho3 hb3 _; have HO3 := Lib.hid ho3; have HB3 := Lib.hid ((HB.out.alloc HB.out.size _).trans hb3); clear ho3 hb3)
        go_roundw
        case rel => exact ⟨k + 1, by omega, by go_num, HO3.out.of_eq (by rw [HTK.out, bI_app, HE.out, HZL.out]; simp [bI]), HB3.out⟩
        case measure => simp [intOf]; omega
    · have hkl : k = y.data.toList.length := by omega
      have hks : k = y.size := by omega
      have i2 : ¬ (k : Int) < y.size := by omega
      have hcv := conv_own hown
      have hz := HZL.out
      rw [hkl, List.take_length] at hz
      rw [hz, strOf_bI, HYW.out] at hcv
      obtain ⟨A, cp, rfl⟩ := len_own hown
      clear hz hown
      go_wp2_with fail
      go_ret
      exact ⟨rfl, HB.out⟩

theorem weighed_any (s : ByteArray) (p c : Nat) (hp : p < 3) (hc : c < 2) (w : World) (hs : s.size ≤ 200000) :
    Calls Tryd.prog 69 #[.string s, .int .i64 p, .int .i64 c] w fun e w' => e = .returned (.string (BA (esc (wei48 p c s)))) ∧ Below w.heap.size w w' := by
  by_cases h : 48 < s.size
  · exact weighed_gt s p c hp hc w hs h
  · exact weighed_le s p c hp hc w hs (by omega)
end Go.Proofs.YtiddnacmopfamaaDoor
