/- The key of a right value, and Encode, of the reference. -/
import Derived.Test.YtiddnacmopfamaaDoorKyQ
namespace Go.Proofs.YtiddnacmopfamaaDoor
open Go.RowKit
set_option linter.unusedVariables false
set_option linter.unusedSimpArgs false
set_option maxRecDepth 40000

theorem SN_app (a b : List Nat) : SN a ++ SN b = SN (a ++ b) := by
  apply ByteArray.ext
  rw [ByteArray.data_append]
  apply Array.toList_inj.1
  simp [SN, strOfNums]
theorem conv_k (k : Nat) (w : World) : ∀ (W : World) (m : Nat), W.cell? ⟨m, 0, none⟩ = some (.int .u8 k) → (convert 73 9 (.slice (some ⟨m, 0, none⟩) 1 1)).run Tryd.prog W = .ok (.string (SN [k])) W := fun W m h => conv1 w _ W m h
theorem SN4 : SN [4] = BA [4] := by
  have h := strOf_bI [4]
  exact h

set_option maxHeartbeats 4000000 in
theorem keyOf_0 (n : Int) (p c : Int) (d : Bool) (w : World) (h1 : 0 ≤ n) (h2 : n ≤ 2000000000000000) :
    Calls Tryd.prog 40 #[vv 0 n nos, .int .i64 p, .int .i64 c, .bool d] w fun e w' => e = .returned (.string (turnS d (SN (numL 0 n)))) ∧ Below w.heap.size w w' := by
  have hcat : SN [0] = SN (numL 0 n) := rfl
  have hcv := conv_k 0 w
  have HCAT := Lib.hid hcat; clear hcat
  rw [← HCAT.out]
  have hT := Lib.hid (fun W => refTurned_any (SN [0]) d W (by rw [SN_size]; simp))
  have hb0 : Below w.heap.size w ((w.alloc (.cells #[.int .i64 0, .int .i64 n, .string nos] 23)).alloc (.cells #[.int .u8 0] 5)) := ((Below.refl _ _).alloc (Nat.le_refl _) _).alloc (by simp) _
  have HB0 := Lib.hid hb0; clear hb0
  go_enter Tryd.func40, Tryd.ntmps40
  go_wp2_with fail
  have HB1 := HB0
  refine (hT.out _).mono ?_
  rintro e w2 ⟨rfl, hb2⟩
  have HB2 := Lib.hid (HB1.out.trans (hb2.mono HB1.out.size)); clear hb2
  go_wp2_with fail
  go_ret
  exact ⟨rfl, HB2.out⟩

set_option maxHeartbeats 4000000 in
theorem keyOf_1 (n : Int) (p c : Int) (d : Bool) (w : World) (h1 : 0 ≤ n) (h2 : n ≤ 2000000000000000) :
    Calls Tryd.prog 40 #[vv 1 n nos, .int .i64 p, .int .i64 c, .bool d] w fun e w' => e = .returned (.string (turnS d (SN (numL 1 n)))) ∧ Below w.heap.size w w' := by
  obtain ⟨x, hx⟩ : ∃ x : Nat, n = x := ⟨(n).toNat, by omega⟩
  have hnl : numL 1 n = [1] ++ digs 1 x := by
    show 1 :: digs (nbS (1 : Nat)) (n + nbA (1 : Nat)).toNat = _
    have e1 : nbS (1 : Nat) = 1 := rfl
    have e2 : nbA (1 : Nat) = 0 := rfl
    rw [e1, e2, show (n + 0 : Int) = (x : Int) by omega]
    rfl
  have HH := Lib.hid (fun W => high_any x 1 (by omega) (by omega) W)
  have hcat : SN [1] ++ SN (digs 1 x) = SN (numL 1 n) := by rw [SN_app, hnl]
  have hz : (SN (digs 1 x)).size = 1 := by rw [SN_size, digs_len]
  generalize SN (digs 1 x) = y at *
  have i7 : ¬ (9223372036854775807 < (SN [1]).size + y.size) := by rw [hz, SN_size]; simp
  have hcv := conv_k 1 w
  have HCAT := Lib.hid hcat; clear hcat
  rw [← HCAT.out]
  have hT := Lib.hid (fun W => refTurned_any (SN [1] ++ y) d W (by rw [ByteArray.size_append, SN_size]; simp; omega))
  clear hz
  have hb0 : Below w.heap.size w ((w.alloc (.cells #[.int .i64 1, .int .i64 n, .string nos] 23)).alloc (.cells #[.int .u8 1] 5)) := ((Below.refl _ _).alloc (Nat.le_refl _) _).alloc (by simp) _
  have HB0 := Lib.hid hb0; clear hb0
  subst hx
  go_enter Tryd.func40, Tryd.ntmps40
  go_wp2_with fail
  refine (HH.out _).mono ?_
  rintro e w1 ⟨rfl, hb1⟩
  have HB1 := Lib.hid (HB0.out.trans (hb1.mono (by simp; omega))); clear hb1
  go_wp2_with fail
  refine (hT.out _).mono ?_
  rintro e w2 ⟨rfl, hb2⟩
  have HB2 := Lib.hid (HB1.out.trans (hb2.mono HB1.out.size)); clear hb2
  go_wp2_with fail
  go_ret
  exact ⟨rfl, HB2.out⟩

set_option maxHeartbeats 4000000 in
theorem keyOf_2 (n : Int) (p c : Int) (d : Bool) (w : World) (h1 : 0 ≤ n + 1000000000000000) (h2 : n + 1000000000000000 ≤ 2000000000000000) :
    Calls Tryd.prog 40 #[vv 2 n nos, .int .i64 p, .int .i64 c, .bool d] w fun e w' => e = .returned (.string (turnS d (SN (numL 2 n)))) ∧ Below w.heap.size w w' := by
  obtain ⟨x, hx⟩ : ∃ x : Nat, n + 1000000000000000 = x := ⟨(n + 1000000000000000).toNat, by omega⟩
  have hnl : numL 2 n = [2] ++ digs 8 x := by
    show 2 :: digs (nbS (2 : Nat)) (n + nbA (2 : Nat)).toNat = _
    have e1 : nbS (2 : Nat) = 8 := rfl
    have e2 : nbA (2 : Nat) = 1000000000000000 := rfl
    rw [e1, e2, show (n + 1000000000000000 : Int) = (x : Int) by omega]
    rfl
  have HH := Lib.hid (fun W => high_any x 8 (by omega) (by omega) W)
  have hcat : SN [2] ++ SN (digs 8 x) = SN (numL 2 n) := by rw [SN_app, hnl]
  have hz : (SN (digs 8 x)).size = 8 := by rw [SN_size, digs_len]
  generalize SN (digs 8 x) = y at *
  have i7 : ¬ (9223372036854775807 < (SN [2]).size + y.size) := by rw [hz, SN_size]; simp
  have hcv := conv_k 2 w
  have HCAT := Lib.hid hcat; clear hcat
  rw [← HCAT.out]
  have hT := Lib.hid (fun W => refTurned_any (SN [2] ++ y) d W (by rw [ByteArray.size_append, SN_size]; simp; omega))
  clear hz
  have hb0 : Below w.heap.size w ((w.alloc (.cells #[.int .i64 2, .int .i64 n, .string nos] 23)).alloc (.cells #[.int .u8 2] 5)) := ((Below.refl _ _).alloc (Nat.le_refl _) _).alloc (by simp) _
  have HB0 := Lib.hid hb0; clear hb0
  have hwx : wrap64 (n + 1000000000000000) = (x : Int) := by rw [IntWalk.wrap64_in _ (by omega)]; exact hx
  go_enter Tryd.func40, Tryd.ntmps40
  go_wp2_with fail
  refine (HH.out _).mono ?_
  rintro e w1 ⟨rfl, hb1⟩
  have HB1 := Lib.hid (HB0.out.trans (hb1.mono (by simp; omega))); clear hb1
  go_wp2_with fail
  refine (hT.out _).mono ?_
  rintro e w2 ⟨rfl, hb2⟩
  have HB2 := Lib.hid (HB1.out.trans (hb2.mono HB1.out.size)); clear hb2
  go_wp2_with fail
  go_ret
  exact ⟨rfl, HB2.out⟩

set_option maxHeartbeats 4000000 in
theorem keyOf_3 (n : Int) (p c : Int) (d : Bool) (w : World) (h1 : 0 ≤ n) (h2 : n ≤ 2000000000000000) :
    Calls Tryd.prog 40 #[vv 3 n nos, .int .i64 p, .int .i64 c, .bool d] w fun e w' => e = .returned (.string (turnS d (SN (numL 3 n)))) ∧ Below w.heap.size w w' := by
  obtain ⟨x, hx⟩ : ∃ x : Nat, n = x := ⟨(n).toNat, by omega⟩
  have hnl : numL 3 n = [3] ++ digs 4 x := by
    show 3 :: digs (nbS (3 : Nat)) (n + nbA (3 : Nat)).toNat = _
    have e1 : nbS (3 : Nat) = 4 := rfl
    have e2 : nbA (3 : Nat) = 0 := rfl
    rw [e1, e2, show (n + 0 : Int) = (x : Int) by omega]
    rfl
  have HH := Lib.hid (fun W => high_any x 4 (by omega) (by omega) W)
  have hcat : SN [3] ++ SN (digs 4 x) = SN (numL 3 n) := by rw [SN_app, hnl]
  have hz : (SN (digs 4 x)).size = 4 := by rw [SN_size, digs_len]
  generalize SN (digs 4 x) = y at *
  have i7 : ¬ (9223372036854775807 < (SN [3]).size + y.size) := by rw [hz, SN_size]; simp
  have hcv := conv_k 3 w
  have HCAT := Lib.hid hcat; clear hcat
  rw [← HCAT.out]
  have hT := Lib.hid (fun W => refTurned_any (SN [3] ++ y) d W (by rw [ByteArray.size_append, SN_size]; simp; omega))
  clear hz
  have hb0 : Below w.heap.size w ((w.alloc (.cells #[.int .i64 3, .int .i64 n, .string nos] 23)).alloc (.cells #[.int .u8 3] 5)) := ((Below.refl _ _).alloc (Nat.le_refl _) _).alloc (by simp) _
  have HB0 := Lib.hid hb0; clear hb0
  subst hx
  go_enter Tryd.func40, Tryd.ntmps40
  go_wp2_with fail
  refine (HH.out _).mono ?_
  rintro e w1 ⟨rfl, hb1⟩
  have HB1 := Lib.hid (HB0.out.trans (hb1.mono (by simp; omega))); clear hb1
  go_wp2_with fail
  refine (hT.out _).mono ?_
  rintro e w2 ⟨rfl, hb2⟩
  have HB2 := Lib.hid (HB1.out.trans (hb2.mono HB1.out.size)); clear hb2
  go_wp2_with fail
  go_ret
  exact ⟨rfl, HB2.out⟩

set_option maxHeartbeats 4000000 in
theorem keyOf_4 (n : Int) (s : ByteArray) (p c : Nat) (hp : p < 3) (hc : c < 2) (d : Bool) (w : World) (hs : s.size ≤ 200000) :
    Calls Tryd.prog 40 #[vv 4 n s, .int .i64 p, .int .i64 c, .bool d] w fun e w' => e = .returned (.string (turnS d (BA (4 :: (esc (wei48 p c s) ++ [0, 0]))))) ∧ Below w.heap.size w w' := by
  have HH := Lib.hid (fun W => weighed_any s p c hp hc W hs)
  have hz : (BA (esc (wei48 p c s))).size ≤ 96 := by
    rw [BA_size]
    have h1 := (esc_len (wei48 p c s)).2
    have h2 := wei48_len p c s
    omega
  have hcat : SN [4] ++ (BA (esc (wei48 p c s)) ++ ⟨#[0, 0]⟩) = BA (4 :: (esc (wei48 p c s) ++ [0, 0])) := by
    have h := BA_app (BA (esc (wei48 p c s))) [0, 0]
    have e : (BA [0, 0]) = (⟨#[0, 0]⟩ : ByteArray) := rfl
    rw [e] at h
    rw [h, SN4, BA_app]; rfl
  rw [← hcat]
  clear hcat
  generalize BA (esc (wei48 p c s)) = y at *
  have i7 : ¬ (9223372036854775807 < y.size + 2) := by omega
  have i8 : ¬ (9223372036854775807 < (SN [4]).size + (y ++ ⟨#[0, 0]⟩).size) := by
    have e2 : (⟨#[0, 0]⟩ : ByteArray).size = 2 := rfl
    have e3 : ([4] : List Nat).length = 1 := rfl
    rw [SN_size, ByteArray.size_append, e2, e3]; omega
  have hcv := conv_k 4 w
  have hT := Lib.hid (fun W => refTurned_any (SN [4] ++ (y ++ ⟨#[0, 0]⟩)) d W (by have e2 : (⟨#[0, 0]⟩ : ByteArray).size = 2 := rfl; have e3 : ([4] : List Nat).length = 1 := rfl; rw [ByteArray.size_append, ByteArray.size_append, SN_size, e2, e3]; omega))
  have hb0 : Below w.heap.size w ((w.alloc (.cells #[.int .i64 4, .int .i64 n, .string s] 23)).alloc (.cells #[.int .u8 4] 5)) := ((Below.refl _ _).alloc (Nat.le_refl _) _).alloc (by simp) _
  have HB0 := Lib.hid hb0; clear hb0
  go_enter Tryd.func40, Tryd.ntmps40
  go_wp2_with fail
  refine (HH.out _).mono ?_
  rintro e w1 ⟨rfl, hb1⟩
  have HB1 := Lib.hid (HB0.out.trans (hb1.mono (by simp; omega))); clear hb1
  go_wp2_with fail
  refine (hT.out _).mono ?_
  rintro e w2 ⟨rfl, hb2⟩
  have HB2 := Lib.hid (HB1.out.trans (hb2.mono HB1.out.size)); clear hb2
  go_wp2_with fail
  go_ret
  exact ⟨rfl, HB2.out⟩

theorem keyOf_any (k n : Int) (s : ByteArray) (p c : Nat) (hp : p < 3) (hc : c < 2) (d : Bool) (w : World) (hs : s.size ≤ 200000) (hv : vE k n s = 0) :
    Calls Tryd.prog 40 #[vv k n s, .int .i64 p, .int .i64 c, .bool d] w fun e w' => e = .returned (.string (turnS d (encS k n s p c))) ∧ Below w.heap.size w w' := by
  unfold encS
  by_cases hk : k = 4
  · subst hk
    rw [if_pos rfl]
    exact keyOf_4 n s p c hp hc d w hs
  · rw [if_neg hk]
    obtain ⟨v1, v2, v3, v4, v5, rfl⟩ := valid_num hv hk
    rcases (show k = 0 ∨ k = 1 ∨ k = 2 ∨ k = 3 by omega) with rfl | rfl | rfl | rfl
    · exact keyOf_0 n p c d w (by have e : nbA 0 = 0 := rfl; omega) (by have e : nbA 0 = 0 := rfl; omega)
    · exact keyOf_1 n p c d w (by have e : nbA 1 = 0 := rfl; omega) (by have e : nbA 1 = 0 := rfl; omega)
    · exact keyOf_2 n p c d w (by have e : nbA 2 = 1000000000000000 := rfl; omega) (by have e : nbA 2 = 1000000000000000 := rfl; omega)
    · exact keyOf_3 n p c d w (by have e : nbA 3 = 0 := rfl; omega) (by have e : nbA 3 = 0 := rfl; omega)

set_option maxHeartbeats 4000000 in
theorem refEncode_any (k n : Int) (s : ByteArray) (p c : Int) (d : Bool) (w : World) (hs : s.size ≤ 200000) :
    Calls Tryd.prog 17 #[vv k n s, .int .i64 p, .int .i64 c, .bool d] w (TRes w (keyT k n s p c d) (wvE k n s p c)) := by
  have hb0 : Below w.heap.size w (w.alloc (.cells #[.int .i64 k, .int .i64 n, .string s] 23)) := (Below.refl _ _).alloc (Nat.le_refl _) _
  have hv0 := VCell.new w k n s 23
  have HC := Lib.hid (refValidate_any k n s (w.alloc (.cells #[.int .i64 k, .int .i64 n, .string s] 23)) (by unfold maxLen; omega))
  have HB0 := Lib.hid hb0
  have HV := Lib.hid hv0
  clear hb0 hv0
  by_cases hz : wvE k n s p c = 0
  · obtain ⟨z1, z2, z3, z4⟩ := wv_zero hz
    have e1 : keyT k n s p c d = turnS d (encS k n s p.toNat c.toNat) := by simp [keyT, hz]
    have hA := Lib.hid (fun W => refAsked_any p c W)
    rw [e1, hz]
    have hw0 : wpE p c = 0 := by unfold wpE; rw [if_pos ⟨z2, z3, z4⟩]
    rw [hw0] at hA
    rw [z1] at HC
    obtain ⟨q, rfl⟩ : ∃ q : Nat, p = q := ⟨p.toNat, by omega⟩
    obtain ⟨b, rfl⟩ : ∃ b : Nat, c = b := ⟨c.toNat, by omega⟩
    rw [Int.toNat_natCast, Int.toNat_natCast]
    have HK := Lib.hid (fun W => keyOf_any k n s q b (by omega) (by omega) d W hs z1)
    generalize turnS d (encS k n s q b) = x at *
    clear z1 z2 z3 z4 hz e1 hw0
    go_enter Tryd.func17, Tryd.ntmps17
    go_wp2_with fail
    refine (HC.out).mono ?_
    rintro e w1 ⟨rfl, hb1⟩
    have HV1 := Lib.hid (HV.out.below hb1 HV.out.2.2.2)
    have HB1 := Lib.hid (HB0.out.trans (hb1.mono HB0.out.size)); clear hb1
    obtain ⟨c0, c1, c2, _⟩ := HV1.out
    go_wp2_with fail
    refine (hA.out _).mono ?_
    rintro e w2 ⟨rfl, rfl⟩
    go_wp2_with fail
    refine (HK.out _).mono ?_
    rintro e w3 ⟨rfl, hb3⟩
    have HB3 := Lib.hid (HB1.out.trans (hb3.mono HB1.out.size)); clear hb3
    go_wp2_with fail
    go_ret2
    exact ⟨rfl, HB3.out⟩
  · have e1 : keyT k n s p c d = nil0 := by simp [keyT, hz]
    rw [e1]
    by_cases hv : vE k n s = 0
    · have hA := Lib.hid (fun W => refAsked_any p c W)
      have e2 : wvE k n s p c = wpE p c := by simp [wvE, hv]
      rw [e2] at hz ⊢
      rw [hv] at HC
      generalize wpE p c = r at *
      have dn : (r != 0) = true := by simpa using hz
      clear hz e1 hv e2
      go_enter Tryd.func17, Tryd.ntmps17
      go_wp2_with fail
      refine (HC.out).mono ?_
      rintro e w1 ⟨rfl, hb1⟩
      have HB1 := Lib.hid (HB0.out.trans (hb1.mono HB0.out.size)); clear hb1
      go_wp2_with fail
      refine (hA.out _).mono ?_
      rintro e w2 ⟨rfl, rfl⟩
      go_wp2_with fail
      go_ret2
      exact ⟨rfl, HB1.out⟩
    · have e2 : wvE k n s p c = vE k n s := by simp [wvE, hv]
      rw [e2] at hz ⊢
      generalize vE k n s = r at *
      have dn : (r != 0) = true := by simpa using hz
      clear hz e1 hv e2
      go_enter Tryd.func17, Tryd.ntmps17
      go_wp2_with fail
      refine (HC.out).mono ?_
      rintro e w1 ⟨rfl, hb1⟩
      have HB1 := Lib.hid (HB0.out.trans (hb1.mono HB0.out.size)); clear hb1
      go_wp2_with fail
      go_ret2
      exact ⟨rfl, HB1.out⟩
end Go.Proofs.YtiddnacmopfamaaDoor
