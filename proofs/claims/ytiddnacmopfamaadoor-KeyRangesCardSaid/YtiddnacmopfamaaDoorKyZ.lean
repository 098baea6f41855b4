/- Encode of the program. -/
import Derived.Test.YtiddnacmopfamaaDoorKyY
namespace Go.Proofs.YtiddnacmopfamaaDoor
open Go.RowKit
set_option linter.unusedVariables false
set_option linter.unusedSimpArgs false
set_option maxRecDepth 40000

theorem enc_size {k n : Int} {s : ByteArray} (p c : Nat) : (encS k n s p c).size ≤ 200 := by
  unfold encS
  split
  · rw [BA_size, List.length_cons, List.length_append]
    have h1 := (esc_len (wei48 p c s)).2
    have h2 := wei48_len p c s
    simp; omega
  · rw [SN_size]
    unfold numL
    rw [List.length_cons, digs_len]
    have := nbS_le k.toNat
    omega

set_option maxHeartbeats 4000000 in
theorem encode_text (n : Int) (s : ByteArray) (p c : Nat) (hp : p < 3) (hc : c < 2) (w : World) (he : Env w) (hs : s.size ≤ 200000) :
    Calls Tryd.prog 54 #[vv 4 n s, .int .i64 p, .int .i64 c] w fun e w' => e = .returned (.string (BA (4 :: (esc (wei48 p c s) ++ [0, 0])))) ∧ Below w.heap.size w w' := by
  have HC := Lib.hid (fun W h => prefix_any s p c hp hc W h hs)
  have hap : prS p c s ++ ⟨#[0, 0]⟩ = BA (4 :: (esc (wei48 p c s) ++ [0, 0])) := by
    have h := BA_app (prS p c s) [0, 0]
    exact h
  have hz := prS_size p c s
  rw [← hap]
  generalize prS p c s = x at *
  have i7 : ¬ (9223372036854775807 < x.size + 2) := by omega
  have hb0 : Below w.heap.size w (w.alloc (.cells #[.int .i64 4, .int .i64 n, .string s] 23)) := (Below.refl _ _).alloc (Nat.le_refl _) _
  have HE := Lib.hid (he.below hb0 (Nat.le_refl _)); clear he
  have HB0 := Lib.hid hb0; clear hb0
  clear hap
  go_enter Tryd.func54, Tryd.ntmps54
  go_wp2_with fail
  refine (HC.out _ HE.out).mono ?_
  rintro e w1 ⟨rfl, hb1⟩
  have HB1 := Lib.hid (HB0.out.trans (hb1.mono (by simp))); clear hb1
  go_wp2_with fail
  go_ret
  exact ⟨rfl, HB1.out⟩
theorem encode_any (k n : Int) (s : ByteArray) (p c : Nat) (hp : p < 3) (hc : c < 2) (w : World) (he : Env w) (hs : s.size ≤ 200000) (hv : vE k n s = 0) :
    Calls Tryd.prog 54 #[vv k n s, .int .i64 p, .int .i64 c] w fun e w' => e = .returned (.string (encS k n s p c)) ∧ Below w.heap.size w w' := by
  unfold encS
  by_cases hk : k = 4
  · subst hk
    rw [if_pos rfl]
    exact encode_text n s p c hp hc w he hs
  · rw [if_neg hk]
    exact encode_num k n s p c w hv hk
def keyT (k n : Int) (s : ByteArray) (p c : Int) (d : Bool) : ByteArray := if wvE k n s p c = 0 then turnS d (encS k n s p.toNat c.toNat) else nil0
theorem wv_zero {k n p c : Int} {s : ByteArray} (h : wvE k n s p c = 0) : vE k n s = 0 ∧ 0 ≤ p ∧ p < 3 ∧ (c = 0 ∨ c = 1) := by
  unfold wvE at h
  by_cases hv : vE k n s = 0
  · rw [if_pos hv] at h
    unfold wpE at h
    split at h
    · rename_i h1
      exact ⟨hv, h1.1, h1.2.1, h1.2.2⟩
    · cases h
  · rw [if_neg hv] at h; exact absurd h hv

set_option maxHeartbeats 4000000 in
theorem Encode_any (k n : Int) (s : ByteArray) (p c : Int) (d : Bool) (w : World) (he : Env w) (hs : s.size ≤ 200000) :
    Calls Tryd.prog 16 #[vv k n s, .int .i64 p, .int .i64 c, .bool d] w (TRes w (keyT k n s p c d) (wvE k n s p c)) := by
  have hb0 : Below w.heap.size w (w.alloc (.cells #[.int .i64 k, .int .i64 n, .string s] 23)) := (Below.refl _ _).alloc (Nat.le_refl _) _
  have hb1 : Below w.heap.size w ((w.alloc (.cells #[.int .i64 k, .int .i64 n, .string s] 23)).alloc (.cells #[.int .i64 k, .int .i64 n, .string s] 23)) := hb0.alloc (by simp) _
  have hv0 := VCell.new w k n s 23
  have hv1 := VCell.new (w.alloc (.cells #[.int .i64 k, .int .i64 n, .string s] 23)) k n s 23
  have hv0' := hv0.below (Below.of_alloc (w.alloc (.cells #[.int .i64 k, .int .i64 n, .string s] 23)) (.cells #[.int .i64 k, .int .i64 n, .string s] 23) _ (Nat.le_refl _)) hv0.2.2.2
  rw [World.size_alloc] at hv1
  have HW := Lib.hid (wrongValues_one k n s p c _ _ (by unfold maxLen; omega) hv1)
  have HE := Lib.hid (he.below hb1 (Nat.le_refl _)); clear he
  have HV := Lib.hid hv0'
  have HB1 := Lib.hid hb1
  clear hb0 hb1 hv0 hv1 hv0'
  by_cases hz : wvE k n s p c = 0
  · obtain ⟨z1, z2, z3, z4⟩ := wv_zero hz
    have e1 : keyT k n s p c d = turnS d (encS k n s p.toNat c.toNat) := by simp [keyT, hz]
    rw [e1, hz]
    rw [hz] at HW
    obtain ⟨q, rfl⟩ : ∃ q : Nat, p = q := ⟨p.toNat, by omega⟩
    obtain ⟨b, rfl⟩ : ∃ b : Nat, c = b := ⟨c.toNat, by omega⟩
    rw [Int.toNat_natCast, Int.toNat_natCast]
    have HC := Lib.hid (fun W h => encode_any k n s q b (by omega) (by omega) W h hs z1)
    have HT := Lib.hid (fun W => turned_any (encS k n s q b) d W (by have := enc_size (k := k) (n := n) (s := s) q b; omega))
    generalize encS k n s q b = x at *
    clear z1 z2 z3 z4 hz e1
    go_enter Tryd.func16, Tryd.ntmps16
    go_wp2_with fail
    refine (HW.out).mono ?_
    rintro e w1 ⟨rfl, hb1⟩
    have HV1 := Lib.hid (HV.out.below hb1 HV.out.2.2.2)
    have HE1 := Lib.hid (HE.out.below hb1 (Nat.le_refl _))
    have HB2 := Lib.hid (HB1.out.trans (hb1.mono HB1.out.size)); clear hb1
    obtain ⟨c0, c1, c2, _⟩ := HV1.out
    go_wp2_with fail
    refine (HC.out _ HE1.out).mono ?_
    rintro e w2 ⟨rfl, hb2⟩
    have HB3 := Lib.hid (HB2.out.trans (hb2.mono HB2.out.size)); clear hb2
    go_wp2_with fail
    refine (HT.out _).mono ?_
    rintro e w3 ⟨rfl, hb3⟩
    have HB4 := Lib.hid (HB3.out.trans (hb3.mono HB3.out.size)); clear hb3
    go_wp2_with fail
    go_ret2
    exact ⟨rfl, HB4.out⟩
  · have e1 : keyT k n s p c d = nil0 := by simp [keyT, hz]
    rw [e1]
    generalize wvE k n s p c = r at *
    have dn : (r != 0) = true := by simpa using hz
    clear hz e1
    go_enter Tryd.func16, Tryd.ntmps16
    go_wp2_with fail
    refine (HW.out).mono ?_
    rintro e w1 ⟨rfl, hb1⟩
    have HB2 := Lib.hid (HB1.out.trans (hb1.mono HB1.out.size)); clear hb1
    go_wp2_with fail
    go_ret2
    exact ⟨rfl, HB2.out⟩
end Go.Proofs.YtiddnacmopfamaaDoor
