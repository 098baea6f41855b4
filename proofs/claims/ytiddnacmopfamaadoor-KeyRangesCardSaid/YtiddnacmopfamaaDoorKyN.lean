/- Prefix of both; the walk of KeyPrefixes. -/
import Derived.Test.YtiddnacmopfamaaDoorKyO
namespace Go.Proofs.YtiddnacmopfamaaDoor
open Go.RowKit
set_option linter.unusedVariables false
set_option linter.unusedSimpArgs false
set_option maxRecDepth 40000

def pfE (s : ByteArray) (p c : Int) : Int := if wvE 4 0 s p c = 0 then (if 48 < s.size then 3 else 0) else wvE 4 0 s p c
def pfT (s : ByteArray) (p c : Int) (d : Bool) : ByteArray := if pfE s p c = 0 then turnS d (prS p.toNat c.toNat s) else nil0
theorem pf_cases (s : ByteArray) (p c : Int) : (wvE 4 0 s p c ≠ 0 ∧ pfE s p c = wvE 4 0 s p c) ∨ (wvE 4 0 s p c = 0 ∧ 48 < s.size ∧ pfE s p c = 3) ∨ (wvE 4 0 s p c = 0 ∧ s.size ≤ 48 ∧ pfE s p c = 0) := by
  unfold pfE
  by_cases h : wvE 4 0 s p c = 0
  · rw [if_pos h]
    by_cases h2 : 48 < s.size
    · rw [if_pos h2]; exact .inr (.inl ⟨h, h2, rfl⟩)
    · rw [if_neg h2]; exact .inr (.inr ⟨h, by omega, rfl⟩)
  · rw [if_neg h]; exact .inl ⟨h, rfl⟩

set_option maxHeartbeats 4000000 in
theorem Prefix_any (s : ByteArray) (p c : Int) (d : Bool) (w : World) (he : Env w) (hs : s.size ≤ 200000) :
    Calls Tryd.prog 31 #[.string s, .int .i64 p, .int .i64 c, .bool d] w (TRes w (pfT s p c d) (pfE s p c)) := by
  have hb0 : Below w.heap.size w (w.alloc (.cells #[.int .i64 4, .int .i64 0, .string s] 23)) := (Below.refl _ _).alloc (Nat.le_refl _) _
  have HW := Lib.hid (wrongValues_one 4 0 s p c _ _ (by unfold maxLen; omega) (VCell.new w 4 0 s 23))
  have HE := Lib.hid (he.below hb0 (Nat.le_refl _)); clear he
  have HB0 := Lib.hid hb0; clear hb0
  rcases pf_cases s p c with ⟨h1, h2⟩ | ⟨h1, h2, h3⟩ | ⟨h1, h2, h3⟩
  · have e1 : pfT s p c d = nil0 := by simp [pfT, h2, h1]
    rw [e1, h2]
    generalize wvE 4 0 s p c = r at *
    have dn : (r != 0) = true := by simpa using h1
    clear h1 h2 e1
    go_enter Tryd.func31, Tryd.ntmps31
    go_wp2_with fail
    refine (HW.out).mono ?_
    rintro e w1 ⟨rfl, hb1⟩
    have HB1 := Lib.hid (HB0.out.trans (hb1.mono HB0.out.size)); clear hb1
    go_wp2_with fail
    go_ret2
    exact ⟨rfl, HB1.out⟩
  · have e1 : pfT s p c d = nil0 := by simp [pfT, h3]
    rw [e1, h3]
    rw [h1] at HW
    have i1 : (48 : Int) < s.size := by omega
    clear h1 h2 h3 e1
    go_enter Tryd.func31, Tryd.ntmps31
    go_wp2_with fail
    refine (HW.out).mono ?_
    rintro e w1 ⟨rfl, hb1⟩
    have HB1 := Lib.hid (HB0.out.trans (hb1.mono HB0.out.size)); clear hb1
    go_wp2_with fail
    go_ret2
    exact ⟨rfl, HB1.out⟩
  · have e1 : pfT s p c d = turnS d (prS p.toNat c.toNat s) := by simp [pfT, h3]
    rw [e1, h3]
    rw [h1] at HW
    have i1 : ¬ (48 : Int) < s.size := by omega
    obtain ⟨z1, z2, z3, z4⟩ := wv_zero h1
    obtain ⟨q, rfl⟩ : ∃ q : Nat, p = q := ⟨p.toNat, by omega⟩
    obtain ⟨b, rfl⟩ : ∃ b : Nat, c = b := ⟨c.toNat, by omega⟩
    rw [Int.toNat_natCast, Int.toNat_natCast]
    have HC := Lib.hid (fun W h => prefix_any s q b (by omega) (by omega) W h hs)
    have HT := Lib.hid (fun W => turned_any (prS q b s) d W (by have := prS_size q b s; omega))
    generalize prS q b s = x at *
    clear z1 z2 z3 z4 h1 h2 h3 e1
    go_enter Tryd.func31, Tryd.ntmps31
    go_wp2_with fail
    refine (HW.out).mono ?_
    rintro e w1 ⟨rfl, hb1⟩
    have HE1 := Lib.hid (HE.out.below hb1 (Nat.le_refl _))
    have HB1 := Lib.hid (HB0.out.trans (hb1.mono HB0.out.size)); clear hb1
    go_wp2_with fail
    refine (HC.out _ HE1.out).mono ?_
    rintro e w2 ⟨rfl, hb2⟩
    have HB2 := Lib.hid (HB1.out.trans (hb2.mono HB1.out.size)); clear hb2
    go_wp2_with fail
    refine (HT.out _).mono ?_
    rintro e w3 ⟨rfl, hb3⟩
    have HB3 := Lib.hid (HB2.out.trans (hb3.mono HB2.out.size)); clear hb3
    go_wp2_with fail
    go_ret2
    exact ⟨rfl, HB3.out⟩

set_option maxHeartbeats 4000000 in
theorem refPrefixOf_any (s : ByteArray) (p c : Nat) (hp : p < 3) (hc : c < 2) (d : Bool) (w : World) (hs : s.size ≤ 200000) :
    Calls Tryd.prog 63 #[.string s, .int .i64 p, .int .i64 c, .bool d] w fun e w' => e = .returned (.string (turnS d (prS p c s))) ∧ Below w.heap.size w w' := by
  have HH := Lib.hid (fun W => weighed_any s p c hp hc W hs)
  have hz : (BA (esc (wei48 p c s))).size ≤ 96 := by
    rw [BA_size]
    have h1 := (esc_len (wei48 p c s)).2
    have h2 := wei48_len p c s
    omega
  have hpr : BA [4] ++ BA (esc (wei48 p c s)) = prS p c s := BA_app (BA [4]) (esc (wei48 p c s))
  have hps := prS_size p c s
  have HT := Lib.hid (fun W => refTurned_any (prS p c s) d W (by omega))
  rw [← hpr] at HT
  have e1 : (BA [4]).size = 1 := rfl
  rw [← hpr]
  clear hpr hps
  generalize BA (esc (wei48 p c s)) = y at *
  have hcv : ∀ (W : World) (m : Nat), W.cell? ⟨m, 0, none⟩ = some (.int .u8 4) → (convert 73 9 (.slice (some ⟨m, 0, none⟩) 1 1)).run Tryd.prog W = .ok (.string (BA [4])) W := fun W m h => by
    rw [← strOne 4 4 rfl]; exact conv1 w _ W m h
  have i7 : ¬ (9223372036854775807 < (BA [4]).size + y.size) := by omega
  clear e1 hz
  go_enter Tryd.func63, Tryd.ntmps63
  go_wp2_with fail
  go_region_with (first | (go_at_call 69; refine (HH.out _).mono ?_; rintro e w1 ⟨rfl, hb1⟩; obtain ⟨hcc, hff⟩ := bcell hb1) | (go_at_call 57; refine (HT.out _).mono ?_; rintro e w2 ⟨rfl, hb2⟩))
  all_goals (go_wp2_with fail; go_ret; refine ⟨rfl, ?_⟩)
  all_goals first
    | exact (((((Below.refl _ _).alloc (Nat.le_refl _) _).drew).trans (hb1.mono (size_alloc (Nat.le_refl _) _))).trans (hb2.mono (Nat.le_trans (size_alloc (Nat.le_refl _) _) hb1.size)))
    | exact (((((Below.refl _ _).drew).trans (hb1.mono (Nat.le_refl _))).alloc (hb1.size) _).trans (hb2.mono (size_alloc hb1.size _)))

theorem wv4 (s : ByteArray) (p c : Int) : (2048 < s.size ∧ wvE 4 0 s p c = 3) ∨ (s.size ≤ 2048 ∧ wvE 4 0 s p c = wpE p c) := by
  unfold wvE vE
  by_cases h : 2048 < s.size
  · rw [if_pos h]; exact .inl ⟨h, rfl⟩
  · rw [if_neg h]
    have e : isV 4 0 s.toList.isEmpty = true := rfl
    rw [if_pos e]; exact .inr ⟨by omega, rfl⟩

set_option maxHeartbeats 4000000 in
theorem refPrefix_any (s : ByteArray) (p c : Int) (d : Bool) (w : World) (hs : s.size ≤ 200000) :
    Calls Tryd.prog 32 #[.string s, .int .i64 p, .int .i64 c, .bool d] w (TRes w (pfT s p c d) (pfE s p c)) := by
  have hA := Lib.hid (fun W => refAsked_any p c W)
  rcases wv4 s p c with ⟨g1, g2⟩ | ⟨g1, g2⟩
  · have i1 : (2048 : Int) < s.size := by omega
    have e2 : pfE s p c = 3 := by unfold pfE; rw [g2]; rfl
    have e1 : pfT s p c d = nil0 := by simp [pfT, e2]
    rw [e1, e2]
    clear e1 e2 g1 g2
    go_enter Tryd.func32, Tryd.ntmps32
    go_wp2_with fail
    go_ret2
    exact ⟨rfl, Below.refl _ _⟩
  have i1 : ¬ (2048 : Int) < s.size := by omega
  rcases pf_cases s p c with ⟨h1, h2⟩ | ⟨h1, h2, h3⟩ | ⟨h1, h2, h3⟩
  · have e1 : pfT s p c d = nil0 := by simp [pfT, h2, h1]
    rw [e1, h2]
    rw [g2] at h1 ⊢
    generalize wpE p c = r at *
    have dn : (r != 0) = true := by simpa using h1
    clear h1 h2 e1 g1 g2
    go_enter Tryd.func32, Tryd.ntmps32
    go_wp2_with fail
    refine (hA.out _).mono ?_
    rintro e w1 ⟨rfl, rfl⟩
    go_wp2_with fail
    go_ret2
    exact ⟨rfl, Below.refl _ _⟩
  · have e1 : pfT s p c d = nil0 := by simp [pfT, h3]
    rw [e1, h3]
    rw [g2] at h1
    rw [h1] at hA
    have i2 : (48 : Int) < s.size := by omega
    clear h1 h2 h3 e1 g1 g2
    go_enter Tryd.func32, Tryd.ntmps32
    go_wp2_with fail
    refine (hA.out _).mono ?_
    rintro e w1 ⟨rfl, rfl⟩
    go_wp2_with fail
    go_ret2
    exact ⟨rfl, Below.refl _ _⟩
  · have e1 : pfT s p c d = turnS d (prS p.toNat c.toNat s) := by simp [pfT, h3]
    rw [e1, h3]
    obtain ⟨z1, z2, z3, z4⟩ := wv_zero h1
    rw [g2] at h1
    rw [h1] at hA
    have i2 : ¬ (48 : Int) < s.size := by omega
    obtain ⟨q, rfl⟩ : ∃ q : Nat, p = q := ⟨p.toNat, by omega⟩
    obtain ⟨b, rfl⟩ : ∃ b : Nat, c = b := ⟨c.toNat, by omega⟩
    rw [Int.toNat_natCast, Int.toNat_natCast]
    have HC := Lib.hid (fun W => refPrefixOf_any s q b (by omega) (by omega) d W hs)
    generalize turnS d (prS q b s) = x at *
    clear z1 z2 z3 z4 h1 h2 h3 e1 g1 g2
    go_enter Tryd.func32, Tryd.ntmps32
    go_wp2_with fail
    refine (hA.out _).mono ?_
    rintro e w1 ⟨rfl, rfl⟩
    go_wp2_with fail
    refine (HC.out _).mono ?_
    rintro e w2 ⟨rfl, hb2⟩
    have HB2 := Lib.hid hb2; clear hb2
    go_wp2_with fail
    go_ret2
    exact ⟨rfl, HB2.out⟩

set_option maxHeartbeats 8000000 in
theorem keyPrefixes_any (s : ByteArray) (p c x : Int) (w : World) (he : Env w) (hs : s.size ≤ 140737488355328) :
    Calls Tryd.prog 8 #[.string s, .agg #[.int .i64 p, .int .i64 c, .int .i64 x]] w fun e w' => e = .returned (.bool true) ∧ Below w.heap.size w w' := by
  have hr0 := R3.new w p c x 24
  have hb0 : Below w.heap.size w (w.alloc (.cells #[.int .i64 p, .int .i64 c, .int .i64 x] 24)) := (Below.refl _ _).alloc (Nat.le_refl _) _
  have HE := Lib.hid (he.below hb0 (Nat.le_refl _)); clear he
  have HR := Lib.hid hr0; clear hr0
  have HB := Lib.hid hb0; clear hb0
  have C0 := Lib.hid (fun W h => known_any W h)
  go_enter Tryd.func8, Tryd.ntmps8
  by_cases hl : 40000 < s.size
  · have i1 : (40000 : Int) < s.size := by omega
    go_wp2_with fail
    refine (C0.out _ HE.out).mono ?_
    rintro e w4 ⟨rfl, hb4⟩
    have HB4 := Lib.hid (HB.out.trans (hb4.mono HB.out.size)); clear hb4
    go_wp2_with fail
    go_ret
    exact ⟨rfl, HB4.out⟩
  · have i1 : ¬ (40000 : Int) < s.size := by omega
    have C1 := Lib.hid (fun W h => Prefix_any s p c (x == 1) W h (by omega))
    have C2 := Lib.hid (fun W => refPrefix_any s p c (x == 1) W (by omega))
    have C3 := Lib.hid (fun W => Behind_any s W (by omega))
    have C4 := Lib.hid (fun W => refBehind_any s W (by omega))
    generalize pfT s p c (x == 1) = t at *
    generalize pfE s p c = r at *
    generalize oT (behO s.data.toList) = u at *
    generalize (behO s.data.toList).isSome = b at *
    obtain ⟨r0, r1, r2, _⟩ := HR.out
    go_wp2_with fail
    refine (C1.out _ HE.out).mono ?_
    rintro e w2 ⟨rfl, hb2⟩
    have HE2 := Lib.hid (HE.out.below hb2 (Nat.le_refl _))
    have HR2 := Lib.hid (HR.out.below hb2 HR.out.2.2.2)
    have HB2 := Lib.hid (HB.out.trans (hb2.mono HB.out.size)); clear hb2 r0 r1 r2
    obtain ⟨r0, r1, r2, _⟩ := HR2.out
    go_wp2_with fail
    refine (C2.out _).mono ?_
    rintro e w3 ⟨rfl, hb3⟩
    have HE3 := Lib.hid (HE2.out.below hb3 (Nat.le_refl _))
    have HB3 := Lib.hid (HB2.out.trans (hb3.mono HB2.out.size)); clear hb3
    go_wp2_with fail
    refine (C3.out _).mono ?_
    rintro e w4 ⟨rfl, hb4⟩
    have HE4 := Lib.hid (HE3.out.below hb4 (Nat.le_refl _))
    have HB4 := Lib.hid (HB3.out.trans (hb4.mono HB3.out.size)); clear hb4
    go_wp2_with fail
    refine (C4.out _).mono ?_
    rintro e w5 ⟨rfl, hb5⟩
    have HE5 := Lib.hid (HE4.out.below hb5 (Nat.le_refl _))
    have HB5 := Lib.hid (HB4.out.trans (hb5.mono HB4.out.size)); clear hb5
    cases b
    all_goals
      go_wp2_with fail
      refine (C0.out _ HE5.out).mono ?_
      rintro e w6 ⟨rfl, hb6⟩
      have HB6 := Lib.hid (HB5.out.trans (hb6.mono HB5.out.size)); clear hb6
      go_wp2_with fail
      go_ret
      exact ⟨rfl, HB6.out⟩
theorem keyPrefixes_all (s : ByteArray) (p c x : Int) (w : World) (he : Env w) (hs : s.size ≤ 140737488355328) (h1 : -9223372036854775808 ≤ p ∧ p ≤ 9223372036854775807) (h2 : -9223372036854775808 ≤ c ∧ c ≤ 9223372036854775807) (h3 : -9223372036854775808 ≤ x ∧ x ≤ 9223372036854775807) :
    Calls Tryd.prog 8 #[.string s, .agg #[.int .i64 p, .int .i64 c, .int .i64 x]] w fun e w' => e = .returned (.bool true) ∧ Below w.heap.size w w' :=
  keyPrefixes_any s p c x w he hs
end Go.Proofs.YtiddnacmopfamaaDoor
