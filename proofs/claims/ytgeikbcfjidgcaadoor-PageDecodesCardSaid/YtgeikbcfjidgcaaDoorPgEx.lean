/- The walks of PageEncodes and PageDecodes. -/
import Derived.Test.YtgeikbcfjidgcaaDoorPgEw
import Derived.Test.YtgeikbcfjidgcaaDoorPgC5
import Derived.Lib.LaidU8T
namespace Go.Proofs.YtgeikbcfjidgcaaDoor
open Go.RowKit Go.Lib Go.Shelf
set_option linter.unusedVariables false
set_option linter.unusedSimpArgs false

theorem u8extra : U8Extra Tryd.prog Tryd.lays196_ren := {
  n3 := by kernel_rfl
  n4 := by kernel_rfl
  y3 := by kernel_rfl
  y4 := by kernel_rfl
  c5 := by kernel_rfl
  c119 := by kernel_rfl
  c138 := by kernel_rfl }
theorem u8_of_laid {l : List (String × DataW Unit)} {W : World} (h : laidMet Tryd.prog l W) (h1 : ("unicode/utf8.first", Rows.laid_unicode_utf8_first) ∈ l) (h2 : ("unicode/utf8.acceptRanges", Rows.laid_unicode_utf8_acceptRanges) ∈ l) : Lib.Utf8Tabs 1 2 W := by
  have e1 : Rows.laid_unicode_utf8_first = firstData := by kernel_rfl
  have e2 : (Rows.laid_unicode_utf8_acceptRanges : DataW Unit) = acceptData := by kernel_rfl
  rw [e1] at h1
  rw [e2] at h2
  exact utf8Tabs_of_readsT (U8Types.of196 Tryd.lays196) u8extra (laidMet.reads h h1) (laidMet.reads h h2)

set_option maxHeartbeats 4000000 in
set_option maxRecDepth 40000 in
theorem pageEncodes_any (s : ByteArray) (p : Int) (w : World) (ht : Tabs w) (hsp : SpTab w) (hu : Lib.Utf8Tabs 1 2 w) (hs : s.size ≤ maxLen) :
    Calls Tryd.prog 4 #[.string s, .int .i64 p] w fun e w' => e = .returned (.bool true) ∧ Below w.heap.size w w' := by
  have HT := Lib.hid ht; clear ht
  have HSP := Lib.hid hsp; clear hsp
  have HU := Lib.hid hu; clear hu
  have C0 := Lib.hid (over_any s hs)
  have C1 := Lib.hid (fun W h1 h2 h3 => Encode_any s p W h1 h2 h3 hs)
  have C2 := Lib.hid (fun W h3 => refEncode_any s p W h3 hs)
  generalize ecT s p = x at *
  generalize ecE s p = n at *
  go_enter Tryd.func4, Tryd.ntmps4
  go_wp2_with fail
  refine (C0.out _).mono ?_
  rintro e w1 ⟨rfl, rfl⟩
  cases ho : decide (16384 < s.size)
  · clear ho
    go_wp2_with fail
    refine (C1.out _ HT.out HSP.out HU.out).mono ?_
    rintro e x1 ⟨rfl, hb1⟩
    have HT1 := Lib.hid (HT.out.below hb1 (Nat.le_refl _))
    have HU1 := Lib.hid (Utf8Tabs_below HU.out hb1)
    have HB1 := Lib.hid hb1; clear hb1
    go_wp2_with fail
    refine (C2.out _ HU1.out).mono ?_
    rintro e x2 ⟨rfl, hb2⟩
    have HT2 := Lib.hid (HT1.out.below hb2 (Nat.le_refl _))
    have HB2 := Lib.hid (HB1.out.trans (hb2.mono HB1.out.size)); clear hb2
    go_wp2_with fail
    refine (known_any _ HT2.out).mono ?_
    rintro e x5 ⟨rfl, hb5⟩
    have HB5 := Lib.hid (HB2.out.trans (hb5.mono HB2.out.size)); clear hb5
    go_wp2_with fail
    go_ret
    exact ⟨rfl, HB5.out⟩
  · clear ho
    go_wp2_with fail
    refine (known_any _ HT.out).mono ?_
    rintro e w3 ⟨rfl, hb3⟩
    have HB3 := Lib.hid hb3; clear hb3
    go_wp2_with fail
    go_ret
    exact ⟨rfl, HB3.out⟩

theorem decE_str (s : ByteArray) (p : Int) : (decE s p ≠ 0 → True) := fun _ => trivial
theorem decT_max (s : ByteArray) (p : Int) (h : decE s p = 0) : (decT s p).size ≤ maxLen := by
  unfold maxLen
  by_cases hz : wrongN p 0 [s] = 0
  · obtain ⟨hp0, hp3, _, hss⟩ := wrong_zero hz
    have hs2 : s.size ≤ 2048 := hss s (by simp)
    by_cases hv : vld p.toNat s.data.toList = true
    · have e1 : decT s p = decS p.toNat s.data.toList := by simp [decT, hz, hv]
      rw [e1]
      have hl : s.data.toList.length = s.size := rfl
      have h3 := decS3_le (p := p.toNat) (by omega) s.data.toList s.data.toList.length (Nat.le_refl _)
      rw [List.take_length] at h3
      omega
    · exact absurd h (by simp [decE, hz, hv])
  · exact absurd h (by simp [decE, hz])

set_option maxHeartbeats 4000000 in
set_option maxRecDepth 40000 in
theorem pageDecodes_any (s : ByteArray) (p : Int) (w : World) (ht : Tabs w) (hsp : SpTab w) (hu : Lib.Utf8Tabs 1 2 w) (hs : s.size ≤ maxLen) :
    Calls Tryd.prog 3 #[.string s, .int .i64 p] w fun e w' => e = .returned (.bool true) ∧ Below w.heap.size w w' := by
  have HT := Lib.hid ht; clear ht
  have HSP := Lib.hid hsp; clear hsp
  have HU := Lib.hid hu; clear hu
  have C0 := Lib.hid (over_any s hs)
  have C1 := Lib.hid (fun W h1 h2 => Decode_any s p W h1 h2 hs)
  have C2 := Lib.hid (fun W => refDecode_any s p W hs)
  have C3 := Lib.hid (fun W h1 h2 => Valid_any s p W h1 h2 hs)
  have C4 := Lib.hid (fun W => refValid_any s p W hs)
  have C5 : Hid (decE s p = 0 → ∀ W, Tabs W → SpTab W → Lib.Utf8Tabs 1 2 W → Calls Tryd.prog 18 #[.string (decT s p), .int .i64 p] W (SRes W s 0)) := Lib.hid fun h W h1 h2 h3 => by
    have hh := Encode_any (decT s p) p W h1 h2 h3 (decT_max s p h)
    rw [(back_of h).1, (back_of h).2] at hh
    exact hh
  generalize decT s p = x at *
  generalize decE s p = n at *
  generalize vldB s p = v at *
  generalize wrongN p 0 [s] = m at *
  go_enter Tryd.func3, Tryd.ntmps3
  go_wp2_with fail
  refine (C0.out _).mono ?_
  rintro e w1 ⟨rfl, rfl⟩
  cases ho : decide (16384 < s.size)
  · clear ho
    go_wp2_with fail
    refine (C1.out _ HT.out HSP.out).mono ?_
    rintro e x1 ⟨rfl, hb1⟩
    have HT1 := Lib.hid (HT.out.below hb1 (Nat.le_refl _))
    have HSP1 := Lib.hid (HSP.out.below hb1 HT.out.pos)
    have HU1 := Lib.hid (Utf8Tabs_below HU.out hb1)
    have HB1 := Lib.hid hb1; clear hb1
    go_wp2_with fail
    refine (C2.out _).mono ?_
    rintro e x2 ⟨rfl, hb2⟩
    have HT2 := Lib.hid (HT1.out.below hb2 (Nat.le_refl _))
    have HSP2 := Lib.hid (HSP1.out.below hb2 HT1.out.pos)
    have HU2 := Lib.hid (Utf8Tabs_below HU1.out hb2)
    have HB2 := Lib.hid (HB1.out.trans (hb2.mono HB1.out.size)); clear hb2
    go_wp2_with fail
    refine (C3.out _ HT2.out HSP2.out).mono ?_
    rintro e x3 ⟨rfl, hb3⟩
    have HT3 := Lib.hid (HT2.out.below hb3 (Nat.le_refl _))
    have HSP3 := Lib.hid (HSP2.out.below hb3 HT2.out.pos)
    have HU3 := Lib.hid (Utf8Tabs_below HU2.out hb3)
    have HB3 := Lib.hid (HB2.out.trans (hb3.mono HB2.out.size)); clear hb3
    go_wp2_with fail
    refine (C4.out _).mono ?_
    rintro e x4 ⟨rfl, hb4⟩
    have HT4 := Lib.hid (HT3.out.below hb4 (Nat.le_refl _))
    have HSP4 := Lib.hid (HSP3.out.below hb4 HT3.out.pos)
    have HU4 := Lib.hid (Utf8Tabs_below HU3.out hb4)
    have HB4 := Lib.hid (HB3.out.trans (hb4.mono HB3.out.size)); clear hb4
    by_cases hn : n = 0
    · have C6 := Lib.hid (C5.out hn)
      subst hn
      go_wp2_with fail
      refine (C6.out _ HT4.out HSP4.out HU4.out).mono ?_
      rintro e x5 ⟨rfl, hb5⟩
      have HT5 := Lib.hid (HT4.out.below hb5 (Nat.le_refl _))
      have HB5 := Lib.hid (HB4.out.trans (hb5.mono HB4.out.size)); clear hb5
      go_wp2_with fail
      refine (known_any _ HT5.out).mono ?_
      rintro e x6 ⟨rfl, hb6⟩
      have HB6 := Lib.hid (HB5.out.trans (hb6.mono HB5.out.size)); clear hb6
      go_wp2_with fail
      go_ret
      exact ⟨rfl, HB6.out⟩
    · have dn : (n != 0) = true := by simpa using hn
      clear hn C5
      go_wp2_with fail
      refine (known_any _ HT4.out).mono ?_
      rintro e x6 ⟨rfl, hb6⟩
      have HB6 := Lib.hid (HB4.out.trans (hb6.mono HB4.out.size)); clear hb6
      go_wp2_with fail
      go_ret
      exact ⟨rfl, HB6.out⟩
  · clear ho
    go_wp2_with fail
    refine (known_any _ HT.out).mono ?_
    rintro e w3 ⟨rfl, hb3⟩
    have HB3 := Lib.hid hb3; clear hb3
    go_wp2_with fail
    go_ret
    exact ⟨rfl, HB3.out⟩
end Go.Proofs.YtgeikbcfjidgcaaDoor
