/- The walk of BitsReads. -/
import Derived.Test.YtoldjpnkgdhpkaaUr
import Derived.Test.YtoldjpnkgdhpkaaUR
import Derived.Test.YtoldjpnkgdhpkaaInB
import Derived.Test.YtoldjpnkgdhpkaaSm
namespace Go.Proofs.Ytoldjpnkgdhpkaa
open Go.RowKit
set_option linter.unusedVariables false
set_option linter.unusedSimpArgs false

theorem unL_len (bs : List Int) (n : Int) : (unL bs n).length ≤ 1000000 := by
  unfold unL
  split
  · rename_i h
    have h1 := upI_len bs (8 * bs.length)
    simp [unS, cntB] at h
    omega
  · simp
theorem upkL_len (bs : List Int) (h : bytesI bs) : (upkL bs).length ≤ 1000000 := by
  unfold upkL unpackL
  cases hu : unpackGo [] 1 bs with
  | none => simp
  | some out =>
    have := (unpackGo_set _ bs [] 1 out rfl h (by omega) (by omega) ⟨by simp, List.Pairwise.nil⟩ hu).length_le
    by_cases hp : packL 1 (rangesL out) = bs
    · simp [hp]; omega
    · simp [hp]
theorem Own.rd {w : World} {base : Nat} {A : Option Addr} {c : Nat} {k : IntKind} {e : TypeId} {zs : List Int} (h : Own w base e k (.slice A zs.length c) zs) : Rd w w.heap.size k A zs := by
  obtain ⟨_, _, e1, _, _, hr1⟩ := h.out
  injection e1 with e1
  subst e1
  exact hr1

set_option maxHeartbeats 4000000 in
theorem bitsReads_any (A : Option Addr) (c : Nat) (bs : List Int) (n : Int) (w : World) (h1 : InB w A bs c) :
    Calls Try.prog 10 #[.slice A bs.length c, .int .i64 n] w fun e w' => e = .returned (.bool true) ∧ Below w.heap.size w w' := by
  have hcap := h1.cap
  have hmax := h1.max
  by_cases ha : 3000 < bs.length
  · go_enter Try.func10, Try.ntmps10
    go_wp2_with fail
    refine (known_any _).mono ?_
    rintro e w1 ⟨rfl, hb⟩
    go_wp2_with fail
    go_ret
    exact ⟨rfl, hb⟩
  · have hbl : bs.length ≤ 3000 := by omega
    have q1 := unL_len bs n
    have q2 := upkL_len bs h1.byt
    have C1 : Hid (∀ W, Below w.heap.size w W → Calls Try.prog 41 #[.slice A bs.length c, .int .i64 n] W (LRes W (unL bs n) (unN bs n))) := Lib.hid fun W hb =>
      unmap_any A c bs n W ((h1.rd.below hb).more hb.size) hbl h1.byt
    have C2 : Hid (∀ W, Below w.heap.size w W → Calls Try.prog 43 #[.slice A bs.length c, .int .i64 n] W (LRes W (unL bs n) (unN bs n))) := Lib.hid fun W hb =>
      refUnmap_any A c bs n W ((h1.rd.below hb).more hb.size) hbl h1.byt
    have C3 : Hid (∀ W, Below w.heap.size w W → Calls Try.prog 42 #[.slice A bs.length c] W (LRes W (upkL bs) (upkN bs))) := Lib.hid fun W hb =>
      unpack_any A c bs W ((h1.rd.below hb).more hb.size) hbl h1.byt hcap hmax
    have C4 : Hid (∀ W, Below w.heap.size w W → Calls Try.prog 44 #[.slice A bs.length c] W (LRes W (upkL bs) (upkN bs))) := Lib.hid fun W hb =>
      refUnpack_any A c bs W ((h1.rd.below hb).more hb.size) hbl h1.byt hcap hmax
    clear h1
    generalize unL bs n = l at *
    generalize unN bs n = m at *
    generalize upkL bs = l2 at *
    generalize upkN bs = m2 at *
    go_enter Try.func10, Try.ntmps10
    go_wp2_with fail
    refine (C1.out _ (Below.refl _ _)).mono ?_
    rintro e w1 ⟨D1, d1, rfl, ho1, hb1⟩
    have s1 := hb1.size
    have R1 := Lib.hid ho1.rd; clear ho1
    have HB1 := Lib.hid hb1; clear hb1
    go_wp2_with fail
    refine (C2.out _ HB1.out).mono ?_
    rintro e w2 ⟨D2, d2, rfl, ho2, hb2⟩
    have s2 := hb2.size
    have R1' := Lib.hid (R1.out.below hb2); clear R1
    have R2 := Lib.hid ho2.rd; clear ho2
    have HB2 := Lib.hid (HB1.out.trans (hb2.mono s1)); clear hb2
    go_wp2_with fail
    refine (C3.out _ HB2.out).mono ?_
    rintro e w3 ⟨D3, d3, rfl, ho3, hb3⟩
    have s3 := hb3.size
    have R1 := Lib.hid (R1'.out.below (hb3.mono s2)); clear R1'
    have R2' := Lib.hid (R2.out.below hb3); clear R2
    have R3 := Lib.hid ho3.rd; clear ho3
    have HB3 := Lib.hid (HB2.out.trans (hb3.mono (Nat.le_trans s1 s2))); clear hb3
    go_wp2_with fail
    refine (C4.out _ HB3.out).mono ?_
    rintro e w4 ⟨D4, d4, rfl, ho4, hb4⟩
    have s4 := hb4.size
    have R1' := Lib.hid (R1.out.below (hb4.mono (Nat.le_trans s2 s3))); clear R1
    have R2 := Lib.hid (R2'.out.below (hb4.mono s3)); clear R2'
    have R3' := Lib.hid (R3.out.below hb4); clear R3
    have R4 := Lib.hid ho4.rd; clear ho4
    have HB4 := Lib.hid (HB3.out.trans (hb4.mono (Nat.le_trans s1 (Nat.le_trans s2 s3)))); clear hb4
    go_wp2_with fail
    refine (sameInts_any D1 D2 d1 d2 l l _ _ _ R1'.out R2.out (by omega) (by omega)).mono ?_
    rintro e w5 ⟨rfl, hd5⟩
    have HD5 := Lib.hid hd5; clear hd5
    have ht : decide (l = l) = true := by simp
    rw [ht]
    clear ht
    go_wp2_with fail
    refine (sameInts_any D3 D4 d3 d4 l2 l2 _ _ _ (R3'.out.dr HD5.out) (R4.out.dr HD5.out) (by omega) (by omega)).mono ?_
    rintro e w6 ⟨rfl, hd6⟩
    have HD6 := Lib.hid hd6; clear hd6
    have ht : decide (l2 = l2) = true := by simp
    rw [ht]
    clear ht
    go_wp2_with fail
    refine (known_any _).mono ?_
    rintro e w7 ⟨rfl, hb7⟩
    have HB7 := Lib.hid hb7; clear hb7
    go_wp2_with fail
    go_ret
    have hb6 := Dr.below (Dr.below HB4.out HD5.out) HD6.out
    exact ⟨rfl, hb6.trans (HB7.out.mono hb6.size)⟩
end Go.Proofs.Ytoldjpnkgdhpkaa
