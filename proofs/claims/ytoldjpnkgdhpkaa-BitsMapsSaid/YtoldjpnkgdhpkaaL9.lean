/- The walk of BitsMaps. -/
import Derived.Test.YtoldjpnkgdhpkaaMaR
import Derived.Test.YtoldjpnkgdhpkaaL10
namespace Go.Proofs.Ytoldjpnkgdhpkaa
open Go.RowKit
set_option linter.unusedVariables false
set_option linter.unusedSimpArgs false

theorem IsS.of_map {l : List Int} {n : Int} (h : mapB l n = true) : IsS l := by
  simp [mapB, cntB] at h
  have := (isSetB_iff n l).1 h.2
  exact ⟨fun x hx => by have := this.1 x hx; omega, this.2⟩
theorem unL_map {l : List Int} {n : Int} (h : mapB l n = true) : unL (mpL l n) n = l ∧ unN (mpL l n) n = 0 ∧ (mpL l n).length ≤ 3000 ∧ bytesI (mpL l n) := by
  have hS := IsS.of_map h
  have e : mpL l n = mapI l ((n.toNat + 7) / 8) := by simp [mpL, h]
  have hb : (cntB n && isSetB n l) = true := h
  simp only [Bool.and_eq_true] at hb
  have hn : 0 ≤ n ∧ n ≤ 300 := by simpa [cntB] using hb.1
  have hset := (isSetB_iff n l).1 hb.2
  have hu := upI_mapI l n.toNat hset.2 (fun x hx => by have := hset.1 x hx; omega)
  have hlen : (mapI l ((n.toNat + 7) / 8)).length = (n.toNat + 7) / 8 := mapI_len _ _
  rw [e]
  have hS' : unS (mapI l ((n.toNat + 7) / 8)) n = true := by
    unfold unS
    rw [hu, hb.1, hb.2, hlen]
    simp only [Bool.true_and, Bool.and_true, decide_eq_true_eq]
    omega
  refine ⟨?_, ?_, by omega, mapI_bytes _ _ hset.2 fun x hx => (hset.1 x hx).1⟩
  · unfold unL; rw [if_pos hS', hu]
  · unfold unN; rw [if_pos hb.1, if_pos hS']
def pkL (l : List Int) : List Int := if isSetB 300 l then packL 1 (rangesL l) else []
def pkN (l : List Int) : Int := if isSetB 300 l then 0 else 1
theorem upkL_pk {l : List Int} (h : isSetB 300 l = true) : upkL (pkL l) = l ∧ upkN (pkL l) = 0 ∧ (pkL l).length ≤ 3000 ∧ bytesI (pkL l) := by
  have hS := (IsS.iff l).1 h
  have e : pkL l = packL 1 (rangesL l) := by simp [pkL, h]
  have hu := unpackL_packL l hS
  rw [e]
  refine ⟨by simp [upkL, hu], by simp [upkN, hu], ?_, packL_ok _ 1 (by omega) (rangesL_ok _ l rfl hS).1⟩
  have := packL_len (rangesL l) 1
  have := rangesL_len l
  have := hS.length_le
  omega
theorem packB_any (A : Option Addr) (c : Nat) (l : List Int) (w : World) (h1 : Lk w w.heap.size A l c) : Calls Try.prog 39 #[.slice A l.length c] w (BRes w (pkL l) (pkN l)) := by
  cases hs : isSetB 300 l
  · have e1 : pkN l = 1 := by simp [pkN, hs]
    have e2 : pkL l = [] := by simp [pkL, hs]
    rw [e1, e2]
    exact (pack_no A c l w h1 hs).mono fun e w' ⟨he, hw⟩ => .err he (hw ▸ Below.refl _ _)
  · have e1 : pkN l = 0 := by simp [pkN, hs]
    have e2 : pkL l = packL 1 (rangesL l) := by simp [pkL, hs]
    rw [e1, e2]
    exact (pack_yes A c l w h1 hs).mono fun e w' ⟨v, he, ho, hb⟩ => ho.bres he hb
theorem refPackB_any (A : Option Addr) (c : Nat) (l : List Int) (w : World) (h1 : Lk w w.heap.size A l c) : Calls Try.prog 40 #[.slice A l.length c] w (BRes w (pkL l) (pkN l)) := by
  cases hs : isSetB 300 l
  · have e1 : pkN l = 1 := by simp [pkN, hs]
    have e2 : pkL l = [] := by simp [pkL, hs]
    rw [e1, e2]
    exact (refPack_no A c l w h1 hs).mono fun e w' ⟨he, hb⟩ => .err he hb
  · have e1 : pkN l = 0 := by simp [pkN, hs]
    have e2 : pkL l = packL 1 (rangesL l) := by simp [pkL, hs]
    rw [e1, e2]
    exact (refPack_yes A c l w h1 hs).mono fun e w' ⟨v, he, ho, hb⟩ => ho.bres he hb

set_option maxHeartbeats 8000000 in
theorem bitsMaps_any (A : Option Addr) (c : Nat) (l : List Int) (n : Int) (w : World) (h1 : In w A l c) :
    Calls Try.prog 9 #[.slice A l.length c, .int .i64 n] w fun e w' => e = .returned (.bool true) ∧ Below w.heap.size w w' := by
  have hln := h1.len
  by_cases ha : 3000 < l.length
  · go_enter Try.func9, Try.ntmps9
    go_wp2_with fail
    refine (known_any _).mono ?_
    rintro e w1 ⟨rfl, hb⟩
    go_wp2_with fail
    go_ret
    exact ⟨rfl, hb⟩
  · have k1 := h1.lk (by omega)
    have C1 : Hid (∀ W, Below w.heap.size w W → Calls Try.prog 37 #[.slice A l.length c, .int .i64 n] W (BRes W (mpL l n) (mpN l n))) := Lib.hid fun W hb => map_any A c l n W ((k1.below hb).more hb.size)
    have C2 : Hid (∀ W, Below w.heap.size w W → Calls Try.prog 38 #[.slice A l.length c, .int .i64 n] W (BRes W (mpL l n) (mpN l n))) := Lib.hid fun W hb => refMap_any A c l n W ((k1.below hb).more hb.size)
    have C3 : Hid (∀ W, Below w.heap.size w W → Calls Try.prog 39 #[.slice A l.length c] W (BRes W (pkL l) (pkN l))) := Lib.hid fun W hb => packB_any A c l W ((k1.below hb).more hb.size)
    have C4 : Hid (∀ W, Below w.heap.size w W → Calls Try.prog 40 #[.slice A l.length c] W (BRes W (pkL l) (pkN l))) := Lib.hid fun W hb => refPackB_any A c l W ((k1.below hb).more hb.size)
    have RA : Hid (∀ W, Below w.heap.size w W → Rd W w.heap.size .i64 A l) := Lib.hid fun W hb => k1.rd.below hb
    have HM : Hid (mpN l n = 1 ∨ (mpN l n = 0 ∧ ∀ (W : World) (D : Option Addr) (d : Nat), Rd W W.heap.size .u8 D (mpL l n) → Calls Try.prog 41 #[.slice D (mpL l n).length d, .int .i64 n] W (LRes W l 0))) := Lib.hid (by
      cases hb : mapB l n
      · exact .inl (by simp [mpN, hb])
      · refine .inr ⟨by simp [mpN, hb], fun W D d hr => ?_⟩
        obtain ⟨u1, u2, u3, u4⟩ := unL_map hb
        have := unmap_any D d (mpL l n) n W hr u3 u4
        rwa [u1, u2] at this)
    have HP : Hid (pkN l = 1 ∨ (pkN l = 0 ∧ ∀ (W : World) (D : Option Addr) (d : Nat), Rd W W.heap.size .u8 D (pkL l) → (pkL l).length ≤ d → d ≤ 9223372036854775807 → Calls Try.prog 42 #[.slice D (pkL l).length d] W (LRes W l 0))) := Lib.hid (by
      cases hb : isSetB 300 l
      · exact .inl (by simp [pkN, hb])
      · refine .inr ⟨by simp [pkN, hb], fun W D d hr h2 h3 => ?_⟩
        obtain ⟨u1, u2, u3, u4⟩ := upkL_pk hb
        have := unpack_any D d (pkL l) W hr u3 u4 h2 h3
        rwa [u1, u2] at this)
    clear h1 k1
    generalize mpL l n = ml at *
    generalize mpN l n = me at *
    generalize pkL l = pl at *
    generalize pkN l = pe at *
    go_enter Try.func9, Try.ntmps9
    go_wp2_with fail
    refine (C1.out _ (Below.refl _ _)).mono ?_
    rintro e w1 ⟨D1, d1, rfl, ho1, hb1⟩
    have s1 := hb1.size
    have R1 := Lib.hid ho1.rd; clear ho1
    have HB1 := Lib.hid hb1; clear hb1
    go_wp2_with fail
    refine (C2.out _ HB1.out).mono ?_
    rintro e w2 ⟨D2, d2, rfl, ho2, hb2⟩
    have s2 := hb2.size
    have R1' := Lib.hid (R1.out.below hb2); clear R1
    have R2 := Lib.hid ho2.rd; clear ho2
    have HB2 := Lib.hid (HB1.out.trans (hb2.mono s1)); clear hb2
    go_wp2_with fail
    refine (C3.out _ HB2.out).mono ?_
    rintro e w3 ⟨D3, d3, rfl, ho3, hb3⟩
    have s3 := hb3.size
    obtain ⟨dc1, dc2⟩ : pl.length ≤ d3 ∧ d3 ≤ 9223372036854775807 := by
      obtain ⟨_, _, e1, h1, h2, _⟩ := ho3.out
      injection e1 with _ _ e3
      subst e3
      exact ⟨h1, by unfold maxLen at h2; omega⟩
    have R1 := Lib.hid (R1'.out.below (hb3.mono s2)); clear R1'
    have R2' := Lib.hid (R2.out.below hb3); clear R2
    have R3 := Lib.hid ho3.rd; clear ho3
    have HB3 := Lib.hid (HB2.out.trans (hb3.mono (Nat.le_trans s1 s2))); clear hb3
    go_wp2_with fail
    refine (C4.out _ HB3.out).mono ?_
    rintro e w4 ⟨D4, d4, rfl, ho4, hb4⟩
    have s4 := hb4.size
    have R1' := Lib.hid (R1.out.below (hb4.mono (Nat.le_trans s2 s3))); clear R1
    have R2 := Lib.hid (R2'.out.below (hb4.mono s3)); clear R2'
    have R3' := Lib.hid (R3.out.below hb4); clear R3
    have R4 := Lib.hid ho4.rd; clear ho4
    have HB4 := Lib.hid (HB3.out.trans (hb4.mono (Nat.le_trans s1 (Nat.le_trans s2 s3)))); clear hb4
    have v1 := conv_bytes R1'.out d1
    have v2 := conv_bytes R2.out d2
    have v3 := conv_bytes R3'.out d3
    have v4 := conv_bytes R4.out d4
    have hll : l.length ≤ 1000000 := by omega
    rcases HM.out with hm | ⟨hm, hU⟩
    · subst hm
      clear HM
      rcases HP.out with hp | ⟨hp, hK⟩
      · subst hp
        clear HP
        go_wp2_with fail
        refine (known_any _).mono ?_
        rintro e w9 ⟨rfl, hb9⟩
        have HB9 := Lib.hid hb9; clear hb9
        go_wp2_with fail
        go_ret
        exact ⟨rfl, HB4.out.trans (HB9.out.mono HB4.out.size)⟩
      · subst hp
        clear HP
        have hK := Lib.hid hK
        go_wp2_with fail
        refine (hK.out _ _ _ (R3'.out.more (by omega)) dc1 dc2).mono ?_
        rintro e w7 ⟨D7, d7, rfl, ho7, hb7⟩
        have s7 := hb7.size
        have R7 := Lib.hid ho7.rd; clear ho7
        have HB7 := Lib.hid (HB4.out.trans (hb7.mono (by omega))); clear hb7
        go_wp2_with fail
        refine (sameInts_any D7 A d7 c l l _ _ _ R7.out (RA.out _ HB7.out) hll hll).mono ?_
        rintro e w8 ⟨rfl, hd8⟩
        have HB8 := Lib.hid (Dr.below HB7.out hd8); clear hd8
        have ht : decide (l = l) = true := by simp
        rw [ht]
        clear ht
        go_wp2_with fail
        refine (known_any _).mono ?_
        rintro e w9 ⟨rfl, hb9⟩
        have HB9 := Lib.hid hb9; clear hb9
        go_wp2_with fail
        go_ret
        exact ⟨rfl, HB8.out.trans (HB9.out.mono HB8.out.size)⟩
    · subst hm
      clear HM
      have hU := Lib.hid hU
      rcases HP.out with hp | ⟨hp, hK⟩
      · subst hp
        clear HP
        go_wp2_with fail
        refine (hU.out _ _ _ (R1'.out.more (by omega))).mono ?_
        rintro e w5 ⟨D5, d5, rfl, ho5, hb5⟩
        have s5 := hb5.size
        have R5 := Lib.hid ho5.rd; clear ho5
        have HB5 := Lib.hid (HB4.out.trans (hb5.mono (by omega)))
        have R3 := Lib.hid (R3'.out.below (hb5.mono s4)); clear R3' hb5
        go_wp2_with fail
        refine (sameInts_any D5 A d5 c l l _ _ _ R5.out (RA.out _ HB5.out) hll hll).mono ?_
        rintro e w6 ⟨rfl, hd6⟩
        have HB6 := Lib.hid (Dr.below HB5.out hd6)
        have R3' := Lib.hid (R3.out.dr hd6)
        have s6 : w5.heap.size ≤ w6.heap.size := by obtain ⟨_, rfl⟩ := hd6; simp
        clear hd6 R3
        have ht : decide (l = l) = true := by simp
        rw [ht]
        clear ht
        go_wp2_with fail
        refine (known_any _).mono ?_
        rintro e w9 ⟨rfl, hb9⟩
        have HB9 := Lib.hid hb9; clear hb9
        go_wp2_with fail
        go_ret
        exact ⟨rfl, HB6.out.trans (HB9.out.mono HB6.out.size)⟩
      · subst hp
        clear HP
        have hK := Lib.hid hK
        go_wp2_with fail
        refine (hU.out _ _ _ (R1'.out.more (by omega))).mono ?_
        rintro e w5 ⟨D5, d5, rfl, ho5, hb5⟩
        have s5 := hb5.size
        have R5 := Lib.hid ho5.rd; clear ho5
        have HB5 := Lib.hid (HB4.out.trans (hb5.mono (by omega)))
        have R3 := Lib.hid (R3'.out.below (hb5.mono s4)); clear R3' hb5
        go_wp2_with fail
        refine (sameInts_any D5 A d5 c l l _ _ _ R5.out (RA.out _ HB5.out) hll hll).mono ?_
        rintro e w6 ⟨rfl, hd6⟩
        have HB6 := Lib.hid (Dr.below HB5.out hd6)
        have R3' := Lib.hid (R3.out.dr hd6)
        have s6 : w5.heap.size ≤ w6.heap.size := by obtain ⟨_, rfl⟩ := hd6; simp
        clear hd6 R3
        have ht : decide (l = l) = true := by simp
        rw [ht]
        clear ht
        go_wp2_with fail
        refine (hK.out _ _ _ (R3'.out.more (by omega)) dc1 dc2).mono ?_
        rintro e w7 ⟨D7, d7, rfl, ho7, hb7⟩
        have s7 := hb7.size
        have R7 := Lib.hid ho7.rd; clear ho7
        have HB7 := Lib.hid (HB6.out.trans (hb7.mono (by omega))); clear hb7
        go_wp2_with fail
        refine (sameInts_any D7 A d7 c l l _ _ _ R7.out (RA.out _ HB7.out) hll hll).mono ?_
        rintro e w8 ⟨rfl, hd8⟩
        have HB8 := Lib.hid (Dr.below HB7.out hd8); clear hd8
        have ht : decide (l = l) = true := by simp
        rw [ht]
        clear ht
        go_wp2_with fail
        refine (known_any _).mono ?_
        rintro e w9 ⟨rfl, hb9⟩
        have HB9 := Lib.hid hb9; clear hb9
        go_wp2_with fail
        go_ret
        exact ⟨rfl, HB8.out.trans (HB9.out.mono HB8.out.size)⟩
end Go.Proofs.Ytoldjpnkgdhpkaa
