/- The walk of PageFolds. -/
import Derived.Test.YtgeikbcfjidgcaaDoorPgZ2
namespace Go.Proofs.YtgeikbcfjidgcaaDoor
open Go.RowKit
set_option linter.unusedVariables false
set_option linter.unusedSimpArgs false

theorem fold_tab : ∀ (p : Fin 3) (b : Fin 256), upN p.val (lowN p.val b.val) = upN p.val b.val ∧ lowN p.val (upN p.val b.val) = lowN p.val b.val ∧ upN p.val (upN p.val b.val) = upN p.val b.val ∧ lowN p.val (lowN p.val b.val) = lowN p.val b.val ∧ letN p.val (upN p.val b.val) = letN p.val (lowN p.val b.val) := by decide +kernel
theorem mapB_nat {f : Nat → Nat} {b : UInt8} (h : f b.toNat < 256) : (mapB f b).toNat = f b.toNat := by
  unfold mapB; simp; omega
theorem mapS_size (f : Nat → Nat) (s : ByteArray) : (mapS f s).size = s.size := by
  show (mapS f s).data.size = s.data.size
  simp [mapS]
theorem mapS_map {f g : Nat → Nat} (hg : ∀ b, b < 256 → g b < 256) (s : ByteArray) : mapS f (mapS g s) = mapS (fun b => f (g b)) s := by
  unfold mapS
  simp only [List.map_map]
  congr 2
  refine List.map_congr_left fun b _ => ?_
  show UInt8.ofNat (f (mapB g b).toNat) = UInt8.ofNat (f (g b.toNat))
  rw [mapB_nat (hg _ (byte_lt b))]
theorem mapS_congr {f g : Nat → Nat} (h : ∀ b, b < 256 → f b = g b) (s : ByteArray) : mapS f s = mapS g s := by
  unfold mapS
  congr 2
  refine List.map_congr_left fun b _ => ?_
  unfold mapB
  rw [h _ (byte_lt b)]
theorem getD_map8 (F : UInt8 → UInt8) (l : List UInt8) {j : Nat} (h : j < l.length) : (l.map F).getD j 0 = F (l.getD j 0) := by
  simp [List.getD, h]
theorem propS_fold {p : Nat} (hp : p < 3) (s : ByteArray) : propS p (mapS (upN p) s) = propS p (mapS (lowN p) s) := by
  unfold propS
  have e1 : ∀ f, (mapS f s).data.toList = s.data.toList.map (mapB f) := fun f => rfl
  rw [e1, e1, List.length_map, List.length_map]
  congr 2
  refine List.map_congr_left fun k hk => ?_
  have hk : k < s.data.toList.length := List.mem_range.1 hk
  unfold pAt befB
  rw [getD_map8 _ _ hk, getD_map8 _ _ hk]
  have hb := byte_lt (s.data.toList.getD k 0)
  obtain ⟨t1, t2, t3, t4, t5⟩ := fold_tab ⟨p, hp⟩ ⟨_, hb⟩
  simp only at t1 t2 t3 t4 t5
  rw [mapB_nat (up_lt hb hp), mapB_nat (low_lt hb hp)]
  have hbef : (decide (0 < k) && letN p ((s.data.toList.map (mapB (upN p))).getD (k - 1) 0).toNat) = (decide (0 < k) && letN p ((s.data.toList.map (mapB (lowN p))).getD (k - 1) 0).toNat) := by
    by_cases h0 : 0 < k
    · have hk1 : k - 1 < s.data.toList.length := by omega
      rw [getD_map8 _ _ hk1, getD_map8 _ _ hk1]
      have hc := byte_lt (s.data.toList.getD (k - 1) 0)
      rw [mapB_nat (up_lt hc hp), mapB_nat (low_lt hc hp)]
      have := (fold_tab ⟨p, hp⟩ ⟨_, hc⟩).2.2.2.2
      simp only at this
      rw [this]
    · simp [h0]
  rw [hbef]
  congr 1
  unfold propN
  split
  · rw [t2, t4]
  · rw [t3, t1]
theorem wrong_ok {q : Nat} {s : ByteArray} (hq : q < 3) (hs : s.size ≤ 2048) : wrongN q 0 [s] = 0 := by
  unfold wrongN
  rw [if_neg (by simp; omega), if_pos ⟨by omega, by omega, .inl rfl⟩]

set_option maxHeartbeats 4000000 in
theorem pageFolds_any (s : ByteArray) (n : Int) (w : World) (ht : Tabs w) (hs : s.size ≤ maxLen) :
    Calls Tryd.prog 7 #[.string s, .int .i64 n] w fun e w' => e = .returned (.bool true) ∧ Below w.heap.size w w' := by
  have HT := Lib.hid ht; clear ht
  have hs' : (s.size : Int) ≤ 9223372036854775807 := by unfold maxLen at hs; omega
  by_cases hbad : 2048 < s.size ∨ n < 0 ∨ 2 < n
  · have h3 : (2048 < s.size) ∨ (¬ 2048 < s.size ∧ n < 0) ∨ (¬ 2048 < s.size ∧ ¬ n < 0 ∧ 2 < n) := by omega
    clear hbad
    rcases h3 with a | ⟨a, b⟩ | ⟨a, b, c⟩
    · have i1 : (2048 : Int) < s.size := by omega
      go_enter Tryd.func7, Tryd.ntmps7
      go_wp2_with fail
      refine (known_any _ HT.out).mono ?_
      rintro e w3 ⟨rfl, hb3⟩
      have HB3 := Lib.hid hb3; clear hb3
      go_wp2_with fail
      go_ret
      exact ⟨rfl, HB3.out⟩
    · have i1 : ¬ (2048 : Int) < s.size := by omega
      go_enter Tryd.func7, Tryd.ntmps7
      go_wp2_with fail
      refine (known_any _ HT.out).mono ?_
      rintro e w3 ⟨rfl, hb3⟩
      have HB3 := Lib.hid hb3; clear hb3
      go_wp2_with fail
      go_ret
      exact ⟨rfl, HB3.out⟩
    · have i1 : ¬ (2048 : Int) < s.size := by omega
      go_enter Tryd.func7, Tryd.ntmps7
      go_wp2_with fail
      refine (known_any _ HT.out).mono ?_
      rintro e w3 ⟨rfl, hb3⟩
      have HB3 := Lib.hid hb3; clear hb3
      go_wp2_with fail
      go_ret
      exact ⟨rfl, HB3.out⟩
  · obtain ⟨q, rfl⟩ : ∃ q : Nat, n = q := ⟨n.toNat, by omega⟩
    have hq : q < 3 := by omega
    have hs2 : s.size ≤ 2048 := by omega
    have w0 : wrongN q 0 [s] = 0 := wrong_ok hq hs2
    have w1 : wrongN q 0 [mapS (upN q) s] = 0 := wrong_ok hq (by rw [mapS_size]; exact hs2)
    have w2 : wrongN q 0 [mapS (lowN q) s] = 0 := wrong_ok hq (by rw [mapS_size]; exact hs2)
    have hm : ∀ f, (mapS f s).size ≤ maxLen := fun f => by rw [mapS_size]; exact hs
    have C1 := Lib.hid (fun W h => Upper_any s q W h hs)
    have C2 := Lib.hid (fun W h => Lower_any s q W h hs)
    have C3 := Lib.hid (fun W h => Upper_any (mapS (lowN q) s) q W h (hm _))
    have C4 := Lib.hid (fun W h => Lower_any (mapS (upN q) s) q W h (hm _))
    have C5 := Lib.hid (fun W h => Proper_any (mapS (upN q) s) q W h (hm _))
    have C6 := Lib.hid (fun W h => Proper_any (mapS (lowN q) s) q W h (hm _))
    have e1 : upT s q = mapS (upN q) s := by simp [upT, w0]
    have e2 : lowT s q = mapS (lowN q) s := by simp [lowT, w0]
    have e3 : upT (mapS (lowN q) s) q = mapS (upN q) s := by
      simp only [upT, w2, if_pos, Int.toNat_natCast]
      rw [mapS_map fun b hb => low_lt hb hq]
      exact mapS_congr (fun b hb => (fold_tab ⟨q, hq⟩ ⟨b, hb⟩).1) s
    have e4 : lowT (mapS (upN q) s) q = mapS (lowN q) s := by
      simp only [lowT, w1, if_pos, Int.toNat_natCast]
      rw [mapS_map fun b hb => up_lt hb hq]
      exact mapS_congr (fun b hb => (fold_tab ⟨q, hq⟩ ⟨b, hb⟩).2.1) s
    have e5 : propT (mapS (upN q) s) q = propS q (mapS (lowN q) s) := by
      simp only [propT, w1, if_pos, Int.toNat_natCast]
      exact propS_fold hq s
    have e6 : propT (mapS (lowN q) s) q = propS q (mapS (lowN q) s) := by simp only [propT, w2, if_pos, Int.toNat_natCast]
    rw [e1, w0] at C1
    rw [e2, w0] at C2
    rw [e3, w2] at C3
    rw [e4, w1] at C4
    rw [e5, w1] at C5
    rw [e6, w2] at C6
    have hsz : (mapS (upN q) s).size = s.size := mapS_size _ _
    clear e1 e2 e3 e4 e5 e6 w0 w1 w2 hm
    generalize propS q (mapS (lowN q) s) = u at *
    generalize mapS (upN q) s = a at *
    generalize mapS (lowN q) s = b at *
    have i1 : ¬ (2048 : Int) < s.size := by omega
    clear hbad
    go_enter Tryd.func7, Tryd.ntmps7
    go_wp2_with fail
    refine (C1.out _ HT.out).mono ?_
    rintro e x1 ⟨rfl, hb1⟩
    have HT1 := Lib.hid (HT.out.below hb1 (Nat.le_refl _))
    have HB1 := Lib.hid hb1; clear hb1
    go_wp2_with fail
    refine (C2.out _ HT1.out).mono ?_
    rintro e x2 ⟨rfl, hb2⟩
    have HT2 := Lib.hid (HT1.out.below hb2 (Nat.le_refl _))
    have HB2 := Lib.hid (HB1.out.trans (hb2.mono HB1.out.size)); clear hb2
    go_wp2_with fail
    refine (C3.out _ HT2.out).mono ?_
    rintro e x3 ⟨rfl, hb3⟩
    have HT3 := Lib.hid (HT2.out.below hb3 (Nat.le_refl _))
    have HB3 := Lib.hid (HB2.out.trans (hb3.mono HB2.out.size)); clear hb3
    go_wp2_with fail
    refine (C4.out _ HT3.out).mono ?_
    rintro e x4 ⟨rfl, hb4⟩
    have HT4 := Lib.hid (HT3.out.below hb4 (Nat.le_refl _))
    have HB4 := Lib.hid (HB3.out.trans (hb4.mono HB3.out.size)); clear hb4
    go_wp2_with fail
    refine (C5.out _ HT4.out).mono ?_
    rintro e x5 ⟨rfl, hb5⟩
    have HT5 := Lib.hid (HT4.out.below hb5 (Nat.le_refl _))
    have HB5 := Lib.hid (HB4.out.trans (hb5.mono HB4.out.size)); clear hb5
    go_wp2_with fail
    refine (C6.out _ HT5.out).mono ?_
    rintro e x6 ⟨rfl, hb6⟩
    have HT6 := Lib.hid (HT5.out.below hb6 (Nat.le_refl _))
    have HB6 := Lib.hid (HB5.out.trans (hb6.mono HB5.out.size)); clear hb6
    go_wp2_with fail
    refine (known_any _ HT6.out).mono ?_
    rintro e x7 ⟨rfl, hb7⟩
    have HB7 := Lib.hid (HB6.out.trans (hb7.mono HB6.out.size)); clear hb7
    go_wp2_with fail
    go_ret
    exact ⟨rfl, HB7.out⟩
end Go.Proofs.YtgeikbcfjidgcaaDoor
