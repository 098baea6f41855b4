/- The walk of PageFolds. -/
import Derived.Test.YtiddnacmopfamaaDoorPgAll
namespace Go.Proofs.YtiddnacmopfamaaDoor
open Go.RowKit
set_option linter.unusedVariables false
set_option linter.unusedSimpArgs false

theorem fold_tab : ∀ (p : Fin 3) (b : Fin 256), upN p.val (lowN p.val b.val) = upN p.val b.val ∧ lowN p.val (upN p.val b.val) = lowN p.val b.val ∧ upN p.val (upN p.val b.val) = upN p.val b.val ∧ lowN p.val (lowN p.val b.val) = lowN p.val b.val ∧ letN p.val (upN p.val b.val) = letN p.val (lowN p.val b.val) := by decide +kernel
theorem mapB_nat {f : Nat → Nat} {b : UInt8} (h : f b.toNat < 256) : (mapB f b).toNat = f b.toNat := by
  unfold mapB; simp; omega
theorem mapS_size (f : Nat → Nat) (s : ByteArray) : (mapS f s).size = s.size := by
  show (mapS f s).data.size = s.data.size
  simp [mapS]
theorem mapS_map {f g : Nat → Nat} (hg : ∀ b, b < 256 → g b < 256) (s : ByteArray) : mapS f (mapS g s) = mapS (fun b => f (g b)) s := by
  unfold mapS
  simp only [List.map_map]
  congr 2
  refine List.map_congr_left fun b _ => ?_
  show UInt8.ofNat (f (mapB g b).toNat) = UInt8.ofNat (f (g b.toNat))
  rw [mapB_nat (hg _ (byte_lt b))]
theorem mapS_congr {f g : Nat → Nat} (h : ∀ b, b < 256 → f b = g b) (s : ByteArray) : mapS f s = mapS g s := by
  unfold mapS
  congr 2
  refine List.map_congr_left fun b _ => ?_
  unfold mapB
  rw [h _ (byte_lt b)]
theorem getD_map8 (F : UInt8 → UInt8) (l : List UInt8) {j : Nat} (h : j < l.length) : (l.map F).getD j 0 = F (l.getD j 0) := by
  simp [List.getD, h]
theorem propS_fold {p : Nat} (hp : p < 3) (s : ByteArray) : propS p (mapS (upN p) s) = propS p (mapS (lowN p) s) := by
  unfold propS
  have e1 : ∀ f, (mapS f s).data.toList = s.data.toList.map (mapB f) := fun f => rfl
  rw [e1, e1, List.length_map, List.length_map]
  congr 2
  refine List.map_congr_left fun k hk => ?_
  have hk : k < s.data.toList.length := List.mem_range.1 hk
  unfold pAt befB
  rw [getD_map8 _ _ hk, getD_map8 _ _ hk]
  have hb := byte_lt (s.data.toList.getD k 0)
  obtain ⟨t1, t2, t3, t4, t5⟩ := fold_tab ⟨p, hp⟩ ⟨_, hb⟩
  simp only at t1 t2 t3 t4 t5
  rw [mapB_nat (up_lt hb hp), mapB_nat (low_lt hb hp)]
  have hbef : (decide (0 < k) && letN p ((s.data.toList.map (mapB (upN p))).getD (k - 1) 0).toNat) = (decide (0 < k) && letN p ((s.data.toList.map (mapB (lowN p))).getD (k - 1) 0).toNat) := by
    by_cases h0 : 0 < k
    · have hk1 : k - 1 < s.data.toList.length := by omega
      rw [getD_map8 _ _ hk1, getD_map8 _ _ hk1]
      have hc := byte_lt (s.data.toList.getD (k - 1) 0)
      rw [mapB_nat (up_lt hc hp), mapB_nat (low_lt hc hp)]
      have := (fold_tab ⟨p, hp⟩ ⟨_, hc⟩).2.2.2.2
      simp only at this
      rw [this]
    · simp [h0]
  rw [hbef]
  congr 1
  unfold propN
  split
  · rw [t2, t4]
  · rw [t3, t1]
theorem wrong_ok {q : Nat} {s : ByteArray} (hq : q < 3) (hs : s.size ≤ 2048) : wrongN q 0 [s] = 0 := by
  unfold wrongN
  rw [if_neg (by simp; omega), if_pos ⟨by omega, by omega, .inl rfl⟩]

end Go.Proofs.YtiddnacmopfamaaDoor
