/- Header and Row of the known table. -/
import Derived.Test.YtcgfeeobkoomfaaGreatDoorTbS
namespace Go.Proofs.YtcgfeeobkoomfaaGreatDoor
open Go.RowKit
set_option linter.unusedVariables false
set_option linter.unusedSimpArgs false
set_option maxRecDepth 40000
theorem tvBox (w : World) (bF bR bV : Nat) (h : KT w bF bR bV) : Below w.heap.size w (w.alloc (.cells #[.int .i64 0, .slice (some ⟨bF, 0, none⟩) 1 1, .slice (some ⟨bR, 0, none⟩) 1 1] 25)) ∧ KT (w.alloc (.cells #[.int .i64 0, .slice (some ⟨bF, 0, none⟩) 1 1, .slice (some ⟨bR, 0, none⟩) 1 1] 25)) bF bR bV := by
  have hb0 : Below w.heap.size w (w.alloc (.cells #[.int .i64 0, .slice (some ⟨bF, 0, none⟩) 1 1, .slice (some ⟨bR, 0, none⟩) 1 1] 25)) := (Below.refl _ _).alloc (Nat.le_refl _) _
  exact ⟨hb0, h.below hb0 h.f.1 h.zr h.zv⟩
set_option maxHeartbeats 4000000 in
theorem Header_kt (bF bR bV : Nat) (w : World) (hL : Lds w) (h : KT w bF bR bV) : Calls Tryz.prog 25 #[tv bF bR] w fun e w' => (∃ A c, e = .returned (.tuple #[.slice A 29 c, .int .i64 0])) ∧ Below w.heap.size w w' := by
  have CV := Lib.hid (fun W hl hk => Validate_kt bF bR bV W hl hk)
  have CH := Lib.hid (fun W hk => header_kt bF bR bV W hk)
  unfold LenR at CH
  obtain ⟨hb0, hk0⟩ := tvBox w bF bR bV h
  have hl0 := hL.below hb0
  have HB0 := Lib.hid hb0
  have z0 : w.heap.size < (w.alloc (.cells #[.int .i64 0, .slice (some ⟨bF, 0, none⟩) 1 1, .slice (some ⟨bR, 0, none⟩) 1 1] 25)).heap.size := by simp
  clear hb0
  go_enter Tryz.func25, Tryz.ntmps25
  go_wp2_with fail
  refine (CV.out _ hl0 hk0).mono ?_
  rintro e w1 ⟨rfl, hb1⟩
  have t0 : w1.cell? ⟨w.heap.size, 0, none⟩ = some (.int .i64 0) := (hb1.cell (p := ⟨w.heap.size, 0, none⟩) z0).trans (by simp [go_sem])
  have t1 : w1.cell? ⟨w.heap.size, 1, none⟩ = some (.slice (some ⟨bF, 0, none⟩) 1 1) := (hb1.cell (p := ⟨w.heap.size, 1, none⟩) z0).trans (by simp [go_sem])
  have t2 : w1.cell? ⟨w.heap.size, 2, none⟩ = some (.slice (some ⟨bR, 0, none⟩) 1 1) := (hb1.cell (p := ⟨w.heap.size, 2, none⟩) z0).trans (by simp [go_sem])
  have HB1 := Lib.hid (HB0.out.trans (hb1.mono (Nat.le_of_lt z0)))
  have hk1 := h.below HB1.out h.f.1 h.zr h.zv
  clear hb1 hk0 hl0
  go_wp2_with fail
  refine (CH.out _ hk1).mono ?_
  rintro e w2 ⟨A, c, rfl, hb2⟩
  have HB2 := Lib.hid (HB1.out.trans (hb2.mono HB1.out.size))
  clear hb2
  go_wp2_with fail
  go_ret2
  exact ⟨⟨A, c, rfl⟩, HB2.out⟩
set_option maxHeartbeats 4000000 in
theorem Row_kt (bF bR bV : Nat) (w : World) (hL : Lds w) (h : KT w bF bR bV) : Calls Tryz.prog 27 #[tv bF bR, .int .i64 1] w fun e w' => ∃ x, e = .returned (.tuple #[.slice (some ⟨x, 0, none⟩) 4 4, .int .i64 0]) ∧ x < w'.heap.size ∧ (∀ j, j < 4 → w'.cell? ⟨x, j, none⟩ = some (.int .u8 (rowL.getD j 0))) ∧ Below w.heap.size w w' := by
  have CV := Lib.hid (fun W hl hk => Validate_kt bF bR bV W hl hk)
  have CH := Lib.hid (fun W hk => row_kt bF bR bV W hk)
  unfold RowR at CH
  have hw0 : IntKind.i64.wrap 0 = 0 := by decide
  have hw1 : IntKind.i64.wrap (1 - 1) = 0 := by decide
  have hi0 : (0 : Int) ≤ 0 := by decide
  have hi1 : (0 : Int) < 1 := by decide
  obtain ⟨hb0, hk0⟩ := tvBox w bF bR bV h
  have hl0 := hL.below hb0
  have HB0 := Lib.hid hb0
  have z0 : w.heap.size < (w.alloc (.cells #[.int .i64 0, .slice (some ⟨bF, 0, none⟩) 1 1, .slice (some ⟨bR, 0, none⟩) 1 1] 25)).heap.size := by simp
  clear hb0
  go_enter Tryz.func27, Tryz.ntmps27
  go_wp2_with fail
  refine (CV.out _ hl0 hk0).mono ?_
  rintro e w1 ⟨rfl, hb1⟩
  have t0 : w1.cell? ⟨w.heap.size, 0, none⟩ = some (.int .i64 0) := (hb1.cell (p := ⟨w.heap.size, 0, none⟩) z0).trans (by simp [go_sem])
  have t1 : w1.cell? ⟨w.heap.size, 1, none⟩ = some (.slice (some ⟨bF, 0, none⟩) 1 1) := (hb1.cell (p := ⟨w.heap.size, 1, none⟩) z0).trans (by simp [go_sem])
  have t2 : w1.cell? ⟨w.heap.size, 2, none⟩ = some (.slice (some ⟨bR, 0, none⟩) 1 1) := (hb1.cell (p := ⟨w.heap.size, 2, none⟩) z0).trans (by simp [go_sem])
  have HB1 := Lib.hid (HB0.out.trans (hb1.mono (Nat.le_of_lt z0)))
  have hk1 := h.below HB1.out h.f.1 h.zr h.zv
  have hs1 : w.heap.size < w1.heap.size := Nat.lt_of_lt_of_le z0 hb1.size
  have HK1 : Hid (KT w1.drew bF bR bV) := Lib.hid (hk1.below (Below.refl w1.heap.size w1).drew hk1.f.1 hk1.zr hk1.zv)
  have HBd : Hid (Below w1.heap.size w1 w1.drew) := Lib.hid (Below.refl w1.heap.size w1).drew
  obtain ⟨kf, kg, kv, kv0, kv1, kv2, kzr, kzv⟩ := hk1
  clear hb1 hk0 hl0 kf kv0 kv1 kv2
  go_wp2_with fail
  go_region_held3 (fun y => y.cell? ⟨w.heap.size, 1, none⟩ = some (.slice (some ⟨bF, 0, none⟩) 1 1) ∧ y.cell? ⟨w.heap.size, 2, none⟩ = some (.slice (some ⟨bR, 0, none⟩) 1 1) ∧ y.cell? ⟨bR, 0, none⟩ = some (.bool false) ∧ y.cell? ⟨bR, 1, none⟩ = some (.slice (some ⟨bV, 0, none⟩) 1 1))
    (first
      | exact ⟨(hbx.cell (p := ⟨w.heap.size, 1, none⟩) hs1).trans t1, (hbx.cell (p := ⟨w.heap.size, 2, none⟩) hs1).trans t2, (hbx.cell (p := ⟨bR, 0, none⟩) kzr).trans kg, (hbx.cell (p := ⟨bR, 1, none⟩) kzr).trans kv⟩
      | exact ⟨t1, t2, kg, kv⟩
      | fail)
    (first
      | (go_at_call 62; (with_reducible refine (CH.out _ HK1.out).mono ?_); rintro _ z1 ⟨x, rfl, hx, hxc, hbx⟩)
      | fail)
  all_goals (
    go_wp2_with fail
    go_ret2
    exact ⟨x, rfl, hx, hxc, HB1.out.trans ((HBd.out.trans hbx).mono HB1.out.size)⟩)
end Go.Proofs.YtcgfeeobkoomfaaGreatDoor
