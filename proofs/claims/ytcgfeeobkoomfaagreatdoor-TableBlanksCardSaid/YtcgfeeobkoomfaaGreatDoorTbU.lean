/- known. -/
import Derived.Test.YtcgfeeobkoomfaaGreatDoorTbT
namespace Go.Proofs.YtcgfeeobkoomfaaGreatDoor
open Go.RowKit
set_option linter.unusedVariables false
set_option linter.unusedSimpArgs false
set_option maxRecDepth 40000
theorem text_row : strOfNums rowL = ⟨#[32, 97, 98, 32]⟩ := by kernel_rfl
theorem cut_ab : cutT tAb_ 2 = tAb := by decide +kernel
set_option maxHeartbeats 8000000 in
theorem known_any (w : World) (hL : Lds w) : Calls Tryz.prog 13 #[] w fun e w' => e = .returned (.bool true) ∧ Below w.heap.size w w' := by
  have CT := Lib.hid (fun s W => Text_any s W)
  have CH := Lib.hid (fun bF bR bV W hl hk => Header_kt bF bR bV W hl hk)
  have CR := Lib.hid (fun bF bR bV W hl hk => Row_kt bF bR bV W hl hk)
  have CF := Lib.hid (fun W hW => fit_text_yes tA 2 false 0 0 tAb_ W (by decide) (by decide) (by decide) (by decide +kernel) (by decide +kernel) (by omega) (by omega) hW (by rw [cut_ab]; decide +kernel))
  unfold FitR at CF
  rw [cut_ab] at CF
  have hb0 : Below w.heap.size w (w.alloc (.cells #[.string tA, .int .i64 4, .int .i64 3, .bool false] 49)) := (Below.refl _ _).alloc (Nat.le_refl _) _
  have HB0 := Lib.hid hb0; clear hb0
  have z0 : w.heap.size < (w.alloc (.cells #[.string tA, .int .i64 4, .int .i64 3, .bool false] 49)).heap.size := by simp
  go_enter Tryz.func13, Tryz.ntmps13
  go_wp2_with fail
  refine (CT.out _ _).mono ?_
  rintro e w1 ⟨rfl, hb1⟩
  have hs1 : w.heap.size < w1.heap.size := Nat.lt_of_lt_of_le z0 hb1.size
  have c0 : w1.cell? ⟨w.heap.size, 0, none⟩ = some (.string tA) := (hb1.cell (p := ⟨w.heap.size, 0, none⟩) z0).trans (by simp [go_sem])
  have c1 : w1.cell? ⟨w.heap.size, 1, none⟩ = some (.int .i64 4) := (hb1.cell (p := ⟨w.heap.size, 1, none⟩) z0).trans (by simp [go_sem])
  have c2 : w1.cell? ⟨w.heap.size, 2, none⟩ = some (.int .i64 3) := (hb1.cell (p := ⟨w.heap.size, 2, none⟩) z0).trans (by simp [go_sem])
  have c3 : w1.cell? ⟨w.heap.size, 3, none⟩ = some (.bool false) := (hb1.cell (p := ⟨w.heap.size, 3, none⟩) z0).trans (by simp [go_sem])
  have HB1 := Lib.hid (HB0.out.trans (hb1.mono (Nat.le_of_lt z0)))
  clear hb1 HB0
  have hbn := Lib.hid ((((Below.refl w1.heap.size w1).alloc (Nat.le_refl _) (.cells #[.int .i64 4, .int .i64 0, .string tAb] 51)).alloc (by simp) (.cells #[.bool false, .slice (some ⟨w1.heap.size, 0, none⟩) 1 1] 59)).alloc (by simp; omega) (.cells #[.int .i64 0, .slice (some ⟨w.heap.size, 0, none⟩) 1 1, .slice (some ⟨w1.heap.size + 1, 0, none⟩) 1 1] 25))
  have k0 := (hbn.out.cell (p := ⟨w.heap.size, 0, none⟩) hs1).trans c0
  have k1 := (hbn.out.cell (p := ⟨w.heap.size, 1, none⟩) hs1).trans c1
  have k2 := (hbn.out.cell (p := ⟨w.heap.size, 2, none⟩) hs1).trans c2
  have k3 := (hbn.out.cell (p := ⟨w.heap.size, 3, none⟩) hs1).trans c3
  have hz4 : (((w1.alloc (.cells #[.int .i64 4, .int .i64 0, .string tAb] 51)).alloc (.cells #[.bool false, .slice (some ⟨w1.heap.size, 0, none⟩) 1 1] 59)).alloc (.cells #[.int .i64 0, .slice (some ⟨w.heap.size, 0, none⟩) 1 1, .slice (some ⟨w1.heap.size + 1, 0, none⟩) 1 1] 25)).heap.size = w1.heap.size + 3 := by simp
  have HK4 : Hid (KT (((w1.alloc (.cells #[.int .i64 4, .int .i64 0, .string tAb] 51)).alloc (.cells #[.bool false, .slice (some ⟨w1.heap.size, 0, none⟩) 1 1] 59)).alloc (.cells #[.int .i64 0, .slice (some ⟨w.heap.size, 0, none⟩) 1 1, .slice (some ⟨w1.heap.size + 1, 0, none⟩) 1 1] 25)) w.heap.size (w1.heap.size + 1) w1.heap.size) := Lib.hid (by
    refine ⟨⟨by rw [hz4]; omega, fun j hj => ?_⟩, by simp [go_sem], by simp [go_sem], by simp [go_sem], by simp [go_sem], by simp [go_sem], by rw [hz4]; omega, by rw [hz4]; omega⟩
    have : j = 0 := by simp at hj; omega
    subst this
    exact ⟨k0, k1, k2, k3⟩)
  have HB4 := Lib.hid (HB1.out.trans (hbn.out.mono (by omega)))
  have HL4 := Lib.hid (hL.below HB4.out)
  have tb0 : (((w1.alloc (.cells #[.int .i64 4, .int .i64 0, .string tAb] 51)).alloc (.cells #[.bool false, .slice (some ⟨w1.heap.size, 0, none⟩) 1 1] 59)).alloc (.cells #[.int .i64 0, .slice (some ⟨w.heap.size, 0, none⟩) 1 1, .slice (some ⟨w1.heap.size + 1, 0, none⟩) 1 1] 25)).cell? ⟨w1.heap.size + 2, 0, none⟩ = some (.int .i64 0) := by simp [go_sem]
  have tb1 : (((w1.alloc (.cells #[.int .i64 4, .int .i64 0, .string tAb] 51)).alloc (.cells #[.bool false, .slice (some ⟨w1.heap.size, 0, none⟩) 1 1] 59)).alloc (.cells #[.int .i64 0, .slice (some ⟨w.heap.size, 0, none⟩) 1 1, .slice (some ⟨w1.heap.size + 1, 0, none⟩) 1 1] 25)).cell? ⟨w1.heap.size + 2, 1, none⟩ = some (.slice (some ⟨w.heap.size, 0, none⟩) 1 1) := by simp [go_sem]
  have tb2 : (((w1.alloc (.cells #[.int .i64 4, .int .i64 0, .string tAb] 51)).alloc (.cells #[.bool false, .slice (some ⟨w1.heap.size, 0, none⟩) 1 1] 59)).alloc (.cells #[.int .i64 0, .slice (some ⟨w.heap.size, 0, none⟩) 1 1, .slice (some ⟨w1.heap.size + 1, 0, none⟩) 1 1] 25)).cell? ⟨w1.heap.size + 2, 2, none⟩ = some (.slice (some ⟨w1.heap.size + 1, 0, none⟩) 1 1) := by simp [go_sem]
  have htb := Lib.hid (show w1.heap.size + 2 < (((w1.alloc (.cells #[.int .i64 4, .int .i64 0, .string tAb] 51)).alloc (.cells #[.bool false, .slice (some ⟨w1.heap.size, 0, none⟩) 1 1] 59)).alloc (.cells #[.int .i64 0, .slice (some ⟨w.heap.size, 0, none⟩) 1 1, .slice (some ⟨w1.heap.size + 1, 0, none⟩) 1 1] 25)).heap.size by rw [hz4]; omega)
  clear hbn k0 k1 k2 k3 c0 c1 c2 c3
  have hz4' := Lib.hid hz4
  clear hz4
  go_wp2_with fail
  refine (CH.out _ _ _ _ HL4.out HK4.out).mono ?_
  rintro e w5 ⟨⟨A, cA, rfl⟩, hb5⟩
  have u0 := (hb5.cell (p := ⟨w1.heap.size + 2, 0, none⟩) htb.out).trans tb0
  have u1 := (hb5.cell (p := ⟨w1.heap.size + 2, 1, none⟩) htb.out).trans tb1
  have u2 := (hb5.cell (p := ⟨w1.heap.size + 2, 2, none⟩) htb.out).trans tb2
  have hs5 : w1.heap.size + 3 ≤ w5.heap.size := by rw [← hz4'.out]; exact hb5.size
  have HB5 := Lib.hid (HB4.out.trans (hb5.mono HB4.out.size))
  have HL5 := Lib.hid (hL.below HB5.out)
  have HK5 := Lib.hid (HK4.out.below hb5 HK4.out.f.1 HK4.out.zr HK4.out.zv)
  clear tb0 tb1 tb2 hb5 HK4 HL4 htb
  go_wp2_with fail
  refine (CR.out _ _ _ _ HL5.out HK5.out).mono ?_
  rintro e w6 ⟨x, rfl, hx, hxc, hb6⟩
  have HB6 := Lib.hid (HB5.out.trans (hb6.mono HB5.out.size))
  have HL6 := Lib.hid (hL.below HB6.out)
  clear u0 u1 u2 hb6 HK5 HL5 hz4'
  go_wp2_with fail
  refine (CT.out _ _).mono ?_
  rintro e w7 ⟨rfl, hb7⟩
  have HB7 := Lib.hid (HB6.out.trans (hb7.mono HB6.out.size))
  have HL7 := Lib.hid (hL.below HB7.out)
  have hx7 : x < w7.heap.size := Nat.lt_of_lt_of_le hx hb7.size
  have hc7 := fun j hj => (hb7.cell (p := ⟨x, j, none⟩) hx).trans (hxc j hj)
  clear hb7 hxc hx
  go_wp2_with fail
  refine (CF.out _ HL7.out).mono ?_
  rintro e w8 ⟨rfl, hb8⟩
  have hx8 : x < w8.heap.size := Nat.lt_of_lt_of_le hx7 hb8.size
  have hb9 := hb8.alloc hb8.size (.cells #[.int .i64 4, .int .i64 0, .string tAb] 51)
  have HB9 := Lib.hid (HB7.out.trans (hb9.mono HB7.out.size))
  have hc9 := fun j hj => (hb9.cell (p := ⟨x, j, none⟩) hx7).trans (hc7 j hj)
  have hrd : Rd (w8.alloc (.cells #[.int .i64 4, .int .i64 0, .string tAb] 51)) (x + 1) .u8 (some ⟨x, 0, none⟩) rowL := fun _ => ⟨_, rfl, by simp, fun j hj => by
    have hj : j < 4 := hj
    have := hc9 j hj
    rcases j with _ | j <;> simpa [Addr.add] using this⟩
  have hcv := conv_bytes hrd 4
  rw [text_row] at hcv
  replace hcv : (convert 37 9 (.slice (some ⟨x, 0, none⟩) 4 4)).run Tryz.prog (w8.alloc (.cells #[.int .i64 4, .int .i64 0, .string tAb] 51)) = .ok (.string ⟨#[32, 97, 98, 32]⟩) (w8.alloc (.cells #[.int .i64 4, .int .i64 0, .string tAb] 51)) := hcv
  have HCV := hcv
  clear hb8 hb9 hc7 hc9 hrd
  go_wp2_with fail
  go_ret
  exact ⟨rfl, HB9.out⟩
end Go.Proofs.YtcgfeeobkoomfaaGreatDoor
