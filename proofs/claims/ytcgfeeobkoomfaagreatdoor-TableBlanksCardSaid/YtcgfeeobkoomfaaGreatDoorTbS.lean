/- The row of the known table. -/
import Derived.Test.YtcgfeeobkoomfaaGreatDoorTbR
import Derived.Lib.SlBytesConst
namespace Go.Proofs.YtcgfeeobkoomfaaGreatDoor
open Go.RowKit
set_option linter.unusedVariables false
set_option linter.unusedSimpArgs false
set_option maxRecDepth 40000
theorem RF.later {w0 w w' : World} {x n : Nat} (h : RF w0 x n w) (hb : Below w.heap.size w w') (hx : x < w.heap.size) : RF w0 x n w' where
  x0 := h.x0
  x1 := Nat.lt_of_lt_of_le hx hb.size
  blank := fun i hi => (hb.cell (p := ⟨x, i, none⟩) hx).trans (h.blank i hi)
  there := fun i hi => by rw [hb.cell (p := ⟨x, i, none⟩) hx]; exact h.there i hi
  free := fun i hi => by rw [hb.frozen (p := ⟨x, i, none⟩) hx]; exact h.free i hi
  below := h.below.trans (hb.mono h.below.size)
def rowL : List Int := [32, 97, 98, 32]
theorem copy_ab {w0 W : World} {x : Nat} (h : RF w0 x 4 W) : ∃ W2, (Builtin.copy_ #[37, 9] 3 #[.slice (some ⟨x, 1, none⟩) 3 3, .string tAb_]).run Tryz.prog W = .ok (.int .i64 3) W2 ∧
    (∀ j, j < 4 → W2.cell? ⟨x, j, none⟩ = some (.int .u8 (rowL.getD j 0))) ∧ (∀ p : Addr, p.block ≠ x → W2.cell? p = W.cell? p) ∧ W2.heap.size = W.heap.size ∧ (∀ B a, B ≤ x → Below B a W → Below B a W2) := by
  have hs : tAb_.size = 3 := by decide +kernel
  have hr := run_copy_string W 37 9 3 5 x 1 3 3 tAb_ Tryz.underlying37 (fun w => by kernel_rfl) (by omega) (fun j hj => h.there _ (by omega)) (fun j hj => h.free _ (by omega))
  have e : (tAb_.data.toList.map fun x => Value.int .u8 (x.toNat : Int)) = [.int .u8 97, .int .u8 98, .int .u8 32] := by kernel_rfl
  rw [hs, e] at hr
  refine ⟨_, hr, ?_, ?_, size_setCells' _ _ _ _, fun B a hB hb => below_setCells' x hB _ _ hb⟩
  · intro j hj
    rcases j with _ | j
    · rw [World.cell?_setCells_out x _ 1 W _ (fun _ _ => .inl (by simp))]; exact h.blank 0 (by omega)
    · have := World.cell?_setCells_in x [.int .u8 97, .int .u8 98, .int .u8 32] 1 W (fun j hj => h.there _ (by simp at hj; omega)) j (by simp; omega)
      rw [show j + 1 = 1 + j by omega, this]
      rcases j with _ | _ | _ | j <;> first | rfl | omega
  · intro p hp
    exact World.cell?_setCells_out x _ 1 W p (fun h1 _ => absurd h1 hp)
theorem clear0 (W : World) (a : Addr) : (Builtin.clear_ #[37] 0 #[.slice (some a) 0 0]).run Tryz.prog W = .ok (.tuple #[]) W := by
  simp [Builtin.clear_, run_underlying Tryz.underlying37]
abbrev fnsL : Array Value := #[.nilFunc, .func (.func 124) #[] #[], .func (.func 125) #[] #[], .func (.func 126) #[] #[], .func (.func 128) #[] #[], .func (.func 130) #[] #[]]
def RowR (w : World) (e : Ending) (w' : World) : Prop :=
  ∃ x, e = .returned (.slice (some ⟨x, 0, none⟩) 4 4) ∧ x < w'.heap.size ∧ (∀ j, j < 4 → w'.cell? ⟨x, j, none⟩ = some (.int .u8 (rowL.getD j 0))) ∧ Below w.heap.size w w'
set_option maxHeartbeats 8000000 in
theorem row_kt (bF bR bV : Nat) (w : World) (h : KT w bF bR bV) : Calls Tryz.prog 62 #[.slice (some ⟨bF, 0, none⟩) 1 1, .agg #[.bool false, .slice (some ⟨bV, 0, none⟩) 1 1]] w (RowR w) := by
  have CL := Lib.hid (fun W hW => length_any bF 0 1 [(tA, 4, 3, false)] W (by simp) (by intro f hf; simp at hf; subst hf; decide) hW)
  rw [show lenN [(tA, 4, 3, false)] = 4 by decide +kernel] at CL
  simp only [List.length_singleton] at CL
  have CF := Lib.hid (fun W hW => flagBytes_any bF 0 1 [(tA, 4, 3, false)] W (by simp) hW)
  rw [show flgN [(tA, 4, 3, false)] = 0 by decide +kernel] at CF
  simp only [List.length_singleton] at CF
  have CR := Lib.hid (fun bS W hz hc => rep4 bS 1 W hz hc)
  have C0 := Lib.hid (fun b W => cut0 b W)
  have C3 := Lib.hid (fun b W => cut3 b W)
  have CW := Lib.hid (fun W => writers_any W)
  have C4 := Lib.hid (fun W => writer4 W)
  have CO := Lib.hid (fun W hW => offsets_kt bF W hW)
  have HB0 := Lib.hid (((Below.refl _ w).alloc (Nat.le_refl _) (.cells #[.bool false, .slice (some ⟨bV, 0, none⟩) 1 1] 59)).alloc (by simp) (.cells #[.int .u8 32] 5 (1, 2)))
  have q1 := h.f.1
  have q2 := h.zv
  have hF0 := h.f.below HB0.out q1
  have kcl := clear0
  have kc : (convert 37 37 (.slice (some ⟨w.heap.size + 1, 0, none⟩) 1 1)).run Tryz.prog ((w.alloc (.cells #[.bool false, .slice (some ⟨bV, 0, none⟩) 1 1] 59)).alloc (.cells #[.int .u8 32] 5)) = .ok (.slice (some ⟨w.heap.size + 1, 0, none⟩) 1 1) ((w.alloc (.cells #[.bool false, .slice (some ⟨bV, 0, none⟩) 1 1] 59)).alloc (.cells #[.int .u8 32] 5 (1, 2))) := by
    rw [show w.heap.size + 1 = (w.alloc (.cells #[.bool false, .slice (some ⟨bV, 0, none⟩) 1 1] 59)).heap.size by simp]
    exact Lib.run_convert_bytes_const (P := Tryz.prog) _ 37 5 _ _ _ Tryz.underlying37 Tryz.underlying5
  go_enter Tryz.func62, Tryz.ntmps62
  go_wp2_with fail
  refine (CL.out _ hF0).mono ?_
  rintro e w1 ⟨rfl, hb1⟩
  have hs1 : w.heap.size + 2 ≤ w1.heap.size := by
    have := hb1.size
    simp only [World.alloc, Array.size_push] at this
    omega
  have k32 : ((w.alloc (.cells #[.bool false, .slice (some ⟨bV, 0, none⟩) 1 1] 59)).alloc (.cells #[.int .u8 32] 5 (1, 2))).cell? ⟨w.heap.size + 1, 0, none⟩ = some (.int .u8 32) := by
    rw [show w.heap.size + 1 = (w.alloc (.cells #[.bool false, .slice (some ⟨bV, 0, none⟩) 1 1] 59)).heap.size by simp, World.cell?_alloc_mark]; rfl
  have s32 : w1.cell? ⟨w.heap.size + 1, 0, none⟩ = some (.int .u8 32) := (hb1.cell (p := ⟨w.heap.size + 1, 0, none⟩) (by simp <;> omega)).trans k32
  have r0 : w1.cell? ⟨w.heap.size, 0, none⟩ = some (.bool false) := (hb1.cell (p := ⟨w.heap.size, 0, none⟩) (by simp <;> omega)).trans (by simp [go_sem])
  have r1 : w1.cell? ⟨w.heap.size, 1, none⟩ = some (.slice (some ⟨bV, 0, none⟩) 1 1) := (hb1.cell (p := ⟨w.heap.size, 1, none⟩) (by simp <;> omega)).trans (by simp [go_sem])
  have HB1 := Lib.hid (HB0.out.trans (hb1.mono (by simp <;> omega)))
  have hF1 := Lib.hid (h.f.below HB1.out q1)
  clear hb1
  go_wp2_with fail
  refine (CR.out _ _ (by omega) s32).mono ?_
  rintro e w2 ⟨rfl, hR2⟩
  have hx := hR2.x1
  have a0 : w2.cell? ⟨w.heap.size, 0, none⟩ = some (.bool false) := (hR2.below.cell (p := ⟨w.heap.size, 0, none⟩) (by simp; omega)).trans r0
  have a1 : w2.cell? ⟨w.heap.size, 1, none⟩ = some (.slice (some ⟨bV, 0, none⟩) 1 1) := (hR2.below.cell (p := ⟨w.heap.size, 1, none⟩) (by simp; omega)).trans r1
  have HB2 := Lib.hid (HB1.out.trans (hR2.below.mono (by omega)))
  go_wp2_with fail
  have hF2 := hF1.out.below hR2.below (by omega)
  refine (CF.out _ hF2).mono ?_
  rintro e w3 ⟨rfl, hb3⟩
  have hR3 : RF w1 w1.heap.size 4 w3 := hR2.later hb3 hx
  have b0 : w3.cell? ⟨w.heap.size, 0, none⟩ = some (.bool false) := (hb3.cell (p := ⟨w.heap.size, 0, none⟩) (by show w.heap.size < _; omega)).trans a0
  have b1 : w3.cell? ⟨w.heap.size, 1, none⟩ = some (.slice (some ⟨bV, 0, none⟩) 1 1) := (hb3.cell (p := ⟨w.heap.size, 1, none⟩) (by show w.heap.size < _; omega)).trans a1
  have HB3 := Lib.hid (HB2.out.trans (hb3.mono (by omega)))
  have hs3 := hb3.size
  clear hF2 hb3
  go_wp2_with fail
  refine (C0.out _ _).mono ?_
  rintro e w3' ⟨rfl, rfl⟩
  go_wp2_with fail
  refine (CW.out _).mono ?_
  rintro e w4 ⟨rfl, hb4⟩
  have hs4 := hb4.size
  have hx4 : w1.heap.size < w4.heap.size := by omega
  have hbA := Lib.hid ((Below.refl w4.heap.size w4).alloc (Nat.le_refl _) (.cells #[.nilFunc, .func (.func 124) #[] #[], .func (.func 125) #[] #[], .func (.func 126) #[] #[], .func (.func 128) #[] #[], .func (.func 130) #[] #[]] 105))
  have HB4 := Lib.hid (HB3.out.trans ((hb4.mono (by omega)).trans (hbA.out.mono (by omega))))
  have hR4 := Lib.hid ((hR3.later hb4 (by omega)).later hbA.out hx4)
  have d0 := Lib.hid ((hbA.out.cell (p := ⟨w.heap.size, 0, none⟩) (by show w.heap.size < _; omega)).trans ((hb4.cell (p := ⟨w.heap.size, 0, none⟩) (by show w.heap.size < _; omega)).trans b0))
  have d1 := Lib.hid ((hbA.out.cell (p := ⟨w.heap.size, 1, none⟩) (by show w.heap.size < _; omega)).trans ((hb4.cell (p := ⟨w.heap.size, 1, none⟩) (by show w.heap.size < _; omega)).trans b1))
  have hF4 := h.f.below HB4.out q1
  clear b0 b1 hR3 HB3 hb4
  go_wp2_with fail
  refine (CO.out _ hF4).mono ?_
  rintro e w5 ⟨A, cA, rfl, hA, hA1, hb5⟩
  have hs5 := hb5.size
  have z4 : (w4.alloc (.cells #[.nilFunc, .func (.func 124) #[] #[], .func (.func 125) #[] #[], .func (.func 126) #[] #[], .func (.func 128) #[] #[], .func (.func 130) #[] #[]] 105)).heap.size = w4.heap.size + 1 := by simp
  have HB5 := Lib.hid (HB4.out.trans (hb5.mono (by omega)))
  have hR5 := Lib.hid (hR4.out.later hb5 (by omega))
  have e0 := Lib.hid ((hb5.cell (p := ⟨w.heap.size, 0, none⟩) (by show w.heap.size < _; omega)).trans d0.out)
  have e1 := Lib.hid ((hb5.cell (p := ⟨w.heap.size, 1, none⟩) (by show w.heap.size < _; omega)).trans d1.out)
  have t4 : Hid (w5.cell? ⟨w4.heap.size, 4, none⟩ = some (.func (.func 128) #[] #[])) := Lib.hid ((hb5.cell (p := ⟨w4.heap.size, 4, none⟩) (by simp)).trans (by simp [go_sem]))
  have HK := Lib.hid (h.below HB5.out q1 h.zr q2)
  clear d0 d1 hR4 HB4 hb5 hF4 hbA
  go_wp2_with fail
  go_loopw [31] (fun i wr => (i = .int .i64 0 ∧ wr = w5) ∨ (i = .int .i64 1 ∧ w1.heap.size < wr.heap.size ∧ (∀ j, j < 4 → wr.cell? ⟨w1.heap.size, j, none⟩ = some (.int .u8 (rowL.getD j 0))) ∧ Below w.heap.size w wr)) (fun i _ => 1 - (intOf i).toNat)
  case atStart => exact .inl ⟨rfl, rfl⟩
  case round =>
    rcases hrel with ⟨rfl, rfl⟩ | ⟨rfl, hx9, hc9, hb9⟩
    · obtain ⟨hf, k1, k2, v0, v1, v2, k3, k4⟩ := HK.out
      obtain ⟨c0, c1, c2, c3⟩ := hf.2 0 (by simp)
      simp only [List.getElem_cons_zero, Nat.zero_mul, Nat.zero_add, Nat.add_zero] at c0 c1 c2 c3
      have hbf := hf.1
      have e1' := e1.out
      have g1 : w.heap.size < wr.heap.size := by omega
      have g4 : w4.heap.size < wr.heap.size := by omega
      have g5 : w1.heap.size < wr.heap.size := by omega
      clear k1 k2 k3 hf
      go_wp2_with fail
      go_region
      · have hbx := ((Below.refl wr.heap.size wr).alloc (Nat.le_refl _) (.cells #[.string tA, .int .i64 4, .int .i64 3, .bool false] 49)).alloc (by simp) (.cells #[.int .i64 4, .int .i64 0, .string tAb] 51) |>.drew
        have HR6 := Lib.hid (hR5.out.later hbx g5)
        have HBX := Lib.hid (HB5.out.trans (hbx.mono (by omega)))
        have f1 : (((wr.alloc (.cells #[.string tA, .int .i64 4, .int .i64 3, .bool false] 49)).alloc (.cells #[.int .i64 4, .int .i64 0, .string tAb] 51)).drew).cell? ⟨wr.heap.size, 1, none⟩ = some (.int .i64 4) := by simp [go_sem]
        have f2 : (((wr.alloc (.cells #[.string tA, .int .i64 4, .int .i64 3, .bool false] 49)).alloc (.cells #[.int .i64 4, .int .i64 0, .string tAb] 51)).drew).cell? ⟨wr.heap.size, 2, none⟩ = some (.int .i64 3) := by simp [go_sem]
        have f3 : (((wr.alloc (.cells #[.string tA, .int .i64 4, .int .i64 3, .bool false] 49)).alloc (.cells #[.int .i64 4, .int .i64 0, .string tAb] 51)).drew).cell? ⟨wr.heap.size, 3, none⟩ = some (.bool false) := by simp [go_sem]
        have y0 : (((wr.alloc (.cells #[.string tA, .int .i64 4, .int .i64 3, .bool false] 49)).alloc (.cells #[.int .i64 4, .int .i64 0, .string tAb] 51)).drew).cell? ⟨wr.heap.size + 1, 0, none⟩ = some (.int .i64 4) := by simp [go_sem]
        have y1 : (((wr.alloc (.cells #[.string tA, .int .i64 4, .int .i64 3, .bool false] 49)).alloc (.cells #[.int .i64 4, .int .i64 0, .string tAb] 51)).drew).cell? ⟨wr.heap.size + 1, 1, none⟩ = some (.int .i64 0) := by simp [go_sem]
        have y2 : (((wr.alloc (.cells #[.string tA, .int .i64 4, .int .i64 3, .bool false] 49)).alloc (.cells #[.int .i64 4, .int .i64 0, .string tAb] 51)).drew).cell? ⟨wr.heap.size + 1, 2, none⟩ = some (.string tAb) := by simp [go_sem]
        have t4' := (hbx.cell (p := ⟨w4.heap.size, 4, none⟩) g4).trans t4.out
        have hsz : (((wr.alloc (.cells #[.string tA, .int .i64 4, .int .i64 3, .bool false] 49)).alloc (.cells #[.int .i64 4, .int .i64 0, .string tAb] 51)).drew).heap.size = wr.heap.size + 2 := by simp
        generalize (((wr.alloc (.cells #[.string tA, .int .i64 4, .int .i64 3, .bool false] 49)).alloc (.cells #[.int .i64 4, .int .i64 0, .string tAb] 51)).drew) = wx at *
        clear hbx c0 c1 c2 c3 v0 v1 v2 hA e1' hR5 HB5 HK t4 e0 e1
        go_wp2_with fail
        go_region_held3 (fun y => y.cell? ⟨wr.heap.size, 1, none⟩ = some (.int .i64 4) ∧ y.cell? ⟨wr.heap.size, 2, none⟩ = some (.int .i64 3) ∧ y.cell? ⟨wr.heap.size + 1, 0, none⟩ = some (.int .i64 4) ∧ y.cell? ⟨wr.heap.size + 1, 1, none⟩ = some (.int .i64 0) ∧ y.cell? ⟨wr.heap.size + 1, 2, none⟩ = some (.string tAb) ∧ y.cell? ⟨w4.heap.size, 4, none⟩ = some (.func (.func 128) #[] #[]))
          (first
            | exact ⟨(hz2k _ (by show wr.heap.size ≠ w1.heap.size; omega)).trans f1z, (hz2k _ (by show wr.heap.size ≠ w1.heap.size; omega)).trans f2z, (hz2k _ (by show wr.heap.size + 1 ≠ w1.heap.size; omega)).trans y0z, (hz2k _ (by show wr.heap.size + 1 ≠ w1.heap.size; omega)).trans y1z, (hz2k _ (by show wr.heap.size + 1 ≠ w1.heap.size; omega)).trans y2z, (hz2k _ (by show w4.heap.size ≠ w1.heap.size; omega)).trans t4z⟩
            | exact ⟨f1z, f2z, y0z, y1z, y2z, t4z⟩
            | exact ⟨f1, f2, y0, y1, y2, t4'⟩
            | fail)
          (first
            | (go_at_call 95; (with_reducible refine (C3.out _ _).mono ?_); rintro _ z0 ⟨rfl, rfl⟩)
            | (go_at_call 128; (with_reducible refine (C4.out _).mono ?_); rintro _ z1 ⟨rfl, hz1⟩
               have f1z := (hz1.cell (p := ⟨wr.heap.size, 1, none⟩) (by show wr.heap.size < wx.heap.size; omega)).trans f1
               have f2z := (hz1.cell (p := ⟨wr.heap.size, 2, none⟩) (by show wr.heap.size < wx.heap.size; omega)).trans f2
               have f3z := (hz1.cell (p := ⟨wr.heap.size, 3, none⟩) (by show wr.heap.size < wx.heap.size; omega)).trans f3
               have y0z := (hz1.cell (p := ⟨wr.heap.size + 1, 0, none⟩) (by show wr.heap.size + 1 < wx.heap.size; omega)).trans y0
               have y1z := (hz1.cell (p := ⟨wr.heap.size + 1, 1, none⟩) (by show wr.heap.size + 1 < wx.heap.size; omega)).trans y1
               have y2z := (hz1.cell (p := ⟨wr.heap.size + 1, 2, none⟩) (by show wr.heap.size + 1 < wx.heap.size; omega)).trans y2
               have t4z := (hz1.cell (p := ⟨w4.heap.size, 4, none⟩) (by show w4.heap.size < wx.heap.size; omega)).trans t4'
               have hz1s := hz1.size
               have HRz := HR6.out.dr.later hz1 (by show w1.heap.size < wx.heap.size; omega)
               have HBz := Lib.hid (HBX.out.drew.trans (hz1.mono (by show w.heap.size ≤ wx.heap.size; omega)))
               obtain ⟨z2, hcp, hz2c, hz2k, hz2s, hz2b⟩ := copy_ab HRz)
            | fail)
        all_goals (
          have f3y := (hz2k ⟨wr.heap.size, 3, none⟩ (by show wr.heap.size ≠ w1.heap.size; omega)).trans f3z
          go_wp2_with fail
          have hz1t : wx.heap.size ≤ z1.heap.size := hz1s
          exact ⟨.inr ⟨rfl, by rw [hz2s]; omega, hz2c, hz2b _ _ (by omega) HBz.out⟩, by decide⟩)
      · have hbx := ((Below.refl wr.heap.size wr).alloc (Nat.le_refl _) (.cells #[.int .i64 4, .int .i64 0, .string tAb] 51)).alloc (by simp) (.cells #[.string tA, .int .i64 4, .int .i64 3, .bool false] 49) |>.drew
        have HR6 := Lib.hid (hR5.out.later hbx g5)
        have HBX := Lib.hid (HB5.out.trans (hbx.mono (by omega)))
        have f1 : (((wr.alloc (.cells #[.int .i64 4, .int .i64 0, .string tAb] 51)).alloc (.cells #[.string tA, .int .i64 4, .int .i64 3, .bool false] 49)).drew).cell? ⟨wr.heap.size + 1, 1, none⟩ = some (.int .i64 4) := by simp [go_sem]
        have f2 : (((wr.alloc (.cells #[.int .i64 4, .int .i64 0, .string tAb] 51)).alloc (.cells #[.string tA, .int .i64 4, .int .i64 3, .bool false] 49)).drew).cell? ⟨wr.heap.size + 1, 2, none⟩ = some (.int .i64 3) := by simp [go_sem]
        have f3 : (((wr.alloc (.cells #[.int .i64 4, .int .i64 0, .string tAb] 51)).alloc (.cells #[.string tA, .int .i64 4, .int .i64 3, .bool false] 49)).drew).cell? ⟨wr.heap.size + 1, 3, none⟩ = some (.bool false) := by simp [go_sem]
        have y0 : (((wr.alloc (.cells #[.int .i64 4, .int .i64 0, .string tAb] 51)).alloc (.cells #[.string tA, .int .i64 4, .int .i64 3, .bool false] 49)).drew).cell? ⟨wr.heap.size, 0, none⟩ = some (.int .i64 4) := by simp [go_sem]
        have y1 : (((wr.alloc (.cells #[.int .i64 4, .int .i64 0, .string tAb] 51)).alloc (.cells #[.string tA, .int .i64 4, .int .i64 3, .bool false] 49)).drew).cell? ⟨wr.heap.size, 1, none⟩ = some (.int .i64 0) := by simp [go_sem]
        have y2 : (((wr.alloc (.cells #[.int .i64 4, .int .i64 0, .string tAb] 51)).alloc (.cells #[.string tA, .int .i64 4, .int .i64 3, .bool false] 49)).drew).cell? ⟨wr.heap.size, 2, none⟩ = some (.string tAb) := by simp [go_sem]
        have t4' := (hbx.cell (p := ⟨w4.heap.size, 4, none⟩) g4).trans t4.out
        have hsz : (((wr.alloc (.cells #[.int .i64 4, .int .i64 0, .string tAb] 51)).alloc (.cells #[.string tA, .int .i64 4, .int .i64 3, .bool false] 49)).drew).heap.size = wr.heap.size + 2 := by simp
        generalize (((wr.alloc (.cells #[.int .i64 4, .int .i64 0, .string tAb] 51)).alloc (.cells #[.string tA, .int .i64 4, .int .i64 3, .bool false] 49)).drew) = wx at *
        clear hbx c0 c1 c2 c3 v0 v1 v2 hA e1' hR5 HB5 HK t4 e0 e1
        go_wp2_with fail
        go_region_held3 (fun y => y.cell? ⟨wr.heap.size + 1, 1, none⟩ = some (.int .i64 4) ∧ y.cell? ⟨wr.heap.size + 1, 2, none⟩ = some (.int .i64 3) ∧ y.cell? ⟨wr.heap.size, 0, none⟩ = some (.int .i64 4) ∧ y.cell? ⟨wr.heap.size, 1, none⟩ = some (.int .i64 0) ∧ y.cell? ⟨wr.heap.size, 2, none⟩ = some (.string tAb) ∧ y.cell? ⟨w4.heap.size, 4, none⟩ = some (.func (.func 128) #[] #[]))
          (first
            | exact ⟨(hz2k _ (by show wr.heap.size + 1 ≠ w1.heap.size; omega)).trans f1z, (hz2k _ (by show wr.heap.size + 1 ≠ w1.heap.size; omega)).trans f2z, (hz2k _ (by show wr.heap.size ≠ w1.heap.size; omega)).trans y0z, (hz2k _ (by show wr.heap.size ≠ w1.heap.size; omega)).trans y1z, (hz2k _ (by show wr.heap.size ≠ w1.heap.size; omega)).trans y2z, (hz2k _ (by show w4.heap.size ≠ w1.heap.size; omega)).trans t4z⟩
            | exact ⟨f1z, f2z, y0z, y1z, y2z, t4z⟩
            | exact ⟨f1, f2, y0, y1, y2, t4'⟩
            | fail)
          (first
            | (go_at_call 95; (with_reducible refine (C3.out _ _).mono ?_); rintro _ z0 ⟨rfl, rfl⟩)
            | (go_at_call 128; (with_reducible refine (C4.out _).mono ?_); rintro _ z1 ⟨rfl, hz1⟩
               have f1z := (hz1.cell (p := ⟨wr.heap.size + 1, 1, none⟩) (by show wr.heap.size + 1 < wx.heap.size; omega)).trans f1
               have f2z := (hz1.cell (p := ⟨wr.heap.size + 1, 2, none⟩) (by show wr.heap.size + 1 < wx.heap.size; omega)).trans f2
               have f3z := (hz1.cell (p := ⟨wr.heap.size + 1, 3, none⟩) (by show wr.heap.size + 1 < wx.heap.size; omega)).trans f3
               have y0z := (hz1.cell (p := ⟨wr.heap.size, 0, none⟩) (by show wr.heap.size < wx.heap.size; omega)).trans y0
               have y1z := (hz1.cell (p := ⟨wr.heap.size, 1, none⟩) (by show wr.heap.size < wx.heap.size; omega)).trans y1
               have y2z := (hz1.cell (p := ⟨wr.heap.size, 2, none⟩) (by show wr.heap.size < wx.heap.size; omega)).trans y2
               have t4z := (hz1.cell (p := ⟨w4.heap.size, 4, none⟩) (by show w4.heap.size < wx.heap.size; omega)).trans t4'
               have hz1s := hz1.size
               have HRz := HR6.out.dr.later hz1 (by show w1.heap.size < wx.heap.size; omega)
               have HBz := Lib.hid (HBX.out.drew.trans (hz1.mono (by show w.heap.size ≤ wx.heap.size; omega)))
               obtain ⟨z2, hcp, hz2c, hz2k, hz2s, hz2b⟩ := copy_ab HRz)
            | fail)
        all_goals (
          have f3y := (hz2k ⟨wr.heap.size + 1, 3, none⟩ (by show wr.heap.size + 1 ≠ w1.heap.size; omega)).trans f3z
          go_wp2_with fail
          have hz1t : wx.heap.size ≤ z1.heap.size := hz1s
          exact ⟨.inr ⟨rfl, by rw [hz2s]; omega, hz2c, hz2b _ _ (by omega) HBz.out⟩, by decide⟩)
    · clear hA
      go_wp2_with fail
      go_ret
      exact ⟨w1.heap.size, rfl, hx9, hc9, hb9⟩
end Go.Proofs.YtcgfeeobkoomfaaGreatDoor
