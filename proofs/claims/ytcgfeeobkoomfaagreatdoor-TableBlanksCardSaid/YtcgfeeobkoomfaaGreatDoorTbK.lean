/- The table that the law knows: holds, Validate. -/
import Derived.Test.YtcgfeeobkoomfaaGreatDoorTbJ
import Derived.Laws.StructEq
import Derived.KernelRfl
namespace Go.Proofs.YtcgfeeobkoomfaaGreatDoor
open Go.RowKit
set_option linter.unusedVariables false
set_option linter.unusedSimpArgs false
set_option maxRecDepth 40000

theorem eq_vv_at (d : Nat) (k n : Int) (s : ByteArray) (k' n' : Int) (s' : ByteArray) (W : World) : (Op.equalIn (d + 1 + 1) 51 (vv k n s) (vv k' n' s')).run Tryz.prog W = .ok ((k == k') && ((n == n') && (s.toList == s'.toList))) W := by
  rw [run_equalIn_struct W (d + 1) 51 _ _ (by rw [Tryz.underlying51]; kernel_rfl) (by kernel_rfl)]
  have hi : ∀ (a b : Int) (W : World), (Op.equalIn (d + 1) 3 (.int .i64 a) (.int .i64 b)).run Tryz.prog W = .ok (a == b) W := fun a b W => run_equalIn_int W d _ _ _ a b Tryz.underlying3
  have hs : ∀ (a b : ByteArray) (W : World), (Op.equalIn (d + 1) 9 (.string a) (.string b)).run Tryz.prog W = .ok (a.toList == b.toList) W := fun a b W => run_equalIn_string W d _ a b Tryz.underlying9
  simp [Program.fieldsOf, Tryz.underlying51, Op.eqFields, part]
  simp only [hi, hs, Result.andThen_ok]
  cases (k == k') <;> cases (n == n') <;> cases (s.toList == s'.toList) <;> rfl
theorem eq_vv (k n : Int) (s : ByteArray) (k' n' : Int) (s' : ByteArray) (W : World) : (Op.equalIn 10000 51 (vv k n s) (vv k' n' s')).run Tryz.prog W = .ok ((k == k') && ((n == n') && (s.toList == s'.toList))) W := eq_vv_at 9998 k n s k' n' s' W
theorem guard_vv : Tryz.prog.eqGuardType Tryz.prog.depth 51 = false := by kernel_rfl
abbrev tA : ByteArray := ⟨#[65]⟩
abbrev tAb : ByteArray := ⟨#[97, 98]⟩
theorem fld_A : fldB tA 4 3 = true := by decide
set_option maxHeartbeats 4000000 in
theorem holds_ab (w : World) (hL : Lds w) : Calls Tryz.prog 52 #[fv tA 4 3 false, .int .i64 0, vv 4 0 tAb] w fun e w' => e = .returned (.bool true) ∧ Below w.heap.size w w' := by
  have hc : cutT tAb 3 = tAb := by decide +kernel
  have CS := Lib.hid (fun W => Tryz.strings_HasSuffix tAb ⟨#[32]⟩ W (by decide))
  rw [show Lib.hasSuffix tAb.data.toList (⟨#[32]⟩ : ByteArray).data.toList = false by decide] at CS
  have CF := Lib.hid (fun W hW => fit_text_yes tA 3 false 0 0 tAb W (by decide) fld_A (by decide) (by decide) (by decide +kernel) (by omega) (by omega) hW (by rw [hc]; decide +kernel))
  rw [hc] at CF
  clear hc
  have he : ∀ W, (Op.equalIn 10000 51 (vv 4 0 tAb) (vv 4 0 tAb)).run Tryz.prog W = .ok true W := fun W => by rw [eq_vv]; simp
  have hg := guard_vv
  have hb2 : Below w.heap.size w ((w.alloc (.cells #[.string tA, .int .i64 4, .int .i64 3, .bool false] 49)).alloc (.cells #[.int .i64 4, .int .i64 0, .string tAb] 51)) := ((Below.refl _ _).alloc (Nat.le_refl _) _).alloc (by simp) _
  have HL := Lib.hid (hL.below hb2)
  have HB := Lib.hid hb2
  clear hb2 hL
  go_enter Tryz.func52, Tryz.ntmps52
  go_wp2_with fail
  refine (CS.out _).mono ?_
  rintro e w' ⟨rfl, rfl⟩
  go_wp2_with fail
  refine (CF.out _ HL.out).mono ?_
  rintro e w1 ⟨rfl, hb1⟩
  have v0 : w1.cell? ⟨w.heap.size + 1, 0, none⟩ = some (.int .i64 4) := (hb1.cell (p := ⟨w.heap.size + 1, 0, none⟩) (by simp)).trans (by simp [go_sem])
  have v1 : w1.cell? ⟨w.heap.size + 1, 1, none⟩ = some (.int .i64 0) := (hb1.cell (p := ⟨w.heap.size + 1, 1, none⟩) (by simp)).trans (by simp [go_sem])
  have v2 : w1.cell? ⟨w.heap.size + 1, 2, none⟩ = some (.string tAb) := (hb1.cell (p := ⟨w.heap.size + 1, 2, none⟩) (by simp)).trans (by simp [go_sem])
  have z1 : w.heap.size + 1 < w1.heap.size := by have := hb1.size; simp at this; omega
  have HB1 := Lib.hid (HB.out.trans (hb1.mono (by simp; omega)))
  clear hb1
  go_wp2_with fail
  go_ret
  exact ⟨rfl, HB1.out.alloc HB1.out.size _⟩
/-- The cells of the table. -/
structure KT (w : World) (bF bR bV : Nat) : Prop where
  f : FdR w bF 0 [(tA, 4, 3, false)]
  g : w.cell? ⟨bR, 0, none⟩ = some (.bool false)
  v : w.cell? ⟨bR, 1, none⟩ = some (.slice (some ⟨bV, 0, none⟩) 1 1)
  v0 : w.cell? ⟨bV, 0, none⟩ = some (.int .i64 4)
  v1 : w.cell? ⟨bV, 1, none⟩ = some (.int .i64 0)
  v2 : w.cell? ⟨bV, 2, none⟩ = some (.string tAb)
  zr : bR < w.heap.size
  zv : bV < w.heap.size
theorem KT.below {w w' : World} {bF bR bV B : Nat} (h : KT w bF bR bV) (hb : Below B w w') (h1 : bF < B) (h2 : bR < B) (h3 : bV < B) : KT w' bF bR bV where
  f := h.f.below hb h1
  g := (hb.cell (p := ⟨bR, 0, none⟩) h2).trans h.g
  v := (hb.cell (p := ⟨bR, 1, none⟩) h2).trans h.v
  v0 := (hb.cell (p := ⟨bV, 0, none⟩) h3).trans h.v0
  v1 := (hb.cell (p := ⟨bV, 1, none⟩) h3).trans h.v1
  v2 := (hb.cell (p := ⟨bV, 2, none⟩) h3).trans h.v2
  zr := Nat.lt_of_lt_of_le h.zr hb.size
  zv := Nat.lt_of_lt_of_le h.zv hb.size
/-- The table's value. -/
abbrev tv (bF bR : Nat) : Value := .agg #[.int .i64 0, .slice (some ⟨bF, 0, none⟩) 1 1, .slice (some ⟨bR, 0, none⟩) 1 1]
theorem fl_A : flE [(tA, 4, 3, false)] = 0 := by decide +kernel
set_option maxHeartbeats 8000000 in
theorem Validate_kt (bF bR bV : Nat) (w : World) (hL : Lds w) (h : KT w bF bR bV) : Calls Tryz.prog 18 #[tv bF bR] w fun e w' => e = .returned (.int .i64 0) ∧ Below w.heap.size w w' := by
  have CP := Lib.hid (fun W => isPage_any 0 W)
  rw [show decide ((0 : Int) ≤ 0 ∧ (0 : Int) ≤ 2) = true by decide] at CP
  have CV := Lib.hid (fun W hW => ValidateFields_any bF 0 1 [(tA, 4, 3, false)] W (by simp) (by simp) (by intro f hf; simp at hf; subst hf; decide) hW)
  rw [fl_A] at CV
  simp only [List.length_singleton] at CV
  have hb0 : Below w.heap.size w (w.alloc (.cells #[.int .i64 0, .slice (some ⟨bF, 0, none⟩) 1 1, .slice (some ⟨bR, 0, none⟩) 1 1] 25)) := (Below.refl _ _).alloc (Nat.le_refl _) _
  have h0 := h.below hb0 h.f.1 h.zr h.zv
  have HB0 := Lib.hid hb0; clear hb0
  go_enter Tryz.func18, Tryz.ntmps18
  go_wp2_with fail
  refine (CP.out _).mono ?_
  rintro e w' ⟨rfl, rfl⟩
  go_wp2_with fail
  refine (CV.out _ h0.f).mono ?_
  rintro e w1 ⟨rfl, hb1⟩
  have t0 : w1.cell? ⟨w.heap.size, 0, none⟩ = some (.int .i64 0) := (hb1.cell (p := ⟨w.heap.size, 0, none⟩) (by simp)).trans (by simp [go_sem])
  have t1 : w1.cell? ⟨w.heap.size, 1, none⟩ = some (.slice (some ⟨bF, 0, none⟩) 1 1) := (hb1.cell (p := ⟨w.heap.size, 1, none⟩) (by simp)).trans (by simp [go_sem])
  have t2 : w1.cell? ⟨w.heap.size, 2, none⟩ = some (.slice (some ⟨bR, 0, none⟩) 1 1) := (hb1.cell (p := ⟨w.heap.size, 2, none⟩) (by simp)).trans (by simp [go_sem])
  have hz1 : w.heap.size < w1.heap.size := by have := hb1.size; simp at this; omega
  have HB1 := Lib.hid (HB0.out.trans (hb1.mono (by simp)))
  have h1 := h.below HB1.out h.f.1 h.zr h.zv
  clear hb1
  go_wp2_with fail
  go_loopw [25] (fun i wr => (i = .int .i64 0 ∨ i = .int .i64 1) ∧ Below (w.heap.size + 1) w1 wr) (fun i _ => 1 - (intOf i).toNat)
  case atStart => exact ⟨.inl rfl, Below.refl _ _⟩
  case round =>
    obtain ⟨hi, hb⟩ := hrel
    have HB := Lib.hid hb
    have r0 := (hb.cell (p := ⟨w.heap.size, 0, none⟩) (by simp)).trans t0
    have r1 := (hb.cell (p := ⟨w.heap.size, 1, none⟩) (by simp)).trans t1
    have r2 := (hb.cell (p := ⟨w.heap.size, 2, none⟩) (by simp)).trans t2
    have hzr : w.heap.size < wr.heap.size := Nat.lt_of_lt_of_le hz1 hb.size
    have q1 := h.f.1
    have q2 := h.zr
    have q3 := h.zv
    have hK := h1.below hb (by omega) (by omega) (by omega)
    clear hb
    rcases hi with rfl | rfl
    · obtain ⟨kf, kg, kv, kv0, kv1, kv2, kzr, kzv⟩ := hK
      have hK : KT wr bF bR bV := ⟨kf, kg, kv, kv0, kv1, kv2, kzr, kzv⟩
      obtain ⟨kf0, kf1⟩ := kf
      obtain ⟨c0, c1, c2, c3⟩ := kf1 0 (by simp)
      simp only [List.getElem_cons_zero, Nat.zero_mul, Nat.zero_add, Nat.add_zero] at c0 c1 c2 c3
      clear kf1
      go_wp2_with fail
      have hbr : Below (w.heap.size + 1) wr (wr.alloc (.cells #[.bool false, .slice (some ⟨bV, 0, none⟩) 1 1] 59)) := (Below.refl _ _).alloc (by omega) _
      have g0 : (wr.alloc (.cells #[.bool false, .slice (some ⟨bV, 0, none⟩) 1 1] 59)).cell? ⟨wr.heap.size, 1, none⟩ = some (.slice (some ⟨bV, 0, none⟩) 1 1) := by simp
      have gz : wr.heap.size < (wr.alloc (.cells #[.bool false, .slice (some ⟨bV, 0, none⟩) 1 1] 59)).heap.size := by simp
      generalize wr.alloc (.cells #[.bool false, .slice (some ⟨bV, 0, none⟩) 1 1] 59) = Y at *
      have HBY := Lib.hid (HB1.out.trans ((HB.out.trans hbr).mono (by omega)))
      have HBr := Lib.hid (HB.out.trans hbr)
      have r0Y := (hbr.cell (p := ⟨w.heap.size, 0, none⟩) (by simp)).trans r0
      have HK := Lib.hid (hK.below hbr (by omega) (by omega) (by omega))
      clear hbr hK r0 r1 r2 c0 c1 c2 c3 kg kv kv0 kv1 kv2 kzr kzv kf0
      generalize hrb : wr.heap.size = rb at *
      have hrb1 : w.heap.size < rb := by omega
      clear hrb
      go_loopw [39] (fun i y => (i = .int .i64 0 ∨ i = .int .i64 1) ∧ Below (rb + 1) Y y) (fun i _ => 1 - (intOf i).toNat)
      case atStart => exact ⟨.inl rfl, Below.refl _ _⟩
      case round =>
        obtain ⟨hi2, hby⟩ := hrel
        have hKy := HK.out.below hby (by omega) (by omega) (by omega)
        have r0 := (hby.cell (p := ⟨w.heap.size, 0, none⟩) (by simp; omega)).trans r0Y
        have u1 := (hby.cell (p := ⟨rb, 1, none⟩) (by simp)).trans g0
        have zy := hby.size
        have HBin := Lib.hid hby
        have HBy := Lib.hid (HBY.out.trans (hby.mono (by omega)))
        have HBry := Lib.hid (HBr.out.trans (hby.mono (by omega)))
        clear hby
        rcases hi2 with rfl | rfl
        · obtain ⟨kf, kg, kv, n0, n1, n2, kzr, kzv⟩ := hKy
          obtain ⟨kf0, kf1⟩ := kf
          obtain ⟨c0, c1, c2, c3⟩ := kf1 0 (by simp)
          simp only [List.getElem_cons_zero, Nat.zero_mul, Nat.zero_add, Nat.add_zero] at c0 c1 c2 c3
          clear kf1
          go_wp2_with fail
          have hY : Below wr.heap.size wr (wr.alloc (.cells #[.string tA, .int .i64 4, .int .i64 3, .bool false] 49)) := (Below.refl _ _).alloc (Nat.le_refl _) _
          have hzY : wr.heap.size < (wr.alloc (.cells #[.string tA, .int .i64 4, .int .i64 3, .bool false] 49)).heap.size := by simp
          have m0 : (wr.alloc (.cells #[.string tA, .int .i64 4, .int .i64 3, .bool false] 49)).cell? ⟨wr.heap.size, 0, none⟩ = some (.string tA) := by simp
          have m1 : (wr.alloc (.cells #[.string tA, .int .i64 4, .int .i64 3, .bool false] 49)).cell? ⟨wr.heap.size, 1, none⟩ = some (.int .i64 4) := by simp
          have m2 : (wr.alloc (.cells #[.string tA, .int .i64 4, .int .i64 3, .bool false] 49)).cell? ⟨wr.heap.size, 2, none⟩ = some (.int .i64 3) := by simp
          have m3 : (wr.alloc (.cells #[.string tA, .int .i64 4, .int .i64 3, .bool false] 49)).cell? ⟨wr.heap.size, 3, none⟩ = some (.bool false) := by simp
          generalize (wr.alloc (.cells #[.string tA, .int .i64 4, .int .i64 3, .bool false] 49)) = Y2 at *
          have r0 := (hY.cell (p := ⟨w.heap.size, 0, none⟩) (by simp; omega)).trans r0
          have u1 := (hY.cell (p := ⟨rb, 1, none⟩) (by simp; omega)).trans u1
          have n0 := (hY.cell (p := ⟨bV, 0, none⟩) (by simp; omega)).trans n0
          have n1 := (hY.cell (p := ⟨bV, 1, none⟩) (by simp; omega)).trans n1
          have n2 := (hY.cell (p := ⟨bV, 2, none⟩) (by simp; omega)).trans n2
          have HBY2 := Lib.hid (HBy.out.trans (hY.mono (by omega)))
          have HBrY2 := Lib.hid (HBry.out.trans (hY.mono (by omega)))
          have HBi := Lib.hid ((Below.refl (rb + 1) wr).trans (hY.mono (by omega)))
          have HL2 := Lib.hid (hL.below HBY2.out.drew)
          generalize hmb : wr.heap.size = mb at *
          have zv2 : bV < Y2.heap.size := by omega
          have zr2 : rb < Y2.heap.size := by omega
          have zw2 : w.heap.size < Y2.heap.size := by omega
          have hrb2 : rb + 1 ≤ Y2.heap.size := by omega
          have hw2 : w.heap.size + 1 ≤ Y2.heap.size := by omega
          clear c0 c1 c2 c3 kf0 kg kv hY zy hmb
          have hbw := Lib.hid (Below.refl Y2.heap.size Y2).drew
          have hzd : Y2.heap.size ≤ Y2.drew.heap.size := by simp
          go_region_held3 (fun x => x.cell? ⟨mb, 0, none⟩ = some (.string tA) ∧ x.cell? ⟨mb, 1, none⟩ = some (.int .i64 4) ∧ x.cell? ⟨mb, 2, none⟩ = some (.int .i64 3) ∧ x.cell? ⟨mb, 3, none⟩ = some (.bool false) ∧ x.cell? ⟨w.heap.size, 0, none⟩ = some (.int .i64 0) ∧ x.cell? ⟨rb, 1, none⟩ = some (.slice (some ⟨bV, 0, none⟩) 1 1) ∧ x.cell? ⟨bV, 0, none⟩ = some (.int .i64 4) ∧ x.cell? ⟨bV, 1, none⟩ = some (.int .i64 0) ∧ x.cell? ⟨bV, 2, none⟩ = some (.string tAb)) (first | exact ⟨m0, m1, m2, m3, r0, u1, n0, n1, n2⟩ | go_keep)
            (first | (go_at_call 52; (with_reducible refine (holds_ab _ HL2.out).mono ?_); rintro e xK ⟨rfl, hx1⟩; have m0 : xK.cell? ⟨mb, 0, none⟩ = some (.string tA) := (hx1.cell (p := ⟨mb, 0, none⟩) (by simp at hzd ⊢; omega)).trans m0; have m1 : xK.cell? ⟨mb, 1, none⟩ = some (.int .i64 4) := (hx1.cell (p := ⟨mb, 1, none⟩) (by simp at hzd ⊢; omega)).trans m1; have m2 : xK.cell? ⟨mb, 2, none⟩ = some (.int .i64 3) := (hx1.cell (p := ⟨mb, 2, none⟩) (by simp at hzd ⊢; omega)).trans m2; have m3 : xK.cell? ⟨mb, 3, none⟩ = some (.bool false) := (hx1.cell (p := ⟨mb, 3, none⟩) (by simp at hzd ⊢; omega)).trans m3; have r0 : xK.cell? ⟨w.heap.size, 0, none⟩ = some (.int .i64 0) := (hx1.cell (p := ⟨w.heap.size, 0, none⟩) (by simp at hzd ⊢; omega)).trans r0; have u1 : xK.cell? ⟨rb, 1, none⟩ = some (.slice (some ⟨bV, 0, none⟩) 1 1) := (hx1.cell (p := ⟨rb, 1, none⟩) (by simp at hzd ⊢; omega)).trans u1; have n0 : xK.cell? ⟨bV, 0, none⟩ = some (.int .i64 4) := (hx1.cell (p := ⟨bV, 0, none⟩) (by simp at hzd ⊢; omega)).trans n0; have n1 : xK.cell? ⟨bV, 1, none⟩ = some (.int .i64 0) := (hx1.cell (p := ⟨bV, 1, none⟩) (by simp at hzd ⊢; omega)).trans n1; have n2 : xK.cell? ⟨bV, 2, none⟩ = some (.string tAb) := (hx1.cell (p := ⟨bV, 2, none⟩) (by simp at hzd ⊢; omega)).trans n2; have hbw := Lib.hid (hbw.out.trans (hx1.mono hzd)); clear hx1 hzd))
          all_goals go_wp2_with fail
          all_goals exact ⟨⟨.inr rfl, (HBin.out.trans HBi.out).trans (hbw.out.mono hrb2)⟩, by decide⟩
        · go_wp2_with fail
          exact ⟨⟨.inr rfl, HBry.out⟩, by decide⟩
    · go_wp2_with fail
      go_ret
      exact ⟨rfl, HB1.out.trans (HB.out.mono (by omega))⟩
end Go.Proofs.YtcgfeeobkoomfaaGreatDoor
