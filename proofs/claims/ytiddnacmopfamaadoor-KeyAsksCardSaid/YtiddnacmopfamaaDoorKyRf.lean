/- The walk of KeyAsks. -/
import Derived.Test.YtiddnacmopfamaaDoorKyRe

namespace Go.Proofs.YtiddnacmopfamaaDoor
open Go.RowKit
set_option linter.unusedVariables false
set_option linter.unusedSimpArgs false
set_option maxRecDepth 40000

/-- The cells of a row of two numbers. -/
def R2 (w : World) (g : Nat) (a b : Int) : Prop := w.cell? ⟨g, 0, none⟩ = some (.int .i64 a) ∧ w.cell? ⟨g, 1, none⟩ = some (.int .i64 b) ∧ g < w.heap.size
theorem R2.below {w w' : World} {g B : Nat} {a b : Int} (h : R2 w g a b) (hb : Below B w w') (hg : g < B) : R2 w' g a b :=
  ⟨(hb.cell (p := ⟨g, 0, none⟩) hg).trans h.1, (hb.cell (p := ⟨g, 1, none⟩) hg).trans h.2.1, by have := h.2.2; have := hb.size; omega⟩
theorem R2.new (w : World) (a b : Int) (t : TypeId) : R2 (w.alloc (.cells #[.int .i64 a, .int .i64 b] t)) w.heap.size a b := ⟨by simp, by simp, by simp⟩
theorem box_v2 (w : World) (k n : Int) (s : ByteArray) (a b : Int) :
    let wb := ((w.alloc (.cells #[.int .i64 k, .int .i64 n, .string s] 23)).alloc (.cells #[.int .i64 a, .int .i64 b] 68))
    VCell wb w.heap.size k n s ∧ R2 wb (w.heap.size + 1) a b ∧ Below w.heap.size w wb := by
  intro wb
  have hz1 : (w.alloc (.cells #[.int .i64 k, .int .i64 n, .string s] 23)).heap.size = w.heap.size + 1 := by simp
  have h1 := VCell.new w k n s 23
  have h2 := R2.new (w.alloc (.cells #[.int .i64 k, .int .i64 n, .string s] 23)) a b 68
  have b2 := Below.of_alloc (w.alloc (.cells #[.int .i64 k, .int .i64 n, .string s] 23)) (.cells #[.int .i64 a, .int .i64 b] 68) _ (Nat.le_refl _)
  have h1' := h1.below b2 h1.2.2.2
  rw [hz1] at h2
  exact ⟨h1', h2, ((Below.refl _ _).alloc (Nat.le_refl _) _).alloc (by simp) _⟩
theorem box_v1 (w : World) (k n : Int) (s : ByteArray) :
    VCell (w.alloc (.cells #[.int .i64 k, .int .i64 n, .string s] 23)) w.heap.size k n s ∧ Below w.heap.size w (w.alloc (.cells #[.int .i64 k, .int .i64 n, .string s] 23)) := ⟨VCell.new w k n s 23, (Below.refl _ _).alloc (Nat.le_refl _) _⟩

set_option maxHeartbeats 16000000 in
theorem keyAsks_any (op : ByteArray) (k n : Int) (s : ByteArray) (p c : Int) (w : World) (he : Env w) (ho : op.size ≤ 140737488355328) (hs : s.size ≤ 140737488355328) :
    Calls Tryd.prog 11 #[.string op, vv k n s, .agg #[.int .i64 p, .int .i64 c]] w fun e w' => e = .returned (.bool true) ∧ Below w.heap.size w w' := by
  have hbox := box_v2 w k n s p c
  simp only at hbox
  have HE := Lib.hid (he.below hbox.2.2 (Nat.le_refl _)); clear he
  have HBX := Lib.hid hbox; clear hbox
  have C0 := Lib.hid (fun W h => known_any W h)
  by_cases hl : 40000 < op.size
  · have i1 : (40000 : Int) < op.size := by omega
    go_enter Tryd.func11, Tryd.ntmps11
    go_wp2_with fail
    generalize ((w.alloc (.cells #[.int .i64 k, .int .i64 n, .string s] 23)).alloc (.cells #[.int .i64 p, .int .i64 c] 68)) = wb at *
    refine (C0.out _ HE.out).mono ?_
    rintro e w4 ⟨rfl, hb4⟩
    have HB4 := Lib.hid (HBX.out.2.2.trans (hb4.mono HBX.out.2.2.size)); clear hb4
    go_wp2_with fail
    go_ret
    exact ⟨rfl, HB4.out⟩
  have i1 : ¬ (40000 : Int) < op.size := by omega
  obtain ⟨wb, hwb⟩ : ∃ wb, wb = ((w.alloc (.cells #[.int .i64 k, .int .i64 n, .string s] 23)).alloc (.cells #[.int .i64 p, .int .i64 c] 68)) := ⟨_, rfl⟩
  rw [← hwb] at HBX HE
  have hx := box_v1 wb k n s
  have HV1 := Lib.hid (HBX.out.1.below hx.2 HBX.out.1.2.2.2)
  have HR1 := Lib.hid (HBX.out.2.1.below hx.2 HBX.out.2.1.2.2)
  have HE1 := Lib.hid (HE.out.below hx.2 (Nat.le_refl _))
  have HB1 := Lib.hid (HBX.out.2.2.trans (hx.2.mono HBX.out.2.2.size))
  have HZB : Hid (wb.heap.size = w.heap.size + 1 + 1) := Lib.hid (by rw [hwb]; simp)
  have HX : Hid (VCell (wb.alloc (.cells #[.int .i64 k, .int .i64 n, .string s] 23)) (w.heap.size + 1 + 1) k n s) := Lib.hid (by have := hx.1; rw [HZB.out] at this; exact this)
  clear hx
  cases hov : ovB [s]
  · have hz := ovB_one hov
    have HO := Lib.hid (fun g W h => by have := over_one k n s g W hs h; rw [hov] at this; exact this)
    clear hov
    have C1 := Lib.hid (fun W h => Range_any op k n s p c W h (by omega))
    have C2 := Lib.hid (fun W => refValidate_any k n s W (by unfold maxLen; omega))
    have C3 := Lib.hid (fun W => refAsked_any p c W)
    have C5 := Lib.hid (fun g W h => by have := In_any opL op g 6 W (by decide) h; rw [opL_in] at this; exact this)
    have C4 := Lib.hid (fun W => operators_any W)
    have hem : nos.toList = [] := by rw [Lib.toList_data]
    have HRG : Hid (rgE op k n s p c = if wvE k n s p c ≠ 0 then wvE k n s p c else if isO op = false then 1 else if k = 0 then 6 else 0) := Lib.hid rfl
    have HWV : Hid (wvE k n s p c = if vE k n s = 0 then wpE p c else vE k n s) := Lib.hid rfl
    have hwc : wpE p c = 0 ∨ wpE p c = 1 := by unfold wpE; by_cases h : 0 ≤ p ∧ p < 3 ∧ (c = 0 ∨ c = 1) <;> simp [h]
    generalize rgE op k n s p c = r at *
    generalize wvE k n s p c = u at *
    generalize vE k n s = v at *
    generalize wpE p c = q at *
    generalize isO op = io at *
    obtain ⟨v0, v1, v2, _⟩ := HBX.out.1
    by_cases hv : v = 0
    · subst hv
      have hu : u = q := by have := HWV.out; simpa using this
      subst hu
      rcases hwc with rfl | rfl
      · cases io
        · have hr : r = 1 := by have := HRG.out; simpa using this
          subst hr
          clear HRG HWV
          subst hwb
          go_enter Tryd.func11, Tryd.ntmps11
          go_wp2_with fail
          generalize hwb : ((w.alloc (.cells #[.int .i64 k, .int .i64 n, .string s] 23)).alloc (.cells #[.int .i64 p, .int .i64 c] 68)) = wb at *
          refine (HO.out _ _ HX.out).mono ?_
          rintro e w1 ⟨rfl, rfl⟩
          clear v0 v1 v2 hwb
          generalize wb.alloc (.cells #[.int .i64 k, .int .i64 n, .string s] 23) = w1 at *
          obtain ⟨v0, v1, v2, _⟩ := HV1.out
          obtain ⟨r0, r1, _⟩ := HR1.out
          go_wp2_with fail
          refine (C1.out _ HE1.out).mono ?_
          rintro e w2 ⟨lo, hi, bb, rfl, hb2, hnn⟩
          have HV2 := Lib.hid (HV1.out.below hb2 HV1.out.2.2.2)
          have HR2 := Lib.hid (HR1.out.below hb2 HR1.out.2.2)
          have HE2 := Lib.hid (HE1.out.below hb2 (Nat.le_refl _))
          have HB2 := Lib.hid (HB1.out.trans (hb2.mono HB1.out.size))
          clear hb2 v0 v1 v2 r0 r1
          obtain ⟨rfl, rfl, rfl⟩ := hnn (by decide)
          clear hnn
          obtain ⟨v0, v1, v2, _⟩ := HV2.out
          obtain ⟨r0, r1, _⟩ := HR2.out
          go_wp2_with fail
          refine (C2.out _).mono ?_
          rintro e w3 ⟨rfl, hb3⟩
          have HV3 := Lib.hid (HV2.out.below hb3 HV2.out.2.2.2)
          have HR3 := Lib.hid (HR2.out.below hb3 HR2.out.2.2)
          have HE3 := Lib.hid (HE2.out.below hb3 (Nat.le_refl _))
          have HB3 := Lib.hid (HB2.out.trans (hb3.mono HB2.out.size))
          clear hb3 v0 v1 v2 r0 r1
          obtain ⟨v0, v1, v2, _⟩ := HV3.out
          obtain ⟨r0, r1, _⟩ := HR3.out
          go_wp2_with fail
          refine (C3.out _).mono ?_
          rintro e w4 ⟨rfl, rfl⟩
          go_wp2_with fail
          refine (C4.out _).mono ?_
          rintro e w5 ⟨g, rfl, hcl, hb5⟩
          have HV5 := Lib.hid (HV3.out.below hb5 HV3.out.2.2.2)
          have HE5 := Lib.hid (HE3.out.below hb5 (Nat.le_refl _))
          have HB5 := Lib.hid (HB3.out.trans (hb5.mono HB3.out.size))
          have HCL := Lib.hid hcl
          clear hb5 hcl v0 v1 v2 r0 r1
          obtain ⟨v0, v1, v2, _⟩ := HV5.out
          go_wp2_with fail
          refine (C5.out _ _ HCL.out).mono ?_
          rintro e w6 ⟨rfl, rfl⟩
          go_wp2_with fail
          refine (C0.out _ HE5.out).mono ?_
          rintro e w7 ⟨rfl, hb7⟩
          have HB7 := Lib.hid (HB5.out.trans (hb7.mono HB5.out.size)); clear hb7
          go_wp2_with fail
          go_ret
          exact ⟨rfl, HB7.out⟩
        · by_cases hk : k = 0
          · have hr : r = 6 := by have := HRG.out; simpa [hk] using this
            subst hr
            have hk' : ((k : Int) == 0) = true := by simpa using hk
            clear hk
            clear HRG HWV
            subst hwb
            go_enter Tryd.func11, Tryd.ntmps11
            go_wp2_with fail
            generalize hwb : ((w.alloc (.cells #[.int .i64 k, .int .i64 n, .string s] 23)).alloc (.cells #[.int .i64 p, .int .i64 c] 68)) = wb at *
            refine (HO.out _ _ HX.out).mono ?_
            rintro e w1 ⟨rfl, rfl⟩
            clear v0 v1 v2 hwb
            generalize wb.alloc (.cells #[.int .i64 k, .int .i64 n, .string s] 23) = w1 at *
            obtain ⟨v0, v1, v2, _⟩ := HV1.out
            obtain ⟨r0, r1, _⟩ := HR1.out
            go_wp2_with fail
            refine (C1.out _ HE1.out).mono ?_
            rintro e w2 ⟨lo, hi, bb, rfl, hb2, hnn⟩
            have HV2 := Lib.hid (HV1.out.below hb2 HV1.out.2.2.2)
            have HR2 := Lib.hid (HR1.out.below hb2 HR1.out.2.2)
            have HE2 := Lib.hid (HE1.out.below hb2 (Nat.le_refl _))
            have HB2 := Lib.hid (HB1.out.trans (hb2.mono HB1.out.size))
            clear hb2 v0 v1 v2 r0 r1
            obtain ⟨rfl, rfl, rfl⟩ := hnn (by decide)
            clear hnn
            obtain ⟨v0, v1, v2, _⟩ := HV2.out
            obtain ⟨r0, r1, _⟩ := HR2.out
            go_wp2_with fail
            refine (C2.out _).mono ?_
            rintro e w3 ⟨rfl, hb3⟩
            have HV3 := Lib.hid (HV2.out.below hb3 HV2.out.2.2.2)
            have HR3 := Lib.hid (HR2.out.below hb3 HR2.out.2.2)
            have HE3 := Lib.hid (HE2.out.below hb3 (Nat.le_refl _))
            have HB3 := Lib.hid (HB2.out.trans (hb3.mono HB2.out.size))
            clear hb3 v0 v1 v2 r0 r1
            obtain ⟨v0, v1, v2, _⟩ := HV3.out
            obtain ⟨r0, r1, _⟩ := HR3.out
            go_wp2_with fail
            refine (C3.out _).mono ?_
            rintro e w4 ⟨rfl, rfl⟩
            go_wp2_with fail
            refine (C4.out _).mono ?_
            rintro e w5 ⟨g, rfl, hcl, hb5⟩
            have HV5 := Lib.hid (HV3.out.below hb5 HV3.out.2.2.2)
            have HE5 := Lib.hid (HE3.out.below hb5 (Nat.le_refl _))
            have HB5 := Lib.hid (HB3.out.trans (hb5.mono HB3.out.size))
            have HCL := Lib.hid hcl
            clear hb5 hcl v0 v1 v2 r0 r1
            obtain ⟨v0, v1, v2, _⟩ := HV5.out
            go_wp2_with fail
            refine (C5.out _ _ HCL.out).mono ?_
            rintro e w6 ⟨rfl, rfl⟩
            go_wp2_with fail
            refine (C0.out _ HE5.out).mono ?_
            rintro e w7 ⟨rfl, hb7⟩
            have HB7 := Lib.hid (HB5.out.trans (hb7.mono HB5.out.size)); clear hb7
            go_wp2_with fail
            go_ret
            exact ⟨rfl, HB7.out⟩
          · have hr : r = 0 := by have := HRG.out; simpa [hk] using this
            subst hr
            have hk' : ((k : Int) == 0) = false := by simpa using hk
            clear hk
            clear HRG HWV
            subst hwb
            go_enter Tryd.func11, Tryd.ntmps11
            go_wp2_with fail
            generalize hwb : ((w.alloc (.cells #[.int .i64 k, .int .i64 n, .string s] 23)).alloc (.cells #[.int .i64 p, .int .i64 c] 68)) = wb at *
            refine (HO.out _ _ HX.out).mono ?_
            rintro e w1 ⟨rfl, rfl⟩
            clear v0 v1 v2 hwb
            generalize wb.alloc (.cells #[.int .i64 k, .int .i64 n, .string s] 23) = w1 at *
            obtain ⟨v0, v1, v2, _⟩ := HV1.out
            obtain ⟨r0, r1, _⟩ := HR1.out
            go_wp2_with fail
            refine (C1.out _ HE1.out).mono ?_
            rintro e w2 ⟨lo, hi, bb, rfl, hb2, hnn⟩
            have HV2 := Lib.hid (HV1.out.below hb2 HV1.out.2.2.2)
            have HR2 := Lib.hid (HR1.out.below hb2 HR1.out.2.2)
            have HE2 := Lib.hid (HE1.out.below hb2 (Nat.le_refl _))
            have HB2 := Lib.hid (HB1.out.trans (hb2.mono HB1.out.size))
            clear hb2 v0 v1 v2 r0 r1
            clear hnn
            obtain ⟨v0, v1, v2, _⟩ := HV2.out
            obtain ⟨r0, r1, _⟩ := HR2.out
            go_wp2_with fail
            refine (C2.out _).mono ?_
            rintro e w3 ⟨rfl, hb3⟩
            have HV3 := Lib.hid (HV2.out.below hb3 HV2.out.2.2.2)
            have HR3 := Lib.hid (HR2.out.below hb3 HR2.out.2.2)
            have HE3 := Lib.hid (HE2.out.below hb3 (Nat.le_refl _))
            have HB3 := Lib.hid (HB2.out.trans (hb3.mono HB2.out.size))
            clear hb3 v0 v1 v2 r0 r1
            obtain ⟨v0, v1, v2, _⟩ := HV3.out
            obtain ⟨r0, r1, _⟩ := HR3.out
            go_wp2_with fail
            refine (C3.out _).mono ?_
            rintro e w4 ⟨rfl, rfl⟩
            go_wp2_with fail
            refine (C4.out _).mono ?_
            rintro e w5 ⟨g, rfl, hcl, hb5⟩
            have HV5 := Lib.hid (HV3.out.below hb5 HV3.out.2.2.2)
            have HE5 := Lib.hid (HE3.out.below hb5 (Nat.le_refl _))
            have HB5 := Lib.hid (HB3.out.trans (hb5.mono HB3.out.size))
            have HCL := Lib.hid hcl
            clear hb5 hcl v0 v1 v2 r0 r1
            obtain ⟨v0, v1, v2, _⟩ := HV5.out
            go_wp2_with fail
            refine (C5.out _ _ HCL.out).mono ?_
            rintro e w6 ⟨rfl, rfl⟩
            go_wp2_with fail
            refine (C0.out _ HE5.out).mono ?_
            rintro e w7 ⟨rfl, hb7⟩
            have HB7 := Lib.hid (HB5.out.trans (hb7.mono HB5.out.size)); clear hb7
            go_wp2_with fail
            go_ret
            exact ⟨rfl, HB7.out⟩
      · have hr : r = 1 := by have := HRG.out; simpa using this
        subst hr
        clear HRG HWV
        subst hwb
        go_enter Tryd.func11, Tryd.ntmps11
        go_wp2_with fail
        generalize hwb : ((w.alloc (.cells #[.int .i64 k, .int .i64 n, .string s] 23)).alloc (.cells #[.int .i64 p, .int .i64 c] 68)) = wb at *
        refine (HO.out _ _ HX.out).mono ?_
        rintro e w1 ⟨rfl, rfl⟩
        clear v0 v1 v2 hwb
        generalize wb.alloc (.cells #[.int .i64 k, .int .i64 n, .string s] 23) = w1 at *
        obtain ⟨v0, v1, v2, _⟩ := HV1.out
        obtain ⟨r0, r1, _⟩ := HR1.out
        go_wp2_with fail
        refine (C1.out _ HE1.out).mono ?_
        rintro e w2 ⟨lo, hi, bb, rfl, hb2, hnn⟩
        have HV2 := Lib.hid (HV1.out.below hb2 HV1.out.2.2.2)
        have HR2 := Lib.hid (HR1.out.below hb2 HR1.out.2.2)
        have HE2 := Lib.hid (HE1.out.below hb2 (Nat.le_refl _))
        have HB2 := Lib.hid (HB1.out.trans (hb2.mono HB1.out.size))
        clear hb2 v0 v1 v2 r0 r1
        obtain ⟨rfl, rfl, rfl⟩ := hnn (by decide)
        clear hnn
        obtain ⟨v0, v1, v2, _⟩ := HV2.out
        obtain ⟨r0, r1, _⟩ := HR2.out
        go_wp2_with fail
        refine (C2.out _).mono ?_
        rintro e w3 ⟨rfl, hb3⟩
        have HV3 := Lib.hid (HV2.out.below hb3 HV2.out.2.2.2)
        have HR3 := Lib.hid (HR2.out.below hb3 HR2.out.2.2)
        have HE3 := Lib.hid (HE2.out.below hb3 (Nat.le_refl _))
        have HB3 := Lib.hid (HB2.out.trans (hb3.mono HB2.out.size))
        clear hb3 v0 v1 v2 r0 r1
        obtain ⟨v0, v1, v2, _⟩ := HV3.out
        obtain ⟨r0, r1, _⟩ := HR3.out
        go_wp2_with fail
        refine (C3.out _).mono ?_
        rintro e w4 ⟨rfl, rfl⟩
        go_wp2_with fail
        refine (C0.out _ HE3.out).mono ?_
        rintro e w7 ⟨rfl, hb7⟩
        have HB7 := Lib.hid (HB3.out.trans (hb7.mono HB3.out.size)); clear hb7
        go_wp2_with fail
        go_ret
        exact ⟨rfl, HB7.out⟩
    · have hu : u = v := by have := HWV.out; simpa [hv] using this
      subst hu
      have hr : r = u := by have := HRG.out; simpa [hv] using this
      subst hr
      have HNZ := Lib.hid hv
      have n1 : (r != 0) = true := by simpa using hv
      have n2 : (r == 0) = false := by simpa using hv
      clear hv
      clear HRG HWV hwc
      subst hwb
      go_enter Tryd.func11, Tryd.ntmps11
      go_wp2_with fail
      generalize hwb : ((w.alloc (.cells #[.int .i64 k, .int .i64 n, .string s] 23)).alloc (.cells #[.int .i64 p, .int .i64 c] 68)) = wb at *
      refine (HO.out _ _ HX.out).mono ?_
      rintro e w1 ⟨rfl, rfl⟩
      clear v0 v1 v2 hwb
      generalize wb.alloc (.cells #[.int .i64 k, .int .i64 n, .string s] 23) = w1 at *
      obtain ⟨v0, v1, v2, _⟩ := HV1.out
      obtain ⟨r0, r1, _⟩ := HR1.out
      go_wp2_with fail
      refine (C1.out _ HE1.out).mono ?_
      rintro e w2 ⟨lo, hi, bb, rfl, hb2, hnn⟩
      have HV2 := Lib.hid (HV1.out.below hb2 HV1.out.2.2.2)
      have HR2 := Lib.hid (HR1.out.below hb2 HR1.out.2.2)
      have HE2 := Lib.hid (HE1.out.below hb2 (Nat.le_refl _))
      have HB2 := Lib.hid (HB1.out.trans (hb2.mono HB1.out.size))
      clear hb2 v0 v1 v2 r0 r1
      obtain ⟨rfl, rfl, rfl⟩ := hnn HNZ.out
      clear hnn
      obtain ⟨v0, v1, v2, _⟩ := HV2.out
      obtain ⟨r0, r1, _⟩ := HR2.out
      go_wp2_with fail
      refine (C2.out _).mono ?_
      rintro e w3 ⟨rfl, hb3⟩
      have HV3 := Lib.hid (HV2.out.below hb3 HV2.out.2.2.2)
      have HR3 := Lib.hid (HR2.out.below hb3 HR2.out.2.2)
      have HE3 := Lib.hid (HE2.out.below hb3 (Nat.le_refl _))
      have HB3 := Lib.hid (HB2.out.trans (hb3.mono HB2.out.size))
      clear hb3 v0 v1 v2 r0 r1
      obtain ⟨v0, v1, v2, _⟩ := HV3.out
      obtain ⟨r0, r1, _⟩ := HR3.out
      go_wp2_with fail
      refine (C0.out _ HE3.out).mono ?_
      rintro e w7 ⟨rfl, hb7⟩
      have HB7 := Lib.hid (HB3.out.trans (hb7.mono HB3.out.size)); clear hb7
      go_wp2_with fail
      go_ret
      exact ⟨rfl, HB7.out⟩
  · have HO := Lib.hid (fun g W h => by have := over_one k n s g W hs h; rw [hov] at this; exact this)
    clear hov
    obtain ⟨v0, v1, v2, _⟩ := HBX.out.1
    subst hwb
    go_enter Tryd.func11, Tryd.ntmps11
    go_wp2_with fail
    generalize hwb : ((w.alloc (.cells #[.int .i64 k, .int .i64 n, .string s] 23)).alloc (.cells #[.int .i64 p, .int .i64 c] 68)) = wb at *
    refine (HO.out _ _ HX.out).mono ?_
    rintro e w1 ⟨rfl, rfl⟩
    clear v0 v1 v2 hwb
    generalize wb.alloc (.cells #[.int .i64 k, .int .i64 n, .string s] 23) = w1 at *
    go_wp2_with fail
    refine (C0.out _ HE1.out).mono ?_
    rintro e w4 ⟨rfl, hb4⟩
    have HB4 := Lib.hid (HB1.out.trans (hb4.mono HB1.out.size)); clear hb4
    go_wp2_with fail
    go_ret
    exact ⟨rfl, HB4.out⟩
theorem keyAsks_all (op : ByteArray) (k n : Int) (s : ByteArray) (p c : Int) (w : World) (he : Env w) (ho : op.size ≤ 140737488355328) (hk : -9223372036854775808 ≤ k ∧ k ≤ 9223372036854775807) (hn : -9223372036854775808 ≤ n ∧ n ≤ 9223372036854775807) (hs : s.size ≤ 140737488355328) (h1 : -9223372036854775808 ≤ p ∧ p ≤ 9223372036854775807) (h2 : -9223372036854775808 ≤ c ∧ c ≤ 9223372036854775807) :
    Calls Tryd.prog 11 #[.string op, vv k n s, .agg #[.int .i64 p, .int .i64 c]] w fun e w' => e = .returned (.bool true) ∧ Below w.heap.size w w' :=
  keyAsks_any op k n s p c w he ho hs
end Go.Proofs.YtiddnacmopfamaaDoor
