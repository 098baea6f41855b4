/- Which tokens are the same: the program and the reference. -/
import Derived.Test.YthagfammfejenaaDoorLxA
namespace Go.Proofs.YthagfammfejenaaDoor
open Go.RowKit
set_option linter.unusedVariables false
set_option linter.unusedSimpArgs false
set_option maxRecDepth 40000
set_option maxHeartbeats 4000000 in
theorem common_any (A B : Option Addr) (c d : Nat) (a b : List Tk) (w : World) (ha : TkA w A a) (hb : TkA w B b) (la : a.length ≤ 140737488355328) (lb : b.length ≤ 140737488355328) :
    Calls Tryd.prog 37 #[.slice A a.length c, .slice B b.length d] w fun e w' => ∃ k, e = .returned (.int .i64 (k : Nat)) ∧ Cmn a b k ∧ (k = a.length ∨ k = b.length ∨ ∃ (h : k < a.length) (h' : k < b.length), tsame a[k] b[k] = false) ∧ Below w.heap.size w w' := by
  go_enter Tryd.func37, Tryd.ntmps37
  go_wp2_with fail
  go_loopw [5] (fun i wr => ∃ k : Nat, i = .int .i64 k ∧ Cmn a b k ∧ Below w.heap.size w wr) (fun i _ => a.length - (intOf i).toNat)
  case atStart => exact ⟨0, rfl, Cmn.zero a b, Below.refl _ _⟩
  case round =>
    obtain ⟨k, rfl, hC, hW⟩ := hrel
    have HW := Lib.hid hW; clear hW
    have HC := Lib.hid hC; clear hC
    by_cases h1 : k < a.length
    · by_cases h2 : k < b.length
      · obtain ⟨g, o1, rfl, hA⟩ := ha (tk_ne h1)
        obtain ⟨h, o2, rfl, hB⟩ := hb (tk_ne h2)
        have hgw := hA.1
        have hhw := hB.1
        obtain ⟨c0, c1, c2⟩ := (hA.below HW.out hgw).2 k h1
        obtain ⟨d0, d1, d2⟩ := (hB.below HW.out hhw).2 k h2
        have HS := Lib.hid (fun W => isSame_any a[k] b[k] W)
        have HN := Lib.hid (fun e => HC.out.succ h1 h2 e)
        have HE : Hid (tsame a[k] b[k] = false → ∃ (h : k < a.length) (h' : k < b.length), tsame a[k] b[k] = false) := Lib.hid (fun e => ⟨h1, h2, e⟩)
        obtain ⟨X, hX⟩ : ∃ X, X = a[k] := ⟨_, rfl⟩
        obtain ⟨Z, hZ⟩ : ∃ Z, Z = b[k] := ⟨_, rfl⟩
        rw [← hX] at c0 c1 c2 HS
        rw [← hZ] at d0 d1 d2 HS
        have HX := Lib.hid hX; have HZ := Lib.hid hZ; clear hX hZ
        obtain ⟨x0, x1, x2⟩ := X
        obtain ⟨z0, z1, z2⟩ := Z
        simp only [TkAt] at c0 c1 c2 d0 d1 d2
        have i1 : (0 : Int) ≤ (k : Int) := by omega
        have i2 : (k : Int) < a.length := by omega
        have i3 : (k : Int) < b.length := by omega
        obtain ⟨Y, hY⟩ : ∃ Y, Y = wr := ⟨_, rfl⟩
        have hgy : g < Y.heap.size := by rw [hY]; have := HW.out.size; omega
        have hhy : h < Y.heap.size := by rw [hY]; have := HW.out.size; omega
        rw [← hY] at HW c0 c1 c2 d0 d1 d2 ⊢
        clear hY
        go_wp2_with fail
        have hbw := Lib.hid (Below.refl Y.heap.size Y).drew
        have hz : Y.heap.size ≤ Y.drew.heap.size := by simp
        go_region_held3 (fun x => x.cell? ⟨g, o1 + k * 3, none⟩ = some (.int .i64 x0) ∧ x.cell? ⟨g, o1 + k * 3 + 1, none⟩ = some (.int .i64 x1) ∧ x.cell? ⟨g, o1 + k * 3 + 2, none⟩ = some (.string x2) ∧ x.cell? ⟨h, o2 + k * 3, none⟩ = some (.int .i64 z0) ∧ x.cell? ⟨h, o2 + k * 3 + 1, none⟩ = some (.int .i64 z1) ∧ x.cell? ⟨h, o2 + k * 3 + 2, none⟩ = some (.string z2))
          (first | exact ⟨c0, c1, c2, d0, d1, d2⟩ | go_keep)
          (first
            | (go_at_call 48; (with_reducible refine (HS.out _).mono ?_); rintro e y1 ⟨rfl, hx1⟩;
               have c0 : y1.cell? ⟨g, o1 + k * 3, none⟩ = some (.int .i64 x0) := (hx1.cell (p := ⟨g, o1 + k * 3, none⟩) (by simp at hz ⊢; omega)).trans c0;
               have c1 : y1.cell? ⟨g, o1 + k * 3 + 1, none⟩ = some (.int .i64 x1) := (hx1.cell (p := ⟨g, o1 + k * 3 + 1, none⟩) (by simp at hz ⊢; omega)).trans c1;
               have c2 : y1.cell? ⟨g, o1 + k * 3 + 2, none⟩ = some (.string x2) := (hx1.cell (p := ⟨g, o1 + k * 3 + 2, none⟩) (by simp at hz ⊢; omega)).trans c2;
               have d0 : y1.cell? ⟨h, o2 + k * 3, none⟩ = some (.int .i64 z0) := (hx1.cell (p := ⟨h, o2 + k * 3, none⟩) (by simp at hz ⊢; omega)).trans d0;
               have d1 : y1.cell? ⟨h, o2 + k * 3 + 1, none⟩ = some (.int .i64 z1) := (hx1.cell (p := ⟨h, o2 + k * 3 + 1, none⟩) (by simp at hz ⊢; omega)).trans d1;
               have d2 : y1.cell? ⟨h, o2 + k * 3 + 2, none⟩ = some (.string z2) := (hx1.cell (p := ⟨h, o2 + k * 3 + 2, none⟩) (by simp at hz ⊢; omega)).trans d2;
               have hz' : Y.heap.size ≤ y1.heap.size := (Nat.le_trans hz hx1.size);
               have hbw := Lib.hid (hbw.out.trans (hx1.mono hz));
               clear hz;
               have hz := hz';
               clear hx1 hz')
            | fail)
        cases hs : tsame (x0, x1, x2) (z0, z1, z2)
        · go_wp2_with fail
          go_ret
          exact ⟨k, rfl, HC.out, .inr (.inr (HE.out (by rw [← HX.out, ← HZ.out]; exact hs))), HW.out.trans (hbw.out.mono HW.out.size)⟩
        · go_wp2_with fail
          go_roundw
          case rel => exact ⟨k + 1, by go_num, HN.out (by rw [← HX.out, ← HZ.out]; exact hs), HW.out.trans (hbw.out.mono HW.out.size)⟩
          case measure => simp [intOf]; omega
      · have hk := HC.out
        have hkl : k = b.length := by have := hk.2.1; omega
        have HKL := Lib.hid hkl; clear hkl hk
        have j1 : decide ((k : Int) < a.length) = true := by simp; omega
        have j2 : decide ((k : Int) < b.length) = false := by simp; omega
        go_wp2_with fail
        go_region
        go_wp2_with fail
        go_ret
        exact ⟨k, rfl, HC.out, .inr (.inl HKL.out), by have := HW.out; first | exact this | exact this.drew⟩
    · have hk := HC.out
      have hkl : k = a.length := by have := hk.1; omega
      have HKL := Lib.hid hkl; clear hkl hk
      have j1 : decide ((k : Int) < a.length) = false := by simp; omega
      go_wp2_with fail
      go_region
      go_wp2_with fail
      go_ret
      exact ⟨k, rfl, HC.out, .inl HKL.out, by have := HW.out; first | exact this | exact this.drew⟩

set_option maxHeartbeats 1000000 in
theorem Same_any (A B : Option Addr) (c d : Nat) (a b : List Tk) (w : World) (ha : TkA w A a) (hb : TkA w B b) (la : a.length ≤ 140737488355328) (lb : b.length ≤ 140737488355328) :
    Calls Tryd.prog 18 #[.slice A a.length c, .slice B b.length d] w fun e w' => e = .returned (.bool (sameB a b)) ∧ Below w.heap.size w w' := by
  have HC := Lib.hid (fun W hA hB => common_any A B c d a b W hA hB la lb)
  by_cases hl : a.length = b.length
  · have d1 : ((a.length : Int) == b.length) = true := by simp [hl]
    have HL := Lib.hid hl; clear hl
    go_enter Tryd.func18, Tryd.ntmps18
    go_wp2_with fail
    refine (HC.out _ ha hb).mono ?_
    rintro e w' ⟨k, rfl, hC, hk, hb'⟩
    have HB := Lib.hid hb'; clear hb'
    have hC' := hC
    have HCC := Lib.hid hC; clear hC
    by_cases hka : k = a.length
    · have d2 : ((k : Int) == a.length) = true := by simp [hka]
      have HK := Lib.hid hka; clear hka hk hC'
      go_wp2_with fail
      go_ret
      exact ⟨by rw [sameB_yes HL.out (by have := HCC.out; rw [HK.out] at this; exact this)]; rfl, HB.out⟩
    · have d2 : ((k : Int) == a.length) = false := by simp; omega
      have hne : sameB a b = false := by
        rcases hk with hk | hk | ⟨h1, h2, hk⟩
        · exact absurd hk hka
        · have := HL.out; omega
        · exact sameB_no_at h1 h2 hk
      have HK := Lib.hid hka; clear hka hk hC'
      go_wp2_with fail
      go_ret
      exact ⟨by rw [hne]; rfl, HB.out⟩
  · have d1 : ((a.length : Int) == b.length) = false := by simp; omega
    have HL := Lib.hid hl; clear hl
    go_enter Tryd.func18, Tryd.ntmps18
    go_wp2_with fail
    go_ret
    exact ⟨by rw [sameB_no_len HL.out]; rfl, Below.refl _ _⟩

set_option maxHeartbeats 4000000 in
theorem refSame_any (A B : Option Addr) (c d : Nat) (a b : List Tk) (w : World) (ha : TkA w A a) (hb : TkA w B b) (la : a.length ≤ 140737488355328) (lb : b.length ≤ 140737488355328) :
    Calls Tryd.prog 26 #[.slice A a.length c, .slice B b.length d] w fun e w' => e = .returned (.bool (sameB a b)) ∧ Below w.heap.size w w' := by
  by_cases hl : a.length = b.length
  · have d1 : ((a.length : Int) != b.length) = false := by simp [hl]
    have d1' : ((a.length : Int) == b.length) = true := by simp [hl]
    have HL := Lib.hid hl; clear hl
    go_enter Tryd.func26, Tryd.ntmps26
    go_wp2_with fail
    go_loopw [5] (fun i wr => ∃ k : Nat, i = .int .i64 k ∧ Cmn a b k ∧ Below w.heap.size w wr) (fun i _ => a.length - (intOf i).toNat)
    case atStart => exact ⟨0, rfl, Cmn.zero a b, Below.refl _ _⟩
    case round =>
      obtain ⟨k, rfl, hC, hW⟩ := hrel
      have HW := Lib.hid hW; clear hW
      have HC := Lib.hid hC; clear hC
      by_cases h1 : k < a.length
      · have h2 : k < b.length := by have := HL.out; omega
        obtain ⟨g, o1, rfl, hA⟩ := ha (tk_ne h1)
        obtain ⟨h, o2, rfl, hB⟩ := hb (tk_ne h2)
        obtain ⟨c0, c1, c2⟩ := (hA.below HW.out hA.1).2 k h1
        obtain ⟨e0, e1, e2⟩ := (hB.below HW.out hB.1).2 k h2
        have HN := Lib.hid (fun e => HC.out.succ h1 h2 e)
        have HE := Lib.hid (fun e => sameB_no_at (a := a) (b := b) h1 h2 e)
        obtain ⟨X, hX⟩ : ∃ X, X = a[k] := ⟨_, rfl⟩
        obtain ⟨Z, hZ⟩ : ∃ Z, Z = b[k] := ⟨_, rfl⟩
        rw [← hX] at c0 c1 c2
        rw [← hZ] at e0 e1 e2
        have HX := Lib.hid hX; have HZ := Lib.hid hZ; clear hX hZ
        obtain ⟨x0, x1, x2⟩ := X
        obtain ⟨z0, z1, z2⟩ := Z
        simp only [TkAt] at c0 c1 c2 e0 e1 e2
        have i1 : (0 : Int) ≤ (k : Int) := by omega
        have i2 : (k : Int) < a.length := by omega
        have i3 : (k : Int) < b.length := by omega
        obtain ⟨Y, hY⟩ : ∃ Y, Y = wr := ⟨_, rfl⟩
        rw [← hY] at HW c0 c1 c2 e0 e1 e2 ⊢
        clear hY
        by_cases q1 : x0 = z0
        · have d2 : (x0 == z0) = true := by simpa using q1
          have d2' : (x0 != z0) = false := by simpa using q1
          have Q1 := Lib.hid q1; clear q1
          cases q2 : (x2.toList == z2.toList)
          · have q2' : (x2.toList != z2.toList) = true := by simpa [bne] using q2
            go_wp2_with fail
            first | go_region | skip
            go_wp2_with fail
            (try rw [Exit.noGoto_ret])
            go_ret
            exact ⟨by rw [HE.out (by rw [← HX.out, ← HZ.out]; simp [tsame, q2])]; rfl, by have := HW.out; first | exact this | exact this.drew⟩
          · have q2' : (x2.toList != z2.toList) = false := by simpa [bne] using q2
            go_wp2_with fail
            first | go_region | skip
            go_wp2_with fail
            go_roundw
            case rel => exact ⟨k + 1, by go_num, HN.out (by rw [← HX.out, ← HZ.out]; simp [tsame, q2, Q1.out]), by have := HW.out; first | exact this | exact this.drew⟩
            case measure => simp [intOf]; omega
        · have d2 : (x0 == z0) = false := by simpa using q1
          have d2' : (x0 != z0) = true := by simpa using q1
          have Q1 := Lib.hid q1; clear q1
          go_wp2_with fail
          first | go_region | skip
          go_wp2_with fail
          (try rw [Exit.noGoto_ret])
          go_ret
          exact ⟨by rw [HE.out (by rw [← HX.out, ← HZ.out]; simp [tsame, Q1.out])]; rfl, by have := HW.out; first | exact this | exact this.drew⟩
      · have hkl : k = a.length := by have := HC.out.1; omega
        have HK := Lib.hid hkl; clear hkl
        go_wp2_with fail
        go_ret
        exact ⟨by rw [sameB_yes HL.out (by have := HC.out; rw [HK.out] at this; exact this)]; rfl, HW.out⟩
  · have d1 : ((a.length : Int) != b.length) = true := by simp; omega
    have d1' : ((a.length : Int) == b.length) = false := by simp; omega
    have HL := Lib.hid hl; clear hl
    go_enter Tryd.func26, Tryd.ntmps26
    go_wp2_with fail
    go_ret
    exact ⟨by rw [sameB_no_len HL.out]; rfl, Below.refl _ _⟩
end Go.Proofs.YthagfammfejenaaDoor
