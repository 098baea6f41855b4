/- The law TableBlanks. -/
import Derived.Test.YtcgfeeobkoomfaaGreatDoorTbZ6
namespace Go.Proofs.YtcgfeeobkoomfaaGreatDoor
open Go.RowKit
set_option linter.unusedVariables false
set_option linter.unusedSimpArgs false
set_option maxRecDepth 40000
theorem alln_small {l : List F4} (h : Alln l) : Small l := fun f hf => by
  have h1 := h f hf
  unfold fldB at h1
  have h2 : nameB f.1 = true := by
    cases hq : nameB f.1
    · rw [hq] at h1; simp at h1
    · rfl
  unfold nameB at h2
  simp at h2
  omega
set_option maxHeartbeats 4000000 in
theorem blanks_law (A : Option Addr) (l : List F4) (c : Nat) (s : ByteArray) (hl : l.length ≤ 140737488355328) (hs : ∀ f ∈ l, f.1.size ≤ maxLen) (hz : s.size ≤ 140737488355328) (w : World) (hA : FdA w A l) (hL : Lds w) :
    Calls Tryz.prog 9 #[.slice A l.length c, .string s] w fun e w' => e = .returned (.bool true) ∧ Below w.heap.size w w' := by
  have CK := Lib.hid (fun W hW => known_any W hW)
  have CW := Lib.hid (fun W hW => Weight_any A c l W hl hW)
  have C1 := Lib.hid (fun W hW => Index_any A c l s W hl hW)
  have C2 := Lib.hid (fun W hW => refIndex_any A c l s W hl hW)
  have HFull := Lib.hid (fun h => blank_both A c l hl h hs)
  have HL := Lib.hid hl
  have HZ := Lib.hid hz
  clear hs hz
  generalize hi : ixI l s = ii at *
  generalize hbb : ixB l s = ib at *
  clear hi hbb
  go_enter Tryz.func9, Tryz.ntmps9
  go_wp2_with fail
  refine (CW.out _ hA).mono ?_
  rintro e w1 ⟨⟨m, rfl, hm⟩, hb1⟩
  have HB1 := Lib.hid hb1
  have HM := Lib.hid hm
  have HA1 := Lib.hid (hA.below hb1)
  have HL1 := Lib.hid (hL.below hb1)
  clear hb1 hm
  cases hov : decide ((2000000 : Int) < wrap64 ((s.size : Int) + m))
  case true =>
    go_wp2_with fail
    refine (CK.out _ HL1.out).mono ?_
    rintro e w2 ⟨rfl, hb2⟩
    go_wp2_with fail
    go_ret
    exact ⟨rfl, HB1.out.trans (hb2.mono HB1.out.size)⟩
  case false =>
    have hsm : Alln l → l.length ≤ 200000 := fun h => by
      have h1 := HM.out (alln_small h)
      have h2 := HL.out
      have h3 := HZ.out
      have h4 : wrap64 ((s.size : Int) + m) = s.size + m := wrap_le (by omega) (by omega)
      rw [h4] at hov
      have h5 := of_decide_eq_false hov
      omega
    obtain ⟨er, vs, CB, CR, hlv⟩ := HFull.out hsm
    have HCB := Lib.hid CB
    have HCR := Lib.hid CR
    have HLV := Lib.hid hlv
    have he : (er == er) = true := by simp
    have he2 : (ii == ii) = true := by simp
    have he3 : (ib == ib) = true := by simp
    clear CB CR hlv hsm
    go_wp2_with fail
    refine (HCB.out _ HA1.out).mono ?_
    unfold RecR
    rintro e w2 ⟨v, rfl, ho2, hb2⟩
    obtain ⟨A1, c1, rfl, _⟩ := ho2.out
    have hba := hb2.alloc hb2.size (.cells #[.bool false, .slice A1 vs.length c1] 59)
    have HB2 := Lib.hid (HB1.out.trans (hba.mono HB1.out.size))
    have HO2 := Lib.hid (ho2.alloc (.cells #[.bool false, .slice A1 vs.length c1] 59))
    have x0 : (w2.alloc (.cells #[.bool false, .slice A1 vs.length c1] 59)).cell? ⟨w2.heap.size, 0, none⟩ = some (.bool false) := by simp [go_sem]
    have x1 : (w2.alloc (.cells #[.bool false, .slice A1 vs.length c1] 59)).cell? ⟨w2.heap.size, 1, none⟩ = some (.slice A1 vs.length c1) := by simp [go_sem]
    have hz2 : w2.heap.size < (w2.alloc (.cells #[.bool false, .slice A1 vs.length c1] 59)).heap.size := by simp
    have HZ2 := Lib.hid hz2
    have HA2 := Lib.hid (hA.below HB2.out)
    clear hba hb2 ho2 hz2
    generalize hn : vs.length = n at *
    have HN := Lib.hid hn
    clear hn
    go_wp2_with fail
    refine (HCR.out _ HA2.out).mono ?_
    rintro e w3 ⟨v3, rfl, ho3, hb3⟩
    obtain ⟨A2, c2, rfl, _⟩ := ho3.out
    have y0 := (hb3.cell (p := ⟨w2.heap.size, 0, none⟩) HZ2.out).trans x0
    have y1 := (hb3.cell (p := ⟨w2.heap.size, 1, none⟩) HZ2.out).trans x1
    have hz3 : w2.heap.size < w3.heap.size := Nat.lt_of_lt_of_le HZ2.out hb3.size
    have hba := (Below.refl w3.heap.size w3).alloc (Nat.le_refl _) (.cells #[.bool false, .slice A2 vs.length c2] 59)
    have HB3 := Lib.hid (HB2.out.trans ((hb3.mono HB2.out.size).trans (hba.mono (Nat.le_trans HB2.out.size hb3.size))))
    have HO3 := Lib.hid (ho3.alloc (.cells #[.bool false, .slice A2 vs.length c2] 59))
    have HO23 := Lib.hid ((HO2.out.below hb3 (Nat.le_refl _)).alloc (.cells #[.bool false, .slice A2 vs.length c2] 59))
    have q0 : (w3.alloc (.cells #[.bool false, .slice A2 vs.length c2] 59)).cell? ⟨w3.heap.size, 0, none⟩ = some (.bool false) := by simp [go_sem]
    have q1 : (w3.alloc (.cells #[.bool false, .slice A2 vs.length c2] 59)).cell? ⟨w3.heap.size, 1, none⟩ = some (.slice A2 vs.length c2) := by simp [go_sem]
    have p0 := (hba.cell (p := ⟨w2.heap.size, 0, none⟩) hz3).trans y0
    have p1 := (hba.cell (p := ⟨w2.heap.size, 1, none⟩) hz3).trans y1
    have hz3' : w3.heap.size < (w3.alloc (.cells #[.bool false, .slice A2 vs.length c2] 59)).heap.size := by simp
    have HZ3 := Lib.hid hz3'
    have HA3 := Lib.hid (hA.below HB3.out)
    clear hb3 ho3 hba hz3' x0 x1 y0 y1 HO2
    rw [HN.out] at q0 q1 HO3 HO23 HZ3 HA3 HB3 p0 p1 ⊢
    go_wp2_with fail
    refine (C1.out _ HA3.out).mono ?_
    rintro e w4 ⟨rfl, hb4⟩
    have r0 := (hb4.cell (p := ⟨w3.heap.size, 0, none⟩) HZ3.out).trans q0
    have r1 := (hb4.cell (p := ⟨w3.heap.size, 1, none⟩) HZ3.out).trans q1
    have u0 := (hb4.cell (p := ⟨w2.heap.size, 0, none⟩) (Nat.lt_trans hz3 HZ3.out)).trans p0
    have u1 := (hb4.cell (p := ⟨w2.heap.size, 1, none⟩) (Nat.lt_trans hz3 HZ3.out)).trans p1
    have HB4 := Lib.hid (HB3.out.trans (hb4.mono HB3.out.size))
    have HA4 := Lib.hid (hA.below HB4.out)
    have HL4 := Lib.hid (hL.below HB4.out)
    have HO4 := Lib.hid (HO3.out.below hb4 (Nat.le_refl _))
    have HO24 := Lib.hid (HO23.out.below hb4 (Nat.le_refl _))
    clear hb4 q0 q1 p0 p1 HO3 HO23 HZ3
    go_wp2_with fail
    refine (C2.out _ HA4.out).mono ?_
    rintro e w5 ⟨rfl, rfl⟩
    have CS := Lib.hid (SameRecord_any vs _ _ _ _ _ (by rw [HN.out]; exact HLV.out) HO24.out HO4.out)
    go_wp2_with fail
    refine CS.out.mono ?_
    rintro e w6 ⟨rfl, hb6⟩
    have HB6 := Lib.hid (HB4.out.trans (hb6.mono HB4.out.size))
    have HL6 := Lib.hid (hL.below HB6.out)
    clear hb6
    go_wp2_with fail
    refine (CK.out _ HL6.out).mono ?_
    rintro e w7 ⟨rfl, hb7⟩
    go_wp2_with fail
    go_ret
    exact ⟨rfl, HB6.out.trans (hb7.mono HB6.out.size)⟩
end Go.Proofs.YtcgfeeobkoomfaaGreatDoor
