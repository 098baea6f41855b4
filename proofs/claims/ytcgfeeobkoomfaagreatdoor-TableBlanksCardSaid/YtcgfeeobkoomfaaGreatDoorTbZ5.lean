/- Blanks and Blank of the reference. -/
import Derived.Test.YtcgfeeobkoomfaaGreatDoorTbZ4
namespace Go.Proofs.YtcgfeeobkoomfaaGreatDoor
open Go.RowKit
set_option linter.unusedVariables false
set_option linter.unusedSimpArgs false
set_option maxRecDepth 40000
set_option maxHeartbeats 8000000 in
theorem refBlanks_any (A : Option Addr) (c : Nat) (l : List F4) (w : World) (hl : l.length ≤ 200000) (h : FdA w A l) :
    Calls Tryz.prog 77 #[.slice A l.length c] w fun e w' => ∃ v, e = .returned (.agg #[.bool false, v]) ∧ OwnV w' w.heap.size v (blanksL l) ∧ Below w.heap.size w w' := by
  have hb0 : Below w.heap.size w ((w.alloc (.cells #[.bool false, .slice none 0 0] 59)).alloc (.cells #[.bool false, .slice none 0 0] 59)) := ((Below.refl _ _).alloc (Nat.le_refl _) _).alloc (by simp) _
  have HB1 := Lib.hid hb0; clear hb0
  have HA := Lib.hid h; clear h
  have r0 : ((w.alloc (.cells #[.bool false, .slice none 0 0] 59)).alloc (.cells #[.bool false, .slice none 0 0] 59)).cell? ⟨w.heap.size, 0, none⟩ = some (.bool false) := by simp [go_sem]
  have r1 : ((w.alloc (.cells #[.bool false, .slice none 0 0] 59)).alloc (.cells #[.bool false, .slice none 0 0] 59)).cell? ⟨w.heap.size, 1, none⟩ = some (.slice none 0 0) := by simp [go_sem]
  have f0 : ((w.alloc (.cells #[.bool false, .slice none 0 0] 59)).alloc (.cells #[.bool false, .slice none 0 0] 59)).frozen? ⟨w.heap.size, 0, none⟩ = false := by simp [go_sem]
  have f1 : ((w.alloc (.cells #[.bool false, .slice none 0 0] 59)).alloc (.cells #[.bool false, .slice none 0 0] 59)).frozen? ⟨w.heap.size, 1, none⟩ = false := by simp [go_sem]
  have n0 : ((w.alloc (.cells #[.bool false, .slice none 0 0] 59)).alloc (.cells #[.bool false, .slice none 0 0] 59)).cell? ⟨w.heap.size + 1, 0, none⟩ = some (.bool false) := by simp [go_sem]
  have n1 : ((w.alloc (.cells #[.bool false, .slice none 0 0] 59)).alloc (.cells #[.bool false, .slice none 0 0] 59)).cell? ⟨w.heap.size + 1, 1, none⟩ = some (.slice none 0 0) := by simp [go_sem]
  have n2 : ((w.alloc (.cells #[.bool false, .slice none 0 0] 59)).alloc (.cells #[.bool false, .slice none 0 0] 59)).frozen? ⟨w.heap.size + 1, 1, none⟩ = false := by simp [go_sem]
  have hz0 : ((w.alloc (.cells #[.bool false, .slice none 0 0] 59)).alloc (.cells #[.bool false, .slice none 0 0] 59)).heap.size = w.heap.size + 2 := by simp
  go_enter Tryz.func77, Tryz.ntmps77
  go_wp2_with fail
  generalize ((w.alloc (.cells #[.bool false, .slice none 0 0] 59)).alloc (.cells #[.bool false, .slice none 0 0] 59)) = w1 at *
  go_loopw [4] (fun i wr => ∃ k : Nat, k ≤ l.length ∧ i = .int .i64 k ∧ ∃ v, wr.cell? ⟨w.heap.size + 1, 0, none⟩ = some (.bool false) ∧ wr.cell? ⟨w.heap.size + 1, 1, none⟩ = some v ∧ wr.frozen? ⟨w.heap.size + 1, 1, none⟩ = false ∧ OwnV wr (w.heap.size + 2) v (blanksL (l.take k)) ∧ Below (w.heap.size + 1) w1 wr ∧ w.heap.size + 1 < wr.heap.size) (fun i _ => l.length - (intOf i).toNat)
  case atStart => exact ⟨0, by omega, rfl, _, n0, n1, n2, OwnV.nil _ _, Below.refl _ _, by omega⟩
  case round =>
    obtain ⟨k, hk, rfl, v, b0, b1, b2, ho, hb, hsz⟩ := hrel
    have HB := Lib.hid hb; clear hb
    have HO := Lib.hid ho; clear ho
    clear n0 n1 n2
    by_cases hlt : k < l.length
    · obtain ⟨b, off, rfl, hf0⟩ := HA.out (ne_of_lt hlt)
      have hf := (hf0.below HB1.out hf0.1).below HB.out (by have := hf0.1; omega)
      have hbr := hf.1
      obtain ⟨c0, c1, c2, c3⟩ := hf.2 k hlt
      have HSt := Lib.hid (blanks_step hlt)
      have hlen : (blanksL (l.take k)).length ≤ 1000000 := by unfold blanksL; rw [List.length_map, List.length_take]; omega
      generalize l[k] = f at *
      obtain ⟨nm, fk, wd, nu⟩ := f
      simp only at HSt c0 c1 c2 c3
      have CB := Lib.hid (fun W => Empty_any nm fk wd nu W)
      generalize kofN fk = kk at *
      have HLn := Lib.hid hlen
      clear hlen hf hf0
      have HB7 := Lib.hid (HB.out.drew)
      have HOz : Hid (OwnV wr.drew (w.heap.size + 2) v (blanksL (l.take k))) := Lib.hid (HO.out.below (Below.refl wr.heap.size wr).drew (Nat.le_refl _))
      have hz0' := Lib.hid hz0
      clear hz0
      go_wp2_with fail
      go_region_law (first
        | (go_simp; go_at_call 81; refine (CB.out _).mono ?_; rintro _ z1 ⟨rfl, hz1⟩
           have hs1 : wr.heap.size ≤ z1.heap.size := hz1.size
           have p0 := (hz1.cell (p := ⟨w.heap.size + 1, 0, none⟩) hsz).trans b0
           have p1 := (hz1.cell (p := ⟨w.heap.size + 1, 1, none⟩) hsz).trans b1
           have p2 := (hz1.frozen (p := ⟨w.heap.size + 1, 1, none⟩) hsz).trans b2
           have HO1 := Lib.hid ((HOz.out.below hz1 (Nat.le_refl _)).alloc (.cells #[.int .i64 kk, .int .i64 0, .string ⟨#[]⟩] 51))
           have HV1 : Hid (VCellAt (z1.alloc (.cells #[.int .i64 kk, .int .i64 0, .string ⟨#[]⟩] 51)) z1.heap.size 0 (kk, 0, nos)) := Lib.hid ⟨by simp [go_sem], by simp [go_sem], by simp [go_sem]⟩
           have HB8 := Lib.hid ((HB7.out.trans (hz1.mono (by show w.heap.size + 1 ≤ wr.heap.size; omega))).alloc (by omega) (.cells #[.int .i64 kk, .int .i64 0, .string ⟨#[]⟩] 51))
           have hz1p : w.heap.size + 1 < z1.heap.size := by omega
           have hba : w.heap.size + 2 ≤ (z1.alloc (.cells #[.int .i64 kk, .int .i64 0, .string ⟨#[]⟩] 51)).heap.size := by simp; omega
           have HBA := Lib.hid hba
           have hbv := (Below.refl z1.heap.size z1).alloc (Nat.le_refl _) (.cells #[.int .i64 kk, .int .i64 0, .string ⟨#[]⟩] 51)
           have P0 := Lib.hid ((hbv.cell (p := ⟨w.heap.size + 1, 0, none⟩) hz1p).trans p0)
           have P1 := Lib.hid ((hbv.cell (p := ⟨w.heap.size + 1, 1, none⟩) hz1p).trans p1)
           have P2 := Lib.hid ((hbv.frozen (p := ⟨w.heap.size + 1, 1, none⟩) hz1p).trans p2)
           have hZ1 : w.heap.size + 1 < (z1.alloc (.cells #[.int .i64 kk, .int .i64 0, .string ⟨#[]⟩] 51)).heap.size := by simp; omega
           have HZ1 := Lib.hid hZ1
           clear hba hz1 hbv hZ1)
        | (refine step_val rfl (.tmp 12) (.tmp 18) rfl (w.heap.size + 2) v _ (kk, 0, nos) (by rfl) HO1.out z1.heap.size 1 (by rfl) HV1.out HLn.out HBA.out ?_; intro v2 w2 ho2 hb2 hg2
           obtain ⟨A2, cc2, rfl, _⟩ := ho2.out
           have hne : some (w.heap.size + 1) ≠ v.ownBlock := fun e => by have := HO.out.block e.symm; omega
           have R0 := hg2.cell P0.out hne
           have R1 := hg2.cell P1.out hne
           have R2 := (hg2.frozen_far ⟨w.heap.size + 1, 1, none⟩ HZ1.out hne).trans P2.out
           have HO2 := Lib.hid ho2
           have HB9 := Lib.hid (HB8.out.trans (hb2.mono (by omega)))
           have hs2 := Nat.lt_of_lt_of_le HZ1.out hb2.size
           clear ho2 hb2 hg2 hne))
      all_goals (
        go_wp2_with fail
        refine ⟨⟨k + 1, by omega, by go_num, _, (World.cell?_setCell_other _ _ _ _ (by simp)).trans R0, World.cell?_setCell_same _ _ _ R1, by rw [World.frozen?_setCell]; exact R2, ?_, HB9.out.setCell (by simp) _, by simp; exact hs2⟩, by simp [intOf]; omega⟩
        rw [HSt.out]
        have ho3 := HO2.out.set (p := ⟨w.heap.size + 1, 1, none⟩) (by simp) (.slice A2 ((blanksL (l.take k)).length + 1) cc2)
        rw [List.length_append, List.length_singleton] at ho3
        exact ho3)
    · have hkl : k = l.length := by omega
      subst hkl
      rw [List.take_length] at HO
      have s0 := (HB.out.cell (p := ⟨w.heap.size, 0, none⟩) (by simp)).trans r0
      have s1 := (HB.out.cell (p := ⟨w.heap.size, 1, none⟩) (by simp)).trans r1
      have t0 := (HB.out.frozen (p := ⟨w.heap.size, 0, none⟩) (by simp)).trans f0
      have t1 := (HB.out.frozen (p := ⟨w.heap.size, 1, none⟩) (by simp)).trans f1
      obtain ⟨A2, cc2, rfl, _⟩ := HO.out.out
      have HO2 := Lib.hid (((HO.out.set (p := ⟨w.heap.size, 0, none⟩) (by simp) (.bool false)).set (p := ⟨w.heap.size, 1, none⟩) (by simp) (.slice A2 (blanksL l).length cc2)).base (base' := w.heap.size) (by omega))
      clear HO
      have hz0' := Lib.hid hz0
      clear hz0
      generalize (blanksL l).length = n at *
      go_wp2_with fail
      exact bodyPost_ret (v := .agg #[.bool false, .slice A2 n cc2]) (by simp [results, Tryz.results77, go_sem, s0, s1]) rfl ⟨_, rfl, HO2.out, (((HB1.out.trans (HB.out.mono (by omega))).setCell (by simp) _).setCell (by simp) _)⟩
set_option maxHeartbeats 4000000 in
theorem refBlank_yes (A : Option Addr) (c : Nat) (l : List F4) (w : World) (hl : l.length ≤ 200000) (h : FdA w A l) (CV : ∀ W, Below w.heap.size w W → Calls Tryz.prog 21 #[.slice A l.length c] W fun e w' => e = .returned (.int .i64 0) ∧ Below W.heap.size W w') :
    Calls Tryz.prog 38 #[.slice A l.length c] w (RecR w (blanksL l) 0) := by
  have hb0 : Below w.heap.size w (w.alloc (.cells #[.bool false, .slice none 0 0] 59)) := (Below.refl _ _).alloc (Nat.le_refl _) _
  have HB0 := Lib.hid hb0; clear hb0
  have z0 := Lib.hid (show w.heap.size < (w.alloc (.cells #[.bool false, .slice none 0 0] 59)).heap.size by simp)
  have C := Lib.hid CV; clear CV
  have HA := Lib.hid h; clear h
  have CB := Lib.hid (fun W hW => refBlanks_any A c l W hl hW)
  go_enter Tryz.func38, Tryz.ntmps38
  go_wp2_with fail
  refine (C.out _ HB0.out).mono ?_
  rintro e w1 ⟨rfl, hb1⟩
  have r0 : w1.cell? ⟨w.heap.size, 0, none⟩ = some (.bool false) := (hb1.cell (p := ⟨w.heap.size, 0, none⟩) z0.out).trans (by simp [go_sem])
  have r1 : w1.cell? ⟨w.heap.size, 1, none⟩ = some (.slice none 0 0) := (hb1.cell (p := ⟨w.heap.size, 1, none⟩) z0.out).trans (by simp [go_sem])
  have f0 : w1.frozen? ⟨w.heap.size, 0, none⟩ = false := (hb1.frozen (p := ⟨w.heap.size, 0, none⟩) z0.out).trans (by simp [go_sem])
  have f1 : w1.frozen? ⟨w.heap.size, 1, none⟩ = false := (hb1.frozen (p := ⟨w.heap.size, 1, none⟩) z0.out).trans (by simp [go_sem])
  have hz1 : w.heap.size < w1.heap.size := Nat.lt_of_lt_of_le z0.out hb1.size
  have HB1 := Lib.hid (HB0.out.trans (hb1.mono HB0.out.size))
  clear hb1
  go_wp2_with fail
  refine (CB.out _ (HA.out.below HB1.out)).mono ?_
  rintro e w2 ⟨v, rfl, ho, hb2⟩
  have s0 := (hb2.cell (p := ⟨w.heap.size, 0, none⟩) hz1).trans r0
  have s1 := (hb2.cell (p := ⟨w.heap.size, 1, none⟩) hz1).trans r1
  have t0 := (hb2.frozen (p := ⟨w.heap.size, 0, none⟩) hz1).trans f0
  have t1 := (hb2.frozen (p := ⟨w.heap.size, 1, none⟩) hz1).trans f1
  obtain ⟨A2, cc2, rfl, _⟩ := ho.out
  have HB2 := Lib.hid (HB1.out.trans (hb2.mono HB1.out.size))
  have HO2 := Lib.hid (((ho.set (p := ⟨w.heap.size, 0, none⟩) hz1 (.bool false)).set (p := ⟨w.heap.size, 1, none⟩) hz1 (.slice A2 (blanksL l).length cc2)).base (base' := w.heap.size) (by omega))
  clear hb2 ho r0 r1 f0 f1
  generalize (blanksL l).length = n at *
  go_wp2_with fail
  exact bodyPost_ret (v := .tuple #[.agg #[.bool false, .slice A2 n cc2], .int .i64 0]) (by simp [results, Tryz.results38, go_sem, s0, s1]) rfl ⟨_, rfl, HO2.out, ((HB2.out.setCell (by simp) _).setCell (by simp) _)⟩
end Go.Proofs.YtcgfeeobkoomfaaGreatDoor
