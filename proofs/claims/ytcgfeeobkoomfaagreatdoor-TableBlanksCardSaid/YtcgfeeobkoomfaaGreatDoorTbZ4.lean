/- Blank of both. -/
import Derived.Test.YtcgfeeobkoomfaaGreatDoorTbZ3
import Derived.Deep.RegionLaw
namespace Go.Proofs.YtcgfeeobkoomfaaGreatDoor
open Go.RowKit
set_option linter.unusedVariables false
set_option linter.unusedSimpArgs false
set_option maxRecDepth 40000
def blanksL (l : List F4) : List V3 := l.map fun f => (kofN f.2.1, 0, nos)
theorem blanks_step {l : List F4} {k : Nat} (h : k < l.length) : blanksL (l.take (k + 1)) = blanksL (l.take k) ++ [(kofN l[k].2.1, 0, nos)] := by
  unfold blanksL
  rw [List.take_succ_eq_append_getElem h, List.map_append]; rfl
theorem OwnV.set {w : World} {base : Nat} {v : Value} {vs : List V3} (h : OwnV w base v vs) {p : Addr} (hp : p.block < base) (u : Value) : OwnV (w.setCell p u) base v vs := by
  refine ⟨h.1, ?_⟩
  rcases h.2 with hn | ⟨g', cap, cur, hv, hb', hh, rest⟩
  · exact .inl hn
  · exact .inr ⟨g', cap, cur, hv, hb', by rw [Below.heap_setCell _ _ _ _ (by omega)]; exact hh, rest⟩
theorem OwnV.base {w : World} {base base' : Nat} {v : Value} {vs : List V3} (h : OwnV w base v vs) (hb : base' ≤ base) : OwnV w base' v vs := by
  refine ⟨h.1, ?_⟩
  rcases h.2 with hn | ⟨g', cap, cur, hv, hb', rest⟩
  · exact .inl hn
  · exact .inr ⟨g', cap, cur, hv, Nat.le_trans hb hb', rest⟩
/-- A record that is not gone, with these values, of the call's own; and an error. -/
def RecR (w : World) (vs : List V3) (er : Int) (e : Ending) (w' : World) : Prop := ∃ v, e = .returned (.tuple #[.agg #[.bool false, v], .int .i64 er]) ∧ OwnV w' w.heap.size v vs ∧ Below w.heap.size w w'
set_option maxHeartbeats 4000000 in
theorem Blank_no (A : Option Addr) (c : Nat) (l : List F4) (w : World) (er : Int) (he : er ≠ 0) (CV : ∀ W, Below w.heap.size w W → Calls Tryz.prog 20 #[.slice A l.length c] W fun e w' => e = .returned (.int .i64 er) ∧ Below W.heap.size W w') :
    Calls Tryz.prog 37 #[.slice A l.length c] w (RecR w [] er) := by
  have hb0 : Below w.heap.size w (w.alloc (.cells #[.bool false, .slice none 0 0] 59)) := (Below.refl _ _).alloc (Nat.le_refl _) _
  have HB0 := Lib.hid hb0; clear hb0
  have z0 := Lib.hid (show w.heap.size < (w.alloc (.cells #[.bool false, .slice none 0 0] 59)).heap.size by simp)
  have C := Lib.hid CV; clear CV
  have he1 : (er != 0) = true := by simpa using he
  have he2 : (er == 0) = false := by simpa using he
  clear he
  go_enter Tryz.func37, Tryz.ntmps37
  go_wp2_with fail
  refine (C.out _ HB0.out).mono ?_
  rintro e w1 ⟨rfl, hb1⟩
  have r0 : w1.cell? ⟨w.heap.size, 0, none⟩ = some (.bool false) := (hb1.cell (p := ⟨w.heap.size, 0, none⟩) z0.out).trans (by simp [go_sem])
  have r1 : w1.cell? ⟨w.heap.size, 1, none⟩ = some (.slice none 0 0) := (hb1.cell (p := ⟨w.heap.size, 1, none⟩) z0.out).trans (by simp [go_sem])
  have f0 : w1.frozen? ⟨w.heap.size, 0, none⟩ = false := (hb1.frozen (p := ⟨w.heap.size, 0, none⟩) z0.out).trans (by simp [go_sem])
  have f1 : w1.frozen? ⟨w.heap.size, 1, none⟩ = false := (hb1.frozen (p := ⟨w.heap.size, 1, none⟩) z0.out).trans (by simp [go_sem])
  have HB1 := Lib.hid (HB0.out.trans (hb1.mono HB0.out.size))
  clear hb1
  go_wp2_with fail
  exact bodyPost_ret (v := .tuple #[.agg #[.bool false, .slice none 0 0], .int .i64 er]) (by simp [results, Tryz.results37, go_sem, r0, r1]) rfl ⟨_, rfl, OwnV.nil _ _, ((HB1.out.setCell (by simp) _).setCell (by simp) _)⟩
set_option maxHeartbeats 4000000 in
theorem refBlank_no (A : Option Addr) (c : Nat) (l : List F4) (w : World) (er : Int) (he : er ≠ 0) (CV : ∀ W, Below w.heap.size w W → Calls Tryz.prog 21 #[.slice A l.length c] W fun e w' => e = .returned (.int .i64 er) ∧ Below W.heap.size W w') :
    Calls Tryz.prog 38 #[.slice A l.length c] w (RecR w [] er) := by
  have hb0 : Below w.heap.size w (w.alloc (.cells #[.bool false, .slice none 0 0] 59)) := (Below.refl _ _).alloc (Nat.le_refl _) _
  have HB0 := Lib.hid hb0; clear hb0
  have z0 := Lib.hid (show w.heap.size < (w.alloc (.cells #[.bool false, .slice none 0 0] 59)).heap.size by simp)
  have C := Lib.hid CV; clear CV
  have he1 : (er != 0) = true := by simpa using he
  have he2 : (er == 0) = false := by simpa using he
  clear he
  go_enter Tryz.func38, Tryz.ntmps38
  go_wp2_with fail
  refine (C.out _ HB0.out).mono ?_
  rintro e w1 ⟨rfl, hb1⟩
  have r0 : w1.cell? ⟨w.heap.size, 0, none⟩ = some (.bool false) := (hb1.cell (p := ⟨w.heap.size, 0, none⟩) z0.out).trans (by simp [go_sem])
  have r1 : w1.cell? ⟨w.heap.size, 1, none⟩ = some (.slice none 0 0) := (hb1.cell (p := ⟨w.heap.size, 1, none⟩) z0.out).trans (by simp [go_sem])
  have f0 : w1.frozen? ⟨w.heap.size, 0, none⟩ = false := (hb1.frozen (p := ⟨w.heap.size, 0, none⟩) z0.out).trans (by simp [go_sem])
  have f1 : w1.frozen? ⟨w.heap.size, 1, none⟩ = false := (hb1.frozen (p := ⟨w.heap.size, 1, none⟩) z0.out).trans (by simp [go_sem])
  have HB1 := Lib.hid (HB0.out.trans (hb1.mono HB0.out.size))
  clear hb1
  go_wp2_with fail
  exact bodyPost_ret (v := .tuple #[.agg #[.bool false, .slice none 0 0], .int .i64 er]) (by simp [results, Tryz.results38, go_sem, r0, r1]) rfl ⟨_, rfl, OwnV.nil _ _, ((HB1.out.setCell (by simp) _).setCell (by simp) _)⟩
set_option maxHeartbeats 8000000 in
theorem Blank_yes (A : Option Addr) (c : Nat) (l : List F4) (w : World) (hl : l.length ≤ 200000) (h : FdA w A l) (CV : ∀ W, Below w.heap.size w W → Calls Tryz.prog 20 #[.slice A l.length c] W fun e w' => e = .returned (.int .i64 0) ∧ Below W.heap.size W w') :
    Calls Tryz.prog 37 #[.slice A l.length c] w (RecR w (blanksL l) 0) := by
  have hb0 : Below w.heap.size w (w.alloc (.cells #[.bool false, .slice none 0 0] 59)) := (Below.refl _ _).alloc (Nat.le_refl _) _
  have HB0 := Lib.hid hb0; clear hb0
  have z0 := Lib.hid (show w.heap.size < (w.alloc (.cells #[.bool false, .slice none 0 0] 59)).heap.size by simp)
  have C := Lib.hid CV; clear CV
  have HA := Lib.hid h; clear h
  go_enter Tryz.func37, Tryz.ntmps37
  go_wp2_with fail
  refine (C.out _ HB0.out).mono ?_
  rintro e w1 ⟨rfl, hb1⟩
  have r0 : w1.cell? ⟨w.heap.size, 0, none⟩ = some (.bool false) := (hb1.cell (p := ⟨w.heap.size, 0, none⟩) z0.out).trans (by simp [go_sem])
  have r1 : w1.cell? ⟨w.heap.size, 1, none⟩ = some (.slice none 0 0) := (hb1.cell (p := ⟨w.heap.size, 1, none⟩) z0.out).trans (by simp [go_sem])
  have f0 : w1.frozen? ⟨w.heap.size, 0, none⟩ = false := (hb1.frozen (p := ⟨w.heap.size, 0, none⟩) z0.out).trans (by simp [go_sem])
  have f1 : w1.frozen? ⟨w.heap.size, 1, none⟩ = false := (hb1.frozen (p := ⟨w.heap.size, 1, none⟩) z0.out).trans (by simp [go_sem])
  have hz1 : w.heap.size < w1.heap.size := Nat.lt_of_lt_of_le z0.out hb1.size
  have HB1 := Lib.hid (HB0.out.trans (hb1.mono HB0.out.size))
  clear hb1
  go_wp2_with fail
  have hbn := (Below.refl w1.heap.size w1).alloc (Nat.le_refl _) (.cells #[.bool false, .slice none 0 0] 59)
  have n0 : (w1.alloc (.cells #[.bool false, .slice none 0 0] 59)).cell? ⟨w1.heap.size, 0, none⟩ = some (.bool false) := by simp [go_sem]
  have n1 : (w1.alloc (.cells #[.bool false, .slice none 0 0] 59)).cell? ⟨w1.heap.size, 1, none⟩ = some (.slice none 0 0) := by simp [go_sem]
  have n2 : (w1.alloc (.cells #[.bool false, .slice none 0 0] 59)).frozen? ⟨w1.heap.size, 1, none⟩ = false := by simp [go_sem]
  go_loopw [16] (fun i wr => ∃ k : Nat, k ≤ l.length ∧ i = .int .i64 k ∧ ∃ v, wr.cell? ⟨w1.heap.size, 0, none⟩ = some (.bool false) ∧ wr.cell? ⟨w1.heap.size, 1, none⟩ = some v ∧ wr.frozen? ⟨w1.heap.size, 1, none⟩ = false ∧ OwnV wr (w1.heap.size + 1) v (blanksL (l.take k)) ∧ Below w1.heap.size w1 wr ∧ w1.heap.size < wr.heap.size) (fun i _ => l.length - (intOf i).toNat)
  case atStart => exact ⟨0, by omega, rfl, _, n0, n1, n2, OwnV.nil _ _, hbn, by simp⟩
  case round =>
    obtain ⟨k, hk, rfl, v, b0, b1, b2, ho, hb, hsz⟩ := hrel
    have HB := Lib.hid hb; clear hb
    have HO := Lib.hid ho; clear ho
    clear n0 n1 n2 hbn
    by_cases hlt : k < l.length
    · obtain ⟨b, off, rfl, hf0⟩ := HA.out (ne_of_lt hlt)
      have hf := hf0.below (HB1.out.trans (HB.out.mono HB1.out.size)) hf0.1
      have hbr := hf.1
      obtain ⟨c0, c1, c2, c3⟩ := hf.2 k hlt
      have HSt := Lib.hid (blanks_step hlt)
      have hlen : (blanksL (l.take k)).length ≤ 1000000 := by unfold blanksL; rw [List.length_map, List.length_take]; omega
      generalize l[k] = f at *
      obtain ⟨nm, fk, wd, nu⟩ := f
      simp only at HSt c0 c1 c2 c3
      have CB := Lib.hid (fun W => blankOf_any nm fk wd nu W)
      generalize kofN fk = kk at *
      have HLn := Lib.hid hlen
      clear hlen hf hf0
      have HB7 := Lib.hid ((HB.out.alloc (by omega) (.cells #[.string nm, .int .i64 fk, .int .i64 wd, .bool nu] 49)).drew)
      have hbz := ((Below.refl wr.heap.size wr).alloc (Nat.le_refl _) (.cells #[.string nm, .int .i64 fk, .int .i64 wd, .bool nu] 49)).drew
      have g0 := (hbz.cell (p := ⟨w1.heap.size, 0, none⟩) hsz).trans b0
      have g1 := (hbz.cell (p := ⟨w1.heap.size, 1, none⟩) hsz).trans b1
      have g2 := (hbz.frozen (p := ⟨w1.heap.size, 1, none⟩) hsz).trans b2
      have HOz := Lib.hid (HO.out.below hbz (Nat.le_refl _))
      have hsz7 : wr.heap.size + 1 ≤ (wr.alloc (.cells #[.string nm, .int .i64 fk, .int .i64 wd, .bool nu] 49)).drew.heap.size := by simp
      have HSZ7 := Lib.hid hsz7
      clear hsz7 hbz
      go_wp2_with fail
      go_region_law (first
        | (go_simp; go_at_call 76; refine (CB.out _).mono ?_; rintro _ z1 ⟨rfl, hz1⟩
           have hs1 : wr.heap.size + 1 ≤ z1.heap.size := Nat.le_trans HSZ7.out hz1.size
           have p0 := (hz1.cell (p := ⟨w1.heap.size, 0, none⟩) (by have := HSZ7.out; show w1.heap.size < _; omega)).trans g0
           have p1 := (hz1.cell (p := ⟨w1.heap.size, 1, none⟩) (by have := HSZ7.out; show w1.heap.size < _; omega)).trans g1
           have p2 := (hz1.frozen (p := ⟨w1.heap.size, 1, none⟩) (by have := HSZ7.out; show w1.heap.size < _; omega)).trans g2
           have HO1 := Lib.hid ((HOz.out.below hz1 (Nat.le_refl _)).alloc (.cells #[.int .i64 kk, .int .i64 0, .string ⟨#[]⟩] 51))
           have HV1 : Hid (VCellAt (z1.alloc (.cells #[.int .i64 kk, .int .i64 0, .string ⟨#[]⟩] 51)) z1.heap.size 0 (kk, 0, nos)) := Lib.hid ⟨by simp [go_sem], by simp [go_sem], by simp [go_sem]⟩
           have HB8 := Lib.hid ((HB7.out.trans (hz1.mono HB7.out.size)).alloc (by omega) (.cells #[.int .i64 kk, .int .i64 0, .string ⟨#[]⟩] 51))
           have hz1p : w1.heap.size < z1.heap.size := by omega
           have hba : w1.heap.size + 1 ≤ (z1.alloc (.cells #[.int .i64 kk, .int .i64 0, .string ⟨#[]⟩] 51)).heap.size := by simp; omega
           have HBA := Lib.hid hba
           have hbv := (Below.refl z1.heap.size z1).alloc (Nat.le_refl _) (.cells #[.int .i64 kk, .int .i64 0, .string ⟨#[]⟩] 51)
           have P0 := Lib.hid ((hbv.cell (p := ⟨w1.heap.size, 0, none⟩) hz1p).trans p0)
           have P1 := Lib.hid ((hbv.cell (p := ⟨w1.heap.size, 1, none⟩) hz1p).trans p1)
           have P2 := Lib.hid ((hbv.frozen (p := ⟨w1.heap.size, 1, none⟩) hz1p).trans p2)
           have hZ1 : w1.heap.size < (z1.alloc (.cells #[.int .i64 kk, .int .i64 0, .string ⟨#[]⟩] 51)).heap.size := by simp; omega
           have HZ1 := Lib.hid hZ1
           clear hba hz1 hbv hZ1)
        | (refine step_val rfl (.tmp 21) (.tmp 24) rfl (w1.heap.size + 1) v _ (kk, 0, nos) (by rfl) HO1.out z1.heap.size 1 (by rfl) HV1.out HLn.out HBA.out ?_; intro v2 w2 ho2 hb2 hg2
           obtain ⟨A2, cc2, rfl, _⟩ := ho2.out
           have hne : some w1.heap.size ≠ v.ownBlock := fun e => by have := HO.out.block e.symm; omega
           have R0 := hg2.cell P0.out hne
           have R1 := hg2.cell P1.out hne
           have R2 := (hg2.frozen_far ⟨w1.heap.size, 1, none⟩ HZ1.out hne).trans P2.out
           have HO2 := Lib.hid ho2
           have HB9 := Lib.hid (HB8.out.trans (hb2.mono (by omega)))
           have hs2 := Nat.lt_of_lt_of_le HZ1.out hb2.size
           clear ho2 hb2 hg2 hne))
      all_goals (
        go_wp2_with fail
        refine ⟨⟨k + 1, by omega, by go_num, _, (World.cell?_setCell_other _ _ _ _ (by simp)).trans R0, World.cell?_setCell_same _ _ _ R1, by rw [World.frozen?_setCell]; exact R2, ?_, HB9.out.setCell (by simp) _, by simp; exact hs2⟩, by simp [intOf]; omega⟩
        rw [HSt.out]
        have ho3 := HO2.out.set (p := ⟨w1.heap.size, 1, none⟩) (by simp) (.slice A2 ((blanksL (l.take k)).length + 1) cc2)
        rw [List.length_append, List.length_singleton] at ho3
        exact ho3)
    · have hkl : k = l.length := by omega
      subst hkl
      rw [List.take_length] at HO
      have s0 := (HB.out.cell (p := ⟨w.heap.size, 0, none⟩) hz1).trans r0
      have s1 := (HB.out.cell (p := ⟨w.heap.size, 1, none⟩) hz1).trans r1
      have t0 := (HB.out.frozen (p := ⟨w.heap.size, 0, none⟩) hz1).trans f0
      have t1 := (HB.out.frozen (p := ⟨w.heap.size, 1, none⟩) hz1).trans f1
      obtain ⟨A2, cc2, rfl, _⟩ := HO.out.out
      have HO2 := Lib.hid (((HO.out.set (p := ⟨w.heap.size, 0, none⟩) (by simp; omega) (.bool false)).set (p := ⟨w.heap.size, 1, none⟩) (by simp; omega) (.slice A2 (blanksL l).length cc2)).base (base' := w.heap.size) (by omega))
      clear HO
      generalize (blanksL l).length = n at *
      go_wp2_with fail
      exact bodyPost_ret (v := .tuple #[.agg #[.bool false, .slice A2 n cc2], .int .i64 0]) (by simp [results, Tryz.results37, go_sem, s0, s1]) rfl ⟨_, rfl, HO2.out, (((HB1.out.trans (HB.out.mono HB1.out.size)).setCell (by simp) _).setCell (by simp) _)⟩
end Go.Proofs.YtcgfeeobkoomfaaGreatDoor
