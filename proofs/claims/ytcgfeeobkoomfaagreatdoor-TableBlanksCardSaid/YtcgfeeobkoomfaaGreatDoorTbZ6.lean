/- Records compared; Blank of both; the walk of TableBlanks. -/
import Derived.Test.YtcgfeeobkoomfaaGreatDoorTbZ5
import Derived.Deep.RegionHeld3
namespace Go.Proofs.YtcgfeeobkoomfaaGreatDoor
open Go.RowKit
set_option linter.unusedVariables false
set_option linter.unusedSimpArgs false
set_option maxRecDepth 40000
set_option maxHeartbeats 2000000 in
set_option maxHeartbeats 8000000 in
theorem SameValues_any (vs : List V3) (a b : Value) (B1 B2 : Nat) (w : World) (hl : vs.length ≤ 1000000) (ha : OwnV w B1 a vs) (hb : OwnV w B2 b vs) :
    Calls Tryz.prog 78 #[a, b] w fun e w' => e = .returned (.bool true) ∧ Below w.heap.size w w' := by
  obtain ⟨A, ca, rfl, hac⟩ := ha.out
  obtain ⟨C, cb, rfl, hbc⟩ := hb.out
  have HA := Lib.hid hac
  have HB := Lib.hid hbc
  clear ha hb hac hbc
  go_enter Tryz.func78, Tryz.ntmps78
  go_wp2_with fail
  go_loopw [5] (fun i wr => ∃ j : Nat, j ≤ vs.length ∧ i = .int .i64 j ∧ Below w.heap.size w wr) (fun i _ => vs.length - (intOf i).toNat)
  case atStart => exact ⟨0, by omega, rfl, Below.refl _ _⟩
  case round =>
    obtain ⟨j, hj, rfl, hbel⟩ := hrel
    have HW := Lib.hid hbel; clear hbel
    by_cases hlt : j < vs.length
    · obtain ⟨g, rfl, hg, hgl⟩ := HA.out j hlt
      obtain ⟨h, rfl, hh, hhl⟩ := HB.out j hlt
      obtain ⟨c0, c1, c2⟩ := hg.below HW.out hgl
      obtain ⟨d0, d1, d2⟩ := hh.below HW.out hhl
      clear hg hh
      generalize vs.getD j nilV = t at *
      obtain ⟨k, n, s⟩ := t
      simp only at c0 c1 c2 d0 d1 d2
      have HS := Lib.hid (fun W => Same_self k n s W)
      have i1 : (0 : Int) ≤ (j : Int) := by omega
      have i2 : (j : Int) < vs.length := by omega
      obtain ⟨Y, hY⟩ : ∃ Y, Y = wr := ⟨_, rfl⟩
      have hgy : g < Y.heap.size := by rw [hY]; have := HW.out.size; omega
      have hhy : h < Y.heap.size := by rw [hY]; have := HW.out.size; omega
      rw [← hY] at HW c0 c1 c2 d0 d1 d2 ⊢
      clear hY
      go_wp2_with fail
      have hbw := Lib.hid (Below.refl Y.heap.size Y).drew
      have hz : Y.heap.size ≤ Y.drew.heap.size := by simp
      go_region_held3 (fun x => x.cell? ⟨g, j * 3, none⟩ = some (.int .i64 k) ∧ x.cell? ⟨g, j * 3 + 1, none⟩ = some (.int .i64 n) ∧ x.cell? ⟨g, j * 3 + 2, none⟩ = some (.string s) ∧ x.cell? ⟨h, j * 3, none⟩ = some (.int .i64 k) ∧ x.cell? ⟨h, j * 3 + 1, none⟩ = some (.int .i64 n) ∧ x.cell? ⟨h, j * 3 + 2, none⟩ = some (.string s))
        (first | exact ⟨c0, c1, c2, d0, d1, d2⟩ | go_keep)
        (first
          | (go_at_call 35; (with_reducible refine (HS.out _).mono ?_); rintro e x1 ⟨rfl, hx1⟩;
             have c0 : x1.cell? ⟨g, j * 3, none⟩ = some (.int .i64 k) := (hx1.cell (p := ⟨g, j * 3, none⟩) (by simp at hz ⊢; omega)).trans c0;
             have c1 : x1.cell? ⟨g, j * 3 + 1, none⟩ = some (.int .i64 n) := (hx1.cell (p := ⟨g, j * 3 + 1, none⟩) (by simp at hz ⊢; omega)).trans c1;
             have c2 : x1.cell? ⟨g, j * 3 + 2, none⟩ = some (.string s) := (hx1.cell (p := ⟨g, j * 3 + 2, none⟩) (by simp at hz ⊢; omega)).trans c2;
             have d0 : x1.cell? ⟨h, j * 3, none⟩ = some (.int .i64 k) := (hx1.cell (p := ⟨h, j * 3, none⟩) (by simp at hz ⊢; omega)).trans d0;
             have d1 : x1.cell? ⟨h, j * 3 + 1, none⟩ = some (.int .i64 n) := (hx1.cell (p := ⟨h, j * 3 + 1, none⟩) (by simp at hz ⊢; omega)).trans d1;
             have d2 : x1.cell? ⟨h, j * 3 + 2, none⟩ = some (.string s) := (hx1.cell (p := ⟨h, j * 3 + 2, none⟩) (by simp at hz ⊢; omega)).trans d2;
             have hz' : Y.heap.size ≤ x1.heap.size := (Nat.le_trans hz hx1.size);
             have hbw := Lib.hid (hbw.out.trans (hx1.mono hz));
             clear hz;
             have hz := hz';
             clear hx1 hz')
          | fail)
      go_wp2_with fail
      go_roundw
      case rel => exact ⟨j + 1, by omega, by go_num, HW.out.trans (hbw.out.mono HW.out.size)⟩
      case measure => simp [intOf]; omega
    · have hjl : j = vs.length := by omega
      clear hjl
      go_wp2_with fail
      go_ret
      exact ⟨rfl, HW.out⟩

theorem SameRecord_any (vs : List V3) (a b : Value) (B1 B2 : Nat) (w : World) (hl : vs.length ≤ 1000000) (ha : OwnV w B1 a vs) (hb : OwnV w B2 b vs) :
    Calls Tryz.prog 41 #[.agg #[.bool false, a], .agg #[.bool false, b]] w fun e w' => e = .returned (.bool true) ∧ Below w.heap.size w w' := by
  obtain ⟨A1, c1, rfl, _⟩ := ha.out
  obtain ⟨A2, c2, rfl, _⟩ := hb.out
  have HB0 := Lib.hid (((Below.refl w.heap.size w).alloc (Nat.le_refl _) (.cells #[.bool false, .slice A1 vs.length c1] 59)).alloc (by simp) (.cells #[.bool false, .slice A2 vs.length c2] 59))
  have CS := Lib.hid (SameValues_any vs _ _ B1 B2 _ hl ((ha.alloc (.cells #[.bool false, .slice A1 vs.length c1] 59)).alloc (.cells #[.bool false, .slice A2 vs.length c2] 59)) ((hb.alloc (.cells #[.bool false, .slice A1 vs.length c1] 59)).alloc (.cells #[.bool false, .slice A2 vs.length c2] 59)))
  clear ha hb
  generalize vs.length = n at *
  go_enter Tryz.func41, Tryz.ntmps41
  go_wp2_with fail
  refine CS.out.mono ?_
  rintro e w1 ⟨rfl, hb1⟩
  go_wp2_with fail
  go_ret
  exact ⟨rfl, HB0.out.trans (hb1.mono HB0.out.size)⟩
theorem vf_nil (A : Option Addr) (c : Nat) (w : World) : Calls Tryz.prog 20 #[.slice A 0 c] w fun e w' => e = .returned (.int .i64 1) ∧ Below w.heap.size w w' := by
  go_enter Tryz.func20, Tryz.ntmps20
  go_wp2_with fail
  go_ret
  exact ⟨rfl, Below.refl _ _⟩
theorem refVf_nil (A : Option Addr) (c : Nat) (w : World) : Calls Tryz.prog 21 #[.slice A 0 c] w fun e w' => e = .returned (.int .i64 1) ∧ Below w.heap.size w w' := by
  go_enter Tryz.func21, Tryz.ntmps21
  go_wp2_with fail
  go_ret
  exact ⟨rfl, Below.refl _ _⟩
theorem blank_both (A : Option Addr) (c : Nat) (l : List F4) (hl : l.length ≤ 140737488355328) (hl2 : Alln l → l.length ≤ 200000) (hs : ∀ f ∈ l, f.1.size ≤ maxLen) :
    ∃ er vs, (∀ w, FdA w A l → Calls Tryz.prog 37 #[.slice A l.length c] w (RecR w vs er)) ∧ (∀ w, FdA w A l → Calls Tryz.prog 38 #[.slice A l.length c] w (RecR w vs er)) ∧ vs.length ≤ 1000000 := by
  by_cases hn : l = []
  · subst hn
    exact ⟨1, [], fun w _ => Blank_no A c [] w 1 (by decide) (fun W _ => vf_nil A c W), fun w _ => refBlank_no A c [] w 1 (by decide) (fun W _ => refVf_nil A c W), by simp⟩
  · have P1 : ∀ w, FdA w A l → ∀ W, Below w.heap.size w W → Calls Tryz.prog 20 #[.slice A l.length c] W fun e w' => e = .returned (.int .i64 (flE l)) ∧ Below W.heap.size W w' := fun w h W hb => by
      obtain ⟨b, off, rfl, hf⟩ := (h.below hb) hn
      exact ValidateFields_wide b off c l W hn hl hl2 hs hf
    have P2 : ∀ w, FdA w A l → ∀ W, Below w.heap.size w W → Calls Tryz.prog 21 #[.slice A l.length c] W fun e w' => e = .returned (.int .i64 (flE l)) ∧ Below W.heap.size W w' := fun w h W hb =>
      refValidateFields_any A c l W hn hl hl2 hs (h.below hb)
    by_cases h0 : flE l = 0
    · have ha : Alln l := fun f hf => by
        cases hc : fldB f.1 f.2.1 f.2.2.1
        · obtain ⟨k, hk, rfl⟩ := List.getElem_of_mem hf
          have := flE_no hk hc
          omega
        · rfl
      rw [h0] at P1 P2
      exact ⟨0, blanksL l, fun w h => Blank_yes A c l w (hl2 ha) h (P1 w h), fun w h => refBlank_yes A c l w (hl2 ha) h (P2 w h), by unfold blanksL; rw [List.length_map]; have := hl2 ha; omega⟩
    · exact ⟨flE l, [], fun w h => Blank_no A c l w _ h0 (P1 w h), fun w h => refBlank_no A c l w _ h0 (P2 w h), by simp⟩
end Go.Proofs.YtcgfeeobkoomfaaGreatDoor
