/- Split of the reference; two equal lists of values; the walk of KeySplits. -/
import Derived.Test.YtiddnacmopfamaaDoorKySa
namespace Go.Proofs.YtiddnacmopfamaaDoor
open Go.RowKit
set_option linter.unusedVariables false
set_option linter.unusedSimpArgs false
set_option maxRecDepth 40000

set_option maxHeartbeats 8000000 in
theorem refSplit_any (s : ByteArray) (A : Option Addr) (ds : List Bool) (cap : Nat) (w : World) (hs : s.size ≤ 200000) (hl : ds.length ≤ 100000) (hr : RdB w A ds) :
    Calls Tryd.prog 29 #[.string s, .slice A ds.length cap] w (SRes w (splF s ds [])) := by
  have HR := Lib.hid hr; clear hr
  obtain ⟨r, hrr⟩ : ∃ r, r = splF s ds [] := ⟨_, rfl⟩
  rw [← hrr]
  have HRR := Lib.hid hrr; clear hrr
  go_enter Tryd.func29, Tryd.ntmps29
  go_wp2_with fail
  go_loopw [0, 6, 7] (fun k o i wr => ∃ (j : Nat) (x : ByteArray) (acc : List V3), j ≤ ds.length ∧ k = .string x ∧ i = .int .i64 j ∧ x.size ≤ 200000 ∧ acc.length ≤ j ∧ OwnV wr w.heap.size o acc ∧ Hid (r = splF x (ds.drop j) acc) ∧ Below w.heap.size w wr) (fun _ _ i _ => ds.length - (intOf i).toNat)
  case atStart => exact ⟨0, s, [], by omega, rfl, rfl, hs, by simp, OwnV.nil _ _, HRR, Below.refl _ _⟩
  case round =>
    obtain ⟨j, x, acc, hj, rfl, rfl, hx, hacc, hown, HREL, hbel⟩ := hrel
    have HO := Lib.hid hown; clear hown
    have HB := Lib.hid hbel; clear hbel
    by_cases hlt : j < ds.length
    · obtain ⟨ad, rfl, hbad, hcl⟩ := HR.out j hlt
      have hcell := (HB.out.cell (p := ad.add j) (by rw [block_of_plus]; exact hbad)).trans hcl
      clear hcl
      cases hem : x.toList.isEmpty
      · have HT := Lib.hid (fun W => refTurned_any x (ds.getD j false) W hx)
        have hz := turnS_size (ds.getD j false) x
        have HD := Lib.hid (fun W => one_any (turnS (ds.getD j false) x) W (by omega))
        have HNO := Lib.hid (fun h => splF_no (acc := acc) hlt hem h)
        have HYES : Hid (∀ k n t m, decO (turnS (ds.getD j false) x).data.toList = some (k, n, t, m) → splF x (ds.drop j) acc = splF (x.extract m x.size) (ds.drop (j + 1)) (acc ++ [(k, n, t)]) ∧ 0 < m ∧ m ≤ x.size) := Lib.hid (fun k n t m h => ⟨splF_yes hlt hem h, by have := decO_bd h; have h2 : (turnS (ds.getD j false) x).data.toList.length = (turnS (ds.getD j false) x).size := rfl; simp only at this; omega⟩)
        clear hz
        generalize turnS (ds.getD j false) x = y at *
        generalize decO y.data.toList = od at *
        generalize ds.getD j false = d at *
        go_wp2_with fail
        refine (HT.out _).mono ?_
        rintro e w1 ⟨rfl, hb1⟩
        have HB1 := Lib.hid (HB.out.trans (hb1.mono HB.out.size))
        have HO1 := Lib.hid (HO.out.below hb1 (Nat.le_refl _)); clear hb1
        go_wp2_with fail
        refine (HD.out _).mono ?_
        rintro e w2 ⟨k, n, t, m, rfl, hb2, hcs⟩
        have HB2 := Lib.hid (HB1.out.trans (hb2.mono HB1.out.size))
        have HO2 := Lib.hid (HO1.out.below hb2 (Nat.le_refl _)); clear hb2
        rcases hcs with ⟨hm0, ho⟩ | ⟨rfl, ho⟩
        · obtain ⟨hy1, hy2, hy3⟩ := HYES.out k n t m ho
          have HY := Lib.hid hy1
          clear ho hy1
          have i1 : (0 : Int) ≤ m := by omega
          have i2 : (m : Int) ≤ x.size := by omega
          have hm2 : ((m : Int) == 0) = false := by rw [beq_eq_false_iff_ne]; omega
          have hzx := ext_size x m
          have HC : Hid (VCellAt ((w2.alloc (.cells #[.int .i64 k, .int .i64 n, .string t] 23)).alloc (.cells #[.int .i64 k, .int .i64 n, .string t] 23)) (w2.heap.size + 1) 0 (k, n, t)) := Lib.hid (by
            have h := VCell.new (w2.alloc (.cells #[.int .i64 k, .int .i64 n, .string t] 23)) k n t 23
            have e : (w2.alloc (.cells #[.int .i64 k, .int .i64 n, .string t] 23)).heap.size = w2.heap.size + 1 := by simp
            rw [e] at h
            exact ⟨h.1, h.2.1, h.2.2.1⟩)
          have HO3 := Lib.hid ((HO2.out.alloc (.cells #[.int .i64 k, .int .i64 n, .string t] 23)).alloc (.cells #[.int .i64 k, .int .i64 n, .string t] 23))
          have HB3 := Lib.hid ((HB2.out.alloc HB2.out.size (.cells #[.int .i64 k, .int .i64 n, .string t] 23)).alloc (size_alloc HB2.out.size _) (.cells #[.int .i64 k, .int .i64 n, .string t] 23))
          go_wp2_with (at_builtin; refine app_val rfl (.tmp 30) (.tmp 32) rfl w.heap.size _ _ (k, n, t) rfl HO3.out _ 1 rfl HC.out (by omega) HB3.out.size ?_; intro v4 w4 ho4 hb4 _; have HO4 := Lib.hid ho4; have HB4 := Lib.hid (HB3.out.trans hb4); clear ho4 hb4)
          go_roundw
          case rel => exact ⟨j + 1, _, _, by omega, rfl, by go_num, by omega, by simp; omega, HO4.out, Lib.hid (by rw [HREL.out, HY.out]), HB4.out⟩
          case measure => simp [intOf]; omega
        · have HE : Hid (r = ([], 11)) := Lib.hid (by rw [HREL.out]; exact HNO.out ho)
          clear ho
          go_wp2_with fail
          go_ret2
          exact ⟨.slice none 0 0, by obtain rfl := HE.out; rfl, by obtain rfl := HE.out; exact OwnV.nil _ _, HB2.out.alloc HB2.out.size _⟩
      · have HE : Hid (r = ([], 10)) := Lib.hid (by rw [HREL.out]; exact splF_nil hlt hem)
        go_wp2_with fail
        go_ret2
        exact ⟨.slice none 0 0, by obtain rfl := HE.out; rfl, by obtain rfl := HE.out; exact OwnV.nil _ _, HB.out⟩
    · have hjl : j = ds.length := by omega
      have HE : Hid (r = if x.toList.isEmpty = true then (acc, 0) else ([], 11)) := Lib.hid (by rw [HREL.out, hjl]; exact splF_end)
      clear hjl
      cases hem : x.toList.isEmpty
      · rw [hem, if_neg (by simp)] at HE
        go_wp2_with fail
        go_ret2
        exact ⟨.slice none 0 0, by obtain rfl := HE.out; rfl, by obtain rfl := HE.out; exact OwnV.nil _ _, HB.out⟩
      · rw [hem, if_pos rfl] at HE
        go_wp2_with fail
        go_ret2
        exact SRes.of HE.out HO.out HB.out

set_option maxHeartbeats 8000000 in
theorem SameValues_any (vs : List V3) (a b : Value) (B1 B2 : Nat) (w : World) (hl : vs.length ≤ 1000000) (ha : OwnV w B1 a vs) (hb : OwnV w B2 b vs) :
    Calls Tryd.prog 30 #[a, b] w fun e w' => e = .returned (.bool true) ∧ Below w.heap.size w w' := by
  obtain ⟨A, ca, rfl, hac⟩ := ha.out
  obtain ⟨C, cb, rfl, hbc⟩ := hb.out
  have HA := Lib.hid hac
  have HB := Lib.hid hbc
  clear ha hb hac hbc
  go_enter Tryd.func30, Tryd.ntmps30
  go_wp2_with fail
  go_loopw [5] (fun i wr => ∃ j : Nat, j ≤ vs.length ∧ i = .int .i64 j ∧ Below w.heap.size w wr) (fun i _ => vs.length - (intOf i).toNat)
  case atStart => exact ⟨0, by omega, rfl, Below.refl _ _⟩
  case round =>
    obtain ⟨j, hj, rfl, hbel⟩ := hrel
    have HW := Lib.hid hbel; clear hbel
    by_cases hlt : j < vs.length
    · obtain ⟨g, rfl, hg, hgl⟩ := HA.out j hlt
      obtain ⟨h, rfl, hh, hhl⟩ := HB.out j hlt
      obtain ⟨c0, c1, c2⟩ := hg.below HW.out hgl
      obtain ⟨d0, d1, d2⟩ := hh.below HW.out hhl
      clear hg hh
      generalize vs.getD j nilV = t at *
      obtain ⟨k, n, s⟩ := t
      simp only at c0 c1 c2 d0 d1 d2
      have HS := Lib.hid (fun W => Same_self k n s W)
      have i1 : (0 : Int) ≤ (j : Int) := by omega
      have i2 : (j : Int) < vs.length := by omega
      obtain ⟨Y, hY⟩ : ∃ Y, Y = wr := ⟨_, rfl⟩
      have hgy : g < Y.heap.size := by rw [hY]; have := HW.out.size; omega
      have hhy : h < Y.heap.size := by rw [hY]; have := HW.out.size; omega
      rw [← hY] at HW c0 c1 c2 d0 d1 d2 ⊢
      clear hY
      go_wp2_with fail
      have hbw := Lib.hid (Below.refl Y.heap.size Y).drew
      have hz : Y.heap.size ≤ Y.drew.heap.size := by simp
      go_region_held3 (fun x => x.cell? ⟨g, j * 3, none⟩ = some (.int .i64 k) ∧ x.cell? ⟨g, j * 3 + 1, none⟩ = some (.int .i64 n) ∧ x.cell? ⟨g, j * 3 + 2, none⟩ = some (.string s) ∧ x.cell? ⟨h, j * 3, none⟩ = some (.int .i64 k) ∧ x.cell? ⟨h, j * 3 + 1, none⟩ = some (.int .i64 n) ∧ x.cell? ⟨h, j * 3 + 2, none⟩ = some (.string s))
        (first | exact ⟨c0, c1, c2, d0, d1, d2⟩ | go_keep)
        (first
          | (go_at_call 20; (with_reducible refine (HS.out _).mono ?_); rintro e x1 ⟨rfl, hx1⟩;
             have c0 : x1.cell? ⟨g, j * 3, none⟩ = some (.int .i64 k) := (hx1.cell (p := ⟨g, j * 3, none⟩) (by simp at hz ⊢; omega)).trans c0;
             have c1 : x1.cell? ⟨g, j * 3 + 1, none⟩ = some (.int .i64 n) := (hx1.cell (p := ⟨g, j * 3 + 1, none⟩) (by simp at hz ⊢; omega)).trans c1;
             have c2 : x1.cell? ⟨g, j * 3 + 2, none⟩ = some (.string s) := (hx1.cell (p := ⟨g, j * 3 + 2, none⟩) (by simp at hz ⊢; omega)).trans c2;
             have d0 : x1.cell? ⟨h, j * 3, none⟩ = some (.int .i64 k) := (hx1.cell (p := ⟨h, j * 3, none⟩) (by simp at hz ⊢; omega)).trans d0;
             have d1 : x1.cell? ⟨h, j * 3 + 1, none⟩ = some (.int .i64 n) := (hx1.cell (p := ⟨h, j * 3 + 1, none⟩) (by simp at hz ⊢; omega)).trans d1;
             have d2 : x1.cell? ⟨h, j * 3 + 2, none⟩ = some (.string s) := (hx1.cell (p := ⟨h, j * 3 + 2, none⟩) (by simp at hz ⊢; omega)).trans d2;
             have hz' : Y.heap.size ≤ x1.heap.size := (Nat.le_trans hz hx1.size);
             have hbw := Lib.hid (hbw.out.trans (hx1.mono hz));
             clear hz;
             have hz := hz';
             clear hx1 hz')
          | fail)
      go_wp2_with fail
      go_roundw
      case rel => exact ⟨j + 1, by omega, by go_num, HW.out.trans (hbw.out.mono HW.out.size)⟩
      case measure => simp [intOf]; omega
    · have hjl : j = vs.length := by omega
      clear hjl
      go_wp2_with fail
      go_ret
      exact ⟨rfl, HW.out⟩

set_option maxHeartbeats 8000000 in
theorem keySplits_any (s : ByteArray) (A : Option Addr) (ds : List Bool) (cap : Nat) (w : World) (he : Env w) (hs : s.size ≤ 140737488355328) (hl : ds.length ≤ 140737488355328) (hr : RdB w A ds) :
    Calls Tryd.prog 7 #[.string s, .slice A ds.length cap] w fun e w' => e = .returned (.bool true) ∧ Below w.heap.size w w' := by
  have HE := Lib.hid he; clear he
  have C0 := Lib.hid (fun W h => known_any W h)
  by_cases hlt : 40000 < s.size + ds.length
  · have i1 : (40000 : Int) < (s.size : Int) + ds.length := by omega
    go_enter Tryd.func7, Tryd.ntmps7
    go_wp2_with fail
    refine (C0.out _ HE.out).mono ?_
    rintro e w4 ⟨rfl, hb4⟩
    have HB4 := Lib.hid hb4; clear hb4
    go_wp2_with fail
    go_ret
    exact ⟨rfl, HB4.out⟩
  · have i1 : ¬ (40000 : Int) < (s.size : Int) + ds.length := by omega
    have C1 := Lib.hid (Split_any s A ds cap w (by omega) (by omega) hr)
    have C2 := Lib.hid (fun W h => refSplit_any s A ds cap W (by omega) (by omega) h)
    have HRB := Lib.hid hr; clear hr
    have hlen : (splF s ds []).1.length ≤ 1000000 := by have := splF_len s ds []; simp at this; omega
    generalize splF s ds [] = r at *
    obtain ⟨vs, u⟩ := r
    go_enter Tryd.func7, Tryd.ntmps7
    go_wp2_with fail
    refine (C1.out).mono ?_
    rintro e w1 ⟨v1, rfl, ho1, hb1⟩
    have HE1 := Lib.hid (HE.out.below hb1 (Nat.le_refl _))
    have HR1 := Lib.hid (HRB.out.below hb1)
    have HB1 := Lib.hid hb1
    have HO1 := Lib.hid ho1
    clear hb1 ho1
    go_wp2_with fail
    refine (C2.out _ HR1.out).mono ?_
    rintro e w2 ⟨v2, rfl, ho2, hb2⟩
    have HE2 := Lib.hid (HE1.out.below hb2 (Nat.le_refl _))
    have HB2 := Lib.hid (HB1.out.trans (hb2.mono HB1.out.size))
    have HO12 := Lib.hid (HO1.out.below hb2 (Nat.le_refl _))
    have HO2 := Lib.hid ho2
    clear hb2 ho2
    go_wp2_with fail
    refine (SameValues_any vs v1 v2 _ _ w2 hlen HO12.out HO2.out).mono ?_
    rintro e w3 ⟨rfl, hb3⟩
    have HE3 := Lib.hid (HE2.out.below hb3 (Nat.le_refl _))
    have HB3 := Lib.hid (HB2.out.trans (hb3.mono HB2.out.size)); clear hb3
    go_wp2_with fail
    refine (C0.out _ HE3.out).mono ?_
    rintro e w4 ⟨rfl, hb4⟩
    have HB4 := Lib.hid (HB3.out.trans (hb4.mono HB3.out.size)); clear hb4
    go_wp2_with fail
    go_ret
    exact ⟨rfl, HB4.out⟩
end Go.Proofs.YtiddnacmopfamaaDoor
