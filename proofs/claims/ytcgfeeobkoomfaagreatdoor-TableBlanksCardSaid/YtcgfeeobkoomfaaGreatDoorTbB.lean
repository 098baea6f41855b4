/- Names and fields of both, the reference. -/
import Derived.Test.YtcgfeeobkoomfaaGreatDoorTbA
namespace Go.Proofs.YtcgfeeobkoomfaaGreatDoor
open Go.RowKit
set_option linter.unusedVariables false
set_option linter.unusedSimpArgs false
set_option maxRecDepth 40000

theorem digit_yes (b : Nat) (w : World) (h : 48 ≤ b ∧ b ≤ 57) : Calls Tryz.prog 120 #[.int .u8 b] w fun e w' => e = .returned (.bool true) ∧ w = w' := by
  obtain ⟨h1, h2⟩ := h
  have h3 : decide ((b : Int) ≤ 57) = true := by simp; omega
  go_enter Tryz.func120, Tryz.ntmps120
  go_wp2_with fail
  go_ret
  exact ⟨rfl, rfl⟩
theorem digit_no (b : Nat) (w : World) (h : ¬ (48 ≤ b ∧ b ≤ 57)) : Calls Tryz.prog 120 #[.int .u8 b] w fun e w' => e = .returned (.bool false) ∧ w = w' := by
  by_cases h1 : 48 ≤ b
  · have h2 : decide ((b : Int) ≤ 57) = false := by simp; omega
    clear h
    go_enter Tryz.func120, Tryz.ntmps120
    go_wp2_with fail
    go_ret
    exact ⟨rfl, rfl⟩
  · have h2 : decide (48 ≤ (b : Int)) = false := by simp; omega
    clear h
    go_enter Tryz.func120, Tryz.ntmps120
    go_wp2_with fail
    go_ret
    exact ⟨rfl, rfl⟩
set_option maxHeartbeats 4000000 in
theorem refIsName_any (s : ByteArray) (w : World) (hs : s.size ≤ maxLen) : Calls Tryz.prog 89 #[.string s] w (NmP s w) := by
  unfold maxLen at hs
  by_cases h0 : s.size = 0
  · have hn := Lib.hid (name_short (s := s) (by omega))
    have h1 : decide ((s.size : Int) < 1) = true := by simp; omega
    clear h0
    go_enter Tryz.func89, Tryz.ntmps89
    go_wp2_with fail
    go_ret
    exact ⟨by rw [hn.out]; rfl, rfl⟩
  · have h1 : decide ((s.size : Int) < 1) = false := by simp; omega
    by_cases h2 : s.size ≤ 10
    · have HY := Lib.hid (name_yes (s := s) (by omega) h2)
      have HN := Lib.hid (fun k => name_no (s := s) k)
      have h3 : decide (10 < (s.size : Int)) = false := by simp; omega
      go_enter Tryz.func89, Tryz.ntmps89
      go_wp2_with fail
      go_loop [3] (fun i => ∃ k : Nat, k ≤ s.size ∧ i = .int .i64 k ∧ Upto s k) (fun i => s.size - (intOf i).toNat)
      case atStart => exact ⟨0, by omega, rfl, fun j _ h => absurd h (Nat.not_lt_zero _)⟩
      case round =>
        obtain ⟨k, hk, rfl, hu⟩ := hrel
        by_cases hlt : k < s.size
        · have HN1 := Lib.hid (HN.out k hlt)
          have HS := Lib.hid (upto_step hlt hu)
          clear hu HN HY
          obtain ⟨b, hb⟩ : ∃ b, s[k].toNat = b := ⟨_, rfl⟩
          rw [hb] at HN1 HS
          by_cases q1 : 65 ≤ b
          · by_cases q2 : b ≤ 90
            · have HR := Lib.hid (HS.out (.inl ⟨q1, q2⟩))
              clear HS HN1
              go_wp2_with fail
              all_goals
                go_round
                case rel => exact ⟨k + 1, by omega, by go_num, HR.out⟩
                case measure => simp [intOf]; omega
            · have f1 : decide ((b : Int) ≤ 90) = false := by simp; omega
              by_cases z : k = 0
              · subst z
                have HR := Lib.hid (HN1.out (by unfold okAt; omega))
                clear HS HN1
                go_wp2_with (go_at_call 120; refine (DG.out _).mono ?_; rintro e w' ⟨rfl, rfl⟩)
                all_goals
                  (try rw [Exit.noGoto_ret])
                  go_ret
                  exact ⟨by rw [HR.out]; rfl, rfl⟩
              · have z' : ((k : Int) == 0) = false := by simp; omega
                by_cases d3 : b = 95
                · have d4 : ((b : Int) != 95) = false := by simp; omega
                  have HR := Lib.hid (HS.out (.inr ⟨z, .inr d3⟩))
                  clear HS HN1 d3
                  go_wp2_with (go_at_call 120; refine (DG.out _).mono ?_; rintro e w' ⟨rfl, rfl⟩)
                  all_goals
                    go_round
                    case rel => exact ⟨k + 1, by omega, by go_num, HR.out⟩
                    case measure => simp [intOf]; omega
                · have d4 : ((b : Int) != 95) = true := by simp; omega
                  by_cases d1 : 48 ≤ b ∧ b ≤ 57
                  · have DG := Lib.hid (fun W => digit_yes b W d1)
                    have HR := Lib.hid (HS.out (.inr ⟨z, .inl d1⟩))
                    clear HS HN1
                    go_wp2_with (go_at_call 120; refine (DG.out _).mono ?_; rintro e w' ⟨rfl, rfl⟩)
                    all_goals
                      go_round
                      case rel => exact ⟨k + 1, by omega, by go_num, HR.out⟩
                      case measure => simp [intOf]; omega
                  · have DG := Lib.hid (fun W => digit_no b W d1)
                    have HR := Lib.hid (HN1.out (by unfold okAt; omega))
                    clear HS HN1
                    go_wp2_with (go_at_call 120; refine (DG.out _).mono ?_; rintro e w' ⟨rfl, rfl⟩)
                    all_goals
                      (try rw [Exit.noGoto_ret])
                      go_ret
                      exact ⟨by rw [HR.out]; rfl, rfl⟩
          · have f1 : decide (65 ≤ (b : Int)) = false := by simp; omega
            by_cases z : k = 0
            · subst z
              have HR := Lib.hid (HN1.out (by unfold okAt; omega))
              clear HS HN1
              go_wp2_with (go_at_call 120; refine (DG.out _).mono ?_; rintro e w' ⟨rfl, rfl⟩)
              all_goals
                (try rw [Exit.noGoto_ret])
                go_ret
                exact ⟨by rw [HR.out]; rfl, rfl⟩
            · have z' : ((k : Int) == 0) = false := by simp; omega
              by_cases d3 : b = 95
              · have d4 : ((b : Int) != 95) = false := by simp; omega
                have HR := Lib.hid (HS.out (.inr ⟨z, .inr d3⟩))
                clear HS HN1 d3
                go_wp2_with (go_at_call 120; refine (DG.out _).mono ?_; rintro e w' ⟨rfl, rfl⟩)
                all_goals
                  go_round
                  case rel => exact ⟨k + 1, by omega, by go_num, HR.out⟩
                  case measure => simp [intOf]; omega
              · have d4 : ((b : Int) != 95) = true := by simp; omega
                by_cases d1 : 48 ≤ b ∧ b ≤ 57
                · have DG := Lib.hid (fun W => digit_yes b W d1)
                  have HR := Lib.hid (HS.out (.inr ⟨z, .inl d1⟩))
                  clear HS HN1
                  go_wp2_with (go_at_call 120; refine (DG.out _).mono ?_; rintro e w' ⟨rfl, rfl⟩)
                  all_goals
                    go_round
                    case rel => exact ⟨k + 1, by omega, by go_num, HR.out⟩
                    case measure => simp [intOf]; omega
                · have DG := Lib.hid (fun W => digit_no b W d1)
                  have HR := Lib.hid (HN1.out (by unfold okAt; omega))
                  clear HS HN1
                  go_wp2_with (go_at_call 120; refine (DG.out _).mono ?_; rintro e w' ⟨rfl, rfl⟩)
                  all_goals
                    (try rw [Exit.noGoto_ret])
                    go_ret
                    exact ⟨by rw [HR.out]; rfl, rfl⟩
        · obtain rfl : k = s.size := by omega
          have hr := Lib.hid (HY.out (fun j hj => hu j hj hj))
          go_wp2_with fail
          go_ret
          exact ⟨by rw [hr.out]; rfl, rfl⟩
    · have hn := Lib.hid (name_short (s := s) (by omega))
      have h3 : (10 : Int) < s.size := by omega
      clear h2
      go_enter Tryz.func89, Tryz.ntmps89
      go_wp2_with fail
      go_ret
      exact ⟨by rw [hn.out]; rfl, rfl⟩

/-- A field's values. -/
abbrev fv (nm : ByteArray) (k wd : Int) (nu : Bool) : Value := .agg #[.string nm, .int .i64 k, .int .i64 wd, .bool nu]
def wdB (k wd : Int) : Bool := if k = 1 then wd == 1 else if k = 2 then decide (1 ≤ wd) && decide (wd ≤ 15) else if k = 4 then decide (1 ≤ wd) && decide (wd ≤ 254) else if k = 3 ∨ k = 5 then wd == 8 else false
def fldB (nm : ByteArray) (k wd : Int) : Bool := nameB nm && wdB k wd
def FldP (nm : ByteArray) (k wd : Int) (w : World) (e : Ending) (w' : World) : Prop := e = .returned (.bool (fldB nm k wd)) ∧ Below w.heap.size w w'

set_option maxHeartbeats 4000000 in
theorem isField_any (nm : ByteArray) (k wd : Int) (nu : Bool) (w : World) (hs : nm.size ≤ maxLen) : Calls Tryz.prog 55 #[fv nm k wd nu] w (FldP nm k wd w) := by
  have C := Lib.hid (fun W => isName_any nm W hs)
  unfold NmP at C
  cases hn : nameB nm
  · have hv : fldB nm k wd = false := by unfold fldB; rw [hn]; rfl
    have hv' := Lib.hid hv
    rw [hn] at C
    clear hn hv
    go_enter Tryz.func55, Tryz.ntmps55
    go_wp2_with fail
    refine (C.out _).mono ?_
    rintro e w' ⟨rfl, rfl⟩
    go_wp2_with fail
    go_ret
    exact ⟨by rw [hv'.out]; rfl, (Below.refl _ _).alloc (Nat.le_refl _) _⟩
  · have hv : fldB nm k wd = wdB k wd := by unfold fldB; rw [hn]; rfl
    have hv' := Lib.hid hv
    rw [hn] at C
    clear hn hv
    by_cases k1 : k = 1
    · subst k1
      have hw := Lib.hid (hv'.out.trans (show wdB 1 wd = (wd == 1) by unfold wdB; simp [*]))
      go_enter Tryz.func55, Tryz.ntmps55
      go_wp2_with fail
      refine (C.out _).mono ?_
      rintro e w' ⟨rfl, rfl⟩
      go_wp2_with fail
      all_goals (go_ret; exact ⟨by rw [hw.out]; first | rfl | simp [*], (Below.refl _ _).alloc (Nat.le_refl _) _⟩)
    · skip
      by_cases k2 : k = 2
      · subst k2
        have hw0 := hv'.out.trans (show wdB 2 wd = (decide (1 ≤ wd) && decide (wd ≤ 15)) by unfold wdB; simp)
        by_cases p1 : 1 ≤ wd
        · by_cases p2 : wd ≤ 15
          · have p3 : decide (wd ≤ 15) = true := by simp; omega
            have hw := Lib.hid (hw0.trans (show _ = true by simp [p1]; try omega))
            clear hw0
            go_enter Tryz.func55, Tryz.ntmps55
            go_wp2_with fail
            refine (C.out _).mono ?_
            rintro e w' ⟨rfl, rfl⟩
            go_wp2_with fail
            go_ret
            exact ⟨by rw [hw.out]; rfl, (Below.refl _ _).alloc (Nat.le_refl _) _⟩
          · have p3 : decide (wd ≤ 15) = false := by simp; omega
            have hw := Lib.hid (hw0.trans (show _ = false by simp [p1]; try omega))
            clear hw0
            go_enter Tryz.func55, Tryz.ntmps55
            go_wp2_with fail
            refine (C.out _).mono ?_
            rintro e w' ⟨rfl, rfl⟩
            go_wp2_with fail
            go_ret
            exact ⟨by rw [hw.out]; rfl, (Below.refl _ _).alloc (Nat.le_refl _) _⟩
        · have p3 : decide (1 ≤ wd) = false := by simp; omega
          have hw := Lib.hid (hw0.trans (show _ = false by simp [p1]; try omega))
          clear hw0
          go_enter Tryz.func55, Tryz.ntmps55
          go_wp2_with fail
          refine (C.out _).mono ?_
          rintro e w' ⟨rfl, rfl⟩
          go_wp2_with fail
          go_ret
          exact ⟨by rw [hw.out]; rfl, (Below.refl _ _).alloc (Nat.le_refl _) _⟩
      · skip
        by_cases k4 : k = 4
        · subst k4
          have hw0 := hv'.out.trans (show wdB 4 wd = (decide (1 ≤ wd) && decide (wd ≤ 254)) by unfold wdB; simp)
          by_cases p1 : 1 ≤ wd
          · by_cases p2 : wd ≤ 254
            · have p3 : decide (wd ≤ 254) = true := by simp; omega
              have hw := Lib.hid (hw0.trans (show _ = true by simp [p1]; try omega))
              clear hw0
              go_enter Tryz.func55, Tryz.ntmps55
              go_wp2_with fail
              refine (C.out _).mono ?_
              rintro e w' ⟨rfl, rfl⟩
              go_wp2_with fail
              go_ret
              exact ⟨by rw [hw.out]; rfl, (Below.refl _ _).alloc (Nat.le_refl _) _⟩
            · have p3 : decide (wd ≤ 254) = false := by simp; omega
              have hw := Lib.hid (hw0.trans (show _ = false by simp [p1]; try omega))
              clear hw0
              go_enter Tryz.func55, Tryz.ntmps55
              go_wp2_with fail
              refine (C.out _).mono ?_
              rintro e w' ⟨rfl, rfl⟩
              go_wp2_with fail
              go_ret
              exact ⟨by rw [hw.out]; rfl, (Below.refl _ _).alloc (Nat.le_refl _) _⟩
          · have p3 : decide (1 ≤ wd) = false := by simp; omega
            have hw := Lib.hid (hw0.trans (show _ = false by simp [p1]; try omega))
            clear hw0
            go_enter Tryz.func55, Tryz.ntmps55
            go_wp2_with fail
            refine (C.out _).mono ?_
            rintro e w' ⟨rfl, rfl⟩
            go_wp2_with fail
            go_ret
            exact ⟨by rw [hw.out]; rfl, (Below.refl _ _).alloc (Nat.le_refl _) _⟩
        · skip
          by_cases k3 : k = 3
          · subst k3
            have hw := Lib.hid (hv'.out.trans (show wdB 3 wd = (wd == 8) by unfold wdB; simp [*]))
            go_enter Tryz.func55, Tryz.ntmps55
            go_wp2_with fail
            refine (C.out _).mono ?_
            rintro e w' ⟨rfl, rfl⟩
            go_wp2_with fail
            all_goals (go_ret; exact ⟨by rw [hw.out]; first | rfl | simp [*], (Below.refl _ _).alloc (Nat.le_refl _) _⟩)
          · skip
            by_cases k5 : k = 5
            · subst k5
              have hw := Lib.hid (hv'.out.trans (show wdB 5 wd = (wd == 8) by unfold wdB; simp [*]))
              go_enter Tryz.func55, Tryz.ntmps55
              go_wp2_with fail
              refine (C.out _).mono ?_
              rintro e w' ⟨rfl, rfl⟩
              go_wp2_with fail
              all_goals (go_ret; exact ⟨by rw [hw.out]; first | rfl | simp [*], (Below.refl _ _).alloc (Nat.le_refl _) _⟩)
            · skip
              have g1 : (k == 1) = false := by simp; omega
              have g2 : (k == 2) = false := by simp; omega
              have g3 : (k == 3) = false := by simp; omega
              have g4 : (k == 4) = false := by simp; omega
              have g5 : (k == 5) = false := by simp; omega
              have hw := Lib.hid (hv'.out.trans (show wdB k wd = false by unfold wdB; simp [*]))
              go_enter Tryz.func55, Tryz.ntmps55
              go_wp2_with fail
              refine (C.out _).mono ?_
              rintro e w' ⟨rfl, rfl⟩
              go_wp2_with fail
              all_goals (go_ret; exact ⟨by rw [hw.out]; first | rfl | simp [*], (Below.refl _ _).alloc (Nat.le_refl _) _⟩)

set_option maxHeartbeats 4000000 in
theorem refIsField_any (nm : ByteArray) (k wd : Int) (nu : Bool) (w : World) (hs : nm.size ≤ maxLen) : Calls Tryz.prog 57 #[fv nm k wd nu] w (FldP nm k wd w) := by
  have C := Lib.hid (fun W => refIsName_any nm W hs)
  unfold NmP at C
  cases hn : nameB nm
  · have hv : fldB nm k wd = false := by unfold fldB; rw [hn]; rfl
    have hv' := Lib.hid hv
    rw [hn] at C
    clear hn hv
    go_enter Tryz.func57, Tryz.ntmps57
    go_wp2_with fail
    refine (C.out _).mono ?_
    rintro e w' ⟨rfl, rfl⟩
    go_wp2_with fail
    go_ret
    exact ⟨by rw [hv'.out]; rfl, (Below.refl _ _).alloc (Nat.le_refl _) _⟩
  · have hv : fldB nm k wd = wdB k wd := by unfold fldB; rw [hn]; rfl
    have hv' := Lib.hid hv
    rw [hn] at C
    clear hn hv
    by_cases k1 : k = 1
    · subst k1
      have hw := Lib.hid (hv'.out.trans (show wdB 1 wd = (wd == 1) by unfold wdB; simp [*]))
      go_enter Tryz.func57, Tryz.ntmps57
      go_wp2_with fail
      refine (C.out _).mono ?_
      rintro e w' ⟨rfl, rfl⟩
      go_wp2_with fail
      all_goals (go_ret; exact ⟨by rw [hw.out]; first | rfl | simp [*], (Below.refl _ _).alloc (Nat.le_refl _) _⟩)
    · skip
      by_cases k2 : k = 2
      · subst k2
        have hw0 := hv'.out.trans (show wdB 2 wd = (decide (1 ≤ wd) && decide (wd ≤ 15)) by unfold wdB; simp)
        by_cases p1 : 1 ≤ wd
        · by_cases p2 : wd ≤ 15
          · have p3 : decide (wd ≤ 15) = true := by simp; omega
            have hw := Lib.hid (hw0.trans (show _ = true by simp [p1]; try omega))
            clear hw0
            go_enter Tryz.func57, Tryz.ntmps57
            go_wp2_with fail
            refine (C.out _).mono ?_
            rintro e w' ⟨rfl, rfl⟩
            go_wp2_with fail
            go_ret
            exact ⟨by rw [hw.out]; rfl, (Below.refl _ _).alloc (Nat.le_refl _) _⟩
          · have p3 : decide (wd ≤ 15) = false := by simp; omega
            have hw := Lib.hid (hw0.trans (show _ = false by simp [p1]; try omega))
            clear hw0
            go_enter Tryz.func57, Tryz.ntmps57
            go_wp2_with fail
            refine (C.out _).mono ?_
            rintro e w' ⟨rfl, rfl⟩
            go_wp2_with fail
            go_ret
            exact ⟨by rw [hw.out]; rfl, (Below.refl _ _).alloc (Nat.le_refl _) _⟩
        · have p3 : decide (1 ≤ wd) = false := by simp; omega
          have hw := Lib.hid (hw0.trans (show _ = false by simp [p1]; try omega))
          clear hw0
          go_enter Tryz.func57, Tryz.ntmps57
          go_wp2_with fail
          refine (C.out _).mono ?_
          rintro e w' ⟨rfl, rfl⟩
          go_wp2_with fail
          go_ret
          exact ⟨by rw [hw.out]; rfl, (Below.refl _ _).alloc (Nat.le_refl _) _⟩
      · skip
        by_cases k4 : k = 4
        · subst k4
          have hw0 := hv'.out.trans (show wdB 4 wd = (decide (1 ≤ wd) && decide (wd ≤ 254)) by unfold wdB; simp)
          by_cases p1 : 1 ≤ wd
          · by_cases p2 : wd ≤ 254
            · have p3 : decide (wd ≤ 254) = true := by simp; omega
              have hw := Lib.hid (hw0.trans (show _ = true by simp [p1]; try omega))
              clear hw0
              go_enter Tryz.func57, Tryz.ntmps57
              go_wp2_with fail
              refine (C.out _).mono ?_
              rintro e w' ⟨rfl, rfl⟩
              go_wp2_with fail
              go_ret
              exact ⟨by rw [hw.out]; rfl, (Below.refl _ _).alloc (Nat.le_refl _) _⟩
            · have p3 : decide (wd ≤ 254) = false := by simp; omega
              have hw := Lib.hid (hw0.trans (show _ = false by simp [p1]; try omega))
              clear hw0
              go_enter Tryz.func57, Tryz.ntmps57
              go_wp2_with fail
              refine (C.out _).mono ?_
              rintro e w' ⟨rfl, rfl⟩
              go_wp2_with fail
              go_ret
              exact ⟨by rw [hw.out]; rfl, (Below.refl _ _).alloc (Nat.le_refl _) _⟩
          · have p3 : decide (1 ≤ wd) = false := by simp; omega
            have hw := Lib.hid (hw0.trans (show _ = false by simp [p1]; try omega))
            clear hw0
            go_enter Tryz.func57, Tryz.ntmps57
            go_wp2_with fail
            refine (C.out _).mono ?_
            rintro e w' ⟨rfl, rfl⟩
            go_wp2_with fail
            go_ret
            exact ⟨by rw [hw.out]; rfl, (Below.refl _ _).alloc (Nat.le_refl _) _⟩
        · skip
          by_cases k3 : k = 3
          · subst k3
            have hw := Lib.hid (hv'.out.trans (show wdB 3 wd = (wd == 8) by unfold wdB; simp [*]))
            go_enter Tryz.func57, Tryz.ntmps57
            go_wp2_with fail
            refine (C.out _).mono ?_
            rintro e w' ⟨rfl, rfl⟩
            go_wp2_with fail
            all_goals (go_ret; exact ⟨by rw [hw.out]; first | rfl | simp [*], (Below.refl _ _).alloc (Nat.le_refl _) _⟩)
          · skip
            by_cases k5 : k = 5
            · subst k5
              have hw := Lib.hid (hv'.out.trans (show wdB 5 wd = (wd == 8) by unfold wdB; simp [*]))
              go_enter Tryz.func57, Tryz.ntmps57
              go_wp2_with fail
              refine (C.out _).mono ?_
              rintro e w' ⟨rfl, rfl⟩
              go_wp2_with fail
              all_goals (go_ret; exact ⟨by rw [hw.out]; first | rfl | simp [*], (Below.refl _ _).alloc (Nat.le_refl _) _⟩)
            · skip
              have g1 : (k == 1) = false := by simp; omega
              have g2 : (k == 2) = false := by simp; omega
              have g3 : (k == 3) = false := by simp; omega
              have g4 : (k == 4) = false := by simp; omega
              have g5 : (k == 5) = false := by simp; omega
              have hw := Lib.hid (hv'.out.trans (show wdB k wd = false by unfold wdB; simp [*]))
              go_enter Tryz.func57, Tryz.ntmps57
              go_wp2_with fail
              refine (C.out _).mono ?_
              rintro e w' ⟨rfl, rfl⟩
              go_wp2_with fail
              all_goals (go_ret; exact ⟨by rw [hw.out]; first | rfl | simp [*], (Below.refl _ _).alloc (Nat.le_refl _) _⟩)

theorem isPage_any (p : Int) (w : World) : Calls Tryz.prog 51 #[.int .i64 p] w fun e w' => e = .returned (.bool (decide (0 ≤ p ∧ p ≤ 2))) ∧ w = w' := by
  by_cases h1 : 0 ≤ p
  · by_cases h2 : p ≤ 2
    · have hv : decide (0 ≤ p ∧ p ≤ 2) = true := by simp [h1, h2]
      rw [hv]; clear hv
      go_enter Tryz.func51, Tryz.ntmps51
      go_wp2_with fail
      go_ret
      exact ⟨rfl, rfl⟩
    · have hv : decide (0 ≤ p ∧ p ≤ 2) = false := by simp [h1, h2]
      rw [hv]; clear hv
      go_enter Tryz.func51, Tryz.ntmps51
      go_wp2_with fail
      go_ret
      exact ⟨rfl, rfl⟩
  · have hv : decide (0 ≤ p ∧ p ≤ 2) = false := by simp [h1]
    rw [hv]; clear hv
    go_enter Tryz.func51, Tryz.ntmps51
    go_wp2_with fail
    go_ret
    exact ⟨rfl, rfl⟩

theorem refIsPage_any (p : Int) (w : World) : Calls Tryz.prog 53 #[.int .i64 p] w fun e w' => e = .returned (.bool (decide (0 ≤ p ∧ p ≤ 2))) ∧ w = w' := by
  by_cases h1 : 0 ≤ p
  · by_cases h2 : p ≤ 2
    · have hv : decide (0 ≤ p ∧ p ≤ 2) = true := by simp [h1, h2]
      rw [hv]; clear hv
      go_enter Tryz.func53, Tryz.ntmps53
      go_wp2_with fail
      go_ret
      exact ⟨rfl, rfl⟩
    · have hv : decide (0 ≤ p ∧ p ≤ 2) = false := by simp [h1, h2]
      rw [hv]; clear hv
      go_enter Tryz.func53, Tryz.ntmps53
      go_wp2_with fail
      go_ret
      exact ⟨rfl, rfl⟩
  · have hv : decide (0 ≤ p ∧ p ≤ 2) = false := by simp [h1]
    rw [hv]; clear hv
    go_enter Tryz.func53, Tryz.ntmps53
    go_wp2_with fail
    go_ret
    exact ⟨rfl, rfl⟩
end Go.Proofs.YtcgfeeobkoomfaaGreatDoor
