/- Fit of both: one answer for both; what was made to fit fits. -/
import Derived.Test.YtcgfeeobkoomfaaGreatDoorTbH
namespace Go.Proofs.YtcgfeeobkoomfaaGreatDoor
open Go.RowKit
set_option linter.unusedVariables false
set_option linter.unusedSimpArgs false
set_option maxRecDepth 40000

structure FitIs (nm : ByteArray) (fk wd : Int) (nu : Bool) (p k n : Int) (s : ByteArray) (k' n' : Int) (s' : ByteArray) (er : Int) : Prop where
  prog : ∀ w, Lds w → Calls Tryz.prog 33 #[fv nm fk wd nu, .int .i64 p, vv k n s] w (FitR k' n' s' er w)
  ref : ∀ w, Calls Tryz.prog 34 #[fv nm fk wd nu, .int .i64 p, vv k n s] w (FitR k' n' s' er w)
def FitB (nm : ByteArray) (fk wd : Int) (nu : Bool) (p k n : Int) (s : ByteArray) : Prop :=
  ∃ k' n' s' er, FitIs nm fk wd nu p k n s k' n' s' er ∧ s'.size ≤ maxLen ∧ (er = 0 → FitIs nm fk wd nu p k' n' s' k' n' s' 0)
theorem FitB.same {nm : ByteArray} {fk wd : Int} {nu : Bool} {p k n : Int} {s : ByteArray} (hz : s.size ≤ maxLen) (h : FitIs nm fk wd nu p k n s k n s 0) : FitB nm fk wd nu p k n s := ⟨k, n, s, 0, h, hz, fun _ => h⟩
theorem FitB.bad {nm : ByteArray} {fk wd : Int} {nu : Bool} {p k n : Int} {s : ByteArray} (er : Int) (he : er ≠ 0) (h : FitIs nm fk wd nu p k n s 0 0 nos er) : FitB nm fk wd nu p k n s := ⟨0, 0, nos, er, h, by decide, fun e => absurd e he⟩

theorem wd_cases {k wd : Int} (h : wdB k wd = true) : (k = 1) ∨ (k = 2 ∧ ∃ m : Nat, wd = m ∧ 1 ≤ m ∧ m ≤ 254) ∨ (k = 4 ∧ ∃ m : Nat, wd = m ∧ 1 ≤ m ∧ m ≤ 254) ∨ k = 3 ∨ k = 5 := by
  unfold wdB at h
  by_cases h1 : k = 1
  · exact .inl h1
  · rw [if_neg h1] at h
    by_cases h2 : k = 2
    · rw [if_pos h2] at h
      simp at h
      exact .inr (.inl ⟨h2, wd.toNat, by omega, by omega, by omega⟩)
    · rw [if_neg h2] at h
      by_cases h4 : k = 4
      · rw [if_pos h4] at h
        simp at h
        exact .inr (.inr (.inl ⟨h4, wd.toNat, by omega, by omega, by omega⟩))
      · rw [if_neg h4] at h
        by_cases h35 : k = 3 ∨ k = 5
        · exact .inr (.inr (.inr h35))
        · rw [if_neg h35] at h; cases h
theorem vE_ok {k n : Int} {s : ByteArray} (h : vE k n s = 0) : s.size ≤ 2048 ∧ isV k n s.toList.isEmpty = true := by
  unfold vE at h
  by_cases h1 : 2048 < s.size
  · rw [if_pos h1] at h; cases h
  · rw [if_neg h1] at h
    by_cases h2 : isV k n s.toList.isEmpty = true
    · exact ⟨by omega, h2⟩
    · rw [if_neg h2] at h; cases h
theorem vE_num {n : Int} {s : ByteArray} (h : vE 2 n s = 0) : inB n = true := by
  obtain ⟨_, h2⟩ := vE_ok h
  unfold isV at h2
  simp at h2
  exact h2.2
theorem vE_text {n : Int} {s : ByteArray} (h : vE 4 n s = 0) : n = 0 ∧ s.size ≤ 2048 := by
  obtain ⟨h1, h2⟩ := vE_ok h
  unfold isV at h2
  simp at h2
  exact ⟨h2, h1⟩
theorem vE_text' {s : ByteArray} (h : s.size ≤ 2048) : vE 4 0 s = 0 := by
  unfold vE isV
  rw [if_neg (by omega)]; simp
theorem vE_known {k n : Int} {s : ByteArray} (h : vE k n s = 0) : k = 0 ∨ k = 1 ∨ k = 2 ∨ k = 3 ∨ k = 4 := by
  obtain ⟨_, h2⟩ := vE_ok h
  unfold isV at h2
  by_cases a : k = 4
  · omega
  · rw [if_neg a] at h2
    by_cases b : s.toList.isEmpty = false
    · rw [if_pos b] at h2; cases h2
    · rw [if_neg b] at h2
      by_cases c : k = 0
      · omega
      · rw [if_neg c] at h2
        by_cases d : k = 1
        · omega
        · rw [if_neg d] at h2
          by_cases e : k = 2
          · omega
          · rw [if_neg e] at h2
            by_cases f : k = 3
            · omega
            · rw [if_neg f] at h2; cases h2
/-- A text in a field of texts. -/
theorem fitIs_text (nm : ByteArray) (m : Nat) (nu : Bool) (q : Nat) (s : ByteArray) (hs : nm.size ≤ maxLen) (hf : fldB nm 4 m = true) (hp : decide (0 ≤ (q : Int) ∧ (q : Int) ≤ 2) = true) (h2 : s.size ≤ 2048) (hm : m ≤ 254) :
    (vld q (cutT s m).data.toList = true → FitIs nm 4 m nu q 4 0 s 4 0 (cutT s m) 0) ∧ (vld q (cutT s m).data.toList = false → FitIs nm 4 m nu q 4 0 s 0 0 nos 10) := by
  have hv := vE_text' h2
  have hz : s.size ≤ maxLen := by unfold maxLen; omega
  have hq : q < 3 := by simp at hp; omega
  refine ⟨fun hok => ⟨fun w hL => fit_text_yes nm m nu q 0 s w hs hf hp hz hv hq hm hL hok, fun w => refFit_of nm 4 m nu q 4 0 s _ _ _ _ w hs hf hp hz hv fun W => ?_⟩, fun hok => ⟨fun w hL => fit_text_no nm m nu q 0 s w hs hf hp hz hv hq hm hL hok, fun w => refFit_of nm 4 m nu q 4 0 s _ _ _ _ w hs hf hp hz hv fun W => ?_⟩⟩
  · rcases Nat.lt_or_ge s.size m with a | a
    · exact fitted_text_yes_a nm m nu q 0 s W hz hq hm hok a
    · exact fitted_text_yes_b nm m nu q 0 s W hz hq hm hok a
  · rcases Nat.lt_or_ge s.size m with a | a
    · exact fitted_text_no_a nm m nu q 0 s W hz hq hm hok a
    · exact fitted_text_no_b nm m nu q 0 s W hz hq hm hok a

theorem fit_both (nm : ByteArray) (fk wd : Int) (nu : Bool) (p k n : Int) (s : ByteArray) (hs : nm.size ≤ maxLen) (hz : s.size ≤ maxLen) : FitB nm fk wd nu p k n s := by
  cases hf : fldB nm fk wd
  · exact FitB.bad 1 (by decide) ⟨fun w _ => fit_f nm fk wd nu p k n s w hs hf, fun w => rfit_f nm fk wd nu p k n s w hs hf⟩
  cases hp : decide (0 ≤ p ∧ p ≤ 2)
  · exact FitB.bad 1 (by decide) ⟨fun w _ => fit_p nm fk wd nu p k n s w hs hf hp, fun w => rfit_p nm fk wd nu p k n s w hs hf hp⟩
  by_cases hv : vE k n s = 0
  · have R := fun (k' n' : Int) (s' : ByteArray) (er : Int) (w : World) hF' => refFit_of nm fk wd nu p k n s k' n' s' er w hs hf hp hz hv hF'
    by_cases hk : k = 0
    · subst hk
      cases nu
      · exact FitB.bad 7 (by decide) ⟨fun w _ => fit_nil_no nm fk wd false p 0 n s w hs hf hp hz hv rfl rfl, fun w => R _ _ _ _ w fun W => fitted_nil_no nm fk wd p n s W⟩
      · exact FitB.same hz ⟨fun w _ => fit_nil_yes nm fk wd true p 0 n s w hs hf hp hz hv rfl rfl, fun w => R _ _ _ _ w fun W => fitted_nil_yes nm fk wd p n s W⟩
    · by_cases hd : k = kofN fk
      · have hw : wdB fk wd = true := by unfold fldB at hf; cases h : wdB fk wd <;> simp_all
        rcases wd_cases hw with rfl | ⟨rfl, m, rfl, m1, m2⟩ | ⟨rfl, m, rfl, m1, m2⟩ | rfl | rfl
        · obtain rfl : k = 1 := hd
          exact FitB.same hz ⟨fun w _ => fit_else_1 nm wd nu p n s w hs hf hp hz hv, fun w => R _ _ _ _ w fun W => fitted_else_1 nm wd nu p n s W hz hv⟩
        · obtain rfl : k = 2 := hd
          have hin := vE_num hv
          cases hok : decide ((dec n).size ≤ m)
          · exact FitB.bad 10 (by decide) ⟨fun w hL => fit_num_no nm m nu p n s w hs hf hp hz hv hin m1 m2 hL hok, fun w => R _ _ _ _ w fun W => fitted_num_no nm m nu p n s W hz hv hin m2 hok⟩
          · exact FitB.same hz ⟨fun w hL => fit_num_yes nm m nu p n s w hs hf hp hz hv hin m1 m2 hL hok, fun w => R _ _ _ _ w fun W => fitted_num_yes nm m nu p n s W hz hv hin m2 hok⟩
        · obtain rfl : k = 4 := hd
          obtain ⟨rfl, h2⟩ := vE_text hv
          obtain ⟨q, rfl⟩ : ∃ q : Nat, p = q := ⟨p.toNat, by simp at hp; omega⟩
          obtain ⟨y, no⟩ := fitIs_text nm m nu q s hs hf hp h2 m2
          have hle := cutT_le s m
          cases hok : vld q (cutT s m).data.toList
          · exact FitB.bad 10 (by decide) (no hok)
          · refine ⟨_, _, _, _, y hok, by unfold maxLen; omega, fun _ => ?_⟩
            have hi := cutT_idem s m
            have := (fitIs_text nm m nu q (cutT s m) hs hf hp (by omega) m2).1 (by rw [hi]; exact hok)
            rwa [hi] at this
        · obtain rfl : k = 3 := hd
          exact FitB.same hz ⟨fun w _ => fit_else_3 nm wd nu p n s w hs hf hp hz hv, fun w => R _ _ _ _ w fun W => fitted_else_3 nm wd nu p n s W hz hv⟩
        · obtain rfl : k = 2 := hd
          by_cases a : 0 ≤ n
          · by_cases b : n ≤ 99999999
            · exact FitB.same hz ⟨fun w _ => fit_memo_yes nm wd nu p n s w hs hf hp hz hv a b, fun w => R _ _ _ _ w fun W => fitted_memo_yes nm wd nu p n s W hz hv (by simp [a, b])⟩
            · exact FitB.bad 10 (by decide) ⟨fun w _ => fit_memo_high nm wd nu p n s w hs hf hp hz hv a (by omega), fun w => R _ _ _ _ w fun W => fitted_memo_no nm wd nu p n s W hz hv (by simp [a, b])⟩
          · exact FitB.bad 10 (by decide) ⟨fun w _ => fit_memo_low nm wd nu p n s w hs hf hp hz hv (by omega), fun w => R _ _ _ _ w fun W => fitted_memo_no nm wd nu p n s W hz hv (by simp [a])⟩
      · refine FitB.bad 6 (by decide) ⟨fun w _ => fit_kind nm fk wd nu p k n s w hs hf hp hz hv hk hd, fun w => R _ _ _ _ w fun W => ?_⟩
        by_cases h5 : fk = 5
        · subst h5; exact fitted_kind_memo nm wd nu p k n s W hk hd
        · refine fitted_kind_else nm fk wd nu p k n s W hk h5 ?_
          unfold kofN at hd; rwa [if_neg h5] at hd
  · exact FitB.bad (vE k n s) hv ⟨fun w _ => fit_v nm fk wd nu p k n s w hs hf hp hz _ rfl hv, fun w => rfit_v nm fk wd nu p k n s w hs hf hp hz _ rfl hv⟩
end Go.Proofs.YtcgfeeobkoomfaaGreatDoor
