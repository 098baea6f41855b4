/- The walks of Compare of the reference and of ValCompares. -/
import Derived.Test.YtfgadkknfehkcaaDoorCmp
namespace Go.Proofs.YtfgadkknfehkcaaDoor
open Go.RowKit
set_option linter.unusedVariables false

set_option maxHeartbeats 1000000 in
theorem refCompare_any (k n : Int) (s : ByteArray) (k' n' : Int) (s' : ByteArray) (w : World) (hs : s.size ≤ maxLen) (hs' : s'.size ≤ maxLen) :
    Calls Tryd.prog 22 #[vv k n s, vv k' n' s'] w fun e w' => e = .returned (.tuple #[.int .i64 (cmpR k n s k' n' s'), .int .i64 (cmpE k n s k' n' s')]) ∧ Below w.heap.size w w' := by
  generalize hx : bothE k n s k' n' s' = x
  have HX := Lib.hid hx
  by_cases h0 : x = 0
  · subst h0
    by_cases hk : k = k' ∧ k ≠ 0
    · have hE : cmpE k n s k' n' s' = 0 := by unfold cmpE; rw [if_pos hx, if_pos hk]
      by_cases h4 : k = 4
      · have hR : cmpR k n s k' n' s' = Lib.compareBytes s.data.toList s'.data.toList := by unfold cmpR; rw [if_pos ⟨hx, hk⟩, if_pos h4]
        rw [hE, hR]; clear hE hR hx
        obtain ⟨rfl, _⟩ := hk
        subst h4
        go_enter Tryd.func22, Tryd.ntmps22
        go_wp2_with fail
        refine (refBoth_any _ _ _ _ _ _ _ hs hs').mono ?_
        rintro e w1 ⟨rfl, hb1⟩
        rw [show (if vE 4 n s = 0 then vE 4 n' s' else vE 4 n s) = 0 from HX.out]
        obtain ⟨hc1, hf1⟩ := bcell hb1
        have ha1 : w.heap.size < w1.heap.size := by have := hb1.size; simp at *; omega
        have hd1 : w.heap.size + 1 < w1.heap.size := by have := hb1.size; simp at *; omega
        have hbw : Below w.heap.size w w1 := (((Below.refl _ _).alloc (Nat.le_refl _) _).alloc (by simp) _).trans (hb1.mono (by simp; omega))
        go_wp2_with fail
        refine (cmpTexts_any s s' _ hs hs').mono ?_
        rintro e w2 ⟨rfl, hb2⟩
        go_wp2_with fail
        go_ret2
        exact ⟨rfl, hbw.trans (hb2.mono (by omega))⟩
      · have hR : cmpR k n s k' n' s' = cmpI n n' := by unfold cmpR; rw [if_pos ⟨hx, hk⟩, if_neg h4]
        rw [hE, hR]; clear hE hR hx
        obtain ⟨rfl, hk0⟩ := hk
        have z : (k == 0) = false := by simpa using hk0
        have z4 : (k == 4) = false := by simpa using h4
        clear hk0 h4
        go_enter Tryd.func22, Tryd.ntmps22
        go_wp2_with fail
        refine (refBoth_any _ _ _ _ _ _ _ hs hs').mono ?_
        rintro e w1 ⟨rfl, hb1⟩
        rw [show (if vE k n s = 0 then vE k n' s' else vE k n s) = 0 from HX.out]
        obtain ⟨hc1, hf1⟩ := bcell hb1
        have ha1 : w.heap.size < w1.heap.size := by have := hb1.size; simp at *; omega
        have hd1 : w.heap.size + 1 < w1.heap.size := by have := hb1.size; simp at *; omega
        have hbw : Below w.heap.size w w1 := (((Below.refl _ _).alloc (Nat.le_refl _) _).alloc (by simp) _).trans (hb1.mono (by simp; omega))
        go_wp2_with fail
        refine (cmpInts_any _ _ _).mono ?_
        rintro e w' ⟨rfl, rfl⟩
        go_wp2_with fail
        go_ret2
        exact ⟨rfl, hbw⟩
    · have hE : cmpE k n s k' n' s' = 6 := by unfold cmpE; rw [if_pos hx, if_neg hk]
      have hR : cmpR k n s k' n' s' = 0 := by unfold cmpR; rw [if_neg (fun h => hk h.2)]
      rw [hE, hR]; clear hE hR hx
      have hc : (k != k') = true ∨ ((k != k') = false ∧ (k == 0) = true) := by
        by_cases e : k = k'
        · right; subst e; simp only [true_and, ne_eq, Decidable.not_not] at hk; simp [hk]
        · left; simpa using e
      clear hk
      rcases hc with c1 | ⟨c1, c2⟩
      all_goals
        go_enter Tryd.func22, Tryd.ntmps22
        go_wp2_with fail
        refine (refBoth_any _ _ _ _ _ _ _ hs hs').mono ?_
        rintro e w1 ⟨rfl, hb1⟩
        rw [show (if vE k n s = 0 then vE k' n' s' else vE k n s) = 0 from HX.out]
        obtain ⟨hc1, hf1⟩ := bcell hb1
        have ha1 : w.heap.size < w1.heap.size := by have := hb1.size; simp at *; omega
        have hd1 : w.heap.size + 1 < w1.heap.size := by have := hb1.size; simp at *; omega
        have hbw : Below w.heap.size w w1 := (((Below.refl _ _).alloc (Nat.le_refl _) _).alloc (by simp) _).trans (hb1.mono (by simp; omega))
        go_wp2
        go_ret2
        exact ⟨rfl, hbw⟩
  · have hE : cmpE k n s k' n' s' = x := by unfold cmpE; rw [hx, if_neg h0]
    have hR : cmpR k n s k' n' s' = 0 := by unfold cmpR; rw [hx, if_neg (fun h => h0 h.1)]
    rw [hE, hR]; clear hE hR hx
    have z : (x != 0) = true := by simpa using h0
    clear h0
    go_enter Tryd.func22, Tryd.ntmps22
    go_wp2_with fail
    refine (refBoth_any _ _ _ _ _ _ _ hs hs').mono ?_
    rintro e w1 ⟨rfl, hb1⟩
    rw [show (if vE k n s = 0 then vE k' n' s' else vE k n s) = x from HX.out]
    go_wp2
    go_ret2
    exact ⟨rfl, (((Below.refl _ _).alloc (Nat.le_refl _) _).alloc (by simp) _).trans (hb1.mono (by simp; omega))⟩

set_option maxHeartbeats 1000000 in
theorem compares_any (k n : Int) (s : ByteArray) (k' n' : Int) (s' : ByteArray) (w : World) (ht : Tab w) (hs : s.size ≤ maxLen) (hs' : s'.size ≤ maxLen) :
    Calls Tryd.prog 4 #[vv k n s, vv k' n' s'] w fun e w' => e = .returned (.bool true) ∧ Below w.heap.size w w' := by
  have hp := ht.pos
  have HT := Lib.hid ht; clear ht
  have HA := Lib.hid hs
  have HB := Lib.hid hs'
  unfold maxLen at hs hs'
  cases t1 : decide (20000 < wrap64 ((s.size : Int) + s'.size))
  · have C1 := Lib.hid (fun w => Compare_any k n s k' n' s' w HA.out HB.out)
    have C2 := Lib.hid (fun w => refCompare_any k n s k' n' s' w HA.out HB.out)
    generalize cmpR k n s k' n' s' = r at *
    generalize cmpE k n s k' n' s' = x at *
    have t2 : (r == r) = true := by simp
    have t3 : (x == x) = true := by simp
    go_enter Tryd.func4, Tryd.ntmps4
    go_wp2_with fail
    refine (C1.out _).mono ?_
    rintro e w1 ⟨rfl, hb1⟩
    obtain ⟨hc1, hf1⟩ := bcell hb1
    have ha1 : w.heap.size < w1.heap.size := by have := hb1.size; simp at *; omega
    have hd1 : w.heap.size + 1 < w1.heap.size := by have := hb1.size; simp at *; omega
    have hbw : Below w.heap.size w w1 := (((Below.refl _ _).alloc (Nat.le_refl _) _).alloc (by simp) _).trans (hb1.mono (by simp; omega))
    go_wp2_with fail
    refine (C2.out _).mono ?_
    rintro e w2 ⟨rfl, hb2⟩
    have hbv : Below w.heap.size w w2 := hbw.trans (hb2.mono (by omega))
    go_wp2_with fail
    refine (known_any _ (HT.out.below hbv hp)).mono ?_
    rintro e w3 ⟨rfl, hb3⟩
    go_wp2_with fail
    go_ret
    exact ⟨rfl, hbv.trans (hb3.mono (by have := hb2.size; omega))⟩
  · have hba : Below w.heap.size w ((w.alloc (.cells #[.int .i64 k, .int .i64 n, .string s] 23)).alloc (.cells #[.int .i64 k', .int .i64 n', .string s'] 23)) :=
      ((Below.refl _ _).alloc (Nat.le_refl _) _).alloc (by simp) _
    have htk := HT.out.below hba hp
    have HK := Lib.hid htk; clear htk
    go_enter Tryd.func4, Tryd.ntmps4
    go_wp2_with fail
    refine (known_any _ HK.out).mono ?_
    rintro e w3 ⟨rfl, hb3⟩
    go_wp2_with fail
    go_ret
    exact ⟨rfl, hba.trans (hb3.mono (by simp; omega))⟩
end Go.Proofs.YtfgadkknfehkcaaDoor
