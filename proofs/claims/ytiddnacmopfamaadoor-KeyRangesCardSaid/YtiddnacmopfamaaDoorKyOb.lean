/- Compare of the reference; the first bytes of a text; writing a text into a value. -/
import Derived.Test.YtiddnacmopfamaaDoorKyOa
import Derived.Test.YtiddnacmopfamaaDoorPgJ
import Derived.Test.YtiddnacmopfamaaDoorKyDa
import Derived.Test.YtiddnacmopfamaaDoorKyO
namespace Go.Proofs.YtiddnacmopfamaaDoor
open Go.RowKit
set_option linter.unusedVariables false
set_option linter.unusedSimpArgs false
set_option maxRecDepth 40000

set_option maxHeartbeats 1000000 in
theorem refCompare_any (k n : Int) (s : ByteArray) (k' n' : Int) (s' : ByteArray) (w : World) (hs : s.size ≤ maxLen) (hs' : s'.size ≤ maxLen) :
    Calls Tryd.prog 24 #[vv k n s, vv k' n' s'] w fun e w' => e = .returned (.tuple #[.int .i64 (cmpR k n s k' n' s'), .int .i64 (cmpE k n s k' n' s')]) ∧ Below w.heap.size w w' := by
  generalize hx : bothE k n s k' n' s' = x
  have HX := Lib.hid hx
  by_cases h0 : x = 0
  · subst h0
    by_cases hk : k = k' ∧ k ≠ 0
    · have hE : cmpE k n s k' n' s' = 0 := by unfold cmpE; rw [if_pos hx, if_pos hk]
      by_cases h4 : k = 4
      · have hR : cmpR k n s k' n' s' = Lib.compareBytes s.data.toList s'.data.toList := by unfold cmpR; rw [if_pos ⟨hx, hk⟩, if_pos h4]
        rw [hE, hR]; clear hE hR hx
        obtain ⟨rfl, _⟩ := hk
        subst h4
        go_enter Tryd.func24, Tryd.ntmps24
        go_wp2_with fail
        refine (refBoth_any _ _ _ _ _ _ _ hs hs').mono ?_
        rintro e w1 ⟨rfl, hb1⟩
        rw [show (if vE 4 n s = 0 then vE 4 n' s' else vE 4 n s) = 0 from HX.out]
        obtain ⟨hc1, hf1⟩ := bcell hb1
        have ha1 : w.heap.size < w1.heap.size := by have := hb1.size; simp at *; omega
        have hd1 : w.heap.size + 1 < w1.heap.size := by have := hb1.size; simp at *; omega
        have hbw : Below w.heap.size w w1 := (((Below.refl _ _).alloc (Nat.le_refl _) _).alloc (by simp) _).trans (hb1.mono (by simp; omega))
        go_wp2_with fail
        refine (cmpTexts_any s s' _ hs hs').mono ?_
        rintro e w2 ⟨rfl, hb2⟩
        go_wp2_with fail
        go_ret2
        exact ⟨rfl, hbw.trans (hb2.mono (by omega))⟩
      · have hR : cmpR k n s k' n' s' = cmpI n n' := by unfold cmpR; rw [if_pos ⟨hx, hk⟩, if_neg h4]
        rw [hE, hR]; clear hE hR hx
        obtain ⟨rfl, hk0⟩ := hk
        have z : (k == 0) = false := by simpa using hk0
        have z4 : (k == 4) = false := by simpa using h4
        clear hk0 h4
        go_enter Tryd.func24, Tryd.ntmps24
        go_wp2_with fail
        refine (refBoth_any _ _ _ _ _ _ _ hs hs').mono ?_
        rintro e w1 ⟨rfl, hb1⟩
        rw [show (if vE k n s = 0 then vE k n' s' else vE k n s) = 0 from HX.out]
        obtain ⟨hc1, hf1⟩ := bcell hb1
        have ha1 : w.heap.size < w1.heap.size := by have := hb1.size; simp at *; omega
        have hd1 : w.heap.size + 1 < w1.heap.size := by have := hb1.size; simp at *; omega
        have hbw : Below w.heap.size w w1 := (((Below.refl _ _).alloc (Nat.le_refl _) _).alloc (by simp) _).trans (hb1.mono (by simp; omega))
        go_wp2_with fail
        refine (cmpInts_any _ _ _).mono ?_
        rintro e w' ⟨rfl, rfl⟩
        go_wp2_with fail
        go_ret2
        exact ⟨rfl, hbw⟩
    · have hE : cmpE k n s k' n' s' = 6 := by unfold cmpE; rw [if_pos hx, if_neg hk]
      have hR : cmpR k n s k' n' s' = 0 := by unfold cmpR; rw [if_neg (fun h => hk h.2)]
      rw [hE, hR]; clear hE hR hx
      have hc : (k != k') = true ∨ ((k != k') = false ∧ (k == 0) = true) := by
        by_cases e : k = k'
        · right; subst e; simp only [true_and, ne_eq, Decidable.not_not] at hk; simp [hk]
        · left; simpa using e
      clear hk
      rcases hc with c1 | ⟨c1, c2⟩
      all_goals
        go_enter Tryd.func24, Tryd.ntmps24
        go_wp2_with fail
        refine (refBoth_any _ _ _ _ _ _ _ hs hs').mono ?_
        rintro e w1 ⟨rfl, hb1⟩
        rw [show (if vE k n s = 0 then vE k' n' s' else vE k n s) = 0 from HX.out]
        obtain ⟨hc1, hf1⟩ := bcell hb1
        have ha1 : w.heap.size < w1.heap.size := by have := hb1.size; simp at *; omega
        have hd1 : w.heap.size + 1 < w1.heap.size := by have := hb1.size; simp at *; omega
        have hbw : Below w.heap.size w w1 := (((Below.refl _ _).alloc (Nat.le_refl _) _).alloc (by simp) _).trans (hb1.mono (by simp; omega))
        go_wp2
        go_ret2
        exact ⟨rfl, hbw⟩
  · have hE : cmpE k n s k' n' s' = x := by unfold cmpE; rw [hx, if_neg h0]
    have hR : cmpR k n s k' n' s' = 0 := by unfold cmpR; rw [hx, if_neg (fun h => h0 h.1)]
    rw [hE, hR]; clear hE hR hx
    have z : (x != 0) = true := by simpa using h0
    clear h0
    go_enter Tryd.func24, Tryd.ntmps24
    go_wp2_with fail
    refine (refBoth_any _ _ _ _ _ _ _ hs hs').mono ?_
    rintro e w1 ⟨rfl, hb1⟩
    rw [show (if vE k n s = 0 then vE k' n' s' else vE k n s) = x from HX.out]
    go_wp2
    go_ret2
    exact ⟨rfl, (((Below.refl _ _).alloc (Nat.le_refl _) _).alloc (by simp) _).trans (hb1.mono (by simp; omega))⟩


theorem key_size (k n : Int) (s : ByteArray) (p c : Nat) (d : Bool) (h : vE k n s = 0) : (keyT k n s p c d).size ≤ 200000 := by
  unfold keyT
  split
  · rw [turnS_size]
    have := enc_size (k := k) (n := n) (s := s) p c
    rw [Int.toNat_natCast, Int.toNat_natCast]
    omega
  · show (0 : Nat) ≤ 200000
    omega
def fstS (s : ByteArray) : ByteArray := if 48 < s.size then s.extract 0 48 else s
theorem fst_list (s : ByteArray) : (fstS s).data.toList = s.data.toList.take 48 := by
  unfold fstS
  have hl : s.data.toList.length = s.size := rfl
  by_cases h : 48 < s.size
  · rw [if_pos h, take_ext _ _ (by omega)]; rfl
  · rw [if_neg h, List.take_of_length_le (by omega)]
theorem fst_size (s : ByteArray) : (fstS s).size ≤ 48 := by
  have h : (fstS s).data.toList.length = (fstS s).size := rfl
  rw [fst_list, List.length_take] at h
  omega
theorem fst_wb (p c : Nat) (s : ByteArray) : wb p c (fstS s) = wei48 p c s := by
  unfold wb wei48
  rw [fst_list]
theorem fst_valid {k n : Int} {s : ByteArray} (h : vE k n s = 0) : vE k n (fstS s) = 0 := by
  by_cases hk : k = 4
  · subst hk
    have hz := fst_size s
    unfold vE at h ⊢
    split at h
    · omega
    · rw [if_neg (by omega)]
      split at h
      · rename_i hv
        rw [if_pos]
        unfold isV at hv ⊢
        rw [if_pos rfl] at hv ⊢
        exact hv
      · omega
  · obtain ⟨_, _, _, _, _, rfl⟩ := valid_num h hk
    exact h
theorem first_any (s : ByteArray) (w : World) (hs : s.size ≤ 200000) :
    Calls Tryd.prog 23 #[.string s] w fun e w' => e = .returned (.string (fstS s)) ∧ w = w' := by
  unfold fstS
  by_cases h : 48 < s.size
  · rw [if_pos h]
    have i1 : (48 : Int) < s.size := by omega
    have i2 : (48 : Int) ≤ s.size := by omega
    clear h
    go_enter Tryd.func23, Tryd.ntmps23
    go_wp2
    go_ret
    exact ⟨rfl, rfl⟩
  · rw [if_neg h]
    have i1 : ¬ (48 : Int) < s.size := by omega
    clear h
    go_enter Tryd.func23, Tryd.ntmps23
    go_wp2
    go_ret
    exact ⟨rfl, rfl⟩
theorem VW.set {w : World} {g : Nat} {k n : Int} {s : ByteArray} (h : VW w g k n s) (t : ByteArray) : VW (w.setCell ⟨g, 2, none⟩ (.string t)) g k n t := by
  obtain ⟨⟨c0, c1, c2, cs⟩, f0, f1, f2⟩ := h
  refine ⟨⟨?_, ?_, ?_, by simpa using cs⟩, ?_, ?_, ?_⟩
  all_goals go_simp
theorem VW.other {w : World} {g : Nat} {k n : Int} {s : ByteArray} (h : VW w g k n s) (b o : Nat) (v : Value) (hb : g ≠ b) : VW (w.setCell ⟨b, o, none⟩ v) g k n s := by
  obtain ⟨⟨c0, c1, c2, cs⟩, f0, f1, f2⟩ := h
  have h2 : ¬ b = g := fun e => hb e.symm
  refine ⟨⟨?_, ?_, ?_, by simpa using cs⟩, ?_, ?_, ?_⟩
  all_goals go_simp
theorem VW.drew {w : World} {g : Nat} {k n : Int} {s : ByteArray} (h : VW w g k n s) : VW w.drew g k n s := h
end Go.Proofs.YtiddnacmopfamaaDoor
