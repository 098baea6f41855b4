/- The walk of ValValidates. -/
import Derived.Test.YtfgadkknfehkcaaDoorShow
import Derived.Laws.EntriesVeiled
import Derived.Deep.RegionHeld3
import Derived.Deep.DrawnRows
namespace Go.Proofs.YtfgadkknfehkcaaDoor
open Go.RowKit
set_option linter.unusedVariables false

attribute [local go_sem ↓] Go.wp_at_zero Go.wp_at_succ

set_option maxHeartbeats 2000000 in
set_option maxRecDepth 100000 in
theorem validates_any (k n : Int) (s : ByteArray) (w : World) (ht : Tab w) (hw : Pow w) (hs : s.size ≤ maxLen) (hn : -9223372036854775808 ≤ n ∧ n ≤ 9223372036854775807) :
    Calls Tryd.prog 3 #[vv k n s] w fun e w' => e = .returned (.bool true) ∧ Below w.heap.size w w' := by
  have hp := ht.pos
  obtain ⟨t, x, c1, c2⟩ := show_both k n s hs hn
  have C1 := Lib.hid c1; clear c1
  have C2 := Lib.hid c2; clear c2
  have C3 := Lib.hid (fun w => validate_any k n s w hs)
  have C4 := Lib.hid (fun w => refValidate_any k n s w hs)
  generalize vE k n s = v at *
  have HT := Lib.hid ht; clear ht
  have HW := Lib.hid hw; clear hw
  have q1 : (v == v) = true := by simp
  have q2 : (t.toList == t.toList) = true := by simp
  have q3 : (x == x) = true := by simp
  unfold maxLen at hs
  have hba : Below w.heap.size w (w.alloc (.cells #[.int .i64 k, .int .i64 n, .string s] 23)) := (Below.refl _ _).alloc (Nat.le_refl _) _
  have HTa := Lib.hid (HT.out.below hba hp)
  have HWa := Lib.hid (HW.out.below hba)
  by_cases hl : 20000 < s.size
  · go_enter Tryd.func3, Tryd.ntmps3
    go_wp2_with fail
    refine (known_any _ HTa.out).mono ?_
    rintro e w1 ⟨rfl, hb1⟩
    go_wp2_with fail
    go_ret
    exact ⟨rfl, hba.trans (hb1.mono (by simp))⟩
  · go_enter Tryd.func3, Tryd.ntmps3
    go_wp2_with fail
    refine (C1.out _ HTa.out HWa.out).mono ?_
    rintro e w1 ⟨rfl, hb1⟩
    obtain ⟨hc1, hf1⟩ := bcell hb1
    have ha1 : w.heap.size < w1.heap.size := by have := hb1.size; simp at *; omega
    have hB1 : Below w.heap.size w w1 := hba.trans (hb1.mono (by simp))
    go_wp2_with fail
    refine (C2.out _).mono ?_
    rintro e w2 ⟨rfl, hb2⟩
    obtain ⟨hc2, hf2⟩ := bcell hb2
    have ha2 : w.heap.size < w2.heap.size := by have := hb2.size; omega
    have hB2 : Below w.heap.size w w2 := hB1.trans (hb2.mono (by omega))
    have HT2 := Lib.hid (HT.out.below hB2 hp)
    have k0 : w2.cell? ⟨w.heap.size, 0, none⟩ = some (.int .i64 k) := by go_simp
    have k1 : w2.cell? ⟨w.heap.size, 1, none⟩ = some (.int .i64 n) := by go_simp
    have k2 : w2.cell? ⟨w.heap.size, 2, none⟩ = some (.string s) := by go_simp
    clear hc1 hf1 hc2 hf2 hb1 hb2
    go_wp2_with fail
    go_region_held3 (fun y => y.cell? ⟨w.heap.size, 0, none⟩ = some (.int .i64 k) ∧ y.cell? ⟨w.heap.size, 1, none⟩ = some (.int .i64 n) ∧ y.cell? ⟨w.heap.size, 2, none⟩ = some (.string s))
      (first | exact ⟨m0, m1, m2⟩ | exact ⟨j0, j1, j2⟩ | go_keep)
      (first
        | (go_at_call 19; refine (C3.out _).mono ?_; rintro e w3 ⟨rfl, hb3⟩;
           have ha3 : w.heap.size < w3.heap.size := (by have := hb3.size; simp at this; omega);
           have j0 : w3.cell? ⟨w.heap.size, 0, none⟩ = some (.int .i64 k) := (by rw [hb3.cell (p := ⟨w.heap.size, 0, none⟩) (by simpa using ha2)]; go_simp);
           have j1 : w3.cell? ⟨w.heap.size, 1, none⟩ = some (.int .i64 n) := (by rw [hb3.cell (p := ⟨w.heap.size, 1, none⟩) (by simpa using ha2)]; go_simp);
           have j2 : w3.cell? ⟨w.heap.size, 2, none⟩ = some (.string s) := (by rw [hb3.cell (p := ⟨w.heap.size, 2, none⟩) (by simpa using ha2)]; go_simp);
           have hB3 : Below w.heap.size w w3 := (hB2.drew.trans (hb3.mono (by simpa using Nat.le_of_lt ha2)));
           clear hb3)
        | (go_at_call 20; refine (C4.out _).mono ?_; rintro e w4 ⟨rfl, hb4⟩;
           have ha4 : w.heap.size < w4.heap.size := (by have := hb4.size; omega);
           have m0 : w4.cell? ⟨w.heap.size, 0, none⟩ = some (.int .i64 k) := (by rw [hb4.cell (p := ⟨w.heap.size, 0, none⟩) ha3]; exact j0);
           have m1 : w4.cell? ⟨w.heap.size, 1, none⟩ = some (.int .i64 n) := (by rw [hb4.cell (p := ⟨w.heap.size, 1, none⟩) ha3]; exact j1);
           have m2 : w4.cell? ⟨w.heap.size, 2, none⟩ = some (.string s) := (by rw [hb4.cell (p := ⟨w.heap.size, 2, none⟩) ha3]; exact j2);
           have hB4 : Below w.heap.size w w4 := (hB3.trans (hb4.mono (Nat.le_of_lt ha3)));
           clear hb4)
        | (go_at_call 16; refine (known_any _ (HT.out.below hB4 hp)).mono ?_; rintro e w5 ⟨rfl, hb5⟩;
           have m0 : w5.cell? ⟨w.heap.size, 0, none⟩ = some (.int .i64 k) := (by rw [hb5.cell (p := ⟨w.heap.size, 0, none⟩) ha4]; exact m0);
           have m1 : w5.cell? ⟨w.heap.size, 1, none⟩ = some (.int .i64 n) := (by rw [hb5.cell (p := ⟨w.heap.size, 1, none⟩) ha4]; exact m1);
           have m2 : w5.cell? ⟨w.heap.size, 2, none⟩ = some (.string s) := (by rw [hb5.cell (p := ⟨w.heap.size, 2, none⟩) ha4]; exact m2);
           have hB5 : Below w.heap.size w w5 := (hB4.trans (hb5.mono (Nat.le_of_lt ha4)));
           clear hb5))
    all_goals go_wp2
    all_goals go_ret
    all_goals refine ⟨rfl, ?_⟩
    all_goals repeat (first | (with_reducible exact hB5) | (with_reducible refine Below.drew ?_))
end Go.Proofs.YtfgadkknfehkcaaDoor
