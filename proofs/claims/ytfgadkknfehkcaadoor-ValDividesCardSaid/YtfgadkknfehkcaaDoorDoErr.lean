/- Do where one of the two is no value. -/
import Derived.Test.YtfgadkknfehkcaaDoorDo
namespace Go.Proofs.YtfgadkknfehkcaaDoor
open Go.RowKit
set_option linter.unusedVariables false

set_option maxHeartbeats 1000000 in
theorem do_err (op : Int) (k n : Int) (s : ByteArray) (k' n' : Int) (s' : ByteArray) (x : Int) (w : World) (hs : s.size ≤ maxLen) (hs' : s'.size ≤ maxLen)
    (hv : (if vE k n s = 0 then vE k' n' s' else vE k n s) = x) (hx : (x == 0) = false) :
    Calls Tryd.prog 25 #[.int .i64 op, vv k n s, vv k' n' s'] w fun e w' => e = .returned (.tuple #[vv 0 0 nos, .int .i64 0, .int .i64 x]) ∧ Below w.heap.size w w' ∧ w.heap.size < w'.heap.size := by
  have HV := Lib.hid hv; clear hv
  go_enter Tryd.func25, Tryd.ntmps25
  go_wp2_with fail
  refine (both_any _ _ _ _ _ _ _ hs hs').mono ?_
  rintro e w1 ⟨rfl, hb1⟩
  rw [HV.out]
  obtain ⟨hc1, hf1⟩ := bcell hb1
  have ha1 : w.heap.size < w1.heap.size := by have := hb1.size; simp at *; omega
  have hd1 : w.heap.size + 1 < w1.heap.size := by have := hb1.size; simp at *; omega
  have he1 : w.heap.size + 1 + 1 < w1.heap.size := by have := hb1.size; simp at *; omega
  have hb1' : Below w.heap.size w w1 := by
    refine ((((Below.refl _ _).alloc (Nat.le_refl _) _).alloc (by simp) _).alloc (by simp; omega) _).trans (hb1.mono (by simp; omega))
  have r0 : w1.cell? ⟨w.heap.size + 1 + 1, 0, none⟩ = some (.int .i64 0) := by go_simp
  have r1 : w1.cell? ⟨w.heap.size + 1 + 1, 1, none⟩ = some (.int .i64 0) := by go_simp
  have r2 : w1.cell? ⟨w.heap.size + 1 + 1, 2, none⟩ = some (.string nos) := by go_simp
  go_wp2
  refine bodyPost_ret (v := .tuple #[vv 0 0 nos, .int .i64 0, .int .i64 x]) (by simp [results, Tryd.results25, go_sem, r0, r1, r2, he1]) rfl ⟨rfl, ?_, ?_⟩
  · exact ((hb1'.setCell (by simp; omega) _).setCell (by simp; omega) _).setCell (by simp; omega) _
  · simp; omega
end Go.Proofs.YtfgadkknfehkcaaDoor
