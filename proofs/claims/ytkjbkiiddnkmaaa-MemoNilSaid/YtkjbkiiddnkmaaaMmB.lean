/- A memo in memory: isNone, New. -/
import Derived.Test.YtkjbkiiddnkmaaaMmL
namespace Go.Proofs.Ytkjbkiiddnkmaaa
open Go.RowKit
set_option linter.unusedVariables false
set_option linter.unusedSimpArgs false
set_option maxRecDepth 40000

/-- The cells of a memo whose lock is free or held, and that they may be written. -/
def Mm (w : World) (g : Nat) (l z : Int) (v : Value) : Prop :=
  w.cell? ⟨g, 0, none⟩ = some (.int .i32 l) ∧ w.cell? ⟨g, 2, none⟩ = some (.int .i64 z) ∧ w.cell? ⟨g, 3, none⟩ = some v ∧ w.frozen? ⟨g, 0, none⟩ = false ∧ w.frozen? ⟨g, 3, none⟩ = false ∧ g < w.heap.size
theorem Mm.below {w w' : World} {g B : Nat} {l z : Int} {v : Value} (h : Mm w g l z v) (hb : Below B w w') (hg : g < B) : Mm w' g l z v :=
  ⟨(hb.cell (p := ⟨g, 0, none⟩) hg).trans h.1, (hb.cell (p := ⟨g, 2, none⟩) hg).trans h.2.1, (hb.cell (p := ⟨g, 3, none⟩) hg).trans h.2.2.1, (hb.frozen (p := ⟨g, 0, none⟩) hg).trans h.2.2.2.1, (hb.frozen (p := ⟨g, 3, none⟩) hg).trans h.2.2.2.2.1, by have := h.2.2.2.2.2; have := hb.size; omega⟩
theorem Mm.new (w : World) (z : Int) (t : TypeId) : Mm (w.alloc (.cells #[.int .i32 0, .int .u32 0, .int .i64 z, .slice none 0 0] t)) w.heap.size 0 z (.slice none 0 0) := ⟨by simp, by simp, by simp, by simp, by simp, by simp⟩
theorem isNone_on (g : Nat) (l z : Int) (v : Value) (w : World) (hz : z ≠ 0) (h : Mm w g l z v) : Calls Try.prog 35 #[.pointer (some ⟨g, 0, none⟩)] w fun e w' => e = .returned (.bool false) ∧ w = w' := by
  obtain ⟨h0, h2, h3, _⟩ := h
  have hz' : ((z : Int) == 0) = false := by simpa using hz
  go_enter Try.func35, Try.ntmps35
  go_wp2
  go_ret
  exact ⟨rfl, rfl⟩
theorem New_any (z : Int) (w : World) (hz : isz z = true) : Calls Try.prog 11 #[.int .i64 z] w fun e w' => e = .returned (.tuple #[.pointer (some ⟨w.heap.size, 0, none⟩), .int .i64 0]) ∧ w' = w.alloc (.cells #[.int .i32 0, .int .u32 0, .int .i64 z, .slice none 0 0] 76) := by
  have C1 := Lib.hid (fun W => isSize_any z W)
  rw [hz] at C1
  clear hz
  go_enter Try.func11, Try.ntmps11
  go_wp2_with fail
  refine (C1.out _).mono ?_
  rintro e w' ⟨rfl, rfl⟩
  go_wp2_with fail
  go_ret2
  exact ⟨rfl, rfl⟩
theorem New_bad (z : Int) (w : World) (hz : isz z = false) : Calls Try.prog 11 #[.int .i64 z] w fun e w' => e = .returned (.tuple #[.pointer none, .int .i64 1]) ∧ w' = w := by
  have C1 := Lib.hid (fun W => isSize_any z W)
  rw [hz] at C1
  clear hz
  go_enter Try.func11, Try.ntmps11
  go_wp2_with fail
  refine (C1.out _).mono ?_
  rintro e w' ⟨rfl, rfl⟩
  go_wp2_with fail
  go_ret2
  exact ⟨rfl, rfl⟩
end Go.Proofs.Ytkjbkiiddnkmaaa
