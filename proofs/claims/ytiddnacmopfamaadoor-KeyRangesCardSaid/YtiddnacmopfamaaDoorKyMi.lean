/- The walk of KeyRanges. -/
import Derived.Test.YtiddnacmopfamaaDoorKyMh
import Derived.Test.YtiddnacmopfamaaDoorKyRe
import Derived.Deep.RegionHeld3
namespace Go.Proofs.YtiddnacmopfamaaDoor
open Go.RowKit
set_option linter.unusedVariables false
set_option linter.unusedSimpArgs false
set_option maxRecDepth 40000

/-- The cells of a row of four numbers. -/
def R4 (w : World) (g : Nat) (a b c d : Int) : Prop := w.cell? ⟨g, 0, none⟩ = some (.int .i64 a) ∧ w.cell? ⟨g, 1, none⟩ = some (.int .i64 b) ∧ w.cell? ⟨g, 2, none⟩ = some (.int .i64 c) ∧ w.cell? ⟨g, 3, none⟩ = some (.int .i64 d) ∧ g < w.heap.size
theorem R4.below {w w' : World} {g B : Nat} {a b c d : Int} (h : R4 w g a b c d) (hb : Below B w w') (hg : g < B) : R4 w' g a b c d :=
  ⟨(hb.cell (p := ⟨g, 0, none⟩) hg).trans h.1, (hb.cell (p := ⟨g, 1, none⟩) hg).trans h.2.1, (hb.cell (p := ⟨g, 2, none⟩) hg).trans h.2.2.1, (hb.cell (p := ⟨g, 3, none⟩) hg).trans h.2.2.2.1, by have := h.2.2.2.2; have := hb.size; omega⟩
theorem R4.new (w : World) (a b c d : Int) (t : TypeId) : R4 (w.alloc (.cells #[.int .i64 a, .int .i64 b, .int .i64 c, .int .i64 d] t)) w.heap.size a b c d := ⟨by simp, by simp, by simp, by simp, by simp⟩
theorem box_vv4 (w : World) (k n : Int) (s : ByteArray) (k' n' : Int) (s' : ByteArray) (a b c d : Int) :
    let wb := ((w.alloc (.cells #[.int .i64 k, .int .i64 n, .string s] 23)).alloc (.cells #[.int .i64 k', .int .i64 n', .string s'] 23)).alloc (.cells #[.int .i64 a, .int .i64 b, .int .i64 c, .int .i64 d] 59)
    VCell wb w.heap.size k n s ∧ VCell wb (w.heap.size + 1) k' n' s' ∧ R4 wb (w.heap.size + 2) a b c d ∧ Below w.heap.size w wb := by
  dsimp only
  have h := box_two w k n s k' n' s'
  simp only at h
  obtain ⟨h1, h2, h3⟩ := h
  have hz : ((w.alloc (.cells #[.int .i64 k, .int .i64 n, .string s] 23)).alloc (.cells #[.int .i64 k', .int .i64 n', .string s'] 23)).heap.size = w.heap.size + 2 := by simp
  generalize ((w.alloc (.cells #[.int .i64 k, .int .i64 n, .string s] 23)).alloc (.cells #[.int .i64 k', .int .i64 n', .string s'] 23)) = w2 at *
  have b2 := Below.of_alloc w2 (.cells #[.int .i64 a, .int .i64 b, .int .i64 c, .int .i64 d] 59) _ (Nat.le_refl _)
  have h4 := R4.new w2 a b c d 59
  rw [hz] at h4
  exact ⟨h1.1.below b2 h1.1.2.2.2, h2.1.below b2 h2.1.2.2.2, h4, h3.trans (b2.mono h3.size)⟩
/-- The operator that a number means. -/
def opN (n : Int) : Nat := ((n.tmod 6 + 6) % 6).toNat
def opR (n : Int) : ByteArray := opL.getD (opN n) nos
theorem opN_lt (n : Int) : opN n < 6 := by unfold opN; omega
theorem opR_is (n : Int) : isO (opR n) = true := by
  have h := opN_lt n
  unfold opR
  generalize opN n = j at *
  have : j = 0 ∨ j = 1 ∨ j = 2 ∨ j = 3 ∨ j = 4 ∨ j = 5 := by omega
  rw [← opL_in]
  unfold inLs
  rw [List.any_eq_true]
  exact ⟨opL.getD j nos, by rcases this with rfl | rfl | rfl | rfl | rfl | rfl <;> simp [opL], by simp⟩
theorem opN_step (n : Int) : IntKind.i64.wrap (n.tmod 6 + 6) = n.tmod 6 + 6 ∧ (n.tmod 6 + 6).tmod 6 = (opN n : Int) := by
  have h1 := Int.tmod_lt_of_pos n (b := 6) (by omega)
  have h2 := Int.lt_tmod_of_pos n (b := 6) (by omega)
  refine ⟨IntWalk.i64_in _ (by omega), ?_⟩
  unfold opN
  rw [Int.tmod_eq_emod_of_nonneg (by omega)]
  omega
theorem ops_at (n : Int) (w : World) : Calls Tryd.prog 37 #[] w fun e w' => ∃ g, e = .returned (.slice (some ⟨g, 0, none⟩) 6 6) ∧ w'.cell? ⟨g, opN n, none⟩ = some (.string (opR n)) ∧ Below w.heap.size w w' :=
  (operators_any w).mono fun e w' ⟨g, h1, h2, h3⟩ => ⟨g, h1, h2 (opN n) (opN_lt n), h3⟩
end Go.Proofs.YtiddnacmopfamaaDoor
