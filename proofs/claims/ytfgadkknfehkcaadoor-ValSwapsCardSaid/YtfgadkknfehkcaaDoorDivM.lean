/- Division of whole numbers towards zero: what ValDivides asks. -/
import Derived.Test.YtfgadkknfehkcaaDoorVals
namespace Go.Proofs.YtfgadkknfehkcaaDoor

theorem inB_iff (n : Int) : inB n = true ↔ -1000000000000000 ≤ n ∧ n ≤ 1000000000000000 := by simp [inB]

theorem div_abs (a b : Int) (hb : b ≠ 0) :
    b * a.tdiv b + a.tmod b = a ∧ (b * a.tdiv b).natAbs ≤ a.natAbs ∧ (a.tmod b).natAbs < b.natAbs ∧ (a.tmod b).natAbs ≤ a.natAbs ∧ (a.tdiv b).natAbs ≤ a.natAbs ∧ (a.tmod b = 0 ∨ (a.tmod b < 0 ↔ a < 0)) := by
  have h1 : b * a.tdiv b + a.tmod b = a := Int.mul_tdiv_add_tmod a b
  have h2 : (a.tdiv b).natAbs ≤ a.natAbs := Int.natAbs_tdiv_le_natAbs a b
  have h3 : (a.tmod b).natAbs = a.natAbs % b.natAbs := Int.natAbs_tmod a b
  have h4 : a.natAbs % b.natAbs < b.natAbs := Nat.mod_lt _ (by omega)
  have h5 : a.natAbs % b.natAbs ≤ a.natAbs := Nat.mod_le _ _
  have h6 : 0 ≤ a → 0 ≤ a.tmod b := fun h => Int.tmod_nonneg b h
  have h7 : a ≤ 0 → a.tmod b ≤ 0 := fun h => by
    have := Int.tmod_nonneg b (show 0 ≤ -a by omega)
    rw [Int.neg_tmod] at this; omega
  refine ⟨h1, ?_, by omega, by omega, h2, ?_⟩
  · generalize b * a.tdiv b = x at *
    omega
  · omega
end Go.Proofs.YtfgadkknfehkcaaDoor
