/- Lists that came in, as the walks want them. -/
import Derived.Test.YtoldjpnkgdhpkaaRows
import Derived.Test.YtoldjpnkgdhpkaaL11
import Derived.ProofKit
import Derived.OpenShut
import Derived.ShutString
import Derived.ChangeOld
import Derived.Lib.SmallJoins
namespace Go.Proofs.Ytoldjpnkgdhpkaa
open Go.ChangeShapes Go.WideShapes Go.ChangeAt Go.RowKit Go.Joins
set_option linter.unusedVariables false

theorem own : ownKnob Try.prog.godebug = none := by kernel_rfl
theorem laidOut : laidOutB Try.prog = true := by kernel_rfl

section
variable {H : Type} {enc : TypeId × Value → H} {w : World} {base : Nat} {sp : Nat → Bool} {held : Bool}

theorem block_lt {p : Addr} {v : Value} (h : w.cell? p = some v) : p.block < w.heap.size := by
  rcases Nat.lt_or_ge p.block w.heap.size with hlt | hge
  · exact hlt
  · simp [World.cell?, Array.getElem?_eq_none hge] at h

/-- A slice of numbers that is read. -/
theorem open_list {k : IntKind} {t e : TypeId} {fuel : Nat} {v : Value} {x : DataW H × List MemPlace} (ht : Try.prog.underlying t = some (.slice e)) (he : Try.prog.underlying e = some (.int k)) (hc : Try.prog.cellsOf e = 1)
    (h : DataW.trod enc Try.prog w base sp held fuel t [v] = some x) :
    ∃ (A : Option Addr) (xs : List Int) (c : Nat), v = .slice A xs.length c ∧ Rd w w.heap.size k A xs ∧ xs.length ≤ c ∧ c ≤ maxLen ∧ ∀ z ∈ xs, (Lit.int k z).wf = true := by
  rcases open_ints ht he hc h with ⟨hcs, _⟩ | ⟨a, l, c, zs, hcs, _, hl, hm, hz, _, hcell, hwz⟩
  · simp only [List.cons.injEq, and_true] at hcs
    subst hcs
    exact ⟨none, [], 0, rfl, Rd.nil, by simp, by simp, by simp⟩
  · simp only [List.cons.injEq, and_true] at hcs
    subst hcs
    have hlz : l ≤ zs.length := by rw [hz]; split <;> omega
    refine ⟨some a, zs.take l, c, by rw [List.length_take, Nat.min_eq_left hlz], fun hn => ?_, by simp; omega, hm, fun z hz => hwz z (List.mem_of_mem_take hz)⟩
    have hl0 : 0 < l := by simp at hn; omega
    refine ⟨a, rfl, ?_, fun j hj => ?_⟩
    · have := block_lt (hcell 0 (by omega))
      rwa [block_of_plus] at this
    · have hjl : j < l := by simp at hj; omega
      rw [hcell j (by omega)]
      simp [List.getD, hjl]

theorem In.of {A : Option Addr} {xs : List Int} {c : Nat} (h1 : Rd w w.heap.size .i64 A xs) (h2 : xs.length ≤ c) (h3 : c ≤ maxLen) (h4 : ∀ z ∈ xs, (Lit.int .i64 z).wf = true) : In w A xs c :=
  ⟨h1, by unfold maxLen at h3; omega, h2, by unfold maxLen at h3; omega, fun z hz => bounds_i64 (h4 z hz)⟩
end
end Go.Proofs.Ytoldjpnkgdhpkaa
