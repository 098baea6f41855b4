/- Arrays of two numbers, and of three texts, as arguments. -/
import Derived.Test.YtgeikbcfjidgcaaDoorRows
import Derived.Test.YtgeikbcfjidgcaaDoorPgL
import Derived.Lib.SmallJoins
import Derived.ProofKit
import Derived.OpenShut
import Derived.ShutString
import Derived.ChangeMaps5
namespace Go.Proofs.YtgeikbcfjidgcaaDoor
open Go.ChangeShapes Go.WideShapes Go.ChangeAt Go.RowKit Go.Joins
open Go.ChangeMaps (open_string shut_string)
set_option linter.unusedVariables false

theorem cA2 : Tryd.prog.cellsOf 30 = 2 := by kernel_rfl
theorem cA3 : Tryd.prog.cellsOf 40 = 3 := by kernel_rfl
theorem cI : Tryd.prog.cellsOf 3 = 1 := by kernel_rfl
theorem cS : Tryd.prog.cellsOf 9 = 1 := by kernel_rfl

section
variable {H : Type} {enc : TypeId × Value → H} {w : World} {base : Nat} {sp : Nat → Bool} {held : Bool}

set_option maxRecDepth 100000 in
theorem open_pairI {r : Reach} {b0 : Nat} {v : Value} {d : DataW H} {p : List MemPlace} (hv : Value.okWide Tryd.prog w r b0 30 v) (h : DataW.Trod enc Tryd.prog w base sp held 30 v d p) :
    ∃ a b : Int, v = .agg #[.int .i64 a, .int .i64 b] ∧ d = .agg [.lit (.int .i64 a), .lit (.int .i64 b)] ∧ p = [] ∧ (Lit.int .i64 a).wf = true ∧ (Lit.int .i64 b).wf = true := by
  obtain ⟨cs, rfl, hsz⟩ : ∃ cs : Array Value, v = .agg cs ∧ cs.size = 2 := by
    simp only [Value.okWide, Tryd.underlying30] at hv
    obtain ⟨cs, h1, h2, _⟩ := hv
    exact ⟨cs, h1, by rw [h2, cA2]⟩
  obtain ⟨fuel, hf⟩ := h
  obtain ⟨xs, m, rfl, hx, hl, hn, hel⟩ := DataW.trod_array Tryd.underlying30 hf
  obtain ⟨l⟩ := cs
  have hll : l.length = 2 := by simpa using hsz
  match l, hll, xs, hn with
  | [c0, c1], _, [x0, x1], _ =>
    have e0 := hel 0 (by decide)
    have e1 := hel 1 (by decide)
    rw [cI] at e0 e1
    simp [Value.cells] at e0 e1
    obtain ⟨s, a0, rfl, hs⟩ := DataW.trod_int Tryd.underlying3 e0
    obtain ⟨t, a1, rfl, ht⟩ := DataW.trod_int Tryd.underlying3 e1
    simp only [List.cons.injEq, and_true] at a0 a1
    subst a0 a1
    simp only [Prod.mk.injEq] at hx
    exact ⟨s, t, rfl, by simpa using hx.1, by simpa using hx.2, hs, ht⟩

set_option maxRecDepth 100000 in
theorem shut_pairI {a b : Int} (ha : (Lit.int .i64 a).wf = true) (hb : (Lit.int .i64 b).wf = true) :
    DataW.Trod enc Tryd.prog w base sp held 30 (.agg #[.int .i64 a, .int .i64 b]) (.agg [.lit (.int .i64 a), .lit (.int .i64 b)]) [] := by
  refine ⟨2, ?_⟩
  simp only [DataW.trod, Tryd.underlying30]
  rw [cA2, cI]
  simp [Value.cells, List.range, List.range.loop, Tryd.underlying3, ha, hb]

set_option maxRecDepth 100000 in
theorem open_threeS {r : Reach} {b0 : Nat} {v : Value} {d : DataW H} {p : List MemPlace} (hv : Value.okWide Tryd.prog w r b0 40 v) (h : DataW.Trod enc Tryd.prog w base sp held 40 v d p) :
    ∃ s t u : ByteArray, v = .agg #[.string s, .string t, .string u] ∧ d = .agg [.lit (.string s.data.toList), .lit (.string t.data.toList), .lit (.string u.data.toList)] ∧ p = [] ∧ s.size ≤ maxLen ∧ t.size ≤ maxLen ∧ u.size ≤ maxLen := by
  obtain ⟨cs, rfl, hsz⟩ : ∃ cs : Array Value, v = .agg cs ∧ cs.size = 3 := by
    simp only [Value.okWide, Tryd.underlying40] at hv
    obtain ⟨cs, h1, h2, _⟩ := hv
    exact ⟨cs, h1, by rw [h2, cA3]⟩
  obtain ⟨fuel, hf⟩ := h
  obtain ⟨xs, m, rfl, hx, hl, hn, hel⟩ := DataW.trod_array Tryd.underlying40 hf
  obtain ⟨l⟩ := cs
  have hll : l.length = 3 := by simpa using hsz
  match l, hll, xs, hn with
  | [c0, c1, c2], _, [x0, x1, x2], _ =>
    have e0 := hel 0 (by decide)
    have e1 := hel 1 (by decide)
    have e2 := hel 2 (by decide)
    rw [cS] at e0 e1 e2
    simp [Value.cells] at e0 e1 e2
    obtain ⟨s, a0, rfl, hs⟩ := DataW.trod_string Tryd.underlying9 e0
    obtain ⟨t, a1, rfl, ht⟩ := DataW.trod_string Tryd.underlying9 e1
    obtain ⟨u, a2, rfl, hu⟩ := DataW.trod_string Tryd.underlying9 e2
    simp only [List.cons.injEq, and_true] at a0 a1 a2
    subst a0 a1 a2
    simp only [Prod.mk.injEq] at hx
    exact ⟨s, t, u, rfl, by simpa using hx.1, by simpa using hx.2, hs, ht, hu⟩

set_option maxRecDepth 100000 in
theorem shut_threeS {s t u : ByteArray} (hs : s.size ≤ maxLen) (ht : t.size ≤ maxLen) (hu : u.size ≤ maxLen) :
    DataW.Trod enc Tryd.prog w base sp held 40 (.agg #[.string s, .string t, .string u]) (.agg [.lit (.string s.data.toList), .lit (.string t.data.toList), .lit (.string u.data.toList)]) [] := by
  refine ⟨2, ?_⟩
  simp only [DataW.trod, Tryd.underlying40]
  rw [cA3, cS]
  simp [Value.cells, List.range, List.range.loop, Tryd.underlying9, hs, ht, hu]
end
end Go.Proofs.YtgeikbcfjidgcaaDoor
