/- A value as an argument: read, and written out again. -/
import Derived.Test.YtfgadkknfehkcaaDoorRows
import Derived.Test.YtfgadkknfehkcaaDoorVals
import Derived.Lib.SmallJoins
import Derived.ProofKit
import Derived.OpenShut
import Derived.ShutString
import Derived.ChangeMaps5
namespace Go.Proofs.YtfgadkknfehkcaaDoor
open Go.ChangeShapes Go.WideShapes Go.ChangeAt Go.RowKit Go.Joins
open Go.ChangeMaps (open_string shut_string)
set_option linter.unusedVariables false

theorem c23 : Tryd.prog.cellsOf 23 = 3 := by kernel_rfl

section
variable {H : Type} {enc : TypeId × Value → H} {w : World} {base : Nat} {sp : Nat → Bool} {held : Bool}

/-- The value as data. -/
abbrev vd {H : Type} (k n : Int) (s : ByteArray) : DataW H := .agg [.lit (.int .i64 k), .lit (.int .i64 n), .lit (.string s.data.toList)]

set_option maxRecDepth 100000 in
theorem open_vv {r : Reach} {b0 : Nat} {v : Value} {d : DataW H} {p : List MemPlace} (hv : Value.okWide Tryd.prog w r b0 23 v) (h : DataW.Trod enc Tryd.prog w base sp held 23 v d p) :
    ∃ k n s, v = vv k n s ∧ d = vd k n s ∧ p = [] ∧ (Lit.int .i64 k).wf = true ∧ (Lit.int .i64 n).wf = true ∧ s.size ≤ maxLen := by
  obtain ⟨v0, v1, v2, y0, y1, y2, m, rfl, rfl, rfl, h0, h1, h2⟩ := open_agg3 Tryd.underlying23 (by kernel_rfl) c23 hv h
  obtain ⟨k, e0, rfl, wk⟩ := DataW.trod_int Tryd.underlying3 h0
  obtain ⟨n, e1, rfl, wn⟩ := DataW.trod_int Tryd.underlying3 h1
  obtain ⟨s, e2, rfl, hs⟩ := DataW.trod_string Tryd.underlying9 h2
  simp only [List.cons.injEq, and_true] at e0 e1 e2
  subst e0 e1 e2
  exact ⟨k, n, s, rfl, rfl, rfl, wk, wn, hs⟩

set_option maxRecDepth 100000 in
theorem shut_vv {k n : Int} {s : ByteArray} (wk : (Lit.int .i64 k).wf = true) (wn : (Lit.int .i64 n).wf = true) (hs : s.size ≤ maxLen) : DataW.Trod enc Tryd.prog w base sp held 23 (vv k n s) (vd k n s) [] := by
  have t0 : ∃ m, DataW.trod enc Tryd.prog w base sp held m 3 [.int .i64 k] = some (.lit (.int .i64 k), []) := by
    have := shut_int (enc := enc) (w := w) (base := base) (spare := sp) (held := held) Tryd.underlying3 wk
    simpa [DataW.Trod, Value.cells] using this
  have t1 : ∃ m, DataW.trod enc Tryd.prog w base sp held m 3 [.int .i64 n] = some (.lit (.int .i64 n), []) := by
    have := shut_int (enc := enc) (w := w) (base := base) (spare := sp) (held := held) Tryd.underlying3 wn
    simpa [DataW.Trod, Value.cells] using this
  have t2 : ∃ m, DataW.trod enc Tryd.prog w base sp held m 9 [.string s] = some (.lit (.string s.data.toList), []) := by
    have := shut_string (enc := enc) (w := w) (base := base) (sp := sp) (held := held) Tryd.underlying9 hs
    simpa [DataW.Trod, Value.cells] using this
  have := shut_agg3 (enc := enc) (w := w) (base := base) (spare := sp) (held := held) Tryd.underlying23 (by kernel_rfl) c23 t0 t1 t2
  simpa using this
end
end Go.Proofs.YtfgadkknfehkcaaDoor
