/- Values and arrays of numbers as arguments; the wrap that keeps the row's condition and the world's shape. -/
import Derived.Test.YtiddnacmopfamaaDoorRows
import Derived.Test.YtiddnacmopfamaaDoorKyX
import Derived.Lib.SmallJoins
import Derived.ProofKit
import Derived.OpenShut
import Derived.ShutString
import Derived.ChangeMaps5
import Derived.Shelf.Vars
import Derived.SizedLaws
namespace Go.Proofs.YtiddnacmopfamaaDoor
open Go.ChangeShapes Go.WideShapes Go.ChangeAt Go.RowKit Go.Joins
open Go.ChangeMaps (open_string shut_string)
set_option linter.unusedVariables false
set_option linter.unusedSimpArgs false

theorem cV : Tryd.prog.cellsOf 23 = 3 := by kernel_rfl
theorem cI : Tryd.prog.cellsOf 3 = 1 := by kernel_rfl
theorem cA2 : Tryd.prog.cellsOf 68 = 2 := by kernel_rfl
theorem cA3 : Tryd.prog.cellsOf 24 = 3 := by kernel_rfl
theorem cA4 : Tryd.prog.cellsOf 59 = 4 := by kernel_rfl
section
variable {H : Type} {enc : TypeId × Value → H} {w : World} {base : Nat} {sp : Nat → Bool} {held : Bool}

/-- The value as data. -/
abbrev vd {H : Type} (k n : Int) (s : ByteArray) : DataW H := .agg [.lit (.int .i64 k), .lit (.int .i64 n), .lit (.string s.data.toList)]

set_option maxRecDepth 100000 in
theorem open_vv {r : Reach} {b0 : Nat} {v : Value} {d : DataW H} {p : List MemPlace} (hv : Value.okWide Tryd.prog w r b0 23 v) (h : DataW.Trod enc Tryd.prog w base sp held 23 v d p) :
    ∃ k n s, v = vv k n s ∧ d = vd k n s ∧ p = [] ∧ (Lit.int .i64 k).wf = true ∧ (Lit.int .i64 n).wf = true ∧ s.size ≤ maxLen := by
  obtain ⟨v0, v1, v2, y0, y1, y2, m, rfl, rfl, rfl, h0, h1, h2⟩ := open_agg3 Tryd.underlying23 (by kernel_rfl) cV hv h
  obtain ⟨k, e0, rfl, wk⟩ := DataW.trod_int Tryd.underlying3 h0
  obtain ⟨n, e1, rfl, wn⟩ := DataW.trod_int Tryd.underlying3 h1
  obtain ⟨s, e2, rfl, hs⟩ := DataW.trod_string Tryd.underlying9 h2
  simp only [List.cons.injEq, and_true] at e0 e1 e2
  subst e0 e1 e2
  exact ⟨k, n, s, rfl, rfl, rfl, wk, wn, hs⟩

set_option maxRecDepth 100000 in
theorem shut_vv {k n : Int} {s : ByteArray} (wk : (Lit.int .i64 k).wf = true) (wn : (Lit.int .i64 n).wf = true) (hs : s.size ≤ maxLen) : DataW.Trod enc Tryd.prog w base sp held 23 (vv k n s) (vd k n s) [] := by
  have t0 : ∃ m, DataW.trod enc Tryd.prog w base sp held m 3 [.int .i64 k] = some (.lit (.int .i64 k), []) := by
    have := shut_int (enc := enc) (w := w) (base := base) (spare := sp) (held := held) Tryd.underlying3 wk
    simpa [DataW.Trod, Value.cells] using this
  have t1 : ∃ m, DataW.trod enc Tryd.prog w base sp held m 3 [.int .i64 n] = some (.lit (.int .i64 n), []) := by
    have := shut_int (enc := enc) (w := w) (base := base) (spare := sp) (held := held) Tryd.underlying3 wn
    simpa [DataW.Trod, Value.cells] using this
  have t2 : ∃ m, DataW.trod enc Tryd.prog w base sp held m 9 [.string s] = some (.lit (.string s.data.toList), []) := by
    have := shut_string (enc := enc) (w := w) (base := base) (sp := sp) (held := held) Tryd.underlying9 hs
    simpa [DataW.Trod, Value.cells] using this
  have := shut_agg3 (enc := enc) (w := w) (base := base) (spare := sp) (held := held) Tryd.underlying23 (by kernel_rfl) cV t0 t1 t2
  simpa using this

set_option maxRecDepth 100000 in
theorem open_I2 {r : Reach} {b0 : Nat} {v : Value} {d : DataW H} {p : List MemPlace} (hv : Value.okWide Tryd.prog w r b0 68 v) (h : DataW.Trod enc Tryd.prog w base sp held 68 v d p) :
    ∃ a b : Int, v = .agg #[.int .i64 a, .int .i64 b] ∧ d = .agg [.lit (.int .i64 a), .lit (.int .i64 b)] ∧ p = [] ∧ (Lit.int .i64 a).wf = true ∧ (Lit.int .i64 b).wf = true := by
  obtain ⟨cs, rfl, hsz⟩ : ∃ cs : Array Value, v = .agg cs ∧ cs.size = 2 := by
    simp only [Value.okWide, Tryd.underlying68] at hv
    obtain ⟨cs, h1, h2, _⟩ := hv
    exact ⟨cs, h1, by rw [h2, cA2]⟩
  obtain ⟨fuel, hf⟩ := h
  obtain ⟨xs, m, rfl, hx, hl, hn, hel⟩ := DataW.trod_array Tryd.underlying68 hf
  obtain ⟨l⟩ := cs
  have hll : l.length = 2 := by simpa using hsz
  match l, hll, xs, hn with
  | [c0, c1], _, [x0, x1], _ =>
    have e0 := hel 0 (by decide)
    have e1 := hel 1 (by decide)
    rw [cI] at e0 e1
    simp [Value.cells] at e0 e1
    obtain ⟨a, a0, rfl, ha⟩ := DataW.trod_int Tryd.underlying3 e0
    obtain ⟨b, a1, rfl, hb⟩ := DataW.trod_int Tryd.underlying3 e1
    simp only [List.cons.injEq, and_true] at a0 a1
    subst a0 a1
    simp only [Prod.mk.injEq] at hx
    exact ⟨a, b, rfl, by simpa using hx.1, by simpa using hx.2, ha, hb⟩

set_option maxRecDepth 100000 in
theorem shut_I2 {a b : Int} (ha : (Lit.int .i64 a).wf = true) (hb : (Lit.int .i64 b).wf = true) :
    DataW.Trod enc Tryd.prog w base sp held 68 (.agg #[.int .i64 a, .int .i64 b]) (.agg [.lit (.int .i64 a), .lit (.int .i64 b)]) [] := by
  refine ⟨2, ?_⟩
  simp only [DataW.trod, Tryd.underlying68]
  rw [cA2, cI]
  simp [Value.cells, List.range, List.range.loop, Tryd.underlying3, ha, hb]

set_option maxRecDepth 100000 in
theorem open_I3 {r : Reach} {b0 : Nat} {v : Value} {d : DataW H} {p : List MemPlace} (hv : Value.okWide Tryd.prog w r b0 24 v) (h : DataW.Trod enc Tryd.prog w base sp held 24 v d p) :
    ∃ a b c : Int, v = .agg #[.int .i64 a, .int .i64 b, .int .i64 c] ∧ d = .agg [.lit (.int .i64 a), .lit (.int .i64 b), .lit (.int .i64 c)] ∧ p = [] ∧ (Lit.int .i64 a).wf = true ∧ (Lit.int .i64 b).wf = true ∧ (Lit.int .i64 c).wf = true := by
  obtain ⟨cs, rfl, hsz⟩ : ∃ cs : Array Value, v = .agg cs ∧ cs.size = 3 := by
    simp only [Value.okWide, Tryd.underlying24] at hv
    obtain ⟨cs, h1, h2, _⟩ := hv
    exact ⟨cs, h1, by rw [h2, cA3]⟩
  obtain ⟨fuel, hf⟩ := h
  obtain ⟨xs, m, rfl, hx, hl, hn, hel⟩ := DataW.trod_array Tryd.underlying24 hf
  obtain ⟨l⟩ := cs
  have hll : l.length = 3 := by simpa using hsz
  match l, hll, xs, hn with
  | [c0, c1, c2], _, [x0, x1, x2], _ =>
    have e0 := hel 0 (by decide)
    have e1 := hel 1 (by decide)
    have e2 := hel 2 (by decide)
    rw [cI] at e0 e1 e2
    simp [Value.cells] at e0 e1 e2
    obtain ⟨a, a0, rfl, ha⟩ := DataW.trod_int Tryd.underlying3 e0
    obtain ⟨b, a1, rfl, hb⟩ := DataW.trod_int Tryd.underlying3 e1
    obtain ⟨c, a2, rfl, hc⟩ := DataW.trod_int Tryd.underlying3 e2
    simp only [List.cons.injEq, and_true] at a0 a1 a2
    subst a0 a1 a2
    simp only [Prod.mk.injEq] at hx
    exact ⟨a, b, c, rfl, by simpa using hx.1, by simpa using hx.2, ha, hb, hc⟩

set_option maxRecDepth 100000 in
theorem shut_I3 {a b c : Int} (ha : (Lit.int .i64 a).wf = true) (hb : (Lit.int .i64 b).wf = true) (hc : (Lit.int .i64 c).wf = true) :
    DataW.Trod enc Tryd.prog w base sp held 24 (.agg #[.int .i64 a, .int .i64 b, .int .i64 c]) (.agg [.lit (.int .i64 a), .lit (.int .i64 b), .lit (.int .i64 c)]) [] := by
  refine ⟨2, ?_⟩
  simp only [DataW.trod, Tryd.underlying24]
  rw [cA3, cI]
  simp [Value.cells, List.range, List.range.loop, Tryd.underlying3, ha, hb, hc]

set_option maxRecDepth 100000 in
theorem open_I4 {r : Reach} {b0 : Nat} {v : Value} {d : DataW H} {p : List MemPlace} (hv : Value.okWide Tryd.prog w r b0 59 v) (h : DataW.Trod enc Tryd.prog w base sp held 59 v d p) :
    ∃ a b c u : Int, v = .agg #[.int .i64 a, .int .i64 b, .int .i64 c, .int .i64 u] ∧ d = .agg [.lit (.int .i64 a), .lit (.int .i64 b), .lit (.int .i64 c), .lit (.int .i64 u)] ∧ p = [] ∧ (Lit.int .i64 a).wf = true ∧ (Lit.int .i64 b).wf = true ∧ (Lit.int .i64 c).wf = true ∧ (Lit.int .i64 u).wf = true := by
  obtain ⟨cs, rfl, hsz⟩ : ∃ cs : Array Value, v = .agg cs ∧ cs.size = 4 := by
    simp only [Value.okWide, Tryd.underlying59] at hv
    obtain ⟨cs, h1, h2, _⟩ := hv
    exact ⟨cs, h1, by rw [h2, cA4]⟩
  obtain ⟨fuel, hf⟩ := h
  obtain ⟨xs, m, rfl, hx, hl, hn, hel⟩ := DataW.trod_array Tryd.underlying59 hf
  obtain ⟨l⟩ := cs
  have hll : l.length = 4 := by simpa using hsz
  match l, hll, xs, hn with
  | [c0, c1, c2, c3], _, [x0, x1, x2, x3], _ =>
    have e0 := hel 0 (by decide)
    have e1 := hel 1 (by decide)
    have e2 := hel 2 (by decide)
    have e3 := hel 3 (by decide)
    rw [cI] at e0 e1 e2 e3
    simp [Value.cells] at e0 e1 e2 e3
    obtain ⟨a, a0, rfl, ha⟩ := DataW.trod_int Tryd.underlying3 e0
    obtain ⟨b, a1, rfl, hb⟩ := DataW.trod_int Tryd.underlying3 e1
    obtain ⟨c, a2, rfl, hc⟩ := DataW.trod_int Tryd.underlying3 e2
    obtain ⟨u, a3, rfl, hu⟩ := DataW.trod_int Tryd.underlying3 e3
    simp only [List.cons.injEq, and_true] at a0 a1 a2 a3
    subst a0 a1 a2 a3
    simp only [Prod.mk.injEq] at hx
    exact ⟨a, b, c, u, rfl, by simpa using hx.1, by simpa using hx.2, ha, hb, hc, hu⟩

set_option maxRecDepth 100000 in
theorem shut_I4 {a b c u : Int} (ha : (Lit.int .i64 a).wf = true) (hb : (Lit.int .i64 b).wf = true) (hc : (Lit.int .i64 c).wf = true) (hu : (Lit.int .i64 u).wf = true) :
    DataW.Trod enc Tryd.prog w base sp held 59 (.agg #[.int .i64 a, .int .i64 b, .int .i64 c, .int .i64 u]) (.agg [.lit (.int .i64 a), .lit (.int .i64 b), .lit (.int .i64 c), .lit (.int .i64 u)]) [] := by
  refine ⟨2, ?_⟩
  simp only [DataW.trod, Tryd.underlying59]
  rw [cA4, cI]
  simp [Value.cells, List.range, List.range.loop, Tryd.underlying3, ha, hb, hc, hu]
end

section
variable {H : Type} {ts : List TypeId} {ds : List (DataW H)}
theorem sized_vv (h : (DataW.weightsEach Tryd.prog ts ds).all (· ≤ reachBytes) = true) {j : Nat} {k n : Int} {s : ByteArray} (ht : ts[j]? = some 23) (hd : ds[j]? = some (vd k n s)) : s.size ≤ 140737488355328 := by
  have := List.all_eq_true.1 h _ (DataW.weights_mem_each ht hd s.data.toList.length (by simp [DataW.weights, DataW.weightsEach, Tryd.underlying23]))
  have hl : s.data.toList.length = s.size := rfl
  have h2 : s.data.toList.length ≤ reachBytes := by simpa using this
  have := reachBytes_lt
  omega
theorem sized_str (h : (DataW.weightsEach Tryd.prog ts ds).all (· ≤ reachBytes) = true) {j : Nat} {t : TypeId} {s : ByteArray} (ht : ts[j]? = some t) (hd : ds[j]? = some (.lit (.string s.data.toList))) : s.size ≤ 140737488355328 := by
  have h2 : s.data.toList.length ≤ reachBytes := sized_string h ht hd
  have hl : s.data.toList.length = s.size := rfl
  have := reachBytes_lt
  omega
end
/-- 'returnsInHanded_of_change_and', the world's shape kept. -/
theorem wrap_shaped {H : Type} {enc : TypeId × Value → H} {a : Assume} {C : Checked} {os : Os} {f : FuncId} {fn : Func} {s : ChangeSpec} {conds : List PathCond} {apart fresh handsOn again : Bool} {X : World → Array Value → Prop}
    (hX : ∀ (w w' : World) (args : Array Value), w.heap = w'.heap → X w args → X w' args)
    (own : ownKnob C.prog.godebug = none) (started : os.Started) (noInit : C.prog.inits.idxOf? f = none) (hfn : C.prog.funcs[f]? = some fn)
    (witness : ∃ (w : World) (tape : Tape) (i : Input), w.os = os ∧ (w.forCall tape i).Shaped C.prog ∧ i.vars = [] ∧ Input.okWide C.prog (w.forCall tape i) .any w.heap.size f i ∧
      ((s.pre enc C.prog fn conds apart (w.forCall tape i).memory i.args ∧ X (w.forCall tape i).memory i.args) ∧ sizedMet enc C.prog fn (OpenSpec.ofChange s) apart (w.forCall tape i).memory i.args) ∧ a.holds C.prog (lone (Frame.enter C.prog f i.args .normal) [] (w.forCall tape i)))
    (contract : ∀ (W : World) (base : Nat) (args : Array Value) (ds gs : List (DataW H)) (before : List MemPlace),
      (∀ (j : Nat) t v, fn.params[j]? = some t → args[j]? = some v → Value.okWide C.prog W .any base t v) →
      DataW.Whole enc C.prog fn.params.toList s.vars apart W args.toList ds gs before →
      conds.all (PathCond.test C.prog ⟨fn.params.toList, ds, s.plain.varTypes C.prog, gs⟩) = true →
      (DataW.weightsEach C.prog (fn.params.toList ++ s.plain.varTypes C.prog) (ds ++ gs)).all (· ≤ reachBytes) = true → X W args → W.ShapedOpen C.prog →
      a.holds C.prog (lone (Frame.enter C.prog f args .normal) [] W) →
      Calls C.prog f args W fun e W' => ∃ v, e = .returned v ∧ s.post enc C.prog fn apart fresh handsOn again W args v W') :
    ReturnsInHanded a C os f .any (fun w args => (s.pre enc C.prog fn conds apart w args ∧ X w args) ∧ sizedMet enc C.prog fn (OpenSpec.ofChange s) apart w args) (s.post enc C.prog fn apart fresh handsOn again) := by
  refine returnsInHanded_of_calls own started noInit witness ?_
  intro w tape i _ hsh _ hok hpre hholds
  obtain ⟨_, _, _, fn', hfn', _, _, _, _, hval⟩ := hok
  have e : fn' = fn := Option.some.inj (hfn'.symm.trans hfn)
  subst e
  obtain ⟨⟨⟨ds, gs, before, hw, hc⟩, hx⟩, hz⟩ := hpre
  have hw' := DataW.Whole.of_heap (w' := w.forCall tape i) (by rfl) hw
  refine (contract (w.forCall tape i) w.heap.size i.args ds gs before hval hw' hc (hz.weights hw) (hX _ _ _ (by rfl) hx) hsh hholds).mono fun e W' ⟨v, he, hp⟩ => ?_
  subst he
  exact ChangeSpec.post_blind hp

theorem max_of_shape {W : World} (h : W.ShapedOpen Tryd.prog) : MaxL W :=
  cell_of_shapedOpen_int (g := 2) (t := 3) (zero := #[.int .i64 0]) h (of_decide_eq_true (by kernel_rfl)) (by kernel_rfl) rfl (by kernel_rfl) (by kernel_rfl) Tryd.underlying3
end Go.Proofs.YtiddnacmopfamaaDoor
