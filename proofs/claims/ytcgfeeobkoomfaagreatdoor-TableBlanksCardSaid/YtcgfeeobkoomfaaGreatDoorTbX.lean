/- From the rows' condition to the tables; values and fields as arguments. -/
import Derived.Test.YtcgfeeobkoomfaaGreatDoorRows
import Derived.Test.YtcgfeeobkoomfaaGreatDoorTbW
import Derived.Lib.LaidU8
import Derived.Lib.SmallJoins
import Derived.ProofKit
import Derived.OpenShut
import Derived.ShutString
import Derived.ChangeMaps5
import Derived.Shelf.Vars
import Derived.SizedLaws
namespace Go.Proofs.YtcgfeeobkoomfaaGreatDoor
open Go.ChangeShapes Go.WideShapes Go.ChangeAt Go.RowKit Go.Joins Go.Lib
open Go.ChangeMaps (open_string shut_string)
set_option linter.unusedVariables false
set_option linter.unusedSimpArgs false

theorem own : ownKnob Tryz.prog.godebug = none := by kernel_rfl
theorem gSpans : Tryz.prog.globalNamed "cabinetry/page.spans" = some 1 := by kernel_rfl

theorem gSpansT : (Tryz.prog.globals[1]?).map (·.type) = some 178 := by kernel_rfl

theorem ccI : Tryz.prog.cellsOf 3 = 1 := by kernel_rfl

theorem cc75 : Tryz.prog.cellsOf 176 = 3 := by kernel_rfl

theorem cc76 : Tryz.prog.cellsOf 177 = 9 := by kernel_rfl

def spansR : List (List (List Int)) := [[[0, 127, 0], [1, 0, 0], [1, 0, 0]], [[0, 255, 0], [1, 0, 0], [1, 0, 0]], [[0, 127, 0], [128, 175, 1040], [224, 239, 1088]]]

theorem spans_datum : Rows.laid_cabinetry_page_spans = (.agg (spansR.map fun x => .agg (x.map fun y => tabData .i64 y)) : DataW Unit) := rfl

theorem getD_get {α : Type} (l : List α) (b : Nat) (d : α) (h : b < l.length) : l[b] = l.getD b d := by simp [List.getD, h]

theorem take3_at {α : Type} {cs : List α} {k c : Nat} {l : List α} (h : (cs.drop k).take 3 = l) (hc : c < 3) : cs[k + c]? = l[c]? := by
  rw [← h, List.getElem?_take, if_pos hc, List.getElem?_drop]

theorem sp_of_laid {l : List (String × DataW Unit)} {W : World} (h : laidMet Tryz.prog l W) (hm : ("cabinetry/page.spans", Rows.laid_cabinetry_page_spans) ∈ l) : SpTab W := by
  obtain ⟨g, t, cs, fuel, p, hg, ht, hvar, hd⟩ := laidMet.reads h hm
  obtain rfl := Option.some.inj (gSpans.symm.trans hg)
  obtain rfl := Option.some.inj (gSpansT.symm.trans ht)
  rw [spans_datum] at hd
  have key : ∀ a b c, a < 3 → b < 3 → c < 3 → cs.toList[a * 9 + (b * 3 + c)]? = some (.int .i64 (spansL.getD (a * 9 + (b * 3 + c)) 0)) := by
    intro a b c ha hb hc
    obtain ⟨f, d, q, hd1, h1⟩ := array_elem Tryz.underlying178 hd a ha
    rw [cc76] at h1
    have hd' : d = .agg ((spansR.getD a []).map fun y => tabData .i64 y) := by
      have hr : a < spansR.length := ha
      rw [List.getElem?_map, List.getElem?_eq_getElem hr] at hd1
      simp only [Option.map_some, Option.some.injEq] at hd1
      rw [← hd1]
      simp [List.getD, hr]
    subst hd'
    have hbl : b < (spansR.getD a []).length := by
      rcases (show a = 0 ∨ a = 1 ∨ a = 2 by omega) with rfl | rfl | rfl <;> exact hb
    obtain ⟨f2, d2, q2, hd2, h2⟩ := array_elem Tryz.underlying177 h1 b hb
    rw [cc75] at h2
    have hd2' : d2 = tabData .i64 ((spansR.getD a []).getD b []) := by
      rw [List.getElem?_map, List.getElem?_eq_getElem hbl] at hd2
      simp only [Option.map_some, Option.some.injEq] at hd2
      rw [← hd2]
      exact congrArg (tabData .i64) (getD_get _ _ [] hbl)
    subst hd2'
    have h3 := cells_of_tab Tryz.underlying176 Tryz.underlying3 ccI cc75 h2
    have h4 := take3_at h3 hc
    rw [List.getElem?_take, if_pos (by omega), List.getElem?_drop] at h4
    rw [h4]
    rcases (show a = 0 ∨ a = 1 ∨ a = 2 by omega) with rfl | rfl | rfl <;> rcases (show b = 0 ∨ b = 1 ∨ b = 2 by omega) with rfl | rfl | rfl <;> rcases (show c = 0 ∨ c = 1 ∨ c = 2 by omega) with rfl | rfl | rfl <;> rfl
  intro i hi
  have hk := key (i / 9) (i / 3 % 3) (i % 3) (by omega) (by omega) (by omega)
  rw [show i / 9 * 9 + (i / 3 % 3 * 3 + i % 3) = i by omega] at hk
  rw [World.var?_cell hg hvar i, ← Array.getElem?_toList]
  exact hk

theorem pow_datum : Rows.laid_internal_strconv_uint64pow10 = (tabData .u64 Lib.pow10Tab : DataW Unit) := rfl
set_option maxRecDepth 100000 in
theorem pow_of_laid {l : List (String × DataW Unit)} {W : World} (h : laidMet Tryz.prog l W) (hm : ("internal/strconv.uint64pow10", Rows.laid_internal_strconv_uint64pow10) ∈ l) : Pow W := by
  obtain ⟨g, t, cs, fuel, p, hg, ht, hvar, hd⟩ := laidMet.reads h hm
  obtain rfl := Option.some.inj (gPow.symm.trans hg)
  have ht' : (Tryz.prog.globals[5]?).map (·.type) = some 203 := by kernel_rfl
  obtain rfl := Option.some.inj (ht'.symm.trans ht)
  rw [pow_datum] at hd
  show TabIs Tryz.prog W "internal/strconv.uint64pow10" .u64 Lib.pow10Tab
  unfold TabIs
  rw [hvar, ← cells_of_tab Tryz.underlying203 Tryz.underlying153 (by kernel_rfl) (by kernel_rfl) hd]
theorem big_of_shape {W : World} (h : W.ShapedOpen Tryz.prog) : 8 ≤ W.heap.size := by
  obtain ⟨cs, hh, _⟩ := h.1 7 (Array.replicate 64 (.int .u8 0)) 208 (of_decide_eq_true (by kernel_rfl)) (by kernel_rfl)
  rcases Nat.lt_or_ge 7 W.heap.size with h' | h'
  · exact h'
  · simp [Array.getElem?_eq_none h'] at hh

theorem cV : Tryz.prog.cellsOf 51 = 3 := by kernel_rfl

theorem cI : Tryz.prog.cellsOf 3 = 1 := by kernel_rfl

theorem cF : Tryz.prog.cellsOf 49 = 4 := by kernel_rfl
section
variable {H : Type} {enc : TypeId × Value → H} {w : World} {base : Nat} {sp : Nat → Bool} {held : Bool}
/-- The value as data. -/
abbrev vd {H : Type} (k n : Int) (s : ByteArray) : DataW H := .agg [.lit (.int .i64 k), .lit (.int .i64 n), .lit (.string s.data.toList)]

set_option maxRecDepth 100000 in
theorem open_vv {r : Reach} {b0 : Nat} {v : Value} {d : DataW H} {p : List MemPlace} (hv : Value.okWide Tryz.prog w r b0 51 v) (h : DataW.Trod enc Tryz.prog w base sp held 51 v d p) :
    ∃ k n s, v = vv k n s ∧ d = vd k n s ∧ p = [] ∧ (Lit.int .i64 k).wf = true ∧ (Lit.int .i64 n).wf = true ∧ s.size ≤ maxLen := by
  obtain ⟨v0, v1, v2, y0, y1, y2, m, rfl, rfl, rfl, h0, h1, h2⟩ := open_agg3 Tryz.underlying51 (by kernel_rfl) cV hv h
  obtain ⟨k, e0, rfl, wk⟩ := DataW.trod_int Tryz.underlying3 h0
  obtain ⟨n, e1, rfl, wn⟩ := DataW.trod_int Tryz.underlying3 h1
  obtain ⟨s, e2, rfl, hs⟩ := DataW.trod_string Tryz.underlying9 h2
  simp only [List.cons.injEq, and_true] at e0 e1 e2
  subst e0 e1 e2
  exact ⟨k, n, s, rfl, rfl, rfl, wk, wn, hs⟩

set_option maxRecDepth 100000 in
theorem shut_vv {k n : Int} {s : ByteArray} (wk : (Lit.int .i64 k).wf = true) (wn : (Lit.int .i64 n).wf = true) (hs : s.size ≤ maxLen) : DataW.Trod enc Tryz.prog w base sp held 51 (vv k n s) (vd k n s) [] := by
  have t0 : ∃ m, DataW.trod enc Tryz.prog w base sp held m 3 [.int .i64 k] = some (.lit (.int .i64 k), []) := by
    have := shut_int (enc := enc) (w := w) (base := base) (spare := sp) (held := held) Tryz.underlying3 wk
    simpa [DataW.Trod, Value.cells] using this
  have t1 : ∃ m, DataW.trod enc Tryz.prog w base sp held m 3 [.int .i64 n] = some (.lit (.int .i64 n), []) := by
    have := shut_int (enc := enc) (w := w) (base := base) (spare := sp) (held := held) Tryz.underlying3 wn
    simpa [DataW.Trod, Value.cells] using this
  have t2 : ∃ m, DataW.trod enc Tryz.prog w base sp held m 9 [.string s] = some (.lit (.string s.data.toList), []) := by
    have := shut_string (enc := enc) (w := w) (base := base) (sp := sp) (held := held) Tryz.underlying9 hs
    simpa [DataW.Trod, Value.cells] using this
  have := shut_agg3 (enc := enc) (w := w) (base := base) (spare := sp) (held := held) Tryz.underlying51 (by kernel_rfl) cV t0 t1 t2
  simpa using this

/-- The field as data. -/
abbrev fd {H : Type} (nm : ByteArray) (k wd : Int) (nu : Bool) : DataW H := .agg [.lit (.string nm.data.toList), .lit (.int .i64 k), .lit (.int .i64 wd), .lit (.bool nu)]

set_option maxRecDepth 100000 in
theorem open_fd {r : Reach} {b0 : Nat} {v : Value} {d : DataW H} {p : List MemPlace} (hv : Value.okWide Tryz.prog w r b0 49 v) (h : DataW.Trod enc Tryz.prog w base sp held 49 v d p) :
    ∃ nm k n nu, v = fv nm k n nu ∧ d = fd nm k n nu ∧ p = [] ∧ nm.size ≤ maxLen ∧ (Lit.int .i64 k).wf = true ∧ (Lit.int .i64 n).wf = true := by
  obtain ⟨v0, v1, v2, v3, y0, y1, y2, y3, m, rfl, rfl, rfl, h0, h1, h2, h3⟩ := open_agg4 Tryz.underlying49 (by kernel_rfl) cF hv h
  obtain ⟨s, e2, rfl, hs⟩ := DataW.trod_string Tryz.underlying9 h0
  obtain ⟨k, e0, rfl, wk⟩ := DataW.trod_int Tryz.underlying3 h1
  obtain ⟨n, e1, rfl, wn⟩ := DataW.trod_int Tryz.underlying3 h2
  obtain ⟨b, e3, rfl⟩ := DataW.trod_bool Tryz.underlying4 h3
  simp only [List.cons.injEq, and_true] at e0 e1 e2 e3
  subst e0 e1 e2 e3
  exact ⟨s, k, n, b, rfl, rfl, rfl, hs, wk, wn⟩

set_option maxRecDepth 100000 in
theorem shut_fd {nm : ByteArray} {k n : Int} {nu : Bool} (hs : nm.size ≤ maxLen) (wk : (Lit.int .i64 k).wf = true) (wn : (Lit.int .i64 n).wf = true) : DataW.Trod enc Tryz.prog w base sp held 49 (fv nm k n nu) (fd nm k n nu) [] := by
  have t0 : ∃ m, DataW.trod enc Tryz.prog w base sp held m 9 [.string nm] = some (.lit (.string nm.data.toList), []) := by
    have := shut_string (enc := enc) (w := w) (base := base) (sp := sp) (held := held) Tryz.underlying9 hs
    simpa [DataW.Trod, Value.cells] using this
  have t1 : ∃ m, DataW.trod enc Tryz.prog w base sp held m 3 [.int .i64 k] = some (.lit (.int .i64 k), []) := by
    have := shut_int (enc := enc) (w := w) (base := base) (spare := sp) (held := held) Tryz.underlying3 wk
    simpa [DataW.Trod, Value.cells] using this
  have t2 : ∃ m, DataW.trod enc Tryz.prog w base sp held m 3 [.int .i64 n] = some (.lit (.int .i64 n), []) := by
    have := shut_int (enc := enc) (w := w) (base := base) (spare := sp) (held := held) Tryz.underlying3 wn
    simpa [DataW.Trod, Value.cells] using this
  have t3 : ∃ m, DataW.trod enc Tryz.prog w base sp held m 4 [.bool nu] = some (.lit (.bool nu), []) := by
    have := shut_bool (enc := enc) (w := w) (base := base) (spare := sp) (held := held) Tryz.underlying4 nu
    simpa [DataW.Trod, Value.cells] using this
  have := shut_agg4 (enc := enc) (w := w) (base := base) (spare := sp) (held := held) Tryz.underlying49 (by kernel_rfl) cF t0 t1 t2 t3
  simpa using this
end
/-- 'returnsInHanded_of_change_and', the world's shape kept. -/
theorem wrap_shaped {H : Type} {enc : TypeId × Value → H} {a : Assume} {C : Checked} {os : Os} {f : FuncId} {fn : Func} {s : ChangeSpec} {conds : List PathCond} {apart fresh handsOn again : Bool} {X : World → Array Value → Prop}
    (hX : ∀ (w w' : World) (args : Array Value), w.heap = w'.heap → X w args → X w' args)
    (own : ownKnob C.prog.godebug = none) (started : os.Started) (noInit : C.prog.inits.idxOf? f = none) (hfn : C.prog.funcs[f]? = some fn)
    (witness : ∃ (w : World) (tape : Tape) (i : Input), w.os = os ∧ (w.forCall tape i).Shaped C.prog ∧ i.vars = [] ∧ Input.okWide C.prog (w.forCall tape i) .any w.heap.size f i ∧
      ((s.pre enc C.prog fn conds apart (w.forCall tape i).memory i.args ∧ X (w.forCall tape i).memory i.args) ∧ sizedMet enc C.prog fn (OpenSpec.ofChange s) apart (w.forCall tape i).memory i.args) ∧ a.holds C.prog (lone (Frame.enter C.prog f i.args .normal) [] (w.forCall tape i)))
    (contract : ∀ (W : World) (base : Nat) (args : Array Value) (ds gs : List (DataW H)) (before : List MemPlace),
      (∀ (j : Nat) t v, fn.params[j]? = some t → args[j]? = some v → Value.okWide C.prog W .any base t v) →
      DataW.Whole enc C.prog fn.params.toList s.vars apart W args.toList ds gs before →
      conds.all (PathCond.test C.prog ⟨fn.params.toList, ds, s.plain.varTypes C.prog, gs⟩) = true →
      (DataW.weightsEach C.prog (fn.params.toList ++ s.plain.varTypes C.prog) (ds ++ gs)).all (· ≤ reachBytes) = true → X W args → W.ShapedOpen C.prog →
      a.holds C.prog (lone (Frame.enter C.prog f args .normal) [] W) →
      Calls C.prog f args W fun e W' => ∃ v, e = .returned v ∧ s.post enc C.prog fn apart fresh handsOn again W args v W') :
    ReturnsInHanded a C os f .any (fun w args => (s.pre enc C.prog fn conds apart w args ∧ X w args) ∧ sizedMet enc C.prog fn (OpenSpec.ofChange s) apart w args) (s.post enc C.prog fn apart fresh handsOn again) := by
  refine returnsInHanded_of_calls own started noInit witness ?_
  intro w tape i _ hsh _ hok hpre hholds
  obtain ⟨_, _, _, fn', hfn', _, _, _, _, hval⟩ := hok
  have e : fn' = fn := Option.some.inj (hfn'.symm.trans hfn)
  subst e
  obtain ⟨⟨⟨ds, gs, before, hw, hc⟩, hx⟩, hz⟩ := hpre
  have hw' := DataW.Whole.of_heap (w' := w.forCall tape i) (by rfl) hw
  refine (contract (w.forCall tape i) w.heap.size i.args ds gs before hval hw' hc (hz.weights hw) (hX _ _ _ (by rfl) hx) hsh hholds).mono fun e W' ⟨v, he, hp⟩ => ?_
  subst he
  exact ChangeSpec.post_blind hp

end Go.Proofs.YtcgfeeobkoomfaaGreatDoor
