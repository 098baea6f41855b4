/- Functions without a text: what they do in the great world. -/
import Derived.Test.YtafajhplaldeaaaGreatEvD1
import Derived.Laws.LoneSync
set_option linter.unusedVariables false
set_option linter.unusedSimpArgs false
namespace Go.Ev
open Go
attribute [local irreducible] PP

section
variable {E : Nat → Value}

/-- the four closed facts on a function without a text -/
structure IsExt (f : FuncId) (e : Array Value → Sem Value) : Prop where
  is : ∃ fn, PP.funcs[f]? = some fn ∧ (fn.name == "runtime.NumGoroutine") = false ∧ fn.body.isNone = true ∧ Extern.findNext fn = none ∧ Extern.find fn = some e

theorem IsExt.run {f : FuncId} {e : Array Value → Sem Value} (h : IsExt f e) (args : Array Value) (w : World) : (callFunc f args).run PP w = ((e args).run PP w).andThen fun v w' => .ok (.value v) w' := by
  obtain ⟨fn, h1, h2, h3, h4, h5⟩ := h.is
  exact run_callFunc_extern h1 h2 h3 h4 h5 args w

theorem IsExt.snd {f : FuncId} {e : Array Value → Sem Value} (hx : IsExt f e) {args : List VV} {H H' : VH} {v : VV} (h : VSnd E H v H' (fun ρ w s => ∃ args', concs E ρ args = some args'.toList ∧ s = e args')) :
    NSnd E H v H' (fun ρ w s => ∃ args', concs E ρ args = some args'.toList ∧ s = callFunc f args') := by
  intro hv
  obtain ⟨m, g⟩ := h hv
  refine ⟨m, fun ρ w s ⟨args', ha, hs⟩ hp ro => ?_⟩
  subst hs
  obtain ⟨v', ρ', w', h1, h2, h3⟩ := g ρ w _ ⟨args', ha, rfl⟩ hp
  rw [hx.run, h1]
  exact NextIn.value ⟨ρ', h2, h3⟩

theorem concs_one {ρ : Rho} {x : VV} {a : Array Value} (h : concs E ρ [x] = some a.toList) : ∃ y, conc E ρ x = some y ∧ a = #[y] := by
  simp only [concs, Option.bind_eq_some_iff, Option.map_eq_some_iff] at h
  obtain ⟨y, hy, l, hl, he⟩ := h
  simp only [Option.some.injEq] at hl
  subst hl
  exact ⟨y, hy, by apply Array.toList_inj.1; rw [← he]⟩
theorem concs_two {ρ : Rho} {x x1 : VV} {a : Array Value} (h : concs E ρ [x, x1] = some a.toList) : ∃ y y1, conc E ρ x = some y ∧ conc E ρ x1 = some y1 ∧ a = #[y, y1] := by
  simp only [concs, Option.bind_eq_some_iff, Option.map_eq_some_iff] at h
  obtain ⟨y, hy, l, ⟨y1, hy1, l1, hl1, rfl⟩, he⟩ := h
  simp only [Option.some.injEq] at hl1
  subst hl1
  exact ⟨y, y1, hy, hy1, by apply Array.toList_inj.1; rw [← he]⟩
theorem concs_three {ρ : Rho} {x x1 x2 : VV} {a : Array Value} (h : concs E ρ [x, x1, x2] = some a.toList) : ∃ y y1 y2, conc E ρ x = some y ∧ conc E ρ x1 = some y1 ∧ conc E ρ x2 = some y2 ∧ a = #[y, y1, y2] := by
  simp only [concs, Option.bind_eq_some_iff, Option.map_eq_some_iff] at h
  obtain ⟨y, hy, l, ⟨y1, hy1, l1, ⟨y2, hy2, l2, hl2, rfl⟩, rfl⟩, he⟩ := h
  simp only [Option.some.injEq] at hl2
  subst hl2
  exact ⟨y, y1, y2, hy, hy1, hy2, by apply Array.toList_inj.1; rw [← he]⟩

/-- it hands back what it gets -/
theorem ext_same {f : FuncId} (hx : IsExt f Extern.AbiNoEscape.same) : ExtOk E f .same := by
  intro args H v H' h
  refine hx.snd ?_
  unfold extV at h
  match args, h with
  | [x], h =>
    simp only [RV.ok.injEq] at h
    obtain ⟨rfl, rfl⟩ := h
    refine VSnd.pure ?_
    rintro ρ w s ⟨args', ha, rfl⟩ _
    obtain ⟨y, hy, rfl⟩ := concs_one ha
    exact ⟨y, rfl, hy⟩

/-- it does nothing -/
theorem ext_nothing {f : FuncId} {e : Array Value → Sem Value} (hx : IsExt f e) (he : ∀ args w, (e args).run PP w = .ok (.tuple #[]) w) : ExtOk E f .nothing := by
  intro args H v H' h
  refine hx.snd ?_
  unfold extV at h
  simp only [RV.ok.injEq] at h
  obtain ⟨rfl, rfl⟩ := h
  refine VSnd.pure ?_
  rintro ρ w s ⟨args', ha, rfl⟩ _
  exact ⟨_, he _ _, rfl⟩

/-! ### cells read and written whole -/
theorem cell_at {ρ : Rho} {w : World} {b u o : Nat} {r : Row} {p : Pl} {x : VV} (h : RowOk E ρ w b u r) (hp : ρ b u = some p) (hx : r.c[o]? = some x) :
    ∃ y, conc E ρ x = some y ∧ w.cell? ⟨p.blk, p.base + o, none⟩ = some y := by
  obtain ⟨q, C, lo, hi, a1, a2, a3, a4, a5, a6, a7, a8⟩ := h
  rw [a1] at hp; cases hp
  obtain ⟨y, hy, hc⟩ := a6 o x hx
  exact ⟨y, hy, by simp [World.cell?, a3, hc]⟩

theorem free_at {ρ : Rho} {w : World} {b u o : Nat} {r : Row} {p : Pl} (h : RowOk E ρ w b u r) (hp : ρ b u = some p) (hf : r.fz ≤ o) (ho : o < r.c.length) : w.frozen? ⟨p.blk, p.base + o, none⟩ = false := by
  obtain ⟨q, C, lo, hi, a1, a2, a3, a4, a5, a6, a7, a8⟩ := h
  rw [a1] at hp; cases hp
  have hno : ¬ (lo ≤ p.base + o ∧ p.base + o < hi) := by
    cases hm : r.mkd with
    | true => rw [hm] at a7; simp only at a7; omega
    | false => rw [hm] at a7; simp only at a7; omega
  simp only [World.frozen?, a3]
  simp only [Bool.and_eq_false_iff, decide_eq_false_iff_not]
  omega

theorem set_at (hE : Plain E) {ρ : Rho} {w : World} {b u o : Nat} {r : Row} {p : Pl} {x x0 : VV} {y : Value} (h : RowOk E ρ w b u r) (hp : ρ b u = some p) (hf : r.fz ≤ o) (h0 : r.c[o]? = some x0) (h1 : x.one = true) (hy : conc E ρ x = some y) :
    ∃ obj, w.setCell ⟨p.blk, p.base + o, none⟩ y = w.putObj p.blk obj ∧ p.blk < w.heap.size ∧ (∀ w', w'.heap[p.blk]? = some obj → RowOk E ρ w' b u { r with c := r.c.take o ++ [x] ++ r.c.drop (o + [x].length) }) := by
  have ho : o < r.c.length := (List.getElem?_eq_some_iff.1 h0).1
  obtain ⟨obj, hrun, hlt, hok⟩ := store_cells hE h hp hf (xs := [x]) (ys := [y]) (by simpa using h1) ho (concs_cons hy rfl)
  refine ⟨obj, ?_, hlt, hok⟩
  obtain ⟨z, _, hc⟩ := cell_at h hp h0
  have hfr := free_at h hp hf ho
  have hone : y.oneCell' = true := conc_one hE hy h1
  have e : (storeCells ⟨p.blk, p.base + o, none⟩ [y]).run PP w = .ok () (w.setCell ⟨p.blk, p.base + o, none⟩ y) := by
    show (do store (Addr.add ⟨p.blk, p.base + o, none⟩ 0) y; Pure.pure () : Sem Unit).run PP w = _
    rw [Sem.run_bind, show Addr.add ⟨p.blk, p.base + o, none⟩ 0 = ⟨p.blk, p.base + o, none⟩ from rfl, run_store PP w _ y _ hone, hc]
    simp [hfr, Result.andThen]
  rw [e] at hrun
  injection hrun

/-! ### atomic operations -/
theorem atom_ok {k : IntKind} {a : VV} {H H' : VH} {g : Nat → Nat → Nat → Int → VH → RV} {v : VV} (h : atomV k a H g = .ok v H') :
    ∃ b u o r x, a = .ptr b u o ∧ H.m.get b = some (.cells u r) ∧ r.c[o]? = some (.int k x) ∧ g b u o x (tch H b) = .ok v H' := by
  unfold atomV at h
  simp only [asPtr_ok, readOne_ok, asInt_ok, RV.when_ok, kEq_iff] at h
  obtain ⟨b, u, o, rfl, r, y, hr, hy, k', n, rfl, rfl, h⟩ := h
  exact ⟨b, u, o, r, n, rfl, hr, hy, h⟩

theorem ext_load {f : FuncId} {k : IntKind} (hx : IsExt f (Extern.Atomic.loadT (.int k))) : ExtOk E f (.loadA k) := by
  intro args H v H' h
  unfold extV at h
  match args, h with
  | [a], h =>
    obtain ⟨b, u, o, r, x, rfl, hr, hc, h⟩ := atom_ok h
    simp only [RV.ok.injEq] at h
    obtain ⟨rfl, rfl⟩ := h
    refine hx.snd (VSnd.touch hr (VSnd.pure ?_))
    rintro ρ w s ⟨⟨args', ha, rfl⟩, hR⟩ _
    obtain ⟨y, hy, rfl⟩ := concs_one ha
    obtain ⟨p, hp, rfl⟩ := conc_ptr hy
    obtain ⟨z, hz, hcell⟩ := cell_at hR hp hc
    simp only [conc, Option.some.injEq] at hz
    subst hz
    refine ⟨_, ?_, rfl⟩
    show (do Extern.Atomic.read (.int k) (← asAddr (.pointer (some ⟨p.blk, p.base + o, none⟩)))).run PP w = _
    simp [Extern.Atomic.read, asAddr, hcell, Result.andThen]

theorem ext_store (hE : Plain E) {f : FuncId} (hx : IsExt f Extern.Atomic.storeT) : ExtOk E f .storeA := by
  intro args H v H' h
  unfold extV at h
  match args, h with
  | [a, x], h =>
    simp only [asPtr_ok, writeCells_ok] at h
    obtain ⟨b, u, o, rfl, r, hr, hf, h1, hn, h⟩ := h
    simp only [RV.ok.injEq] at h
    obtain ⟨rfl, rfl⟩ := h
    refine hx.snd (VSnd.put hr ?_)
    rintro ρ w s ⟨args', ha, rfl⟩ _ hR
    obtain ⟨a', x', ha', hx', rfl⟩ := concs_two ha
    obtain ⟨p, hp, rfl⟩ := conc_ptr ha'
    have ho : o < r.c.length := hn
    obtain ⟨z, hz, hcell⟩ := cell_at hR hp (List.getElem?_eq_getElem ho)
    obtain ⟨obj, he, hlt, hok⟩ := set_at hE hR hp hf (List.getElem?_eq_getElem ho) (h1 x (by simp)) hx'
    refine ⟨.tuple #[], u, p, obj, w.putObj p.blk obj, hp, hlt, ?_, rfl, rfl, rfl, rfl, fun hw' => hok _ hw', rfl⟩
    show (do store (← asAddr (.pointer (some ⟨p.blk, p.base + o, none⟩))) x' .atomic; Pure.pure Extern.Atomic.none_).run PP w = _
    simp [asAddr, run_store PP w _ x' .atomic (conc_one hE hx' (h1 x (by simp))), hcell, free_at hR hp hf ho, Result.andThen, Extern.Atomic.none_, he]

theorem IsExt.back {f : FuncId} {e : Array Value → Sem Value} (hx : IsExt f e) {args : Array Value} {w w' : World} {v : Value} (h : (callFunc f args).run PP w = .ok (.value v) w') : (e args).run PP w = .ok v w' := by
  rw [hx.run] at h
  cases hr : (e args).run PP w <;> rw [hr] at h <;> simp [Result.andThen] at h
  obtain ⟨rfl, rfl⟩ := h
  rfl

theorem ext_cas (hE : Plain E) {f : FuncId} {k : IntKind} (hx : IsExt f (Extern.Atomic.casT (.int k))) : ExtOk E f (.cas k) := by
  intro args H v H' h
  unfold extV at h
  obtain ⟨fn, g1, g2, g3, g4, g5⟩ := hx.is
  match args, h with
  | [a, .int k' old, .int k2 new], h =>
    obtain ⟨b, u, o, r, x, rfl, hr, hc, h⟩ := atom_ok h
    simp only [RV.when_ok, kEq_iff, writeCells_ok, RV.ok.injEq] at h
    obtain ⟨rfl, rfl, he, r', hr', hf, h1, hn, rfl, rfl⟩ := h
    rw [eqI_iff, beq_iff_eq] at he
    subst he
    have hrr : r' = r := by
      have : (tch H b).m.get b = H.m.get b := rfl
      rw [this, hr] at hr'
      cases hr'; rfl
    subst hrr
    refine hx.snd (VSnd.touch hr (VSnd.put hr' ?_))
    rintro ρ w s ⟨⟨args', ha, rfl⟩, _⟩ _ hR
    obtain ⟨a', o', n', ha', ho', hn', rfl⟩ := concs_three ha
    obtain ⟨p, hp, rfl⟩ := conc_ptr ha'
    simp only [conc, Option.some.injEq] at ho' hn'
    subst ho' hn'
    obtain ⟨z, hz, hcell⟩ := cell_at hR hp hc
    simp only [conc, Option.some.injEq] at hz
    subst hz
    obtain ⟨obj, he, hlt, hok⟩ := set_at hE hR hp hf hc (x := .int k new) rfl rfl
    refine ⟨.bool true, u, p, obj, w.putObj p.blk obj, hp, hlt, ?_, rfl, rfl, rfl, rfl, fun hw' => hok _ hw', rfl⟩
    rw [← he]
    exact hx.back (run_call_cas_hit g1 g2 g3 g4 k g5 hcell (free_at hR hp hf hn))

theorem ext_add (hE : Plain E) {f : FuncId} {k : IntKind} (hx : IsExt f (Extern.Atomic.update (Op.intArith .add) k true)) : ExtOk E f (.addA k) := by
  intro args H v H' h
  unfold extV at h
  obtain ⟨fn, g1, g2, g3, g4, g5⟩ := hx.is
  match args, h with
  | [a, .int k' y], h =>
    obtain ⟨b, u, o, r, x, rfl, hr, hc, h⟩ := atom_ok h
    simp only [RV.when_ok, kEq_iff, intK_eq, writeCells_ok, RV.ok.injEq] at h
    obtain ⟨rfl, r', hr', hf, h1, hn, rfl, rfl⟩ := h
    have hrr : r' = r := by
      have : (tch H b).m.get b = H.m.get b := rfl
      rw [this, hr] at hr'
      cases hr'; rfl
    subst hrr
    refine hx.snd (VSnd.touch hr (VSnd.put hr' ?_))
    rintro ρ w s ⟨⟨args', ha, rfl⟩, _⟩ _ hR
    obtain ⟨a', o', ha', ho', rfl⟩ := concs_two ha
    obtain ⟨p, hp, rfl⟩ := conc_ptr ha'
    simp only [conc, Option.some.injEq] at ho'
    subst ho'
    obtain ⟨z, hz, hcell⟩ := cell_at hR hp hc
    simp only [conc, Option.some.injEq] at hz
    subst hz
    obtain ⟨obj, he, hlt, hok⟩ := set_at hE hR hp hf hc (x := .int k (wrapF k (Int.add x y))) rfl rfl
    refine ⟨.int k (wrapF k (Int.add x y)), u, p, obj, w.putObj p.blk obj, hp, hlt, ?_, rfl, rfl, rfl, rfl, fun hw' => hok _ hw', rfl⟩
    rw [← he]
    refine hx.back (run_call_add g1 g2 g3 g4 k g5 hcell (free_at hR hp hf hn) ?_)
    rw [wrapF_eq]; rfl
end
end Go.Ev
