/- Operations: calls of functions, of function values, of methods, of yield. -/
import Derived.Test.YtafajhplaldeaaaGreatEvY
import Derived.RangeFuncCalls
import Derived.RangeFuncRecord
set_option linter.unusedVariables false
set_option linter.unusedSimpArgs false
namespace Go.Ev
open Go
attribute [local irreducible] PP

/-- the fence of an activation, of a round -/
def FF : Option Nat → Fence
  | none => Fence.wide
  | some l => Fence.wide.inRound l

theorem FF_fn (ro : Option Nat) (f : FuncId) : (FF ro).fn f := by cases ro <;> trivial
theorem FF_depth (ro : Option Nat) (n : Nat) : (FF ro).depth.isSome = true → 1 ≤ n := by cases ro <;> (intro h; cases h)
theorem FF_round (ro : Option Nat) : (FF ro).round = ro := by cases ro <;> rfl
theorem FF_calls {ro : Option Nat} {n : Nat} {f : FuncId} {args : Array Value} {w : World} {R : Ending → World → Prop} (h : CallsIn Fence.wide n PP f args w R) : CallsIn (FF ro) n PP f args w R := by
  cases ro <;> exact h
theorem FF_out {ro : Option Nat} {n : Nat} {f : FuncId} {args : Array Value} {w : World} {R : Ending → World → Prop} (h : CallsIn (FF ro) n PP f args w R) : CallsIn Fence.wide n PP f args w R := by
  cases ro <;> exact h

section
variable (E : Nat → Value)

/-- what the machine is asked to do next leads to a value and a world as K has it -/
def NextIn (ro : Option Nat) (r : Result Next) (K : Value → World → Prop) : Prop :=
  ∀ (o : Oper) (a : Act) (next : Act → World → Prop) (Q : Exit → Act → World → Prop), (∀ v w, K v w → next (a.put o.dst v) w) → o.uponIn (FF ro) 0 PP a next Q r

/-- in the great world: the piece leads to a value that is the small one's, and to a world that agrees -/
def NSnd (H : VH) (v : VV) (H' : VH) (S : Rho → World → Sem Next → Prop) : Prop :=
  VOk H → Mono H H' ∧ ∀ ρ w s, S ρ w s → Pre E H H' ρ w → ∀ ro, NextIn ro (s.run PP w) fun v' w' => ∃ ρ', conc E ρ' v = some v' ∧ Post E H H' ρ w ρ' w'

/-- a call of a function that has a text -/
def CallT (f : FuncId) (args : List VV) (H : VH) (v : VV) (H' : VH) : Prop :=
  (∃ fn c, PP.funcs[f]? = some fn ∧ fn.body = some c) ∧
  (VOk H → Mono H H' ∧ ∀ ρ w (args' : Array Value), concs E ρ args = some args'.toList → Pre E H H' ρ w →
    ∀ R, (∀ v' ρ' w', conc E ρ' v = some v' → Post E H H' ρ w ρ' w' → R (.returned v') w') → CallsIn Fence.wide 0 PP f args' w R)

/-- a round -/
def RoundT (l : Nat) (args : List VV) (H : VH) (v : VV) (H' : VH) : Prop :=
  VOk H → Mono H H' ∧ ∀ ρ w p (args' : Array Value), concs E ρ args = some args'.toList → ρ l 0 = some p → Pre E H H' ρ w →
    ∀ ro, NextIn ro ((Instr.yield p.blk args').run PP w) fun v' w' => ∃ ρ', conc E ρ' v = some v' ∧ Post E H H' ρ w ρ' w'

structure CallsOk (rec : Rec) : Prop where
  call : ∀ f args H v H', rec (.call f args H) = .ret v H' → CallT E f args H v H'
  round : ∀ l args H v H', rec (.round l args H) = .ret v H' → RoundT E l args H v H'

/-- what a function without a text does -/
def ExtOk (f : FuncId) : Ext → Prop
  | .twin g => ∀ args w, (callFunc f args).run PP w = .ok (.enter g args) w
  | e => ∀ args H v H', extV e args H = .ok v H' → NSnd E H v H' (fun ρ w s => ∃ args', concs E ρ args = some args'.toList ∧ s = callFunc f args')

structure Seat : Prop where
  plain : Plain E
  named : ∀ (f : FuncId) (fn : Func) (c : Code), PP.funcs[f]? = some fn → fn.body = some c → (fn.name == "runtime.NumGoroutine") = false
  ext : ∀ f e, XX f = some e → ExtOk E f e

variable {E}

theorem NSnd.weaken {H H' : VH} {v : VV} {S S' : Rho → World → Sem Next → Prop} (h : NSnd E H v H' S') (i : ∀ ρ w s, S ρ w s → S' ρ w s) : NSnd E H v H' S :=
  fun hv => let ⟨m, f⟩ := h hv; ⟨m, fun ρ w s hs hp => f ρ w s (i ρ w s hs) hp⟩

theorem NextIn.value {ro : Option Nat} {v : Value} {w : World} {K : Value → World → Prop} (h : K v w) : NextIn ro (.ok (.value v) w) K := fun _ _ _ _ hn => hn v w h
theorem NextIn.skip {ro : Option Nat} {w : World} {K : Value → World → Prop} (h : K undef w) : NextIn ro (.ok .skip w) K := fun _ _ _ _ hn => hn _ w h
theorem NextIn.mono {ro : Option Nat} {r : Result Next} {K K' : Value → World → Prop} (h : NextIn ro r K) (i : ∀ v w, K v w → K' v w) : NextIn ro r K' := fun o a next Q hn => h o a next Q fun v w hk => hn v w (i v w hk)

theorem NextIn.enter {ro : Option Nat} {f : FuncId} {args : Array Value} {w : World} {K : Value → World → Prop} (h : ∀ R, (∀ v w, K v w → R (.returned v) w) → CallsIn Fence.wide 0 PP f args w R) : NextIn ro (.ok (.enter f args) w) K := by
  intro o a next Q hn
  rw [Oper.uponIn_enter]
  exact ⟨FF_depth ro 0, FF_calls (h _ fun v w hk => hn v w hk)⟩

theorem plain_nxt (hE : Plain E) {o : Oper} {k : Cl} (hk : evPlain o.op = .ok k) {t : T VV} {H H' : VH} {v : VV} (h : k.f t H = .ok v H') : NSnd E H v H' (fun ρ w s => ∃ a, Sees E ρ t a o.op ∧ s = execOp a.eval o) := by
  intro hv
  obtain ⟨m, f⟩ := plain_snd hE hk h hv
  refine ⟨m, fun ρ w s ⟨a, hs, hse⟩ hp ro => ?_⟩
  subst hse
  obtain ⟨r, v', ρ', w', h1, h2, h3, h4⟩ := f ρ w a hp hs
  rw [h1]
  rcases h2 with rfl | ⟨rfl, rfl⟩
  · exact NextIn.value ⟨ρ', h3, h4⟩
  · exact NextIn.skip ⟨ρ', h3, h4⟩

theorem retOf_ok {r : Res} {v : VV} {H : VH} : retOf r = .ok v H ↔ r = .ret v H := by
  cases r <;> simp [retOf]

theorem run_enter {f : FuncId} {fn : Func} {c : Code} (hf : PP.funcs[f]? = some fn) (hname : (fn.name == "runtime.NumGoroutine") = false) (hb : fn.body = some c) (args : Array Value) (w : World) :
    (callFunc f args).run PP w = .ok (.enter f args) w := by
  have h1 : fn.name ≠ "runtime.NumGoroutine" := by simpa using hname
  simp [callFunc, hf, h1, hb]

theorem callF_snd (hE : Seat E) {rec : Rec} (hr : CallsOk E rec) {f : FuncId} {args : List VV} {H H' : VH} {v : VV} (h : (callF f).f rec args H = .ok v H') :
    NSnd E H v H' (fun ρ w s => ∃ args', concs E ρ args = some args'.toList ∧ s = callFunc f args') := by
  unfold callF at h
  have enter : ∀ (g : FuncId), CallT E g args H v H' → (∀ args w, (callFunc f args).run PP w = .ok (.enter g args) w) → NSnd E H v H' (fun ρ w s => ∃ args', concs E ρ args = some args'.toList ∧ s = callFunc f args') := by
    intro g hg he hv
    obtain ⟨m, hc⟩ := hg.2 hv
    refine ⟨m, fun ρ w s ⟨args', ha, hs⟩ hp ro => ?_⟩
    subst hs
    rw [he]
    exact NextIn.enter fun R hR => hc ρ w args' ha hp R fun v' ρ' w' h1 h2 => hR v' w' ⟨ρ', h1, h2⟩
  cases hx : XX f with
  | none =>
    rw [hx] at h
    simp only [retOf_ok] at h
    have hg := hr.call _ _ _ _ _ h
    obtain ⟨fn, c, hf, hb⟩ := hg.1
    exact enter f hg fun args w => run_enter hf (hE.named f fn c hf hb) hb args w
  | some e =>
    rw [hx] at h
    have he := hE.ext f e hx
    cases e
    case twin g =>
      simp only [retOf_ok] at h
      exact enter g (hr.call _ _ _ _ _ h) he
    all_goals exact he args H v H' h

theorem concs_cons {ρ : Rho} {x : VV} {l : List VV} {y : Value} {r : List Value} (hx : conc E ρ x = some y) (hl : concs E ρ l = some r) : concs E ρ (x :: l) = some (y :: r) := by
  simp [concs, hx, hl]

theorem callM_snd (hE : Seat E) {rec : Rec} (hr : CallsOk E rec) {x : VV} {name : String} {args : List VV} {H H' : VH} {v : VV} (h : callM rec x name args H = .ok v H') :
    NSnd E H v H' (fun ρ w s => ∃ x' args', conc E ρ x = some x' ∧ concs E ρ args = some args'.toList ∧ s = callMethod x' name args') := by
  unfold callM at h
  cases x <;> try (simp only [reduceCtorEq] at h; done)
  rename_i t y
  rw [RV.of_ok] at h
  obtain ⟨f, hf, h⟩ := h
  have hc := callF_snd hE hr h
  intro hv
  obtain ⟨m, hc⟩ := hc hv
  refine ⟨m, fun ρ w s ⟨x', args', hx, ha, hs⟩ hp ro => ?_⟩
  subst hs
  simp only [conc, Option.map_eq_some_iff] at hx
  obtain ⟨y', hy, rfl⟩ := hx
  have hmeth : ∀ n, (method (n + 1) t y' name).run PP w = .ok (f, y') w := by
    intro n
    unfold methOf at hf
    cases hi : PP.info? t with
    | none => rw [hi] at hf; cases hf
    | some i =>
      rw [hi] at hf
      simp only at hf
      cases hm : i.methods.find? (fun m => m.name == name) with
      | none => rw [hm] at hf; cases hf
      | some mm =>
        rw [hm] at hf
        simp only at hf
        have hfin : mm.path.isEmpty = true := by
          cases he : mm.path.isEmpty with
          | true => rfl
          | false => rw [he] at hf; simp only [reduceCtorEq] at hf
        have hpath : mm.path.toList = [] := by simpa using hfin
        rw [hfin] at hf
        simp only [method, Sem.run_bind, run_info hi, Result.andThen_ok, hm, hpath, follow, Sem.run_pure]
        cases hfu : mm.func with
        | none => rw [hfu] at hf; simp only [reduceCtorEq] at hf
        | some fb =>
          obtain ⟨g, b⟩ := fb
          rw [hfu] at hf
          cases hu : PP.underlying t with
          | none => rw [hu] at hf; cases b <;> simp only [reduceCtorEq] at hf
          | some d =>
            rw [hu] at hf
            have hu' := run_und hu
            cases b with
            | true =>
              cases d <;> simp only [reduceCtorEq, Option.some.injEq] at hf
              subst hf
              simp only [receiverAt, Sem.run_bind, hu', Result.andThen_ok, Place.get, Sem.run_pure]
            | false =>
              cases d <;> simp only [reduceCtorEq, Option.some.injEq] at hf
              all_goals
                subst hf
                simp only [receiverAt, Sem.run_bind, hu', Result.andThen_ok, Place.get, Sem.run_pure]
  have := hc ρ w (callFunc f (#[y'] ++ args')) ⟨_, by rw [Array.toList_append]; exact concs_cons hy ha, rfl⟩ hp ro
  simp only [callMethod, Sem.run_bind, run_program, Result.andThen_ok]
  rw [show PP.types.size + Made.depth = (PP.types.size + (Made.depth - 1)) + 1 from rfl, hmeth]
  exact this

theorem callC_snd (hE : Seat E) {rec : Rec} (hr : CallsOk E rec) {x : VV} {args : List VV} {H H' : VH} {v : VV} (h : callC rec x args H = .ok v H') :
    NSnd E H v H' (fun ρ w s => ∃ x' args', conc E ρ x = some x' ∧ concs E ρ args = some args'.toList ∧ s = (do let d ← Deferred.ofValue x' args'; invoke d.target d.args)) := by
  unfold callC at h
  cases x <;> try (simp only [reduceCtorEq] at h; done)
  rename_i f first cap
  cases f <;> try (simp only [reduceCtorEq] at h; done)
  · rename_i f
    simp only [appN_eq] at h
    have hc := callF_snd hE hr h
    intro hv
    obtain ⟨m, hc⟩ := hc hv
    refine ⟨m, fun ρ w s ⟨x', args', hx, ha, hs⟩ hp ro => ?_⟩
    subst hs
    simp only [conc, fnOf, Option.bind_some, Option.bind_eq_some_iff, Option.map_eq_some_iff] at hx
    obtain ⟨a', ha', b', hb', rfl⟩ := hx
    have := hc ρ w (callFunc f (a'.toArray ++ args' ++ b'.toArray)) ⟨_, by
      rw [concs_append E ha' (concs_append E ha hb')]; simp, rfl⟩ hp ro
    simp only [Deferred.ofValue, Sem.run_bind, Sem.run_pure, Result.andThen_ok, invoke]
    exact this
  · rename_i l
    simp only [appN_eq, retOf_ok] at h
    intro hv
    obtain ⟨m, hc⟩ := hr.round _ _ _ _ _ h hv
    refine ⟨m, fun ρ w s ⟨x', args', hx, ha, hs⟩ hp ro => ?_⟩
    subst hs
    simp only [conc, fnOf, Option.bind_eq_some_iff, Option.map_eq_some_iff] at hx
    obtain ⟨f', ⟨p, hpl, rfl⟩, a', ha', b', hb', rfl⟩ := hx
    have := hc ρ w p (a'.toArray ++ args') (by rw [concs_append E ha' ha]; simp) hpl hp ro
    simp only [Deferred.ofValue, Sem.run_bind, Sem.run_pure, Result.andThen_ok, invoke]
    exact this

end
end Go.Ev
