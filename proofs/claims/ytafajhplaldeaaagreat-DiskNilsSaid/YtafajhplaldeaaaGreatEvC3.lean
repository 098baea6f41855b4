/- Functions: arguments, results, deferred calls. -/
import Derived.Test.YtafajhplaldeaaaGreatEvC2
set_option linter.unusedVariables false
set_option linter.unusedSimpArgs false
namespace Go.Ev
open Go
attribute [local irreducible] PP

/-! ### the small world -/
theorem onEnd_ret {r : Res} {k : List VD → T VV → VH → Res} {v : VV} {H : VH} (h : onEnd r k = .ret v H) : ∃ e ds t H1, r = .ex e ds t H1 ∧ (e = .normal ∨ e = .ret) ∧ k ds t H1 = .ret v H := by
  cases r with
  | ex e ds t H1 =>
    cases e with
    | normal => exact ⟨_, ds, t, H1, rfl, .inl rfl, h⟩
    | ret => exact ⟨_, ds, t, H1, rfl, .inr rfl, h⟩
    | exit id => cases h
    | goto l => cases h
  | ret v H1 => cases h
  | no s => cases h

noncomputable def setAll : List VV → Nat → T VV → T VV
  | [], _, t => t
  | v :: l, i, t => setAll l (i + 1) (t.set i v)

theorem argsT_eq {k : T VV → Res} : ∀ (l : List VV) (i : Nat) (t : T VV), argsT k l i t = k (setAll l i t)
  | [], i, t => rfl
  | v :: l, i, t => by
    unfold argsT setAll
    rw [T.setK_eq, argsT_eq l]

theorem getOr_setAll : ∀ (l : List VV) (i : Nat) (t : T VV) (j : Nat), getOr (setAll l i t) j = if i ≤ j then (l[j - i]?).getD (getOr t j) else getOr t j
  | [], i, t, j => by simp [setAll]
  | v :: l, i, t, j => by
    unfold setAll
    rw [getOr_setAll l, getOr_set]
    by_cases h1 : i ≤ j
    · rw [if_pos h1]
      by_cases h2 : i = j
      · subst h2
        rw [if_neg (by omega), if_pos rfl]; simp
      · rw [if_pos (by omega), if_neg h2, show j - i = (j - (i + 1)) + 1 by omega]; simp
    · rw [if_neg h1, if_neg (by omega), if_neg (by omega)]

theorem fnK_ok {f : FuncId} {n : Nat} {k : Cc} {rs : List ResultVar} (h : fnK f = .ok ⟨n, k, rs⟩) : ∃ fn c, PP.funcs[f]? = some fn ∧ fn.body = some c ∧ n = fn.ntmps ∧ codeK n c = .ok k ∧ rs = fn.results.toList := by
  unfold fnK at h
  cases hf : PP.funcs[f]? with
  | none => rw [hf] at h; cases h
  | some fn =>
    rw [hf] at h
    simp only at h
    cases hb : fn.body with
    | none => rw [hb] at h; cases h
    | some c =>
      rw [hb] at h
      simp only [natK_eq, R.bind_ok] at h
      obtain ⟨k', hk, h⟩ := h
      simp only [R.ok.injEq, FnC.mk.injEq] at h
      obtain ⟨rfl, rfl, rfl⟩ := h
      exact ⟨fn, c, rfl, hb, rfl, hk, rfl⟩

theorem stepCall_ret {rec : Rec} {f : FuncId} {args : List VV} {H : VH} {fin : List ResultVar → List VD → T VV → VH → Res} {v : VV} {H' : VH} (h : stepCall rec f args H fin = .ret v H') :
    ∃ fn c k e ds t1 H1, PP.funcs[f]? = some fn ∧ fn.body = some c ∧ codeK fn.ntmps c = .ok k ∧ args.length ≤ fn.ntmps ∧ k.f rec none [] (setAll args 0 .e) H = .ex e ds t1 H1 ∧ (e = .normal ∨ e = .ret) ∧ fin fn.results.toList ds t1 H1 = .ret v H' := by
  unfold stepCall at h
  cases hk : fnK f with
  | no s => rw [hk] at h; cases h
  | ok F =>
    rw [hk] at h
    obtain ⟨n, k, rs⟩ := F
    obtain ⟨fn, c, hf, hb, rfl, hc, rfl⟩ := fnK_ok hk
    have h2 : @Bool.rec (fun _ => Res) (.no "arguments") (argsT (fun t => onEnd (k.f rec none [] t H) fun ds t H => fin fn.results.toList ds t H) args 0 .e) (Nat.ble (lenN args) fn.ntmps) = .ret v H' := h
    cases hle : Nat.ble (lenN args) fn.ntmps with
    | false => rw [hle] at h2; cases h2
    | true =>
      rw [hle] at h2
      have h3 : argsT (fun t => onEnd (k.f rec none [] t H) fun ds t H => fin fn.results.toList ds t H) args 0 .e = .ret v H' := h2
      rw [argsT_eq] at h3
      obtain ⟨e, ds, t1, H1, h4, h5, h6⟩ := onEnd_ret h3
      rw [ble_iff, lenN_eq] at hle
      exact ⟨fn, c, k, e, ds, t1, H1, hf, hb, hc, hle, h4, h5, h6⟩

section
variable (E : Nat → Value)

/-- a deferred call of a function that has a text -/
def CallDT (f : FuncId) (args : List VV) (H : VH) (v : VV) (H' : VH) : Prop :=
  (∃ fn c, PP.funcs[f]? = some fn ∧ fn.body = some c) ∧
  (VOk H → Mono H H' ∧ ∀ ρ w (args' : Array Value) u, concs E ρ args = some args'.toList → Pre E H H' ρ w →
    ∀ R : Ending → World → Prop, (∀ v' ρ' w', conc E ρ' v = some v' → Post E H H' ρ w ρ' w' → R (.returned v') w') → CallsDIn Fence.wide 0 PP f args' u w fun e u' w' => u' = u ∧ R e w')

variable {E}

theorem act_enter {ρ : Rho} {args : List VV} {args' : Array Value} (h : concs E ρ args = some args'.toList) {n : Nat} (hn : args.length ≤ n) : ActOk E n ρ (setAll args 0 .e) { tmps := args' ++ Array.replicate (n - args'.size) undef, defers := [] } := by
  have hl := concs_length E h
  rw [Array.length_toList] at hl
  refine ⟨by simp; omega, fun i => ?_⟩
  unfold On
  rw [getOr_setAll, if_pos (Nat.zero_le _), Nat.sub_zero, getOr_e, Array.getD_eq_getD_getElem?]
  by_cases hi : i < args.length
  · obtain ⟨y, hy, hy2⟩ := concs_get E h i _ (List.getElem?_eq_getElem hi)
    rw [List.getElem?_eq_getElem hi, Option.getD_some, hy, Array.getElem?_append_left (by omega), ← Array.getElem?_toList, hy2]
    rfl
  · rw [List.getElem?_eq_none (by omega), Option.getD_none, Array.getElem?_append_right (by omega)]
    have : ((Array.replicate (n - args'.size) undef)[i - args'.size]?).getD undef = undef := by
      cases hx : (Array.replicate (n - args'.size) undef)[i - args'.size]? with
      | none => rfl
      | some x =>
        rw [Array.getElem?_replicate] at hx
        split at hx
        · cases hx; rfl
        · cases hx
    rw [this]; rfl

/-! ### results -/
theorem load_same {t : TypeId} {a : K (T VV → VV)} {k : Cl} (hk : loadK t a = .ok k) {sl : T VV} {H H' : VH} {v : VV} (h : k.f sl H = .ok v H') :
    VOk H → Mono H H' ∧ ∀ ρ w x', conc E ρ (a.f sl) = some x' → Pre E H H' ρ w → ∃ v', (do loadVar t (← Go.asAddr x') : Sem Value).run PP w = .ok v' w ∧ conc E ρ v = some v' ∧ Post E H H' ρ w ρ w := by
  intro hv
  unfold loadK at hk
  rw [descV_ok] at hk
  obtain ⟨d, hd, hk⟩ := hk
  rw [sizeV_ok] at hk
  obtain ⟨i, hi, hk⟩ := hk
  have fin : ∀ {b u o : Nat} {r : Row}, H.m.get b = some (.cells u r) → a.f sl = .ptr b u o → H' = tch H b →
      (∀ ρ w p, RowOk E ρ w b u r → ρ b u = some p → ∃ v', (loadVar t ⟨p.blk, p.base + o, none⟩).run PP w = .ok v' w ∧ conc E ρ v = some v') → Mono H H' ∧ ∀ ρ w x', conc E ρ (a.f sl) = some x' → Pre E H H' ρ w → ∃ v', (do loadVar t (← Go.asAddr x') : Sem Value).run PP w = .ok v' w ∧ conc E ρ v = some v' ∧ Post E H H' ρ w ρ w := by
    intro b u o r hr ha hH hf
    subst hH
    have m1 := Mono.tch hv b
    refine ⟨m1, fun ρ w x' hx hp => ?_⟩
    rw [ha] at hx
    obtain ⟨p, hpp, rfl⟩ := conc_ptr hx
    have hR := hp.ag b (hv.dom b _ hr) (tchT_in _ _) _ hr
    obtain ⟨v', h1, h2⟩ := hf ρ w p hR hpp
    exact ⟨v', by simp only [Go.asAddr, Sem.run_bind, Sem.run_pure, Result.andThen_ok]; exact h1, h2, Post.same E hp rfl rfl m1.ok rfl rfl rfl rfl⟩
  cases hg : isAggD d with
  | true =>
    rw [hg] at hk
    simp only [R.ok.injEq] at hk
    subst hk
    simp only [asPtr_ok, readCells_ok] at h
    obtain ⟨b, u, o, ha, r, hr, hn, h⟩ := h
    simp only [RV.ok.injEq] at h
    obtain ⟨rfl, rfl⟩ := h
    refine fin hr ha rfl fun ρ w p hR hp => ?_
    obtain ⟨xs, hxs, hl⟩ := load_cells E hR hp hn
    exact ⟨.agg xs.toArray, by simp [loadVar, run_agg hd, run_size hi, hg, hl], by simp [conc, hxs]⟩
  | false =>
    rw [hg] at hk
    simp only [R.ok.injEq] at hk
    subst hk
    simp only [asPtr_ok, readOne_ok] at h
    obtain ⟨b, u, o, ha, r, x, hr, hn, h⟩ := h
    simp only [RV.ok.injEq] at h
    obtain ⟨rfl, rfl⟩ := h
    refine fin hr ha rfl fun ρ w p hR hp => ?_
    obtain ⟨z, hz, hc⟩ := cell_row E hR hp hn
    exact ⟨z, by simp [loadVar, run_agg hd, hg, hc], hz⟩

/-- one result, as the machine reads it -/
def resOf (tmps : Array Value) (r : ResultVar) : Sem Value := match r with
  | .tmp t => Pure.pure (tmps.getD t undef)
  | .cell a t => do loadVar t (← Go.asAddr (tmps.getD a undef))

theorem results_eq (fn : Func) (tmps : Array Value) : results fn tmps = (do
    let vs ← fn.results.mapM (resOf tmps)
    Pure.pure (if h : vs.size = 1 then vs[0] else .tuple vs)) := rfl

theorem resultsV_snd {t : T VV} {k : List VV → VH → Res} {v : VV} {H' : VH} : ∀ (rs : List ResultVar) (acc : List VV) (H : VH), resultsV t rs acc H k = .ret v H' →
    ∃ vs H1, k (acc.reverse ++ vs) H1 = .ret v H' ∧ (VOk H → Mono H H1 ∧ ∀ ρ w (a : Act), (∀ i, On E ρ t a i) → Pre E H H1 ρ w → ∃ vs', concs E ρ vs = some vs' ∧ (rs.mapM (resOf a.tmps)).run PP w = .ok vs' w ∧ Post E H H1 ρ w ρ w) := by
  intro rs
  induction rs with
  | nil =>
    intro acc H h
    have h' : k acc.reverse H = .ret v H' := h
    have e : acc.reverse ++ [] = acc.reverse := List.append_nil _
    refine ⟨[], H, ?_, fun hv => ⟨Mono.refl hv, fun ρ w a _ hp => ⟨[], rfl, rfl, Post.refl E hp hv⟩⟩⟩
    rw [e]
    exact h'
  | cons r rs ih =>
    intro acc H h
    cases r with
    | tmp i =>
      have h : resultsV t rs (getOr t i :: acc) H k = .ret v H' := h
      obtain ⟨vs, H1, h1, h2⟩ := ih _ _ h
      refine ⟨getOr t i :: vs, H1, by rw [List.reverse_cons, List.append_assoc] at h1; exact h1, fun hv => ?_⟩
      obtain ⟨m, f⟩ := h2 hv
      refine ⟨m, fun ρ w a hon hp => ?_⟩
      obtain ⟨vs', e1, e2, e3⟩ := f ρ w a hon hp
      refine ⟨_, concs_cons (hon i) e1, ?_, e3⟩
      simp only [List.mapM_cons]
      rw [Sem.run_bind, show resOf a.tmps (.tmp i) = Pure.pure (a.tmps.getD i undef) from rfl, Sem.run_pure]
      simp only [Result.andThen_ok, Sem.run_bind, e2, Sem.run_pure]
    | cell x ty =>
      have h : (match loadK ty ⟨fun t => getOr t x⟩ with
        | .ok q => @RV.rec (fun _ => Res) (fun v H => resultsV t rs (v :: acc) H k) (fun w => .no w) (q.f t H)
        | .no w => .no w) = .ret v H' := h
      cases hq : loadK ty ⟨fun t => getOr t x⟩ with
      | no s => rw [hq] at h; cases h
      | ok q =>
        rw [hq] at h
        simp only at h
        cases hl : q.f t H with
        | no s => rw [hl] at h; cases h
        | ok y H2 =>
          rw [hl] at h
          have h' : resultsV t rs (y :: acc) H2 k = .ret v H' := h
          obtain ⟨vs, H1, h1, h2⟩ := ih _ _ h'
          refine ⟨y :: vs, H1, by rw [List.reverse_cons, List.append_assoc] at h1; exact h1, fun hv => ?_⟩
          obtain ⟨m1, f1⟩ := load_same (E := E) hq hl hv
          obtain ⟨m, f⟩ := h2 m1.ok
          refine ⟨m1.trans m, fun ρ w a hon hp => ?_⟩
          obtain ⟨y', r1, r2, r3⟩ := f1 ρ w _ (hon x) (hp.fst E m)
          obtain ⟨vs', e1, e2, e3⟩ := f ρ w a hon (hp.snd E m1 m r3)
          refine ⟨_, concs_cons r2 e1, ?_, Post.trans E hp m1 m r3 e3⟩
          simp only [List.mapM_cons]
          rw [Sem.run_bind, show resOf a.tmps (.cell x ty) = (do loadVar ty (← Go.asAddr (a.tmps.getD x undef)) : Sem Value) from rfl, r1]
          simp only [Result.andThen_ok, Sem.run_bind, e2, Sem.run_pure]

theorem tup_conc {ρ : Rho} {vs : List VV} {vs' : List Value} (h : concs E ρ vs = some vs') : conc E ρ (tupOf vs) = some (if h : vs'.toArray.size = 1 then vs'.toArray[0] else .tuple vs'.toArray) := by
  have hl := concs_length E h
  unfold tupOf
  split
  · rename_i v
    simp only [concs, Option.bind_eq_some_iff, Option.map_eq_some_iff] at h
    obtain ⟨a, ha, b, hb, rfl⟩ := h
    simp only [Option.some.injEq] at hb
    subst hb
    simp [ha]
  · rename_i hne
    have : ¬ vs'.toArray.size = 1 := fun e => by
      rw [List.size_toArray, hl] at e
      obtain ⟨x, hx⟩ := List.length_eq_one_iff.1 e
      exact hne x hx
    rw [dif_neg this]
    simp [conc, h]

theorem results_run {fn : Func} {tmps : Array Value} {vs' : List Value} {w : World} (h : (fn.results.toList.mapM (resOf tmps)).run PP w = .ok vs' w) : (results fn tmps).run PP w = .ok (if h : vs'.toArray.size = 1 then vs'.toArray[0] else .tuple vs'.toArray) w := by
  rw [results_eq, Sem.run_bind, Array.mapM_eq_mapM_toList, Sem.run_map, h]
  rfl

end
end Go.Ev
