/- Functions: a call, from its body. -/
import Derived.Test.YtafajhplaldeaaaGreatEvC3
set_option linter.unusedVariables false
set_option linter.unusedSimpArgs false
namespace Go.Ev
open Go
attribute [local irreducible] PP

section
variable {E : Nat → Value}

theorem dead_post {H : VH} {b : Nat} (hv : VOk H) (ho : H.m.get b = some .defs) : Mono H (puth H b .dead) ∧ ∀ ρ w p, Pre E H (puth H b .dead) ρ w → ρ b 0 = some p →
    (Instr.takeDeferred p.blk).run PP w = .ok [] (w.putObj p.blk (.deferred none)) ∧ Post E H (puth H b .dead) ρ w ρ (w.putObj p.blk (.deferred none)) := by
  have hb := hv.dom b _ ho
  have m := Mono.puth hv .dead hb
  refine ⟨m, fun ρ w p hp hpp => ?_⟩
  obtain ⟨q, hq, _, hw⟩ := hp.ag b hb (m.ok.wf _ (tchW_in _ _)) _ ho
  obtain rfl := Option.some.inj (hq.symm.trans hpp)
  exact ⟨run_takeDeferred hw, Post.put E hp rfl rfl m.ok hb (tchW_in _ _) hq rfl trivial rfl rfl rfl⟩

structure CallsDOk (E : Nat → Value) (rec : Rec) : Prop where
  callD : ∀ f args H v H', rec (.callD f args H) = .ret v H' → CallDT E f args H v H'

theorem runDefers_snd (hE : Seat E) {rec : Rec} (hr : CallsDOk E rec) {k : VH → Res} {v : VV} {H' : VH} : ∀ (ds : List VD) (H : VH), runDefers rec ds H k = .ret v H' →
    ∃ H1, k H1 = .ret v H' ∧ (VOk H → Mono H H1 ∧ ∀ ρ w (defers : List Deferred) (fn : Func) (tmps : Array Value) (R : Ending → World → Prop), DefsOk E ρ ds defers → Pre E H H1 ρ w →
      (∀ ρ' w', Post E H H1 ρ w ρ' w' → LeavesInM Fence.wide 0 PP fn tmps R [] .returning w') → LeavesInM Fence.wide 0 PP fn tmps R defers .returning w) := by
  intro ds
  induction ds with
  | nil =>
    intro H h
    have h : k H = .ret v H' := h
    refine ⟨H, h, fun hv => ⟨Mono.refl hv, fun ρ w defers fn tmps R hd hp hfin => ?_⟩⟩
    cases defers with
    | cons d l => exact hd.elim
    | nil => exact hfin ρ w (Post.refl E hp hv)
  | cons d ds ih =>
    intro H h
    cases d with
    | call f args =>
      have h : @Res.rec (fun _ => Res) (fun _ _ _ _ => .no "defer") (fun _ H => runDefers rec ds H k) (fun w => .no w) (rec (.callD f args H)) = .ret v H' := h
      cases hc : rec (.callD f args H) with
      | ex e a b c => rw [hc] at h; cases h
      | no s => rw [hc] at h; cases h
      | ret v1 H2 =>
        rw [hc] at h
        have h : runDefers rec ds H2 k = .ret v H' := h
        obtain ⟨H1, hk, hrest⟩ := ih H2 h
        obtain ⟨⟨fn0, c0, hf0, hb0⟩, hcall⟩ := hr.callD _ _ _ _ _ hc
        refine ⟨H1, hk, fun hv => ?_⟩
        obtain ⟨m1, f1⟩ := hcall hv
        obtain ⟨m2, f2⟩ := hrest m1.ok
        refine ⟨m1.trans m2, fun ρ w defers fn tmps R hd hp hfin => ?_⟩
        cases defers with
        | nil => exact hd.elim
        | cons d l =>
          obtain ⟨⟨cap, args', rfl, hargs⟩, hl⟩ := hd
          refine ⟨by simp, .inr ⟨fun h => (by cases h), .func f, cap, f, args' ++ cap, rfl, ?_, fun _ _ => trivial, ?_⟩⟩
          · exact run_enter hf0 (hE.named f fn0 c0 hf0 hb0) hb0 _ w
          · refine CallsDIn.mono (f1 ρ w (args' ++ cap) .returning hargs (hp.fst E m2) (fun e w' => match e with | .returned _ => LeavesInM Fence.wide 0 PP fn tmps R l .returning w' | _ => False) fun v' ρ' w' _ hpost => ?_) ?_
            · exact f2 ρ' w' l fn tmps R (hl.mono hpost.le) (hp.snd E m1 m2 hpost) fun ρ2 w2 hp2 => hfin ρ2 w2 (Post.trans E hp m1 m2 hpost hp2)
            · rintro e u' w' ⟨rfl, hR⟩
              cases e with
              | returned x => exact hR
              | panicked c => exact hR.elim
              | outgrown => exact hR.elim
    | mark b =>
      have h : (match H.m.get b with
        | some .defs => putR H b .dead fun H => runDefers rec ds H k
        | _ => .no "mark") = .ret v H' := h
      split at h
      · rename_i ho
        rw [putR_eq] at h
        obtain ⟨H1, hk, hrest⟩ := ih _ h
        refine ⟨H1, hk, fun hv => ?_⟩
        obtain ⟨m1, f1⟩ := dead_post (E := E) hv ho
        obtain ⟨m2, f2⟩ := hrest m1.ok
        refine ⟨m1.trans m2, fun ρ w defers fn tmps R hd hp hfin => ?_⟩
        cases defers with
        | nil => exact hd.elim
        | cons d l =>
          obtain ⟨⟨p, hpp, rfl⟩, hl⟩ := hd
          obtain ⟨e1, hpost⟩ := f1 ρ w p (hp.fst E m2) hpp
          refine ⟨by simp, .inl ⟨p.blk, _, rfl, e1, ?_⟩⟩
          exact f2 ρ _ l fn tmps R (hl.mono hpost.le) (hp.snd E m1 m2 hpost) fun ρ2 w2 hp2 => hfin ρ2 w2 (Post.trans E hp m1 m2 hpost hp2)
      · cases h

theorem end_exit {e : VEx} (he : e = .normal ∨ e = .ret) {F : Fence} {n : Nat} {fn : Func} {R : Ending → World → Prop} {a : Act} {w : World} (h : LeavesInM F n PP fn a.tmps R a.defers .returning w) : bodyPostM F n PP fn R (toExit e) a w := by
  rcases he with rfl | rfl <;> exact h

/-- a call -/
theorem stepCall_snd (hE : Seat E) {rec : Rec} (hc : ∀ n c k, codeK n c = .ok k → CcOk E n c k rec) (hd : CallsDOk E rec) {f : FuncId} {args : List VV} {H H' : VH} {v : VV}
    (h : stepCall rec f args H (fun rs ds t H => runDefers rec ds H fun H => resultsV t rs [] H fun vs H => .ret (tupOf vs) H) = .ret v H') : CallT E f args H v H' := by
  obtain ⟨fn, c, k, e, ds, t1, H1, hf, hb, hk, hlen, hex, he, hfin⟩ := stepCall_ret h
  refine ⟨⟨fn, c, hf, hb⟩, fun hv => ?_⟩
  obtain ⟨m1, f1⟩ := hc _ _ _ hk _ _ _ _ _ _ _ _ hex hv
  obtain ⟨H2, hfin2, hdef⟩ := runDefers_snd hE hd ds H1 hfin
  obtain ⟨m2, f2⟩ := hdef m1.ok
  obtain ⟨vs, H3, hfin3, hres⟩ := resultsV_snd (E := E) _ _ _ hfin2
  obtain ⟨m3, f3⟩ := hres m2.ok
  simp only [List.reverse_nil, List.nil_append, Res.ret.injEq] at hfin3
  obtain ⟨rfl, rfl⟩ := hfin3
  refine ⟨(m1.trans m2).trans m3, fun ρ w args' ha hp R hR => ?_⟩
  refine callsIn_of_wp_marks hf hb trivial (f1 ρ w _ none trivial ((hp.fst E m3).fst E m2) (act_enter ha hlen) (by trivial) _ fun a' ρ1 w1 hp1 ha1 hd1 => end_exit he ?_)
  have hp12 := (hp.fst E m3).snd E m1 m2 hp1
  refine f2 ρ1 w1 a'.defers fn a'.tmps R hd1 hp12 fun ρ2 w2 hp2 => ?_
  have hp02 := Post.trans E (hp.fst E m3) m1 m2 hp1 hp2
  obtain ⟨vs', e1, e2, e3⟩ := f3 ρ2 w2 a' (fun i => (ha1.on i).mono E hp2.le) (hp.snd E (m1.trans m2) m3 hp02)
  exact ⟨_, results_run e2, hR _ ρ2 w2 (tup_conc e1) (Post.trans E hp (m1.trans m2) m3 hp02 e3)⟩

/-- a deferred call -/
theorem stepCallD_snd (hE : Seat E) {rec : Rec} (hc : ∀ n c k, codeK n c = .ok k → CcOk E n c k rec) {f : FuncId} {args : List VV} {H H' : VH} {v : VV}
    (h : stepCall rec f args H (fun rs ds t H => match ds with
      | [] => resultsV t rs [] H fun vs H => .ret (tupOf vs) H
      | _ => .no "a deferred call that defers") = .ret v H') : CallDT E f args H v H' := by
  obtain ⟨fn, c, k, e, ds, t1, H1, hf, hb, hk, hlen, hex, he, hfin⟩ := stepCall_ret h
  refine ⟨⟨fn, c, hf, hb⟩, fun hv => ?_⟩
  obtain ⟨m1, f1⟩ := hc _ _ _ hk _ _ _ _ _ _ _ _ hex hv
  cases ds with
  | cons d l => cases hfin
  | nil =>
    obtain ⟨vs, H3, hfin3, hres⟩ := resultsV_snd (E := E) _ _ _ hfin
    obtain ⟨m3, f3⟩ := hres m1.ok
    simp only [List.reverse_nil, List.nil_append, Res.ret.injEq] at hfin3
    obtain ⟨rfl, rfl⟩ := hfin3
    refine ⟨m1.trans m3, fun ρ w args' u ha hp R hR => ?_⟩
    refine callsDIn_of_wp hf hb trivial (f1 ρ w _ none trivial (hp.fst E m3) (act_enter ha hlen) (by trivial) _ fun a' ρ1 w1 hp1 ha1 hd1 => ?_)
    have hdn : a'.defers = [] := by
      cases hx : a'.defers with
      | nil => rfl
      | cons d l => rw [hx] at hd1; exact hd1.elim
    obtain ⟨vs', e1, e2, e3⟩ := f3 ρ1 w1 a' (fun i => ha1.on i) (hp.snd E m1 m3 hp1)
    have key : a'.defers = [] ∧ ∃ v, (results fn a'.tmps).run PP w1 = .ok v w1 ∧ R (.returned v) w1 := ⟨hdn, _, results_run e2, hR _ ρ1 w1 (tup_conc e1) (Post.trans E hp m1 m3 hp1 e3)⟩
    rcases he with rfl | rfl <;> exact key

end
end Go.Ev
