/- Operations: builtins, calls, guards. -/
import Derived.Test.YtafajhplaldeaaaGreatEvZ
set_option linter.unusedVariables false
set_option linter.unusedSimpArgs false
namespace Go.Ev
open Go
attribute [local irreducible] PP

section
variable {E : Nat → Value}

theorem NSnd.value {H H' : VH} {v : VV} {S : Rho → World → Sem Next → Prop} (h : VSnd E H v H' (fun ρ w s => S ρ w (do Pure.pure (.value (← s))))) (hs : ∀ ρ w s, S ρ w s → ∃ s', s = (do Pure.pure (.value (← s')) : Sem Next)) : NSnd E H v H' S := by
  intro hv
  obtain ⟨m, f⟩ := h hv
  refine ⟨m, fun ρ w s hS hp ro => ?_⟩
  obtain ⟨s', rfl⟩ := hs ρ w s hS
  obtain ⟨v', ρ', w', h1, h2, h3⟩ := f ρ w s' hS hp
  simp only [Sem.run_bind, h1, Result.andThen_ok, Sem.run_pure]
  exact NextIn.value ⟨ρ', h2, h3⟩

/-- of one value: 's' is 'g' of what the operands are -/
theorem NSnd.of {H H' : VH} {v : VV} {α : Type} {T : Rho → World → α → Prop} (g : α → Sem Value) (h : ∀ x, VSnd E H v H' (fun ρ w s => T ρ w x ∧ s = g x)) (i : Inhabited α) : NSnd E H v H' (fun ρ w s => ∃ x, T ρ w x ∧ s = (do Pure.pure (.value (← g x)) : Sem Next)) := by
  intro hv
  refine ⟨(h i.default hv).1, fun ρ w s ⟨x, hx, hs⟩ hp ro => ?_⟩
  subst hs
  obtain ⟨v', ρ', w', h1, h2, h3⟩ := (h x hv).2 ρ w (g x) ⟨hx, rfl⟩ hp
  simp only [Sem.run_bind, h1, Result.andThen_ok, Sem.run_pure]
  exact NextIn.value ⟨ρ', h2, h3⟩

instance : Inhabited Act := ⟨{ tmps := #[], defers := [] }⟩

theorem argT_ok {β : Type} {ts : Array TypeId} {i : Nat} {k : TypeId → R β} {b : β} : argT ts i k = .ok b ↔ ∃ t, ts[i]? = some t ∧ k t = .ok b := R.of_ok

/-- the operands of a call, seen -/
def SeesL (E : Nat → Value) (ρ : Rho) (t : T VV) (a : Act) (l : List Operand) : Prop := ∀ i, Operand.tmp i ∈ l → On E ρ t a i

theorem seesL_conc {l : List Operand} {x : Operand} {k : K (T VV → VV)} (hk : operK x = .ok k) (hx : x ∈ l) {ρ : Rho} {t : T VV} {a : Act} (hs : SeesL E ρ t a l) (hg : Glob ρ) : conc E ρ (k.f t) = some (a.eval x) :=
  operK_conc E hk hg fun i hi => hs i (by rw [← hi]; exact hx)

theorem builtin_snd (hE : Plain E) {b : Builtin} {ts : Array TypeId} {ty : TypeId} {cs : Array Bool} {args : List Operand} {k : Cl} (hk : builtinK b ts args = .ok k) {t : T VV} {H H' : VH} {v : VV} (h : k.f t H = .ok v H') :
    NSnd E H v H' (fun ρ w s => ∃ a : Act, (SeesL E ρ t a args ∧ Glob ρ) ∧ s = builtin b ts ty cs (args.map a.eval).toArray) := by
  unfold builtinK at hk
  cases b <;> simp only [reduceCtorEq] at hk
  case append =>
    match args, hk with
    | [s, x], hk =>
      simp only [argT_ok, R.bind_ok] at hk
      obtain ⟨t0, h0, ks, hs, kx, hx, hk⟩ := hk
      have hz : NoZeros ts ∧ appendK t0 ks kx = .ok k := by
        cases h1 : ts[1]? with
        | none => rw [h1] at hk; exact ⟨.inl h1, hk⟩
        | some xt =>
          rw [h1] at hk
          simp only [descV_ok] at hk
          obtain ⟨d, hd, hk⟩ := hk
          have hn : ∀ k, d ≠ .int k := fun kk e => by subst e; simp only [reduceCtorEq] at hk
          refine ⟨.inr ⟨xt, d, h1, hd, hn⟩, ?_⟩
          cases d <;> first | exact absurd rfl (hn _) | exact hk
      obtain ⟨hz, hk⟩ := hz
      refine (NSnd.of (fun a : Act => Builtin.append_ ts ty #[a.eval s, a.eval x]) (T := fun ρ w a => SeesL E ρ t a [s, x] ∧ Glob ρ) (fun a => (append_snd (ty := ty) hE h0 hz hk h).weaken ?_) inferInstance).weaken fun ρ w s ⟨a, h1, h2⟩ => ⟨a, h1, h2⟩
      rintro ρ w s ⟨⟨h1, h2⟩, h3⟩
      exact ⟨_, _, seesL_conc hs (by simp) h1 h2, seesL_conc hx (by simp) h1 h2, h3⟩
    | [], hk => simp only [reduceCtorEq] at hk
    | [_], hk => simp only [reduceCtorEq] at hk
    | _ :: _ :: _ :: _, hk => simp only [reduceCtorEq] at hk
  case cap =>
    match args, hk with
    | [x], hk =>
      simp only [argT_ok, R.bind_ok] at hk
      obtain ⟨t0, h0, kx, hx, hk⟩ := hk
      refine (NSnd.of (fun a : Act => Builtin.cap_ ts ty #[a.eval x]) (T := fun ρ w a => SeesL E ρ t a [x] ∧ Glob ρ) (fun a => (cap_snd (ty := ty) h0 hk h).weaken ?_) inferInstance).weaken fun ρ w s ⟨a, h1, h2⟩ => ⟨a, h1, h2⟩
      rintro ρ w s ⟨⟨h1, h2⟩, h3⟩
      exact ⟨_, seesL_conc hx (by simp) h1 h2, h3⟩
    | [], hk => simp only [reduceCtorEq] at hk
    | _ :: _ :: _, hk => simp only [reduceCtorEq] at hk
  case len =>
    match args, hk with
    | [x], hk =>
      simp only [argT_ok, R.bind_ok] at hk
      obtain ⟨t0, h0, kx, hx, hk⟩ := hk
      refine (NSnd.of (fun a : Act => Builtin.len_ ts ty #[a.eval x]) (T := fun ρ w a => SeesL E ρ t a [x] ∧ Glob ρ) (fun a => (len_snd hE (ty := ty) h0 hk h).weaken ?_) inferInstance).weaken fun ρ w s ⟨a, h1, h2⟩ => ⟨a, h1, h2⟩
      rintro ρ w s ⟨⟨h1, h2⟩, h3⟩
      exact ⟨_, seesL_conc hx (by simp) h1 h2, h3⟩
    | [], hk => simp only [reduceCtorEq] at hk
    | _ :: _ :: _, hk => simp only [reduceCtorEq] at hk
  case copy =>
    match args, hk with
    | [s, x], hk =>
      simp only [argT_ok, R.bind_ok] at hk
      obtain ⟨t0, h0, ks, hs, kx, hx, hk⟩ := hk
      refine (NSnd.of (fun a : Act => Builtin.copy_ ts ty #[a.eval s, a.eval x]) (T := fun ρ w a => SeesL E ρ t a [s, x] ∧ Glob ρ) (fun a => (copy_snd (ty := ty) hE h0 hk h).weaken ?_) inferInstance).weaken fun ρ w s ⟨a, h1, h2⟩ => ⟨a, h1, h2⟩
      rintro ρ w s ⟨⟨h1, h2⟩, h3⟩
      exact ⟨_, _, seesL_conc hs (by simp) h1 h2, seesL_conc hx (by simp) h1 h2, h3⟩
    | [], hk => simp only [reduceCtorEq] at hk
    | [_], hk => simp only [reduceCtorEq] at hk
    | _ :: _ :: _ :: _, hk => simp only [reduceCtorEq] at hk
  case clear =>
    match args, hk with
    | [x], hk =>
      simp only [argT_ok, R.bind_ok] at hk
      obtain ⟨t0, h0, kx, hx, hk⟩ := hk
      refine (NSnd.of (fun a : Act => Builtin.clear_ ts ty #[a.eval x]) (T := fun ρ w a => SeesL E ρ t a [x] ∧ Glob ρ) (fun a => (clear_snd hE (ty := ty) h0 hk h).weaken ?_) inferInstance).weaken fun ρ w s ⟨a, h1, h2⟩ => ⟨a, h1, h2⟩
      rintro ρ w s ⟨⟨h1, h2⟩, h3⟩
      exact ⟨_, seesL_conc hx (by simp) h1 h2, h3⟩
    | [], hk => simp only [reduceCtorEq] at hk
    | _ :: _ :: _, hk => simp only [reduceCtorEq] at hk
  case delete =>
    match args, hk with
    | [s, x], hk =>
      simp only [argT_ok, R.bind_ok, mapT_ok] at hk
      obtain ⟨t0, h0, ks, hs, kx, hx, kt, el, kd, ht, hkd, hk⟩ := hk
      simp only [R.ok.injEq] at hk
      subst hk
      refine (NSnd.of (fun a : Act => Builtin.delete_ ts ty #[a.eval s, a.eval x]) (T := fun ρ w a => SeesL E ρ t a [s, x] ∧ Glob ρ) (fun a => (delete_snd (ty := ty) h0 ht hkd h).weaken ?_) inferInstance).weaken fun ρ w s ⟨a, h1, h2⟩ => ⟨a, h1, h2⟩
      rintro ρ w s ⟨⟨h1, h2⟩, h3⟩
      exact ⟨_, _, seesL_conc hs (by simp) h1 h2, seesL_conc hx (by simp) h1 h2, h3⟩
    | [], hk => simp only [reduceCtorEq] at hk
    | [_], hk => simp only [reduceCtorEq] at hk
    | _ :: _ :: _ :: _, hk => simp only [reduceCtorEq] at hk
  case max =>
    match args, hk with
    | x :: l, hk =>
      simp only [R.bind_ok] at hk
      obtain ⟨kx, hx, kl, hl, hk⟩ := hk
      simp only [R.ok.injEq] at hk
      subst hk
      obtain ⟨rfl, hm⟩ := max_snd (E := E) _ _ _ h
      refine (NSnd.of (fun a : Act => Builtin.max_ ts ty ((x :: l).map a.eval).toArray) (T := fun ρ w a => SeesL E ρ t a (x :: l) ∧ Glob ρ) (fun a => VSnd.pure ?_) inferInstance).weaken fun ρ w s ⟨a, h1, h2⟩ => ⟨a, h1, h2⟩
      rintro ρ w s ⟨⟨h1, h2⟩, rfl⟩ _
      obtain ⟨v', hr, hv⟩ := hm ρ (a.eval x) (l.map a.eval) w (seesL_conc hx (by simp) h1 h2) (opersK_conc E hl h2 fun i hi => h1 i (by simp [hi]))
      exact ⟨v', hr, hv⟩
    | [], hk => simp only [reduceCtorEq] at hk
  case min =>
    match args, hk with
    | x :: l, hk =>
      simp only [R.bind_ok] at hk
      obtain ⟨kx, hx, kl, hl, hk⟩ := hk
      simp only [R.ok.injEq] at hk
      subst hk
      obtain ⟨rfl, hm⟩ := min_snd (E := E) _ _ _ h
      refine (NSnd.of (fun a : Act => Builtin.min_ ts ty ((x :: l).map a.eval).toArray) (T := fun ρ w a => SeesL E ρ t a (x :: l) ∧ Glob ρ) (fun a => VSnd.pure ?_) inferInstance).weaken fun ρ w s ⟨a, h1, h2⟩ => ⟨a, h1, h2⟩
      rintro ρ w s ⟨⟨h1, h2⟩, rfl⟩ _
      obtain ⟨v', hr, hv⟩ := hm ρ (a.eval x) (l.map a.eval) w (seesL_conc hx (by simp) h1 h2) (opersK_conc E hl h2 fun i hi => h1 i (by simp [hi]))
      exact ⟨v', hr, hv⟩
    | [], hk => simp only [reduceCtorEq] at hk
  case unsafeSliceData =>
    match args, hk with
    | [x], hk =>
      simp only [R.bind_ok] at hk
      obtain ⟨kx, hx, hk⟩ := hk
      simp only [R.ok.injEq] at hk
      subst hk
      refine (NSnd.of (fun a : Act => Builtin.unsafeSliceData_ ts ty #[a.eval x]) (T := fun ρ w a => SeesL E ρ t a [x] ∧ Glob ρ) (fun a => (unsafeData_snd (ts := ts) (ty := ty) h).weaken ?_) inferInstance).weaken fun ρ w s ⟨a, h1, h2⟩ => ⟨a, h1, h2⟩
      rintro ρ w s ⟨⟨h1, h2⟩, h3⟩
      exact ⟨_, seesL_conc hx (by simp) h1 h2, h3⟩
    | [], hk => simp only [reduceCtorEq] at hk
    | _ :: _ :: _, hk => simp only [reduceCtorEq] at hk
  case unsafeString =>
    match args, hk with
    | [s, x], hk =>
      simp only [argT_ok, R.bind_ok] at hk
      obtain ⟨t0, h0, ks, hs, kx, hx, hk⟩ := hk
      refine (NSnd.of (fun a : Act => Builtin.unsafeString_ ts ty #[a.eval s, a.eval x]) (T := fun ρ w a => SeesL E ρ t a [s, x] ∧ Glob ρ) (fun a => (unsafeStr_snd (ty := ty) h0 hk h).weaken ?_) inferInstance).weaken fun ρ w s ⟨a, h1, h2⟩ => ⟨a, h1, h2⟩
      rintro ρ w s ⟨⟨h1, h2⟩, h3⟩
      exact ⟨_, _, seesL_conc hs (by simp) h1 h2, seesL_conc hx (by simp) h1 h2, h3⟩
    | [], hk => simp only [reduceCtorEq] at hk
    | [_], hk => simp only [reduceCtorEq] at hk
    | _ :: _ :: _ :: _, hk => simp only [reduceCtorEq] at hk

end
end Go.Ev
