/- Code: what control does. -/
import Derived.Test.YtafajhplaldeaaaGreatEvC1
set_option linter.unusedVariables false
set_option linter.unusedSimpArgs false
namespace Go.Ev
open Go
attribute [local irreducible] PP

theorem onNormal_ex {r : Res} {k : List VD → T VV → VH → Res} {e : VEx} {ds : List VD} {t : T VV} {H : VH} : onNormal r k = .ex e ds t H ↔ (∃ ds1 t1 H1, r = .ex .normal ds1 t1 H1 ∧ k ds1 t1 H1 = .ex e ds t H) ∨ (e ≠ .normal ∧ r = .ex e ds t H) := by
  cases r with
  | ex e1 ds1 t1 H1 =>
    cases e1 with
    | normal =>
      show k ds1 t1 H1 = _ ↔ _
      constructor
      · exact fun h => .inl ⟨ds1, t1, H1, rfl, h⟩
      · rintro (⟨d, t2, H2, h1, h2⟩ | ⟨h1, h2⟩)
        · simp only [Res.ex.injEq] at h1
          obtain ⟨_, rfl, rfl, rfl⟩ := h1
          exact h2
        · simp only [Res.ex.injEq] at h2
          exact absurd h2.1.symm h1
    | exit id =>
      show Res.ex (.exit id) ds1 t1 H1 = _ ↔ _
      constructor
      · intro h; exact .inr ⟨fun e => (by subst e; cases h), h⟩
      · rintro (⟨d, t2, H2, h1, h2⟩ | ⟨h1, h2⟩)
        · simp only [Res.ex.injEq, reduceCtorEq, false_and] at h1
        · exact h2
    | ret =>
      show Res.ex .ret ds1 t1 H1 = _ ↔ _
      constructor
      · intro h; exact .inr ⟨fun e => (by subst e; cases h), h⟩
      · rintro (⟨d, t2, H2, h1, h2⟩ | ⟨h1, h2⟩)
        · simp only [Res.ex.injEq, reduceCtorEq, false_and] at h1
        · exact h2
    | goto l =>
      show Res.ex (.goto l) ds1 t1 H1 = _ ↔ _
      constructor
      · intro h; exact .inr ⟨fun e => (by subst e; cases h), h⟩
      · rintro (⟨d, t2, H2, h1, h2⟩ | ⟨h1, h2⟩)
        · simp only [Res.ex.injEq, reduceCtorEq, false_and] at h1
        · exact h2
  | ret v H1 => simp [onNormal]
  | no s => simp [onNormal]

theorem onExit_ex {id : Nat} {r : Res} {e : VEx} {ds : List VD} {t : T VV} {H : VH} (h : onExit id r = .ex e ds t H) : (e = .normal ∧ (r = .ex .normal ds t H ∨ r = .ex (.exit id) ds t H)) ∨ (e ≠ .normal ∧ e ≠ .exit id ∧ r = .ex e ds t H) := by
  cases r with
  | ex e1 ds1 t1 H1 =>
    cases e1 with
    | normal =>
      have h : Res.ex .normal ds1 t1 H1 = .ex e ds t H := h
      simp only [Res.ex.injEq] at h
      obtain ⟨rfl, rfl, rfl, rfl⟩ := h
      exact .inl ⟨rfl, .inl rfl⟩
    | exit id' =>
      have h2 : @Bool.rec (fun _ => Res) (.ex (.exit id') ds1 t1 H1) (.ex .normal ds1 t1 H1) (Nat.beq id' id) = .ex e ds t H := h
      clear h
      cases hb : Nat.beq id' id with
      | true =>
        rw [hb] at h2
        have h3 : Res.ex .normal ds1 t1 H1 = .ex e ds t H := h2
        simp only [Res.ex.injEq] at h3
        obtain ⟨rfl, rfl, rfl, rfl⟩ := h3
        exact .inl ⟨rfl, .inr (by rw [beq_iff.1 hb])⟩
      | false =>
        rw [hb] at h2
        have h3 : Res.ex (.exit id') ds1 t1 H1 = .ex e ds t H := h2
        simp only [Res.ex.injEq] at h3
        obtain ⟨rfl, rfl, rfl, rfl⟩ := h3
        refine .inr ⟨by simp, fun e => ?_, rfl⟩
        cases e
        rw [Nat.beq_refl] at hb; cases hb
    | ret =>
      have h : Res.ex .ret ds1 t1 H1 = .ex e ds t H := h
      simp only [Res.ex.injEq] at h
      obtain ⟨rfl, rfl, rfl, rfl⟩ := h
      exact .inr ⟨by simp, by simp, rfl⟩
    | goto l =>
      have h : Res.ex (.goto l) ds1 t1 H1 = .ex e ds t H := h
      simp only [Res.ex.injEq] at h
      obtain ⟨rfl, rfl, rfl, rfl⟩ := h
      exact .inr ⟨by simp, by simp, rfl⟩
  | ret v H1 => cases h
  | no s => cases h

theorem exists_min {p : Nat → Prop} (h : ∃ j, p j) : ∃ j, p j ∧ ∀ i, p i → j ≤ i := by
  obtain ⟨j, hj⟩ := h
  induction j using Nat.strongRecOn with
  | _ j ih =>
    by_cases hx : ∃ i, i < j ∧ p i
    · obtain ⟨i, hi, hpi⟩ := hx
      exact ih i hi hpi
    · exact ⟨j, hj, fun i hi => by
        rcases Nat.lt_or_ge i j with h | h
        · exact absurd ⟨i, h, hi⟩ hx
        · exact h⟩

/-- a loop, by fuel -/
theorem wpIn_fuel {F : Fence} {n : Nat} {P : Program} {c : Code} {Q : Exit → Act → World → Prop} (J : Nat → Act → World → Prop) (round : ∀ j a w, J j a w → c.wpIn F n P (Exit.then (fun a' w' => ∃ i, i < j ∧ J i a' w') Q) a w)
    {j : Nat} {a : Act} {w : World} (h : J j a w) : (Code.loop c).wpIn F n P Q a w := by
  classical
  refine wpIn_loop (fun a w => ∃ j, J j a w) (fun a w => if hx : ∃ j, J j a w then Classical.choose (exists_min hx) else 0) ⟨j, h⟩ fun a w hI => ?_
  have hmin := Classical.choose_spec (exists_min hI)
  refine wpIn_mono (round _ a w hmin.1) fun e a' w' hq => ?_
  cases e with
  | normal =>
    obtain ⟨i, hi, hJ⟩ := hq
    refine ⟨⟨i, hJ⟩, ?_⟩
    have hI' : ∃ j, J j a' w' := ⟨i, hJ⟩
    rw [dif_pos hI', dif_pos hI]
    exact Nat.lt_of_le_of_lt ((Classical.choose_spec (exists_min hI')).2 i hJ) hi
  | _ => exact hq

section
variable (E : Nat → Value)

structure RecOk (rec : Rec) : Prop extends CallsOk E rec where
  code : ∀ n c rd ds t H e ds' t' H', rec (.code n c rd ds t H) = .ex e ds' t' H' → CodeT E n c rd ds t H e ds' t' H'

variable {E}

theorem CodeT.done {n : Nat} {c : Code} {rd : Option Nat} {ds : List VD} {t : T VV} {H : VH} {e : VEx} (h : ∀ {ro : Option Nat} {Q : Exit → Act → World → Prop} {a : Act} {w : World}, Q (toExit e) a w → c.wpIn (FF ro) 0 PP Q a w) : CodeT E n c rd ds t H e ds t H := by
  intro hv
  exact ⟨Mono.refl hv, fun ρ w a ro hro hp ha hd Q hQ => h (hQ a ρ w (Post.refl E hp hv) ha hd)⟩

theorem CodeT.seq {n : Nat} {x y : Code} {rd : Option Nat} {ds ds1 ds2 : List VD} {t t1 t2 : T VV} {H H1 H2 : VH} {e : VEx} (h1 : CodeT E n x rd ds t H .normal ds1 t1 H1) (h2 : CodeT E n y rd ds1 t1 H1 e ds2 t2 H2) : CodeT E n (.seq x y) rd ds t H e ds2 t2 H2 := by
  intro hv
  obtain ⟨m1, f1⟩ := h1 hv
  obtain ⟨m2, f2⟩ := h2 m1.ok
  refine ⟨m1.trans m2, fun ρ w a ro hro hp ha hd Q hQ => wpIn_seq ?_⟩
  exact f1 ρ w a ro hro (hp.fst E m2) ha hd _ fun a1 ρ1 w1 hp1 ha1 hd1 =>
    f2 ρ1 w1 a1 ro (hro.mono hp1.le) (hp.snd E m1 m2 hp1) ha1 hd1 Q fun a' ρ' w' hp2 ha2 hd2 => hQ a' ρ' w' (Post.trans E hp m1 m2 hp1 hp2) ha2 hd2

theorem CodeT.seq_out {n : Nat} {x y : Code} {rd : Option Nat} {ds ds2 : List VD} {t t2 : T VV} {H H2 : VH} {e : VEx} (he : e ≠ .normal) (h1 : CodeT E n x rd ds t H e ds2 t2 H2) : CodeT E n (.seq x y) rd ds t H e ds2 t2 H2 := by
  intro hv
  obtain ⟨m1, f1⟩ := h1 hv
  refine ⟨m1, fun ρ w a ro hro hp ha hd Q hQ => wpIn_seq ?_⟩
  refine f1 ρ w a ro hro hp ha hd _ fun a1 ρ1 w1 hp1 ha1 hd1 => ?_
  have := hQ a1 ρ1 w1 hp1 ha1 hd1
  cases e <;> first | exact absurd rfl he | exact this

theorem asCond_ex' {x : VV} {k : Bool → Res} {e : VEx} {ds : List VD} {t : T VV} {H : VH} (h : asCond x k = .ex e ds t H) : ∃ b, x = .bool b ∧ k b = .ex e ds t H := asCond_ex.1 h

theorem loop_snd {n : Nat} {b : Code} {kb kl : Cc} {m : Nat} (hk : codeK n (.loop b) = .ok kl) (hkl : kl = ⟨fun rec rd ds t H => onNormal (kb.f rec rd ds t H) fun ds t H => rec (.code n (.loop b) rd ds t H)⟩)
    (hb : ∀ j, j ≤ m → CcOk E n b kb (run j)) : ∀ j, j ≤ m → CcOk E n (.loop b) kl (run j) := by
  have hrun : ∀ j rd ds t H, run (j + 1) (.code n (.loop b) rd ds t H) = kl.f (run j) rd ds t H := by
    intro j rd ds t H
    show @R.rec Cc (fun _ => Res) (fun k => k.f (run j) rd ds t H) (fun w => .no w) (codeK n (.loop b)) = _
    rw [hk]
  have hzero : ∀ t, run 0 t = .no "fuel" := fun t => rfl
  -- the small world
  have mono : ∀ j, j ≤ m → ∀ rd ds t H e ds' t' H', kl.f (run j) rd ds t H = .ex e ds' t' H' → VOk H → Mono H H' := by
    intro j
    induction j with
    | zero =>
      intro hj rd ds t H e ds' t' H' h hv
      rw [hkl] at h
      simp only at h
      rcases onNormal_ex.1 h with ⟨d1, t1, H1, h1, h2⟩ | ⟨h1, h2⟩
      · rw [hzero] at h2; cases h2
      · exact (hb 0 hj _ _ _ _ _ _ _ _ h2 hv).1
    | succ j ih =>
      intro hj rd ds t H e ds' t' H' h hv
      rw [hkl] at h
      simp only at h
      rcases onNormal_ex.1 h with ⟨d1, t1, H1, h1, h2⟩ | ⟨h1, h2⟩
      · have m1 := (hb _ hj _ _ _ _ _ _ _ _ h1 hv).1
        rw [hrun] at h2
        exact m1.trans (ih (by omega) _ _ _ _ _ _ _ _ h2 m1.ok)
      · exact (hb _ hj _ _ _ _ _ _ _ _ h2 hv).1
  intro j0 hj0 rd ds t H e ds' t' H' h hv
  have mH := mono j0 hj0 _ _ _ _ _ _ _ _ h hv
  refine ⟨mH, fun ρ w a ro hro hp ha hd Q hQ => ?_⟩
  refine wpIn_fuel (fun j a1 w1 => j ≤ m ∧ ∃ ds1 t1 H1 ρ1, kl.f (run j) rd ds1 t1 H1 = .ex e ds' t' H' ∧ Mono H H1 ∧ Post E H H1 ρ w ρ1 w1 ∧ ActOk E n ρ1 t1 a1 ∧ DefsOk E ρ1 ds1 a1.defers) ?_
    (j := j0) ⟨hj0, ds, t, H, ρ, h, Mono.refl hv, Post.refl E (hp.fst E mH) hv, ha, hd⟩
  rintro j a1 w1 ⟨hj, ds1, t1, H1, ρ1, hrunj, m1, hp1, ha1, hd1⟩
  have mH1 := mono j hj _ _ _ _ _ _ _ _ hrunj m1.ok
  have hpre1 := hp.snd E m1 mH1 hp1
  rw [hkl] at hrunj
  simp only at hrunj
  rcases onNormal_ex.1 hrunj with ⟨d2, t2, H2, h1, h2⟩ | ⟨h1, h2⟩
  · obtain ⟨m2, f2⟩ := hb j hj _ _ _ _ _ _ _ _ h1 m1.ok
    cases j with
    | zero => rw [hzero] at h2; cases h2
    | succ j =>
      rw [hrun] at h2
      have mH2 := mono j (by omega) _ _ _ _ _ _ _ _ h2 m2.ok
      refine f2 ρ1 w1 a1 ro (hro.mono hp1.le) (hpre1.fst E mH2) ha1 hd1 _ fun a' ρ' w' hp2 ha2 hd2 => ?_
      exact ⟨j, Nat.lt_succ_self j, by omega, d2, t2, H2, ρ', h2, m1.trans m2, Post.trans E (hp.fst E mH2) m1 m2 hp1 hp2, ha2, hd2⟩
  · obtain ⟨m2, f2⟩ := hb j hj _ _ _ _ _ _ _ _ h2 m1.ok
    refine f2 ρ1 w1 a1 ro (hro.mono hp1.le) hpre1 ha1 hd1 _ fun a' ρ' w' hp2 ha2 hd2 => ?_
    have := hQ a' ρ' w' (Post.trans E hp m1 m2 hp1 hp2) ha2 hd2
    cases e <;> first | exact absurd rfl h1 | exact this

/-- what is left to be shown of the two pieces of code that are texts of their own -/
def DrawOk (E : Nat → Value) (rec : Rec) : Prop := ∀ (n id : Nat) (ops : Array Oper) (k : K (Rec → List Seen → Option Nat → List VD → T VV → VH → Res)), drawOk ops ops.toList 0 [] ops.toList = true → Region.noSelect ops = true → drawK n ops 0 [] ops.toList = .ok k →
  CcOk E n (.region id ops true) ⟨fun rec rd ds t H => k.f rec [] rd ds t H⟩ rec
def RangeOk (E : Nat → Value) (rec : Rec) : Prop := ∀ (n : Nat) (g : Operand) (ps : Array Tmp) (assign body : Code) (kg : K (T VV → VV)), operK g = .ok kg → CcOk E n (.rangeFunc g ps assign body) (rangeK n kg ps.toList assign body) rec

theorem code_snd (hE : Seat E) {m : Nat} (hr : ∀ j, j ≤ m → RecOk E (run j)) (hdr : ∀ j, j ≤ m → DrawOk E (run j)) (hra : ∀ j, j ≤ m → RangeOk E (run j)) {n : Nat} : ∀ (c : Code) (k : Cc), codeK n c = .ok k → ∀ j, j ≤ m → CcOk E n c k (run j) := by
  intro c
  induction c with
  | skip =>
    intro k hk j hj rd ds t H e ds' t' H' h
    simp only [codeK, R.ok.injEq] at hk
    subst hk
    simp only [Res.ex.injEq] at h
    obtain ⟨rfl, rfl, rfl, rfl⟩ := h
    exact CodeT.done fun h => wpIn_skip h
  | label l =>
    intro k hk j hj rd ds t H e ds' t' H' h
    simp only [codeK, R.ok.injEq] at hk
    subst hk
    simp only [Res.ex.injEq] at h
    obtain ⟨rfl, rfl, rfl, rfl⟩ := h
    exact CodeT.done fun h => wpIn_label h
  | exit id =>
    intro k hk j hj rd ds t H e ds' t' H' h
    simp only [codeK, R.ok.injEq] at hk
    subst hk
    simp only [Res.ex.injEq] at h
    obtain ⟨rfl, rfl, rfl, rfl⟩ := h
    exact CodeT.done fun h => wpIn_exit h
  | ret =>
    intro k hk j hj rd ds t H e ds' t' H' h
    simp only [codeK, R.ok.injEq] at hk
    subst hk
    simp only [Res.ex.injEq] at h
    obtain ⟨rfl, rfl, rfl, rfl⟩ := h
    exact CodeT.done fun h => wpIn_ret h
  | goto l =>
    intro k hk j hj rd ds t H e ds' t' H' h
    simp only [codeK, R.ok.injEq] at hk
    subst hk
    simp only [Res.ex.injEq] at h
    obtain ⟨rfl, rfl, rfl, rfl⟩ := h
    exact CodeT.done fun h => wpIn_goto h
  | region id ops draw =>
    intro k hk j hj
    cases draw with
    | false =>
      simp only [codeK] at hk
      intro rd ds t H e ds' t' H' h
      obtain ⟨rfl, hs⟩ := seq_snd hE (hr j hj).toCallsOk ops.toList 0 k hk rfl _ _ _ _ _ _ _ _ h
      intro hv
      obtain ⟨m1, f1⟩ := hs hv
      refine ⟨m1, fun ρ w a ro hro hp ha hd Q hQ => wpIn_region ?_⟩
      have := f1 ρ w a ro hro hp ha hd Q hQ
      rw [List.range_eq_range']
      rw [Array.length_toList] at this
      exact this
    | true =>
      simp only [codeK, R.when_ok, Bool.and_eq_true, R.bind_ok] at hk
      obtain ⟨⟨h1, h2⟩, kd, hkd, hk⟩ := hk
      simp only [R.ok.injEq] at hk
      subst hk
      exact hdr j hj n id ops kd h1 h2 hkd
  | seq x y ihx ihy =>
    intro k hk j hj rd ds t H e ds' t' H' h
    simp only [codeK, R.bind_ok] at hk
    obtain ⟨kx, hx, ky, hy, hk⟩ := hk
    simp only [R.ok.injEq] at hk
    subst hk
    rcases onNormal_ex.1 h with ⟨d1, t1, H1, h1, h2⟩ | ⟨h1, h2⟩
    · exact CodeT.seq (ihx kx hx j hj _ _ _ _ _ _ _ _ h1) (ihy ky hy j hj _ _ _ _ _ _ _ _ h2)
    · exact CodeT.seq_out h1 (ihx kx hx j hj _ _ _ _ _ _ _ _ h2)
  | cond c x y ihx ihy =>
    intro k hk j hj rd ds t H e ds' t' H' h
    simp only [codeK, R.bind_ok] at hk
    obtain ⟨kc, hc, hk⟩ := hk
    simp only [R.ok.injEq] at hk
    subst hk
    obtain ⟨b, hb, h⟩ := asCond_ex' h
    have key : ∃ z, z = (if b then x else y) ∧ CodeT E n z rd ds t H e ds' t' H' := by
      refine ⟨_, rfl, ?_⟩
      cases b with
      | true =>
        cases hx : codeK n x with
        | no s => rw [hx] at h; cases h
        | ok kx => rw [hx] at h; exact ihx kx hx j hj _ _ _ _ _ _ _ _ h
      | false =>
        cases hy : codeK n y with
        | no s => rw [hy] at h; cases h
        | ok ky => rw [hy] at h; exact ihy ky hy j hj _ _ _ _ _ _ _ _ h
    obtain ⟨z, hz, hT⟩ := key
    intro hv
    obtain ⟨m1, f1⟩ := hT hv
    refine ⟨m1, fun ρ w a ro hro hp ha hd Q hQ => ?_⟩
    have hcc := operK_conc E hc hp.gl (t := t) (a := a) fun i _ => ha.on i
    rw [hb] at hcc
    refine wpIn_cond (conc_bool hcc) ?_
    rw [← hz]
    exact f1 ρ w a ro hro hp ha hd Q hQ
  | block id c ih =>
    intro k hk j hj rd ds t H e ds' t' H' h
    simp only [codeK, R.bind_ok] at hk
    obtain ⟨kc, hc, hk⟩ := hk
    simp only [R.ok.injEq] at hk
    subst hk
    rcases onExit_ex h with ⟨rfl, h1 | h1⟩ | ⟨h1, h2, h3⟩
    · intro hv
      obtain ⟨m1, f1⟩ := ih kc hc j hj _ _ _ _ _ _ _ _ h1 hv
      exact ⟨m1, fun ρ w a ro hro hp ha hd Q hQ => wpIn_block (f1 ρ w a ro hro hp ha hd _ fun a' ρ' w' hp2 ha2 hd2 => hQ a' ρ' w' hp2 ha2 hd2)⟩
    · intro hv
      obtain ⟨m1, f1⟩ := ih kc hc j hj _ _ _ _ _ _ _ _ h1 hv
      refine ⟨m1, fun ρ w a ro hro hp ha hd Q hQ => wpIn_block (f1 ρ w a ro hro hp ha hd _ fun a' ρ' w' hp2 ha2 hd2 => ?_)⟩
      simp only [toExit, Exit.inBlock, if_true]
      exact hQ a' ρ' w' hp2 ha2 hd2
    · intro hv
      obtain ⟨m1, f1⟩ := ih kc hc j hj _ _ _ _ _ _ _ _ h3 hv
      refine ⟨m1, fun ρ w a ro hro hp ha hd Q hQ => wpIn_block (f1 ρ w a ro hro hp ha hd _ fun a' ρ' w' hp2 ha2 hd2 => ?_)⟩
      have := hQ a' ρ' w' hp2 ha2 hd2
      cases e with
      | normal => exact absurd rfl h1
      | exit id' =>
        have hne : id' ≠ id := fun e => h2 (by rw [e])
        simp only [toExit, Exit.inBlock, if_neg hne] at this ⊢
        exact this
      | ret => exact this
      | goto l => exact this
  | loop b ih =>
    intro k hk
    have hk' := hk
    simp only [codeK, R.bind_ok] at hk'
    obtain ⟨kb, hb, hk'⟩ := hk'
    simp only [R.ok.injEq] at hk'
    exact loop_snd hk hk'.symm fun j hj => ih kb hb j hj
  | rangeFunc g ps assign body ih1 ih2 =>
    intro k hk j hj
    simp only [codeK, R.bind_ok] at hk
    obtain ⟨kg, hg, hk⟩ := hk
    simp only [R.ok.injEq] at hk
    subst hk
    exact hra j hj n g ps assign body kg hg
  | scope _ => intro k hk; simp only [codeK, reduceCtorEq] at hk
  | refuse _ => intro k hk; simp only [codeK, reduceCtorEq] at hk

end
end Go.Ev
