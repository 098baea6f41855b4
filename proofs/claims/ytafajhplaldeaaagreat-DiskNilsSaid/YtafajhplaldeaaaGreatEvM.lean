/- Equality. -/
import Derived.Test.YtafajhplaldeaaaGreatEvL
set_option linter.unusedVariables false
set_option linter.unusedSimpArgs false
namespace Go.Ev
open Go
attribute [local irreducible] PP

section
variable {E : Nat → Value}

theorem eqI_iff {a b : Int} : eqI a b = (a == b) := by rw [eqI_eq]

theorem ba_beq {x y : List Nat} (hx : ∀ i ∈ x, i < 256) (hy : ∀ i ∈ y, i < 256) : (toBA x == toBA y) = listEq x y := by
  rw [beq_toListBytes, toBA_toList, toBA_toList, map_eq_iff hx hy]

theorem equalV_snd : ∀ (d n : Nat), d ≤ n → EqSnd E (equalV d) n := by
  intro d
  induction d with
  | zero => intro n _ t x y r h; cases h
  | succ d ih =>
    intro n hn t x y r h ρ x' y' w hx hy
    obtain ⟨n, rfl⟩ : ∃ m, n = m + 1 := ⟨n - 1, by omega⟩
    have ih := ih n (by omega)
    unfold equalV at h
    rw [descV_ok] at h
    obtain ⟨desc, hd, h⟩ := h
    have hu := run_und hd w
    cases desc <;> simp only [reduceCtorEq] at h
    case bool =>
      cases x <;> try (simp only [reduceCtorEq] at h; done)
      cases y <;> simp only [reduceCtorEq, R.ok.injEq] at h
      subst h
      rw [conc_bool hx, conc_bool hy]
      simp only [Op.equalIn, Sem.run_bind, hu, Result.andThen_ok, Sem.run_pure]
    case int kk =>
      cases x <;> try (simp only [reduceCtorEq] at h; done)
      cases y <;> try (simp only [reduceCtorEq] at h; done)
      rw [R.when_ok, kEq_iff] at h
      obtain ⟨rfl, h⟩ := h
      simp only [R.ok.injEq] at h
      subst h
      rw [conc_int hx, conc_int hy]
      simp only [Op.equalIn, Sem.run_bind, hu, Result.andThen_ok, Sem.run_pure, Sem.run_ite, if_true, eqI_iff]
    case string =>
      cases x <;> try (simp only [reduceCtorEq] at h; done)
      cases y <;> simp only [reduceCtorEq, R.ok.injEq] at h
      subst h
      obtain ⟨_, h1, rfl⟩ := conc_str hx
      obtain ⟨_, h2, rfl⟩ := conc_str hy
      simp only [Op.equalIn, Sem.run_bind, hu, Result.andThen_ok, Sem.run_pure, ba_beq h1 h2]
    case pointer el =>
      cases x <;> try (simp only [reduceCtorEq] at h; done)
      case pnil =>
        simp only [conc, Option.some.injEq] at hx
        subst hx
        cases y <;> (try (simp only [reduceCtorEq] at h; done)) <;> try simp only [R.ok.injEq] at h
        · subst h
          simp only [conc, Option.some.injEq] at hy
          subst hy
          simp only [Op.equalIn, Sem.run_bind, hu, Result.andThen_ok, Sem.run_pure, Option.isNone_none]
        · subst h
          obtain ⟨p, hp, rfl⟩ := conc_ptr hy
          simp only [Op.equalIn, Sem.run_bind, hu, Result.andThen_ok, Sem.run_pure, Option.isNone_some]
      case ptr b v o =>
        obtain ⟨p, hp, rfl⟩ := conc_ptr hx
        cases y <;> (try (simp only [reduceCtorEq] at h; done)) <;> try simp only [R.ok.injEq] at h
        · subst h
          simp only [conc, Option.some.injEq] at hy
          subst hy
          simp only [Op.equalIn, Sem.run_bind, hu, Result.andThen_ok, Sem.run_pure]
        · obtain ⟨q, hq, rfl⟩ := conc_ptr hy
          rw [sizeV_ok] at h
          obtain ⟨i, hi, h⟩ := h
          simp only [R.when_ok, Bool.and_eq_true, blt_iff, beq_iff, R.ok.injEq] at h
          obtain ⟨⟨⟨h0, rfl⟩, rfl⟩, rfl⟩ := h
          rw [hp] at hq
          obtain rfl := Option.some.inj hq
          have h1 : i.size ≠ 0 := by omega
          simp only [Op.equalIn, Sem.run_bind, hu, Result.andThen_ok, run_size hi, Sem.run_ite, ne_eq, h1, not_false_eq_true, if_true]
          show (sameAddr _ _).run PP w = _
          unfold sameAddr
          simp only [Sem.run_ite, beq_self_eq_true, if_true, Sem.run_pure]
          congr 1
          rename_i o'
          cases hb : Nat.beq o o' with
          | true => rw [beq_iff.1 hb, beq_self_eq_true]
          | false =>
            rw [beq_eq_false_iff_ne]
            intro e
            have : p.base + o = p.base + o' := congrArg Addr.off e
            rw [beq_iff.2 (by omega)] at hb
            cases hb
    case unsafePointer =>
      cases x <;> (try (simp only [reduceCtorEq] at h; done)) <;> cases y <;> simp only [reduceCtorEq, R.ok.injEq] at h <;> subst h
      · simp only [conc, Option.some.injEq] at hx hy
        subst hx; subst hy
        simp only [Op.equalIn, Sem.run_bind, hu, Result.andThen_ok, samePointer, Sem.run_pure, Option.isNone_none, Bool.and_self]
      · simp only [conc, Option.some.injEq] at hx
        obtain ⟨p, hp, rfl⟩ := conc_ptr hy
        subst hx
        simp only [Op.equalIn, Sem.run_bind, hu, Result.andThen_ok, samePointer, Sem.run_pure, Option.isNone_some, Bool.and_false]
      · simp only [conc, Option.some.injEq] at hy
        obtain ⟨p, hp, rfl⟩ := conc_ptr hx
        subst hy
        simp only [Op.equalIn, Sem.run_bind, hu, Result.andThen_ok, samePointer, Sem.run_pure, Option.isNone_some, Bool.false_and]
    case interface ms =>
      cases x <;> try (simp only [reduceCtorEq] at h; done)
      case inil =>
        simp only [conc, Option.some.injEq] at hx
        subst hx
        cases y <;> (try (simp only [reduceCtorEq] at h; done)) <;> try simp only [R.ok.injEq] at h
        · subst h
          simp only [conc, Option.some.injEq] at hy
          subst hy
          simp only [Op.equalIn, Sem.run_bind, hu, Result.andThen_ok, Sem.run_pure]
        · subst h
          simp only [conc, Option.map_eq_some_iff] at hy
          obtain ⟨z, hz, rfl⟩ := hy
          simp only [Op.equalIn, Sem.run_bind, hu, Result.andThen_ok, Sem.run_pure]
      case iface tx vx =>
        simp only [conc, Option.map_eq_some_iff] at hx
        obtain ⟨z, hz, rfl⟩ := hx
        cases y <;> (try (simp only [reduceCtorEq] at h; done)) <;> try simp only [R.ok.injEq] at h
        · subst h
          simp only [conc, Option.some.injEq] at hy
          subst hy
          simp only [Op.equalIn, Sem.run_bind, hu, Result.andThen_ok, Sem.run_pure]
        · simp only [conc, Option.map_eq_some_iff] at hy
          obtain ⟨z', hz', rfl⟩ := hy
          rename_i ty vy
          split at h
          · rename_i hb
            simp only [R.ok.injEq] at h
            subst h
            have : tx ≠ ty := fun e => by rw [beq_iff.2 e] at hb; cases hb
            simp only [Op.equalIn, Sem.run_bind, hu, Result.andThen_ok, Sem.run_ite, ne_eq, this, not_false_eq_true, if_true, Sem.run_pure]
          · rename_i hb
            rw [beq_iff] at hb
            subst hb
            rw [R.of_ok] at h
            obtain ⟨i, hi, h⟩ := h
            rw [R.when_ok] at h
            obtain ⟨hc, h⟩ := h
            have := ih _ _ _ _ h ρ z z' w hz hz'
            simp only [Op.equalIn, Sem.run_bind, hu, Result.andThen_ok, Sem.run_ite, ne_eq, not_true_eq_false, if_false, run_info hi, hc, Bool.not_true, Bool.false_eq_true, this]
    case struct fields =>
      cases x <;> try (simp only [reduceCtorEq] at h; done)
      cases y <;> try (simp only [reduceCtorEq] at h; done)
      rw [R.when_ok] at h
      obtain ⟨hg, h⟩ := h
      obtain ⟨_, hg2⟩ := eqg_iff hg
      obtain ⟨xs, hxs, rfl⟩ := conc_agg hx
      obtain ⟨ys, hys, rfl⟩ := conc_agg hy
      have hf : PP.fieldsOf t = fields := by unfold Program.fieldsOf; rw [hd]
      rw [run_equalIn_struct w n t _ _ (by rw [hf]; exact hd) hg2, hf]
      exact eqParts_fields ih hxs hys w _ _ h
    case array m el =>
      cases x <;> try (simp only [reduceCtorEq] at h; done)
      cases y <;> try (simp only [reduceCtorEq] at h; done)
      rw [sizeV_ok] at h
      obtain ⟨i, hi, h⟩ := h
      obtain ⟨xs, hxs, rfl⟩ := conc_agg hx
      obtain ⟨ys, hys, rfl⟩ := conc_agg hy
      have := eqParts_elems ih hxs hys w el i.size m 0 r h
      simp only [Op.equalIn, Sem.run_bind, hu, Result.andThen_ok, run_size hi]
      simp only [Std.Legacy.Range.forIn_eq_forIn_range', Std.Legacy.Range.size, Nat.sub_zero, Nat.add_sub_cancel, Nat.div_one]
      rw [this]
      cases r <;> simp only [Result.andThen_ok, if_true, Bool.false_eq_true, if_false, Sem.run_pure]
    case slice el =>
      cases x <;> (try (simp only [reduceCtorEq] at h; done)) <;> cases y <;> simp only [reduceCtorEq, R.ok.injEq] at h <;> subst h
      · simp only [conc, Option.some.injEq] at hx hy
        subst hx; subst hy
        simp only [Op.equalIn, Sem.run_bind, hu, Result.andThen_ok, Sem.run_pure, Option.isNone_none]
      · simp only [conc, Option.some.injEq] at hx
        obtain ⟨p, hp, _, rfl⟩ := conc_sl hy
        subst hx
        simp only [Op.equalIn, Sem.run_bind, hu, Result.andThen_ok, Sem.run_pure, Option.isNone_some]
      · simp only [conc, Option.some.injEq] at hy
        obtain ⟨p, hp, _, rfl⟩ := conc_sl hx
        subst hy
        simp only [Op.equalIn, Sem.run_bind, hu, Result.andThen_ok, Sem.run_pure]
    case map kt el =>
      cases x <;> (try (simp only [reduceCtorEq] at h; done)) <;> cases y <;> simp only [reduceCtorEq, R.ok.injEq] at h <;> subst h
      · simp only [conc, Option.some.injEq] at hx hy
        subst hx; subst hy
        simp only [Op.equalIn, Sem.run_bind, hu, Result.andThen_ok, Sem.run_pure, Option.isNone_none]
      · simp only [conc, Option.some.injEq, Option.map_eq_some_iff] at hx hy
        obtain ⟨p, hp, rfl⟩ := hy
        subst hx
        simp only [Op.equalIn, Sem.run_bind, hu, Result.andThen_ok, Sem.run_pure, Option.isNone_some]
      · simp only [conc, Option.some.injEq, Option.map_eq_some_iff] at hx hy
        obtain ⟨p, hp, rfl⟩ := hx
        subst hy
        simp only [Op.equalIn, Sem.run_bind, hu, Result.andThen_ok, Sem.run_pure]
    case func a b c =>
      cases x <;> (try (simp only [reduceCtorEq] at h; done)) <;> cases y <;> simp only [reduceCtorEq, R.ok.injEq] at h <;> subst h
      · simp only [conc, Option.some.injEq] at hx hy
        subst hx; subst hy
        simp only [Op.equalIn, Sem.run_bind, hu, Result.andThen_ok, Sem.run_pure]
      · simp only [conc, Option.some.injEq, Option.map_eq_some_iff, Option.bind_eq_some_iff] at hx hy
        obtain ⟨_, _, _, _, _, _, rfl⟩ := hy
        subst hx
        simp only [Op.equalIn, Sem.run_bind, hu, Result.andThen_ok, Sem.run_pure]
      · simp only [conc, Option.some.injEq, Option.map_eq_some_iff, Option.bind_eq_some_iff] at hx hy
        obtain ⟨_, _, _, _, _, _, rfl⟩ := hx
        subst hy
        simp only [Op.equalIn, Sem.run_bind, hu, Result.andThen_ok, Sem.run_pure]

end
end Go.Ev
