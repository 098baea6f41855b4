/- The operators. -/
import Derived.Test.YtafajhplaldeaaaGreatEvM
set_option linter.unusedVariables false
set_option linter.unusedSimpArgs false
namespace Go.Ev
open Go
attribute [local irreducible] PP

section
variable {E : Nat → Value}

/-- two values as an operator takes them -/
def BinIs (E : Nat → Value) (op : BinOp) (t : TypeId) (ox oy : Operand) (x y : VV) (ρ : Rho) (s : Sem Value) : Prop := ∃ x' y', conc E ρ x = some x' ∧ conc E ρ y = some y' ∧ s = BinS op t ox oy x' y'

def notNum : Value → Bool
  | .int _ _ => false
  | .float _ _ => false
  | .complex _ _ _ => false
  | .string _ => false
  | _ => true

def eqOp (neg : Bool) : BinOp := match neg with
  | true => .neq
  | false => .eql

theorem binOp_eq {neg : Bool} {t : TypeId} {x y : Value} (hn : notNum x = true) (w : World) : (Go.binOp (eqOp neg) t x y).run PP w = ((Op.equal t x y).run PP w).andThen fun b w => .ok (.bool (b != neg)) w := by
  cases neg <;> cases x <;> first | (cases hn; done) | (simp only [Go.binOp, eqOp, Sem.run_bind, Sem.run_pure, Bool.bne_false, Bool.bne_true])

theorem equal_run {t : TypeId} {x y : VV} {r : Bool} (h : equalV 100 t x y = .ok r) {ρ : Rho} {x' y' : Value} (hx : conc E ρ x = some x') (hy : conc E ρ y = some y') (w : World) : (Op.equal t x' y').run PP w = .ok r w :=
  equalV_snd 100 Op.maxDepth (by unfold Op.maxDepth; omega) t x y r h ρ x' y' w hx hy

theorem okB_cases {b : Bool} {H H' : VH} {v : VV} (h : okB b H = .ok v H') : H' = H ∧ v = .bool b := ⟨(okB_ok.1 h).2, (okB_ok.1 h).1⟩

theorem guard_other {neg : Bool} {t : TypeId} {ox oy : Operand} {x y : Value} (h1 : x ≠ .nilIface) (h2 : ∀ l, x ≠ .agg l) (w : World) : (Go.eqGuard (eqOp neg) t ox oy x y).run PP w = .ok () w := by
  cases neg <;> cases x <;> first | exact absurd rfl h1 | exact absurd rfl (h2 _) | rfl

theorem guard_agg {neg : Bool} {t : TypeId} {ox oy : Operand} {xs ys : Array Value} (h : eqg t = true) (w : World) : (Go.eqGuard (eqOp neg) t ox oy (.agg xs) (.agg ys)).run PP w = .ok () w :=
  run_eqGuard_agg w _ t ox oy xs ys (eqg_iff h).1

theorem guard_nil {neg : Bool} {t : TypeId} {ms : Array (String × TypeId)} {ox oy : Operand} (hd : PP.underlying t = some (.interface ms)) (h : (isC ox || isC oy || ms.isEmpty) = true) (w : World) : (Go.eqGuard (eqOp neg) t ox oy .nilIface .nilIface).run PP w = .ok () w := by
  have hg : (Op.eqGuardIn Op.maxDepth t .nilIface .nilIface).run PP w = .ok (!ms.isEmpty) w := by
    have : ∀ n, (Op.eqGuardIn (n + 1) t .nilIface .nilIface).run PP w = .ok (!ms.isEmpty) w := fun n => by
      simp only [Op.eqGuardIn, Sem.run_bind, run_und hd, Result.andThen_ok, Sem.run_pure]
    exact this 9999
  cases neg <;> cases ox <;> cases oy <;> simp only [isC, Bool.or_false, Bool.or_true, Bool.false_or, Bool.true_or] at h <;>
    simp only [Go.eqGuard, eqOp, Sem.run_bind, Sem.run_ite, Sem.run_pure, Result.andThen_ok, Bool.not_true, Bool.not_false, Bool.false_eq_true, if_false, if_true, Bool.or_true, Bool.or_false, Bool.true_or, hg, h, Bool.or_self] <;> rfl

theorem eqIface_snd {neg c : Bool} {t : TypeId} {ms : Array (String × TypeId)} {ox oy : Operand} (hc : c = (isC ox || isC oy)) (hd : PP.underlying t = some (.interface ms)) {x y : VV} {H H' : VH} {v : VV} (h : eqIface (c || ms.isEmpty) neg t x y H = .ok v H') :
    VSnd E H v H' (fun ρ _ s => BinIs E (eqOp neg) t ox oy x y ρ s) := by
  have hu : ∀ w, (underlying t).run PP w = .ok (.interface ms) w := fun w => run_und hd w
  unfold eqIface at h
  cases x <;> try (simp only [reduceCtorEq] at h; done)
  case inil =>
    cases y <;> try (simp only [reduceCtorEq] at h; done)
    case inil =>
      rw [RV.when_ok] at h
      obtain ⟨hg, h⟩ := h
      obtain ⟨rfl, rfl⟩ := okB_cases h
      refine VSnd.pure ?_
      rintro ρ w s ⟨x', y', hx, hy, rfl⟩ _
      simp only [conc, Option.some.injEq] at hx hy
      subst hx; subst hy; subst hc
      refine ⟨.bool (!neg), ?_, rfl⟩
      have he : (Op.equal t .nilIface .nilIface).run PP w = .ok true w := by
        have : ∀ n, (Op.equalIn (n + 1) t .nilIface .nilIface).run PP w = .ok true w := fun n => by simp only [Op.equalIn, Sem.run_bind, hu, Result.andThen_ok, Sem.run_pure]
        exact this 9999
      simp only [BinS, Sem.run_bind, guard_nil hd hg, Result.andThen_ok, binOp_eq (x := .nilIface) rfl, he]
      cases neg <;> rfl
    case iface tt z =>
      obtain ⟨rfl, rfl⟩ := okB_cases h
      refine VSnd.pure ?_
      rintro ρ w s ⟨x', y', hx, hy, rfl⟩ _
      simp only [conc, Option.some.injEq, Option.map_eq_some_iff] at hx hy
      obtain ⟨z', hz, rfl⟩ := hy
      subst hx
      refine ⟨.bool neg, ?_, rfl⟩
      have he : (Op.equal t .nilIface (.iface tt z')).run PP w = .ok false w := by
        have : ∀ n, (Op.equalIn (n + 1) t .nilIface (.iface tt z')).run PP w = .ok false w := fun n => by simp only [Op.equalIn, Sem.run_bind, hu, Result.andThen_ok, Sem.run_pure]
        exact this 9999
      have hg : (Go.eqGuard (eqOp neg) t ox oy .nilIface (.iface tt z')).run PP w = .ok () w := by cases neg <;> rfl
      simp only [BinS, Sem.run_bind, hg, Result.andThen_ok, binOp_eq (x := .nilIface) rfl, he]
      cases neg <;> rfl
  case iface tt z =>
    rw [RV.from_ok] at h
    obtain ⟨r, hr, h⟩ := h
    obtain ⟨rfl, rfl⟩ := okB_cases h
    refine VSnd.pure ?_
    rintro ρ w s ⟨x', y', hx, hy, rfl⟩ _
    have he := equal_run hr hx hy w
    simp only [conc, Option.map_eq_some_iff] at hx
    obtain ⟨z', hz, rfl⟩ := hx
    refine ⟨.bool (r != neg), ?_, rfl⟩
    simp only [BinS, Sem.run_bind, guard_other (x := .iface tt z') (by simp) (by simp), Result.andThen_ok, binOp_eq (x := .iface tt z') rfl, he]

/-- what 'equalV' says of two values that are neither numbers, nor texts, nor of an interface type -/
theorem eqAny_snd {neg : Bool} {t : TypeId} {d : TypeDesc} {ox oy : Operand} (hd : PP.underlying t = some d) (h1 : ∀ k, d ≠ .int k) (h2 : d ≠ .string) (h3 : ∀ ms, d ≠ .interface ms) {x y : VV} {r : Bool} {H H' : VH} {v : VV}
    (hr : equalV 100 t x y = .ok r) (hg : (∀ l, x ≠ .agg l) ∨ eqg t = true) (h : okB (r != neg) H = .ok v H') : VSnd E H v H' (fun ρ _ s => BinIs E (eqOp neg) t ox oy x y ρ s) := by
  obtain ⟨rfl, rfl⟩ := okB_cases h
  refine VSnd.pure ?_
  rintro ρ w s ⟨x', y', hx, hy, rfl⟩ _
  have he := equal_run hr hx hy w
  refine ⟨.bool (r != neg), ?_, rfl⟩
  have key : notNum x' = true ∧ (Go.eqGuard (eqOp neg) t ox oy x' y').run PP w = .ok () w := by
    unfold equalV at hr
    rw [descV_ok] at hr
    obtain ⟨d', hd', hr⟩ := hr
    rw [hd] at hd'
    obtain rfl := Option.some.inj hd'
    cases d <;> try (first | exact absurd rfl (h1 _) | exact absurd rfl h2 | exact absurd rfl (h3 _) | (simp only [reduceCtorEq] at hr; done))
    case struct fs =>
      cases x <;> try (simp only [reduceCtorEq] at hr; done)
      cases y <;> try (simp only [reduceCtorEq] at hr; done)
      obtain ⟨xs, _, rfl⟩ := conc_agg hx
      obtain ⟨ys, _, rfl⟩ := conc_agg hy
      exact ⟨rfl, guard_agg (hg.resolve_left fun x => x _ rfl) w⟩
    case array n e =>
      cases x <;> try (simp only [reduceCtorEq] at hr; done)
      cases y <;> try (simp only [reduceCtorEq] at hr; done)
      obtain ⟨xs, _, rfl⟩ := conc_agg hx
      obtain ⟨ys, _, rfl⟩ := conc_agg hy
      exact ⟨rfl, guard_agg (hg.resolve_left fun x => x _ rfl) w⟩
    all_goals
      cases x <;> try (simp only [reduceCtorEq] at hr; done)
      all_goals
        simp only [conc, Option.some.injEq, Option.map_eq_some_iff, Option.bind_eq_some_iff] at hx
        first
          | (subst hx; exact ⟨rfl, guard_other (by simp) (by simp) w⟩)
          | (obtain ⟨_, _, rfl⟩ := hx; exact ⟨rfl, guard_other (by simp) (by simp) w⟩)
          | (obtain ⟨_, _, _, _, _, _, rfl⟩ := hx; exact ⟨rfl, guard_other (by simp) (by simp) w⟩)
          | (obtain ⟨_, _, hx⟩ := hx; split at hx <;> cases hx; exact ⟨rfl, guard_other (by simp) (by simp) w⟩)
  simp only [BinS, Sem.run_bind, key.2, Result.andThen_ok, binOp_eq key.1, he]

theorem eql_snd {neg : Bool} {t : TypeId} {ox oy : Operand} {x y : K (T VV → VV)} {k : Cl} (hk : eqlK t (isC ox || isC oy) neg x y = .ok k) {sl : T VV} {H H' : VH} {v : VV} (h : k.f sl H = .ok v H') :
    VSnd E H v H' (fun ρ _ s => BinIs E (eqOp neg) t ox oy (x.f sl) (y.f sl) ρ s) := by
  unfold eqlK at hk
  rw [descV_ok] at hk
  obtain ⟨d, hd, hk⟩ := hk
  cases d
  case int kk =>
    simp only [R.ok.injEq] at hk
    subst hk
    refine int2_snd h fun j a b hb => ?_
    obtain ⟨rfl, rfl⟩ := okB_cases hb
    refine ⟨rfl, .bool (eqI a b != neg), fun _ => rfl, fun w => ?_⟩
    cases neg <;> simp [Go.binOp, eqOp, Op.intCmp, eqI_iff, bne]
  case string =>
    simp only [R.ok.injEq] at hk
    subst hk
    simp only [asStr_ok] at h
    obtain ⟨n, a, hx, m, b, hy, h⟩ := h
    obtain ⟨rfl, rfl⟩ := okB_cases h
    rw [hx, hy]
    refine str2_snd (v' := .bool (listEq a b != neg)) rfl fun h1 h2 h3 h4 => ⟨fun ρ => rfl, fun w => ?_⟩
    cases neg <;> simp only [Go.binOp, eqOp, Op.stringOp, toBA_toList, map_eq_iff h3 h4, Sem.run_pure, Bool.bne_false, Bool.bne_true]
  case interface ms =>
    simp only [R.ok.injEq] at hk
    subst hk
    exact eqIface_snd rfl hd h
  case struct fs =>
    rw [R.when_ok] at hk
    obtain ⟨hg, hk⟩ := hk
    simp only [R.ok.injEq] at hk
    subst hk
    simp only [asAgg_ok, RV.from_ok] at h
    obtain ⟨xs, hx, ys, hy, r, hr, h⟩ := h
    rw [hx, hy]
    exact eqAny_snd hd (by simp) (by simp) (by simp) hr (.inr hg) h
  case array n e =>
    rw [R.when_ok] at hk
    obtain ⟨hg, hk⟩ := hk
    simp only [R.ok.injEq] at hk
    subst hk
    simp only [asAgg_ok, RV.from_ok] at h
    obtain ⟨xs, hx, ys, hy, r, hr, h⟩ := h
    rw [hx, hy]
    exact eqAny_snd hd (by simp) (by simp) (by simp) hr (.inr hg) h
  all_goals
    simp only [R.ok.injEq] at hk
    subst hk
    simp only [RV.from_ok] at h
    obtain ⟨r, hr, h⟩ := h
    refine eqAny_snd hd (by simp) (by simp) (by simp) hr (.inl fun l hl => ?_) h
    rw [hl] at hr
    unfold equalV at hr
    rw [descV_ok] at hr
    obtain ⟨d', hd', hr⟩ := hr
    rw [hd] at hd'
    obtain rfl := Option.some.inj hd'
    simp only [reduceCtorEq] at hr

theorem ltI_iff {a b : Int} : ltI a b = decide (a < b) := by rw [ltI_eq]

theorem bin_snd (hE : Plain E) {op : BinOp} {t : TypeId} {ox oy : Operand} {x y : K (T VV → VV)} {k : Cl} (hk : binK op t (isC ox || isC oy) x y = .ok k) {sl : T VV} {H H' : VH} {v : VV} (h : k.f sl H = .ok v H') :
    VSnd E H v H' (fun ρ _ s => BinIs E op t ox oy (x.f sl) (y.f sl) ρ s) := by
  cases op
  case eql => exact eql_snd (neg := false) hk h
  case neq => exact eql_snd (neg := true) hk h
  case shl =>
    simp only [binK, R.ok.injEq] at hk
    subst hk
    simp only [asInt_ok] at h
    obtain ⟨j, a, hx, j', b, hy, h⟩ := h
    unfold shl at h
    cases b with
    | negSucc b => cases h
    | ofNat b =>
      simp only at h
      rw [okI_ok] at h
      obtain ⟨rfl, rfl⟩ := h
      refine VSnd.pure ?_
      rintro ρ w s ⟨x', y', hx', hy', rfl⟩ _
      rw [hx] at hx'; rw [hy] at hy'
      rw [conc_int hx', conc_int hy']
      refine ⟨_, ?_, rfl⟩
      have h0 : ¬ (Int.ofNat b < 0) := by simp only [Int.ofNat_eq_natCast]; omega
      simp only [BinS, Sem.run_bind, guard_int, Result.andThen_ok, Go.binOp, Op.shift, Sem.run_ite, if_neg h0, Sem.run_pure, wrapF_eq, toNat_of]
      congr 3
  case shr =>
    simp only [binK, R.ok.injEq] at hk
    subst hk
    simp only [asInt_ok] at h
    obtain ⟨j, a, hx, j', b, hy, h⟩ := h
    unfold shr at h
    cases b with
    | negSucc b => cases h
    | ofNat b =>
      simp only at h
      rw [okI_ok] at h
      obtain ⟨rfl, rfl⟩ := h
      refine VSnd.pure ?_
      rintro ρ w s ⟨x', y', hx', hy', rfl⟩ _
      rw [hx] at hx'; rw [hy] at hy'
      rw [conc_int hx', conc_int hy']
      refine ⟨_, ?_, rfl⟩
      have h0 : ¬ (Int.ofNat b < 0) := by simp only [Int.ofNat_eq_natCast]; omega
      simp only [BinS, Sem.run_bind, guard_int, Result.andThen_ok, Go.binOp, Op.shift, Sem.run_ite, if_neg h0, Sem.run_pure, toNat_of]
      congr 3
  case quo =>
    simp only [binK, R.ok.injEq] at hk
    subst hk
    refine int2_snd h fun j a b hb => ?_
    rw [bool_ok] at hb
    rcases hb with ⟨hz, hb⟩ | ⟨_, hb⟩
    · rw [okI_ok] at hb
      obtain ⟨rfl, rfl⟩ := hb
      rw [eqI_iff, beq_eq_false_iff_ne] at hz
      exact ⟨rfl, _, fun _ => rfl, fun w => by simp only [Go.binOp, ne_eq, not_true_eq_false, if_false, Op.intDiv, if_neg hz, Sem.run_pure, wrapF_eq]⟩
    · cases hb
  case rem =>
    simp only [binK, R.ok.injEq] at hk
    subst hk
    refine int2_snd h fun j a b hb => ?_
    rw [bool_ok] at hb
    rcases hb with ⟨hz, hb⟩ | ⟨_, hb⟩
    · rw [okI_ok] at hb
      obtain ⟨rfl, rfl⟩ := hb
      rw [eqI_iff, beq_eq_false_iff_ne] at hz
      exact ⟨rfl, _, fun _ => rfl, fun w => by simp only [Go.binOp, ne_eq, not_true_eq_false, if_false, Op.intDiv, if_neg hz, Sem.run_pure]⟩
    · cases hb
  case add =>
    simp only [binK, R.ok.injEq] at hk
    subst hk
    refine binKind_snd h fun j a b hb => ?_
    rw [okI_ok] at hb
    obtain ⟨rfl, rfl⟩ := hb
    exact ⟨rfl, _, fun _ => rfl, fun w => by simp only [Go.binOp, ne_eq, not_true_eq_false, if_false, Op.intArith, Sem.run_pure, wrapF_eq]; rfl⟩
  case sub =>
    simp only [binK, R.ok.injEq] at hk
    subst hk
    refine int2_snd h fun j a b hb => ?_
    rw [okI_ok] at hb
    obtain ⟨rfl, rfl⟩ := hb
    exact ⟨rfl, _, fun _ => rfl, fun w => by simp only [Go.binOp, ne_eq, not_true_eq_false, if_false, Op.intArith, Sem.run_pure, wrapF_eq]; rfl⟩
  case mul =>
    simp only [binK, R.ok.injEq] at hk
    subst hk
    refine int2_snd h fun j a b hb => ?_
    rw [okI_ok] at hb
    obtain ⟨rfl, rfl⟩ := hb
    exact ⟨rfl, _, fun _ => rfl, fun w => by simp only [Go.binOp, ne_eq, not_true_eq_false, if_false, Op.intArith, Sem.run_pure, wrapF_eq]; rfl⟩
  case and =>
    simp only [binK, R.ok.injEq] at hk
    subst hk
    refine int2_snd h fun j a b hb => ?_
    rw [okI_ok] at hb
    obtain ⟨rfl, rfl⟩ := hb
    exact ⟨rfl, _, fun _ => rfl, fun w => by simp only [Go.binOp, ne_eq, not_true_eq_false, if_false, Op.intBits, Sem.run_pure, wrapF_eq]; rfl⟩
  case or =>
    simp only [binK, R.ok.injEq] at hk
    subst hk
    refine int2_snd h fun j a b hb => ?_
    rw [okI_ok] at hb
    obtain ⟨rfl, rfl⟩ := hb
    exact ⟨rfl, _, fun _ => rfl, fun w => by simp only [Go.binOp, ne_eq, not_true_eq_false, if_false, Op.intBits, Sem.run_pure, wrapF_eq]; rfl⟩
  case xor =>
    simp only [binK, R.ok.injEq] at hk
    subst hk
    refine int2_snd h fun j a b hb => ?_
    rw [okI_ok] at hb
    obtain ⟨rfl, rfl⟩ := hb
    exact ⟨rfl, _, fun _ => rfl, fun w => by simp only [Go.binOp, ne_eq, not_true_eq_false, if_false, Op.intBits, Sem.run_pure, wrapF_eq]; rfl⟩
  case andNot =>
    simp only [binK, R.ok.injEq] at hk
    subst hk
    refine int2_snd h fun j a b hb => ?_
    rw [okI_ok] at hb
    obtain ⟨rfl, rfl⟩ := hb
    exact ⟨rfl, _, fun _ => rfl, fun w => by simp only [Go.binOp, ne_eq, not_true_eq_false, if_false, Op.intBits, Sem.run_pure, wrapF_eq]; rfl⟩
  case lss =>
    simp only [binK, R.ok.injEq] at hk
    subst hk
    simp only [lssV] at h
    cases hx : x.f sl
    case ext j =>
      rw [hx] at h
      cases hy : y.f sl <;> rw [hy] at h <;> try (simp only [reduceCtorEq] at h; done)
      rename_i kk c
      cases kk <;> cases c <;> try (simp only [reduceCtorEq] at h; done)
      rename_i c
      cases c <;> try (simp only [reduceCtorEq] at h; done)
      simp only [RV.when_ok, RV.ok.injEq] at h
      obtain ⟨h1, rfl, rfl⟩ := h
      cases hM : isM j with
      | true =>
        have hP : isP j = false := by
          unfold isM at hM; unfold isP
          rw [Bool.and_eq_true, ble_iff, blt_iff] at hM
          rw [Bool.and_eq_false_iff]
          right
          cases e : Nat.blt j 2250 with
          | false => rfl
          | true => rw [blt_iff] at e; omega
        unfold isM at hM
        rw [Bool.and_eq_true, ble_iff, blt_iff] at hM
        obtain ⟨m, e1, e2⟩ := hE.neg j hM.1 hM.2
        refine VSnd.pure ?_
        rintro ρ w s' ⟨x', y', hx', hy', rfl⟩ _
        simp only [conc, Option.some.injEq] at hx' hy'
        subst hx' hy'
        rw [e1]
        refine ⟨.bool true, ?_, by rfl⟩
        have hd : decide (m < Int.ofNat 0) = true := by simp; omega
        simp only [BinS, Sem.run_bind, guard_int, Result.andThen_ok, Go.binOp, ne_eq, not_true_eq_false, if_false, Op.intCmp, Sem.run_pure, hd]
      | false =>
        rw [hM, Bool.or_false] at h1
        have hP := h1
        unfold isP at h1
        rw [Bool.and_eq_true, ble_iff, blt_iff] at h1
        obtain ⟨m, e1⟩ := hE.pos j h1.1 h1.2
        refine VSnd.pure ?_
        rintro ρ w s' ⟨x', y', hx', hy', rfl⟩ _
        simp only [conc, Option.some.injEq] at hx' hy'
        subst hx' hy'
        rw [e1]
        refine ⟨.bool false, ?_, by rfl⟩
        have hd : decide ((m : Int) < Int.ofNat 0) = false := by simp <;> omega
        simp only [BinS, Sem.run_bind, guard_int, Result.andThen_ok, Go.binOp, ne_eq, not_true_eq_false, if_false, Op.intCmp, Sem.run_pure, hd]
    all_goals
      (rw [hx] at h
       refine VSnd.weaken (binKind_snd (ox := ox) (oy := oy) (t := t) h fun j a b hb => ?_) fun ρ w s' hs => ?_
       · obtain ⟨rfl, rfl⟩ := okB_cases hb
         exact ⟨rfl, _, fun _ => rfl, fun w => by simp only [Go.binOp, ne_eq, not_true_eq_false, if_false, Op.intCmp, Sem.run_pure, ltI_iff]⟩
       · exact hs)
  case leq =>
    simp only [binK, R.ok.injEq] at hk
    subst hk
    refine binKind_snd h fun j a b hb => ?_
    obtain ⟨rfl, rfl⟩ := okB_cases hb
    refine ⟨rfl, _, fun _ => rfl, fun w => ?_⟩
    have : (!ltI b a) = decide (a ≤ b) := by rw [ltI_iff, Bool.eq_iff_iff]; simp
    simp only [Go.binOp, ne_eq, not_true_eq_false, if_false, Op.intCmp, Sem.run_pure, this]
  case gtr =>
    simp only [binK, R.ok.injEq] at hk
    subst hk
    simp only [gtrV] at h
    cases hx : x.f sl
    case ext j =>
      rw [hx] at h
      cases hy : y.f sl <;> rw [hy] at h <;> try (simp only [reduceCtorEq] at h; done)
      rename_i kk c
      cases kk <;> cases c <;> try (simp only [reduceCtorEq] at h; done)
      rename_i c
      simp only [RV.when_ok, Bool.and_eq_true, ble_iff, blt_iff, RV.ok.injEq] at h
      obtain ⟨⟨⟨h1, h2⟩, h3⟩, rfl, rfl⟩ := h
      obtain ⟨s, _, e2, e3⟩ := hE.len (j - 1000) (by omega) (by omega)
      rw [show j - 1000 + 1000 = j by omega] at e2
      refine VSnd.pure ?_
      rintro ρ w s' ⟨x', y', hx', hy', rfl⟩ _
      simp only [conc, Option.some.injEq] at hx' hy'
      subst hx' hy'
      rw [e2]
      refine ⟨.bool false, ?_, rfl⟩
      have hd : decide ((s.size : Int) > Int.ofNat c) = false := by
        simp only [gt_iff_lt, decide_eq_false_iff_not, Int.ofNat_eq_natCast]; omega
      simp only [BinS, Sem.run_bind, guard_int, Result.andThen_ok, Go.binOp, ne_eq, not_true_eq_false, if_false, Op.intCmp, Sem.run_pure, hd]
    all_goals
      (rw [hx] at h
       refine VSnd.weaken (binKind_snd (ox := ox) (oy := oy) (t := t) h fun j a b hb => ?_) fun ρ w s' hs => ?_
       · obtain ⟨rfl, rfl⟩ := okB_cases hb
         exact ⟨rfl, _, fun _ => rfl, fun w => by simp only [Go.binOp, ne_eq, not_true_eq_false, if_false, Op.intCmp, Sem.run_pure, ltI_iff]⟩
       · exact hs)
  case geq =>
    simp only [binK, R.ok.injEq] at hk
    subst hk
    simp only [geqV] at h
    cases hx : x.f sl
    case ext j =>
      rw [hx] at h
      cases hy : y.f sl <;> rw [hy] at h <;> try (simp only [reduceCtorEq] at h; done)
      rename_i kk c
      cases kk <;> cases c <;> try (simp only [reduceCtorEq] at h; done)
      rename_i c
      cases c <;> try (simp only [reduceCtorEq] at h; done)
      simp only [RV.when_ok, RV.ok.injEq] at h
      obtain ⟨h1, rfl, rfl⟩ := h
      cases hM : isM j with
      | true =>
        have hP : isP j = false := by
          unfold isM at hM; unfold isP
          rw [Bool.and_eq_true, ble_iff, blt_iff] at hM
          rw [Bool.and_eq_false_iff]
          right
          cases e : Nat.blt j 2250 with
          | false => rfl
          | true => rw [blt_iff] at e; omega
        unfold isM at hM
        rw [Bool.and_eq_true, ble_iff, blt_iff] at hM
        obtain ⟨m, e1, e2⟩ := hE.neg j hM.1 hM.2
        refine VSnd.pure ?_
        rintro ρ w s' ⟨x', y', hx', hy', rfl⟩ _
        simp only [conc, Option.some.injEq] at hx' hy'
        subst hx' hy'
        rw [e1]
        refine ⟨.bool false, ?_, by rw [hP]; rfl⟩
        have hd : decide (m ≥ Int.ofNat 0) = false := by simp; omega
        simp only [BinS, Sem.run_bind, guard_int, Result.andThen_ok, Go.binOp, ne_eq, not_true_eq_false, if_false, Op.intCmp, Sem.run_pure, hd]
      | false =>
        rw [hM, Bool.or_false] at h1
        have hP := h1
        unfold isP at h1
        rw [Bool.and_eq_true, ble_iff, blt_iff] at h1
        obtain ⟨m, e1⟩ := hE.pos j h1.1 h1.2
        refine VSnd.pure ?_
        rintro ρ w s' ⟨x', y', hx', hy', rfl⟩ _
        simp only [conc, Option.some.injEq] at hx' hy'
        subst hx' hy'
        rw [e1]
        refine ⟨.bool true, ?_, by rw [hP]; rfl⟩
        have hd : decide ((m : Int) ≥ Int.ofNat 0) = true := by simp <;> omega
        simp only [BinS, Sem.run_bind, guard_int, Result.andThen_ok, Go.binOp, ne_eq, not_true_eq_false, if_false, Op.intCmp, Sem.run_pure, hd]
    all_goals
      (rw [hx] at h
       refine VSnd.weaken (binKind_snd (ox := ox) (oy := oy) (t := t) h fun j a b hb => ?_) fun ρ w s' hs => ?_
       · obtain ⟨rfl, rfl⟩ := okB_cases hb
         refine ⟨rfl, _, fun _ => rfl, fun w => ?_⟩
         have : (!ltI a b) = decide (a ≥ b) := by rw [ltI_iff, Bool.eq_iff_iff]; simp
         simp only [Go.binOp, ne_eq, not_true_eq_false, if_false, Op.intCmp, Sem.run_pure, this]
       · exact hs)

theorem un_snd {op : UnOp} {x : VV} {H H' : VH} {v : VV} (h : unV op x H = .ok v H') : VSnd E H v H' (fun ρ _ s => ∃ x', conc E ρ x = some x' ∧ s = Op.unary op x') := by
  cases op <;> simp only [unV, reduceCtorEq] at h
  case neg =>
    simp only [asInt_ok, okI_ok] at h
    obtain ⟨j, n, rfl, rfl, rfl⟩ := h
    refine VSnd.pure ?_
    rintro ρ w s ⟨x', hx, rfl⟩ _
    rw [conc_int hx]
    exact ⟨_, by simp only [Op.unary, Op.intArith, Sem.run_pure, wrapF_eq]; rfl, rfl⟩
  case xor =>
    simp only [asInt_ok, okI_ok] at h
    obtain ⟨j, n, rfl, rfl, rfl⟩ := h
    refine VSnd.pure ?_
    rintro ρ w s ⟨x', hx, rfl⟩ _
    rw [conc_int hx]
    exact ⟨_, by simp only [Op.unary, Op.intBits, Sem.run_pure, wrapF_eq]; rfl, rfl⟩
  case not =>
    simp only [asBool_ok, okB_ok] at h
    obtain ⟨b, rfl, rfl, rfl⟩ := h
    refine VSnd.pure ?_
    rintro ρ w s ⟨x', hx, rfl⟩ _
    rw [conc_bool hx]
    exact ⟨_, by simp only [Op.unary, Sem.run_pure], rfl⟩

end
end Go.Ev
