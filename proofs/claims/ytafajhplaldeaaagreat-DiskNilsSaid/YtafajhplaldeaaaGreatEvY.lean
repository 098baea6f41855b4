/- The plain operations, all of them. -/
import Derived.Test.YtafajhplaldeaaaGreatEvX
set_option linter.unusedVariables false
set_option linter.unusedSimpArgs false
namespace Go.Ev
open Go
attribute [local irreducible] PP

section
variable {E : Nat → Value}

/-- the slots that an operation looks at -/
def Sees (E : Nat → Value) (ρ : Rho) (t : T VV) (a : Act) (o : Op) : Prop := ∀ i, Operand.tmp i ∈ o.operands → On E ρ t a i

/-- An operation that enters no function: what it does in the great world. -/
def PlainSnd (E : Nat → Value) (o : Oper) (t : T VV) (H : VH) (v : VV) (H' : VH) : Prop :=
  VOk H → Mono H H' ∧ ∀ ρ w (a : Act), Pre E H H' ρ w → Sees E ρ t a o.op →
    ∃ r v' ρ' w', (execOp a.eval o).run PP w = .ok r w' ∧ (r = .value v' ∨ (r = .skip ∧ v' = undef)) ∧ conc E ρ' v = some v' ∧ Post E H H' ρ w ρ' w'

theorem PlainSnd.value {o : Oper} {t : T VV} {H H' : VH} {v : VV} (S : Act → Sem Value) (he : ∀ a, execOp a.eval o = (do Pure.pure (.value (← S a)) : Sem Next))
    (h : ∀ a, VSnd E H v H' (fun ρ _ s => Sees E ρ t a o.op ∧ Glob ρ ∧ s = S a)) : PlainSnd E o t H v H' := fun hv => by
  refine ⟨((h { tmps := #[], defers := [] }) hv).1, fun ρ w a hp hs => ?_⟩
  obtain ⟨v', ρ', w', h1, h2, h3⟩ := ((h a) hv).2 ρ w (S a) ⟨hs, hp.gl, rfl⟩ hp
  exact ⟨.value v', v', ρ', w', by rw [he]; simp only [Sem.run_bind, h1, Result.andThen_ok, Sem.run_pure], .inl rfl, h2, h3⟩

theorem PlainSnd.skip {o : Oper} {t : T VV} {H H' : VH} {v : VV} (hu : v = undefV) (S : Act → Sem Unit) (he : ∀ a, execOp a.eval o = (do S a; Pure.pure .skip : Sem Next))
    (h : ∀ a, VSnd E H v H' (fun ρ _ s => Sees E ρ t a o.op ∧ Glob ρ ∧ s = (do S a; Pure.pure undef))) : PlainSnd E o t H v H' := fun hv => by
  refine ⟨((h { tmps := #[], defers := [] }) hv).1, fun ρ w a hp hs => ?_⟩
  obtain ⟨v', ρ', w', h1, h2, h3⟩ := ((h a) hv).2 ρ w _ ⟨hs, hp.gl, rfl⟩ hp
  subst hu
  have : v' = undef := by
    simp only [undefV, conc, concs, Option.map_some, Option.some.injEq] at h2
    rw [← h2]; rfl
  subst this
  refine ⟨.skip, undef, ρ', w', ?_, .inr ⟨rfl, rfl⟩, h2, h3⟩
  rw [he]
  simp only [Sem.run_bind] at h1 ⊢
  cases hS : (S a).run PP w with
  | ok u w1 =>
    rw [hS] at h1
    simp only [Result.andThen_ok, Sem.run_pure, Result.ok.injEq] at h1 ⊢
    exact ⟨trivial, h1.2⟩
  | halt x w1 => rw [hS] at h1; cases h1

/-- an operand, seen -/
theorem sees_conc {o : Op} {x : Operand} {k : K (T VV → VV)} (hk : operK x = .ok k) (hx : x ∈ o.operands) {ρ : Rho} {t : T VV} {a : Act} (hs : Sees E ρ t a o) (hg : Glob ρ) : conc E ρ (k.f t) = some (a.eval x) :=
  operK_conc E hk hg fun i hi => hs i (by rw [← hi]; exact hx)

theorem plain_move (hE : Plain E) {dst : Option Tmp} {x : Operand} {type : TypeId} {pos : String} {after : Array Edge} {guard : Option (Nat × Bool)} {k : Cl} (hk : evPlain (.move x) = .ok k) {t : T VV} {H H' : VH} {v : VV} (h : k.f t H = .ok v H') :
    PlainSnd E ⟨dst, .move x, type, pos, after, guard⟩ t H v H' := by
  simp only [evPlain, reduceCtorEq] at hk
  rw [R.bind_ok] at hk
  obtain ⟨kx, hx, hk⟩ := hk
  simp only [R.ok.injEq] at hk
  subst hk
  simp only [RV.ok.injEq] at h
  obtain ⟨rfl, rfl⟩ := h
  refine PlainSnd.value (fun a => Pure.pure (a.eval x)) (fun a => rfl) fun a => VSnd.pure ?_
  rintro ρ w s ⟨hs, hg, rfl⟩ _
  exact ⟨_, rfl, sees_conc hx (by simp [Op.operands]) hs hg⟩

theorem plain_assign (hE : Plain E) {dst : Option Tmp} {x : Operand} {type : TypeId} {pos : String} {after : Array Edge} {guard : Option (Nat × Bool)} {k : Cl} (hk : evPlain (.assign x) = .ok k) {t : T VV} {H H' : VH} {v : VV} (h : k.f t H = .ok v H') :
    PlainSnd E ⟨dst, .assign x, type, pos, after, guard⟩ t H v H' := by
  simp only [evPlain, reduceCtorEq] at hk
  rw [R.bind_ok] at hk
  obtain ⟨kx, hx, hk⟩ := hk
  simp only [R.ok.injEq] at hk
  subst hk
  simp only [RV.ok.injEq] at h
  obtain ⟨rfl, rfl⟩ := h
  refine PlainSnd.value (fun a => Pure.pure (a.eval x)) (fun a => rfl) fun a => VSnd.pure ?_
  rintro ρ w s ⟨hs, hg, rfl⟩ _
  exact ⟨_, rfl, sees_conc hx (by simp [Op.operands]) hs hg⟩

theorem plain_pick (hE : Plain E) {dst : Option Tmp} {c : Operand} {x : Operand} {y : Operand} {type : TypeId} {pos : String} {after : Array Edge} {guard : Option (Nat × Bool)} {k : Cl} (hk : evPlain (.pick c x y) = .ok k) {t : T VV} {H H' : VH} {v : VV} (h : k.f t H = .ok v H') :
    PlainSnd E ⟨dst, .pick c x y, type, pos, after, guard⟩ t H v H' := by
  simp only [evPlain, reduceCtorEq] at hk
  simp only [R.bind_ok] at hk
  obtain ⟨kc, hc, kx, hx, ky, hy, hk⟩ := hk
  simp only [R.ok.injEq] at hk
  subst hk
  simp only [asBool_ok, bool_ok] at h
  obtain ⟨b, hb, h⟩ := h
  have h2 : H' = H ∧ v = if b then kx.f t else ky.f t := by
    rcases h with ⟨rfl, h⟩ | ⟨rfl, h⟩ <;> simp only [RV.ok.injEq] at h <;> exact ⟨h.2.symm, h.1.symm⟩
  obtain ⟨rfl, rfl⟩ := h2
  refine PlainSnd.value (fun a => do Pure.pure (if ← Go.asBool (a.eval c) then a.eval x else a.eval y)) (fun a => ?_) fun a => VSnd.pure ?_
  · simp only [execOp, bind_assoc, pure_bind]
  · rintro ρ w s ⟨hs, hg, rfl⟩ _
    have h1 := sees_conc hc (by simp [Op.operands]) hs hg
    have h2 := sees_conc hx (by simp [Op.operands]) hs hg
    have h3 := sees_conc hy (by simp [Op.operands]) hs hg
    rw [hb] at h1
    have e := conc_bool h1
    refine ⟨if b then a.eval x else a.eval y, ?_, by cases b <;> assumption⟩
    rw [e]
    simp [Go.asBool]

theorem plain_alloc (hE : Plain E) {dst : Option Tmp} {el : TypeId} {type : TypeId} {pos : String} {after : Array Edge} {guard : Option (Nat × Bool)} {k : Cl} (hk : evPlain (.alloc el) = .ok k) {t : T VV} {H H' : VH} {v : VV} (h : k.f t H = .ok v H') :
    PlainSnd E ⟨dst, .alloc el, type, pos, after, guard⟩ t H v H' := by
  simp only [evPlain, reduceCtorEq] at hk
  rw [zeroV_ok] at hk
  obtain ⟨i, z, x, hi, hz, hx, hk⟩ := hk
  simp only [R.ok.injEq] at hk
  subst hk
  exact PlainSnd.value (fun a => Instr.alloc el true (.tuple #[])) (fun a => rfl) fun a => (alloc_snd hE hi hz hx h).weaken fun ρ w s hs => hs.2.2

theorem plain_box (hE : Plain E) {dst : Option Tmp} {el : TypeId} {x : Operand} {type : TypeId} {pos : String} {after : Array Edge} {guard : Option (Nat × Bool)} {k : Cl} (hk : evPlain (.box el x) = .ok k) {t : T VV} {H H' : VH} {v : VV} (h : k.f t H = .ok v H') :
    PlainSnd E ⟨dst, .box el x, type, pos, after, guard⟩ t H v H' := by
  simp only [evPlain, reduceCtorEq] at hk
  rw [R.bind_ok] at hk
  obtain ⟨kx, hx, hk⟩ := hk
  simp only [R.ok.injEq] at hk
  subst hk
  exact PlainSnd.value (fun a => Instr.box el (a.eval x)) (fun a => rfl) fun a => (box_snd hE h).weaken fun ρ w s ⟨hs, hg, e⟩ => ⟨_, sees_conc hx (by simp [Op.operands]) hs hg, e⟩

theorem plain_build (hE : Plain E) {dst : Option Tmp} {ty : TypeId} {ps : Array (Nat × Operand)} {type : TypeId} {pos : String} {after : Array Edge} {guard : Option (Nat × Bool)} {k : Cl} (hk : evPlain (.build ty ps) = .ok k) {t : T VV} {H H' : VH} {v : VV} (h : k.f t H = .ok v H') :
    PlainSnd E ⟨dst, .build ty ps, type, pos, after, guard⟩ t H v H' := by
  simp only [evPlain, reduceCtorEq] at hk
  rw [R.bind_ok] at hk
  obtain ⟨kp, hp, hk⟩ := hk
  refine PlainSnd.value (fun a => Instr.build ty (ps.map fun (i, x) => (i, a.eval x))) (fun a => rfl) fun a => (build_snd hE hk h).weaken fun ρ w s ⟨hs, hg, e⟩ => ⟨_, ?_, e⟩
  have := pairsK_conc hp hg (a := a) (fun i hi => hs i (by simpa [Op.operands] using hi))
  rw [Array.toList_map]
  exact this

theorem plain_buildSlice (hE : Plain E) {dst : Option Tmp} {ty : TypeId} {n : Nat} {ps : Array (Nat × Operand)} {type : TypeId} {pos : String} {after : Array Edge} {guard : Option (Nat × Bool)} {k : Cl} (hk : evPlain (.buildSlice ty n ps) = .ok k) {t : T VV} {H H' : VH} {v : VV} (h : k.f t H = .ok v H') :
    PlainSnd E ⟨dst, .buildSlice ty n ps, type, pos, after, guard⟩ t H v H' := by
  simp only [evPlain, reduceCtorEq] at hk
  rw [R.bind_ok] at hk
  obtain ⟨kp, hp, hk⟩ := hk
  refine PlainSnd.value (fun a => Instr.buildSlice ty n (ps.map fun (i, x) => (i, a.eval x))) (fun a => by simp only [execOp]) fun a => (buildSl_snd hE hk h).weaken fun ρ w s ⟨hs, hg, e⟩ => ⟨_, ?_, e⟩
  have := pairsK_conc hp hg (a := a) (fun i hi => hs i (by simpa [Op.operands] using hi))
  rw [Array.toList_map]
  exact this

theorem plain_load (hE : Plain E) {dst : Option Tmp} {ty : TypeId} {x : Operand} {type : TypeId} {pos : String} {after : Array Edge} {guard : Option (Nat × Bool)} {k : Cl} (hk : evPlain (.load ty x) = .ok k) {t : T VV} {H H' : VH} {v : VV} (h : k.f t H = .ok v H') :
    PlainSnd E ⟨dst, .load ty x, type, pos, after, guard⟩ t H v H' := by
  simp only [evPlain, reduceCtorEq] at hk
  rw [R.bind_ok] at hk
  obtain ⟨kx, hx, hk⟩ := hk
  exact PlainSnd.value (fun a => Instr.loadAt ty (a.eval x)) (fun a => rfl) fun a => (loadK_snd hk h).weaken fun ρ w s ⟨hs, hg, e⟩ => ⟨_, sees_conc hx (by simp [Op.operands]) hs hg, e⟩

theorem plain_store (hE : Plain E) {dst : Option Tmp} {ty : TypeId} {x : Operand} {y : Operand} {type : TypeId} {pos : String} {after : Array Edge} {guard : Option (Nat × Bool)} {k : Cl} (hk : evPlain (.store ty x y) = .ok k) {t : T VV} {H H' : VH} {v : VV} (h : k.f t H = .ok v H') :
    PlainSnd E ⟨dst, .store ty x y, type, pos, after, guard⟩ t H v H' := by
  simp only [evPlain, reduceCtorEq] at hk
  simp only [R.bind_ok, sizeV_ok] at hk
  obtain ⟨kx, hx, ky, hy, i, hi, hk⟩ := hk
  simp only [R.ok.injEq] at hk
  subst hk
  obtain ⟨hu, hst⟩ := storeV_snd hE hi h
  exact PlainSnd.skip hu (fun a => Instr.storeAt ty (a.eval x) (a.eval y)) (fun a => by simp only [execOp]) fun a => hst.weaken fun ρ w s ⟨hs, hg, e⟩ => ⟨_, _, sees_conc hx (by simp [Op.operands]) hs hg, sees_conc hy (by simp [Op.operands]) hs hg, e⟩

theorem plain_nilCheck (hE : Plain E) {dst : Option Tmp} {x : Operand} {type : TypeId} {pos : String} {after : Array Edge} {guard : Option (Nat × Bool)} {k : Cl} (hk : evPlain (.nilCheck x) = .ok k) {t : T VV} {H H' : VH} {v : VV} (h : k.f t H = .ok v H') :
    PlainSnd E ⟨dst, .nilCheck x, type, pos, after, guard⟩ t H v H' := by
  simp only [evPlain, reduceCtorEq] at hk
  rw [R.bind_ok] at hk
  obtain ⟨kx, hx, hk⟩ := hk
  simp only [R.ok.injEq] at hk
  subst hk
  simp only at h
  intro hv
  have key : H' = H ∧ v = kx.f t ∧ ∀ (ρ : Rho) v', conc E ρ (kx.f t) = some v' → ∀ (a : Act), a.eval x = v' → execOp a.eval ⟨dst, .nilCheck x, type, pos, after, guard⟩ = Pure.pure (.value v') := by
    unfold evNil at h
    cases hxx : kx.f t with
    | ptr b u o =>
      rw [hxx] at h
      simp only [RV.ok.injEq] at h
      refine ⟨h.2.symm, h.1.symm, fun ρ v' hc a ha => ?_⟩
      obtain ⟨p, _, rfl⟩ := conc_ptr hc
      simp only [execOp, ha]
    | iface tt y =>
      rw [hxx] at h
      simp only [RV.ok.injEq] at h
      refine ⟨h.2.symm, h.1.symm, fun ρ v' hc a ha => ?_⟩
      simp only [conc, Option.map_eq_some_iff] at hc
      obtain ⟨z, _, rfl⟩ := hc
      simp only [execOp, ha]
    | fn f a b =>
      rw [hxx] at h
      cases f <;> simp only [reduceCtorEq, RV.ok.injEq] at h
      refine ⟨h.2.symm, h.1.symm, fun ρ v' hc a ha => ?_⟩
      simp only [conc, fnOf, Option.bind_some, Option.bind_eq_some_iff, Option.map_eq_some_iff] at hc
      obtain ⟨_, _, _, _, rfl⟩ := hc
      simp only [execOp, ha]
    | sl b u o l c s =>
      rw [hxx] at h
      simp only [RV.ok.injEq] at h
      refine ⟨h.2.symm, h.1.symm, fun ρ v' hc a ha => ?_⟩
      obtain ⟨p, _, _, rfl⟩ := conc_sl hc
      simp only [execOp, ha]
    | map b =>
      rw [hxx] at h
      simp only [RV.ok.injEq] at h
      refine ⟨h.2.symm, h.1.symm, fun ρ v' hc a ha => ?_⟩
      simp only [conc, Option.map_eq_some_iff] at hc
      obtain ⟨_, _, rfl⟩ := hc
      simp only [execOp, ha]
    | bool b => rw [hxx] at h; cases h
    | int b c => rw [hxx] at h; cases h
    | str b c => rw [hxx] at h; cases h
    | pnil => rw [hxx] at h; cases h
    | snil => rw [hxx] at h; cases h
    | mnil => rw [hxx] at h; cases h
    | fnil => rw [hxx] at h; cases h
    | inil => rw [hxx] at h; cases h
    | agg b => rw [hxx] at h; cases h
    | tup b => rw [hxx] at h; cases h
    | ext b => rw [hxx] at h; cases h
  obtain ⟨rfl, rfl, key⟩ := key
  refine ⟨Mono.refl hv, fun ρ w a hp hs => ?_⟩
  have hc := sees_conc hx (by simp [Op.operands]) hs hp.gl
  exact ⟨.value (a.eval x), a.eval x, ρ, w, by rw [key ρ _ hc a rfl]; rfl, .inl rfl, hc, Post.refl E hp hv⟩

theorem plain_binOp (hE : Plain E) {dst : Option Tmp} {op : BinOp} {ty : TypeId} {x : Operand} {y : Operand} {p : TypeId} {type : TypeId} {pos : String} {after : Array Edge} {guard : Option (Nat × Bool)} {k : Cl} (hk : evPlain (.binOp op ty x y p) = .ok k) {t : T VV} {H H' : VH} {v : VV} (h : k.f t H = .ok v H') :
    PlainSnd E ⟨dst, .binOp op ty x y p, type, pos, after, guard⟩ t H v H' := by
  simp only [evPlain, reduceCtorEq] at hk
  simp only [R.bind_ok] at hk
  obtain ⟨kx, hx, ky, hy, hk⟩ := hk
  exact PlainSnd.value (fun a => BinS op ty x y (a.eval x) (a.eval y)) (fun a => rfl) fun a => (bin_snd hE hk h).weaken fun ρ w s ⟨hs, hg, e⟩ => ⟨_, _, sees_conc hx (by simp [Op.operands]) hs hg, sees_conc hy (by simp [Op.operands]) hs hg, e⟩

theorem plain_unOp (hE : Plain E) {dst : Option Tmp} {op : UnOp} {ty : TypeId} {x : Operand} {type : TypeId} {pos : String} {after : Array Edge} {guard : Option (Nat × Bool)} {k : Cl} (hk : evPlain (.unOp op ty x) = .ok k) {t : T VV} {H H' : VH} {v : VV} (h : k.f t H = .ok v H') :
    PlainSnd E ⟨dst, .unOp op ty x, type, pos, after, guard⟩ t H v H' := by
  simp only [evPlain, reduceCtorEq] at hk
  rw [R.bind_ok] at hk
  obtain ⟨kx, hx, hk⟩ := hk
  simp only [R.ok.injEq] at hk
  subst hk
  exact PlainSnd.value (fun a => Op.unary op (a.eval x)) (fun a => rfl) fun a => (un_snd h).weaken fun ρ w s ⟨hs, hg, e⟩ => ⟨_, sees_conc hx (by simp [Op.operands]) hs hg, e⟩

theorem plain_convert (hE : Plain E) {dst : Option Tmp} {src : TypeId} {d : TypeId} {x : Operand} {type : TypeId} {pos : String} {after : Array Edge} {guard : Option (Nat × Bool)} {k : Cl} (hk : evPlain (.convert src d x) = .ok k) {t : T VV} {H H' : VH} {v : VV} (h : k.f t H = .ok v H') :
    PlainSnd E ⟨dst, .convert src d x, type, pos, after, guard⟩ t H v H' := by
  simp only [evPlain, reduceCtorEq] at hk
  rw [R.bind_ok] at hk
  obtain ⟨kx, hx, hk⟩ := hk
  exact PlainSnd.value (fun a => Go.convert src d (a.eval x)) (fun a => rfl) fun a => (conv_snd hk h).weaken fun ρ w s ⟨hs, hg, e⟩ => ⟨_, sees_conc hx (by simp [Op.operands]) hs hg, e⟩

theorem plain_makeInterface (hE : Plain E) {dst : Option Tmp} {ty : TypeId} {x : Operand} {type : TypeId} {pos : String} {after : Array Edge} {guard : Option (Nat × Bool)} {k : Cl} (hk : evPlain (.makeInterface ty x) = .ok k) {t : T VV} {H H' : VH} {v : VV} (h : k.f t H = .ok v H') :
    PlainSnd E ⟨dst, .makeInterface ty x, type, pos, after, guard⟩ t H v H' := by
  simp only [evPlain, reduceCtorEq] at hk
  simp only [R.bind_ok, descV_ok] at hk
  obtain ⟨kx, hx, d, hd, hk⟩ := hk
  refine PlainSnd.value (fun a => Instr.makeInterface ty (a.eval x)) (fun a => rfl) fun a => ?_
  have hrun : ∀ (y : Value) (w : World), (∀ ms, d ≠ .interface ms) → (Instr.makeInterface ty y).run PP w = .ok (.iface ty y) w := fun y w hn => by
    cases d <;> first | exact absurd rfl (hn _) | simp only [Instr.makeInterface, Sem.run_bind, run_und hd, Result.andThen_ok, Sem.run_pure]
  have hn : ∀ ms, d ≠ .interface ms := fun ms e => by subst e; simp only [reduceCtorEq] at hk
  have hk' : k = ⟨fun s H => .ok (.iface ty (kx.f s)) H⟩ := by
    cases d <;> first | exact absurd rfl (hn _) | (simp only [R.ok.injEq] at hk; exact hk.symm)
  subst hk'
  simp only [RV.ok.injEq] at h
  obtain ⟨rfl, rfl⟩ := h
  refine VSnd.pure ?_
  rintro ρ w s ⟨hs, hg, rfl⟩ _
  exact ⟨_, hrun _ w hn, by simp [conc, sees_conc hx (by simp [Op.operands]) hs hg]⟩

theorem plain_makeFunc (hE : Plain E) {dst : Option Tmp} {f : Fn} {first : Array Operand} {cap : Array Operand} {type : TypeId} {pos : String} {after : Array Edge} {guard : Option (Nat × Bool)} {k : Cl} (hk : evPlain (.makeFunc f first cap) = .ok k) {t : T VV} {H H' : VH} {v : VV} (h : k.f t H = .ok v H') :
    PlainSnd E ⟨dst, .makeFunc f first cap, type, pos, after, guard⟩ t H v H' := by
  simp only [evPlain, reduceCtorEq] at hk
  cases f <;> simp only [reduceCtorEq] at hk
  rename_i f
  simp only [R.bind_ok] at hk
  obtain ⟨ka, ha, kb, hb, hk⟩ := hk
  simp only [R.ok.injEq] at hk
  subst hk
  simp only [RV.ok.injEq] at h
  obtain ⟨rfl, rfl⟩ := h
  refine PlainSnd.value (fun a => Instr.makeFunc (.func f) (first.map a.eval) (cap.map a.eval)) (fun a => rfl) fun a => VSnd.pure ?_
  rintro ρ w s ⟨hs, hg, rfl⟩ _
  refine ⟨_, rfl, ?_⟩
  have h1 := opersK_conc E ha hg (a := a) (fun i hi => hs i (by simp only [Op.operands, Array.mem_append]; exact .inl (Array.mem_toList_iff.1 hi)))
  have h2 := opersK_conc E hb hg (a := a) (fun i hi => hs i (by simp only [Op.operands, Array.mem_append]; exact .inr (Array.mem_toList_iff.1 hi)))
  simp only [conc, fnOf, Option.bind_some, h1, h2, Option.map_some]
  congr 2
  · apply Array.ext'; simp
  · apply Array.ext'; simp

theorem plain_makeMap (hE : Plain E) {dst : Option Tmp} {ty : TypeId} {r : Option Operand} {type : TypeId} {pos : String} {after : Array Edge} {guard : Option (Nat × Bool)} {k : Cl} (hk : evPlain (.makeMap ty r) = .ok k) {t : T VV} {H H' : VH} {v : VV} (h : k.f t H = .ok v H') :
    PlainSnd E ⟨dst, .makeMap ty r, type, pos, after, guard⟩ t H v H' := by
  simp only [evPlain, reduceCtorEq] at hk
  simp only [R.bind_ok, mapT_ok] at hk
  obtain ⟨kr, hr, kt, el, kd, ht, hkd, hk⟩ := hk
  simp only [R.ok.injEq] at hk
  subst hk
  refine PlainSnd.value (fun a => Instr.makeMap ty (r.map a.eval)) (fun a => rfl) fun a => (makeMap_snd ht h).weaken fun ρ w s ⟨hs, hg, e⟩ => ⟨_, ?_, e⟩
  exact optK_conc hr hg fun i hi => hs i (by simp [Op.operands, hi])

theorem plain_makeSlice (hE : Plain E) {dst : Option Tmp} {ty : TypeId} {x : Operand} {y : Operand} {type : TypeId} {pos : String} {after : Array Edge} {guard : Option (Nat × Bool)} {k : Cl} (hk : evPlain (.makeSlice ty x y) = .ok k) {t : T VV} {H H' : VH} {v : VV} (h : k.f t H = .ok v H') :
    PlainSnd E ⟨dst, .makeSlice ty x y, type, pos, after, guard⟩ t H v H' := by
  simp only [evPlain, reduceCtorEq] at hk
  simp only [R.bind_ok] at hk
  obtain ⟨kx, hx, ky, hy, hk⟩ := hk
  exact PlainSnd.value (fun a => Instr.makeSlice ty (a.eval x) (a.eval y)) (fun a => rfl) fun a => (makeSl_snd hE hk h).weaken fun ρ w s ⟨hs, hg, e⟩ => ⟨_, _, sees_conc hx (by simp [Op.operands]) hs hg, sees_conc hy (by simp [Op.operands]) hs hg, e⟩

theorem plain_slice (hE : Plain E) {dst : Option Tmp} {ty : TypeId} {x : Operand} {lo : Option Operand} {hi : Option Operand} {mx : Option Operand} {type : TypeId} {pos : String} {after : Array Edge} {guard : Option (Nat × Bool)} {k : Cl} (hk : evPlain (.slice ty x lo hi mx) = .ok k) {t : T VV} {H H' : VH} {v : VV} (h : k.f t H = .ok v H') :
    PlainSnd E ⟨dst, .slice ty x lo hi mx, type, pos, after, guard⟩ t H v H' := by
  simp only [evPlain, reduceCtorEq] at hk
  simp only [R.bind_ok] at hk
  obtain ⟨kx, hx, kl, hl, kh, hh, km, hm, hk⟩ := hk
  refine PlainSnd.value (fun a => Instr.sliceAt ty (a.eval x) (lo.map a.eval) (hi.map a.eval) (mx.map a.eval)) (fun a => rfl) fun a => (slice_snd hk h).weaken fun ρ w s ⟨hs, hg, e⟩ => ⟨_, _, _, _, sees_conc hx (by simp [Op.operands]) hs hg, ?_, ?_, ?_, e⟩
  · exact optK_conc hl hg fun i hi => hs i (by simp [Op.operands, hi])
  · exact optK_conc hh hg fun i hi => hs i (by simp [Op.operands, hi])
  · exact optK_conc hm hg fun i hi => hs i (by simp [Op.operands, hi])

theorem plain_fieldAddr (hE : Plain E) {dst : Option Tmp} {st : TypeId} {x : Operand} {f : Nat} {type : TypeId} {pos : String} {after : Array Edge} {guard : Option (Nat × Bool)} {k : Cl} (hk : evPlain (.fieldAddr st x f) = .ok k) {t : T VV} {H H' : VH} {v : VV} (h : k.f t H = .ok v H') :
    PlainSnd E ⟨dst, .fieldAddr st x f, type, pos, after, guard⟩ t H v H' := by
  simp only [evPlain, reduceCtorEq] at hk
  rw [R.bind_ok] at hk
  obtain ⟨kx, hx, hk⟩ := hk
  exact PlainSnd.value (fun a => Instr.fieldAt st (a.eval x) f) (fun a => rfl) fun a => (fieldAddr_snd hk h).weaken fun ρ w s ⟨hs, hg, e⟩ => ⟨_, sees_conc hx (by simp [Op.operands]) hs hg, e⟩

theorem plain_field (hE : Plain E) {dst : Option Tmp} {st : TypeId} {x : Operand} {f : Nat} {type : TypeId} {pos : String} {after : Array Edge} {guard : Option (Nat × Bool)} {k : Cl} (hk : evPlain (.field st x f) = .ok k) {t : T VV} {H H' : VH} {v : VV} (h : k.f t H = .ok v H') :
    PlainSnd E ⟨dst, .field st x f, type, pos, after, guard⟩ t H v H' := by
  simp only [evPlain, reduceCtorEq] at hk
  rw [R.bind_ok] at hk
  obtain ⟨kx, hx, hk⟩ := hk
  exact PlainSnd.value (fun a => Instr.field st (a.eval x) f) (fun a => rfl) fun a => (field_snd hk h).weaken fun ρ w s ⟨hs, hg, e⟩ => ⟨_, sees_conc hx (by simp [Op.operands]) hs hg, e⟩

theorem plain_indexAddr (hE : Plain E) {dst : Option Tmp} {ty : TypeId} {x : Operand} {y : Operand} {type : TypeId} {pos : String} {after : Array Edge} {guard : Option (Nat × Bool)} {k : Cl} (hk : evPlain (.indexAddr ty x y) = .ok k) {t : T VV} {H H' : VH} {v : VV} (h : k.f t H = .ok v H') :
    PlainSnd E ⟨dst, .indexAddr ty x y, type, pos, after, guard⟩ t H v H' := by
  simp only [evPlain, reduceCtorEq] at hk
  simp only [R.bind_ok] at hk
  obtain ⟨kx, hx, ky, hy, hk⟩ := hk
  exact PlainSnd.value (fun a => Instr.indexAt ty (a.eval x) (a.eval y)) (fun a => rfl) fun a => (indexAddr_snd hk h).weaken fun ρ w s ⟨hs, hg, e⟩ => ⟨_, _, sees_conc hx (by simp [Op.operands]) hs hg, sees_conc hy (by simp [Op.operands]) hs hg, e⟩

theorem plain_index (hE : Plain E) {dst : Option Tmp} {ty : TypeId} {x : Operand} {y : Operand} {type : TypeId} {pos : String} {after : Array Edge} {guard : Option (Nat × Bool)} {k : Cl} (hk : evPlain (.index ty x y) = .ok k) {t : T VV} {H H' : VH} {v : VV} (h : k.f t H = .ok v H') :
    PlainSnd E ⟨dst, .index ty x y, type, pos, after, guard⟩ t H v H' := by
  simp only [evPlain, reduceCtorEq] at hk
  simp only [R.bind_ok] at hk
  obtain ⟨kx, hx, ky, hy, hk⟩ := hk
  exact PlainSnd.value (fun a => Instr.index ty (a.eval x) (a.eval y)) (fun a => rfl) fun a => (index_snd hk h).weaken fun ρ w s ⟨hs, hg, e⟩ => ⟨_, _, sees_conc hx (by simp [Op.operands]) hs hg, sees_conc hy (by simp [Op.operands]) hs hg, e⟩

theorem plain_lookup (hE : Plain E) {dst : Option Tmp} {ty : TypeId} {x : Operand} {y : Operand} {ok : Bool} {type : TypeId} {pos : String} {after : Array Edge} {guard : Option (Nat × Bool)} {k : Cl} (hk : evPlain (.lookup ty x y ok) = .ok k) {t : T VV} {H H' : VH} {v : VV} (h : k.f t H = .ok v H') :
    PlainSnd E ⟨dst, .lookup ty x y ok, type, pos, after, guard⟩ t H v H' := by
  simp only [evPlain, reduceCtorEq] at hk
  simp only [R.bind_ok, mapT_ok] at hk
  obtain ⟨kx, hx, ky, hy, kt, el, kd, ht, hkd, hk⟩ := hk
  rw [zeroV_ok] at hk
  obtain ⟨i, z, zx, hi, hz, hzx, hk⟩ := hk
  simp only [R.ok.injEq] at hk
  subst hk
  exact PlainSnd.value (fun a => Instr.lookup ty (a.eval x) (a.eval y) ok) (fun a => rfl) fun a => (lookup_snd ht hkd hi hz hzx h).weaken fun ρ w s ⟨hs, hg, e⟩ => ⟨_, _, sees_conc hx (by simp [Op.operands]) hs hg, sees_conc hy (by simp [Op.operands]) hs hg, e⟩

theorem plain_mapUpdate (hE : Plain E) {dst : Option Tmp} {ty : TypeId} {m : Operand} {x : Operand} {y : Operand} {type : TypeId} {pos : String} {after : Array Edge} {guard : Option (Nat × Bool)} {k : Cl} (hk : evPlain (.mapUpdate ty m x y) = .ok k) {t : T VV} {H H' : VH} {v : VV} (h : k.f t H = .ok v H') :
    PlainSnd E ⟨dst, .mapUpdate ty m x y, type, pos, after, guard⟩ t H v H' := by
  simp only [evPlain, reduceCtorEq] at hk
  simp only [R.bind_ok, mapT_ok] at hk
  obtain ⟨km, hm, kx, hx, ky, hy, kt, el, kd, ht, hkd, hk⟩ := hk
  simp only [R.ok.injEq] at hk
  subst hk
  obtain ⟨hu, hst⟩ := mapUpd_snd (E := E) ht hkd h
  exact PlainSnd.skip hu (fun a => Instr.mapUpdate ty (a.eval m) (a.eval x) (a.eval y)) (fun a => rfl) fun a => hst.weaken fun ρ w s ⟨hs, hg, e⟩ => ⟨_, _, _, sees_conc hm (by simp [Op.operands]) hs hg, sees_conc hx (by simp [Op.operands]) hs hg, sees_conc hy (by simp [Op.operands]) hs hg, e⟩

theorem plain_insert (hE : Plain E) {dst : Option Tmp} {ty : TypeId} {m : Operand} {x : Operand} {y : Operand} {type : TypeId} {pos : String} {after : Array Edge} {guard : Option (Nat × Bool)} {k : Cl} (hk : evPlain (.insert ty m x y) = .ok k) {t : T VV} {H H' : VH} {v : VV} (h : k.f t H = .ok v H') :
    PlainSnd E ⟨dst, .insert ty m x y, type, pos, after, guard⟩ t H v H' := by
  simp only [evPlain, reduceCtorEq] at hk
  simp only [R.bind_ok, mapT_ok] at hk
  obtain ⟨km, hm, kx, hx, ky, hy, kt, el, kd, ht, hkd, hk⟩ := hk
  simp only [R.ok.injEq] at hk
  subst hk
  obtain ⟨hu, hst⟩ := mapUpd_snd (E := E) ht hkd h
  exact PlainSnd.skip hu (fun a => Instr.mapUpdate ty (a.eval m) (a.eval x) (a.eval y)) (fun a => rfl) fun a => hst.weaken fun ρ w s ⟨hs, hg, e⟩ => ⟨_, _, _, sees_conc hm (by simp [Op.operands]) hs hg, sees_conc hx (by simp [Op.operands]) hs hg, sees_conc hy (by simp [Op.operands]) hs hg, e⟩

theorem plain_range (hE : Plain E) {dst : Option Tmp} {ty : TypeId} {x : Operand} {type : TypeId} {pos : String} {after : Array Edge} {guard : Option (Nat × Bool)} {k : Cl} (hk : evPlain (.range ty x) = .ok k) {t : T VV} {H H' : VH} {v : VV} (h : k.f t H = .ok v H') :
    PlainSnd E ⟨dst, .range ty x, type, pos, after, guard⟩ t H v H' := by
  simp only [evPlain, reduceCtorEq] at hk
  simp only [R.bind_ok, descV_ok] at hk
  obtain ⟨kx, hx, d, hd, hk⟩ := hk
  simp only [R.ok.injEq] at hk
  subst hk
  exact PlainSnd.value (fun a => Instr.range ty (a.eval x)) (fun a => rfl) fun a => (range_snd hd h).weaken fun ρ w s ⟨hs, hg, e⟩ => ⟨_, sees_conc hx (by simp [Op.operands]) hs hg, e⟩

theorem plain_entry (hE : Plain E) {dst : Option Tmp} {x : Operand} {type : TypeId} {pos : String} {after : Array Edge} {guard : Option (Nat × Bool)} {k : Cl} (hk : evPlain (.entry x) = .ok k) {t : T VV} {H H' : VH} {v : VV} (h : k.f t H = .ok v H') :
    PlainSnd E ⟨dst, .entry x, type, pos, after, guard⟩ t H v H' := by
  simp only [evPlain, reduceCtorEq] at hk
  rw [R.bind_ok] at hk
  obtain ⟨kx, hx, hk⟩ := hk
  simp only [R.ok.injEq] at hk
  subst hk
  exact PlainSnd.value (fun a => Instr.entry (a.eval x)) (fun a => rfl) fun a => (entry_snd h).weaken fun ρ w s ⟨hs, hg, e⟩ => ⟨_, sees_conc hx (by simp [Op.operands]) hs hg, e⟩

theorem plain_next (hE : Plain E) {dst : Option Tmp} {x : Operand} {isS : Bool} {type : TypeId} {pos : String} {after : Array Edge} {guard : Option (Nat × Bool)} {k : Cl} (hk : evPlain (.next x isS) = .ok k) {t : T VV} {H H' : VH} {v : VV} (h : k.f t H = .ok v H') :
    PlainSnd E ⟨dst, .next x isS, type, pos, after, guard⟩ t H v H' := by
  simp only [evPlain, reduceCtorEq] at hk
  rw [R.bind_ok] at hk
  obtain ⟨kx, hx, hk⟩ := hk
  simp only [R.ok.injEq] at hk
  subst hk
  exact PlainSnd.value (fun a => Instr.next (a.eval x) isS type) (fun a => rfl) fun a => (next_snd h).weaken fun ρ w s ⟨hs, hg, e⟩ => ⟨_, sees_conc hx (by simp [Op.operands]) hs hg, e⟩

theorem plain_typeAssert (hE : Plain E) {dst : Option Tmp} {x : Operand} {xt : TypeId} {ty : TypeId} {ok : Bool} {type : TypeId} {pos : String} {after : Array Edge} {guard : Option (Nat × Bool)} {k : Cl} (hk : evPlain (.typeAssert x xt ty ok) = .ok k) {t : T VV} {H H' : VH} {v : VV} (h : k.f t H = .ok v H') :
    PlainSnd E ⟨dst, .typeAssert x xt ty ok, type, pos, after, guard⟩ t H v H' := by
  simp only [evPlain, reduceCtorEq] at hk
  simp only [R.bind_ok, descV_ok, zeroV_ok] at hk
  obtain ⟨kx, hx, d, hd, i, z, zx, hi, hz, hzx, hk⟩ := hk
  simp only [R.ok.injEq] at hk
  subst hk
  exact PlainSnd.value (fun a => Instr.typeAssert (a.eval x) xt ty ok) (fun a => rfl) fun a => (typeAssert_snd hd hi hz hzx h).weaken fun ρ w s ⟨hs, hg, e⟩ => ⟨_, sees_conc hx (by simp [Op.operands]) hs hg, e⟩

theorem plain_extract (hE : Plain E) {dst : Option Tmp} {x : Operand} {i : Nat} {type : TypeId} {pos : String} {after : Array Edge} {guard : Option (Nat × Bool)} {k : Cl} (hk : evPlain (.extract x i) = .ok k) {t : T VV} {H H' : VH} {v : VV} (h : k.f t H = .ok v H') :
    PlainSnd E ⟨dst, .extract x i, type, pos, after, guard⟩ t H v H' := by
  simp only [evPlain, reduceCtorEq] at hk
  rw [R.bind_ok] at hk
  obtain ⟨kx, hx, hk⟩ := hk
  simp only [R.ok.injEq] at hk
  subst hk
  simp only [asTup_ok, nthK_ok, RV.ok.injEq] at h
  obtain ⟨l, hl, y, hy, rfl, rfl⟩ := h
  refine PlainSnd.value (fun a => Instr.extract (a.eval x) i) (fun a => rfl) fun a => VSnd.pure ?_
  rintro ρ w s ⟨hs, hg, rfl⟩ _
  have h1 := sees_conc hx (by simp [Op.operands]) hs hg
  rw [hl] at h1
  simp only [conc, Option.map_eq_some_iff] at h1
  obtain ⟨l', hl', he⟩ := h1
  obtain ⟨z, hz, hz2⟩ := concs_get E hl' i y hy
  refine ⟨z, ?_, hz⟩
  rw [← he]
  simp [Instr.extract, hz2]

theorem plain_snd (hE : Plain E) {o : Oper} {k : Cl} (hk : evPlain o.op = .ok k) {t : T VV} {H H' : VH} {v : VV} (h : k.f t H = .ok v H') : PlainSnd E o t H v H' := by
  obtain ⟨dst, op, type, pos, after, guard⟩ := o
  simp only at hk
  cases op
  case move => exact plain_move hE hk h
  case assign => exact plain_assign hE hk h
  case pick => exact plain_pick hE hk h
  case alloc => exact plain_alloc hE hk h
  case box => exact plain_box hE hk h
  case build => exact plain_build hE hk h
  case buildSlice => exact plain_buildSlice hE hk h
  case load => exact plain_load hE hk h
  case store => exact plain_store hE hk h
  case nilCheck => exact plain_nilCheck hE hk h
  case binOp => exact plain_binOp hE hk h
  case unOp => exact plain_unOp hE hk h
  case convert => exact plain_convert hE hk h
  case makeInterface => exact plain_makeInterface hE hk h
  case makeFunc => exact plain_makeFunc hE hk h
  case makeMap => exact plain_makeMap hE hk h
  case makeSlice => exact plain_makeSlice hE hk h
  case slice => exact plain_slice hE hk h
  case fieldAddr => exact plain_fieldAddr hE hk h
  case field => exact plain_field hE hk h
  case indexAddr => exact plain_indexAddr hE hk h
  case index => exact plain_index hE hk h
  case lookup => exact plain_lookup hE hk h
  case mapUpdate => exact plain_mapUpdate hE hk h
  case insert => exact plain_insert hE hk h
  case range => exact plain_range hE hk h
  case next => exact plain_next hE hk h
  case entry => exact plain_entry hE hk h
  case typeAssert => exact plain_typeAssert hE hk h
  case extract => exact plain_extract hE hk h
  all_goals (simp only [evPlain, reduceCtorEq] at hk)

end
end Go.Ev
