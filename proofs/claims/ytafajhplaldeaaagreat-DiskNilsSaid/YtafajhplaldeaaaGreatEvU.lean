/- The plain operations: maps. -/
import Derived.Test.YtafajhplaldeaaaGreatEvS
import GoSem.Instr.MapUpdate
import GoSem.Builtin.Delete
set_option linter.unusedVariables false
set_option linter.unusedSimpArgs false
namespace Go.Ev
open Go
attribute [local irreducible] PP

section
variable {E : Nat → Value}

def prs (es : List MapEntry) : List (Value × Value) := es.map fun e => (e.key, e.val)

def NotRow (o : Obj) : Prop := match o with
  | .cells _ _ _ => False
  | _ => True

theorem run_getObj {r : Nat} {o : Obj} {w : World} (h : w.heap[r]? = some o) (hn : NotRow o) : (getObj r).run PP w = .ok o w := by
  cases o <;> first | exact hn.elim | simp only [getObj, Sem.run, h]
theorem run_setObj {r : Nat} {o o' : Obj} {w : World} (h : w.heap[r]? = some o') (hn : NotRow o') : (setObj r o).run PP w = .ok () (w.putObj r o) := by
  cases o' <;> first | exact hn.elim | (simp only [setObj, Sem.run, h]; rfl)

theorem keyEq_same {kd : TypeDesc} (hns : ∀ fs, kd ≠ .struct fs) {x y : VV} {b : Bool} (h : keyEq kd x y = .ok b) {ρ : Rho} {x' y' : Value} (hx : conc E ρ x = some x') (hy : conc E ρ y = some y') : Instr.sameNow kd x' y' = some b := by
  unfold keyEq at h
  cases kd <;> try (simp only [reduceCtorEq] at h; done)
  case struct fs => exact absurd rfl (hns fs)
  case int kk =>
    cases x <;> try (simp only [reduceCtorEq] at h; done)
    cases y <;> try (simp only [reduceCtorEq] at h; done)
    simp only at h
    split at h
    · rename_i hk
      rw [kEq_iff] at hk
      subst hk
      simp only [R.ok.injEq] at h
      subst h
      rw [conc_int hx, conc_int hy]
      simp [Instr.sameNow, eqI_iff]
    · cases h
  case string =>
    cases x <;> try (simp only [reduceCtorEq] at h; done)
    cases y <;> try (simp only [reduceCtorEq] at h; done)
    simp only [R.ok.injEq] at h
    subst h
    obtain ⟨_, h1, rfl⟩ := conc_str hx
    obtain ⟨_, h2, rfl⟩ := conc_str hy
    simp only [Instr.sameNow, ba_beq h1 h2]
  case bool =>
    cases x <;> try (simp only [reduceCtorEq] at h; done)
    cases y <;> try (simp only [reduceCtorEq] at h; done)
    simp only [R.ok.injEq] at h
    subst h
    rw [conc_bool hx, conc_bool hy]
    rfl

theorem same_bits {kd : TypeDesc} {x y : Value} {n : Nat} (h : Instr.sameNow kd x y = some true) : Instr.sameBits n y x = true := by
  unfold Instr.sameNow at h
  split at h
  · split at h
    · rename_i hk; subst hk
      simp only [Option.some.injEq, beq_iff_eq] at h
      subst h
      unfold Instr.sameBits; simp
    · cases h
  · simp only [Option.some.injEq] at h
    unfold Instr.sameBits
    rename_i a b
    have : b == a := by
      rw [beq_toListBytes] at h ⊢
      rw [beq_iff_eq] at h ⊢
      exact h.symm
    exact this
  · simp only [Option.some.injEq, beq_iff_eq] at h
    subst h
    unfold Instr.sameBits; simp
  · cases h

/-! ### keys, scalars and structs of scalars -/
/-- a key's type -/
structure KeyT (kt : TypeId) (kd : TypeDesc) : Prop where
  und : PP.underlying kt = some kd
  fine : keyFine kt kd = true

def SameIs (kt : TypeId) (kd : TypeDesc) (k' a : Value) (b : Bool) : Prop := match kd with
  | .struct _ => (∀ w, (Op.equal kt k' a).run PP w = .ok b w) ∧ (b = true → Instr.sameBits 10000 a k' = true)
  | kd => Instr.sameNow kd k' a = some b
def FindIs (kt : TypeId) (kd : TypeDesc) (k' : Value) (es : List MapEntry) (i : Nat) (r : Option (Nat × Value)) : Prop := match kd with
  | .struct _ => ∀ w, (Instr.findAsking kt k' es i).run PP w = .ok r w
  | kd => Instr.findNow kd k' es i = some r

theorem find_nil {kt : TypeId} {kd : TypeDesc} {k' : Value} {i : Nat} : FindIs kt kd k' [] i none := by
  cases kd <;> first | rfl | exact fun w => rfl
theorem find_hit {kt : TypeId} {kd : TypeDesc} {k' : Value} {e : MapEntry} {es : List MapEntry} {i : Nat} (h : SameIs kt kd k' e.key true) : FindIs kt kd k' (e :: es) i (some (i, e.val)) := by
  cases kd
  case struct fs =>
    intro w
    simp only [Instr.findAsking, Sem.run_bind, h.1 w, Result.andThen_ok, Sem.run_ite, if_true, Sem.run_pure]
  all_goals
    replace h : Instr.sameNow _ k' e.key = some true := h
    show Instr.findNow _ k' (e :: es) i = _
    simp only [Instr.findNow, h]
theorem find_miss {kt : TypeId} {kd : TypeDesc} {k' : Value} {e : MapEntry} {es : List MapEntry} {i : Nat} {r : Option (Nat × Value)} (h : SameIs kt kd k' e.key false) (h2 : FindIs kt kd k' es (i + 1) r) : FindIs kt kd k' (e :: es) i r := by
  cases kd
  case struct fs =>
    intro w
    simp only [Instr.findAsking, Sem.run_bind, h.1 w, Result.andThen_ok, Sem.run_ite, Bool.false_eq_true, if_false]
    exact h2 w
  all_goals
    replace h : Instr.sameNow _ k' e.key = some false := h
    show Instr.findNow _ k' (e :: es) i = _
    simp only [Instr.findNow, h]
    exact h2
theorem find_miss' {kt : TypeId} {kd : TypeDesc} {k' v' : Value} {e : MapEntry} {es : List MapEntry} {i j : Nat} (h : SameIs kt kd k' e.key false) (h2 : FindIs kt kd k' es (i + 1) (some (i + 1 + j, v'))) : FindIs kt kd k' (e :: es) i (some (i + (j + 1), v')) := by
  rw [show i + (j + 1) = i + 1 + j by omega]
  exact find_miss h h2
theorem bits_is {kt : TypeId} {kd : TypeDesc} {k' a : Value} (h : SameIs kt kd k' a true) : Instr.sameBits 10000 a k' = true := by
  cases kd
  case struct fs => exact h.2 rfl
  all_goals exact same_bits (show Instr.sameNow _ k' a = some true from h)

theorem sameNow_struct {fs : Array Field} {x y : Value} : Instr.sameNow (.struct fs) x y = none := by
  unfold Instr.sameNow; split <;> simp_all
theorem run_findKey {kd : TypeDesc} {kt : TypeId} (hkd : KeyT kt kd) {k : Value} {es : List MapEntry} {r : Option (Nat × Value)} (h : FindIs kt kd k es 0 r) (w : World) : (Instr.findKey kt k es).run PP w = .ok r w := by
  cases kd
  case struct fs =>
    cases es with
    | nil =>
      have := h w
      simp only [Instr.findAsking, Sem.run_pure, Result.ok.injEq, and_true] at this
      subst this
      simp only [Instr.findKey, Sem.run_bind, run_und hkd.und, Result.andThen_ok, Instr.findNow, Sem.run_pure]
    | cons e es =>
      simp only [Instr.findKey, Sem.run_bind, run_und hkd.und, Result.andThen_ok, Instr.findNow, sameNow_struct]
      exact h w
  all_goals
    replace h : Instr.findNow _ k es 0 = some r := h
    simp only [Instr.findKey, Sem.run_bind, run_und hkd.und, Result.andThen_ok, h, Sem.run_pure]

theorem cellEq_bits {x y : VV} (h : cellEq x y = .ok true) {ρ : Rho} {x' y' : Value} (hx : conc E ρ x = some x') (hy : conc E ρ y = some y') (n : Nat) : Instr.sameBits n y' x' = true := by
  unfold cellEq at h
  split at h
  · split at h
    · split at h
      · rename_i hk
        rw [kEq_iff] at hk
        subst hk
        simp only [R.ok.injEq, eqI_iff, beq_iff_eq] at h
        subst h
        rw [conc_int hx, conc_int hy]
        unfold Instr.sameBits; simp
      · cases h
    · cases h
  · split at h
    · simp only [R.ok.injEq] at h
      obtain ⟨_, h1, rfl⟩ := conc_str hx
      obtain ⟨_, h2, rfl⟩ := conc_str hy
      have := ba_beq h1 h2
      rw [h] at this
      have e2 : (toBA _ == toBA _) = true := this
      unfold Instr.sameBits
      rw [beq_toListBytes] at e2 ⊢
      rw [beq_iff_eq] at e2 ⊢
      exact e2.symm
    · cases h
  · split at h
    · simp only [R.ok.injEq, beq_iff_eq] at h
      subst h
      rw [conc_bool hx, conc_bool hy]
      unfold Instr.sameBits; simp
    · cases h
  · cases h

theorem cellsEq_bits : ∀ {xs ys : List VV}, cellsEq xs ys = .ok true → ∀ {ρ : Rho} {xs' ys' : List Value}, concs E ρ xs = some xs' → concs E ρ ys = some ys' → ∀ n, ys'.length = xs'.length ∧ (ys'.zip xs').all (fun (a, b) => Instr.sameBits n a b) = true
  | [], [], _, ρ, xs', ys', hx, hy, n => by
    simp only [concs, Option.some.injEq] at hx hy
    subst hx hy
    exact ⟨rfl, rfl⟩
  | x :: xs, y :: ys, h, ρ, xs', ys', hx, hy, n => by
    unfold cellsEq at h
    rw [R.bind_ok] at h
    obtain ⟨b, hb, h⟩ := h
    rw [R.bind_ok] at h
    obtain ⟨c, hc, h⟩ := h
    simp only [R.ok.injEq, Bool.and_eq_true] at h
    obtain ⟨rfl, rfl⟩ := h
    simp only [concs, Option.bind_eq_some_iff, Option.map_eq_some_iff] at hx hy
    obtain ⟨x', hx', l, hl, rfl⟩ := hx
    obtain ⟨y', hy', m, hm, rfl⟩ := hy
    obtain ⟨h1, h2⟩ := cellsEq_bits hc hl hm n
    refine ⟨by simp [h1], ?_⟩
    rw [List.zip_cons_cons, List.all_cons, h2]
    show (Instr.sameBits n y' x' && true) = true
    rw [cellEq_bits hb hx' hy' n]
    rfl
  | [], _ :: _, h, _, _, _, _, _, _ => by simp [cellsEq] at h
  | _ :: _, [], h, _, _, _, _, _, _ => by simp [cellsEq] at h

theorem keyEq_is {kd : TypeDesc} {kt : TypeId} (hkd : KeyT kt kd) {x y : VV} {b : Bool} (h : keyEq kd x y = .ok b) {ρ : Rho} {x' y' : Value} (hx : conc E ρ x = some x') (hy : conc E ρ y = some y') : SameIs kt kd x' y' b := by
  cases kd
  case struct fs =>
    unfold keyEq at h
    cases x <;> try (simp only [reduceCtorEq] at h; done)
    cases y <;> try (simp only [reduceCtorEq] at h; done)
    rename_i xs ys
    simp only at h
    split at h
    · rw [R.bind_ok] at h
      obtain ⟨q, hq, h⟩ := h
      rw [R.bind_ok] at h
      obtain ⟨c, hc, h⟩ := h
      split at h
      · rename_i hqc
        simp only [R.ok.injEq] at h
        subst h
        rw [beq_iff_eq] at hqc
        subst hqc
        obtain ⟨xs', hxs, rfl⟩ := conc_agg hx
        obtain ⟨ys', hys, rfl⟩ := conc_agg hy
        refine ⟨fun w => ?_, fun hb => ?_⟩
        · have hg : eqg kt = true := hkd.fine
          obtain ⟨_, hg2⟩ := eqg_iff hg
          have hff : PP.fieldsOf kt = fs := by unfold Program.fieldsOf; rw [hkd.und]
          have hf := eqParts_fields (equalV_snd 100 (Op.maxDepth - 1) (by decide)) hxs hys w fs.toList q hq
          show (Op.equalIn ((Op.maxDepth - 1) + 1) kt _ _).run PP w = _
          rw [run_equalIn_struct w _ kt _ _ (by rw [hff]; exact hkd.und) hg2, hff]
          exact hf
        · subst hb
          obtain ⟨h1, h2⟩ := cellsEq_bits hc hxs hys 9999
          show Instr.sameBits (9999 + 1) _ _ = true
          unfold Instr.sameBits
          simp only [List.size_toArray, Bool.and_eq_true, beq_iff_eq]
          exact ⟨h1, h2⟩
      · cases h
    · cases h
  all_goals exact keyEq_same (fun _ h => by cases h) h hx hy

theorem cellEq_refl {x : VV} {b : Bool} (h : cellEq x x = .ok b) : b = true := by
  cases x <;> simp only [cellEq, reduceCtorEq, R.ok.injEq] at h
  · rw [← h]; simp
  · split at h
    · simp only [R.ok.injEq] at h
      rw [← h, eqI_iff]; simp
    · cases h
  · rw [← h, listEq_eq]; simp
theorem cellsEq_refl : ∀ {xs : List VV} {b : Bool}, cellsEq xs xs = .ok b → b = true
  | [], b, h => by simp only [cellsEq, R.ok.injEq] at h; exact h.symm
  | x :: xs, b, h => by
    unfold cellsEq at h
    rw [R.bind_ok] at h
    obtain ⟨q, hq, h⟩ := h
    rw [R.bind_ok] at h
    obtain ⟨c, hc, h⟩ := h
    simp only [R.ok.injEq] at h
    rw [← h, cellEq_refl hq, cellsEq_refl hc]; rfl
theorem eqParts_all {eq : TypeId → VV → VV → R Bool} {xs ys : List VV} : ∀ {l : List (TypeId × Nat)}, eqParts eq xs ys l = .ok true → ∀ p ∈ l, ∃ a, partV p.1 xs p.2 R.ok = .ok a
  | [], _, p, hp => by cases hp
  | (t, off) :: l, h, p, hp => by
    simp only [eqParts] at h
    obtain ⟨a, ha, h⟩ := partV_key h
    obtain ⟨b, hb, h⟩ := partV_key h
    rw [R.bind_ok] at h
    obtain ⟨q, hq, h⟩ := h
    cases q with
    | false => simp at h
    | true =>
      rcases List.mem_cons.1 hp with rfl | hp
      · exact ⟨a, ha⟩
      · exact eqParts_all h p hp

theorem field_loop {g : Field → PUnit → Sem (ForInStep PUnit)} {w : World} : ∀ (l : List Field), (∀ f ∈ l, (g f PUnit.unit).run PP w = .ok (ForInStep.yield PUnit.unit) w) → (forIn l PUnit.unit g).run PP w = .ok PUnit.unit w
  | [], _ => by simp
  | f :: l, h => by
    rw [List.forIn_cons, Sem.run_bind, h f (by simp)]
    simp only [Result.andThen_ok]
    exact field_loop l fun f hf => h f (by simp [hf])

theorem checkKey_suc {kd : TypeDesc} {kt : TypeId} {k : VV} (hkd : KeyT kt kd) (h : okKey kd k = true) {ρ : Rho} (k' : Value) (hk : conc E ρ k = some k') (empty : Bool) (n : Nat) (w : World) : (Instr.checkKey empty (n + 2) kt k').run PP w = .ok () w := by
  have hu := run_und hkd.und w
  unfold okKey at h
  cases kd
  case struct fs =>
    cases hq : keyEq (.struct fs) k k with
    | no s => rw [hq] at h; cases h
    | ok b =>
      unfold keyEq at hq
      cases k <;> try (simp only [reduceCtorEq] at hq; done)
      rename_i xs
      simp only at hq
      split at hq
      · rename_i hpl
        rw [R.bind_ok] at hq
        obtain ⟨q, hq1, hq⟩ := hq
        rw [R.bind_ok] at hq
        obtain ⟨c, hc, hq⟩ := hq
        split at hq
        · rename_i hqc
          rw [beq_iff_eq] at hqc
          subst hqc
          obtain rfl := cellsEq_refl hc
          obtain ⟨xs', hxs, rfl⟩ := conc_agg hk
          have hall := eqParts_all hq1
          have hloop : ∀ f ∈ fs.toList, ∀ (g : Value → Sem PUnit), (∀ (d : TypeDesc) (v : Value), plainField f = true → PP.underlying f.type = some d → (g v).run PP w = .ok PUnit.unit w) → ∀ (m : Sem (ForInStep PUnit)), m = (if f.name ≠ "_" then (do let v ← part f.type xs'.toArray f.offset; g v; Pure.pure (ForInStep.yield PUnit.unit)) else Pure.pure (ForInStep.yield PUnit.unit)) → m.run PP w = .ok (ForInStep.yield PUnit.unit) w := by
            intro f hf g hg m hm
            subst hm
            cases hn : f.name == "_" with
            | true =>
              have : ¬ (f.name ≠ "_") := by simpa using hn
              rw [Sem.run_ite, if_neg this]
              rfl
            | false =>
              have hne : f.name ≠ "_" := by simpa using hn
              rw [Sem.run_ite, if_pos hne]
              obtain ⟨a, ha⟩ := hall (f.type, f.offset) (by
                rw [fieldParts_eq, List.mem_map]
                exact ⟨f, List.mem_filter.2 ⟨hf, by simpa [bne] using hn⟩, rfl⟩)
              obtain ⟨a', _, ha2⟩ := part_both ha hxs w
              have hpf := List.all_eq_true.1 hpl f hf
              obtain ⟨d, hd⟩ : ∃ d, PP.underlying f.type = some d := by
                unfold plainField at hpf
                cases hu2 : PP.underlying f.type with
                | none => rw [hu2] at hpf; cases hpf
                | some d => exact ⟨d, rfl⟩
              simp only [Sem.run_bind, ha2, hg d a' hpf hd, Result.andThen_ok, Sem.run_pure]
          rw [Instr.checkKey]
          simp only [Sem.run_bind, hu, Result.andThen_ok]
          rw [← Array.forIn_toList, field_loop fs.toList (fun f hf => hloop f hf (fun v => Instr.checkKey empty (n + 1) f.type v) (fun d v hpf hd => ?_) _ rfl)]
          · rfl
          · rw [Instr.checkKey]
            simp only [Sem.run_bind, run_und hd, Result.andThen_ok]
            unfold plainField at hpf
            rw [hd] at hpf
            cases d <;> first | (cases hpf; done) | rfl
        · cases hq
      · cases hq
  all_goals
    unfold keyEq at h
    first
      | (cases h; done)
      | (simp only [Instr.checkKey, Sem.run_bind, hu, Result.andThen_ok, Sem.run_pure])
theorem checkKey_ok {kd : TypeDesc} {kt : TypeId} {k : VV} (hkd : KeyT kt kd) (h : okKey kd k = true) {ρ : Rho} (k' : Value) (hk : conc E ρ k = some k') (empty : Bool) (w : World) : (Instr.checkKey empty 10000 kt k').run PP w = .ok () w := checkKey_suc hkd h k' hk empty 9998 w

theorem concP_cons {ρ : Rho} {k v : VV} {es : List (VV × VV)} {l : List (Value × Value)} : concP E ρ ((k, v) :: es) = some l ↔ ∃ a b r, conc E ρ k = some a ∧ conc E ρ v = some b ∧ concP E ρ es = some r ∧ l = (a, b) :: r := by
  simp only [concP, Option.bind_eq_some_iff, Option.map_eq_some_iff]
  constructor
  · rintro ⟨a, ha, b, hb, r, hr, rfl⟩; exact ⟨a, b, r, ha, hb, hr, rfl⟩
  · rintro ⟨a, b, r, ha, hb, hr, rfl⟩; exact ⟨a, ha, b, hb, r, hr, rfl⟩

theorem prs_cons {a b : Value} {r : List (Value × Value)} {es : List MapEntry} (h : (a, b) :: r = prs es) : ∃ e es', es = e :: es' ∧ e.key = a ∧ e.val = b ∧ r = prs es' := by
  cases es with
  | nil => cases h
  | cons e es' =>
    simp only [prs, List.map_cons, List.cons.injEq, Prod.mk.injEq] at h
    exact ⟨e, es', rfl, h.1.1.symm, h.1.2.symm, h.2⟩

theorem findV_now {kt : TypeId} {kd : TypeDesc} (hkd : KeyT kt kd) {k : VV} {ρ : Rho} {k' : Value} (hk : conc E ρ k = some k') : ∀ {es : List (VV × VV)} {es' : List MapEntry} {r : Option VV} (i : Nat), findV kd k es = .ok r → concP E ρ es = some (prs es') →
    match r with
    | none => FindIs kt kd k' es' i none
    | some v => ∃ j v', FindIs kt kd k' es' i (some (j, v')) ∧ conc E ρ v = some v'
  | [], es', r, i, h, hc => by
    simp only [findV, R.ok.injEq] at h
    subst h
    simp only [concP, Option.some.injEq] at hc
    have : es' = [] := by simpa [prs] using hc.symm
    subst this; exact find_nil
  | (a, b) :: es, es', r, i, h, hc => by
    obtain ⟨a', b', l, ha, hb, hl, he⟩ := concP_cons.1 hc
    obtain ⟨e, es'', rfl, rfl, rfl, rfl⟩ := prs_cons he.symm
    unfold findV at h
    split at h
    · rename_i hq
      simp only [R.ok.injEq] at h
      subst h
      have := keyEq_is hkd hq hk ha
      exact ⟨i, e.val, find_hit this, hb⟩
    · rename_i hq
      have hs := keyEq_is hkd hq hk ha
      have ih := findV_now hkd hk (i + 1) h hl
      cases r with
      | none => exact find_miss hs ih
      | some v =>
        obtain ⟨j, v', h1, h2⟩ := ih
        exact ⟨j, v', find_miss hs h1, h2⟩
    · cases h

/-- what 'setV' does, in both worlds -/
theorem setV_now {kt : TypeId} {kd : TypeDesc} (hkd : KeyT kt kd) {k x : VV} {ρ : Rho} {k' x' : Value} (hk : conc E ρ k = some k') (hx : conc E ρ x = some x') : ∀ {es es2 : List (VV × VV)} {es' : List MapEntry} (i : Nat), setV kd k x es = .ok es2 → concP E ρ es = some (prs es') →
    (FindIs kt kd k' es' i none ∧ ∀ born, concP E ρ es2 = some (prs (es' ++ [⟨k', x', born⟩]))) ∨
    ∃ j v' e, FindIs kt kd k' es' i (some (i + j, v')) ∧ es'[j]? = some e ∧ SameIs kt kd k' e.key true ∧ concP E ρ es2 = some (prs (es'.set j ⟨k', x', e.born⟩))
  | [], es2, es', i, h, hc => by
    simp only [setV, R.ok.injEq] at h
    subst h
    simp only [concP, Option.some.injEq] at hc
    have : es' = [] := by simpa [prs] using hc.symm
    subst this
    exact .inl ⟨find_nil, fun born => by simp [concP, hk, hx, prs]⟩
  | (a, b) :: es, es2, es', i, h, hc => by
    obtain ⟨a', b', l, ha, hb, hl, he⟩ := concP_cons.1 hc
    obtain ⟨e, es'', rfl, rfl, rfl, rfl⟩ := prs_cons he.symm
    unfold setV at h
    split at h
    · rename_i hq
      simp only [R.ok.injEq] at h
      subst h
      have := keyEq_is hkd hq hk ha
      refine .inr ⟨0, e.val, e, find_hit this, rfl, this, ?_⟩
      rw [concP_cons]
      exact ⟨k', x', _, hk, hx, hl, rfl⟩
    · rename_i hq
      have hs := keyEq_is hkd hq hk ha
      split at h
      · rename_i l2 hl2
        simp only [R.ok.injEq] at h
        subst h
        rcases setV_now hkd hk hx (i + 1) hl2 hl with ⟨h1, h2⟩ | ⟨j, v', e', h1, h2, h3, h4⟩
        · refine .inl ⟨find_miss hs h1, fun born => ?_⟩
          rw [concP_cons]
          exact ⟨e.key, e.val, _, ha, hb, h2 born, rfl⟩
        · refine .inr ⟨j + 1, v', e', find_miss' hs h1, by simpa using h2, h3, ?_⟩
          rw [concP_cons]
          exact ⟨e.key, e.val, _, ha, hb, h4, rfl⟩
      · cases h
    · cases h

theorem delV_now {kt : TypeId} {kd : TypeDesc} (hkd : KeyT kt kd) {k : VV} {ρ : Rho} {k' : Value} (hk : conc E ρ k = some k') : ∀ {es es2 : List (VV × VV)} {es' : List MapEntry} (i : Nat), delV kd k es = .ok es2 → concP E ρ es = some (prs es') →
    (FindIs kt kd k' es' i none ∧ concP E ρ es2 = some (prs es')) ∨
    ∃ j v', FindIs kt kd k' es' i (some (i + j, v')) ∧ concP E ρ es2 = some (prs (es'.eraseIdx j))
  | [], es2, es', i, h, hc => by
    simp only [delV, R.ok.injEq] at h
    subst h
    simp only [concP, Option.some.injEq] at hc
    have : es' = [] := by simpa [prs] using hc.symm
    subst this
    exact .inl ⟨find_nil, rfl⟩
  | (a, b) :: es, es2, es', i, h, hc => by
    obtain ⟨a', b', l, ha, hb, hl, he⟩ := concP_cons.1 hc
    obtain ⟨e, es'', rfl, rfl, rfl, rfl⟩ := prs_cons he.symm
    unfold delV at h
    split at h
    · rename_i hq
      simp only [R.ok.injEq] at h
      subst h
      have := keyEq_is hkd hq hk ha
      exact .inr ⟨0, e.val, find_hit this, hl⟩
    · rename_i hq
      have hs := keyEq_is hkd hq hk ha
      split at h
      · rename_i l2 hl2
        simp only [R.ok.injEq] at h
        subst h
        rcases delV_now hkd hk (i + 1) hl2 hl with ⟨h1, h2⟩ | ⟨j, v', h1, h4⟩
        · refine .inl ⟨find_miss hs h1, ?_⟩
          rw [concP_cons]
          exact ⟨e.key, e.val, _, ha, hb, h2, rfl⟩
        · refine .inr ⟨j + 1, v', find_miss' hs h1, ?_⟩
          rw [List.eraseIdx_cons_succ, concP_cons]
          exact ⟨e.key, e.val, _, ha, hb, h4, rfl⟩
      · cases h
    · cases h

theorem mapT_ok {β : Type} {t : TypeId} {k : TypeDesc → TypeId → R β} {b : β} : mapT t k = .ok b ↔ ∃ kt el kd, PP.underlying t = some (.map kt el) ∧ KeyT kt kd ∧ k kd el = .ok b := by
  unfold mapT
  rw [descV_ok]
  constructor
  · rintro ⟨d, hd, h⟩
    cases d <;> try (simp only [reduceCtorEq] at h; done)
    simp only [descV_ok, R.when_ok] at h
    obtain ⟨kd, h1, h2, h3⟩ := h
    exact ⟨_, _, kd, hd, ⟨h1, h2⟩, h3⟩
  · rintro ⟨kt, el, kd, h1, h2, h3⟩
    exact ⟨_, h1, by simp only [descV_ok, R.when_ok]; exact ⟨kd, h2.und, h2.fine, h3⟩⟩

theorem entriesV_ok {H H' : VH} {b : Nat} {k : List (VV × VV) → Option (List Nat × Nat) → RV} {v : VV} : entriesV H b k = .ok v H' ↔ ∃ es st, H.m.get b = some (.map es st) ∧ k es st = .ok v H' := by
  unfold entriesV
  split
  · rename_i es st h
    rw [h]
    exact ⟨fun h' => ⟨es, st, rfl, h'⟩, fun ⟨a, b, h1, h2⟩ => by cases h1; exact h2⟩
  · rename_i h
    constructor
    · intro h'; cases h'
    · rintro ⟨es, st, he, _⟩; exact absurd he (h es st)

def foundW (z : VV) (ok : Bool) (r : Option VV) : VV := match ok with
  | true => .tup [r.getD z, .bool r.isSome]
  | false => r.getD z

theorem foundV_ok {z : VV} {ok : Bool} {r : Option VV} {H H' : VH} {v : VV} (h : foundV z ok r H = .ok v H') : H' = H ∧ v = foundW z ok r := by
  unfold foundV at h
  cases r <;> cases ok <;> simp only [RV.ok.injEq] at h <;> exact ⟨h.2.symm, h.1.symm⟩

theorem concP_len {ρ : Rho} {l : List (VV × VV)} {r : List (Value × Value)} (h : concP E ρ l = some r) : r.length = l.length := by
  induction l generalizing r with
  | nil => simp only [concP, Option.some.injEq] at h; subst h; rfl
  | cons e l ih =>
    obtain ⟨k, v⟩ := e
    simp only [concP, Option.bind_eq_some_iff, Option.map_eq_some_iff] at h
    obtain ⟨_, _, _, _, r', h3, rfl⟩ := h
    simp [ih h3]

theorem lookup_snd {t : TypeId} {kt el : TypeId} {kd : TypeDesc} {i : TypeInfo} {zv : Value} {z : VV} {ok : Bool} {x k : VV} {H H' : VH} {v : VV} (ht : PP.underlying t = some (.map kt el)) (hkd : KeyT kt kd) (hi : PP.info? el = some i) (hzero : i.zero = some zv) (hz : abst 20 zv = some z)
    (h : lookupV kd z ok x k H = .ok v H') : VSnd E H v H' (fun ρ _ s => ∃ x' k', conc E ρ x = some x' ∧ conc E ρ k = some k' ∧ s = Instr.lookup t x' k' ok) := by
  unfold lookupV at h
  rw [RV.when_ok] at h
  obtain ⟨hok, h⟩ := h
  have fin : ∀ (r : Option VV) (ρ : Rho) (v' : Value), conc E ρ (r.getD z) = some v' → conc E ρ (foundW z ok r) = some (if ok then .tuple #[v', .bool r.isSome] else v') := by
    intro r ρ v' hv
    cases ok with
    | true => simp [foundW, conc, concs, hv]
    | false => simpa [foundW] using hv
  cases x <;> try (simp only [reduceCtorEq] at h; done)
  case mnil =>
    obtain ⟨rfl, rfl⟩ := foundV_ok h
    refine VSnd.pure ?_
    rintro ρ w s ⟨x', k', hx, hk, rfl⟩ _
    simp only [conc, Option.some.injEq] at hx
    subst hx
    refine ⟨_, ?_, fin none ρ zv (abst_conc E 20 zv z hz)⟩
    have h1 := run_findKey hkd (k := k') (es := []) (r := none) find_nil w
    have h2 := checkKey_ok hkd hok k' hk true w
    simp only [Instr.lookup, Sem.run_bind, run_und ht, Result.andThen_ok, Sem.run_pure]
    rw [show (#[] : Array MapEntry).isEmpty = true from rfl, h2]
    simp only [Result.andThen_ok, Array.toList_empty, h1, Sem.run_bind, run_zero hi hzero, Sem.run_pure]
    rfl
  case map b =>
    rw [entriesV_ok] at h
    obtain ⟨es, st, hes, h⟩ := h
    rw [RV.from_ok] at h
    obtain ⟨r, hr, h⟩ := h
    rw [touchK_eq] at h
    obtain ⟨rfl, rfl⟩ := foundV_ok h
    refine VSnd.touch hes (VSnd.pure ?_)
    rintro ρ w s ⟨⟨x', k', hx, hk, rfl⟩, hO⟩ _
    obtain ⟨p, es', c, hp, _, hw, hc, _⟩ := hO
    simp only [conc, hp, Option.map_some, Option.some.injEq] at hx
    subst hx
    have hf := findV_now hkd hk 0 hr hc
    have h2 := checkKey_ok hkd hok k' hk es'.isEmpty w
    cases r with
    | none =>
      refine ⟨_, ?_, fin none ρ zv (abst_conc E 20 zv z hz)⟩
      simp only [Instr.lookup, Sem.run_bind, run_und ht, Result.andThen_ok, run_getObj hw trivial, Sem.run_pure]
      rw [h2]
      simp only [Result.andThen_ok, run_findKey hkd hf, Sem.run_bind, run_zero hi hzero, Sem.run_pure]
      rfl
    | some y =>
      obtain ⟨j, v', hf, hv⟩ := hf
      refine ⟨_, ?_, fin (some y) ρ v' hv⟩
      simp only [Instr.lookup, Sem.run_bind, run_und ht, Result.andThen_ok, run_getObj hw trivial, Sem.run_pure]
      rw [h2]
      simp only [Result.andThen_ok, run_findKey hkd hf, Sem.run_pure]
      rfl

theorem prs_modify {es : Array MapEntry} {j : Nat} {k x : Value} {e : MapEntry} (h : es.toList[j]? = some e) : (es.modify j fun e => { e with key := k, val := x }).toList = es.toList.set j ⟨k, x, e.born⟩ := by
  apply List.ext_getElem?
  intro n
  rw [Array.getElem?_toList, Array.getElem?_modify, List.getElem?_set]
  by_cases e1 : j = n
  · subst e1
    have hj : j < es.toList.length := (List.getElem?_eq_some_iff.1 h).1
    rw [Array.getElem?_toList] at h
    rw [if_pos rfl, if_pos rfl, if_pos hj, h]; rfl
  · rw [if_neg e1, if_neg e1, Array.getElem?_toList]

theorem mapUpd_snd {t : TypeId} {kt el : TypeId} {kd : TypeDesc} {m k x : VV} {H H' : VH} {v : VV} (ht : PP.underlying t = some (.map kt el)) (hkd : KeyT kt kd)
    (h : mapUpdV kd m k x H = .ok v H') : v = undefV ∧ VSnd E H v H' (fun ρ _ s => ∃ m' k' x', conc E ρ m = some m' ∧ conc E ρ k = some k' ∧ conc E ρ x = some x' ∧ s = (do Instr.mapUpdate t m' k' x'; Pure.pure undef)) := by
  unfold mapUpdV at h
  rw [RV.when_ok] at h
  obtain ⟨hok, h⟩ := h
  cases m <;> try (simp only [reduceCtorEq] at h; done)
  rename_i b
  rw [entriesV_ok] at h
  obtain ⟨es, st, hes, h⟩ := h
  simp only [RV.from_ok, putO_eq, RV.ok.injEq] at h
  obtain ⟨es2, hes2, rfl, rfl⟩ := h
  refine ⟨rfl, VSnd.put hes ?_⟩
  rintro ρ w s ⟨m', k', x', hm, hk, hx, rfl⟩ _ hO
  obtain ⟨p, es', c, hp, hnn, hw, hc, hst⟩ := hO
  have hl0 := concP_len hc
  simp only [conc, hp, Option.map_some, Option.some.injEq] at hm
  subst hm
  have hlt : p.blk < w.heap.size := (Array.getElem?_eq_some_iff.1 hw).1
  have h2 := checkKey_ok hkd hok k' hk false w
  rcases setV_now hkd hk hx 0 hes2 hc with ⟨hf, hcc⟩ | ⟨j, v', e, hf, he, hsame, hcc⟩
  · refine ⟨undef, 0, p, .map (es'.push { key := k', val := x', born := c }) (c + 1), w.putObj p.blk _, hp, hlt, ?_, rfl, rfl, rfl, rfl, fun hw' => ⟨p, _, _, hp, hnn, hw', ?_⟩, rfl⟩
    · simp only [Instr.mapUpdate, Sem.run_bind, run_und ht, Result.andThen_ok, run_getObj hw trivial]
      rw [h2]
      simp only [Result.andThen_ok, run_findKey hkd hf, run_setObj hw trivial, Sem.run_pure]
    · have hcc2 := hcc c
      refine ⟨by rw [hcc2]; simp [prs], fun bs k' hg => ?_⟩
      have hl2 := concP_len hcc2
      rw [List.length_map] at hl0
      simp [prs] at hl2
      unfold grown at hg
      cases st with
      | none => cases hg
      | some y =>
        obtain ⟨bs0, k0⟩ := y
        simp only at hg
        have hne : Nat.beq (lenN es2) (lenN es) = false := by
          cases hb : Nat.beq (lenN es2) (lenN es) with
          | false => rfl
          | true => rw [beq_iff, lenN_eq, lenN_eq] at hb; rw [Array.length_toList] at hl0; omega
        rw [hne] at hg
        cases hg
        obtain ⟨h1, h2⟩ := hst bs0 k0 rfl
        subst h2
        rw [appN_eq]
        exact ⟨by rw [← h1]; simp, rfl⟩
  · have hbits : Instr.sameBits 10000 e.key k' = true := bits_is hsame
    rw [Nat.zero_add] at hf
    have hkey : (Instr.keyThatStays (((es'[j]?).map (·.key)).getD k') k').run PP w = .ok k' w := by
      rw [← Array.getElem?_toList, he]
      simp only [Option.map_some, Option.getD_some, Instr.keyThatStays, Sem.run_ite, if_pos hbits, Sem.run_pure]
    refine ⟨undef, 0, p, .map (es'.modify j fun e => { e with key := k', val := x' }) c, w.putObj p.blk _, hp, hlt, ?_, rfl, rfl, rfl, rfl, fun hw' => ⟨p, _, _, hp, hnn, hw', ?_⟩, rfl⟩
    · simp only [Instr.mapUpdate, Sem.run_bind, run_und ht, Result.andThen_ok, run_getObj hw trivial]
      rw [h2]
      simp only [Result.andThen_ok, run_findKey hkd hf, Sem.run_bind, hkey, run_setObj hw trivial, Sem.run_pure]
    · have hcc2 : concP E ρ es2 = some ((es'.modify j fun e => { e with key := k', val := x' }).toList.map fun e => (e.key, e.val)) := by rw [hcc, prs_modify he]; rfl
      refine ⟨hcc2, fun bs kk hg => ?_⟩
      have hl2 := concP_len hcc2
      simp at hl2 hl0
      unfold grown at hg
      cases st with
      | none => cases hg
      | some y =>
        obtain ⟨bs0, k0⟩ := y
        simp only at hg
        have hne : Nat.beq (lenN es2) (lenN es) = true := by rw [beq_iff, lenN_eq, lenN_eq]; omega
        rw [hne] at hg
        cases hg
        obtain ⟨h1, h2⟩ := hst bs kk rfl
        refine ⟨?_, h2⟩
        rw [prs_modify he, List.map_set, h1]
        have : bs[j]? = some e.born := by rw [← h1, List.getElem?_map, he]; rfl
        exact List.ext_getElem? fun n => by
          rw [List.getElem?_set]
          by_cases e1 : j = n
          · subst e1
            rw [if_pos rfl, if_pos (List.getElem?_eq_some_iff.1 this).1, this]
          · rw [if_neg e1]

theorem delete_snd {ts : Array TypeId} {t ty : TypeId} {kt el : TypeId} {kd : TypeDesc} {m k : VV} {H H' : VH} {v : VV} (h0 : ts[0]? = some t) (ht : PP.underlying t = some (.map kt el)) (hkd : KeyT kt kd)
    (h : deleteV kd m k H = .ok v H') : VSnd E H v H' (fun ρ _ s => ∃ m' k', conc E ρ m = some m' ∧ conc E ρ k = some k' ∧ s = Builtin.delete_ ts ty #[m', k']) := by
  unfold deleteV at h
  rw [RV.when_ok] at h
  obtain ⟨hok, h⟩ := h
  cases m <;> try (simp only [reduceCtorEq] at h; done)
  case mnil =>
    simp only [RV.ok.injEq] at h
    obtain ⟨rfl, rfl⟩ := h
    refine VSnd.pure ?_
    rintro ρ w s ⟨m', k', hm, hk, rfl⟩ _
    simp only [conc, Option.some.injEq] at hm
    subst hm
    have h2 := checkKey_ok hkd hok k' hk true w
    refine ⟨.tuple #[], ?_, rfl⟩
    simp [Builtin.delete_, h0, run_und ht, h2]
  case map b =>
    rw [entriesV_ok] at h
    obtain ⟨es, st, hes, h⟩ := h
    simp only [RV.from_ok, putO_eq, RV.ok.injEq] at h
    obtain ⟨es2, hes2, rfl, rfl⟩ := h
    refine VSnd.put hes ?_
    rintro ρ w s ⟨m', k', hm, hk, rfl⟩ _ hO
    obtain ⟨p, es', c, hp, hnn, hw, hc, hst⟩ := hO
    have hl0 := concP_len hc
    simp only [conc, hp, Option.map_some, Option.some.injEq] at hm
    subst hm
    have hlt : p.blk < w.heap.size := (Array.getElem?_eq_some_iff.1 hw).1
    have h2 := checkKey_ok hkd hok k' hk es'.isEmpty w
    have h2' : ∀ {x : Sem Value}, ((Instr.checkKey es'.isEmpty 10000 kt k').run PP w).andThen (fun _ w => x.run PP w) = x.run PP w := by intro x; rw [h2]; rfl
    rcases delV_now hkd hk 0 hes2 hc with ⟨hf, hcc⟩ | ⟨j, v', hf, hcc⟩
    · refine ⟨.tuple #[], 0, p, .map es' c, w.putObj p.blk _, hp, hlt, ?_, rfl, rfl, rfl, rfl, fun hw' => ⟨p, _, _, hp, hnn, hw', hcc, fun bs kk hg => by
        have hl2 := concP_len hcc
        unfold shrunk at hg
        cases st with
        | none => cases hg
        | some y =>
          obtain ⟨bs0, k0⟩ := y
          simp only at hg
          have hne : Nat.beq (lenN es2) (lenN es) = true := by rw [beq_iff, lenN_eq, lenN_eq]; exact hl2.symm.trans hl0
          rw [hne] at hg
          cases hg
          exact hst bs kk rfl⟩, rfl⟩
      simp [Builtin.delete_, h0, run_und ht, run_getObj hw trivial, h2, run_findKey hkd hf, run_setObj hw trivial]
    · rw [Nat.zero_add] at hf
      refine ⟨.tuple #[], 0, p, .map (es'.eraseIdxIfInBounds j) c, w.putObj p.blk _, hp, hlt, ?_, rfl, rfl, rfl, rfl, fun hw' => ⟨p, _, _, hp, hnn, hw', ?_⟩, rfl⟩
      · simp [Builtin.delete_, h0, run_und ht, run_getObj hw trivial, h2, run_findKey hkd hf, run_setObj hw trivial]
      · have hcc2 : concP E ρ es2 = some ((es'.eraseIdxIfInBounds j).toList.map fun e => (e.key, e.val)) := by
          rw [hcc]
          simp only [prs]
          rw [Array.toList_eraseIdxIfInBounds]
        refine ⟨hcc2, fun bs kk hg => ?_⟩
        have hl2 := concP_len hcc2
        unfold shrunk at hg
        cases st with
        | none => cases hg
        | some y =>
          obtain ⟨bs0, k0⟩ := y
          simp only at hg
          split at hg
          · rename_i hb
            cases hg
            by_cases hj : j < es'.toList.length
            · exfalso
              rw [beq_iff, lenN_eq, lenN_eq] at hb
              rw [Array.toList_eraseIdxIfInBounds, List.length_map, List.length_eraseIdx, if_pos hj] at hl2
              rw [List.length_map] at hl0
              omega
            · rw [Array.toList_eraseIdxIfInBounds, List.eraseIdx_of_length_le (Nat.le_of_not_lt hj)]
              exact hst _ _ rfl
          · split at hg
            · cases hg
              obtain ⟨_, h2⟩ := hst bs0 kk rfl
              refine ⟨?_, h2⟩
              have : (es'.eraseIdxIfInBounds j).toList = [] := by
                rw [List.length_map] at hl2
                exact List.length_eq_zero_iff.1 hl2
              rw [this]; rfl
            · cases hg

end
end Go.Ev
