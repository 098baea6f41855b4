/- The plain operations: operators. -/
import Derived.Test.YtafajhplaldeaaaGreatEvK
import Derived.Laws.StructEq
import Derived.Laws.Concat
set_option linter.unusedVariables false
set_option linter.unusedSimpArgs false
namespace Go.Ev
open Go
attribute [local irreducible] PP

section
variable {E : Nat → Value}

theorem int2_ok {x y : VV} {k : IntKind → Int → Int → RV} {v : VV} {H : VH} : int2 x y k = .ok v H ↔ ∃ j a b, x = .int j a ∧ y = .int j b ∧ k j a b = .ok v H := by
  unfold int2
  simp only [asInt_ok, bool_no, kEq_iff]
  constructor
  · rintro ⟨j, a, rfl, j', b, rfl, rfl, h⟩
    exact ⟨j, a, b, rfl, rfl, h⟩
  · rintro ⟨j, a, b, rfl, rfl, h⟩
    exact ⟨j, a, rfl, j, b, rfl, rfl, h⟩

theorem okI_ok {k : IntKind} {n : Int} {H H' : VH} {v : VV} : okI k n H = .ok v H' ↔ v = .int k n ∧ H' = H := by
  unfold okI
  rw [intK_eq]
  simp only [RV.ok.injEq]
  exact ⟨fun ⟨x, y⟩ => ⟨x.symm, y.symm⟩, fun ⟨x, y⟩ => ⟨x.symm, y.symm⟩⟩
theorem okB_ok {b : Bool} {H H' : VH} {v : VV} : okB b H = .ok v H' ↔ v = .bool b ∧ H' = H := by
  cases b
  · show RV.ok _ _ = _ ↔ _
    simp only [RV.ok.injEq]
    exact ⟨fun ⟨x, y⟩ => ⟨x.symm, y.symm⟩, fun ⟨x, y⟩ => ⟨x.symm, y.symm⟩⟩
  · show RV.ok _ _ = _ ↔ _
    simp only [RV.ok.injEq]
    exact ⟨fun ⟨x, y⟩ => ⟨x.symm, y.symm⟩, fun ⟨x, y⟩ => ⟨x.symm, y.symm⟩⟩

/-- a binary operation as the program runs it -/
def BinS (op : BinOp) (t : TypeId) (ox oy : Operand) (x y : Value) : Sem Value := do
  Go.eqGuard op t ox oy x y
  Go.binOp op t x y

theorem guard_int (op : BinOp) (t : TypeId) (ox oy : Operand) (k k' : IntKind) (a b : Int) (w : World) : (Go.eqGuard op t ox oy (.int k a) (.int k' b)).run PP w = .ok () w := by
  cases op <;> rfl
theorem guard_str (op : BinOp) (t : TypeId) (ox oy : Operand) (a b : ByteArray) (w : World) : (Go.eqGuard op t ox oy (.string a) (.string b)).run PP w = .ok () w := by
  cases op <;> rfl

/-- one int operation -/
theorem int2_snd {op : BinOp} {t : TypeId} {ox oy : Operand} {x y : VV} {H H' : VH} {v : VV} {f : IntKind → Int → Int → RV} (h : int2 x y f = .ok v H')
    (hf : ∀ j a b, f j a b = .ok v H' → H' = H ∧ ∃ v', (∀ ρ, conc E ρ v = some v') ∧ ∀ w, (Go.binOp op t (.int j a) (.int j b)).run PP w = .ok v' w) :
    VSnd E H v H' (fun ρ _ s => ∃ x' y', conc E ρ x = some x' ∧ conc E ρ y = some y' ∧ s = BinS op t ox oy x' y') := by
  rw [int2_ok] at h
  obtain ⟨j, a, b, rfl, rfl, h⟩ := h
  obtain ⟨rfl, v', hv, hr⟩ := hf j a b h
  refine VSnd.pure ?_
  rintro ρ w s ⟨x', y', hx, hy, rfl⟩ _
  rw [conc_int hx, conc_int hy]
  refine ⟨v', ?_, hv ρ⟩
  simp only [BinS, Sem.run_bind, guard_int, Result.andThen_ok, hr]

/-- one operation on two strings -/
theorem str2_snd {op : BinOp} {t : TypeId} {ox oy : Operand} {n m : Nat} {a b : List Nat} {H H' : VH} {v : VV} {v' : Value} (hh : H' = H) (hv : n = a.length → m = b.length → (∀ i ∈ a, i < 256) → (∀ i ∈ b, i < 256) → (∀ ρ, conc E ρ v = some v') ∧ ∀ w, (Go.binOp op t (.string (toBA a)) (.string (toBA b))).run PP w = .ok v' w) :
    VSnd E H v H' (fun ρ _ s => ∃ x' y', conc E ρ (.str n a) = some x' ∧ conc E ρ (.str m b) = some y' ∧ s = BinS op t ox oy x' y') := by
  subst hh
  refine VSnd.pure ?_
  rintro ρ w s ⟨x', y', hx, hy, rfl⟩ _
  obtain ⟨h1, h2, rfl⟩ := conc_str hx
  obtain ⟨h3, h4, rfl⟩ := conc_str hy
  obtain ⟨hc, hr⟩ := hv h1 h3 h2 h4
  refine ⟨v', ?_, hc ρ⟩
  simp only [BinS, Sem.run_bind, guard_str, Result.andThen_ok, hr]

theorem strOp_snd {op : BinOp} {t : TypeId} {ox oy : Operand} {n m : Nat} {a b : List Nat} {H H' : VH} {v : VV} (h : strOp op n a m b H = .ok v H') :
    VSnd E H v H' (fun ρ _ s => ∃ x' y', conc E ρ (.str n a) = some x' ∧ conc E ρ (.str m b) = some y' ∧ s = BinS op t ox oy x' y') := by
  unfold strOp at h
  split at h
  · rw [natK_eq, RV.when_ok, ble_iff] at h
    obtain ⟨hl, h⟩ := h
    simp only [RV.ok.injEq] at h
    obtain ⟨rfl, rfl⟩ := h
    refine str2_snd (v' := .string (toBA (a ++ b))) rfl fun h1 h2 h3 h4 => ⟨fun ρ => ?_, fun w => ?_⟩
    · rw [appN_eq]
      simp only [conc]
      rw [if_pos ⟨by rw [h1, h2, List.length_append]; rfl, fun i hi => (List.mem_append.1 hi).elim (h3 i) (h4 i)⟩]
    · rw [binOp_string_add, run_string_add_sum _ _ _ (by rw [toBA_size, toBA_size, ← h1, ← h2]; have : n.add m = n + m := rfl; omega), toBA_append]
  · rw [okB_ok] at h
    obtain ⟨rfl, rfl⟩ := h
    refine str2_snd (v' := .bool (listLt a b)) rfl fun h1 h2 h3 h4 => ⟨fun ρ => rfl, fun w => ?_⟩
    rw [binOp_string_lss, toBA_toList, toBA_toList, bytesLess_eq h3 h4]; rfl
  · rw [okB_ok] at h
    obtain ⟨rfl, rfl⟩ := h
    refine str2_snd (v' := .bool (listLt a b || listEq a b)) rfl fun h1 h2 h3 h4 => ⟨fun ρ => rfl, fun w => ?_⟩
    simp only [Go.binOp, Op.stringOp, toBA_toList, bytesLess_eq h3 h4, map_eq_iff h3 h4, Sem.run_pure]
  · rw [okB_ok] at h
    obtain ⟨rfl, rfl⟩ := h
    refine str2_snd (v' := .bool (!(listLt a b || listEq a b))) rfl fun h1 h2 h3 h4 => ⟨fun ρ => rfl, fun w => ?_⟩
    simp only [Go.binOp, Op.stringOp, toBA_toList, bytesLess_eq h3 h4, map_eq_iff h3 h4, Sem.run_pure]
  · rw [okB_ok] at h
    obtain ⟨rfl, rfl⟩ := h
    refine str2_snd (v' := .bool (!listLt a b)) rfl fun h1 h2 h3 h4 => ⟨fun ρ => rfl, fun w => ?_⟩
    simp only [Go.binOp, Op.stringOp, toBA_toList, bytesLess_eq h3 h4, map_eq_iff h3 h4, Sem.run_pure]
  · cases h

theorem binKind_snd {op : BinOp} {t : TypeId} {ox oy : Operand} {x y : VV} {H H' : VH} {v : VV} {f : IntKind → Int → Int → RV} (h : binKind op x y H f = .ok v H')
    (hf : ∀ j a b, f j a b = .ok v H' → H' = H ∧ ∃ v', (∀ ρ, conc E ρ v = some v') ∧ ∀ w, (Go.binOp op t (.int j a) (.int j b)).run PP w = .ok v' w) :
    VSnd E H v H' (fun ρ _ s => ∃ x' y', conc E ρ x = some x' ∧ conc E ρ y = some y' ∧ s = BinS op t ox oy x' y') := by
  unfold binKind at h
  split at h
  · rw [asStr_ok] at h
    obtain ⟨m, b, rfl, h⟩ := h
    exact strOp_snd h
  · exact int2_snd h hf

/-! ### equality -/
theorem eqg_iff {t : TypeId} (h : eqg t = true) : PP.eqGuardType PP.depth t = false ∧ PP.stoodInHeld t = false := by
  unfold eqg at h
  split at h
  · cases h
  · rename_i h1
    split at h
    · cases h
    · rename_i h2; exact ⟨h1, h2⟩

theorem fieldParts_eq : ∀ (fs : List Field), fieldParts fs = (fs.filter fun f => f.name != "_").map fun f => (f.type, f.offset)
  | [] => rfl
  | f :: fs => by
    unfold fieldParts
    rw [fieldParts_eq fs]
    cases h : f.name == "_" with
    | true => simp [h, bne]
    | false => simp [h, bne]

/-- 'eq' is right at depth n -/
def EqSnd (E : Nat → Value) (eq : TypeId → VV → VV → R Bool) (n : Nat) : Prop := ∀ t x y r, eq t x y = .ok r → ∀ ρ x' y' w, conc E ρ x = some x' → conc E ρ y = some y' → (Op.equalIn n t x' y').run PP w = .ok r w

theorem partV_key {β : Type} {t : TypeId} {xs : List VV} {off : Nat} {k : VV → R β} {r : β} (hk : partV t xs off k = .ok r) : ∃ a, partV t xs off R.ok = .ok a ∧ k a = .ok r := by
  rw [partV_ok] at hk
  obtain ⟨d, hd, hk⟩ := hk
  rcases hk with ⟨hg, i, hi, hl, hk⟩ | ⟨hg, z, hz, hk⟩
  · exact ⟨_, partV_ok.2 ⟨d, hd, .inl ⟨hg, i, hi, hl, rfl⟩⟩, hk⟩
  · exact ⟨_, partV_ok.2 ⟨d, hd, .inr ⟨hg, z, hz, rfl⟩⟩, hk⟩

theorem eqParts_fields {eq : TypeId → VV → VV → R Bool} {n : Nat} (he : EqSnd E eq n) {xs ys : List VV} {xs' ys' : List Value} {ρ : Rho} (hx : concs E ρ xs = some xs') (hy : concs E ρ ys = some ys') (w : World) :
    ∀ (fs : List Field) (r : Bool), eqParts eq xs ys (fieldParts fs) = .ok r → (Op.eqFields n xs'.toArray ys'.toArray fs).run PP w = .ok r w := by
  intro fs
  induction fs with
  | nil => intro r h; simp only [fieldParts, eqParts, R.ok.injEq] at h; subst h; rfl
  | cons f fs ih =>
    intro r h
    unfold fieldParts at h
    unfold Op.eqFields
    cases hn : f.name == "_" with
    | true =>
      rw [hn] at h
      have : ¬ (f.name ≠ "_") := by simpa using hn
      rw [Sem.run_ite, if_neg this]
      exact ih r h
    | false =>
      rw [hn] at h
      have : f.name ≠ "_" := by simpa using hn
      rw [Sem.run_ite, if_pos this]
      simp only [eqParts] at h
      obtain ⟨a, ha, h⟩ := partV_key h
      obtain ⟨b, hb, h⟩ := partV_key h
      rw [R.bind_ok] at h
      obtain ⟨q, hq, h⟩ := h
      obtain ⟨a', ha1, ha2⟩ := part_both ha hx w
      obtain ⟨b', hb1, hb2⟩ := part_both hb hy w
      have hr := he _ _ _ _ hq ρ a' b' w ha1 hb1
      simp only [Sem.run_bind, ha2, hb2, hr, Result.andThen_ok, Sem.run_ite]
      cases q with
      | true =>
        simp only [Bool.not_true, Bool.false_eq_true, if_false]
        exact ih r h
      | false =>
        simp only [R.ok.injEq] at h
        subst h
        simp only [Bool.not_false, if_true, Sem.run_pure]

/-- the array's loop -/
theorem eqParts_elems {eq : TypeId → VV → VV → R Bool} {n : Nat} (he : EqSnd E eq n) {xs ys : List VV} {xs' ys' : List Value} {ρ : Rho} (hx : concs E ρ xs = some xs') (hy : concs E ρ ys = some ys') (w : World) (el : TypeId) (s : Nat) :
    ∀ (m i : Nat) (r : Bool), eqParts eq xs ys (elemParts el s m i) = .ok r →
    ((forIn (List.range' i m 1) ((none, ()) : Option Bool × Unit) fun i _ => do
      let a ← part el xs'.toArray (i * s)
      let b ← part el ys'.toArray (i * s)
      let q ← Op.equalIn n el a b
      if (!q) = true then Pure.pure (ForInStep.done (some false, ())) else Pure.pure (ForInStep.yield (none, ())) : Sem (Option Bool × Unit)).run PP w) = .ok (if r then none else some false, ()) w := by
  intro m
  induction m with
  | zero =>
    intro i r h
    simp only [elemParts, eqParts, R.ok.injEq] at h
    subst h
    simp
  | succ m ih =>
    intro i r h
    simp only [elemParts, eqParts] at h
    obtain ⟨a, ha, h⟩ := partV_key h
    obtain ⟨b, hb, h⟩ := partV_key h
    rw [R.bind_ok] at h
    obtain ⟨q, hq, h⟩ := h
    obtain ⟨a', ha1, ha2⟩ := part_both ha hx w
    obtain ⟨b', hb1, hb2⟩ := part_both hb hy w
    have hr := he _ _ _ _ hq ρ a' b' w ha1 hb1
    have ha3 : (part el xs'.toArray (i * s)).run PP w = .ok a' w := ha2
    have hb3 : (part el ys'.toArray (i * s)).run PP w = .ok b' w := hb2
    rw [List.range'_succ, List.forIn_cons]
    simp only [Sem.run_bind, ha3, hb3, hr, Result.andThen_ok, Sem.run_ite]
    cases q with
    | true =>
      simp only [Bool.not_true, Bool.false_eq_true, if_false, Sem.run_pure, Result.andThen_ok]
      exact ih _ r h
    | false =>
      simp only [R.ok.injEq] at h
      subst h
      simp

end
end Go.Ev
