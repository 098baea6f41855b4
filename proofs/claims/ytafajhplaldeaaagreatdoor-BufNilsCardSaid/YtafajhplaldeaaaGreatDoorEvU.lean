/- The plain operations: maps. -/
import Derived.Test.YtafajhplaldeaaaGreatDoorEvS
import GoSem.Instr.MapUpdate
import GoSem.Builtin.Delete
set_option linter.unusedVariables false
set_option linter.unusedSimpArgs false
namespace Go.Ev
open Go
attribute [local irreducible] PP

section
variable {E : Nat → Value}

def prs (es : List MapEntry) : List (Value × Value) := es.map fun e => (e.key, e.val)

def NotRow (o : Obj) : Prop := match o with
  | .cells _ _ _ => False
  | _ => True

theorem run_getObj {r : Nat} {o : Obj} {w : World} (h : w.heap[r]? = some o) (hn : NotRow o) : (getObj r).run PP w = .ok o w := by
  cases o <;> first | exact hn.elim | simp only [getObj, Sem.run, h]
theorem run_setObj {r : Nat} {o o' : Obj} {w : World} (h : w.heap[r]? = some o') (hn : NotRow o') : (setObj r o).run PP w = .ok () (w.putObj r o) := by
  cases o' <;> first | exact hn.elim | (simp only [setObj, Sem.run, h]; rfl)

theorem keyEq_same {kd : TypeDesc} {x y : VV} {b : Bool} (h : keyEq kd x y = .ok b) {ρ : Rho} {x' y' : Value} (hx : conc E ρ x = some x') (hy : conc E ρ y = some y') : Instr.sameNow kd x' y' = some b := by
  unfold keyEq at h
  cases kd <;> try (simp only [reduceCtorEq] at h; done)
  case int kk =>
    cases x <;> try (simp only [reduceCtorEq] at h; done)
    cases y <;> try (simp only [reduceCtorEq] at h; done)
    simp only at h
    split at h
    · rename_i hk
      rw [kEq_iff] at hk
      subst hk
      simp only [R.ok.injEq] at h
      subst h
      rw [conc_int hx, conc_int hy]
      simp [Instr.sameNow, eqI_iff]
    · cases h
  case string =>
    cases x <;> try (simp only [reduceCtorEq] at h; done)
    cases y <;> try (simp only [reduceCtorEq] at h; done)
    simp only [R.ok.injEq] at h
    subst h
    obtain ⟨_, h1, rfl⟩ := conc_str hx
    obtain ⟨_, h2, rfl⟩ := conc_str hy
    simp only [Instr.sameNow, ba_beq h1 h2]
  case bool =>
    cases x <;> try (simp only [reduceCtorEq] at h; done)
    cases y <;> try (simp only [reduceCtorEq] at h; done)
    simp only [R.ok.injEq] at h
    subst h
    rw [conc_bool hx, conc_bool hy]
    rfl

theorem checkKey_ok {kd : TypeDesc} {kt : TypeId} {k : VV} (hkd : PP.underlying kt = some kd) (h : okKey kd k = true) (k' : Value) (empty : Bool) (n : Nat) (w : World) : (Instr.checkKey empty (n + 1) kt k').run PP w = .ok () w := by
  have hu := run_und hkd w
  unfold okKey keyEq at h
  cases kd <;> try (cases h; done)
  all_goals simp only [Instr.checkKey, Sem.run_bind, hu, Result.andThen_ok, Sem.run_pure]

theorem same_bits {kd : TypeDesc} {x y : Value} {n : Nat} (h : Instr.sameNow kd x y = some true) : Instr.sameBits n y x = true := by
  unfold Instr.sameNow at h
  split at h
  · split at h
    · rename_i hk; subst hk
      simp only [Option.some.injEq, beq_iff_eq] at h
      subst h
      unfold Instr.sameBits; simp
    · cases h
  · simp only [Option.some.injEq] at h
    unfold Instr.sameBits
    rename_i a b
    have : b == a := by
      rw [beq_toListBytes] at h ⊢
      rw [beq_iff_eq] at h ⊢
      exact h.symm
    exact this
  · simp only [Option.some.injEq, beq_iff_eq] at h
    subst h
    unfold Instr.sameBits; simp
  · cases h

theorem concP_cons {ρ : Rho} {k v : VV} {es : List (VV × VV)} {l : List (Value × Value)} : concP E ρ ((k, v) :: es) = some l ↔ ∃ a b r, conc E ρ k = some a ∧ conc E ρ v = some b ∧ concP E ρ es = some r ∧ l = (a, b) :: r := by
  simp only [concP, Option.bind_eq_some_iff, Option.map_eq_some_iff]
  constructor
  · rintro ⟨a, ha, b, hb, r, hr, rfl⟩; exact ⟨a, b, r, ha, hb, hr, rfl⟩
  · rintro ⟨a, b, r, ha, hb, hr, rfl⟩; exact ⟨a, ha, b, hb, r, hr, rfl⟩

theorem prs_cons {a b : Value} {r : List (Value × Value)} {es : List MapEntry} (h : (a, b) :: r = prs es) : ∃ e es', es = e :: es' ∧ e.key = a ∧ e.val = b ∧ r = prs es' := by
  cases es with
  | nil => cases h
  | cons e es' =>
    simp only [prs, List.map_cons, List.cons.injEq, Prod.mk.injEq] at h
    exact ⟨e, es', rfl, h.1.1.symm, h.1.2.symm, h.2⟩

theorem findV_now {kd : TypeDesc} {k : VV} {ρ : Rho} {k' : Value} (hk : conc E ρ k = some k') : ∀ {es : List (VV × VV)} {es' : List MapEntry} {r : Option VV} (i : Nat), findV kd k es = .ok r → concP E ρ es = some (prs es') →
    match r with
    | none => Instr.findNow kd k' es' i = some none
    | some v => ∃ j v', Instr.findNow kd k' es' i = some (some (j, v')) ∧ conc E ρ v = some v'
  | [], es', r, i, h, hc => by
    simp only [findV, R.ok.injEq] at h
    subst h
    simp only [concP, Option.some.injEq] at hc
    have : es' = [] := by simpa [prs] using hc.symm
    subst this; rfl
  | (a, b) :: es, es', r, i, h, hc => by
    obtain ⟨a', b', l, ha, hb, hl, he⟩ := concP_cons.1 hc
    obtain ⟨e, es'', rfl, rfl, rfl, rfl⟩ := prs_cons he.symm
    unfold findV at h
    split at h
    · rename_i hq
      simp only [R.ok.injEq] at h
      subst h
      have := keyEq_same hq hk ha
      exact ⟨i, e.val, by simp [Instr.findNow, this], hb⟩
    · rename_i hq
      have hs := keyEq_same hq hk ha
      have ih := findV_now hk (i + 1) h hl
      cases r with
      | none => simp only at ih ⊢; simp only [Instr.findNow, hs]; exact ih
      | some v =>
        obtain ⟨j, v', h1, h2⟩ := ih
        exact ⟨j, v', by simp only [Instr.findNow, hs]; exact h1, h2⟩
    · cases h

/-- what 'setV' does, in both worlds -/
theorem setV_now {kd : TypeDesc} {k x : VV} {ρ : Rho} {k' x' : Value} (hk : conc E ρ k = some k') (hx : conc E ρ x = some x') : ∀ {es es2 : List (VV × VV)} {es' : List MapEntry} (i : Nat), setV kd k x es = .ok es2 → concP E ρ es = some (prs es') →
    (Instr.findNow kd k' es' i = some none ∧ ∀ born, concP E ρ es2 = some (prs (es' ++ [⟨k', x', born⟩]))) ∨
    ∃ j v' e, Instr.findNow kd k' es' i = some (some (i + j, v')) ∧ es'[j]? = some e ∧ Instr.sameNow kd k' e.key = some true ∧ concP E ρ es2 = some (prs (es'.set j ⟨k', x', e.born⟩))
  | [], es2, es', i, h, hc => by
    simp only [setV, R.ok.injEq] at h
    subst h
    simp only [concP, Option.some.injEq] at hc
    have : es' = [] := by simpa [prs] using hc.symm
    subst this
    exact .inl ⟨rfl, fun born => by simp [concP, hk, hx, prs]⟩
  | (a, b) :: es, es2, es', i, h, hc => by
    obtain ⟨a', b', l, ha, hb, hl, he⟩ := concP_cons.1 hc
    obtain ⟨e, es'', rfl, rfl, rfl, rfl⟩ := prs_cons he.symm
    unfold setV at h
    split at h
    · rename_i hq
      simp only [R.ok.injEq] at h
      subst h
      have := keyEq_same hq hk ha
      refine .inr ⟨0, e.val, e, by simp [Instr.findNow, this], rfl, this, ?_⟩
      rw [concP_cons]
      exact ⟨k', x', _, hk, hx, hl, rfl⟩
    · rename_i hq
      have hs := keyEq_same hq hk ha
      split at h
      · rename_i l2 hl2
        simp only [R.ok.injEq] at h
        subst h
        rcases setV_now hk hx (i + 1) hl2 hl with ⟨h1, h2⟩ | ⟨j, v', e', h1, h2, h3, h4⟩
        · refine .inl ⟨by simp only [Instr.findNow, hs]; exact h1, fun born => ?_⟩
          rw [concP_cons]
          exact ⟨e.key, e.val, _, ha, hb, h2 born, rfl⟩
        · refine .inr ⟨j + 1, v', e', by simp only [Instr.findNow, hs]; rw [h1, Nat.add_assoc, Nat.add_comm 1 j], by simpa using h2, h3, ?_⟩
          rw [concP_cons]
          exact ⟨e.key, e.val, _, ha, hb, h4, rfl⟩
      · cases h
    · cases h

theorem delV_now {kd : TypeDesc} {k : VV} {ρ : Rho} {k' : Value} (hk : conc E ρ k = some k') : ∀ {es es2 : List (VV × VV)} {es' : List MapEntry} (i : Nat), delV kd k es = .ok es2 → concP E ρ es = some (prs es') →
    (Instr.findNow kd k' es' i = some none ∧ concP E ρ es2 = some (prs es')) ∨
    ∃ j v', Instr.findNow kd k' es' i = some (some (i + j, v')) ∧ concP E ρ es2 = some (prs (es'.eraseIdx j))
  | [], es2, es', i, h, hc => by
    simp only [delV, R.ok.injEq] at h
    subst h
    simp only [concP, Option.some.injEq] at hc
    have : es' = [] := by simpa [prs] using hc.symm
    subst this
    exact .inl ⟨rfl, rfl⟩
  | (a, b) :: es, es2, es', i, h, hc => by
    obtain ⟨a', b', l, ha, hb, hl, he⟩ := concP_cons.1 hc
    obtain ⟨e, es'', rfl, rfl, rfl, rfl⟩ := prs_cons he.symm
    unfold delV at h
    split at h
    · rename_i hq
      simp only [R.ok.injEq] at h
      subst h
      have := keyEq_same hq hk ha
      exact .inr ⟨0, e.val, by simp [Instr.findNow, this], hl⟩
    · rename_i hq
      have hs := keyEq_same hq hk ha
      split at h
      · rename_i l2 hl2
        simp only [R.ok.injEq] at h
        subst h
        rcases delV_now hk (i + 1) hl2 hl with ⟨h1, h2⟩ | ⟨j, v', h1, h4⟩
        · refine .inl ⟨by simp only [Instr.findNow, hs]; exact h1, ?_⟩
          rw [concP_cons]
          exact ⟨e.key, e.val, _, ha, hb, h2, rfl⟩
        · refine .inr ⟨j + 1, v', by simp only [Instr.findNow, hs]; rw [h1, Nat.add_assoc, Nat.add_comm 1 j], ?_⟩
          rw [List.eraseIdx_cons_succ, concP_cons]
          exact ⟨e.key, e.val, _, ha, hb, h4, rfl⟩
      · cases h
    · cases h

theorem run_findKey {kd : TypeDesc} {kt : TypeId} (hkd : PP.underlying kt = some kd) {k : Value} {es : List MapEntry} {r : Option (Nat × Value)} (h : Instr.findNow kd k es 0 = some r) (w : World) : (Instr.findKey kt k es).run PP w = .ok r w := by
  simp only [Instr.findKey, Sem.run_bind, run_und hkd, Result.andThen_ok, h, Sem.run_pure]

theorem mapT_ok {β : Type} {t : TypeId} {k : TypeDesc → TypeId → R β} {b : β} : mapT t k = .ok b ↔ ∃ kt el kd, PP.underlying t = some (.map kt el) ∧ PP.underlying kt = some kd ∧ k kd el = .ok b := by
  unfold mapT
  rw [descV_ok]
  constructor
  · rintro ⟨d, hd, h⟩
    cases d <;> try (simp only [reduceCtorEq] at h; done)
    simp only [descV_ok] at h
    obtain ⟨kd, h1, h2⟩ := h
    exact ⟨_, _, kd, hd, h1, h2⟩
  · rintro ⟨kt, el, kd, h1, h2, h3⟩
    exact ⟨_, h1, by simp only [descV_ok]; exact ⟨kd, h2, h3⟩⟩

theorem entriesV_ok {H H' : VH} {b : Nat} {k : List (VV × VV) → Option (List Nat × Nat) → RV} {v : VV} : entriesV H b k = .ok v H' ↔ ∃ es st, H.m.get b = some (.map es st) ∧ k es st = .ok v H' := by
  unfold entriesV
  split
  · rename_i es st h
    rw [h]
    exact ⟨fun h' => ⟨es, st, rfl, h'⟩, fun ⟨a, b, h1, h2⟩ => by cases h1; exact h2⟩
  · rename_i h
    constructor
    · intro h'; cases h'
    · rintro ⟨es, st, he, _⟩; exact absurd he (h es st)

def foundW (z : VV) (ok : Bool) (r : Option VV) : VV := match ok with
  | true => .tup [r.getD z, .bool r.isSome]
  | false => r.getD z

theorem foundV_ok {z : VV} {ok : Bool} {r : Option VV} {H H' : VH} {v : VV} (h : foundV z ok r H = .ok v H') : H' = H ∧ v = foundW z ok r := by
  unfold foundV at h
  cases r <;> cases ok <;> simp only [RV.ok.injEq] at h <;> exact ⟨h.2.symm, h.1.symm⟩

theorem concP_len {ρ : Rho} {l : List (VV × VV)} {r : List (Value × Value)} (h : concP E ρ l = some r) : r.length = l.length := by
  induction l generalizing r with
  | nil => simp only [concP, Option.some.injEq] at h; subst h; rfl
  | cons e l ih =>
    obtain ⟨k, v⟩ := e
    simp only [concP, Option.bind_eq_some_iff, Option.map_eq_some_iff] at h
    obtain ⟨_, _, _, _, r', h3, rfl⟩ := h
    simp [ih h3]

theorem lookup_snd {t : TypeId} {kt el : TypeId} {kd : TypeDesc} {i : TypeInfo} {zv : Value} {z : VV} {ok : Bool} {x k : VV} {H H' : VH} {v : VV} (ht : PP.underlying t = some (.map kt el)) (hkd : PP.underlying kt = some kd) (hi : PP.info? el = some i) (hzero : i.zero = some zv) (hz : abst 20 zv = some z)
    (h : lookupV kd z ok x k H = .ok v H') : VSnd E H v H' (fun ρ _ s => ∃ x' k', conc E ρ x = some x' ∧ conc E ρ k = some k' ∧ s = Instr.lookup t x' k' ok) := by
  unfold lookupV at h
  rw [RV.when_ok] at h
  obtain ⟨hok, h⟩ := h
  have fin : ∀ (r : Option VV) (ρ : Rho) (v' : Value), conc E ρ (r.getD z) = some v' → conc E ρ (foundW z ok r) = some (if ok then .tuple #[v', .bool r.isSome] else v') := by
    intro r ρ v' hv
    cases ok with
    | true => simp [foundW, conc, concs, hv]
    | false => simpa [foundW] using hv
  cases x <;> try (simp only [reduceCtorEq] at h; done)
  case mnil =>
    obtain ⟨rfl, rfl⟩ := foundV_ok h
    refine VSnd.pure ?_
    rintro ρ w s ⟨x', k', hx, hk, rfl⟩ _
    simp only [conc, Option.some.injEq] at hx
    subst hx
    refine ⟨_, ?_, fin none ρ zv (abst_conc E 20 zv z hz)⟩
    have h1 := run_findKey hkd (k := k') (es := []) (r := none) rfl w
    have h2 := checkKey_ok hkd hok k' true 9999 w
    simp only [Instr.lookup, Sem.run_bind, run_und ht, Result.andThen_ok, Sem.run_pure]
    rw [show (#[] : Array MapEntry).isEmpty = true from rfl, h2]
    simp only [Result.andThen_ok, Array.toList_empty, h1, Sem.run_bind, run_zero hi hzero, Sem.run_pure]
    rfl
  case map b =>
    rw [entriesV_ok] at h
    obtain ⟨es, st, hes, h⟩ := h
    rw [RV.from_ok] at h
    obtain ⟨r, hr, h⟩ := h
    rw [touchK_eq] at h
    obtain ⟨rfl, rfl⟩ := foundV_ok h
    refine VSnd.touch hes (VSnd.pure ?_)
    rintro ρ w s ⟨⟨x', k', hx, hk, rfl⟩, hO⟩ _
    obtain ⟨p, es', c, hp, _, hw, hc, _⟩ := hO
    simp only [conc, hp, Option.map_some, Option.some.injEq] at hx
    subst hx
    have hf := findV_now hk 0 hr hc
    have h2 := checkKey_ok hkd hok k' es'.isEmpty 9999 w
    cases r with
    | none =>
      refine ⟨_, ?_, fin none ρ zv (abst_conc E 20 zv z hz)⟩
      simp only [Instr.lookup, Sem.run_bind, run_und ht, Result.andThen_ok, run_getObj hw trivial, Sem.run_pure]
      rw [h2]
      simp only [Result.andThen_ok, run_findKey hkd hf, Sem.run_bind, run_zero hi hzero, Sem.run_pure]
      rfl
    | some y =>
      obtain ⟨j, v', hf, hv⟩ := hf
      refine ⟨_, ?_, fin (some y) ρ v' hv⟩
      simp only [Instr.lookup, Sem.run_bind, run_und ht, Result.andThen_ok, run_getObj hw trivial, Sem.run_pure]
      rw [h2]
      simp only [Result.andThen_ok, run_findKey hkd hf, Sem.run_pure]
      rfl

theorem prs_modify {es : Array MapEntry} {j : Nat} {k x : Value} {e : MapEntry} (h : es.toList[j]? = some e) : (es.modify j fun e => { e with key := k, val := x }).toList = es.toList.set j ⟨k, x, e.born⟩ := by
  apply List.ext_getElem?
  intro n
  rw [Array.getElem?_toList, Array.getElem?_modify, List.getElem?_set]
  by_cases e1 : j = n
  · subst e1
    have hj : j < es.toList.length := (List.getElem?_eq_some_iff.1 h).1
    rw [Array.getElem?_toList] at h
    rw [if_pos rfl, if_pos rfl, if_pos hj, h]; rfl
  · rw [if_neg e1, if_neg e1, Array.getElem?_toList]

theorem mapUpd_snd {t : TypeId} {kt el : TypeId} {kd : TypeDesc} {m k x : VV} {H H' : VH} {v : VV} (ht : PP.underlying t = some (.map kt el)) (hkd : PP.underlying kt = some kd)
    (h : mapUpdV kd m k x H = .ok v H') : v = undefV ∧ VSnd E H v H' (fun ρ _ s => ∃ m' k' x', conc E ρ m = some m' ∧ conc E ρ k = some k' ∧ conc E ρ x = some x' ∧ s = (do Instr.mapUpdate t m' k' x'; Pure.pure undef)) := by
  unfold mapUpdV at h
  rw [RV.when_ok] at h
  obtain ⟨hok, h⟩ := h
  cases m <;> try (simp only [reduceCtorEq] at h; done)
  rename_i b
  rw [entriesV_ok] at h
  obtain ⟨es, st, hes, h⟩ := h
  simp only [RV.from_ok, putO_eq, RV.ok.injEq] at h
  obtain ⟨es2, hes2, rfl, rfl⟩ := h
  refine ⟨rfl, VSnd.put hes ?_⟩
  rintro ρ w s ⟨m', k', x', hm, hk, hx, rfl⟩ _ hO
  obtain ⟨p, es', c, hp, hnn, hw, hc, hst⟩ := hO
  have hl0 := concP_len hc
  simp only [conc, hp, Option.map_some, Option.some.injEq] at hm
  subst hm
  have hlt : p.blk < w.heap.size := (Array.getElem?_eq_some_iff.1 hw).1
  have h2 := checkKey_ok hkd hok k' false 9999 w
  rcases setV_now hk hx 0 hes2 hc with ⟨hf, hcc⟩ | ⟨j, v', e, hf, he, hsame, hcc⟩
  · refine ⟨undef, 0, p, .map (es'.push { key := k', val := x', born := c }) (c + 1), w.putObj p.blk _, hp, hlt, ?_, rfl, rfl, rfl, rfl, fun hw' => ⟨p, _, _, hp, hnn, hw', ?_⟩, rfl⟩
    · simp only [Instr.mapUpdate, Sem.run_bind, run_und ht, Result.andThen_ok, run_getObj hw trivial]
      rw [h2]
      simp only [Result.andThen_ok, run_findKey hkd hf, run_setObj hw trivial, Sem.run_pure]
    · have hcc2 := hcc c
      refine ⟨by rw [hcc2]; simp [prs], fun bs k' hg => ?_⟩
      have hl2 := concP_len hcc2
      rw [List.length_map] at hl0
      simp [prs] at hl2
      unfold grown at hg
      cases st with
      | none => cases hg
      | some y =>
        obtain ⟨bs0, k0⟩ := y
        simp only at hg
        have hne : Nat.beq (lenN es2) (lenN es) = false := by
          cases hb : Nat.beq (lenN es2) (lenN es) with
          | false => rfl
          | true => rw [beq_iff, lenN_eq, lenN_eq] at hb; rw [Array.length_toList] at hl0; omega
        rw [hne] at hg
        cases hg
        obtain ⟨h1, h2⟩ := hst bs0 k0 rfl
        subst h2
        rw [appN_eq]
        exact ⟨by rw [← h1]; simp, rfl⟩
  · have hbits : Instr.sameBits 10000 e.key k' = true := same_bits hsame
    rw [Nat.zero_add] at hf
    have hkey : (Instr.keyThatStays (((es'[j]?).map (·.key)).getD k') k').run PP w = .ok k' w := by
      rw [← Array.getElem?_toList, he]
      simp only [Option.map_some, Option.getD_some, Instr.keyThatStays, Sem.run_ite, if_pos hbits, Sem.run_pure]
    refine ⟨undef, 0, p, .map (es'.modify j fun e => { e with key := k', val := x' }) c, w.putObj p.blk _, hp, hlt, ?_, rfl, rfl, rfl, rfl, fun hw' => ⟨p, _, _, hp, hnn, hw', ?_⟩, rfl⟩
    · simp only [Instr.mapUpdate, Sem.run_bind, run_und ht, Result.andThen_ok, run_getObj hw trivial]
      rw [h2]
      simp only [Result.andThen_ok, run_findKey hkd hf, Sem.run_bind, hkey, run_setObj hw trivial, Sem.run_pure]
    · have hcc2 : concP E ρ es2 = some ((es'.modify j fun e => { e with key := k', val := x' }).toList.map fun e => (e.key, e.val)) := by rw [hcc, prs_modify he]; rfl
      refine ⟨hcc2, fun bs kk hg => ?_⟩
      have hl2 := concP_len hcc2
      simp at hl2 hl0
      unfold grown at hg
      cases st with
      | none => cases hg
      | some y =>
        obtain ⟨bs0, k0⟩ := y
        simp only at hg
        have hne : Nat.beq (lenN es2) (lenN es) = true := by rw [beq_iff, lenN_eq, lenN_eq]; omega
        rw [hne] at hg
        cases hg
        obtain ⟨h1, h2⟩ := hst bs kk rfl
        refine ⟨?_, h2⟩
        rw [prs_modify he, List.map_set, h1]
        have : bs[j]? = some e.born := by rw [← h1, List.getElem?_map, he]; rfl
        exact List.ext_getElem? fun n => by
          rw [List.getElem?_set]
          by_cases e1 : j = n
          · subst e1
            rw [if_pos rfl, if_pos (List.getElem?_eq_some_iff.1 this).1, this]
          · rw [if_neg e1]

theorem delete_snd {ts : Array TypeId} {t ty : TypeId} {kt el : TypeId} {kd : TypeDesc} {m k : VV} {H H' : VH} {v : VV} (h0 : ts[0]? = some t) (ht : PP.underlying t = some (.map kt el)) (hkd : PP.underlying kt = some kd)
    (h : deleteV kd m k H = .ok v H') : VSnd E H v H' (fun ρ _ s => ∃ m' k', conc E ρ m = some m' ∧ conc E ρ k = some k' ∧ s = Builtin.delete_ ts ty #[m', k']) := by
  unfold deleteV at h
  rw [RV.when_ok] at h
  obtain ⟨hok, h⟩ := h
  cases m <;> try (simp only [reduceCtorEq] at h; done)
  case mnil =>
    simp only [RV.ok.injEq] at h
    obtain ⟨rfl, rfl⟩ := h
    refine VSnd.pure ?_
    rintro ρ w s ⟨m', k', hm, hk, rfl⟩ _
    simp only [conc, Option.some.injEq] at hm
    subst hm
    have h2 := checkKey_ok hkd hok k' true 9999 w
    refine ⟨.tuple #[], ?_, rfl⟩
    simp [Builtin.delete_, h0, run_und ht, h2]
  case map b =>
    rw [entriesV_ok] at h
    obtain ⟨es, st, hes, h⟩ := h
    simp only [RV.from_ok, putO_eq, RV.ok.injEq] at h
    obtain ⟨es2, hes2, rfl, rfl⟩ := h
    refine VSnd.put hes ?_
    rintro ρ w s ⟨m', k', hm, hk, rfl⟩ _ hO
    obtain ⟨p, es', c, hp, hnn, hw, hc, hst⟩ := hO
    have hl0 := concP_len hc
    simp only [conc, hp, Option.map_some, Option.some.injEq] at hm
    subst hm
    have hlt : p.blk < w.heap.size := (Array.getElem?_eq_some_iff.1 hw).1
    have h2 := checkKey_ok hkd hok k' es'.isEmpty 9999 w
    have h2' : ∀ {x : Sem Value}, ((Instr.checkKey es'.isEmpty 10000 kt k').run PP w).andThen (fun _ w => x.run PP w) = x.run PP w := by intro x; rw [h2]; rfl
    rcases delV_now hk 0 hes2 hc with ⟨hf, hcc⟩ | ⟨j, v', hf, hcc⟩
    · refine ⟨.tuple #[], 0, p, .map es' c, w.putObj p.blk _, hp, hlt, ?_, rfl, rfl, rfl, rfl, fun hw' => ⟨p, _, _, hp, hnn, hw', hcc, fun bs kk hg => by
        have hl2 := concP_len hcc
        unfold shrunk at hg
        cases st with
        | none => cases hg
        | some y =>
          obtain ⟨bs0, k0⟩ := y
          simp only at hg
          have hne : Nat.beq (lenN es2) (lenN es) = true := by rw [beq_iff, lenN_eq, lenN_eq]; exact hl2.symm.trans hl0
          rw [hne] at hg
          cases hg
          exact hst bs kk rfl⟩, rfl⟩
      simp [Builtin.delete_, h0, run_und ht, run_getObj hw trivial, h2, run_findKey hkd hf, run_setObj hw trivial]
    · rw [Nat.zero_add] at hf
      refine ⟨.tuple #[], 0, p, .map (es'.eraseIdxIfInBounds j) c, w.putObj p.blk _, hp, hlt, ?_, rfl, rfl, rfl, rfl, fun hw' => ⟨p, _, _, hp, hnn, hw', ?_⟩, rfl⟩
      · simp [Builtin.delete_, h0, run_und ht, run_getObj hw trivial, h2, run_findKey hkd hf, run_setObj hw trivial]
      · have hcc2 : concP E ρ es2 = some ((es'.eraseIdxIfInBounds j).toList.map fun e => (e.key, e.val)) := by
          rw [hcc]
          simp only [prs]
          rw [Array.toList_eraseIdxIfInBounds]
        refine ⟨hcc2, fun bs kk hg => ?_⟩
        have hl2 := concP_len hcc2
        unfold shrunk at hg
        cases st with
        | none => cases hg
        | some y =>
          obtain ⟨bs0, k0⟩ := y
          simp only at hg
          split at hg
          · rename_i hb
            cases hg
            by_cases hj : j < es'.toList.length
            · exfalso
              rw [beq_iff, lenN_eq, lenN_eq] at hb
              rw [Array.toList_eraseIdxIfInBounds, List.length_map, List.length_eraseIdx, if_pos hj] at hl2
              rw [List.length_map] at hl0
              omega
            · rw [Array.toList_eraseIdxIfInBounds, List.eraseIdx_of_length_le (Nat.le_of_not_lt hj)]
              exact hst _ _ rfl
          · split at hg
            · cases hg
              obtain ⟨_, h2⟩ := hst bs0 kk rfl
              refine ⟨?_, h2⟩
              have : (es'.eraseIdxIfInBounds j).toList = [] := by
                rw [List.length_map] at hl2
                exact List.length_eq_zero_iff.1 hl2
              rw [this]; rfl
            · cases hg

end
end Go.Ev
