/- The rules by which an operation is shown to be right; loads, stores, new rows. -/
import Derived.Test.YtafajhplaldeaaaGreatEvE
set_option linter.unusedVariables false
set_option linter.unusedSimpArgs false
namespace Go.Ev
open Go

section
variable (E : Nat → Value)

/-- In the great world the piece runs to a value that is the small one's, and to a world that agrees. -/
def VSnd (H : VH) (v : VV) (H' : VH) (S : Rho → World → Sem Value → Prop) : Prop :=
  VOk H → Mono H H' ∧ ∀ ρ w s, S ρ w s → Pre E H H' ρ w → ∃ v' ρ' w', s.run PP w = .ok v' w' ∧ conc E ρ' v = some v' ∧ Post E H H' ρ w ρ' w'

variable {E}

theorem VSnd.weaken {H H' : VH} {v : VV} {S S' : Rho → World → Sem Value → Prop} (h : VSnd E H v H' S') (i : ∀ ρ w s, S ρ w s → S' ρ w s) : VSnd E H v H' S :=
  fun hv => let ⟨m, f⟩ := h hv; ⟨m, fun ρ w s hs hp => f ρ w s (i ρ w s hs) hp⟩

theorem VSnd.pure {H : VH} {v : VV} {S : Rho → World → Sem Value → Prop} (h : ∀ ρ w s, S ρ w s → Glob ρ → ∃ v', s.run PP w = .ok v' w ∧ conc E ρ v = some v') : VSnd E H v H S :=
  fun hv => ⟨.refl hv, fun ρ w s hs hp => let ⟨v', h1, h2⟩ := h ρ w s hs hp.gl; ⟨v', ρ, w, h1, h2, Post.refl E hp hv⟩⟩

theorem VSnd.drawn {H : VH} {v : VV} {S : Rho → World → Sem Value → Prop} (h : ∀ ρ w s, S ρ w s → Glob ρ → ∃ v' w', s.run PP w = .ok v' w' ∧ w'.heap = w.heap ∧ w'.os = w.os ∧ w'.tape = w.tape ∧ w'.output = w.output ∧ conc E ρ v = some v') : VSnd E H v H S :=
  fun hv => ⟨.refl hv, fun ρ w s hs hp => let ⟨v', w', h1, h2, h3, h4, h5, h6⟩ := h ρ w s hs hp.gl; ⟨v', ρ, w', h1, h6, Post.same E hp rfl rfl hv h2 h3 h4 h5⟩⟩

theorem VSnd.touch {H H' : VH} {v : VV} {b : Nat} {o : VO} {S : Rho → World → Sem Value → Prop} (ho : H.m.get b = some o)
    (h : VSnd E (tch H b) v H' (fun ρ w s => S ρ w s ∧ ObjOk E ρ w b o)) : VSnd E H v H' S := by
  intro hv
  have m1 := Mono.tch hv b
  obtain ⟨m, f⟩ := h m1.ok
  refine ⟨m1.trans m, fun ρ w s hs hp => ?_⟩
  have hp1 : Pre E H (tch H b) ρ w := hp.fst E m
  have p1 : Post E H (tch H b) ρ w ρ w := Post.same E hp1 rfl rfl m1.ok rfl rfl rfl rfl
  have hp2 := hp.snd E m1 m p1
  obtain ⟨v', ρ', w', h1, h2, h3⟩ := f ρ w s ⟨hs, hp1.ag b (hv.dom b o ho) (tchT_in _ _) o ho⟩ hp2
  exact ⟨v', ρ', w', h1, h2, Post.trans E hp m1 m p1 h3⟩

theorem VSnd.new {H : VH} {v : VV} {o : VO} {S : Rho → World → Sem Value → Prop}
    (h : ∀ ρ w s, S ρ w s → Glob ρ → (∀ u, ρ H.nx u = none) → ∃ v' p obj w', s.run PP w = .ok v' w' ∧ w'.heap = w.heap.push obj ∧ w'.os = w.os ∧ w'.tape = w.tape ∧ w'.output = w.output ∧ p.blk = w.heap.size ∧
      ObjOk E (upd ρ H.nx 0 p) w' H.nx o ∧ conc E (upd ρ H.nx 0 p) v = some v') : VSnd E H v (newh H o) S := by
  intro hv
  have m := Mono.newh hv o
  refine ⟨m, fun ρ w s hs hp => ?_⟩
  obtain ⟨v', p, obj, w', h1, h2, h3, h4, h5, h6, h7, h8⟩ := h ρ w s hs hp.gl (fun u => hp.nw _ _ (Nat.le_refl _) (Nat.lt_succ_self _))
  exact ⟨v', _, w', h1, h8, Post.new' E p hp rfl rfl m.ok h6 h2 h7 h3 h4 h5⟩

theorem VSnd.put {H : VH} {v : VV} {b : Nat} {o o' : VO} {S : Rho → World → Sem Value → Prop} (ho : H.m.get b = some o)
    (h : ∀ ρ w s, S ρ w s → Glob ρ → ObjOk E ρ w b o → ∃ v' u p obj w', ρ b u = some p ∧ p.blk < w.heap.size ∧ s.run PP w = .ok v' w' ∧ w'.heap = w.heap.setIfInBounds p.blk obj ∧ w'.os = w.os ∧ w'.tape = w.tape ∧ w'.output = w.output ∧
      (w'.heap[p.blk]? = some obj → ObjOk E ρ w' b o') ∧ conc E ρ v = some v') : VSnd E H v (puth H b o') S := by
  intro hv
  have hb := hv.dom b o ho
  have m := Mono.puth hv o' hb
  refine ⟨m, fun ρ w s hs hp => ?_⟩
  obtain ⟨v', u, p, obj, w', h0, hlt, h1, h2, h3, h4, h5, h7, h8⟩ := h ρ w s hs hp.gl (hp.ag b hb (m.ok.wf _ (tchW_in _ _)) o ho)
  exact ⟨v', ρ, w', h1, h8, Post.put E hp rfl rfl m.ok hb (tchW_in _ _) h0 h2 (h7 (by rw [h2]; simp [hlt])) h3 h4 h5⟩

/-! ### the row of a block -/
theorem rowOf_ok {H H' : VH} {b u : Nat} {k : Row → RV} {v : VV} : rowOf H b u k = .ok v H' ↔ ∃ r, H.m.get b = some (.cells u r) ∧ k r = .ok v H' := by
  unfold rowOf
  show @Option.rec VO (fun _ => RV) _ _ (H.m.get b) = _ ↔ _
  cases h : H.m.get b with
  | none => simp
  | some o =>
    cases o with
    | cells u' r =>
      simp only [Option.some.injEq, VO.cells.injEq]
      show @Bool.rec (fun _ => RV) _ _ (Nat.beq u u') = _ ↔ _
      rw [bool_no, beq_iff]
      exact ⟨fun ⟨h1, h2⟩ => ⟨r, ⟨h1.symm, rfl⟩, h2⟩, fun ⟨r', ⟨h1, h2⟩, h3⟩ => by subst h1; subst h2; exact ⟨rfl, h3⟩⟩
    | map es st => simp
    | siter n s pos => simp
    | miter m a c d => simp
    | loop st pend t n ps assign body d => simp
    | defs => simp
    | dead => simp

theorem readCells_ok {H H' : VH} {b u o n : Nat} {k : List VV → VH → RV} {v : VV} : readCells b u o n H k = .ok v H' ↔ ∃ r, H.m.get b = some (.cells u r) ∧ n ≤ (r.c.drop o).length ∧ k ((r.c.drop o).take n) (tch H b) = .ok v H' := by
  unfold readCells
  rw [rowOf_ok]
  simp only [takeK_ok, dropN_eq, touchK_eq]
theorem readOne_ok {H H' : VH} {b u o : Nat} {k : VV → VH → RV} {v : VV} : readOne b u o H k = .ok v H' ↔ ∃ r x, H.m.get b = some (.cells u r) ∧ r.c[o]? = some x ∧ k x (tch H b) = .ok v H' := by
  unfold readOne
  rw [rowOf_ok]
  simp only [nthK_ok, touchK_eq]
  exact ⟨fun ⟨r, h, x, h1, h2⟩ => ⟨r, x, h, h1, h2⟩, fun ⟨r, x, h, h1, h2⟩ => ⟨r, h, x, h1, h2⟩⟩
theorem writeCells_ok {H H' : VH} {b u o : Nat} {xs : List VV} {k : VH → RV} {v : VV} : writeCells b u o xs H k = .ok v H' ↔ ∃ r, H.m.get b = some (.cells u r) ∧ r.fz ≤ o ∧ (∀ x ∈ xs, x.one = true) ∧ o + xs.length ≤ r.c.length ∧
    k (puth H b (.cells u { r with c := r.c.take o ++ xs ++ r.c.drop (o + xs.length) })) = .ok v H' := by
  unfold writeCells
  rw [rowOf_ok]
  constructor
  · rintro ⟨⟨op, fz, mkd, el, c⟩, h, h1⟩
    simp only [RV.when_ok, spliceK_ok, putO_eq, ble_iff, allOne_eq] at h1
    exact ⟨_, h, h1.1, h1.2.1, h1.2.2.1, h1.2.2.2⟩
  · rintro ⟨⟨op, fz, mkd, el, c⟩, h, h1, h2, h3, h4⟩
    refine ⟨_, h, ?_⟩
    simp only [RV.when_ok, spliceK_ok, putO_eq, ble_iff, allOne_eq]
    exact ⟨h1, h2, h3, h4⟩

theorem writeX_ok {H H' : VH} {b u o : Nat} {xs : List VV} {k : VH → RV} {v : VV} (h : writeX b u o xs H k = .ok v H') : ∃ r, H.m.get b = some (.cells u r) ∧ r.fz ≤ o ∧ (∀ x ∈ xs, x.one = true) ∧ (o + xs.length ≤ r.c.length ∨ (r.op = true ∧ o ≤ r.c.length)) ∧
    k (puth H b (.cells u { r with c := r.c.take o ++ xs ++ r.c.drop (o + xs.length) })) = .ok v H' := by
  unfold writeX at h
  rw [rowOf_ok] at h
  obtain ⟨⟨op, fz, mkd, el, c⟩, h, h1⟩ := h
  cases op with
  | false =>
    simp only [RV.when_ok, spliceK_ok, putO_eq, ble_iff, allOne_eq] at h1
    exact ⟨_, h, h1.1, h1.2.1, .inl h1.2.2.1, h1.2.2.2⟩
  | true =>
    simp only [RV.when_ok, spliceX_ok, putO_eq, ble_iff, allOne_eq] at h1
    exact ⟨_, h, h1.1, h1.2.1, .inr ⟨rfl, h1.2.2.1⟩, h1.2.2.2⟩

/-- what the pointer of a row is -/
theorem conc_ptr {ρ : Rho} {b u o : Nat} {x : Value} (h : conc E ρ (.ptr b u o) = some x) : ∃ p, ρ b u = some p ∧ x = .pointer (some ⟨p.blk, p.base + o, none⟩) := by
  simp only [conc, Option.map_eq_some_iff] at h
  obtain ⟨p, hp, rfl⟩ := h
  exact ⟨p, hp, rfl⟩
theorem conc_sl {ρ : Rho} {b u o len sz : Nat} {cap : Option Nat} {x : Value} (h : conc E ρ (.sl b u o len cap sz) = some x) : ∃ p, ρ b u = some p ∧ len ≤ capOf p o cap sz ∧ x = .slice (some ⟨p.blk, p.base + o, none⟩) len (capOf p o cap sz) := by
  simp only [conc, Option.bind_eq_some_iff] at h
  obtain ⟨p, hp, h⟩ := h
  split at h
  · rename_i hc; cases h; exact ⟨p, hp, hc.1, rfl⟩
  · cases h
theorem conc_sl' {ρ : Rho} {b u o len sz : Nat} {cap : Option Nat} {x : Value} (h : conc E ρ (.sl b u o len cap sz) = some x) : ∃ p, ρ b u = some p ∧ len ≤ capOf p o cap sz ∧ room p o cap sz = true ∧ x = .slice (some ⟨p.blk, p.base + o, none⟩) len (capOf p o cap sz) := by
  simp only [conc, Option.bind_eq_some_iff] at h
  obtain ⟨p, hp, h⟩ := h
  split at h
  · rename_i hc; cases h; exact ⟨p, hp, hc.1, hc.2, rfl⟩
  · cases h
theorem conc_sl_mk {ρ : Rho} {b u o len sz : Nat} {cap : Option Nat} {p : Pl} (hp : ρ b u = some p) (h : len ≤ capOf p o cap sz) (hr : room p o cap sz = true) : conc E ρ (.sl b u o len cap sz) = some (.slice (some ⟨p.blk, p.base + o, none⟩) len (capOf p o cap sz)) := by
  simp only [conc, hp, Option.bind_some, if_pos (And.intro h hr)]
theorem conc_agg {ρ : Rho} {l : List VV} {x : Value} (h : conc E ρ (.agg l) = some x) : ∃ xs, concs E ρ l = some xs ∧ x = .agg xs.toArray := by
  simp only [conc, Option.map_eq_some_iff] at h
  obtain ⟨p, hp, rfl⟩ := h
  exact ⟨p, hp, rfl⟩
theorem conc_str {ρ : Rho} {n : Nat} {s : List Nat} {x : Value} (h : conc E ρ (.str n s) = some x) : n = s.length ∧ (∀ i ∈ s, i < 256) ∧ x = .string (toBA s) := by
  simp only [conc] at h
  split at h
  · rename_i h1; cases h; exact ⟨h1.1, h1.2, rfl⟩
  · cases h
theorem conc_int {ρ : Rho} {k : IntKind} {n : Int} {x : Value} (h : conc E ρ (.int k n) = some x) : x = .int k n := by simp only [conc, Option.some.injEq] at h; exact h.symm
theorem conc_bool {ρ : Rho} {b : Bool} {x : Value} (h : conc E ρ (.bool b) = some x) : x = .bool b := by simp only [conc, Option.some.injEq] at h; exact h.symm

/-- opaque values are the cell of one variable -/
structure Plain (E : Nat → Value) : Prop where
  one : ∀ k, (E k).oneCell' = true
  len : ∀ k, 500 ≤ k → k < 1000 → ∃ s, E k = .string s ∧ E (k + 1000) = .int .i64 (s.size : Nat) ∧ s.size ≤ LB
  pos : ∀ k, 2000 ≤ k → k < 2250 → ∃ m : Nat, E k = .int .i64 (m : Nat)
  neg : ∀ k, 2250 ≤ k → k < 2500 → ∃ m : Int, E k = .int .i64 m ∧ m < 0

theorem conc_one (hE : Plain E) {ρ : Rho} {x : VV} {y : Value} (h : conc E ρ x = some y) (h1 : x.one = true) : y.oneCell' = true := by
  cases x <;> simp_all [conc, VV.one, Option.map_eq_some_iff, Option.bind_eq_some_iff]
  all_goals try (subst h; rfl)
  · obtain ⟨_, rfl⟩ := h; rfl
  · obtain ⟨_, _, rfl⟩ := h; rfl
  · obtain ⟨_, _, _, rfl⟩ := h; rfl
  · obtain ⟨_, _, rfl⟩ := h; rfl
  · obtain ⟨_, _, _, _, _, _, rfl⟩ := h; rfl
  · obtain ⟨_, _, rfl⟩ := h; rfl
  · subst h; exact hE.one _

theorem conc_cells (hE : Plain E) {ρ : Rho} {x : VV} {y : Value} (h : conc E ρ x = some y) : concs E ρ x.cells = some y.cells.toList := by
  cases x with
  | agg l => obtain ⟨xs, hx, rfl⟩ := conc_agg h; simpa [VV.cells, Value.cells] using hx
  | tup l =>
    have h' := h
    simp only [conc, Option.map_eq_some_iff] at h'
    obtain ⟨xs, _, rfl⟩ := h'
    simp [VV.cells, concs, h, Value.cells]
  | bool b => rw [Value.cells_one (conc_one hE h rfl)]; simp [VV.cells, concs, h]
  | int k n => rw [Value.cells_one (conc_one hE h rfl)]; simp [VV.cells, concs, h]
  | str n s => rw [Value.cells_one (conc_one hE h rfl)]; simp [VV.cells, concs, h]
  | pnil => rw [Value.cells_one (conc_one hE h rfl)]; simp [VV.cells, concs, h]
  | ptr b u o => rw [Value.cells_one (conc_one hE h rfl)]; simp [VV.cells, concs, h]
  | snil => rw [Value.cells_one (conc_one hE h rfl)]; simp [VV.cells, concs, h]
  | sl b u o len cap sz => rw [Value.cells_one (conc_one hE h rfl)]; simp [VV.cells, concs, h]
  | mnil => rw [Value.cells_one (conc_one hE h rfl)]; simp [VV.cells, concs, h]
  | map b => rw [Value.cells_one (conc_one hE h rfl)]; simp [VV.cells, concs, h]
  | fnil => rw [Value.cells_one (conc_one hE h rfl)]; simp [VV.cells, concs, h]
  | fn f a b => rw [Value.cells_one (conc_one hE h rfl)]; simp [VV.cells, concs, h]
  | inil => rw [Value.cells_one (conc_one hE h rfl)]; simp [VV.cells, concs, h]
  | iface t x => rw [Value.cells_one (conc_one hE h rfl)]; simp [VV.cells, concs, h]
  | ext k => rw [Value.cells_one (conc_one hE h rfl)]; simp [VV.cells, concs, h]

end
end Go.Ev
