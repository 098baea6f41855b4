/- The plain operations: literals, fields, elements. -/
import Derived.Test.YtafajhplaldeaaaGreatEvH
set_option linter.unusedVariables false
set_option linter.unusedSimpArgs false
namespace Go.Ev
open Go
attribute [local irreducible] PP

section
variable {E : Nat → Value}

theorem build_snd (hE : Plain E) {t : TypeId} {ps : K (T VV → List (Nat × VV))} {k : Cl} (hk : buildK t ps = .ok k) {sl : T VV} {H H' : VH} {v : VV} (h : k.f sl H = .ok v H') :
    VSnd E H v H' (fun ρ _ s => ∃ ps', PairsOk E ρ (ps.f sl) ps'.toList ∧ s = Instr.build t ps') := by
  unfold buildK at hk
  rw [zeroV_ok] at hk
  obtain ⟨i, z, x, hi, hz, hx, hk⟩ := hk
  rw [descV_ok] at hk
  obtain ⟨d, hd, hk⟩ := hk
  cases d <;> simp only [reduceCtorEq] at hk
  case struct fields =>
    rw [R.bind_ok] at hk
    obtain ⟨pl, hpl, hk⟩ := hk
    simp only [R.ok.injEq] at hk
    subst hk
    simp only [fillV_ok] at h
    obtain ⟨out, hf, h⟩ := h
    cases h
    refine VSnd.pure ?_
    rintro ρ w s ⟨ps', hp, rfl⟩ _
    have hzc := conc_cells hE (abst_conc E (ρ := ρ) 20 z x hx)
    obtain ⟨D, hD, hF⟩ := fill_sound hE hp hzc hf
    refine ⟨.agg D.toArray, ?_, by simp [conc, hD]⟩
    have hm : (fields.mapM fun f => (do Pure.pure (f.offset, ← sizeOf f.type) : Sem (Nat × Nat))).run PP w = .ok pl.toArray w := by
      rw [Array.mapM_eq_mapM_toList, Sem.run_map, placesV_ok w _ _ hpl]; rfl
    have hF' : Instr.fill (fun x => pl.toArray[x]?) z.cells ps'.toList = some D.toArray := by
      rw [Array.toArray_toList] at hF
      simpa using hF
    simp only [Instr.build, Sem.run_bind, run_zero hi hz, Result.andThen_ok, run_und hd, hm]
    rw [hF']
    rfl
  case array n elem =>
    rw [sizeV_ok] at hk
    obtain ⟨ie, hie, hk⟩ := hk
    simp only [R.ok.injEq] at hk
    subst hk
    simp only [fillV_ok] at h
    obtain ⟨out, hf, h⟩ := h
    cases h
    refine VSnd.pure ?_
    rintro ρ w s ⟨ps', hp, rfl⟩ _
    have hzc := conc_cells hE (abst_conc E (ρ := ρ) 20 z x hx)
    obtain ⟨D, hD, hF⟩ := fill_sound hE hp hzc hf
    refine ⟨.agg D.toArray, ?_, by simp [conc, hD]⟩
    have hF' : Instr.fill (fun j => some (j * ie.size, ie.size)) z.cells ps'.toList = some D.toArray := by
      rw [Array.toArray_toList] at hF
      exact hF
    simp only [Instr.build, Sem.run_bind, run_zero hi hz, Result.andThen_ok, run_und hd, run_size hie, hF']
    rfl

theorem buildSl_snd (hE : Plain E) {t : TypeId} {n : Nat} {ps : K (T VV → List (Nat × VV))} {k : Cl} (hk : buildSlK t n ps = .ok k) {sl : T VV} {H H' : VH} {v : VV} (h : k.f sl H = .ok v H') :
    VSnd E H v H' (fun ρ _ s => ∃ ps', PairsOk E ρ (ps.f sl) ps'.toList ∧ s = Instr.buildSlice t n ps') := by
  unfold buildSlK at hk
  rw [elemV_ok] at hk
  obtain ⟨elem, hd, hk⟩ := hk
  rw [sizeV_ok] at hk
  obtain ⟨i, hi, hk⟩ := hk
  rw [zeroV_ok] at hk
  obtain ⟨i', z, x, hi', hz, hx, hk⟩ := hk
  rw [hi] at hi'; cases hi'
  rw [R.when_ok, R.when_ok] at hk
  obtain ⟨h1, h2, hk⟩ := hk
  rw [beq_iff] at h1
  rw [ble_iff] at h2
  simp only [R.ok.injEq] at hk
  subst hk
  simp only [fillV_ok] at h
  obtain ⟨out, hf, h⟩ := h
  refine newRow_snd h ?_
  rintro ρ w s ⟨ps', hp, rfl⟩
  have hzc := conc_cells hE (abst_conc E (ρ := ρ) 20 z x hx)
  have hzl := concs_length E hzc
  rw [Array.length_toList, h1] at hzl
  obtain ⟨D, hD, hF⟩ := fill_sound hE hp (repl_conc hzc n) hf
  refine ⟨D, hD, .slice (some ⟨w.heap.size, 0, none⟩) n n, ?_, by
    have hlen : n * i.size ≤ D.length := by
      rw [concs_length E hD, fillL_length hf, repl_length, ← h1]
      exact Nat.le_refl _
    have hr : room ⟨w.heap.size, 0, D.length⟩ 0 (some n) i.size = true := ble_iff.2 hlen
    simp [conc, upd_same, capOf, hr]⟩
  have hF' : Instr.fill (fun j => some (j * i.size, i.size)) ((repl z.cells.toList n).toArray) ps'.toList = some D.toArray := hF
  have hle : ¬ (n * i.size > 2 ^ 24) := by
    have : Nat.mul n i.size = n * i.size := rfl
    omega
  have hrest : ∀ zz : Array Value, zz = (if n * i.size = 0 then #[] else z.cells) → ((Array.range (n * i.size)).map (zz[· % zz.size]!)) = (repl z.cells.toList n).toArray := by
    intro zz hzz
    by_cases h0 : n * i.size = 0
    · rw [h0]
      have : (repl z.cells.toList n).length = 0 := by rw [repl_length, Array.length_toList, hzl, h0]
      rw [List.length_eq_zero_iff] at this
      rw [this]; simp
    · rw [if_neg h0] at hzz
      subst hzz
      rw [← hzl]
      refine range_map_mod _ n ?_
      rw [hzl]
      exact .inr (fun e => h0 (by rw [e]; simp))
  by_cases h0 : n * i.size = 0
  · have e := hrest #[] (by rw [if_pos h0])
    simp only [Instr.buildSlice, Sem.run_bind, run_und hd, run_size hi, Result.andThen_ok, if_neg hle, if_pos h0, Sem.run_pure, e, hF']
    simp [Go.newRow]
  · have e := hrest z.cells (by rw [if_neg h0])
    simp only [Instr.buildSlice, Sem.run_bind, run_und hd, run_size hi, Result.andThen_ok, if_neg hle, if_neg h0, run_zero hi hz, Sem.run_pure, e, hF']
    simp [Go.newRow]

/-- a part of an aggregate -/
theorem part_run {t : TypeId} {d : TypeDesc} {i : TypeInfo} (hd : PP.underlying t = some d) (hi : PP.info? t = some i) {ρ : Rho} {cs : List VV} {xs : List Value} (hc : concs E ρ cs = some xs) (off : Nat) (w : World) :
    (isAggD d = true → (part t xs.toArray off).run PP w = .ok (.agg ((xs.drop off).take i.size).toArray) w) ∧
    (isAggD d = false → ∀ x, cs[off]? = some x → ∃ y, conc E ρ x = some y ∧ (part t xs.toArray off).run PP w = .ok y w) := by
  constructor
  · intro hg
    simp only [part, Sem.run_bind, run_agg hd, Result.andThen_ok, hg, if_true, run_size hi, Sem.run_pure]
    have e : (xs.toArray.extract off (off + i.size)) = ((xs.drop off).take i.size).toArray := by
      apply Array.ext'
      simp [List.drop_take, Nat.add_sub_cancel_left]
    rw [e]
  · intro hg x hx
    obtain ⟨y, hy, hy2⟩ := concs_get E hc off x hx
    refine ⟨y, hy, ?_⟩
    have : xs.toArray[off]? = some y := by simpa using hy2
    simp only [part, Sem.run_bind, run_agg hd, Result.andThen_ok, hg, Bool.false_eq_true, if_false, this, Sem.run_pure]

theorem fieldAt_ok {β : Type} {s : TypeId} {f : Nat} {k : Field → R β} {b : β} : fieldAt s f k = .ok b ↔ ∃ fs fd, PP.underlying s = some (.struct fs) ∧ fs[f]? = some fd ∧ k fd = .ok b := by
  unfold fieldAt
  rw [descV_ok]
  constructor
  · rintro ⟨d, hd, h⟩
    cases d <;> simp only [reduceCtorEq, R.of_ok] at h
    obtain ⟨fd, h1, h2⟩ := h
    exact ⟨_, fd, hd, h1, h2⟩
  · rintro ⟨fs, fd, h1, h2, h3⟩
    exact ⟨_, h1, by simp only [R.of_ok]; exact ⟨fd, h2, h3⟩⟩

theorem field_snd {t : TypeId} {x : K (T VV → VV)} {f : Nat} {k : Cl} (hk : fieldK t x f = .ok k) {sl : T VV} {H H' : VH} {v : VV} (h : k.f sl H = .ok v H') :
    VSnd E H v H' (fun ρ _ s => ∃ x', conc E ρ (x.f sl) = some x' ∧ s = Instr.field t x' f) := by
  unfold fieldK at hk
  rw [fieldAt_ok] at hk
  obtain ⟨fs, fd, hs, hfd, hk⟩ := hk
  rw [descV_ok] at hk
  obtain ⟨d, hd, hk⟩ := hk
  rw [sizeV_ok] at hk
  obtain ⟨i, hi, hk⟩ := hk
  cases hg : isAggD d with
  | true =>
    rw [hg] at hk
    simp only [R.ok.injEq] at hk
    subst hk
    simp only [asAgg_ok, takeK_ok, dropN_eq] at h
    obtain ⟨l, hl, hn, h⟩ := h
    cases h
    refine VSnd.pure ?_
    rintro ρ w s ⟨x', hx, rfl⟩ _
    rw [hl] at hx
    obtain ⟨xs, hxs, rfl⟩ := conc_agg hx
    refine ⟨_, ?_, by simp only [conc, concs_take _ (concs_drop _ hxs)]; rfl⟩
    simp only [Instr.field, Sem.run_bind, run_und hs, Result.andThen_ok, hfd, Go.asAgg, Sem.run_pure]
    exact (part_run hd hi hxs fd.offset w).1 hg
  | false =>
    rw [hg] at hk
    simp only [R.ok.injEq] at hk
    subst hk
    simp only [asAgg_ok, nthK_ok] at h
    obtain ⟨l, hl, y, hy, h⟩ := h
    cases h
    refine VSnd.pure ?_
    rintro ρ w s ⟨x', hx, rfl⟩ _
    rw [hl] at hx
    obtain ⟨xs, hxs, rfl⟩ := conc_agg hx
    obtain ⟨z, hz, hr⟩ := (part_run hd hi hxs fd.offset w).2 hg _ hy
    refine ⟨z, ?_, hz⟩
    simp only [Instr.field, Sem.run_bind, run_und hs, Result.andThen_ok, hfd, Go.asAgg, Sem.run_pure]
    exact hr

theorem fieldAddr_snd {t : TypeId} {x : K (T VV → VV)} {f : Nat} {k : Cl} (hk : fieldAddrK t x f = .ok k) {sl : T VV} {H H' : VH} {v : VV} (h : k.f sl H = .ok v H') :
    VSnd E H v H' (fun ρ _ s => ∃ x', conc E ρ (x.f sl) = some x' ∧ s = Instr.fieldAt t x' f) := by
  unfold fieldAddrK at hk
  rw [fieldAt_ok] at hk
  obtain ⟨fs, fd, hs, hfd, hk⟩ := hk
  rw [sizeV_ok] at hk
  obtain ⟨i, hi, hk⟩ := hk
  rw [R.when_ok, blt_iff, natK_eq] at hk
  obtain ⟨hn, hk⟩ := hk
  simp only [R.ok.injEq] at hk
  subst hk
  simp only [asPtr_ok, natK_eq, RV.ok.injEq] at h
  obtain ⟨b, u, o, ha, rfl, rfl⟩ := h
  refine VSnd.pure ?_
  rintro ρ w s ⟨x', hx, rfl⟩ _
  rw [ha] at hx
  obtain ⟨p, hp, rfl⟩ := conc_ptr hx
  refine ⟨.pointer (some ⟨p.blk, p.base + (o + fd.offset), none⟩), ?_, by simp only [conc, hp]; rfl⟩
  have h0 : i.size ≠ 0 := by omega
  simp [Instr.fieldAt, run_und hs, hfd, Instr.sureAddr, fieldPlace, run_size hi, h0, add_none, Nat.add_assoc]

end
end Go.Ev
