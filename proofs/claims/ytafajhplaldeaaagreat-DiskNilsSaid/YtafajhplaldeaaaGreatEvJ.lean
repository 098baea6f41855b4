/- The plain operations: elements, slices. -/
import Derived.Test.YtafajhplaldeaaaGreatEvI
set_option linter.unusedVariables false
set_option linter.unusedSimpArgs false
namespace Go.Ev
open Go
attribute [local irreducible] PP

section
variable {E : Nat → Value}

theorem toNat_of (n : Nat) : (Int.ofNat n).toNat = n := rfl

theorem idx_in {n m : Nat} (h : n < m) : 0 ≤ Int.ofNat n ∧ Int.ofNat n < (m : Int) := by
  simp only [Int.ofNat_eq_natCast]; omega

theorem indexAddr_snd {t : TypeId} {x i : K (T VV → VV)} {k : Cl} (hk : indexAddrK t x i = .ok k) {sl : T VV} {H H' : VH} {v : VV} (h : k.f sl H = .ok v H') :
    VSnd E H v H' (fun ρ _ s => ∃ x' i', conc E ρ (x.f sl) = some x' ∧ conc E ρ (i.f sl) = some i' ∧ s = Instr.indexAt t x' i') := by
  unfold indexAddrK at hk
  rw [descV_ok] at hk
  obtain ⟨d, hd, hk⟩ := hk
  cases d <;> simp only [reduceCtorEq] at hk
  case array n el =>
    rw [sizeV_ok] at hk
    obtain ⟨ie, hie, hk⟩ := hk
    simp only [R.ok.injEq] at hk
    subst hk
    simp only [natV_ok, asPtr_ok, RV.when_ok, blt_iff, natK_eq, RV.ok.injEq] at h
    obtain ⟨j, m, hi, b, u, o, hx, hlt, rfl, rfl⟩ := h
    refine VSnd.pure ?_
    rintro ρ w s ⟨x', i', hx', hi', rfl⟩ _
    rw [hx] at hx'; rw [hi] at hi'
    obtain ⟨p, hp, rfl⟩ := conc_ptr hx'
    rw [conc_int hi']
    refine ⟨.pointer (some ⟨p.blk, p.base + (o + m * ie.size), none⟩), ?_, by simp only [conc, hp]; rfl⟩
    have hin := idx_in hlt
    simp only [Instr.indexAt, Sem.run_bind, asIntOf, Sem.run_pure, Result.andThen_ok, run_und hd, Instr.sureAddr, if_pos hin, run_size hie, toNat_of, add_none, Nat.add_assoc]
  case slice el =>
    rw [sizeV_ok] at hk
    obtain ⟨ie, hie, hk⟩ := hk
    simp only [R.ok.injEq] at hk
    subst hk
    simp only [natV_ok] at h
    obtain ⟨j, m, hi, h⟩ := h
    cases hx : x.f sl <;> rw [hx] at h <;> simp only [idxSl, reduceCtorEq] at h
    rename_i b u o len cap sz
    rw [bool_no, blt_iff] at h
    simp only [natK_eq, RV.ok.injEq] at h
    obtain ⟨hlt, rfl, rfl⟩ := h
    refine VSnd.pure ?_
    rintro ρ w s ⟨x', i', hx', hi', rfl⟩ _
    rw [hi] at hi'
    obtain ⟨p, hp, _, rfl⟩ := conc_sl hx'
    rw [conc_int hi']
    refine ⟨.pointer (some ⟨p.blk, p.base + (o + m * ie.size), none⟩), ?_, by simp only [conc, hp]; rfl⟩
    have hin := idx_in hlt
    simp only [Instr.indexAt, Sem.run_bind, asIntOf, Sem.run_pure, Result.andThen_ok, run_und hd, if_pos hin, run_size hie, toNat_of, add_none, Nat.add_assoc]

theorem partV_ok {β : Type} {t : TypeId} {cs : List VV} {off : Nat} {k : VV → R β} {b : β} : partV t cs off k = .ok b ↔ ∃ d, PP.underlying t = some d ∧
    ((isAggD d = true ∧ ∃ i, PP.info? t = some i ∧ off + i.size ≤ cs.length ∧ k (.agg ((cs.drop off).take i.size)) = .ok b) ∨ (isAggD d = false ∧ ∃ x, cs[off]? = some x ∧ k x = .ok b)) := by
  unfold partV
  rw [descV_ok]
  constructor
  · rintro ⟨d, hd, h⟩
    refine ⟨d, hd, ?_⟩
    cases hg : isAggD d with
    | true =>
      rw [hg] at h
      simp only [sizeV_ok, R.when_ok, ble_iff] at h
      obtain ⟨i, hi, hn, h⟩ := h
      exact .inl ⟨rfl, i, hi, hn, h⟩
    | false =>
      rw [hg] at h
      simp only [R.of_ok] at h
      exact .inr ⟨rfl, h⟩
  · rintro ⟨d, hd, h⟩
    refine ⟨d, hd, ?_⟩
    rcases h with ⟨hg, i, hi, hn, h⟩ | ⟨hg, h⟩
    · rw [hg]
      simp only [sizeV_ok, R.when_ok, ble_iff]
      exact ⟨i, hi, hn, h⟩
    · rw [hg]
      simp only [R.of_ok]
      exact h

/-- an aggregate's part, in both worlds -/
theorem part_both {t : TypeId} {cs : List VV} {off : Nat} {x : VV} (h : partV t cs off R.ok = .ok x) {ρ : Rho} {xs : List Value} (hc : concs E ρ cs = some xs) (w : World) : ∃ y, conc E ρ x = some y ∧ (part t xs.toArray off).run PP w = .ok y w := by
  rw [partV_ok] at h
  obtain ⟨d, hd, h⟩ := h
  rcases h with ⟨hg, i, hi, hn, h⟩ | ⟨hg, z, hz, h⟩
  · cases h
    exact ⟨_, by simp only [conc, concs_take _ (concs_drop _ hc)]; rfl, (part_run hd hi hc off w).1 hg⟩
  · simp only [R.ok.injEq] at h
    subst h
    obtain ⟨y, hy, hy2⟩ := concs_get E hc off z hz
    refine ⟨y, hy, ?_⟩
    have : xs.toArray[off]? = some y := by simpa using hy2
    simp only [part, Sem.run_bind, run_agg hd, Result.andThen_ok, hg, Bool.false_eq_true, if_false, this, Sem.run_pure]

theorem ba_get (s : List Nat) (i : Nat) : (toBA s)[i]? = (s[i]?).map UInt8.ofNat := by
  have h : (toBA s).data[i]? = (s[i]?).map UInt8.ofNat := by rw [← Array.getElem?_toList, toBA_data, List.getElem?_map]
  rw [← h]
  by_cases hi : i < (toBA s).size
  · rw [getElem?_pos (toBA s) i hi, getElem?_pos (toBA s).data i hi]; rfl
  · rw [getElem?_neg (toBA s) i hi, getElem?_neg (toBA s).data i hi]

theorem index_snd {t : TypeId} {x i : K (T VV → VV)} {k : Cl} (hk : indexK t x i = .ok k) {sl : T VV} {H H' : VH} {v : VV} (h : k.f sl H = .ok v H') :
    VSnd E H v H' (fun ρ _ s => ∃ x' i', conc E ρ (x.f sl) = some x' ∧ conc E ρ (i.f sl) = some i' ∧ s = Instr.index t x' i') := by
  unfold indexK at hk
  rw [descV_ok] at hk
  obtain ⟨d, hd, hk⟩ := hk
  cases d <;> simp only [reduceCtorEq] at hk
  case array n el =>
    rw [sizeV_ok] at hk
    obtain ⟨ie, hie, hk⟩ := hk
    simp only [R.ok.injEq] at hk
    subst hk
    simp only [natV_ok, asAgg_ok, RV.when_ok, blt_iff, RV.from_ok, RV.ok.injEq] at h
    obtain ⟨j, m, hi, cs, hx, hlt, z, hz, rfl, rfl⟩ := h
    refine VSnd.pure ?_
    rintro ρ w s ⟨x', i', hx', hi', rfl⟩ _
    rw [hx] at hx'; rw [hi] at hi'
    obtain ⟨xs, hxs, rfl⟩ := conc_agg hx'
    rw [conc_int hi']
    obtain ⟨y, hy, hr⟩ := part_both hz hxs w
    refine ⟨y, ?_, hy⟩
    have hin := idx_in hlt
    simp only [Instr.index, Sem.run_bind, asIntOf, Sem.run_pure, Result.andThen_ok, run_und hd, if_pos hin, run_size hie, toNat_of]
    exact hr
  case string =>
    simp only [R.ok.injEq] at hk
    subst hk
    simp only [natV_ok, asStr_ok, nthK_ok, RV.ok.injEq] at h
    obtain ⟨j, m, hi, n, cs, hx, z, hz, rfl, rfl⟩ := h
    refine VSnd.pure ?_
    rintro ρ w s ⟨x', i', hx', hi', rfl⟩ _
    rw [hx] at hx'; rw [hi] at hi'
    obtain ⟨_, hb, rfl⟩ := conc_str hx'
    rw [conc_int hi']
    have hz2 := hb z (List.mem_of_getElem? hz)
    refine ⟨.int .u8 (Int.ofNat z), ?_, rfl⟩
    have h0 : 0 ≤ Int.ofNat m := by simp only [Int.ofNat_eq_natCast]; omega
    simp only [Instr.index, Sem.run_bind, asIntOf, Sem.run_pure, Result.andThen_ok, run_und hd, if_pos h0, toNat_of, ba_get, hz, Option.map_some, toNat_ofNat hz2]
    rfl

/-! ### slices -/
theorem boundV_ok {x : Option VV} {d : Nat} {k : Nat → RV} {v : VV} {H : VH} : boundV x d k = .ok v H ↔ (x = none ∧ k d = .ok v H) ∨ (∃ j n, x = some (.int j (.ofNat n)) ∧ k n = .ok v H) := by
  cases x with
  | none => simp [boundV]
  | some x =>
    simp only [boundV, natV_ok, reduceCtorEq, false_and, false_or, Option.some.injEq]

/-- the optional operand, in both worlds -/
def OptOk (E : Nat → Value) (ρ : Rho) : Option VV → Option Value → Prop
  | none, none => True
  | some x, some y => conc E ρ x = some y
  | _, _ => False

/-- a bound as it is read -/
def BoundIs (x : Option VV) (d n : Nat) : Prop := (x = none ∧ n = d) ∨ ∃ j, x = some (.int j (.ofNat n))

theorem boundV_ok' {x : Option VV} {d : Nat} {k : Nat → RV} {v : VV} {H : VH} : boundV x d k = .ok v H ↔ ∃ n, BoundIs x d n ∧ k n = .ok v H := by
  rw [boundV_ok]
  constructor
  · rintro (⟨h1, h2⟩ | ⟨j, n, h1, h2⟩)
    · exact ⟨d, .inl ⟨h1, rfl⟩, h2⟩
    · exact ⟨n, .inr ⟨j, h1⟩, h2⟩
  · rintro ⟨n, (⟨h1, rfl⟩ | ⟨j, h1⟩), h2⟩
    · exact .inl ⟨h1, h2⟩
    · exact .inr ⟨j, n, h1, h2⟩

theorem run_sliceBound {n y : Nat} {j : IntKind} (h : n ≤ y) (code : BoundsCode) (w : World) : (Instr.sliceBound (.int j (Int.ofNat n)) y code).run PP w = .ok n w := by
  have : 0 ≤ Int.ofNat n ∧ Int.ofNat n ≤ (y : Int) := by simp only [Int.ofNat_eq_natCast]; omega
  simp only [Instr.sliceBound, Sem.run_bind, asIntOf, Sem.run_pure, Result.andThen_ok, if_pos this, toNat_of]

theorem run_sliceBounds {isS : Bool} {len cap l h m : Nat} {lo hi mx : Option VV} {lo' hi' mx' : Option Value} {ρ : Rho} (hlo : OptOk E ρ lo lo') (hhi : OptOk E ρ hi hi') (hmx : OptOk E ρ mx mx')
    (h1 : BoundIs lo 0 l) (h2 : BoundIs hi len h) (h3 : BoundIs mx cap m) (hl : l ≤ h) (hh : h ≤ m) (hm : m ≤ cap) (hx : mx = none ∨ hi.isSome = true) (w : World) :
    (Instr.sliceBounds isS len cap lo' hi' mx').run PP w = .ok (l, h, m) w := by
  have b1 : ∀ (j : IntKind) c, (Instr.sliceBound (.int j (Int.ofNat l)) h c).run PP w = .ok l w := fun j c => run_sliceBound hl c w
  have b2 : ∀ (j : IntKind) c, (Instr.sliceBound (.int j (Int.ofNat h)) m c).run PP w = .ok h w := fun j c => run_sliceBound hh c w
  have b3 : ∀ (j : IntKind) c, (Instr.sliceBound (.int j (Int.ofNat m)) cap c).run PP w = .ok m w := fun j c => run_sliceBound hm c w
  rcases h1 with ⟨rfl, rfl⟩ | ⟨j1, rfl⟩ <;> rcases h2 with ⟨rfl, rfl⟩ | ⟨j2, rfl⟩ <;> rcases h3 with ⟨rfl, rfl⟩ | ⟨j3, rfl⟩ <;> cases lo' <;> cases hi' <;> cases mx' <;>
    first
      | exact hlo.elim
      | exact hhi.elim
      | exact hmx.elim
      | (rcases hx with x | x <;> cases x; done)
      | ((try (have e1 := conc_int hlo; subst e1)); (try (have e2 := conc_int hhi; subst e2)); (try (have e3 := conc_int hmx; subst e3)); simp only [Instr.sliceBounds, Sem.run_bind, b1, b2, b3, Result.andThen_ok, Sem.run_pure])

end
end Go.Ev
