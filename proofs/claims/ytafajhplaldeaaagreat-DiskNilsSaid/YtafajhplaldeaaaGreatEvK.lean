/- The plain operations: slicing. -/
import Derived.Test.YtafajhplaldeaaaGreatEvJ
set_option linter.unusedVariables false
set_option linter.unusedSimpArgs false
namespace Go.Ev
open Go
attribute [local irreducible] PP

section
variable {E : Nat → Value}

theorem toBA_extract (s : List Nat) (l h : Nat) : (toBA s).extract l h = toBA ((s.drop l).take (h - l)) := by
  apply ba_eq
  rw [ByteArray.data_extract, toBA_data, Array.toList_extract, toBA_data]
  simp [List.map_take, List.map_drop]

theorem optK_conc {x : Option Operand} {k : K (T VV → Option VV)} (hk : optK x = .ok k) {ρ : Rho} {t : T VV} {a : Act} (hg : Glob ρ) (hs : ∀ i, x = some (.tmp i) → On E ρ t a i) : OptOk E ρ (k.f t) (x.map a.eval) := by
  cases x with
  | none => cases hk; trivial
  | some x =>
    simp only [optK, R.bind_ok] at hk
    obtain ⟨kx, hx, hk⟩ := hk
    cases hk
    exact operK_conc E hx hg (fun i hi => hs i (by rw [hi]))

theorem within_snd {b u o len sz n : Nat} {cap : Option Nat} {H H' : VH} {k : VH → RV} {v : VV} {S : Rho → World → Sem Value → Prop} (h : within b u o len cap sz n H k = .ok v H')
    (hk : ∀ H1, k H1 = .ok v H' → VSnd E H1 v H' (fun ρ w s => S ρ w s ∧ ∀ p, ρ b u = some p → len ≤ capOf p o cap sz → n ≤ capOf p o cap sz)) : VSnd E H v H' S := by
  unfold within at h
  split at h
  · rename_i hc
    rw [ble_iff] at hc
    exact (hk H h).weaken fun ρ w s hs => ⟨hs, fun p _ hl => Nat.le_trans hc hl⟩
  · split at h
    · rw [RV.when_ok, ble_iff] at h
      exact (hk H h.2).weaken fun ρ w s hs => ⟨hs, fun p _ _ => h.1⟩
    · rw [rowOf_ok] at h
      obtain ⟨r, hr, h⟩ := h
      simp only [RV.when_ok, Bool.and_eq_true, blt_iff, ble_iff, lenN_eq, touchK_eq] at h
      obtain ⟨⟨h0, h1⟩, h2⟩ := h
      refine VSnd.touch hr ((hk _ h2).weaken ?_)
      rintro ρ w s ⟨hs, hR⟩
      refine ⟨hs, fun p hp _ => ?_⟩
      obtain ⟨q, C, lo, hi, a1, a2, a3, a4, a5, a6, a7, a8⟩ := hR
      obtain rfl := Option.some.inj (a1.symm.trans hp)
      show n ≤ (q.cap - o) / sz
      rw [Nat.le_div_iff_mul_le h0]
      have e1 : o + n * sz ≤ r.c.length := h1
      omega

theorem offOf_eq (o l sz m : Nat) : offOf o l sz m = if m = l then o else o + l * sz := by
  unfold offOf
  by_cases e : m = l
  · rw [if_pos e, beq_iff.2 e]
  · rw [if_neg e]
    have : Nat.beq m l = false := by
      cases h : Nat.beq m l with
      | false => rfl
      | true => exact absurd (beq_iff.1 h) e
    rw [this]; rfl

theorem sliceTo_ok {b u o l h sz : Nat} {cap : Option Nat} {H H' : VH} {v : VV} : sliceTo b u o l h cap sz H = .ok v H' ↔ v = .sl b u o (h - l) cap sz ∧ H' = H := by
  unfold sliceTo
  rw [natK_eq, natK_eq]
  simp only [RV.ok.injEq]
  exact ⟨fun ⟨x, y⟩ => ⟨x.symm, y.symm⟩, fun ⟨x, y⟩ => ⟨x.symm, y.symm⟩⟩

theorem room_of {p : Pl} {o l sz m c : Nat} (h : m * sz ≤ p.cap - o) : room p (offOf o l sz m) (some (Nat.sub m l)) sz = true := by
  show Nat.ble ((m - l) * sz) (p.cap - offOf o l sz m) = true
  rw [ble_iff, offOf_eq, Nat.sub_mul]
  by_cases e : m = l
  · subst e; rw [if_pos rfl]; omega
  · rw [if_neg e]
    have : l * sz ≤ m * sz ∨ m * sz ≤ l * sz := Nat.le_total _ _
    omega
theorem room_off {p : Pl} {o l sz m c : Nat} (h : room p o (some c) sz = true) (hm : m ≤ c) (hl : True ∨ l ≤ m := .inl trivial) : room p (offOf o l sz m) (some (Nat.sub m l)) sz = true := by
  have h : Nat.ble (c * sz) (p.cap - o) = true := h
  rw [ble_iff] at h
  exact room_of (c := c) (Nat.le_trans (Nat.mul_le_mul_right _ hm) h)
theorem room_cap {p : Pl} {o l sz m : Nat} {cap : Option Nat} (h : room p o cap sz = true) (hm : m ≤ capOf p o cap sz) : room p (offOf o l sz m) (some (Nat.sub m l)) sz = true := by
  cases cap with
  | some c => exact room_off h hm
  | none =>
    have h2 : m ≤ (p.cap - o) / sz := hm
    refine room_of (c := 0) ?_
    exact Nat.le_trans (Nat.mul_le_mul_right _ h2) (Nat.div_mul_le_self _ _)

/-- slicing a row: 'how' is how the great world goes about it -/
theorem sliceRow_snd {b u o len sz : Nat} {cap : Option Nat} {lo hi mx : Option VV} {H H' : VH} {v : VV} {S : Rho → World → Sem Value → Prop} (h : sliceRow b u o len cap sz lo hi mx H = .ok v H')
    (hs : ∀ ρ w s, S ρ w s → ∃ p lo' hi' mx' isS, ρ b u = some p ∧ len ≤ capOf p o cap sz ∧ room p o cap sz = true ∧ OptOk E ρ lo lo' ∧ OptOk E ρ hi hi' ∧ OptOk E ρ mx mx' ∧
      ∀ l h m, (Instr.sliceBounds isS len (capOf p o cap sz) lo' hi' mx').run PP w = .ok (l, h, m) w →
        s.run PP w = .ok (.slice (some (if m = l then ⟨p.blk, p.base + o, none⟩ else ⟨p.blk, p.base + o + l * sz, none⟩)) (h - l) (m - l)) w) : VSnd E H v H' S := by
  unfold sliceRow at h
  rw [boundV_ok'] at h
  obtain ⟨l, hl, h⟩ := h
  rw [boundV_ok'] at h
  obtain ⟨n, hn, h⟩ := h
  rw [RV.when_ok, ble_iff] at h
  obtain ⟨hln, h⟩ := h
  refine within_snd h fun H1 h1 => ?_
  clear h
  cases mx with
  | none =>
    simp only at h1
    cases cap with
    | some c =>
      simp only at h1
      rw [sliceTo_ok] at h1
      obtain ⟨rfl, rfl⟩ := h1
      refine VSnd.pure ?_
      rintro ρ w s ⟨hS, hc⟩ _
      obtain ⟨p, lo', hi', mx', isS, hp, hlen, hrm, o1, o2, o3, hrun⟩ := hs ρ w s hS
      have hnc := hc p hp hlen
      have hr := run_sliceBounds (isS := isS) o1 o2 o3 hl hn (.inl ⟨rfl, rfl⟩) hln hnc (Nat.le_refl _) (.inl rfl) w
      refine ⟨_, hrun _ _ _ hr, ?_⟩
      have hcap : capOf p o (some c) sz = c := rfl
      rw [hcap] at hnc ⊢
      have hr2 : room p (offOf o l sz c) (some (Nat.sub c l)) sz = true := room_off hrm (Nat.le_refl c) (by omega)
      rw [conc_sl_mk hp (by show n - l ≤ c - l; omega) hr2]
      simp only [offOf_eq, capOf]
      by_cases e : c = l
      · rw [if_pos e, if_pos e]; rfl
      · rw [if_neg e, if_neg e, Nat.add_assoc]; rfl
    | none =>
      simp only at h1
      rw [RV.when_ok] at h1
      obtain ⟨h0, h1⟩ := h1
      rw [sliceTo_ok] at h1
      obtain ⟨rfl, rfl⟩ := h1
      refine VSnd.pure ?_
      rintro ρ w s ⟨hS, hc⟩ _
      obtain ⟨p, lo', hi', mx', isS, hp, hlen, hrm, o1, o2, o3, hrun⟩ := hs ρ w s hS
      have hnc := hc p hp hlen
      have hr := run_sliceBounds (isS := isS) o1 o2 o3 hl hn (.inl ⟨rfl, rfl⟩) hln hnc (Nat.le_refl _) (.inl rfl) w
      refine ⟨_, hrun _ _ _ hr, ?_⟩
      have hcap : capOf p o none sz = (p.cap - o) / sz := rfl
      have hcap2 : capOf p (o + l * sz) none sz = (p.cap - o) / sz - l := by
        show (p.cap - (o + l * sz)) / sz = _
        rw [← Nat.sub_sub, Nat.mul_comm l sz, Nat.sub_mul_div]
      rw [hcap] at hnc hlen ⊢
      rw [show Nat.add o (Nat.mul l sz) = o + l * sz from rfl, conc_sl_mk hp (by rw [hcap2]; omega) rfl, hcap2]
      simp only [Bool.or_eq_true, beq_iff, blt_iff] at h0
      by_cases e : (p.cap - o) / sz = l
      · have : l = 0 := by omega
        subst this
        rw [if_pos e]; simp
      · rw [if_neg e, Nat.add_assoc]
  | some m =>
    simp only [natV_ok, RV.when_ok, Bool.and_eq_true, ble_iff] at h1
    obtain ⟨j, m', rfl, ⟨hm1, hm2⟩, h1⟩ := h1
    refine within_snd h1 fun H2 h2 => ?_
    clear h1
    rw [sliceTo_ok] at h2
    obtain ⟨rfl, rfl⟩ := h2
    refine VSnd.pure ?_
    rintro ρ w s ⟨⟨hS, hc⟩, hc2⟩ _
    obtain ⟨p, lo', hi', mx', isS, hp, hlen, hrm, o1, o2, o3, hrun⟩ := hs ρ w s hS
    have hmc := hc2 p hp hlen
    have hr := run_sliceBounds (isS := isS) (m := m') o1 o2 o3 hl hn (.inr ⟨j, rfl⟩) hln hm1 hmc (.inr hm2) w
    refine ⟨_, hrun _ _ _ hr, ?_⟩
    have hcap : capOf p (offOf o l sz m') (some (Nat.sub m' l)) sz = m' - l := rfl
    rw [conc_sl_mk hp (by rw [hcap]; omega) (room_cap hrm hmc), hcap]
    rw [offOf_eq]
    by_cases e : m' = l
    · rw [if_pos e, if_pos e]
    · rw [if_neg e, if_neg e, Nat.add_assoc]

theorem arr_room {ρ : Rho} {w : World} {b u o n sz : Nat} {r : Row} {p : Pl} (h : Nat.ble (Nat.add o (Nat.mul n sz)) (lenN r.c) = true) (hR : ObjOk E ρ w b (.cells u r)) (hp : ρ b u = some p) : room p o (some n) sz = true := by
  obtain ⟨q, C, lo, hi, a1, a2, a3, a4, a5, a6, a7, a8⟩ := hR
  obtain rfl := Option.some.inj (a1.symm.trans hp)
  rw [ble_iff, lenN_eq] at h
  show Nat.ble (n * sz) (q.cap - o) = true
  rw [ble_iff]
  have h : o + n * sz ≤ r.c.length := h
  omega

theorem slice_snd {t : TypeId} {x : K (T VV → VV)} {lo hi mx : K (T VV → Option VV)} {k : Cl} (hk : sliceK t x lo hi mx = .ok k) {sl : T VV} {H H' : VH} {v : VV} (h : k.f sl H = .ok v H') :
    VSnd E H v H' (fun ρ _ s => ∃ x' lo' hi' mx', conc E ρ (x.f sl) = some x' ∧ OptOk E ρ (lo.f sl) lo' ∧ OptOk E ρ (hi.f sl) hi' ∧ OptOk E ρ (mx.f sl) mx' ∧ s = Instr.sliceAt t x' lo' hi' mx') := by
  unfold sliceK at hk
  rw [descV_ok] at hk
  obtain ⟨d, hd, hk⟩ := hk
  cases d <;> simp only [reduceCtorEq] at hk
  case string =>
    simp only [R.ok.injEq] at hk
    subst hk
    simp only [asStr_ok, sliceStr, boundV_ok', RV.when_ok, natK_eq, takeK_ok, dropN_eq, Bool.and_eq_true, ble_iff, RV.ok.injEq] at h
    obtain ⟨n, s, hx, l, hl, m, hm, ⟨⟨h1, h2⟩, h3⟩, h4, rfl, rfl⟩ := h
    refine VSnd.pure ?_
    rintro ρ w s' ⟨x', lo', hi', mx', hx', o1, o2, o3, rfl⟩ _
    rw [hx] at hx'
    obtain ⟨hn, hb, rfl⟩ := conc_str hx'
    subst hn
    have hmx : mx' = none := by
      cases hmxe : mx.f sl with
      | none =>
        rw [hmxe] at o3
        cases mx' with
        | none => rfl
        | some y => exact o3.elim
      | some y => rw [hmxe] at h3; cases h3
    subst hmx
    have o3' : OptOk E ρ none none := trivial
    have hr := run_sliceBounds (isS := false) (len := s.length) (cap := s.length) o1 o2 o3' hl hm (.inl ⟨rfl, rfl⟩) h1 h2 (Nat.le_refl _) (.inl rfl) w
    refine ⟨.string (toBA ((s.drop l).take (m - l))), ?_, ?_⟩
    · simp only [Instr.sliceAt, Instr.slice, Sem.run_bind, run_und hd, Result.andThen_ok, Option.isSome_none, Bool.false_eq_true, if_false, toBA_size, hr, Sem.run_pure, toBA_extract]
    · simp only [conc]
      rw [if_pos ⟨by rw [List.length_take, Nat.min_eq_left h4], fun i hi => hb i (List.mem_of_mem_drop (List.mem_of_mem_take hi))⟩]
      rfl
  case slice el =>
    rw [sizeV_ok] at hk
    obtain ⟨ie, hie, hk⟩ := hk
    simp only [R.ok.injEq] at hk
    subst hk
    simp only [sliceSl] at h
    cases hx : x.f sl <;> rw [hx] at h <;> simp only [reduceCtorEq] at h
    case snil =>
      simp only [boundV_ok', RV.when_ok, Bool.and_eq_true, beq_iff, RV.ok.injEq] at h
      obtain ⟨l, hl, m, hm, c, hc, ⟨⟨⟨rfl, rfl⟩, rfl⟩, hq⟩, rfl, rfl⟩ := h
      refine VSnd.pure ?_
      rintro ρ w s' ⟨x', lo', hi', mx', hx', o1, o2, o3, rfl⟩ _
      simp only [conc, Option.some.injEq] at hx'
      subst hx'
      have hxx : mx.f sl = none ∨ (hi.f sl).isSome = true := by
        simp only [Bool.or_eq_true, Option.isNone_iff_eq_none] at hq
        exact hq
      have hr := run_sliceBounds (isS := true) (len := 0) (cap := 0) o1 o2 o3 hl hm hc (Nat.le_refl _) (Nat.le_refl _) (Nat.le_refl _) hxx w
      exact ⟨.slice none 0 0, by simp [Instr.sliceAt, Instr.slice, run_und hd, hr, run_size hie], rfl⟩
    case sl b u o len cap sz =>
      rw [RV.when_ok, beq_iff] at h
      obtain ⟨rfl, h⟩ := h
      refine sliceRow_snd h ?_
      rintro ρ w s' ⟨x', lo', hi', mx', hx', o1, o2, o3, rfl⟩
      obtain ⟨p, hp, hlen, hrm, rfl⟩ := conc_sl' hx'
      refine ⟨p, lo', hi', mx', true, hp, hlen, hrm, o1, o2, o3, fun l n m hr => ?_⟩
      simp only [Instr.sliceAt, Instr.slice, Sem.run_bind, run_und hd, Result.andThen_ok, hr, run_size hie, Sem.run_pure]
      by_cases e : m = l
      · simp [e]
      · simp [e, add_none]
  case array n el =>
    rw [sizeV_ok] at hk
    obtain ⟨ie, hie, hk⟩ := hk
    simp only [R.ok.injEq] at hk
    subst hk
    simp only [sliceArr, asPtr_ok, rowOf_ok, RV.when_ok, touchK_eq] at h
    obtain ⟨b, u, o, hx, r, hr0, hble, h⟩ := h
    refine VSnd.touch hr0 (sliceRow_snd h ?_)
    rintro ρ w s' ⟨⟨x', lo', hi', mx', hx', o1, o2, o3, rfl⟩, hRow⟩
    rw [hx] at hx'
    obtain ⟨p, hp, rfl⟩ := conc_ptr hx'
    have hrm : room p o (some n) ie.size = true := arr_room hble hRow hp
    refine ⟨p, lo', hi', mx', false, hp, Nat.le_refl _, hrm, o1, o2, o3, fun l m c hr => ?_⟩
    have hr' : (Instr.sliceBounds false n n lo' hi' mx').run PP w = .ok (l, m, c) w := hr
    simp only [Instr.sliceAt, Sem.run_bind, run_und hd, Result.andThen_ok, Instr.sureAddr, hr', run_size hie, Sem.run_pure]
    by_cases e : c = l
    · simp [e]
    · simp [e, add_none]
  case pointer arr =>
    rw [descV_ok] at hk
    obtain ⟨d2, hd2, hk⟩ := hk
    cases d2 <;> simp only [reduceCtorEq] at hk
    case array n el =>
      rw [sizeV_ok] at hk
      obtain ⟨ie, hie, hk⟩ := hk
      simp only [R.ok.injEq] at hk
      subst hk
      simp only [sliceArr, asPtr_ok, rowOf_ok, RV.when_ok, touchK_eq] at h
      obtain ⟨b, u, o, hx, r, hr0, hble, h⟩ := h
      refine VSnd.touch hr0 (sliceRow_snd h ?_)
      rintro ρ w s' ⟨⟨x', lo', hi', mx', hx', o1, o2, o3, rfl⟩, hRow⟩
      rw [hx] at hx'
      obtain ⟨p, hp, rfl⟩ := conc_ptr hx'
      have hrm : room p o (some n) ie.size = true := arr_room hble hRow hp
      refine ⟨p, lo', hi', mx', false, hp, Nat.le_refl _, hrm, o1, o2, o3, fun l m c hr => ?_⟩
      have hr' : (Instr.sliceBounds false n n lo' hi' mx').run PP w = .ok (l, m, c) w := hr
      simp only [Instr.sliceAt, Instr.slice, Sem.run_bind, run_und hd, run_und hd2, Result.andThen_ok, Go.asAddr, hr', run_size hie, Sem.run_pure]
      by_cases e : c = l
      · simp [e]
      · simp [e, add_none]

end
end Go.Ev
