/- The plain operations: builtins. -/
import Derived.Test.YtafajhplaldeaaaGreatEvW
import GoSem.Dispatch
set_option linter.unusedVariables false
set_option linter.unusedSimpArgs false
namespace Go.Ev
open Go
attribute [local irreducible] PP

section
variable {E : Nat → Value}

theorem len_snd (hE : Plain E) {ts : Array TypeId} {t ty : TypeId} (h0 : ts[0]? = some t) {x : K (T VV → VV)} {k : Cl} (hk : lenK t x = .ok k) {sl : T VV} {H H' : VH} {v : VV} (h : k.f sl H = .ok v H') :
    VSnd E H v H' (fun ρ _ s => ∃ x', conc E ρ (x.f sl) = some x' ∧ s = Builtin.len_ ts ty #[x']) := by
  unfold lenK at hk
  rw [descV_ok] at hk
  obtain ⟨d, hd, hk⟩ := hk
  have hu := fun w => run_und hd w
  cases d <;> try (simp only [reduceCtorEq] at hk; done)
  case string =>
    simp only [R.ok.injEq] at hk
    subst hk
    simp only [lenStr] at h
    cases hx : x.f sl <;> rw [hx] at h
    case ext k =>
      simp only [RV.when_ok, isS, Bool.and_eq_true, ble_iff, blt_iff, RV.ok.injEq] at h
      obtain ⟨⟨h1, h2⟩, rfl, rfl⟩ := h
      obtain ⟨s, e1, e2, _⟩ := hE.len k h1 h2
      refine VSnd.pure ?_
      rintro ρ w s' ⟨x', hx', rfl⟩ _
      simp only [conc, Option.some.injEq] at hx'
      subst hx'
      refine ⟨.int .i64 (s.size : Nat), by rw [e1]; simp [Builtin.len_, h0, hu, goInt], ?_⟩
      simp only [conc]
      exact congrArg some e2
    case str n s =>
      simp only [asStr_ok, RV.ok.injEq] at h
      obtain ⟨n, s, hx2, rfl, rfl⟩ := h
      cases hx2
      refine VSnd.pure ?_
      rintro ρ w s' ⟨x', hx', rfl⟩ _
      obtain ⟨hl, _, rfl⟩ := conc_str hx'
      exact ⟨.int .i64 (n : Int), by simp [Builtin.len_, h0, hu, toBA_size, ← hl, goInt], rfl⟩
    all_goals (simp only [asStr_ok, reduceCtorEq, false_and, exists_false] at h)
  case array n el =>
    simp only [R.ok.injEq] at hk
    subst hk
    simp only [RV.ok.injEq] at h
    obtain ⟨rfl, rfl⟩ := h
    refine VSnd.pure ?_
    rintro ρ w s' ⟨x', hx', rfl⟩ _
    exact ⟨.int .i64 (n : Int), by simp [Builtin.len_, h0, hu, goInt], rfl⟩
  case slice el =>
    simp only [R.ok.injEq] at hk
    subst hk
    simp only at h
    unfold lenSl at h
    cases hx : x.f sl <;> rw [hx] at h <;> try (simp only [reduceCtorEq] at h; done)
    · simp only [RV.ok.injEq] at h
      obtain ⟨rfl, rfl⟩ := h
      refine VSnd.pure ?_
      rintro ρ w s' ⟨x', hx', rfl⟩ _
      simp only [conc, Option.some.injEq] at hx'
      subst hx'
      exact ⟨.int .i64 0, by simp [Builtin.len_, h0, hu, goInt], rfl⟩
    · rename_i b u o n cap sz
      simp only [RV.ok.injEq] at h
      obtain ⟨rfl, rfl⟩ := h
      refine VSnd.pure ?_
      rintro ρ w s' ⟨x', hx', rfl⟩ _
      obtain ⟨p, hp, _, rfl⟩ := conc_sl hx'
      exact ⟨.int .i64 (n : Int), by simp [Builtin.len_, h0, hu, goInt], rfl⟩
  case map kt el =>
    simp only [R.ok.injEq] at hk
    subst hk
    simp only at h
    unfold lenMap at h
    cases hx : x.f sl <;> rw [hx] at h <;> try (simp only [reduceCtorEq] at h; done)
    · simp only [RV.ok.injEq] at h
      obtain ⟨rfl, rfl⟩ := h
      refine VSnd.pure ?_
      rintro ρ w s' ⟨x', hx', rfl⟩ _
      simp only [conc, Option.some.injEq] at hx'
      subst hx'
      exact ⟨.int .i64 0, by simp [Builtin.len_, h0, hu, goInt], rfl⟩
    · simp only [entriesV_ok, natK_eq, touchK_eq, RV.ok.injEq] at h
      obtain ⟨es, st, hes, rfl, rfl⟩ := h
      refine VSnd.touch hes (VSnd.pure ?_)
      rintro ρ w s' ⟨⟨x', hx', rfl⟩, hO⟩ _
      obtain ⟨p, es', c, hp, _, hw, hc, _⟩ := hO
      simp only [conc, hp, Option.map_some, Option.some.injEq] at hx'
      subst hx'
      have hlen : ∀ {l : List (VV × VV)} {r : List (Value × Value)}, concP E ρ l = some r → r.length = l.length := by
        intro l
        induction l with
        | nil => intro r h; simp only [concP, Option.some.injEq] at h; subst h; rfl
        | cons e l ih =>
          intro r h
          obtain ⟨a, b, r', _, _, h3, rfl⟩ := concP_cons.1 h
          simp [ih h3]
      have := hlen hc
      rw [List.length_map, Array.length_toList] at this
      rw [lenN_eq, ← this]
      exact ⟨.int .i64 (es'.size : Int), by simp [Builtin.len_, h0, hu, run_getObj hw trivial, goInt], rfl⟩
  case pointer arr =>
    rw [descV_ok] at hk
    obtain ⟨d2, hd2, hk⟩ := hk
    cases d2 <;> try (simp only [reduceCtorEq] at hk; done)
    rename_i n el
    simp only [R.ok.injEq] at hk
    subst hk
    simp only [RV.ok.injEq] at h
    obtain ⟨rfl, rfl⟩ := h
    refine VSnd.pure ?_
    rintro ρ w s' ⟨x', hx', rfl⟩ _
    exact ⟨.int .i64 (n : Int), by simp [Builtin.len_, h0, hu, run_und hd2, goInt], rfl⟩

theorem okN_ok {k : IntKind} {n : Nat} {H H' : VH} {v : VV} : okN k n H = .ok v H' ↔ v = .int k (.ofNat n) ∧ H' = H := by
  unfold okN
  rw [natK_eq]
  simp only [RV.ok.injEq]
  exact ⟨fun ⟨x, y⟩ => ⟨x.symm, y.symm⟩, fun ⟨x, y⟩ => ⟨x.symm, y.symm⟩⟩

theorem cap_snd {ts : Array TypeId} {t ty : TypeId} (h0 : ts[0]? = some t) {x : K (T VV → VV)} {k : Cl} (hk : capK t x = .ok k) {sl : T VV} {H H' : VH} {v : VV} (h : k.f sl H = .ok v H') :
    VSnd E H v H' (fun ρ _ s => ∃ x', conc E ρ (x.f sl) = some x' ∧ s = Builtin.cap_ ts ty #[x']) := by
  unfold capK at hk
  rw [descV_ok] at hk
  obtain ⟨d, hd, hk⟩ := hk
  have hu := fun w => run_und hd w
  cases d <;> try (simp only [reduceCtorEq] at hk; done)
  case array n el =>
    simp only [R.ok.injEq] at hk
    subst hk
    simp only [RV.ok.injEq] at h
    obtain ⟨rfl, rfl⟩ := h
    refine VSnd.pure ?_
    rintro ρ w s' ⟨x', hx', rfl⟩ _
    exact ⟨.int .i64 (n : Int), by simp [Builtin.cap_, h0, hu, goInt], rfl⟩
  case slice el =>
    simp only [R.ok.injEq] at hk
    subst hk
    simp only at h
    cases hx : x.f sl <;> rw [hx] at h <;> try (simp only [capSl, reduceCtorEq] at h; done)
    · simp only [capSl, RV.ok.injEq] at h
      obtain ⟨rfl, rfl⟩ := h
      refine VSnd.pure ?_
      rintro ρ w s' ⟨x', hx', rfl⟩ _
      simp only [conc, Option.some.injEq] at hx'
      subst hx'
      exact ⟨.int .i64 0, by simp [Builtin.cap_, h0, hu, goInt], rfl⟩
    · rename_i b u o n cap sz
      cases cap with
      | none => simp only [capSl, reduceCtorEq] at h
      | some c =>
        simp only [capSl, okN_ok] at h
        obtain ⟨rfl, rfl⟩ := h
        refine VSnd.pure ?_
        rintro ρ w s' ⟨x', hx', rfl⟩ _
        obtain ⟨p, hp, _, rfl⟩ := conc_sl hx'
        exact ⟨.int .i64 (c : Int), by simp [Builtin.cap_, h0, hu, goInt, capOf], rfl⟩

/-! ### the greatest, the least -/
theorem max_snd {H H' : VH} : ∀ (l : List VV) (x v : VV), mmV true l x H = .ok v H' → H' = H ∧ ∀ (ρ : Rho) (x' : Value) (l' : List Value) (w : World), conc E ρ x = some x' → concs E ρ l = some l' → ∃ v', (l'.foldlM Builtin.max2 x').run PP w = .ok v' w ∧ conc E ρ v = some v' := by
  intro l
  induction l with
  | nil =>
    intro x v h
    simp only [mmV, RV.ok.injEq] at h
    obtain ⟨rfl, rfl⟩ := h
    refine ⟨rfl, fun ρ x' l' w hx hl => ?_⟩
    simp only [concs, Option.some.injEq] at hl
    subst hl
    exact ⟨x', by simp [List.foldlM], hx⟩
  | cons y l ih =>
    intro x v h
    simp only [mmV, asInt_ok] at h
    obtain ⟨k, a, rfl, j, b, rfl, h⟩ := h
    obtain ⟨rfl, ih2⟩ := ih _ _ h
    refine ⟨rfl, fun ρ x' l' w hx hl => ?_⟩
    simp only [concs, Option.bind_eq_some_iff, Option.map_eq_some_iff] at hl
    obtain ⟨y', hy, l2, hl2, rfl⟩ := hl
    rw [conc_int hx, conc_int hy]
    have hm : mmI true a b = if b > a then b else a := by
      unfold mmI
      by_cases h : a < b
      · rw [if_pos h, show ltI a b = true by rw [ltI_iff]; simpa using h]
      · rw [if_neg h, show ltI a b = false by rw [ltI_iff]; simpa using h]
    obtain ⟨v', h1, h2⟩ := ih2 ρ (.int k (mmI true a b)) l2 w rfl hl2
    refine ⟨v', ?_, h2⟩
    simp only [List.foldlM, Sem.run_bind, Builtin.max2, Sem.run_pure, Result.andThen_ok]
    rw [← hm]; exact h1

theorem min_snd {H H' : VH} : ∀ (l : List VV) (x v : VV), mmV false l x H = .ok v H' → H' = H ∧ ∀ (ρ : Rho) (x' : Value) (l' : List Value) (w : World), conc E ρ x = some x' → concs E ρ l = some l' → ∃ v', (l'.foldlM Builtin.min2 x').run PP w = .ok v' w ∧ conc E ρ v = some v' := by
  intro l
  induction l with
  | nil =>
    intro x v h
    simp only [mmV, RV.ok.injEq] at h
    obtain ⟨rfl, rfl⟩ := h
    refine ⟨rfl, fun ρ x' l' w hx hl => ?_⟩
    simp only [concs, Option.some.injEq] at hl
    subst hl
    exact ⟨x', by simp [List.foldlM], hx⟩
  | cons y l ih =>
    intro x v h
    simp only [mmV, asInt_ok] at h
    obtain ⟨k, a, rfl, j, b, rfl, h⟩ := h
    obtain ⟨rfl, ih2⟩ := ih _ _ h
    refine ⟨rfl, fun ρ x' l' w hx hl => ?_⟩
    simp only [concs, Option.bind_eq_some_iff, Option.map_eq_some_iff] at hl
    obtain ⟨y', hy, l2, hl2, rfl⟩ := hl
    rw [conc_int hx, conc_int hy]
    have hm : mmI false a b = if b < a then b else a := by
      unfold mmI
      by_cases h : b < a
      · rw [if_pos h, show ltI b a = true by rw [ltI_iff]; simpa using h]
      · rw [if_neg h, show ltI b a = false by rw [ltI_iff]; simpa using h]
    obtain ⟨v', h1, h2⟩ := ih2 ρ (.int k (mmI false a b)) l2 w rfl hl2
    refine ⟨v', ?_, h2⟩
    simp only [List.foldlM, Sem.run_bind, Builtin.min2, Sem.run_pure, Result.andThen_ok]
    rw [← hm]; exact h1

/-! ### strings out of memory -/
theorem run_unsafeString' {ts : Array TypeId} {pt ty e : TypeId} (h0 : ts[0]? = some pt) {i : TypeInfo} (hp : PP.underlying pt = some (.pointer e)) (hi : PP.info? e = some i) (h1 : i.size = 1) {b o cells : Nat} {j : IntKind} {w : World} (hsh : w.shape? b = some (e, cells)) (l : List UInt8) (hl0 : l ≠ []) (hn : o + l.length ≤ cells) (h63 : l.length ≤ 9223372036854775807)
    (hcell : ∀ j x, l[j]? = some x → w.cell? ((⟨b, o, none⟩ : Addr).add j) = some (.int .u8 x.toNat)) :
    (Builtin.unsafeString_ ts ty #[.pointer (some ⟨b, o, none⟩), .int j l.length]).run PP w = .ok (.string ⟨l.toArray⟩) (w.freeze ⟨b, o, none⟩ l.length) := by
  have hl : l.length ≠ 0 := by simpa using hl0
  have hlb := Lib.run_loadBytes (P := PP) w l ⟨b, o, none⟩ .empty hcell
  have hv := run_variablesAt (w := w) (b := b) (o := o) (n := l.length) hi (by omega) hsh (by rw [h1]; simp [Nat.mod_one, Nat.div_one, hn])
  have h63' : ¬ (9223372036854775807 : Int) < (l.length : Int) := by omega
  have hdef : Builtin.unsafeString_ ts ty #[.pointer (some ⟨b, o, none⟩), .int j l.length] =
      (do
        let n ← Go.asInt (.int j l.length)
        let some pt := ts[0]? | stuck "unsafe.String: no argument types"
        if n < 0 then runtimePanic (.error "unsafe.String: len out of range")
        if n > IntKind.i64.max then unsupported (.unsafePointer "String: a length above the largest int")
        if n = 0 then Pure.pure (.string .empty)
        else if ← variablesAt ⟨b, o, none⟩ (← elemOf pt) n.toNat then do
          let s ← loadBytes ⟨b, o, none⟩ .empty n.toNat
          freeze ⟨b, o, none⟩ n.toNat
          Pure.pure (.string s)
        else unsupported (.unsafePointer "String: not so many bytes at ptr")) := rfl
  rw [hdef]
  have hmax : IntKind.i64.max = 9223372036854775807 := rfl
  have hneg : ¬ (l.length : Int) < 0 := by omega
  simp [h0, Go.asInt, asIntOf, hmax, h63', hneg, hl, hv, elemOf, run_und hp, hlb]

theorem run_unsafeString_empty {ts : Array TypeId} {pt ty : TypeId} (h0 : ts[0]? = some pt) {j : IntKind} {p : Option Addr} {w : World} : (Builtin.unsafeString_ ts ty #[.pointer p, .int j 0]).run PP w = .ok (.string .empty) w := by
  have hmax : IntKind.i64.max = 9223372036854775807 := rfl
  cases p with
  | none =>
    have hdef : Builtin.unsafeString_ ts ty #[.pointer none, .int j 0] =
        (do
          let n ← Go.asInt (.int j 0)
          let some pt := ts[0]? | stuck "unsafe.String: no argument types"
          if n < 0 then runtimePanic (.error "unsafe.String: len out of range")
          if n > IntKind.i64.max then unsupported (.unsafePointer "String: a length above the largest int")
          if n = 0 then Pure.pure (.string .empty)
          else runtimePanic (.error "unsafe.String: ptr is nil and len is not zero")) := rfl
    rw [hdef]
    simp [h0, Go.asInt, asIntOf, hmax]
  | some a =>
    have hdef : Builtin.unsafeString_ ts ty #[.pointer (some a), .int j 0] =
        (do
          let n ← Go.asInt (.int j 0)
          let some pt := ts[0]? | stuck "unsafe.String: no argument types"
          if n < 0 then runtimePanic (.error "unsafe.String: len out of range")
          if n > IntKind.i64.max then unsupported (.unsafePointer "String: a length above the largest int")
          if n = 0 then Pure.pure (.string .empty)
          else if ← variablesAt a (← elemOf pt) n.toNat then do
            let s ← loadBytes a .empty n.toNat
            freeze a n.toNat
            Pure.pure (.string s)
          else unsupported (.unsafePointer "String: not so many bytes at ptr")) := rfl
    rw [hdef]
    simp [h0, Go.asInt, asIntOf, hmax]

theorem unsafeStr_snd {ts : Array TypeId} {pt ty : TypeId} (h0 : ts[0]? = some pt) {p n : K (T VV → VV)} {k : Cl} (hk : unsafeStrK pt p n = .ok k) {sl : T VV} {H H' : VH} {v : VV} (h : k.f sl H = .ok v H') :
    VSnd E H v H' (fun ρ _ s => ∃ p' n', conc E ρ (p.f sl) = some p' ∧ conc E ρ (n.f sl) = some n' ∧ s = Builtin.unsafeString_ ts ty #[p', n']) := by
  unfold unsafeStrK at hk
  rw [descV_ok] at hk
  obtain ⟨d, hd, hk⟩ := hk
  cases d <;> try (simp only [reduceCtorEq] at hk; done)
  rename_i el
  rw [descV_ok] at hk
  obtain ⟨d2, hd2, hk⟩ := hk
  cases d2 <;> try (simp only [reduceCtorEq] at hk; done)
  rename_i kk
  cases kk <;> try (simp only [reduceCtorEq] at hk; done)
  rw [sizeV_ok] at hk
  obtain ⟨i, hi, hk⟩ := hk
  rw [R.when_ok, beq_iff] at hk
  obtain ⟨h1, hk⟩ := hk
  simp only [R.ok.injEq] at hk
  subst hk
  simp only at h
  unfold unsafeStr at h
  rw [natV_ok] at h
  obtain ⟨j, m, hn, h⟩ := h
  have empty : ∀ {H : VH}, (∀ (ρ : Rho) p', conc E ρ (p.f sl) = some p' → ∃ q, p' = .pointer q) → m = 0 → VSnd E H (.str 0 []) H (fun ρ _ s => ∃ p' n', conc E ρ (p.f sl) = some p' ∧ conc E ρ (n.f sl) = some n' ∧ s = Builtin.unsafeString_ ts ty #[p', n']) := by
    intro H hp hm
    subst hm
    refine VSnd.pure ?_
    rintro ρ w s' ⟨p', n', hp', hn', rfl⟩ _
    rw [hn] at hn'
    obtain ⟨q, rfl⟩ := hp ρ p' hp'
    rw [conc_int hn']
    exact ⟨.string .empty, run_unsafeString_empty h0, rfl⟩
  cases hp : p.f sl <;> rw [hp] at h <;> try (simp only [reduceCtorEq] at h; done)
  case pnil =>
    simp only [RV.when_ok, beq_iff, RV.ok.injEq] at h
    obtain ⟨hm, rfl, rfl⟩ := h
    rw [← hp]
    exact empty (fun ρ p' h => by rw [hp] at h; simp only [conc, Option.some.injEq] at h; exact ⟨_, h.symm⟩) hm
  case ptr b u o =>
    simp only at h
    split at h
    · rename_i hm
      rw [beq_iff] at hm
      simp only [RV.ok.injEq] at h
      obtain ⟨rfl, rfl⟩ := h
      rw [← hp]
      exact empty (fun ρ p' h => by rw [hp] at h; obtain ⟨q, _, h⟩ := conc_ptr h; exact ⟨_, h⟩) hm
    · rename_i hm
      have hm := beq_no hm
      rw [rowOf_ok] at h
      obtain ⟨⟨op, fz, mkd, el', c⟩, hr, h⟩ := h
      simp only [RV.when_ok, takeK_ok, dropN_eq, RV.from_ok, natK_eq, putO_eq, Bool.and_eq_true, beq_iff, ble_iff, Bool.not_eq_true', RV.ok.injEq] at h
      obtain ⟨⟨⟨rfl, rfl⟩, h63⟩, htake, sb, hsb, rfl, rfl⟩ := h
      obtain ⟨hl1, hb⟩ := bytesOf_ok hsb
      have hlen : m = sb.length := by
        have := congrArg List.length hl1
        rw [List.length_take, Nat.min_eq_left htake, List.length_map] at this
        exact this
      refine VSnd.put hr ?_
      rintro ρ w s' ⟨p', n', hp', hn', rfl⟩ _ hR
      have hR0 : RowOk E ρ w b u ⟨op, fz, false, el, c⟩ := hR
      rw [hn] at hn'
      obtain ⟨q, hq, rfl⟩ := conc_ptr hp'
      rw [conc_int hn']
      obtain ⟨q', C, lo, hi', a1, a2, a3, a4, a5, a6, a7, a8⟩ := hR
      rw [hq] at a1
      obtain rfl := Option.some.inj a1
      simp only at a3 a5 a6 a7 a8
      have hlt : q.blk < w.heap.size := (Array.getElem?_eq_some_iff.1 a3).1
      have hcl : m ≤ c.length - o := by rw [List.length_drop] at htake; exact htake
      have hl0 : (sb.map UInt8.ofNat) ≠ [] := fun e => by
        have := congrArg List.length e
        rw [List.length_map] at this
        simp at this
        subst this
        simp at hlen; omega
      have hrun := run_unsafeString' (w := w) (ty := ty) h0 hd hi h1 (b := q.blk) (o := q.base + o) (cells := C.size) (j := j) (by simp [World.shape?, a3]) (sb.map UInt8.ofNat) hl0 (by rw [List.length_map, ← hlen]; omega) (by rw [List.length_map, ← hlen]; omega) (fun k x hx => by
        rw [List.getElem?_map, Option.map_eq_some_iff] at hx
        obtain ⟨y, hy, rfl⟩ := hx
        have hk : k < m := by rw [hlen]; exact (List.getElem?_eq_some_iff.1 hy).1
        have hc : c[o + k]? = some (byteV y) := by
          have : ((c.drop o).take m)[k]? = some (byteV y) := by rw [hl1, List.getElem?_map, hy]; rfl
          rw [List.getElem?_take, if_pos hk, List.getElem?_drop] at this
          exact this
        obtain ⟨z, hz, hz2⟩ := cell_row E hR0 hq hc
        simp only [byteV, conc, Option.some.injEq] at hz
        subst hz
        rw [add_none, Nat.add_assoc, hz2, toNat_ofNat (hb y (List.mem_of_getElem? hy))]
        rfl)
      rw [List.length_map, ← hlen] at hrun
      refine ⟨_, u, q, _, _, hq, hlt, hrun, freeze_put a3 hm, freeze_os _ _ _, freeze_tape _ _ _, freeze_out _ _ _, fun hw' => ?_, ?_⟩
      · refine ⟨q, C, _, _, hq, a2, hw', a4, a5, a6, ?_, fun h => ⟨(a8 h).1, (a8 h).2.1, fun _ h0 => by
          replace h0 : max fz (o + m) = 0 := h0
          omega⟩⟩
        simp only at a7 ⊢
        have e1 : fz.max (o.add m) = max fz (o + m) := rfl
        rw [e1]
        right
        exact frz_hi (by omega) (by omega)
      · simp only [conc]
        rw [if_pos ⟨hlen, hb⟩]
        rfl

theorem unsafeData_snd {ts : Array TypeId} {ty : TypeId} {x : VV} {H H' : VH} {v : VV} (h : unsafeData x H = .ok v H') : VSnd E H v H' (fun ρ _ s => ∃ x', conc E ρ x = some x' ∧ s = Builtin.unsafeSliceData_ ts ty #[x']) := by
  have run : ∀ (a : Addr) (n c : Nat) (w : World), c ≠ 0 → (Builtin.unsafeSliceData_ ts ty #[.slice (some a) n c]).run PP w = .ok (.pointer (some a)) w := fun a n c w hc => Lib.run_unsafeSliceData_row w ts ty a n c hc
  unfold unsafeData at h
  cases x <;> try (simp only [reduceCtorEq] at h; done)
  case snil =>
    simp only [RV.ok.injEq] at h
    obtain ⟨rfl, rfl⟩ := h
    refine VSnd.pure ?_
    rintro ρ w s' ⟨x', hx', rfl⟩ _
    simp only [conc, Option.some.injEq] at hx'
    subst hx'
    exact ⟨.pointer none, rfl, rfl⟩
  case sl b u o len cap sz =>
    cases cap with
    | some c =>
      simp only [RV.when_ok, blt_iff, RV.ok.injEq] at h
      obtain ⟨h0, rfl, rfl⟩ := h
      refine VSnd.pure ?_
      rintro ρ w s' ⟨x', hx', rfl⟩ _
      obtain ⟨p, hp, _, rfl⟩ := conc_sl hx'
      exact ⟨_, run _ _ _ _ (by show c ≠ 0; omega), by simp [conc, hp]⟩
    | none =>
      simp only [rowOf_ok, RV.when_ok, Bool.and_eq_true, blt_iff, ble_iff, lenN_eq, touchK_eq, RV.ok.injEq] at h
      obtain ⟨r, hr, ⟨h0, h1⟩, rfl, rfl⟩ := h
      refine VSnd.touch hr (VSnd.pure ?_)
      rintro ρ w s' ⟨⟨x', hx', rfl⟩, hR⟩ _
      obtain ⟨p, hp, _, rfl⟩ := conc_sl hx'
      obtain ⟨n, hsh, hn, hcl, _⟩ := row_shape hR hp
      have h1' : o + sz ≤ r.c.length := h1
      have hc : capOf p o none sz ≠ 0 := by
        have : 1 ≤ (p.cap - o) / sz := (Nat.le_div_iff_mul_le h0).2 (by omega)
        show (p.cap - o) / sz ≠ 0
        omega
      exact ⟨_, run _ _ _ _ hc, by simp [conc, hp]⟩

end
end Go.Ev
