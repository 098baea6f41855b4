/- The plain operations: append, copy, make. -/
import Derived.Test.YtafajhplaldeaaaGreatEvO
import GoSem.Builtin.Copy
import GoSem.Instr.MakeSlice
set_option linter.unusedVariables false
set_option linter.unusedSimpArgs false
namespace Go.Ev
open Go
attribute [local irreducible] PP

section
variable {E : Nat → Value}

theorem appSl_snd (hE : Plain E) {ts : Array TypeId} {t ty el : TypeId} {i : TypeInfo} {z : Value} (h0 : ts[0]? = some t) (hz : NoZeros ts) (hd : PP.underlying t = some (.slice el)) (hi : PP.info? el = some i) (hzero : i.zero = some z) (hzs : z.cells.size = i.size) (hsz : 0 < i.size) (hby : i.bytes ≤ 4096)
    {src : List VV} {n b u o len : Nat} {cap : Option Nat} (hn0 : 0 < n) {H H' : VH} {v : VV} {S : Rho → World → Sem Value → Prop}
    (h : appSl el i.size src n b u o len cap H = .ok v H') (hs : ∀ ρ w s, S ρ w s → AppS E ts ty i.size src n b u o len cap ρ w s) : VSnd E H v H' S := by
  unfold appSl at h
  rw [natK_eq] at h
  cases cap with
  | some c =>
    simp only at h
    split at h
    · rename_i hle
      rw [ble_iff] at hle
      exact appRoom_snd hE h0 hz hd hi h hs (fun _ _ _ _ _ _ _ _ _ => hle)
    · rename_i hle
      have hg : c < len + n := by
        rcases Nat.lt_or_ge c (len + n) with e | e
        · exact e
        · rw [show Nat.ble (Nat.add len n) c = true from ble_iff.2 e] at hle; cases hle
      rw [readCells_ok] at h
      obtain ⟨r, hr, htake, h⟩ := h
      have htake' : len * i.size ≤ (r.c.drop o).length := htake
      refine VSnd.touch hr (appFresh_snd hsz h ?_)
      rintro ρ w s ⟨hS, hR⟩ hneed
      obtain ⟨x', news, p, hc, hl, hx, hp, hlen, hrm, rfl⟩ := hs ρ w s hS
      have hR0 : RowOk E ρ w b u r := hR
      obtain ⟨olds, holds, hload⟩ := load_cells E hR0 hp htake'
      have holdl : olds.length = len * i.size := by rw [concs_length E holds, List.length_take]; exact Nat.min_eq_left htake'
      obtain ⟨e1, e2⟩ := hx w rfl
      obtain ⟨e3, e4⟩ := hx w.drew rfl
      have hold : (Builtin.firstCells i.size len (.slice (some ⟨p.blk, p.base + o, none⟩) len c)).run PP w.drew = .ok olds.toArray w.drew := by
        have := load_first (hR0.heap (w' := w.drew) rfl) hp htake' (Nat.le_refl _) holds
        rw [List.take_of_length_le (Nat.le_of_eq holdl)] at this
        exact this
      obtain ⟨cap, hcap, hrun⟩ := run_append_grow' (base := some ⟨p.blk, p.base + o, none⟩) (sLen := len) (sCap := c) (olds := olds) (news := news) (ty := ty) h0 hz hd hi hzero e1 e4 hold hg hneed hby
      exact ⟨olds, news, z, cap, concs_append E holds hc, by rw [List.length_append, holdl, hl, ← Nat.add_mul]; rfl, hzs, hcap, hrun⟩
  | none =>
    simp only at h
    rw [rowOf_ok] at h
    obtain ⟨r, hr, h⟩ := h
    split at h
    · rename_i hle
      rw [ble_iff, lenN_eq] at hle
      refine appRoom_snd hE h0 hz hd hi h hs (fun ρ w s p r' hS hp hr' hR => ?_)
      rw [hr] at hr'
      simp only [Option.some.injEq, VO.cells.injEq] at hr'
      obtain ⟨_, rfl⟩ := hr'
      obtain ⟨q, C, lo, hi', a1, a2, a3, a4, a5, a6, a7, a8⟩ := hR
      obtain rfl := Option.some.inj (a1.symm.trans hp)
      show len + n ≤ (q.cap - o) / i.size
      rw [Nat.le_div_iff_mul_le hsz]
      have e1 : o + (len + n) * i.size ≤ r.c.length := hle
      omega
    · exact appGrow_snd hE h0 hz hd hi hzero hzs hsz hby hn0 h hs

theorem beq_no {a b : Nat} (h : Nat.beq a b = false) : a ≠ b := fun e => by rw [beq_iff.2 e] at h; cases h

theorem appTo_snd (hE : Plain E) {ts : Array TypeId} {t ty el : TypeId} {i : TypeInfo} {z : Value} (h0 : ts[0]? = some t) (hz : NoZeros ts) (hd : PP.underlying t = some (.slice el)) (hi : PP.info? el = some i) (hzero : i.zero = some z) (hzs : z.cells.size = i.size) (hsz : 0 < i.size) (hby : i.bytes ≤ 4096)
    {src : List VV} {n : Nat} {a x : VV} {H H' : VH} {v : VV} {S : Rho → World → Sem Value → Prop}
    (h : appTo el i.size src n a H = .ok v H') (hs : ∀ ρ w s, S ρ w s → SrcOk E ρ w i.size x src n ∧ ∃ a' x', conc E ρ a = some a' ∧ conc E ρ x = some x' ∧ s = Builtin.append_ ts ty #[a', x']) : VSnd E H v H' S := by
  unfold appTo at h
  cases a <;> try (simp only [reduceCtorEq] at h; done)
  case snil =>
    simp only at h
    split at h
    · rename_i hn
      rw [beq_iff] at hn
      subst hn
      simp only [RV.ok.injEq] at h
      obtain ⟨rfl, rfl⟩ := h
      refine VSnd.pure ?_
      rintro ρ w s hS _
      obtain ⟨hsrc, a', x', ha, hx, rfl⟩ := hs ρ w s hS
      simp only [conc, Option.some.injEq] at ha
      subst ha
      obtain ⟨ys, hys, hl, hrun⟩ := hsrc x' hx
      obtain ⟨e1, e2⟩ := hrun w rfl
      exact ⟨_, run_append_nil' h0 hz hd hi e1 (e2 0 (Nat.le_refl _)) (Nat.le_refl _), rfl⟩
    · rename_i hn
      have hn := beq_no hn
      rw [natK_eq] at h
      refine appFresh_snd hsz h ?_
      rintro ρ w s hS hneed
      obtain ⟨hsrc, a', x', ha, hx, rfl⟩ := hs ρ w s hS
      simp only [conc, Option.some.injEq] at ha
      subst ha
      obtain ⟨ys, hys, hl, hrun⟩ := hsrc x' hx
      obtain ⟨e1, e2⟩ := hrun w rfl
      obtain ⟨e3, e4⟩ := hrun w.drew rfl
      have e5 := e4 n (Nat.le_refl _)
      rw [List.take_of_length_le (Nat.le_of_eq hl)] at e5
      have hold : (Builtin.firstCells i.size 0 (.slice none 0 0)).run PP w.drew = .ok ([] : List Value).toArray w.drew := by simp [Builtin.firstCells]
      obtain ⟨cap, hcap, hr⟩ := run_append_grow' (base := none) (sLen := 0) (sCap := 0) (olds := []) (news := ys) (ty := ty) h0 hz hd hi hzero e1 e5 hold (by omega) (by omega) hby
      rw [Nat.zero_add] at hr hcap
      exact ⟨[], ys, z, cap, hys, hl, hzs, hcap, hr⟩
  case sl b u o len cap sz' =>
    rw [RV.when_ok, beq_iff] at h
    obtain ⟨rfl, h⟩ := h
    have hS' : ∀ ρ w s, S ρ w s → AppS E ts ty i.size src n b u o len cap ρ w s := fun ρ w s hS => by
      obtain ⟨hsrc, a', x', ha, hx, rfl⟩ := hs ρ w s hS
      obtain ⟨p, hp, hlen, hrm, rfl⟩ := conc_sl' ha
      obtain ⟨ys, hys, hl, hrun⟩ := hsrc x' hx
      refine ⟨x', ys, p, hys, hl, fun w' hw' => ⟨(hrun w' hw').1, ?_⟩, hp, hlen, hrm, rfl⟩
      have e5 := (hrun w' hw').2 n (Nat.le_refl _)
      rw [List.take_of_length_le (Nat.le_of_eq hl)] at e5
      exact e5
    split at h
    · rename_i hn
      rw [beq_iff] at hn
      subst hn
      simp only [RV.ok.injEq] at h
      obtain ⟨rfl, rfl⟩ := h
      refine VSnd.pure ?_
      rintro ρ w s hS _
      obtain ⟨x', news, p, hc, hl, hx, hp, hlen, hrm, rfl⟩ := hS' ρ w s hS
      obtain ⟨e1, e2⟩ := hx w rfl
      have : news = [] := List.length_eq_zero_iff.1 (by rw [hl, Nat.zero_mul])
      subst this
      exact ⟨_, run_append_room' h0 hz hd hi e1 e2 hlen (by simp [storeCells]), conc_sl_mk hp hlen hrm⟩
    · rename_i hn
      exact appSl_snd hE h0 hz hd hi hzero hzs hsz hby (by have := beq_no hn; omega) h hS'

theorem append_snd (hE : Plain E) {ts : Array TypeId} {t ty : TypeId} (h0 : ts[0]? = some t) (hz : NoZeros ts) {a x : K (T VV → VV)} {k : Cl} (hk : appendK t a x = .ok k) {sl : T VV} {H H' : VH} {v : VV} (h : k.f sl H = .ok v H') :
    VSnd E H v H' (fun ρ _ s => ∃ a' x', conc E ρ (a.f sl) = some a' ∧ conc E ρ (x.f sl) = some x' ∧ s = Builtin.append_ ts ty #[a', x']) := by
  unfold appendK at hk
  rw [elemV_ok] at hk
  obtain ⟨el, hd, hk⟩ := hk
  rw [sizeV_ok] at hk
  obtain ⟨i, hi, hk⟩ := hk
  rw [zeroV_ok] at hk
  obtain ⟨i', z, zx, hi', hzero, hzx, hk⟩ := hk
  rw [R.of_ok] at hk
  obtain ⟨i'', hi'', hk⟩ := hk
  rw [hi] at hi' hi''
  cases hi'; cases hi''
  rw [R.when_ok] at hk
  simp only [Bool.and_eq_true, beq_iff, blt_iff, ble_iff, R.ok.injEq] at hk
  obtain ⟨⟨⟨h1, h2⟩, h3⟩, rfl⟩ := hk
  simp only at h
  refine srcV_snd h fun l n H1 h => appTo_snd hE (ty := ty) h0 hz hd hi hzero ?_ h2 h3 h (x := x.f sl) ?_
  · have := concs_length E (conc_cells hE (abst_conc E (ρ := fun _ _ => none) 20 z zx hzx))
    rw [Array.length_toList] at this
    rw [this, h1]
  · rintro ρ w s ⟨⟨a', x', ha, hx, rfl⟩, hsrc⟩
    exact ⟨hsrc, a', x', ha, hx, rfl⟩

/-! ### copy -/
theorem run_copy' {ts : Array TypeId} {t ty el : TypeId} {i : TypeInfo} (h0 : ts[0]? = some t) (hd : PP.underlying t = some (.slice el)) (hi : PP.info? el = some i) {b off dLen dCap n : Nat} {x : Value} {news : List Value} {w w' : World}
    (hl : (Builtin.lenOf x).run PP w = .ok n w) (hf : (Builtin.firstCells i.size (Nat.min n dLen) x).run PP w = .ok news.toArray w) (hst : (storeCells ⟨b, off, none⟩ news).run PP w = .ok () w') :
    (Builtin.copy_ ts ty #[.slice (some ⟨b, off, none⟩) dLen dCap, x]).run PP w = .ok (.int .i64 (Nat.min n dLen : Nat)) w' := by
  simp [Builtin.copy_, h0, run_und hd, run_size hi, hl, hf, hst, goInt]

theorem copy_snd (hE : Plain E) {ts : Array TypeId} {t ty : TypeId} (h0 : ts[0]? = some t) {a x : K (T VV → VV)} {k : Cl} (hk : copyK t a x = .ok k) {sl : T VV} {H H' : VH} {v : VV} (h : k.f sl H = .ok v H') :
    VSnd E H v H' (fun ρ _ s => ∃ a' x', conc E ρ (a.f sl) = some a' ∧ conc E ρ (x.f sl) = some x' ∧ s = Builtin.copy_ ts ty #[a', x']) := by
  unfold copyK at hk
  rw [elemV_ok] at hk
  obtain ⟨el, hd, hk⟩ := hk
  rw [sizeV_ok] at hk
  obtain ⟨i, hi, hk⟩ := hk
  simp only [R.ok.injEq] at hk
  subst hk
  simp only at h
  refine srcV_snd h fun l n H1 h => ?_
  unfold copyTo at h
  cases ha : a.f sl <;> rw [ha] at h <;> try (simp only [reduceCtorEq] at h; done)
  case snil =>
    simp only [RV.ok.injEq] at h
    obtain ⟨rfl, rfl⟩ := h
    refine VSnd.pure ?_
    rintro ρ w s ⟨⟨a', x', ha', hx, rfl⟩, hsrc⟩ _
    simp only [conc, Option.some.injEq] at ha'
    subst ha'
    obtain ⟨ys, hys, hl, hrun⟩ := hsrc x' hx
    obtain ⟨e1, e2⟩ := hrun w rfl
    refine ⟨.int .i64 0, ?_, rfl⟩
    have := e2 0 (Nat.zero_le _)
    simp at this
    simp [Builtin.copy_, h0, run_und hd, run_size hi, e1, this, goInt]
  case sl b u o len cap sz' =>
    rw [RV.when_ok, beq_iff] at h
    obtain ⟨rfl, h⟩ := h
    simp only [natK_eq, takeK_ok] at h
    obtain ⟨htake, h⟩ := h
    obtain ⟨r, hr, hf, h1, hn, h⟩ := writeX_ok h
    simp only [RV.ok.injEq] at h
    obtain ⟨rfl, rfl⟩ := h
    have htake' : (Nat.min n len) * i.size ≤ l.length := htake
    refine VSnd.put hr ?_
    rintro ρ w s ⟨⟨a', x', ha', hx, rfl⟩, hsrc⟩ _ hR
    obtain ⟨p, hp, hlen, hrm, rfl⟩ := conc_sl' ha'
    obtain ⟨ys, hys, hl, hrun⟩ := hsrc x' hx
    obtain ⟨e1, e2⟩ := hrun w rfl
    have hcap : o + (l.take ((Nat.min n len) * i.size)).length ≤ p.cap := by
      have hR' := hR
      obtain ⟨q, C, lo, hi', a1, a2, a3, a4, a5, a6, a7, a8⟩ := hR'
      obtain rfl := Option.some.inj (a1.symm.trans hp)
      have hoc : o ≤ q.cap := by rcases hn with hn | ⟨_, hn⟩ <;> omega
      have hlr : len * i.size ≤ q.cap - o := by
        cases cap with
        | some c =>
          have h : Nat.ble (c * i.size) (q.cap - o) = true := hrm
          rw [ble_iff] at h
          exact Nat.le_trans (Nat.mul_le_mul_right _ hlen) h
        | none => exact Nat.le_trans (Nat.mul_le_mul_right _ hlen) (Nat.div_mul_le_self _ _)
      rw [List.length_take]
      have h3 : Nat.min n len * i.size ≤ len * i.size := Nat.mul_le_mul_right _ (Nat.min_le_right _ _)
      have h4 := Nat.min_le_left (Nat.min n len * i.size) l.length
      omega
    obtain ⟨obj, hst, hlt, hok⟩ := store_cellsX hE hR hp hf h1 hn hcap (concs_take _ hys)
    exact ⟨_, u, p, obj, w.putObj p.blk obj, hp, hlt, run_copy' h0 hd hi e1 (e2 _ (Nat.min_le_left _ _)) hst, rfl, rfl, rfl, rfl, fun hw' => hok _ hw', rfl⟩

/-- the elements of a slice are made zero -/
theorem clear_snd (hE : Plain E) {ts : Array TypeId} {t ty : TypeId} (h0 : ts[0]? = some t) {x : K (T VV → VV)} {k : Cl} (hk : clearK t x = .ok k) {sl : T VV} {H H' : VH} {v : VV} (h : k.f sl H = .ok v H') :
    VSnd E H v H' (fun ρ _ s => ∃ x', conc E ρ (x.f sl) = some x' ∧ s = Builtin.clear_ ts ty #[x']) := by
  unfold clearK at hk
  rw [elemV_ok] at hk
  obtain ⟨el, hd, hk⟩ := hk
  rw [zeroV_ok] at hk
  obtain ⟨i, z, zv, hi, hz, hzx, hk⟩ := hk
  simp only [R.ok.injEq] at hk
  subst hk
  simp only at h
  unfold clearV at h
  have hu := fun w => run_und hd w
  cases hx : x.f sl <;> rw [hx] at h <;> try (simp only [reduceCtorEq] at h; done)
  case snil =>
    simp only [RV.ok.injEq] at h
    obtain ⟨rfl, rfl⟩ := h
    refine VSnd.pure ?_
    rintro ρ w s ⟨x', hx', rfl⟩ _
    simp only [conc, Option.some.injEq] at hx'
    subst hx'
    exact ⟨.tuple #[], by simp [Builtin.clear_, h0, hu], rfl⟩
  case sl b u o len cap sz =>
    simp only at h
    cases hb : Nat.beq len 0 with
    | true =>
      rw [hb] at h
      simp only [RV.ok.injEq] at h
      obtain ⟨rfl, rfl⟩ := h
      rw [beq_iff] at hb
      subst hb
      refine VSnd.pure ?_
      rintro ρ w s ⟨x', hx', rfl⟩ _
      obtain ⟨p, hp, hlen, rfl⟩ := conc_sl hx'
      exact ⟨.tuple #[], by simp [Builtin.clear_, h0, hu], rfl⟩
    | false =>
      rw [hb] at h
      simp only [writeCells_ok, RV.ok.injEq] at h
      obtain ⟨r, hr, hf, h1, hn, rfl, rfl⟩ := h
      have hpos : len ≠ 0 := fun e => by subst e; simp at hb
      refine VSnd.put hr ?_
      rintro ρ w s ⟨x', hx', rfl⟩ _ hR
      obtain ⟨p, hp, hlen, rfl⟩ := conc_sl hx'
      have hzc := conc_cells hE (abst_conc E (ρ := ρ) 20 z zv hzx)
      obtain ⟨obj, hst, hlt, hok⟩ := store_cells hE hR hp hf h1 hn (repl_conc hzc len)
      have hzr : (Builtin.zeroCells z.cells len).toList = repl z.cells.toList len := by
        unfold Builtin.zeroCells
        by_cases hz0 : z.cells.size = 0
        · have h1 : z.cells.toList = [] := by simpa using hz0
          rw [repl_eq, h1]
          simp [hz0]
        · rw [range_map_mod z.cells len (.inr hz0)]
      refine ⟨.tuple #[], u, p, obj, w.putObj p.blk obj, hp, hlt, ?_, rfl, rfl, rfl, rfl, fun hw' => hok _ hw', rfl⟩
      obtain ⟨m, rfl⟩ := Nat.exists_eq_succ_of_ne_zero hpos
      simp [Builtin.clear_, h0, hu, run_zero hi hz, hzr, hst]

end
end Go.Ev
