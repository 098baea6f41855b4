/- A region that draws its order: whatever the order, the same. -/
import Derived.Test.YtafajhplaldeaaaGreatEvC8
set_option linter.unusedVariables false
set_option linter.unusedSimpArgs false
namespace Go.Ev
open Go
attribute [local irreducible] PP

section
variable {E : Nat → Value} {ops : Array Oper} {n N : Nat} {hs : Nat → Hs} {es : Nat → Es} {op : Nat → Oper}

theorem Facts.nx (F : Facts E ops n N hs es op) {i j : Nat} (h1 : i ≤ j) (h2 : j ≤ N) : (hs i).nx ≤ (hs j).nx := by
  induction j with
  | zero =>
    have : i = 0 := by omega
    subst this; exact Nat.le_refl _
  | succ j ih =>
    rcases Nat.lt_or_ge i (j + 1) with h | h
    · exact Nat.le_trans (ih (by omega) (by omega)) (F.mono j (by omega)).nx
    · have : i = j + 1 := by omega
      subst this; exact Nat.le_refl _

theorem Facts.dom (F : Facts E ops n N hs es op) {i : Nat} (h : i ≤ N) : ∀ b o, (hs i).m.get b = some o → b < (hs i).nx := by
  cases i with
  | zero => exact F.dom0
  | succ i => exact (F.mono i (by omega)).ok.dom

theorem Facts.wt (F : Facts E ops n N hs es op) {i b : Nat} (hi : i < N) (h : Writes hs es i b) : Touches hs es i b := by
  rcases h with ⟨h1, h2⟩ | h
  · have : InF (Ka hs es i).tr b := (F.mono i hi).ok.wf b (.inr h1)
    rcases this with h3 | h3
    · exact absurd h2 (Nat.not_lt.2 h3)
    · exact .inl ⟨h3, h2⟩
  · exact .inr h

theorem Facts.none (F : Facts E ops n N hs es op) {i b : Nat} (hi : i ≤ N) (h : (hs i).nx ≤ b) : (hs i).m.get b = none := by
  cases e : (hs i).m.get b with
  | none => rfl
  | some o => have := F.dom hi b o e; omega

theorem Facts.fr (F : Facts E ops n N hs es op) {i b : Nat} (hi : i < N) (h : ¬ Writes hs es i b) : (hs (i + 1)).m.get b = (hs i).m.get b := by
  rcases Nat.lt_or_ge b (hs i).nx with h1 | h1
  · refine (F.mono i hi).fr b h1 fun hw => h ?_
    rcases hw with hw | hw
    · exact absurd h1 (Nat.not_lt.2 hw)
    · exact .inl ⟨hw, h1⟩
  · have h2 : (hs (i + 1)).nx ≤ b := by
      rcases Nat.lt_or_ge b (hs (i + 1)).nx with h2 | h2
      · exact absurd (.inr ⟨h1, h2⟩) h
      · exact h2
    rw [F.none (by omega) h2, F.none (by omega) h1]

theorem Facts.fr_many (F : Facts E ops n N hs es op) {i j b : Nat} (h1 : i ≤ j) (h2 : j ≤ N) (h : ∀ k, i ≤ k → k < j → ¬ Writes hs es k b) : (hs j).m.get b = (hs i).m.get b := by
  induction j with
  | zero =>
    have : i = 0 := by omega
    subst this; rfl
  | succ j ih =>
    rcases Nat.lt_or_ge i (j + 1) with h3 | h3
    · rw [F.fr (by omega) (h j (by omega) (by omega))]
      exact ih (by omega) (by omega) fun k a b => h k a (by omega)
    · have : i = j + 1 := by omega
      subst this; rfl

theorem getOr_putT (d : Option Tmp) (v : VV) (t : T VV) (s : Nat) : getOr (putT d v t) s = if d = some s then v else getOr t s := by
  cases d with
  | none => simp [putT]
  | some d =>
    show getOr (t.set d v) s = _
    rw [getOr_set]
    simp

theorem Facts.sl_many (F : Facts E ops n N hs es op) {i j s : Nat} (h1 : i ≤ j) (h2 : j ≤ N) (h : ∀ k, i ≤ k → k < j → (op k).dst ≠ some s) : getOr (hs j).t s = getOr (hs i).t s := by
  induction j with
  | zero =>
    have : i = 0 := by omega
    subst this; rfl
  | succ j ih =>
    rcases Nat.lt_or_ge i (j + 1) with h3 | h3
    · rw [F.t j (by omega), getOr_putT, if_neg (h j (by omega) (by omega))]
      exact ih (by omega) (by omega) fun k a b => h k a (by omega)
    · have : i = j + 1 := by omega
      subst this; rfl

theorem TrLe.merge (t : Trk) (fp wr : Nat) : TrLe t (mergeTr t fp wr) := by
  cases t with
  | off => trivial
  | on bs f w => exact ⟨rfl, fun b h => by rw [testBit_lor, h]; rfl, fun b h => by rw [testBit_lor, h]; rfl⟩

theorem Facts.trle (F : Facts E ops n N hs es op) {i j : Nat} (h1 : i ≤ j) (h2 : j ≤ N) : TrLe (hs i).tr (hs j).tr := by
  induction j with
  | zero =>
    have : i = 0 := by omega
    subst this; exact TrLe.refl _
  | succ j ih =>
    rcases Nat.lt_or_ge i (j + 1) with h | h
    · rw [F.tr j (by omega)]
      exact (ih (by omega) (by omega)).trans (TrLe.merge _ _ _)
    · have : i = j + 1 := by omega
      subst this; exact TrLe.refl _

theorem Facts.tr_fp (F : Facts E ops n N hs es op) {i b : Nat} (hi : i < N) (h : (es i).fp.testBit b = true) : InF (hs N).tr b := by
  refine (F.trle (i := i + 1) (by omega) (Nat.le_refl N)).inF ?_
  rw [F.tr i hi]
  cases (hs i).tr with
  | off => trivial
  | on bs f w => exact .inr (by rw [testBit_lor, h]; simp)
theorem Facts.tr_wr (F : Facts E ops n N hs es op) {i b : Nat} (hi : i < N) (h : (es i).wr.testBit b = true) : InW (hs N).tr b := by
  refine (F.trle (i := i + 1) (by omega) (Nat.le_refl N)).inW ?_
  rw [F.tr i hi]
  cases (hs i).tr with
  | off => trivial
  | on bs f w => exact .inr (by rw [testBit_lor, h]; simp)

/-- the small world's region, as a whole -/
theorem Facts.whole (F : Facts E ops n N hs es op) (hv : VOk ⟨(hs 0).m, (hs 0).nx, (hs 0).tr⟩) : Mono ⟨(hs 0).m, (hs 0).nx, (hs 0).tr⟩ ⟨(hs N).m, (hs N).nx, (hs N).tr⟩ := by
  have hbs : ∀ i, i ≤ N → ∀ b f w, (hs i).tr = .on b f w → b ≤ (hs 0).nx := by
    intro i hi b f w e
    have := F.trle (Nat.zero_le i) hi
    rw [e] at this
    cases h0 : (hs 0).tr with
    | off => rw [h0] at this; exact this.elim
    | on b0 f0 w0 =>
      rw [h0] at this
      rw [← this.1]
      exact hv.bs b0 f0 w0 h0
  have hwf : ∀ i, i ≤ N → ∀ b, InW (hs i).tr b → InF (hs i).tr b := by
    intro i
    induction i with
    | zero => exact fun _ => hv.wf
    | succ i ih =>
      intro hi b hw
      have hle := F.trle (i := i) (j := i + 1) (by omega) hi
      have htr := F.tr i (by omega)
      cases h0 : (hs i).tr with
      | off =>
        rw [h0] at htr
        rw [htr]; trivial
      | on bs f w =>
        rw [h0] at htr
        rw [htr] at hw ⊢
        rcases hw with hw | hw
        · exact .inl hw
        · rw [testBit_lor, Bool.or_eq_true] at hw
          rcases hw with hw | hw
          · have := ih (by omega) b (by rw [h0]; exact .inr hw)
            rw [h0] at this
            rcases this with h1 | h1
            · exact .inl h1
            · exact .inr (by rw [testBit_lor, h1]; rfl)
          · have : InF (Ka hs es i).tr b := (F.mono i (by omega)).ok.wf b (.inr hw)
            rcases this with h1 | h1
            · have h2 := hbs i (by omega) bs f w h0
              have h3 := F.nx (Nat.zero_le i) (show i ≤ N by omega)
              exact .inl (by omega)
            · exact .inr (by rw [testBit_lor, h1]; simp)
  refine ⟨F.nx (Nat.zero_le N) (Nat.le_refl N), F.trle (Nat.zero_le N) (Nat.le_refl N), fun b hb hw => ?_, F.dom (Nat.le_refl N), hwf N (Nat.le_refl N), fun b f w e => ?_⟩
  · refine F.fr_many (Nat.zero_le N) (Nat.le_refl N) fun k _ hk hwk => ?_
    rcases hwk with ⟨h1, _⟩ | ⟨h1, _⟩
    · exact hw (F.tr_wr hk h1)
    · have := F.nx (Nat.zero_le k) (show k ≤ N by omega)
      have hb' : b < (hs 0).nx := hb
      omega
  · have h1 := hbs N (Nat.le_refl N) b f w e
    have h2 := F.nx (Nat.zero_le N) (Nat.le_refl N)
    show b ≤ (hs N).nx
    omega

/-- what holds when the operations of D are done -/
structure Inv (E : Nat → Value) (n N : Nat) (hs : Nat → Hs) (es : Nat → Es) (op : Nat → Oper) (ρ0 : Rho) (w0 : World) (a0 : Act) (D : Nat → Prop) (ρ : Rho) (w : World) (a : Act) : Prop where
  size : a.tmps.size = n
  defers : a.defers = a0.defers
  le : ρ0.le ρ
  new : ∀ b v p, ρ b v = some p → ρ0 b v = some p ∨ ((∃ i, i < N ∧ D i ∧ Writes hs es i b) ∧ (w0.heap.size ≤ p.blk ∨ ∃ v0 p0, ρ0 b v0 = some p0 ∧ p0.blk = p.blk))
  inj : Inj ρ
  lt : ∀ b v p, ρ b v = some p → p.blk < w.heap.size
  fr : ∀ k, k < w0.heap.size → (∀ b v p, ρ0 b v = some p → (∃ i, i < N ∧ D i ∧ Writes hs es i b) → p.blk ≠ k) → w.heap[k]? = w0.heap[k]?
  sz : w0.heap.size ≤ w.heap.size
  os : w.os = w0.os
  tape : w.tape = w0.tape
  out : w.output = w0.output
  ag : ∀ b τ, τ ≤ N → (∀ i, i < N → Writes hs es i b → (D i ↔ i < τ)) → (b < (hs 0).nx → InF (hs N).tr b) → Agree E (hs τ).m ρ w b
  sl : ∀ s τ, τ ≤ N → (∀ i, i < N → (op i).dst = some s → (D i ↔ i < τ)) → On E ρ (hs τ).t a s
  unborn : ∀ i, i < N → ¬ D i → ∀ b v, (hs i).nx ≤ b → b < (hs (i + 1)).nx → ρ b v = none

theorem Inv.start (F : Facts E ops n N hs es op) {ρ : Rho} {w : World} {a : Act} (hp : Pre E ⟨(hs 0).m, (hs 0).nx, (hs 0).tr⟩ ⟨(hs N).m, (hs N).nx, (hs N).tr⟩ ρ w) (ha : ActOk E n ρ (hs 0).t a) {D : Nat → Prop} (hD : ∀ i, ¬ D i) :
    Inv E n N hs es op ρ w a D ρ { w with drawn := w.drawn + 1 } a := by
  refine ⟨ha.size, rfl, Rho.le_refl ρ, fun b v p h => .inl h, hp.inj, hp.lt, fun _ _ _ => rfl, Nat.le_refl _, rfl, rfl, rfl, fun b τ hτ hw hf o ho => ?_, fun s τ hτ hw => ?_, fun i hi _ b v h1 h2 => ?_⟩
  · have hno : ∀ k, 0 ≤ k → k < τ → ¬ Writes hs es k b := fun k _ hk hwk => hD k ((hw k (by omega) hwk).2 hk)
    rw [F.fr_many (Nat.zero_le τ) hτ hno] at ho
    have hb := F.dom0 b o ho
    exact ObjOk.frame E (hp.ag b hb (hf hb) o ho) (Rho.le_refl ρ) (fun _ _ h => h) (fun _ _ _ => rfl)
  · have hno : ∀ k, 0 ≤ k → k < τ → (op k).dst ≠ some s := fun k _ hk hwk => hD k ((hw k (by omega) hwk).2 hk)
    unfold On
    rw [F.sl_many (Nat.zero_le τ) hτ hno]
    exact ha.on s
  · have h3 := F.nx (Nat.zero_le i) (show i ≤ N by omega)
    have h4 := F.nx (show i + 1 ≤ N by omega) (Nat.le_refl N)
    exact hp.nw b v (show (hs 0).nx ≤ b by omega) (show b < (hs N).nx by omega)

theorem Inv.step (F : Facts E ops n N hs es op) {ρ0 : Rho} {w0 : World} {a0 : Act} (hg : Glob ρ0) {D : Nat → Prop} {ρ : Rho} {w : World} {a : Act} (I : Inv E n N hs es op ρ0 w0 a0 D ρ w a) {j : Nat} (hj : j < N) (hDj : ¬ D j)
    (hcl : ∀ k, k < N → D k → ∀ x, Nat.testBit (es k).bef x = true → D x) (hready : ∀ x, Nat.testBit (es j).bef x = true → D x) {ro : Option Nat} {next : Act → World → Prop} {Q : Exit → Act → World → Prop}
    (hn : ∀ ρ' w' a', Inv E n N hs es op ρ0 w0 a0 (fun i => D i ∨ i = j) ρ' w' a' → next a' w') : OpIn ro ops (op j) a w next Q := by
  -- who writes a number that j touches
  have hwr : ∀ b, Touches hs es j b → ∀ i, i < N → Writes hs es i b → i ≠ j → (D i ↔ i < j) := by
    intro b hb i hi hw hne
    rcases Nat.lt_or_ge i j with h | h
    · exact ⟨fun _ => h, fun _ => hready i (F.conf i j h hj b (.inr ⟨hw, hb⟩))⟩
    · have hlt : j < i := by omega
      have hbit := F.conf j i hlt hi b (.inl ⟨hb, hw⟩)
      exact ⟨fun hd => absurd (hcl i hi hd j hbit) hDj, fun h' => by omega⟩
  have htw : ∀ b, Writes hs es j b → ∀ i, i < N → Touches hs es i b → i ≠ j → D i → i < j := by
    intro b hb i hi ht hne hd
    rcases Nat.lt_or_ge i j with h | h
    · exact h
    · have hlt : j < i := by omega
      exact absurd (hcl i hi hd j (F.conf j i hlt hi b (.inr ⟨hb, ht⟩))) hDj
  have hap : ∀ i, i < N → i ≠ j → (i < j → D i ∨ (op i).apart ops (op j) = true) ∧ (j < i → ¬ D i ∨ (op j).apart ops (op i) = true) := by
    intro i hi hne
    constructor
    · intro h
      rcases F.apart i j h hj with h1 | h1
      · exact .inl (hready i h1)
      · exact .inr h1
    · intro h
      rcases F.apart j i h hi with h1 | h1
      · exact .inl fun hd => hDj (hcl i hi hd j h1)
      · exact .inr h1
  have hpre : Pre E (Kb hs j) (Ka hs es j) ρ w := by
    refine ⟨fun b hb hf => ?_, fun b v h1 h2 => I.unborn j hj hDj b v h1 h2, I.inj, I.lt, hg.mono I.le⟩
    have hfp : (es j).fp.testBit b = true := by
      rcases hf with hf | hf
      · exact absurd hb (Nat.not_lt.2 hf)
      · exact hf
    refine I.ag b j (by omega) (fun i hi hw => ?_) (fun _ => F.tr_fp hj hfp)
    by_cases e : i = j
    · subst e; exact ⟨fun h => absurd h hDj, fun h => by omega⟩
    · exact hwr b (.inl ⟨hfp, hb⟩) i hi hw e
  have hon : ∀ s ∈ (op j).looksAt ops, On E ρ (hs j).t a s := by
    intro s hs'
    refine I.sl s j (by omega) fun i hi hd => ?_
    by_cases e : i = j
    · subst e; exact ⟨fun h => absurd h hDj, fun h => by omega⟩
    · rcases Nat.lt_or_ge i j with h | h
      · rcases (hap i hi e).1 h with h1 | h1
        · exact ⟨fun _ => h, fun _ => h1⟩
        · exact absurd hs' ((Oper.apart_spec h1).1 s hd)
      · rcases (hap i hi e).2 (by omega) with h1 | h1
        · exact ⟨fun h2 => absurd h2 h1, fun h2 => by omega⟩
        · exact absurd hs' ((Oper.apart_spec h1).2.2 s hd)
  refine F.snd j hj ρ w a hpre hon ro next Q fun v' ρ' w' hv hpost => hn ρ' w' _ ?_
  have hWj : ∀ b, (InW (Ka hs es j).tr b ∨ (Kb hs j).nx ≤ b) → b < (Ka hs es j).nx → Writes hs es j b := by
    intro b h1 h2
    rcases Nat.lt_or_ge b (hs j).nx with h3 | h3
    · rcases h1 with (h1 | h1) | h1
      · exact absurd h3 (Nat.not_lt.2 h1)
      · exact .inl ⟨h1, h3⟩
      · exact absurd h3 (Nat.not_lt.2 h1)
    · exact .inr ⟨h3, h2⟩
  have hWj' : ∀ b, Writes hs es j b → (InW (Ka hs es j).tr b ∨ (Kb hs j).nx ≤ b) ∧ b < (Ka hs es j).nx := by
    intro b h
    rcases h with ⟨h1, h2⟩ | ⟨h1, h2⟩
    · exact ⟨.inl (.inr h1), Nat.lt_of_lt_of_le h2 (F.mono j hj).nx⟩
    · exact ⟨.inr h1, h2⟩
  refine ⟨by rw [put_size]; exact I.size, by rw [put_defers]; exact I.defers, Rho.le_trans I.le hpost.le, fun b v p hp => ?_, hpost.inj, hpost.lt, fun k hk hno => ?_, Nat.le_trans I.sz hpost.sz, hpost.os.trans I.os, hpost.tape.trans I.tape, hpost.out.trans I.out, fun b τ hτ hw hf => ?_, fun s τ hτ hw => ?_, fun i hi hnd b v h1 h2 => ?_⟩
  · rcases hpost.new b v p hp with h | ⟨h1, h2, h3⟩
    · rcases I.new b v p h with h | ⟨⟨i, hi, hd, hwi⟩, h⟩
      · exact .inl h
      · exact .inr ⟨⟨i, hi, .inl hd, hwi⟩, h⟩
    · refine .inr ⟨⟨j, hj, .inr rfl, hWj b h1 h2⟩, ?_⟩
      rcases h3 with h3 | ⟨v0, p0, h3, h4⟩
      · exact .inl (Nat.le_trans I.sz h3)
      · rcases I.new b v0 p0 h3 with h | ⟨_, h | ⟨v1, p1, h, h'⟩⟩
        · exact .inr ⟨v0, p0, h, h4⟩
        · exact .inl (by omega)
        · exact .inr ⟨v1, p1, h, h'.trans h4⟩
  · rw [hpost.fr k (Nat.lt_of_lt_of_le hk I.sz) ?_]
    · exact I.fr k hk fun b v p hp ⟨i, hi, hd, hwi⟩ => hno b v p hp ⟨i, hi, .inl hd, hwi⟩
    · intro b v p hp hin hb he
      have hwj := hWj b (.inl hin) (Nat.lt_of_lt_of_le hb (F.mono j hj).nx)
      rcases I.new b v p hp with h | ⟨_, h | ⟨v0, p0, h, h'⟩⟩
      · exact hno b v p h ⟨j, hj, .inr rfl, hwj⟩ he
      · omega
      · exact hno b v0 p0 h ⟨j, hj, .inr rfl, hwj⟩ (h'.trans he)
  · -- what the numbers hold
    by_cases hwj : Writes hs es j b
    · have hjt : j < τ := (hw j hj hwj).1 (.inr rfl)
      have hno : ∀ k, j + 1 ≤ k → k < τ → ¬ Writes hs es k b := by
        intro k h1 h2 hwk
        have hk : k < N := by omega
        have hd : D k := by
          rcases (hw k hk hwk).2 h2 with h | h
          · exact h
          · omega
        have := htw b hwj k hk (F.wt hk hwk) (by omega) hd
        omega
      intro o ho
      rw [F.fr_many (show j + 1 ≤ τ by omega) hτ hno] at ho
      obtain ⟨h1, h2⟩ := hWj' b hwj
      exact hpost.ag b h2 h1 o ho
    · have hag := I.ag b τ hτ (fun i hi hwi => by
        have hne : i ≠ j := fun e => hwj (by rw [← e]; exact hwi)
        have := hw i hi hwi
        exact ⟨fun h => this.1 (.inl h), fun h => (this.2 h).resolve_right hne⟩) hf
      intro o ho
      exact hpost.keep E (F.mono j hj).nx I.inj I.lt (fun h => hwj (hWj b h.1 h.2)) (hag o ho)
  · -- the slots
    by_cases hdj : (op j).dst = some s
    · have hjt : j < τ := (hw j hj hdj).1 (.inr rfl)
      have hno : ∀ k, j + 1 ≤ k → k < τ → (op k).dst ≠ some s := by
        intro k h1 h2 hdk
        have hk : k < N := by omega
        have hd : D k := by
          rcases (hw k hk hdk).2 h2 with h | h
          · exact h
          · omega
        rcases (hap k hk (by omega)).2 (by omega) with h3 | h3
        · exact h3 hd
        · exact (Oper.apart_spec h3).2.1 s hdj hdk
      unfold On
      rw [F.sl_many (show j + 1 ≤ τ by omega) hτ hno, F.t j hj, getOr_putT, if_pos hdj, hv]
      have hsn : s < a.tmps.size := by rw [I.size]; exact F.dst j hj s hdj
      rw [hdj, getD_put a s s v' hsn, if_pos rfl]
    · have hon := I.sl s τ hτ fun i hi hdi => by
        have hne : i ≠ j := fun e => hdj (by rw [← e]; exact hdi)
        have := hw i hi hdi
        exact ⟨fun h => this.1 (.inl h), fun h => (this.2 h).resolve_right hne⟩
      have hon := hon.mono E hpost.le
      unfold On at hon ⊢
      rw [hon]
      cases hd : (op j).dst with
      | none => rfl
      | some d =>
        have hne : d ≠ s := fun e => hdj (by rw [hd, e])
        have hdn : d < a.tmps.size := by rw [I.size]; exact F.dst j hj d hd
        rw [getD_put a d s v' hdn, if_neg hne]
  · have hnd' : ¬ D i ∧ i ≠ j := ⟨fun h => hnd (.inl h), fun h => hnd (.inr h)⟩
    cases e : ρ' b v with
    | none => rfl
    | some p =>
      rcases hpost.new b v p e with h | ⟨h3, h4, _⟩
      · rw [I.unborn i hi hnd'.1 b v h1 h2] at h; cases h
      · have hwj := hWj b h3 h4
        have hti : Touches hs es i b := .inr ⟨h1, h2⟩
        have hwi : Writes hs es i b := .inr ⟨h1, h2⟩
        rcases Nat.lt_or_ge i j with h | h
        · exact absurd (hready i (F.conf i j h hj b (.inl ⟨hti, hwj⟩))) hnd'.1
        · have h5 : (Ka hs es j).nx ≤ (hs i).nx := F.nx (show j + 1 ≤ i by omega) (by omega)
          omega

theorem Inv.finish (F : Facts E ops n N hs es op) {ρ0 : Rho} {w0 : World} {a0 : Act} {D : Nat → Prop} {ρ : Rho} {w : World} {a : Act} (I : Inv E n N hs es op ρ0 w0 a0 D ρ w a) (hD : ∀ i, i < N → D i)
    (hv : VOk ⟨(hs 0).m, (hs 0).nx, (hs 0).tr⟩) (hp : Pre E ⟨(hs 0).m, (hs 0).nx, (hs 0).tr⟩ ⟨(hs N).m, (hs N).nx, (hs N).tr⟩ ρ0 w0) :
    Post E ⟨(hs 0).m, (hs 0).nx, (hs 0).tr⟩ ⟨(hs N).m, (hs N).nx, (hs N).tr⟩ ρ0 w0 ρ w ∧ ActOk E n ρ (hs N).t a := by
  have m := F.whole hv
  have hwb : ∀ {i b : Nat}, i < N → Writes hs es i b → (InW (hs N).tr b ∨ (hs 0).nx ≤ b) ∧ b < (hs N).nx := by
    intro i b hi h
    have h0 := F.nx (Nat.zero_le i) (show i ≤ N by omega)
    have h1 := F.nx (show i + 1 ≤ N by omega) (Nat.le_refl N)
    have h2 := F.nx (show i ≤ i + 1 by omega) (show i + 1 ≤ N by omega)
    rcases h with ⟨h3, h4⟩ | ⟨h3, h4⟩
    · exact ⟨.inl (F.tr_wr hi h3), by omega⟩
    · exact ⟨.inr (by omega), by omega⟩
  refine ⟨⟨fun b hb hc => I.ag b N (Nat.le_refl N) (fun i hi _ => ⟨fun _ => hi, fun _ => hD i hi⟩) fun hb0 => ?_, I.le, fun b v p h => ?_, I.inj, I.lt, fun k hk hno => I.fr k hk fun b v p h ⟨i, hi, _, hwi⟩ => ?_, I.sz, I.os, I.tape, I.out⟩, I.size, fun s => I.sl s N (Nat.le_refl N) fun i hi _ => ⟨fun _ => hi, fun _ => hD i hi⟩⟩
  · rcases hc with hc | hc
    · exact m.ok.wf b hc
    · have hc' : (hs 0).nx ≤ b := hc
      omega
  · rcases I.new b v p h with h | ⟨⟨i, hi, _, hwi⟩, h⟩
    · exact .inl h
    · exact .inr ⟨(hwb hi hwi).1, (hwb hi hwi).2, h⟩
  · obtain ⟨h1, h2⟩ := hwb hi hwi
    rcases Nat.lt_or_ge b (hs 0).nx with h3 | h3
    · rcases h1 with h1 | h1
      · exact hno b v p h h1 h3
      · omega
    · have := hp.nw b v h3 h2
      rw [this] at h; cases h

end
end Go.Ev
