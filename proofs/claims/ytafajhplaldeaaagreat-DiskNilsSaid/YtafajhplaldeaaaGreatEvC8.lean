/- A region that draws its order: what the small world's run says. -/
import Derived.Test.YtafajhplaldeaaaGreatEvC7
set_option linter.unusedVariables false
set_option linter.unusedSimpArgs false
namespace Go.Ev
open Go
attribute [local irreducible] PP

/-! ### bits -/
theorem bitN_eq (b : Nat) : bitN b = 2 ^ b := by unfold bitN; rw [show Nat.shiftLeft 1 b = 1 <<< b from rfl, Nat.shiftLeft_eq, Nat.one_mul]

theorem newBits_test {a b x : Nat} (h : a ≤ b) : (newBits a b).testBit x = true ↔ a ≤ x ∧ x < b := by
  unfold newBits
  rw [bitN_eq, bitN_eq]
  have e : Nat.sub (2 ^ b) (2 ^ a) = 2 ^ a * (2 ^ (b - a) - 1) := by
    have : 2 ^ b = 2 ^ a * 2 ^ (b - a) := by rw [← Nat.pow_add]; congr 1; omega
    show 2 ^ b - 2 ^ a = _
    rw [Nat.mul_sub, Nat.mul_one, ← this]
  rw [e, Nat.testBit_two_pow_mul]
  simp only [Nat.testBit_two_pow_sub_one, Bool.and_eq_true, decide_eq_true_eq]
  omega

theorem land_ne {a b x : Nat} (h1 : a.testBit x = true) (h2 : b.testBit x = true) : Nat.beq (Nat.land a b) 0 = false := by
  cases h : Nat.beq (Nat.land a b) 0 with
  | false => rfl
  | true =>
    have h0 := beq_iff.1 h
    have : (Nat.land a b).testBit x = true := by
      show (a &&& b).testBit x = true
      rw [Nat.testBit_and, h1, h2]; rfl
    rw [h0] at this
    simp at this

theorem clashes_of {fp wr : Nat} {s : Seen} {x : Nat} (h : (s.fp.testBit x = true ∧ wr.testBit x = true) ∨ (s.wr.testBit x = true ∧ fp.testBit x = true)) : clashes fp wr s = true := by
  obtain ⟨i, sf, sw⟩ := s
  show @Bool.rec (fun _ => Bool) true (@Bool.rec (fun _ => Bool) true false (Nat.beq (Nat.land sf wr) 0)) (Nat.beq (Nat.land sw fp) 0) = true
  rcases h with ⟨h1, h2⟩ | ⟨h1, h2⟩
  · rw [land_ne h1 h2]
    cases Nat.beq (Nat.land sw fp) 0 <;> rfl
  · rw [land_ne h1 h2]

theorem bmask_spec {done : List Nat} {j : Nat} {o : Oper} {x : Nat} (h : (beforeMask done j o).testBit x = true) : ∃ e ∈ o.after, Region.binds .any e = true ∧ (e.on = x ∨ (done.getD (j - 1 - e.on) 0).testBit x = true) := by
  unfold beforeMask at h
  have key : ∀ (l : List Edge) (s : Nat), (l.foldl (fun s e => match Region.binds .any e with
    | true => Nat.lor s (Nat.lor (bitN e.on) (done.getD (Nat.sub (Nat.sub j 1) e.on) 0))
    | false => s) s).testBit x = true → s.testBit x = true ∨ ∃ e ∈ l, Region.binds .any e = true ∧ (e.on = x ∨ (done.getD (j - 1 - e.on) 0).testBit x = true) := by
    intro l
    induction l with
    | nil => exact fun s h => .inl h
    | cons e l ih =>
      intro s h
      rw [List.foldl_cons] at h
      rcases ih _ h with h | ⟨e', h1, h2⟩
      · cases hb : Region.binds .any e with
        | false => rw [hb] at h; exact .inl h
        | true =>
          rw [hb] at h
          simp only [testBit_lor, Bool.or_eq_true] at h
          rcases h with h | h | h
          · exact .inl h
          · rw [testBit_bitN, decide_eq_true_eq] at h
            exact .inr ⟨e, by simp, hb, .inl h⟩
          · exact .inr ⟨e, by simp, hb, .inr h⟩
      · exact .inr ⟨e', by simp [h1], h2⟩
  rcases key _ _ h with h | ⟨e, h1, h2⟩
  · simp at h
  · exact ⟨e, Array.mem_toList_iff.1 h1, h2⟩

theorem apartOk_spec {ops : Array Oper} {bef : Nat} {o : Oper} : ∀ {l : List Oper} {i : Nat}, apartOk ops bef o i l = true → ∀ k p, l[k]? = some p → bef.testBit (i + k) = true ∨ p.apart ops o = true
  | [], i, _, k, p, hk => by simp at hk
  | q :: l, i, h, k, p, hk => by
    unfold apartOk at h
    cases k with
    | zero =>
      simp at hk
      subst hk
      split at h
      · rename_i hb; exact .inl hb
      · split at h
        · rename_i hp; exact .inr hp
        · cases h
    | succ k =>
      have h' : apartOk ops bef o (i + 1) l = true := by
        split at h
        · exact h
        · split at h
          · exact h
          · cases h
      have := apartOk_spec h' k p (by simpa using hk)
      rw [show i + (k + 1) = i + 1 + k by omega]; exact this

/-! ### the facts -/
def Touches (hs : Nat → Hs) (es : Nat → Es) (i b : Nat) : Prop := ((es i).fp.testBit b = true ∧ b < (hs i).nx) ∨ ((hs i).nx ≤ b ∧ b < (hs (i + 1)).nx)
def Writes (hs : Nat → Hs) (es : Nat → Es) (i b : Nat) : Prop := ((es i).wr.testBit b = true ∧ b < (hs i).nx) ∨ ((hs i).nx ≤ b ∧ b < (hs (i + 1)).nx)

/-- before and behind an operation -/
def Kb (hs : Nat → Hs) (i : Nat) : VH := ⟨(hs i).m, (hs i).nx, .on (hs i).nx 0 0⟩
def Ka (hs : Nat → Hs) (es : Nat → Es) (i : Nat) : VH := ⟨(hs (i + 1)).m, (hs (i + 1)).nx, .on (hs i).nx (es i).fp (es i).wr⟩

structure Facts (E : Nat → Value) (ops : Array Oper) (n N : Nat) (hs : Nat → Hs) (es : Nat → Es) (op : Nat → Oper) : Prop where
  dom0 : ∀ b o, (hs 0).m.get b = some o → b < (hs 0).nx
  at_ : ∀ i, i < N → ops[i]? = some (op i)
  mono : ∀ i, i < N → Mono (Kb hs i) (Ka hs es i)
  t : ∀ i, i < N → (hs (i + 1)).t = putT (op i).dst (es i).v (hs i).t
  dst : ∀ i, i < N → ∀ x, (op i).dst = some x → x < n
  conf : ∀ i' i, i' < i → i < N → ∀ b, (Touches hs es i' b ∧ Writes hs es i b) ∨ (Writes hs es i' b ∧ Touches hs es i b) → Nat.testBit (es i).bef i' = true
  apart : ∀ i' i, i' < i → i < N → Nat.testBit (es i).bef i' = true ∨ (op i').apart ops (op i) = true
  closed : ∀ i, i < N → ∀ D : Nat → Prop, (∀ e ∈ (op i).after, Region.binds .any e = true → D e.on) → (∀ k, k < i → D k → ∀ x, Nat.testBit (es k).bef x = true → D x) → ∀ x, Nat.testBit (es i).bef x = true → D x
  edges : ∀ i, i < N → ∀ e ∈ (op i).after, Region.binds .any e = true → e.on < i
  tr : ∀ i, i < N → (hs (i + 1)).tr = mergeTr (hs i).tr (es i).fp (es i).wr
  snd : ∀ i, i < N → ∀ ρ w (a : Act), Pre E (Kb hs i) (Ka hs es i) ρ w → (∀ s ∈ (op i).looksAt ops, On E ρ (hs i).t a s) → ∀ ro next Q,
    (∀ v' ρ' w', conc E ρ' (es i).v = some v' → Post E (Kb hs i) (Ka hs es i) ρ w ρ' w' → next (a.put (op i).dst v') w') → OpIn ro ops (op i) a w next Q

theorem vok_kb {hs : Nat → Hs} {i : Nat} (h : ∀ b o, (hs i).m.get b = some o → b < (hs i).nx) : VOk (Kb hs i) :=
  ⟨h, fun b hb => by
    rcases hb with hb | hb
    · exact .inl hb
    · simp at hb, fun b f w e => by simp only [Kb, Trk.on.injEq] at e; rw [← e.1]; exact Nat.le_refl _⟩

section
variable {E : Nat → Value}

theorem facts_of (hE : Seat E) {rec : Rec} (hr : CallsOk E rec) {n : Nat} {ops : Array Oper} {hs : Nat → Hs} {es : Nat → Es} {N : Nat} (hc : Chain rec n ops hs es 0 N []) (hd : ∀ b o, (hs 0).m.get b = some o → b < (hs 0).nx) (hdone : (hs 0).done = []) :
    ∃ op, Facts E ops n N hs es op := by
  classical
  have hch : ∀ i, ∃ o : Oper, i < N → ∃ k bs, StepOk rec n ops hs es i o k bs := fun i => by
    by_cases h : i < N
    · obtain ⟨o, k, bs, hst⟩ := hc.step i (Nat.zero_le i) h
      exact ⟨o, fun _ => ⟨k, bs, hst⟩⟩
    · exact ⟨{ dst := none, op := .move (.tmp 0), type := 0, pos := "", after := #[], guard := none }, fun h' => absurd h' h⟩
  obtain ⟨op, hst⟩ : ∃ op : Nat → Oper, ∀ i, i < N → ∃ k bs, StepOk rec n ops hs es i (op i) k bs := ⟨fun i => Classical.choose (hch i), fun i => Classical.choose_spec (hch i)⟩
  refine ⟨op, ?_⟩
  -- by induction: the state before each operation is well formed
  have hstep : ∀ i, i < N → VOk (Kb hs i) → Mono (Kb hs i) (Ka hs es i) ∧ ∀ ρ w (a : Act), Pre E (Kb hs i) (Ka hs es i) ρ w → (∀ s ∈ (op i).looksAt ops, On E ρ (hs i).t a s) → ∀ ro next Q,
      (∀ v' ρ' w', conc E ρ' (es i).v = some v' → Post E (Kb hs i) (Ka hs es i) ρ w ρ' w' → next (a.put (op i).dst v') w') → OpIn ro ops (op i) a w next Q := by
    intro i hi hv
    obtain ⟨k, bs, h⟩ := hst i hi
    obtain ⟨m, f⟩ := opK_snd hE hr h.ko h.run hv
    have hbs : bs = (hs i).nx := by
      have := m.tr
      exact this.1.symm
    subst hbs
    exact ⟨m, f⟩
  have hvok : ∀ i, i ≤ N → VOk (Kb hs i) := by
    intro i
    induction i with
    | zero => exact fun _ => vok_kb hd
    | succ i ih => exact fun hi => vok_kb (hstep i (by omega) (ih (by omega))).1.ok.dom
  have hnx : ∀ i j, i ≤ j → j ≤ N → (hs i).nx ≤ (hs j).nx := by
    intro i j h1 h2
    induction j with
    | zero =>
      have : i = 0 := by omega
      subst this; exact Nat.le_refl _
    | succ j ih =>
      rcases Nat.lt_or_ge i (j + 1) with h | h
      · exact Nat.le_trans (ih (by omega) (by omega)) (hstep j (by omega) (hvok j (by omega))).1.nx
      · have : i = j + 1 := by omega
        subst this; exact Nat.le_refl _
  have hdone' : ∀ i, i ≤ N → ∀ k, k < i → (hs i).done.getD (i - 1 - k) 0 = (es k).bef := by
    intro i
    induction i with
    | zero => intro _ k hk; omega
    | succ i ih =>
      intro hi k hk
      obtain ⟨_, _, h⟩ := hst i (by omega)
      rw [h.done]
      by_cases e : k = i
      · subst e
        rw [show k + 1 - 1 - k = 0 by omega]; rfl
      · rw [show i + 1 - 1 - k = (i - 1 - k) + 1 by omega]
        exact ih (by omega) k (by omega)
  refine ⟨hd, fun i hi => ?_, fun i hi => (hstep i hi (hvok i (by omega))).1, fun i hi => ?_, fun i hi => ?_, fun i' i h1 h2 b hb => ?_, fun i' i h1 h2 => ?_, fun i hi D he hcl x hx => ?_, fun i hi e hem heb => ?_, fun i hi => ?_, fun i hi => (hstep i hi (hvok i (by omega))).2⟩
  · obtain ⟨_, _, h⟩ := hst i hi; exact h.op
  · obtain ⟨_, _, h⟩ := hst i hi; exact h.t
  · obtain ⟨_, _, h⟩ := hst i hi; exact h.dst
  · refine hc.new i' i (Nat.zero_le _) h1 h2 (clashes_of (x := b) ?_)
    have hle : (hs (i' + 1)).nx ≤ (hs i).nx := hnx _ _ (by omega) (by omega)
    have hle' : (hs i').nx ≤ (hs (i' + 1)).nx := hnx _ _ (by omega) (by omega)
    have hT : Touches hs es i' b → (entry hs es i').fp.testBit b = true := fun h => by
      unfold entry
      simp only [testBit_lor, Bool.or_eq_true]
      rcases h with ⟨h, _⟩ | h
      · exact .inl h
      · exact .inr ((newBits_test hle').2 h)
    have hW : Writes hs es i' b → (entry hs es i').wr.testBit b = true := fun h => by
      unfold entry
      simp only [testBit_lor, Bool.or_eq_true]
      rcases h with ⟨h, _⟩ | h
      · exact .inl h
      · exact .inr ((newBits_test hle').2 h)
    have hbT : Touches hs es i' b → b < (hs (i' + 1)).nx := fun h => by rcases h with ⟨_, h⟩ | ⟨_, h⟩ <;> omega
    have hbW : Writes hs es i' b → b < (hs (i' + 1)).nx := fun h => by rcases h with ⟨_, h⟩ | ⟨_, h⟩ <;> omega
    rcases hb with ⟨h3, h4⟩ | ⟨h3, h4⟩
    · have := hbT h3
      rcases h4 with ⟨h4, _⟩ | ⟨h4, _⟩
      · exact .inl ⟨hT h3, h4⟩
      · omega
    · have := hbW h3
      rcases h4 with ⟨h4, _⟩ | ⟨h4, _⟩
      · exact .inr ⟨hW h3, h4⟩
      · omega
  · obtain ⟨_, _, h⟩ := hst i h2
    obtain ⟨_, _, h'⟩ := hst i' (by omega)
    have := apartOk_spec h.apart i' (op i') (by
      rw [List.getElem?_take, if_pos h1, Array.getElem?_toList]; exact h'.op)
    rw [Nat.zero_add] at this
    exact this
  · obtain ⟨_, _, h⟩ := hst i hi
    rw [h.bef] at hx
    obtain ⟨e, hem, heb, hex⟩ := bmask_spec hx
    have hlt : e.on < i := by
      have := h.edges
      unfold edgesOk at this
      rw [List.all_eq_true] at this
      have := this e (Array.mem_toList_iff.2 hem)
      rw [heb] at this
      exact blt_iff.1 this
    rcases hex with rfl | hex
    · exact he e hem heb
    · rw [hdone' i (by omega) e.on hlt] at hex
      exact hcl e.on hlt (he e hem heb) x hex
  · obtain ⟨_, _, h⟩ := hst i hi
    have := h.edges
    unfold edgesOk at this
    rw [List.all_eq_true] at this
    have := this e (Array.mem_toList_iff.2 hem)
    rw [heb] at this
    exact blt_iff.1 this
  · obtain ⟨_, _, h⟩ := hst i hi; exact h.tr

end
end Go.Ev
