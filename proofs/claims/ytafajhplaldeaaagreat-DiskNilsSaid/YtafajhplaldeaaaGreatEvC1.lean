/- Code: what it means that a piece of it is right; sequences of operations. -/
import Derived.Test.YtafajhplaldeaaaGreatEvZc
import Derived.OrdersIn
set_option linter.unusedVariables false
set_option linter.unusedSimpArgs false
namespace Go.Ev
open Go
attribute [local irreducible] PP

section
variable (E : Nat → Value)

structure ActOk (n : Nat) (ρ : Rho) (t : T VV) (a : Act) : Prop where
  size : a.tmps.size = n
  on : ∀ i, On E ρ t a i

def DefOk (ρ : Rho) : VD → Deferred → Prop
  | .call f args, d => ∃ (cap args' : Array Value), d = { target := .fn (.func f) cap, args := args' } ∧ concs E ρ args = some (args' ++ cap).toList
  | .mark b, d => ∃ p, ρ b 0 = some p ∧ d = { target := .collected p.blk, args := #[] }

def DefsOk (ρ : Rho) : List VD → List Deferred → Prop
  | [], [] => True
  | x :: l, d :: m => DefOk E ρ x d ∧ DefsOk ρ l m
  | _, _ => False

def RoOk (ρ : Rho) : Option Nat → Option Nat → Prop
  | none, none => True
  | some l, some b => ∃ p, ρ l 0 = some p ∧ p.blk = b
  | _, _ => False

def toExit : VEx → Exit
  | .normal => .normal
  | .exit id => .exit id
  | .ret => .ret
  | .goto l => .goto l

/-- a piece of code is right: from a state that agrees to a state that agrees, left in the same way -/
def CodeT (n : Nat) (c : Code) (rd : Option Nat) (ds : List VD) (t : T VV) (H : VH) (e : VEx) (ds' : List VD) (t' : T VV) (H' : VH) : Prop :=
  VOk H → Mono H H' ∧ ∀ ρ w (a : Act) ro, RoOk ρ rd ro → Pre E H H' ρ w → ActOk E n ρ t a → DefsOk E ρ ds a.defers →
    ∀ Q : Exit → Act → World → Prop, (∀ a' ρ' w', Post E H H' ρ w ρ' w' → ActOk E n ρ' t' a' → DefsOk E ρ' ds' a'.defers → Q (toExit e) a' w') → c.wpIn (FF ro) 0 PP Q a w

/-- a compiled piece of code is right -/
def CcOk (n : Nat) (c : Code) (k : Cc) (rec : Rec) : Prop := ∀ rd ds t H e ds' t' H', k.f rec rd ds t H = .ex e ds' t' H' → CodeT E n c rd ds t H e ds' t' H'

variable {E}

theorem DefOk.mono {ρ ρ' : Rho} (hl : ρ.le ρ') {x : VD} {d : Deferred} (h : DefOk E ρ x d) : DefOk E ρ' x d := by
  cases x with
  | call f args =>
    obtain ⟨cap, args', h1, h2⟩ := h
    exact ⟨cap, args', h1, concs_mono E hl _ _ h2⟩
  | mark b =>
    obtain ⟨p, h1, h2⟩ := h
    exact ⟨p, hl _ _ _ h1, h2⟩

theorem DefsOk.mono {ρ ρ' : Rho} (hl : ρ.le ρ') : ∀ {l : List VD} {m : List Deferred}, DefsOk E ρ l m → DefsOk E ρ' l m
  | [], [], _ => trivial
  | x :: l, d :: m, h => ⟨h.1.mono hl, DefsOk.mono hl h.2⟩
  | [], _ :: _, h => h.elim
  | _ :: _, [], h => h.elim

theorem RoOk.mono {ρ ρ' : Rho} (hl : ρ.le ρ') {rd ro : Option Nat} (h : RoOk ρ rd ro) : RoOk ρ' rd ro := by
  cases rd <;> cases ro <;> first | exact h | exact h.elim | (obtain ⟨p, h1, h2⟩ := h; exact ⟨p, hl _ _ _ h1, h2⟩)

theorem ActOk.mono {ρ ρ' : Rho} (hl : ρ.le ρ') {n : Nat} {t : T VV} {a : Act} (h : ActOk E n ρ t a) : ActOk E n ρ' t a := ⟨h.size, fun i => (h.on i).mono E hl⟩

theorem put_defers (a : Act) (d : Option Tmp) (v : Value) : (a.put d v).defers = a.defers := by cases d <;> rfl
theorem put_size (a : Act) (d : Option Tmp) (v : Value) : (a.put d v).tmps.size = a.tmps.size := by cases d <;> simp [Act.put]

/-- a value into a slot -/
noncomputable def putT (d : Option Tmp) (v : VV) (t : T VV) : T VV := match d with
  | none => t
  | some d => t.set d v

theorem putK_eq {n : Nat} {d : Option Tmp} {p : K (VV → T VV → (T VV → Res) → Res)} (h : putK n d = .ok p) : (∀ x, d = some x → x < n) ∧ ∀ v t c, p.f v t c = c (putT d v t) := by
  unfold putK at h
  cases d with
  | none =>
    simp only [R.ok.injEq] at h
    subst h
    exact ⟨fun _ h => (by cases h), fun _ _ _ => rfl⟩
  | some d =>
    simp only [R.when_ok, blt_iff, R.ok.injEq] at h
    obtain ⟨h1, rfl⟩ := h
    exact ⟨fun x hx => by cases hx; exact h1, fun v t c => setter_eq (key d) v t c⟩

theorem ActOk.put {ρ : Rho} {n : Nat} {t : T VV} {a : Act} {d : Option Tmp} {v : VV} {x : Value} (hd : ∀ y, d = some y → y < n) (h : ActOk E n ρ t a) (hv : conc E ρ v = some x) : ActOk E n ρ (putT d v t) (a.put d x) := by
  refine ⟨by rw [put_size]; exact h.size, fun i => ?_⟩
  cases d with
  | none => exact h.on i
  | some d => exact On.put E (by rw [h.size]; exact hd d rfl) hv (.inr (h.on i))

theorem wpOps_step {F : Fence} {n : Nat} {ops : Array Oper} {Q : Exit → Act → World → Prop} {i : Nat} {rest : List Nat} {o : Oper} {a : Act} {w : World} (ho : ops[i]? = some o)
    (h : if Region.wanted o (yielded ops a.tmps) then o.wpIn F n PP a w (wpOpsIn F n PP ops Q rest) Q else (∀ f, o.about PP w a.eval = some f → F.fn f) ∧ wpOpsIn F n PP ops Q rest (a.put o.dst undef) w) : wpOpsIn F n PP ops Q (i :: rest) a w := by
  simp only [wpOpsIn, ho]
  exact h

/-- what a sequence of operations does -/
def SeqT (E : Nat → Value) (n : Nat) (ops : Array Oper) (is : List Nat) (rd : Option Nat) (ds : List VD) (t : T VV) (H : VH) (e : VEx) (ds' : List VD) (t' : T VV) (H' : VH) : Prop :=
  e = .normal ∧ (VOk H → Mono H H' ∧ ∀ ρ w (a : Act) ro, RoOk ρ rd ro → Pre E H H' ρ w → ActOk E n ρ t a → DefsOk E ρ ds a.defers →
    ∀ Q : Exit → Act → World → Prop, (∀ a' ρ' w', Post E H H' ρ w ρ' w' → ActOk E n ρ' t' a' → DefsOk E ρ' ds' a'.defers → Q .normal a' w') → wpOpsIn (FF ro) 0 PP ops Q is a w)

theorem deferK_ok {c : Call} {k : K (T VV → R VD)} (h : deferK c = .ok k) : ∃ f kf ka, c.callee = .value f ∧ operK f = .ok kf ∧ opersK c.args.toList = .ok ka ∧
    ∀ t d, k.f t = .ok d → ∃ g first cap, kf.f t = .fn (.func g) first cap ∧ XX g = none ∧ d = .call g (first ++ (ka.f t ++ cap)) := by
  unfold deferK at h
  cases hc : c.callee with
  | builtin b => rw [hc] at h; cases h
  | invoke r m => rw [hc] at h; cases h
  | value f =>
    rw [hc] at h
    simp only [R.bind_ok] at h
    obtain ⟨ka, hka, kf, hkf, h⟩ := h
    simp only [R.ok.injEq] at h
    subst h
    refine ⟨f, kf, ka, rfl, hkf, hka, fun t d hd => ?_⟩
    simp only at hd
    cases hf : kf.f t <;> rw [hf] at hd <;> try (simp only [reduceCtorEq] at hd; done)
    rename_i fn first cap
    cases fn <;> try (simp only [reduceCtorEq] at hd; done)
    rename_i g
    simp only at hd
    cases hx : XX g with
    | some e => rw [hx] at hd; simp only [reduceCtorEq] at hd
    | none =>
      rw [hx] at hd
      simp only [R.ok.injEq, appN_eq] at hd
      exact ⟨g, first, cap, rfl, hx, hd.symm⟩

theorem seq_snd (hE : Seat E) {rec : Rec} (hr : CallsOk E rec) {n : Nat} {ops : Array Oper} : ∀ (l : List Oper) (i : Nat) (k : Cc), seqK n ops l = .ok k → ops.toList.drop i = l →
    ∀ rd ds t H e ds' t' H', k.f rec rd ds t H = .ex e ds' t' H' → SeqT E n ops (List.range' i l.length) rd ds t H e ds' t' H' := by
  intro l
  induction l with
  | nil =>
    intro i k hk hl rd ds t H e ds' t' H' h
    simp only [seqK, R.ok.injEq] at hk
    subst hk
    simp only [Res.ex.injEq] at h
    obtain ⟨rfl, rfl, rfl, rfl⟩ := h
    refine ⟨rfl, fun hv => ⟨Mono.refl hv, fun ρ w a ro hro hp ha hd Q hQ => ?_⟩⟩
    exact hQ a ρ w (Post.refl E hp hv) ha hd
  | cons o l ih =>
    intro i k hk hl rd ds t H e ds' t' H' h
    have hoi : ops[i]? = some o := by
      rw [← Array.getElem?_toList]
      have : (ops.toList.drop i)[0]? = some o := by rw [hl]; rfl
      simpa using this
    have hli : ops.toList.drop (i + 1) = l := by
      have : (ops.toList.drop i).drop 1 = l := by rw [hl]; rfl
      rw [List.drop_drop] at this; exact this
    have hdrop : List.range' i (o :: l).length = i :: List.range' (i + 1) l.length := List.range'_succ ..
    simp only [seqK, R.bind_ok] at hk
    obtain ⟨p, hp, rest, hrest, hk⟩ := hk
    obtain ⟨hpn, hpe⟩ := putK_eq hp
    have plain : ∀ {ko : Cr}, opK ops o = .ok ko → k = ⟨fun rec rd ds t H => @RV.rec (fun _ => Res) (fun v H => p.f v t fun t => rest.f rec rd ds t H) (fun w => .no w) (ko.f rec t H)⟩ → SeqT E n ops (List.range' i (o :: l).length) rd ds t H e ds' t' H' := by
      intro ko hko hk
      subst hk
      simp only at h
      cases hv : ko.f rec t H with
      | no s => rw [hv] at h; cases h
      | ok v H1 =>
        rw [hv] at h
        simp only [hpe] at h
        obtain ⟨he, hrest'⟩ := ih (i + 1) rest hrest hli rd ds (putT o.dst v t) H1 e ds' t' H' h
        refine ⟨he, fun hvk => ?_⟩
        obtain ⟨m1, f1⟩ := opK_snd hE hr hko hv hvk
        obtain ⟨m2, f2⟩ := hrest' m1.ok
        refine ⟨m1.trans m2, fun ρ w a ro hro hpre ha hd Q hQ => ?_⟩
        rw [hdrop]
        refine wpOps_step hoi ?_
        exact f1 ρ w a (hpre.fst E m2) (fun j _ => ha.on j) ro _ Q fun v' ρ1 w1 hc hpost => by
          refine f2 ρ1 w1 (a.put o.dst v') ro (hro.mono hpost.le) (hpre.snd E m1 m2 hpost) ((ha.mono hpost.le).put hpn hc) (by rw [put_defers]; exact hd.mono hpost.le) Q fun a' ρ' w' hp2 ha2 hd2 => ?_
          exact hQ a' ρ' w' (Post.trans E hpre m1 m2 hpost hp2) ha2 hd2
    split at hk
    · rename_i c ho
      split at hk
      · rename_i hg
        rw [R.bind_ok] at hk
        obtain ⟨kd, hkd, hk⟩ := hk
        simp only [R.ok.injEq] at hk
        subst hk
        simp only at h
        cases rd with
        | some l => simp only [reduceCtorEq] at h
        | none =>
          simp only at h
          cases hv : kd.f t with
          | no s => rw [hv] at h; cases h
          | ok d =>
            rw [hv] at h
            simp only [hpe] at h
            obtain ⟨f, kf, ka, hcal, hkf, hka, hall⟩ := deferK_ok hkd
            obtain ⟨g, first, cap, hfn, hxx, rfl⟩ := hall t d hv
            obtain ⟨he, hrest'⟩ := ih (i + 1) rest hrest hli none _ (putT o.dst undefV t) H e ds' t' H' h
            refine ⟨he, fun hvk => ?_⟩
            obtain ⟨m2, f2⟩ := hrest' hvk
            refine ⟨m2, fun ρ w a ro hro hpre ha hd Q hQ => ?_⟩
            have hro' : ro = none := by cases ro with | none => rfl | some b => exact hro.elim
            subst hro'
            rw [hdrop]
            refine wpOps_step hoi ?_
            rw [if_pos (by simp [Region.wanted, hg])]
            refine ⟨fun f _ => trivial, ?_⟩
            have hfc := operK_conc E hkf hpre.gl (t := t) (a := a) fun j _ => ha.on j
            rw [hfn] at hfc
            have hac := opersK_conc E hka hpre.gl (t := t) (a := a) fun j _ => ha.on j
            simp only [conc, fnOf, Option.bind_some, Option.bind_eq_some_iff, Option.map_eq_some_iff, Option.some.injEq] at hfc
            obtain ⟨first', hfirst, cap', hcap, hfe⟩ := hfc
            have hsem : (o.semAt none a.eval).run PP w = .ok (.defer { target := .fn (.func g) cap'.toArray, args := first'.toArray ++ c.args.map a.eval }) w := by
              show (execOp a.eval o).run PP w = _
              unfold execOp
              rw [ho]
              simp only [resolve, hcal, ← hfe, Deferred.ofValue, Sem.run_bind, Sem.run_pure, Result.andThen_ok]
            show o.uponIn (FF none) 0 PP a _ Q ((o.semAt none a.eval).run PP w)
            rw [hsem, Oper.uponIn_defer]
            refine f2 ρ w _ none hro hpre ?_ ?_ Q hQ
            · exact ActOk.put hpn (show ActOk E n ρ t { a with defers := _ } from ⟨ha.size, ha.on⟩) (by rfl)
            · rw [put_defers]
              refine ⟨⟨cap'.toArray, first'.toArray ++ c.args.map a.eval, rfl, ?_⟩, hd⟩
              rw [concs_append E hfirst (concs_append E hac hcap)]
              simp
      · simp only [reduceCtorEq] at hk
    · rw [R.bind_ok] at hk
      obtain ⟨ko, hko, hk⟩ := hk
      simp only [R.ok.injEq] at hk
      exact plain hko hk.symm

end
end Go.Ev
