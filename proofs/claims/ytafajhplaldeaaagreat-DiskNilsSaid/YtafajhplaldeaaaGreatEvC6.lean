/- The statement 'for .. := range f'. -/
import Derived.Test.YtafajhplaldeaaaGreatEvC5
set_option linter.unusedVariables false
set_option linter.unusedSimpArgs false
namespace Go.Ev
open Go
attribute [local irreducible] PP

section
variable {E : Nat → Value}

/-- a new block, without an operation -/
theorem new_post {H : VH} {o : VO} (hv : VOk H) : Mono H (newh H o) ∧ ∀ ρ w (p : Pl) (obj : Obj), Pre E H (newh H o) ρ w → p.blk = w.heap.size → ObjOk E (upd ρ H.nx 0 p) (w.alloc obj) H.nx o → Post E H (newh H o) ρ w (upd ρ H.nx 0 p) (w.alloc obj) := by
  have m := Mono.newh hv o
  exact ⟨m, fun ρ w p obj hp hb ho => Post.new' E p hp rfl rfl m.ok hb rfl ho rfl rfl rfl⟩

theorem pre_nonew {H H' : VH} {ρ : Rho} {w : World} (hp : Pre E H H' ρ w) (h : H.nx < H'.nx) (v : Nat) (p : Pl) : NoNew (upd ρ H.nx 0 p) H.nx 0 := fun v' hv => by
  unfold upd
  rw [if_neg (by omega)]
  exact hp.nw _ _ (Nat.le_refl _) h

/-- the body of the statement, its record laid: 'a0': with the mark -/
theorem rangeBody_snd (hE : Seat E) {rec : Rec} (hr : RecOk E rec) {n : Nat} {gf : FuncId} {first cap : List VV} {ps : Array Tmp} {assign body : Code} {rd : Option Nat} {ds : List VD} {t : T VV} {d : Nat} {H : VH} {e : VEx} {ds' : List VD} {t' : T VV} {H' : VH}
    (h : rangeBody n gf first cap ps.toList assign body rec rd ds t d H = .ex e ds' t' H') : (∃ fn c, PP.funcs[gf]? = some fn ∧ fn.body = some c) ∧ (VOk H → H.nx < H'.nx ∧ Mono H H' ∧ ∀ ρ w (a0 : Act) (fn : FuncId) (pd : Pl) (first' cap' : List Value) ro, RoOk ρ rd ro → Pre E H H' ρ w → ActOk E n ρ t a0 → DefsOk E ρ ds a0.defers →
      concs E ρ first = some first' → concs E ρ cap = some cap' → ρ d 0 = some pd →
      ∀ Q : Exit → Act → World → Prop, (∀ a' ρ' w', Post E H H' ρ w ρ' w' → ActOk E n ρ' t' a' → DefsOk E ρ' ds' a'.defers → Q (toExit e) a' w') →
        CallsIn Fence.wide 0 PP gf (first'.toArray ++ #[.func (.yield w.heap.size) #[] #[]] ++ cap'.toArray) (w.alloc (.loop { state := .ready, pending := none, fn, tmps := a0.tmps, params := ps, assign, body, defers := pd.blk })) (rangePost (FF ro) 0 PP w.heap.size Q a0)) := by
  unfold rangeBody at h
  rw [newR_eq] at h
  simp only [appN_eq] at h
  split at h
  · rename_i v1 H2 hcall
    split at h
    · rename_i st p u n' ps' sn bd d' ho
      obtain ⟨hbody, hc⟩ := hr.call _ _ _ _ _ hcall
      refine ⟨hbody, fun hv => ?_⟩
      obtain ⟨m0, f0⟩ := new_post (E := E) (o := .loop .ready none t n ps.toList assign body d) hv
      obtain ⟨m1, f1⟩ := hc m0.ok
      have m01 := m0.trans m1
      -- what is left behind the call
      have key : st ≠ .busy ∧ (Mono H2 H' ∧ ∀ ρ w (a : Act) ro q, RoOk ρ rd ro → Pre E H2 H' ρ w → ActOk E n ρ t a → DefsOk E ρ ds a.defers → ρ H.nx 0 = some q → ∀ Q : Exit → Act → World → Prop, (∀ a' ρ' w', Post E H2 H' ρ w ρ' w' → ActOk E n ρ' t' a' → DefsOk E ρ' ds' a'.defers → Q (toExit e) a' w') →
          ∃ jump w₄, (Instr.endLoop q.blk).run PP w = .ok jump w₄ ∧ (match jump with
            | none => Q .normal a w₄
            | some c => c.wpIn (FF ro) 0 PP Q a w₄)) := by
        have m1ok := m1.ok
        obtain ⟨m2, f2⟩ := loop_put (E := E) .exhausted p m1ok ho
        have hst : st ≠ .busy ∧ (match p with
            | none => Res.ex .normal ds t (puth H2 H.nx (.loop .exhausted p u n' ps' sn bd d'))
            | some c => rec (.code n c rd ds t (puth H2 H.nx (.loop .exhausted p u n' ps' sn bd d')))) = .ex e ds' t' H' := by
          cases st <;> simp only [putR_eq, reduceCtorEq] at h <;> exact ⟨by simp, h⟩
        obtain ⟨hst, h⟩ := hst
        refine ⟨hst, ?_⟩
        cases p with
        | none =>
          simp only [Res.ex.injEq] at h
          obtain ⟨rfl, rfl, rfl, rfl⟩ := h
          refine ⟨m2, fun ρ w a ro q hro hp ha hd hq Q hQ => ?_⟩
          obtain ⟨q', L, k1, k2, k3, k4, post2⟩ := f2 ρ w hp
          obtain rfl := Option.some.inj (k1.symm.trans hq)
          refine ⟨none, _, by rw [run_endLoop k2 (by rw [k3]; exact hst), k4], ?_⟩
          exact hQ a ρ _ post2 (ha.mono post2.le) (hd.mono post2.le)
        | some c =>
          obtain ⟨m3, f3⟩ := hr.code _ _ _ _ _ _ _ _ _ _ h m2.ok
          refine ⟨m2.trans m3, fun ρ w a ro q hro hp ha hd hq Q hQ => ?_⟩
          obtain ⟨q', L, k1, k2, k3, k4, post2⟩ := f2 ρ w (hp.fst E m3)
          obtain rfl := Option.some.inj (k1.symm.trans hq)
          refine ⟨some c, _, by rw [run_endLoop k2 (by rw [k3]; exact hst), k4], ?_⟩
          exact f3 ρ _ a ro (hro.mono post2.le) (hp.snd E m2 m3 post2) (ha.mono post2.le) (hd.mono post2.le) Q fun a' ρ' w' post3 ha3 hd3 => hQ a' ρ' w' (Post.trans E hp m2 m3 post2 post3) ha3 hd3
      obtain ⟨hst, m2, f2⟩ := key
      refine ⟨?_, m01.trans m2, fun ρ w a0 fn pd first' cap' ro hro hp ha hd hfirst hcap hpd Q hQ => ?_⟩
      · have h1 := m1.nx
        have h2 := m2.nx
        have h3 : (newh H (.loop .ready none t n ps.toList assign body d)).nx = H.nx + 1 := rfl
        omega
      have pre01 := hp.fst E m2
      have pre0 := pre01.fst E m1
      have hnx : ρ H.nx 0 = none := pre0.nw _ _ (Nat.le_refl _) (Nat.lt_succ_self _)
      have hle : ρ.le (upd ρ H.nx 0 ⟨w.heap.size, 0, 0⟩) := upd_le hnx
      have post0 := f0 ρ w ⟨w.heap.size, 0, 0⟩ (.loop { state := .ready, pending := none, fn, tmps := a0.tmps, params := ps, assign, body, defers := pd.blk }) pre0 rfl
        ⟨_, _, pd, upd_same _ _ _ _, pre_nonew (E := E) pre0 (Nat.lt_succ_self _) 0 _, World.alloc_heap_new w _, rfl, rfl, rfl, rfl, rfl, ha.size, fun i => conc_mono E hle _ _ (ha.on i), hle _ _ _ hpd, rfl⟩
      have hargs : concs E (upd ρ H.nx 0 ⟨w.heap.size, 0, 0⟩) (first ++ (.fn (.yield H.nx) [] [] :: cap)) = some (first'.toArray ++ #[Value.func (.yield w.heap.size) #[] #[]] ++ cap'.toArray).toList := by
        have h1 := concs_mono E hle _ _ hfirst
        have h2 := concs_mono E hle _ _ hcap
        have h3 : conc E (upd ρ H.nx 0 ⟨w.heap.size, 0, 0⟩) (.fn (.yield H.nx) [] []) = some (.func (.yield w.heap.size) #[] #[]) := by
          simp [conc, concs, fnOf, upd_same]
        rw [concs_append E h1 (concs_cons h3 h2)]
        simp
      refine f1 _ _ _ hargs (pre01.snd E m0 m1 post0) _ fun v' ρ2 w2 _ post1 => ?_
      have post01 := Post.trans E pre01 m0 m1 post0 post1
      exact f2 ρ2 w2 a0 ro ⟨w.heap.size, 0, 0⟩ (hro.mono post01.le) (hp.snd E m01 m2 post01) (ha.mono post01.le) (hd.mono post01.le) (post1.le _ _ _ (upd_same _ _ _ _)) Q fun a' ρ' w' post2 ha2 hd2 =>
        hQ a' ρ' w' (Post.trans E hp m01 m2 post01 post2) ha2 hd2
    · cases h
  · cases h
  · cases h

theorem run_enterLoop_inner {b : Nat} {L : Loop} {w : World} (h : w.heap[b]? = some (.loop L)) (fn : FuncId) (tmps : Array Value) (ps : Array Tmp) (assign body : Code) :
    (Instr.enterLoop fn tmps ps assign body (some b)).run PP w = .ok (w.heap.size, []) (w.alloc (.loop { state := .ready, pending := none, fn, tmps, params := ps, assign, body, defers := L.defers })) := by
  unfold Instr.enterLoop
  simp only [Sem.run_bind, run_getLoop h, run_newObj_alloc, Result.andThen_ok, Sem.run_pure]

theorem range_ok (hE : Seat E) {rec : Rec} (hr : RecOk E rec) : RangeOk E rec := by
  intro n g ps assign body kg hkg rd ds t H e ds' t' H' h
  unfold rangeK at h
  simp only at h
  split at h
  · rename_i gf first cap hfn
    split at h
    · cases h
    · -- what is called
      have hcall : ∀ (a : Act) (first' cap' : List Value) (hfc : a.eval g = .func (.func gf) first'.toArray cap'.toArray) (hbody : ∃ fn c, PP.funcs[gf]? = some fn ∧ fn.body = some c) (l : Nat) (w : World),
          (resolve a.eval (rangeCall g l) 0).run PP w = .ok { target := .fn (.func gf) cap'.toArray, args := first'.toArray ++ #[Value.func (.yield l) #[] #[]] } w ∧
          (invoke (.fn (.func gf) cap'.toArray) (first'.toArray ++ #[Value.func (.yield l) #[] #[]])).run PP w = .ok (.enter gf (first'.toArray ++ #[Value.func (.yield l) #[] #[]] ++ cap'.toArray)) w := by
        intro a first' cap' hfc ⟨fn, c, hf, hb⟩ l w
        constructor
        · have e : (#[Operand.const (Value.func (.yield l) #[] #[])] : Array Operand).map a.eval = #[Value.func (.yield l) #[] #[]] := by simp [Act.eval]
          simp only [resolve, rangeCall, hfc, Deferred.ofValue, Sem.run_pure, e]
        · exact run_enter hf (hE.named gf fn c hf hb) hb _ w
      have hfc : ∀ {ρ : Rho} {a : Act}, Glob ρ → ActOk E n ρ t a → ∃ first' cap', concs E ρ first = some first' ∧ concs E ρ cap = some cap' ∧ a.eval g = .func (.func gf) first'.toArray cap'.toArray := by
        intro ρ a hg ha
        have h1 := operK_conc E hkg hg (t := t) (a := a) fun i _ => ha.on i
        rw [hfn] at h1
        simp only [conc, fnOf, Option.bind_some, Option.bind_eq_some_iff, Option.map_eq_some_iff, Option.some.injEq] at h1
        obtain ⟨x, hx, y, hy, he⟩ := h1
        exact ⟨x, y, hx, hy, he.symm⟩
      split at h
      · -- an outermost loop
        rw [newR_eq] at h
        obtain ⟨hbody, hrb⟩ := rangeBody_snd hE hr h
        intro hv
        obtain ⟨m0, f0⟩ := new_post (E := E) (o := .defs) hv
        obtain ⟨hlt1, m1, f1⟩ := hrb m0.ok
        refine ⟨m0.trans m1, fun ρ w a ro hro hp ha hd Q hQ => ?_⟩
        have hro' : ro = none := by cases ro with | none => rfl | some b => exact hro.elim
        subst hro'
        have pre0 := hp.fst E m1
        have hle : ρ.le (upd ρ H.nx 0 ⟨w.heap.size, 0, 0⟩) := upd_le (pre0.nw _ _ (Nat.le_refl _) (Nat.lt_succ_self _))
        have post0 := f0 ρ w ⟨w.heap.size, 0, 0⟩ (.deferred (some [])) pre0 rfl ⟨_, upd_same _ _ _ _, pre_nonew (E := E) pre0 (Nat.lt_succ_self _) 0 _, World.alloc_heap_new w _⟩
        obtain ⟨first', cap', hfi, hca, heg⟩ := hfc hp.gl ha
        refine wpIn_rangeFunc fun fn _ => ?_
        obtain ⟨hres, hinv⟩ := hcall a first' cap' heg hbody (w.heap.size + 1) ((w.alloc (.deferred (some []))).alloc (.loop { state := .ready, pending := none, fn, tmps := a.tmps, params := ps, assign, body, defers := w.heap.size }))
        refine ⟨w.heap.size + 1, [{ target := .collected w.heap.size, args := #[] }], _, _, _, gf, _, _, run_enterLoop_outer fn a.tmps ps assign body, hres, fun _ _ => trivial, hinv, FF_depth none 0, ?_⟩
        have := f1 _ _ { a with defers := { target := .collected w.heap.size, args := #[] } :: a.defers } fn ⟨w.heap.size, 0, 0⟩ first' cap' none trivial (hp.snd E m0 m1 post0) (⟨ha.size, fun i => (ha.on i).mono E hle⟩) ⟨⟨_, upd_same _ _ _ _, rfl⟩, hd.mono hle⟩
          (concs_mono E hle _ _ hfi) (concs_mono E hle _ _ hca) (upd_same _ _ _ _) Q fun a' ρ' w' post1 ha1 hd1 => hQ a' ρ' w' (Post.trans E hp m0 m1 post0 post1) ha1 hd1
        have hsz : (w.alloc (.deferred (some []))).heap.size = w.heap.size + 1 := by simp
        rw [hsz] at this
        exact this
      · -- a loop within a round
        rename_i l
        split at h
        · rename_i _ st pe u n' ps' sn bd d ho
          split at h
          · rename_i htr
            obtain ⟨hbody, hrb⟩ := rangeBody_snd hE hr h
            intro hv
            obtain ⟨hlt1, m1, f1⟩ := hrb hv
            refine ⟨m1, fun ρ w a ro hro hp ha hd Q hQ => ?_⟩
            obtain ⟨b, rfl⟩ : ∃ b, ro = some b := by cases ro with | none => exact hro.elim | some b => exact ⟨b, rfl⟩
            obtain ⟨p, hpl, hpb⟩ := hro
            have hInF : InF H'.tr l := by
              refine m1.tr.inF ?_
              cases hx : H.tr with
              | off => trivial
              | on a b c => rw [hx] at htr; exact .inl (ble_iff.1 htr)
            obtain ⟨q, L, pd, e1, e2, e3, e4, e5, e6, e7, e8, e9, e10, e11, e12⟩ := hp.ag l (hv.dom l _ ho) hInF _ ho
            obtain rfl := Option.some.inj (e1.symm.trans hpl)
            obtain ⟨first', cap', hfi, hca, heg⟩ := hfc hp.gl ha
            refine wpIn_rangeFunc fun fn _ => ?_
            obtain ⟨hres, hinv⟩ := hcall a first' cap' heg hbody w.heap.size (w.alloc (.loop { state := .ready, pending := none, fn, tmps := a.tmps, params := ps, assign, body, defers := L.defers }))
            have hent : (Instr.enterLoop fn a.tmps ps assign body (FF (some b)).round).run PP w = .ok (w.heap.size, []) _ := run_enterLoop_inner (by rw [← hpb]; exact e3) fn a.tmps ps assign body
            refine ⟨w.heap.size, [], _, _, _, gf, _, _, hent, hres, fun _ _ => trivial, hinv, FF_depth (some b) 0, ?_⟩
            have := f1 ρ w a fn pd first' cap' (some b) ⟨q, e1, hpb⟩ hp ha hd hfi hca e11 Q hQ
            rw [← e12] at this
            exact this
          · cases h
        · cases h
  · cases h

end
end Go.Ev
