/- Range over a function: a round, the statement. -/
import Derived.Test.YtafajhplaldeaaaGreatEvC4
set_option linter.unusedVariables false
set_option linter.unusedSimpArgs false
namespace Go.Ev
open Go
attribute [local irreducible] PP

section
variable {E : Nat → Value}

/-- a number written as it was -/
theorem reput {H : VH} {b : Nat} {o : VO} (hv : VOk H) (ho : H.m.get b = some o) : Mono H (puth H b o) ∧ ∀ ρ w, Pre E H (puth H b o) ρ w → ObjOk E ρ w b o ∧ Post E H (puth H b o) ρ w ρ w := by
  have hb := hv.dom b _ ho
  have m := Mono.puth hv o hb
  refine ⟨m, fun ρ w hp => ?_⟩
  have hO := hp.ag b hb (m.ok.wf _ (tchW_in _ _)) _ ho
  exact ⟨hO, Post.gen E hp rfl m.ok (.inl ⟨hb, rfl, tchW_in _ _⟩) (Rho.le_refl ρ) (fun _ _ _ h => .inl h) (fun _ _ _ => rfl) (Nat.le_refl _) hO rfl rfl rfl⟩

/-- a loop's record, written -/
theorem loop_put {H : VH} {b : Nat} {st : LoopState} {pend : Option Code} {t : T VV} {n : Nat} {ps : List Tmp} {assign body : Code} {d : Nat} (st' : LoopState) (pend' : Option Code) (hv : VOk H) (ho : H.m.get b = some (.loop st pend t n ps assign body d)) :
    Mono H (puth H b (.loop st' pend' t n ps assign body d)) ∧ ∀ ρ w, Pre E H (puth H b (.loop st' pend' t n ps assign body d)) ρ w → ∃ p L, ρ b 0 = some p ∧ w.heap[p.blk]? = some (.loop L) ∧ L.state = st ∧ L.pending = pend ∧
      Post E H (puth H b (.loop st' pend' t n ps assign body d)) ρ w ρ (w.putObj p.blk (.loop { L with state := st', pending := pend' })) := by
  have hb := hv.dom b _ ho
  have m := Mono.puth hv (.loop st' pend' t n ps assign body d) hb
  refine ⟨m, fun ρ w hp => ?_⟩
  obtain ⟨p, L, pd, h1, h2, h3, h4, h5, h6, h7, h8, h9, h10, h11, h12⟩ := hp.ag b hb (m.ok.wf _ (tchW_in _ _)) _ ho
  have hlt : p.blk < w.heap.size := (Array.getElem?_eq_some_iff.1 h3).1
  refine ⟨p, L, h1, h3, h4, h5, Post.put E hp rfl rfl m.ok hb (tchW_in _ _) h1 rfl ?_ rfl rfl rfl⟩
  exact ⟨p, { L with state := st', pending := pend' }, pd, h1, h2, World.putObj_heap_same hlt, rfl, rfl, h6, h7, h8, h9, h10, h11, h12⟩

noncomputable def setPars : List Tmp → List VV → T VV → T VV
  | p :: ps, v :: vs, t => setPars ps vs (t.set p v)
  | _, _, t => t

theorem parsT_eq {k : T VV → Res} : ∀ (ps : List Tmp) (vs : List VV) (t : T VV), parsT k ps vs t = k (setPars ps vs t)
  | [], vs, t => rfl
  | p :: ps, [], t => rfl
  | p :: ps, v :: vs, t => by
    have h : parsT k (p :: ps) (v :: vs) t = T.setK t p v fun t => parsT k ps vs t := rfl
    rw [h, T.setK_eq, parsT_eq ps vs]
    rfl

theorem pars_on {ρ : Rho} {n : Nat} : ∀ {ps : List Tmp} {vs : List VV} {vs' : List Value} {t : T VV} {tmps : Array Value}, concs E ρ vs = some vs' → (∀ p ∈ ps, p < n) → tmps.size = n → (∀ i, conc E ρ (getOr t i) = some (tmps.getD i undef)) →
    ((ps.zip vs').foldl (fun (tmps : Array Value) (x : Tmp × Value) => tmps.setIfInBounds x.1 x.2) tmps).size = n ∧
    ∀ i, conc E ρ (getOr (setPars ps vs t) i) = some (((ps.zip vs').foldl (fun (tmps : Array Value) (x : Tmp × Value) => tmps.setIfInBounds x.1 x.2) tmps).getD i undef)
  | [], vs, vs', t, tmps, hc, hp, hs, ho => ⟨hs, ho⟩
  | p :: ps, [], vs', t, tmps, hc, hp, hs, ho => by
    simp only [concs, Option.some.injEq] at hc
    subst hc
    exact ⟨hs, ho⟩
  | p :: ps, v :: vs, vs', t, tmps, hc, hp, hs, ho => by
    simp only [concs, Option.bind_eq_some_iff, Option.map_eq_some_iff] at hc
    obtain ⟨a, ha, l, hl, rfl⟩ := hc
    simp only [List.zip_cons_cons, List.foldl_cons]
    have h := pars_on (ps := ps) (vs := vs) (t := t.set p v) (tmps := tmps.setIfInBounds p a) hl (fun q hq => hp q (by simp [hq])) (by simp [hs]) fun i => by
      rw [getOr_set]
      by_cases e : p = i
      · subst e
        have : p < tmps.size := by rw [hs]; exact hp p (by simp)
        rw [if_pos rfl, ha]; simp [this]
      · rw [if_neg e, ho i]
        simp only [Array.getD_eq_getD_getElem?]
        rw [Array.getElem?_setIfInBounds_ne e]
    exact h

theorem zip_foldl (ps : Array Tmp) (args : Array Value) (tmps : Array Value) : (ps.zip args).foldl (fun tmps (x : Tmp × Value) => match x with | (t, a) => tmps.setIfInBounds t a) tmps = (ps.toList.zip args.toList).foldl (fun (tmps : Array Value) (x : Tmp × Value) => tmps.setIfInBounds x.1 x.2) tmps := by
  rw [← Array.foldl_toList, Array.toList_zip]

theorem jump_end {e : VEx} {l : Nat} {L : Loop} {R : Ending → World → Prop} {a : Act} {w : World} (h : w.heap[l]? = some (.loop L)) (hR : R (.returned (.bool (isNormal e))) (w.putObj l (.loop { L with state := stOf e, pending := pendOf e }))) : roundPost PP l R (toExit e) a w := by
  cases e with
  | normal => exact ⟨_, _, run_endRound none h, hR⟩
  | exit id => exact ⟨_, _, run_endRound (some (.exit id)) h, hR⟩
  | ret => exact ⟨_, _, run_endRound (some .ret) h, hR⟩
  | goto g => exact ⟨_, _, run_endRound (some (.goto g)) h, hR⟩

theorem stepRound_snd {rec : Rec} (hc : ∀ n c rd ds t H e ds' t' H', rec (.code n c rd ds t H) = .ex e ds' t' H' → CodeT E n c rd ds t H e ds' t' H') {l : Nat} {args : List VV} {H H' : VH} {v : VV}
    (h : stepRound rec l args H = .ret v H') : RoundT E l args H v H' := by
  unfold stepRound at h
  split at h
  · rename_i t n ps assign body d ho
    split at h
    · cases h
    · rename_i hcond
      rw [parsT_eq, putR_eq] at h
      simp only [Bool.and_eq_true, beq_iff, List.all_eq_true, blt_iff] at hcond
      obtain ⟨hlen, hps⟩ := hcond
      split at h
      · rename_i t1 H1 hassign
        split at h
        · rename_i u1 n1 p1 s1 b1 d1 ho1
          rw [putR_eq] at h
          split at h
          · rename_i e ds3 t3 H3 hbody
            split at h
            · rename_i u3 n3 p3 s3 b3 d3 ho3
              rw [putR_eq] at h
              simp only [Res.ret.injEq] at h
              obtain ⟨rfl, rfl⟩ := h
              intro hv
              obtain ⟨m0, f0⟩ := reput (E := E) hv ho
              obtain ⟨m1, f1⟩ := hc _ _ _ _ _ _ _ _ _ _ hassign m0.ok
              obtain ⟨m2, f2⟩ := loop_put (E := E) .busy none m1.ok ho1
              obtain ⟨m3, f3⟩ := hc _ _ _ _ _ _ _ _ _ _ hbody m2.ok
              obtain ⟨m4, f4⟩ := loop_put (E := E) (stOf e) (pendOf e) m3.ok ho3
              have m01 := m0.trans m1
              have m012 := m01.trans m2
              have m0123 := m012.trans m3
              refine ⟨m0123.trans m4, fun ρ w p args' ha hp hpre ro => ?_⟩
              have pre3 := hpre.fst E m4
              have pre2 := pre3.fst E m3
              have pre1 := pre2.fst E m2
              have pre0 := pre1.fst E m1
              obtain ⟨hO, post0⟩ := f0 ρ w pre0
              obtain ⟨q, L, pd, e1, e2, e3, e4, e5, e6, e7, e8, e9, e10, e11, e12⟩ := hO
              obtain rfl := Option.some.inj (e1.symm.trans hp)
              have hsz : args'.size = L.params.size := by
                have h1 := concs_length E ha
                rw [Array.length_toList] at h1
                have h2 : L.params.size = ps.length := by rw [← Array.length_toList, e6]
                omega
              rw [run_yield e3 hsz]
              intro o a next Q hn
              rw [Oper.uponIn_round]
              refine ⟨FF_depth ro 0, ?_⟩
              obtain ⟨hs1, hs2⟩ := pars_on (ps := ps) (vs := args) (t := t) (tmps := L.tmps) (n := n) ha hps e9 e10
              have hround : ∀ R : Ending → World → Prop, (∀ v' w', (∃ ρ', conc E ρ' (.bool (isNormal e)) = some v' ∧ Post E H (puth H3 l (.loop (stOf e) (pendOf e) u3 n3 p3 s3 b3 d3)) ρ w ρ' w') → R (.returned v') w') →
                  RoundIn Fence.wide 0 PP q.blk L.fn ((L.params.zip args').foldl (fun tmps (x : Tmp × Value) => match x with | (t, a) => tmps.setIfInBounds t a) L.tmps) L.assign L.body w R := by
                intro R hR
                refine roundIn_of_wpIn trivial ?_
                rw [e7, e8]
                refine f1 ρ w { tmps := _, defers := [] } (some q.blk) ⟨q, e1, rfl⟩ (pre1.snd E m0 m1 post0) ⟨?_, ?_⟩ trivial _ fun a1 ρ1 w1 post1 ha1 hd1 => ?_
                · rw [zip_foldl, e6]; exact hs1
                · intro i; unfold On; rw [zip_foldl, e6]; exact hs2 i
                · have post01 := Post.trans E pre1 m0 m1 post0 post1
                  obtain ⟨q1, L1, k1, k2, k3, k4, post2⟩ := f2 ρ1 w1 (pre2.snd E m01 m2 post01)
                  have hq1 : q1 = q := by
                    have := post01.le _ _ _ e1
                    exact Option.some.inj (k1.symm.trans this)
                  subst hq1
                  have post012 := Post.trans E pre2 m01 m2 post01 post2
                  have hbr := run_beginRound (P := PP) k2 k3
                  refine ⟨_, hbr, ?_⟩
                  have hL1 : ({ L1 with state := .busy } : Loop) = { L1 with state := .busy, pending := none } := by rw [← k4]
                  rw [hL1]
                  refine f3 ρ1 _ a1 (some q1.blk) ⟨q1, k1, rfl⟩ (pre3.snd E m012 m3 post012) ha1 hd1 _ fun a3 ρ3 w3 post3 ha3 hd3 => ?_
                  have post0123 := Post.trans E pre3 m012 m3 post012 post3
                  obtain ⟨q3, L3, j1, j2, j3, j4, post4⟩ := f4 ρ3 w3 (hpre.snd E m0123 m4 post0123)
                  have hq3 : q3 = q1 := by
                    have := post3.le _ _ _ k1
                    exact Option.some.inj (j1.symm.trans this)
                  subst hq3
                  exact jump_end j2 (hR _ _ ⟨ρ3, rfl, Post.trans E hpre m0123 m4 post0123 post4⟩)
              have := hround (fun | .returned v, w'' => next (a.put o.dst v) w'' | .panicked chain, w'' => Q (.panic chain) a w'' | .outgrown, _ => LetsOut Q) fun v' w' hk => hn v' w' hk
              cases ro <;> exact this
            · cases h
          · cases h
          · cases h
        · cases h
      · cases h
      · cases h
  · cases h

end
end Go.Ev
