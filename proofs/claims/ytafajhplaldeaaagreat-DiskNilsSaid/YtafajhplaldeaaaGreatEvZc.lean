/- Operations: calls, guards; one operation of a region. -/
import Derived.Test.YtafajhplaldeaaaGreatEvZb
set_option linter.unusedVariables false
set_option linter.unusedSimpArgs false
namespace Go.Ev
open Go
attribute [local irreducible] PP

section
variable {E : Nat → Value}

theorem call_snd (hE : Seat E) {rec : Rec} (hr : CallsOk E rec) {o : Oper} {c : Call} (ho : o.op = .call c) {k : Cr} (hk : callK c = .ok k) {t : T VV} {H H' : VH} {v : VV} (h : k.f rec t H = .ok v H') :
    NSnd E H v H' (fun ρ w s => ∃ a : Act, (Sees E ρ t a o.op ∧ Glob ρ) ∧ s = execOp a.eval o) := by
  unfold callK at hk
  have hop : ∀ (ρ : Rho) (a : Act), Sees E ρ t a o.op → ∀ i, Operand.tmp i ∈ c.operands → On E ρ t a i := fun ρ a hs i hi => hs i (by rw [ho]; exact hi)
  have hexec : ∀ a : Act, execOp a.eval o = (do let d ← resolve a.eval c o.type; invoke d.target d.args) := fun a => by unfold execOp; rw [ho]
  obtain ⟨callee, args, ats⟩ := c
  cases callee with
  | builtin b =>
    simp only [R.bind_ok] at hk
    obtain ⟨kb, hb, hk⟩ := hk
    simp only [R.ok.injEq] at hk
    subst hk
    refine (builtin_snd (ty := o.type) (cs := args.map fun | .const _ => true | _ => false) hE.plain hb h).weaken ?_
    rintro ρ w s ⟨a, ⟨hs, hg⟩, hse⟩
    refine ⟨a, ⟨fun i hi => hop ρ a hs i ?_, hg⟩, ?_⟩
    · simp only [Call.operands, Array.mem_append]; exact .inr (Array.mem_toList_iff.1 hi)
    · rw [hse, hexec]
      simp only [resolve, invoke, pure_bind]
      congr 1
      apply Array.ext'; simp
  | invoke r name =>
    simp only [R.bind_ok] at hk
    obtain ⟨kr, hkr, ka, hka, hk⟩ := hk
    simp only [R.ok.injEq] at hk
    subst hk
    refine (callM_snd hE hr h).weaken ?_
    rintro ρ w s ⟨a, ⟨hs, hg⟩, hse⟩
    refine ⟨a.eval r, args.map a.eval, ?_, ?_, ?_⟩
    · exact operK_conc E hkr hg fun i hi => hop ρ a hs i (by simp [Call.operands, hi])
    · rw [Array.toList_map]
      exact opersK_conc E hka hg fun i hi => hop ρ a hs i (by simp only [Call.operands, Array.mem_append]; exact .inr (Array.mem_toList_iff.1 hi))
    · rw [hse, hexec]
      simp only [resolve, invoke, pure_bind]
      have h1 : (#[a.eval r] ++ args.map a.eval)[0]? = some (a.eval r) := by rw [Array.getElem?_append_left (by simp)]; rfl
      have h2 : (#[a.eval r] ++ args.map a.eval).extract 1 (#[a.eval r] ++ args.map a.eval).size = args.map a.eval := by
        apply Array.ext'; simp [List.take_of_length_le]
      rw [h1, h2]
  | value f =>
    simp only [R.bind_ok] at hk
    obtain ⟨ka, hka, hk⟩ := hk
    have hargs : ∀ (ρ : Rho) (a : Act), Sees E ρ t a o.op → Glob ρ → concs E ρ (ka.f t) = some (args.map a.eval).toList := fun ρ a hs hg => by
      rw [Array.toList_map]
      exact opersK_conc E hka hg fun i hi => hop ρ a hs i (by simp only [Call.operands, Array.mem_append]; exact .inr (Array.mem_toList_iff.1 hi))
    have gen : ∀ {kf : K (T VV → VV)}, operK f = .ok kf → k = ⟨fun rec t H => callC rec (kf.f t) (ka.f t) H⟩ → NSnd E H v H' (fun ρ w s => ∃ a : Act, (Sees E ρ t a o.op ∧ Glob ρ) ∧ s = execOp a.eval o) := by
      intro kf hkf hk
      subst hk
      refine (callC_snd hE hr h).weaken ?_
      rintro ρ w s ⟨a, ⟨hs, hg⟩, hse⟩
      refine ⟨a.eval f, args.map a.eval, ?_, hargs ρ a hs hg, ?_⟩
      · exact operK_conc E hkf hg fun i hi => hop ρ a hs i (by simp [Call.operands, hi])
      · rw [hse, hexec]; rfl
    cases f with
    | func f =>
      simp only [R.ok.injEq] at hk
      subst hk
      refine (callF_snd hE hr h).weaken ?_
      rintro ρ w s ⟨a, ⟨hs, hg⟩, hse⟩
      refine ⟨args.map a.eval, hargs ρ a hs hg, ?_⟩
      rw [hse, hexec]
      simp only [resolve, Act.eval, Deferred.ofValue, pure_bind, invoke]
      congr 1
      apply Array.ext'; simp
    | tmp i =>
      simp only [R.bind_ok] at hk
      obtain ⟨kf, hkf, hk⟩ := hk
      simp only [R.ok.injEq] at hk
      exact gen hkf hk.symm
    | const x =>
      simp only [R.bind_ok] at hk
      obtain ⟨kf, hkf, hk⟩ := hk
      simp only [R.ok.injEq] at hk
      exact gen hkf hk.symm
    | global g =>
      simp only [R.bind_ok] at hk
      obtain ⟨kf, hkf, hk⟩ := hk
      simp only [R.ok.injEq] at hk
      exact gen hkf hk.symm

theorem op_snd (hE : Seat E) {rec : Rec} (hr : CallsOk E rec) {o : Oper} {k : Cr} (hk : evOp o.op = .ok k) {t : T VV} {H H' : VH} {v : VV} (h : k.f rec t H = .ok v H') :
    NSnd E H v H' (fun ρ w s => ∃ a : Act, (Sees E ρ t a o.op ∧ Glob ρ) ∧ s = execOp a.eval o) := by
  unfold evOp at hk
  split at hk
  · rename_i c ho
    exact call_snd hE hr ho hk h
  · rw [R.bind_ok] at hk
    obtain ⟨kp, hp, hk⟩ := hk
    simp only [R.ok.injEq] at hk
    subst hk
    exact (plain_nxt hE.plain hp h).weaken fun ρ w s ⟨a, ⟨h1, _⟩, h2⟩ => ⟨a, h1, h2⟩

/-- one operation of a region, taken or not -/
def OpIn (ro : Option Nat) (ops : Array Oper) (o : Oper) (a : Act) (w : World) (next : Act → World → Prop) (Q : Exit → Act → World → Prop) : Prop :=
  if Region.wanted o (yielded ops a.tmps) then o.wpIn (FF ro) 0 PP a w next Q else (∀ f, o.about PP w a.eval = some f → (FF ro).fn f) ∧ next (a.put o.dst undef) w

theorem evOp_defer {op : Op} {k : Cr} (h : evOp op = .ok k) : ∀ c, op ≠ .defer c := fun c e => by
  subst e
  simp only [evOp, evPlain, R.bind_ok, reduceCtorEq, false_and, exists_false] at h

theorem opK_snd (hE : Seat E) {rec : Rec} (hr : CallsOk E rec) {ops : Array Oper} {o : Oper} {k : Cr} (hk : opK ops o = .ok k) {t : T VV} {H H' : VH} {v : VV} (h : k.f rec t H = .ok v H') :
    VOk H → Mono H H' ∧ ∀ ρ w (a : Act), Pre E H H' ρ w → (∀ i ∈ o.looksAt ops, On E ρ t a i) → ∀ ro next Q, (∀ v' ρ' w', conc E ρ' v = some v' → Post E H H' ρ w ρ' w' → next (a.put o.dst v') w') → OpIn ro ops o a w next Q := by
  intro hv
  unfold opK at hk
  rw [R.bind_ok] at hk
  obtain ⟨ke, hke, hk⟩ := hk
  have hsees : ∀ (ρ : Rho) (a : Act), (∀ i ∈ o.looksAt ops, On E ρ t a i) → Sees E ρ t a o.op := fun ρ a h i hi => h i (by
    unfold Oper.looksAt
    refine List.mem_append_left _ (List.mem_filterMap.2 ⟨.tmp i, Array.mem_toList_iff.2 hi, rfl⟩))
  have take : ∀ {v : VV} {H' : VH}, ke.f rec t H = .ok v H' → Mono H H' ∧ ∀ ρ w (a : Act), Pre E H H' ρ w → (∀ i ∈ o.looksAt ops, On E ρ t a i) → ∀ ro next Q, (∀ v' ρ' w', conc E ρ' v = some v' → Post E H H' ρ w ρ' w' → next (a.put o.dst v') w') → o.wpIn (FF ro) 0 PP a w next Q := by
    intro v H' h
    obtain ⟨m, f⟩ := op_snd hE hr hke h hv
    refine ⟨m, fun ρ w a hp hl ro next Q hn => ⟨fun f _ => FF_fn ro f, ?_⟩⟩
    rw [FF_round, Oper.semAt_eq ro a.eval o (evOp_defer hke)]
    exact f ρ w _ ⟨a, ⟨hsees ρ a hl, hp.gl⟩, rfl⟩ hp ro o a next Q fun v' w' ⟨ρ', h1, h2⟩ => hn v' ρ' w' h1 h2
  cases hg : o.guard with
  | none =>
    rw [hg] at hk
    simp only [R.ok.injEq] at hk
    subst hk
    obtain ⟨m, f⟩ := take h
    refine ⟨m, fun ρ w a hp hl ro next Q hn => ?_⟩
    unfold OpIn
    rw [if_pos (by simp [Region.wanted, hg])]
    exact f ρ w a hp hl ro next Q hn
  | some gw =>
    obtain ⟨j, want⟩ := gw
    rw [hg] at hk
    simp only [R.of_ok] at hk
    obtain ⟨d, hd, hk⟩ := hk
    simp only [R.ok.injEq] at hk
    subst hk
    simp only [guardV] at h
    have hlook : d ∈ o.looksAt ops := by
      unfold Oper.looksAt
      rw [hg]
      exact List.mem_append_right _ (by simp only [hd, Option.toList_some, List.mem_singleton])
    have hy : ∀ {b : Bool} {ρ : Rho} {a : Act}, getOr t d = .bool b → On E ρ t a d → yielded ops a.tmps j = some b := by
      intro b ρ a hb hon
      unfold On at hon
      rw [hb] at hon
      have h1 := conc_bool hon
      have h2 : a.tmps[d]? = some (.bool b) := by
        rw [Array.getD_eq_getD_getElem?] at h1
        cases ht : a.tmps[d]? with
        | none => rw [ht] at h1; simp only [Option.getD_none, undef, reduceCtorEq] at h1
        | some x => rw [ht] at h1; simp only [Option.getD_some] at h1; rw [h1]
      simp only [yielded, hd, Option.bind_some, h2]
    split at h
    · rename_i b hb
      split at h
      · rename_i heq
        have heq : b = want := by simpa using heq
        subst heq
        obtain ⟨m, f⟩ := take h
        refine ⟨m, fun ρ w a hp hl ro next Q hn => ?_⟩
        unfold OpIn
        rw [if_pos (by simp [Region.wanted, hg, hy hb (hl d hlook)])]
        exact f ρ w a hp hl ro next Q hn
      · rename_i heq
        simp only [RV.ok.injEq] at h
        obtain ⟨rfl, rfl⟩ := h
        refine ⟨Mono.refl hv, fun ρ w a hp hl ro next Q hn => ?_⟩
        unfold OpIn
        have hne : b ≠ want := by simpa using heq
        rw [if_neg (by simp [Region.wanted, hg, hy hb (hl d hlook), hne])]
        exact ⟨fun f _ => FF_fn ro f, hn undef ρ w rfl (Post.refl E hp hv)⟩
    · rename_i l hb
      simp only [RV.ok.injEq] at h
      obtain ⟨rfl, rfl⟩ := h
      refine ⟨Mono.refl hv, fun ρ w a hp hl ro next Q hn => ?_⟩
      unfold OpIn
      have hnone : yielded ops a.tmps j = none := by
        have hon := hl d hlook
        unfold On at hon
        rw [hb] at hon
        simp only [conc, Option.map_eq_some_iff] at hon
        obtain ⟨l', _, hon⟩ := hon
        simp only [yielded, hd, Option.bind_some]
        cases ht : a.tmps[d]? with
        | none => rfl
        | some x =>
          rw [Array.getD_eq_getD_getElem?, ht] at hon
          simp only [Option.getD_some] at hon
          rw [← hon]
      rw [if_neg (by simp [Region.wanted, hg, hnone])]
      exact ⟨fun f _ => FF_fn ro f, hn undef ρ w rfl (Post.refl E hp hv)⟩
    · cases h

end
end Go.Ev
