/- A region that draws its order; every run of the small world, in the great one. -/
import Derived.Test.YtafajhplaldeaaaGreatEvC9
set_option linter.unusedVariables false
set_option linter.unusedSimpArgs false
namespace Go.Ev
open Go
attribute [local irreducible] PP

section
variable {E : Nat → Value}

theorem any_snd {ops : Array Oper} {n : Nat} {hs : Nat → Hs} {es : Nat → Es} {op : Nat → Oper} (F : Facts E ops n ops.size hs es op) {ρ0 : Rho} {w0 : World} {a0 : Act} (hg : Glob ρ0) {ro : Option Nat} {Q : Exit → Act → World → Prop}
    (hQ : ∀ ρ w a (D : Nat → Prop), (∀ i, i < ops.size → D i) → Inv E n ops.size hs es op ρ0 w0 a0 D ρ w a → Q .normal a w) :
    ∀ (fuel : Nat) (U : List Nat) (listed : Array Bool) (a : Act) (w : World) (ρ : Rho), listed.size = ops.size → (∀ i, i < ops.size → listed.getD i false = false → i ∈ U) → U.length ≤ fuel →
      Inv E n ops.size hs es op ρ0 w0 a0 (fun i => listed.getD i false = true) ρ w a → (∀ k, k < ops.size → listed.getD k false = true → ∀ x, Nat.testBit (es k).bef x = true → listed.getD x false = true) →
      wpAnyIn (FF ro) 0 PP .any ops Q fuel listed a w := by
  intro fuel
  have hnil : ∀ (listed : Array Bool), listed.size = ops.size → Region.ready .any ops listed = [] → ∀ i, i < ops.size → listed.getD i false = true := by
    intro listed hsz hr i
    induction i using Nat.strongRecOn with
    | _ i ih =>
      intro hi
      cases h : listed.getD i false with
      | true => rfl
      | false =>
        have : i ∈ Region.ready .any ops listed := by
          refine mem_ready.2 ⟨?_, op i, F.at_ i hi, fun e he hb => ih e.on (F.edges i hi e he hb) (by have := F.edges i hi e he hb; omega)⟩
          have hlt : i < listed.size := by omega
          simp only [Array.getD_eq_getD_getElem?, Array.getElem?_eq_getElem hlt, Option.getD_some] at h ⊢
          exact h
        rw [hr] at this; cases this
  induction fuel with
  | zero =>
    intro U listed a w ρ hsz hU hlen I hcl
    have hU0 : U = [] := List.length_eq_zero_iff.1 (by omega)
    subst hU0
    have hall : ∀ i, i < ops.size → listed.getD i false = true := fun i hi => by
      cases h : listed.getD i false with
      | true => rfl
      | false => have := hU i hi h; cases this
    refine ⟨?_, hQ ρ w a _ hall I⟩
    cases hr : Region.ready .any ops listed with
    | nil => rfl
    | cons i l =>
      have : i ∈ Region.ready .any ops listed := by rw [hr]; simp
      obtain ⟨h1, o, h2, _⟩ := mem_ready.1 this
      have hi : i < ops.size := (Array.getElem?_eq_some_iff.1 h2).1
      have h3 := hall i hi
      have hlt : i < listed.size := by omega
      simp only [Array.getD_eq_getD_getElem?, Array.getElem?_eq_getElem hlt, Option.getD_some] at h1 h3
      rw [h1] at h3; cases h3
  | succ fuel ih =>
    intro U listed a w ρ hsz hU hlen I hcl
    refine ⟨fun hr => hQ ρ w a _ (hnil listed hsz hr) I, fun j hj => ?_⟩
    obtain ⟨h1, o, h2, h3⟩ := mem_ready.1 hj
    have hjn : j < ops.size := (Array.getElem?_eq_some_iff.1 h2).1
    have hlt : j < listed.size := by omega
    have h1' : listed.getD j false = false := by
      simp only [Array.getD_eq_getD_getElem?, Array.getElem?_eq_getElem hlt, Option.getD_some] at h1 ⊢
      exact h1
    have hoe : o = op j := by
      have := F.at_ j hjn
      rw [h2] at this
      exact Option.some.inj this
    subst hoe
    have hready : ∀ x, Nat.testBit (es j).bef x = true → listed.getD x false = true :=
      F.closed j hjn (fun x => listed.getD x false = true) h3 fun k hk hd x hx => hcl k (by omega) hd x hx
    have hstep := Inv.step F hg I hjn (by rw [h1']; simp) hcl hready (ro := ro) (Q := Q) (next := wpAnyIn (FF ro) 0 PP .any ops Q fuel (listed.setIfInBounds j true)) fun ρ' w' a' I' => by
      have hset : ∀ x, (listed.setIfInBounds j true).getD x false = true ↔ (listed.getD x false = true ∨ x = j) := by
        intro x
        by_cases e : j = x
        · subst e
          simp [hlt]
        · rw [getD_set_ne false e]
          exact ⟨.inl, fun h => h.resolve_right (Ne.symm e)⟩
      refine ih (U.erase j) (listed.setIfInBounds j true) a' w' ρ' (by simp [hsz]) (fun i hi hno => ?_) ?_ ?_ ?_
      · have hne : i ≠ j := fun e => by
          subst e
          have := (hset i).2 (.inr rfl)
          rw [this] at hno; cases hno
        have : listed.getD i false = false := by
          rw [getD_set_ne false (Ne.symm hne)] at hno; exact hno
        exact (List.mem_erase_of_ne hne).2 (hU i hi this)
      · rw [List.length_erase_of_mem (hU j hjn h1')]
        omega
      · have : (fun i => (listed.setIfInBounds j true).getD i false = true) = fun i => listed.getD i false = true ∨ i = j := by
          funext x; exact propext (hset x)
        rw [this]; exact I'
      · intro k hk hd x hx
        rcases (hset k).1 hd with h | rfl
        · exact (hset x).2 (.inl (hcl k hk h x hx))
        · exact (hset x).2 (.inl (hready x hx))
    unfold wpOpIn
    rw [h2]
    exact hstep

theorem draw_ok (hE : Seat E) (hm : PP.follows .mixedOrders = true) {rec : Rec} (hr : CallsOk E rec) : DrawOk E rec := by
  intro n id ops k hok _ hk rd ds t H e ds' t' H' h
  have h : k.f rec [] rd ds t H = .ex e ds' t' H' := h
  obtain ⟨rfl, rfl, hs, es, h0, ht, hH, hch⟩ := draw_chain ops.toList 0 [] k [] rd ds t H e ds' t' H' hk hok rfl h
  rw [Nat.zero_add, Array.length_toList] at ht hH hch
  intro hv
  obtain ⟨op, F⟩ := facts_of hE hr hch (by rw [h0]; exact hv.dom) (by rw [h0])
  have hH0 : (⟨(hs 0).m, (hs 0).nx, (hs 0).tr⟩ : VH) = H := by rw [h0]
  subst ht
  subst hH
  have m := F.whole (by rw [hH0]; exact hv)
  rw [hH0] at m
  refine ⟨m, fun ρ w a ro hro hp ha hd Q hQ => wpIn_region_any hm ?_⟩
  have hp' : Pre E ⟨(hs 0).m, (hs 0).nx, (hs 0).tr⟩ ⟨(hs ops.size).m, (hs ops.size).nx, (hs ops.size).tr⟩ ρ w := by rw [hH0]; exact hp
  have ht0 : (hs 0).t = t := by rw [h0]
  have ha' : ActOk E n ρ (hs 0).t a := by rw [ht0]; exact ha
  have hfalse : ∀ i, (Array.replicate ops.size false).getD i false = false := fun i => by
    rw [Array.getD_eq_getD_getElem?]
    cases hx : (Array.replicate ops.size false)[i]? with
    | none => rfl
    | some x =>
      rw [Array.getElem?_replicate] at hx
      split at hx <;> cases hx
      rfl
  refine any_snd F hp.gl (fun ρ' w' a' D hD I => ?_) ops.size (List.range ops.size) _ a _ ρ (by simp) (fun i hi _ => List.mem_range.2 hi) (by simp) (Inv.start F hp' ha' fun i => by rw [hfalse]; simp) (fun k _ hd => by rw [hfalse] at hd; cases hd)
  obtain ⟨hpost, hact⟩ := Inv.finish F I hD (by rw [hH0]; exact hv) hp'
  rw [hH0] at hpost
  exact hQ a' ρ' w' hpost hact (by rw [I.defers]; exact hd.mono hpost.le)

structure AllOk (E : Nat → Value) (rec : Rec) : Prop extends RecOk E rec, CallsDOk E rec

/-- every run of the small world -/
theorem run_ok (hE : Seat E) (hm : PP.follows .mixedOrders = true) : ∀ m, AllOk E (run m) := by
  intro m
  induction m using Nat.strongRecOn with
  | _ m ih =>
    cases m with
    | zero => exact ⟨⟨⟨fun _ _ _ _ _ h => (by cases h), fun _ _ _ _ _ h => (by cases h)⟩, fun _ _ _ _ _ _ _ _ _ _ h => (by cases h)⟩, ⟨fun _ _ _ _ _ h => (by cases h)⟩⟩
    | succ m =>
      have hall : ∀ j, j ≤ m → AllOk E (run j) := fun j hj => ih j (by omega)
      have hcode : ∀ (n : Nat) (c : Code) (k : Cc), codeK n c = .ok k → CcOk E n c k (run m) := fun n c k hk =>
        code_snd hE (fun j hj => (hall j hj).toRecOk) (fun j hj => draw_ok hE hm (hall j hj).toCallsOk) (fun j hj => range_ok hE (hall j hj).toRecOk) c k hk m (Nat.le_refl m)
      refine ⟨⟨⟨fun f args H v H' h => ?_, fun l args H v H' h => ?_⟩, fun n c rd ds t H e ds' t' H' h => ?_⟩, ⟨fun f args H v H' h => ?_⟩⟩
      · exact stepCall_snd hE hcode (hall m (Nat.le_refl m)).toCallsDOk h
      · exact stepRound_snd (hall m (Nat.le_refl m)).code h
      · have h : @R.rec Cc (fun _ => Res) (fun k => k.f (run m) rd ds t H) (fun w => .no w) (codeK n c) = .ex e ds' t' H' := h
        cases hk : codeK n c with
        | no s => rw [hk] at h; cases h
        | ok k =>
          rw [hk] at h
          exact hcode n c k hk _ _ _ _ _ _ _ _ h
      · exact stepCallD_snd hE hcode h

/-- A CALL of the small world, of arguments that are the great one's: in the great world the function returns the same, and the world behind it agrees. -/
theorem call_ok (hE : Seat E) (hm : PP.follows .mixedOrders = true) {n : Nat} {f : FuncId} {args : List VV} {H H' : VH} {v : VV} (h : run n (.call f args H) = .ret v H') (hv : VOk H) {ρ : Rho} {w : World} {args' : Array Value} (ha : concs E ρ args = some args'.toList) (hp : Pre E H H' ρ w) :
    Calls PP f args' w fun e w' => ∃ v' ρ', e = .returned v' ∧ conc E ρ' v = some v' ∧ Post E H H' ρ w ρ' w' := by
  obtain ⟨_, hc⟩ := (run_ok hE hm n).call f args H v H' h
  exact callsIn_wide.1 ((hc hv).2 ρ w args' ha hp _ fun v' ρ' w' h1 h2 => ⟨v', ρ', rfl, h1, h2⟩)

end
end Go.Ev
#print axioms Go.Ev.call_ok
