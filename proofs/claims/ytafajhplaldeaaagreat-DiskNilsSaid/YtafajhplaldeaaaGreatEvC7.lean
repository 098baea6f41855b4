/- A region that draws its order: the small world's run, step by step. -/
import Derived.Test.YtafajhplaldeaaaGreatEvC6
set_option linter.unusedVariables false
set_option linter.unusedSimpArgs false
namespace Go.Ev
open Go
attribute [local irreducible] PP

/-- before an operation -/
structure Hs where
  t : T VV
  m : T VO
  nx : Nat
  done : List Nat
  tr : Trk
/-- an operation -/
structure Es where
  v : VV
  fp : Nat
  wr : Nat
  bef : Nat

def mergeTr (tr : Trk) (fp wr : Nat) : Trk := match tr with
  | .off => .off
  | .on bs f w => .on bs (Nat.lor f fp) (Nat.lor w wr)

theorem mergeT_eq (tr : Trk) (fp wr : Nat) (k : Trk → Res) : mergeT tr fp wr k = k (mergeTr tr fp wr) := by
  cases tr with
  | off => rfl
  | on bs f w =>
    show natK (Nat.lor f fp) (fun f => natK (Nat.lor w wr) fun w => k (.on bs f w)) = _
    rw [natK_eq, natK_eq]; rfl

def setAt {α : Type} (f : Nat → α) (j : Nat) (x : α) : Nat → α := fun i => if i = j then x else f i
theorem setAt_same {α : Type} (f : Nat → α) (j : Nat) (x : α) : setAt f j x j = x := by simp [setAt]
theorem setAt_other {α : Type} (f : Nat → α) {j i : Nat} (x : α) (h : i ≠ j) : setAt f j x i = f i := by simp [setAt, h]

def newBits (a b : Nat) : Nat := Nat.sub (bitN b) (bitN a)

def entry (hs : Nat → Hs) (es : Nat → Es) (i : Nat) : Seen := ⟨i, Nat.lor (es i).fp (newBits (hs i).nx (hs (i + 1)).nx), Nat.lor (es i).wr (newBits (hs i).nx (hs (i + 1)).nx)⟩

structure StepOk (rec : Rec) (n : Nat) (ops : Array Oper) (hs : Nat → Hs) (es : Nat → Es) (i : Nat) (o : Oper) (k : Cr) (bs : Nat) : Prop where
  op : ops[i]? = some o
  ko : opK ops o = .ok k
  dst : ∀ x, o.dst = some x → x < n
  run : k.f rec (hs i).t ⟨(hs i).m, (hs i).nx, .on (hs i).nx 0 0⟩ = .ok (es i).v ⟨(hs (i + 1)).m, (hs (i + 1)).nx, .on bs (es i).fp (es i).wr⟩
  t : (hs (i + 1)).t = putT o.dst (es i).v (hs i).t
  done : (hs (i + 1)).done = (es i).bef :: (hs i).done
  bef : (es i).bef = beforeMask (hs i).done i o
  edges : edgesOk i o = true
  apart : apartOk ops (es i).bef o 0 (ops.toList.take i) = true
  tr : (hs (i + 1)).tr = mergeTr (hs i).tr (es i).fp (es i).wr

structure Chain (rec : Rec) (n : Nat) (ops : Array Oper) (hs : Nat → Hs) (es : Nat → Es) (lo hi : Nat) (seen : List Seen) : Prop where
  step : ∀ i, lo ≤ i → i < hi → ∃ o k bs, StepOk rec n ops hs es i o k bs
  old : ∀ i, lo ≤ i → i < hi → ∀ s ∈ seen, clashes (es i).fp (es i).wr s = true → Nat.testBit (es i).bef s.i = true
  new : ∀ i' i, lo ≤ i' → i' < i → i < hi → clashes (es i).fp (es i).wr (entry hs es i') = true → Nat.testBit (es i).bef i' = true

theorem clash_no {bef fp wr : Nat} : ∀ {seen : List Seen}, clash bef fp wr seen = false → ∀ s ∈ seen, clashes fp wr s = true → Nat.testBit bef s.i = true
  | [], _, s, hs, _ => by cases hs
  | x :: l, h, s, hs, hc => by
    unfold clash at h
    split at h
    · split at h
      · rename_i hb
        rcases List.mem_cons.1 hs with rfl | hs
        · exact hb
        · exact clash_no h s hs hc
      · cases h
    · rename_i hx
      rcases List.mem_cons.1 hs with rfl | hs
      · rw [hx] at hc; cases hc
      · exact clash_no h s hs hc

theorem Chain.mono {rec : Rec} {n : Nat} {ops : Array Oper} {hs hs' : Nat → Hs} {es es' : Nat → Es} {lo hi : Nat} {seen : List Seen} (h : Chain rec n ops hs es lo hi seen) (e1 : ∀ i, lo ≤ i → hs' i = hs i) (e2 : ∀ i, lo ≤ i → es' i = es i) : Chain rec n ops hs' es' lo hi seen := by
  refine ⟨fun i h1 h2 => ?_, fun i h1 h2 => ?_, fun i' i h1 h2 h3 => ?_⟩
  · obtain ⟨o, k, bs, hst⟩ := h.step i h1 h2
    have a1 := e1 i h1
    have a2 := e1 (i + 1) (by omega)
    have a3 := e2 i h1
    exact ⟨o, k, bs, hst.op, hst.ko, hst.dst, by rw [a1, a2, a3]; exact hst.run, by rw [a1, a2, a3]; exact hst.t, by rw [a1, a2, a3]; exact hst.done, by rw [a1, a3]; exact hst.bef, hst.edges, by rw [a3]; exact hst.apart, by rw [a1, a2, a3]; exact hst.tr⟩
  · rw [e2 i h1]; exact h.old i h1 h2
  · have : entry hs' es' i' = entry hs es i' := by unfold entry; rw [e1 i' h1, e1 (i' + 1) (by omega), e2 i' h1]
    rw [e2 i (by omega), this]
    exact h.new i' i h1 h2 h3

theorem draw_chain {rec : Rec} {n : Nat} {ops : Array Oper} : ∀ (l : List Oper) (j : Nat) (done : List Nat) (k : K (Rec → List Seen → Option Nat → List VD → T VV → VH → Res)) (seen : List Seen) (rd : Option Nat) (ds : List VD) (t : T VV) (H : VH) (e : VEx) (ds' : List VD) (t' : T VV) (H' : VH),
    drawK n ops j done l = .ok k → drawOk ops ops.toList j done l = true → ops.toList.drop j = l → k.f rec seen rd ds t H = .ex e ds' t' H' →
    e = .normal ∧ ds' = ds ∧ ∃ hs es, hs j = ⟨t, H.m, H.nx, done, H.tr⟩ ∧ t' = (hs (j + l.length)).t ∧ H' = ⟨(hs (j + l.length)).m, (hs (j + l.length)).nx, (hs (j + l.length)).tr⟩ ∧ Chain rec n ops hs es j (j + l.length) seen := by
  intro l
  induction l with
  | nil =>
    intro j done k seen rd ds t H e ds' t' H' hk hok hl h
    simp only [drawK, R.ok.injEq] at hk
    subst hk
    simp only [Res.ex.injEq] at h
    obtain ⟨rfl, rfl, rfl, rfl⟩ := h
    exact ⟨rfl, rfl, fun _ => ⟨t, H.m, H.nx, done, H.tr⟩, fun _ => ⟨.pnil, 0, 0, 0⟩, rfl, rfl, rfl, ⟨fun i h1 h2 => absurd h2 (by simp; omega), fun i h1 h2 => absurd h2 (by simp; omega), fun i' i h1 h2 h3 => absurd h3 (by simp; omega)⟩⟩
  | cons o l ih =>
    intro j done k seen rd ds t H e ds' t' H' hk hok hl h
    have hoi : ops[j]? = some o := by
      rw [← Array.getElem?_toList]
      have : (ops.toList.drop j)[0]? = some o := by rw [hl]; rfl
      simpa using this
    have hli : ops.toList.drop (j + 1) = l := by
      have : (ops.toList.drop j).drop 1 = l := by rw [hl]; rfl
      rw [List.drop_drop] at this; exact this
    simp only [drawK, R.when_ok, R.bind_ok] at hk
    obtain ⟨_, p, hp, ko, hko, hk⟩ := hk
    rw [natK_eq, R.bind_ok] at hk
    obtain ⟨rest, hrest, hk⟩ := hk
    simp only [R.ok.injEq] at hk
    subst hk
    obtain ⟨hpn, hpe⟩ := putK_eq hp
    have hok' : edgesOk j o = true ∧ apartOk ops (beforeMask done j o) o 0 (ops.toList.take j) = true ∧ drawOk ops ops.toList (j + 1) (beforeMask done j o :: done) l = true := by
      unfold drawOk at hok
      split at hok
      · rename_i h1
        split at hok
        · rename_i h2; exact ⟨h1, h2, hok⟩
        · cases hok
      · cases hok
    obtain ⟨he, ha, hok'⟩ := hok'
    obtain ⟨m, nx, tr⟩ := H
    have h2 : @RV.rec (fun _ => Res) (fun v H' => @VH.rec (fun _ => Res) (fun m' nx' tr' => @Trk.rec (fun _ => Res) (.no "track")
        (fun _ fp' wr' => natK (Nat.sub (bitN nx') (bitN nx)) fun new => @Bool.rec (fun _ => Res)
          (p.f v t fun t => mergeT tr fp' wr' fun tr => rest.f rec (⟨j, Nat.lor fp' new, Nat.lor wr' new⟩ :: seen) rd ds t ⟨m', nx', tr⟩)
          (.no "a clash in a drawn region") (clash (beforeMask done j o) fp' wr' seen)) tr') H') (fun w => .no w) (ko.f rec t ⟨m, nx, .on nx 0 0⟩) = .ex e ds' t' H' := h
    cases hv : ko.f rec t ⟨m, nx, .on nx 0 0⟩ with
    | no s => rw [hv] at h2; cases h2
    | ok v H1 =>
      rw [hv] at h2
      obtain ⟨m1, nx1, tr1⟩ := H1
      cases tr1 with
      | off => cases h2
      | on bs fp wr =>
        have h3 : natK (Nat.sub (bitN nx1) (bitN nx)) (fun new => @Bool.rec (fun _ => Res)
          (p.f v t fun t => mergeT tr fp wr fun tr => rest.f rec (⟨j, Nat.lor fp new, Nat.lor wr new⟩ :: seen) rd ds t ⟨m1, nx1, tr⟩)
          (.no "a clash in a drawn region") (clash (beforeMask done j o) fp wr seen)) = .ex e ds' t' H' := h2
        rw [natK_eq] at h3
        cases hc : clash (beforeMask done j o) fp wr seen with
        | true => rw [hc] at h3; cases h3
        | false =>
          rw [hc] at h3
          have h4 : rest.f rec (⟨j, Nat.lor fp (newBits nx nx1), Nat.lor wr (newBits nx nx1)⟩ :: seen) rd ds (putT o.dst v t) ⟨m1, nx1, mergeTr tr fp wr⟩ = .ex e ds' t' H' := by
            have : p.f v t (fun t => mergeT tr fp wr fun tr => rest.f rec (⟨j, Nat.lor fp (Nat.sub (bitN nx1) (bitN nx)), Nat.lor wr (Nat.sub (bitN nx1) (bitN nx))⟩ :: seen) rd ds t ⟨m1, nx1, tr⟩) = .ex e ds' t' H' := h3
            rw [hpe, mergeT_eq] at this
            exact this
          obtain ⟨e1, e2, hs, es, f1, f2, f3, f4⟩ := ih (j + 1) _ rest _ rd ds _ _ e ds' t' H' hrest hok' hli h4
          refine ⟨e1, e2, setAt hs j ⟨t, m, nx, done, tr⟩, setAt es j ⟨v, fp, wr, beforeMask done j o⟩, setAt_same _ _ _, ?_, ?_, ?_⟩
          · rw [setAt_other _ _ (by simp), f2, List.length_cons, show j + 1 + l.length = j + (l.length + 1) by omega]
          · rw [setAt_other _ _ (by simp), f3, List.length_cons, show j + 1 + l.length = j + (l.length + 1) by omega]
          · have f4' := f4.mono (hs' := setAt hs j ⟨t, m, nx, done, tr⟩) (es' := setAt es j ⟨v, fp, wr, beforeMask done j o⟩) (fun i hi => setAt_other _ _ (by omega)) (fun i hi => setAt_other _ _ (by omega))
            have hlen : j + (o :: l).length = j + 1 + l.length := by rw [List.length_cons]; omega
            rw [hlen]
            have g1 : setAt hs j ⟨t, m, nx, done, tr⟩ j = ⟨t, m, nx, done, tr⟩ := setAt_same _ _ _
            have g2 : setAt hs j ⟨t, m, nx, done, tr⟩ (j + 1) = ⟨putT o.dst v t, m1, nx1, beforeMask done j o :: done, mergeTr tr fp wr⟩ := by rw [setAt_other _ _ (by omega), f1]
            have g3 : setAt es j ⟨v, fp, wr, beforeMask done j o⟩ j = ⟨v, fp, wr, beforeMask done j o⟩ := setAt_same _ _ _
            generalize setAt hs j ⟨t, m, nx, done, tr⟩ = hs2 at *
            generalize setAt es j ⟨v, fp, wr, beforeMask done j o⟩ = es2 at *
            refine ⟨fun i h1 h2 => ?_, fun i h1 h2 s hsm hcl => ?_, fun i' i h1 h2 h3 hcl => ?_⟩
            · by_cases hij : i = j
              · subst hij
                exact ⟨o, ko, bs, hoi, hko, hpn, by rw [g1, g2, g3]; exact hv, by rw [g1, g2, g3], by rw [g1, g2, g3], by rw [g1, g3], he, by rw [g3]; exact ha, by rw [g1, g2, g3]⟩
              · exact f4'.step i (by omega) h2
            · by_cases hij : i = j
              · subst hij
                rw [g3] at hcl ⊢
                exact clash_no hc s hsm hcl
              · exact f4'.old i (by omega) h2 s (by simp [hsm]) hcl
            · by_cases hij : i' = j
              · subst hij
                have := f4'.old i (by omega) h3 ⟨i', Nat.lor fp (newBits nx nx1), Nat.lor wr (newBits nx nx1)⟩ (by simp)
                refine this ?_
                have he : entry hs2 es2 i' = ⟨i', Nat.lor fp (newBits nx nx1), Nat.lor wr (newBits nx nx1)⟩ := by
                  unfold entry
                  rw [g1, g2, g3]
                rw [he] at hcl
                exact hcl
              · exact f4'.new i' i (by omega) h2 h3 hcl

end Go.Ev
