/- A call of the small world where the great one begins: the variables laid. -/
import Derived.Test.YtafajhplaldeaaaGreatEvE2
import Derived.Below
set_option linter.unusedVariables false
set_option linter.unusedSimpArgs false
namespace Go.Ev
open Go
attribute [local irreducible] PP

/-- the first numbers are the variables -/
def rho0 (w : World) : Rho := fun b v => if b < NG ∧ v = 0 then some ⟨b, 0, match w.heap[b]? with | some (.cells C _ _) => C.size | _ => 0⟩ else none

theorem rho0_some {w : World} {b v : Nat} {p : Pl} (h : rho0 w b v = some p) : b < NG ∧ v = 0 ∧ p.blk = b ∧ p.base = 0 := by
  unfold rho0 at h
  split at h
  · rename_i hb; cases h; exact ⟨hb.1, hb.2, rfl, rfl⟩
  · cases h

/-- opaque values: texts (their numbers from 500 on), and others -/
def mkE (S : Nat → ByteArray) (f : Nat → Value) (M : Nat) (m : Int) : Nat → Value := fun k =>
  if 500 ≤ k ∧ k < 1000 then .string (S (k - 500)) else if 1500 ≤ k ∧ k < 2000 then .int .i64 ((S (k - 1500)).size : Nat) else if 2000 ≤ k ∧ k < 2250 then .int .i64 (M : Nat) else if 2250 ≤ k ∧ k < 2500 then .int .i64 m else f k
theorem mkE_plain {S : Nat → ByteArray} {f : Nat → Value} {M : Nat} {m : Int} (hS : ∀ k, (S k).size ≤ LB) (hf : ∀ k, (f k).oneCell' = true) (hm : m < 0) : Plain (mkE S f M m) := by
  refine ⟨fun k => ?_, fun k h1 h2 => ⟨S (k - 500), ?_, ?_, hS _⟩, fun k h1 h2 => ⟨M, ?_⟩, fun k h1 h2 => ⟨m, ?_, hm⟩⟩
  · unfold mkE
    split
    · rfl
    · split
      · rfl
      · split
        · rfl
        · split
          · rfl
          · exact hf k
  · unfold mkE; rw [if_pos ⟨h1, h2⟩]
  · unfold mkE
    rw [if_neg (by omega), if_pos ⟨by omega, by omega⟩, show k + 1000 - 1500 = k - 500 by omega]
  · unfold mkE
    rw [if_neg (by omega), if_neg (by omega), if_pos ⟨h1, h2⟩]
  · unfold mkE
    rw [if_neg (by omega), if_neg (by omega), if_neg (by omega), if_pos ⟨h1, h2⟩]
/-- where no opaque value is looked at -/
def noE : Nat → Value := mkE (fun _ => ⟨#[]⟩) (fun _ => .bool false) 0 (-1)
theorem noE_plain : Plain noE := mkE_plain (fun _ => Nat.zero_le _) (fun _ => rfl) (by decide)

/-- what comes back, where no variable was written -/
noncomputable def out (r : Res) : Option VV := match r with
  | .ret v ⟨_, _, .on bs _ wr⟩ => (match Nat.beq bs NG, Nat.beq (Nat.mod wr (bitN NG)) 0 with | true, true => some v | _, _ => none)
  | _ => none

theorem out_ok {r : Res} {v : VV} (h : out r = some v) : ∃ m nx fp wr, r = .ret v ⟨m, nx, .on NG fp wr⟩ ∧ ∀ b, b < NG → wr.testBit b = false := by
  unfold out at h
  split at h
  · split at h
    · rename_i h1 h2
      cases h
      rw [beq_iff] at h1 h2
      subst h1
      refine ⟨_, _, _, _, rfl, fun b hb => ?_⟩
      rename_i wr _ _
      have h3 : wr % 2 ^ NG = 0 := by rw [← bitN_eq]; exact h2
      have h4 : (wr % 2 ^ NG).testBit b = wr.testBit b := by rw [Nat.testBit_mod_two_pow]; simp [hb]
      rw [← h4, h3]; simp
    · cases h
  · cases h

section
variable {E : Nat → Value}

/-- A CALL AT THE START: what the small world hands back, the great one does, and nothing that was there is turned. -/
theorem start_ok (hE : Seat E) (hm : PP.follows .mixedOrders = true) {n : Nat} {f : FuncId} {args : List VV} {m : T VO} {v : VV} (h : out (run n (.call f args ⟨m, NG, .on NG 0 0⟩)) = some v) (hd : ∀ b o, m.get b = some o → b < NG)
    {w : World} (hs : NG ≤ w.heap.size) (hg : ∀ b o, m.get b = some o → ObjOk E (rho0 w) w b o) {args' : Array Value} (ha : concs E (rho0 w) args = some args'.toList) :
    Calls PP f args' w fun e w' => ∃ v' ρ', e = .returned v' ∧ conc E ρ' v = some v' ∧ RowKit.Below w.heap.size w w' ∧ ∀ b p, ρ' b p = rho0 w b p ∨ ∀ q, ρ' b p = some q → w.heap.size ≤ q.blk := by
  obtain ⟨m', nx', fp, wr, hr, hw0⟩ := out_ok h
  have hv : VOk ⟨m, NG, .on NG 0 0⟩ := ⟨hd, fun b hb => by
      rcases hb with hb | hb
      · exact .inl hb
      · simp at hb, fun b f w e => by simp only [Trk.on.injEq] at e; rw [← e.1]; exact Nat.le_refl _⟩
  have hp : Pre E ⟨m, NG, .on NG 0 0⟩ ⟨m', nx', .on NG fp wr⟩ (rho0 w) w := by
    refine ⟨fun b hb _ o ho => hg b o ho, fun b v h1 _ => ?_, fun b v p b' v' p' h1 h2 h3 => ?_, fun b v p h1 => ?_, fun g hg => ⟨_, if_pos ⟨hg, rfl⟩⟩⟩
    · have h1 : NG ≤ b := h1
      exact if_neg (by omega)
    · rw [← (rho0_some h1).2.2.1, ← (rho0_some h2).2.2.1]; exact h3
    · rw [(rho0_some h1).2.2.1]; exact Nat.lt_of_lt_of_le (rho0_some h1).1 hs
  refine (call_ok hE hm hr hv ha hp).mono fun e w' ⟨v', ρ', he, hc, post⟩ => ⟨v', ρ', he, hc, ?_, fun b p => ?_⟩
  · refine ⟨post.os, post.tape, post.out, post.sz, fun k hk => post.fr k hk fun b v p hbp hw hb => ?_⟩
    have hb : b < NG := hb
    rcases hw with hw | hw
    · omega
    · rw [hw0 b hb] at hw; cases hw
  · cases hq : ρ' b p with
    | none =>
      cases h0 : rho0 w b p with
      | none => exact .inl rfl
      | some q => rw [post.le _ _ _ h0] at hq; cases hq
    | some q =>
      rcases post.new _ _ _ hq with h1 | ⟨h1, h2, h3⟩
      · exact .inl h1.symm
      · refine .inr fun q' hq' => ?_
        cases hq'
        rcases h3 with h3 | ⟨v0, p0, h3, h4⟩
        · exact h3
        · exfalso
          have h5 := (rho0_some h3).1
          rcases h1 with (h1 | h1) | h1
          · omega
          · rw [hw0 b h5] at h1; cases h1
          · have h1 : NG ≤ b := h1
            omega

/-- yes is yes -/
theorem start_yes (hE : Seat E) (hm : PP.follows .mixedOrders = true) {n : Nat} {f : FuncId} {args : List VV} {m : T VO} {b : Bool} (h : out (run n (.call f args ⟨m, NG, .on NG 0 0⟩)) = some (.bool b)) (hd : ∀ b o, m.get b = some o → b < NG)
    {w : World} (hs : NG ≤ w.heap.size) (hg : ∀ b o, m.get b = some o → ObjOk E (rho0 w) w b o) {args' : Array Value} (ha : concs E (rho0 w) args = some args'.toList) :
    Calls PP f args' w fun e w' => e = .returned (.bool b) ∧ RowKit.Below w.heap.size w w' :=
  (start_ok hE hm h hd hs hg ha).mono fun e w' ⟨v', ρ', he, hc, hb, _⟩ => by
    simp only [conc, Option.some.injEq] at hc
    subst hc
    exact ⟨he, hb⟩

/-- a laid variable's cells -/
theorem laid_row {w : World} {g : Nat} {C : Array Value} {el : TypeId} {lo : Nat} {c : List VV} (hg : g < NG) (hh : w.heap[g]? = some (.cells C el (lo, lo))) (hc : concs E (rho0 w) c = some C.toList) : ObjOk E (rho0 w) w g (.cells 0 ⟨false, 0, false, el, c⟩) := by
  have hl : c.length = C.size := by
    have := concs_length E hc
    rw [Array.length_toList] at this
    exact this.symm
  refine ⟨⟨g, 0, C.size⟩, C, lo, lo, ?_, fun v hv => if_neg (by omega), hh, Nat.zero_add _, by rw [hl]; exact Nat.le_refl _, fun i x hx => ?_, .inl rfl, fun _ => ⟨rfl, hl, fun _ _ => rfl⟩⟩
  · unfold rho0
    rw [if_pos ⟨hg, rfl⟩, hh]
  · obtain ⟨y, hy, hy2⟩ := concs_get E hc i x hx
    exact ⟨y, hy, by rw [Array.getElem?_toList] at hy2; simpa using hy2⟩

end
end Go.Ev
