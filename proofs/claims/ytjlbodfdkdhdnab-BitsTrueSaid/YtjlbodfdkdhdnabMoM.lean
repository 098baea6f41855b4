/- The complement of an intersection is the union of the complements: plain mathematics. -/
import Derived.Test.YtjlbodfdkdhdnabNtR
namespace Go.Proofs.Ytjlbodfdkdhdnab
set_option linter.unusedVariables false

theorem mem_less {a b : List Int} (ha : Asc a) (hb : Asc b) (z : Int) : z ∈ lessL a b ↔ z ∈ a ∧ z ∉ b := by rw [mem_mergeK _ _ _ z a b ha hb]; simp
theorem mem_inter {a b : List Int} (ha : Asc a) (hb : Asc b) (z : Int) : z ∈ interL a b ↔ z ∈ a ∧ z ∈ b := by rw [mem_mergeK _ _ _ z a b ha hb]; simp
theorem mem_union {a b : List Int} (ha : Asc a) (hb : Asc b) (z : Int) : z ∈ unionL a b ↔ z ∈ a ∨ z ∈ b := by
  rw [mem_mergeK _ _ _ z a b ha hb]
  by_cases h1 : z ∈ a <;> by_cases h2 : z ∈ b <;> simp [h1, h2]

structure Kn (s m : List Int) (N : Nat) : Prop where
  hs : IsS s
  hm : IsS m
  sub : ∀ x ∈ s, x ∈ m
  le : ∀ x ∈ m, x ≤ N
theorem Kn.of {s m : List Int} {N : Nat} (h : notB s m N = true) : Kn s m N := by
  simp only [notB, Bool.and_eq_true] at h
  have h1 := (VB_iff s m).1 h.1.1
  have h2 := (isSetB_iff N m).1 h.2
  exact ⟨h1.1, h1.2.1, h1.2.2, fun x hx => (h2.1 x hx).2⟩
theorem Kn.vb {s m : List Int} {N : Nat} (h : Kn s m N) : VB s m = true := (VB_iff s m).2 ⟨h.hs, h.hm, h.sub⟩
theorem Kn.notB {s m : List Int} {N : Nat} (h : Kn s m N) (hN : N ≤ 300) : notB s m N = true := by
  have hc : cntB (N : Int) = true := by simp [cntB]; omega
  have hs : isSetB N m = true := (isSetB_iff N m).2 ⟨fun x hx => ⟨(h.hm.1 x hx).1, h.le x hx⟩, h.hm.2⟩
  simp [Go.Proofs.Ytjlbodfdkdhdnab.notB, h.vb, hc, hs]
theorem Kn.not {s m : List Int} {N : Nat} (h : Kn s m N) (hN : N ≤ 300) : Kn (lessL (upTo N) m) (lessL (upTo N) s) N := by
  refine ⟨(isS_upTo hN).merge h.hm _ _ _, (isS_upTo hN).merge h.hs _ _ _, fun x hx => ?_, fun x hx => ?_⟩
  · rw [mem_less (asc_upTo N) h.hm.2] at hx
    rw [mem_less (asc_upTo N) h.hs.2]
    exact ⟨hx.1, fun hs => hx.2 (h.sub x hs)⟩
  · rw [mem_less (asc_upTo N) h.hs.2, mem_upTo] at hx; exact hx.1.2
theorem Kn.and {s m s2 m2 : List Int} {N : Nat} (h : Kn s m N) (k : Kn s2 m2 N) : Kn (interL s s2) (interL m m2) N := by
  refine ⟨h.hs.merge k.hs _ _ _, h.hm.merge k.hm _ _ _, fun x hx => ?_, fun x hx => ?_⟩
  · rw [mem_inter h.hs.2 k.hs.2] at hx
    rw [mem_inter h.hm.2 k.hm.2]
    exact ⟨h.sub x hx.1, k.sub x hx.2⟩
  · rw [mem_inter h.hm.2 k.hm.2] at hx; exact h.le x hx.1
theorem morgan_eq {x y : List Int} {N : Nat} (hN : N ≤ 300) (hx : IsS x) (hy : IsS y) : lessL (upTo N) (interL x y) = unionL (lessL (upTo N) x) (lessL (upTo N) y) := by
  have hi := hx.merge hy false false true
  have h1 := (isS_upTo hN).merge hx true false false
  have h2 := (isS_upTo hN).merge hy true false false
  refine ((isS_upTo hN).merge hi true false false).ext (h1.merge h2 true true true) fun z => ?_
  rw [mem_less (asc_upTo N) hi.2, mem_inter hx.2 hy.2, mem_union h1.2 h2.2, mem_less (asc_upTo N) hx.2, mem_less (asc_upTo N) hy.2]
  by_cases h3 : z ∈ x <;> by_cases h4 : z ∈ y <;> simp [h3, h4]
theorem back_eq {x : List Int} {N : Nat} (hN : N ≤ 300) (hx : IsS x) (hle : ∀ z ∈ x, z ≤ N) : lessL (upTo N) (lessL (upTo N) x) = x := by
  have h1 := (isS_upTo hN).merge hx true false false
  refine ((isS_upTo hN).merge h1 true false false).ext hx fun z => ?_
  rw [mem_less (asc_upTo N) h1.2, mem_less (asc_upTo N) hx.2, mem_upTo]
  constructor
  · rintro ⟨⟨a, b⟩, c⟩
    by_cases h3 : z ∈ x
    · exact h3
    · exact absurd ⟨⟨a, b⟩, h3⟩ c
  · intro h
    exact ⟨⟨(hx.1 z h).1, hle z h⟩, fun c => c.2 h⟩
end Go.Proofs.Ytjlbodfdkdhdnab
