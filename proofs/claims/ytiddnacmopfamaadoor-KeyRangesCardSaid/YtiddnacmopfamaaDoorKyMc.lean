/- Ranges of keys: texts. -/
import Derived.Test.YtiddnacmopfamaaDoorKyMb
namespace Go.Proofs.YtiddnacmopfamaaDoor
open Go.RowKit
set_option linter.unusedVariables false
set_option linter.unusedSimpArgs false
set_option maxRecDepth 40000

theorem range_txt {op : ByteArray} {n' n : Int} {s' s : ByteArray} {p c : Nat} {x d : Bool} (ho : isO op = true) (hv : vE 4 n s = 0) (hw : vE 4 n' s' = 0) (he : eqO op = false) :
    (hoV op 4 n' s' n s x = true → inR (turnS d (encS 4 n' s' p c)) (rgV op 4 n s p c x d).1 (rgV op 4 n s p c x d).2.1 = true) ∧
    (inR (turnS d (encS 4 n' s' p c)) (rgV op 4 n s p c x d).1 (rgV op 4 n s p c x d).2.1 = true → (rgV op 4 n s p c x d).2.2 = true → hoV op 4 n' s' n s x = true) ∧
    (c = 0 → s.size ≤ 47 → (rgV op 4 n s p c x d).2.2 = true) := by
  have hw1 : wantV 4 n' s' 4 n s p c = Lib.compareBytes (wei48 p c s') (wei48 p c s) := by unfold wantV; rw [if_neg (by omega), if_pos rfl]
  have hN : cmpN 4 n' s' n s = Lib.compareBytes s'.data.toList s.data.toList := by unfold cmpN; rw [if_pos rfl]
  have f1 := first_tells s' s p c
  have hS : rgS op 4 s c = decide (c = 0 ∧ s.size < 48) := by
    unfold rgS; rw [he]
    rw [decide_eq_decide]; simp
  have hR : rgV op 4 n s p c x d = ((keysV (rgB op 4 n s p c).1 (rgB op 4 n s p c).2.1 (rgB op 4 n s p c).2.2.1 (rgB op 4 n s p c).2.2.2 (4 : Int).toNat d).1, (keysV (rgB op 4 n s p c).1 (rgB op 4 n s p c).2.1 (rgB op 4 n s p c).2.2.1 (rgB op 4 n s p c).2.2.2 (4 : Int).toNat d).2, rgS op 4 s c) := by
    unfold rgV
    rw [if_neg (by rw [he]; simp)]
  rw [hR, hS]
  simp only
  by_cases hcc : c ≠ 0 ∧ eeO op = false
  · have hb : rgB op 4 n s p c = (nos, nos, false, false) := by
      unfold rgB
      rw [if_neg (by rw [he]; simp), if_pos ⟨rfl, hcc⟩]
    rw [hb]
    simp only
    refine ⟨fun _ => in_all hw (by omega), fun _ h => ?_, fun h _ => absurd h hcc.1⟩
    have : decide (c = 0 ∧ s.size < 48) = false := by simp [hcc.1]
    rw [this] at h; cases h
  · have hb : rgB op 4 n s p c = cmpV op (encS 4 n s p c) (decide (48 ≤ s.size)) := by
      unfold rgB
      rw [if_neg (by rw [he]; simp), if_neg (fun h => hcc h.2)]
      have : decide ((4 : Int) = 4 ∧ 48 ≤ s.size) = decide (48 ≤ s.size) := by simp
      rw [this]
    rw [hb]
    have hr := in_cmp (p := p) (c := c) (cut := decide (48 ≤ s.size)) (d := d) ho hv hw (by omega)
    rw [hw1] at hr
    rw [hr]
    unfold hoV
    rw [he, hN]
    have g : c = 0 → (Lib.compareBytes (wei48 p c s') (wei48 p c s) ≠ 0 → Lib.compareBytes s'.data.toList s.data.toList = Lib.compareBytes (wei48 p c s') (wei48 p c s)) ∧ (s.size < 48 → Lib.compareBytes s'.data.toList s.data.toList = Lib.compareBytes (wei48 p c s') (wei48 p c s)) := by
      rintro rfl
      rw [wei_plain, wei_plain]
      have h := cmp_take 48 s'.data.toList s.data.toList
      exact ⟨h.1, fun h2 => h.2 h2⟩
    generalize Lib.compareBytes (wei48 p c s') (wei48 p c s) = t at *
    generalize Lib.compareBytes s'.data.toList s.data.toList = N at *
    have hcc2 : c = 0 ∨ (c ≠ 0 ∧ op.toList = [61, 61]) := by
      by_cases h0 : c = 0
      · exact .inl h0
      · right
        refine ⟨h0, ?_⟩
        cases h1 : eeO op
        · exact absurd ⟨h0, h1⟩ hcc
        · unfold eeO at h1; simpa using h1
    have hne : op.toList ≠ [61] := by unfold eqO at he; simpa using he
    clear hb hr hR hS hcc he hN hw1
    refine ⟨?_, ?_, fun h0 h1 => by simp [h0]; omega⟩
    · intro h
      unfold says
      unfold eeO at h
      rcases hcc2 with h0 | ⟨h0, h6⟩
      · obtain ⟨g1, g2⟩ := g h0
        by_cases h48 : 48 ≤ s.size
        · rcases six ho with h6 | h6 | h6 | h6 | h6 | h6 <;> simp [h6, h48] at h hne ⊢ <;> omega
        · have := g2 (by omega)
          rcases six ho with h6 | h6 | h6 | h6 | h6 | h6 <;> simp [h6, h48] at h hne ⊢ <;> omega
      · simp [h6] at h ⊢; exact f1 h
    · intro h hs
      have hs' : c = 0 ∧ s.size < 48 := by simpa using hs
      have := (g hs'.1).2 hs'.2
      unfold says at h
      unfold eeO
      have h48 : ¬ 48 ≤ s.size := by omega
      rcases six ho with h6 | h6 | h6 | h6 | h6 | h6 <;> simp [h6, h48] at h hne ⊢ <;> omega

/-- The beginning of a range of all keys that begin so. -/
theorem beg_range : ∀ (b K : List UInt8), b.isPrefixOf K = true ↔ 0 ≤ Lib.compareBytes K b ∧ (behO b = none ∨ Lib.compareBytes K ((behO b).getD []) < 0) := by
  have hF : ∀ (u : UInt8) (t : List UInt8) (m : Nat), m ≤ t.length → behF (u :: t) (m + 1) = match behF t m with | some r => some (u :: r) | none => if u.toNat = 255 then none else some [u + 1] := by
    intro u t m
    induction m with
    | zero => intro _; simp [behF]
    | succ m ih =>
      intro hm
      rw [behF]
      rw [show behF t (m + 1) = if (t.getD m 0).toNat = 255 then behF t m else some (t.take m ++ [t.getD m 0 + 1]) from rfl]
      have e : (u :: t).getD (m + 1) 0 = t.getD m 0 := rfl
      rw [e]
      split
      · exact ih (by omega)
      · rfl
  have hO : ∀ (u : UInt8) (t : List UInt8), behO (u :: t) = match behO t with | some r => some (u :: r) | none => if u.toNat = 255 then none else some [u + 1] := fun u t => hF u t t.length (Nat.le_refl _)
  intro b
  induction b with
  | nil =>
    intro K
    have : behO [] = none := rfl
    simp [this, cmp_nil_ge]
  | cons u b ih =>
    intro K
    rw [hO]
    cases K with
    | nil => simp [Lib.compareBytes]
    | cons v K =>
      have ih := ih K
      have hlt := byte_lt v
      simp only [List.isPrefixOf, Lib.compareBytes, UInt8.lt_iff_toNat_lt, Bool.and_eq_true, beq_iff_eq, ih]
      by_cases h1 : v.toNat < u.toNat
      · rw [if_pos h1]
        constructor
        · rintro ⟨e, _⟩; subst e; omega
        · rintro ⟨h, _⟩; omega
      · by_cases h2 : u.toNat < v.toNat
        · rw [if_neg h1, if_pos h2]
          constructor
          · rintro ⟨e, _⟩; subst e; omega
          · rintro ⟨_, h⟩
            exfalso
            cases hb : behO b with
            | some r =>
              rw [hb] at h
              simp [Lib.compareBytes, UInt8.lt_iff_toNat_lt] at h
              omega
            | none =>
              rw [hb] at h
              simp only at h
              by_cases hu : u.toNat = 255
              · omega
              · rw [if_neg hu] at h
                simp [Lib.compareBytes, UInt8.lt_iff_toNat_lt] at h
                have hi := inc_byte (u := u) (by have := byte_lt u; omega)
                have hn := cmp_nil_ge K
                split at h
                · omega
                · split at h
                  · omega
                  · omega
        · have e : u = v := UInt8.toNat_inj.1 (by omega)
          subst e
          rw [if_neg h1, if_neg h1]
          cases hb : behO b with
          | some r =>
            simp [Lib.compareBytes]
          | none =>
            simp only [true_and, true_or, and_true]
            have hn := cmp_nil_ge K
            by_cases hu : u.toNat = 255
            · rw [if_pos hu]; simp
            · rw [if_neg hu]
              have hi := inc_byte (u := u) (by have := byte_lt u; omega)
              simp [Lib.compareBytes, UInt8.lt_iff_toNat_lt, hi]
end Go.Proofs.YtiddnacmopfamaaDoor
