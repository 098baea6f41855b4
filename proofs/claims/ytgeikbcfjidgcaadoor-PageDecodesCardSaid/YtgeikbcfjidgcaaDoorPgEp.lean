/- A character's bytes are read back wherever they stand. -/
import Derived.Test.YtgeikbcfjidgcaaDoorPgEo
import Derived.Lib.DecodeN
namespace Go.Proofs.YtgeikbcfjidgcaaDoor
open Go.RowKit
set_option linter.unusedVariables false

/-- The form of a written character: one, two or three bytes. -/
def encForm (c : Int) (e : ByteArray) : Bool :=
  (decide (e.size = 1) && decide ((e.get! 0).toNat < 128) && decide (c = (e.get! 0).toNat)) ||
  (decide (e.size = 2) && decide ((e.get! 0).toNat / 32 = 6) && decide ((e.get! 1).toNat / 64 = 2) && decide (128 ≤ (e.get! 0).toNat % 32 * 64 + (e.get! 1).toNat % 64) && decide (c = ((e.get! 0).toNat % 32 * 64 + (e.get! 1).toNat % 64 : Nat))) ||
  (decide (e.size = 3) && decide ((e.get! 0).toNat / 16 = 14) && decide ((e.get! 1).toNat / 64 = 2) && decide ((e.get! 2).toNat / 64 = 2) && decide (2048 ≤ (e.get! 0).toNat % 16 * 4096 + (e.get! 1).toNat % 64 * 64 + (e.get! 2).toNat % 64) && decide ((e.get! 0).toNat % 16 * 4096 + (e.get! 1).toNat % 64 * 64 + (e.get! 2).toNat % 64 < 55296) && decide (c = ((e.get! 0).toNat % 16 * 4096 + (e.get! 1).toNat % 64 * 64 + (e.get! 2).toNat % 64 : Nat)))
theorem form_tab : ∀ (p : Fin 3) (b : Fin 256), (chI p.val b.val).isSome = true → encForm ((chI p.val b.val).getD 0) (Utf8.encode ((chI p.val b.val).getD 0)) = true := by decide +kernel
theorem dec_place {c : Int} {e t : ByteArray} {i : Nat} (h : encForm c e = true) (hi : i + e.size ≤ t.size) (hg : ∀ j, j < e.size → t.get! (i + j) = e.get! j) : ((Utf8.decode t i).1 : Int) = c ∧ (Utf8.decode t i).2 = e.size := by
  rw [Lib.decode_at]
  unfold encForm at h
  simp only [Bool.or_eq_true, Bool.and_eq_true, decide_eq_true_eq] at h
  rcases h with (⟨⟨h0, h1⟩, h2⟩ | ⟨⟨⟨⟨h0, h1⟩, h2⟩, h3⟩, h4⟩) | ⟨⟨⟨⟨⟨⟨h0, h1⟩, h2⟩, h3⟩, h4⟩, h5⟩, h6⟩
  · have g0 := hg 0 (by omega)
    rw [Nat.add_zero] at g0
    rw [g0]
    unfold Lib.decodeN
    rw [if_pos h1, h0]
    exact ⟨h2.symm, rfl⟩
  · have g0 := hg 0 (by omega)
    have g1 := hg 1 (by omega)
    rw [Nat.add_zero] at g0
    rw [g0, g1]
    unfold Lib.decodeN
    rw [if_neg (by omega), if_pos ⟨h1, by omega, h2⟩, if_pos h3, h0]
    exact ⟨h4.symm, rfl⟩
  · have g0 := hg 0 (by omega)
    have g1 := hg 1 (by omega)
    have g2 := hg 2 (by omega)
    rw [Nat.add_zero] at g0
    rw [g0, g1, g2]
    unfold Lib.decodeN
    rw [if_neg (by omega), if_neg (by omega), if_pos ⟨h1, ⟨by omega, h2⟩, by omega, h3⟩, if_pos ⟨h4, .inl h5⟩, h0]
    exact ⟨h6.symm, rfl⟩
end Go.Proofs.YtgeikbcfjidgcaaDoor
