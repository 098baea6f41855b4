/- Three bytes a character at most. -/
import Derived.Test.YtgeikbcfjidgcaaDoorPgEn
namespace Go.Proofs.YtgeikbcfjidgcaaDoor
open Go.RowKit
set_option linter.unusedVariables false

theorem enc3_tab : ∀ (p : Fin 3) (b : Fin 256), (Utf8.encode ((chI p.val b.val).getD 0)).size ≤ 3 := by decide +kernel
theorem decS3_le {p : Nat} (hp : p < 3) (l : List UInt8) : ∀ k, k ≤ l.length → (decS p (l.take k)).size ≤ 3 * k
  | 0, _ => by simp [decS, ByteArray.size]
  | k + 1, h => by
    rw [decS_take (by omega), ByteArray.size_append]
    have h1 := decS3_le hp l k (by omega)
    have h2 := enc3_tab ⟨p, hp⟩ ⟨_, byte_lt (l.getD k 0)⟩
    simp only at h2
    omega
/-- The text of the bytes after the first k. -/
theorem decS_append (p : Nat) (a b : List UInt8) : decS p (a ++ b) = decS p a ++ decS p b := by
  unfold decS
  rw [List.foldl_append]
  generalize a.foldl (fun a u => a ++ encL p u) ⟨#[]⟩ = x
  have key : ∀ (l : List UInt8) (x y : ByteArray), l.foldl (fun a u => a ++ encL p u) (x ++ y) = x ++ l.foldl (fun a u => a ++ encL p u) y := by
    intro l
    induction l with
    | nil => intro x y; rfl
    | cons u l ih => intro x y; rw [List.foldl_cons, List.foldl_cons, ByteArray.append_assoc, ih]
  have h := key b x ⟨#[]⟩
  have e : x ++ (⟨#[]⟩ : ByteArray) = x := by
    apply ByteArray.ext
    rw [ByteArray.data_append]; simp
  rw [e] at h
  exact h
end Go.Proofs.YtgeikbcfjidgcaaDoor
