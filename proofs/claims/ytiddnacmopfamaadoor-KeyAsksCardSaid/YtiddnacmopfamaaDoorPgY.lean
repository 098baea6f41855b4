/- Sound of the reference. -/
import Derived.Test.YtiddnacmopfamaaDoorPgQ
import Derived.Lib.Bytes
namespace Go.Proofs.YtiddnacmopfamaaDoor
open Go.RowKit
set_option linter.unusedVariables false
set_option linter.unusedSimpArgs false

def SN (l : List Nat) : ByteArray := strOfNums (l.map Int.ofNat)
theorem SN_nil : SN [] = ⟨#[]⟩ := by decide +kernel
theorem SN_size (l : List Nat) : (SN l).size = l.length := by simp [SN, strOfNums_size]
theorem SN_snoc (l : List Nat) (x : Nat) (z : Int) (h : z = x) : SN l ++ strOfNums [z] = SN (l ++ [x]) := by
  subst h
  apply ByteArray.ext
  simp [SN, strOfNums]
theorem SN_zero (l : List Nat) : SN l ++ ⟨#[48]⟩ = SN (l ++ [48]) := by
  apply ByteArray.ext
  simp [SN, strOfNums]
theorem SN_ne {l : List Nat} (h : l ≠ []) : (SN l).toList.isEmpty = false := by
  obtain ⟨x, r, rfl⟩ := List.exists_cons_of_ne_nil h
  rw [SN, Lib.strOfNums_toList]
  simp [Lib.bytesOf]
def szV : Value → Nat
  | .string t => t.size
  | _ => 0
theorem conv1 (w : World) (z : Int) (W : World) (n : Nat) (hW : W.cell? ⟨n, 0, none⟩ = some (.int .u8 z)) : (convert 73 9 (.slice (some ⟨n, 0, none⟩) 1 1)).run Tryd.prog W = .ok (.string (strOfNums [z])) W :=
  conv_bytes (zs := [z]) (B := n + 1) (fun _ => ⟨_, rfl, by simp, fun j hj => by
    have h0 : j = 0 := by simpa using hj
    subst h0
    simpa [Addr.add] using hW⟩) 1

end Go.Proofs.YtiddnacmopfamaaDoor
