/- The characters of a text, read back one by one. -/
import Derived.Test.YtgeikbcfjidgcaaDoorPgEp
namespace Go.Proofs.YtgeikbcfjidgcaaDoor
open Go.RowKit
set_option linter.unusedVariables false

theorem get_mid (a e b : ByteArray) {j : Nat} (h : j < e.size) : (a ++ (e ++ b)).get! (a.size + j) = e.get! j := by
  simp only [ByteArray.get!, ByteArray.data_append]
  have h1 : a.data.size = a.size := rfl
  have h2 : e.data.size = e.size := rfl
  rw [← h1]
  have hj : j < e.data.size := by rw [h2]; exact h
  have hb : a.data.size + j < (a.data ++ (e.data ++ b.data)).size := by simp only [Array.size_append]; omega
  rw [getElem!_pos (a.data ++ (e.data ++ b.data)) (a.data.size + j) hb, getElem!_pos e.data j hj]
  rw [Array.getElem_append_right (by omega)]
  simp only [Nat.add_sub_cancel_left]
  rw [Array.getElem_append_left hj]
theorem vld_at {p : Nat} {l : List UInt8} (hv : vld p l = true) {k : Nat} (hk : k < l.length) : (chI p (l.getD k 0).toNat).isSome = true := by
  have e : l.getD k 0 = l[k] := by simp [List.getD, hk]
  rw [e]
  unfold vld at hv
  rw [List.all_eq_true] at hv
  exact hv _ (List.getElem_mem _)
theorem dec_decS {p : Nat} (hp : p < 3) {l : List UInt8} (hv : vld p l = true) {k : Nat} (hk : k < l.length) :
    ((Utf8.decode (decS p l) (decS p (l.take k)).size).1 : Int) = (chI p (l.getD k 0).toNat).getD 0 ∧ (decS p (l.take k)).size + (Utf8.decode (decS p l) (decS p (l.take k)).size).2 = (decS p (l.take (k + 1))).size := by
  have e : l.getD k 0 = l[k] := by simp [List.getD, hk]
  have hf := form_tab ⟨p, hp⟩ ⟨_, byte_lt (l.getD k 0)⟩ (vld_at hv hk)
  simp only at hf
  have hs : decS p l = decS p (l.take k) ++ (Utf8.encode ((chI p (l.getD k 0).toNat).getD 0) ++ decS p (l.drop (k + 1))) := by
    rw [← ByteArray.append_assoc, ← decS_take hk, ← decS_append, List.take_append_drop]
  have hd := dec_place hf (t := decS p l) (i := (decS p (l.take k)).size) (by rw [hs]; simp only [ByteArray.size_append]; omega) (fun j hj => by rw [hs]; exact get_mid _ _ _ hj)
  refine ⟨hd.1, ?_⟩
  rw [hd.2, decS_take hk, ByteArray.size_append]
end Go.Proofs.YtgeikbcfjidgcaaDoor
