/- Sets as bytes of bits, the bytes as numbers: plain mathematics for Map. -/
import Derived.Test.YtoldjpnkgdhpkaaU
namespace Go.Proofs.Ytoldjpnkgdhpkaa
set_option linter.unusedVariables false

def mapI (l : List Int) (m : Nat) : List Int := (List.range m).map fun j => ((byteOf l j : Nat) : Int)
theorem mapI_len (l : List Int) (m : Nat) : (mapI l m).length = m := by simp [mapI]
theorem mapI_nil (m : Nat) : mapI [] m = List.replicate m 0 := by
  apply List.ext_getElem?
  intro j
  by_cases hj : j < m
  · simp [mapI, hj, byteOf]
  · simp [mapI, hj]
theorem mapI_at (l : List Int) (m j : Nat) (h : j < m) : (mapI l m).getD j 0 = byteOf l j := by simp [mapI, List.getD, h]
theorem take_snocI (xs : List Int) {k : Nat} (h : k < xs.length) : xs.take (k + 1) = xs.take k ++ [xs.getD k 0] := by
  rw [List.take_succ_eq_append_getElem h]; simp [List.getD, h]
theorem mapI_snoc (l : List Int) (x : Int) (m : Nat) (h : (x.toNat - 1) / 8 < m) :
    mapI (l ++ [x]) m = (mapI l m).set ((x.toNat - 1) / 8) (((byteOf l ((x.toNat - 1) / 8) + 2 ^ ((x.toNat - 1) % 8) : Nat)) : Int) := by
  apply List.ext_getElem?
  intro j
  rw [List.getElem?_set]
  by_cases hj : j < m
  · by_cases hx : (x.toNat - 1) / 8 = j
    · subst hx
      simp [mapI, hj, byteOf_snoc]
    · simp [mapI, hj, byteOf_snoc, hx]
  · have : ¬ (x.toNat - 1) / 8 = j := by omega
    simp [mapI, hj, this]
theorem mapI_bytes (l : List Int) (m : Nat) (ha : Asc l) (h1 : ∀ x ∈ l, 1 ≤ x) : bytesI (mapI l m) := by
  intro x hx
  simp only [mapI, List.mem_map, List.mem_range] at hx
  obtain ⟨j, _, rfl⟩ := hx
  have := byteOf_255 l j ha h1
  omega
/-- What is read of the map of a set is the set. -/
theorem upI_mapI (l : List Int) (n : Nat) (ha : Asc l) (h : ∀ x ∈ l, 1 ≤ x ∧ x ≤ n) : upI (mapI l ((n + 7) / 8)) (8 * (mapI l ((n + 7) / 8)).length) = l := by
  have e := unmapL_mapL l n ha h
  have hl : (mapI l ((n + 7) / 8)).length = (mapL l n).length := by simp [mapI, mapL]
  have hP : ∀ i, upP (mapI l ((n + 7) / 8)) i = ((mapL l n).getD (i / 8) 0).testBit (i % 8) := by
    intro i
    unfold upP
    congr 1
    by_cases hj : i / 8 < (n + 7) / 8
    · rw [mapI_at _ _ _ hj]; simp [mapL, List.getD, hj]
    · simp [mapI, mapL, List.getD, hj]
  unfold upI
  rw [hl, show upP (mapI l ((n + 7) / 8)) = fun i => ((mapL l n).getD (i / 8) 0).testBit (i % 8) from funext hP]
  exact e
end Go.Proofs.Ytoldjpnkgdhpkaa
