/- What Decode writes is well formed. -/
import Derived.Test.YtgeikbcfjidgcaaDoorPgEq
import Derived.Lib.ValidLaws
namespace Go.Proofs.YtgeikbcfjidgcaaDoor
open Go.RowKit
set_option linter.unusedVariables false

theorem encForm_good {c : Int} {e : ByteArray} (h : encForm c e = true) : 0 < e.size ∧ (c = 65533 → e.size ≠ 1) := by
  unfold encForm at h
  simp only [Bool.or_eq_true, Bool.and_eq_true, decide_eq_true_eq] at h
  rcases h with (⟨⟨h0, h1⟩, h2⟩ | ⟨⟨⟨⟨h0, h1⟩, h2⟩, h3⟩, h4⟩) | ⟨⟨⟨⟨⟨⟨h0, h1⟩, h2⟩, h3⟩, h4⟩, h5⟩, h6⟩
  · exact ⟨by omega, fun h => by omega⟩
  · exact ⟨by omega, fun h => by omega⟩
  · exact ⟨by omega, fun h => by omega⟩
theorem decS_cons (p : Nat) (u : UInt8) (l : List UInt8) : decS p (u :: l) = Utf8.encode ((chI p u.toNat).getD 0) ++ decS p l := by
  have h := decS_append p [u] l
  rw [List.singleton_append] at h
  rw [h]
  congr 1
theorem valid_decS {p : Nat} (hp : p < 3) : ∀ (l : List UInt8), vld p l = true → Lib.validD (decS p l).data.toList = true
  | [], _ => rfl
  | u :: l, hv => by
    have h1 : (chI p u.toNat).isSome = true := by unfold vld at hv; simp only [List.all_cons, Bool.and_eq_true] at hv; exact hv.1
    have h2 : vld p l = true := by unfold vld at hv ⊢; simp only [List.all_cons, Bool.and_eq_true] at hv; exact hv.2
    have hf := form_tab ⟨p, hp⟩ ⟨_, byte_lt u⟩ h1
    simp only at hf
    have ih := valid_decS hp l h2
    rw [decS_cons]
    generalize Utf8.encode ((chI p u.toNat).getD 0) = e at *
    obtain ⟨g1, g2⟩ := encForm_good hf
    have hd := dec_place hf (t := e ++ decS p l) (i := 0) (by simp only [ByteArray.size_append]; omega) (fun j hj => by
      have h := get_mid ⟨#[]⟩ e (decS p l) hj
      have e0 : (⟨#[]⟩ : ByteArray) ++ (e ++ decS p l) = e ++ decS p l := by
        apply ByteArray.ext
        rw [ByteArray.data_append]; simp
      rw [e0] at h
      exact h)
    have hl : (e ++ decS p l).data.toList = e.data.toList ++ (decS p l).data.toList := by rw [ByteArray.data_append, Array.toList_append]
    have hsz : e.data.toList.length = e.size := rfl
    have hD : Lib.decodeL (e ++ decS p l).data.toList = Utf8.decode (e ++ decS p l) 0 := rfl
    rw [Lib.validD_step _ (by rw [hl]; intro h; rw [List.append_eq_nil_iff] at h; have h9 := congrArg List.length h.1; rw [hsz, List.length_nil] at h9; omega), hD, hd.2, if_neg (by
      rintro ⟨a, b⟩
      exact g2 (by rw [← hd.1, a]; rfl) b), hl, ← hsz, List.drop_left]
    exact ih
end Go.Proofs.YtgeikbcfjidgcaaDoor
