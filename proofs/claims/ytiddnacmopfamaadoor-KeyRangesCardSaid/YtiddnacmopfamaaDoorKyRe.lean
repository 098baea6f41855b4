/- In of the reference; the walk of KeyAsks. -/
import Derived.Test.YtiddnacmopfamaaDoorKyRd
import Derived.Test.YtiddnacmopfamaaDoorKyK
import Derived.Test.YtiddnacmopfamaaDoorKyO
namespace Go.Proofs.YtiddnacmopfamaaDoor
open Go.RowKit
set_option linter.unusedVariables false
set_option linter.unusedSimpArgs false
set_option maxRecDepth 40000

def inLs (ls : List ByteArray) (s : ByteArray) : Bool := ls.any fun x => x.toList == s.toList
theorem inLs_take {ls : List ByteArray} {k : Nat} (s : ByteArray) (h : k < ls.length) : inLs (ls.take (k + 1)) s = (inLs (ls.take k) s || (ls.getD k nos).toList == s.toList) := by
  unfold inLs
  rw [List.take_succ_eq_append_getElem h, List.any_append]
  have e : ls.getD k nos = ls[k] := by simp [List.getD, h]
  rw [e]; simp
theorem inLs_hit {ls : List ByteArray} {k : Nat} (s : ByteArray) (h : k < ls.length) (hx : ((ls.getD k nos).toList == s.toList) = true) : inLs ls s = true := by
  unfold inLs
  rw [List.any_eq_true]
  have e : ls.getD k nos = ls[k] := by simp [List.getD, h]
  exact ⟨ls[k], List.getElem_mem h, by rw [e] at hx; exact hx⟩

set_option maxHeartbeats 4000000 in
theorem In_any (ls : List ByteArray) (s : ByteArray) (g cap : Nat) (w : World) (hl : ls.length ≤ 100000) (hc : ∀ j, j < ls.length → w.cell? ⟨g, j, none⟩ = some (.string (ls.getD j nos))) :
    Calls Tryd.prog 43 #[.slice (some ⟨g, 0, none⟩) ls.length cap, .string s] w fun e w' => e = .returned (.bool (inLs ls s)) ∧ w = w' := by
  have HC := Lib.hid hc; clear hc
  obtain ⟨r, hr⟩ : ∃ r, r = inLs ls s := ⟨_, rfl⟩
  rw [← hr]
  have HR := Lib.hid hr; clear hr
  go_enter Tryd.func43, Tryd.ntmps43
  go_wp2_with fail
  go_loop [5] (fun i => ∃ k : Nat, k ≤ ls.length ∧ i = .int .i64 k ∧ inLs (ls.take k) s = false) (fun i => ls.length - (intOf i).toNat)
  case atStart => exact ⟨0, by omega, rfl, by simp [inLs]⟩
  case round =>
    obtain ⟨k, hk, rfl, hno⟩ := hrel
    have HNO := Lib.hid hno; clear hno
    by_cases hlt : k < ls.length
    · have hck := HC.out k hlt
      have HT := Lib.hid (inLs_take s hlt)
      have HI := Lib.hid (fun h => inLs_hit s hlt h)
      generalize ls.getD k nos = x at *
      cases hx : x.toList == s.toList
      · rw [hx] at HT
        go_wp2_with fail
        go_round
        case rel => exact ⟨k + 1, by omega, by go_num, by rw [HT.out, HNO.out]; rfl⟩
        case measure => simp [intOf]; omega
      · have HE : Hid (r = true) := Lib.hid (by rw [HR.out]; exact HI.out hx)
        go_wp2_with fail
        go_ret
        exact ⟨by rw [HE.out]; rfl, rfl⟩
    · have hkl : k = ls.length := by omega
      have HE : Hid (r = false) := Lib.hid (by rw [HR.out]; have := HNO.out; rw [hkl, List.take_length] at this; exact this)
      clear hkl
      go_wp2_with fail
      go_ret
      exact ⟨by rw [HE.out]; rfl, rfl⟩

def opL : List ByteArray := [⟨#[61]⟩, ⟨#[61, 61]⟩, ⟨#[60]⟩, ⟨#[60, 61]⟩, ⟨#[62]⟩, ⟨#[62, 61]⟩]
theorem opL_in (s : ByteArray) : inLs opL s = isO s := by
  have e (l : List UInt8) : (l == s.toList) = (s.toList == l) := by rw [Bool.eq_iff_iff, beq_iff_eq, beq_iff_eq]; exact eq_comm
  have a1 : (⟨#[61]⟩ : ByteArray).toList = [61] := by rw [Lib.toList_data]
  have a2 : (⟨#[61, 61]⟩ : ByteArray).toList = [61, 61] := by rw [Lib.toList_data]
  have a3 : (⟨#[60]⟩ : ByteArray).toList = [60] := by rw [Lib.toList_data]
  have a4 : (⟨#[60, 61]⟩ : ByteArray).toList = [60, 61] := by rw [Lib.toList_data]
  have a5 : (⟨#[62]⟩ : ByteArray).toList = [62] := by rw [Lib.toList_data]
  have a6 : (⟨#[62, 61]⟩ : ByteArray).toList = [62, 61] := by rw [Lib.toList_data]
  unfold inLs opL isO
  simp only [List.any_cons, List.any_nil, a1, a2, a3, a4, a5, a6, Bool.or_false]
  rw [e, e, e, e, e, e]
  simp only [Bool.or_assoc]
theorem operators_any (w : World) : Calls Tryd.prog 37 #[] w fun e w' => ∃ g, e = .returned (.slice (some ⟨g, 0, none⟩) 6 6) ∧ (∀ j, j < opL.length → w'.cell? ⟨g, j, none⟩ = some (.string (opL.getD j nos))) ∧ Below w.heap.size w w' := by
  have hc : ∀ j v, (#[Value.string ⟨#[61]⟩, .string ⟨#[61, 61]⟩, .string ⟨#[60]⟩, .string ⟨#[60, 61]⟩, .string ⟨#[62]⟩, .string ⟨#[62, 61]⟩] : Array Value)[j]? = some v → (w.alloc (.cells #[Value.string ⟨#[61]⟩, .string ⟨#[61, 61]⟩, .string ⟨#[60]⟩, .string ⟨#[60, 61]⟩, .string ⟨#[62]⟩, .string ⟨#[62, 61]⟩] 9)).cell? ⟨w.heap.size, j, none⟩ = some v := fun j v h => by simp [h]
  have HC := Lib.hid hc; clear hc
  go_enter Tryd.func37, Tryd.ntmps37
  go_wp2
  go_ret
  refine ⟨_, rfl, ?_, (Below.refl _ _).alloc (Nat.le_refl _) _⟩
  intro j hj
  have hj' : j < 6 := hj
  refine HC.out j _ ?_
  have : j = 0 ∨ j = 1 ∨ j = 2 ∨ j = 3 ∨ j = 4 ∨ j = 5 := by omega
  rcases this with rfl | rfl | rfl | rfl | rfl | rfl <;> rfl
end Go.Proofs.YtiddnacmopfamaaDoor
