/- The walks of isLarge, front and Trim of both. -/
import Derived.Test.YtfgadkknfehkcaaDoorEq
namespace Go.Proofs.YtfgadkknfehkcaaDoor
open Go.RowKit
set_option linter.unusedVariables false

def larges (ss : List ByteArray) : Bool := ss.any fun s => decide (2048 < s.size)

set_option maxHeartbeats 1000000 in
theorem isLarge_any (b cap : Nat) (ss : List ByteArray) (hz : ∀ s ∈ ss, s.size ≤ maxLen) (hn : ss.length ≤ 100) (w : World) (hc : ∀ i : Nat, i < ss.length → w.cell? ⟨b, i, none⟩ = some (.string (ss.getD i nos))) :
    Calls Tryd.prog 93 #[.slice (some ⟨b, 0, none⟩) ss.length cap] w fun e w' => e = .returned (.bool (larges ss)) ∧ w = w' := by
  generalize hr : larges ss = r
  have HR := Lib.hid hr; clear hr
  have HC := Lib.hid hc; clear hc
  have HZ := Lib.hid hz; clear hz
  generalize hl : ss.length = len at *
  have HL := Lib.hid hl; clear hl
  go_enter Tryd.func93, Tryd.ntmps93
  go_wp2
  go_loop [7] (fun i => ∃ j : Nat, j ≤ len ∧ i = .int .i64 j ∧ Hid (∀ q : Nat, q < j → (ss.getD q nos).size ≤ 2048)) (fun i => len - (intOf i).toNat)
  case atStart => exact ⟨0, by omega, rfl, Lib.hid (fun q h => by omega)⟩
  case round =>
    obtain ⟨j, hj, rfl, HA⟩ := hrel
    have i1 : 0 ≤ (j : Int) := by omega
    by_cases hlt : j < len
    · have i2 : (j : Int) < len := by omega
      have hcell := HC.out j hlt
      have hsz : (ss.getD j nos).size ≤ maxLen := by
        have hq : j < ss.length := by rw [HL.out]; exact hlt
        have : ss.getD j nos = ss[j] := by simp [List.getD, hq]
        rw [this]; exact HZ.out _ (List.getElem_mem hq)
      unfold maxLen at hsz
      generalize hu : ss.getD j nos = u at *
      have HU := Lib.hid hu; clear hu
      by_cases h8 : 2048 < u.size
      · have hr : r = true := by
          rw [← HR.out]
          have hq : j < ss.length := by rw [HL.out]; exact hlt
          refine List.any_eq_true.2 ⟨ss[j], List.getElem_mem hq, ?_⟩
          have : ss.getD j nos = ss[j] := by simp [List.getD, hq]
          rw [← this, HU.out]; simpa using h8
        have HR2 := Lib.hid hr; clear hr
        go_wp2
        go_ret
        exact ⟨by rw [HR2.out]; rfl, rfl⟩
      · go_wp2
        refine ⟨⟨j + 1, by omega, rfl, Lib.hid (fun q h => ?_)⟩, by simp [intOf]; omega⟩
        rcases Nat.lt_or_ge q j with p | p
        · exact HA.out q p
        · have : q = j := by omega
          rw [this, HU.out]; omega
    · have i2 : ¬ (j : Int) < len := by omega
      have hr : r = false := by
        rw [← HR.out]
        refine List.any_eq_false.2 fun s hs => ?_
        obtain ⟨q, hq, rfl⟩ := List.mem_iff_getElem.1 hs
        have := HA.out q (by have := HL.out; omega)
        have e : ss.getD q nos = ss[q] := by simp [List.getD, hq]
        rw [e] at this
        simp; omega
      have HR2 := Lib.hid hr; clear hr
      go_wp2
      go_ret
      exact ⟨by rw [HR2.out]; rfl, rfl⟩

theorem long_any (s : ByteArray) (hs : s.size ≤ maxLen) (w : World) :
    Calls Tryd.prog 95 #[.string s] w fun e w' => e = .returned (.bool (decide (2048 < s.size))) ∧ w = w' := by
  unfold maxLen at hs
  go_enter Tryd.func95, Tryd.ntmps95
  go_wp2
  go_ret
  refine ⟨?_, rfl⟩
  have : decide (2048 < s.size) = decide ((2048 : Int) < s.size) := by simp; omega
  rw [this]; rfl

theorem drop_at' (s : ByteArray) (j : Nat) (hj : j < s.size) : s.data.toList.drop j = s[j] :: s.data.toList.drop (j + 1) := List.drop_eq_getElem_cons (by exact hj)
def trimL (s : ByteArray) : ByteArray := ⟨(Lib.trimLeftB s.data.toList 32).toArray⟩

set_option maxHeartbeats 1000000 in
theorem front_any (s : ByteArray) (hs : s.size ≤ maxLen) (w : World) :
    Calls Tryd.prog 96 #[.string s] w fun e w' => e = .returned (.string (trimL s)) ∧ w = w' := by
  unfold maxLen at hs
  generalize hr : trimL s = r
  have HR := Lib.hid hr; clear hr
  go_enter Tryd.func96, Tryd.ntmps96
  go_wp2
  go_loop [0] (fun t => ∃ u : ByteArray, t = .string u ∧ u.size ≤ s.size ∧ Hid (trimL u = r)) (fun t => match t with | .string u => u.size | _ => 0)
  case atStart => exact ⟨s, rfl, Nat.le_refl _, HR⟩
  case round =>
    obtain ⟨u, rfl, hu, HU⟩ := hrel
    cases he : u.toList.isEmpty
    · have h0 : 0 < u.size := by
        rcases Nat.eq_zero_or_pos u.size with q | q
        · exfalso
          have : u.data.toList = [] := List.eq_nil_of_length_eq_zero q
          rw [toList_data, this] at he; cases he
        · exact q
      have hcons : u.data.toList = u[0] :: u.data.toList.drop 1 := by
        have := drop_at' u 0 h0
        simpa using this
      have i0 : (0 : Int) < u.size := by omega
      have i3 : (1 : Int) ≤ u.size := by omega
      cases hb : ((u[0]'h0).toNat : Int) == 32
      · have hne := u8_no _ 32 hb
        have hend : u = r := by
          rw [← HU.out]
          unfold trimL Lib.trimLeftB
          rw [hcons, List.dropWhile_cons_of_neg (by simpa using hne), ← hcons]
        have HE := Lib.hid hend; clear hend hne hcons
        go_wp2
        go_ret
        exact ⟨by rw [← HE.out]; rfl, rfl⟩
      · have heq := u8_yes _ 32 hb
        have hnext : trimL (u.extract 1 u.size) = r := by
          rw [← HU.out]
          unfold trimL Lib.trimLeftB
          have e : (u.extract 1 u.size).data.toList = u.data.toList.drop 1 := by
            rw [ByteArray.data_extract, Array.toList_extract, List.extract_eq_take_drop, List.take_of_length_le (by rw [List.length_drop]; exact Nat.le_refl _)]
          rw [e]
          conv => rhs; rw [hcons, List.dropWhile_cons_of_pos (by simpa using heq)]
        have hsz : (u.extract 1 u.size).size < u.size := by simp; omega
        have HN := Lib.hid hnext; clear hnext heq hcons
        generalize hx : u.extract 1 u.size = x at *
        go_wp2
        exact ⟨⟨x, rfl, by omega, HN⟩, hsz⟩
    · have hend : u = r := by
        rw [← HU.out, bytes_none he]; rfl
      have HE := Lib.hid hend; clear hend
      go_wp2
      go_ret
      exact ⟨by rw [← HE.out]; rfl, rfl⟩
end Go.Proofs.YtfgadkknfehkcaaDoor
