/- The walks of At of both. -/
import Derived.Test.YtfgadkknfehkcaaDoorStuff
import Derived.Test.YtfgadkknfehkcaaDoorKnown
namespace Go.Proofs.YtfgadkknfehkcaaDoor
open Go.RowKit
set_option linter.unusedVariables false

/-- The library's own variable holds some number. -/
def MaxL (w : World) : Prop := ∃ m, w.cell? ⟨1, 0, none⟩ = some (.int .i64 m)
theorem MaxL.pos {w : World} (h : MaxL w) : 1 < w.heap.size := by
  obtain ⟨m, hm⟩ := h
  rcases Nat.lt_or_ge 1 w.heap.size with q | q
  · exact q
  · have : w.heap[1]? = none := Array.getElem?_eq_none q
    simp [World.cell?, this] at hm
theorem MaxL.below {w w' : World} (h : MaxL w) (hb : Below w.heap.size w w') : MaxL w' := by
  have hp := h.pos
  obtain ⟨m, hm⟩ := h
  exact ⟨m, by rw [hb.cell (p := ⟨1, 0, none⟩) hp]; exact hm⟩

theorem idx_le (s sub : List UInt8) : Lib.index s sub ≤ s.length := by
  induction s with
  | nil => unfold Lib.index; split <;> simp
  | cons b l ih =>
    unfold Lib.index
    split
    · simp; omega
    · split
      · simp; omega
      · simp; omega

def atV (t s : ByteArray) : Int := if t.toList.isEmpty = true then 0 else Lib.index s.data.toList t.data.toList + 1

set_option maxHeartbeats 400000 in
theorem At_any (t s : ByteArray) (hs : s.size ≤ 20000) (w : World) (hm : MaxL w) :
    Calls Tryd.prog 54 #[.string t, .string s] w fun e w' => e = .returned (.int .i64 (atV t s)) ∧ w = w' := by
  obtain ⟨m, hm⟩ := hm
  have HM := Lib.hid hm; clear hm
  unfold atV
  cases he : t.toList.isEmpty
  · have h1 := Lib.index_ge s.data.toList t.data.toList
    have h2 := idx_le s.data.toList t.data.toList
    have h3 : s.data.toList.length = s.size := rfl
    have C := Lib.hid (fun w hm => Tryd.strings_Index s t m w (by omega) hm)
    generalize Lib.index s.data.toList t.data.toList = i at *
    rw [if_neg (by decide)]
    have hw : IntKind.i64.wrap (i + 1) = i + 1 := IntWalk.i64_in _ (by omega)
    clear h3 h2
    go_enter Tryd.func54, Tryd.ntmps54
    go_wp2_with fail
    refine (C.out _ HM.out).mono ?_
    rintro e w' ⟨rfl, rfl⟩
    go_wp2
    go_ret
    exact ⟨rfl, rfl⟩
  · rw [if_pos rfl]
    go_enter Tryd.func54, Tryd.ntmps54
    go_wp2
    go_ret
    exact ⟨rfl, rfl⟩

theorem part_list (s : ByteArray) (j k : Nat) : (s.extract j (j + k)).data.toList = (s.data.toList.drop j).take k := by
  rw [ByteArray.data_extract, Array.toList_extract, List.extract_eq_take_drop, Nat.add_sub_cancel_left]

set_option maxHeartbeats 1000000 in
theorem refAt_any (t s : ByteArray) (hs : s.size ≤ 20000) (ht : t.size ≤ 20000) (w : World) :
    Calls Tryd.prog 55 #[.string t, .string s] w fun e w' => e = .returned (.int .i64 (atV t s)) ∧ w = w' := by
  unfold atV
  cases he : t.toList.isEmpty
  · rw [if_neg (by decide)]
    generalize hr : Lib.index s.data.toList t.data.toList = r
    have HR := Lib.hid hr; clear hr
    have hls : s.data.toList.length = s.size := rfl
    have hlt : t.data.toList.length = t.size := rfl
    have LS := Lib.hid hls; clear hls
    have LT := Lib.hid hlt; clear hlt
    have hte : t.data.toList ≠ [] := by
      intro q; rw [toList_data, q] at he; cases he
    have HTE := Lib.hid hte; clear hte
    go_enter Tryd.func55, Tryd.ntmps55
    go_wp2
    go_loop [5] (fun i => ∃ j : Nat, j ≤ s.size + 1 ∧ i = .int .i64 j ∧ Hid (∀ q : Nat, q < j → Lib.occAt s.data.toList t.data.toList q = false)) (fun i => s.size + 1 - (intOf i).toNat)
    case atStart => exact ⟨0, by omega, rfl, Lib.hid (fun q h => by omega)⟩
    case round =>
      obtain ⟨j, hj, rfl, HA⟩ := hrel
      have j0 : 0 ≤ (j : Int) := by omega
      have w1 : IntKind.i64.wrap (j + t.size) = j + t.size := IntWalk.i64_in _ (by omega)
      have w2 : IntKind.i64.wrap (j + 1) = j + 1 := IntWalk.i64_in _ (by omega)
      by_cases hlt : j + t.size ≤ s.size
      · have i1 : (j : Int) + t.size ≤ s.size := by omega
        have i2 : (j : Int) ≤ j + t.size := by omega
        have hocc := Lib.occAt_iff_take s.data.toList t.data.toList j (by rw [LT.out, LS.out]; exact hlt)
        rw [LT.out] at hocc
        have hocc : Lib.occAt s.data.toList t.data.toList j = ((s.extract j (j + t.size)).toList == t.toList) := by rw [toList_data, toList_data, part_list]; exact hocc
        cases hq : (s.extract j (j + t.size)).toList == t.toList
        · rw [hq] at hocc
          have HO := Lib.hid hocc; clear hocc
          go_wp2
          refine ⟨⟨j + 1, by omega, rfl, Lib.hid (fun q h => ?_)⟩, by simp [intOf]; omega⟩
          rcases Nat.lt_or_ge q j with p | p
          · exact HA.out q p
          · have : q = j := by omega
            rw [this]; exact HO.out
        · rw [hq] at hocc
          have hrj : r = j := by
            rw [← HR.out]
            exact Lib.index_first (by rw [LS.out]; omega) hocc HA.out
          have HJ := Lib.hid hrj; clear hrj hocc
          go_wp2
          go_ret
          exact ⟨by rw [HJ.out]; rfl, rfl⟩
      · have i1 : ¬ (j : Int) + t.size ≤ s.size := by omega
        have hrn : r = -1 := by
          rw [← HR.out]
          refine Lib.index_none fun q hq => ?_
          rcases Nat.lt_or_ge q j with p | p
          · exact HA.out q p
          · cases ho : Lib.occAt s.data.toList t.data.toList q
            · rfl
            · rcases Lib.occAt_room ho with z | z
              · rw [LT.out, LS.out] at z; omega
              · exact absurd z HTE.out
        have HN := Lib.hid hrn; clear hrn
        go_wp2
        go_ret
        exact ⟨by rw [HN.out]; rfl, rfl⟩
  · rw [if_pos rfl]
    go_enter Tryd.func55, Tryd.ntmps55
    go_wp2
    go_ret
    exact ⟨rfl, rfl⟩
end Go.Proofs.YtfgadkknfehkcaaDoor
