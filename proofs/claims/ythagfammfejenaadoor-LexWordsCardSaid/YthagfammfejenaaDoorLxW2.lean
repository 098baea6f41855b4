/- Lists of words, beginnings. -/
import Derived.Test.YthagfammfejenaaDoorLxW1
namespace Go.Proofs.YthagfammfejenaaDoor
open Go.RowKit
set_option linter.unusedVariables false
set_option linter.unusedSimpArgs false
set_option maxRecDepth 40000

theorem block_of_plus (a : Addr) (j : Nat) : (a.add j).block = a.block := by unfold Addr.add; split <;> rfl
/-- A slice of texts that came in. -/
def RdS (w : World) (A : Option Addr) (ss : List ByteArray) : Prop := ∀ j, j < ss.length → ∃ ad, A = some ad ∧ ad.block < w.heap.size ∧ w.cell? (ad.add j) = some (.string (ss.getD j nos))
theorem RdS.below {w w' : World} {A : Option Addr} {ss : List ByteArray} (h : RdS w A ss) (hb : Below w.heap.size w w') : RdS w' A ss := fun j hj => by
  obtain ⟨ad, e, hl, hc⟩ := h j hj
  exact ⟨ad, e, by have := hb.size; omega, (hb.cell (p := ad.add j) (by rw [block_of_plus]; exact hl)).trans hc⟩
def begB (s t : ByteArray) : Bool := t.data.toList.isPrefixOf s.data.toList

set_option maxHeartbeats 1000000 in
theorem begins_any (s t : ByteArray) (w : World) (hs : s.size ≤ 140737488355328) (ht : t.size ≤ 140737488355328) :
    Calls Tryd.prog 44 #[.string s, .string t] w fun e w' => e = .returned (.bool (begB s t)) ∧ w = w' := by
  unfold begB
  have hls : s.data.toList.length = s.size := rfl
  have hlt : t.data.toList.length = t.size := rfl
  by_cases h : t.size ≤ s.size
  · have i1 : (t.size : Int) ≤ s.size := by omega
    have hx : (s.extract 0 t.size).toList = s.data.toList.take t.size := by rw [Lib.toList_data]; simp
    have htl : t.toList = t.data.toList := Lib.toList_data t
    cases hp : t.data.toList.isPrefixOf s.data.toList
    · have hq : ((s.extract 0 t.size).toList == t.toList) = false := by
        rw [hx, htl, beq_eq_false_iff_ne]
        intro e
        have : t.data.toList <+: s.data.toList := by rw [← e]; exact List.take_prefix _ _
        rw [List.isPrefixOf_iff_prefix.2 this] at hp
        cases hp
      clear hx htl hp hls hlt
      go_enter Tryd.func44, Tryd.ntmps44
      go_wp2_with fail
      go_ret
      exact ⟨rfl, rfl⟩
    · have hq : ((s.extract 0 t.size).toList == t.toList) = true := by
        rw [hx, htl, beq_iff_eq]
        have := List.isPrefixOf_iff_prefix.1 hp
        rw [List.prefix_iff_eq_take] at this
        exact this.symm
      clear hx htl hp hls hlt
      go_enter Tryd.func44, Tryd.ntmps44
      go_wp2_with fail
      go_ret
      exact ⟨rfl, rfl⟩
  · have i1 : ¬ (t.size : Int) ≤ s.size := by omega
    have hp : t.data.toList.isPrefixOf s.data.toList = false := by
      cases hp : t.data.toList.isPrefixOf s.data.toList
      · rfl
      · have := (List.isPrefixOf_iff_prefix.1 hp).length_le
        omega
    rw [hp]
    clear hp hls hlt
    go_enter Tryd.func44, Tryd.ntmps44
    go_wp2_with fail
    go_ret
    exact ⟨rfl, rfl⟩

set_option maxHeartbeats 1000000 in
theorem hasPrefix0_any (s t : ByteArray) (w : World) (hs : s.size ≤ 140737488355328) (ht : t.size ≤ 140737488355328) :
    Calls Tryd.prog 64 #[.string s, .string t] w fun e w' => e = .returned (.bool (begB s t)) ∧ w = w' := by
  unfold begB
  have hls : s.data.toList.length = s.size := rfl
  have hlt : t.data.toList.length = t.size := rfl
  by_cases h : t.size ≤ s.size
  · have i1 : (t.size : Int) ≤ s.size := by omega
    have hx : (s.extract 0 t.size).toList = s.data.toList.take t.size := by rw [Lib.toList_data]; simp
    have htl : t.toList = t.data.toList := Lib.toList_data t
    cases hp : t.data.toList.isPrefixOf s.data.toList
    · have hq : ((s.extract 0 t.size).toList == t.toList) = false := by
        rw [hx, htl, beq_eq_false_iff_ne]
        intro e
        have : t.data.toList <+: s.data.toList := by rw [← e]; exact List.take_prefix _ _
        rw [List.isPrefixOf_iff_prefix.2 this] at hp
        cases hp
      clear hx htl hp hls hlt
      go_enter Tryd.func64, Tryd.ntmps64
      go_wp2_with fail
      go_ret
      exact ⟨rfl, rfl⟩
    · have hq : ((s.extract 0 t.size).toList == t.toList) = true := by
        rw [hx, htl, beq_iff_eq]
        have := List.isPrefixOf_iff_prefix.1 hp
        rw [List.prefix_iff_eq_take] at this
        exact this.symm
      clear hx htl hp hls hlt
      go_enter Tryd.func64, Tryd.ntmps64
      go_wp2_with fail
      go_ret
      exact ⟨rfl, rfl⟩
  · have i1 : ¬ (t.size : Int) ≤ s.size := by omega
    have hp : t.data.toList.isPrefixOf s.data.toList = false := by
      cases hp : t.data.toList.isPrefixOf s.data.toList
      · rfl
      · have := (List.isPrefixOf_iff_prefix.1 hp).length_le
        omega
    rw [hp]
    clear hp hls hlt
    go_enter Tryd.func64, Tryd.ntmps64
    go_wp2_with fail
    go_ret
    exact ⟨rfl, rfl⟩

theorem hasPrefix_any (s t : ByteArray) (w : World) (hs : s.size ≤ 140737488355328) (ht : t.size ≤ 140737488355328) :
    Calls Tryd.prog 41 #[.string s, .string t] w fun e w' => e = .returned (.bool (begB s t)) ∧ w = w' := by
  have HC := Lib.hid (fun W => hasPrefix0_any s t W hs ht)
  go_enter Tryd.func41, Tryd.ntmps41
  go_wp2_with fail
  refine (HC.out _).mono ?_
  rintro e w1 ⟨rfl, rfl⟩
  go_wp2_with fail
  go_ret
  exact ⟨rfl, rfl⟩

def inLs (ls : List ByteArray) (s : ByteArray) : Bool := ls.any fun x => x.toList == s.toList
theorem inLs_take {ls : List ByteArray} {k : Nat} (s : ByteArray) (h : k < ls.length) : inLs (ls.take (k + 1)) s = (inLs (ls.take k) s || (ls.getD k nos).toList == s.toList) := by
  unfold inLs
  rw [List.take_succ_eq_append_getElem h, List.any_append]
  have e : ls.getD k nos = ls[k] := by simp [List.getD, h]
  rw [e]; simp
theorem inLs_hit {ls : List ByteArray} {k : Nat} (s : ByteArray) (h : k < ls.length) (hx : ((ls.getD k nos).toList == s.toList) = true) : inLs ls s = true := by
  unfold inLs
  rw [List.any_eq_true]
  have e : ls.getD k nos = ls[k] := by simp [List.getD, h]
  exact ⟨ls[k], List.getElem_mem h, by rw [e] at hx; exact hx⟩
theorem same_text {x y : ByteArray} (h : (x.toList == y.toList) = true) : x = y := by
  rw [beq_iff_eq, Lib.toList_data, Lib.toList_data] at h
  obtain ⟨⟨a⟩⟩ := x
  obtain ⟨⟨b⟩⟩ := y
  simp only at h
  rw [h]

set_option maxHeartbeats 4000000 in
theorem In_any (A : Option Addr) (cap : Nat) (ls : List ByteArray) (s : ByteArray) (w : World) (hl : ls.length ≤ 140737488355328) (hc : RdS w A ls) :
    Calls Tryd.prog 43 #[.slice A ls.length cap, .string s] w fun e w' => e = .returned (.bool (inLs ls s)) ∧ w = w' := by
  have HC := Lib.hid hc; clear hc
  obtain ⟨r, hr⟩ : ∃ r, r = inLs ls s := ⟨_, rfl⟩
  rw [← hr]
  have HR := Lib.hid hr; clear hr
  go_enter Tryd.func43, Tryd.ntmps43
  go_wp2_with fail
  go_loop [5] (fun i => ∃ k : Nat, k ≤ ls.length ∧ i = .int .i64 k ∧ inLs (ls.take k) s = false) (fun i => ls.length - (intOf i).toNat)
  case atStart => exact ⟨0, by omega, rfl, by simp [inLs]⟩
  case round =>
    obtain ⟨k, hk, rfl, hno⟩ := hrel
    have HNO := Lib.hid hno; clear hno
    by_cases hlt : k < ls.length
    · obtain ⟨ad, rfl, _, hck⟩ := HC.out k hlt
      have HT := Lib.hid (inLs_take s hlt)
      have HI := Lib.hid (fun h => inLs_hit s hlt h)
      have i2 : (k : Int) < ls.length := by omega
      generalize ls.getD k nos = x at *
      cases hx : x.toList == s.toList
      · rw [hx] at HT
        go_wp2_with fail
        go_round
        case rel => exact ⟨k + 1, by omega, by go_num, by rw [HT.out, HNO.out]; rfl⟩
        case measure => simp [intOf]; omega
      · have HE : Hid (r = true) := Lib.hid (by rw [HR.out]; exact HI.out hx)
        go_wp2_with fail
        go_ret
        exact ⟨by rw [HE.out]; rfl, rfl⟩
    · have hkl : k = ls.length := by omega
      have HE : Hid (r = false) := Lib.hid (by rw [HR.out]; have := HNO.out; rw [hkl, List.take_length] at this; exact this)
      clear hkl
      go_wp2_with fail
      go_ret
      exact ⟨by rw [HE.out]; rfl, rfl⟩
end Go.Proofs.YthagfammfejenaaDoor
