/- What the keys of texts begin with, by the program. -/
import Derived.Test.YtiddnacmopfamaaDoorKyW
import Derived.Test.YtiddnacmopfamaaDoorKyS
import Derived.Test.YtiddnacmopfamaaDoorShelf
import Derived.Deep.RegionWith
namespace Go.Proofs.YtiddnacmopfamaaDoor
open Go.RowKit
set_option linter.unusedVariables false
set_option linter.unusedSimpArgs false
set_option maxRecDepth 40000

/-- The library's own variable holds some number. -/
def MaxL (w : World) : Prop := ∃ m, w.cell? ⟨2, 0, none⟩ = some (.int .i64 m)
theorem MaxL.pos {w : World} (h : MaxL w) : 2 < w.heap.size := by
  obtain ⟨m, hm⟩ := h
  rcases Nat.lt_or_ge 2 w.heap.size with q | q
  · exact q
  · have : w.heap[2]? = none := Array.getElem?_eq_none q
    simp [World.cell?, this] at hm
theorem MaxL.below {w w' : World} {B : Nat} (h : MaxL w) (hb : Below B w w') (hB : w.heap.size ≤ B) : MaxL w' := by
  have hp := h.pos
  obtain ⟨m, hm⟩ := h
  exact ⟨m, by rw [hb.cell (p := ⟨2, 0, none⟩) (by simp only; omega)]; exact hm⟩
/-- What the functions find. -/
structure Env (w : World) : Prop where
  tabs : Tabs w
  mx : MaxL w
theorem Env.below {w w' : World} {B : Nat} (h : Env w) (hb : Below B w w') (hB : w.heap.size ≤ B) : Env w' := ⟨h.tabs.below hb hB, h.mx.below hb hB⟩
theorem Env.drew {w : World} (h : Env w) : Env w.drew := h.below ((Below.refl _ _).drew) (Nat.le_refl _)

def wei48 (p c : Nat) (s : ByteArray) : List UInt8 := (s.data.toList.take 48).map (mapB (weiN p c))
def prS (p c : Nat) (s : ByteArray) : ByteArray := BA (4 :: esc (wei48 p c s))
theorem wei48_len (p c : Nat) (s : ByteArray) : (wei48 p c s).length ≤ 48 := by unfold wei48; simp; omega
theorem prS_size (p c : Nat) (s : ByteArray) : (prS p c s).size ≤ 97 := by
  unfold prS
  rw [BA_size, List.length_cons]
  have h1 := (esc_len (wei48 p c s)).2
  have h2 := wei48_len p c s
  omega
theorem all_rep (l : List UInt8) : (⟨(Lib.replaceAll l (⟨#[0]⟩ : ByteArray).data.toList (⟨#[0, 1]⟩ : ByteArray).data.toList).toArray⟩ : ByteArray) = BA (esc l) := by
  have h := all_esc l
  show BA (Lib.replaceAll l [0] [0, 1]) = _
  rw [h]
theorem weiT_ok {s : ByteArray} {p c : Nat} (hp : p < 3) (hc : c < 2) (hs : s.size ≤ 2048) : weiT s p c = mapS (weiN p c) s ∧ wrongN p c [s] = 0 := by
  have h : wrongN p c [s] = 0 := by
    unfold wrongN
    rw [if_neg (by simp; omega), if_pos ⟨by omega, by omega, by omega⟩]
  exact ⟨by simp [weiT, h], h⟩

set_option maxHeartbeats 4000000 in
theorem prefix_any (s : ByteArray) (p c : Nat) (hp : p < 3) (hc : c < 2) (w : World) (he : Env w) (hs : s.size ≤ 200000) :
    Calls Tryd.prog 62 #[.string s, .int .i64 p, .int .i64 c] w fun e w' => e = .returned (.string (prS p c s)) ∧ Below w.heap.size w w' := by
  have HE := Lib.hid he; clear he
  have hex : s.extract 0 (min s.size 48) = BA (s.data.toList.take 48) := by
    rw [take_ext _ _ (by omega)]
    congr 1
    have hl : s.data.toList.length = s.size := rfl
    by_cases h : s.size ≤ 48
    · rw [Nat.min_eq_left h, List.take_of_length_le (by omega), List.take_of_length_le (by omega)]
    · rw [Nat.min_eq_right (by omega)]
  have hsz : (BA (s.data.toList.take 48)).size ≤ 48 := by rw [BA_size]; simp; omega
  obtain ⟨q1, q2⟩ := weiT_ok (s := BA (s.data.toList.take 48)) hp hc (by omega)
  have HW := Lib.hid (fun W h => Weights_any (BA (s.data.toList.take 48)) p c W h (by unfold maxLen; omega))
  rw [q1, q2] at HW
  have hmw : (mapS (weiN p c) (BA (s.data.toList.take 48))).data.toList = wei48 p c s := rfl
  have hmz : (mapS (weiN p c) (BA (s.data.toList.take 48))).size ≤ 48 := by rw [mapS_size]; exact hsz
  generalize mapS (weiN p c) (BA (s.data.toList.take 48)) = x at *
  have hpr : BA [4] ++ BA (esc x.data.toList) = prS p c s := by
    rw [BA_app, hmw]; rfl
  have hxz : (BA (esc x.data.toList)).size ≤ 96 := by
    rw [BA_size]
    have h1 := (esc_len x.data.toList).2
    have h2 : x.data.toList.length = x.size := rfl
    omega
  have HR : Hid (∀ W, MaxL W → Calls Tryd.prog 83 #[.string x, .string ⟨#[0]⟩, .string ⟨#[0, 1]⟩] W fun e w' => e = .returned (.string (BA (esc x.data.toList))) ∧ Below W.heap.size W w') := Lib.hid fun W hm => by
    obtain ⟨m, hm⟩ := hm
    have h := Tryd.strings_ReplaceAll x ⟨#[0]⟩ ⟨#[0, 1]⟩ m W (by omega) hm (by decide) (by
      have h1 : Lib.countB x ⟨#[0]⟩ ≤ x.size := count_le x.data.toList
      have h2 : (⟨#[0, 1]⟩ : ByteArray).size = 2 := rfl
      rw [h2]; omega)
    rw [all_rep] at h
    exact h
  clear hmw q1 q2
  go_enter Tryd.func62, Tryd.ntmps62
  go_wp2_with fail
  rw [show (min (s.size : Int) 48).toNat = min s.size 48 by omega, hex]
  clear hex
  refine (HW.out _ HE.out.tabs).mono ?_
  rintro e w1 ⟨rfl, hb1⟩
  have HE1 := Lib.hid (HE.out.below hb1 (Nat.le_refl _))
  have HB1 := Lib.hid hb1; clear hb1
  have hcv : ∀ (W : World) (m : Nat), W.cell? ⟨m, 0, none⟩ = some (.int .u8 4) → (convert 73 9 (.slice (some ⟨m, 0, none⟩) 1 1)).run Tryd.prog W = .ok (.string (BA [4])) W := fun W m h => by
    rw [← strOne 4 4 rfl]; exact conv1 w _ W m h
  have i7 : ¬ (9223372036854775807 < (BA [4]).size + (BA (esc x.data.toList)).size) := by have e1 : (BA [4]).size = 1 := rfl; omega
  go_wp2_with fail
  go_region_with (go_at_call 83; refine (HR.out _ (by first | exact HE1.out.mx | exact HE1.out.drew.mx | exact ((HE1.out.below (Below.of_alloc _ _ _ (Nat.le_refl _)) (Nat.le_refl _)).mx) | exact ((HE1.out.drew.below (Below.of_alloc _ _ _ (Nat.le_refl _)) (Nat.le_refl _)).mx))).mono ?_; rintro e w' ⟨rfl, hb2⟩; obtain ⟨hcc, hff⟩ := bcell hb2)
  all_goals (go_wp2_with fail; go_ret; refine ⟨by rw [← hpr]; rfl, ?_⟩)
  all_goals first
    | exact ((HB1.out.alloc HB1.out.size _).drew).trans (hb2.mono (size_alloc HB1.out.size _))
    | exact (HB1.out.drew.trans (hb2.mono HB1.out.size)).alloc (Nat.le_trans HB1.out.size hb2.size) _
end Go.Proofs.YtiddnacmopfamaaDoor
