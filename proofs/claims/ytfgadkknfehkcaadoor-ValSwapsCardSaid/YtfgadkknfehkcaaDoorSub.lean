/- The walk of a difference of texts. -/
import Derived.Test.YtfgadkknfehkcaaDoorDo
import Derived.Test.YtfgadkknfehkcaaDoorShelf
import Derived.Deep.RegionWith
import Derived.Lib.TrimByte
namespace Go.Proofs.YtfgadkknfehkcaaDoor
open Go.RowKit
set_option linter.unusedVariables false

/-- A text without the blanks at its end. -/
def trimR (s : ByteArray) : ByteArray := ⟨(Lib.trimRightB s.data.toList 32).toArray⟩
theorem trimRB_le (l : List UInt8) (c : UInt8) : (Lib.trimRightB l c).length ≤ l.length := by
  unfold Lib.trimRightB
  rw [List.length_reverse]
  exact Nat.le_trans (List.dropWhile_sublist _).length_le (by simp)
theorem trimR_le (s : ByteArray) : (trimR s).size ≤ s.size := by
  unfold trimR
  rw [Lib.size_mk, Lib.size_eq s]
  exact trimRB_le _ _
/-- a without the blanks at its end, then b, then these blanks. -/
def subT (s s' : ByteArray) : ByteArray := trimR s ++ s' ++ s.extract (trimR s).size s.size
theorem subT_size (s s' : ByteArray) : (subT s s').size = s.size + s'.size := by
  have := trimR_le s
  unfold subT; simp; omega
theorem trimR_any (s : ByteArray) (w : World) (hs : s.size ≤ maxLen) :
    Calls Tryd.prog 68 #[.string s, .string ⟨#[32]⟩] w fun e w' => e = .returned (.string (trimR s)) ∧ w = w' := by
  unfold maxLen at hs
  refine (Tryd.strings_TrimRight_one s 32 (by decide) w (by omega)).mono ?_
  rintro e w' ⟨rfl, rfl⟩; exact ⟨rfl, rfl⟩

set_option maxHeartbeats 1000000 in
set_option maxRecDepth 100000 in
theorem sub_texts (n n' : Int) (s s' : ByteArray) (w : World) (hs : s.size ≤ 2048) (hs' : s'.size ≤ 2048) (hroom : s.size + s'.size ≤ 2048) :
    Calls Tryd.prog 73 #[vv 4 n s, vv 4 n' s'] w fun e w' => e = .returned (.tuple #[vv 4 0 (subT s s'), .int .i64 0]) ∧ Below w.heap.size w w' ∧ w.heap.size < w'.heap.size := by
  go_enter Tryd.func73, Tryd.ntmps73
  go_wp2_with fail
  refine (isPair_any _ _ _ _ _ _ _ _ _).mono ?_
  rintro e w1 ⟨rfl, hb1⟩
  obtain ⟨hc1, hf1⟩ := bcell hb1
  have ha1 : w.heap.size < w1.heap.size := by have := hb1.size; simp at *; omega
  have hd1 : w.heap.size + 1 < w1.heap.size := by have := hb1.size; simp at *; omega
  have he1 : w.heap.size + 1 + 1 < w1.heap.size := by have := hb1.size; simp at *; omega
  go_wp2_with fail
  refine (isPair_any _ _ _ _ _ _ _ _ _).mono ?_
  rintro e w2 ⟨rfl, hb2⟩
  obtain ⟨hc2, hf2⟩ := bcell hb2
  have ha2 : w.heap.size < w2.heap.size := by have := hb2.size; simp at *; omega
  have hd2 : w.heap.size + 1 < w2.heap.size := by have := hb2.size; simp at *; omega
  have he2 : w.heap.size + 1 + 1 < w2.heap.size := by have := hb2.size; simp at *; omega
  go_wp2_with fail
  refine (isPair_any _ _ _ _ _ _ _ _ _).mono ?_
  rintro e w3 ⟨rfl, hb3⟩
  obtain ⟨hc3, hf3⟩ := bcell hb3
  have ha3 : w.heap.size < w3.heap.size := by have := hb3.size; simp at *; omega
  have hd3 : w.heap.size + 1 < w3.heap.size := by have := hb3.size; simp at *; omega
  have he3 : w.heap.size + 1 + 1 < w3.heap.size := by have := hb3.size; simp at *; omega
  go_wp2_with fail
  refine (isPair_any _ _ _ _ _ _ _ _ _).mono ?_
  rintro e w4 ⟨rfl, hb4⟩
  obtain ⟨hc4, hf4⟩ := bcell hb4
  have ha4 : w.heap.size < w4.heap.size := by have := hb4.size; simp at *; omega
  have hd4 : w.heap.size + 1 < w4.heap.size := by have := hb4.size; simp at *; omega
  have he4 : w.heap.size + 1 + 1 < w4.heap.size := by have := hb4.size; simp at *; omega
  go_wp2_with fail
  refine (trimR_any _ _ (by unfold maxLen; omega)).mono ?_
  rintro e w5 ⟨rfl, rfl⟩
  go_wp2_with fail
  have hb5 : Below w.heap.size w w4 := by
    refine ((((((Below.refl _ _).alloc (Nat.le_refl _) _).alloc (by simp) _).alloc (by simp; omega) _).trans (hb1.mono (by simp; omega))).trans (hb2.mono (by omega))).trans ((hb3.mono (by omega)).trans (hb4.mono (by omega)))
  have hts : (trimR s).size ≤ s.size := trimR_le s
  generalize ht : trimR s = t at *
  have HT := Lib.hid ht; clear ht
  have hX : (t ++ s' ++ s.extract t.size s.size).size ≤ 2048 := by simp; omega
  go_region_with (go_at_call 114; refine (text_yes _ _ hX).mono ?_; rintro e w6 ⟨rfl, hb6, hz6⟩; have hb6' : Below w4.heap.size w4 w6 := (Below.drew (Below.refl w4.heap.size w4)).trans hb6; obtain ⟨hc6, hf6⟩ := bcell hb6'; have ha6 : w.heap.size < w6.heap.size := (by have := hb6'.size; omega); have hd6 : w.heap.size + 1 < w6.heap.size := (by have := hb6'.size; omega); have he6 : w.heap.size + 1 + 1 < w6.heap.size := (by have := hb6'.size; omega); clear hb6 hz6)
  all_goals go_wp2
  all_goals refine bodyPost_ret (v := .tuple #[vv 4 0 (t ++ s' ++ s.extract t.size s.size), .int .i64 0]) (by simp [results, Tryd.results73, go_sem, hc1, hc2, hc3, hc4, hc6, he1, he2, he3, he4]) rfl ⟨by unfold subT; rw [HT.out], ?_, ?_⟩
  all_goals first | exact (((hb5.trans (hb6'.mono (by omega))).setCell (by simp; omega) _).setCell (by simp; omega) _).setCell (by simp; omega) _ | (simp; omega)
end Go.Proofs.YtfgadkknfehkcaaDoor
