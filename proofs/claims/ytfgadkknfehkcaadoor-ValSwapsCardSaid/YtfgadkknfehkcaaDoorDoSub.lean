/- Do of a difference of two texts. -/
import Derived.Test.YtfgadkknfehkcaaDoorSub
import Derived.Laws.EntriesVeiled
import Derived.Deep.RegionHeld3
import Derived.Deep.DrawnRows
namespace Go.Proofs.YtfgadkknfehkcaaDoor
open Go.RowKit
set_option linter.unusedVariables false

attribute [local go_sem ↓] Go.wp_at_zero Go.wp_at_succ

theorem vE_text (s : ByteArray) (h : s.size ≤ 2048) : vE 4 0 s = 0 := by
  unfold vE isV; rw [if_neg (by omega)]; simp

set_option maxHeartbeats 1000000 in
set_option maxRecDepth 100000 in
theorem do_sub_texts (s s' : ByteArray) (w : World) (hs : s.size ≤ 2048) (hs' : s'.size ≤ 2048) (hroom : s.size + s'.size ≤ 2048) :
    Calls Tryd.prog 25 #[.int .i64 1, vv 4 0 s, vv 4 0 s'] w fun e w' => e = .returned (.tuple #[vv 4 0 (subT s s'), .int .i64 0, .int .i64 0]) ∧ Below w.heap.size w w' ∧ w.heap.size < w'.heap.size := by
  have hv : (if vE 4 0 s = 0 then vE 4 0 s' else vE 4 0 s) = 0 := by rw [vE_text s hs, vE_text s' hs']; rfl
  have HV := Lib.hid hv; clear hv
  go_enter Tryd.func25, Tryd.ntmps25
  go_wp2_with fail
  refine (both_any _ _ _ _ _ _ _ (by unfold maxLen; omega) (by unfold maxLen; omega)).mono ?_
  rintro e w1 ⟨rfl, hb1⟩
  rw [HV.out]
  obtain ⟨hc1, hf1⟩ := bcell hb1
  have ha1 : w.heap.size < w1.heap.size := by have := hb1.size; simp at *; omega
  have hd1 : w.heap.size + 1 < w1.heap.size := by have := hb1.size; simp at *; omega
  have he1 : w.heap.size + 1 + 1 < w1.heap.size := by have := hb1.size; simp at *; omega
  have hb1' : Below w.heap.size w w1 := by
    refine ((((Below.refl _ _).alloc (Nat.le_refl _) _).alloc (by simp) _).alloc (by simp; omega) _).trans (hb1.mono (by simp; omega))
  have k0 : w1.cell? ⟨w.heap.size, 0, none⟩ = some (.int .i64 4) := by go_simp
  have k1 : w1.cell? ⟨w.heap.size, 1, none⟩ = some (.int .i64 0) := by go_simp
  have k2 : w1.cell? ⟨w.heap.size, 2, none⟩ = some (.string s) := by go_simp
  have k3 : w1.cell? ⟨w.heap.size + 1, 0, none⟩ = some (.int .i64 4) := by go_simp
  have k4 : w1.cell? ⟨w.heap.size + 1, 1, none⟩ = some (.int .i64 0) := by go_simp
  have k5 : w1.cell? ⟨w.heap.size + 1, 2, none⟩ = some (.string s') := by go_simp
  have ha1' : w.heap.size < w1.heap.size + 1 := by omega
  have ha1'' : w.heap.size < w1.heap.size + 1 + 1 := by omega
  have hd1' : w.heap.size + 1 < w1.heap.size + 1 := by omega
  have hd1'' : w.heap.size + 1 < w1.heap.size + 1 + 1 := by omega
  have he1' : w.heap.size + 1 + 1 < w1.heap.size + 1 := by omega
  have he1'' : w.heap.size + 1 + 1 < w1.heap.size + 1 + 1 := by omega
  have r0 : w1.cell? ⟨w.heap.size + 1 + 1, 0, none⟩ = some (.int .i64 0) := by go_simp
  have r1 : w1.cell? ⟨w.heap.size + 1 + 1, 1, none⟩ = some (.int .i64 0) := by go_simp
  have r2 : w1.cell? ⟨w.heap.size + 1 + 1, 2, none⟩ = some (.string nos) := by go_simp
  have n0 : w1.heap.size ≠ w.heap.size := by omega
  have n1 : w1.heap.size ≠ w.heap.size + 1 := by omega
  have n2 : w1.heap.size + 1 ≠ w.heap.size := by omega
  have n3 : w1.heap.size + 1 ≠ w.heap.size + 1 := by omega
  go_wp2_with fail
  go_region_held3 (fun x => x.cell? ⟨w.heap.size, 0, none⟩ = some (.int .i64 4) ∧ x.cell? ⟨w.heap.size, 1, none⟩ = some (.int .i64 0) ∧ x.cell? ⟨w.heap.size, 2, none⟩ = some (.string s) ∧ x.cell? ⟨w.heap.size + 1, 0, none⟩ = some (.int .i64 4) ∧ x.cell? ⟨w.heap.size + 1, 1, none⟩ = some (.int .i64 0) ∧ x.cell? ⟨w.heap.size + 1, 2, none⟩ = some (.string s') ∧ x.cell? ⟨w1.heap.size, 1, none⟩ = some (.func (Fn.func 73) #[] #[])) (go_keep)
    (first | (go_at_call 73; refine (sub_texts 0 0 s s' _ hs hs' hroom).mono ?_; rintro e w3 ⟨rfl, hb3, hz3⟩; obtain ⟨hc3, hf3⟩ := bcell hb3; have hk3 := hb3.size; simp at hk3; have hq3 : w3.cell? ⟨w1.heap.size, 1, none⟩ = some (.func (Fn.func 73) #[] #[]) := (by rw [hc3 _ _ (by (try simp) <;> omega)]; go_simp); have ha3 : w.heap.size < w3.heap.size := (by omega); have hd3 : w.heap.size + 1 < w3.heap.size := (by omega); have he3 : w.heap.size + 1 + 1 < w3.heap.size := (by omega); have hl3 : w1.heap.size < w3.heap.size := (by omega); try (have hm3 : w1.heap.size + 1 < w3.heap.size := (by omega)); clear hz3))
  all_goals go_wp2
  all_goals
    have q0 : w3.cell? ⟨w.heap.size + 1 + 1, 0, none⟩ = some (.int .i64 0) := by rw [hc3 _ _ (by (try simp) <;> omega)]; go_simp
    have q1 : w3.cell? ⟨w.heap.size + 1 + 1, 1, none⟩ = some (.int .i64 0) := by rw [hc3 _ _ (by (try simp) <;> omega)]; go_simp
    have q2 : w3.cell? ⟨w.heap.size + 1 + 1, 2, none⟩ = some (.string nos) := by rw [hc3 _ _ (by (try simp) <;> omega)]; go_simp
    have hbw : Below w.heap.size w w3 := by
      refine Below.trans ?_ (hb3.mono (by (try simp) <;> omega))
      repeat (first | (with_reducible exact hb1') | (with_reducible refine Below.drew ?_) | (with_reducible refine Below.alloc ?_ (by (try simp) <;> omega) _))
    refine bodyPost_ret (v := .tuple #[vv 4 0 (subT s s'), .int .i64 0, .int .i64 0]) (by go_simp; simp [results, Tryd.results25, go_sem, q0, q1, q2, he3]) rfl ⟨rfl, ?_, ?_⟩
    · repeat (first | (with_reducible exact hbw) | (with_reducible refine Below.setCell ?_ (by (try simp) <;> omega) _) | (with_reducible refine Below.alloc ?_ (by (try simp) <;> omega) _))
    · simp <;> omega
end Go.Proofs.YtfgadkknfehkcaaDoor
