/- Weight, nulls, Wide and ValidateFields of the reference; ValidateFields of the program over any list. -/
import Derived.Test.YtcgfeeobkoomfaaGreatDoorTbY
namespace Go.Proofs.YtcgfeeobkoomfaaGreatDoor
open Go.RowKit
set_option linter.unusedVariables false
set_option linter.unusedSimpArgs false
set_option maxRecDepth 40000
def Small (l : List F4) : Prop := ∀ f ∈ l, f.1.size ≤ 10
/-- A table with these fields and no record. -/
abbrev tf (A : Option Addr) (n c : Nat) : Value := .agg #[.int .i64 0, .slice A n c, .slice none 0 0]
theorem wrap_le {m : Int} (h : 0 ≤ m) (h' : m ≤ 9223372036854775807) : wrap64 m = m := by unfold wrap64; omega
set_option maxHeartbeats 2000000 in
theorem Weight_any (A : Option Addr) (c : Nat) (l : List F4) (w : World) (hl : l.length ≤ 140737488355328) (h : FdA w A l) :
    Calls Tryz.prog 36 #[tf A l.length c] w fun e w' => (∃ m, e = .returned (.int .i64 m) ∧ (Small l → 16 * (l.length : Int) ≤ m ∧ m ≤ 26 * (l.length : Int))) ∧ Below w.heap.size w w' := by
  have hb0 : Below w.heap.size w (w.alloc (.cells #[.int .i64 0, .slice A l.length c, .slice none 0 0] 25)) := (Below.refl _ _).alloc (Nat.le_refl _) _
  have HB0 := Lib.hid hb0
  have HA := Lib.hid (h.below hb0)
  have hm : wrap64 (16 * (l.length : Int)) = 16 * (l.length : Int) := wrap_le (by omega) (by omega)
  have HM := Lib.hid hm
  clear hb0 hm
  go_enter Tryz.func36, Tryz.ntmps36
  go_wp2_with fail
  go_loop [3, 4] (fun u i => ∃ k : Nat, k ≤ l.length ∧ i = .int .i64 k ∧ ∃ m, u = .int .i64 m ∧ (Small l → 16 * (l.length : Int) ≤ m ∧ m ≤ 16 * (l.length : Int) + 10 * (k : Int))) (fun _ i => l.length - (intOf i).toNat)
  case atStart =>
    refine ⟨0, by omega, rfl, _, rfl, fun _ => ?_⟩
    have := HM.out
    first
      | omega
      | (rw [this]; omega)
      | trace_state
  case round =>
    obtain ⟨k, hk, rfl, m, rfl, hi⟩ := hrel
    have HI := Lib.hid hi; clear hi
    by_cases hlt : k < l.length
    · obtain ⟨b, off, rfl, hf⟩ := HA.out (ne_of_lt hlt)
      have hbr := hf.1
      obtain ⟨c0, c1, c2, c3⟩ := hf.2 k hlt
      have HS : Hid (Small l → (l[k].1.size : Int) ≤ 10) := Lib.hid (fun q => by have := q _ (List.getElem_mem hlt); omega)
      generalize l[k] = f at *
      obtain ⟨nm, fk, wd, nu⟩ := f
      simp only at HS c0 c1 c2 c3
      clear hf
      go_wp2_with fail
      refine ⟨⟨k + 1, by omega, by go_num, _, rfl, fun q => ?_⟩, by simp [intOf]; omega⟩
      have h1 := HI.out q
      have h2 := HS.out q
      have e : wrap64 (m + (nm.size : Int)) = m + nm.size := wrap_le (by omega) (by omega)
      first
        | (rw [e]; omega)
        | (simp only [IntKind.wrap_i64'] at *; omega)
        | trace_state
    · have hkl : k = l.length := by omega
      subst hkl
      go_wp2_with fail
      go_loop [5, 3] (fun i u => i = .int .i64 0 ∧ u = .int .i64 m) (fun i u => 0)
      case atStart => exact ⟨rfl, rfl⟩
      case round =>
        obtain ⟨rfl, rfl⟩ := hrel
        go_wp2_with fail
        go_ret
        exact ⟨⟨m, rfl, fun q => by have := HI.out q; omega⟩, HB0.out⟩
set_option maxHeartbeats 2000000 in
theorem nulls_any (A : Option Addr) (c : Nat) (l : List F4) (w : World) (hl : l.length ≤ 200000) (h : FdA w A l) :
    Calls Tryz.prog 50 #[.slice A l.length c] w fun e w' => e = .returned (.int .i64 (flgN l)) ∧ w = w' := by
  go_enter Tryz.func50, Tryz.ntmps50
  go_wp2_with fail
  go_loop [3, 4] (fun n i => ∃ k : Nat, k ≤ l.length ∧ i = .int .i64 k ∧ n = .int .i64 (nulN (l.take k))) (fun _ i => l.length - (intOf i).toNat)
  case atStart => exact ⟨0, by omega, rfl, rfl⟩
  case round =>
    obtain ⟨k, hk, rfl, rfl⟩ := hrel
    have hnk : nulN (l.take k) ≤ 200000 := Nat.le_trans (nulN_le _) (by rw [List.length_take]; omega)
    by_cases hlt : k < l.length
    · obtain ⟨b, off, rfl, hf⟩ := h (ne_of_lt hlt)
      have hbr := hf.1
      obtain ⟨c0, c1, c2, c3⟩ := hf.2 k hlt
      have HS := Lib.hid (nulN_step hlt)
      generalize l[k] = f at *
      obtain ⟨nm, fk, wd, nu⟩ := f
      simp only at HS c0 c1 c2 c3
      generalize nulN (l.take k) = q at *
      clear hf
      cases nu
      · go_wp2_with fail
        exact ⟨⟨k + 1, by omega, by go_num, by rw [HS.out]; simp⟩, by simp [intOf]; omega⟩
      · go_wp2_with fail
        exact ⟨⟨k + 1, by omega, by go_num, by rw [HS.out]; simp⟩, by simp [intOf]; omega⟩
    · have hkl : k = l.length := by omega
      subst hkl
      rw [List.take_length] at hnk ⊢
      have hv : flgN l = ((nulN l : Int) + 7) / 8 := rfl
      have HV := Lib.hid hv; clear hv
      generalize nulN l = q at *
      go_wp2_with fail
      go_ret
      exact ⟨by rw [HV.out]; first | rfl | (congr 1; go_num), rfl⟩
set_option maxHeartbeats 2000000 in
theorem Wide_any (A : Option Addr) (c : Nat) (l : List F4) (w : World) (hl : l.length ≤ 200000) (hw : Wds l) (h : FdA w A l) :
    Calls Tryz.prog 48 #[.slice A l.length c] w fun e w' => e = .returned (.int .i64 (lenN l)) ∧ w = w' := by
  have CF := Lib.hid (fun W hW => nulls_any A c l W hl hW)
  obtain ⟨g1, g2⟩ := flgN_bd l
  have hv : lenN l = 1 + flgN l + sumN l := rfl
  have HV := Lib.hid hv; clear hv
  generalize flgN l = fl at *
  go_enter Tryz.func48, Tryz.ntmps48
  go_wp2_with fail
  refine (CF.out _ h).mono ?_
  rintro e w1 ⟨rfl, rfl⟩
  go_wp2_with fail
  go_loop [3, 4] (fun n i => ∃ k : Nat, k ≤ l.length ∧ i = .int .i64 k ∧ n = .int .i64 (1 + fl + sumN (l.take k))) (fun _ i => l.length - (intOf i).toNat)
  case atStart => exact ⟨0, by omega, rfl, by simp [sumN]; try go_num⟩
  case round =>
    obtain ⟨k, hk, rfl, rfl⟩ := hrel
    have hwk : Wds (l.take k) := fun f hf => hw f (List.mem_of_mem_take hf)
    obtain ⟨s1, s2⟩ := sumN_bd hwk
    have s3 : sumN (l.take k) ≤ 254 * 200000 := by rw [List.length_take] at s2; omega
    clear s2
    by_cases hlt : k < l.length
    · obtain ⟨b, off, rfl, hf⟩ := h (ne_of_lt hlt)
      have hbr := hf.1
      obtain ⟨c0, c1, c2, c3⟩ := hf.2 k hlt
      have HS := Lib.hid (sumN_step hlt)
      obtain ⟨d1, d2⟩ := hw _ (List.getElem_mem hlt)
      generalize l[k] = f at *
      obtain ⟨nm, fk, wd, nu⟩ := f
      simp only at HS c0 c1 c2 c3 d1 d2
      generalize sumN (l.take k) = q at *
      clear hf
      go_wp2_with fail
      exact ⟨⟨k + 1, by omega, by go_num, by rw [HS.out]; first | (go_num; done) | (congr 1; omega)⟩, by simp [intOf]; omega⟩
    · have hkl : k = l.length := by omega
      subst hkl
      go_wp2_with fail
      go_ret
      exact ⟨by rw [HV.out]; first | rfl | (rw [List.take_length]; rfl), rfl⟩
end Go.Proofs.YtcgfeeobkoomfaaGreatDoor
