/- The walks of Months of the program. -/
import Derived.Test.YtfgadkknfehkcaaDoorSplit
namespace Go.Proofs.YtfgadkknfehkcaaDoor
open Go.RowKit
set_option linter.unusedVariables false

theorem ok_month (Y M d : Int) (h1 : 1 ≤ Y) (h2 : Y ≤ 9999) (h3 : 1 ≤ M) (h4 : M ≤ 12) (h5 : 1 ≤ d) : Cal.Ok Y M (min d (Cal.ml Y M)) := by
  have := Cal.ml_bd Y M
  refine ⟨h1, h2, h3, h4, ?_, ?_⟩ <;> omega

set_option maxHeartbeats 1000000 in
theorem months_yes (y m d n day k : Int) (w : World) (h : Cal.Ok y m d) (hn : Cal.num y m d = day) (r1 : -119988 ≤ n) (r2 : n ≤ 119988) (hk : y * 12 + m - 1 + n = k) (k1 : 12 ≤ k) (k2 : k < 120000) (ht : Tab w) :
    Calls Tryd.prog 42 #[.int .i64 day, .int .i64 n] w fun e w' => e = .returned (.tuple #[.int .i64 (Cal.num (k / 12) (k % 12 + 1) (min d (Cal.ml (k / 12) (k % 12 + 1)))), .int .i64 0]) ∧ w = w' := by
  have hb := Cal.num_bd h
  rw [hn] at hb
  have hv : decide (0 ≤ day ∧ day ≤ 3652059) = true := by simp; omega
  have HN := Lib.hid hn; clear hn
  have d0 : (day == 0) = false := by simp; omega
  have hok := ok_month (k / 12) (k % 12 + 1) d (by omega) (by omega) (by omega) (by omega) (by have := h.2.2.2.2.1; omega)
  have HOK := Lib.hid hok; clear hok
  have HH := Lib.hid h
  obtain ⟨a, b, c, e, f, g⟩ := h
  have hd := Cal.ml_bd y m
  have hd2 := Cal.ml_bd (k / 12) (k % 12 + 1)
  have HK := Lib.hid hk; clear hk
  have hk' : IntKind.i64.wrap (IntKind.i64.wrap (IntKind.i64.wrap (IntKind.i64.wrap (y * 12) + m) - 1) + n) = k := by
    have e1 : IntKind.i64.wrap (y * 12) = y * 12 := IntWalk.i64_in _ (by omega)
    have e2 : IntKind.i64.wrap (y * 12 + m) = y * 12 + m := IntWalk.i64_in _ (by omega)
    have e3 : IntKind.i64.wrap (y * 12 + m - 1) = y * 12 + m - 1 := IntWalk.i64_in _ (by omega)
    rw [e1, e2, e3, HK.out]; exact IntWalk.i64_in _ (by omega)
  clear hk'
  go_enter Tryd.func42, Tryd.ntmps42
  go_wp2_with fail
  refine (isDay_any _ _).mono ?_
  rintro e w' ⟨rfl, rfl⟩
  rw [hv]; clear hv
  go_wp2_with fail
  refine (split_of y m d day _ HH.out HN.out ht).mono ?_
  rintro e w' ⟨rfl, rfl⟩
  have HK2 := HK.out
  go_wp2_with fail
  refine (monthLength_any _ _ _ (by omega) (by omega) (by omega) (by omega) ht).mono ?_
  rintro e w' ⟨rfl, rfl⟩
  go_wp2_with fail
  all_goals first
    | (have e1 : min d (Cal.ml (k / 12) (k % 12 + 1)) = d := (by omega)
       rw [e1] at HOK
       have E1 := Lib.hid e1
       refine (days_yes _ _ _ _ HOK.out ht).mono ?_
       rintro e w' ⟨rfl, rfl⟩
       go_wp2_with fail
       go_ret2
       exact ⟨by rw [E1.out]; rfl, rfl⟩)
    | (have e1 : min d (Cal.ml (k / 12) (k % 12 + 1)) = Cal.ml (k / 12) (k % 12 + 1) := (by omega)
       rw [e1] at HOK
       have E1 := Lib.hid e1
       refine (days_yes _ _ _ _ HOK.out ht).mono ?_
       rintro e w' ⟨rfl, rfl⟩
       go_wp2_with fail
       go_ret2
       exact ⟨by rw [E1.out]; rfl, rfl⟩)
end Go.Proofs.YtfgadkknfehkcaaDoor
