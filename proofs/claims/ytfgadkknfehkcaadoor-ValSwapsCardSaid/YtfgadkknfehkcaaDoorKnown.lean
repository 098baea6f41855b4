/- The walk of known of the program: one sum of texts, one date. -/
import Derived.Test.YtfgadkknfehkcaaDoorMonths
import Derived.Test.YtfgadkknfehkcaaDoorDoSub
namespace Go.Proofs.YtfgadkknfehkcaaDoor
open Go.RowKit
set_option linter.unusedVariables false

theorem Tab.pos {w : World} (h : Tab w) : 0 < w.heap.size := by
  have := h 1 (by omega) (by omega)
  refine Nat.pos_of_ne_zero fun hz => ?_
  simp [World.cell?, hz] at this

theorem known_sub : subT ⟨#[97, 98, 32, 32]⟩ ⟨#[99]⟩ = ⟨#[97, 98, 99, 32, 32]⟩ := by decide
theorem known_num1 : Cal.num 2024 1 31 = 738916 := by decide
theorem known_num2 : Cal.num 2024 2 29 = 738945 := by decide
theorem known_ok1 : Cal.Ok 2024 1 31 := by unfold Cal.Ok; decide
theorem known_ok2 : Cal.Ok 2024 2 29 := by unfold Cal.Ok; decide

set_option maxHeartbeats 1000000 in
theorem known_any (w : World) (ht : Tab w) :
    Calls Tryd.prog 16 #[] w fun e w' => e = .returned (.bool true) ∧ Below w.heap.size w w' := by
  have hp := ht.pos
  have HT := Lib.hid ht; clear ht
  go_enter Tryd.func16, Tryd.ntmps16
  go_wp2_with fail
  refine (Text_any _ _).mono ?_
  rintro e w1 ⟨rfl, hb1, hz1⟩
  go_wp2_with fail
  refine (Text_any _ _).mono ?_
  rintro e w2 ⟨rfl, hb2, hz2⟩
  go_wp2_with fail
  refine (do_sub_texts _ _ _ (by decide) (by decide) (by decide)).mono ?_
  rintro e w3 ⟨rfl, hb3, hz3⟩
  rw [known_sub]
  have hb : Below w.heap.size w w3 := (hb1.trans (hb2.mono (by omega))).trans (hb3.mono (by omega))
  have hz : w.heap.size < w3.heap.size := by omega
  go_wp2_with fail
  have ht3 : Tab (w3.alloc (.cells #[.int .i64 4, .int .i64 0, .string ⟨#[97, 98, 99, 32, 32]⟩] 23)) :=
    (HT.out.below hb hp).below ((Below.refl _ _).alloc (Nat.le_refl _) _) (by omega)
  refine (days_yes 2024 1 31 _ known_ok1 ht3).mono ?_
  rintro e w' ⟨rfl, rfl⟩
  rw [known_num1]
  go_wp2_with fail
  refine (months_yes 2024 1 31 1 738916 24289 _ known_ok1 known_num1 (by decide) (by decide) (by decide) (by decide) (by decide) ht3).mono ?_
  rintro e w' ⟨rfl, rfl⟩
  rw [show Cal.num (24289 / 12) (24289 % 12 + 1) (min 31 (Cal.ml (24289 / 12) (24289 % 12 + 1))) = 738945 from by decide]
  go_wp2_with fail
  refine (Split_of 2024 2 29 738945 _ known_ok2 known_num2 ht3).mono ?_
  rintro e w' ⟨rfl, rfl⟩
  go_wp2_with fail
  go_ret
  exact ⟨rfl, hb.alloc (by omega) _⟩
end Go.Proofs.YtfgadkknfehkcaaDoor
