/- known; how many blocks a text needs. -/
import Derived.Test.YtkjbkiiddnkmaaaMmI
namespace Go.Proofs.Ytkjbkiiddnkmaaa
open Go.RowKit Go.Shelf
set_option linter.unusedVariables false
set_option linter.unusedSimpArgs false
set_option maxRecDepth 100000

theorem few_one (s : ByteArray) : Few [((1 : Int), false, s)] := fun k hk => by
  have h : k = 0 ∨ k = 1 := by simp at hk; omega
  rcases h with rfl | rfl <;> simp [atE]
theorem get_one {s t : ByteArray} {e : Int} (h : GetP [((1 : Int), false, s)] 1 t e) : e = 0 ∧ t = s := by
  rcases h with ⟨he, x, _, hx⟩ | ⟨_, _, h⟩
  · refine ⟨he, ?_⟩
    obtain ⟨x, hl⟩ := x
    obtain rfl : x = 0 := by simp at hl; omega
    exact hx
  · have := h ⟨0, by simp⟩
    simp [matchE, atE] at this
set_option maxHeartbeats 4000000 in
theorem known_any (w : World) : Calls Try.prog 10 #[] w fun e w' => e = .returned (.bool true) ∧ Below w.heap.size w w' := by
  have n1 : ndV 16 4 = 1 := by decide
  have n2 : ndE 16 4 = 0 := by decide
  have n3 : ndV 16 5 = 2 := by decide
  have n4 : ndE 16 5 = 0 := by decide
  have C1 := Lib.hid (fun W => Needs_any 16 4 W)
  have C2 := Lib.hid (fun W => Needs_any 16 5 W)
  rw [n1, n2] at C1
  rw [n3, n4] at C2
  clear n1 n2 n3 n4
  have C3 := Lib.hid (New_any 16 w (by decide))
  have hm := Mm.new w 16 76
  have C4 := Lib.hid (Put_nil w.heap.size w.heap.size 16 ⟨#[97]⟩ _ (Nat.le_refl _) (by omega) (by omega) (by decide) hm)
  have hk : ndN 16 (ByteArray.size ⟨#[97]⟩ : Nat) = 1 := by decide
  rw [hk] at C4
  clear hk
  go_enter Try.func10, Try.ntmps10
  go_wp2_with fail
  refine (C1.out _).mono ?_
  rintro e w' ⟨rfl, rfl⟩
  go_wp2_with fail
  refine (C2.out _).mono ?_
  rintro e w' ⟨rfl, rfl⟩
  go_wp2_with fail
  refine C3.out.mono ?_
  rintro e w' ⟨rfl, rfl⟩
  go_wp2_with fail
  refine C4.out.mono ?_
  rintro e w2 ⟨b, cap, rfl, hb2, hm2, he2, hbs, hbg⟩
  have C5 := Lib.hid (Get_any w.heap.size w.heap.size b cap 16 [((1 : Int), false, (⟨#[97]⟩ : ByteArray))] 1 w2 (Nat.le_refl _) (by omega) (few_one _) (by simp) hm2 hbs hbg he2)
  have hb0 : Below w.heap.size w w2 := ((Below.refl _ w).alloc (Nat.le_refl _) _).trans hb2
  have hb0' := Lib.hid hb0
  clear hb0 hb2 hm2 he2 hm
  go_wp2_with fail
  refine C5.out.mono ?_
  rintro e w3 ⟨t, er, rfl, hg, hb3, _, _⟩
  obtain ⟨rfl, rfl⟩ := get_one hg
  go_wp2_with fail
  go_ret
  exact ⟨rfl, hb0'.out.trans hb3⟩
set_option maxHeartbeats 4000000 in
theorem MemoNeeds_any (z n : Int) (w : World) : Calls Try.prog 5 #[.int .i64 z, .int .i64 n] w fun e w' => e = .returned (.bool true) ∧ Below w.heap.size w w' := by
  have C1 := Lib.hid (fun W => Needs_any z n W)
  have C2 := Lib.hid (fun W => refNeeds_any z n W)
  have C3 := Lib.hid (fun W => known_any W)
  generalize ndV z n = a at C1 C2
  generalize ndE z n = f at C1 C2
  go_enter Try.func5, Try.ntmps5
  go_wp2_with fail
  refine (C1.out _).mono ?_
  rintro e w' ⟨rfl, rfl⟩
  go_wp2_with fail
  refine (C2.out _).mono ?_
  rintro e w' ⟨rfl, rfl⟩
  go_wp2_with fail
  refine (C3.out _).mono ?_
  rintro e w' ⟨rfl, hb⟩
  go_wp2_with fail
  go_ret
  exact ⟨rfl, hb⟩
end Go.Proofs.Ytkjbkiiddnkmaaa
