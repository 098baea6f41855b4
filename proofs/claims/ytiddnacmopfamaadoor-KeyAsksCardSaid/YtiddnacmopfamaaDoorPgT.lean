/- The tables of capitals and of accents, and upper of the program. -/
import Derived.Test.YtiddnacmopfamaaDoorPgM
import Derived.WalkKit
import Derived.WalkSpells
import Derived.WalkLawsBesides
import Derived.Lib.Hide
import Derived.Below
namespace Go.Proofs.YtiddnacmopfamaaDoor
open Go.RowKit
set_option linter.unusedVariables false
set_option linter.unusedSimpArgs false

def casesL : List Int := [65, 90, 32, 1, 0, 0, 1, 0, 0, 65, 90, 32, 192, 222, 32, 1, 0, 0, 65, 90, 32, 128, 143, 32, 144, 159, 80]
def accL : List Int := [192, 197, 65, 199, 199, 67, 200, 203, 69, 204, 207, 73, 209, 209, 78, 210, 214, 79, 217, 220, 85, 221, 221, 89, 1, 0, 0]
/-- The tables lie in their variables. -/
structure Tabs (w : World) : Prop where
  cs : ∀ i, i < 27 → w.cell? ⟨1, i, none⟩ = some (.int .u8 (casesL.getD i 0))
  ac : ∀ i, i < 27 → w.cell? ⟨0, i, none⟩ = some (.int .u8 (accL.getD i 0))
  pos : 2 ≤ w.heap.size
theorem Tabs.below {w w' : World} {B : Nat} (h : Tabs w) (hb : Below B w w') (hB : w.heap.size ≤ B) : Tabs w' where
  cs i hi := by rw [hb.cell (p := ⟨1, i, none⟩) (by have := h.pos; simp only; omega)]; exact h.cs i hi
  ac i hi := by rw [hb.cell (p := ⟨0, i, none⟩) (by have := h.pos; simp only; omega)]; exact h.ac i hi
  pos := by have := h.pos; have := hb.size; omega

set_option maxHeartbeats 1000000 in
theorem isTimes_any (b p : Nat) (w : World) : Calls Tryd.prog 128 #[.int .u8 b, .int .i64 p] w fun e w' => e = .returned (.bool (decide (p = 1) && decide (b = 215))) ∧ w = w' := by
  by_cases hp : p = 1
  · by_cases hb : b = 215
    · subst hp hb
      go_enter Tryd.func128, Tryd.ntmps128
      go_wp2
      go_ret
      exact ⟨rfl, rfl⟩
    · have d1 : decide (b = 215) = false := by simpa using hb
      have d : ((b : Int) == 215) = false := by simp; omega
      rw [d1]
      subst hp
      clear hb d1
      go_enter Tryd.func128, Tryd.ntmps128
      go_wp2
      go_ret
      exact ⟨rfl, rfl⟩
  · have d1 : decide (p = 1) = false := by simpa using hp
    have d : ((p : Int) == 1) = false := by simp; omega
    rw [d1]
    clear hp d1
    go_enter Tryd.func128, Tryd.ntmps128
    go_wp2
    go_ret
    exact ⟨rfl, rfl⟩

theorem up_step (p b k : Nat) (hk : k < 3) : upFrom p b k (3 - k) = if hitUp p b k then (b + 256 - (caseRow p k).2.2) % 256 else upFrom p b (k + 1) (3 - (k + 1)) := by
  rw [show 3 - k = (3 - (k + 1)) + 1 by omega]; rfl
theorem low_step (p b k : Nat) (hk : k < 3) : lowFrom p b k (3 - k) = if hitLow p b k then (b + (caseRow p k).2.2) % 256 else lowFrom p b (k + 1) (3 - (k + 1)) := by
  rw [show 3 - k = (3 - (k + 1)) + 1 by omega]; rfl
theorem up_eq {p b : Nat} (hb : b < 256) (hp : p < 3) : upFrom p b 0 3 = upN p b := (up_tab ⟨p, hp⟩ ⟨b, hb⟩).1
theorem low_eq {p b : Nat} (hb : b < 256) (hp : p < 3) : lowFrom p b 0 3 = lowN p b := (up_tab ⟨p, hp⟩ ⟨b, hb⟩).2.1
theorem row_small (p k : Nat) : (caseRow p k).1 < 256 ∧ (caseRow p k).2.1 < 256 ∧ (caseRow p k).2.2 < 256 := by
  unfold caseRow; split
  · simp
  · split
    · split
      · simp
      · split <;> simp
    · split <;> simp
theorem hit_cases (p c lo hi : Nat) {h : Bool} (e : h = (decide (lo ≤ c) && decide (c ≤ hi) && !(decide (p = 1) && decide (c = 215)))) :
    (¬ lo ≤ c ∧ h = false) ∨ (lo ≤ c ∧ ¬ c ≤ hi ∧ h = false) ∨ (lo ≤ c ∧ c ≤ hi ∧ (decide (p = 1) && decide (c = 215)) = true ∧ h = false) ∨ (lo ≤ c ∧ c ≤ hi ∧ (decide (p = 1) && decide (c = 215)) = false ∧ h = true) := by
  subst e
  by_cases a : lo ≤ c
  · by_cases b : c ≤ hi
    · cases t : (decide (p = 1) && decide (c = 215))
      · exact .inr (.inr (.inr ⟨a, b, rfl, by simp [a, b]⟩))
      · exact .inr (.inr (.inl ⟨a, b, rfl, by simp⟩))
    · exact .inr (.inl ⟨a, b, by simp [b]⟩)
  · exact .inl ⟨a, by simp [a]⟩

def rowsV (p : Nat) : Array Value := ((List.range 9).map fun j => Value.int .u8 (casesL.getD (9 * p + j) 0)).toArray
theorem row_idx (p k : Nat) (hp : p < 3) (hk : k < 3) (w : World) : (Instr.index 157 (.agg (rowsV p)) (.int .i64 k)).run Tryd.prog w = .ok (.agg #[.int .u8 (caseRow p k).1, .int .u8 (caseRow p k).2.1, .int .u8 (caseRow p k).2.2]) w := by
  rcases (show p = 0 ∨ p = 1 ∨ p = 2 by omega) with rfl | rfl | rfl <;> rcases (show k = 0 ∨ k = 1 ∨ k = 2 by omega) with rfl | rfl | rfl <;>
    simp [Instr.index, asIntOf, run_underlying Tryd.underlying157, go_sem, rowsV, casesL, caseRow, List.range, List.range.loop]

set_option maxHeartbeats 2000000 in
theorem upper_any (b p : Nat) (hb : b < 256) (hp : p < 3) (w : World) (ht : Tabs w) :
    Calls Tryd.prog 119 #[.int .u8 b, .int .i64 p] w fun e w' => e = .returned (.int .u8 (upN p b)) ∧ Below w.heap.size w w' := by
  have HT := Lib.hid ht; clear ht
  rcases (show p = 0 ∨ p = 1 ∨ p = 2 by omega) with rfl | rfl | rfl
  · have hidx := fun (k : Nat) (hk : k < 3) (W : World) => row_idx 0 k (by omega) hk W
    have h0 := HT.out.cs 0 (by omega)
    have h1 := HT.out.cs 1 (by omega)
    have h2 := HT.out.cs 2 (by omega)
    have h3 := HT.out.cs 3 (by omega)
    have h4 := HT.out.cs 4 (by omega)
    have h5 := HT.out.cs 5 (by omega)
    have h6 := HT.out.cs 6 (by omega)
    have h7 := HT.out.cs 7 (by omega)
    have h8 := HT.out.cs 8 (by omega)
    simp only [casesL, List.getD_cons_zero, List.getD_cons_succ] at h0 h1 h2 h3 h4 h5 h6 h7 h8
    simp only [rowsV, casesL, List.range, List.range.loop, List.map_cons, List.map_nil, List.getD_cons_zero, List.getD_cons_succ, Nat.reduceMul, Nat.reduceAdd, Nat.zero_add, Nat.add_zero] at hidx
    change Calls Tryd.prog 119 #[.int .u8 b, .int .i64 0] w _
    go_enter Tryd.func119, Tryd.ntmps119
    go_wp2_with fail
    clear h0 h1 h2 h3 h4 h5 h6 h7 h8
    have HIX := Lib.hid hidx; clear hidx
    go_loopw [11] (fun i wr => ∃ k : Nat, k ≤ 3 ∧ i = .int .i64 k ∧ upFrom 0 b k (3 - k) = upN 0 b ∧ Below w.heap.size w wr) (fun i _ => 3 - (intOf i).toNat)
    case atStart => exact ⟨0, by omega, rfl, up_eq hb (by omega), Below.refl _ _⟩
    case round =>
      obtain ⟨k, hk, rfl, hup, hbel⟩ := hrel
      have HB := Lib.hid hbel; clear hbel
      by_cases hlt : k < 3
      · have hix := HIX.out k hlt
        have hst := up_step 0 b k hlt
        rw [hup] at hst
        obtain ⟨r1, r2, r3⟩ := row_small 0 k
        have hcs := hit_cases 0 ((b + 256 - (caseRow 0 k).2.2) % 256) (caseRow 0 k).1 (caseRow 0 k).2.1 (h := hitUp 0 b k) rfl
        generalize (caseRow 0 k).1 = lo at *
        generalize (caseRow 0 k).2.1 = hi at *
        generalize (caseRow 0 k).2.2 = d at *
        have hce : ((b : Int) - d) % 256 = (((b + 256 - d) % 256 : Nat) : Int) := by omega
        have hcl : (b + 256 - d) % 256 < 256 := Nat.mod_lt _ (by omega)
        generalize (b + 256 - d) % 256 = c at *
        have HST := Lib.hid hst; clear hst hup
        have HCE := Lib.hid hce; clear hce
        rcases hcs with ⟨q1, q2⟩ | ⟨q1, q2, q3⟩ | ⟨q1, q2, q3, q4⟩ | ⟨q1, q2, q3, q4⟩
        · have hn : upFrom 0 b (k + 1) (3 - (k + 1)) = upN 0 b := by have h := HST.out; rw [q2] at h; exact h.symm
          have HN := Lib.hid hn; clear hn HST q2
          have i1 : ¬ (lo : Int) ≤ c := by omega
          have hce := HCE.out
          go_wp2_with fail
          exact ⟨⟨k + 1, by omega, rfl, HN.out, HB.out.alloc HB.out.size _⟩, by simp [intOf]; omega⟩
        · have hn : upFrom 0 b (k + 1) (3 - (k + 1)) = upN 0 b := by have h := HST.out; rw [q3] at h; exact h.symm
          have HN := Lib.hid hn; clear hn HST q3
          have i1 : (lo : Int) ≤ c := by omega
          have i2 : ¬ (c : Int) ≤ hi := by omega
          have hce := HCE.out
          go_wp2_with fail
          exact ⟨⟨k + 1, by omega, rfl, HN.out, HB.out.alloc HB.out.size _⟩, by simp [intOf]; omega⟩
        · have hn : upFrom 0 b (k + 1) (3 - (k + 1)) = upN 0 b := by have h := HST.out; rw [q4] at h; exact h.symm
          have HN := Lib.hid hn; clear hn HST q4
          have hcon : Hid (∀ W : World, Calls Tryd.prog 128 #[.int .u8 c, .int .i64 0] W fun e w' => e = .returned (.bool true) ∧ W = w') := Lib.hid fun W => by
            have h := isTimes_any c 0 W
            rw [q3] at h; exact h
          clear q3
          have i1 : (lo : Int) ≤ c := by omega
          have i2 : (c : Int) ≤ hi := by omega
          have hce := HCE.out
          go_wp2_with fail
          refine (hcon.out _).mono ?_
          rintro e w' ⟨rfl, rfl⟩
          go_wp2_with fail
          go_roundw
          case rel => exact ⟨k + 1, by omega, rfl, HN.out, HB.out.alloc HB.out.size _⟩
          case measure => simp [intOf]; omega
        · have hn : c = upN 0 b := by have h := HST.out; rw [q4] at h; exact h.symm
          have HN := Lib.hid hn; clear hn HST q4
          have hcon : Hid (∀ W : World, Calls Tryd.prog 128 #[.int .u8 c, .int .i64 0] W fun e w' => e = .returned (.bool false) ∧ W = w') := Lib.hid fun W => by
            have h := isTimes_any c 0 W
            rw [q3] at h; exact h
          clear q3
          have i1 : (lo : Int) ≤ c := by omega
          have i2 : (c : Int) ≤ hi := by omega
          have hce := HCE.out
          go_wp2_with fail
          refine (hcon.out _).mono ?_
          rintro e w' ⟨rfl, rfl⟩
          go_wp2_with fail
          go_ret
          exact ⟨by rw [← HN.out]; rfl, HB.out.alloc HB.out.size _⟩
      · obtain rfl : k = 3 := by omega
        have hn : b = upN 0 b := hup
        have HN := Lib.hid hn; clear hn hup
        go_wp2_with fail
        go_ret
        exact ⟨by rw [← HN.out]; rfl, HB.out⟩
  · have hidx := fun (k : Nat) (hk : k < 3) (W : World) => row_idx 1 k (by omega) hk W
    have h0 := HT.out.cs 9 (by omega)
    have h1 := HT.out.cs 10 (by omega)
    have h2 := HT.out.cs 11 (by omega)
    have h3 := HT.out.cs 12 (by omega)
    have h4 := HT.out.cs 13 (by omega)
    have h5 := HT.out.cs 14 (by omega)
    have h6 := HT.out.cs 15 (by omega)
    have h7 := HT.out.cs 16 (by omega)
    have h8 := HT.out.cs 17 (by omega)
    simp only [casesL, List.getD_cons_zero, List.getD_cons_succ] at h0 h1 h2 h3 h4 h5 h6 h7 h8
    simp only [rowsV, casesL, List.range, List.range.loop, List.map_cons, List.map_nil, List.getD_cons_zero, List.getD_cons_succ, Nat.reduceMul, Nat.reduceAdd, Nat.zero_add, Nat.add_zero] at hidx
    change Calls Tryd.prog 119 #[.int .u8 b, .int .i64 1] w _
    go_enter Tryd.func119, Tryd.ntmps119
    go_wp2_with fail
    clear h0 h1 h2 h3 h4 h5 h6 h7 h8
    have HIX := Lib.hid hidx; clear hidx
    go_loopw [11] (fun i wr => ∃ k : Nat, k ≤ 3 ∧ i = .int .i64 k ∧ upFrom 1 b k (3 - k) = upN 1 b ∧ Below w.heap.size w wr) (fun i _ => 3 - (intOf i).toNat)
    case atStart => exact ⟨0, by omega, rfl, up_eq hb (by omega), Below.refl _ _⟩
    case round =>
      obtain ⟨k, hk, rfl, hup, hbel⟩ := hrel
      have HB := Lib.hid hbel; clear hbel
      by_cases hlt : k < 3
      · have hix := HIX.out k hlt
        have hst := up_step 1 b k hlt
        rw [hup] at hst
        obtain ⟨r1, r2, r3⟩ := row_small 1 k
        have hcs := hit_cases 1 ((b + 256 - (caseRow 1 k).2.2) % 256) (caseRow 1 k).1 (caseRow 1 k).2.1 (h := hitUp 1 b k) rfl
        generalize (caseRow 1 k).1 = lo at *
        generalize (caseRow 1 k).2.1 = hi at *
        generalize (caseRow 1 k).2.2 = d at *
        have hce : ((b : Int) - d) % 256 = (((b + 256 - d) % 256 : Nat) : Int) := by omega
        have hcl : (b + 256 - d) % 256 < 256 := Nat.mod_lt _ (by omega)
        generalize (b + 256 - d) % 256 = c at *
        have HST := Lib.hid hst; clear hst hup
        have HCE := Lib.hid hce; clear hce
        rcases hcs with ⟨q1, q2⟩ | ⟨q1, q2, q3⟩ | ⟨q1, q2, q3, q4⟩ | ⟨q1, q2, q3, q4⟩
        · have hn : upFrom 1 b (k + 1) (3 - (k + 1)) = upN 1 b := by have h := HST.out; rw [q2] at h; exact h.symm
          have HN := Lib.hid hn; clear hn HST q2
          have i1 : ¬ (lo : Int) ≤ c := by omega
          have hce := HCE.out
          go_wp2_with fail
          exact ⟨⟨k + 1, by omega, rfl, HN.out, HB.out.alloc HB.out.size _⟩, by simp [intOf]; omega⟩
        · have hn : upFrom 1 b (k + 1) (3 - (k + 1)) = upN 1 b := by have h := HST.out; rw [q3] at h; exact h.symm
          have HN := Lib.hid hn; clear hn HST q3
          have i1 : (lo : Int) ≤ c := by omega
          have i2 : ¬ (c : Int) ≤ hi := by omega
          have hce := HCE.out
          go_wp2_with fail
          exact ⟨⟨k + 1, by omega, rfl, HN.out, HB.out.alloc HB.out.size _⟩, by simp [intOf]; omega⟩
        · have hn : upFrom 1 b (k + 1) (3 - (k + 1)) = upN 1 b := by have h := HST.out; rw [q4] at h; exact h.symm
          have HN := Lib.hid hn; clear hn HST q4
          have hcon : Hid (∀ W : World, Calls Tryd.prog 128 #[.int .u8 c, .int .i64 1] W fun e w' => e = .returned (.bool true) ∧ W = w') := Lib.hid fun W => by
            have h := isTimes_any c 1 W
            rw [q3] at h; exact h
          clear q3
          have i1 : (lo : Int) ≤ c := by omega
          have i2 : (c : Int) ≤ hi := by omega
          have hce := HCE.out
          go_wp2_with fail
          refine (hcon.out _).mono ?_
          rintro e w' ⟨rfl, rfl⟩
          go_wp2_with fail
          go_roundw
          case rel => exact ⟨k + 1, by omega, rfl, HN.out, HB.out.alloc HB.out.size _⟩
          case measure => simp [intOf]; omega
        · have hn : c = upN 1 b := by have h := HST.out; rw [q4] at h; exact h.symm
          have HN := Lib.hid hn; clear hn HST q4
          have hcon : Hid (∀ W : World, Calls Tryd.prog 128 #[.int .u8 c, .int .i64 1] W fun e w' => e = .returned (.bool false) ∧ W = w') := Lib.hid fun W => by
            have h := isTimes_any c 1 W
            rw [q3] at h; exact h
          clear q3
          have i1 : (lo : Int) ≤ c := by omega
          have i2 : (c : Int) ≤ hi := by omega
          have hce := HCE.out
          go_wp2_with fail
          refine (hcon.out _).mono ?_
          rintro e w' ⟨rfl, rfl⟩
          go_wp2_with fail
          go_ret
          exact ⟨by rw [← HN.out]; rfl, HB.out.alloc HB.out.size _⟩
      · obtain rfl : k = 3 := by omega
        have hn : b = upN 1 b := hup
        have HN := Lib.hid hn; clear hn hup
        go_wp2_with fail
        go_ret
        exact ⟨by rw [← HN.out]; rfl, HB.out⟩
  · have hidx := fun (k : Nat) (hk : k < 3) (W : World) => row_idx 2 k (by omega) hk W
    have h0 := HT.out.cs 18 (by omega)
    have h1 := HT.out.cs 19 (by omega)
    have h2 := HT.out.cs 20 (by omega)
    have h3 := HT.out.cs 21 (by omega)
    have h4 := HT.out.cs 22 (by omega)
    have h5 := HT.out.cs 23 (by omega)
    have h6 := HT.out.cs 24 (by omega)
    have h7 := HT.out.cs 25 (by omega)
    have h8 := HT.out.cs 26 (by omega)
    simp only [casesL, List.getD_cons_zero, List.getD_cons_succ] at h0 h1 h2 h3 h4 h5 h6 h7 h8
    simp only [rowsV, casesL, List.range, List.range.loop, List.map_cons, List.map_nil, List.getD_cons_zero, List.getD_cons_succ, Nat.reduceMul, Nat.reduceAdd, Nat.zero_add, Nat.add_zero] at hidx
    change Calls Tryd.prog 119 #[.int .u8 b, .int .i64 2] w _
    go_enter Tryd.func119, Tryd.ntmps119
    go_wp2_with fail
    clear h0 h1 h2 h3 h4 h5 h6 h7 h8
    have HIX := Lib.hid hidx; clear hidx
    go_loopw [11] (fun i wr => ∃ k : Nat, k ≤ 3 ∧ i = .int .i64 k ∧ upFrom 2 b k (3 - k) = upN 2 b ∧ Below w.heap.size w wr) (fun i _ => 3 - (intOf i).toNat)
    case atStart => exact ⟨0, by omega, rfl, up_eq hb (by omega), Below.refl _ _⟩
    case round =>
      obtain ⟨k, hk, rfl, hup, hbel⟩ := hrel
      have HB := Lib.hid hbel; clear hbel
      by_cases hlt : k < 3
      · have hix := HIX.out k hlt
        have hst := up_step 2 b k hlt
        rw [hup] at hst
        obtain ⟨r1, r2, r3⟩ := row_small 2 k
        have hcs := hit_cases 2 ((b + 256 - (caseRow 2 k).2.2) % 256) (caseRow 2 k).1 (caseRow 2 k).2.1 (h := hitUp 2 b k) rfl
        generalize (caseRow 2 k).1 = lo at *
        generalize (caseRow 2 k).2.1 = hi at *
        generalize (caseRow 2 k).2.2 = d at *
        have hce : ((b : Int) - d) % 256 = (((b + 256 - d) % 256 : Nat) : Int) := by omega
        have hcl : (b + 256 - d) % 256 < 256 := Nat.mod_lt _ (by omega)
        generalize (b + 256 - d) % 256 = c at *
        have HST := Lib.hid hst; clear hst hup
        have HCE := Lib.hid hce; clear hce
        rcases hcs with ⟨q1, q2⟩ | ⟨q1, q2, q3⟩ | ⟨q1, q2, q3, q4⟩ | ⟨q1, q2, q3, q4⟩
        · have hn : upFrom 2 b (k + 1) (3 - (k + 1)) = upN 2 b := by have h := HST.out; rw [q2] at h; exact h.symm
          have HN := Lib.hid hn; clear hn HST q2
          have i1 : ¬ (lo : Int) ≤ c := by omega
          have hce := HCE.out
          go_wp2_with fail
          exact ⟨⟨k + 1, by omega, rfl, HN.out, HB.out.alloc HB.out.size _⟩, by simp [intOf]; omega⟩
        · have hn : upFrom 2 b (k + 1) (3 - (k + 1)) = upN 2 b := by have h := HST.out; rw [q3] at h; exact h.symm
          have HN := Lib.hid hn; clear hn HST q3
          have i1 : (lo : Int) ≤ c := by omega
          have i2 : ¬ (c : Int) ≤ hi := by omega
          have hce := HCE.out
          go_wp2_with fail
          exact ⟨⟨k + 1, by omega, rfl, HN.out, HB.out.alloc HB.out.size _⟩, by simp [intOf]; omega⟩
        · have hn : upFrom 2 b (k + 1) (3 - (k + 1)) = upN 2 b := by have h := HST.out; rw [q4] at h; exact h.symm
          have HN := Lib.hid hn; clear hn HST q4
          have hcon : Hid (∀ W : World, Calls Tryd.prog 128 #[.int .u8 c, .int .i64 2] W fun e w' => e = .returned (.bool true) ∧ W = w') := Lib.hid fun W => by
            have h := isTimes_any c 2 W
            rw [q3] at h; exact h
          clear q3
          have i1 : (lo : Int) ≤ c := by omega
          have i2 : (c : Int) ≤ hi := by omega
          have hce := HCE.out
          go_wp2_with fail
          refine (hcon.out _).mono ?_
          rintro e w' ⟨rfl, rfl⟩
          go_wp2_with fail
          go_roundw
          case rel => exact ⟨k + 1, by omega, rfl, HN.out, HB.out.alloc HB.out.size _⟩
          case measure => simp [intOf]; omega
        · have hn : c = upN 2 b := by have h := HST.out; rw [q4] at h; exact h.symm
          have HN := Lib.hid hn; clear hn HST q4
          have hcon : Hid (∀ W : World, Calls Tryd.prog 128 #[.int .u8 c, .int .i64 2] W fun e w' => e = .returned (.bool false) ∧ W = w') := Lib.hid fun W => by
            have h := isTimes_any c 2 W
            rw [q3] at h; exact h
          clear q3
          have i1 : (lo : Int) ≤ c := by omega
          have i2 : (c : Int) ≤ hi := by omega
          have hce := HCE.out
          go_wp2_with fail
          refine (hcon.out _).mono ?_
          rintro e w' ⟨rfl, rfl⟩
          go_wp2_with fail
          go_ret
          exact ⟨by rw [← HN.out]; rfl, HB.out.alloc HB.out.size _⟩
      · obtain rfl : k = 3 := by omega
        have hn : b = upN 2 b := hup
        have HN := Lib.hid hn; clear hn hup
        go_wp2_with fail
        go_ret
        exact ⟨by rw [← HN.out]; rfl, HB.out⟩
end Go.Proofs.YtiddnacmopfamaaDoor
