/- The spans of characters: character and byteOf of the program. -/
import Derived.Test.YtgeikbcfjidgcaaDoorPgL
namespace Go.Proofs.YtgeikbcfjidgcaaDoor
open Go.RowKit
set_option linter.unusedVariables false
set_option linter.unusedSimpArgs false

def spansL : List Int := [0, 127, 0, 1, 0, 0, 1, 0, 0, 0, 255, 0, 1, 0, 0, 1, 0, 0, 0, 127, 0, 128, 175, 1040, 224, 239, 1088]
def SpTab (w : World) : Prop := ∀ i, i < 27 → w.cell? ⟨0, i, none⟩ = some (.int .i64 (spansL.getD i 0))
theorem SpTab.below {w w' : World} {B : Nat} (h : SpTab w) (hb : Below B w w') (hB : 5 ≤ B) : SpTab w' := fun i hi => by
  rw [hb.cell (p := ⟨0, i, none⟩) (by simp only; omega)]; exact h i hi

def charN (p b : Nat) : Option Nat := if b < 128 ∨ p = 1 then some b else if p = 2 ∧ b ≤ 175 then some (b - 128 + 1040) else if p = 2 ∧ 224 ≤ b ∧ b ≤ 239 then some (b - 224 + 1088) else none
def bytN (p : Nat) (c : Int) : Option Nat :=
  if p = 0 then (if 0 ≤ c ∧ c ≤ 127 then some c.toNat else none)
  else if p = 1 then (if 0 ≤ c ∧ c ≤ 255 then some c.toNat else none)
  else if 0 ≤ c ∧ c ≤ 127 then some c.toNat else if 1040 ≤ c ∧ c ≤ 1087 then some (c - 912).toNat else if 1088 ≤ c ∧ c ≤ 1103 then some (c - 864).toNat else none
def spRow (p k : Nat) : Int × Int × Int :=
  if k = 0 then (if p = 1 then (0, 255, 0) else (0, 127, 0)) else if p = 2 then (if k = 1 then (128, 175, 1040) else (224, 239, 1088)) else (1, 0, 0)
def hitC (p : Nat) (b : Int) (k : Nat) : Bool := decide ((spRow p k).1 ≤ b) && decide (b ≤ (spRow p k).2.1)
def chrFrom (p : Nat) (b : Int) (k : Nat) : Nat → Option Int
  | 0 => none
  | n + 1 => if hitC p b k then some (b - (spRow p k).1 + (spRow p k).2.2) else chrFrom p b (k + 1) n
def bytFrom (p : Nat) (r : Int) (k : Nat) : Nat → Option Int
  | 0 => none
  | n + 1 => if hitC p (r - (spRow p k).2.2 + (spRow p k).1) k then some (r - (spRow p k).2.2 + (spRow p k).1) else bytFrom p r (k + 1) n
theorem chr_tab : ∀ (p : Fin 3) (b : Fin 256), chrFrom p.val b.val 0 3 = (charN p.val b.val).map Int.ofNat ∧ ((charN p.val b.val).getD 0 < 1200) := by decide +kernel
theorem byt_eq (p : Nat) (hp : p < 3) (r : Int) : bytFrom p r 0 3 = (bytN p r).map Int.ofNat := by
  rcases (show p = 0 ∨ p = 1 ∨ p = 2 by omega) with rfl | rfl | rfl
  · show (if (decide (0 ≤ r - 0 + 0) && decide (r - 0 + 0 ≤ 127)) = true then some (r - 0 + 0) else if (decide (1 ≤ r - 0 + 1) && decide (r - 0 + 1 ≤ 0)) = true then some (r - 0 + 1) else if (decide (1 ≤ r - 0 + 1) && decide (r - 0 + 1 ≤ 0)) = true then some (r - 0 + 1) else none) = _
    rw [show bytN 0 r = (if 0 ≤ r ∧ r ≤ 127 then some r.toNat else none) from rfl]
    simp only [Bool.and_eq_true, decide_eq_true_eq]
    by_cases h : 0 ≤ r ∧ r ≤ 127
    · rw [if_pos (by omega), if_pos h]; simp; omega
    · rw [if_neg (by omega), if_neg (by omega), if_neg (by omega), if_neg h]; rfl
  · show (if (decide (0 ≤ r - 0 + 0) && decide (r - 0 + 0 ≤ 255)) = true then some (r - 0 + 0) else if (decide (1 ≤ r - 0 + 1) && decide (r - 0 + 1 ≤ 0)) = true then some (r - 0 + 1) else if (decide (1 ≤ r - 0 + 1) && decide (r - 0 + 1 ≤ 0)) = true then some (r - 0 + 1) else none) = _
    rw [show bytN 1 r = (if 0 ≤ r ∧ r ≤ 255 then some r.toNat else none) from rfl]
    simp only [Bool.and_eq_true, decide_eq_true_eq]
    by_cases h : 0 ≤ r ∧ r ≤ 255
    · rw [if_pos (by omega), if_pos h]; simp; omega
    · rw [if_neg (by omega), if_neg (by omega), if_neg (by omega), if_neg h]; rfl
  · show (if (decide (0 ≤ r - 0 + 0) && decide (r - 0 + 0 ≤ 127)) = true then some (r - 0 + 0) else if (decide (128 ≤ r - 1040 + 128) && decide (r - 1040 + 128 ≤ 175)) = true then some (r - 1040 + 128) else if (decide (224 ≤ r - 1088 + 224) && decide (r - 1088 + 224 ≤ 239)) = true then some (r - 1088 + 224) else none) = _
    rw [show bytN 2 r = (if 0 ≤ r ∧ r ≤ 127 then some r.toNat else if 1040 ≤ r ∧ r ≤ 1087 then some (r - 912).toNat else if 1088 ≤ r ∧ r ≤ 1103 then some (r - 864).toNat else none) from rfl]
    simp only [Bool.and_eq_true, decide_eq_true_eq]
    by_cases h : 0 ≤ r ∧ r ≤ 127
    · rw [if_pos (by omega), if_pos h]; simp; omega
    · rw [if_neg (by omega), if_neg h]
      by_cases h2 : 1040 ≤ r ∧ r ≤ 1087
      · rw [if_pos (by omega), if_pos h2]; simp; omega
      · rw [if_neg (by omega), if_neg h2]
        by_cases h3 : 1088 ≤ r ∧ r ≤ 1103
        · rw [if_pos (by omega), if_pos h3]; simp; omega
        · rw [if_neg (by omega), if_neg h3]; rfl
theorem sp_small (p k : Nat) : 0 ≤ (spRow p k).1 ∧ (spRow p k).1 ≤ 2000 ∧ 0 ≤ (spRow p k).2.1 ∧ (spRow p k).2.1 ≤ 255 ∧ 0 ≤ (spRow p k).2.2 ∧ (spRow p k).2.2 ≤ 2000 := by
  unfold spRow; repeat' split
  all_goals simp
theorem chr_step (p : Nat) (b : Int) (k : Nat) (hk : k < 3) : chrFrom p b k (3 - k) = if hitC p b k then some (b - (spRow p k).1 + (spRow p k).2.2) else chrFrom p b (k + 1) (3 - (k + 1)) := by
  rw [show 3 - k = (3 - (k + 1)) + 1 by omega]; rfl
theorem byt_step (p : Nat) (r : Int) (k : Nat) (hk : k < 3) : bytFrom p r k (3 - k) = if hitC p (r - (spRow p k).2.2 + (spRow p k).1) k then some (r - (spRow p k).2.2 + (spRow p k).1) else bytFrom p r (k + 1) (3 - (k + 1)) := by
  rw [show 3 - k = (3 - (k + 1)) + 1 by omega]; rfl
theorem hitC_cases (n lo hi : Int) {h : Bool} (e : h = (decide (lo ≤ n) && decide (n ≤ hi))) : (¬ lo ≤ n ∧ h = false) ∨ (lo ≤ n ∧ ¬ n ≤ hi ∧ h = false) ∨ (lo ≤ n ∧ n ≤ hi ∧ h = true) := by
  subst e
  by_cases a : lo ≤ n
  · by_cases b : n ≤ hi
    · exact .inr (.inr ⟨a, b, by simp [a, b]⟩)
    · exact .inr (.inl ⟨a, b, by simp [b]⟩)
  · exact .inl ⟨a, by simp [a]⟩
def spV (p : Nat) : Array Value := ((List.range 9).map fun j => Value.int .i64 (spansL.getD (9 * p + j) 0)).toArray
theorem sp_idx (p k : Nat) (hp : p < 3) (hk : k < 3) (w : World) : (Instr.index 76 (.agg (spV p)) (.int .i64 k)).run Tryd.prog w = .ok (.agg #[.int .i64 (spRow p k).1, .int .i64 (spRow p k).2.1, .int .i64 (spRow p k).2.2]) w := by
  rcases (show p = 0 ∨ p = 1 ∨ p = 2 by omega) with rfl | rfl | rfl <;> rcases (show k = 0 ∨ k = 1 ∨ k = 2 by omega) with rfl | rfl | rfl <;>
    simp [Instr.index, asIntOf, run_underlying Tryd.underlying76, go_sem, spV, spansL, spRow, List.range, List.range.loop]

/-- A number and whether there is one. -/
def OptR (k : IntKind) (o : Option Int) (w : World) (e : Ending) (w' : World) : Prop := e = .returned (.tuple #[.int k (o.getD 0), .bool o.isSome]) ∧ Below w.heap.size w w'

set_option maxHeartbeats 4000000 in
theorem character_any (b p : Nat) (hb : b < 256) (hp : p < 3) (w : World) (ht : SpTab w) :
    Calls Tryd.prog 39 #[.int .u8 b, .int .i64 p] w (OptR .i32 (chrFrom p b 0 3) w) := by
  have HT := Lib.hid ht; clear ht
  rcases (show p = 0 ∨ p = 1 ∨ p = 2 by omega) with rfl | rfl | rfl
  · have hidx := fun (k : Nat) (hk : k < 3) (W : World) => sp_idx 0 k (by omega) hk W
    have h0 := HT.out 0 (by omega)
    have h1 := HT.out 1 (by omega)
    have h2 := HT.out 2 (by omega)
    have h3 := HT.out 3 (by omega)
    have h4 := HT.out 4 (by omega)
    have h5 := HT.out 5 (by omega)
    have h6 := HT.out 6 (by omega)
    have h7 := HT.out 7 (by omega)
    have h8 := HT.out 8 (by omega)
    simp only [spansL, List.getD_cons_zero, List.getD_cons_succ] at h0 h1 h2 h3 h4 h5 h6 h7 h8
    simp only [spV, spansL, List.range, List.range.loop, List.map_cons, List.map_nil, List.getD_cons_zero, List.getD_cons_succ, Nat.reduceMul, Nat.reduceAdd, Nat.zero_add, Nat.add_zero] at hidx
    change Calls Tryd.prog 39 #[.int .u8 b, .int .i64 0] w _
    go_enter Tryd.func39, Tryd.ntmps39
    go_wp2_with fail
    clear h0 h1 h2 h3 h4 h5 h6 h7 h8
    have HIX := Lib.hid hidx; clear hidx
    go_loopw [12] (fun i wr => ∃ k : Nat, k ≤ 3 ∧ i = .int .i64 k ∧ Hid (chrFrom 0 b k (3 - k) = chrFrom 0 b 0 3) ∧ Below w.heap.size w wr) (fun i _ => 3 - (intOf i).toNat)
    case atStart => exact ⟨0, by omega, rfl, Lib.hid rfl, Below.refl _ _⟩
    case round =>
      obtain ⟨k, hk, rfl, hup, hbel⟩ := hrel
      have HB := Lib.hid hbel; clear hbel
      by_cases hlt : k < 3
      · have hix := HIX.out k hlt
        have hst := chr_step 0 b k hlt
        rw [hup.out] at hst
        obtain ⟨r1, r2, r3, r4, r5, r6⟩ := sp_small 0 k
        have hcs := hitC_cases ((b : Int)) (spRow 0 k).1 (spRow 0 k).2.1 (h := hitC 0 ((b : Int)) k) rfl
        generalize (spRow 0 k).1 = lo at *
        generalize (spRow 0 k).2.1 = hi at *
        generalize (spRow 0 k).2.2 = d at *
        have HST := Lib.hid hst; clear hst hup
        rcases hcs with ⟨q1, q2⟩ | ⟨q1, q2, q3⟩ | ⟨q1, q2, q3⟩
        · have hn : chrFrom 0 b (k + 1) (3 - (k + 1)) = chrFrom 0 b 0 3 := by have h := HST.out; rw [q2] at h; exact h.symm
          have HN := Lib.hid hn; clear hn HST q2
          go_wp2_with fail
          exact ⟨⟨k + 1, by omega, rfl, HN, HB.out.alloc HB.out.size _⟩, by simp [intOf]; omega⟩
        · have hn : chrFrom 0 b (k + 1) (3 - (k + 1)) = chrFrom 0 b 0 3 := by have h := HST.out; rw [q3] at h; exact h.symm
          have HN := Lib.hid hn; clear hn HST q3
          go_wp2_with fail
          exact ⟨⟨k + 1, by omega, rfl, HN, HB.out.alloc HB.out.size _⟩, by simp [intOf]; omega⟩
        · have hn : chrFrom 0 b 0 3 = some ((b : Int) - lo + d) := by have h := HST.out; rw [q3] at h; exact h
          have HN := Lib.hid hn; clear hn HST q3
          have HM : Hid ((((b : Int) - lo + d)) % 256 = ((b : Int) - lo + d) ∨ True) := Lib.hid (.inr trivial)
          go_wp2_with fail
          go_ret2
          exact ⟨by rw [HN.out]; first | rfl | (show Ending.returned (.tuple #[.int .u8 ((((b : Int) - lo + d)) % 256), .bool true]) = Ending.returned (.tuple #[.int .u8 (((b : Int) - lo + d)), .bool true]); rw [Int.emod_eq_of_lt (by omega) (by omega)]), HB.out.alloc HB.out.size _⟩
      · obtain rfl : k = 3 := by omega
        have hn : chrFrom 0 b 0 3 = none := hup.out.symm
        have HN := Lib.hid hn; clear hn hup
        go_wp2_with fail
        go_ret2
        exact ⟨by rw [HN.out]; rfl, HB.out⟩
  · have hidx := fun (k : Nat) (hk : k < 3) (W : World) => sp_idx 1 k (by omega) hk W
    have h0 := HT.out 9 (by omega)
    have h1 := HT.out 10 (by omega)
    have h2 := HT.out 11 (by omega)
    have h3 := HT.out 12 (by omega)
    have h4 := HT.out 13 (by omega)
    have h5 := HT.out 14 (by omega)
    have h6 := HT.out 15 (by omega)
    have h7 := HT.out 16 (by omega)
    have h8 := HT.out 17 (by omega)
    simp only [spansL, List.getD_cons_zero, List.getD_cons_succ] at h0 h1 h2 h3 h4 h5 h6 h7 h8
    simp only [spV, spansL, List.range, List.range.loop, List.map_cons, List.map_nil, List.getD_cons_zero, List.getD_cons_succ, Nat.reduceMul, Nat.reduceAdd, Nat.zero_add, Nat.add_zero] at hidx
    change Calls Tryd.prog 39 #[.int .u8 b, .int .i64 1] w _
    go_enter Tryd.func39, Tryd.ntmps39
    go_wp2_with fail
    clear h0 h1 h2 h3 h4 h5 h6 h7 h8
    have HIX := Lib.hid hidx; clear hidx
    go_loopw [12] (fun i wr => ∃ k : Nat, k ≤ 3 ∧ i = .int .i64 k ∧ Hid (chrFrom 1 b k (3 - k) = chrFrom 1 b 0 3) ∧ Below w.heap.size w wr) (fun i _ => 3 - (intOf i).toNat)
    case atStart => exact ⟨0, by omega, rfl, Lib.hid rfl, Below.refl _ _⟩
    case round =>
      obtain ⟨k, hk, rfl, hup, hbel⟩ := hrel
      have HB := Lib.hid hbel; clear hbel
      by_cases hlt : k < 3
      · have hix := HIX.out k hlt
        have hst := chr_step 1 b k hlt
        rw [hup.out] at hst
        obtain ⟨r1, r2, r3, r4, r5, r6⟩ := sp_small 1 k
        have hcs := hitC_cases ((b : Int)) (spRow 1 k).1 (spRow 1 k).2.1 (h := hitC 1 ((b : Int)) k) rfl
        generalize (spRow 1 k).1 = lo at *
        generalize (spRow 1 k).2.1 = hi at *
        generalize (spRow 1 k).2.2 = d at *
        have HST := Lib.hid hst; clear hst hup
        rcases hcs with ⟨q1, q2⟩ | ⟨q1, q2, q3⟩ | ⟨q1, q2, q3⟩
        · have hn : chrFrom 1 b (k + 1) (3 - (k + 1)) = chrFrom 1 b 0 3 := by have h := HST.out; rw [q2] at h; exact h.symm
          have HN := Lib.hid hn; clear hn HST q2
          go_wp2_with fail
          exact ⟨⟨k + 1, by omega, rfl, HN, HB.out.alloc HB.out.size _⟩, by simp [intOf]; omega⟩
        · have hn : chrFrom 1 b (k + 1) (3 - (k + 1)) = chrFrom 1 b 0 3 := by have h := HST.out; rw [q3] at h; exact h.symm
          have HN := Lib.hid hn; clear hn HST q3
          go_wp2_with fail
          exact ⟨⟨k + 1, by omega, rfl, HN, HB.out.alloc HB.out.size _⟩, by simp [intOf]; omega⟩
        · have hn : chrFrom 1 b 0 3 = some ((b : Int) - lo + d) := by have h := HST.out; rw [q3] at h; exact h
          have HN := Lib.hid hn; clear hn HST q3
          have HM : Hid ((((b : Int) - lo + d)) % 256 = ((b : Int) - lo + d) ∨ True) := Lib.hid (.inr trivial)
          go_wp2_with fail
          go_ret2
          exact ⟨by rw [HN.out]; first | rfl | (show Ending.returned (.tuple #[.int .u8 ((((b : Int) - lo + d)) % 256), .bool true]) = Ending.returned (.tuple #[.int .u8 (((b : Int) - lo + d)), .bool true]); rw [Int.emod_eq_of_lt (by omega) (by omega)]), HB.out.alloc HB.out.size _⟩
      · obtain rfl : k = 3 := by omega
        have hn : chrFrom 1 b 0 3 = none := hup.out.symm
        have HN := Lib.hid hn; clear hn hup
        go_wp2_with fail
        go_ret2
        exact ⟨by rw [HN.out]; rfl, HB.out⟩
  · have hidx := fun (k : Nat) (hk : k < 3) (W : World) => sp_idx 2 k (by omega) hk W
    have h0 := HT.out 18 (by omega)
    have h1 := HT.out 19 (by omega)
    have h2 := HT.out 20 (by omega)
    have h3 := HT.out 21 (by omega)
    have h4 := HT.out 22 (by omega)
    have h5 := HT.out 23 (by omega)
    have h6 := HT.out 24 (by omega)
    have h7 := HT.out 25 (by omega)
    have h8 := HT.out 26 (by omega)
    simp only [spansL, List.getD_cons_zero, List.getD_cons_succ] at h0 h1 h2 h3 h4 h5 h6 h7 h8
    simp only [spV, spansL, List.range, List.range.loop, List.map_cons, List.map_nil, List.getD_cons_zero, List.getD_cons_succ, Nat.reduceMul, Nat.reduceAdd, Nat.zero_add, Nat.add_zero] at hidx
    change Calls Tryd.prog 39 #[.int .u8 b, .int .i64 2] w _
    go_enter Tryd.func39, Tryd.ntmps39
    go_wp2_with fail
    clear h0 h1 h2 h3 h4 h5 h6 h7 h8
    have HIX := Lib.hid hidx; clear hidx
    go_loopw [12] (fun i wr => ∃ k : Nat, k ≤ 3 ∧ i = .int .i64 k ∧ Hid (chrFrom 2 b k (3 - k) = chrFrom 2 b 0 3) ∧ Below w.heap.size w wr) (fun i _ => 3 - (intOf i).toNat)
    case atStart => exact ⟨0, by omega, rfl, Lib.hid rfl, Below.refl _ _⟩
    case round =>
      obtain ⟨k, hk, rfl, hup, hbel⟩ := hrel
      have HB := Lib.hid hbel; clear hbel
      by_cases hlt : k < 3
      · have hix := HIX.out k hlt
        have hst := chr_step 2 b k hlt
        rw [hup.out] at hst
        obtain ⟨r1, r2, r3, r4, r5, r6⟩ := sp_small 2 k
        have hcs := hitC_cases ((b : Int)) (spRow 2 k).1 (spRow 2 k).2.1 (h := hitC 2 ((b : Int)) k) rfl
        generalize (spRow 2 k).1 = lo at *
        generalize (spRow 2 k).2.1 = hi at *
        generalize (spRow 2 k).2.2 = d at *
        have HST := Lib.hid hst; clear hst hup
        rcases hcs with ⟨q1, q2⟩ | ⟨q1, q2, q3⟩ | ⟨q1, q2, q3⟩
        · have hn : chrFrom 2 b (k + 1) (3 - (k + 1)) = chrFrom 2 b 0 3 := by have h := HST.out; rw [q2] at h; exact h.symm
          have HN := Lib.hid hn; clear hn HST q2
          go_wp2_with fail
          exact ⟨⟨k + 1, by omega, rfl, HN, HB.out.alloc HB.out.size _⟩, by simp [intOf]; omega⟩
        · have hn : chrFrom 2 b (k + 1) (3 - (k + 1)) = chrFrom 2 b 0 3 := by have h := HST.out; rw [q3] at h; exact h.symm
          have HN := Lib.hid hn; clear hn HST q3
          go_wp2_with fail
          exact ⟨⟨k + 1, by omega, rfl, HN, HB.out.alloc HB.out.size _⟩, by simp [intOf]; omega⟩
        · have hn : chrFrom 2 b 0 3 = some ((b : Int) - lo + d) := by have h := HST.out; rw [q3] at h; exact h
          have HN := Lib.hid hn; clear hn HST q3
          have HM : Hid ((((b : Int) - lo + d)) % 256 = ((b : Int) - lo + d) ∨ True) := Lib.hid (.inr trivial)
          go_wp2_with fail
          go_ret2
          exact ⟨by rw [HN.out]; first | rfl | (show Ending.returned (.tuple #[.int .u8 ((((b : Int) - lo + d)) % 256), .bool true]) = Ending.returned (.tuple #[.int .u8 (((b : Int) - lo + d)), .bool true]); rw [Int.emod_eq_of_lt (by omega) (by omega)]), HB.out.alloc HB.out.size _⟩
      · obtain rfl : k = 3 := by omega
        have hn : chrFrom 2 b 0 3 = none := hup.out.symm
        have HN := Lib.hid hn; clear hn hup
        go_wp2_with fail
        go_ret2
        exact ⟨by rw [HN.out]; rfl, HB.out⟩

set_option maxHeartbeats 4000000 in
theorem byteOf_any (b : Int) (p : Nat) (hb : -3000000 ≤ b ∧ b ≤ 3000000) (hp : p < 3) (w : World) (ht : SpTab w) :
    Calls Tryd.prog 46 #[.int .i32 b, .int .i64 p] w (OptR .u8 (bytFrom p b 0 3) w) := by
  have HT := Lib.hid ht; clear ht
  obtain ⟨hb1, hb2⟩ := hb
  rcases (show p = 0 ∨ p = 1 ∨ p = 2 by omega) with rfl | rfl | rfl
  · have hidx := fun (k : Nat) (hk : k < 3) (W : World) => sp_idx 0 k (by omega) hk W
    have h0 := HT.out 0 (by omega)
    have h1 := HT.out 1 (by omega)
    have h2 := HT.out 2 (by omega)
    have h3 := HT.out 3 (by omega)
    have h4 := HT.out 4 (by omega)
    have h5 := HT.out 5 (by omega)
    have h6 := HT.out 6 (by omega)
    have h7 := HT.out 7 (by omega)
    have h8 := HT.out 8 (by omega)
    simp only [spansL, List.getD_cons_zero, List.getD_cons_succ] at h0 h1 h2 h3 h4 h5 h6 h7 h8
    simp only [spV, spansL, List.range, List.range.loop, List.map_cons, List.map_nil, List.getD_cons_zero, List.getD_cons_succ, Nat.reduceMul, Nat.reduceAdd, Nat.zero_add, Nat.add_zero] at hidx
    change Calls Tryd.prog 46 #[.int .i32 b, .int .i64 0] w _
    go_enter Tryd.func46, Tryd.ntmps46
    go_wp2_with fail
    clear h0 h1 h2 h3 h4 h5 h6 h7 h8
    have HIX := Lib.hid hidx; clear hidx
    go_loopw [12] (fun i wr => ∃ k : Nat, k ≤ 3 ∧ i = .int .i64 k ∧ Hid (bytFrom 0 b k (3 - k) = bytFrom 0 b 0 3) ∧ Below w.heap.size w wr) (fun i _ => 3 - (intOf i).toNat)
    case atStart => exact ⟨0, by omega, rfl, Lib.hid rfl, Below.refl _ _⟩
    case round =>
      obtain ⟨k, hk, rfl, hup, hbel⟩ := hrel
      have HB := Lib.hid hbel; clear hbel
      by_cases hlt : k < 3
      · have hix := HIX.out k hlt
        have hst := byt_step 0 b k hlt
        rw [hup.out] at hst
        obtain ⟨r1, r2, r3, r4, r5, r6⟩ := sp_small 0 k
        have hcs := hitC_cases ((b - (spRow 0 k).2.2 + (spRow 0 k).1)) (spRow 0 k).1 (spRow 0 k).2.1 (h := hitC 0 ((b - (spRow 0 k).2.2 + (spRow 0 k).1)) k) rfl
        generalize (spRow 0 k).1 = lo at *
        generalize (spRow 0 k).2.1 = hi at *
        generalize (spRow 0 k).2.2 = d at *
        have HST := Lib.hid hst; clear hst hup
        rcases hcs with ⟨q1, q2⟩ | ⟨q1, q2, q3⟩ | ⟨q1, q2, q3⟩
        · have hn : bytFrom 0 b (k + 1) (3 - (k + 1)) = bytFrom 0 b 0 3 := by have h := HST.out; rw [q2] at h; exact h.symm
          have HN := Lib.hid hn; clear hn HST q2
          go_wp2_with fail
          exact ⟨⟨k + 1, by omega, rfl, HN, HB.out.alloc HB.out.size _⟩, by simp [intOf]; omega⟩
        · have hn : bytFrom 0 b (k + 1) (3 - (k + 1)) = bytFrom 0 b 0 3 := by have h := HST.out; rw [q3] at h; exact h.symm
          have HN := Lib.hid hn; clear hn HST q3
          go_wp2_with fail
          exact ⟨⟨k + 1, by omega, rfl, HN, HB.out.alloc HB.out.size _⟩, by simp [intOf]; omega⟩
        · have hn : bytFrom 0 b 0 3 = some (b - d + lo) := by have h := HST.out; rw [q3] at h; exact h
          have HN := Lib.hid hn; clear hn HST q3
          have HM : Hid (((b - d + lo)) % 256 = (b - d + lo) ∨ True) := Lib.hid (.inr trivial)
          go_wp2_with fail
          go_ret2
          exact ⟨by rw [HN.out]; first | rfl | (show Ending.returned (.tuple #[.int .u8 (((b - d + lo)) % 256), .bool true]) = Ending.returned (.tuple #[.int .u8 ((b - d + lo)), .bool true]); rw [Int.emod_eq_of_lt (by omega) (by omega)]), HB.out.alloc HB.out.size _⟩
      · obtain rfl : k = 3 := by omega
        have hn : bytFrom 0 b 0 3 = none := hup.out.symm
        have HN := Lib.hid hn; clear hn hup
        go_wp2_with fail
        go_ret2
        exact ⟨by rw [HN.out]; rfl, HB.out⟩
  · have hidx := fun (k : Nat) (hk : k < 3) (W : World) => sp_idx 1 k (by omega) hk W
    have h0 := HT.out 9 (by omega)
    have h1 := HT.out 10 (by omega)
    have h2 := HT.out 11 (by omega)
    have h3 := HT.out 12 (by omega)
    have h4 := HT.out 13 (by omega)
    have h5 := HT.out 14 (by omega)
    have h6 := HT.out 15 (by omega)
    have h7 := HT.out 16 (by omega)
    have h8 := HT.out 17 (by omega)
    simp only [spansL, List.getD_cons_zero, List.getD_cons_succ] at h0 h1 h2 h3 h4 h5 h6 h7 h8
    simp only [spV, spansL, List.range, List.range.loop, List.map_cons, List.map_nil, List.getD_cons_zero, List.getD_cons_succ, Nat.reduceMul, Nat.reduceAdd, Nat.zero_add, Nat.add_zero] at hidx
    change Calls Tryd.prog 46 #[.int .i32 b, .int .i64 1] w _
    go_enter Tryd.func46, Tryd.ntmps46
    go_wp2_with fail
    clear h0 h1 h2 h3 h4 h5 h6 h7 h8
    have HIX := Lib.hid hidx; clear hidx
    go_loopw [12] (fun i wr => ∃ k : Nat, k ≤ 3 ∧ i = .int .i64 k ∧ Hid (bytFrom 1 b k (3 - k) = bytFrom 1 b 0 3) ∧ Below w.heap.size w wr) (fun i _ => 3 - (intOf i).toNat)
    case atStart => exact ⟨0, by omega, rfl, Lib.hid rfl, Below.refl _ _⟩
    case round =>
      obtain ⟨k, hk, rfl, hup, hbel⟩ := hrel
      have HB := Lib.hid hbel; clear hbel
      by_cases hlt : k < 3
      · have hix := HIX.out k hlt
        have hst := byt_step 1 b k hlt
        rw [hup.out] at hst
        obtain ⟨r1, r2, r3, r4, r5, r6⟩ := sp_small 1 k
        have hcs := hitC_cases ((b - (spRow 1 k).2.2 + (spRow 1 k).1)) (spRow 1 k).1 (spRow 1 k).2.1 (h := hitC 1 ((b - (spRow 1 k).2.2 + (spRow 1 k).1)) k) rfl
        generalize (spRow 1 k).1 = lo at *
        generalize (spRow 1 k).2.1 = hi at *
        generalize (spRow 1 k).2.2 = d at *
        have HST := Lib.hid hst; clear hst hup
        rcases hcs with ⟨q1, q2⟩ | ⟨q1, q2, q3⟩ | ⟨q1, q2, q3⟩
        · have hn : bytFrom 1 b (k + 1) (3 - (k + 1)) = bytFrom 1 b 0 3 := by have h := HST.out; rw [q2] at h; exact h.symm
          have HN := Lib.hid hn; clear hn HST q2
          go_wp2_with fail
          exact ⟨⟨k + 1, by omega, rfl, HN, HB.out.alloc HB.out.size _⟩, by simp [intOf]; omega⟩
        · have hn : bytFrom 1 b (k + 1) (3 - (k + 1)) = bytFrom 1 b 0 3 := by have h := HST.out; rw [q3] at h; exact h.symm
          have HN := Lib.hid hn; clear hn HST q3
          go_wp2_with fail
          exact ⟨⟨k + 1, by omega, rfl, HN, HB.out.alloc HB.out.size _⟩, by simp [intOf]; omega⟩
        · have hn : bytFrom 1 b 0 3 = some (b - d + lo) := by have h := HST.out; rw [q3] at h; exact h
          have HN := Lib.hid hn; clear hn HST q3
          have HM : Hid (((b - d + lo)) % 256 = (b - d + lo) ∨ True) := Lib.hid (.inr trivial)
          go_wp2_with fail
          go_ret2
          exact ⟨by rw [HN.out]; first | rfl | (show Ending.returned (.tuple #[.int .u8 (((b - d + lo)) % 256), .bool true]) = Ending.returned (.tuple #[.int .u8 ((b - d + lo)), .bool true]); rw [Int.emod_eq_of_lt (by omega) (by omega)]), HB.out.alloc HB.out.size _⟩
      · obtain rfl : k = 3 := by omega
        have hn : bytFrom 1 b 0 3 = none := hup.out.symm
        have HN := Lib.hid hn; clear hn hup
        go_wp2_with fail
        go_ret2
        exact ⟨by rw [HN.out]; rfl, HB.out⟩
  · have hidx := fun (k : Nat) (hk : k < 3) (W : World) => sp_idx 2 k (by omega) hk W
    have h0 := HT.out 18 (by omega)
    have h1 := HT.out 19 (by omega)
    have h2 := HT.out 20 (by omega)
    have h3 := HT.out 21 (by omega)
    have h4 := HT.out 22 (by omega)
    have h5 := HT.out 23 (by omega)
    have h6 := HT.out 24 (by omega)
    have h7 := HT.out 25 (by omega)
    have h8 := HT.out 26 (by omega)
    simp only [spansL, List.getD_cons_zero, List.getD_cons_succ] at h0 h1 h2 h3 h4 h5 h6 h7 h8
    simp only [spV, spansL, List.range, List.range.loop, List.map_cons, List.map_nil, List.getD_cons_zero, List.getD_cons_succ, Nat.reduceMul, Nat.reduceAdd, Nat.zero_add, Nat.add_zero] at hidx
    change Calls Tryd.prog 46 #[.int .i32 b, .int .i64 2] w _
    go_enter Tryd.func46, Tryd.ntmps46
    go_wp2_with fail
    clear h0 h1 h2 h3 h4 h5 h6 h7 h8
    have HIX := Lib.hid hidx; clear hidx
    go_loopw [12] (fun i wr => ∃ k : Nat, k ≤ 3 ∧ i = .int .i64 k ∧ Hid (bytFrom 2 b k (3 - k) = bytFrom 2 b 0 3) ∧ Below w.heap.size w wr) (fun i _ => 3 - (intOf i).toNat)
    case atStart => exact ⟨0, by omega, rfl, Lib.hid rfl, Below.refl _ _⟩
    case round =>
      obtain ⟨k, hk, rfl, hup, hbel⟩ := hrel
      have HB := Lib.hid hbel; clear hbel
      by_cases hlt : k < 3
      · have hix := HIX.out k hlt
        have hst := byt_step 2 b k hlt
        rw [hup.out] at hst
        obtain ⟨r1, r2, r3, r4, r5, r6⟩ := sp_small 2 k
        have hcs := hitC_cases ((b - (spRow 2 k).2.2 + (spRow 2 k).1)) (spRow 2 k).1 (spRow 2 k).2.1 (h := hitC 2 ((b - (spRow 2 k).2.2 + (spRow 2 k).1)) k) rfl
        generalize (spRow 2 k).1 = lo at *
        generalize (spRow 2 k).2.1 = hi at *
        generalize (spRow 2 k).2.2 = d at *
        have HST := Lib.hid hst; clear hst hup
        rcases hcs with ⟨q1, q2⟩ | ⟨q1, q2, q3⟩ | ⟨q1, q2, q3⟩
        · have hn : bytFrom 2 b (k + 1) (3 - (k + 1)) = bytFrom 2 b 0 3 := by have h := HST.out; rw [q2] at h; exact h.symm
          have HN := Lib.hid hn; clear hn HST q2
          go_wp2_with fail
          exact ⟨⟨k + 1, by omega, rfl, HN, HB.out.alloc HB.out.size _⟩, by simp [intOf]; omega⟩
        · have hn : bytFrom 2 b (k + 1) (3 - (k + 1)) = bytFrom 2 b 0 3 := by have h := HST.out; rw [q3] at h; exact h.symm
          have HN := Lib.hid hn; clear hn HST q3
          go_wp2_with fail
          exact ⟨⟨k + 1, by omega, rfl, HN, HB.out.alloc HB.out.size _⟩, by simp [intOf]; omega⟩
        · have hn : bytFrom 2 b 0 3 = some (b - d + lo) := by have h := HST.out; rw [q3] at h; exact h
          have HN := Lib.hid hn; clear hn HST q3
          have HM : Hid (((b - d + lo)) % 256 = (b - d + lo) ∨ True) := Lib.hid (.inr trivial)
          go_wp2_with fail
          go_ret2
          exact ⟨by rw [HN.out]; first | rfl | (show Ending.returned (.tuple #[.int .u8 (((b - d + lo)) % 256), .bool true]) = Ending.returned (.tuple #[.int .u8 ((b - d + lo)), .bool true]); rw [Int.emod_eq_of_lt (by omega) (by omega)]), HB.out.alloc HB.out.size _⟩
      · obtain rfl : k = 3 := by omega
        have hn : bytFrom 2 b 0 3 = none := hup.out.symm
        have HN := Lib.hid hn; clear hn hup
        go_wp2_with fail
        go_ret2
        exact ⟨by rw [HN.out]; rfl, HB.out⟩
end Go.Proofs.YtgeikbcfjidgcaaDoor
