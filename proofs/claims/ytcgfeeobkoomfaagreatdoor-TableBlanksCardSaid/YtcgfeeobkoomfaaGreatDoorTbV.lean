/- Characters of pages: page.Valid; blanks at the end. -/
import Derived.Test.YtcgfeeobkoomfaaGreatDoorTbC
import Derived.Deep.MidRow
import Derived.Lib.Hide
namespace Go.Proofs.YtcgfeeobkoomfaaGreatDoor
open Go.RowKit
set_option linter.unusedVariables false
set_option linter.unusedSimpArgs false

/-- What the functions have in common: a text too long, or a wrong page or collation. -/
def wrongN (p c : Int) (ss : List ByteArray) : Int := if ss.any (fun s => decide (2048 < s.size)) then 3 else if 0 ≤ p ∧ p < 3 ∧ (c = 0 ∨ c = 1) then 0 else 1

theorem any_take {ss : List ByteArray} {k : Nat} (h : k < ss.length) (f : ByteArray → Bool) : (ss.take (k + 1)).any f = ((ss.take k).any f || f (ss.getD k ByteArray.empty)) := by
  rw [List.take_succ_eq_append_getElem h, List.any_append]; simp [List.getD, h]

theorem any_at {ss : List ByteArray} {k : Nat} (h : k < ss.length) (f : ByteArray → Bool) (hf : f (ss.getD k ByteArray.empty) = true) : ss.any f = true := by
  rw [List.any_eq_true]
  refine ⟨_, List.getElem_mem h, ?_⟩
  simpa [List.getD, h] using hf
set_option maxHeartbeats 1000000 in
theorem pgIsPage_any (p : Int) (w : World) : Calls Tryz.prog 170 #[.int .i64 p] w fun e w' => e = .returned (.bool (decide (0 ≤ p) && decide (p < 3))) ∧ w = w' := by
  by_cases h : 0 ≤ p
  · by_cases h2 : p < 3
    · have e1 : (decide (0 ≤ p) && decide (p < 3)) = true := by simp [h, h2]
      rw [e1]; clear e1
      go_enter Tryz.func170, Tryz.ntmps170
      go_wp2
      go_ret
      exact ⟨rfl, rfl⟩
    · have e1 : (decide (0 ≤ p) && decide (p < 3)) = false := by simp [h2]
      rw [e1]; clear e1
      go_enter Tryz.func170, Tryz.ntmps170
      go_wp2
      go_ret
      exact ⟨rfl, rfl⟩
  · have e1 : (decide (0 ≤ p) && decide (p < 3)) = false := by simp [h]
    rw [e1]; clear e1
    go_enter Tryz.func170, Tryz.ntmps170
    go_wp2
    go_ret
    exact ⟨rfl, rfl⟩

set_option maxHeartbeats 2000000 in
theorem wrong_any (p c : Int) (ss : List ByteArray) (ad : Addr) (cap : Nat) (w : World) (hl : ss.length ≤ 100) (hs : ∀ s ∈ ss, s.size ≤ maxLen)
    (hc : ∀ j, j < ss.length → w.cell? (ad.add j) = some (.string (ss.getD j ByteArray.empty))) :
    Calls Tryz.prog 139 #[.int .i64 p, .int .i64 c, .slice (some ad) ss.length cap] w fun e w' => e = .returned (.int .i64 (wrongN p c ss)) ∧ w = w' := by
  have HC := Lib.hid hc; clear hc
  have HS := Lib.hid hs; clear hs
  go_enter Tryz.func139, Tryz.ntmps139
  go_wp2_with fail
  go_loop [8, 11] (fun _ i => ∃ k : Nat, k ≤ ss.length ∧ i = .int .i64 k ∧ Hid ((ss.take k).any (fun s => decide (2048 < s.size)) = false)) (fun _ i => ss.length - (intOf i).toNat)
  case atStart => exact ⟨0, by omega, rfl, Lib.hid (by simp)⟩
  case round =>
    obtain ⟨k, hk, rfl, HA⟩ := hrel
    by_cases hlt : k < ss.length
    · have hck := HC.out k hlt
      have hmem : (ss.getD k ByteArray.empty).size ≤ maxLen := HS.out _ (by simp [List.getD, hlt])
      have ht := any_take hlt (fun s => decide (2048 < s.size))
      have hat := any_at hlt (fun s => decide (2048 < s.size))
      generalize ss.getD k ByteArray.empty = s at *
      unfold maxLen at hmem
      by_cases hbig : 2048 < s.size
      · have hw : wrongN p c ss = 3 := by unfold wrongN; rw [if_pos (hat (by simpa using hbig))]
        have HW := Lib.hid hw; clear hw hat ht
        have i1 : (2048 : Int) < s.size := by omega
        go_wp2_with fail
        go_ret
        exact ⟨by rw [HW.out]; rfl, rfl⟩
      · have hn : (ss.take (k + 1)).any (fun s => decide (2048 < s.size)) = false := by rw [ht, HA.out]; simpa using hbig
        have HN := Lib.hid hn; clear hn hat ht
        have i1 : ¬ (2048 : Int) < s.size := by omega
        go_wp2_with fail
        exact ⟨⟨k + 1, by omega, rfl, HN⟩, by simp [intOf]; omega⟩
    · have hkl : k = ss.length := by omega
      have hn : ss.any (fun s => decide (2048 < s.size)) = false := by have := HA.out; rwa [hkl, List.take_length] at this
      have HN := Lib.hid hn; clear hn
      have HK := Lib.hid hkl; clear hkl
      by_cases hp : 0 ≤ p ∧ p < 3
      · have e1 : (decide (0 ≤ p) && decide (p < 3)) = true := by simp [hp]
        have hcon := Lib.hid (fun W => by have h := pgIsPage_any p W; rw [e1] at h; exact h)
        by_cases h0 : c = 0
        · have HW : Hid (wrongN p c ss = 0) := Lib.hid (by unfold wrongN; rw [HN.out]; simp [hp, h0])
          have d0 : (c != 0) = false := by simp [h0]
          clear hp e1 h0
          go_wp2_with fail
          refine (hcon.out _).mono ?_
          rintro e w' ⟨rfl, rfl⟩
          go_wp2_with fail
          go_ret
          exact ⟨by rw [HW.out]; rfl, rfl⟩
        · by_cases h1 : c = 1
          · have HW : Hid (wrongN p c ss = 0) := Lib.hid (by unfold wrongN; rw [HN.out]; simp [hp, h1])
            have d0 : (c != 0) = true := by simp [h0]
            have d1 : (c != 1) = false := by simp [h1]
            clear hp e1 h0 h1
            go_wp2_with fail
            refine (hcon.out _).mono ?_
            rintro e w' ⟨rfl, rfl⟩
            go_wp2_with fail
            go_ret
            exact ⟨by rw [HW.out]; rfl, rfl⟩
          · have HW : Hid (wrongN p c ss = 1) := Lib.hid (by unfold wrongN; rw [HN.out]; simp [hp, h0, h1])
            have d0 : (c != 0) = true := by simp [h0]
            have d1 : (c != 1) = true := by simp [h1]
            clear hp e1 h0 h1
            go_wp2_with fail
            refine (hcon.out _).mono ?_
            rintro e w' ⟨rfl, rfl⟩
            go_wp2_with fail
            go_ret
            exact ⟨by rw [HW.out]; rfl, rfl⟩
      · have e1 : (decide (0 ≤ p) && decide (p < 3)) = false := by
          cases h : (decide (0 ≤ p) && decide (p < 3))
          · rfl
          · exact absurd (by simpa using h) hp
        have hcon := Lib.hid (fun W => by have h := pgIsPage_any p W; rw [e1] at h; exact h)
        have HW : Hid (wrongN p c ss = 1) := Lib.hid (by unfold wrongN; rw [HN.out, if_neg (by simp), if_neg (fun h => hp ⟨h.1, h.2.1⟩)])
        clear hp e1
        go_wp2_with fail
        refine (hcon.out _).mono ?_
        rintro e w' ⟨rfl, rfl⟩
        go_wp2_with fail
        go_ret
        exact ⟨by rw [HW.out]; rfl, rfl⟩
def spansL : List Int := [0, 127, 0, 1, 0, 0, 1, 0, 0, 0, 255, 0, 1, 0, 0, 1, 0, 0, 0, 127, 0, 128, 175, 1040, 224, 239, 1088]

def SpTab (w : World) : Prop := ∀ i, i < 27 → w.cell? ⟨1, i, none⟩ = some (.int .i64 (spansL.getD i 0))

theorem SpTab.below {w w' : World} {B : Nat} (h : SpTab w) (hb : Below B w w') (hB : 1 < B) : SpTab w' := fun i hi => by
  rw [hb.cell (p := ⟨1, i, none⟩) (by simp only; omega)]; exact h i hi

def charN (p b : Nat) : Option Nat := if b < 128 ∨ p = 1 then some b else if p = 2 ∧ b ≤ 175 then some (b - 128 + 1040) else if p = 2 ∧ 224 ≤ b ∧ b ≤ 239 then some (b - 224 + 1088) else none

def spRow (p k : Nat) : Int × Int × Int :=
  if k = 0 then (if p = 1 then (0, 255, 0) else (0, 127, 0)) else if p = 2 then (if k = 1 then (128, 175, 1040) else (224, 239, 1088)) else (1, 0, 0)

def hitC (p : Nat) (b : Int) (k : Nat) : Bool := decide ((spRow p k).1 ≤ b) && decide (b ≤ (spRow p k).2.1)

def chrFrom (p : Nat) (b : Int) (k : Nat) : Nat → Option Int
  | 0 => none
  | n + 1 => if hitC p b k then some (b - (spRow p k).1 + (spRow p k).2.2) else chrFrom p b (k + 1) n

theorem chr_tab : ∀ (p : Fin 3) (b : Fin 256), chrFrom p.val b.val 0 3 = (charN p.val b.val).map Int.ofNat ∧ ((charN p.val b.val).getD 0 < 1200) := by decide +kernel

theorem sp_small (p k : Nat) : 0 ≤ (spRow p k).1 ∧ (spRow p k).1 ≤ 2000 ∧ 0 ≤ (spRow p k).2.1 ∧ (spRow p k).2.1 ≤ 255 ∧ 0 ≤ (spRow p k).2.2 ∧ (spRow p k).2.2 ≤ 2000 := by
  unfold spRow; repeat' split
  all_goals simp

theorem chr_step (p : Nat) (b : Int) (k : Nat) (hk : k < 3) : chrFrom p b k (3 - k) = if hitC p b k then some (b - (spRow p k).1 + (spRow p k).2.2) else chrFrom p b (k + 1) (3 - (k + 1)) := by
  rw [show 3 - k = (3 - (k + 1)) + 1 by omega]; rfl

theorem hitC_cases (n lo hi : Int) {h : Bool} (e : h = (decide (lo ≤ n) && decide (n ≤ hi))) : (¬ lo ≤ n ∧ h = false) ∨ (lo ≤ n ∧ ¬ n ≤ hi ∧ h = false) ∨ (lo ≤ n ∧ n ≤ hi ∧ h = true) := by
  subst e
  by_cases a : lo ≤ n
  · by_cases b : n ≤ hi
    · exact .inr (.inr ⟨a, b, by simp [a, b]⟩)
    · exact .inr (.inl ⟨a, b, by simp [b]⟩)
  · exact .inl ⟨a, by simp [a]⟩

def spV (p : Nat) : Array Value := ((List.range 9).map fun j => Value.int .i64 (spansL.getD (9 * p + j) 0)).toArray

theorem sp_idx (p k : Nat) (hp : p < 3) (hk : k < 3) (w : World) : (Instr.index 177 (.agg (spV p)) (.int .i64 k)).run Tryz.prog w = .ok (.agg #[.int .i64 (spRow p k).1, .int .i64 (spRow p k).2.1, .int .i64 (spRow p k).2.2]) w := by
  rcases (show p = 0 ∨ p = 1 ∨ p = 2 by omega) with rfl | rfl | rfl <;> rcases (show k = 0 ∨ k = 1 ∨ k = 2 by omega) with rfl | rfl | rfl <;>
    simp [Instr.index, asIntOf, run_underlying Tryz.underlying177, go_sem, spV, spansL, spRow, List.range, List.range.loop]

/-- A number and whether there is one. -/
def OptR (k : IntKind) (o : Option Int) (w : World) (e : Ending) (w' : World) : Prop := e = .returned (.tuple #[.int k (o.getD 0), .bool o.isSome]) ∧ Below w.heap.size w w'

set_option maxHeartbeats 4000000 in
theorem character_any (b p : Nat) (hb : b < 256) (hp : p < 3) (w : World) (ht : SpTab w) :
    Calls Tryz.prog 140 #[.int .u8 b, .int .i64 p] w (OptR .i32 (chrFrom p b 0 3) w) := by
  have HT := Lib.hid ht; clear ht
  rcases (show p = 0 ∨ p = 1 ∨ p = 2 by omega) with rfl | rfl | rfl
  · have hidx := fun (k : Nat) (hk : k < 3) (W : World) => sp_idx 0 k (by omega) hk W
    have h0 := HT.out 0 (by omega)
    have h1 := HT.out 1 (by omega)
    have h2 := HT.out 2 (by omega)
    have h3 := HT.out 3 (by omega)
    have h4 := HT.out 4 (by omega)
    have h5 := HT.out 5 (by omega)
    have h6 := HT.out 6 (by omega)
    have h7 := HT.out 7 (by omega)
    have h8 := HT.out 8 (by omega)
    simp only [spansL, List.getD_cons_zero, List.getD_cons_succ] at h0 h1 h2 h3 h4 h5 h6 h7 h8
    simp only [spV, spansL, List.range, List.range.loop, List.map_cons, List.map_nil, List.getD_cons_zero, List.getD_cons_succ, Nat.reduceMul, Nat.reduceAdd, Nat.zero_add, Nat.add_zero] at hidx
    change Calls Tryz.prog 140 #[.int .u8 b, .int .i64 0] w _
    go_enter Tryz.func140, Tryz.ntmps140
    go_wp2_with fail
    clear h0 h1 h2 h3 h4 h5 h6 h7 h8
    have HIX := Lib.hid hidx; clear hidx
    go_loopw [12] (fun i wr => ∃ k : Nat, k ≤ 3 ∧ i = .int .i64 k ∧ Hid (chrFrom 0 b k (3 - k) = chrFrom 0 b 0 3) ∧ Below w.heap.size w wr) (fun i _ => 3 - (intOf i).toNat)
    case atStart => exact ⟨0, by omega, rfl, Lib.hid rfl, Below.refl _ _⟩
    case round =>
      obtain ⟨k, hk, rfl, hup, hbel⟩ := hrel
      have HB := Lib.hid hbel; clear hbel
      by_cases hlt : k < 3
      · have hix := HIX.out k hlt
        have hst := chr_step 0 b k hlt
        rw [hup.out] at hst
        obtain ⟨r1, r2, r3, r4, r5, r6⟩ := sp_small 0 k
        have hcs := hitC_cases ((b : Int)) (spRow 0 k).1 (spRow 0 k).2.1 (h := hitC 0 ((b : Int)) k) rfl
        generalize (spRow 0 k).1 = lo at *
        generalize (spRow 0 k).2.1 = hi at *
        generalize (spRow 0 k).2.2 = d at *
        have HST := Lib.hid hst; clear hst hup
        rcases hcs with ⟨q1, q2⟩ | ⟨q1, q2, q3⟩ | ⟨q1, q2, q3⟩
        · have hn : chrFrom 0 b (k + 1) (3 - (k + 1)) = chrFrom 0 b 0 3 := by have h := HST.out; rw [q2] at h; exact h.symm
          have HN := Lib.hid hn; clear hn HST q2
          go_wp2_with fail
          exact ⟨⟨k + 1, by omega, rfl, HN, HB.out.alloc HB.out.size _⟩, by simp [intOf]; omega⟩
        · have hn : chrFrom 0 b (k + 1) (3 - (k + 1)) = chrFrom 0 b 0 3 := by have h := HST.out; rw [q3] at h; exact h.symm
          have HN := Lib.hid hn; clear hn HST q3
          go_wp2_with fail
          exact ⟨⟨k + 1, by omega, rfl, HN, HB.out.alloc HB.out.size _⟩, by simp [intOf]; omega⟩
        · have hn : chrFrom 0 b 0 3 = some ((b : Int) - lo + d) := by have h := HST.out; rw [q3] at h; exact h
          have HN := Lib.hid hn; clear hn HST q3
          have HM : Hid ((((b : Int) - lo + d)) % 256 = ((b : Int) - lo + d) ∨ True) := Lib.hid (.inr trivial)
          go_wp2_with fail
          go_ret2
          exact ⟨by rw [HN.out]; first | rfl | (show Ending.returned (.tuple #[.int .u8 ((((b : Int) - lo + d)) % 256), .bool true]) = Ending.returned (.tuple #[.int .u8 (((b : Int) - lo + d)), .bool true]); rw [Int.emod_eq_of_lt (by omega) (by omega)]), HB.out.alloc HB.out.size _⟩
      · obtain rfl : k = 3 := by omega
        have hn : chrFrom 0 b 0 3 = none := hup.out.symm
        have HN := Lib.hid hn; clear hn hup
        go_wp2_with fail
        go_ret2
        exact ⟨by rw [HN.out]; rfl, HB.out⟩
  · have hidx := fun (k : Nat) (hk : k < 3) (W : World) => sp_idx 1 k (by omega) hk W
    have h0 := HT.out 9 (by omega)
    have h1 := HT.out 10 (by omega)
    have h2 := HT.out 11 (by omega)
    have h3 := HT.out 12 (by omega)
    have h4 := HT.out 13 (by omega)
    have h5 := HT.out 14 (by omega)
    have h6 := HT.out 15 (by omega)
    have h7 := HT.out 16 (by omega)
    have h8 := HT.out 17 (by omega)
    simp only [spansL, List.getD_cons_zero, List.getD_cons_succ] at h0 h1 h2 h3 h4 h5 h6 h7 h8
    simp only [spV, spansL, List.range, List.range.loop, List.map_cons, List.map_nil, List.getD_cons_zero, List.getD_cons_succ, Nat.reduceMul, Nat.reduceAdd, Nat.zero_add, Nat.add_zero] at hidx
    change Calls Tryz.prog 140 #[.int .u8 b, .int .i64 1] w _
    go_enter Tryz.func140, Tryz.ntmps140
    go_wp2_with fail
    clear h0 h1 h2 h3 h4 h5 h6 h7 h8
    have HIX := Lib.hid hidx; clear hidx
    go_loopw [12] (fun i wr => ∃ k : Nat, k ≤ 3 ∧ i = .int .i64 k ∧ Hid (chrFrom 1 b k (3 - k) = chrFrom 1 b 0 3) ∧ Below w.heap.size w wr) (fun i _ => 3 - (intOf i).toNat)
    case atStart => exact ⟨0, by omega, rfl, Lib.hid rfl, Below.refl _ _⟩
    case round =>
      obtain ⟨k, hk, rfl, hup, hbel⟩ := hrel
      have HB := Lib.hid hbel; clear hbel
      by_cases hlt : k < 3
      · have hix := HIX.out k hlt
        have hst := chr_step 1 b k hlt
        rw [hup.out] at hst
        obtain ⟨r1, r2, r3, r4, r5, r6⟩ := sp_small 1 k
        have hcs := hitC_cases ((b : Int)) (spRow 1 k).1 (spRow 1 k).2.1 (h := hitC 1 ((b : Int)) k) rfl
        generalize (spRow 1 k).1 = lo at *
        generalize (spRow 1 k).2.1 = hi at *
        generalize (spRow 1 k).2.2 = d at *
        have HST := Lib.hid hst; clear hst hup
        rcases hcs with ⟨q1, q2⟩ | ⟨q1, q2, q3⟩ | ⟨q1, q2, q3⟩
        · have hn : chrFrom 1 b (k + 1) (3 - (k + 1)) = chrFrom 1 b 0 3 := by have h := HST.out; rw [q2] at h; exact h.symm
          have HN := Lib.hid hn; clear hn HST q2
          go_wp2_with fail
          exact ⟨⟨k + 1, by omega, rfl, HN, HB.out.alloc HB.out.size _⟩, by simp [intOf]; omega⟩
        · have hn : chrFrom 1 b (k + 1) (3 - (k + 1)) = chrFrom 1 b 0 3 := by have h := HST.out; rw [q3] at h; exact h.symm
          have HN := Lib.hid hn; clear hn HST q3
          go_wp2_with fail
          exact ⟨⟨k + 1, by omega, rfl, HN, HB.out.alloc HB.out.size _⟩, by simp [intOf]; omega⟩
        · have hn : chrFrom 1 b 0 3 = some ((b : Int) - lo + d) := by have h := HST.out; rw [q3] at h; exact h
          have HN := Lib.hid hn; clear hn HST q3
          have HM : Hid ((((b : Int) - lo + d)) % 256 = ((b : Int) - lo + d) ∨ True) := Lib.hid (.inr trivial)
          go_wp2_with fail
          go_ret2
          exact ⟨by rw [HN.out]; first | rfl | (show Ending.returned (.tuple #[.int .u8 ((((b : Int) - lo + d)) % 256), .bool true]) = Ending.returned (.tuple #[.int .u8 (((b : Int) - lo + d)), .bool true]); rw [Int.emod_eq_of_lt (by omega) (by omega)]), HB.out.alloc HB.out.size _⟩
      · obtain rfl : k = 3 := by omega
        have hn : chrFrom 1 b 0 3 = none := hup.out.symm
        have HN := Lib.hid hn; clear hn hup
        go_wp2_with fail
        go_ret2
        exact ⟨by rw [HN.out]; rfl, HB.out⟩
  · have hidx := fun (k : Nat) (hk : k < 3) (W : World) => sp_idx 2 k (by omega) hk W
    have h0 := HT.out 18 (by omega)
    have h1 := HT.out 19 (by omega)
    have h2 := HT.out 20 (by omega)
    have h3 := HT.out 21 (by omega)
    have h4 := HT.out 22 (by omega)
    have h5 := HT.out 23 (by omega)
    have h6 := HT.out 24 (by omega)
    have h7 := HT.out 25 (by omega)
    have h8 := HT.out 26 (by omega)
    simp only [spansL, List.getD_cons_zero, List.getD_cons_succ] at h0 h1 h2 h3 h4 h5 h6 h7 h8
    simp only [spV, spansL, List.range, List.range.loop, List.map_cons, List.map_nil, List.getD_cons_zero, List.getD_cons_succ, Nat.reduceMul, Nat.reduceAdd, Nat.zero_add, Nat.add_zero] at hidx
    change Calls Tryz.prog 140 #[.int .u8 b, .int .i64 2] w _
    go_enter Tryz.func140, Tryz.ntmps140
    go_wp2_with fail
    clear h0 h1 h2 h3 h4 h5 h6 h7 h8
    have HIX := Lib.hid hidx; clear hidx
    go_loopw [12] (fun i wr => ∃ k : Nat, k ≤ 3 ∧ i = .int .i64 k ∧ Hid (chrFrom 2 b k (3 - k) = chrFrom 2 b 0 3) ∧ Below w.heap.size w wr) (fun i _ => 3 - (intOf i).toNat)
    case atStart => exact ⟨0, by omega, rfl, Lib.hid rfl, Below.refl _ _⟩
    case round =>
      obtain ⟨k, hk, rfl, hup, hbel⟩ := hrel
      have HB := Lib.hid hbel; clear hbel
      by_cases hlt : k < 3
      · have hix := HIX.out k hlt
        have hst := chr_step 2 b k hlt
        rw [hup.out] at hst
        obtain ⟨r1, r2, r3, r4, r5, r6⟩ := sp_small 2 k
        have hcs := hitC_cases ((b : Int)) (spRow 2 k).1 (spRow 2 k).2.1 (h := hitC 2 ((b : Int)) k) rfl
        generalize (spRow 2 k).1 = lo at *
        generalize (spRow 2 k).2.1 = hi at *
        generalize (spRow 2 k).2.2 = d at *
        have HST := Lib.hid hst; clear hst hup
        rcases hcs with ⟨q1, q2⟩ | ⟨q1, q2, q3⟩ | ⟨q1, q2, q3⟩
        · have hn : chrFrom 2 b (k + 1) (3 - (k + 1)) = chrFrom 2 b 0 3 := by have h := HST.out; rw [q2] at h; exact h.symm
          have HN := Lib.hid hn; clear hn HST q2
          go_wp2_with fail
          exact ⟨⟨k + 1, by omega, rfl, HN, HB.out.alloc HB.out.size _⟩, by simp [intOf]; omega⟩
        · have hn : chrFrom 2 b (k + 1) (3 - (k + 1)) = chrFrom 2 b 0 3 := by have h := HST.out; rw [q3] at h; exact h.symm
          have HN := Lib.hid hn; clear hn HST q3
          go_wp2_with fail
          exact ⟨⟨k + 1, by omega, rfl, HN, HB.out.alloc HB.out.size _⟩, by simp [intOf]; omega⟩
        · have hn : chrFrom 2 b 0 3 = some ((b : Int) - lo + d) := by have h := HST.out; rw [q3] at h; exact h
          have HN := Lib.hid hn; clear hn HST q3
          have HM : Hid ((((b : Int) - lo + d)) % 256 = ((b : Int) - lo + d) ∨ True) := Lib.hid (.inr trivial)
          go_wp2_with fail
          go_ret2
          exact ⟨by rw [HN.out]; first | rfl | (show Ending.returned (.tuple #[.int .u8 ((((b : Int) - lo + d)) % 256), .bool true]) = Ending.returned (.tuple #[.int .u8 (((b : Int) - lo + d)), .bool true]); rw [Int.emod_eq_of_lt (by omega) (by omega)]), HB.out.alloc HB.out.size _⟩
      · obtain rfl : k = 3 := by omega
        have hn : chrFrom 2 b 0 3 = none := hup.out.symm
        have HN := Lib.hid hn; clear hn hup
        go_wp2_with fail
        go_ret2
        exact ⟨by rw [HN.out]; rfl, HB.out⟩
def chI (p b : Nat) : Option Int := (charN p b).map Int.ofNat
theorem chr_is {p b : Nat} (hp : p < 3) (hb : b < 256) : chrFrom p b 0 3 = chI p b := (chr_tab ⟨p, hp⟩ ⟨b, hb⟩).1
theorem byte_at (l : ByteArray) (j : Nat) (h : j < l.size) : (l[j]'h).toNat = ((l.data.toList).getD j 0).toNat := by
  have h' : j < l.data.size := h
  have e : l.data.toList.getD j 0 = l.data[j] := by
    rw [List.getD_eq_getElem?_getD, Array.getElem?_toList, Array.getElem?_eq_getElem h']; rfl
  rw [e]; rfl
theorem byte_lt (b : UInt8) : b.toNat < 256 := b.toNat_lt
theorem wrong_zero {p c : Int} {ss : List ByteArray} (h : wrongN p c ss = 0) : 0 ≤ p ∧ p < 3 ∧ (c = 0 ∨ c = 1) ∧ ∀ s ∈ ss, s.size ≤ 2048 := by
  unfold wrongN at h
  split at h
  · cases h
  · split at h
    · rename_i h1 h2
      refine ⟨h2.1, h2.2.1, h2.2.2, fun s hs => ?_⟩
      rw [Bool.not_eq_true, List.any_eq_false] at h1
      have := h1 s hs
      simpa using this
    · cases h

theorem text_cell (w : World) (s : ByteArray) (n : Nat) (hn : n = w.heap.size) : ∀ j, j < [s].length → (w.alloc (.cells #[.string s] 9)).cell? ((⟨n, 0, none⟩ : Addr).add j) = some (.string ([s].getD j ByteArray.empty)) := by
  intro j hj
  have h0 : j = 0 := by simpa using hj
  subst h0 hn
  simp [Addr.add]
def KRes (w : World) (r : Bool) (n : Int) (e : Ending) (w' : World) : Prop := e = .returned (.tuple #[.bool r, .int .i64 n]) ∧ Below w.heap.size w w'
/-- Whether every byte is a character. -/
def vld (p : Nat) (l : List UInt8) : Bool := l.all fun u => (chI p u.toNat).isSome

theorem vld_no {p : Nat} {l : List UInt8} {k : Nat} (hk : k < l.length) (h : (chI p (l.getD k 0).toNat).isSome = false) : vld p l = false := by
  have e : l.getD k 0 = l[k] := by simp [List.getD, hk]
  rw [e] at h
  unfold vld
  rw [List.all_eq_false]
  exact ⟨l[k], List.getElem_mem _, by simpa using h⟩

theorem vld_step {p : Nat} {l : List UInt8} {k : Nat} (hk : k < l.length) (h : (chI p (l.getD k 0).toNat).isSome = true) (hv : vld p (l.take k) = true) : vld p (l.take (k + 1)) = true := by
  have e : l.getD k 0 = l[k] := by simp [List.getD, hk]
  rw [e] at h
  unfold vld at hv ⊢
  rw [List.take_succ_eq_append_getElem hk, List.all_append, hv]
  simp [h]

def vldB (s : ByteArray) (p : Int) : Bool := wrongN p 0 [s] = 0 && vld p.toNat s.data.toList

set_option maxHeartbeats 4000000 in
theorem Valid_any (s : ByteArray) (p : Int) (w : World) (hp5 : 1 < w.heap.size) (hsp : SpTab w) (hs : s.size ≤ maxLen) :
    Calls Tryz.prog 103 #[.string s, .int .i64 p] w (KRes w (vldB s p) (wrongN p 0 [s])) := by
  have HSP := Lib.hid hsp; clear hsp
  have hcon := Lib.hid (wrong_any p 0 [s])
  simp only [List.length_singleton] at hcon
  cases hz : decide (wrongN p 0 [s] = 0)
  · have hz : ¬ wrongN p 0 [s] = 0 := by simpa using hz
    have e1 : vldB s p = false := by simp [vldB, hz]
    rw [e1]
    generalize wrongN p 0 [s] = n at *
    have dn : (n != 0) = true := by simpa using hz
    clear hz e1
    go_enter Tryz.func103, Tryz.ntmps103
    go_wp2_with fail
    refine (hcon.out ⟨w.heap.size, 0, none⟩ 1 _ (by simp) (by simpa using hs) (text_cell w s _ rfl)).mono ?_
    rintro e w1 ⟨rfl, rfl⟩
    go_wp2_with fail
    go_ret2
    exact ⟨rfl, (Below.refl _ _).alloc (Nat.le_refl _) _⟩
  · have hz : wrongN p 0 [s] = 0 := by simpa using hz
    obtain ⟨hp0, hp3, _, hss⟩ := wrong_zero hz
    have hs2 : s.size ≤ 2048 := hss s (by simp)
    obtain ⟨q, rfl⟩ : ∃ q : Nat, p = q := ⟨p.toNat, by omega⟩
    have hp : q < 3 := by omega
    have e1 : vldB s q = vld q s.data.toList := by simp [vldB, hz]
    rw [e1, hz]
    rw [hz] at hcon
    clear e1 hz hp0 hp3 hss
    have hsz : s.data.toList.length = s.size := rfl
    have hb0 : Below w.heap.size w (w.alloc (.cells #[.string s] 9)) := (Below.refl _ _).alloc (Nat.le_refl _) _
    have HB0 := Lib.hid hb0; clear hb0
    go_enter Tryz.func103, Tryz.ntmps103
    go_wp2_with fail
    refine (hcon.out ⟨w.heap.size, 0, none⟩ 1 _ (by simp) (by simpa using hs) (text_cell w s _ rfl)).mono ?_
    rintro e w1 ⟨rfl, rfl⟩
    generalize w.alloc (.cells #[.string s] 9) = wb at *
    go_wp2_with fail
    go_loopw [19] (fun i wr => ∃ k : Nat, k ≤ s.data.toList.length ∧ i = .int .i64 k ∧ vld q (s.data.toList.take k) = true ∧ Below w.heap.size w wr) (fun i _ => s.size - (intOf i).toNat)
    case atStart => exact ⟨0, by omega, rfl, by simp [vld], HB0.out⟩
    case round =>
      obtain ⟨k, hk, rfl, hv, hbel⟩ := hrel
      have HB := Lib.hid hbel; clear hbel
      by_cases hlt : k < s.data.toList.length
      · have hks : k < s.size := by omega
        have hks' : (k : Int) < s.size := by omega
        have hsk : s[k].toNat = (s.data.toList.getD k 0).toNat := byte_at s k hks
        have hbb := byte_lt (s.data.toList.getD k 0)
        have HNO := Lib.hid (vld_no (p := q) (l := s.data.toList) hlt)
        have HST := Lib.hid (fun h => vld_step (p := q) (l := s.data.toList) hlt h hv)
        clear hv
        generalize (s.data.toList.getD k 0) = z at *
        have HSPr := Lib.hid (HSP.out.below HB.out hp5)
        have hch := character_any z.toNat q hbb hp wr HSPr.out
        rw [chr_is hp hbb] at hch
        have HCH := Lib.hid hch; clear hch
        cases hco : chI q z.toNat with
        | none =>
          rw [hco] at HCH HNO
          clear HST hco
          have hno := HNO.out rfl
          rw [hno]
          clear HNO hno
          go_wp2_with fail
          refine (HCH.out).mono ?_
          rintro e w1 ⟨rfl, hb1⟩
          simp only [Option.getD_none, Option.isSome_none]
          have HB1 := Lib.hid (HB.out.trans (hb1.mono HB.out.size)); clear hb1
          go_wp2_with fail
          (try rw [Exit.noGoto_ret])
          go_ret2
          exact ⟨rfl, HB1.out⟩
        | some c =>
          rw [hco] at HCH HST
          clear HNO hco
          go_wp2_with fail
          refine (HCH.out).mono ?_
          rintro e w1 ⟨rfl, hb1⟩
          simp only [Option.getD_some, Option.isSome_some]
          have HB1 := Lib.hid (HB.out.trans (hb1.mono HB.out.size)); clear hb1
          go_wp2_with fail
          go_roundw
          case rel => exact ⟨k + 1, by omega, by go_num, HST.out rfl, HB1.out⟩
          case measure => simp [intOf]; omega
      · have hkl : k = s.data.toList.length := by omega
        have hks : k = s.size := by omega
        have gk : ¬ (k : Int) < s.size := by omega
        rw [hkl, List.take_length] at hv
        have HV := Lib.hid hv
        clear hv hkl
        go_wp2_with fail
        go_ret2
        exact ⟨by rw [HV.out]; rfl, HB.out⟩
end Go.Proofs.YtcgfeeobkoomfaaGreatDoor
