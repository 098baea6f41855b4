/- One text out of these: PgM PgT PgW PgX PgR PgU PgV PgO PgS PgK PgP PgQ PgY PgL PgA PgZ PgZ2 PgB PgD PgE PgH PgI. -/
import Derived.Test.YtiddnacmopfamaaDoorProg
import Derived.WalkKit
import Derived.WalkSpells
import Derived.WalkLawsBesides
import Derived.Lib.Hide
import Derived.Below
import Derived.Deep.MidRow
import Derived.Laws.IdiomStrings
import Derived.Laws.OwnMore
import Derived.Laws.AppendOwn
import Derived.Deep.AppendLies
import Derived.Deep.Draws
import Derived.OwnWalk
import Derived.OneCell
import Derived.Laws.IdiomRangeMap
import Derived.Laws.BytesArg
import Derived.Lib.Bytes
import Derived.Test.YtiddnacmopfamaaDoorRows
import Derived.Lib.LaidU8
import Derived.Lib.Bytealg
/- Letters of the three pages: plain mathematics. -/
namespace Go.Proofs.YtiddnacmopfamaaDoor
set_option linter.unusedVariables false

def pairN (p b : Nat) : Bool × Bool × Nat :=
  if 65 ≤ b ∧ b ≤ 90 then (true, false, 32) else if 97 ≤ b ∧ b ≤ 122 then (false, true, 32)
  else if p = 1 ∧ 192 ≤ b ∧ b ≤ 222 ∧ b ≠ 215 then (true, false, 32) else if p = 1 ∧ 224 ≤ b ∧ b ≤ 254 ∧ b ≠ 247 then (false, true, 32)
  else if p = 2 ∧ 128 ≤ b ∧ b ≤ 143 then (true, false, 32) else if p = 2 ∧ 144 ≤ b ∧ b ≤ 159 then (true, false, 80)
  else if p = 2 ∧ 160 ≤ b ∧ b ≤ 175 then (false, true, 32) else if p = 2 ∧ 224 ≤ b ∧ b ≤ 239 then (false, true, 80)
  else (false, false, 0)
def upN (p b : Nat) : Nat := if (pairN p b).2.1 then b - (pairN p b).2.2 else b
def lowN (p b : Nat) : Nat := if (pairN p b).1 then b + (pairN p b).2.2 else b
def letN (p b : Nat) : Bool := (pairN p b).1 || (pairN p b).2.1

/-- The program's rows of capitals: first, last, how much more the small letters are. -/
def caseRow (p k : Nat) : Nat × Nat × Nat :=
  if k = 0 then (65, 90, 32)
  else if k = 1 then (if p = 0 then (1, 0, 0) else if p = 1 then (192, 222, 32) else (128, 143, 32))
  else (if p = 2 then (144, 159, 80) else (1, 0, 0))
/-- Whether the row k of the page has the capital c of a byte. -/
def hitUp (p b k : Nat) : Bool := decide ((caseRow p k).1 ≤ (b + 256 - (caseRow p k).2.2) % 256) && decide ((b + 256 - (caseRow p k).2.2) % 256 ≤ (caseRow p k).2.1) && !(decide (p = 1) && decide ((b + 256 - (caseRow p k).2.2) % 256 = 215))
def hitLow (p b k : Nat) : Bool := decide ((caseRow p k).1 ≤ b) && decide (b ≤ (caseRow p k).2.1) && !(decide (p = 1) && decide (b = 215))
def upFrom (p b k : Nat) : Nat → Nat
  | 0 => b
  | n + 1 => if hitUp p b k then (b + 256 - (caseRow p k).2.2) % 256 else upFrom p b (k + 1) n
def lowFrom (p b k : Nat) : Nat → Nat
  | 0 => b
  | n + 1 => if hitLow p b k then (b + (caseRow p k).2.2) % 256 else lowFrom p b (k + 1) n
theorem up_tab : ∀ (p : Fin 3) (b : Fin 256), upFrom p.val b.val 0 3 = upN p.val b.val ∧ lowFrom p.val b.val 0 3 = lowN p.val b.val ∧ (upN p.val b.val != lowN p.val b.val) = letN p.val b.val ∧ upN p.val b.val < 256 ∧ lowN p.val b.val < 256 := by decide +kernel

/-- The rows of accents: first, last, the letter that they weigh as much as. -/
def accRow (k : Nat) : Nat × Nat × Nat :=
  if k = 0 then (192, 197, 65) else if k = 1 then (199, 199, 67) else if k = 2 then (200, 203, 69) else if k = 3 then (204, 207, 73) else if k = 4 then (209, 209, 78)
  else if k = 5 then (210, 214, 79) else if k = 6 then (217, 220, 85) else if k = 7 then (221, 221, 89) else (1, 0, 0)
def hitAcc (b k : Nat) : Bool := decide ((accRow k).1 ≤ b) && decide (b ≤ (accRow k).2.1)
def weiFrom (b k : Nat) : Nat → Nat
  | 0 => b
  | n + 1 => if hitAcc b k then (accRow k).2.2 else weiFrom b (k + 1) n
def accN (c : Nat) : Nat :=
  if 192 ≤ c ∧ c ≤ 197 then 65 else if c = 199 then 67 else if 200 ≤ c ∧ c ≤ 203 then 69 else if 204 ≤ c ∧ c ≤ 207 then 73 else if c = 209 then 78
  else if 210 ≤ c ∧ c ≤ 214 then 79 else if 217 ≤ c ∧ c ≤ 220 then 85 else if c = 221 then 89 else c
def weiN (p c b : Nat) : Nat := if c = 0 ∨ letN p b = false then b else if p ≠ 1 then upN p b else accN (upN p b)
theorem wei_tab : ∀ (p : Fin 3) (b : Fin 256), (if p.val ≠ 1 then upN p.val b.val else weiFrom (upN p.val b.val) 0 9) = weiN p.val 1 b.val ∧ weiN p.val 1 b.val < 256 := by decide +kernel

/-- The digit of a capital in a code of sounds: -1: it does not stand between. -/
def digL : List Int := [0, 1, 2, 3, 0, 1, 2, -1, 0, 2, 2, 4, 5, 5, 0, 1, 2, 6, 2, 3, 0, 1, -1, 2, 0, 2]
def digI (c : Nat) : Int := digL.getD (c - 65) 0
def sndStep (st : List Nat × Int) (b : Nat) : List Nat × Int :=
  if letN 0 b then
    if st.1 = [] then ([upN 0 b], max (digI (upN 0 b)) 0)
    else if digI (upN 0 b) < 0 then st
    else if 0 < digI (upN 0 b) ∧ digI (upN 0 b) ≠ st.2 ∧ st.1.length < 4 then (st.1 ++ [(48 + digI (upN 0 b)).toNat], digI (upN 0 b))
    else (st.1, digI (upN 0 b))
  else st
def sndGo (bs : List Nat) : List Nat × Int := bs.foldl sndStep ([], 0)
def padZ (l : List Nat) : List Nat := if l = [] then [] else l ++ List.replicate (4 - l.length) 48
def sndL (bs : List Nat) : List Nat := padZ (sndGo bs).1
theorem let0_tab : ∀ b : Fin 256, letN 0 b.val = true → 65 ≤ upN 0 b.val ∧ upN 0 b.val ≤ 90 := by decide +kernel
theorem dig_tab : ∀ c : Fin 26, -1 ≤ digI (65 + c.val) ∧ digI (65 + c.val) ≤ 6 := by decide +kernel
end Go.Proofs.YtiddnacmopfamaaDoor

/- The tables of capitals and of accents, and upper of the program. -/
namespace Go.Proofs.YtiddnacmopfamaaDoor
open Go.RowKit
set_option linter.unusedVariables false
set_option linter.unusedSimpArgs false

def casesL : List Int := [65, 90, 32, 1, 0, 0, 1, 0, 0, 65, 90, 32, 192, 222, 32, 1, 0, 0, 65, 90, 32, 128, 143, 32, 144, 159, 80]
def accL : List Int := [192, 197, 65, 199, 199, 67, 200, 203, 69, 204, 207, 73, 209, 209, 78, 210, 214, 79, 217, 220, 85, 221, 221, 89, 1, 0, 0]
/-- The tables lie in their variables. -/
structure Tabs (w : World) : Prop where
  cs : ∀ i, i < 27 → w.cell? ⟨1, i, none⟩ = some (.int .u8 (casesL.getD i 0))
  ac : ∀ i, i < 27 → w.cell? ⟨0, i, none⟩ = some (.int .u8 (accL.getD i 0))
  pos : 2 ≤ w.heap.size
theorem Tabs.below {w w' : World} {B : Nat} (h : Tabs w) (hb : Below B w w') (hB : w.heap.size ≤ B) : Tabs w' where
  cs i hi := by rw [hb.cell (p := ⟨1, i, none⟩) (by have := h.pos; simp only; omega)]; exact h.cs i hi
  ac i hi := by rw [hb.cell (p := ⟨0, i, none⟩) (by have := h.pos; simp only; omega)]; exact h.ac i hi
  pos := by have := h.pos; have := hb.size; omega

set_option maxHeartbeats 1000000 in
theorem isTimes_any (b p : Nat) (w : World) : Calls Tryd.prog 128 #[.int .u8 b, .int .i64 p] w fun e w' => e = .returned (.bool (decide (p = 1) && decide (b = 215))) ∧ w = w' := by
  by_cases hp : p = 1
  · by_cases hb : b = 215
    · subst hp hb
      go_enter Tryd.func128, Tryd.ntmps128
      go_wp2
      go_ret
      exact ⟨rfl, rfl⟩
    · have d1 : decide (b = 215) = false := by simpa using hb
      have d : ((b : Int) == 215) = false := by simp; omega
      rw [d1]
      subst hp
      clear hb d1
      go_enter Tryd.func128, Tryd.ntmps128
      go_wp2
      go_ret
      exact ⟨rfl, rfl⟩
  · have d1 : decide (p = 1) = false := by simpa using hp
    have d : ((p : Int) == 1) = false := by simp; omega
    rw [d1]
    clear hp d1
    go_enter Tryd.func128, Tryd.ntmps128
    go_wp2
    go_ret
    exact ⟨rfl, rfl⟩

theorem up_step (p b k : Nat) (hk : k < 3) : upFrom p b k (3 - k) = if hitUp p b k then (b + 256 - (caseRow p k).2.2) % 256 else upFrom p b (k + 1) (3 - (k + 1)) := by
  rw [show 3 - k = (3 - (k + 1)) + 1 by omega]; rfl
theorem low_step (p b k : Nat) (hk : k < 3) : lowFrom p b k (3 - k) = if hitLow p b k then (b + (caseRow p k).2.2) % 256 else lowFrom p b (k + 1) (3 - (k + 1)) := by
  rw [show 3 - k = (3 - (k + 1)) + 1 by omega]; rfl
theorem up_eq {p b : Nat} (hb : b < 256) (hp : p < 3) : upFrom p b 0 3 = upN p b := (up_tab ⟨p, hp⟩ ⟨b, hb⟩).1
theorem low_eq {p b : Nat} (hb : b < 256) (hp : p < 3) : lowFrom p b 0 3 = lowN p b := (up_tab ⟨p, hp⟩ ⟨b, hb⟩).2.1
theorem row_small (p k : Nat) : (caseRow p k).1 < 256 ∧ (caseRow p k).2.1 < 256 ∧ (caseRow p k).2.2 < 256 := by
  unfold caseRow; split
  · simp
  · split
    · split
      · simp
      · split <;> simp
    · split <;> simp
theorem hit_cases (p c lo hi : Nat) {h : Bool} (e : h = (decide (lo ≤ c) && decide (c ≤ hi) && !(decide (p = 1) && decide (c = 215)))) :
    (¬ lo ≤ c ∧ h = false) ∨ (lo ≤ c ∧ ¬ c ≤ hi ∧ h = false) ∨ (lo ≤ c ∧ c ≤ hi ∧ (decide (p = 1) && decide (c = 215)) = true ∧ h = false) ∨ (lo ≤ c ∧ c ≤ hi ∧ (decide (p = 1) && decide (c = 215)) = false ∧ h = true) := by
  subst e
  by_cases a : lo ≤ c
  · by_cases b : c ≤ hi
    · cases t : (decide (p = 1) && decide (c = 215))
      · exact .inr (.inr (.inr ⟨a, b, rfl, by simp [a, b]⟩))
      · exact .inr (.inr (.inl ⟨a, b, rfl, by simp⟩))
    · exact .inr (.inl ⟨a, b, by simp [b]⟩)
  · exact .inl ⟨a, by simp [a]⟩

def rowsV (p : Nat) : Array Value := ((List.range 9).map fun j => Value.int .u8 (casesL.getD (9 * p + j) 0)).toArray
theorem row_idx (p k : Nat) (hp : p < 3) (hk : k < 3) (w : World) : (Instr.index 157 (.agg (rowsV p)) (.int .i64 k)).run Tryd.prog w = .ok (.agg #[.int .u8 (caseRow p k).1, .int .u8 (caseRow p k).2.1, .int .u8 (caseRow p k).2.2]) w := by
  rcases (show p = 0 ∨ p = 1 ∨ p = 2 by omega) with rfl | rfl | rfl <;> rcases (show k = 0 ∨ k = 1 ∨ k = 2 by omega) with rfl | rfl | rfl <;>
    simp [Instr.index, asIntOf, run_underlying Tryd.underlying157, go_sem, rowsV, casesL, caseRow, List.range, List.range.loop]

set_option maxHeartbeats 2000000 in
theorem upper_any (b p : Nat) (hb : b < 256) (hp : p < 3) (w : World) (ht : Tabs w) :
    Calls Tryd.prog 119 #[.int .u8 b, .int .i64 p] w fun e w' => e = .returned (.int .u8 (upN p b)) ∧ Below w.heap.size w w' := by
  have HT := Lib.hid ht; clear ht
  rcases (show p = 0 ∨ p = 1 ∨ p = 2 by omega) with rfl | rfl | rfl
  · have hidx := fun (k : Nat) (hk : k < 3) (W : World) => row_idx 0 k (by omega) hk W
    have h0 := HT.out.cs 0 (by omega)
    have h1 := HT.out.cs 1 (by omega)
    have h2 := HT.out.cs 2 (by omega)
    have h3 := HT.out.cs 3 (by omega)
    have h4 := HT.out.cs 4 (by omega)
    have h5 := HT.out.cs 5 (by omega)
    have h6 := HT.out.cs 6 (by omega)
    have h7 := HT.out.cs 7 (by omega)
    have h8 := HT.out.cs 8 (by omega)
    simp only [casesL, List.getD_cons_zero, List.getD_cons_succ] at h0 h1 h2 h3 h4 h5 h6 h7 h8
    simp only [rowsV, casesL, List.range, List.range.loop, List.map_cons, List.map_nil, List.getD_cons_zero, List.getD_cons_succ, Nat.reduceMul, Nat.reduceAdd, Nat.zero_add, Nat.add_zero] at hidx
    change Calls Tryd.prog 119 #[.int .u8 b, .int .i64 0] w _
    go_enter Tryd.func119, Tryd.ntmps119
    go_wp2_with fail
    clear h0 h1 h2 h3 h4 h5 h6 h7 h8
    have HIX := Lib.hid hidx; clear hidx
    go_loopw [11] (fun i wr => ∃ k : Nat, k ≤ 3 ∧ i = .int .i64 k ∧ upFrom 0 b k (3 - k) = upN 0 b ∧ Below w.heap.size w wr) (fun i _ => 3 - (intOf i).toNat)
    case atStart => exact ⟨0, by omega, rfl, up_eq hb (by omega), Below.refl _ _⟩
    case round =>
      obtain ⟨k, hk, rfl, hup, hbel⟩ := hrel
      have HB := Lib.hid hbel; clear hbel
      by_cases hlt : k < 3
      · have hix := HIX.out k hlt
        have hst := up_step 0 b k hlt
        rw [hup] at hst
        obtain ⟨r1, r2, r3⟩ := row_small 0 k
        have hcs := hit_cases 0 ((b + 256 - (caseRow 0 k).2.2) % 256) (caseRow 0 k).1 (caseRow 0 k).2.1 (h := hitUp 0 b k) rfl
        generalize (caseRow 0 k).1 = lo at *
        generalize (caseRow 0 k).2.1 = hi at *
        generalize (caseRow 0 k).2.2 = d at *
        have hce : ((b : Int) - d) % 256 = (((b + 256 - d) % 256 : Nat) : Int) := by omega
        have hcl : (b + 256 - d) % 256 < 256 := Nat.mod_lt _ (by omega)
        generalize (b + 256 - d) % 256 = c at *
        have HST := Lib.hid hst; clear hst hup
        have HCE := Lib.hid hce; clear hce
        rcases hcs with ⟨q1, q2⟩ | ⟨q1, q2, q3⟩ | ⟨q1, q2, q3, q4⟩ | ⟨q1, q2, q3, q4⟩
        · have hn : upFrom 0 b (k + 1) (3 - (k + 1)) = upN 0 b := by have h := HST.out; rw [q2] at h; exact h.symm
          have HN := Lib.hid hn; clear hn HST q2
          have i1 : ¬ (lo : Int) ≤ c := by omega
          have hce := HCE.out
          go_wp2_with fail
          exact ⟨⟨k + 1, by omega, rfl, HN.out, HB.out.alloc HB.out.size _⟩, by simp [intOf]; omega⟩
        · have hn : upFrom 0 b (k + 1) (3 - (k + 1)) = upN 0 b := by have h := HST.out; rw [q3] at h; exact h.symm
          have HN := Lib.hid hn; clear hn HST q3
          have i1 : (lo : Int) ≤ c := by omega
          have i2 : ¬ (c : Int) ≤ hi := by omega
          have hce := HCE.out
          go_wp2_with fail
          exact ⟨⟨k + 1, by omega, rfl, HN.out, HB.out.alloc HB.out.size _⟩, by simp [intOf]; omega⟩
        · have hn : upFrom 0 b (k + 1) (3 - (k + 1)) = upN 0 b := by have h := HST.out; rw [q4] at h; exact h.symm
          have HN := Lib.hid hn; clear hn HST q4
          have hcon : Hid (∀ W : World, Calls Tryd.prog 128 #[.int .u8 c, .int .i64 0] W fun e w' => e = .returned (.bool true) ∧ W = w') := Lib.hid fun W => by
            have h := isTimes_any c 0 W
            rw [q3] at h; exact h
          clear q3
          have i1 : (lo : Int) ≤ c := by omega
          have i2 : (c : Int) ≤ hi := by omega
          have hce := HCE.out
          go_wp2_with fail
          refine (hcon.out _).mono ?_
          rintro e w' ⟨rfl, rfl⟩
          go_wp2_with fail
          go_roundw
          case rel => exact ⟨k + 1, by omega, rfl, HN.out, HB.out.alloc HB.out.size _⟩
          case measure => simp [intOf]; omega
        · have hn : c = upN 0 b := by have h := HST.out; rw [q4] at h; exact h.symm
          have HN := Lib.hid hn; clear hn HST q4
          have hcon : Hid (∀ W : World, Calls Tryd.prog 128 #[.int .u8 c, .int .i64 0] W fun e w' => e = .returned (.bool false) ∧ W = w') := Lib.hid fun W => by
            have h := isTimes_any c 0 W
            rw [q3] at h; exact h
          clear q3
          have i1 : (lo : Int) ≤ c := by omega
          have i2 : (c : Int) ≤ hi := by omega
          have hce := HCE.out
          go_wp2_with fail
          refine (hcon.out _).mono ?_
          rintro e w' ⟨rfl, rfl⟩
          go_wp2_with fail
          go_ret
          exact ⟨by rw [← HN.out]; rfl, HB.out.alloc HB.out.size _⟩
      · obtain rfl : k = 3 := by omega
        have hn : b = upN 0 b := hup
        have HN := Lib.hid hn; clear hn hup
        go_wp2_with fail
        go_ret
        exact ⟨by rw [← HN.out]; rfl, HB.out⟩
  · have hidx := fun (k : Nat) (hk : k < 3) (W : World) => row_idx 1 k (by omega) hk W
    have h0 := HT.out.cs 9 (by omega)
    have h1 := HT.out.cs 10 (by omega)
    have h2 := HT.out.cs 11 (by omega)
    have h3 := HT.out.cs 12 (by omega)
    have h4 := HT.out.cs 13 (by omega)
    have h5 := HT.out.cs 14 (by omega)
    have h6 := HT.out.cs 15 (by omega)
    have h7 := HT.out.cs 16 (by omega)
    have h8 := HT.out.cs 17 (by omega)
    simp only [casesL, List.getD_cons_zero, List.getD_cons_succ] at h0 h1 h2 h3 h4 h5 h6 h7 h8
    simp only [rowsV, casesL, List.range, List.range.loop, List.map_cons, List.map_nil, List.getD_cons_zero, List.getD_cons_succ, Nat.reduceMul, Nat.reduceAdd, Nat.zero_add, Nat.add_zero] at hidx
    change Calls Tryd.prog 119 #[.int .u8 b, .int .i64 1] w _
    go_enter Tryd.func119, Tryd.ntmps119
    go_wp2_with fail
    clear h0 h1 h2 h3 h4 h5 h6 h7 h8
    have HIX := Lib.hid hidx; clear hidx
    go_loopw [11] (fun i wr => ∃ k : Nat, k ≤ 3 ∧ i = .int .i64 k ∧ upFrom 1 b k (3 - k) = upN 1 b ∧ Below w.heap.size w wr) (fun i _ => 3 - (intOf i).toNat)
    case atStart => exact ⟨0, by omega, rfl, up_eq hb (by omega), Below.refl _ _⟩
    case round =>
      obtain ⟨k, hk, rfl, hup, hbel⟩ := hrel
      have HB := Lib.hid hbel; clear hbel
      by_cases hlt : k < 3
      · have hix := HIX.out k hlt
        have hst := up_step 1 b k hlt
        rw [hup] at hst
        obtain ⟨r1, r2, r3⟩ := row_small 1 k
        have hcs := hit_cases 1 ((b + 256 - (caseRow 1 k).2.2) % 256) (caseRow 1 k).1 (caseRow 1 k).2.1 (h := hitUp 1 b k) rfl
        generalize (caseRow 1 k).1 = lo at *
        generalize (caseRow 1 k).2.1 = hi at *
        generalize (caseRow 1 k).2.2 = d at *
        have hce : ((b : Int) - d) % 256 = (((b + 256 - d) % 256 : Nat) : Int) := by omega
        have hcl : (b + 256 - d) % 256 < 256 := Nat.mod_lt _ (by omega)
        generalize (b + 256 - d) % 256 = c at *
        have HST := Lib.hid hst; clear hst hup
        have HCE := Lib.hid hce; clear hce
        rcases hcs with ⟨q1, q2⟩ | ⟨q1, q2, q3⟩ | ⟨q1, q2, q3, q4⟩ | ⟨q1, q2, q3, q4⟩
        · have hn : upFrom 1 b (k + 1) (3 - (k + 1)) = upN 1 b := by have h := HST.out; rw [q2] at h; exact h.symm
          have HN := Lib.hid hn; clear hn HST q2
          have i1 : ¬ (lo : Int) ≤ c := by omega
          have hce := HCE.out
          go_wp2_with fail
          exact ⟨⟨k + 1, by omega, rfl, HN.out, HB.out.alloc HB.out.size _⟩, by simp [intOf]; omega⟩
        · have hn : upFrom 1 b (k + 1) (3 - (k + 1)) = upN 1 b := by have h := HST.out; rw [q3] at h; exact h.symm
          have HN := Lib.hid hn; clear hn HST q3
          have i1 : (lo : Int) ≤ c := by omega
          have i2 : ¬ (c : Int) ≤ hi := by omega
          have hce := HCE.out
          go_wp2_with fail
          exact ⟨⟨k + 1, by omega, rfl, HN.out, HB.out.alloc HB.out.size _⟩, by simp [intOf]; omega⟩
        · have hn : upFrom 1 b (k + 1) (3 - (k + 1)) = upN 1 b := by have h := HST.out; rw [q4] at h; exact h.symm
          have HN := Lib.hid hn; clear hn HST q4
          have hcon : Hid (∀ W : World, Calls Tryd.prog 128 #[.int .u8 c, .int .i64 1] W fun e w' => e = .returned (.bool true) ∧ W = w') := Lib.hid fun W => by
            have h := isTimes_any c 1 W
            rw [q3] at h; exact h
          clear q3
          have i1 : (lo : Int) ≤ c := by omega
          have i2 : (c : Int) ≤ hi := by omega
          have hce := HCE.out
          go_wp2_with fail
          refine (hcon.out _).mono ?_
          rintro e w' ⟨rfl, rfl⟩
          go_wp2_with fail
          go_roundw
          case rel => exact ⟨k + 1, by omega, rfl, HN.out, HB.out.alloc HB.out.size _⟩
          case measure => simp [intOf]; omega
        · have hn : c = upN 1 b := by have h := HST.out; rw [q4] at h; exact h.symm
          have HN := Lib.hid hn; clear hn HST q4
          have hcon : Hid (∀ W : World, Calls Tryd.prog 128 #[.int .u8 c, .int .i64 1] W fun e w' => e = .returned (.bool false) ∧ W = w') := Lib.hid fun W => by
            have h := isTimes_any c 1 W
            rw [q3] at h; exact h
          clear q3
          have i1 : (lo : Int) ≤ c := by omega
          have i2 : (c : Int) ≤ hi := by omega
          have hce := HCE.out
          go_wp2_with fail
          refine (hcon.out _).mono ?_
          rintro e w' ⟨rfl, rfl⟩
          go_wp2_with fail
          go_ret
          exact ⟨by rw [← HN.out]; rfl, HB.out.alloc HB.out.size _⟩
      · obtain rfl : k = 3 := by omega
        have hn : b = upN 1 b := hup
        have HN := Lib.hid hn; clear hn hup
        go_wp2_with fail
        go_ret
        exact ⟨by rw [← HN.out]; rfl, HB.out⟩
  · have hidx := fun (k : Nat) (hk : k < 3) (W : World) => row_idx 2 k (by omega) hk W
    have h0 := HT.out.cs 18 (by omega)
    have h1 := HT.out.cs 19 (by omega)
    have h2 := HT.out.cs 20 (by omega)
    have h3 := HT.out.cs 21 (by omega)
    have h4 := HT.out.cs 22 (by omega)
    have h5 := HT.out.cs 23 (by omega)
    have h6 := HT.out.cs 24 (by omega)
    have h7 := HT.out.cs 25 (by omega)
    have h8 := HT.out.cs 26 (by omega)
    simp only [casesL, List.getD_cons_zero, List.getD_cons_succ] at h0 h1 h2 h3 h4 h5 h6 h7 h8
    simp only [rowsV, casesL, List.range, List.range.loop, List.map_cons, List.map_nil, List.getD_cons_zero, List.getD_cons_succ, Nat.reduceMul, Nat.reduceAdd, Nat.zero_add, Nat.add_zero] at hidx
    change Calls Tryd.prog 119 #[.int .u8 b, .int .i64 2] w _
    go_enter Tryd.func119, Tryd.ntmps119
    go_wp2_with fail
    clear h0 h1 h2 h3 h4 h5 h6 h7 h8
    have HIX := Lib.hid hidx; clear hidx
    go_loopw [11] (fun i wr => ∃ k : Nat, k ≤ 3 ∧ i = .int .i64 k ∧ upFrom 2 b k (3 - k) = upN 2 b ∧ Below w.heap.size w wr) (fun i _ => 3 - (intOf i).toNat)
    case atStart => exact ⟨0, by omega, rfl, up_eq hb (by omega), Below.refl _ _⟩
    case round =>
      obtain ⟨k, hk, rfl, hup, hbel⟩ := hrel
      have HB := Lib.hid hbel; clear hbel
      by_cases hlt : k < 3
      · have hix := HIX.out k hlt
        have hst := up_step 2 b k hlt
        rw [hup] at hst
        obtain ⟨r1, r2, r3⟩ := row_small 2 k
        have hcs := hit_cases 2 ((b + 256 - (caseRow 2 k).2.2) % 256) (caseRow 2 k).1 (caseRow 2 k).2.1 (h := hitUp 2 b k) rfl
        generalize (caseRow 2 k).1 = lo at *
        generalize (caseRow 2 k).2.1 = hi at *
        generalize (caseRow 2 k).2.2 = d at *
        have hce : ((b : Int) - d) % 256 = (((b + 256 - d) % 256 : Nat) : Int) := by omega
        have hcl : (b + 256 - d) % 256 < 256 := Nat.mod_lt _ (by omega)
        generalize (b + 256 - d) % 256 = c at *
        have HST := Lib.hid hst; clear hst hup
        have HCE := Lib.hid hce; clear hce
        rcases hcs with ⟨q1, q2⟩ | ⟨q1, q2, q3⟩ | ⟨q1, q2, q3, q4⟩ | ⟨q1, q2, q3, q4⟩
        · have hn : upFrom 2 b (k + 1) (3 - (k + 1)) = upN 2 b := by have h := HST.out; rw [q2] at h; exact h.symm
          have HN := Lib.hid hn; clear hn HST q2
          have i1 : ¬ (lo : Int) ≤ c := by omega
          have hce := HCE.out
          go_wp2_with fail
          exact ⟨⟨k + 1, by omega, rfl, HN.out, HB.out.alloc HB.out.size _⟩, by simp [intOf]; omega⟩
        · have hn : upFrom 2 b (k + 1) (3 - (k + 1)) = upN 2 b := by have h := HST.out; rw [q3] at h; exact h.symm
          have HN := Lib.hid hn; clear hn HST q3
          have i1 : (lo : Int) ≤ c := by omega
          have i2 : ¬ (c : Int) ≤ hi := by omega
          have hce := HCE.out
          go_wp2_with fail
          exact ⟨⟨k + 1, by omega, rfl, HN.out, HB.out.alloc HB.out.size _⟩, by simp [intOf]; omega⟩
        · have hn : upFrom 2 b (k + 1) (3 - (k + 1)) = upN 2 b := by have h := HST.out; rw [q4] at h; exact h.symm
          have HN := Lib.hid hn; clear hn HST q4
          have hcon : Hid (∀ W : World, Calls Tryd.prog 128 #[.int .u8 c, .int .i64 2] W fun e w' => e = .returned (.bool true) ∧ W = w') := Lib.hid fun W => by
            have h := isTimes_any c 2 W
            rw [q3] at h; exact h
          clear q3
          have i1 : (lo : Int) ≤ c := by omega
          have i2 : (c : Int) ≤ hi := by omega
          have hce := HCE.out
          go_wp2_with fail
          refine (hcon.out _).mono ?_
          rintro e w' ⟨rfl, rfl⟩
          go_wp2_with fail
          go_roundw
          case rel => exact ⟨k + 1, by omega, rfl, HN.out, HB.out.alloc HB.out.size _⟩
          case measure => simp [intOf]; omega
        · have hn : c = upN 2 b := by have h := HST.out; rw [q4] at h; exact h.symm
          have HN := Lib.hid hn; clear hn HST q4
          have hcon : Hid (∀ W : World, Calls Tryd.prog 128 #[.int .u8 c, .int .i64 2] W fun e w' => e = .returned (.bool false) ∧ W = w') := Lib.hid fun W => by
            have h := isTimes_any c 2 W
            rw [q3] at h; exact h
          clear q3
          have i1 : (lo : Int) ≤ c := by omega
          have i2 : (c : Int) ≤ hi := by omega
          have hce := HCE.out
          go_wp2_with fail
          refine (hcon.out _).mono ?_
          rintro e w' ⟨rfl, rfl⟩
          go_wp2_with fail
          go_ret
          exact ⟨by rw [← HN.out]; rfl, HB.out.alloc HB.out.size _⟩
      · obtain rfl : k = 3 := by omega
        have hn : b = upN 2 b := hup
        have HN := Lib.hid hn; clear hn hup
        go_wp2_with fail
        go_ret
        exact ⟨by rw [← HN.out]; rfl, HB.out⟩
end Go.Proofs.YtiddnacmopfamaaDoor

/- isLetter, weight and wrong of the program. -/
namespace Go.Proofs.YtiddnacmopfamaaDoor
open Go.RowKit
set_option linter.unusedVariables false
set_option linter.unusedSimpArgs false

theorem up_lt {p b : Nat} (hb : b < 256) (hp : p < 3) : upN p b < 256 := (up_tab ⟨p, hp⟩ ⟨b, hb⟩).2.2.2.1
theorem low_lt {p b : Nat} (hb : b < 256) (hp : p < 3) : lowN p b < 256 := (up_tab ⟨p, hp⟩ ⟨b, hb⟩).2.2.2.2
theorem let_eq {p b : Nat} (hb : b < 256) (hp : p < 3) : (upN p b != lowN p b) = letN p b := (up_tab ⟨p, hp⟩ ⟨b, hb⟩).2.2.1

/-- What the functions have in common: a text too long, or a wrong page or collation. -/
def wrongN (p c : Int) (ss : List ByteArray) : Int := if ss.any (fun s => decide (2048 < s.size)) then 3 else if 0 ≤ p ∧ p < 3 ∧ (c = 0 ∨ c = 1) then 0 else 1
theorem any_take {ss : List ByteArray} {k : Nat} (h : k < ss.length) (f : ByteArray → Bool) : (ss.take (k + 1)).any f = ((ss.take k).any f || f (ss.getD k ByteArray.empty)) := by
  rw [List.take_succ_eq_append_getElem h, List.any_append]; simp [List.getD, h]
theorem any_at {ss : List ByteArray} {k : Nat} (h : k < ss.length) (f : ByteArray → Bool) (hf : f (ss.getD k ByteArray.empty) = true) : ss.any f = true := by
  rw [List.any_eq_true]
  refine ⟨_, List.getElem_mem h, ?_⟩
  simpa [List.getD, h] using hf

set_option maxHeartbeats 1000000 in
theorem isPage_any (p : Int) (w : World) : Calls Tryd.prog 104 #[.int .i64 p] w fun e w' => e = .returned (.bool (decide (0 ≤ p) && decide (p < 3))) ∧ w = w' := by
  by_cases h : 0 ≤ p
  · by_cases h2 : p < 3
    · have e1 : (decide (0 ≤ p) && decide (p < 3)) = true := by simp [h, h2]
      rw [e1]; clear e1
      go_enter Tryd.func104, Tryd.ntmps104
      go_wp2
      go_ret
      exact ⟨rfl, rfl⟩
    · have e1 : (decide (0 ≤ p) && decide (p < 3)) = false := by simp [h2]
      rw [e1]; clear e1
      go_enter Tryd.func104, Tryd.ntmps104
      go_wp2
      go_ret
      exact ⟨rfl, rfl⟩
  · have e1 : (decide (0 ≤ p) && decide (p < 3)) = false := by simp [h]
    rw [e1]; clear e1
    go_enter Tryd.func104, Tryd.ntmps104
    go_wp2
    go_ret
    exact ⟨rfl, rfl⟩

set_option maxHeartbeats 2000000 in
theorem wrong_any (p c : Int) (ss : List ByteArray) (ad : Addr) (cap : Nat) (w : World) (hl : ss.length ≤ 100) (hs : ∀ s ∈ ss, s.size ≤ maxLen)
    (hc : ∀ j, j < ss.length → w.cell? (ad.add j) = some (.string (ss.getD j ByteArray.empty))) :
    Calls Tryd.prog 90 #[.int .i64 p, .int .i64 c, .slice (some ad) ss.length cap] w fun e w' => e = .returned (.int .i64 (wrongN p c ss)) ∧ w = w' := by
  have HC := Lib.hid hc; clear hc
  have HS := Lib.hid hs; clear hs
  go_enter Tryd.func90, Tryd.ntmps90
  go_wp2_with fail
  go_loop [8, 11] (fun _ i => ∃ k : Nat, k ≤ ss.length ∧ i = .int .i64 k ∧ Hid ((ss.take k).any (fun s => decide (2048 < s.size)) = false)) (fun _ i => ss.length - (intOf i).toNat)
  case atStart => exact ⟨0, by omega, rfl, Lib.hid (by simp)⟩
  case round =>
    obtain ⟨k, hk, rfl, HA⟩ := hrel
    by_cases hlt : k < ss.length
    · have hck := HC.out k hlt
      have hmem : (ss.getD k ByteArray.empty).size ≤ maxLen := HS.out _ (by simp [List.getD, hlt])
      have ht := any_take hlt (fun s => decide (2048 < s.size))
      have hat := any_at hlt (fun s => decide (2048 < s.size))
      generalize ss.getD k ByteArray.empty = s at *
      unfold maxLen at hmem
      by_cases hbig : 2048 < s.size
      · have hw : wrongN p c ss = 3 := by unfold wrongN; rw [if_pos (hat (by simpa using hbig))]
        have HW := Lib.hid hw; clear hw hat ht
        have i1 : (2048 : Int) < s.size := by omega
        go_wp2_with fail
        go_ret
        exact ⟨by rw [HW.out]; rfl, rfl⟩
      · have hn : (ss.take (k + 1)).any (fun s => decide (2048 < s.size)) = false := by rw [ht, HA.out]; simpa using hbig
        have HN := Lib.hid hn; clear hn hat ht
        have i1 : ¬ (2048 : Int) < s.size := by omega
        go_wp2_with fail
        exact ⟨⟨k + 1, by omega, rfl, HN⟩, by simp [intOf]; omega⟩
    · have hkl : k = ss.length := by omega
      have hn : ss.any (fun s => decide (2048 < s.size)) = false := by have := HA.out; rwa [hkl, List.take_length] at this
      have HN := Lib.hid hn; clear hn
      have HK := Lib.hid hkl; clear hkl
      by_cases hp : 0 ≤ p ∧ p < 3
      · have e1 : (decide (0 ≤ p) && decide (p < 3)) = true := by simp [hp]
        have hcon := Lib.hid (fun W => by have h := isPage_any p W; rw [e1] at h; exact h)
        by_cases h0 : c = 0
        · have HW : Hid (wrongN p c ss = 0) := Lib.hid (by unfold wrongN; rw [HN.out]; simp [hp, h0])
          have d0 : (c != 0) = false := by simp [h0]
          clear hp e1 h0
          go_wp2_with fail
          refine (hcon.out _).mono ?_
          rintro e w' ⟨rfl, rfl⟩
          go_wp2_with fail
          go_ret
          exact ⟨by rw [HW.out]; rfl, rfl⟩
        · by_cases h1 : c = 1
          · have HW : Hid (wrongN p c ss = 0) := Lib.hid (by unfold wrongN; rw [HN.out]; simp [hp, h1])
            have d0 : (c != 0) = true := by simp [h0]
            have d1 : (c != 1) = false := by simp [h1]
            clear hp e1 h0 h1
            go_wp2_with fail
            refine (hcon.out _).mono ?_
            rintro e w' ⟨rfl, rfl⟩
            go_wp2_with fail
            go_ret
            exact ⟨by rw [HW.out]; rfl, rfl⟩
          · have HW : Hid (wrongN p c ss = 1) := Lib.hid (by unfold wrongN; rw [HN.out]; simp [hp, h0, h1])
            have d0 : (c != 0) = true := by simp [h0]
            have d1 : (c != 1) = true := by simp [h1]
            clear hp e1 h0 h1
            go_wp2_with fail
            refine (hcon.out _).mono ?_
            rintro e w' ⟨rfl, rfl⟩
            go_wp2_with fail
            go_ret
            exact ⟨by rw [HW.out]; rfl, rfl⟩
      · have e1 : (decide (0 ≤ p) && decide (p < 3)) = false := by
          cases h : (decide (0 ≤ p) && decide (p < 3))
          · rfl
          · exact absurd (by simpa using h) hp
        have hcon := Lib.hid (fun W => by have h := isPage_any p W; rw [e1] at h; exact h)
        have HW : Hid (wrongN p c ss = 1) := Lib.hid (by unfold wrongN; rw [HN.out, if_neg (by simp), if_neg (fun h => hp ⟨h.1, h.2.1⟩)])
        clear hp e1
        go_wp2_with fail
        refine (hcon.out _).mono ?_
        rintro e w' ⟨rfl, rfl⟩
        go_wp2_with fail
        go_ret
        exact ⟨by rw [HW.out]; rfl, rfl⟩
end Go.Proofs.YtiddnacmopfamaaDoor

/- weight of the program. -/
namespace Go.Proofs.YtiddnacmopfamaaDoor
open Go.RowKit
set_option linter.unusedVariables false
set_option linter.unusedSimpArgs false

theorem wei_step (b k : Nat) (hk : k < 9) : weiFrom b k (9 - k) = if hitAcc b k then (accRow k).2.2 else weiFrom b (k + 1) (9 - (k + 1)) := by
  rw [show 9 - k = (9 - (k + 1)) + 1 by omega]; rfl
theorem acc_small (k : Nat) : (accRow k).1 < 256 ∧ (accRow k).2.1 < 256 ∧ (accRow k).2.2 < 256 := by
  unfold accRow; repeat' split
  all_goals simp
theorem acc_cases (c lo hi : Nat) {h : Bool} (e : h = (decide (lo ≤ c) && decide (c ≤ hi))) : (¬ lo ≤ c ∧ h = false) ∨ (lo ≤ c ∧ ¬ c ≤ hi ∧ h = false) ∨ (lo ≤ c ∧ c ≤ hi ∧ h = true) := by
  subst e
  by_cases a : lo ≤ c
  · by_cases b : c ≤ hi
    · exact .inr (.inr ⟨a, b, by simp [a, b]⟩)
    · exact .inr (.inl ⟨a, b, by simp [b]⟩)
  · exact .inl ⟨a, by simp [a]⟩
def accV : Array Value := (accL.map fun z => Value.int .u8 z).toArray
theorem acc_idx (k : Nat) (hk : k < 9) (w : World) : (Instr.index 151 (.agg accV) (.int .i64 k)).run Tryd.prog w = .ok (.agg #[.int .u8 (accRow k).1, .int .u8 (accRow k).2.1, .int .u8 (accRow k).2.2]) w := by
  rcases (show k = 0 ∨ k = 1 ∨ k = 2 ∨ k = 3 ∨ k = 4 ∨ k = 5 ∨ k = 6 ∨ k = 7 ∨ k = 8 by omega) with rfl | rfl | rfl | rfl | rfl | rfl | rfl | rfl | rfl <;>
    simp [Instr.index, asIntOf, run_underlying Tryd.underlying151, go_sem, accV, accL, accRow]

theorem acc_range (w : World) (h : Tabs w) : w.rangeAt 0 0 accV.toList := fun j v hj => by
  rw [show accV.toList = accL.map fun z => Value.int .u8 z from rfl, List.getElem?_map, Option.map_eq_some_iff] at hj
  obtain ⟨z, hz, rfl⟩ := hj
  have hj := (List.getElem?_eq_some_iff.1 hz).1
  rw [Nat.zero_add, h.ac j hj, List.getD, hz]; rfl
theorem acc_len : (Tryd.prog.info? 151).map (·.size) = some accV.toList.length := by kernel_rfl

set_option maxHeartbeats 4000000 in
set_option maxRecDepth 40000 in
theorem weight_any (b p c : Nat) (hb : b < 256) (hp : p < 3) (hc : c < 2) (w : World) (ht : Tabs w) :
    Calls Tryd.prog 107 #[.int .u8 b, .int .i64 p, .int .i64 c] w fun e w' => e = .returned (.int .u8 (weiN p c b)) ∧ Below w.heap.size w w' := by
  have HT := Lib.hid ht; clear ht
  rcases (show c = 0 ∨ c = 1 by omega) with rfl | rfl
  · have HW : Hid (weiN p 0 b = b) := Lib.hid (by simp [weiN])
    change Calls Tryd.prog 107 #[.int .u8 b, .int .i64 p, .int .i64 0] w _
    go_enter Tryd.func107, Tryd.ntmps107
    go_wp2_with fail
    go_ret
    exact ⟨by rw [HW.out]; rfl, Below.refl _ _⟩
  · have hwt := (wei_tab ⟨p, hp⟩ ⟨b, hb⟩).1
    have hcon := Lib.hid (fun W (h : Tabs W) => upper_any b p hb hp W h)
    have hul := up_lt hb hp
    simp only at hwt
    change Calls Tryd.prog 107 #[.int .u8 b, .int .i64 p, .int .i64 1] w _
    by_cases h1 : p = 1
    · subst h1
      rw [if_neg (by simp)] at hwt
      generalize upN 1 b = u at *
      have HW := Lib.hid hwt; clear hwt
      have HIX := Lib.hid acc_idx
      have HLD := Lib.hid (fun W (h : Tabs W) => acc_range W h)
      have HLN := Lib.hid acc_len
      generalize accV = AV at HIX HLD HLN
      obtain ⟨cs⟩ := AV
      change Calls Tryd.prog 107 #[.int .u8 b, .int .i64 1, .int .i64 1] w _
      go_enter Tryd.func107, Tryd.ntmps107
      go_wp2_with fail
      refine (hcon.out _ HT.out).mono ?_
      rintro e w1 ⟨rfl, hb1⟩
      have hld := Lib.hid (HLD.out w1 (HT.out.below hb1 (Nat.le_refl _)))
      have HB1 := Lib.hid hb1; clear hb1
      go_wp2_with (refine wpList_load_mid rfl 151 _ rfl 0 0 rfl cs _ hld.out Tryd.underlying151 rfl HLN.out ?_)
      clear hld
      go_loopw [19] (fun i wr => ∃ k : Nat, k ≤ 9 ∧ i = .int .i64 k ∧ weiFrom u k (9 - k) = weiN 1 1 b ∧ Below w.heap.size w wr) (fun i _ => 9 - (intOf i).toNat)
      case atStart => exact ⟨0, by omega, rfl, HW.out, HB1.out⟩
      case round =>
        obtain ⟨k, hk, rfl, hup, hbel⟩ := hrel
        have HB := Lib.hid hbel; clear hbel
        by_cases hlt : k < 9
        · have hix := HIX.out k hlt
          have hst := wei_step u k hlt
          rw [hup] at hst
          obtain ⟨r1, r2, r3⟩ := acc_small k
          have hcs := acc_cases u (accRow k).1 (accRow k).2.1 (h := hitAcc u k) rfl
          generalize (accRow k).1 = lo at *
          generalize (accRow k).2.1 = hi at *
          generalize (accRow k).2.2 = d at *
          have HST := Lib.hid hst; clear hst hup
          rcases hcs with ⟨q1, q2⟩ | ⟨q1, q2, q3⟩ | ⟨q1, q2, q3⟩
          · have hn : weiFrom u (k + 1) (9 - (k + 1)) = weiN 1 1 b := by have h := HST.out; rw [q2] at h; exact h.symm
            have HN := Lib.hid hn; clear hn HST q2
            have i1 : ¬ (lo : Int) ≤ u := by omega
            go_wp2_with fail
            exact ⟨⟨k + 1, by omega, rfl, HN.out, HB.out.alloc HB.out.size _⟩, by simp [intOf]; omega⟩
          · have hn : weiFrom u (k + 1) (9 - (k + 1)) = weiN 1 1 b := by have h := HST.out; rw [q3] at h; exact h.symm
            have HN := Lib.hid hn; clear hn HST q3
            have i1 : (lo : Int) ≤ u := by omega
            have i2 : ¬ (u : Int) ≤ hi := by omega
            go_wp2_with fail
            exact ⟨⟨k + 1, by omega, rfl, HN.out, HB.out.alloc HB.out.size _⟩, by simp [intOf]; omega⟩
          · have hn : d = weiN 1 1 b := by have h := HST.out; rw [q3] at h; exact h.symm
            have HN := Lib.hid hn; clear hn HST q3
            have i1 : (lo : Int) ≤ u := by omega
            have i2 : (u : Int) ≤ hi := by omega
            go_wp2_with fail
            go_ret
            exact ⟨by rw [← HN.out]; rfl, HB.out.alloc HB.out.size _⟩
        · obtain rfl : k = 9 := by omega
          have hn : u = weiN 1 1 b := hup
          have HN := Lib.hid hn; clear hn hup
          go_wp2_with fail
          go_ret
          exact ⟨by rw [← HN.out]; rfl, HB.out⟩
    · rw [if_pos h1] at hwt
      have HW := Lib.hid hwt; clear hwt
      generalize upN p b = u at *
      have d1 : ((p : Int) != 1) = true := by simp; omega
      clear h1
      go_enter Tryd.func107, Tryd.ntmps107
      go_wp2_with fail
      refine (hcon.out _ HT.out).mono ?_
      rintro e w1 ⟨rfl, hb1⟩
      have HB1 := Lib.hid hb1; clear hb1
      go_wp2_with fail
      go_ret
      exact ⟨by rw [← HW.out]; rfl, HB1.out⟩
end Go.Proofs.YtiddnacmopfamaaDoor

/- mapped of the program: each byte of a text replaced, by a function that turns no old block. -/
namespace Go.Proofs.YtiddnacmopfamaaDoor
open Go.RowKit
set_option linter.unusedVariables false
set_option linter.unusedSimpArgs false

/-- A row of bytes of the call's own that may be written. -/
def BRow (w : World) (g : Nat) (bs : List UInt8) : Prop := g < w.heap.size ∧ ∀ j, j < bs.length → w.cell? ⟨g, j, none⟩ = some (.int .u8 ((bs.getD j 0).toNat : Int)) ∧ w.frozen? ⟨g, j, none⟩ = false
theorem BRow.below {w w' : World} {g B : Nat} {bs : List UInt8} (h : BRow w g bs) (hb : Below B w w') (hg : g < B) : BRow w' g bs :=
  ⟨by have := h.1; have := hb.size; omega, fun j hj => ⟨by rw [hb.cell (p := ⟨g, j, none⟩) hg]; exact (h.2 j hj).1, by rw [hb.frozen (p := ⟨g, j, none⟩) hg]; exact (h.2 j hj).2⟩⟩
theorem BRow.set {w : World} {g k : Nat} {bs : List UInt8} {z : UInt8} {v : Int} (h : BRow w g bs) (hk : k < bs.length) (hv : v = (z.toNat : Int)) : BRow (w.setCell ⟨g, k, none⟩ (.int .u8 v)) g (bs.set k z) := by
  subst hv
  refine ⟨by have := h.1; simpa using this, fun j hj => ⟨?_, ?_⟩⟩
  · rw [List.length_set] at hj
    by_cases e : j = k
    · subst e
      rw [World.cell?_setCell_same _ _ _ (h.2 j hj).1]
      simp [List.getD, hj]
    · rw [World.cell?_setCell_other _ _ _ _ (fun x => e (by injection x with _ x _; exact x.symm)), (h.2 j hj).1]
      simp [List.getD, List.getElem?_set, Ne.symm e]
  · rw [World.frozen?_setCell]
    exact (h.2 j (by simpa using hj)).2
theorem BRow.new (w : World) (s : ByteArray) (cap : Nat) : BRow (w.alloc (.cells (bytesRow s cap) 5 ((bytesRow s cap).size, (bytesRow s cap).size + 1))) w.heap.size s.data.toList := by
  refine ⟨by simp, fun j hj => ⟨?_, ?_⟩⟩
  · have hj' : j < s.data.size := by simpa using hj
    rw [World.cell?_alloc_mark, bytesRow_at s cap j hj']
    have e : s.data.toList.getD j 0 = s.data[j] := by simp [List.getD, Array.getElem?_eq_getElem hj']
    rw [e]
  · rw [World.frozen?_alloc_mark]
    have : j < (bytesRow s cap).size := by
      have hj' : j < s.data.size := by simpa using hj
      unfold bytesRow
      rw [Array.size_append, Array.size_map]
      omega
    simp; omega
theorem BRow.text {w : World} {g : Nat} {bs : List UInt8} (h : BRow w g bs) (cap : Nat) : (convert 73 9 (.slice (some ⟨g, 0, none⟩) bs.length cap)).run Tryd.prog w = .ok (.string ⟨bs.toArray⟩) w :=
  run_convert_bytes_back w 73 9 5 ⟨g, 0, none⟩ cap bs Tryd.underlying73 Tryd.underlying5 Tryd.underlying9 fun j hj => by
    have := (h.2 j hj).1
    rw [show (⟨g, 0, none⟩ : Addr).add j = ⟨g, j, none⟩ by unfold Addr.add; split <;> simp_all, this]
    simp [List.getD, hj]
theorem BRow.drew {w : World} {g : Nat} {bs : List UInt8} (h : BRow w g bs) : BRow w.drew g bs := h

def mapB (f : Nat → Nat) (b : UInt8) : UInt8 := UInt8.ofNat (f b.toNat)
def mapS (f : Nat → Nat) (s : ByteArray) : ByteArray := ⟨(s.data.toList.map (mapB f)).toArray⟩
theorem part_set (f : Nat → Nat) (l : List UInt8) {k : Nat} (hk : k < l.length) : ((l.take k).map (mapB f) ++ l.drop k).set k (mapB f (l.getD k 0)) = (l.take (k + 1)).map (mapB f) ++ l.drop (k + 1) := by
  have h1 : ((l.take k).map (mapB f)).length = k := by simp; omega
  rw [List.set_append_right _ _ (by omega), h1, Nat.sub_self, List.drop_eq_getElem_cons hk, List.set_cons_zero, List.take_succ_eq_append_getElem hk, List.map_append, List.append_assoc]
  have e : l.getD k 0 = l[k] := by simp [List.getD, hk]
  rw [e]; rfl
theorem part_at (f : Nat → Nat) (l : List UInt8) {k : Nat} (hk : k < l.length) : ((l.take k).map (mapB f) ++ l.drop k).getD k 0 = l.getD k 0 := by
  have h1 : ((l.take k).map (mapB f)).length = k := by simp; omega
  rw [List.getD_eq_getElem?_getD, List.getElem?_append_right (by omega), h1, Nat.sub_self]
  simp [List.getD, hk]
theorem part_len (f : Nat → Nat) (l : List UInt8) (k : Nat) (hk : k ≤ l.length) : ((l.take k).map (mapB f) ++ l.drop k).length = l.length := by simp; omega
theorem byte_lt (b : UInt8) : b.toNat < 256 := b.toNat_lt

set_option maxHeartbeats 2000000 in
theorem mapped_any (n : FuncId) (c1 : Value) (f : Nat → Nat) (s : ByteArray) (w : World) (hs : s.size ≤ 100000) (hf : ∀ b, b < 256 → f b < 256)
    (hent : ∀ (b : Int) (W : World), (callFunc n #[.int .u8 b, c1]).run Tryd.prog W = .ok (.enter n #[.int .u8 b, c1]) W)
    (hcall : ∀ W, Below w.heap.size w W → ∀ b : Nat, b < 256 → Calls Tryd.prog n #[.int .u8 b, c1] W fun e w' => e = .returned (.int .u8 (f b)) ∧ Below W.heap.size W w') :
    Calls Tryd.prog 105 #[.string s, .func (.func n) #[] #[c1]] w fun e w' => e = .returned (.string (mapS f s)) ∧ Below w.heap.size w w' := by
  have HC := Lib.hid hcall; clear hcall
  have HF := Lib.hid hf; clear hf
  have hcv := Lib.hid (fun W : World => run_bytes_of_string (P := Tryd.prog) W 9 73 5 s Tryd.underlying9 Tryd.underlying73 Tryd.underlying5)
  have hsz : s.data.toList.length = s.size := rfl
  have hcv1 := hcv.out w
  generalize hcapE : grownCap w s.size 0 5 = cap at hcv1
  have HBR := Lib.hid (BRow.new w.drew s cap)
  have hbl : Below w.heap.size w (w.drew.alloc (.cells (bytesRow s cap) 5 ((bytesRow s cap).size, (bytesRow s cap).size + 1))) := (((Below.refl _ _).drew).alloc (by simp) _)
  have HBL := Lib.hid hbl; clear hbl
  generalize w.drew.alloc (.cells (bytesRow s cap) 5 ((bytesRow s cap).size, (bytesRow s cap).size + 1)) = w0 at hcv1 HBR HBL
  rw [show w.drew.heap.size = w.heap.size from rfl] at HBR
  go_enter Tryd.func105, Tryd.ntmps105
  go_wp2_with fail
  go_loopw [12] (fun i wr => ∃ k : Nat, k ≤ s.data.toList.length ∧ i = .int .i64 k ∧ BRow wr w.heap.size ((s.data.toList.take k).map (mapB f) ++ s.data.toList.drop k) ∧ Below w.heap.size w wr) (fun i _ => s.size - (intOf i).toNat)
  case atStart => exact ⟨0, by omega, rfl, by simpa using HBR.out, HBL.out⟩
  case round =>
    obtain ⟨k, hk, rfl, hrow, hbel⟩ := hrel
    have HB := Lib.hid hbel; clear hbel
    have HR := Lib.hid hrow; clear hrow
    by_cases hlt : k < s.data.toList.length
    · have hck := (HR.out.2 k (by rw [part_len f _ k hk]; exact hlt)).1
      rw [part_at f _ hlt] at hck
      have HPS := Lib.hid (part_set f _ hlt)
      have hbb := byte_lt (s.data.toList.getD k 0)
      have hfb := HF.out _ hbb
      have hmb : mapB f (s.data.toList.getD k 0) = UInt8.ofNat (f (s.data.toList.getD k 0).toNat) := rfl
      have hks : k < s.size := by omega
      have hks' : (k : Int) < s.size := by omega
      have HMB := Lib.hid hmb; clear hmb
      generalize (s.data.toList.getD k 0) = z at *
      go_wp2_with fail
      refine (HC.out _ HB.out _ hbb).mono ?_
      rintro e w1 ⟨rfl, hb1⟩
      have hr1 := HR.out.below hb1 HR.out.1
      have hfz := (hr1.2 k (by rw [part_len f _ k hk]; exact hlt))
      obtain ⟨hc1, hf1⟩ := hfz
      have HR1 := Lib.hid hr1; clear hr1
      have HB1 := Lib.hid hb1; clear hb1
      rw [part_at f _ hlt] at hc1
      go_wp2_with fail
      go_roundw
      case rel => exact ⟨k + 1, by omega, by go_num, by rw [← HPS.out]; exact HR1.out.set (by rw [part_len f _ k hk]; exact hlt) (by rw [HMB.out]; simp; omega), (HB.out.trans (HB1.out.mono HB.out.size)).setCell (Nat.le_refl _) _⟩
      case measure => simp [intOf]; omega
    · have hkl : k = s.data.toList.length := by omega
      have hks : k = s.size := by omega
      have hrow := HR.out
      rw [hkl, List.take_length, List.drop_length, List.append_nil] at hrow
      have htx := hrow.text cap
      rw [List.length_map, hsz] at htx
      have HTX := Lib.hid hrow; clear hrow
      clear hkl
      go_wp2_with fail
      go_ret
      exact ⟨rfl, HB.out⟩
set_option maxHeartbeats 2000000 in
theorem mapped2_any (n : FuncId) (c1 c2 : Value) (f : Nat → Nat) (s : ByteArray) (w : World) (hs : s.size ≤ 100000) (hf : ∀ b, b < 256 → f b < 256)
    (hent : ∀ (b : Int) (W : World), (callFunc n #[.int .u8 b, c1, c2]).run Tryd.prog W = .ok (.enter n #[.int .u8 b, c1, c2]) W)
    (hcall : ∀ W, Below w.heap.size w W → ∀ b : Nat, b < 256 → Calls Tryd.prog n #[.int .u8 b, c1, c2] W fun e w' => e = .returned (.int .u8 (f b)) ∧ Below W.heap.size W w') :
    Calls Tryd.prog 105 #[.string s, .func (.func n) #[] #[c1, c2]] w fun e w' => e = .returned (.string (mapS f s)) ∧ Below w.heap.size w w' := by
  have HC := Lib.hid hcall; clear hcall
  have HF := Lib.hid hf; clear hf
  have hcv := Lib.hid (fun W : World => run_bytes_of_string (P := Tryd.prog) W 9 73 5 s Tryd.underlying9 Tryd.underlying73 Tryd.underlying5)
  have hsz : s.data.toList.length = s.size := rfl
  have hcv1 := hcv.out w
  generalize hcapE : grownCap w s.size 0 5 = cap at hcv1
  have HBR := Lib.hid (BRow.new w.drew s cap)
  have hbl : Below w.heap.size w (w.drew.alloc (.cells (bytesRow s cap) 5 ((bytesRow s cap).size, (bytesRow s cap).size + 1))) := (((Below.refl _ _).drew).alloc (by simp) _)
  have HBL := Lib.hid hbl; clear hbl
  generalize w.drew.alloc (.cells (bytesRow s cap) 5 ((bytesRow s cap).size, (bytesRow s cap).size + 1)) = w0 at hcv1 HBR HBL
  rw [show w.drew.heap.size = w.heap.size from rfl] at HBR
  go_enter Tryd.func105, Tryd.ntmps105
  go_wp2_with fail
  go_loopw [12] (fun i wr => ∃ k : Nat, k ≤ s.data.toList.length ∧ i = .int .i64 k ∧ BRow wr w.heap.size ((s.data.toList.take k).map (mapB f) ++ s.data.toList.drop k) ∧ Below w.heap.size w wr) (fun i _ => s.size - (intOf i).toNat)
  case atStart => exact ⟨0, by omega, rfl, by simpa using HBR.out, HBL.out⟩
  case round =>
    obtain ⟨k, hk, rfl, hrow, hbel⟩ := hrel
    have HB := Lib.hid hbel; clear hbel
    have HR := Lib.hid hrow; clear hrow
    by_cases hlt : k < s.data.toList.length
    · have hck := (HR.out.2 k (by rw [part_len f _ k hk]; exact hlt)).1
      rw [part_at f _ hlt] at hck
      have HPS := Lib.hid (part_set f _ hlt)
      have hbb := byte_lt (s.data.toList.getD k 0)
      have hfb := HF.out _ hbb
      have hmb : mapB f (s.data.toList.getD k 0) = UInt8.ofNat (f (s.data.toList.getD k 0).toNat) := rfl
      have hks : k < s.size := by omega
      have hks' : (k : Int) < s.size := by omega
      have HMB := Lib.hid hmb; clear hmb
      generalize (s.data.toList.getD k 0) = z at *
      go_wp2_with fail
      refine (HC.out _ HB.out _ hbb).mono ?_
      rintro e w1 ⟨rfl, hb1⟩
      have hr1 := HR.out.below hb1 HR.out.1
      have hfz := (hr1.2 k (by rw [part_len f _ k hk]; exact hlt))
      obtain ⟨hc1, hf1⟩ := hfz
      have HR1 := Lib.hid hr1; clear hr1
      have HB1 := Lib.hid hb1; clear hb1
      rw [part_at f _ hlt] at hc1
      go_wp2_with fail
      go_roundw
      case rel => exact ⟨k + 1, by omega, by go_num, by rw [← HPS.out]; exact HR1.out.set (by rw [part_len f _ k hk]; exact hlt) (by rw [HMB.out]; simp; omega), (HB.out.trans (HB1.out.mono HB.out.size)).setCell (Nat.le_refl _) _⟩
      case measure => simp [intOf]; omega
    · have hkl : k = s.data.toList.length := by omega
      have hks : k = s.size := by omega
      have hrow := HR.out
      rw [hkl, List.take_length, List.drop_length, List.append_nil] at hrow
      have htx := hrow.text cap
      rw [List.length_map, hsz] at htx
      have HTX := Lib.hid hrow; clear hrow
      clear hkl
      go_wp2_with fail
      go_ret
      exact ⟨rfl, HB.out⟩
end Go.Proofs.YtiddnacmopfamaaDoor

/- Upper, Lower, Weights of the program. -/
namespace Go.Proofs.YtiddnacmopfamaaDoor
open Go.RowKit
set_option linter.unusedVariables false
set_option linter.unusedSimpArgs false

/-- A text with an error's number. -/
def TRes (w : World) (t : ByteArray) (n : Int) (e : Ending) (w' : World) : Prop := e = .returned (.tuple #[.string t, .int .i64 n]) ∧ Below w.heap.size w w'
theorem wrong_zero {p c : Int} {ss : List ByteArray} (h : wrongN p c ss = 0) : 0 ≤ p ∧ p < 3 ∧ (c = 0 ∨ c = 1) ∧ ∀ s ∈ ss, s.size ≤ 2048 := by
  unfold wrongN at h
  split at h
  · cases h
  · split at h
    · rename_i h1 h2
      refine ⟨h2.1, h2.2.1, h2.2.2, fun s hs => ?_⟩
      rw [Bool.not_eq_true, List.any_eq_false] at h1
      have := h1 s hs
      simpa using this
    · cases h
theorem text_cell (w : World) (s : ByteArray) (n : Nat) (hn : n = w.heap.size) : ∀ j, j < [s].length → (w.alloc (.cells #[.string s] 9)).cell? ((⟨n, 0, none⟩ : Addr).add j) = some (.string ([s].getD j ByteArray.empty)) := by
  intro j hj
  have h0 : j = 0 := by simpa using hj
  subst h0 hn
  simp [Addr.add]
def upT (s : ByteArray) (p : Int) : ByteArray := if wrongN p 0 [s] = 0 then mapS (upN p.toNat) s else ⟨#[]⟩
def lowT (s : ByteArray) (p : Int) : ByteArray := if wrongN p 0 [s] = 0 then mapS (lowN p.toNat) s else ⟨#[]⟩
def weiT (s : ByteArray) (p c : Int) : ByteArray := if wrongN p c [s] = 0 then mapS (weiN p.toNat c.toNat) s else ⟨#[]⟩
theorem wei_lt {p c b : Nat} (hb : b < 256) (hp : p < 3) (hc : c < 2) : weiN p c b < 256 := by
  rcases (show c = 0 ∨ c = 1 by omega) with rfl | rfl
  · simp [weiN]; exact hb
  · exact (wei_tab ⟨p, hp⟩ ⟨b, hb⟩).2
theorem cell_new1 (w : World) (v : Value) (t : TypeId) (o : Obj) : ((w.alloc (.cells #[v] t)).alloc o).cell? ⟨w.heap.size, 0, none⟩ = some v := by
  rw [World.cell?_alloc_lt _ _ _ (by simp)]; simp
theorem cell_new2 (w : World) (v : Value) (t : TypeId) : (w.alloc (.cells #[v] t)).cell? ⟨w.heap.size, 0, none⟩ = some v := by simp

end Go.Proofs.YtiddnacmopfamaaDoor

/- weights and Weights of the program. -/
namespace Go.Proofs.YtiddnacmopfamaaDoor
open Go.RowKit
set_option linter.unusedVariables false
set_option linter.unusedSimpArgs false

set_option maxHeartbeats 1000000 in
theorem weightC_any (b p c g h : Nat) (hb : b < 256) (hp : p < 3) (hc : c < 2) (w : World) (ht : Tabs w) (hg : w.cell? ⟨g, 0, none⟩ = some (.int .i64 p)) (hh : w.cell? ⟨h, 0, none⟩ = some (.int .i64 c)) :
    Calls Tryd.prog 106 #[.int .u8 b, .pointer (some ⟨g, 0, none⟩), .pointer (some ⟨h, 0, none⟩)] w fun e w' => e = .returned (.int .u8 (weiN p c b)) ∧ Below w.heap.size w w' := by
  have HT := Lib.hid ht; clear ht
  go_enter Tryd.func106, Tryd.ntmps106
  go_wp2_with fail
  refine (weight_any b p c hb hp hc _ HT.out).mono ?_
  rintro e w1 ⟨rfl, hb1⟩
  have HB1 := Lib.hid hb1; clear hb1
  go_wp2_with fail
  go_ret
  exact ⟨rfl, HB1.out⟩
theorem ent_weights (g h : Nat) (b : Int) (W : World) : (callFunc 106 #[.int .u8 b, .pointer (some ⟨g, 0, none⟩), .pointer (some ⟨h, 0, none⟩)]).run Tryd.prog W = .ok (.enter 106 #[.int .u8 b, .pointer (some ⟨g, 0, none⟩), .pointer (some ⟨h, 0, none⟩)]) W := by
  kernel_rfl

set_option maxHeartbeats 1000000 in
theorem weights_any (s : ByteArray) (p c : Nat) (hp : p < 3) (hc : c < 2) (w : World) (ht : Tabs w) (hs : s.size ≤ 100000) :
    Calls Tryd.prog 91 #[.string s, .int .i64 p, .int .i64 c] w fun e w' => e = .returned (.string (mapS (weiN p c) s)) ∧ Below w.heap.size w w' := by
  have HT := Lib.hid ht; clear ht
  go_enter Tryd.func91, Tryd.ntmps91
  go_wp2_with fail
  have hb0 : Below w.heap.size w ((w.alloc (.cells #[.int .i64 p] 3)).alloc (.cells #[.int .i64 c] 3)) := ((Below.refl _ _).alloc (Nat.le_refl _) _).alloc (by simp) _
  have hcell := cell_new1 w (.int .i64 p) 3 (.cells #[.int .i64 c] 3)
  have hcell2 : ((w.alloc (.cells #[.int .i64 p] 3)).alloc (.cells #[.int .i64 c] 3)).cell? ⟨w.heap.size + 1, 0, none⟩ = some (.int .i64 c) := by simp
  have ht0 : Tabs ((w.alloc (.cells #[.int .i64 p] 3)).alloc (.cells #[.int .i64 c] 3)) := HT.out.below hb0 (Nat.le_refl _)
  have hz0 : w.heap.size + 1 < ((w.alloc (.cells #[.int .i64 p] 3)).alloc (.cells #[.int .i64 c] 3)).heap.size := by simp
  generalize (w.alloc (.cells #[.int .i64 p] 3)).alloc (.cells #[.int .i64 c] 3) = w1 at *
  refine (mapped2_any 106 (.pointer (some ⟨w.heap.size, 0, none⟩)) (.pointer (some ⟨w.heap.size + 1, 0, none⟩)) (weiN p c) s w1 hs (fun b hb => wei_lt hb hp hc) (ent_weights _ _) (fun W hW b hb =>
    weightC_any b p c w.heap.size (w.heap.size + 1) hb hp hc W (ht0.below hW (Nat.le_refl _)) (by rw [hW.cell (p := ⟨w.heap.size, 0, none⟩) (by simp only; omega)]; exact hcell) (by rw [hW.cell (p := ⟨w.heap.size + 1, 0, none⟩) (by simp only; omega)]; exact hcell2))).mono ?_
  rintro e w2 ⟨rfl, hb2⟩
  have HB2 := Lib.hid (hb0.trans (hb2.mono (by omega))); clear hb2
  go_wp2_with fail
  go_ret
  exact ⟨rfl, HB2.out⟩

set_option maxHeartbeats 2000000 in
theorem Weights_any (s : ByteArray) (p c : Int) (w : World) (ht : Tabs w) (hs : s.size ≤ maxLen) :
    Calls Tryd.prog 82 #[.string s, .int .i64 p, .int .i64 c] w (TRes w (weiT s p c) (wrongN p c [s])) := by
  have HT := Lib.hid ht; clear ht
  cases hz : decide (wrongN p c [s] = 0)
  · have hz : ¬ wrongN p c [s] = 0 := by simpa using hz
    have e1 : weiT s p c = ⟨#[]⟩ := by simp [weiT, hz]
    rw [e1]
    have hcon := Lib.hid (wrong_any p c [s])
    simp only [List.length_singleton] at hcon
    generalize wrongN p c [s] = n at *
    have dn : (n != 0) = true := by simpa using hz
    clear hz e1
    go_enter Tryd.func82, Tryd.ntmps82
    go_wp2_with fail
    refine (hcon.out ⟨w.heap.size, 0, none⟩ 1 _ (by simp) (by simpa using hs) (text_cell w s _ rfl)).mono ?_
    rintro e w1 ⟨rfl, rfl⟩
    go_wp2_with fail
    go_ret2
    exact ⟨rfl, (Below.refl _ _).alloc (Nat.le_refl _) _⟩
  · have hz : wrongN p c [s] = 0 := by simpa using hz
    obtain ⟨hp0, hp3, hc01, hss⟩ := wrong_zero hz
    have hs2 : s.size ≤ 2048 := hss s (by simp)
    obtain ⟨q, rfl⟩ : ∃ q : Nat, p = q := ⟨p.toNat, by omega⟩
    obtain ⟨d, rfl⟩ : ∃ d : Nat, c = d := ⟨c.toNat, by omega⟩
    have hq : q < 3 := by omega
    have hd : d < 2 := by omega
    have e1 : weiT s q d = mapS (weiN q d) s := by simp [weiT, hz]
    rw [e1, hz]
    have hcon := Lib.hid (wrong_any q d [s])
    rw [hz] at hcon
    simp only [List.length_singleton] at hcon
    clear hz e1 hp0 hp3 hss hc01
    go_enter Tryd.func82, Tryd.ntmps82
    go_wp2_with fail
    refine (hcon.out ⟨w.heap.size, 0, none⟩ 1 _ (by simp) (by simpa using hs) (text_cell w s _ rfl)).mono ?_
    rintro e w1 ⟨rfl, rfl⟩
    go_wp2_with fail
    have hb0 : Below w.heap.size w (w.alloc (.cells #[.string s] 9)) := (Below.refl _ _).alloc (Nat.le_refl _) _
    refine (weights_any s q d hq hd _ (HT.out.below hb0 (Nat.le_refl _)) (by omega)).mono ?_
    rintro e w2 ⟨rfl, hb2⟩
    have HB2 := Lib.hid (hb0.trans (hb2.mono (by simp))); clear hb2
    go_wp2_with fail
    go_ret2
    exact ⟨rfl, HB2.out⟩
end Go.Proofs.YtiddnacmopfamaaDoor

/- Rows of bytes of a call's own: one byte more; a slice of bytes as a text. -/
namespace Go.Proofs.YtiddnacmopfamaaDoor
open Go.RowKit
set_option linter.unusedVariables false
set_option linter.unusedSimpArgs false

theorem block_of_plus (a : Addr) (n : Nat) : (a.add n).block = a.block := by unfold Addr.add; split <;> rfl
theorem plus_plus (a : Addr) (i j : Nat) : (a.add i).add j = a.add (i + j) := by
  unfold Addr.add
  by_cases hi : i = 0 <;> by_cases hj : j = 0 <;> simp [hi, hj, Nat.add_assoc]

/-- The slice that begins at A has the numbers zs; it lies below block B. -/
def Rd (w : World) (B : Nat) (k : IntKind) (A : Option Addr) (zs : List Int) : Prop :=
  0 < zs.length → ∃ ad, A = some ad ∧ ad.block < B ∧ ∀ j, j < zs.length → w.cell? (ad.add j) = some (.int k (zs.getD j 0))

section
variable {w w' : World} {B B' : Nat} {k : IntKind} {A : Option Addr} {zs : List Int}
theorem Rd.nil : Rd w B k A [] := fun h => by simp at h
theorem Rd.keep (h : Rd w B k A zs) (hk : ∀ p : Addr, p.block < B → w'.cell? p = w.cell? p) : Rd w' B k A zs := fun hn => by
  obtain ⟨ad, e, hb, hc⟩ := h hn
  exact ⟨ad, e, hb, fun j hj => (hk _ (by rw [block_of_plus]; exact hb)).trans (hc j hj)⟩
theorem Rd.more (h : Rd w B k A zs) (hB : B ≤ B') : Rd w B' k A zs := fun hn => by
  obtain ⟨ad, e, hb, hc⟩ := h hn
  exact ⟨ad, e, by omega, hc⟩
theorem Rd.below (h : Rd w B k A zs) (hb : Below B w w') : Rd w' B k A zs := h.keep fun _ hp => hb.cell hp
theorem Rd.drewN (h : Rd w B k A zs) (n : Nat) : Rd (w.drewN n) B k A zs := h
theorem Rd.alloc (h : Rd w B k A zs) (hB : B ≤ w.heap.size) (o : Obj) : Rd (w.alloc o) B k A zs := h.keep fun p hp => World.cell?_alloc_lt w o p (by omega)
theorem Rd.setCell (h : Rd w B k A zs) {p : Addr} (hB : B ≤ p.block) (u : Value) : Rd (w.setCell p u) B k A zs :=
  h.keep fun q hq => World.cell?_setCell_other w p q u (fun e => by subst e; omega)
theorem Rd.grown (h : Rd w B k A zs) {row : Option Nat} (hg : w.grownBy w' row) (hB : B ≤ w.heap.size) (hr : ∀ g, row = some g → B ≤ g) : Rd w' B k A zs :=
  h.keep fun p hp => World.cell?_of_block (hg.block p.block (by omega) (fun e => by have := hr _ e.symm; omega))
theorem Rd.cut {c : Nat} (h : Rd w B k A zs) (i : Nat) (hi : i ≤ zs.length) (hc : zs.length ≤ c) :
    Rd w B k (if c = i then A else A.map (·.add i)) (zs.drop i) := fun hn => by
  have hlen : i < zs.length := by simp at hn; omega
  obtain ⟨ad, rfl, hb, hcell⟩ := h (by omega)
  rw [if_neg (by omega)]
  refine ⟨ad.add i, rfl, by rw [block_of_plus]; exact hb, fun j hj => ?_⟩
  rw [plus_plus, hcell _ (by simp at hj; omega)]
  simp [List.getD, List.getElem?_drop]
theorem Rd.own {base : Nat} {e : TypeId} {c n : Nat} (h : w.ownsRow base e 1 (.slice A n c) n (zs.map (Value.int k))) : Rd w w.heap.size k A zs := fun hn => by
  have hl : n = zs.length := by have := h.1; simp at this; omega
  obtain ⟨g, cap, hv, _, hlt⟩ := h.form (by omega)
  have hA : A = some ⟨g, 0, none⟩ := by injection hv
  subst hA
  refine ⟨_, rfl, hlt, fun j hj => ?_⟩
  have := h.cells (g := g) rfl j (.int k (zs.getD j 0)) (by simp [List.getD, List.getElem?_eq_getElem hj])
  exact this
end
/-- The world after reading in an open order. -/
def Dr (w w' : World) : Prop := ∃ m, w' = w.drewN m
theorem Dr.refl (w : World) : Dr w w := ⟨0, rfl⟩
theorem Dr.trans {a b c : World} (h : Dr a b) (k : Dr b c) : Dr a c := by
  obtain ⟨m, rfl⟩ := h; obtain ⟨n, rfl⟩ := k; exact ⟨m + n, by rw [World.drewN_drewN]⟩
theorem Dr.below {B : Nat} {a b c : World} (h : Below B a b) (k : Dr b c) : Below B a c := by
  obtain ⟨m, rfl⟩ := k; exact ⟨h.os, h.tape, h.output, h.size, h.block⟩

theorem Dr.cell {a b : World} (h : Dr a b) (p : Addr) : b.cell? p = a.cell? p := by obtain ⟨m, rfl⟩ := h; rfl
theorem Dr.step {a b : World} (h : Dr a b) (n : Nat) : Dr a (b.drewN n) := h.trans ⟨n, rfl⟩
theorem Rd.dr {w w' : World} {B : Nat} {k : IntKind} {A : Option Addr} {zs : List Int} (h : Rd w B k A zs) (hd : Dr w w') : Rd w' B k A zs := by obtain ⟨m, rfl⟩ := hd; exact h
/-- v is a slice of the call's own, in blocks from base on, with the numbers zs. -/
def Own (w : World) (base : Nat) (e : TypeId) (k : IntKind) (v : Value) (zs : List Int) : Prop := w.ownsRow base e 1 v zs.length (zs.map (Value.int k))

section
variable {w w' : World} {base : Nat} {e : TypeId} {k : IntKind} {v : Value} {zs : List Int}
theorem Own.nil (w : World) (base : Nat) (e : TypeId) (k : IntKind) : Own w base e k (.slice none 0 0) [] := ⟨by simp, .inl ⟨rfl, rfl⟩⟩
theorem Own.alloc (h : Own w base e k v zs) (o : Obj) : Own (w.alloc o) base e k v zs := World.ownsRow.alloc h o
theorem Own.of_eq {ys : List Int} (h : Own w base e k v zs) (he : zs = ys) : Own w base e k v ys := he ▸ h
theorem Own.dr (h : Own w base e k v zs) (hd : Dr w w') : Own w' base e k v zs := by obtain ⟨m, rfl⟩ := hd; exact h
theorem Own.block (h : Own w base e k v zs) {g : Nat} (hg : v.ownBlock = some g) : base ≤ g ∧ g < w.heap.size := by
  rcases h.2 with ⟨rfl, _⟩ | ⟨g', cap, cur, rfl, hb, hh, _⟩
  · simp [Value.ownBlock] at hg
  · have : g' = g := by simpa [Value.ownBlock] using hg
    subst this
    refine ⟨hb, ?_⟩
    rcases Nat.lt_or_ge g' w.heap.size with hlt | hge
    · exact hlt
    · rw [Array.getElem?_eq_none hge] at hh; cases hh
theorem Own.low {b : Nat} (h : Own w base e k v zs) (hb : b ≤ base) : Own w b e k v zs := by
  refine ⟨h.1, ?_⟩
  rcases h.2 with hn | ⟨g', cap, cur, hv, hb', rest⟩
  · exact .inl hn
  · exact .inr ⟨g', cap, cur, hv, by omega, rest⟩
theorem Own.below {B : Nat} (h : Own w base e k v zs) (hb : Below B w w') (hB : w.heap.size ≤ B) : Own w' base e k v zs := by
  refine ⟨h.1, ?_⟩
  rcases h.2 with hn | ⟨g', cap, cur, hv, hb', hh, rest⟩
  · exact .inl hn
  · refine .inr ⟨g', cap, cur, hv, hb', ?_, rest⟩
    have hlt : g' < w.heap.size := by
      rcases Nat.lt_or_ge g' w.heap.size with hlt | hge
      · exact hlt
      · rw [Array.getElem?_eq_none hge] at hh; cases hh
    rw [hb.block g' (by omega), hh]
theorem Own.out (h : Own w base e k v zs) : ∃ A c, v = .slice A zs.length c ∧ zs.length ≤ c ∧ c ≤ maxLen ∧ Rd w w.heap.size k A zs := by
  have h' := h
  rcases h.2 with ⟨rfl, hn⟩ | ⟨g', cap, cur, rfl, hb', hh, hnc, hcm, _⟩
  · exact ⟨none, 0, by rw [hn], by omega, by simp, fun h0 => by omega⟩
  · exact ⟨some ⟨g', 0, none⟩, cap, rfl, hnc, hcm, Rd.own h'⟩
end

theorem Below.of_alloc (w : World) (o : Obj) (B : Nat) (h : B ≤ w.heap.size) : Below B w (w.alloc o) := (Below.refl _ _).alloc h o

theorem new_cell (w : World) (v : Value) (t : TypeId) : (w.alloc (.cells #[v] t)).cell? ⟨w.heap.size, 0, none⟩ = some v := by
  exact cell_of_one (heap_alloc_new w _)
theorem size_alloc {B : Nat} {w : World} (h : B ≤ w.heap.size) (o : Obj) : B ≤ (w.alloc o).heap.size := by simp; omega

theorem info5 : (Tryd.prog.info? 5).map (fun i => (i.zero, i.size, i.bytes)) = some (some (.int .u8 0), 1, 1) := by kernel_rfl

/-- out = append(out, z) of bytes. -/
theorem app_byte {w : World} {ops : Array Oper} {rest : List Oper} {o : Oper} {a : Act} {Q : Exit → Act → World → Prop} (hgd : o.guard = none) (s x : Operand)
    (ho : o.op = .call { callee := .builtin .append, args := #[s, x], argTypes := #[73, 73] })
    (base : Nat) (v : Value) (zs : List Int) (z : Int) (hs : a.eval s = v) (hown : Own w base 5 .u8 v zs)
    (ad : Addr) (c : Nat) (hx : a.eval x = .slice (some ad) 1 c) (hc : w.cell? ad = some (.int .u8 z)) (hlen : zs.length ≤ 1000000) (hbase : base ≤ w.heap.size)
    (h : ∀ v' w', Own w' base 5 .u8 v' (zs ++ [z]) → Below base w w' → w.grownBy w' v.ownBlock → wpList Tryd.prog ops Q rest (a.put o.dst v') w') : wpList Tryd.prog ops Q (o :: rest) a w := by
  obtain ⟨i0, hi0, hz0, hz1, hz2⟩ := info_parts info5
  refine wpList_append_own w hgd s x 73 ho base 5 i0 (.int .u8 0) 1 1 Tryd.underlying73 hi0 hz0 hz1 hz2 rfl (by decide) v zs.length _ hs hown ad 1 c [.int .u8 z] hx rfl ?_ ?_ (by simp only [maxLen]; omega) (by omega) hbase ?_
  · intro j u hu
    rcases j with _ | j
    · simp at hu; subst hu; simpa [Addr.add] using hc
    · simp at hu
  · intro u hu; simp at hu; subst hu; rfl
  · intro v' w' hown' hg _
    exact h v' w' (by unfold Own; simpa using hown') ((Below.refl _ _).grown hg hbase fun g hg' => (hown.block hg').1) hg

theorem conv_bytes {w : World} {B : Nat} {A : Option Addr} {zs : List Int} (h : Rd w B .u8 A zs) (c : Nat) : (convert 73 9 (.slice A zs.length c)).run Tryd.prog w = .ok (.string (strOfNums zs)) w := by
  rw [run_convert_bytes_string w _ _ _ A zs.length c Tryd.underlying73 Tryd.underlying5 Tryd.underlying9]
  rcases Nat.eq_zero_or_pos zs.length with h0 | h0
  · obtain rfl := List.length_eq_zero_iff.1 h0
    cases A <;> simp [Conv.bytesToString, loadCells] <;> rfl
  · obtain ⟨ad, rfl, _, hc⟩ := h h0
    have hl : (loadCells ad zs.length).run Tryd.prog w = .ok (zs.map (Value.int .u8)).toArray w := by
      have := run_loadCells_list (P := Tryd.prog) w ad (zs.map (Value.int .u8)) (fun j v hj => by
        rw [List.getElem?_map, Option.map_eq_some_iff] at hj
        obtain ⟨z, hz, rfl⟩ := hj
        obtain ⟨hj, rfl⟩ := List.getElem?_eq_some_iff.1 hz
        rw [hc j hj, List.getD, List.getElem?_eq_getElem hj]; rfl)
      simpa using this
    rw [run_bytesToString w _ zs.length c zs hl, foldl_push_bytes]
    simp [strOfNums, ByteArray.empty, ByteArray.emptyWithCapacity]
    rfl
end Go.Proofs.YtiddnacmopfamaaDoor

/- Sound of the program. -/
namespace Go.Proofs.YtiddnacmopfamaaDoor
open Go.RowKit
set_option linter.unusedVariables false
set_option linter.unusedSimpArgs false

def sb (s : ByteArray) : List Nat := s.data.toList.map (·.toNat)
def sndT (s : ByteArray) : ByteArray := if wrongN 0 0 [s] = 0 then strOfNums ((sndL (sb s)).map Int.ofNat) else ⟨#[]⟩

/-- What holds of the state. -/
def SndI (st : List Nat × Int) : Prop := 0 ≤ st.2 ∧ st.2 ≤ 6 ∧ st.1.length ≤ 4 ∧ (st.1 = [] → st.2 = 0) ∧ ∀ x ∈ st.1, x < 256
theorem dig_in {c : Nat} (h1 : 65 ≤ c) (h2 : c ≤ 90) : -1 ≤ digI c ∧ digI c ≤ 6 := by
  have := dig_tab ⟨c - 65, by omega⟩
  rwa [show 65 + (⟨c - 65, by omega⟩ : Fin 26).val = c by simp; omega] at this
theorem sndI_step {st : List Nat × Int} {b : Nat} (h : SndI st) (hb : b < 256) : SndI (sndStep st b) := by
  obtain ⟨h1, h2, h3, h4, h5⟩ := h
  unfold sndStep
  split
  · rename_i hl
    obtain ⟨c1, c2⟩ := let0_tab ⟨b, hb⟩ hl
    simp only at c1 c2
    obtain ⟨d1, d2⟩ := dig_in c1 c2
    split
    · exact ⟨by simp only; omega, by simp only; omega, by simp, by simp, fun x hx => by simp at hx; omega⟩
    · split
      · exact ⟨h1, h2, h3, h4, h5⟩
      · split
        · rename_i hc
          refine ⟨by show 0 ≤ digI _; omega, by show digI _ ≤ 6; omega, by simp; omega, by simp, fun x hx => ?_⟩
          rcases List.mem_append.1 hx with hx | hx
          · exact h5 x hx
          · simp at hx; omega
        · rename_i hne _ _
          exact ⟨by simp only; omega, by simp only; omega, h3, fun e => absurd e hne, h5⟩
  · exact ⟨h1, h2, h3, h4, h5⟩
theorem sndI_go : ∀ (bs : List Nat) (st : List Nat × Int), SndI st → (∀ b ∈ bs, b < 256) → SndI (bs.foldl sndStep st)
  | [], st, h, _ => h
  | b :: bs, st, h, hb => sndI_go bs _ (sndI_step h (hb b (by simp))) (fun x hx => hb x (by simp [hx]))
theorem sb_lt (s : ByteArray) : ∀ b ∈ sb s, b < 256 := by
  intro b hb
  simp only [sb, List.mem_map] at hb
  obtain ⟨u, _, rfl⟩ := hb
  exact u.toNat_lt
theorem sb_len (s : ByteArray) : (sb s).length = s.size := by simp [sb]
theorem sndI_take (s : ByteArray) (k : Nat) : SndI (sndGo ((sb s).take k)) := sndI_go _ _ (by simp [SndI]) fun b hb => sb_lt s b (List.mem_of_mem_take hb)
theorem snd_take (s : ByteArray) {k : Nat} (hk : k < s.size) : sndGo ((sb s).take (k + 1)) = sndStep (sndGo ((sb s).take k)) (s[k].toNat) := by
  have hl : k < (sb s).length := by rw [sb_len]; exact hk
  rw [List.take_succ_eq_append_getElem hl]
  unfold sndGo
  rw [List.foldl_append]
  simp [sb]; rfl

theorem sound_tab : ∀ i : Fin 26, ((⟨#[48, 49, 50, 51, 48, 49, 50, 45, 48, 50, 50, 52, 53, 53, 48, 49, 50, 54, 50, 51, 48, 49, 45, 50, 48, 50]⟩ : ByteArray)[i.val]'i.isLt).toNat = (if digI (65 + i.val) = -1 then 45 else (48 + digI (65 + i.val)).toNat) := by decide +kernel
theorem sound_at (c : Nat) (h1 : 65 ≤ c) (h2 : c ≤ 90) : ∀ h, ((((⟨#[48, 49, 50, 51, 48, 49, 50, 45, 48, 50, 50, 52, 53, 53, 48, 49, 50, 54, 50, 51, 48, 49, 45, 50, 48, 50]⟩ : ByteArray)[c - 65]'h).toNat : Nat) : Int) = if digI c = -1 then 45 else 48 + digI c := by
  intro h
  have := sound_tab ⟨c - 65, by omega⟩
  simp only [show 65 + (c - 65) = c by omega] at this
  have hd := dig_in h1 h2
  rw [this]
  split
  · rfl
  · omega

def lenV : Value → Nat
  | .slice _ n _ => n
  | _ => 0
theorem lenV_slice (A : Option Addr) (n c : Nat) : lenV (.slice A n c) = n := rfl
end Go.Proofs.YtiddnacmopfamaaDoor

/- known and over of the statements. -/
namespace Go.Proofs.YtiddnacmopfamaaDoor
open Go.RowKit
set_option linter.unusedVariables false
set_option linter.unusedSimpArgs false

theorem kn1 : upT ⟨#[228]⟩ 1 = ⟨#[196]⟩ ∧ wrongN 1 0 [⟨#[228]⟩] = 0 := by decide +kernel
theorem kn2 : upT ⟨#[228]⟩ 2 = ⟨#[148]⟩ ∧ wrongN 2 0 [⟨#[228]⟩] = 0 := by decide +kernel
theorem kn3 : weiT ⟨#[233]⟩ 1 1 = ⟨#[69]⟩ ∧ wrongN 1 1 [⟨#[233]⟩] = 0 := by decide +kernel
theorem kn4 : sndT ⟨#[84, 121, 109, 99, 122, 97, 107]⟩ = ⟨#[84, 53, 50, 50]⟩ ∧ wrongN 0 0 [⟨#[84, 121, 109, 99, 122, 97, 107]⟩] = 0 := by decide +kernel

end Go.Proofs.YtiddnacmopfamaaDoor

/- pair, IsLetter, upper and lower of the reference. -/
namespace Go.Proofs.YtiddnacmopfamaaDoor
open Go.RowKit
set_option linter.unusedVariables false
set_option linter.unusedSimpArgs false

def PairIs (b p : Nat) (w : World) : Prop := Calls Tryd.prog 89 #[.int .u8 b, .int .i64 p] w fun e w' => e = .returned (.tuple #[.bool (pairN p b).1, .bool (pairN p b).2.1, .int .u8 (pairN p b).2.2]) ∧ w = w'

set_option maxHeartbeats 1000000 in
theorem pair_0_0 (b : Nat) (w : World) (h1 : 0 ≤ b) (h2 : b ≤ 64) : PairIs b 0 w := by
  have hv : pairN 0 b = (false, false, 0) := (by decide +kernel : ∀ b : Fin 256, 0 ≤ b.val → b.val ≤ 64 → pairN 0 b.val = (false, false, 0)) ⟨b, by omega⟩ h1 h2
  unfold PairIs
  rw [hv]
  clear hv
  change Calls Tryd.prog 89 #[.int .u8 b, .int .i64 0] w fun e w' => e = .returned (.tuple #[.bool false, .bool false, .int .u8 0]) ∧ w = w'
  have g0 : ¬ (65 : Int) ≤ b := by omega
  have g1 : (b : Int) ≤ 90 := by omega
  have g2 : ¬ (97 : Int) ≤ b := by omega
  have g3 : (b : Int) ≤ 122 := by omega
  clear h1 h2
  go_enter Tryd.func89, Tryd.ntmps89
  go_wp2
  go_ret3
  exact ⟨rfl, rfl⟩

set_option maxHeartbeats 1000000 in
theorem pair_0_1 (b : Nat) (w : World) (h1 : 65 ≤ b) (h2 : b ≤ 90) : PairIs b 0 w := by
  have hv : pairN 0 b = (true, false, 32) := (by decide +kernel : ∀ b : Fin 256, 65 ≤ b.val → b.val ≤ 90 → pairN 0 b.val = (true, false, 32)) ⟨b, by omega⟩ h1 h2
  unfold PairIs
  rw [hv]
  clear hv
  change Calls Tryd.prog 89 #[.int .u8 b, .int .i64 0] w fun e w' => e = .returned (.tuple #[.bool true, .bool false, .int .u8 32]) ∧ w = w'
  have g0 : (65 : Int) ≤ b := by omega
  have g1 : (b : Int) ≤ 90 := by omega
  have g2 : ¬ (97 : Int) ≤ b := by omega
  have g3 : (b : Int) ≤ 122 := by omega
  clear h1 h2
  go_enter Tryd.func89, Tryd.ntmps89
  go_wp2
  go_ret3
  exact ⟨rfl, rfl⟩

set_option maxHeartbeats 1000000 in
theorem pair_0_2 (b : Nat) (w : World) (h1 : 91 ≤ b) (h2 : b ≤ 96) : PairIs b 0 w := by
  have hv : pairN 0 b = (false, false, 0) := (by decide +kernel : ∀ b : Fin 256, 91 ≤ b.val → b.val ≤ 96 → pairN 0 b.val = (false, false, 0)) ⟨b, by omega⟩ h1 h2
  unfold PairIs
  rw [hv]
  clear hv
  change Calls Tryd.prog 89 #[.int .u8 b, .int .i64 0] w fun e w' => e = .returned (.tuple #[.bool false, .bool false, .int .u8 0]) ∧ w = w'
  have g0 : (65 : Int) ≤ b := by omega
  have g1 : ¬ (b : Int) ≤ 90 := by omega
  have g2 : ¬ (97 : Int) ≤ b := by omega
  have g3 : (b : Int) ≤ 122 := by omega
  clear h1 h2
  go_enter Tryd.func89, Tryd.ntmps89
  go_wp2
  go_ret3
  exact ⟨rfl, rfl⟩

set_option maxHeartbeats 1000000 in
theorem pair_0_3 (b : Nat) (w : World) (h1 : 97 ≤ b) (h2 : b ≤ 122) : PairIs b 0 w := by
  have hv : pairN 0 b = (false, true, 32) := (by decide +kernel : ∀ b : Fin 256, 97 ≤ b.val → b.val ≤ 122 → pairN 0 b.val = (false, true, 32)) ⟨b, by omega⟩ h1 h2
  unfold PairIs
  rw [hv]
  clear hv
  change Calls Tryd.prog 89 #[.int .u8 b, .int .i64 0] w fun e w' => e = .returned (.tuple #[.bool false, .bool true, .int .u8 32]) ∧ w = w'
  have g0 : (65 : Int) ≤ b := by omega
  have g1 : ¬ (b : Int) ≤ 90 := by omega
  have g2 : (97 : Int) ≤ b := by omega
  have g3 : (b : Int) ≤ 122 := by omega
  clear h1 h2
  go_enter Tryd.func89, Tryd.ntmps89
  go_wp2
  go_ret3
  exact ⟨rfl, rfl⟩

set_option maxHeartbeats 1000000 in
theorem pair_0_4 (b : Nat) (w : World) (h1 : 123 ≤ b) (h2 : b ≤ 255) : PairIs b 0 w := by
  have hv : pairN 0 b = (false, false, 0) := (by decide +kernel : ∀ b : Fin 256, 123 ≤ b.val → b.val ≤ 255 → pairN 0 b.val = (false, false, 0)) ⟨b, by omega⟩ h1 h2
  unfold PairIs
  rw [hv]
  clear hv
  change Calls Tryd.prog 89 #[.int .u8 b, .int .i64 0] w fun e w' => e = .returned (.tuple #[.bool false, .bool false, .int .u8 0]) ∧ w = w'
  have g0 : (65 : Int) ≤ b := by omega
  have g1 : ¬ (b : Int) ≤ 90 := by omega
  have g2 : (97 : Int) ≤ b := by omega
  have g3 : ¬ (b : Int) ≤ 122 := by omega
  clear h1 h2
  go_enter Tryd.func89, Tryd.ntmps89
  go_wp2
  go_ret3
  exact ⟨rfl, rfl⟩

set_option maxHeartbeats 1000000 in
theorem pair_1_0 (b : Nat) (w : World) (h1 : 0 ≤ b) (h2 : b ≤ 64) : PairIs b 1 w := by
  have hv : pairN 1 b = (false, false, 0) := (by decide +kernel : ∀ b : Fin 256, 0 ≤ b.val → b.val ≤ 64 → pairN 1 b.val = (false, false, 0)) ⟨b, by omega⟩ h1 h2
  unfold PairIs
  rw [hv]
  clear hv
  change Calls Tryd.prog 89 #[.int .u8 b, .int .i64 1] w fun e w' => e = .returned (.tuple #[.bool false, .bool false, .int .u8 0]) ∧ w = w'
  have g0 : ¬ (65 : Int) ≤ b := by omega
  have g1 : (b : Int) ≤ 90 := by omega
  have g2 : ¬ (97 : Int) ≤ b := by omega
  have g3 : (b : Int) ≤ 122 := by omega
  have g4 : ¬ (192 : Int) ≤ b := by omega
  have g5 : (b : Int) ≤ 222 := by omega
  have g6 : ¬ (224 : Int) ≤ b := by omega
  have g7 : (b : Int) ≤ 254 := by omega
  have g8 : ((b : Int) != 215) = true := by simp; omega
  have g9 : ((b : Int) != 247) = true := by simp; omega
  clear h1 h2
  go_enter Tryd.func89, Tryd.ntmps89
  go_wp2
  go_ret3
  exact ⟨rfl, rfl⟩

set_option maxHeartbeats 1000000 in
theorem pair_1_1 (b : Nat) (w : World) (h1 : 65 ≤ b) (h2 : b ≤ 90) : PairIs b 1 w := by
  have hv : pairN 1 b = (true, false, 32) := (by decide +kernel : ∀ b : Fin 256, 65 ≤ b.val → b.val ≤ 90 → pairN 1 b.val = (true, false, 32)) ⟨b, by omega⟩ h1 h2
  unfold PairIs
  rw [hv]
  clear hv
  change Calls Tryd.prog 89 #[.int .u8 b, .int .i64 1] w fun e w' => e = .returned (.tuple #[.bool true, .bool false, .int .u8 32]) ∧ w = w'
  have g0 : (65 : Int) ≤ b := by omega
  have g1 : (b : Int) ≤ 90 := by omega
  have g2 : ¬ (97 : Int) ≤ b := by omega
  have g3 : (b : Int) ≤ 122 := by omega
  have g4 : ¬ (192 : Int) ≤ b := by omega
  have g5 : (b : Int) ≤ 222 := by omega
  have g6 : ¬ (224 : Int) ≤ b := by omega
  have g7 : (b : Int) ≤ 254 := by omega
  have g8 : ((b : Int) != 215) = true := by simp; omega
  have g9 : ((b : Int) != 247) = true := by simp; omega
  clear h1 h2
  go_enter Tryd.func89, Tryd.ntmps89
  go_wp2
  go_ret3
  exact ⟨rfl, rfl⟩

set_option maxHeartbeats 1000000 in
theorem pair_1_2 (b : Nat) (w : World) (h1 : 91 ≤ b) (h2 : b ≤ 96) : PairIs b 1 w := by
  have hv : pairN 1 b = (false, false, 0) := (by decide +kernel : ∀ b : Fin 256, 91 ≤ b.val → b.val ≤ 96 → pairN 1 b.val = (false, false, 0)) ⟨b, by omega⟩ h1 h2
  unfold PairIs
  rw [hv]
  clear hv
  change Calls Tryd.prog 89 #[.int .u8 b, .int .i64 1] w fun e w' => e = .returned (.tuple #[.bool false, .bool false, .int .u8 0]) ∧ w = w'
  have g0 : (65 : Int) ≤ b := by omega
  have g1 : ¬ (b : Int) ≤ 90 := by omega
  have g2 : ¬ (97 : Int) ≤ b := by omega
  have g3 : (b : Int) ≤ 122 := by omega
  have g4 : ¬ (192 : Int) ≤ b := by omega
  have g5 : (b : Int) ≤ 222 := by omega
  have g6 : ¬ (224 : Int) ≤ b := by omega
  have g7 : (b : Int) ≤ 254 := by omega
  have g8 : ((b : Int) != 215) = true := by simp; omega
  have g9 : ((b : Int) != 247) = true := by simp; omega
  clear h1 h2
  go_enter Tryd.func89, Tryd.ntmps89
  go_wp2
  go_ret3
  exact ⟨rfl, rfl⟩

set_option maxHeartbeats 1000000 in
theorem pair_1_3 (b : Nat) (w : World) (h1 : 97 ≤ b) (h2 : b ≤ 122) : PairIs b 1 w := by
  have hv : pairN 1 b = (false, true, 32) := (by decide +kernel : ∀ b : Fin 256, 97 ≤ b.val → b.val ≤ 122 → pairN 1 b.val = (false, true, 32)) ⟨b, by omega⟩ h1 h2
  unfold PairIs
  rw [hv]
  clear hv
  change Calls Tryd.prog 89 #[.int .u8 b, .int .i64 1] w fun e w' => e = .returned (.tuple #[.bool false, .bool true, .int .u8 32]) ∧ w = w'
  have g0 : (65 : Int) ≤ b := by omega
  have g1 : ¬ (b : Int) ≤ 90 := by omega
  have g2 : (97 : Int) ≤ b := by omega
  have g3 : (b : Int) ≤ 122 := by omega
  have g4 : ¬ (192 : Int) ≤ b := by omega
  have g5 : (b : Int) ≤ 222 := by omega
  have g6 : ¬ (224 : Int) ≤ b := by omega
  have g7 : (b : Int) ≤ 254 := by omega
  have g8 : ((b : Int) != 215) = true := by simp; omega
  have g9 : ((b : Int) != 247) = true := by simp; omega
  clear h1 h2
  go_enter Tryd.func89, Tryd.ntmps89
  go_wp2
  go_ret3
  exact ⟨rfl, rfl⟩

set_option maxHeartbeats 1000000 in
theorem pair_1_4 (b : Nat) (w : World) (h1 : 123 ≤ b) (h2 : b ≤ 191) : PairIs b 1 w := by
  have hv : pairN 1 b = (false, false, 0) := (by decide +kernel : ∀ b : Fin 256, 123 ≤ b.val → b.val ≤ 191 → pairN 1 b.val = (false, false, 0)) ⟨b, by omega⟩ h1 h2
  unfold PairIs
  rw [hv]
  clear hv
  change Calls Tryd.prog 89 #[.int .u8 b, .int .i64 1] w fun e w' => e = .returned (.tuple #[.bool false, .bool false, .int .u8 0]) ∧ w = w'
  have g0 : (65 : Int) ≤ b := by omega
  have g1 : ¬ (b : Int) ≤ 90 := by omega
  have g2 : (97 : Int) ≤ b := by omega
  have g3 : ¬ (b : Int) ≤ 122 := by omega
  have g4 : ¬ (192 : Int) ≤ b := by omega
  have g5 : (b : Int) ≤ 222 := by omega
  have g6 : ¬ (224 : Int) ≤ b := by omega
  have g7 : (b : Int) ≤ 254 := by omega
  have g8 : ((b : Int) != 215) = true := by simp; omega
  have g9 : ((b : Int) != 247) = true := by simp; omega
  clear h1 h2
  go_enter Tryd.func89, Tryd.ntmps89
  go_wp2
  go_ret3
  exact ⟨rfl, rfl⟩

set_option maxHeartbeats 1000000 in
theorem pair_1_5 (b : Nat) (w : World) (h1 : 192 ≤ b) (h2 : b ≤ 214) : PairIs b 1 w := by
  have hv : pairN 1 b = (true, false, 32) := (by decide +kernel : ∀ b : Fin 256, 192 ≤ b.val → b.val ≤ 214 → pairN 1 b.val = (true, false, 32)) ⟨b, by omega⟩ h1 h2
  unfold PairIs
  rw [hv]
  clear hv
  change Calls Tryd.prog 89 #[.int .u8 b, .int .i64 1] w fun e w' => e = .returned (.tuple #[.bool true, .bool false, .int .u8 32]) ∧ w = w'
  have g0 : (65 : Int) ≤ b := by omega
  have g1 : ¬ (b : Int) ≤ 90 := by omega
  have g2 : (97 : Int) ≤ b := by omega
  have g3 : ¬ (b : Int) ≤ 122 := by omega
  have g4 : (192 : Int) ≤ b := by omega
  have g5 : (b : Int) ≤ 222 := by omega
  have g6 : ¬ (224 : Int) ≤ b := by omega
  have g7 : (b : Int) ≤ 254 := by omega
  have g8 : ((b : Int) != 215) = true := by simp; omega
  have g9 : ((b : Int) != 247) = true := by simp; omega
  clear h1 h2
  go_enter Tryd.func89, Tryd.ntmps89
  go_wp2
  go_ret3
  exact ⟨rfl, rfl⟩

set_option maxHeartbeats 1000000 in
theorem pair_1_6 (b : Nat) (w : World) (h1 : 215 ≤ b) (h2 : b ≤ 215) : PairIs b 1 w := by
  have hv : pairN 1 b = (false, false, 0) := (by decide +kernel : ∀ b : Fin 256, 215 ≤ b.val → b.val ≤ 215 → pairN 1 b.val = (false, false, 0)) ⟨b, by omega⟩ h1 h2
  unfold PairIs
  rw [hv]
  clear hv
  change Calls Tryd.prog 89 #[.int .u8 b, .int .i64 1] w fun e w' => e = .returned (.tuple #[.bool false, .bool false, .int .u8 0]) ∧ w = w'
  have g0 : (65 : Int) ≤ b := by omega
  have g1 : ¬ (b : Int) ≤ 90 := by omega
  have g2 : (97 : Int) ≤ b := by omega
  have g3 : ¬ (b : Int) ≤ 122 := by omega
  have g4 : (192 : Int) ≤ b := by omega
  have g5 : (b : Int) ≤ 222 := by omega
  have g6 : ¬ (224 : Int) ≤ b := by omega
  have g7 : (b : Int) ≤ 254 := by omega
  have g8 : ((b : Int) != 215) = false := by simp; omega
  have g9 : ((b : Int) != 247) = true := by simp; omega
  clear h1 h2
  go_enter Tryd.func89, Tryd.ntmps89
  go_wp2
  go_ret3
  exact ⟨rfl, rfl⟩

set_option maxHeartbeats 1000000 in
theorem pair_1_7 (b : Nat) (w : World) (h1 : 216 ≤ b) (h2 : b ≤ 222) : PairIs b 1 w := by
  have hv : pairN 1 b = (true, false, 32) := (by decide +kernel : ∀ b : Fin 256, 216 ≤ b.val → b.val ≤ 222 → pairN 1 b.val = (true, false, 32)) ⟨b, by omega⟩ h1 h2
  unfold PairIs
  rw [hv]
  clear hv
  change Calls Tryd.prog 89 #[.int .u8 b, .int .i64 1] w fun e w' => e = .returned (.tuple #[.bool true, .bool false, .int .u8 32]) ∧ w = w'
  have g0 : (65 : Int) ≤ b := by omega
  have g1 : ¬ (b : Int) ≤ 90 := by omega
  have g2 : (97 : Int) ≤ b := by omega
  have g3 : ¬ (b : Int) ≤ 122 := by omega
  have g4 : (192 : Int) ≤ b := by omega
  have g5 : (b : Int) ≤ 222 := by omega
  have g6 : ¬ (224 : Int) ≤ b := by omega
  have g7 : (b : Int) ≤ 254 := by omega
  have g8 : ((b : Int) != 215) = true := by simp; omega
  have g9 : ((b : Int) != 247) = true := by simp; omega
  clear h1 h2
  go_enter Tryd.func89, Tryd.ntmps89
  go_wp2
  go_ret3
  exact ⟨rfl, rfl⟩

set_option maxHeartbeats 1000000 in
theorem pair_1_8 (b : Nat) (w : World) (h1 : 223 ≤ b) (h2 : b ≤ 223) : PairIs b 1 w := by
  have hv : pairN 1 b = (false, false, 0) := (by decide +kernel : ∀ b : Fin 256, 223 ≤ b.val → b.val ≤ 223 → pairN 1 b.val = (false, false, 0)) ⟨b, by omega⟩ h1 h2
  unfold PairIs
  rw [hv]
  clear hv
  change Calls Tryd.prog 89 #[.int .u8 b, .int .i64 1] w fun e w' => e = .returned (.tuple #[.bool false, .bool false, .int .u8 0]) ∧ w = w'
  have g0 : (65 : Int) ≤ b := by omega
  have g1 : ¬ (b : Int) ≤ 90 := by omega
  have g2 : (97 : Int) ≤ b := by omega
  have g3 : ¬ (b : Int) ≤ 122 := by omega
  have g4 : (192 : Int) ≤ b := by omega
  have g5 : ¬ (b : Int) ≤ 222 := by omega
  have g6 : ¬ (224 : Int) ≤ b := by omega
  have g7 : (b : Int) ≤ 254 := by omega
  have g8 : ((b : Int) != 215) = true := by simp; omega
  have g9 : ((b : Int) != 247) = true := by simp; omega
  clear h1 h2
  go_enter Tryd.func89, Tryd.ntmps89
  go_wp2
  go_ret3
  exact ⟨rfl, rfl⟩

set_option maxHeartbeats 1000000 in
theorem pair_1_9 (b : Nat) (w : World) (h1 : 224 ≤ b) (h2 : b ≤ 246) : PairIs b 1 w := by
  have hv : pairN 1 b = (false, true, 32) := (by decide +kernel : ∀ b : Fin 256, 224 ≤ b.val → b.val ≤ 246 → pairN 1 b.val = (false, true, 32)) ⟨b, by omega⟩ h1 h2
  unfold PairIs
  rw [hv]
  clear hv
  change Calls Tryd.prog 89 #[.int .u8 b, .int .i64 1] w fun e w' => e = .returned (.tuple #[.bool false, .bool true, .int .u8 32]) ∧ w = w'
  have g0 : (65 : Int) ≤ b := by omega
  have g1 : ¬ (b : Int) ≤ 90 := by omega
  have g2 : (97 : Int) ≤ b := by omega
  have g3 : ¬ (b : Int) ≤ 122 := by omega
  have g4 : (192 : Int) ≤ b := by omega
  have g5 : ¬ (b : Int) ≤ 222 := by omega
  have g6 : (224 : Int) ≤ b := by omega
  have g7 : (b : Int) ≤ 254 := by omega
  have g8 : ((b : Int) != 215) = true := by simp; omega
  have g9 : ((b : Int) != 247) = true := by simp; omega
  clear h1 h2
  go_enter Tryd.func89, Tryd.ntmps89
  go_wp2
  go_ret3
  exact ⟨rfl, rfl⟩

set_option maxHeartbeats 1000000 in
theorem pair_1_10 (b : Nat) (w : World) (h1 : 247 ≤ b) (h2 : b ≤ 247) : PairIs b 1 w := by
  have hv : pairN 1 b = (false, false, 0) := (by decide +kernel : ∀ b : Fin 256, 247 ≤ b.val → b.val ≤ 247 → pairN 1 b.val = (false, false, 0)) ⟨b, by omega⟩ h1 h2
  unfold PairIs
  rw [hv]
  clear hv
  change Calls Tryd.prog 89 #[.int .u8 b, .int .i64 1] w fun e w' => e = .returned (.tuple #[.bool false, .bool false, .int .u8 0]) ∧ w = w'
  have g0 : (65 : Int) ≤ b := by omega
  have g1 : ¬ (b : Int) ≤ 90 := by omega
  have g2 : (97 : Int) ≤ b := by omega
  have g3 : ¬ (b : Int) ≤ 122 := by omega
  have g4 : (192 : Int) ≤ b := by omega
  have g5 : ¬ (b : Int) ≤ 222 := by omega
  have g6 : (224 : Int) ≤ b := by omega
  have g7 : (b : Int) ≤ 254 := by omega
  have g8 : ((b : Int) != 215) = true := by simp; omega
  have g9 : ((b : Int) != 247) = false := by simp; omega
  clear h1 h2
  go_enter Tryd.func89, Tryd.ntmps89
  go_wp2
  go_ret3
  exact ⟨rfl, rfl⟩

set_option maxHeartbeats 1000000 in
theorem pair_1_11 (b : Nat) (w : World) (h1 : 248 ≤ b) (h2 : b ≤ 254) : PairIs b 1 w := by
  have hv : pairN 1 b = (false, true, 32) := (by decide +kernel : ∀ b : Fin 256, 248 ≤ b.val → b.val ≤ 254 → pairN 1 b.val = (false, true, 32)) ⟨b, by omega⟩ h1 h2
  unfold PairIs
  rw [hv]
  clear hv
  change Calls Tryd.prog 89 #[.int .u8 b, .int .i64 1] w fun e w' => e = .returned (.tuple #[.bool false, .bool true, .int .u8 32]) ∧ w = w'
  have g0 : (65 : Int) ≤ b := by omega
  have g1 : ¬ (b : Int) ≤ 90 := by omega
  have g2 : (97 : Int) ≤ b := by omega
  have g3 : ¬ (b : Int) ≤ 122 := by omega
  have g4 : (192 : Int) ≤ b := by omega
  have g5 : ¬ (b : Int) ≤ 222 := by omega
  have g6 : (224 : Int) ≤ b := by omega
  have g7 : (b : Int) ≤ 254 := by omega
  have g8 : ((b : Int) != 215) = true := by simp; omega
  have g9 : ((b : Int) != 247) = true := by simp; omega
  clear h1 h2
  go_enter Tryd.func89, Tryd.ntmps89
  go_wp2
  go_ret3
  exact ⟨rfl, rfl⟩

set_option maxHeartbeats 1000000 in
theorem pair_1_12 (b : Nat) (w : World) (h1 : 255 ≤ b) (h2 : b ≤ 255) : PairIs b 1 w := by
  have hv : pairN 1 b = (false, false, 0) := (by decide +kernel : ∀ b : Fin 256, 255 ≤ b.val → b.val ≤ 255 → pairN 1 b.val = (false, false, 0)) ⟨b, by omega⟩ h1 h2
  unfold PairIs
  rw [hv]
  clear hv
  change Calls Tryd.prog 89 #[.int .u8 b, .int .i64 1] w fun e w' => e = .returned (.tuple #[.bool false, .bool false, .int .u8 0]) ∧ w = w'
  have g0 : (65 : Int) ≤ b := by omega
  have g1 : ¬ (b : Int) ≤ 90 := by omega
  have g2 : (97 : Int) ≤ b := by omega
  have g3 : ¬ (b : Int) ≤ 122 := by omega
  have g4 : (192 : Int) ≤ b := by omega
  have g5 : ¬ (b : Int) ≤ 222 := by omega
  have g6 : (224 : Int) ≤ b := by omega
  have g7 : ¬ (b : Int) ≤ 254 := by omega
  have g8 : ((b : Int) != 215) = true := by simp; omega
  have g9 : ((b : Int) != 247) = true := by simp; omega
  clear h1 h2
  go_enter Tryd.func89, Tryd.ntmps89
  go_wp2
  go_ret3
  exact ⟨rfl, rfl⟩

set_option maxHeartbeats 1000000 in
theorem pair_2_0 (b : Nat) (w : World) (h1 : 0 ≤ b) (h2 : b ≤ 64) : PairIs b 2 w := by
  have hv : pairN 2 b = (false, false, 0) := (by decide +kernel : ∀ b : Fin 256, 0 ≤ b.val → b.val ≤ 64 → pairN 2 b.val = (false, false, 0)) ⟨b, by omega⟩ h1 h2
  unfold PairIs
  rw [hv]
  clear hv
  change Calls Tryd.prog 89 #[.int .u8 b, .int .i64 2] w fun e w' => e = .returned (.tuple #[.bool false, .bool false, .int .u8 0]) ∧ w = w'
  have g0 : ¬ (65 : Int) ≤ b := by omega
  have g1 : (b : Int) ≤ 90 := by omega
  have g2 : ¬ (97 : Int) ≤ b := by omega
  have g3 : (b : Int) ≤ 122 := by omega
  have g4 : ¬ (128 : Int) ≤ b := by omega
  have g5 : (b : Int) ≤ 143 := by omega
  have g6 : ¬ (144 : Int) ≤ b := by omega
  have g7 : (b : Int) ≤ 159 := by omega
  have g8 : ¬ (160 : Int) ≤ b := by omega
  have g9 : (b : Int) ≤ 175 := by omega
  have g10 : ¬ (224 : Int) ≤ b := by omega
  have g11 : (b : Int) ≤ 239 := by omega
  clear h1 h2
  go_enter Tryd.func89, Tryd.ntmps89
  go_wp2
  go_ret3
  exact ⟨rfl, rfl⟩

set_option maxHeartbeats 1000000 in
theorem pair_2_1 (b : Nat) (w : World) (h1 : 65 ≤ b) (h2 : b ≤ 90) : PairIs b 2 w := by
  have hv : pairN 2 b = (true, false, 32) := (by decide +kernel : ∀ b : Fin 256, 65 ≤ b.val → b.val ≤ 90 → pairN 2 b.val = (true, false, 32)) ⟨b, by omega⟩ h1 h2
  unfold PairIs
  rw [hv]
  clear hv
  change Calls Tryd.prog 89 #[.int .u8 b, .int .i64 2] w fun e w' => e = .returned (.tuple #[.bool true, .bool false, .int .u8 32]) ∧ w = w'
  have g0 : (65 : Int) ≤ b := by omega
  have g1 : (b : Int) ≤ 90 := by omega
  have g2 : ¬ (97 : Int) ≤ b := by omega
  have g3 : (b : Int) ≤ 122 := by omega
  have g4 : ¬ (128 : Int) ≤ b := by omega
  have g5 : (b : Int) ≤ 143 := by omega
  have g6 : ¬ (144 : Int) ≤ b := by omega
  have g7 : (b : Int) ≤ 159 := by omega
  have g8 : ¬ (160 : Int) ≤ b := by omega
  have g9 : (b : Int) ≤ 175 := by omega
  have g10 : ¬ (224 : Int) ≤ b := by omega
  have g11 : (b : Int) ≤ 239 := by omega
  clear h1 h2
  go_enter Tryd.func89, Tryd.ntmps89
  go_wp2
  go_ret3
  exact ⟨rfl, rfl⟩

set_option maxHeartbeats 1000000 in
theorem pair_2_2 (b : Nat) (w : World) (h1 : 91 ≤ b) (h2 : b ≤ 96) : PairIs b 2 w := by
  have hv : pairN 2 b = (false, false, 0) := (by decide +kernel : ∀ b : Fin 256, 91 ≤ b.val → b.val ≤ 96 → pairN 2 b.val = (false, false, 0)) ⟨b, by omega⟩ h1 h2
  unfold PairIs
  rw [hv]
  clear hv
  change Calls Tryd.prog 89 #[.int .u8 b, .int .i64 2] w fun e w' => e = .returned (.tuple #[.bool false, .bool false, .int .u8 0]) ∧ w = w'
  have g0 : (65 : Int) ≤ b := by omega
  have g1 : ¬ (b : Int) ≤ 90 := by omega
  have g2 : ¬ (97 : Int) ≤ b := by omega
  have g3 : (b : Int) ≤ 122 := by omega
  have g4 : ¬ (128 : Int) ≤ b := by omega
  have g5 : (b : Int) ≤ 143 := by omega
  have g6 : ¬ (144 : Int) ≤ b := by omega
  have g7 : (b : Int) ≤ 159 := by omega
  have g8 : ¬ (160 : Int) ≤ b := by omega
  have g9 : (b : Int) ≤ 175 := by omega
  have g10 : ¬ (224 : Int) ≤ b := by omega
  have g11 : (b : Int) ≤ 239 := by omega
  clear h1 h2
  go_enter Tryd.func89, Tryd.ntmps89
  go_wp2
  go_ret3
  exact ⟨rfl, rfl⟩

set_option maxHeartbeats 1000000 in
theorem pair_2_3 (b : Nat) (w : World) (h1 : 97 ≤ b) (h2 : b ≤ 122) : PairIs b 2 w := by
  have hv : pairN 2 b = (false, true, 32) := (by decide +kernel : ∀ b : Fin 256, 97 ≤ b.val → b.val ≤ 122 → pairN 2 b.val = (false, true, 32)) ⟨b, by omega⟩ h1 h2
  unfold PairIs
  rw [hv]
  clear hv
  change Calls Tryd.prog 89 #[.int .u8 b, .int .i64 2] w fun e w' => e = .returned (.tuple #[.bool false, .bool true, .int .u8 32]) ∧ w = w'
  have g0 : (65 : Int) ≤ b := by omega
  have g1 : ¬ (b : Int) ≤ 90 := by omega
  have g2 : (97 : Int) ≤ b := by omega
  have g3 : (b : Int) ≤ 122 := by omega
  have g4 : ¬ (128 : Int) ≤ b := by omega
  have g5 : (b : Int) ≤ 143 := by omega
  have g6 : ¬ (144 : Int) ≤ b := by omega
  have g7 : (b : Int) ≤ 159 := by omega
  have g8 : ¬ (160 : Int) ≤ b := by omega
  have g9 : (b : Int) ≤ 175 := by omega
  have g10 : ¬ (224 : Int) ≤ b := by omega
  have g11 : (b : Int) ≤ 239 := by omega
  clear h1 h2
  go_enter Tryd.func89, Tryd.ntmps89
  go_wp2
  go_ret3
  exact ⟨rfl, rfl⟩

set_option maxHeartbeats 1000000 in
theorem pair_2_4 (b : Nat) (w : World) (h1 : 123 ≤ b) (h2 : b ≤ 127) : PairIs b 2 w := by
  have hv : pairN 2 b = (false, false, 0) := (by decide +kernel : ∀ b : Fin 256, 123 ≤ b.val → b.val ≤ 127 → pairN 2 b.val = (false, false, 0)) ⟨b, by omega⟩ h1 h2
  unfold PairIs
  rw [hv]
  clear hv
  change Calls Tryd.prog 89 #[.int .u8 b, .int .i64 2] w fun e w' => e = .returned (.tuple #[.bool false, .bool false, .int .u8 0]) ∧ w = w'
  have g0 : (65 : Int) ≤ b := by omega
  have g1 : ¬ (b : Int) ≤ 90 := by omega
  have g2 : (97 : Int) ≤ b := by omega
  have g3 : ¬ (b : Int) ≤ 122 := by omega
  have g4 : ¬ (128 : Int) ≤ b := by omega
  have g5 : (b : Int) ≤ 143 := by omega
  have g6 : ¬ (144 : Int) ≤ b := by omega
  have g7 : (b : Int) ≤ 159 := by omega
  have g8 : ¬ (160 : Int) ≤ b := by omega
  have g9 : (b : Int) ≤ 175 := by omega
  have g10 : ¬ (224 : Int) ≤ b := by omega
  have g11 : (b : Int) ≤ 239 := by omega
  clear h1 h2
  go_enter Tryd.func89, Tryd.ntmps89
  go_wp2
  go_ret3
  exact ⟨rfl, rfl⟩

set_option maxHeartbeats 1000000 in
theorem pair_2_5 (b : Nat) (w : World) (h1 : 128 ≤ b) (h2 : b ≤ 143) : PairIs b 2 w := by
  have hv : pairN 2 b = (true, false, 32) := (by decide +kernel : ∀ b : Fin 256, 128 ≤ b.val → b.val ≤ 143 → pairN 2 b.val = (true, false, 32)) ⟨b, by omega⟩ h1 h2
  unfold PairIs
  rw [hv]
  clear hv
  change Calls Tryd.prog 89 #[.int .u8 b, .int .i64 2] w fun e w' => e = .returned (.tuple #[.bool true, .bool false, .int .u8 32]) ∧ w = w'
  have g0 : (65 : Int) ≤ b := by omega
  have g1 : ¬ (b : Int) ≤ 90 := by omega
  have g2 : (97 : Int) ≤ b := by omega
  have g3 : ¬ (b : Int) ≤ 122 := by omega
  have g4 : (128 : Int) ≤ b := by omega
  have g5 : (b : Int) ≤ 143 := by omega
  have g6 : ¬ (144 : Int) ≤ b := by omega
  have g7 : (b : Int) ≤ 159 := by omega
  have g8 : ¬ (160 : Int) ≤ b := by omega
  have g9 : (b : Int) ≤ 175 := by omega
  have g10 : ¬ (224 : Int) ≤ b := by omega
  have g11 : (b : Int) ≤ 239 := by omega
  clear h1 h2
  go_enter Tryd.func89, Tryd.ntmps89
  go_wp2
  go_ret3
  exact ⟨rfl, rfl⟩

set_option maxHeartbeats 1000000 in
theorem pair_2_6 (b : Nat) (w : World) (h1 : 144 ≤ b) (h2 : b ≤ 159) : PairIs b 2 w := by
  have hv : pairN 2 b = (true, false, 80) := (by decide +kernel : ∀ b : Fin 256, 144 ≤ b.val → b.val ≤ 159 → pairN 2 b.val = (true, false, 80)) ⟨b, by omega⟩ h1 h2
  unfold PairIs
  rw [hv]
  clear hv
  change Calls Tryd.prog 89 #[.int .u8 b, .int .i64 2] w fun e w' => e = .returned (.tuple #[.bool true, .bool false, .int .u8 80]) ∧ w = w'
  have g0 : (65 : Int) ≤ b := by omega
  have g1 : ¬ (b : Int) ≤ 90 := by omega
  have g2 : (97 : Int) ≤ b := by omega
  have g3 : ¬ (b : Int) ≤ 122 := by omega
  have g4 : (128 : Int) ≤ b := by omega
  have g5 : ¬ (b : Int) ≤ 143 := by omega
  have g6 : (144 : Int) ≤ b := by omega
  have g7 : (b : Int) ≤ 159 := by omega
  have g8 : ¬ (160 : Int) ≤ b := by omega
  have g9 : (b : Int) ≤ 175 := by omega
  have g10 : ¬ (224 : Int) ≤ b := by omega
  have g11 : (b : Int) ≤ 239 := by omega
  clear h1 h2
  go_enter Tryd.func89, Tryd.ntmps89
  go_wp2
  go_ret3
  exact ⟨rfl, rfl⟩

set_option maxHeartbeats 1000000 in
theorem pair_2_7 (b : Nat) (w : World) (h1 : 160 ≤ b) (h2 : b ≤ 175) : PairIs b 2 w := by
  have hv : pairN 2 b = (false, true, 32) := (by decide +kernel : ∀ b : Fin 256, 160 ≤ b.val → b.val ≤ 175 → pairN 2 b.val = (false, true, 32)) ⟨b, by omega⟩ h1 h2
  unfold PairIs
  rw [hv]
  clear hv
  change Calls Tryd.prog 89 #[.int .u8 b, .int .i64 2] w fun e w' => e = .returned (.tuple #[.bool false, .bool true, .int .u8 32]) ∧ w = w'
  have g0 : (65 : Int) ≤ b := by omega
  have g1 : ¬ (b : Int) ≤ 90 := by omega
  have g2 : (97 : Int) ≤ b := by omega
  have g3 : ¬ (b : Int) ≤ 122 := by omega
  have g4 : (128 : Int) ≤ b := by omega
  have g5 : ¬ (b : Int) ≤ 143 := by omega
  have g6 : (144 : Int) ≤ b := by omega
  have g7 : ¬ (b : Int) ≤ 159 := by omega
  have g8 : (160 : Int) ≤ b := by omega
  have g9 : (b : Int) ≤ 175 := by omega
  have g10 : ¬ (224 : Int) ≤ b := by omega
  have g11 : (b : Int) ≤ 239 := by omega
  clear h1 h2
  go_enter Tryd.func89, Tryd.ntmps89
  go_wp2
  go_ret3
  exact ⟨rfl, rfl⟩

set_option maxHeartbeats 1000000 in
theorem pair_2_8 (b : Nat) (w : World) (h1 : 176 ≤ b) (h2 : b ≤ 223) : PairIs b 2 w := by
  have hv : pairN 2 b = (false, false, 0) := (by decide +kernel : ∀ b : Fin 256, 176 ≤ b.val → b.val ≤ 223 → pairN 2 b.val = (false, false, 0)) ⟨b, by omega⟩ h1 h2
  unfold PairIs
  rw [hv]
  clear hv
  change Calls Tryd.prog 89 #[.int .u8 b, .int .i64 2] w fun e w' => e = .returned (.tuple #[.bool false, .bool false, .int .u8 0]) ∧ w = w'
  have g0 : (65 : Int) ≤ b := by omega
  have g1 : ¬ (b : Int) ≤ 90 := by omega
  have g2 : (97 : Int) ≤ b := by omega
  have g3 : ¬ (b : Int) ≤ 122 := by omega
  have g4 : (128 : Int) ≤ b := by omega
  have g5 : ¬ (b : Int) ≤ 143 := by omega
  have g6 : (144 : Int) ≤ b := by omega
  have g7 : ¬ (b : Int) ≤ 159 := by omega
  have g8 : (160 : Int) ≤ b := by omega
  have g9 : ¬ (b : Int) ≤ 175 := by omega
  have g10 : ¬ (224 : Int) ≤ b := by omega
  have g11 : (b : Int) ≤ 239 := by omega
  clear h1 h2
  go_enter Tryd.func89, Tryd.ntmps89
  go_wp2
  go_ret3
  exact ⟨rfl, rfl⟩

set_option maxHeartbeats 1000000 in
theorem pair_2_9 (b : Nat) (w : World) (h1 : 224 ≤ b) (h2 : b ≤ 239) : PairIs b 2 w := by
  have hv : pairN 2 b = (false, true, 80) := (by decide +kernel : ∀ b : Fin 256, 224 ≤ b.val → b.val ≤ 239 → pairN 2 b.val = (false, true, 80)) ⟨b, by omega⟩ h1 h2
  unfold PairIs
  rw [hv]
  clear hv
  change Calls Tryd.prog 89 #[.int .u8 b, .int .i64 2] w fun e w' => e = .returned (.tuple #[.bool false, .bool true, .int .u8 80]) ∧ w = w'
  have g0 : (65 : Int) ≤ b := by omega
  have g1 : ¬ (b : Int) ≤ 90 := by omega
  have g2 : (97 : Int) ≤ b := by omega
  have g3 : ¬ (b : Int) ≤ 122 := by omega
  have g4 : (128 : Int) ≤ b := by omega
  have g5 : ¬ (b : Int) ≤ 143 := by omega
  have g6 : (144 : Int) ≤ b := by omega
  have g7 : ¬ (b : Int) ≤ 159 := by omega
  have g8 : (160 : Int) ≤ b := by omega
  have g9 : ¬ (b : Int) ≤ 175 := by omega
  have g10 : (224 : Int) ≤ b := by omega
  have g11 : (b : Int) ≤ 239 := by omega
  clear h1 h2
  go_enter Tryd.func89, Tryd.ntmps89
  go_wp2
  go_ret3
  exact ⟨rfl, rfl⟩

set_option maxHeartbeats 1000000 in
theorem pair_2_10 (b : Nat) (w : World) (h1 : 240 ≤ b) (h2 : b ≤ 255) : PairIs b 2 w := by
  have hv : pairN 2 b = (false, false, 0) := (by decide +kernel : ∀ b : Fin 256, 240 ≤ b.val → b.val ≤ 255 → pairN 2 b.val = (false, false, 0)) ⟨b, by omega⟩ h1 h2
  unfold PairIs
  rw [hv]
  clear hv
  change Calls Tryd.prog 89 #[.int .u8 b, .int .i64 2] w fun e w' => e = .returned (.tuple #[.bool false, .bool false, .int .u8 0]) ∧ w = w'
  have g0 : (65 : Int) ≤ b := by omega
  have g1 : ¬ (b : Int) ≤ 90 := by omega
  have g2 : (97 : Int) ≤ b := by omega
  have g3 : ¬ (b : Int) ≤ 122 := by omega
  have g4 : (128 : Int) ≤ b := by omega
  have g5 : ¬ (b : Int) ≤ 143 := by omega
  have g6 : (144 : Int) ≤ b := by omega
  have g7 : ¬ (b : Int) ≤ 159 := by omega
  have g8 : (160 : Int) ≤ b := by omega
  have g9 : ¬ (b : Int) ≤ 175 := by omega
  have g10 : (224 : Int) ≤ b := by omega
  have g11 : ¬ (b : Int) ≤ 239 := by omega
  clear h1 h2
  go_enter Tryd.func89, Tryd.ntmps89
  go_wp2
  go_ret3
  exact ⟨rfl, rfl⟩
theorem pair_any (b p : Nat) (hb : b < 256) (hp : p < 3) (w : World) : PairIs b p w := by
  rcases (show p = 0 ∨ p = 1 ∨ p = 2 by omega) with rfl | rfl | rfl
  · rcases (show (0 ≤ b ∧ b ≤ 64) ∨ (65 ≤ b ∧ b ≤ 90) ∨ (91 ≤ b ∧ b ≤ 96) ∨ (97 ≤ b ∧ b ≤ 122) ∨ (123 ≤ b ∧ b ≤ 255) by omega) with ⟨h1, h2⟩ | ⟨h1, h2⟩ | ⟨h1, h2⟩ | ⟨h1, h2⟩ | ⟨h1, h2⟩
    · exact pair_0_0 b w h1 h2
    · exact pair_0_1 b w h1 h2
    · exact pair_0_2 b w h1 h2
    · exact pair_0_3 b w h1 h2
    · exact pair_0_4 b w h1 h2
  · rcases (show (0 ≤ b ∧ b ≤ 64) ∨ (65 ≤ b ∧ b ≤ 90) ∨ (91 ≤ b ∧ b ≤ 96) ∨ (97 ≤ b ∧ b ≤ 122) ∨ (123 ≤ b ∧ b ≤ 191) ∨ (192 ≤ b ∧ b ≤ 214) ∨ (215 ≤ b ∧ b ≤ 215) ∨ (216 ≤ b ∧ b ≤ 222) ∨ (223 ≤ b ∧ b ≤ 223) ∨ (224 ≤ b ∧ b ≤ 246) ∨ (247 ≤ b ∧ b ≤ 247) ∨ (248 ≤ b ∧ b ≤ 254) ∨ (255 ≤ b ∧ b ≤ 255) by omega) with ⟨h1, h2⟩ | ⟨h1, h2⟩ | ⟨h1, h2⟩ | ⟨h1, h2⟩ | ⟨h1, h2⟩ | ⟨h1, h2⟩ | ⟨h1, h2⟩ | ⟨h1, h2⟩ | ⟨h1, h2⟩ | ⟨h1, h2⟩ | ⟨h1, h2⟩ | ⟨h1, h2⟩ | ⟨h1, h2⟩
    · exact pair_1_0 b w h1 h2
    · exact pair_1_1 b w h1 h2
    · exact pair_1_2 b w h1 h2
    · exact pair_1_3 b w h1 h2
    · exact pair_1_4 b w h1 h2
    · exact pair_1_5 b w h1 h2
    · exact pair_1_6 b w h1 h2
    · exact pair_1_7 b w h1 h2
    · exact pair_1_8 b w h1 h2
    · exact pair_1_9 b w h1 h2
    · exact pair_1_10 b w h1 h2
    · exact pair_1_11 b w h1 h2
    · exact pair_1_12 b w h1 h2
  · rcases (show (0 ≤ b ∧ b ≤ 64) ∨ (65 ≤ b ∧ b ≤ 90) ∨ (91 ≤ b ∧ b ≤ 96) ∨ (97 ≤ b ∧ b ≤ 122) ∨ (123 ≤ b ∧ b ≤ 127) ∨ (128 ≤ b ∧ b ≤ 143) ∨ (144 ≤ b ∧ b ≤ 159) ∨ (160 ≤ b ∧ b ≤ 175) ∨ (176 ≤ b ∧ b ≤ 223) ∨ (224 ≤ b ∧ b ≤ 239) ∨ (240 ≤ b ∧ b ≤ 255) by omega) with ⟨h1, h2⟩ | ⟨h1, h2⟩ | ⟨h1, h2⟩ | ⟨h1, h2⟩ | ⟨h1, h2⟩ | ⟨h1, h2⟩ | ⟨h1, h2⟩ | ⟨h1, h2⟩ | ⟨h1, h2⟩ | ⟨h1, h2⟩ | ⟨h1, h2⟩
    · exact pair_2_0 b w h1 h2
    · exact pair_2_1 b w h1 h2
    · exact pair_2_2 b w h1 h2
    · exact pair_2_3 b w h1 h2
    · exact pair_2_4 b w h1 h2
    · exact pair_2_5 b w h1 h2
    · exact pair_2_6 b w h1 h2
    · exact pair_2_7 b w h1 h2
    · exact pair_2_8 b w h1 h2
    · exact pair_2_9 b w h1 h2
    · exact pair_2_10 b w h1 h2
end Go.Proofs.YtiddnacmopfamaaDoor

/- IsLetter, upper and lower of the reference, and digit of its code of sounds. -/
namespace Go.Proofs.YtiddnacmopfamaaDoor
open Go.RowKit
set_option linter.unusedVariables false
set_option linter.unusedSimpArgs false

theorem pair_tab : ∀ (p : Fin 3) (b : Fin 256), ((pairN p.val b.val).2.1 = true → (pairN p.val b.val).2.2 ≤ b.val) ∧ ((pairN p.val b.val).1 = true → b.val + (pairN p.val b.val).2.2 < 256) := by decide +kernel

set_option maxHeartbeats 1000000 in
theorem refIsLetter_any (b p : Nat) (hb : b < 256) (hp : p < 3) (w : World) :
    Calls Tryd.prog 80 #[.int .u8 b, .int .i64 p] w fun e w' => e = .returned (.bool (letN p b)) ∧ w = w' := by
  have C := Lib.hid (fun W => pair_any b p hb hp W)
  unfold PairIs at C
  unfold letN
  generalize pairN p b = t at *
  obtain ⟨x, y, d⟩ := t
  simp only at C
  go_enter Tryd.func80, Tryd.ntmps80
  go_wp2_with fail
  refine (C.out _).mono ?_
  rintro e w1 ⟨rfl, rfl⟩
  cases x
  · go_wp2_with fail
    go_ret
    exact ⟨rfl, rfl⟩
  · go_wp2_with fail
    go_ret
    exact ⟨rfl, rfl⟩

set_option maxHeartbeats 1000000 in
theorem refUpper_any (b p : Nat) (hb : b < 256) (hp : p < 3) (w : World) :
    Calls Tryd.prog 81 #[.int .u8 b, .int .i64 p] w fun e w' => e = .returned (.int .u8 (upN p b)) ∧ w = w' := by
  have C := Lib.hid (fun W => pair_any b p hb hp W)
  have h1 := (pair_tab ⟨p, hp⟩ ⟨b, hb⟩).1
  unfold PairIs at C
  unfold upN
  simp only at h1
  generalize pairN p b = t at *
  obtain ⟨x, y, d⟩ := t
  simp only at C h1
  cases y
  · rw [if_neg (by simp)]
    clear h1
    go_enter Tryd.func81, Tryd.ntmps81
    go_wp2_with fail
    refine (C.out _).mono ?_
    rintro e w1 ⟨rfl, rfl⟩
    go_wp2_with fail
    go_ret
    exact ⟨rfl, rfl⟩
  · have h1 := h1 rfl
    rw [if_pos rfl]
    have he : ((b : Int) - d) % 256 = ((b - d : Nat) : Int) := by omega
    have HE := Lib.hid he; clear he
    go_enter Tryd.func81, Tryd.ntmps81
    go_wp2_with fail
    refine (C.out _).mono ?_
    rintro e w1 ⟨rfl, rfl⟩
    go_wp2_with fail
    go_ret
    have he2 : ((b - d : Nat) : Int) = (b : Int) - d := by omega
    exact ⟨by rw [he2]; rfl, rfl⟩

/-- The letters of the digits of a code of sounds. -/
def strsL : List ByteArray := [⟨#[]⟩, ⟨#[66, 70, 80, 86]⟩, ⟨#[67, 71, 74, 75, 81, 83, 88, 90]⟩, ⟨#[68, 84]⟩, ⟨#[76]⟩, ⟨#[77, 78]⟩, ⟨#[82]⟩]
theorem byte_at (l : ByteArray) (j : Nat) (h : j < l.size) : (l[j]'h).toNat = ((l.data.toList).getD j 0).toNat := by
  have h' : j < l.data.size := h
  have e : l.data.toList.getD j 0 = l.data[j] := by
    rw [List.getD_eq_getElem?_getD, Array.getElem?_toList, Array.getElem?_eq_getElem h']; rfl
  rw [e]; rfl
def atS (d i : Nat) : Nat := (((strsL.getD d ⟨#[]⟩).data.toList).getD i 0).toNat
def lenS (d : Nat) : Nat := (strsL.getD d ⟨#[]⟩).size
theorem lenS_le : ∀ d : Fin 7, lenS d.val ≤ 8 := by decide +kernel
theorem hit_tab : ∀ (c : Fin 26) (d : Fin 7) (i : Fin 8), i.val < lenS d.val → atS d.val i.val = 65 + c.val → digI (65 + c.val) = d.val := by decide +kernel
theorem miss_tab : ∀ (c : Fin 26), (∀ (d : Fin 7) (i : Fin 8), i.val < lenS d.val → atS d.val i.val ≠ 65 + c.val) → digI (65 + c.val) = if 65 + c.val = 72 ∨ 65 + c.val = 87 then -1 else 0 := by decide +kernel

end Go.Proofs.YtiddnacmopfamaaDoor

/- Sound of the reference. -/
namespace Go.Proofs.YtiddnacmopfamaaDoor
open Go.RowKit
set_option linter.unusedVariables false
set_option linter.unusedSimpArgs false

def SN (l : List Nat) : ByteArray := strOfNums (l.map Int.ofNat)
theorem SN_nil : SN [] = ⟨#[]⟩ := by decide +kernel
theorem SN_size (l : List Nat) : (SN l).size = l.length := by simp [SN, strOfNums_size]
theorem SN_snoc (l : List Nat) (x : Nat) (z : Int) (h : z = x) : SN l ++ strOfNums [z] = SN (l ++ [x]) := by
  subst h
  apply ByteArray.ext
  simp [SN, strOfNums]
theorem SN_zero (l : List Nat) : SN l ++ ⟨#[48]⟩ = SN (l ++ [48]) := by
  apply ByteArray.ext
  simp [SN, strOfNums]
theorem SN_ne {l : List Nat} (h : l ≠ []) : (SN l).toList.isEmpty = false := by
  obtain ⟨x, r, rfl⟩ := List.exists_cons_of_ne_nil h
  rw [SN, Lib.strOfNums_toList]
  simp [Lib.bytesOf]
def szV : Value → Nat
  | .string t => t.size
  | _ => 0
theorem conv1 (w : World) (z : Int) (W : World) (n : Nat) (hW : W.cell? ⟨n, 0, none⟩ = some (.int .u8 z)) : (convert 73 9 (.slice (some ⟨n, 0, none⟩) 1 1)).run Tryd.prog W = .ok (.string (strOfNums [z])) W :=
  conv_bytes (zs := [z]) (B := n + 1) (fun _ => ⟨_, rfl, by simp, fun j hj => by
    have h0 : j = 0 := by simpa using hj
    subst h0
    simpa [Addr.add] using hW⟩) 1

end Go.Proofs.YtiddnacmopfamaaDoor

/- From the rows' condition to the tables of capitals and of accents; the walk of PageSounds. -/
namespace Go.Proofs.YtiddnacmopfamaaDoor
open Go.RowKit Go.Lib
set_option linter.unusedVariables false
set_option linter.unusedSimpArgs false

theorem own : ownKnob Tryd.prog.godebug = none := by kernel_rfl
theorem gCases : Tryd.prog.globalNamed "cabinetry/page.cases" = some 1 := by kernel_rfl
theorem gAcc : Tryd.prog.globalNamed "cabinetry/page.accents" = some 0 := by kernel_rfl
theorem gCasesT : (Tryd.prog.globals[1]?).map (·.type) = some 158 := by kernel_rfl
theorem gAccT : (Tryd.prog.globals[0]?).map (·.type) = some 151 := by kernel_rfl
theorem cc5 : Tryd.prog.cellsOf 5 = 1 := by kernel_rfl
theorem cc87 : Tryd.prog.cellsOf 150 = 3 := by kernel_rfl
theorem cc88 : Tryd.prog.cellsOf 157 = 9 := by kernel_rfl

def casesR : List (List (List Int)) := [[[65, 90, 32], [1, 0, 0], [1, 0, 0]], [[65, 90, 32], [192, 222, 32], [1, 0, 0]], [[65, 90, 32], [128, 143, 32], [144, 159, 80]]]
def accR : List (List Int) := [[192, 197, 65], [199, 199, 67], [200, 203, 69], [204, 207, 73], [209, 209, 78], [210, 214, 79], [217, 220, 85], [221, 221, 89], [1, 0, 0]]
theorem cases_datum : Rows.laid_cabinetry_page_cases = (.agg (casesR.map fun x => .agg (x.map fun y => tabData .u8 y)) : DataW Unit) := rfl
theorem acc_datum : Rows.laid_cabinetry_page_accents = (.agg (accR.map fun y => tabData .u8 y) : DataW Unit) := rfl

theorem row_cells {W : World} {base : Nat} {sp : Nat → Bool} {held : Bool} {fuel : Nat} {cs : List Value} {n : Nat} {t : TypeId} {rows : List (List Int)} {p : List MemPlace} (ht : Tryd.prog.underlying t = some (.array n 150))
    (h : DataW.trod (fun _ => ()) Tryd.prog W base sp held fuel t cs = some (.agg (rows.map fun y => tabData .u8 y), p)) (b : Nat) (hb : b < n) (hr : b < rows.length) :
    (cs.drop (b * 3)).take 3 = (rows.getD b []).map fun z => Value.int .u8 z := by
  obtain ⟨f, d, q, hd, h1⟩ := array_elem ht h b hb
  rw [cc87] at h1
  have hd' : d = tabData .u8 (rows.getD b []) := by
    rw [List.getElem?_map, List.getElem?_eq_getElem hr] at hd
    simp only [Option.map_some, Option.some.injEq] at hd
    rw [← hd]
    simp [List.getD, hr]
  subst hd'
  exact cells_of_tab Tryd.underlying150 Tryd.underlying5 cc5 cc87 h1
theorem take3_at {α : Type} {cs : List α} {k c : Nat} {l : List α} (h : (cs.drop k).take 3 = l) (hc : c < 3) : cs[k + c]? = l[c]? := by
  rw [← h, List.getElem?_take, if_pos hc, List.getElem?_drop]

theorem tabs_of_laid {l : List (String × DataW Unit)} {W : World} (h : laidMet Tryd.prog l W) (hm : ("cabinetry/page.cases", Rows.laid_cabinetry_page_cases) ∈ l) (hm2 : ("cabinetry/page.accents", Rows.laid_cabinetry_page_accents) ∈ l) : Tabs W := by
  have mk : (∀ i, i < 27 → W.cell? ⟨1, i, none⟩ = some (.int .u8 (casesL.getD i 0))) → (∀ i, i < 27 → W.cell? ⟨0, i, none⟩ = some (.int .u8 (accL.getD i 0))) → Tabs W := fun h1 h2 => ⟨h1, h2, by
    have h := h1 0 (by omega)
    rcases Nat.lt_or_ge 1 W.heap.size with q | q
    · exact q
    · have : W.heap[1]? = none := Array.getElem?_eq_none q
      simp [World.cell?, this] at h⟩
  refine mk ?_ ?_
  · obtain ⟨g, t, cs, fuel, p, hg, ht, hvar, hd⟩ := laidMet.reads h hm
    obtain rfl := Option.some.inj (gCases.symm.trans hg)
    obtain rfl := Option.some.inj (gCasesT.symm.trans ht)
    rw [cases_datum] at hd
    have key : ∀ a b c, a < 3 → b < 3 → c < 3 → cs.toList[a * 9 + (b * 3 + c)]? = some (.int .u8 (casesL.getD (a * 9 + (b * 3 + c)) 0)) := by
      intro a b c ha hb hc
      obtain ⟨f, d, q, hd1, h1⟩ := array_elem Tryd.underlying158 hd a ha
      rw [cc88] at h1
      have hd' : d = .agg ((casesR.getD a []).map fun y => tabData .u8 y) := by
        have hr : a < casesR.length := ha
        rw [List.getElem?_map, List.getElem?_eq_getElem hr] at hd1
        simp only [Option.map_some, Option.some.injEq] at hd1
        rw [← hd1]
        simp [List.getD, hr]
      subst hd'
      have h3 := row_cells Tryd.underlying157 h1 b hb (by
        rcases (show a = 0 ∨ a = 1 ∨ a = 2 by omega) with rfl | rfl | rfl <;> exact hb)
      have h4 := take3_at h3 hc
      rw [List.getElem?_take, if_pos (by omega), List.getElem?_drop] at h4
      rw [h4]
      rcases (show a = 0 ∨ a = 1 ∨ a = 2 by omega) with rfl | rfl | rfl <;> rcases (show b = 0 ∨ b = 1 ∨ b = 2 by omega) with rfl | rfl | rfl <;> rcases (show c = 0 ∨ c = 1 ∨ c = 2 by omega) with rfl | rfl | rfl <;> rfl
    intro i hi
    have hk := key (i / 9) (i / 3 % 3) (i % 3) (by omega) (by omega) (by omega)
    rw [show i / 9 * 9 + (i / 3 % 3 * 3 + i % 3) = i by omega] at hk
    rw [World.var?_cell hg hvar i, ← Array.getElem?_toList]
    exact hk
  · obtain ⟨g, t, cs, fuel, p, hg, ht, hvar, hd⟩ := laidMet.reads h hm2
    obtain rfl := Option.some.inj (gAcc.symm.trans hg)
    obtain rfl := Option.some.inj (gAccT.symm.trans ht)
    rw [acc_datum] at hd
    intro i hi
    have h3 := row_cells Tryd.underlying151 hd (i / 3) (by omega) (by show i / 3 < 9; omega)
    have h4 := take3_at h3 (c := i % 3) (by omega)
    rw [show i / 3 * 3 + i % 3 = i by omega] at h4
    rw [World.var?_cell hg hvar i, ← Array.getElem?_toList, h4]
    rcases (show i / 3 = 0 ∨ i / 3 = 1 ∨ i / 3 = 2 ∨ i / 3 = 3 ∨ i / 3 = 4 ∨ i / 3 = 5 ∨ i / 3 = 6 ∨ i / 3 = 7 ∨ i / 3 = 8 by omega) with e | e | e | e | e | e | e | e | e <;> rcases (show i % 3 = 0 ∨ i % 3 = 1 ∨ i % 3 = 2 by omega) with f | f | f <;>
      (have ei : i = i / 3 * 3 + i % 3 := by omega
       rw [e, f] at ei
       rw [e, f, ei]; rfl)

end Go.Proofs.YtiddnacmopfamaaDoor

/- asked of the reference. -/
namespace Go.Proofs.YtiddnacmopfamaaDoor
open Go.RowKit
set_option linter.unusedVariables false
set_option linter.unusedSimpArgs false

def askedN (m : Int) (ss : List ByteArray) (c : Int) (ps : List Int) : Int :=
  if ss.any (fun s => decide (m < (s.size : Int))) then 3 else if ps.any (fun p => decide (p < 0) || decide (2 < p)) then 1 else if c = 0 ∨ c = 1 then 0 else 1
theorem asked_wrong (ss : List ByteArray) (c p : Int) : askedN 2048 ss c [p] = wrongN p c ss := by
  unfold askedN wrongN
  have e : (fun s : ByteArray => decide ((2048 : Int) < (s.size : Int))) = fun s => decide (2048 < s.size) := by funext s; simp; omega
  rw [e]
  split
  · rfl
  · by_cases h : 0 ≤ p ∧ p < 3
    · have e2 : ([p].any fun p => decide (p < 0) || decide (2 < p)) = false := by simp; omega
      rw [e2, if_neg (by simp)]
      by_cases hc : c = 0 ∨ c = 1
      · rw [if_pos hc, if_pos ⟨h.1, h.2, hc⟩]
      · rw [if_neg hc, if_neg (fun q => hc q.2.2)]
    · have e2 : ([p].any fun p => decide (p < 0) || decide (2 < p)) = true := by simp; omega
      rw [e2, if_pos rfl, if_neg (fun q => h ⟨q.1, q.2.1⟩)]
theorem anyI_take {ss : List Int} {k : Nat} (h : k < ss.length) (f : Int → Bool) : (ss.take (k + 1)).any f = ((ss.take k).any f || f (ss.getD k 0)) := by
  rw [List.take_succ_eq_append_getElem h, List.any_append]; simp [List.getD, h]
theorem anyI_at {ss : List Int} {k : Nat} (h : k < ss.length) (f : Int → Bool) (hf : f (ss.getD k 0) = true) : ss.any f = true := by
  rw [List.any_eq_true]
  refine ⟨_, List.getElem_mem h, ?_⟩
  simpa [List.getD, h] using hf

set_option maxHeartbeats 2000000 in
theorem asked_any (m c : Int) (ss : List ByteArray) (ps : List Int) (ad ad2 : Addr) (cap cap2 : Nat) (w : World) (hl : ss.length ≤ 100) (hl2 : ps.length ≤ 100) (hs : ∀ s ∈ ss, s.size ≤ maxLen)
    (hc : ∀ j, j < ss.length → w.cell? (ad.add j) = some (.string (ss.getD j ByteArray.empty))) (hc2 : ∀ j, j < ps.length → w.cell? (ad2.add j) = some (.int .i64 (ps.getD j 0))) :
    Calls Tryd.prog 60 #[.int .i64 m, .slice (some ad) ss.length cap, .int .i64 c, .slice (some ad2) ps.length cap2] w fun e w' => e = .returned (.int .i64 (askedN m ss c ps)) ∧ w = w' := by
  have HC := Lib.hid hc; clear hc
  have HC2 := Lib.hid hc2; clear hc2
  have HS := Lib.hid hs; clear hs
  go_enter Tryd.func60, Tryd.ntmps60
  go_wp2_with fail
  go_loop [9] (fun i => ∃ k : Nat, k ≤ ss.length ∧ i = .int .i64 k ∧ Hid ((ss.take k).any (fun s => decide (m < (s.size : Int))) = false)) (fun i => ss.length - (intOf i).toNat)
  case atStart => exact ⟨0, by omega, rfl, Lib.hid (by simp)⟩
  case round =>
    obtain ⟨k, hk, rfl, HA⟩ := hrel
    by_cases hlt : k < ss.length
    · have hck := HC.out k hlt
      have hmem : (ss.getD k ByteArray.empty).size ≤ maxLen := HS.out _ (by simp [List.getD, hlt])
      have ht := any_take hlt (fun s => decide (m < (s.size : Int)))
      have hat := any_at hlt (fun s => decide (m < (s.size : Int)))
      generalize ss.getD k ByteArray.empty = s at *
      unfold maxLen at hmem
      by_cases hbig : m < (s.size : Int)
      · have hw : askedN m ss c ps = 3 := by unfold askedN; rw [if_pos (hat (by simpa using hbig))]
        have HW := Lib.hid hw; clear hw hat ht
        go_wp2_with fail
        go_ret
        exact ⟨by rw [HW.out]; rfl, rfl⟩
      · have hn : (ss.take (k + 1)).any (fun s => decide (m < (s.size : Int))) = false := by rw [ht, HA.out]; simpa using hbig
        have HN := Lib.hid hn; clear hn hat ht
        go_wp2_with fail
        exact ⟨⟨k + 1, by omega, rfl, HN⟩, by simp [intOf]; omega⟩
    · have hkl : k = ss.length := by omega
      have hn : ss.any (fun s => decide (m < (s.size : Int))) = false := by have := HA.out; rwa [hkl, List.take_length] at this
      have HN := Lib.hid hn; clear hn
      have HK := Lib.hid hkl; clear hkl
      go_wp2_with fail
      go_loop [10] (fun i => ∃ k : Nat, k ≤ ps.length ∧ i = .int .i64 k ∧ Hid ((ps.take k).any (fun p => decide (p < 0) || decide (2 < p)) = false)) (fun i => ps.length - (intOf i).toNat)
      case atStart => exact ⟨0, by omega, rfl, Lib.hid (by simp)⟩
      case round =>
        obtain ⟨k2, hk2, rfl, HA2⟩ := hrel
        by_cases hlt2 : k2 < ps.length
        · have hck := HC2.out k2 hlt2
          have ht := anyI_take hlt2 (fun p => decide (p < 0) || decide (2 < p))
          have hat := anyI_at hlt2 (fun p => decide (p < 0) || decide (2 < p))
          generalize ps.getD k2 0 = p at *
          by_cases h1 : p < 0
          · have HW : Hid (askedN m ss c ps = 1) := Lib.hid (by unfold askedN; rw [HN.out, if_neg (by simp), if_pos (hat (by simp [h1]))])
            clear hat ht
            go_wp2_with fail
            go_ret
            exact ⟨by rw [HW.out]; rfl, rfl⟩
          · by_cases h2 : 2 < p
            · have HW : Hid (askedN m ss c ps = 1) := Lib.hid (by unfold askedN; rw [HN.out, if_neg (by simp), if_pos (hat (by simp [h2]))])
              clear hat ht
              go_wp2_with fail
              go_ret
              exact ⟨by rw [HW.out]; rfl, rfl⟩
            · have HN2 : Hid ((ps.take (k2 + 1)).any (fun p => decide (p < 0) || decide (2 < p)) = false) := Lib.hid (by rw [ht, HA2.out]; simp [h1, h2])
              clear hat ht
              go_wp2_with fail
              exact ⟨⟨k2 + 1, by omega, rfl, HN2⟩, by simp [intOf]; omega⟩
        · have hkl : k2 = ps.length := by omega
          have hn : ps.any (fun p => decide (p < 0) || decide (2 < p)) = false := by have := HA2.out; rwa [hkl, List.take_length] at this
          have HN2 := Lib.hid hn; clear hn
          have HK2 := Lib.hid hkl; clear hkl
          by_cases h0 : c = 0
          · have HW : Hid (askedN m ss c ps = 0) := Lib.hid (by unfold askedN; rw [HN.out, HN2.out]; simp [h0])
            have d0 : (c != 0) = false := by simp [h0]
            clear h0
            go_wp2_with fail
            go_ret
            exact ⟨by rw [HW.out]; rfl, rfl⟩
          · by_cases h1 : c = 1
            · have HW : Hid (askedN m ss c ps = 0) := Lib.hid (by unfold askedN; rw [HN.out, HN2.out]; simp [h1])
              have d0 : (c != 0) = true := by simp [h0]
              have d1 : (c != 1) = false := by simp [h1]
              clear h0 h1
              go_wp2_with fail
              go_ret
              exact ⟨by rw [HW.out]; rfl, rfl⟩
            · have HW : Hid (askedN m ss c ps = 1) := Lib.hid (by unfold askedN; rw [HN.out, HN2.out]; simp [h0, h1])
              have d0 : (c != 0) = true := by simp [h0]
              have d1 : (c != 1) = true := by simp [h1]
              clear h0 h1
              go_wp2_with fail
              go_ret
              exact ⟨by rw [HW.out]; rfl, rfl⟩

theorem asked_one (c p : Int) (s : ByteArray) (n n2 : Nat) (w : World) (hs : s.size ≤ maxLen) (h1 : w.cell? ⟨n, 0, none⟩ = some (.string s)) (h2 : w.cell? ⟨n2, 0, none⟩ = some (.int .i64 p)) :
    Calls Tryd.prog 60 #[.int .i64 2048, .slice (some ⟨n, 0, none⟩) 1 1, .int .i64 c, .slice (some ⟨n2, 0, none⟩) 1 1] w fun e w' => e = .returned (.int .i64 (wrongN p c [s])) ∧ w = w' := by
  rw [← asked_wrong]
  exact asked_any 2048 c [s] [p] ⟨n, 0, none⟩ ⟨n2, 0, none⟩ 1 1 w (by simp) (by simp) (by simpa using hs) (fun j hj => by
    have h0 : j = 0 := by simpa using hj
    subst h0
    simpa [Addr.add] using h1) (fun j hj => by
    have h0 : j = 0 := by simpa using hj
    subst h0
    simpa [Addr.add] using h2)
end Go.Proofs.YtiddnacmopfamaaDoor

/- Proper of the program. -/
namespace Go.Proofs.YtiddnacmopfamaaDoor
open Go.RowKit
set_option linter.unusedVariables false
set_option linter.unusedSimpArgs false

/-- All old blocks below B but g are as they were. -/
structure But (B g : Nat) (w w' : World) : Prop where
  os : w'.os = w.os
  tape : w'.tape = w.tape
  output : w'.output = w.output
  size : w.heap.size ≤ w'.heap.size
  block : ∀ k, k < B → k ≠ g → w'.heap[k]? = w.heap[k]?
theorem But.refl (B g : Nat) (w : World) : But B g w w := ⟨rfl, rfl, rfl, Nat.le_refl _, fun _ _ _ => rfl⟩
theorem But.trans {B g : Nat} {a b c : World} (h : But B g a b) (k : But B g b c) : But B g a c :=
  ⟨k.os.trans h.os, k.tape.trans h.tape, k.output.trans h.output, Nat.le_trans h.size k.size, fun i hi hg => (k.block i hi hg).trans (h.block i hi hg)⟩
theorem But.mono {B B' g : Nat} {w w' : World} (h : But B g w w') (hB : B' ≤ B) : But B' g w w' := ⟨h.os, h.tape, h.output, h.size, fun k hk hg => h.block k (by omega) hg⟩
theorem But.of {B g : Nat} {w w' : World} (h : Below B w w') : But B g w w' := ⟨h.os, h.tape, h.output, h.size, fun k hk _ => h.block k hk⟩
theorem But.setG {B g j : Nat} {a w : World} (h : But B g a w) (u : Value) : But B g a (w.setCell ⟨g, j, none⟩ u) :=
  ⟨h.os, h.tape, h.output, by have := h.size; simpa using this, fun k hk hg => (heap_setCell_other w ⟨g, j, none⟩ k u hg).trans (h.block k hk hg)⟩
theorem But.setN {B g n j : Nat} {a w : World} (h : But B g a w) (hn : B ≤ n) (u : Value) : But B g a (w.setCell ⟨n, j, none⟩ u) :=
  ⟨h.os, h.tape, h.output, by have := h.size; simpa using this, fun k hk hg => (heap_setCell_other w ⟨n, j, none⟩ k u (by simp only; omega)).trans (h.block k hk hg)⟩
theorem But.cell {B g : Nat} {w w' : World} (h : But B g w w') {n j : Nat} (hn : n < B) (hg : n ≠ g) : w'.cell? ⟨n, j, none⟩ = w.cell? ⟨n, j, none⟩ := World.cell?_of_block (w := w) (h.block n hn hg)
theorem But.frozen {B g : Nat} {w w' : World} (h : But B g w w') {n j : Nat} (hn : n < B) (hg : n ≠ g) : w'.frozen? ⟨n, j, none⟩ = w.frozen? ⟨n, j, none⟩ := World.frozen?_of_block (w := w) (h.block n hn hg)
theorem But.below {B g : Nat} {w w' : World} (h : But B g w w') {B' : Nat} (h1 : B' ≤ B) (h2 : B' ≤ g) : Below B' w w' := ⟨h.os, h.tape, h.output, h.size, fun k hk => h.block k (by omega) (by omega)⟩
theorem Tabs.but {w w' : World} {B g : Nat} (h : Tabs w) (hb : But B g w w') (hB : w.heap.size ≤ B) (hg : 5 ≤ g) : Tabs w' := by
  have hp := h.pos
  exact ⟨fun i hi => (hb.cell (by omega) (by omega)).trans (h.cs i hi), fun i hi => (hb.cell (by omega) (by omega)).trans (h.ac i hi), Nat.le_trans hp hb.size⟩
theorem BRow.but {w w' : World} {g B gi : Nat} {bs : List UInt8} (h : BRow w g bs) (hb : But B gi w w') (hg : g < B) (hne : g ≠ gi) : BRow w' g bs :=
  ⟨by have := h.1; have := hb.size; omega, fun j hj => ⟨(hb.cell hg hne).trans (h.2 j hj).1, (hb.frozen hg hne).trans (h.2 j hj).2⟩⟩

def propN (p : Nat) (iw : Bool) (b : Nat) : Nat := if iw then lowN p b else upN p b
theorem prop_lt {p b : Nat} {iw : Bool} (hb : b < 256) (hp : p < 3) : propN p iw b < 256 := by
  unfold propN; split
  · exact low_lt hb hp
  · exact up_lt hb hp

/-- Whether the byte before is a letter. -/
def befB (p : Nat) (l : List UInt8) (k : Nat) : Bool := decide (0 < k) && letN p (l.getD (k - 1) 0).toNat
def pAt (p : Nat) (l : List UInt8) (k : Nat) : UInt8 := UInt8.ofNat (propN p (befB p l k) (l.getD k 0).toNat)
def propS (p : Nat) (s : ByteArray) : ByteArray := ⟨((List.range s.data.toList.length).map (pAt p s.data.toList)).toArray⟩
theorem partG_len (G : Nat → UInt8) (l : List UInt8) (k : Nat) (hk : k ≤ l.length) : ((List.range k).map G ++ l.drop k).length = l.length := by simp; omega
theorem partG_set (G : Nat → UInt8) (l : List UInt8) {k : Nat} (hk : k < l.length) : ((List.range k).map G ++ l.drop k).set k (G k) = (List.range (k + 1)).map G ++ l.drop (k + 1) := by
  have h1 : ((List.range k).map G).length = k := by simp
  rw [List.set_append_right _ _ (by omega), h1, Nat.sub_self, List.drop_eq_getElem_cons hk, List.set_cons_zero, List.range_succ, List.map_append, List.append_assoc]
  rfl
theorem partG_at (G : Nat → UInt8) (l : List UInt8) {k : Nat} (hk : k < l.length) : ((List.range k).map G ++ l.drop k).getD k 0 = l.getD k 0 := by
  have h1 : ((List.range k).map G).length = k := by simp
  rw [List.getD_eq_getElem?_getD, List.getElem?_append_right (by omega), h1, Nat.sub_self]
  simp [List.getD, hk]
end Go.Proofs.YtiddnacmopfamaaDoor

/- Proper of the program: the whole text. -/
namespace Go.Proofs.YtiddnacmopfamaaDoor
open Go.RowKit
set_option linter.unusedVariables false
set_option linter.unusedSimpArgs false

def propT (s : ByteArray) (p : Int) : ByteArray := if wrongN p 0 [s] = 0 then propS p.toNat s else ⟨#[]⟩

end Go.Proofs.YtiddnacmopfamaaDoor

/- Upper and Lower of the reference. -/
namespace Go.Proofs.YtiddnacmopfamaaDoor
open Go.RowKit
set_option linter.unusedVariables false
set_option linter.unusedSimpArgs false

theorem pair_cells (w : World) (s : ByteArray) (p : Int) :
    ((w.alloc (.cells #[.string s] 9)).alloc (.cells #[.int .i64 p] 3)).cell? ⟨w.heap.size, 0, none⟩ = some (.string s) ∧ ((w.alloc (.cells #[.string s] 9)).alloc (.cells #[.int .i64 p] 3)).cell? ⟨w.heap.size + 1, 0, none⟩ = some (.int .i64 p) :=
  ⟨cell_new1 _ _ _ _, by
    have h := cell_new2 (w.alloc (.cells #[.string s] 9)) (.int .i64 p) 3
    rwa [show (w.alloc (.cells #[.string s] 9)).heap.size = w.heap.size + 1 by simp] at h⟩
theorem two_below (w : World) (a b : Obj) : Below w.heap.size w ((w.alloc a).alloc b) := ((Below.refl _ _).alloc (Nat.le_refl _) _).alloc (by simp) _

end Go.Proofs.YtiddnacmopfamaaDoor

/- Proper of the reference. -/
namespace Go.Proofs.YtiddnacmopfamaaDoor
open Go.RowKit
set_option linter.unusedVariables false
set_option linter.unusedSimpArgs false

end Go.Proofs.YtiddnacmopfamaaDoor

/- Count of both. -/
namespace Go.Proofs.YtiddnacmopfamaaDoor
open Go.RowKit
set_option linter.unusedVariables false
set_option linter.unusedSimpArgs false

theorem results_tmp4 {fn : Func} {t u v x : Tmp} (h : fn.results = #[.tmp t, .tmp u, .tmp v, .tmp x]) (tmps : Array Value) (P : Program) (w : World) :
    (results fn tmps).run P w = .ok (.tuple #[tmps.getD t undef, tmps.getD u undef, tmps.getD v undef, tmps.getD x undef]) w := by
  simp [results, h]
def cntStep (p : Nat) (st : Nat × Nat) (b : Nat) : Nat × Nat := if letN p b then (st.1 + 1, st.2) else if 48 ≤ b ∧ b ≤ 57 then (st.1, st.2 + 1) else st
def cntGo (p : Nat) (bs : List Nat) : Nat × Nat := bs.foldl (cntStep p) (0, 0)
theorem cnt_le (p : Nat) : ∀ (bs : List Nat) (st : Nat × Nat), (bs.foldl (cntStep p) st).1 + (bs.foldl (cntStep p) st).2 ≤ st.1 + st.2 + bs.length
  | [], st => by simp
  | b :: bs, st => by
    have h := cnt_le p bs (cntStep p st b)
    have h2 : (cntStep p st b).1 + (cntStep p st b).2 ≤ st.1 + st.2 + 1 := by
      unfold cntStep; split
      · simp only; omega
      · split
        · simp only; omega
        · omega
    rw [List.foldl_cons, List.length_cons]
    omega
theorem cnt_take (p : Nat) (s : ByteArray) {k : Nat} (hk : k < s.size) : cntGo p ((sb s).take (k + 1)) = cntStep p (cntGo p ((sb s).take k)) (s[k].toNat) := by
  have hl : k < (sb s).length := by rw [sb_len]; exact hk
  rw [List.take_succ_eq_append_getElem hl]
  unfold cntGo
  rw [List.foldl_append]
  simp [sb]; rfl
def cntA (s : ByteArray) (p : Int) : Int := if wrongN p 0 [s] = 0 then (cntGo p.toNat (sb s)).1 else 0
def cntD (s : ByteArray) (p : Int) : Int := if wrongN p 0 [s] = 0 then (cntGo p.toNat (sb s)).2 else 0
def cntO (s : ByteArray) (p : Int) : Int := if wrongN p 0 [s] = 0 then (s.size : Int) - (cntGo p.toNat (sb s)).1 - (cntGo p.toNat (sb s)).2 else 0
def NRes (w : World) (a d o n : Int) (e : Ending) (w' : World) : Prop := e = .returned (.tuple #[.int .i64 a, .int .i64 d, .int .i64 o, .int .i64 n]) ∧ Below w.heap.size w w'

end Go.Proofs.YtiddnacmopfamaaDoor

/- weight of the reference. -/
namespace Go.Proofs.YtiddnacmopfamaaDoor
open Go.RowKit
set_option linter.unusedVariables false
set_option linter.unusedSimpArgs false

def WeiR (b u : Nat) (w : World) : Prop := Calls Tryd.prog 61 #[.int .u8 b, .int .i64 1, .int .i64 1] w fun e w' => e = .returned (.int .u8 (accN u)) ∧ w = w'

set_option maxHeartbeats 1000000 in
set_option maxRecDepth 40000 in
theorem weiR_0 (b u : Nat) (w : World) (C1 : Hid (∀ W : World, Calls Tryd.prog 80 #[.int .u8 b, .int .i64 1] W fun e w' => e = .returned (.bool true) ∧ W = w')) (C2 : Hid (∀ W : World, Calls Tryd.prog 81 #[.int .u8 b, .int .i64 1] W fun e w' => e = .returned (.int .u8 u) ∧ W = w'))
    (h1 : 0 ≤ u) (h2 : u ≤ 191) : WeiR b u w := by
  have hv : accN u = u := (by decide +kernel : ∀ u : Fin 256, 0 ≤ u.val → u.val ≤ 191 → accN u.val = u.val) ⟨u, by omega⟩ h1 h2
  unfold WeiR
  rw [hv]
  clear hv
  have g0 : ¬ (192 : Int) ≤ u := by omega
  have g1 : (u : Int) ≤ 197 := by omega
  have g2 : ¬ (200 : Int) ≤ u := by omega
  have g3 : (u : Int) ≤ 203 := by omega
  have g4 : ¬ (204 : Int) ≤ u := by omega
  have g5 : (u : Int) ≤ 207 := by omega
  have g6 : ¬ (210 : Int) ≤ u := by omega
  have g7 : (u : Int) ≤ 214 := by omega
  have g8 : ¬ (217 : Int) ≤ u := by omega
  have g9 : (u : Int) ≤ 220 := by omega
  have g10 : ((u : Int) == 199) = false := by simp; omega
  have g11 : ((u : Int) == 209) = false := by simp; omega
  have g12 : ((u : Int) == 221) = false := by simp; omega
  clear h1 h2
  go_enter Tryd.func61, Tryd.ntmps61
  go_wp2_with fail
  refine (C1.out _).mono ?_
  rintro e w1 ⟨rfl, rfl⟩
  go_wp2_with fail
  refine (C2.out _).mono ?_
  rintro e w1 ⟨rfl, rfl⟩
  go_wp2_with fail
  go_ret
  exact ⟨rfl, rfl⟩

set_option maxHeartbeats 1000000 in
set_option maxRecDepth 40000 in
theorem weiR_1 (b u : Nat) (w : World) (C1 : Hid (∀ W : World, Calls Tryd.prog 80 #[.int .u8 b, .int .i64 1] W fun e w' => e = .returned (.bool true) ∧ W = w')) (C2 : Hid (∀ W : World, Calls Tryd.prog 81 #[.int .u8 b, .int .i64 1] W fun e w' => e = .returned (.int .u8 u) ∧ W = w'))
    (h1 : 192 ≤ u) (h2 : u ≤ 197) : WeiR b u w := by
  have hv : accN u = 65 := (by decide +kernel : ∀ u : Fin 256, 192 ≤ u.val → u.val ≤ 197 → accN u.val = 65) ⟨u, by omega⟩ h1 h2
  unfold WeiR
  rw [hv]
  clear hv
  have g0 : (192 : Int) ≤ u := by omega
  have g1 : (u : Int) ≤ 197 := by omega
  have g2 : ¬ (200 : Int) ≤ u := by omega
  have g3 : (u : Int) ≤ 203 := by omega
  have g4 : ¬ (204 : Int) ≤ u := by omega
  have g5 : (u : Int) ≤ 207 := by omega
  have g6 : ¬ (210 : Int) ≤ u := by omega
  have g7 : (u : Int) ≤ 214 := by omega
  have g8 : ¬ (217 : Int) ≤ u := by omega
  have g9 : (u : Int) ≤ 220 := by omega
  have g10 : ((u : Int) == 199) = false := by simp; omega
  have g11 : ((u : Int) == 209) = false := by simp; omega
  have g12 : ((u : Int) == 221) = false := by simp; omega
  clear h1 h2
  go_enter Tryd.func61, Tryd.ntmps61
  go_wp2_with fail
  refine (C1.out _).mono ?_
  rintro e w1 ⟨rfl, rfl⟩
  go_wp2_with fail
  refine (C2.out _).mono ?_
  rintro e w1 ⟨rfl, rfl⟩
  go_wp2_with fail
  go_ret
  exact ⟨rfl, rfl⟩

set_option maxHeartbeats 1000000 in
set_option maxRecDepth 40000 in
theorem weiR_2 (b u : Nat) (w : World) (C1 : Hid (∀ W : World, Calls Tryd.prog 80 #[.int .u8 b, .int .i64 1] W fun e w' => e = .returned (.bool true) ∧ W = w')) (C2 : Hid (∀ W : World, Calls Tryd.prog 81 #[.int .u8 b, .int .i64 1] W fun e w' => e = .returned (.int .u8 u) ∧ W = w'))
    (h1 : 198 ≤ u) (h2 : u ≤ 198) : WeiR b u w := by
  have hv : accN u = u := (by decide +kernel : ∀ u : Fin 256, 198 ≤ u.val → u.val ≤ 198 → accN u.val = u.val) ⟨u, by omega⟩ h1 h2
  unfold WeiR
  rw [hv]
  clear hv
  have g0 : (192 : Int) ≤ u := by omega
  have g1 : ¬ (u : Int) ≤ 197 := by omega
  have g2 : ¬ (200 : Int) ≤ u := by omega
  have g3 : (u : Int) ≤ 203 := by omega
  have g4 : ¬ (204 : Int) ≤ u := by omega
  have g5 : (u : Int) ≤ 207 := by omega
  have g6 : ¬ (210 : Int) ≤ u := by omega
  have g7 : (u : Int) ≤ 214 := by omega
  have g8 : ¬ (217 : Int) ≤ u := by omega
  have g9 : (u : Int) ≤ 220 := by omega
  have g10 : ((u : Int) == 199) = false := by simp; omega
  have g11 : ((u : Int) == 209) = false := by simp; omega
  have g12 : ((u : Int) == 221) = false := by simp; omega
  clear h1 h2
  go_enter Tryd.func61, Tryd.ntmps61
  go_wp2_with fail
  refine (C1.out _).mono ?_
  rintro e w1 ⟨rfl, rfl⟩
  go_wp2_with fail
  refine (C2.out _).mono ?_
  rintro e w1 ⟨rfl, rfl⟩
  go_wp2_with fail
  go_ret
  exact ⟨rfl, rfl⟩

set_option maxHeartbeats 1000000 in
set_option maxRecDepth 40000 in
theorem weiR_3 (b u : Nat) (w : World) (C1 : Hid (∀ W : World, Calls Tryd.prog 80 #[.int .u8 b, .int .i64 1] W fun e w' => e = .returned (.bool true) ∧ W = w')) (C2 : Hid (∀ W : World, Calls Tryd.prog 81 #[.int .u8 b, .int .i64 1] W fun e w' => e = .returned (.int .u8 u) ∧ W = w'))
    (h1 : 199 ≤ u) (h2 : u ≤ 199) : WeiR b u w := by
  have hv : accN u = 67 := (by decide +kernel : ∀ u : Fin 256, 199 ≤ u.val → u.val ≤ 199 → accN u.val = 67) ⟨u, by omega⟩ h1 h2
  unfold WeiR
  rw [hv]
  clear hv
  have g0 : (192 : Int) ≤ u := by omega
  have g1 : ¬ (u : Int) ≤ 197 := by omega
  have g2 : ¬ (200 : Int) ≤ u := by omega
  have g3 : (u : Int) ≤ 203 := by omega
  have g4 : ¬ (204 : Int) ≤ u := by omega
  have g5 : (u : Int) ≤ 207 := by omega
  have g6 : ¬ (210 : Int) ≤ u := by omega
  have g7 : (u : Int) ≤ 214 := by omega
  have g8 : ¬ (217 : Int) ≤ u := by omega
  have g9 : (u : Int) ≤ 220 := by omega
  have g10 : ((u : Int) == 199) = true := by simp; omega
  have g11 : ((u : Int) == 209) = false := by simp; omega
  have g12 : ((u : Int) == 221) = false := by simp; omega
  clear h1 h2
  go_enter Tryd.func61, Tryd.ntmps61
  go_wp2_with fail
  refine (C1.out _).mono ?_
  rintro e w1 ⟨rfl, rfl⟩
  go_wp2_with fail
  refine (C2.out _).mono ?_
  rintro e w1 ⟨rfl, rfl⟩
  go_wp2_with fail
  go_ret
  exact ⟨rfl, rfl⟩

set_option maxHeartbeats 1000000 in
set_option maxRecDepth 40000 in
theorem weiR_4 (b u : Nat) (w : World) (C1 : Hid (∀ W : World, Calls Tryd.prog 80 #[.int .u8 b, .int .i64 1] W fun e w' => e = .returned (.bool true) ∧ W = w')) (C2 : Hid (∀ W : World, Calls Tryd.prog 81 #[.int .u8 b, .int .i64 1] W fun e w' => e = .returned (.int .u8 u) ∧ W = w'))
    (h1 : 200 ≤ u) (h2 : u ≤ 203) : WeiR b u w := by
  have hv : accN u = 69 := (by decide +kernel : ∀ u : Fin 256, 200 ≤ u.val → u.val ≤ 203 → accN u.val = 69) ⟨u, by omega⟩ h1 h2
  unfold WeiR
  rw [hv]
  clear hv
  have g0 : (192 : Int) ≤ u := by omega
  have g1 : ¬ (u : Int) ≤ 197 := by omega
  have g2 : (200 : Int) ≤ u := by omega
  have g3 : (u : Int) ≤ 203 := by omega
  have g4 : ¬ (204 : Int) ≤ u := by omega
  have g5 : (u : Int) ≤ 207 := by omega
  have g6 : ¬ (210 : Int) ≤ u := by omega
  have g7 : (u : Int) ≤ 214 := by omega
  have g8 : ¬ (217 : Int) ≤ u := by omega
  have g9 : (u : Int) ≤ 220 := by omega
  have g10 : ((u : Int) == 199) = false := by simp; omega
  have g11 : ((u : Int) == 209) = false := by simp; omega
  have g12 : ((u : Int) == 221) = false := by simp; omega
  clear h1 h2
  go_enter Tryd.func61, Tryd.ntmps61
  go_wp2_with fail
  refine (C1.out _).mono ?_
  rintro e w1 ⟨rfl, rfl⟩
  go_wp2_with fail
  refine (C2.out _).mono ?_
  rintro e w1 ⟨rfl, rfl⟩
  go_wp2_with fail
  go_ret
  exact ⟨rfl, rfl⟩

set_option maxHeartbeats 1000000 in
set_option maxRecDepth 40000 in
theorem weiR_5 (b u : Nat) (w : World) (C1 : Hid (∀ W : World, Calls Tryd.prog 80 #[.int .u8 b, .int .i64 1] W fun e w' => e = .returned (.bool true) ∧ W = w')) (C2 : Hid (∀ W : World, Calls Tryd.prog 81 #[.int .u8 b, .int .i64 1] W fun e w' => e = .returned (.int .u8 u) ∧ W = w'))
    (h1 : 204 ≤ u) (h2 : u ≤ 207) : WeiR b u w := by
  have hv : accN u = 73 := (by decide +kernel : ∀ u : Fin 256, 204 ≤ u.val → u.val ≤ 207 → accN u.val = 73) ⟨u, by omega⟩ h1 h2
  unfold WeiR
  rw [hv]
  clear hv
  have g0 : (192 : Int) ≤ u := by omega
  have g1 : ¬ (u : Int) ≤ 197 := by omega
  have g2 : (200 : Int) ≤ u := by omega
  have g3 : ¬ (u : Int) ≤ 203 := by omega
  have g4 : (204 : Int) ≤ u := by omega
  have g5 : (u : Int) ≤ 207 := by omega
  have g6 : ¬ (210 : Int) ≤ u := by omega
  have g7 : (u : Int) ≤ 214 := by omega
  have g8 : ¬ (217 : Int) ≤ u := by omega
  have g9 : (u : Int) ≤ 220 := by omega
  have g10 : ((u : Int) == 199) = false := by simp; omega
  have g11 : ((u : Int) == 209) = false := by simp; omega
  have g12 : ((u : Int) == 221) = false := by simp; omega
  clear h1 h2
  go_enter Tryd.func61, Tryd.ntmps61
  go_wp2_with fail
  refine (C1.out _).mono ?_
  rintro e w1 ⟨rfl, rfl⟩
  go_wp2_with fail
  refine (C2.out _).mono ?_
  rintro e w1 ⟨rfl, rfl⟩
  go_wp2_with fail
  go_ret
  exact ⟨rfl, rfl⟩

set_option maxHeartbeats 1000000 in
set_option maxRecDepth 40000 in
theorem weiR_6 (b u : Nat) (w : World) (C1 : Hid (∀ W : World, Calls Tryd.prog 80 #[.int .u8 b, .int .i64 1] W fun e w' => e = .returned (.bool true) ∧ W = w')) (C2 : Hid (∀ W : World, Calls Tryd.prog 81 #[.int .u8 b, .int .i64 1] W fun e w' => e = .returned (.int .u8 u) ∧ W = w'))
    (h1 : 208 ≤ u) (h2 : u ≤ 208) : WeiR b u w := by
  have hv : accN u = u := (by decide +kernel : ∀ u : Fin 256, 208 ≤ u.val → u.val ≤ 208 → accN u.val = u.val) ⟨u, by omega⟩ h1 h2
  unfold WeiR
  rw [hv]
  clear hv
  have g0 : (192 : Int) ≤ u := by omega
  have g1 : ¬ (u : Int) ≤ 197 := by omega
  have g2 : (200 : Int) ≤ u := by omega
  have g3 : ¬ (u : Int) ≤ 203 := by omega
  have g4 : (204 : Int) ≤ u := by omega
  have g5 : ¬ (u : Int) ≤ 207 := by omega
  have g6 : ¬ (210 : Int) ≤ u := by omega
  have g7 : (u : Int) ≤ 214 := by omega
  have g8 : ¬ (217 : Int) ≤ u := by omega
  have g9 : (u : Int) ≤ 220 := by omega
  have g10 : ((u : Int) == 199) = false := by simp; omega
  have g11 : ((u : Int) == 209) = false := by simp; omega
  have g12 : ((u : Int) == 221) = false := by simp; omega
  clear h1 h2
  go_enter Tryd.func61, Tryd.ntmps61
  go_wp2_with fail
  refine (C1.out _).mono ?_
  rintro e w1 ⟨rfl, rfl⟩
  go_wp2_with fail
  refine (C2.out _).mono ?_
  rintro e w1 ⟨rfl, rfl⟩
  go_wp2_with fail
  go_ret
  exact ⟨rfl, rfl⟩

set_option maxHeartbeats 1000000 in
set_option maxRecDepth 40000 in
theorem weiR_7 (b u : Nat) (w : World) (C1 : Hid (∀ W : World, Calls Tryd.prog 80 #[.int .u8 b, .int .i64 1] W fun e w' => e = .returned (.bool true) ∧ W = w')) (C2 : Hid (∀ W : World, Calls Tryd.prog 81 #[.int .u8 b, .int .i64 1] W fun e w' => e = .returned (.int .u8 u) ∧ W = w'))
    (h1 : 209 ≤ u) (h2 : u ≤ 209) : WeiR b u w := by
  have hv : accN u = 78 := (by decide +kernel : ∀ u : Fin 256, 209 ≤ u.val → u.val ≤ 209 → accN u.val = 78) ⟨u, by omega⟩ h1 h2
  unfold WeiR
  rw [hv]
  clear hv
  have g0 : (192 : Int) ≤ u := by omega
  have g1 : ¬ (u : Int) ≤ 197 := by omega
  have g2 : (200 : Int) ≤ u := by omega
  have g3 : ¬ (u : Int) ≤ 203 := by omega
  have g4 : (204 : Int) ≤ u := by omega
  have g5 : ¬ (u : Int) ≤ 207 := by omega
  have g6 : ¬ (210 : Int) ≤ u := by omega
  have g7 : (u : Int) ≤ 214 := by omega
  have g8 : ¬ (217 : Int) ≤ u := by omega
  have g9 : (u : Int) ≤ 220 := by omega
  have g10 : ((u : Int) == 199) = false := by simp; omega
  have g11 : ((u : Int) == 209) = true := by simp; omega
  have g12 : ((u : Int) == 221) = false := by simp; omega
  clear h1 h2
  go_enter Tryd.func61, Tryd.ntmps61
  go_wp2_with fail
  refine (C1.out _).mono ?_
  rintro e w1 ⟨rfl, rfl⟩
  go_wp2_with fail
  refine (C2.out _).mono ?_
  rintro e w1 ⟨rfl, rfl⟩
  go_wp2_with fail
  go_ret
  exact ⟨rfl, rfl⟩

set_option maxHeartbeats 1000000 in
set_option maxRecDepth 40000 in
theorem weiR_8 (b u : Nat) (w : World) (C1 : Hid (∀ W : World, Calls Tryd.prog 80 #[.int .u8 b, .int .i64 1] W fun e w' => e = .returned (.bool true) ∧ W = w')) (C2 : Hid (∀ W : World, Calls Tryd.prog 81 #[.int .u8 b, .int .i64 1] W fun e w' => e = .returned (.int .u8 u) ∧ W = w'))
    (h1 : 210 ≤ u) (h2 : u ≤ 214) : WeiR b u w := by
  have hv : accN u = 79 := (by decide +kernel : ∀ u : Fin 256, 210 ≤ u.val → u.val ≤ 214 → accN u.val = 79) ⟨u, by omega⟩ h1 h2
  unfold WeiR
  rw [hv]
  clear hv
  have g0 : (192 : Int) ≤ u := by omega
  have g1 : ¬ (u : Int) ≤ 197 := by omega
  have g2 : (200 : Int) ≤ u := by omega
  have g3 : ¬ (u : Int) ≤ 203 := by omega
  have g4 : (204 : Int) ≤ u := by omega
  have g5 : ¬ (u : Int) ≤ 207 := by omega
  have g6 : (210 : Int) ≤ u := by omega
  have g7 : (u : Int) ≤ 214 := by omega
  have g8 : ¬ (217 : Int) ≤ u := by omega
  have g9 : (u : Int) ≤ 220 := by omega
  have g10 : ((u : Int) == 199) = false := by simp; omega
  have g11 : ((u : Int) == 209) = false := by simp; omega
  have g12 : ((u : Int) == 221) = false := by simp; omega
  clear h1 h2
  go_enter Tryd.func61, Tryd.ntmps61
  go_wp2_with fail
  refine (C1.out _).mono ?_
  rintro e w1 ⟨rfl, rfl⟩
  go_wp2_with fail
  refine (C2.out _).mono ?_
  rintro e w1 ⟨rfl, rfl⟩
  go_wp2_with fail
  go_ret
  exact ⟨rfl, rfl⟩

set_option maxHeartbeats 1000000 in
set_option maxRecDepth 40000 in
theorem weiR_9 (b u : Nat) (w : World) (C1 : Hid (∀ W : World, Calls Tryd.prog 80 #[.int .u8 b, .int .i64 1] W fun e w' => e = .returned (.bool true) ∧ W = w')) (C2 : Hid (∀ W : World, Calls Tryd.prog 81 #[.int .u8 b, .int .i64 1] W fun e w' => e = .returned (.int .u8 u) ∧ W = w'))
    (h1 : 215 ≤ u) (h2 : u ≤ 216) : WeiR b u w := by
  have hv : accN u = u := (by decide +kernel : ∀ u : Fin 256, 215 ≤ u.val → u.val ≤ 216 → accN u.val = u.val) ⟨u, by omega⟩ h1 h2
  unfold WeiR
  rw [hv]
  clear hv
  have g0 : (192 : Int) ≤ u := by omega
  have g1 : ¬ (u : Int) ≤ 197 := by omega
  have g2 : (200 : Int) ≤ u := by omega
  have g3 : ¬ (u : Int) ≤ 203 := by omega
  have g4 : (204 : Int) ≤ u := by omega
  have g5 : ¬ (u : Int) ≤ 207 := by omega
  have g6 : (210 : Int) ≤ u := by omega
  have g7 : ¬ (u : Int) ≤ 214 := by omega
  have g8 : ¬ (217 : Int) ≤ u := by omega
  have g9 : (u : Int) ≤ 220 := by omega
  have g10 : ((u : Int) == 199) = false := by simp; omega
  have g11 : ((u : Int) == 209) = false := by simp; omega
  have g12 : ((u : Int) == 221) = false := by simp; omega
  clear h1 h2
  go_enter Tryd.func61, Tryd.ntmps61
  go_wp2_with fail
  refine (C1.out _).mono ?_
  rintro e w1 ⟨rfl, rfl⟩
  go_wp2_with fail
  refine (C2.out _).mono ?_
  rintro e w1 ⟨rfl, rfl⟩
  go_wp2_with fail
  go_ret
  exact ⟨rfl, rfl⟩

set_option maxHeartbeats 1000000 in
set_option maxRecDepth 40000 in
theorem weiR_10 (b u : Nat) (w : World) (C1 : Hid (∀ W : World, Calls Tryd.prog 80 #[.int .u8 b, .int .i64 1] W fun e w' => e = .returned (.bool true) ∧ W = w')) (C2 : Hid (∀ W : World, Calls Tryd.prog 81 #[.int .u8 b, .int .i64 1] W fun e w' => e = .returned (.int .u8 u) ∧ W = w'))
    (h1 : 217 ≤ u) (h2 : u ≤ 220) : WeiR b u w := by
  have hv : accN u = 85 := (by decide +kernel : ∀ u : Fin 256, 217 ≤ u.val → u.val ≤ 220 → accN u.val = 85) ⟨u, by omega⟩ h1 h2
  unfold WeiR
  rw [hv]
  clear hv
  have g0 : (192 : Int) ≤ u := by omega
  have g1 : ¬ (u : Int) ≤ 197 := by omega
  have g2 : (200 : Int) ≤ u := by omega
  have g3 : ¬ (u : Int) ≤ 203 := by omega
  have g4 : (204 : Int) ≤ u := by omega
  have g5 : ¬ (u : Int) ≤ 207 := by omega
  have g6 : (210 : Int) ≤ u := by omega
  have g7 : ¬ (u : Int) ≤ 214 := by omega
  have g8 : (217 : Int) ≤ u := by omega
  have g9 : (u : Int) ≤ 220 := by omega
  have g10 : ((u : Int) == 199) = false := by simp; omega
  have g11 : ((u : Int) == 209) = false := by simp; omega
  have g12 : ((u : Int) == 221) = false := by simp; omega
  clear h1 h2
  go_enter Tryd.func61, Tryd.ntmps61
  go_wp2_with fail
  refine (C1.out _).mono ?_
  rintro e w1 ⟨rfl, rfl⟩
  go_wp2_with fail
  refine (C2.out _).mono ?_
  rintro e w1 ⟨rfl, rfl⟩
  go_wp2_with fail
  go_ret
  exact ⟨rfl, rfl⟩

set_option maxHeartbeats 1000000 in
set_option maxRecDepth 40000 in
theorem weiR_11 (b u : Nat) (w : World) (C1 : Hid (∀ W : World, Calls Tryd.prog 80 #[.int .u8 b, .int .i64 1] W fun e w' => e = .returned (.bool true) ∧ W = w')) (C2 : Hid (∀ W : World, Calls Tryd.prog 81 #[.int .u8 b, .int .i64 1] W fun e w' => e = .returned (.int .u8 u) ∧ W = w'))
    (h1 : 221 ≤ u) (h2 : u ≤ 221) : WeiR b u w := by
  have hv : accN u = 89 := (by decide +kernel : ∀ u : Fin 256, 221 ≤ u.val → u.val ≤ 221 → accN u.val = 89) ⟨u, by omega⟩ h1 h2
  unfold WeiR
  rw [hv]
  clear hv
  have g0 : (192 : Int) ≤ u := by omega
  have g1 : ¬ (u : Int) ≤ 197 := by omega
  have g2 : (200 : Int) ≤ u := by omega
  have g3 : ¬ (u : Int) ≤ 203 := by omega
  have g4 : (204 : Int) ≤ u := by omega
  have g5 : ¬ (u : Int) ≤ 207 := by omega
  have g6 : (210 : Int) ≤ u := by omega
  have g7 : ¬ (u : Int) ≤ 214 := by omega
  have g8 : (217 : Int) ≤ u := by omega
  have g9 : ¬ (u : Int) ≤ 220 := by omega
  have g10 : ((u : Int) == 199) = false := by simp; omega
  have g11 : ((u : Int) == 209) = false := by simp; omega
  have g12 : ((u : Int) == 221) = true := by simp; omega
  clear h1 h2
  go_enter Tryd.func61, Tryd.ntmps61
  go_wp2_with fail
  refine (C1.out _).mono ?_
  rintro e w1 ⟨rfl, rfl⟩
  go_wp2_with fail
  refine (C2.out _).mono ?_
  rintro e w1 ⟨rfl, rfl⟩
  go_wp2_with fail
  go_ret
  exact ⟨rfl, rfl⟩

set_option maxHeartbeats 1000000 in
set_option maxRecDepth 40000 in
theorem weiR_12 (b u : Nat) (w : World) (C1 : Hid (∀ W : World, Calls Tryd.prog 80 #[.int .u8 b, .int .i64 1] W fun e w' => e = .returned (.bool true) ∧ W = w')) (C2 : Hid (∀ W : World, Calls Tryd.prog 81 #[.int .u8 b, .int .i64 1] W fun e w' => e = .returned (.int .u8 u) ∧ W = w'))
    (h1 : 222 ≤ u) (h2 : u ≤ 255) : WeiR b u w := by
  have hv : accN u = u := (by decide +kernel : ∀ u : Fin 256, 222 ≤ u.val → u.val ≤ 255 → accN u.val = u.val) ⟨u, by omega⟩ h1 h2
  unfold WeiR
  rw [hv]
  clear hv
  have g0 : (192 : Int) ≤ u := by omega
  have g1 : ¬ (u : Int) ≤ 197 := by omega
  have g2 : (200 : Int) ≤ u := by omega
  have g3 : ¬ (u : Int) ≤ 203 := by omega
  have g4 : (204 : Int) ≤ u := by omega
  have g5 : ¬ (u : Int) ≤ 207 := by omega
  have g6 : (210 : Int) ≤ u := by omega
  have g7 : ¬ (u : Int) ≤ 214 := by omega
  have g8 : (217 : Int) ≤ u := by omega
  have g9 : ¬ (u : Int) ≤ 220 := by omega
  have g10 : ((u : Int) == 199) = false := by simp; omega
  have g11 : ((u : Int) == 209) = false := by simp; omega
  have g12 : ((u : Int) == 221) = false := by simp; omega
  clear h1 h2
  go_enter Tryd.func61, Tryd.ntmps61
  go_wp2_with fail
  refine (C1.out _).mono ?_
  rintro e w1 ⟨rfl, rfl⟩
  go_wp2_with fail
  refine (C2.out _).mono ?_
  rintro e w1 ⟨rfl, rfl⟩
  go_wp2_with fail
  go_ret
  exact ⟨rfl, rfl⟩

set_option maxHeartbeats 2000000 in
theorem refWeight_any (b p c : Nat) (hb : b < 256) (hp : p < 3) (hc : c < 2) (w : World) :
    Calls Tryd.prog 61 #[.int .u8 b, .int .i64 p, .int .i64 c] w fun e w' => e = .returned (.int .u8 (weiN p c b)) ∧ w = w' := by
  have hl := Lib.hid (fun W => refIsLetter_any b p hb hp W)
  have hu := Lib.hid (fun W => refUpper_any b p hb hp W)
  rcases (show c = 0 ∨ c = 1 by omega) with rfl | rfl
  · have HW : Hid (weiN p 0 b = b) := Lib.hid (by simp [weiN])
    change Calls Tryd.prog 61 #[.int .u8 b, .int .i64 p, .int .i64 0] w _
    go_enter Tryd.func61, Tryd.ntmps61
    go_wp2_with fail
    go_ret
    exact ⟨by rw [HW.out]; rfl, rfl⟩
  · change Calls Tryd.prog 61 #[.int .u8 b, .int .i64 p, .int .i64 1] w _
    cases hlt : letN p b
    · have HW : Hid (weiN p 1 b = b) := Lib.hid (by simp [weiN, hlt])
      rw [hlt] at hl
      clear hlt
      go_enter Tryd.func61, Tryd.ntmps61
      go_wp2_with fail
      refine (hl.out _).mono ?_
      rintro e w1 ⟨rfl, rfl⟩
      go_wp2_with fail
      go_ret
      exact ⟨by rw [HW.out]; rfl, rfl⟩
    · rw [hlt] at hl
      have hul := up_lt hb hp
      by_cases h1 : p = 1
      · subst h1
        have hw : weiN 1 1 b = accN (upN 1 b) := by simp [weiN, hlt]
        rw [hw]
        clear hw hlt
        generalize upN 1 b = u at *
        show WeiR b u w
        rcases (show (0 ≤ u ∧ u ≤ 191) ∨ (192 ≤ u ∧ u ≤ 197) ∨ (198 ≤ u ∧ u ≤ 198) ∨ (199 ≤ u ∧ u ≤ 199) ∨ (200 ≤ u ∧ u ≤ 203) ∨ (204 ≤ u ∧ u ≤ 207) ∨ (208 ≤ u ∧ u ≤ 208) ∨ (209 ≤ u ∧ u ≤ 209) ∨ (210 ≤ u ∧ u ≤ 214) ∨ (215 ≤ u ∧ u ≤ 216) ∨ (217 ≤ u ∧ u ≤ 220) ∨ (221 ≤ u ∧ u ≤ 221) ∨ (222 ≤ u ∧ u ≤ 255) by omega) with ⟨h1, h2⟩ | ⟨h1, h2⟩ | ⟨h1, h2⟩ | ⟨h1, h2⟩ | ⟨h1, h2⟩ | ⟨h1, h2⟩ | ⟨h1, h2⟩ | ⟨h1, h2⟩ | ⟨h1, h2⟩ | ⟨h1, h2⟩ | ⟨h1, h2⟩ | ⟨h1, h2⟩ | ⟨h1, h2⟩
        · exact weiR_0 b u w hl hu h1 h2
        · exact weiR_1 b u w hl hu h1 h2
        · exact weiR_2 b u w hl hu h1 h2
        · exact weiR_3 b u w hl hu h1 h2
        · exact weiR_4 b u w hl hu h1 h2
        · exact weiR_5 b u w hl hu h1 h2
        · exact weiR_6 b u w hl hu h1 h2
        · exact weiR_7 b u w hl hu h1 h2
        · exact weiR_8 b u w hl hu h1 h2
        · exact weiR_9 b u w hl hu h1 h2
        · exact weiR_10 b u w hl hu h1 h2
        · exact weiR_11 b u w hl hu h1 h2
        · exact weiR_12 b u w hl hu h1 h2
      · have HW : Hid (weiN p 1 b = upN p b) := Lib.hid (by simp [weiN, hlt, h1])
        have d1 : ((p : Int) != 1) = true := by simp; omega
        clear hlt h1
        generalize upN p b = u at *
        go_enter Tryd.func61, Tryd.ntmps61
        go_wp2_with fail
        refine (hl.out _).mono ?_
        rintro e w1 ⟨rfl, rfl⟩
        go_wp2_with fail
        refine (hu.out _).mono ?_
        rintro e w1 ⟨rfl, rfl⟩
        go_wp2_with fail
        go_ret
        exact ⟨by rw [HW.out]; rfl, rfl⟩
end Go.Proofs.YtiddnacmopfamaaDoor

/- Weights of the reference, strings.Compare, Order of the program. -/
namespace Go.Proofs.YtiddnacmopfamaaDoor
open Go.RowKit
set_option linter.unusedVariables false
set_option linter.unusedSimpArgs false

set_option maxHeartbeats 4000000 in
theorem refWeightsT_any (s : ByteArray) (p c : Int) (w : World) (hs : s.size ≤ maxLen) :
    Calls Tryd.prog 86 #[.string s, .int .i64 p, .int .i64 c] w (TRes w (weiT s p c) (wrongN p c [s])) := by
  have hcon := Lib.hid (fun W => asked_one c p s w.heap.size (w.heap.size + 1) W hs)
  have hpc := pair_cells w s p
  have hb0 := two_below w (.cells #[.string s] 9) (.cells #[.int .i64 p] 3)
  have hz0 : ((w.alloc (.cells #[.string s] 9)).alloc (.cells #[.int .i64 p] 3)).heap.size = w.heap.size + 1 + 1 := by simp
  cases hz : decide (wrongN p c [s] = 0)
  · have hz : ¬ wrongN p c [s] = 0 := by simpa using hz
    have e1 : weiT s p c = ⟨#[]⟩ := by simp [weiT, hz]
    rw [e1]
    generalize wrongN p c [s] = n at *
    have dn : (n != 0) = true := by simpa using hz
    clear hz e1
    have HPC := Lib.hid hpc; clear hpc
    have HB0 := Lib.hid hb0; clear hb0 hz0
    go_enter Tryd.func86, Tryd.ntmps86
    go_wp2_with fail
    refine (hcon.out _ HPC.out.1 HPC.out.2).mono ?_
    rintro e w1 ⟨rfl, rfl⟩
    go_wp2_with fail
    go_ret2
    exact ⟨rfl, HB0.out⟩
  · have hz : wrongN p c [s] = 0 := by simpa using hz
    obtain ⟨hp0, hp3, hc01, hss⟩ := wrong_zero hz
    have hs2 : s.size ≤ 2048 := hss s (by simp)
    obtain ⟨q, rfl⟩ : ∃ q : Nat, p = q := ⟨p.toNat, by omega⟩
    obtain ⟨d, rfl⟩ : ∃ d : Nat, c = d := ⟨c.toNat, by omega⟩
    have hq : q < 3 := by omega
    have hd : d < 2 := by omega
    have e1 : weiT s q d = mapS (weiN q d) s := by simp [weiT, hz]
    rw [e1, hz]
    rw [hz] at hcon
    clear hz e1 hp0 hp3 hss hc01
    have HPC := Lib.hid hpc; clear hpc
    have hcv := fun W : World => run_bytes_of_string (P := Tryd.prog) W 9 73 5 s Tryd.underlying9 Tryd.underlying73 Tryd.underlying5
    have hsz : s.data.toList.length = s.size := rfl
    have HCV := Lib.hid hcv; clear hcv
    have HB0 := Lib.hid hb0; clear hb0
    go_enter Tryd.func86, Tryd.ntmps86
    go_wp2_with fail
    refine (hcon.out _ HPC.out.1 HPC.out.2).mono ?_
    rintro e w1 ⟨rfl, rfl⟩
    generalize (w.alloc (.cells #[.string s] 9)).alloc (.cells #[.int .i64 q] 3) = wb at *
    have hcv1 := HCV.out wb
    generalize hcapE : grownCap wb s.size 0 5 = cap at hcv1
    have HBR := Lib.hid (BRow.new wb.drew s cap)
    have hbl : Below wb.heap.size wb (wb.drew.alloc (.cells (bytesRow s cap) 5 ((bytesRow s cap).size, (bytesRow s cap).size + 1))) := (((Below.refl _ _).drew).alloc (by simp) _)
    have HBL := Lib.hid (HB0.out.trans (hbl.mono (by rw [hz0]; omega))); clear hbl
    have HZ0 : Hid (w.heap.size ≤ wb.heap.size) := Lib.hid (by omega)
    clear hz0
    generalize wb.drew.alloc (.cells (bytesRow s cap) 5 ((bytesRow s cap).size, (bytesRow s cap).size + 1)) = w0 at hcv1 HBR HBL
    rw [show wb.drew.heap.size = wb.heap.size from rfl] at HBR
    go_wp2_with fail
    go_loopw [10] (fun i wr => ∃ k : Nat, k ≤ s.data.toList.length ∧ i = .int .i64 k ∧ BRow wr wb.heap.size ((s.data.toList.take k).map (mapB (weiN q d)) ++ s.data.toList.drop k) ∧ Below w.heap.size w wr) (fun i _ => s.size - (intOf i).toNat)
    case atStart => exact ⟨0, by omega, rfl, by simpa using HBR.out, HBL.out⟩
    case round =>
      obtain ⟨k, hk, rfl, hrow, hbel⟩ := hrel
      have HB := Lib.hid hbel; clear hbel
      have HR := Lib.hid hrow; clear hrow
      by_cases hlt : k < s.data.toList.length
      · have HPS := Lib.hid (part_set (weiN q d) _ hlt)
        have hks : k < s.size := by omega
        have hks' : (k : Int) < s.size := by omega
        have hsk : s[k].toNat = (s.data.toList.getD k 0).toNat := byte_at s k hks
        have hbb := byte_lt (s.data.toList.getD k 0)
        have hmb : mapB (weiN q d) (s.data.toList.getD k 0) = UInt8.ofNat (weiN q d (s.data.toList.getD k 0).toNat) := rfl
        have HMB := Lib.hid hmb; clear hmb
        have hfb := wei_lt hbb hq hd
        obtain ⟨hcz, hfz⟩ := (HR.out.2 k (by rw [part_len _ _ k hk]; exact hlt))
        rw [part_at _ _ hlt] at hcz
        generalize (s.data.toList.getD k 0) = z at *
        go_wp2_with fail
        refine (refWeight_any z.toNat q d hbb hq hd _).mono ?_
        rintro e w1 ⟨rfl, rfl⟩
        go_wp2_with fail
        go_roundw
        case rel => exact ⟨k + 1, by omega, by go_num, by rw [← HPS.out]; exact HR.out.set (by rw [part_len _ _ k hk]; exact hlt) (by rw [HMB.out]; simp; omega), HB.out.setCell HZ0.out _⟩
        case measure => simp [intOf]; omega
      · have hkl : k = s.data.toList.length := by omega
        have hks : k = s.size := by omega
        have hrow := HR.out
        rw [hkl, List.take_length, List.drop_length, List.append_nil] at hrow
        have htx := hrow.text cap
        rw [List.length_map, hsz] at htx
        have HTX := Lib.hid hrow; clear hrow
        clear hkl
        go_wp2_with fail
        go_ret2
        exact ⟨rfl, HB.out⟩

def wb (p c : Nat) (s : ByteArray) : List UInt8 := s.data.toList.map (mapB (weiN p c))
def ordI (s t : ByteArray) (p c : Int) : Int := if wrongN p c [s, t] = 0 then Lib.compareBytes (wb p.toNat c.toNat s) (wb p.toNat c.toNat t) else 0
def ORes (w : World) (k n : Int) (e : Ending) (w' : World) : Prop := e = .returned (.tuple #[.int .i64 k, .int .i64 n]) ∧ Below w.heap.size w w'
theorem text_cells2 (w : World) (s t : ByteArray) : ∀ j, j < [s, t].length → (w.alloc (.cells #[.string s, .string t] 9)).cell? ((⟨w.heap.size, 0, none⟩ : Addr).add j) = some (.string ([s, t].getD j ByteArray.empty)) := by
  intro j hj
  rcases (show j = 0 ∨ j = 1 by simp at hj; omega) with rfl | rfl
  · simp [Addr.add]
  · simp [Addr.add]

end Go.Proofs.YtiddnacmopfamaaDoor
