/- Letters of the three pages: plain mathematics. -/
import Derived.Test.YtiddnacmopfamaaDoorProg
namespace Go.Proofs.YtiddnacmopfamaaDoor
set_option linter.unusedVariables false

def pairN (p b : Nat) : Bool × Bool × Nat :=
  if 65 ≤ b ∧ b ≤ 90 then (true, false, 32) else if 97 ≤ b ∧ b ≤ 122 then (false, true, 32)
  else if p = 1 ∧ 192 ≤ b ∧ b ≤ 222 ∧ b ≠ 215 then (true, false, 32) else if p = 1 ∧ 224 ≤ b ∧ b ≤ 254 ∧ b ≠ 247 then (false, true, 32)
  else if p = 2 ∧ 128 ≤ b ∧ b ≤ 143 then (true, false, 32) else if p = 2 ∧ 144 ≤ b ∧ b ≤ 159 then (true, false, 80)
  else if p = 2 ∧ 160 ≤ b ∧ b ≤ 175 then (false, true, 32) else if p = 2 ∧ 224 ≤ b ∧ b ≤ 239 then (false, true, 80)
  else (false, false, 0)
def upN (p b : Nat) : Nat := if (pairN p b).2.1 then b - (pairN p b).2.2 else b
def lowN (p b : Nat) : Nat := if (pairN p b).1 then b + (pairN p b).2.2 else b
def letN (p b : Nat) : Bool := (pairN p b).1 || (pairN p b).2.1

/-- The program's rows of capitals: first, last, how much more the small letters are. -/
def caseRow (p k : Nat) : Nat × Nat × Nat :=
  if k = 0 then (65, 90, 32)
  else if k = 1 then (if p = 0 then (1, 0, 0) else if p = 1 then (192, 222, 32) else (128, 143, 32))
  else (if p = 2 then (144, 159, 80) else (1, 0, 0))
/-- Whether the row k of the page has the capital c of a byte. -/
def hitUp (p b k : Nat) : Bool := decide ((caseRow p k).1 ≤ (b + 256 - (caseRow p k).2.2) % 256) && decide ((b + 256 - (caseRow p k).2.2) % 256 ≤ (caseRow p k).2.1) && !(decide (p = 1) && decide ((b + 256 - (caseRow p k).2.2) % 256 = 215))
def hitLow (p b k : Nat) : Bool := decide ((caseRow p k).1 ≤ b) && decide (b ≤ (caseRow p k).2.1) && !(decide (p = 1) && decide (b = 215))
def upFrom (p b k : Nat) : Nat → Nat
  | 0 => b
  | n + 1 => if hitUp p b k then (b + 256 - (caseRow p k).2.2) % 256 else upFrom p b (k + 1) n
def lowFrom (p b k : Nat) : Nat → Nat
  | 0 => b
  | n + 1 => if hitLow p b k then (b + (caseRow p k).2.2) % 256 else lowFrom p b (k + 1) n
theorem up_tab : ∀ (p : Fin 3) (b : Fin 256), upFrom p.val b.val 0 3 = upN p.val b.val ∧ lowFrom p.val b.val 0 3 = lowN p.val b.val ∧ (upN p.val b.val != lowN p.val b.val) = letN p.val b.val ∧ upN p.val b.val < 256 ∧ lowN p.val b.val < 256 := by decide +kernel

/-- The rows of accents: first, last, the letter that they weigh as much as. -/
def accRow (k : Nat) : Nat × Nat × Nat :=
  if k = 0 then (192, 197, 65) else if k = 1 then (199, 199, 67) else if k = 2 then (200, 203, 69) else if k = 3 then (204, 207, 73) else if k = 4 then (209, 209, 78)
  else if k = 5 then (210, 214, 79) else if k = 6 then (217, 220, 85) else if k = 7 then (221, 221, 89) else (1, 0, 0)
def hitAcc (b k : Nat) : Bool := decide ((accRow k).1 ≤ b) && decide (b ≤ (accRow k).2.1)
def weiFrom (b k : Nat) : Nat → Nat
  | 0 => b
  | n + 1 => if hitAcc b k then (accRow k).2.2 else weiFrom b (k + 1) n
def accN (c : Nat) : Nat :=
  if 192 ≤ c ∧ c ≤ 197 then 65 else if c = 199 then 67 else if 200 ≤ c ∧ c ≤ 203 then 69 else if 204 ≤ c ∧ c ≤ 207 then 73 else if c = 209 then 78
  else if 210 ≤ c ∧ c ≤ 214 then 79 else if 217 ≤ c ∧ c ≤ 220 then 85 else if c = 221 then 89 else c
def weiN (p c b : Nat) : Nat := if c = 0 ∨ letN p b = false then b else if p ≠ 1 then upN p b else accN (upN p b)
theorem wei_tab : ∀ (p : Fin 3) (b : Fin 256), (if p.val ≠ 1 then upN p.val b.val else weiFrom (upN p.val b.val) 0 9) = weiN p.val 1 b.val ∧ weiN p.val 1 b.val < 256 := by decide +kernel

/-- The digit of a capital in a code of sounds: -1: it does not stand between. -/
def digL : List Int := [0, 1, 2, 3, 0, 1, 2, -1, 0, 2, 2, 4, 5, 5, 0, 1, 2, 6, 2, 3, 0, 1, -1, 2, 0, 2]
def digI (c : Nat) : Int := digL.getD (c - 65) 0
def sndStep (st : List Nat × Int) (b : Nat) : List Nat × Int :=
  if letN 0 b then
    if st.1 = [] then ([upN 0 b], max (digI (upN 0 b)) 0)
    else if digI (upN 0 b) < 0 then st
    else if 0 < digI (upN 0 b) ∧ digI (upN 0 b) ≠ st.2 ∧ st.1.length < 4 then (st.1 ++ [(48 + digI (upN 0 b)).toNat], digI (upN 0 b))
    else (st.1, digI (upN 0 b))
  else st
def sndGo (bs : List Nat) : List Nat × Int := bs.foldl sndStep ([], 0)
def padZ (l : List Nat) : List Nat := if l = [] then [] else l ++ List.replicate (4 - l.length) 48
def sndL (bs : List Nat) : List Nat := padZ (sndGo bs).1
theorem let0_tab : ∀ b : Fin 256, letN 0 b.val = true → 65 ≤ upN 0 b.val ∧ upN 0 b.val ≤ 90 := by decide +kernel
theorem dig_tab : ∀ c : Fin 26, -1 ≤ digI (65 + c.val) ∧ digI (65 + c.val) ≤ 6 := by decide +kernel
end Go.Proofs.YtiddnacmopfamaaDoor
