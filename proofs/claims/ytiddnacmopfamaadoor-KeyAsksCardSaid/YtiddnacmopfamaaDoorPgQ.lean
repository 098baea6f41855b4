/- IsLetter, upper and lower of the reference, and digit of its code of sounds. -/
import Derived.Test.YtiddnacmopfamaaDoorPgP
namespace Go.Proofs.YtiddnacmopfamaaDoor
open Go.RowKit
set_option linter.unusedVariables false
set_option linter.unusedSimpArgs false

theorem pair_tab : ∀ (p : Fin 3) (b : Fin 256), ((pairN p.val b.val).2.1 = true → (pairN p.val b.val).2.2 ≤ b.val) ∧ ((pairN p.val b.val).1 = true → b.val + (pairN p.val b.val).2.2 < 256) := by decide +kernel

set_option maxHeartbeats 1000000 in
theorem refIsLetter_any (b p : Nat) (hb : b < 256) (hp : p < 3) (w : World) :
    Calls Tryd.prog 80 #[.int .u8 b, .int .i64 p] w fun e w' => e = .returned (.bool (letN p b)) ∧ w = w' := by
  have C := Lib.hid (fun W => pair_any b p hb hp W)
  unfold PairIs at C
  unfold letN
  generalize pairN p b = t at *
  obtain ⟨x, y, d⟩ := t
  simp only at C
  go_enter Tryd.func80, Tryd.ntmps80
  go_wp2_with fail
  refine (C.out _).mono ?_
  rintro e w1 ⟨rfl, rfl⟩
  cases x
  · go_wp2_with fail
    go_ret
    exact ⟨rfl, rfl⟩
  · go_wp2_with fail
    go_ret
    exact ⟨rfl, rfl⟩

set_option maxHeartbeats 1000000 in
theorem refUpper_any (b p : Nat) (hb : b < 256) (hp : p < 3) (w : World) :
    Calls Tryd.prog 81 #[.int .u8 b, .int .i64 p] w fun e w' => e = .returned (.int .u8 (upN p b)) ∧ w = w' := by
  have C := Lib.hid (fun W => pair_any b p hb hp W)
  have h1 := (pair_tab ⟨p, hp⟩ ⟨b, hb⟩).1
  unfold PairIs at C
  unfold upN
  simp only at h1
  generalize pairN p b = t at *
  obtain ⟨x, y, d⟩ := t
  simp only at C h1
  cases y
  · rw [if_neg (by simp)]
    clear h1
    go_enter Tryd.func81, Tryd.ntmps81
    go_wp2_with fail
    refine (C.out _).mono ?_
    rintro e w1 ⟨rfl, rfl⟩
    go_wp2_with fail
    go_ret
    exact ⟨rfl, rfl⟩
  · have h1 := h1 rfl
    rw [if_pos rfl]
    have he : ((b : Int) - d) % 256 = ((b - d : Nat) : Int) := by omega
    have HE := Lib.hid he; clear he
    go_enter Tryd.func81, Tryd.ntmps81
    go_wp2_with fail
    refine (C.out _).mono ?_
    rintro e w1 ⟨rfl, rfl⟩
    go_wp2_with fail
    go_ret
    have he2 : ((b - d : Nat) : Int) = (b : Int) - d := by omega
    exact ⟨by rw [he2]; rfl, rfl⟩

/-- The letters of the digits of a code of sounds. -/
def strsL : List ByteArray := [⟨#[]⟩, ⟨#[66, 70, 80, 86]⟩, ⟨#[67, 71, 74, 75, 81, 83, 88, 90]⟩, ⟨#[68, 84]⟩, ⟨#[76]⟩, ⟨#[77, 78]⟩, ⟨#[82]⟩]
theorem byte_at (l : ByteArray) (j : Nat) (h : j < l.size) : (l[j]'h).toNat = ((l.data.toList).getD j 0).toNat := by
  have h' : j < l.data.size := h
  have e : l.data.toList.getD j 0 = l.data[j] := by
    rw [List.getD_eq_getElem?_getD, Array.getElem?_toList, Array.getElem?_eq_getElem h']; rfl
  rw [e]; rfl
def atS (d i : Nat) : Nat := (((strsL.getD d ⟨#[]⟩).data.toList).getD i 0).toNat
def lenS (d : Nat) : Nat := (strsL.getD d ⟨#[]⟩).size
theorem lenS_le : ∀ d : Fin 7, lenS d.val ≤ 8 := by decide +kernel
theorem hit_tab : ∀ (c : Fin 26) (d : Fin 7) (i : Fin 8), i.val < lenS d.val → atS d.val i.val = 65 + c.val → digI (65 + c.val) = d.val := by decide +kernel
theorem miss_tab : ∀ (c : Fin 26), (∀ (d : Fin 7) (i : Fin 8), i.val < lenS d.val → atS d.val i.val ≠ 65 + c.val) → digI (65 + c.val) = if 65 + c.val = 72 ∨ 65 + c.val = 87 then -1 else 0 := by decide +kernel

end Go.Proofs.YtiddnacmopfamaaDoor
