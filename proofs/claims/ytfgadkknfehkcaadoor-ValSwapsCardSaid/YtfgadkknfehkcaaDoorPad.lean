/- The walks of digits and of Padded of the reference: a number with zeros in front. -/
import Derived.Test.YtfgadkknfehkcaaDoorDec
import Derived.Test.YtfgadkknfehkcaaDoorCal
import Derived.Lib.SmallJoins
namespace Go.Proofs.YtfgadkknfehkcaaDoor
open Go.RowKit
set_option linter.unusedVariables false

/-- The table of powers lies in its variable. -/
abbrev Pow (w : World) : Prop := Lib.TabIs Tryd.prog w "internal/strconv.uint64pow10" .u64 Lib.pow10Tab
theorem gPow : Tryd.prog.globalNamed "internal/strconv.uint64pow10" = some 4 := by kernel_rfl
theorem Pow.below {w w' : World} (h : Pow w) (hb : Below w.heap.size w w') : Pow w' := Joins.tab_stays gPow h hb (Nat.le_refl _)

def zeros (n : Nat) : ByteArray := ⟨(List.replicate n 48).toArray⟩
def pad (n : Int) (k : Nat) : ByteArray := zeros (k - (dec n).size) ++ dec n

theorem repeat_zeros : ∀ n, Lib.repeatL [48] n = List.replicate n 48
  | 0 => rfl
  | n + 1 => by rw [Lib.repeatL, repeat_zeros n]; rfl
theorem zeros_size (n : Nat) : (zeros n).size = n := by show (List.replicate n (48 : UInt8)).toArray.size = n; simp
theorem zeros_succ (n : Nat) (s : ByteArray) : ⟨#[48]⟩ ++ (zeros n ++ s) = zeros (n + 1) ++ s := by
  apply ByteArray.ext
  apply Array.ext'
  unfold zeros
  simp [List.replicate_succ]
theorem zeros_zero (s : ByteArray) : zeros 0 ++ s = s := by
  apply ByteArray.ext
  apply Array.ext'
  unfold zeros
  simp

set_option maxHeartbeats 400000 in
theorem digits_any (n : Int) (k : Nat) (h0 : 0 ≤ n) (h1 : n ≤ 9999) (hk : (dec n).size ≤ k) (hk' : k ≤ 100) (w : World) (ht : Pow w) :
    Calls Tryd.prog 104 #[.int .i64 n, .int .i64 k] w fun e w' => e = .returned (.string (pad n k)) ∧ Below w.heap.size w w' := by
  have HT := Lib.hid ht; clear ht
  unfold pad
  generalize hd : dec n = d at *
  have HD := Lib.hid hd; clear hd
  have hs : ((k - d.size : Nat) : Int) = (k : Int) - d.size := by omega
  have C : Hid (∀ w, Calls Tryd.prog 80 #[.string ⟨#[48]⟩, .int .i64 ((k : Int) - d.size)] w fun e w' => e = .returned (.string (zeros (k - d.size))) ∧ Below w.heap.size w w') := by
    refine Lib.hid fun w => ?_
    have c := Tryd.strings_Repeat ⟨#[48]⟩ (k - d.size) w (by omega) (by show 1 * _ ≤ _; omega)
    rw [hs] at c
    refine c.mono ?_
    rintro e w' ⟨rfl, hb⟩
    refine ⟨?_, hb⟩
    rw [show (⟨#[48]⟩ : ByteArray).data.toList = [48] from rfl, repeat_zeros]; rfl
  have hz := zeros_size (k - d.size)
  clear hs
  generalize zeros (k - d.size) = z at *
  go_enter Tryd.func104, Tryd.ntmps104
  go_wp2_with fail
  refine (decimal_any n (by omega) (by omega) _ HT.out).mono ?_
  rintro e w1 ⟨rfl, hb1⟩
  rw [HD.out]
  go_wp2_with fail
  refine (C.out _).mono ?_
  rintro e w2 ⟨rfl, hb2⟩
  have hs1 := hb1.size
  go_wp2_with fail
  go_ret
  exact ⟨rfl, hb1.trans (hb2.mono hs1)⟩

set_option maxHeartbeats 400000 in
theorem Padded_any (n : Int) (k : Nat) (h0 : 0 ≤ n) (h1 : n ≤ 9999) (hk : (dec n).size ≤ k) (hk' : k ≤ 100) (w : World) :
    Calls Tryd.prog 92 #[.int .i64 n, .int .i64 k] w fun e w' => e = .returned (.string (pad n k)) ∧ w = w' := by
  unfold pad
  generalize hd : dec n = d at *
  have HD := Lib.hid hd; clear hd
  go_enter Tryd.func92, Tryd.ntmps92
  go_wp2_with fail
  refine (Written_any n (by omega) (by omega) _).mono ?_
  rintro e w' ⟨rfl, rfl⟩
  rw [HD.out]
  go_wp2_with fail
  go_loop [5] (fun t => ∃ j : Nat, j ≤ k - d.size ∧ t = .string (zeros j ++ d)) (fun t => match t with | .string s => k - s.size | _ => 0)
  case atStart => exact ⟨0, by omega, by rw [zeros_zero]⟩
  case round =>
    obtain ⟨j, hj, rfl⟩ := hrel
    have hz := zeros_size j
    have hn := zeros_succ j d
    have HN := Lib.hid hn; clear hn
    have hsz : (zeros j ++ d).size = j + d.size := by rw [ByteArray.size_append, hz]
    generalize hq : zeros j ++ d = q at *
    have HQ := Lib.hid hq; clear hq
    by_cases hlt : j < k - d.size
    · have i1 : (q.size : Int) < k := by omega
      go_wp2
      refine ⟨⟨j + 1, by omega, by rw [← HN.out]⟩, ?_⟩
      show k - (⟨#[48]⟩ ++ q).size < k - q.size
      rw [ByteArray.size_append, show (⟨#[48]⟩ : ByteArray).size = 1 from rfl]; omega
    · have i1 : ¬ (q.size : Int) < k := by omega
      go_wp2
      go_ret
      have : j = k - d.size := by omega
      refine ⟨?_, rfl⟩
      rw [← this, HQ.out]; rfl
end Go.Proofs.YtfgadkknfehkcaaDoor
