/- Keys of the reference: digits, weights, the key of a right value. -/
import Derived.Test.YtiddnacmopfamaaDoorKyZ
import Derived.Test.YtiddnacmopfamaaDoorKyU
import Derived.Laws.MakeOwn
namespace Go.Proofs.YtiddnacmopfamaaDoor
open Go.RowKit
set_option linter.unusedVariables false
set_option linter.unusedSimpArgs false
set_option maxRecDepth 40000

def bI (l : List UInt8) : List Int := l.map fun u => ((u.toNat : Nat) : Int)
theorem bI_len (l : List UInt8) : (bI l).length = l.length := by simp [bI]
theorem bI_app (a b : List UInt8) : bI (a ++ b) = bI a ++ bI b := by simp [bI]
theorem strOf_bI (l : List UInt8) : strOfNums (bI l) = BA l := by
  have e : ((fun n : Int => UInt8.ofNat n.toNat) ∘ fun u : UInt8 => ((u.toNat : Nat) : Int)) = id := by
    funext x; simp
  apply ByteArray.ext
  apply Array.toList_inj.1
  simp [strOfNums, bI, BA, e]
theorem refAsked_any (p c : Int) (w : World) : Calls Tryd.prog 42 #[.int .i64 p, .int .i64 c] w fun e w' => e = .returned (.int .i64 (wpE p c)) ∧ w = w' := by
  by_cases h1 : p < 0
  · have hv : wpE p c = 1 := by unfold wpE; rw [if_neg (by omega)]
    rw [hv]; clear hv
    go_enter Tryd.func42, Tryd.ntmps42
    go_wp2
    go_ret
    exact ⟨rfl, rfl⟩
  by_cases h2 : 2 < p
  · have hv : wpE p c = 1 := by unfold wpE; rw [if_neg (by omega)]
    rw [hv]; clear hv
    go_enter Tryd.func42, Tryd.ntmps42
    go_wp2
    go_ret
    exact ⟨rfl, rfl⟩
  by_cases h3 : c < 0
  · have hv : wpE p c = 1 := by unfold wpE; rw [if_neg (by omega)]
    rw [hv]; clear hv
    go_enter Tryd.func42, Tryd.ntmps42
    go_wp2
    go_ret
    exact ⟨rfl, rfl⟩
  by_cases h4 : 1 < c
  · have hv : wpE p c = 1 := by unfold wpE; rw [if_neg (by omega)]
    rw [hv]; clear hv
    go_enter Tryd.func42, Tryd.ntmps42
    go_wp2
    go_ret
    exact ⟨rfl, rfl⟩
  · have hv : wpE p c = 0 := by unfold wpE; rw [if_pos (by omega)]
    rw [hv]; clear hv
    go_enter Tryd.func42, Tryd.ntmps42
    go_wp2
    go_ret
    exact ⟨rfl, rfl⟩

def dg (l : List Nat) : List UInt8 := l.map UInt8.ofNat
theorem dg_nums {l : List Nat} (h : ∀ x ∈ l, x < 256) : BA (dg l) = SN l := by
  have e : bI (dg l) = l.map Int.ofNat := by
    unfold bI dg
    rw [List.map_map]
    apply List.map_congr_left
    intro x hx
    have := h x hx
    simp
    omega
  rw [← strOf_bI, e]; rfl
theorem zrow_set (j : Nat) (x : UInt8) (t : List UInt8) : (List.replicate (j + 1) (0 : UInt8) ++ t).set j x = List.replicate j 0 ++ x :: t := by
  rw [List.set_append_left _ _ (by simp), List.replicate_succ', List.set_append_right _ _ (by simp)]
  simp
theorem zrow_new (w : World) (k : Nat) : BRow (w.alloc (.cells (madeCells #[.int .u8 0] k) 5)) w.heap.size (List.replicate k 0) := by
  refine ⟨by simp, fun j hj => ?_⟩
  have hj' : j < k := by simpa using hj
  have hz : (madeCells #[.int .u8 0] k)[j]? = some (.int .u8 0) := by
    simp [madeCells, hj', Nat.mod_one]
  refine ⟨?_, ?_⟩
  · unfold World.cell?
    rw [heap_alloc_new w _]
    simp [hz, List.getD, hj']
  · unfold World.frozen?
    rw [heap_alloc_new w _]
    simp

set_option maxHeartbeats 4000000 in
theorem high_any (n k : Nat) (hk : k ≤ 16) (hn : n ≤ 9223372036854775807) (w : World) :
    Calls Tryd.prog 68 #[.int .i64 n, .int .i64 k] w fun e w' => e = .returned (.string (SN (digs k n))) ∧ Below w.heap.size w w' := by
  have hmk : (Instr.makeSlice 73 (.int .i64 k) (.int .i64 k)).run Tryd.prog w = .ok (.slice (some ⟨w.heap.size, 0, none⟩) k k) (w.alloc (.cells (madeCells #[.int .u8 0] k) 5)) := by
    obtain ⟨i0, hi0, hz0, hz1, hz2⟩ := info_parts info5
    have h := run_make (P := Tryd.prog) w 73 5 i0 (.int .u8 0) Tryd.underlying73 hi0 hz0 .i64 .i64 k k (by omega) (Int.le_refl _) (by rw [hz2]; omega) (by omega)
    rw [hz1, Int.toNat_natCast, Nat.mul_one] at h
    exact h
  have hbr := zrow_new w k
  have hbl : Below w.heap.size w (w.alloc (.cells (madeCells #[.int .u8 0] k) 5)) := (Below.refl _ _).alloc (Nat.le_refl _) _
  generalize w.alloc (.cells (madeCells #[.int .u8 0] k) 5) = w2 at hmk hbr hbl
  have HBR := Lib.hid hbr; clear hbr
  have HBL := Lib.hid hbl; clear hbl
  rw [← dg_nums (digs_lt k n)]
  have HDL := Lib.hid (digs_len k n)
  obtain ⟨D, hD⟩ : ∃ D, D = digs k n := ⟨_, rfl⟩
  rw [← hD] at HDL ⊢
  have HD0 : Hid (D = digs k n ++ []) := Lib.hid (by simp [hD])
  clear hD
  have i1 : (0 : Int) ≤ k := by omega
  go_enter Tryd.func68, Tryd.ntmps68
  go_wp2_with fail
  clear hmk
  go_loopw [0, 6] (fun v i wr => ∃ (m q : Nat) (t : List Nat), m ≤ k ∧ v = .int .i64 q ∧ i = .int .i64 ((m : Int) - 1) ∧ Hid (D = digs m q ++ t) ∧ t.length = k - m ∧ q ≤ 9223372036854775807 ∧ BRow wr w.heap.size (List.replicate m 0 ++ dg t) ∧ Below w.heap.size w wr) (fun _ i _ => (intOf i + 1).toNat)
  case atStart => exact ⟨k, n, [], by omega, rfl, rfl, HD0, by simp, hn, by simpa [dg] using HBR.out, HBL.out⟩
  case round =>
    obtain ⟨m, q, t, hm, rfl, rfl, HT, htl, hq, hrow, hbel⟩ := hrel
    have HB := Lib.hid hbel; clear hbel
    have HR := Lib.hid hrow; clear hrow
    have HTL := Lib.hid htl; clear htl
    by_cases h0 : m = 0
    · subst h0
      have i2 : ¬ (0 : Int) ≤ ((0 : Nat) : Int) - 1 := by omega
      have hd : D = t := by have := HT.out; simpa [digs] using this
      have hrow := HR.out
      rw [List.replicate_zero, List.nil_append, ← hd] at hrow
      have htx := hrow.text k
      have hdl : (dg D).length = k := by unfold dg; rw [List.length_map]; exact HDL.out
      rw [hdl] at htx
      clear hd hrow hdl
      go_wp2_with fail
      go_ret
      exact ⟨rfl, HB.out⟩
    · obtain ⟨j, rfl⟩ : ∃ j, m = j + 1 := ⟨m - 1, by omega⟩
      have hi : (((j + 1 : Nat) : Int) - 1) = (j : Int) := by omega
      rw [hi]
      have hlen : (List.replicate (j + 1) (0 : UInt8) ++ dg t).length = k := by unfold dg; rw [List.length_append, List.length_replicate, List.length_map, HTL.out]; omega
      have HLEN := Lib.hid hlen; clear hlen
      obtain ⟨hck, hfz⟩ := HR.out.2 j (by rw [HLEN.out]; omega)
      have hset := HR.out.set (k := j) (z := UInt8.ofNat (q % 256)) (v := ((q % 256 : Nat) : Int)) (by rw [HLEN.out]; omega) (by simp)
      rw [zrow_set] at hset
      have HSET := Lib.hid hset; clear hset
      have HT2 : Hid (D = digs j (q / 256) ++ q % 256 :: t) := Lib.hid (by have h := HT.out; rw [digs] at h; simpa using h)
      have i0 : (0 : Int) ≤ (j : Int) := by omega
      have i3 : (j : Int) < k := by omega
      have i4 : (0 : Int) ≤ q := by omega
      have i5 : (q : Int) ≤ 9223372036854775807 := by omega
      clear h0 hi
      go_wp2_with fail
      go_roundw
      case rel => exact ⟨j, q / 256, q % 256 :: t, by omega, by simp, rfl, HT2, by (rw [List.length_cons, HTL.out]; omega), by omega, HSET.out, HB.out.setCell (Nat.le_refl _) _⟩
      case measure => simp [intOf]
end Go.Proofs.YtiddnacmopfamaaDoor
