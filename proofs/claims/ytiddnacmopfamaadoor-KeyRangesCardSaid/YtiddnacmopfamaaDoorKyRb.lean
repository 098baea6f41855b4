/- keys of bounds: of the program. -/
import Derived.Test.YtiddnacmopfamaaDoorKyRa
import Derived.Deep.RegionHeld3
namespace Go.Proofs.YtiddnacmopfamaaDoor
open Go.RowKit
set_option linter.unusedVariables false
set_option linter.unusedSimpArgs false
set_option maxRecDepth 40000
def loF (x al : ByteArray) (wl : Bool) : ByteArray := if x.toList.isEmpty = true then al else if wl = true then x else x ++ ⟨#[0]⟩
def hiF (x al : ByteArray) (wh : Bool) : ByteArray := if x.toList.isEmpty = true then oT (behO al.data.toList) else if wh = true then x ++ ⟨#[0]⟩ else x
def allS (k : Nat) (d : Bool) : ByteArray := turnS d (strOfNums [(k : Int)])
def keysV (lo hi : ByteArray) (a b : Bool) (k : Nat) (d : Bool) : ByteArray × ByteArray :=
  if d = true then (loF (turnS d hi) (allS k d) b, hiF (turnS d lo) (allS k d) a) else (loF (turnS d lo) (allS k d) a, hiF (turnS d hi) (allS k d) b)
set_option maxHeartbeats 8000000 in
theorem keys_any (lo hi : ByteArray) (a b : Bool) (k : Nat) (d : Bool) (w : World) (hk : k < 256) (hlo : lo.size ≤ 1000) (hhi : hi.size ≤ 1000) :
    Calls Tryd.prog 67 #[bv lo hi a b, .int .u8 k, .bool d] w fun e w' => e = .returned (.tuple #[.string (keysV lo hi a b k d).1, .string (keysV lo hi a b k d).2]) ∧ Below w.heap.size w w' := by
  have HT1 := Lib.hid (fun W => turned_any lo d W (by omega))
  have HT2 := Lib.hid (fun W => turned_any hi d W (by omega))
  have hz1 := turnS_size d lo
  have hz2 := turnS_size d hi
  have hz3 := turnS_size d (strOfNums [(k : Int)])
  have hz4 : (strOfNums [(k : Int)]).size = 1 := rfl
  have HT3 := Lib.hid (fun W => turned_any (strOfNums [(k : Int)]) d W (by omega))
  have HB := Lib.hid (fun W => Behind_any (allS k d) W (by unfold allS; omega))
  have hcv : ∀ (W : World) (m : Nat), W.cell? ⟨m, 0, none⟩ = some (.int .u8 k) → (convert 73 9 (.slice (some ⟨m, 0, none⟩) 1 1)).run Tryd.prog W = .ok (.string (strOfNums [(k : Int)])) W := fun W m h => conv1 w _ W m h
  unfold keysV
  have hal : allS k d = turnS d (strOfNums [(k : Int)]) := rfl
  rw [← hal] at HT3
  clear hal hz3 hz4
  generalize allS k d = al at *
  generalize strOfNums [(k : Int)] = ks at *
  generalize turnS d lo = l at *
  generalize turnS d hi = h at *
  have i1 : ¬ (9223372036854775807 < l.size + 1) := by omega
  have i2 : ¬ (9223372036854775807 < h.size + 1) := by omega
  clear hz1 hz2
  unfold loF hiF
  generalize hle : l.toList.isEmpty = e1 at *
  generalize hhe : h.toList.isEmpty = e2 at *
  generalize oT (behO al.data.toList) = bh at *
  generalize (behO al.data.toList).isSome = bs at *
  have hc : ∀ j v, (#[Value.string lo, .string hi, .bool a, .bool b] : Array Value)[j]? = some v → (w.alloc (.cells #[.string lo, .string hi, .bool a, .bool b] 96)).cell? ⟨w.heap.size, j, none⟩ = some v := fun j v h => by simp [h]
  have c0 := hc 0 _ rfl
  have c1 := hc 1 _ rfl
  have c2 := hc 2 _ rfl
  have c3 := hc 3 _ rfl
  have hY : Below w.heap.size w (w.alloc (.cells #[.string lo, .string hi, .bool a, .bool b] 96)) := (Below.refl _ _).alloc (Nat.le_refl _) _
  have hzw : w.heap.size < (w.alloc (.cells #[.string lo, .string hi, .bool a, .bool b] 96)).heap.size := by simp
  have HY := Lib.hid hY
  clear hc hY
  go_enter Tryd.func67, Tryd.ntmps67
  go_wp2_with fail
  generalize w.alloc (.cells #[.string lo, .string hi, .bool a, .bool b] 96) = Y at *
  have hbw := Lib.hid (Below.refl Y.heap.size Y).drew
  have hz : Y.heap.size ≤ Y.drew.heap.size := by simp
  go_region_held3 (fun x => x.cell? ⟨w.heap.size, 0, none⟩ = some (.string lo) ∧ x.cell? ⟨w.heap.size, 1, none⟩ = some (.string hi) ∧ x.cell? ⟨w.heap.size, 2, none⟩ = some (.bool a) ∧ x.cell? ⟨w.heap.size, 3, none⟩ = some (.bool b))
    (first | exact ⟨c0, c1, c2, c3⟩ | go_keep)
    (first
      | (go_at_call 53; (with_reducible refine (HT1.out _).mono ?_); rintro e x1 ⟨rfl, hx1⟩;
         have c0 : x1.cell? ⟨w.heap.size, 0, none⟩ = some (.string lo) := (hx1.cell (p := ⟨w.heap.size, 0, none⟩) (by simp at hz ⊢; omega)).trans c0;
         have c1 : x1.cell? ⟨w.heap.size, 1, none⟩ = some (.string hi) := (hx1.cell (p := ⟨w.heap.size, 1, none⟩) (by simp at hz ⊢; omega)).trans c1;
         have c2 : x1.cell? ⟨w.heap.size, 2, none⟩ = some (.bool a) := (hx1.cell (p := ⟨w.heap.size, 2, none⟩) (by simp at hz ⊢; omega)).trans c2;
         have c3 : x1.cell? ⟨w.heap.size, 3, none⟩ = some (.bool b) := (hx1.cell (p := ⟨w.heap.size, 3, none⟩) (by simp at hz ⊢; omega)).trans c3;
         have hz' : Y.heap.size ≤ x1.heap.size := (Nat.le_trans hz hx1.size);
         have hbw := Lib.hid (hbw.out.trans (hx1.mono hz));
         clear hz;
         have hz := hz';
         clear hx1 hz')
      | (go_at_call 53; (with_reducible refine (HT2.out _).mono ?_); rintro e x2 ⟨rfl, hx2⟩;
         have c0 : x2.cell? ⟨w.heap.size, 0, none⟩ = some (.string lo) := (hx2.cell (p := ⟨w.heap.size, 0, none⟩) (by simp at hz ⊢; omega)).trans c0;
         have c1 : x2.cell? ⟨w.heap.size, 1, none⟩ = some (.string hi) := (hx2.cell (p := ⟨w.heap.size, 1, none⟩) (by simp at hz ⊢; omega)).trans c1;
         have c2 : x2.cell? ⟨w.heap.size, 2, none⟩ = some (.bool a) := (hx2.cell (p := ⟨w.heap.size, 2, none⟩) (by simp at hz ⊢; omega)).trans c2;
         have c3 : x2.cell? ⟨w.heap.size, 3, none⟩ = some (.bool b) := (hx2.cell (p := ⟨w.heap.size, 3, none⟩) (by simp at hz ⊢; omega)).trans c3;
         have hz' : Y.heap.size ≤ x2.heap.size := (Nat.le_trans hz hx2.size);
         have hbw := Lib.hid (hbw.out.trans (hx2.mono hz));
         clear hz;
         have hz := hz';
         clear hx2 hz'))
  all_goals cases d
  all_goals go_wp2_with fail
  all_goals
    refine (HT3.out _).mono ?_
    rintro e w4 ⟨rfl, hb4⟩
    have HB4 : Hid (Below w.heap.size w w4) := Lib.hid (by
      refine Below.trans ?_ (hb4.mono ?_)
      · repeat (first | exact HY.out.trans (hbw.out.mono (Nat.le_of_lt hzw)) | refine Below.drew ?_ | refine Below.alloc ?_ (by first | omega | (simp; omega) | (simp at hz ⊢; omega)) _)
      · first | omega | (simp; omega) | (simp at hz ⊢; omega))
    clear hb4 c0 c1 c2 c3 hcv
    cases e1 <;> cases e2 <;> cases a <;> cases b
  all_goals go_wp2_with fail
  all_goals first
    | (go_ret2; exact ⟨rfl, HB4.out⟩)
    | (refine (HB.out _).mono ?_
       rintro e w5 ⟨rfl, hb5⟩
       have HB5 := Lib.hid (HB4.out.trans (hb5.mono HB4.out.size)); clear hb5
       go_wp2_with fail
       go_ret2
       exact ⟨rfl, HB5.out⟩)
    | fail
end Go.Proofs.YtiddnacmopfamaaDoor
