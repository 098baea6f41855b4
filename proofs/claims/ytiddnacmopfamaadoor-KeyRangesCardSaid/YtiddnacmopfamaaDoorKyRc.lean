/- trimmed of the program. -/
import Derived.Test.YtiddnacmopfamaaDoorKyRa
import Derived.Test.YtiddnacmopfamaaDoorShelf
namespace Go.Proofs.YtiddnacmopfamaaDoor
open Go.RowKit
set_option linter.unusedVariables false
set_option linter.unusedSimpArgs false
set_option maxRecDepth 40000
/-- A text without the blanks at its end; the same with blanks up to 48 bytes. -/
def trS (s : ByteArray) : ByteArray := ⟨(Lib.trimRightB s.data.toList 32).toArray⟩
def padS (s : ByteArray) : ByteArray := trS s ++ ⟨(Lib.repeatL [32] (48 - (trS s).size)).toArray⟩
theorem trS_size (s : ByteArray) : (trS s).size ≤ s.size := by
  unfold trS Lib.trimRightB
  show ((s.data.toList.reverse.dropWhile (· == 32)).reverse).length ≤ s.data.toList.length
  rw [List.length_reverse]
  have h := (List.dropWhile_sublist (fun x => x == (32 : UInt8)) (l := s.data.toList.reverse)).length_le
  rw [List.length_reverse] at h
  exact h
/-- The cells of two bounds that may be written. -/
def BW (w : World) (g : Nat) : Prop := w.cell? ⟨g, 0, none⟩ = some (.string nos) ∧ w.cell? ⟨g, 1, none⟩ = some (.string nos) ∧ w.cell? ⟨g, 2, none⟩ = some (.bool false) ∧ w.cell? ⟨g, 3, none⟩ = some (.bool false) ∧ w.frozen? ⟨g, 0, none⟩ = false ∧ w.frozen? ⟨g, 1, none⟩ = false ∧ w.frozen? ⟨g, 2, none⟩ = false ∧ w.frozen? ⟨g, 3, none⟩ = false ∧ g < w.heap.size
theorem BW.below {w w' : World} {g B : Nat} (h : BW w g) (hb : Below B w w') (hg : g < B) : BW w' g :=
  ⟨(hb.cell (p := ⟨g, 0, none⟩) hg).trans h.1, (hb.cell (p := ⟨g, 1, none⟩) hg).trans h.2.1, (hb.cell (p := ⟨g, 2, none⟩) hg).trans h.2.2.1, (hb.cell (p := ⟨g, 3, none⟩) hg).trans h.2.2.2.1, (hb.frozen (p := ⟨g, 0, none⟩) hg).trans h.2.2.2.2.1, (hb.frozen (p := ⟨g, 1, none⟩) hg).trans h.2.2.2.2.2.1, (hb.frozen (p := ⟨g, 2, none⟩) hg).trans h.2.2.2.2.2.2.1, (hb.frozen (p := ⟨g, 3, none⟩) hg).trans h.2.2.2.2.2.2.2.1, by have := h.2.2.2.2.2.2.2.2; have := hb.size; omega⟩
theorem BW.new (w : World) (t : TypeId) : BW (w.alloc (.cells #[.string nos, .string nos, .bool false, .bool false] t)) w.heap.size := ⟨by simp, by simp, by simp, by simp, by simp, by simp, by simp, by simp, by simp⟩
set_option maxHeartbeats 4000000 in
theorem trimmed_any (s : ByteArray) (p c : Nat) (hp : p < 3) (hc : c < 2) (w : World) (he : Env w) (hs : s.size ≤ 3000) :
    Calls Tryd.prog 65 #[.string s, .int .i64 p, .int .i64 c] w fun e w' => e = .returned (bv (prS p c (trS s) ++ ⟨#[0, 0]⟩) (prS p c (padS s) ++ ⟨#[0, 0]⟩) true true) ∧ Below w.heap.size w w' := by
  have HE := Lib.hid he; clear he
  have HT := Lib.hid (fun W => Tryd.strings_TrimRight_one s 32 (by decide) W (by omega))
  have hts := trS_size s
  have HR := Lib.hid (fun W => Tryd.strings_Repeat ⟨#[32]⟩ (48 - (trS s).size) W (by omega) (by show 1 * _ ≤ _; omega))
  have HW := Lib.hid (BW.new w 96)
  have hb0 : Below w.heap.size w (w.alloc (.cells #[.string nos, .string nos, .bool false, .bool false] 96)) := (Below.refl _ _).alloc (Nat.le_refl _) _
  have HE0 := Lib.hid (HE.out.below hb0 (Nat.le_refl _)); clear HE
  have HB0 := Lib.hid hb0; clear hb0
  have htr : (⟨(Lib.trimRightB s.data.toList 32).toArray⟩ : ByteArray) = trS s := rfl
  rw [htr] at HT
  unfold padS
  clear htr
  generalize trS s = t at *
  have hm : ((48 - t.size : Nat) : Int) = max (48 - (t.size : Int)) 0 := by omega
  have hq : (⟨(Lib.repeatL [32] (48 - t.size)).toArray⟩ : ByteArray).size ≤ 48 := by
    show (Lib.repeatL [32] (48 - t.size)).length ≤ 48
    rw [Lib.repeatL_length]; simp
  have e1 : (⟨#[32]⟩ : ByteArray).data.toList = [32] := rfl
  rw [hm, e1] at HR
  clear hm e1
  generalize (⟨(Lib.repeatL [32] (48 - t.size)).toArray⟩ : ByteArray) = q at *
  have i0 : ¬ (9223372036854775807 < t.size + q.size) := by omega
  have hpz : (t ++ q).size ≤ 200000 := by rw [ByteArray.size_append]; omega
  have C1 := Lib.hid (fun W h => prefix_any t p c hp hc W h (by omega))
  have C2 := Lib.hid (fun W h => prefix_any (t ++ q) p c hp hc W h hpz)
  have hz1 := prS_size p c t
  have hz2 := prS_size p c (t ++ q)
  generalize prS p c t = x at *
  generalize hy : prS p c (t ++ q) = y at *
  have i1 : ¬ (9223372036854775807 < x.size + 2) := by omega
  have i2 : ¬ (9223372036854775807 < y.size + 2) := by omega
  clear hz1 hz2 hq hts hpz hy
  go_enter Tryd.func65, Tryd.ntmps65
  go_wp2_with fail
  rw [show (⟨#[]⟩ : ByteArray) = nos from rfl]
  generalize w.alloc (.cells #[.string nos, .string nos, .bool false, .bool false] 96) = W0 at *
  refine (HT.out _).mono ?_
  rintro e w1 ⟨rfl, rfl⟩
  go_wp2_with fail
  refine (HR.out _).mono ?_
  rintro e w2 ⟨rfl, hb2⟩
  have HE2 := Lib.hid (HE0.out.below hb2 (Nat.le_refl _))
  have HW2 := Lib.hid (HW.out.below hb2 HW.out.2.2.2.2.2.2.2.2)
  have HB2 := Lib.hid (HB0.out.trans (hb2.mono HB0.out.size)); clear hb2
  go_wp2_with fail
  refine (C1.out _ HE2.out).mono ?_
  rintro e w3 ⟨rfl, hb3⟩
  have HE3 := Lib.hid (HE2.out.below hb3 (Nat.le_refl _))
  have HW3 := Lib.hid (HW2.out.below hb3 HW2.out.2.2.2.2.2.2.2.2)
  have HB3 := Lib.hid (HB2.out.trans (hb3.mono HB2.out.size)); clear hb3
  go_wp2_with fail
  refine (C2.out _ HE3.out).mono ?_
  rintro e w4 ⟨rfl, hb4⟩
  have HW4 := Lib.hid (HW3.out.below hb4 HW3.out.2.2.2.2.2.2.2.2)
  have HB4 := Lib.hid (HB3.out.trans (hb4.mono HB3.out.size)); clear hb4
  obtain ⟨c0, c1, c2, c3, f0, f1, f2, f3, hsz⟩ := HW4.out
  go_wp2_with fail
  exact bodyPost_ret (v := bv (x ++ ⟨#[0, 0]⟩) (y ++ ⟨#[0, 0]⟩) true true) (by simp [results, Tryd.results65, go_sem, c0, c1, c2, c3, f0, f1, f2, f3, hsz]) rfl ⟨rfl, by (repeat (first | exact HB4.out | (refine Below.drew ?_) | (refine Below.setCell ?_ (by first | exact Nat.le_refl _ | simp) _)))⟩
end Go.Proofs.YtiddnacmopfamaaDoor
