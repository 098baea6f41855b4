/- Decode of the program. -/
import Derived.Test.YtiddnacmopfamaaDoorKyDb
namespace Go.Proofs.YtiddnacmopfamaaDoor
open Go.RowKit
set_option linter.unusedVariables false
set_option linter.unusedSimpArgs false
set_option maxRecDepth 40000

theorem empty_of {s : ByteArray} (h : s.size = 0) : s = nos ∧ s.data.toList = [] := by
  have hl : s.data.toList.length = s.size := rfl
  have h2 : s.data.toList = [] := List.eq_nil_of_length_eq_zero (by omega)
  refine ⟨?_, h2⟩
  apply ByteArray.ext
  apply Array.toList_inj.1
  exact h2

set_option maxHeartbeats 8000000 in
theorem decode_any (s : ByteArray) (w : World) (hs : s.size ≤ 200000) :
    Calls Tryd.prog 55 #[.string s] w (DecR w (decO s.data.toList)) := by
  have hl : s.data.toList.length = s.size := rfl
  by_cases h0 : s.size = 0
  · obtain ⟨rfl, h2⟩ := empty_of h0
    have hd : decO nos.data.toList = none := by unfold decO; rw [h2, if_pos rfl]
    rw [hd]
    clear hd h2 hl hs h0
    have hvw := VW.new w 0 0 nos 23
    have hb0 : Below w.heap.size w (w.alloc (.cells #[.int .i64 0, .int .i64 0, .string nos] 23)) := (Below.refl _ _).alloc (Nat.le_refl _) _
    have hem : nos.toList = [] := by rw [Lib.toList_data]
    go_enter Tryd.func55, Tryd.ntmps55
    rw [show (⟨#[]⟩ : ByteArray) = nos from rfl]
    go_wp2_with fail
    exact bodyPost_ret (v := .tuple #[vv 0 0 nos, .int .i64 0, .bool false]) (by simp [results, Tryd.results55, go_sem]) rfl ⟨0, 0, nos, 0, false, rfl, by (repeat (first | exact hb0 | exact Below.refl _ _ | (refine Below.drew ?_) | (refine Below.setCell ?_ (by first | exact Nat.le_refl _ | simp) _) | (refine Below.alloc ?_ (Nat.le_refl _) _))), .inr ⟨rfl, rfl⟩⟩
  · have hne : s.data.toList ≠ [] := by intro e; rw [e] at hl; simp at hl; omega
    by_cases h4 : (s.data.toList.getD 0 0).toNat = 4
    · have hd : decO s.data.toList = txO s.data.toList := by unfold decO; rw [if_neg hne, if_pos h4]
      rw [hd]
      have hat := byte_at s 0 (by omega)
      rw [h4] at hat
      have hem : s.toList.isEmpty = false := by
        rw [Lib.toList_data]
        cases hq : s.data.toList with
        | nil => exact absurd hq hne
        | cons a b => rfl
      have h00 : (0 : Int) < s.size := by omega
      have HC := Lib.hid (fun W => decodeText_any s W hs)
      generalize txO s.data.toList = o at *
      have hvr := VW.new w 0 0 nos 23
      have hz1 : (w.alloc (.cells #[.int .i64 0, .int .i64 0, .string nos] 23)).heap.size = w.heap.size + 1 := by simp
      have hb2 := Below.of_alloc (w.alloc (.cells #[.int .i64 0, .int .i64 0, .string nos] 23)) (.cells #[.int .i64 4, .int .i64 0, .string nos] 23) _ (Nat.le_refl _)
      have hvr2 := hvr.below hb2 (by rw [hz1]; omega)
      have hB : Below w.heap.size w ((w.alloc (.cells #[.int .i64 0, .int .i64 0, .string nos] 23)).alloc (.cells #[.int .i64 4, .int .i64 0, .string nos] 23)) := ((Below.refl _ _).alloc (Nat.le_refl _) _).alloc (by simp) _
      have HVR := Lib.hid hvr2
      have HB := Lib.hid hB
      clear hvr hz1 hb2 hvr2 hB hne hd h4
      go_enter Tryd.func55, Tryd.ntmps55
      go_wp2_with fail
      rw [show (⟨#[]⟩ : ByteArray) = nos from rfl]
      generalize (w.alloc (.cells #[.int .i64 0, .int .i64 0, .string nos] 23)).alloc (.cells #[.int .i64 4, .int .i64 0, .string nos] 23) = wb at *
      refine (HC.out _).mono ?_
      rintro e w1 ⟨k, n, t, m, b, rfl, hb1, hcs⟩
      have HV1 := Lib.hid (HVR.out.below hb1 HVR.out.1.2.2.2)
      have HB1 := Lib.hid (HB.out.trans (hb1.mono HB.out.size)); clear hb1
      have HCS := Lib.hid hcs; clear hcs
      obtain ⟨⟨c0, c1, c2, _⟩, f0, f1, f2⟩ := HV1.out
      go_wp2_with fail
      exact bodyPost_ret (v := .tuple #[vv k n t, .int .i64 m, .bool b]) (by simp [results, Tryd.results55, go_sem, c0, c1, c2]) rfl ⟨k, n, t, m, b, rfl, by (repeat (first | exact HB1.out | (refine Below.drew ?_) | (refine Below.setCell ?_ (by first | exact Nat.le_refl _ | simp) _))), HCS.out⟩
    · have hd : decO s.data.toList = numO (s.data.toList.getD 0 0).toNat (s.data.toList.drop 1) := by unfold decO; rw [if_neg hne, if_neg h4]
      rw [hd]
      exact decode_num s w hs (by omega) h4

/-- What Decode says of an ascending key. -/
def dcE (l : List UInt8) (o : Option (Int × Int × ByteArray × Nat)) : Int := match o with
  | some x => if x.2.2.2 = l.length then 0 else 11
  | none => 11
def dcV (l : List UInt8) (o : Option (Int × Int × ByteArray × Nat)) : Int × Int × ByteArray := match o with
  | some x => if x.2.2.2 = l.length then (x.1, x.2.1, x.2.2.1) else (0, 0, nos)
  | none => (0, 0, nos)
def VRes (w : World) (v : Int × Int × ByteArray) (n : Int) (e : Ending) (w' : World) : Prop := e = .returned (.tuple #[vv v.1 v.2.1 v.2.2, .int .i64 n]) ∧ Below w.heap.size w w'

set_option maxHeartbeats 8000000 in
theorem Decode_any (s : ByteArray) (d : Bool) (w : World) (hs : s.size ≤ 200000) :
    Calls Tryd.prog 18 #[.string s, .bool d] w (VRes w (dcV (turnS d s).data.toList (decO (turnS d s).data.toList)) (dcE (turnS d s).data.toList (decO (turnS d s).data.toList))) := by
  have HT := Lib.hid (fun W => turned_any s d W hs)
  have hz := turnS_size d s
  have HC := Lib.hid (fun W => decode_any (turnS d s) W (by omega))
  have hl : (turnS d s).data.toList.length = s.size := hz
  generalize turnS d s = t at *
  have HL := Lib.hid hl; clear hl
  have hvr := VW.new w 0 0 nos 23
  have hB : Below w.heap.size w (w.alloc (.cells #[.int .i64 0, .int .i64 0, .string nos] 23)) := (Below.refl _ _).alloc (Nat.le_refl _) _
  have HVR := Lib.hid hvr
  have HB := Lib.hid hB
  clear hvr hB hz
  go_enter Tryd.func18, Tryd.ntmps18
  go_wp2_with fail
  rw [show (⟨#[]⟩ : ByteArray) = nos from rfl]
  generalize w.alloc (.cells #[.int .i64 0, .int .i64 0, .string nos] 23) = wb at *
  refine (HT.out _).mono ?_
  rintro e w1 ⟨rfl, hb1⟩
  have HV1 := Lib.hid (HVR.out.below hb1 HVR.out.1.2.2.2)
  have HB1 := Lib.hid (HB.out.trans (hb1.mono HB.out.size)); clear hb1
  go_wp2_with fail
  refine (HC.out _).mono ?_
  rintro e w2 ⟨k, n, u, m, b, rfl, hb2, hcs⟩
  have HV2 := Lib.hid (HV1.out.below hb2 HV1.out.1.2.2.2)
  have HB2 := Lib.hid (HB1.out.trans (hb2.mono HB1.out.size)); clear hb2
  have hsz : w.heap.size < w2.heap.size := HV2.out.1.2.2.2
  obtain ⟨⟨c0, c1, c2, _⟩, f0, f1, f2⟩ := HV2.out
  rcases hcs with ⟨rfl, ho⟩ | ⟨rfl, ho⟩
  · by_cases hm : m = s.size
    · have hm1 : ((m : Int) != (s.size : Int)) = false := by rw [hm]; simp
      have HE : Hid (dcE t.data.toList (decO t.data.toList) = 0 ∧ dcV t.data.toList (decO t.data.toList) = (k, n, u)) := Lib.hid (by rw [ho]; unfold dcE dcV; simp only; rw [HL.out, if_pos hm, if_pos hm]; exact ⟨rfl, rfl⟩)
      clear hm ho
      go_wp2_with fail
      exact bodyPost_ret (v := .tuple #[vv k n u, .int .i64 0]) (by simp [results, Tryd.results18, go_sem, c0, c1, c2, f0, f1, f2, hsz]) rfl ⟨by rw [HE.out.1, HE.out.2], by (repeat (first | exact HB2.out | (refine Below.drew ?_) | (refine Below.setCell ?_ (by first | exact Nat.le_refl _ | simp) _) | (refine Below.alloc ?_ (by have := HB2.out.size; simp; try omega) _)))⟩
    · have hm1 : ((m : Int) != (s.size : Int)) = true := by rw [bne_iff_ne]; omega
      have HE : Hid (dcE t.data.toList (decO t.data.toList) = 11 ∧ dcV t.data.toList (decO t.data.toList) = (0, 0, nos)) := Lib.hid (by rw [ho]; unfold dcE dcV; simp only; rw [HL.out, if_neg hm, if_neg hm]; exact ⟨rfl, rfl⟩)
      clear hm ho
      go_wp2_with fail
      exact bodyPost_ret (v := .tuple #[vv 0 0 nos, .int .i64 11]) (by simp [results, Tryd.results18, go_sem, c0, c1, c2, f0, f1, f2, hsz]) rfl ⟨by rw [HE.out.1, HE.out.2], by (repeat (first | exact HB2.out | (refine Below.drew ?_) | (refine Below.setCell ?_ (by first | exact Nat.le_refl _ | simp) _) | (refine Below.alloc ?_ (by have := HB2.out.size; simp; try omega) _)))⟩
  · have HE : Hid (dcE t.data.toList (decO t.data.toList) = 11 ∧ dcV t.data.toList (decO t.data.toList) = (0, 0, nos)) := Lib.hid (by rw [ho]; exact ⟨rfl, rfl⟩)
    clear ho
    go_wp2_with fail
    exact bodyPost_ret (v := .tuple #[vv 0 0 nos, .int .i64 11]) (by simp [results, Tryd.results18, go_sem, c0, c1, c2, f0, f1, f2, hsz]) rfl ⟨by rw [HE.out.1, HE.out.2], by (repeat (first | exact HB2.out | (refine Below.drew ?_) | (refine Below.setCell ?_ (by first | exact Nat.le_refl _ | simp) _) | (refine Below.alloc ?_ (by have := HB2.out.size; simp; try omega) _)))⟩
end Go.Proofs.YtiddnacmopfamaaDoor
