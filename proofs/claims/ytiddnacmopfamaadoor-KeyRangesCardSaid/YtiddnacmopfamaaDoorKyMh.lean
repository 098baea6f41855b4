/- Range of the program: its errors, at any exact and down. -/
import Derived.Test.YtiddnacmopfamaaDoorKyMg
namespace Go.Proofs.YtiddnacmopfamaaDoor
open Go.RowKit
set_option linter.unusedVariables false
set_option linter.unusedSimpArgs false
set_option maxRecDepth 40000

set_option maxHeartbeats 4000000 in
theorem Range_bad (op : ByteArray) (k n : Int) (s : ByteArray) (x d : Bool) (p c : Int) (w : World) (he : Env w) (hs : s.size ≤ 40000) (hz : wvE k n s p c ≠ 0) :
    Calls Tryd.prog 38 #[.string op, vv k n s, .bool x, .int .i64 p, .int .i64 c, .bool d] w (RgR w (wvE k n s p c)) := by
  have hb0 : Below w.heap.size w (w.alloc (.cells #[.int .i64 k, .int .i64 n, .string s] 23)) := (Below.refl _ _).alloc (Nat.le_refl _) _
  have hb1 : Below w.heap.size w ((w.alloc (.cells #[.int .i64 k, .int .i64 n, .string s] 23)).alloc (.cells #[.int .i64 k, .int .i64 n, .string s] 23)) := hb0.alloc (by simp) _
  have hv0 := VCell.new w k n s 23
  have hv1 := VCell.new (w.alloc (.cells #[.int .i64 k, .int .i64 n, .string s] 23)) k n s 23
  have hv0' := hv0.below (Below.of_alloc (w.alloc (.cells #[.int .i64 k, .int .i64 n, .string s] 23)) (.cells #[.int .i64 k, .int .i64 n, .string s] 23) _ (Nat.le_refl _)) hv0.2.2.2
  rw [World.size_alloc] at hv1
  have HW := Lib.hid (wrongValues_one k n s p c _ _ (by unfold maxLen; omega) hv1)
  have HE := Lib.hid (he.below hb1 (Nat.le_refl _)); clear he
  have HV := Lib.hid hv0'
  have HB1 := Lib.hid hb1
  have HI := Lib.hid (fun W => isOperator_any op W)
  clear hb0 hb1 hv0 hv1 hv0'
  generalize wvE k n s p c = r at *
  have dn : (r != 0) = true := by simpa using hz
  clear hz
  go_enter Tryd.func38, Tryd.ntmps38
  go_wp2_with fail
  refine (HW.out).mono ?_
  rintro e w1 ⟨rfl, hb1⟩
  have HB2 := Lib.hid (HB1.out.trans (hb1.mono HB1.out.size)); clear hb1
  go_wp2_with fail
  exact bodyPost_ret (v := .tuple #[.string nos, .string nos, .bool false, .int .i64 r]) (by simp [results, Tryd.results38, go_sem]) rfl ⟨_, _, _, rfl, HB2.out, fun _ => ⟨rfl, rfl, rfl⟩⟩

set_option maxHeartbeats 4000000 in
theorem Range_nil (op : ByteArray) (k n : Int) (s : ByteArray) (x d : Bool) (p c : Int) (w : World) (he : Env w) (hs : s.size ≤ 40000) (hz : wvE k n s p c = 0) (ho : isO op = true) (hk : k = 0) :
    Calls Tryd.prog 38 #[.string op, vv k n s, .bool x, .int .i64 p, .int .i64 c, .bool d] w (RgR w 6) := by
  have hb0 : Below w.heap.size w (w.alloc (.cells #[.int .i64 k, .int .i64 n, .string s] 23)) := (Below.refl _ _).alloc (Nat.le_refl _) _
  have hb1 : Below w.heap.size w ((w.alloc (.cells #[.int .i64 k, .int .i64 n, .string s] 23)).alloc (.cells #[.int .i64 k, .int .i64 n, .string s] 23)) := hb0.alloc (by simp) _
  have hv0 := VCell.new w k n s 23
  have hv1 := VCell.new (w.alloc (.cells #[.int .i64 k, .int .i64 n, .string s] 23)) k n s 23
  have hv0' := hv0.below (Below.of_alloc (w.alloc (.cells #[.int .i64 k, .int .i64 n, .string s] 23)) (.cells #[.int .i64 k, .int .i64 n, .string s] 23) _ (Nat.le_refl _)) hv0.2.2.2
  rw [World.size_alloc] at hv1
  have HW := Lib.hid (wrongValues_one k n s p c _ _ (by unfold maxLen; omega) hv1)
  have HE := Lib.hid (he.below hb1 (Nat.le_refl _)); clear he
  have HV := Lib.hid hv0'
  have HB1 := Lib.hid hb1
  have HI := Lib.hid (fun W => isOperator_any op W)
  clear hb0 hb1 hv0 hv1 hv0'
  rw [hz] at HW
  rw [ho] at HI
  have hk' : ((k : Int) == 0) = true := by simpa using hk
  clear hz ho hk
  go_enter Tryd.func38, Tryd.ntmps38
  go_wp2_with fail
  refine (HW.out).mono ?_
  rintro e w1 ⟨rfl, hb1⟩
  have HV1 := Lib.hid (HV.out.below hb1 HV.out.2.2.2)
  have HB2 := Lib.hid (HB1.out.trans (hb1.mono HB1.out.size)); clear hb1
  go_wp2_with fail
  refine (HI.out _).mono ?_
  rintro e w2 ⟨rfl, hb2⟩
  have HV2 := Lib.hid (HV1.out.below hb2 HV1.out.2.2.2)
  have HB3 := Lib.hid (HB2.out.trans (hb2.mono HB2.out.size)); clear hb2
  obtain ⟨c0, c1, c2, _⟩ := HV2.out
  go_wp2_with fail
  exact bodyPost_ret (v := .tuple #[.string nos, .string nos, .bool false, .int .i64 6]) (by simp [results, Tryd.results38, go_sem]) rfl ⟨_, _, _, rfl, HB3.out, fun _ => ⟨rfl, rfl, rfl⟩⟩
end Go.Proofs.YtiddnacmopfamaaDoor
