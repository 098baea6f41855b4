/- Ranges of keys: what is true of two values. -/
import Derived.Test.YtiddnacmopfamaaDoorKyMf
namespace Go.Proofs.YtiddnacmopfamaaDoor
open Go.RowKit
set_option linter.unusedVariables false
set_option linter.unusedSimpArgs false
set_option maxRecDepth 40000

theorem cmpR_N {k n n' : Int} {s s' : ByteArray} (hv : vE k n s = 0) (hw : vE k n' s' = 0) (hk : k ≠ 0) : cmpR k n' s' k n s = cmpN k n' s' n s := by
  unfold cmpR cmpN
  rw [if_pos]
  · exact ⟨by unfold bothE; simp [hv, hw], rfl, hk⟩

set_option maxHeartbeats 1600000 in
theorem holds_any (op : ByteArray) (k n n' : Int) (s s' : ByteArray) (x : Bool) (w : World) (ho : isO op = true) (hv : vE k n s = 0) (hw : vE k n' s' = 0) (hk : k ≠ 0) (hs : s.size ≤ 300000) (hs' : s'.size ≤ 300000) :
    Calls Tryd.prog 41 #[vv k n' s', .string op, vv k n s, .bool x] w fun e w' => e = .returned (.bool (hoV op k n' s' n s x)) ∧ Below w.heap.size w w' := by
  have C1 := Lib.hid (fun W => refCompare_any k n' s' k n s W (by unfold maxLen; omega) (by unfold maxLen; omega))
  have C2 := Lib.hid (fun W => refEqual_any s' s x W (by omega) (by omega))
  rw [cmpR_N hv hw hk] at C1
  have HO := Lib.hid (show hoV op k n' s' n s x = (if eqO op = true then (if k = 4 then eqX s' s x else decide (cmpN k n' s' n s = 0))
  else if eeO op = true then decide (cmpN k n' s' n s = 0)
  else if (op.toList == [60]) = true then decide (cmpN k n' s' n s < 0)
  else if (op.toList == [60, 61]) = true then decide (cmpN k n' s' n s ≤ 0)
  else if (op.toList == [62]) = true then decide (0 < cmpN k n' s' n s)
  else decide (0 ≤ cmpN k n' s' n s)) from rfl)
  have hbd : -1 ≤ cmpN k n' s' n s ∧ cmpN k n' s' n s ≤ 1 := by
    unfold cmpN
    split
    · exact cmpB_bd _ _
    · exact cmpI_bd _ _
  generalize cmpN k n' s' n s = t at *
  generalize eqX s' s x = q at *
  generalize hoV op k n' s' n s x = r at *
  generalize cmpE k n' s' k n s = ce at *
  have hbox := box_two w k n' s' k n s
  simp only at hbox
  have HBX := Lib.hid hbox; clear hbox
  unfold eqO eeO at HO
  clear hv hw
  rcases six ho with h | h | h | h | h | h
  · have e1 : (op.toList == [61]) = true := by rw [h]; rfl
    have HO := HO.out
    simp only [e1, if_pos, if_neg, Bool.false_eq_true, if_true, if_false] at HO
    clear h ho
    by_cases h4 : k = 4
    · subst h4
      have hr : r = q := by simpa using HO
      subst hr
      clear HO
      go_enter Tryd.func41, Tryd.ntmps41
      go_wp2_with fail
      generalize ((w.alloc (.cells #[.int .i64 4, .int .i64 n', .string s'] 23)).alloc (.cells #[.int .i64 4, .int .i64 n, .string s] 23)) = wb at *
      refine (C1.out _).mono ?_
      rintro e w1 ⟨rfl, hb⟩
      have HV1 := Lib.hid (HBX.out.1.below hb HBX.out.1.1.2.2.2)
      have HV2 := Lib.hid (HBX.out.2.1.below hb HBX.out.2.1.1.2.2.2)
      have HB := Lib.hid (HBX.out.2.2.trans (hb.mono HBX.out.2.2.size)); clear hb
      obtain ⟨v0, v1, v2, _⟩ := HV1.out.1
      obtain ⟨u0, u1, u2, _⟩ := HV2.out.1
      clear C1 HBX
      go_wp2_with fail
      refine (C2.out _).mono ?_
      rintro e w2 ⟨rfl, rfl⟩
      go_wp2_with fail
      go_ret
      exact ⟨rfl, HB.out⟩
    · have hr : r = (t == 0) := by rw [HO, if_neg h4]; rfl
      have hn4 : (k == (4 : Int)) = false := beq_eq_false_iff_ne.2 h4
      subst hr
      clear HO
      go_enter Tryd.func41, Tryd.ntmps41
      go_wp2_with fail
      generalize ((w.alloc (.cells #[.int .i64 k, .int .i64 n', .string s'] 23)).alloc (.cells #[.int .i64 k, .int .i64 n, .string s] 23)) = wb at *
      refine (C1.out _).mono ?_
      rintro e w1 ⟨rfl, hb⟩
      have HV1 := Lib.hid (HBX.out.1.below hb HBX.out.1.1.2.2.2)
      have HV2 := Lib.hid (HBX.out.2.1.below hb HBX.out.2.1.1.2.2.2)
      have HB := Lib.hid (HBX.out.2.2.trans (hb.mono HBX.out.2.2.size)); clear hb
      obtain ⟨v0, v1, v2, _⟩ := HV1.out.1
      obtain ⟨u0, u1, u2, _⟩ := HV2.out.1
      clear C1 HBX
      go_wp2_with fail
      go_ret
      exact ⟨rfl, HB.out⟩
  · have e1 : (op.toList == [61]) = false := by rw [h]; rfl
    have e2 : (op.toList == [61, 61]) = true := by rw [h]; rfl
    have HO := HO.out
    simp only [e1, e2, if_pos, if_neg, Bool.false_eq_true, if_true, if_false] at HO
    clear h ho
    have hr : r = (t == 0) := by rw [HO]; rfl
    subst hr
    clear HO
    go_enter Tryd.func41, Tryd.ntmps41
    go_wp2_with fail
    generalize ((w.alloc (.cells #[.int .i64 k, .int .i64 n', .string s'] 23)).alloc (.cells #[.int .i64 k, .int .i64 n, .string s] 23)) = wb at *
    refine (C1.out _).mono ?_
    rintro e w1 ⟨rfl, hb⟩
    have HV1 := Lib.hid (HBX.out.1.below hb HBX.out.1.1.2.2.2)
    have HV2 := Lib.hid (HBX.out.2.1.below hb HBX.out.2.1.1.2.2.2)
    have HB := Lib.hid (HBX.out.2.2.trans (hb.mono HBX.out.2.2.size)); clear hb
    obtain ⟨v0, v1, v2, _⟩ := HV1.out.1
    obtain ⟨u0, u1, u2, _⟩ := HV2.out.1
    clear C1 HBX
    go_wp2_with fail
    go_ret
    exact ⟨rfl, HB.out⟩
  · have e1 : (op.toList == [61]) = false := by rw [h]; rfl
    have e2 : (op.toList == [61, 61]) = false := by rw [h]; rfl
    have e3 : (op.toList == [60]) = true := by rw [h]; rfl
    have HO := HO.out
    simp only [e1, e2, e3, if_pos, if_neg, Bool.false_eq_true, if_true, if_false] at HO
    clear h ho
    have hr : r = decide (t < 0) := by rw [HO]
    subst hr
    clear HO
    go_enter Tryd.func41, Tryd.ntmps41
    go_wp2_with fail
    generalize ((w.alloc (.cells #[.int .i64 k, .int .i64 n', .string s'] 23)).alloc (.cells #[.int .i64 k, .int .i64 n, .string s] 23)) = wb at *
    refine (C1.out _).mono ?_
    rintro e w1 ⟨rfl, hb⟩
    have HV1 := Lib.hid (HBX.out.1.below hb HBX.out.1.1.2.2.2)
    have HV2 := Lib.hid (HBX.out.2.1.below hb HBX.out.2.1.1.2.2.2)
    have HB := Lib.hid (HBX.out.2.2.trans (hb.mono HBX.out.2.2.size)); clear hb
    obtain ⟨v0, v1, v2, _⟩ := HV1.out.1
    obtain ⟨u0, u1, u2, _⟩ := HV2.out.1
    clear C1 HBX
    go_wp2_with fail
    go_ret
    exact ⟨rfl, HB.out⟩
  · have e1 : (op.toList == [61]) = false := by rw [h]; rfl
    have e2 : (op.toList == [61, 61]) = false := by rw [h]; rfl
    have e3 : (op.toList == [60]) = false := by rw [h]; rfl
    have e4 : (op.toList == [60, 61]) = true := by rw [h]; rfl
    have HO := HO.out
    simp only [e1, e2, e3, e4, if_pos, if_neg, Bool.false_eq_true, if_true, if_false] at HO
    clear h ho
    have hr : r = decide (t ≤ 0) := by rw [HO]
    subst hr
    clear HO
    go_enter Tryd.func41, Tryd.ntmps41
    go_wp2_with fail
    generalize ((w.alloc (.cells #[.int .i64 k, .int .i64 n', .string s'] 23)).alloc (.cells #[.int .i64 k, .int .i64 n, .string s] 23)) = wb at *
    refine (C1.out _).mono ?_
    rintro e w1 ⟨rfl, hb⟩
    have HV1 := Lib.hid (HBX.out.1.below hb HBX.out.1.1.2.2.2)
    have HV2 := Lib.hid (HBX.out.2.1.below hb HBX.out.2.1.1.2.2.2)
    have HB := Lib.hid (HBX.out.2.2.trans (hb.mono HBX.out.2.2.size)); clear hb
    obtain ⟨v0, v1, v2, _⟩ := HV1.out.1
    obtain ⟨u0, u1, u2, _⟩ := HV2.out.1
    clear C1 HBX
    go_wp2_with fail
    go_ret
    exact ⟨rfl, HB.out⟩
  · have e1 : (op.toList == [61]) = false := by rw [h]; rfl
    have e2 : (op.toList == [61, 61]) = false := by rw [h]; rfl
    have e3 : (op.toList == [60]) = false := by rw [h]; rfl
    have e4 : (op.toList == [60, 61]) = false := by rw [h]; rfl
    have e5 : (op.toList == [62]) = true := by rw [h]; rfl
    have HO := HO.out
    simp only [e1, e2, e3, e4, e5, if_pos, if_neg, Bool.false_eq_true, if_true, if_false] at HO
    clear h ho
    have hr : r = decide (0 < t) := by rw [HO]
    subst hr
    clear HO
    go_enter Tryd.func41, Tryd.ntmps41
    go_wp2_with fail
    generalize ((w.alloc (.cells #[.int .i64 k, .int .i64 n', .string s'] 23)).alloc (.cells #[.int .i64 k, .int .i64 n, .string s] 23)) = wb at *
    refine (C1.out _).mono ?_
    rintro e w1 ⟨rfl, hb⟩
    have HV1 := Lib.hid (HBX.out.1.below hb HBX.out.1.1.2.2.2)
    have HV2 := Lib.hid (HBX.out.2.1.below hb HBX.out.2.1.1.2.2.2)
    have HB := Lib.hid (HBX.out.2.2.trans (hb.mono HBX.out.2.2.size)); clear hb
    obtain ⟨v0, v1, v2, _⟩ := HV1.out.1
    obtain ⟨u0, u1, u2, _⟩ := HV2.out.1
    clear C1 HBX
    go_wp2_with fail
    go_ret
    exact ⟨rfl, HB.out⟩
  · have e1 : (op.toList == [61]) = false := by rw [h]; rfl
    have e2 : (op.toList == [61, 61]) = false := by rw [h]; rfl
    have e3 : (op.toList == [60]) = false := by rw [h]; rfl
    have e4 : (op.toList == [60, 61]) = false := by rw [h]; rfl
    have e5 : (op.toList == [62]) = false := by rw [h]; rfl
    have HO := HO.out
    simp only [e1, e2, e3, e4, e5, if_pos, if_neg, Bool.false_eq_true, if_true, if_false] at HO
    clear h ho
    have hr : r = decide (0 ≤ t) := by rw [HO]
    subst hr
    clear HO
    go_enter Tryd.func41, Tryd.ntmps41
    go_wp2_with fail
    generalize ((w.alloc (.cells #[.int .i64 k, .int .i64 n', .string s'] 23)).alloc (.cells #[.int .i64 k, .int .i64 n, .string s] 23)) = wb at *
    refine (C1.out _).mono ?_
    rintro e w1 ⟨rfl, hb⟩
    have HV1 := Lib.hid (HBX.out.1.below hb HBX.out.1.1.2.2.2)
    have HV2 := Lib.hid (HBX.out.2.1.below hb HBX.out.2.1.1.2.2.2)
    have HB := Lib.hid (HBX.out.2.2.trans (hb.mono HBX.out.2.2.size)); clear hb
    obtain ⟨v0, v1, v2, _⟩ := HV1.out.1
    obtain ⟨u0, u1, u2, _⟩ := HV2.out.1
    clear C1 HBX
    go_wp2_with fail
    go_ret
    exact ⟨rfl, HB.out⟩
end Go.Proofs.YtiddnacmopfamaaDoor
