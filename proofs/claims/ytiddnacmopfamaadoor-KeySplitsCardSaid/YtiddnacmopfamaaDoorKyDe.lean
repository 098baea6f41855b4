/- Decode of the reference; the walk of KeyDecodes. -/
import Derived.Test.YtiddnacmopfamaaDoorKyOn
import Derived.Test.YtiddnacmopfamaaDoorKvAll
namespace Go.Proofs.YtiddnacmopfamaaDoor
open Go.RowKit
set_option linter.unusedVariables false
set_option linter.unusedSimpArgs false
set_option maxRecDepth 40000

theorem numO_0 (r : List UInt8) : numO 0 r = some (0, 0, nos, 1) := by
  unfold numO
  have e1 : nbS ((0 : Nat) : Int) = 0 := rfl
  have e2 : nbA ((0 : Nat) : Int) = 0 := rfl
  rw [e1, e2, if_neg (by omega), List.take_zero]
  have e3 : numV [] = 0 := rfl
  rw [e3]
  have e4 : vE ((0 : Nat) : Int) (((0 : Nat) : Int) - 0) nos = 0 := by
    unfold vE
    have e5 : nos.toList.isEmpty = true := by rw [Lib.toList_data]; rfl
    rw [if_neg (by decide), e5]; rfl
  rw [if_pos ⟨by omega, e4⟩]
  rfl
theorem numO_big (u : Nat) (h : 5 ≤ u) (r : List UInt8) : numO u r = none := by
  unfold numO
  have e1 : nbS (u : Int) = 0 := by unfold nbS; rw [if_neg (by omega), if_neg (by omega), if_neg (by omega)]
  rw [e1, if_neg (by omega), List.take_zero]
  rw [if_neg]
  rintro ⟨_, h2⟩
  have := valid_num h2 (by omega)
  omega

set_option maxHeartbeats 4000000 in
theorem one_any (s : ByteArray) (w : World) (hs : s.size ≤ 200000) :
    Calls Tryd.prog 56 #[.string s] w (OneR w (decO s.data.toList)) := by
  have hl : s.data.toList.length = s.size := rfl
  by_cases h0 : s.size = 0
  · obtain ⟨rfl, h2⟩ := empty_of h0
    have hd : decO nos.data.toList = none := by unfold decO; rw [h2, if_pos rfl]
    rw [hd]
    clear hd h2 hl hs h0
    have hb0 : Below w.heap.size w (w.alloc (.cells #[.int .i64 0, .int .i64 0, .string nos] 23)) := (Below.refl _ _).alloc (Nat.le_refl _) _
    have hem : nos.toList = [] := by rw [Lib.toList_data]
    go_enter Tryd.func56, Tryd.ntmps56
    rw [show (⟨#[]⟩ : ByteArray) = nos from rfl]
    go_wp2_with fail
    exact bodyPost_ret (v := .tuple #[vv 0 0 nos, .int .i64 0]) (by simp [results, Tryd.results56, go_sem]) rfl ⟨0, 0, nos, 0, rfl, by (repeat (first | exact hb0 | exact Below.refl _ _ | (refine Below.drew ?_) | (refine Below.setCell ?_ (by first | exact Nat.le_refl _ | simp) _) | (refine Below.alloc ?_ (Nat.le_refl _) _))), .inr ⟨rfl, rfl⟩⟩
  have hne : s.data.toList ≠ [] := by intro e; rw [e] at hl; simp at hl; omega
  by_cases h4 : (s.data.toList.getD 0 0).toNat = 4
  · have hd : decO s.data.toList = txO s.data.toList := by unfold decO; rw [if_neg hne, if_pos h4]
    rw [hd]
    have hat := byte_at s 0 (by omega)
    rw [h4] at hat
    have hem : s.toList.isEmpty = false := by
      rw [Lib.toList_data]
      cases hq : s.data.toList with
      | nil => exact absurd hq hne
      | cons a b => rfl
    have h00 : (0 : Int) < s.size := by omega
    have HC := Lib.hid (fun W => refText_any s W hs)
    generalize txO s.data.toList = o at *
    have hvr := VW.new w 0 0 nos 23
    have hB : Below w.heap.size w (w.alloc (.cells #[.int .i64 0, .int .i64 0, .string nos] 23)) := (Below.refl _ _).alloc (Nat.le_refl _) _
    have HVR := Lib.hid hvr
    have HB := Lib.hid hB
    clear hvr hB hne hd h4
    go_enter Tryd.func56, Tryd.ntmps56
    go_wp2_with fail
    rw [show (⟨#[]⟩ : ByteArray) = nos from rfl]
    generalize w.alloc (.cells #[.int .i64 0, .int .i64 0, .string nos] 23) = wb at *
    refine (HC.out _).mono ?_
    rintro e w1 ⟨k, n, t, m, rfl, hb1, hcs⟩
    have HV1 := Lib.hid (HVR.out.below hb1 HVR.out.1.2.2.2)
    have HB1 := Lib.hid (HB.out.trans (hb1.mono HB.out.size)); clear hb1
    have HCS := Lib.hid hcs; clear hcs
    obtain ⟨⟨c0, c1, c2, _⟩, f0, f1, f2⟩ := HV1.out
    go_wp2_with fail
    exact bodyPost_ret (v := .tuple #[vv k n t, .int .i64 m]) (by simp [results, Tryd.results56, go_sem, c0, c1, c2]) rfl ⟨k, n, t, m, rfl, by (repeat (first | exact HB1.out | (refine Below.drew ?_) | (refine Below.setCell ?_ (by first | exact Nat.le_refl _ | simp) _))), HCS.out⟩
  have hd : decO s.data.toList = numO (s.data.toList.getD 0 0).toNat (s.data.toList.drop 1) := by unfold decO; rw [if_neg hne, if_neg h4]
  rw [hd]
  by_cases h1 : (s.data.toList.getD 0 0).toNat = 1
  · rw [h1]; exact one_1 s w hs (by omega) h1
  by_cases h2 : (s.data.toList.getD 0 0).toNat = 2
  · rw [h2]; exact one_2 s w hs (by omega) h2
  by_cases h3 : (s.data.toList.getD 0 0).toNat = 3
  · rw [h3]; exact one_3 s w hs (by omega) h3
  have hp : 0 < s.size := Nat.pos_of_ne_zero h0
  have hat := byte_at s 0 hp
  have hem : s.toList.isEmpty = false := by
    rw [Lib.toList_data]
    cases hq : s.data.toList with
    | nil => exact absurd hq hne
    | cons a b => rfl
  have h00 : (0 : Int) < s.size := by omega
  have hb0 : Below w.heap.size w (w.alloc (.cells #[.int .i64 0, .int .i64 0, .string nos] 23)) := (Below.refl _ _).alloc (Nat.le_refl _) _
  have hlu := byte_lt (s.data.toList.getD 0 0)
  clear hd hne
  generalize (s.data.toList.getD 0 0).toNat = u at hat hlu h1 h2 h3 h4 ⊢
  by_cases hz : u = 0
  · subst hz
    rw [numO_0]
    clear h1 h2 h3 h4
    go_enter Tryd.func56, Tryd.ntmps56
    rw [show (⟨#[]⟩ : ByteArray) = nos from rfl]
    go_wp2_with fail
    exact bodyPost_ret (v := .tuple #[vv 0 0 nos, .int .i64 1]) (by simp [results, Tryd.results56, go_sem]) rfl ⟨0, 0, nos, 1, rfl, by (repeat (first | exact hb0 | exact Below.refl _ _ | (refine Below.drew ?_) | (refine Below.setCell ?_ (by first | exact Nat.le_refl _ | simp) _) | (refine Below.alloc ?_ (Nat.le_refl _) _))), .inl ⟨by omega, rfl⟩⟩
  · rw [numO_big u (by omega)]
    have k0 : ((u : Int) == 0) = false := by rw [beq_eq_false_iff_ne]; omega
    have k1 : ((u : Int) == 1) = false := by rw [beq_eq_false_iff_ne]; omega
    have k2 : ((u : Int) == 2) = false := by rw [beq_eq_false_iff_ne]; omega
    have k3 : ((u : Int) == 3) = false := by rw [beq_eq_false_iff_ne]; omega
    have k4 : ((u : Int) == 4) = false := by rw [beq_eq_false_iff_ne]; omega
    clear h1 h2 h3 h4 hz
    go_enter Tryd.func56, Tryd.ntmps56
    rw [show (⟨#[]⟩ : ByteArray) = nos from rfl]
    go_wp2_with fail
    exact bodyPost_ret (v := .tuple #[vv 0 0 nos, .int .i64 0]) (by simp [results, Tryd.results56, go_sem]) rfl ⟨0, 0, nos, 0, rfl, by (repeat (first | exact hb0 | exact Below.refl _ _ | (refine Below.drew ?_) | (refine Below.setCell ?_ (by first | exact Nat.le_refl _ | simp) _) | (refine Below.alloc ?_ (Nat.le_refl _) _))), .inr ⟨rfl, rfl⟩⟩

set_option maxHeartbeats 8000000 in
theorem refDecode_any (s : ByteArray) (d : Bool) (w : World) (hs : s.size ≤ 200000) :
    Calls Tryd.prog 19 #[.string s, .bool d] w (VRes w (dcV (turnS d s).data.toList (decO (turnS d s).data.toList)) (dcE (turnS d s).data.toList (decO (turnS d s).data.toList))) := by
  have HT := Lib.hid (fun W => refTurned_any s d W hs)
  have hz := turnS_size d s
  have HC := Lib.hid (fun W => one_any (turnS d s) W (by omega))
  have hl : (turnS d s).data.toList.length = s.size := hz
  generalize turnS d s = t at *
  have HL := Lib.hid hl; clear hl
  have hvr := VW.new w 0 0 nos 23
  have hB : Below w.heap.size w (w.alloc (.cells #[.int .i64 0, .int .i64 0, .string nos] 23)) := (Below.refl _ _).alloc (Nat.le_refl _) _
  have HVR := Lib.hid hvr
  have HB := Lib.hid hB
  clear hvr hB hz
  go_enter Tryd.func19, Tryd.ntmps19
  go_wp2_with fail
  rw [show (⟨#[]⟩ : ByteArray) = nos from rfl]
  generalize w.alloc (.cells #[.int .i64 0, .int .i64 0, .string nos] 23) = wb at *
  refine (HT.out _).mono ?_
  rintro e w1 ⟨rfl, hb1⟩
  have HV1 := Lib.hid (HVR.out.below hb1 HVR.out.1.2.2.2)
  have HB1 := Lib.hid (HB.out.trans (hb1.mono HB.out.size)); clear hb1
  go_wp2_with fail
  refine (HC.out _).mono ?_
  rintro e w2 ⟨k, n, u, m, rfl, hb2, hcs⟩
  have HV2 := Lib.hid (HV1.out.below hb2 HV1.out.1.2.2.2)
  have HB2 := Lib.hid (HB1.out.trans (hb2.mono HB1.out.size)); clear hb2
  have hsz : w.heap.size < w2.heap.size := HV2.out.1.2.2.2
  obtain ⟨⟨c0, c1, c2, _⟩, f0, f1, f2⟩ := HV2.out
  rcases hcs with ⟨hm0, ho⟩ | ⟨rfl, ho⟩
  · have hm2 : ((m : Int) == 0) = false := by rw [beq_eq_false_iff_ne]; omega
    by_cases hm : m = s.size
    · have hm1 : ((m : Int) != (s.size : Int)) = false := by rw [hm]; simp
      have HE : Hid (dcE t.data.toList (decO t.data.toList) = 0 ∧ dcV t.data.toList (decO t.data.toList) = (k, n, u)) := Lib.hid (by rw [ho]; unfold dcE dcV; simp only; rw [HL.out, if_pos hm, if_pos hm]; exact ⟨rfl, rfl⟩)
      clear hm ho hm0
      go_wp2_with fail
      exact bodyPost_ret (v := .tuple #[vv k n u, .int .i64 0]) (by simp [results, Tryd.results19, go_sem, c0, c1, c2, f0, f1, f2, hsz]) rfl ⟨by rw [HE.out.1, HE.out.2], by (repeat (first | exact HB2.out | (refine Below.drew ?_) | (refine Below.setCell ?_ (by first | exact Nat.le_refl _ | simp) _) | (refine Below.alloc ?_ (by have := HB2.out.size; simp; try omega) _)))⟩
    · have hm1 : ((m : Int) != (s.size : Int)) = true := by rw [bne_iff_ne]; omega
      have HE : Hid (dcE t.data.toList (decO t.data.toList) = 11 ∧ dcV t.data.toList (decO t.data.toList) = (0, 0, nos)) := Lib.hid (by rw [ho]; unfold dcE dcV; simp only; rw [HL.out, if_neg hm, if_neg hm]; exact ⟨rfl, rfl⟩)
      clear hm ho hm0
      go_wp2_with fail
      exact bodyPost_ret (v := .tuple #[vv 0 0 nos, .int .i64 11]) (by simp [results, Tryd.results19, go_sem, c0, c1, c2, f0, f1, f2, hsz]) rfl ⟨by rw [HE.out.1, HE.out.2], by (repeat (first | exact HB2.out | (refine Below.drew ?_) | (refine Below.setCell ?_ (by first | exact Nat.le_refl _ | simp) _) | (refine Below.alloc ?_ (by have := HB2.out.size; simp; try omega) _)))⟩
  · have HE : Hid (dcE t.data.toList (decO t.data.toList) = 11 ∧ dcV t.data.toList (decO t.data.toList) = (0, 0, nos)) := Lib.hid (by rw [ho]; exact ⟨rfl, rfl⟩)
    clear ho
    go_wp2_with fail
    exact bodyPost_ret (v := .tuple #[vv 0 0 nos, .int .i64 11]) (by simp [results, Tryd.results19, go_sem, c0, c1, c2, f0, f1, f2, hsz]) rfl ⟨by rw [HE.out.1, HE.out.2], by (repeat (first | exact HB2.out | (refine Below.drew ?_) | (refine Below.setCell ?_ (by first | exact Nat.le_refl _ | simp) _) | (refine Below.alloc ?_ (by have := HB2.out.size; simp; try omega) _)))⟩

set_option maxHeartbeats 8000000 in
theorem keyDecodes_any (s : ByteArray) (d : Bool) (w : World) (he : Env w) (hs : s.size ≤ 140737488355328) :
    Calls Tryd.prog 4 #[.string s, .bool d] w fun e w' => e = .returned (.bool true) ∧ Below w.heap.size w w' := by
  have HE := Lib.hid he; clear he
  have C0 := Lib.hid (fun W h => known_any W h)
  by_cases hl : 40000 < s.size
  · have i1 : (40000 : Int) < s.size := by omega
    go_enter Tryd.func4, Tryd.ntmps4
    go_wp2_with fail
    refine (C0.out _ HE.out).mono ?_
    rintro e w4 ⟨rfl, hb4⟩
    have HB4 := Lib.hid hb4; clear hb4
    go_wp2_with fail
    go_ret
    exact ⟨rfl, HB4.out⟩
  · have i1 : ¬ (40000 : Int) < s.size := by omega
    have C1 := Lib.hid (fun W => Decode_any s d W (by omega))
    have C2 := Lib.hid (fun W => refDecode_any s d W (by omega))
    generalize dcV (turnS d s).data.toList (decO (turnS d s).data.toList) = v at *
    generalize dcE (turnS d s).data.toList (decO (turnS d s).data.toList) = r at *
    obtain ⟨k, n, t⟩ := v
    go_enter Tryd.func4, Tryd.ntmps4
    go_wp2_with fail
    refine (C1.out _).mono ?_
    rintro e w1 ⟨rfl, hb1⟩
    have HE1 := Lib.hid (HE.out.below hb1 (Nat.le_refl _))
    have HB1 := Lib.hid hb1; clear hb1
    have HV1 := Lib.hid (VCell.new w1 k n t 23)
    have HE1' := Lib.hid (HE1.out.below (Below.of_alloc w1 (.cells #[.int .i64 k, .int .i64 n, .string t] 23) _ (Nat.le_refl _)) (Nat.le_refl _))
    have HB1' := Lib.hid (HB1.out.alloc HB1.out.size (.cells #[.int .i64 k, .int .i64 n, .string t] 23))
    go_wp2_with fail
    generalize w1.alloc (.cells #[.int .i64 k, .int .i64 n, .string t] 23) = wa at *
    refine (C2.out _).mono ?_
    rintro e w2 ⟨rfl, hb2⟩
    have HE2 := Lib.hid (HE1'.out.below hb2 (Nat.le_refl _))
    have HB2 := Lib.hid (HB1'.out.trans (hb2.mono HB1'.out.size))
    have HV2 := Lib.hid (HV1.out.below hb2 HV1.out.2.2.2); clear hb2
    have HE2' := Lib.hid (HE2.out.below (Below.of_alloc w2 (.cells #[.int .i64 k, .int .i64 n, .string t] 23) _ (Nat.le_refl _)) (Nat.le_refl _))
    have HB2' := Lib.hid (HB2.out.alloc HB2.out.size (.cells #[.int .i64 k, .int .i64 n, .string t] 23))
    obtain ⟨v0, v1, v2, hvs⟩ := HV2.out
    have HSM := Lib.hid (fun W => Same_self k n t W)
    go_wp2_with fail
    refine (HSM.out _).mono ?_
    rintro e w3 ⟨rfl, hb3⟩
    have HE3 := Lib.hid (HE2'.out.below hb3 (Nat.le_refl _))
    have HB3 := Lib.hid (HB2'.out.trans (hb3.mono HB2'.out.size)); clear hb3
    go_wp2_with fail
    refine (C0.out _ HE3.out).mono ?_
    rintro e w4 ⟨rfl, hb4⟩
    have HB4 := Lib.hid (HB3.out.trans (hb4.mono HB3.out.size)); clear hb4
    go_wp2_with fail
    go_ret
    exact ⟨rfl, HB4.out⟩
end Go.Proofs.YtiddnacmopfamaaDoor
