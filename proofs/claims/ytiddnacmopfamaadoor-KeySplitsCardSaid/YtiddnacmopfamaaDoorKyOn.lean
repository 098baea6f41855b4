/- The first value of an ascending key, read by the reference. -/
import Derived.Test.YtiddnacmopfamaaDoorKyDc
namespace Go.Proofs.YtiddnacmopfamaaDoor
open Go.RowKit
set_option linter.unusedVariables false
set_option linter.unusedSimpArgs false
set_option maxRecDepth 40000

theorem numV_app : ∀ (b a : List UInt8), numV a ≤ numV (a ++ b)
  | [], a => by simp
  | u :: b, a => by
    have h := numV_app b (a ++ [u])
    rw [numV_snoc] at h
    have e : a ++ u :: b = (a ++ [u]) ++ b := by simp
    rw [e]
    omega
theorem numV_take (l : List UInt8) (j : Nat) : numV (l.take j) ≤ numV l := by
  have h := numV_app (l.drop j) (l.take j)
  rwa [List.take_append_drop] at h

set_option maxHeartbeats 4000000 in
theorem read_any (s : ByteArray) (w : World) (hs : s.size ≤ 16) (hn : numV s.data.toList ≤ 9223372036854775807) :
    Calls Tryd.prog 79 #[.string s] w fun e w' => e = .returned (.int .i64 (numV s.data.toList)) ∧ w = w' := by
  have hl : s.data.toList.length = s.size := rfl
  have HN := Lib.hid hn; clear hn
  go_enter Tryd.func79, Tryd.ntmps79
  go_wp2_with fail
  go_loop [3, 4] (fun n i => ∃ j : Nat, j ≤ s.data.toList.length ∧ i = .int .i64 j ∧ n = .int .i64 (numV (s.data.toList.take j))) (fun _ i => s.size - (intOf i).toNat)
  case atStart => exact ⟨0, by omega, rfl, rfl⟩
  case round =>
    obtain ⟨j, hj, rfl, rfl⟩ := hrel
    by_cases hlt : j < s.data.toList.length
    · have hks : j < s.size := by omega
      have hks' : (j : Int) < s.size := by omega
      have hat := byte_at s j hks
      have htk : numV (s.data.toList.take (j + 1)) = 256 * numV (s.data.toList.take j) + (s.data.toList.getD j 0).toNat := by
        rw [List.take_succ_eq_append_getElem hlt, numV_snoc]
        have e : s.data.toList.getD j 0 = s.data.toList[j] := by rw [List.getD_eq_getElem?_getD, List.getElem?_eq_getElem hlt]; rfl
        rw [e]
      have hle := numV_take s.data.toList (j + 1)
      have hN := HN.out
      rw [htk] at hle
      have hle2 := Nat.le_trans hle hN
      clear hle hN
      generalize (s.data.toList.getD j 0) = c at *
      generalize numV (s.data.toList.take j) = x at *
      obtain ⟨Y, hY⟩ : ∃ Y : Nat, Y = 256 * x + c.toNat := ⟨_, rfl⟩
      have HY : Hid (numV (s.data.toList.take (j + 1)) = Y) := Lib.hid (by rw [htk, hY])
      have hbb := byte_lt c
      have hq1 : wrap64 (256 * (x : Int)) = 256 * (x : Int) := IntWalk.wrap64_in _ (by omega)
      have hq2 : wrap64 (256 * (x : Int) + (c.toNat : Int)) = (Y : Int) := by rw [IntWalk.wrap64_in _ (by omega)]; omega
      have hq3 : IntKind.i64.wrap (c.toNat : Int) = (c.toNat : Int) := IntWalk.i64_in _ (by omega)
      have i1 : (x : Int) ≤ 36028797018963967 := by omega
      have i2 : 256 * (x : Int) + (c.toNat : Int) ≤ 9223372036854775807 := by omega
      have HYI : Hid (256 * (x : Int) + (c.toNat : Int) = (Y : Int)) := Lib.hid (by omega)
      clear hY htk hle2 hl
      go_wp2_with fail
      go_round
      case rel => exact ⟨j + 1, by omega, by go_num, by rw [HY.out]; first | rfl | rw [HYI.out]⟩
      case measure => simp [intOf]; omega
    · have hkl : j = s.data.toList.length := by omega
      have hks : j = s.size := by omega
      have i2 : ¬ (j : Int) < s.size := by omega
      rw [hkl, List.take_length]
      clear hkl hlt
      have i3 : ¬ (s.data.toList.length : Int) < s.size := by omega
      go_wp2_with fail
      go_ret
      exact ⟨rfl, rfl⟩

theorem ext1 (s : ByteArray) (m : Nat) (h : m ≤ s.size) (h1 : 1 ≤ m) : (s.extract 1 m).data.toList = (s.data.toList.drop 1).take (m - 1) := by
  rw [ByteArray.data_extract, Array.toList_extract]

set_option maxHeartbeats 2000000 in
theorem one_1 (s : ByteArray) (w : World) (hs : s.size ≤ 200000) (h0 : 0 < s.size) (hu : (s.data.toList.getD 0 0).toNat = 1) :
    Calls Tryd.prog 56 #[.string s] w (OneR w (numO 1 (s.data.toList.drop 1))) := by
  have hl : s.data.toList.length = s.size := rfl
  have hat := byte_at s 0 h0
  rw [hu] at hat
  have hem : s.toList.isEmpty = false := by
    rw [Lib.toList_data]
    cases hq : s.data.toList with
    | nil => rw [hq] at hl; simp at hl; omega
    | cons a b => rfl
  have h00 : (0 : Int) < s.size := by omega
  have hvr := VW.new w 0 0 nos 23
  have hB : Below w.heap.size w (w.alloc (.cells #[.int .i64 0, .int .i64 0, .string nos] 23)) := (Below.refl _ _).alloc (Nat.le_refl _) _
  have HVR := Lib.hid hvr
  have HB := Lib.hid hB
  clear hvr hB
  have HO : Hid (numO 1 (s.data.toList.drop 1) = if s.data.toList.length - 1 < 1 then none else if numV ((s.data.toList.drop 1).take 1) ≤ 2000000000000000 ∧ vE 1 ((numV ((s.data.toList.drop 1).take 1) : Int) - 0) nos = 0 then some ((1 : Int), (numV ((s.data.toList.drop 1).take 1) : Int) - 0, nos, 1 + 1) else none) := Lib.hid (by
    unfold numO
    have e1 : nbS ((1 : Nat) : Int) = 1 := rfl
    have e2 : nbA ((1 : Nat) : Int) = 0 := rfl
    rw [List.length_drop, e1, e2]; rfl)
  generalize numO 1 (s.data.toList.drop 1) = o at *
  by_cases hlt : s.size < 2
  · have i1 : (s.size : Int) < 2 := by omega
    have HN2 : Hid (o = none) := Lib.hid (by rw [HO.out, if_pos (by omega)])
    clear hu
    go_enter Tryd.func56, Tryd.ntmps56
    go_wp2_with fail
    rw [show (⟨#[]⟩ : ByteArray) = nos from rfl]
    exact bodyPost_ret (v := .tuple #[vv 0 0 nos, .int .i64 0]) (by simp [results, Tryd.results56, go_sem]) rfl ⟨0, 0, nos, 0, rfl, by (repeat (first | exact HB.out | exact Below.refl _ _ | (refine Below.drew ?_) | (refine Below.setCell ?_ (by first | exact Nat.le_refl _ | simp) _) | (refine Below.alloc ?_ (Nat.le_refl _) _))), .inr ⟨rfl, HN2.out⟩⟩
  have i1 : ¬ (s.size : Int) < 2 := by omega
  have hexl := ext1 s 2 (by omega) (by omega)
  have hexs : (s.extract 1 2).size ≤ 16 := by
    have : (s.extract 1 2).size = (s.extract 1 2).data.toList.length := rfl
    rw [this, hexl]; simp; omega
  have hmx : numV ((s.data.toList.drop 1).take 1) ≤ 9223372036854775807 := by
    have h := numV_lt 1 ((s.data.toList.drop 1).take 1) (by simp; omega)
    have e : 256 ^ 1 ≤ 9223372036854775807 := by decide
    omega
  have HRD := Lib.hid (fun W => read_any (s.extract 1 2) W hexs (by rw [hexl]; exact hmx))
  rw [hexl] at HRD
  generalize numV ((s.data.toList.drop 1).take 1) = x at *
  obtain ⟨N, hN⟩ : ∃ N : Int, N = (x : Int) - 0 := ⟨_, rfl⟩
  have HV := Lib.hid (fun W => refValidate_any 1 N nos W (by decide))
  have HO2 : Hid (o = if vE 1 N nos = 0 then some ((1 : Int), N, nos, 2) else none) := Lib.hid (by
    rw [HO.out, if_neg (by omega), ← hN]
    by_cases hv : vE 1 N nos = 0
    · have hvn := valid_num hv (by omega)
      have e2 : nbA (1 : Int) = 0 := rfl
      rw [e2] at hvn
      rw [if_pos ⟨by omega, hv⟩, if_pos hv]
    · rw [if_neg (fun h => hv h.2), if_neg hv])
  have hN3 : wrap64 ((x : Int) - 0) = N := by rw [hN]; exact IntWalk.wrap64_in _ (by omega)
  have i5 : (x : Int) ≤ 9223372036854775807 := by omega
  have hNx : N = (x : Int) := by omega
  rw [hNx] at HV HO2
  have hem2 : w.heap.size < w.heap.size + 1 := by omega
  clear hu hN hexl hexs hmx
  by_cases hv : vE 1 (x : Int) nos = 0
  · have HR : Hid (o = some ((1 : Int), (x : Int), nos, 2)) := Lib.hid (by rw [HO2.out, if_pos hv])
    rw [hv] at HV
    clear hv
    go_enter Tryd.func56, Tryd.ntmps56
    go_wp2_with fail
    rw [show (⟨#[]⟩ : ByteArray) = nos from rfl]
    go_region_with (go_at_call 79; ((with_reducible refine (HRD.out _).mono ?_); rintro e w' ⟨rfl, rfl⟩))
    all_goals go_wp2_with fail
    all_goals (refine (HV.out _).mono ?_; rintro e w1 ⟨rfl, hb1⟩; obtain ⟨hcc, hff⟩ := bcell hb1; have hsz1 := hb1.size; simp at hsz1; have hsz2 : w.heap.size < w1.heap.size := (by omega); have hsz3 : w.heap.size + 1 < w1.heap.size := (by omega); have c0 : w1.cell? ⟨w.heap.size, 0, none⟩ = some (.int .i64 0) := (by rw [hcc _ _ (by first | (simp; done) | (simp; omega))]; simp); have c1 : w1.cell? ⟨w.heap.size, 1, none⟩ = some (.int .i64 0) := (by rw [hcc _ _ (by first | (simp; done) | (simp; omega))]; simp); have c2 : w1.cell? ⟨w.heap.size, 2, none⟩ = some (.string nos) := (by rw [hcc _ _ (by first | (simp; done) | (simp; omega))]; simp); have d0 : w1.cell? ⟨w.heap.size + 1, 0, none⟩ = some (.int .i64 1) := (by rw [hcc _ _ (by first | (simp; done) | (simp; omega))]; simp); have d1 : w1.cell? ⟨w.heap.size + 1, 1, none⟩ = some (.int .i64 (x : Int)) := (by rw [hcc _ _ (by first | (simp; done) | (simp; omega))]; simp [*]); have d2 : w1.cell? ⟨w.heap.size + 1, 2, none⟩ = some (.string nos) := (by rw [hcc _ _ (by first | (simp; done) | (simp; omega))]; simp); have f0 : w1.frozen? ⟨w.heap.size, 0, none⟩ = false := (by rw [hff _ _ (by first | (simp; done) | (simp; omega))]; simp); have f1 : w1.frozen? ⟨w.heap.size, 1, none⟩ = false := (by rw [hff _ _ (by first | (simp; done) | (simp; omega))]; simp); have f2 : w1.frozen? ⟨w.heap.size, 2, none⟩ = false := (by rw [hff _ _ (by first | (simp; done) | (simp; omega))]; simp); clear hcc hff)
    all_goals go_wp2_with fail
    all_goals exact bodyPost_ret (v := .tuple #[vv 1 (x : Int) nos, .int .i64 2]) (by simp [results, Tryd.results56, go_sem, c0, c1, c2, d0, d1, d2]) rfl ⟨1, (x : Int), nos, 2, rfl, by (repeat (first | exact HB.out | exact Below.refl _ _ | (refine Below.drew ?_) | (refine Below.setCell ?_ (by first | exact Nat.le_refl _ | simp) _) | (refine Below.alloc ?_ (by first | exact Nat.le_refl _ | simp) _) | (refine Below.trans ?_ (hb1.mono (by first | (simp; omega) | simp))))), .inl ⟨by omega, HR.out⟩⟩
  · have HR : Hid (o = none) := Lib.hid (by rw [HO2.out, if_neg hv])
    generalize vE 1 (x : Int) nos = v at *
    have hv' : (v != 0) = true := by simpa using hv
    clear hv
    go_enter Tryd.func56, Tryd.ntmps56
    go_wp2_with fail
    rw [show (⟨#[]⟩ : ByteArray) = nos from rfl]
    go_region_with (go_at_call 79; ((with_reducible refine (HRD.out _).mono ?_); rintro e w' ⟨rfl, rfl⟩))
    all_goals go_wp2_with fail
    all_goals (refine (HV.out _).mono ?_; rintro e w1 ⟨rfl, hb1⟩; obtain ⟨hcc, hff⟩ := bcell hb1; have hsz1 := hb1.size; simp at hsz1; have hsz2 : w.heap.size < w1.heap.size := (by omega); have hsz3 : w.heap.size + 1 < w1.heap.size := (by omega); have c0 : w1.cell? ⟨w.heap.size, 0, none⟩ = some (.int .i64 0) := (by rw [hcc _ _ (by first | (simp; done) | (simp; omega))]; simp); have c1 : w1.cell? ⟨w.heap.size, 1, none⟩ = some (.int .i64 0) := (by rw [hcc _ _ (by first | (simp; done) | (simp; omega))]; simp); have c2 : w1.cell? ⟨w.heap.size, 2, none⟩ = some (.string nos) := (by rw [hcc _ _ (by first | (simp; done) | (simp; omega))]; simp); have d0 : w1.cell? ⟨w.heap.size + 1, 0, none⟩ = some (.int .i64 1) := (by rw [hcc _ _ (by first | (simp; done) | (simp; omega))]; simp); have d1 : w1.cell? ⟨w.heap.size + 1, 1, none⟩ = some (.int .i64 (x : Int)) := (by rw [hcc _ _ (by first | (simp; done) | (simp; omega))]; simp [*]); have d2 : w1.cell? ⟨w.heap.size + 1, 2, none⟩ = some (.string nos) := (by rw [hcc _ _ (by first | (simp; done) | (simp; omega))]; simp); have f0 : w1.frozen? ⟨w.heap.size, 0, none⟩ = false := (by rw [hff _ _ (by first | (simp; done) | (simp; omega))]; simp); have f1 : w1.frozen? ⟨w.heap.size, 1, none⟩ = false := (by rw [hff _ _ (by first | (simp; done) | (simp; omega))]; simp); have f2 : w1.frozen? ⟨w.heap.size, 2, none⟩ = false := (by rw [hff _ _ (by first | (simp; done) | (simp; omega))]; simp); clear hcc hff)
    all_goals go_wp2_with fail
    all_goals exact bodyPost_ret (v := .tuple #[vv 0 0 nos, .int .i64 0]) (by simp [results, Tryd.results56, go_sem, c0, c1, c2, d0, d1, d2]) rfl ⟨0, 0, nos, 0, rfl, by (repeat (first | exact HB.out | exact Below.refl _ _ | (refine Below.drew ?_) | (refine Below.setCell ?_ (by first | exact Nat.le_refl _ | simp) _) | (refine Below.alloc ?_ (by first | exact Nat.le_refl _ | simp) _) | (refine Below.trans ?_ (hb1.mono (by first | (simp; omega) | simp))))), .inr ⟨rfl, HR.out⟩⟩

set_option maxHeartbeats 2000000 in
theorem one_2 (s : ByteArray) (w : World) (hs : s.size ≤ 200000) (h0 : 0 < s.size) (hu : (s.data.toList.getD 0 0).toNat = 2) :
    Calls Tryd.prog 56 #[.string s] w (OneR w (numO 2 (s.data.toList.drop 1))) := by
  have hl : s.data.toList.length = s.size := rfl
  have hat := byte_at s 0 h0
  rw [hu] at hat
  have hem : s.toList.isEmpty = false := by
    rw [Lib.toList_data]
    cases hq : s.data.toList with
    | nil => rw [hq] at hl; simp at hl; omega
    | cons a b => rfl
  have h00 : (0 : Int) < s.size := by omega
  have hvr := VW.new w 0 0 nos 23
  have hB : Below w.heap.size w (w.alloc (.cells #[.int .i64 0, .int .i64 0, .string nos] 23)) := (Below.refl _ _).alloc (Nat.le_refl _) _
  have HVR := Lib.hid hvr
  have HB := Lib.hid hB
  clear hvr hB
  have HO : Hid (numO 2 (s.data.toList.drop 1) = if s.data.toList.length - 1 < 8 then none else if numV ((s.data.toList.drop 1).take 8) ≤ 2000000000000000 ∧ vE 2 ((numV ((s.data.toList.drop 1).take 8) : Int) - 1000000000000000) nos = 0 then some ((2 : Int), (numV ((s.data.toList.drop 1).take 8) : Int) - 1000000000000000, nos, 1 + 8) else none) := Lib.hid (by
    unfold numO
    have e1 : nbS ((2 : Nat) : Int) = 8 := rfl
    have e2 : nbA ((2 : Nat) : Int) = 1000000000000000 := rfl
    rw [List.length_drop, e1, e2]; rfl)
  generalize numO 2 (s.data.toList.drop 1) = o at *
  by_cases hlt : s.size < 9
  · have i1 : (s.size : Int) < 9 := by omega
    have HN2 : Hid (o = none) := Lib.hid (by rw [HO.out, if_pos (by omega)])
    clear hu
    go_enter Tryd.func56, Tryd.ntmps56
    go_wp2_with fail
    rw [show (⟨#[]⟩ : ByteArray) = nos from rfl]
    exact bodyPost_ret (v := .tuple #[vv 0 0 nos, .int .i64 0]) (by simp [results, Tryd.results56, go_sem]) rfl ⟨0, 0, nos, 0, rfl, by (repeat (first | exact HB.out | exact Below.refl _ _ | (refine Below.drew ?_) | (refine Below.setCell ?_ (by first | exact Nat.le_refl _ | simp) _) | (refine Below.alloc ?_ (Nat.le_refl _) _))), .inr ⟨rfl, HN2.out⟩⟩
  have i1 : ¬ (s.size : Int) < 9 := by omega
  have hexl := ext1 s 9 (by omega) (by omega)
  have hexs : (s.extract 1 9).size ≤ 16 := by
    have : (s.extract 1 9).size = (s.extract 1 9).data.toList.length := rfl
    rw [this, hexl]; simp; omega
  have hat1 := byte_at s 1 (by omega)
  have hbig : 127 < (s.data.toList.getD 1 0).toNat → 9223372036854775808 ≤ numV ((s.data.toList.drop 1).take 8) := by
    intro h
    have e : (s.data.toList.drop 1).take 8 = s.data.toList.getD 1 0 :: ((s.data.toList.drop 1).take 8).drop 1 := by
      rw [dropU (l := s.data.toList) (i := 1) (by omega)]; rfl
    rw [e]
    have h7 : (((s.data.toList.drop 1).take 8).drop 1).length = 7 := by simp; omega
    have key : ∀ (b : List UInt8) (a : Nat), (b.foldl (fun n u => 256 * n + u.toNat) a) ≥ a * 256 ^ b.length := by
      intro b
      induction b with
      | nil => intro a; simp
      | cons v b ih =>
        intro a
        have := ih (256 * a + v.toNat)
        rw [List.foldl_cons, List.length_cons, Nat.pow_succ]
        calc a * (256 ^ b.length * 256) = 256 * a * 256 ^ b.length := by rw [Nat.mul_comm (256 ^ b.length) 256, ← Nat.mul_assoc, Nat.mul_comm a 256]
          _ ≤ (256 * a + v.toNat) * 256 ^ b.length := Nat.mul_le_mul_right _ (by omega)
          _ ≤ _ := this
    have := key (((s.data.toList.drop 1).take 8).drop 1) (s.data.toList.getD 1 0).toNat
    rw [h7] at this
    have e7 : 256 ^ 7 = 72057594037927936 := by decide
    unfold numV
    rw [List.foldl_cons]
    rw [e7] at this
    have e0 : 256 * 0 + (s.data.toList.getD 1 0).toNat = (s.data.toList.getD 1 0).toNat := by omega
    rw [e0]
    omega
  have hsm : (s.data.toList.getD 1 0).toNat ≤ 127 → numV ((s.data.toList.drop 1).take 8) ≤ 9223372036854775807 := by
    intro h
    have e : (s.data.toList.drop 1).take 8 = s.data.toList.getD 1 0 :: ((s.data.toList.drop 1).take 8).drop 1 := by
      rw [dropU (l := s.data.toList) (i := 1) (by omega)]; rfl
    rw [e]
    have h7 : (((s.data.toList.drop 1).take 8).drop 1).length = 7 := by simp; omega
    have key : ∀ (b : List UInt8) (a : Nat), (b.foldl (fun n u => 256 * n + u.toNat) a) < (a + 1) * 256 ^ b.length := by
      intro b
      induction b with
      | nil => intro a; simp
      | cons v b ih =>
        intro a
        have := ih (256 * a + v.toNat)
        have hv := v.toNat_lt
        rw [List.foldl_cons, List.length_cons, Nat.pow_succ]
        refine Nat.lt_of_lt_of_le this ?_
        rw [Nat.mul_comm (256 ^ b.length) 256, ← Nat.mul_assoc]
        exact Nat.mul_le_mul_right _ (by omega)
    have := key (((s.data.toList.drop 1).take 8).drop 1) (s.data.toList.getD 1 0).toNat
    rw [h7] at this
    have e7 : 256 ^ 7 = 72057594037927936 := by decide
    unfold numV
    rw [List.foldl_cons]
    rw [e7] at this
    have e0 : 256 * 0 + (s.data.toList.getD 1 0).toNat = (s.data.toList.getD 1 0).toNat := by omega
    rw [e0]
    omega
  have i1s : (1 : Int) < s.size := by omega
  by_cases hf : 127 < (s.data.toList.getD 1 0).toNat
  · have i3 : (127 : Int) < ((s.data.toList.getD 1 0).toNat : Int) := by omega
    have HN2 : Hid (o = none) := Lib.hid (by rw [HO.out, if_neg (by omega), if_neg (fun h => by have := hbig hf; omega)])
    clear hu hbig hsm hf hexl hexs
    generalize (s.data.toList.getD 1 0) = c at *
    go_enter Tryd.func56, Tryd.ntmps56
    go_wp2_with fail
    rw [show (⟨#[]⟩ : ByteArray) = nos from rfl]
    exact bodyPost_ret (v := .tuple #[vv 0 0 nos, .int .i64 0]) (by simp [results, Tryd.results56, go_sem]) rfl ⟨0, 0, nos, 0, rfl, by (repeat (first | exact HB.out | exact Below.refl _ _ | (refine Below.drew ?_) | (refine Below.setCell ?_ (by first | exact Nat.le_refl _ | simp) _) | (refine Below.alloc ?_ (Nat.le_refl _) _))), .inr ⟨rfl, HN2.out⟩⟩
  have i3 : ¬ (127 : Int) < ((s.data.toList.getD 1 0).toNat : Int) := by omega
  have hmx := hsm (by omega)
  clear hbig hsm hf
  generalize (s.data.toList.getD 1 0) = c at *
  have HRD := Lib.hid (fun W => read_any (s.extract 1 9) W hexs (by rw [hexl]; exact hmx))
  rw [hexl] at HRD
  generalize numV ((s.data.toList.drop 1).take 8) = x at *
  obtain ⟨N, hN⟩ : ∃ N : Int, N = (x : Int) - 1000000000000000 := ⟨_, rfl⟩
  have HV := Lib.hid (fun W => refValidate_any 2 N nos W (by decide))
  have HO2 : Hid (o = if vE 2 N nos = 0 then some ((2 : Int), N, nos, 9) else none) := Lib.hid (by
    rw [HO.out, if_neg (by omega), ← hN]
    by_cases hv : vE 2 N nos = 0
    · have hvn := valid_num hv (by omega)
      have e2 : nbA (2 : Int) = 1000000000000000 := rfl
      rw [e2] at hvn
      rw [if_pos ⟨by omega, hv⟩, if_pos hv]
    · rw [if_neg (fun h => hv h.2), if_neg hv])
  have hN3 : wrap64 ((x : Int) - 1000000000000000) = N := by rw [hN]; exact IntWalk.wrap64_in _ (by omega)
  have i5 : (x : Int) ≤ 9223372036854775807 := by omega
  have hN4 : (x : Int) - 1000000000000000 = N := hN.symm
  have hem2 : w.heap.size < w.heap.size + 1 := by omega
  clear hu hN hexl hexs hmx
  by_cases hv : vE 2 N nos = 0
  · have HR : Hid (o = some ((2 : Int), N, nos, 9)) := Lib.hid (by rw [HO2.out, if_pos hv])
    rw [hv] at HV
    clear hv
    go_enter Tryd.func56, Tryd.ntmps56
    go_wp2_with fail
    rw [show (⟨#[]⟩ : ByteArray) = nos from rfl]
    go_region_with (go_at_call 79; ((with_reducible refine (HRD.out _).mono ?_); rintro e w' ⟨rfl, rfl⟩))
    all_goals go_wp2_with fail
    all_goals (refine (HV.out _).mono ?_; rintro e w1 ⟨rfl, hb1⟩; obtain ⟨hcc, hff⟩ := bcell hb1; have hsz1 := hb1.size; simp at hsz1; have hsz2 : w.heap.size < w1.heap.size := (by omega); have hsz3 : w.heap.size + 1 < w1.heap.size := (by omega); have c0 : w1.cell? ⟨w.heap.size, 0, none⟩ = some (.int .i64 0) := (by rw [hcc _ _ (by first | (simp; done) | (simp; omega))]; simp); have c1 : w1.cell? ⟨w.heap.size, 1, none⟩ = some (.int .i64 0) := (by rw [hcc _ _ (by first | (simp; done) | (simp; omega))]; simp); have c2 : w1.cell? ⟨w.heap.size, 2, none⟩ = some (.string nos) := (by rw [hcc _ _ (by first | (simp; done) | (simp; omega))]; simp); have d0 : w1.cell? ⟨w.heap.size + 1, 0, none⟩ = some (.int .i64 2) := (by rw [hcc _ _ (by first | (simp; done) | (simp; omega))]; simp); have d1 : w1.cell? ⟨w.heap.size + 1, 1, none⟩ = some (.int .i64 N) := (by rw [hcc _ _ (by first | (simp; done) | (simp; omega))]; simp [*]); have d2 : w1.cell? ⟨w.heap.size + 1, 2, none⟩ = some (.string nos) := (by rw [hcc _ _ (by first | (simp; done) | (simp; omega))]; simp); have f0 : w1.frozen? ⟨w.heap.size, 0, none⟩ = false := (by rw [hff _ _ (by first | (simp; done) | (simp; omega))]; simp); have f1 : w1.frozen? ⟨w.heap.size, 1, none⟩ = false := (by rw [hff _ _ (by first | (simp; done) | (simp; omega))]; simp); have f2 : w1.frozen? ⟨w.heap.size, 2, none⟩ = false := (by rw [hff _ _ (by first | (simp; done) | (simp; omega))]; simp); clear hcc hff)
    all_goals go_wp2_with fail
    all_goals exact bodyPost_ret (v := .tuple #[vv 2 N nos, .int .i64 9]) (by simp [results, Tryd.results56, go_sem, c0, c1, c2, d0, d1, d2]) rfl ⟨2, N, nos, 9, rfl, by (repeat (first | exact HB.out | exact Below.refl _ _ | (refine Below.drew ?_) | (refine Below.setCell ?_ (by first | exact Nat.le_refl _ | simp) _) | (refine Below.alloc ?_ (by first | exact Nat.le_refl _ | simp) _) | (refine Below.trans ?_ (hb1.mono (by first | (simp; omega) | simp))))), .inl ⟨by omega, HR.out⟩⟩
  · have HR : Hid (o = none) := Lib.hid (by rw [HO2.out, if_neg hv])
    generalize vE 2 N nos = v at *
    have hv' : (v != 0) = true := by simpa using hv
    clear hv
    go_enter Tryd.func56, Tryd.ntmps56
    go_wp2_with fail
    rw [show (⟨#[]⟩ : ByteArray) = nos from rfl]
    go_region_with (go_at_call 79; ((with_reducible refine (HRD.out _).mono ?_); rintro e w' ⟨rfl, rfl⟩))
    all_goals go_wp2_with fail
    all_goals (refine (HV.out _).mono ?_; rintro e w1 ⟨rfl, hb1⟩; obtain ⟨hcc, hff⟩ := bcell hb1; have hsz1 := hb1.size; simp at hsz1; have hsz2 : w.heap.size < w1.heap.size := (by omega); have hsz3 : w.heap.size + 1 < w1.heap.size := (by omega); have c0 : w1.cell? ⟨w.heap.size, 0, none⟩ = some (.int .i64 0) := (by rw [hcc _ _ (by first | (simp; done) | (simp; omega))]; simp); have c1 : w1.cell? ⟨w.heap.size, 1, none⟩ = some (.int .i64 0) := (by rw [hcc _ _ (by first | (simp; done) | (simp; omega))]; simp); have c2 : w1.cell? ⟨w.heap.size, 2, none⟩ = some (.string nos) := (by rw [hcc _ _ (by first | (simp; done) | (simp; omega))]; simp); have d0 : w1.cell? ⟨w.heap.size + 1, 0, none⟩ = some (.int .i64 2) := (by rw [hcc _ _ (by first | (simp; done) | (simp; omega))]; simp); have d1 : w1.cell? ⟨w.heap.size + 1, 1, none⟩ = some (.int .i64 N) := (by rw [hcc _ _ (by first | (simp; done) | (simp; omega))]; simp [*]); have d2 : w1.cell? ⟨w.heap.size + 1, 2, none⟩ = some (.string nos) := (by rw [hcc _ _ (by first | (simp; done) | (simp; omega))]; simp); have f0 : w1.frozen? ⟨w.heap.size, 0, none⟩ = false := (by rw [hff _ _ (by first | (simp; done) | (simp; omega))]; simp); have f1 : w1.frozen? ⟨w.heap.size, 1, none⟩ = false := (by rw [hff _ _ (by first | (simp; done) | (simp; omega))]; simp); have f2 : w1.frozen? ⟨w.heap.size, 2, none⟩ = false := (by rw [hff _ _ (by first | (simp; done) | (simp; omega))]; simp); clear hcc hff)
    all_goals go_wp2_with fail
    all_goals exact bodyPost_ret (v := .tuple #[vv 0 0 nos, .int .i64 0]) (by simp [results, Tryd.results56, go_sem, c0, c1, c2, d0, d1, d2]) rfl ⟨0, 0, nos, 0, rfl, by (repeat (first | exact HB.out | exact Below.refl _ _ | (refine Below.drew ?_) | (refine Below.setCell ?_ (by first | exact Nat.le_refl _ | simp) _) | (refine Below.alloc ?_ (by first | exact Nat.le_refl _ | simp) _) | (refine Below.trans ?_ (hb1.mono (by first | (simp; omega) | simp))))), .inr ⟨rfl, HR.out⟩⟩

set_option maxHeartbeats 2000000 in
theorem one_3 (s : ByteArray) (w : World) (hs : s.size ≤ 200000) (h0 : 0 < s.size) (hu : (s.data.toList.getD 0 0).toNat = 3) :
    Calls Tryd.prog 56 #[.string s] w (OneR w (numO 3 (s.data.toList.drop 1))) := by
  have hl : s.data.toList.length = s.size := rfl
  have hat := byte_at s 0 h0
  rw [hu] at hat
  have hem : s.toList.isEmpty = false := by
    rw [Lib.toList_data]
    cases hq : s.data.toList with
    | nil => rw [hq] at hl; simp at hl; omega
    | cons a b => rfl
  have h00 : (0 : Int) < s.size := by omega
  have hvr := VW.new w 0 0 nos 23
  have hB : Below w.heap.size w (w.alloc (.cells #[.int .i64 0, .int .i64 0, .string nos] 23)) := (Below.refl _ _).alloc (Nat.le_refl _) _
  have HVR := Lib.hid hvr
  have HB := Lib.hid hB
  clear hvr hB
  have HO : Hid (numO 3 (s.data.toList.drop 1) = if s.data.toList.length - 1 < 4 then none else if numV ((s.data.toList.drop 1).take 4) ≤ 2000000000000000 ∧ vE 3 ((numV ((s.data.toList.drop 1).take 4) : Int) - 0) nos = 0 then some ((3 : Int), (numV ((s.data.toList.drop 1).take 4) : Int) - 0, nos, 1 + 4) else none) := Lib.hid (by
    unfold numO
    have e1 : nbS ((3 : Nat) : Int) = 4 := rfl
    have e2 : nbA ((3 : Nat) : Int) = 0 := rfl
    rw [List.length_drop, e1, e2]; rfl)
  generalize numO 3 (s.data.toList.drop 1) = o at *
  by_cases hlt : s.size < 5
  · have i1 : (s.size : Int) < 5 := by omega
    have HN2 : Hid (o = none) := Lib.hid (by rw [HO.out, if_pos (by omega)])
    clear hu
    go_enter Tryd.func56, Tryd.ntmps56
    go_wp2_with fail
    rw [show (⟨#[]⟩ : ByteArray) = nos from rfl]
    exact bodyPost_ret (v := .tuple #[vv 0 0 nos, .int .i64 0]) (by simp [results, Tryd.results56, go_sem]) rfl ⟨0, 0, nos, 0, rfl, by (repeat (first | exact HB.out | exact Below.refl _ _ | (refine Below.drew ?_) | (refine Below.setCell ?_ (by first | exact Nat.le_refl _ | simp) _) | (refine Below.alloc ?_ (Nat.le_refl _) _))), .inr ⟨rfl, HN2.out⟩⟩
  have i1 : ¬ (s.size : Int) < 5 := by omega
  have hexl := ext1 s 5 (by omega) (by omega)
  have hexs : (s.extract 1 5).size ≤ 16 := by
    have : (s.extract 1 5).size = (s.extract 1 5).data.toList.length := rfl
    rw [this, hexl]; simp; omega
  have hmx : numV ((s.data.toList.drop 1).take 4) ≤ 9223372036854775807 := by
    have h := numV_lt 4 ((s.data.toList.drop 1).take 4) (by simp; omega)
    have e : 256 ^ 4 ≤ 9223372036854775807 := by decide
    omega
  have HRD := Lib.hid (fun W => read_any (s.extract 1 5) W hexs (by rw [hexl]; exact hmx))
  rw [hexl] at HRD
  generalize numV ((s.data.toList.drop 1).take 4) = x at *
  obtain ⟨N, hN⟩ : ∃ N : Int, N = (x : Int) - 0 := ⟨_, rfl⟩
  have HV := Lib.hid (fun W => refValidate_any 3 N nos W (by decide))
  have HO2 : Hid (o = if vE 3 N nos = 0 then some ((3 : Int), N, nos, 5) else none) := Lib.hid (by
    rw [HO.out, if_neg (by omega), ← hN]
    by_cases hv : vE 3 N nos = 0
    · have hvn := valid_num hv (by omega)
      have e2 : nbA (3 : Int) = 0 := rfl
      rw [e2] at hvn
      rw [if_pos ⟨by omega, hv⟩, if_pos hv]
    · rw [if_neg (fun h => hv h.2), if_neg hv])
  have hN3 : wrap64 ((x : Int) - 0) = N := by rw [hN]; exact IntWalk.wrap64_in _ (by omega)
  have i5 : (x : Int) ≤ 9223372036854775807 := by omega
  have hNx : N = (x : Int) := by omega
  rw [hNx] at HV HO2
  have hem2 : w.heap.size < w.heap.size + 1 := by omega
  clear hu hN hexl hexs hmx
  by_cases hv : vE 3 (x : Int) nos = 0
  · have HR : Hid (o = some ((3 : Int), (x : Int), nos, 5)) := Lib.hid (by rw [HO2.out, if_pos hv])
    rw [hv] at HV
    clear hv
    go_enter Tryd.func56, Tryd.ntmps56
    go_wp2_with fail
    rw [show (⟨#[]⟩ : ByteArray) = nos from rfl]
    go_region_with (go_at_call 79; ((with_reducible refine (HRD.out _).mono ?_); rintro e w' ⟨rfl, rfl⟩))
    all_goals go_wp2_with fail
    all_goals (refine (HV.out _).mono ?_; rintro e w1 ⟨rfl, hb1⟩; obtain ⟨hcc, hff⟩ := bcell hb1; have hsz1 := hb1.size; simp at hsz1; have hsz2 : w.heap.size < w1.heap.size := (by omega); have hsz3 : w.heap.size + 1 < w1.heap.size := (by omega); have c0 : w1.cell? ⟨w.heap.size, 0, none⟩ = some (.int .i64 0) := (by rw [hcc _ _ (by first | (simp; done) | (simp; omega))]; simp); have c1 : w1.cell? ⟨w.heap.size, 1, none⟩ = some (.int .i64 0) := (by rw [hcc _ _ (by first | (simp; done) | (simp; omega))]; simp); have c2 : w1.cell? ⟨w.heap.size, 2, none⟩ = some (.string nos) := (by rw [hcc _ _ (by first | (simp; done) | (simp; omega))]; simp); have d0 : w1.cell? ⟨w.heap.size + 1, 0, none⟩ = some (.int .i64 3) := (by rw [hcc _ _ (by first | (simp; done) | (simp; omega))]; simp); have d1 : w1.cell? ⟨w.heap.size + 1, 1, none⟩ = some (.int .i64 (x : Int)) := (by rw [hcc _ _ (by first | (simp; done) | (simp; omega))]; simp [*]); have d2 : w1.cell? ⟨w.heap.size + 1, 2, none⟩ = some (.string nos) := (by rw [hcc _ _ (by first | (simp; done) | (simp; omega))]; simp); have f0 : w1.frozen? ⟨w.heap.size, 0, none⟩ = false := (by rw [hff _ _ (by first | (simp; done) | (simp; omega))]; simp); have f1 : w1.frozen? ⟨w.heap.size, 1, none⟩ = false := (by rw [hff _ _ (by first | (simp; done) | (simp; omega))]; simp); have f2 : w1.frozen? ⟨w.heap.size, 2, none⟩ = false := (by rw [hff _ _ (by first | (simp; done) | (simp; omega))]; simp); clear hcc hff)
    all_goals go_wp2_with fail
    all_goals exact bodyPost_ret (v := .tuple #[vv 3 (x : Int) nos, .int .i64 5]) (by simp [results, Tryd.results56, go_sem, c0, c1, c2, d0, d1, d2]) rfl ⟨3, (x : Int), nos, 5, rfl, by (repeat (first | exact HB.out | exact Below.refl _ _ | (refine Below.drew ?_) | (refine Below.setCell ?_ (by first | exact Nat.le_refl _ | simp) _) | (refine Below.alloc ?_ (by first | exact Nat.le_refl _ | simp) _) | (refine Below.trans ?_ (hb1.mono (by first | (simp; omega) | simp))))), .inl ⟨by omega, HR.out⟩⟩
  · have HR : Hid (o = none) := Lib.hid (by rw [HO2.out, if_neg hv])
    generalize vE 3 (x : Int) nos = v at *
    have hv' : (v != 0) = true := by simpa using hv
    clear hv
    go_enter Tryd.func56, Tryd.ntmps56
    go_wp2_with fail
    rw [show (⟨#[]⟩ : ByteArray) = nos from rfl]
    go_region_with (go_at_call 79; ((with_reducible refine (HRD.out _).mono ?_); rintro e w' ⟨rfl, rfl⟩))
    all_goals go_wp2_with fail
    all_goals (refine (HV.out _).mono ?_; rintro e w1 ⟨rfl, hb1⟩; obtain ⟨hcc, hff⟩ := bcell hb1; have hsz1 := hb1.size; simp at hsz1; have hsz2 : w.heap.size < w1.heap.size := (by omega); have hsz3 : w.heap.size + 1 < w1.heap.size := (by omega); have c0 : w1.cell? ⟨w.heap.size, 0, none⟩ = some (.int .i64 0) := (by rw [hcc _ _ (by first | (simp; done) | (simp; omega))]; simp); have c1 : w1.cell? ⟨w.heap.size, 1, none⟩ = some (.int .i64 0) := (by rw [hcc _ _ (by first | (simp; done) | (simp; omega))]; simp); have c2 : w1.cell? ⟨w.heap.size, 2, none⟩ = some (.string nos) := (by rw [hcc _ _ (by first | (simp; done) | (simp; omega))]; simp); have d0 : w1.cell? ⟨w.heap.size + 1, 0, none⟩ = some (.int .i64 3) := (by rw [hcc _ _ (by first | (simp; done) | (simp; omega))]; simp); have d1 : w1.cell? ⟨w.heap.size + 1, 1, none⟩ = some (.int .i64 (x : Int)) := (by rw [hcc _ _ (by first | (simp; done) | (simp; omega))]; simp [*]); have d2 : w1.cell? ⟨w.heap.size + 1, 2, none⟩ = some (.string nos) := (by rw [hcc _ _ (by first | (simp; done) | (simp; omega))]; simp); have f0 : w1.frozen? ⟨w.heap.size, 0, none⟩ = false := (by rw [hff _ _ (by first | (simp; done) | (simp; omega))]; simp); have f1 : w1.frozen? ⟨w.heap.size, 1, none⟩ = false := (by rw [hff _ _ (by first | (simp; done) | (simp; omega))]; simp); have f2 : w1.frozen? ⟨w.heap.size, 2, none⟩ = false := (by rw [hff _ _ (by first | (simp; done) | (simp; omega))]; simp); clear hcc hff)
    all_goals go_wp2_with fail
    all_goals exact bodyPost_ret (v := .tuple #[vv 0 0 nos, .int .i64 0]) (by simp [results, Tryd.results56, go_sem, c0, c1, c2, d0, d1, d2]) rfl ⟨0, 0, nos, 0, rfl, by (repeat (first | exact HB.out | exact Below.refl _ _ | (refine Below.drew ?_) | (refine Below.setCell ?_ (by first | exact Nat.le_refl _ | simp) _) | (refine Below.alloc ?_ (by first | exact Nat.le_refl _ | simp) _) | (refine Below.trans ?_ (hb1.mono (by first | (simp; omega) | simp))))), .inr ⟨rfl, HR.out⟩⟩
end Go.Proofs.YtiddnacmopfamaaDoor
