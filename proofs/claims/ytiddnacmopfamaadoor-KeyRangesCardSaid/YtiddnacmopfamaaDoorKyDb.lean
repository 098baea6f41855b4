/- The first value of an ascending key, read by the program. -/
import Derived.Test.YtiddnacmopfamaaDoorKyDa
import Derived.Laws.BitsAllLaws
namespace Go.Proofs.YtiddnacmopfamaaDoor
open Go.RowKit
set_option linter.unusedVariables false
set_option linter.unusedSimpArgs false
set_option maxRecDepth 40000

def numO (u : Nat) (r : List UInt8) : Option (Int × Int × ByteArray × Nat) :=
  if r.length < nbS u then none else if numV (r.take (nbS u)) ≤ 2000000000000000 ∧ vE u ((numV (r.take (nbS u)) : Int) - nbA u) nos = 0 then some (u, (numV (r.take (nbS u)) : Int) - nbA u, nos, 1 + nbS u) else none
def decO (l : List UInt8) : Option (Int × Int × ByteArray × Nat) :=
  if l = [] then none else if (l.getD 0 0).toNat = 4 then txO l else numO (l.getD 0 0).toNat (l.drop 1)

theorem or_low (x c X Y : Nat) (hX : X = 256 * x) (hY : Y = 256 * x + c) (hx : x < 72057594037927936) (hc : c < 256) : bits .or .u64 (X : Int) (c : Int) = (Y : Int) := by
  rw [u64_or_nat X c (by omega) (by omega)]
  subst hX hY
  have h := Nat.two_pow_add_eq_or_of_lt (i := 8) (b := c) (by omega) x
  have e : 2 ^ 8 * x = 256 * x := rfl
  rw [e] at h
  rw [h]

set_option maxHeartbeats 8000000 in
theorem decode_num (s : ByteArray) (w : World) (hs : s.size ≤ 200000) (h0 : 0 < s.size) (h4 : (s.data.toList.getD 0 0).toNat ≠ 4) :
    Calls Tryd.prog 55 #[.string s] w (DecR w (numO (s.data.toList.getD 0 0).toNat (s.data.toList.drop 1))) := by
  have hl : s.data.toList.length = s.size := rfl
  have hat := byte_at s 0 h0
  have hbb := byte_lt (s.data.toList.getD 0 0)
  have hne : s.toList.isEmpty = false := by
    rw [Lib.toList_data]
    cases hq : s.data.toList with
    | nil => rw [hq] at hl; simp at hl; omega
    | cons a b => rfl
  generalize (s.data.toList.getD 0 0).toNat = u at *
  have h4' : ((u : Int) == 4) = false := by rw [beq_eq_false_iff_ne]; omega
  have HN := Lib.hid (fun W => numberBytes_any u W)
  have hS := nbS_le u
  have h00 : (0 : Int) < s.size := by omega
  have HO : Hid (numO u (s.data.toList.drop 1) = if s.data.toList.length - 1 < nbS u then none else if numV ((s.data.toList.drop 1).take (nbS u)) ≤ 2000000000000000 ∧ vE u ((numV ((s.data.toList.drop 1).take (nbS u)) : Int) - nbA u) nos = 0 then some ((u : Int), (numV ((s.data.toList.drop 1).take (nbS u)) : Int) - nbA u, nos, 1 + nbS u) else none) := Lib.hid (by unfold numO; rw [List.length_drop])
  generalize numO u (s.data.toList.drop 1) = o at *
  generalize nbS u = z at *
  obtain ⟨a, hae'⟩ : ∃ a, nbA u = a := ⟨_, rfl⟩
  rw [hae'] at HN HO
  have hae := Lib.hid hae'; clear hae'
  clear h4
  go_enter Tryd.func55, Tryd.ntmps55
  go_wp2_with fail
  refine (HN.out _).mono ?_
  rintro e w1 ⟨rfl, rfl⟩
  have hvr := VW.new w 0 0 nos 23
  have hvw := VW.new (w.alloc (.cells #[.int .i64 0, .int .i64 0, .string nos] 23)) u 0 nos 23
  have hz1 : (w.alloc (.cells #[.int .i64 0, .int .i64 0, .string nos] 23)).heap.size = w.heap.size + 1 := by simp
  have hb2 := Below.of_alloc (w.alloc (.cells #[.int .i64 0, .int .i64 0, .string nos] 23)) (.cells #[.int .i64 u, .int .i64 0, .string nos] 23) _ (Nat.le_refl _)
  have hvr2 := hvr.below hb2 (by rw [hz1]; omega)
  have hB : Below w.heap.size w ((w.alloc (.cells #[.int .i64 0, .int .i64 0, .string nos] 23)).alloc (.cells #[.int .i64 u, .int .i64 0, .string nos] 23)) := ((Below.refl _ _).alloc (Nat.le_refl _) _).alloc (by simp) _
  rw [hz1] at hvw
  have hz2 : ((w.alloc (.cells #[.int .i64 0, .int .i64 0, .string nos] 23)).alloc (.cells #[.int .i64 u, .int .i64 0, .string nos] 23)).heap.size = w.heap.size + 2 := by simp
  have HVR := Lib.hid hvr2
  have HVW := Lib.hid hvw
  have HB := Lib.hid hB
  have HZ2 := Lib.hid hz2
  clear hvr hvw hz1 hb2 hvr2 hB hz2
  by_cases hlt : s.size < 1 + z
  · have i1 : (s.size : Int) < 1 + (z : Int) := by omega
    have HN2 : Hid (o = none) := Lib.hid (by rw [HO.out, if_pos (by omega)])
    rw [show (⟨#[]⟩ : ByteArray) = nos from rfl]
    generalize (w.alloc (.cells #[.int .i64 0, .int .i64 0, .string nos] 23)).alloc (.cells #[.int .i64 u, .int .i64 0, .string nos] 23) = wb at *
    obtain ⟨⟨c0, c1, c2, _⟩, f0, f1, f2⟩ := HVR.out
    go_wp2_with fail
    exact bodyPost_ret (v := .tuple #[vv 0 0 nos, .int .i64 0, .bool false]) (by simp [results, Tryd.results55, go_sem, c0, c1, c2]) rfl ⟨0, 0, nos, 0, false, rfl, ((HB.out.setCell (Nat.le_refl _) _).setCell (Nat.le_refl _) _).setCell (Nat.le_refl _) _, .inr ⟨rfl, HN2.out⟩⟩
  · have i1 : ¬ (s.size : Int) < 1 + (z : Int) := by omega
    rw [show (⟨#[]⟩ : ByteArray) = nos from rfl]
    generalize (w.alloc (.cells #[.int .i64 0, .int .i64 0, .string nos] 23)).alloc (.cells #[.int .i64 u, .int .i64 0, .string nos] 23) = wb at *
    have hrl : (s.data.toList.drop 1).length = s.data.toList.length - 1 := by simp
    have hgd : Hid (∀ j, (s.data.toList.drop 1).getD j 0 = s.data.toList.getD (1 + j) 0) := Lib.hid (fun j => by rw [List.getD_eq_getElem?_getD, List.getElem?_drop, ← List.getD_eq_getElem?_getD])
    have HATS : Hid (∀ j (h : 1 + j < s.size), (s[1 + j]'h).toNat = (s.data.toList.getD (1 + j) 0).toNat) := Lib.hid (fun j h => byte_at s (1 + j) h)
    obtain ⟨r, hr⟩ : ∃ r, r = s.data.toList.drop 1 := ⟨_, rfl⟩
    rw [← hr] at HO hrl hgd
    clear hr
    go_wp2_with fail
    go_loop [8, 38] (fun n i => ∃ j : Nat, j ≤ z ∧ i = .int .i64 j ∧ n = .int .u64 (numV (r.take j))) (fun _ i => z - (intOf i).toNat)
    case atStart => exact ⟨0, by omega, rfl, rfl⟩
    case round =>
      obtain ⟨j, hj, rfl, rfl⟩ := hrel
      have hnv := numV_lt j (r.take j) (by rw [List.length_take]; omega)
      by_cases hjz : j < z
      · have i2 : (j : Int) < z := by omega
        have hp8 : 256 ^ j ≤ 256 ^ 7 := Nat.pow_le_pow_right (by omega) (by omega)
        have e7 : 256 ^ 7 = 72057594037927936 := by decide
        have htk : numV (r.take (j + 1)) = 256 * numV (r.take j) + (s.data.toList.getD (1 + j) 0).toNat := by
          rw [List.take_succ_eq_append_getElem (by omega), numV_snoc]
          have e : r[j]'(by omega) = s.data.toList.getD (1 + j) 0 := by
            rw [← hgd.out j]; simp [List.getD, show j < r.length by omega]
          rw [e]
        have hat2 := HATS.out j (by omega)
        have hbb2 := byte_lt (s.data.toList.getD (1 + j) 0)
        have hks : 1 + j < s.size := by omega
        have hks' : 1 + (j : Int) < s.size := by omega
        generalize (s.data.toList.getD (1 + j) 0) = c at *
        generalize numV (r.take j) = x at *
        obtain ⟨X, hX⟩ : ∃ X : Nat, X = 256 * x := ⟨_, rfl⟩
        obtain ⟨Y, hY⟩ : ∃ Y : Nat, Y = 256 * x + c.toNat := ⟨_, rfl⟩
        have hw1 : IntKind.u64.wrap ((x : Int) * 256) = (X : Int) := by rw [IntWalk.u64_in _ (by omega)]; omega
        have hw2 : IntKind.u64.wrap (c.toNat : Int) = (c.toNat : Int) := IntWalk.u64_in _ (by omega)
        have hor : bits .or .u64 (X : Int) (c.toNat : Int) = (Y : Int) := or_low x c.toNat X Y hX hY (by omega) hbb2
        have HY : Hid (numV (r.take (j + 1)) = Y) := Lib.hid (by rw [htk, hY])
        clear hp8 e7 hnv hX hY htk
        go_wp2_with fail
        go_round
        case rel => exact ⟨j + 1, by omega, by go_num, by rw [HY.out]⟩
        case measure => simp [intOf]; omega
      · have hjz' : j = z := by omega
        subst hjz'
        have i2 : ¬ (j : Int) < j := by omega
        generalize numV (r.take j) = x at *
        obtain ⟨M, hM⟩ : ∃ M, wrap64 (x : Int) = M := ⟨_, rfl⟩
        obtain ⟨N, hN⟩ : ∃ N, wrap64 (M - a) = N := ⟨_, rfl⟩
        obtain ⟨⟨c0, c1, c2, _⟩, f0, f1, f2⟩ := HVR.out
        obtain ⟨⟨d0, d1, d2, _⟩, g0, g1, g2⟩ := HVW.out
        have hsz : w.heap.size + 1 < wb.heap.size := by have := HZ2.out; omega
        by_cases hx : x ≤ 2000000000000000
        · have i4 : (x : Int) ≤ 2000000000000000 := by omega
          have i5 : decide ((x : Int) ≤ 2000000000000000) = true := decide_eq_true i4
          have hM2 : M = (x : Int) := by rw [← hM]; exact IntWalk.wrap64_in _ (by omega)
          have ha : a = 0 ∨ a = 1000000000000000 := by rw [← hae.out]; unfold nbA; split <;> omega
          have hN2 : N = (x : Int) - a := by rw [← hN, hM2]; exact IntWalk.wrap64_in _ (by omega)
          have HO2 : Hid (o = if vE u N nos = 0 then some ((u : Int), N, nos, 1 + j) else none) := Lib.hid (by
            rw [HO.out, if_neg (by omega), hN2]
            by_cases hv : vE u ((x : Int) - a) nos = 0
            · rw [if_pos ⟨hx, hv⟩, if_pos hv]
            · rw [if_neg (fun h => hv h.2), if_neg hv])
          have HVA := Lib.hid (fun W => validate_any u N nos W (by decide))
          have hsz0 : w.heap.size < wb.heap.size := by omega
          have hN3 : wrap64 ((x : Int) - a) = N := by rw [hN2]; exact IntWalk.wrap64_in _ (by omega)
          clear hx hnv hM2 hN2 ha hN hM
          by_cases hv : vE u N nos = 0
          · have HR : Hid (o = some ((u : Int), N, nos, 1 + j)) := Lib.hid (by rw [HO2.out, if_pos hv])
            rw [hv] at HVA
            clear hv
            go_wp2_with fail
            go_region_with (go_at_call 73; ((with_reducible refine (HVA.out _).mono ?_); rintro e w' ⟨rfl, hb⟩; obtain ⟨hcc, hff⟩ := bcell hb))
            all_goals go_wp2_with fail
            all_goals exact bodyPost_ret (v := .tuple #[vv u N nos, .int .i64 ((1 + j : Nat) : Int), .bool true]) (by simp [results, Tryd.results55, go_sem, c0, c1, c2, d0, d1, d2, hcc, hsz, hsz0]; exact IntWalk.i64_in _ (by omega)) rfl ⟨u, N, nos, 1 + j, true, rfl, by (repeat (first | exact HB.out | (refine Below.drew ?_) | (refine Below.setCell ?_ (by first | exact Nat.le_refl _ | simp) _) | (refine Below.trans ?_ (hb.mono (by first | (simp; omega) | omega))))), .inl ⟨rfl, HR.out⟩⟩
          · have HR : Hid (o = none) := Lib.hid (by rw [HO2.out, if_neg hv])
            generalize vE u N nos = v at *
            have hv' : (v == 0) = false := by simpa using hv
            clear hv
            go_wp2_with fail
            go_region_with (go_at_call 73; ((with_reducible refine (HVA.out _).mono ?_); rintro e w' ⟨rfl, hb⟩; obtain ⟨hcc, hff⟩ := bcell hb))
            all_goals go_wp2_with fail
            all_goals exact bodyPost_ret (v := .tuple #[vv u N nos, .int .i64 ((1 + j : Nat) : Int), .bool false]) (by simp [results, Tryd.results55, go_sem, c0, c1, c2, d0, d1, d2, hcc, hsz, hsz0]; exact IntWalk.i64_in _ (by omega)) rfl ⟨u, N, nos, 1 + j, false, rfl, by (repeat (first | exact HB.out | (refine Below.drew ?_) | (refine Below.setCell ?_ (by first | exact Nat.le_refl _ | simp) _) | (refine Below.trans ?_ (hb.mono (by first | (simp; omega) | omega))))), .inr ⟨rfl, HR.out⟩⟩
        · have i4 : ¬ (x : Int) ≤ 2000000000000000 := by omega
          have i5 : decide ((x : Int) ≤ 2000000000000000) = false := decide_eq_false i4
          have HN2 : Hid (o = none) := Lib.hid (by rw [HO.out, if_neg (by omega), if_neg (fun h => hx h.1)])
          clear hx hnv
          go_wp2_with fail
          go_region
          all_goals go_wp2_with fail
          all_goals exact bodyPost_ret (v := .tuple #[vv u N nos, .int .i64 ((1 + j : Nat) : Int), .bool false]) (by simp [results, Tryd.results55, go_sem, c0, c1, c2, d0, d1, d2]) rfl ⟨u, N, nos, 1 + j, false, rfl, by (repeat (first | exact HB.out | (refine Below.drew ?_) | (refine Below.setCell ?_ (by first | exact Nat.le_refl _ | simp) _))), .inr ⟨rfl, HN2.out⟩⟩
end Go.Proofs.YtiddnacmopfamaaDoor
