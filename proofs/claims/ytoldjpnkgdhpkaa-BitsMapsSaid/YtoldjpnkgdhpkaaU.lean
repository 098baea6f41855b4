/- Unmap of the program. -/
import Derived.Test.YtoldjpnkgdhpkaaNtR
import Derived.Test.YtoldjpnkgdhpkaaL11
namespace Go.Proofs.Ytoldjpnkgdhpkaa
open Go.RowKit
set_option linter.unusedVariables false
set_option linter.unusedSimpArgs false

def upP (bs : List Int) (i : Nat) : Bool := ((bs.getD (i / 8) 0).toNat).testBit (i % 8)
def upI (bs : List Int) (i : Nat) : List Int := ((List.range i).filter (upP bs)).map fun (i : Nat) => (i : Int) + 1
def bytesI (bs : List Int) : Prop := ∀ x ∈ bs, 0 ≤ x ∧ x ≤ 255

theorem bit_tab : ∀ (x : Fin 256) (k : Fin 8), (bits BinOp.and IntKind.u8 (((x.val : Nat) : Int) / 2 ^ k.val) 1 == 1) = x.val.testBit k.val ∧ (bits BinOp.and IntKind.u8 (((x.val : Nat) : Int) / 2 ^ k.val) 1 == 0) = !x.val.testBit k.val := by decide +kernel
theorem bit_at {x : Int} (h0 : 0 ≤ x) (h1 : x ≤ 255) (k : Nat) (hk : k < 8) : (bits BinOp.and IntKind.u8 (x / 2 ^ k) 1 == 1) = x.toNat.testBit k ∧ (bits BinOp.and IntKind.u8 (x / 2 ^ k) 1 == 0) = !x.toNat.testBit k := by
  have h := bit_tab ⟨x.toNat, by omega⟩ ⟨k, hk⟩
  have e : ((x.toNat : Nat) : Int) = x := by omega
  simpa only [e] using h
theorem upI_yes (bs : List Int) (j : Nat) (h : upP bs j = true) : upI bs (j + 1) = upI bs j ++ [(j : Int) + 1] := by
  unfold upI; rw [List.range_succ, List.filter_append]; simp [h]
theorem upI_no (bs : List Int) (j : Nat) (h : upP bs j = false) : upI bs (j + 1) = upI bs j := by
  unfold upI; rw [List.range_succ, List.filter_append]; simp [h]
theorem upI_len (bs : List Int) (j : Nat) : (upI bs j).length ≤ j := by
  unfold upI; rw [List.length_map]; exact Nat.le_trans (List.length_filter_le _ _) (by simp)
theorem upI_mem (bs : List Int) (j : Nat) (x : Int) (h : x ∈ upI bs j) : 1 ≤ x ∧ x ≤ j := by
  unfold upI at h
  rw [List.mem_map] at h
  obtain ⟨i, hi, rfl⟩ := h
  have := List.mem_range.1 (List.mem_filter.1 hi).1
  omega
theorem asc_upI (bs : List Int) (j : Nat) : Asc (upI bs j) := by
  unfold upI
  have h : ((List.range j).filter (upP bs)).Pairwise (· < ·) := (List.pairwise_lt_range).filter _
  exact h.map _ fun a b hab => by omega
def unS (bs : List Int) (n : Int) : Bool := cntB n && decide ((bs.length : Int) = (n + 7) / 8) && isSetB n (upI bs (8 * bs.length))
def unL (bs : List Int) (n : Int) : List Int := if unS bs n then upI bs (8 * bs.length) else []
def unN (bs : List Int) (n : Int) : Int := if cntB n then (if unS bs n then 0 else 11) else 1

set_option maxHeartbeats 4000000 in
theorem unmap_any (A : Option Addr) (c : Nat) (bs : List Int) (n : Int) (w : World) (hr : Rd w w.heap.size .u8 A bs) (hl : bs.length ≤ 3000) (hok : bytesI bs) :
    Calls Try.prog 41 #[.slice A bs.length c, .int .i64 n] w (LRes w (unL bs n) (unN bs n)) := by
  have HR := Lib.hid hr; clear hr
  cases hcn : cntB n
  · have e1 : unN bs n = 1 := by simp [unN, hcn]
    have e2 : unL bs n = [] := by simp [unL, unS, hcn]
    rw [e1, e2]
    clear e1 e2
    go_enter Try.func41, Try.ntmps41
    go_wp2_with fail
    refine (isCount_any n _).mono ?_
    rintro e w' ⟨rfl, rfl⟩
    rw [hcn]
    go_wp2_with fail
    go_ret2
    exact .err rfl (Below.refl _ _)
  · obtain ⟨n, rfl, hn⟩ : ∃ N : Nat, n = N ∧ N ≤ 300 := by simp [cntB] at hcn; exact ⟨n.toNat, by omega, by omega⟩
    by_cases hlen : (bs.length : Int) = ((n : Int) + 7) / 8
    · have hd1 : ((bs.length : Int) != ((n : Int) + 7) / 8) = false := by rw [hlen]; simp
      have hsz : bs.length ≤ 38 := by omega
      have E1 : Hid (unS bs n = isSetB n (upI bs (8 * bs.length))) := Lib.hid (by simp [unS, hcn, hlen])
      have E2 := Lib.hid hcn
      clear hlen
      go_enter Try.func41, Try.ntmps41
      go_wp2_with fail
      refine (isCount_any n _).mono ?_
      rintro e w' ⟨rfl, rfl⟩
      rw [hcn]
      clear hcn
      go_wp2_with fail
      go_loopw [6, 20] (fun v i wr => ∃ j : Nat, j ≤ 8 * bs.length ∧ i = .int .i64 j ∧ Own wr w.heap.size 3 .i64 v (upI bs j) ∧ Below w.heap.size w wr) (fun _ i _ => 8 * bs.length - (intOf i).toNat)
      case atStart => exact ⟨0, by omega, rfl, Own.nil _ _ _ _, Below.refl _ _⟩
      case round =>
        obtain ⟨j, hj, rfl, hown, hb⟩ := hrel
        have HO := Lib.hid hown; clear hown
        have HB := Lib.hid hb; clear hb
        by_cases hlt : j < 8 * bs.length
        · obtain ⟨ad, rfl, _, hc⟩ := (HR.out.below HB.out) (by omega)
          have hck := hc (j / 8) (by omega)
          have HC := Lib.hid hc; clear hc
          have j1 : (0 : Int) ≤ (j : Int) / 8 := by omega
          have j2 : (j : Int) / 8 < bs.length := by omega
          have j3 : (j : Int) < 8 * (bs.length : Int) := by omega
          have hmem : 0 ≤ bs.getD (j / 8) 0 ∧ bs.getD (j / 8) 0 ≤ 255 := by
            have hj8 : j / 8 < bs.length := by omega
            rw [List.getD_eq_getElem?_getD, List.getElem?_eq_getElem hj8]
            exact hok _ (List.getElem_mem hj8)
          have hbit := (bit_at hmem.1 hmem.2 (j % 8) (by omega)).1
          have hlen' := upI_len bs j
          rcases hp : upP bs j with _ | _
          · have hd2 : (bits BinOp.and IntKind.u8 (bs.getD (j / 8) 0 / 2 ^ (j % 8)) 1 == 1) = false := by rw [hbit]; exact hp
            have HP := Lib.hid (upI_no bs j hp)
            clear hbit hp hmem
            generalize bs.getD (j / 8) 0 = x at *
            go_wp2_with fail
            go_roundw
            case rel => exact ⟨j + 1, by omega, by go_num, HO.out.of_eq HP.out.symm, HB.out⟩
            case measure => simp [intOf]; omega
          · have hd2 : (bits BinOp.and IntKind.u8 (bs.getD (j / 8) 0 / 2 ^ (j % 8)) 1 == 1) = true := by rw [hbit]; exact hp
            have HP := Lib.hid (upI_yes bs j hp)
            clear hbit hp hmem
            generalize bs.getD (j / 8) 0 = x at *
            go_wp2_with (at_builtin; refine app_int rfl _ _ rfl w.heap.size _ _ ((j : Int) + 1) rfl (HO.out.alloc _) ⟨wr.heap.size, 0, none⟩ 1 rfl (new_cell _ _ _) (by omega) (size_alloc HB.out.size _) ?_; intro v' w' hown' hb')
            go_roundw
            case rel => exact ⟨j + 1, by omega, by go_num, hown'.of_eq HP.out.symm, (HB.out.alloc HB.out.size _).trans (hb'.mono (Nat.le_refl _))⟩
            case measure => simp [intOf]; omega
        · have j3 : ¬ (j : Int) < 8 * (bs.length : Int) := by omega
          obtain rfl : j = 8 * bs.length := by omega
          obtain ⟨V, cv, rfl, hcv, _, hrv⟩ := HO.out.out
          have HV := Lib.hid hrv; clear hrv
          have hlen' := upI_len bs (8 * bs.length)
          have h64 : Hid (Is64 (upI bs (8 * bs.length))) := Lib.hid fun z hz => by have := upI_mem _ _ _ hz; omega
          go_wp2_with fail
          refine (isSet_any V cv (upI bs (8 * bs.length)) n _ _ HV.out h64.out (by omega)).mono ?_
          rintro e w' ⟨rfl, rfl⟩
          cases hs : isSetB n (upI bs (8 * bs.length))
          · have e1 : unN bs n = 11 := by simp [unN, E2.out, E1.out, hs]
            have e2 : unL bs n = [] := by simp [unL, E1.out, hs]
            have F1 := Lib.hid e1
            have F2 := Lib.hid e2
            clear e1 e2
            go_wp2_with fail
            go_ret2
            rw [F1.out, F2.out]
            exact ⟨none, 0, rfl, Own.nil _ _ _ _, HB.out⟩
          · have e1 : unN bs n = 0 := by simp [unN, E2.out, E1.out, hs]
            have e2 : unL bs n = upI bs (8 * bs.length) := by simp [unL, E1.out, hs]
            have F1 := Lib.hid e1
            have F2 := Lib.hid e2
            clear e1 e2
            go_wp2_with fail
            go_ret2
            rw [F1.out, F2.out]
            exact .ok rfl HO.out HB.out
    · have hd1 : ((bs.length : Int) != ((n : Int) + 7) / 8) = true := by simpa using hlen
      have e1 : unN bs n = 11 := by simp [unN, unS, hcn, hlen]
      have e2 : unL bs n = [] := by simp [unL, unS, hlen]
      rw [e1, e2]
      clear e1 e2 hlen
      go_enter Try.func41, Try.ntmps41
      go_wp2_with fail
      refine (isCount_any n _).mono ?_
      rintro e w' ⟨rfl, rfl⟩
      rw [hcn]
      go_wp2_with fail
      go_ret2
      exact ⟨none, 0, rfl, Own.nil _ _ _ _, Below.refl _ _⟩
end Go.Proofs.Ytoldjpnkgdhpkaa
