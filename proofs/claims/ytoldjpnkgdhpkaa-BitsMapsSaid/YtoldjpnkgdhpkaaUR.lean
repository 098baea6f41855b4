/- Unmap of the reference. -/
import Derived.Test.YtoldjpnkgdhpkaaU
import Derived.Test.YtoldjpnkgdhpkaaNtR
namespace Go.Proofs.Ytoldjpnkgdhpkaa
open Go.RowKit
set_option linter.unusedVariables false
set_option linter.unusedSimpArgs false

theorem upI_more (bs : List Int) {j k : Nat} (h : j ≤ k) {x : Int} (hx : x ∈ upI bs j) : x ∈ upI bs k := by
  unfold upI at *
  rw [List.mem_map] at *
  obtain ⟨i, hi, rfl⟩ := hx
  rw [List.mem_filter, List.mem_range] at hi
  exact ⟨i, List.mem_filter.2 ⟨List.mem_range.2 (by omega), hi.2⟩, rfl⟩
theorem upI_in (bs : List Int) {j : Nat} (h : upP bs j = true) : ((j : Int) + 1) ∈ upI bs (j + 1) := by rw [upI_yes bs j h]; simp
theorem setB_all {bs : List Int} {n : Int} {k : Nat} (h : ∀ x ∈ upI bs k, x ≤ n) : isSetB n (upI bs k) = true :=
  (isSetB_iff n _).2 ⟨fun x hx => ⟨(upI_mem _ _ _ hx).1, h x hx⟩, asc_upI _ _⟩
theorem setB_not {bs : List Int} {n : Int} {k j : Nat} (h : upP bs j = true) (hj : j + 1 ≤ k) (hn : n < (j : Int) + 1) : isSetB n (upI bs k) = false := by
  cases hs : isSetB n (upI bs k)
  · rfl
  · have := ((isSetB_iff n _).1 hs).1 _ (upI_more bs hj (upI_in bs h)); omega

set_option maxHeartbeats 4000000 in
theorem refUnmap_any (A : Option Addr) (c : Nat) (bs : List Int) (n : Int) (w : World) (hr : Rd w w.heap.size .u8 A bs) (hl : bs.length ≤ 3000) (hok : bytesI bs) :
    Calls Try.prog 43 #[.slice A bs.length c, .int .i64 n] w (LRes w (unL bs n) (unN bs n)) := by
  have HR := Lib.hid hr; clear hr
  have hbel : Hid (∀ W : World, Calls Try.prog 58 #[.slice none 0 0, .int .i64 n] W fun e w' => e = .returned (.bool (cntB n)) ∧ W = w') := Lib.hid fun W => by
    have h := isBelow_any none 0 [] n W 0 Rd.nil (by simp)
    rw [any_isB] at h
    exact h
  cases hcn : cntB n
  · have e1 : unN bs n = 1 := by simp [unN, hcn]
    have e2 : unL bs n = [] := by simp [unL, unS, hcn]
    rw [e1, e2]
    clear e1 e2
    go_enter Try.func43, Try.ntmps43
    go_wp2_with fail
    refine (hbel.out _).mono ?_
    rintro e w' ⟨rfl, rfl⟩
    rw [hcn]
    go_wp2_with fail
    go_ret2
    exact .err rfl (Below.refl _ _)
  · obtain ⟨n, rfl, hn⟩ : ∃ N : Nat, n = N ∧ N ≤ 300 := by simp [cntB] at hcn; exact ⟨n.toNat, by omega, by omega⟩
    by_cases hlen : (bs.length : Int) = ((n : Int) + 7) / 8
    · have hd1 : ((bs.length : Int) != ((n : Int) + 7) / 8) = false := by rw [hlen]; simp
      have hsz : bs.length ≤ 38 := by omega
      have E1 : Hid (unS bs n = isSetB n (upI bs (8 * bs.length))) := Lib.hid (by simp [unS, hcn, hlen])
      have E2 := Lib.hid hcn
      clear hlen
      go_enter Try.func43, Try.ntmps43
      go_wp2_with fail
      refine (hbel.out _).mono ?_
      rintro e w' ⟨rfl, rfl⟩
      rw [hcn]
      clear hcn
      go_wp2_with fail
      go_loopw [6, 7] (fun v i wr => ∃ j : Nat, j ≤ 8 * bs.length ∧ i = .int .i64 (j + 1) ∧ Own wr w.heap.size 3 .i64 v (upI bs j) ∧ Below w.heap.size w wr ∧ ∀ x ∈ upI bs j, x ≤ (n : Int)) (fun _ i _ => 8 * bs.length + 1 - (intOf i).toNat)
      case atStart => exact ⟨0, by omega, rfl, Own.nil _ _ _ _, Below.refl _ _, by simp [upI]⟩
      case round =>
        obtain ⟨j, hj, rfl, hown, hb, hall⟩ := hrel
        have HO := Lib.hid hown; clear hown
        have HB := Lib.hid hb; clear hb
        have HA := Lib.hid hall; clear hall
        by_cases hlt : j < 8 * bs.length
        · obtain ⟨ad, rfl, _, hc⟩ := (HR.out.below HB.out) (by omega)
          have hck := hc (j / 8) (by omega)
          have HC := Lib.hid hc; clear hc
          have j1 : (0 : Int) ≤ (j : Int) / 8 := by omega
          have j2 : (j : Int) / 8 < bs.length := by omega
          have j3 : (j : Int) + 1 ≤ 8 * (bs.length : Int) := by omega
          have hmem : 0 ≤ bs.getD (j / 8) 0 ∧ bs.getD (j / 8) 0 ≤ 255 := by
            have hj8 : j / 8 < bs.length := by omega
            rw [List.getD_eq_getElem?_getD, List.getElem?_eq_getElem hj8]
            exact hok _ (List.getElem_mem hj8)
          have hbit := (bit_at hmem.1 hmem.2 (j % 8) (by omega)).2
          have hlen' := upI_len bs j
          rcases hp : upP bs j with _ | _
          · have hd2 : (bits BinOp.and IntKind.u8 (bs.getD (j / 8) 0 / 2 ^ (j % 8)) 1 == 0) = true := by rw [hbit]; simpa [upP] using hp
            have HP := Lib.hid (upI_no bs j hp)
            clear hbit hp hmem
            generalize bs.getD (j / 8) 0 = x at *
            go_wp2_with fail
            go_roundw
            case rel => exact ⟨j + 1, by omega, by go_num, HO.out.of_eq HP.out.symm, HB.out, by rw [HP.out]; exact HA.out⟩
            case measure => simp [intOf]; omega
          · have hd2 : (bits BinOp.and IntKind.u8 (bs.getD (j / 8) 0 / 2 ^ (j % 8)) 1 == 0) = false := by rw [hbit]; simpa [upP] using hp
            have HP := Lib.hid (upI_yes bs j hp)
            have HPP := Lib.hid hp
            clear hbit hp hmem
            generalize bs.getD (j / 8) 0 = x at *
            by_cases hgt : (n : Int) < (j : Int) + 1
            · have hs := setB_not HPP.out (k := 8 * bs.length) (by omega) hgt
              have F1 : Hid (unN bs n = 11) := Lib.hid (by simp [unN, E2.out, E1.out, hs])
              have F2 : Hid (unL bs n = []) := Lib.hid (by simp [unL, E1.out, hs])
              clear hs
              go_wp2_with fail
              go_ret2
              rw [F1.out, F2.out]
              exact ⟨none, 0, rfl, Own.nil _ _ _ _, HB.out⟩
            · go_wp2_with (at_builtin; refine app_int rfl _ _ rfl w.heap.size _ _ ((j : Int) + 1) rfl (HO.out.alloc _) ⟨wr.heap.size, 0, none⟩ 1 rfl (new_cell _ _ _) (by omega) (size_alloc HB.out.size _) ?_; intro v' w' hown' hb')
              go_roundw
              case rel => exact ⟨j + 1, by omega, by go_num, hown'.of_eq HP.out.symm, (HB.out.alloc HB.out.size _).trans (hb'.mono (Nat.le_refl _)), by rw [HP.out]; intro z hz; rcases List.mem_append.1 hz with hz | hz; exact HA.out z hz; simp at hz; omega⟩
              case measure => simp [intOf]; omega
        · have j3 : ¬ (j : Int) + 1 ≤ 8 * (bs.length : Int) := by omega
          obtain rfl : j = 8 * bs.length := by omega
          have hs := setB_all HA.out
          have F1 : Hid (unN bs n = 0) := Lib.hid (by simp [unN, E2.out, E1.out, hs])
          have F2 : Hid (unL bs n = upI bs (8 * bs.length)) := Lib.hid (by simp [unL, E1.out, hs])
          clear hs
          go_wp2_with fail
          go_ret2
          rw [F1.out, F2.out]
          exact .ok rfl HO.out HB.out
    · have hd1 : ((bs.length : Int) != ((n : Int) + 7) / 8) = true := by simpa using hlen
      have e1 : unN bs n = 11 := by simp [unN, unS, hcn, hlen]
      have e2 : unL bs n = [] := by simp [unL, unS, hlen]
      rw [e1, e2]
      clear e1 e2 hlen
      go_enter Try.func43, Try.ntmps43
      go_wp2_with fail
      refine (hbel.out _).mono ?_
      rintro e w' ⟨rfl, rfl⟩
      rw [hcn]
      go_wp2_with fail
      go_ret2
      exact ⟨none, 0, rfl, Own.nil _ _ _ _, Below.refl _ _⟩
end Go.Proofs.Ytoldjpnkgdhpkaa
