/- weight of the program. -/
import Derived.Test.YtiddnacmopfamaaDoorPgW
import Derived.Deep.MidRow
namespace Go.Proofs.YtiddnacmopfamaaDoor
open Go.RowKit
set_option linter.unusedVariables false
set_option linter.unusedSimpArgs false

theorem wei_step (b k : Nat) (hk : k < 9) : weiFrom b k (9 - k) = if hitAcc b k then (accRow k).2.2 else weiFrom b (k + 1) (9 - (k + 1)) := by
  rw [show 9 - k = (9 - (k + 1)) + 1 by omega]; rfl
theorem acc_small (k : Nat) : (accRow k).1 < 256 ∧ (accRow k).2.1 < 256 ∧ (accRow k).2.2 < 256 := by
  unfold accRow; repeat' split
  all_goals simp
theorem acc_cases (c lo hi : Nat) {h : Bool} (e : h = (decide (lo ≤ c) && decide (c ≤ hi))) : (¬ lo ≤ c ∧ h = false) ∨ (lo ≤ c ∧ ¬ c ≤ hi ∧ h = false) ∨ (lo ≤ c ∧ c ≤ hi ∧ h = true) := by
  subst e
  by_cases a : lo ≤ c
  · by_cases b : c ≤ hi
    · exact .inr (.inr ⟨a, b, by simp [a, b]⟩)
    · exact .inr (.inl ⟨a, b, by simp [b]⟩)
  · exact .inl ⟨a, by simp [a]⟩
def accV : Array Value := (accL.map fun z => Value.int .u8 z).toArray
theorem acc_idx (k : Nat) (hk : k < 9) (w : World) : (Instr.index 151 (.agg accV) (.int .i64 k)).run Tryd.prog w = .ok (.agg #[.int .u8 (accRow k).1, .int .u8 (accRow k).2.1, .int .u8 (accRow k).2.2]) w := by
  rcases (show k = 0 ∨ k = 1 ∨ k = 2 ∨ k = 3 ∨ k = 4 ∨ k = 5 ∨ k = 6 ∨ k = 7 ∨ k = 8 by omega) with rfl | rfl | rfl | rfl | rfl | rfl | rfl | rfl | rfl <;>
    simp [Instr.index, asIntOf, run_underlying Tryd.underlying151, go_sem, accV, accL, accRow]

theorem acc_range (w : World) (h : Tabs w) : w.rangeAt 0 0 accV.toList := fun j v hj => by
  rw [show accV.toList = accL.map fun z => Value.int .u8 z from rfl, List.getElem?_map, Option.map_eq_some_iff] at hj
  obtain ⟨z, hz, rfl⟩ := hj
  have hj := (List.getElem?_eq_some_iff.1 hz).1
  rw [Nat.zero_add, h.ac j hj, List.getD, hz]; rfl
theorem acc_len : (Tryd.prog.info? 151).map (·.size) = some accV.toList.length := by kernel_rfl

set_option maxHeartbeats 4000000 in
set_option maxRecDepth 40000 in
theorem weight_any (b p c : Nat) (hb : b < 256) (hp : p < 3) (hc : c < 2) (w : World) (ht : Tabs w) :
    Calls Tryd.prog 107 #[.int .u8 b, .int .i64 p, .int .i64 c] w fun e w' => e = .returned (.int .u8 (weiN p c b)) ∧ Below w.heap.size w w' := by
  have HT := Lib.hid ht; clear ht
  rcases (show c = 0 ∨ c = 1 by omega) with rfl | rfl
  · have HW : Hid (weiN p 0 b = b) := Lib.hid (by simp [weiN])
    change Calls Tryd.prog 107 #[.int .u8 b, .int .i64 p, .int .i64 0] w _
    go_enter Tryd.func107, Tryd.ntmps107
    go_wp2_with fail
    go_ret
    exact ⟨by rw [HW.out]; rfl, Below.refl _ _⟩
  · have hwt := (wei_tab ⟨p, hp⟩ ⟨b, hb⟩).1
    have hcon := Lib.hid (fun W (h : Tabs W) => upper_any b p hb hp W h)
    have hul := up_lt hb hp
    simp only at hwt
    change Calls Tryd.prog 107 #[.int .u8 b, .int .i64 p, .int .i64 1] w _
    by_cases h1 : p = 1
    · subst h1
      rw [if_neg (by simp)] at hwt
      generalize upN 1 b = u at *
      have HW := Lib.hid hwt; clear hwt
      have HIX := Lib.hid acc_idx
      have HLD := Lib.hid (fun W (h : Tabs W) => acc_range W h)
      have HLN := Lib.hid acc_len
      generalize accV = AV at HIX HLD HLN
      obtain ⟨cs⟩ := AV
      change Calls Tryd.prog 107 #[.int .u8 b, .int .i64 1, .int .i64 1] w _
      go_enter Tryd.func107, Tryd.ntmps107
      go_wp2_with fail
      refine (hcon.out _ HT.out).mono ?_
      rintro e w1 ⟨rfl, hb1⟩
      have hld := Lib.hid (HLD.out w1 (HT.out.below hb1 (Nat.le_refl _)))
      have HB1 := Lib.hid hb1; clear hb1
      go_wp2_with (refine wpList_load_mid rfl 151 _ rfl 0 0 rfl cs _ hld.out Tryd.underlying151 rfl HLN.out ?_)
      clear hld
      go_loopw [19] (fun i wr => ∃ k : Nat, k ≤ 9 ∧ i = .int .i64 k ∧ weiFrom u k (9 - k) = weiN 1 1 b ∧ Below w.heap.size w wr) (fun i _ => 9 - (intOf i).toNat)
      case atStart => exact ⟨0, by omega, rfl, HW.out, HB1.out⟩
      case round =>
        obtain ⟨k, hk, rfl, hup, hbel⟩ := hrel
        have HB := Lib.hid hbel; clear hbel
        by_cases hlt : k < 9
        · have hix := HIX.out k hlt
          have hst := wei_step u k hlt
          rw [hup] at hst
          obtain ⟨r1, r2, r3⟩ := acc_small k
          have hcs := acc_cases u (accRow k).1 (accRow k).2.1 (h := hitAcc u k) rfl
          generalize (accRow k).1 = lo at *
          generalize (accRow k).2.1 = hi at *
          generalize (accRow k).2.2 = d at *
          have HST := Lib.hid hst; clear hst hup
          rcases hcs with ⟨q1, q2⟩ | ⟨q1, q2, q3⟩ | ⟨q1, q2, q3⟩
          · have hn : weiFrom u (k + 1) (9 - (k + 1)) = weiN 1 1 b := by have h := HST.out; rw [q2] at h; exact h.symm
            have HN := Lib.hid hn; clear hn HST q2
            have i1 : ¬ (lo : Int) ≤ u := by omega
            go_wp2_with fail
            exact ⟨⟨k + 1, by omega, rfl, HN.out, HB.out.alloc HB.out.size _⟩, by simp [intOf]; omega⟩
          · have hn : weiFrom u (k + 1) (9 - (k + 1)) = weiN 1 1 b := by have h := HST.out; rw [q3] at h; exact h.symm
            have HN := Lib.hid hn; clear hn HST q3
            have i1 : (lo : Int) ≤ u := by omega
            have i2 : ¬ (u : Int) ≤ hi := by omega
            go_wp2_with fail
            exact ⟨⟨k + 1, by omega, rfl, HN.out, HB.out.alloc HB.out.size _⟩, by simp [intOf]; omega⟩
          · have hn : d = weiN 1 1 b := by have h := HST.out; rw [q3] at h; exact h.symm
            have HN := Lib.hid hn; clear hn HST q3
            have i1 : (lo : Int) ≤ u := by omega
            have i2 : (u : Int) ≤ hi := by omega
            go_wp2_with fail
            go_ret
            exact ⟨by rw [← HN.out]; rfl, HB.out.alloc HB.out.size _⟩
        · obtain rfl : k = 9 := by omega
          have hn : u = weiN 1 1 b := hup
          have HN := Lib.hid hn; clear hn hup
          go_wp2_with fail
          go_ret
          exact ⟨by rw [← HN.out]; rfl, HB.out⟩
    · rw [if_pos h1] at hwt
      have HW := Lib.hid hwt; clear hwt
      generalize upN p b = u at *
      have d1 : ((p : Int) != 1) = true := by simp; omega
      clear h1
      go_enter Tryd.func107, Tryd.ntmps107
      go_wp2_with fail
      refine (hcon.out _ HT.out).mono ?_
      rintro e w1 ⟨rfl, hb1⟩
      have HB1 := Lib.hid hb1; clear hb1
      go_wp2_with fail
      go_ret
      exact ⟨by rw [← HW.out]; rfl, HB1.out⟩
end Go.Proofs.YtiddnacmopfamaaDoor
