/- Upper and Lower of the reference. -/
import Derived.Test.YtgeikbcfjidgcaaDoorPgA
import Derived.Test.YtgeikbcfjidgcaaDoorPgZ2
namespace Go.Proofs.YtgeikbcfjidgcaaDoor
open Go.RowKit
set_option linter.unusedVariables false
set_option linter.unusedSimpArgs false

theorem pair_cells (w : World) (s : ByteArray) (p : Int) :
    ((w.alloc (.cells #[.string s] 9)).alloc (.cells #[.int .i64 p] 3)).cell? ⟨w.heap.size, 0, none⟩ = some (.string s) ∧ ((w.alloc (.cells #[.string s] 9)).alloc (.cells #[.int .i64 p] 3)).cell? ⟨w.heap.size + 1, 0, none⟩ = some (.int .i64 p) :=
  ⟨cell_new1 _ _ _ _, by
    have h := cell_new2 (w.alloc (.cells #[.string s] 9)) (.int .i64 p) 3
    rwa [show (w.alloc (.cells #[.string s] 9)).heap.size = w.heap.size + 1 by simp] at h⟩
theorem two_below (w : World) (a b : Obj) : Below w.heap.size w ((w.alloc a).alloc b) := ((Below.refl _ _).alloc (Nat.le_refl _) _).alloc (by simp) _

set_option maxHeartbeats 4000000 in
theorem refUpperT_any (s : ByteArray) (p : Int) (w : World) (hs : s.size ≤ maxLen) :
    Calls Tryd.prog 23 #[.string s, .int .i64 p] w (TRes w (upT s p) (wrongN p 0 [s])) := by
  have hcon := Lib.hid (fun W => asked_one 0 p s w.heap.size (w.heap.size + 1) W hs)
  have hpc := pair_cells w s p
  have hb0 := two_below w (.cells #[.string s] 9) (.cells #[.int .i64 p] 3)
  have hz0 : ((w.alloc (.cells #[.string s] 9)).alloc (.cells #[.int .i64 p] 3)).heap.size = w.heap.size + 1 + 1 := by simp
  cases hz : decide (wrongN p 0 [s] = 0)
  · have hz : ¬ wrongN p 0 [s] = 0 := by simpa using hz
    have e1 : upT s p = ⟨#[]⟩ := by simp [upT, hz]
    rw [e1]
    generalize wrongN p 0 [s] = n at *
    have dn : (n != 0) = true := by simpa using hz
    clear hz e1
    have HPC := Lib.hid hpc; clear hpc
    have HB0 := Lib.hid hb0; clear hb0 hz0
    go_enter Tryd.func23, Tryd.ntmps23
    go_wp2_with fail
    refine (hcon.out _ HPC.out.1 HPC.out.2).mono ?_
    rintro e w1 ⟨rfl, rfl⟩
    go_wp2_with fail
    go_ret2
    exact ⟨rfl, HB0.out⟩
  · have hz : wrongN p 0 [s] = 0 := by simpa using hz
    obtain ⟨hp0, hp3, _, hss⟩ := wrong_zero hz
    have hs2 : s.size ≤ 2048 := hss s (by simp)
    obtain ⟨q, rfl⟩ : ∃ q : Nat, p = q := ⟨p.toNat, by omega⟩
    have hq : q < 3 := by omega
    have e1 : upT s q = mapS (upN q) s := by simp [upT, hz]
    rw [e1, hz]
    rw [hz] at hcon
    clear hz e1 hp0 hp3 hss
    have HPC := Lib.hid hpc; clear hpc
    have hcv := fun W : World => run_bytes_of_string (P := Tryd.prog) W 9 46 5 s Tryd.underlying9 Tryd.underlying46 Tryd.underlying5
    have hsz : s.data.toList.length = s.size := rfl
    have HCV := Lib.hid hcv; clear hcv
    have HB0 := Lib.hid hb0; clear hb0
    go_enter Tryd.func23, Tryd.ntmps23
    go_wp2_with fail
    refine (hcon.out _ HPC.out.1 HPC.out.2).mono ?_
    rintro e w1 ⟨rfl, rfl⟩
    generalize (w.alloc (.cells #[.string s] 9)).alloc (.cells #[.int .i64 q] 3) = wb at *
    have hcv1 := HCV.out wb
    generalize hcapE : grownCap wb s.size 0 5 = cap at hcv1
    have HBR := Lib.hid (BRow.new wb.drew s cap)
    have hbl : Below wb.heap.size wb (wb.drew.alloc (.cells (bytesRow s cap) 5 ((bytesRow s cap).size, (bytesRow s cap).size + 1))) := (((Below.refl _ _).drew).alloc (by simp) _)
    have HBL := Lib.hid (HB0.out.trans (hbl.mono (by rw [hz0]; omega))); clear hbl
    have HZ0 : Hid (w.heap.size ≤ wb.heap.size) := Lib.hid (by omega)
    clear hz0
    generalize wb.drew.alloc (.cells (bytesRow s cap) 5 ((bytesRow s cap).size, (bytesRow s cap).size + 1)) = w0 at hcv1 HBR HBL
    rw [show wb.drew.heap.size = wb.heap.size from rfl] at HBR
    go_wp2_with fail
    go_loopw [8] (fun i wr => ∃ k : Nat, k ≤ s.data.toList.length ∧ i = .int .i64 k ∧ BRow wr wb.heap.size ((s.data.toList.take k).map (mapB (upN q)) ++ s.data.toList.drop k) ∧ Below w.heap.size w wr) (fun i _ => s.size - (intOf i).toNat)
    case atStart => exact ⟨0, by omega, rfl, by simpa using HBR.out, HBL.out⟩
    case round =>
      obtain ⟨k, hk, rfl, hrow, hbel⟩ := hrel
      have HB := Lib.hid hbel; clear hbel
      have HR := Lib.hid hrow; clear hrow
      by_cases hlt : k < s.data.toList.length
      · have HPS := Lib.hid (part_set (upN q) _ hlt)
        have hks : k < s.size := by omega
        have hks' : (k : Int) < s.size := by omega
        have hsk : s[k].toNat = (s.data.toList.getD k 0).toNat := byte_at s k hks
        have hbb := byte_lt (s.data.toList.getD k 0)
        have hmb : mapB (upN q) (s.data.toList.getD k 0) = UInt8.ofNat (upN q (s.data.toList.getD k 0).toNat) := rfl
        have HMB := Lib.hid hmb; clear hmb
        have hfb := up_lt hbb hq
        obtain ⟨hcz, hfz⟩ := (HR.out.2 k (by rw [part_len _ _ k hk]; exact hlt))
        rw [part_at _ _ hlt] at hcz
        generalize (s.data.toList.getD k 0) = z at *
        go_wp2_with fail
        refine (refUpper_any z.toNat q hbb hq _).mono ?_
        rintro e w1 ⟨rfl, rfl⟩
        go_wp2_with fail
        go_roundw
        case rel => exact ⟨k + 1, by omega, by go_num, by rw [← HPS.out]; exact HR.out.set (by rw [part_len _ _ k hk]; exact hlt) (by rw [HMB.out]; simp; omega), HB.out.setCell HZ0.out _⟩
        case measure => simp [intOf]; omega
      · have hkl : k = s.data.toList.length := by omega
        have hks : k = s.size := by omega
        have hrow := HR.out
        rw [hkl, List.take_length, List.drop_length, List.append_nil] at hrow
        have htx := hrow.text cap
        rw [List.length_map, hsz] at htx
        have HTX := Lib.hid hrow; clear hrow
        clear hkl
        go_wp2_with fail
        go_ret2
        exact ⟨rfl, HB.out⟩

set_option maxHeartbeats 4000000 in
theorem refLowerT_any (s : ByteArray) (p : Int) (w : World) (hs : s.size ≤ maxLen) :
    Calls Tryd.prog 25 #[.string s, .int .i64 p] w (TRes w (lowT s p) (wrongN p 0 [s])) := by
  have hcon := Lib.hid (fun W => asked_one 0 p s w.heap.size (w.heap.size + 1) W hs)
  have hpc := pair_cells w s p
  have hb0 := two_below w (.cells #[.string s] 9) (.cells #[.int .i64 p] 3)
  have hz0 : ((w.alloc (.cells #[.string s] 9)).alloc (.cells #[.int .i64 p] 3)).heap.size = w.heap.size + 1 + 1 := by simp
  cases hz : decide (wrongN p 0 [s] = 0)
  · have hz : ¬ wrongN p 0 [s] = 0 := by simpa using hz
    have e1 : lowT s p = ⟨#[]⟩ := by simp [lowT, hz]
    rw [e1]
    generalize wrongN p 0 [s] = n at *
    have dn : (n != 0) = true := by simpa using hz
    clear hz e1
    have HPC := Lib.hid hpc; clear hpc
    have HB0 := Lib.hid hb0; clear hb0 hz0
    go_enter Tryd.func25, Tryd.ntmps25
    go_wp2_with fail
    refine (hcon.out _ HPC.out.1 HPC.out.2).mono ?_
    rintro e w1 ⟨rfl, rfl⟩
    go_wp2_with fail
    go_ret2
    exact ⟨rfl, HB0.out⟩
  · have hz : wrongN p 0 [s] = 0 := by simpa using hz
    obtain ⟨hp0, hp3, _, hss⟩ := wrong_zero hz
    have hs2 : s.size ≤ 2048 := hss s (by simp)
    obtain ⟨q, rfl⟩ : ∃ q : Nat, p = q := ⟨p.toNat, by omega⟩
    have hq : q < 3 := by omega
    have e1 : lowT s q = mapS (lowN q) s := by simp [lowT, hz]
    rw [e1, hz]
    rw [hz] at hcon
    clear hz e1 hp0 hp3 hss
    have HPC := Lib.hid hpc; clear hpc
    have hcv := fun W : World => run_bytes_of_string (P := Tryd.prog) W 9 46 5 s Tryd.underlying9 Tryd.underlying46 Tryd.underlying5
    have hsz : s.data.toList.length = s.size := rfl
    have HCV := Lib.hid hcv; clear hcv
    have HB0 := Lib.hid hb0; clear hb0
    go_enter Tryd.func25, Tryd.ntmps25
    go_wp2_with fail
    refine (hcon.out _ HPC.out.1 HPC.out.2).mono ?_
    rintro e w1 ⟨rfl, rfl⟩
    generalize (w.alloc (.cells #[.string s] 9)).alloc (.cells #[.int .i64 q] 3) = wb at *
    have hcv1 := HCV.out wb
    generalize hcapE : grownCap wb s.size 0 5 = cap at hcv1
    have HBR := Lib.hid (BRow.new wb.drew s cap)
    have hbl : Below wb.heap.size wb (wb.drew.alloc (.cells (bytesRow s cap) 5 ((bytesRow s cap).size, (bytesRow s cap).size + 1))) := (((Below.refl _ _).drew).alloc (by simp) _)
    have HBL := Lib.hid (HB0.out.trans (hbl.mono (by rw [hz0]; omega))); clear hbl
    have HZ0 : Hid (w.heap.size ≤ wb.heap.size) := Lib.hid (by omega)
    clear hz0
    generalize wb.drew.alloc (.cells (bytesRow s cap) 5 ((bytesRow s cap).size, (bytesRow s cap).size + 1)) = w0 at hcv1 HBR HBL
    rw [show wb.drew.heap.size = wb.heap.size from rfl] at HBR
    go_wp2_with fail
    go_loopw [8] (fun i wr => ∃ k : Nat, k ≤ s.data.toList.length ∧ i = .int .i64 k ∧ BRow wr wb.heap.size ((s.data.toList.take k).map (mapB (lowN q)) ++ s.data.toList.drop k) ∧ Below w.heap.size w wr) (fun i _ => s.size - (intOf i).toNat)
    case atStart => exact ⟨0, by omega, rfl, by simpa using HBR.out, HBL.out⟩
    case round =>
      obtain ⟨k, hk, rfl, hrow, hbel⟩ := hrel
      have HB := Lib.hid hbel; clear hbel
      have HR := Lib.hid hrow; clear hrow
      by_cases hlt : k < s.data.toList.length
      · have HPS := Lib.hid (part_set (lowN q) _ hlt)
        have hks : k < s.size := by omega
        have hks' : (k : Int) < s.size := by omega
        have hsk : s[k].toNat = (s.data.toList.getD k 0).toNat := byte_at s k hks
        have hbb := byte_lt (s.data.toList.getD k 0)
        have hmb : mapB (lowN q) (s.data.toList.getD k 0) = UInt8.ofNat (lowN q (s.data.toList.getD k 0).toNat) := rfl
        have HMB := Lib.hid hmb; clear hmb
        have hfb := low_lt hbb hq
        obtain ⟨hcz, hfz⟩ := (HR.out.2 k (by rw [part_len _ _ k hk]; exact hlt))
        rw [part_at _ _ hlt] at hcz
        generalize (s.data.toList.getD k 0) = z at *
        go_wp2_with fail
        refine (refLower_any z.toNat q hbb hq _).mono ?_
        rintro e w1 ⟨rfl, rfl⟩
        go_wp2_with fail
        go_roundw
        case rel => exact ⟨k + 1, by omega, by go_num, by rw [← HPS.out]; exact HR.out.set (by rw [part_len _ _ k hk]; exact hlt) (by rw [HMB.out]; simp; omega), HB.out.setCell HZ0.out _⟩
        case measure => simp [intOf]; omega
      · have hkl : k = s.data.toList.length := by omega
        have hks : k = s.size := by omega
        have hrow := HR.out
        rw [hkl, List.take_length, List.drop_length, List.append_nil] at hrow
        have htx := hrow.text cap
        rw [List.length_map, hsz] at htx
        have HTX := Lib.hid hrow; clear hrow
        clear hkl
        go_wp2_with fail
        go_ret2
        exact ⟨rfl, HB.out⟩
end Go.Proofs.YtgeikbcfjidgcaaDoor
