/- Weights of the reference, strings.Compare, Order of the program. -/
import Derived.Test.YtiddnacmopfamaaDoorPgH
import Derived.Lib.Bytealg
namespace Go.Proofs.YtiddnacmopfamaaDoor
open Go.RowKit
set_option linter.unusedVariables false
set_option linter.unusedSimpArgs false

set_option maxHeartbeats 4000000 in
theorem refWeightsT_any (s : ByteArray) (p c : Int) (w : World) (hs : s.size ≤ maxLen) :
    Calls Tryd.prog 86 #[.string s, .int .i64 p, .int .i64 c] w (TRes w (weiT s p c) (wrongN p c [s])) := by
  have hcon := Lib.hid (fun W => asked_one c p s w.heap.size (w.heap.size + 1) W hs)
  have hpc := pair_cells w s p
  have hb0 := two_below w (.cells #[.string s] 9) (.cells #[.int .i64 p] 3)
  have hz0 : ((w.alloc (.cells #[.string s] 9)).alloc (.cells #[.int .i64 p] 3)).heap.size = w.heap.size + 1 + 1 := by simp
  cases hz : decide (wrongN p c [s] = 0)
  · have hz : ¬ wrongN p c [s] = 0 := by simpa using hz
    have e1 : weiT s p c = ⟨#[]⟩ := by simp [weiT, hz]
    rw [e1]
    generalize wrongN p c [s] = n at *
    have dn : (n != 0) = true := by simpa using hz
    clear hz e1
    have HPC := Lib.hid hpc; clear hpc
    have HB0 := Lib.hid hb0; clear hb0 hz0
    go_enter Tryd.func86, Tryd.ntmps86
    go_wp2_with fail
    refine (hcon.out _ HPC.out.1 HPC.out.2).mono ?_
    rintro e w1 ⟨rfl, rfl⟩
    go_wp2_with fail
    go_ret2
    exact ⟨rfl, HB0.out⟩
  · have hz : wrongN p c [s] = 0 := by simpa using hz
    obtain ⟨hp0, hp3, hc01, hss⟩ := wrong_zero hz
    have hs2 : s.size ≤ 2048 := hss s (by simp)
    obtain ⟨q, rfl⟩ : ∃ q : Nat, p = q := ⟨p.toNat, by omega⟩
    obtain ⟨d, rfl⟩ : ∃ d : Nat, c = d := ⟨c.toNat, by omega⟩
    have hq : q < 3 := by omega
    have hd : d < 2 := by omega
    have e1 : weiT s q d = mapS (weiN q d) s := by simp [weiT, hz]
    rw [e1, hz]
    rw [hz] at hcon
    clear hz e1 hp0 hp3 hss hc01
    have HPC := Lib.hid hpc; clear hpc
    have hcv := fun W : World => run_bytes_of_string (P := Tryd.prog) W 9 73 5 s Tryd.underlying9 Tryd.underlying73 Tryd.underlying5
    have hsz : s.data.toList.length = s.size := rfl
    have HCV := Lib.hid hcv; clear hcv
    have HB0 := Lib.hid hb0; clear hb0
    go_enter Tryd.func86, Tryd.ntmps86
    go_wp2_with fail
    refine (hcon.out _ HPC.out.1 HPC.out.2).mono ?_
    rintro e w1 ⟨rfl, rfl⟩
    generalize (w.alloc (.cells #[.string s] 9)).alloc (.cells #[.int .i64 q] 3) = wb at *
    have hcv1 := HCV.out wb
    generalize hcapE : grownCap wb s.size 0 5 = cap at hcv1
    have HBR := Lib.hid (BRow.new wb.drew s cap)
    have hbl : Below wb.heap.size wb (wb.drew.alloc (.cells (bytesRow s cap) 5 ((bytesRow s cap).size, (bytesRow s cap).size + 1))) := (((Below.refl _ _).drew).alloc (by simp) _)
    have HBL := Lib.hid (HB0.out.trans (hbl.mono (by rw [hz0]; omega))); clear hbl
    have HZ0 : Hid (w.heap.size ≤ wb.heap.size) := Lib.hid (by omega)
    clear hz0
    generalize wb.drew.alloc (.cells (bytesRow s cap) 5 ((bytesRow s cap).size, (bytesRow s cap).size + 1)) = w0 at hcv1 HBR HBL
    rw [show wb.drew.heap.size = wb.heap.size from rfl] at HBR
    go_wp2_with fail
    go_loopw [10] (fun i wr => ∃ k : Nat, k ≤ s.data.toList.length ∧ i = .int .i64 k ∧ BRow wr wb.heap.size ((s.data.toList.take k).map (mapB (weiN q d)) ++ s.data.toList.drop k) ∧ Below w.heap.size w wr) (fun i _ => s.size - (intOf i).toNat)
    case atStart => exact ⟨0, by omega, rfl, by simpa using HBR.out, HBL.out⟩
    case round =>
      obtain ⟨k, hk, rfl, hrow, hbel⟩ := hrel
      have HB := Lib.hid hbel; clear hbel
      have HR := Lib.hid hrow; clear hrow
      by_cases hlt : k < s.data.toList.length
      · have HPS := Lib.hid (part_set (weiN q d) _ hlt)
        have hks : k < s.size := by omega
        have hks' : (k : Int) < s.size := by omega
        have hsk : s[k].toNat = (s.data.toList.getD k 0).toNat := byte_at s k hks
        have hbb := byte_lt (s.data.toList.getD k 0)
        have hmb : mapB (weiN q d) (s.data.toList.getD k 0) = UInt8.ofNat (weiN q d (s.data.toList.getD k 0).toNat) := rfl
        have HMB := Lib.hid hmb; clear hmb
        have hfb := wei_lt hbb hq hd
        obtain ⟨hcz, hfz⟩ := (HR.out.2 k (by rw [part_len _ _ k hk]; exact hlt))
        rw [part_at _ _ hlt] at hcz
        generalize (s.data.toList.getD k 0) = z at *
        go_wp2_with fail
        refine (refWeight_any z.toNat q d hbb hq hd _).mono ?_
        rintro e w1 ⟨rfl, rfl⟩
        go_wp2_with fail
        go_roundw
        case rel => exact ⟨k + 1, by omega, by go_num, by rw [← HPS.out]; exact HR.out.set (by rw [part_len _ _ k hk]; exact hlt) (by rw [HMB.out]; simp; omega), HB.out.setCell HZ0.out _⟩
        case measure => simp [intOf]; omega
      · have hkl : k = s.data.toList.length := by omega
        have hks : k = s.size := by omega
        have hrow := HR.out
        rw [hkl, List.take_length, List.drop_length, List.append_nil] at hrow
        have htx := hrow.text cap
        rw [List.length_map, hsz] at htx
        have HTX := Lib.hid hrow; clear hrow
        clear hkl
        go_wp2_with fail
        go_ret2
        exact ⟨rfl, HB.out⟩

def wb (p c : Nat) (s : ByteArray) : List UInt8 := s.data.toList.map (mapB (weiN p c))
def ordI (s t : ByteArray) (p c : Int) : Int := if wrongN p c [s, t] = 0 then Lib.compareBytes (wb p.toNat c.toNat s) (wb p.toNat c.toNat t) else 0
def ORes (w : World) (k n : Int) (e : Ending) (w' : World) : Prop := e = .returned (.tuple #[.int .i64 k, .int .i64 n]) ∧ Below w.heap.size w w'
theorem text_cells2 (w : World) (s t : ByteArray) : ∀ j, j < [s, t].length → (w.alloc (.cells #[.string s, .string t] 9)).cell? ((⟨w.heap.size, 0, none⟩ : Addr).add j) = some (.string ([s, t].getD j ByteArray.empty)) := by
  intro j hj
  rcases (show j = 0 ∨ j = 1 by simp at hj; omega) with rfl | rfl
  · simp [Addr.add]
  · simp [Addr.add]

end Go.Proofs.YtiddnacmopfamaaDoor
