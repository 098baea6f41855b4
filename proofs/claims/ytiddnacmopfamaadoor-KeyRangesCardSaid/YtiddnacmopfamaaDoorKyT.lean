/- A key turned round, by the program and by the reference. -/
import Derived.Test.YtiddnacmopfamaaDoorPgAll
import Derived.Test.YtiddnacmopfamaaDoorKyE
namespace Go.Proofs.YtiddnacmopfamaaDoor
open Go.RowKit
set_option linter.unusedVariables false
set_option linter.unusedSimpArgs false
set_option maxRecDepth 40000

def turnN (d : Bool) (b : Nat) : Nat := if d then 255 - b else b
def turnS (d : Bool) (s : ByteArray) : ByteArray := mapS (turnN d) s
theorem turnN_lt {d : Bool} {b : Nat} (h : b < 256) : turnN d b < 256 := by unfold turnN; split <;> omega
theorem mapS_id (s : ByteArray) : mapS (fun x => x) s = s := by
  apply ByteArray.ext
  apply Array.toList_inj.1
  simp only [mapS]
  have e : (mapB fun x => x) = id := by funext b; simp [mapB]
  simp [e]
theorem turn_false (s : ByteArray) : turnS false s = s := mapS_id s
theorem mapS_size (f : Nat → Nat) (s : ByteArray) : (mapS f s).size = s.size := by
  show (mapS f s).data.size = s.data.size
  simp [mapS]
theorem turnS_size (d : Bool) (s : ByteArray) : (turnS d s).size = s.size := mapS_size _ s

theorem turnC_any (b : Nat) (hb : b < 256) (d : Bool) (g : Nat) (w : World) (hg : w.cell? ⟨g, 0, none⟩ = some (.bool d)) :
    Calls Tryd.prog 75 #[.int .u8 b, .pointer (some ⟨g, 0, none⟩)] w fun e w' => e = .returned (.int .u8 (turnN d b)) ∧ w = w' := by
  cases d
  · have e : turnN false b = b := rfl
    rw [e]
    go_enter Tryd.func75, Tryd.ntmps75
    go_wp2
    go_ret
    exact ⟨rfl, rfl⟩
  · have e : ((turnN true b : Nat) : Int) = 255 - (b : Int) := by unfold turnN; simp; omega
    rw [e]
    have i1 : (b : Int) < 256 := by omega
    go_enter Tryd.func75, Tryd.ntmps75
    go_wp2
    go_ret
    exact ⟨by go_num, rfl⟩

set_option maxHeartbeats 4000000 in
theorem turned_any (s : ByteArray) (d : Bool) (w : World) (hs : s.size ≤ 200000) :
    Calls Tryd.prog 53 #[.string s, .bool d] w fun e w' => e = .returned (.string (turnS d s)) ∧ Below w.heap.size w w' := by
  have hcv := Lib.hid (fun W : World => run_bytes_of_string (P := Tryd.prog) W 9 73 5 s Tryd.underlying9 Tryd.underlying73 Tryd.underlying5)
  have hsz : s.data.toList.length = s.size := rfl
  have hent : ∀ (b : Int) (W : World), (callFunc 75 #[.int .u8 b, .pointer (some ⟨w.heap.size, 0, none⟩)]).run Tryd.prog W = .ok (.enter 75 #[.int .u8 b, .pointer (some ⟨w.heap.size, 0, none⟩)]) W := fun b W => by kernel_rfl
  have hb0 : Below w.heap.size w (w.alloc (.cells #[.bool d] 4)) := (Below.refl _ _).alloc (Nat.le_refl _) _
  have hce : (w.alloc (.cells #[.bool d] 4)).cell? ⟨w.heap.size, 0, none⟩ = some (.bool d) := by simp
  have hz1 : (w.alloc (.cells #[.bool d] 4)).heap.size = w.heap.size + 1 := by simp
  have HB0 := Lib.hid hb0; clear hb0
  have HCE := Lib.hid hce; clear hce
  have hcv1 := hcv.out (w.alloc (.cells #[.bool d] 4))
  generalize hcapE : grownCap (w.alloc (.cells #[.bool d] 4)) s.size 0 5 = cap at hcv1
  have hbr := BRow.new (w.alloc (.cells #[.bool d] 4)).drew s cap
  have hbl : Below (w.alloc (.cells #[.bool d] 4)).heap.size (w.alloc (.cells #[.bool d] 4)) ((w.alloc (.cells #[.bool d] 4)).drew.alloc (.cells (bytesRow s cap) 5 ((bytesRow s cap).size, (bytesRow s cap).size + 1))) := (((Below.refl _ _).drew).alloc (by simp) _)
  rw [show (w.alloc (.cells #[.bool d] 4)).drew.heap.size = (w.alloc (.cells #[.bool d] 4)).heap.size from rfl] at hbr
  rw [hz1] at hcv1 hbr hbl
  generalize (w.alloc (.cells #[.bool d] 4)).drew.alloc (.cells (bytesRow s cap) 5 ((bytesRow s cap).size, (bytesRow s cap).size + 1)) = w2 at hcv1 hbr hbl
  have HBR := Lib.hid hbr; clear hbr
  have HBL := Lib.hid hbl; clear hbl
  have HZ1 := Lib.hid hz1; clear hz1
  clear hcv hcapE
  go_enter Tryd.func53, Tryd.ntmps53
  go_wp2_with fail
  clear hcv1
  obtain ⟨w1, hw1⟩ : ∃ w1, w1 = w.alloc (.cells #[.bool d] 4) := ⟨_, rfl⟩
  rw [← hw1] at HB0 HCE HZ1 HBL
  clear hw1
  obtain ⟨g1, hg1⟩ : ∃ g1, g1 = w.heap.size + 1 := ⟨_, rfl⟩
  rw [← hg1] at HZ1 HBL HBR ⊢
  have HG1 := Lib.hid hg1; clear hg1
  go_loopw [14] (fun i wr => ∃ k : Nat, k ≤ s.data.toList.length ∧ i = .int .i64 k ∧ BRow wr g1 ((s.data.toList.take k).map (mapB (turnN d)) ++ s.data.toList.drop k) ∧ Below g1 w1 wr) (fun i _ => s.size - (intOf i).toNat)
  case atStart => exact ⟨0, by omega, rfl, by simpa using HBR.out, HBL.out⟩
  case round =>
    obtain ⟨k, hk, rfl, hrow, hbel⟩ := hrel
    have HB := Lib.hid hbel; clear hbel
    have HR := Lib.hid hrow; clear hrow
    have hce : wr.cell? ⟨w.heap.size, 0, none⟩ = some (.bool d) := by
      rw [HB.out.cell (p := ⟨w.heap.size, 0, none⟩) (by have := HG1.out; simp only; omega)]; exact HCE.out
    by_cases hlt : k < s.data.toList.length
    · have hck := (HR.out.2 k (by rw [part_len _ _ k hk]; exact hlt)).1
      have hfz := (HR.out.2 k (by rw [part_len _ _ k hk]; exact hlt)).2
      rw [part_at _ _ hlt] at hck
      have HPS := Lib.hid (part_set (turnN d) _ hlt)
      have hbb := byte_lt (s.data.toList.getD k 0)
      have hfb := turnN_lt (d := d) hbb
      have hmb : mapB (turnN d) (s.data.toList.getD k 0) = UInt8.ofNat (turnN d (s.data.toList.getD k 0).toNat) := rfl
      have hks : k < s.size := by omega
      have hks' : (k : Int) < s.size := by omega
      have HMB := Lib.hid hmb; clear hmb
      generalize (s.data.toList.getD k 0) = z at *
      have HC := Lib.hid (turnC_any _ hbb d w.heap.size wr hce); clear hce
      go_wp2_with fail
      refine (HC.out).mono ?_
      rintro e w3 ⟨rfl, rfl⟩
      go_wp2_with fail
      go_roundw
      case rel => exact ⟨k + 1, by omega, by go_num, by rw [← HPS.out]; exact HR.out.set (by rw [part_len _ _ k hk]; exact hlt) (by rw [HMB.out]; simp; omega), HB.out.setCell (Nat.le_refl _) _⟩
      case measure => simp [intOf]; omega
    · have hkl : k = s.data.toList.length := by omega
      have hks : k = s.size := by omega
      have hrow := HR.out
      rw [hkl, List.take_length, List.drop_length, List.append_nil] at hrow
      have htx := hrow.text cap
      rw [List.length_map, hsz] at htx
      have HTX := Lib.hid hrow; clear hrow
      have HB3 := Lib.hid (HB0.out.trans (HB.out.mono (by have := HG1.out; have := HB0.out.size; omega)))
      clear hkl hce
      go_wp2_with fail
      go_ret
      exact ⟨rfl, HB3.out⟩
end Go.Proofs.YtiddnacmopfamaaDoor
