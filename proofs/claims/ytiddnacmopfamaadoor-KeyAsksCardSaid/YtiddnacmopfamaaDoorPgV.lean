/- weights and Weights of the program. -/
import Derived.Test.YtiddnacmopfamaaDoorPgU
namespace Go.Proofs.YtiddnacmopfamaaDoor
open Go.RowKit
set_option linter.unusedVariables false
set_option linter.unusedSimpArgs false

set_option maxHeartbeats 1000000 in
theorem weightC_any (b p c g h : Nat) (hb : b < 256) (hp : p < 3) (hc : c < 2) (w : World) (ht : Tabs w) (hg : w.cell? ⟨g, 0, none⟩ = some (.int .i64 p)) (hh : w.cell? ⟨h, 0, none⟩ = some (.int .i64 c)) :
    Calls Tryd.prog 106 #[.int .u8 b, .pointer (some ⟨g, 0, none⟩), .pointer (some ⟨h, 0, none⟩)] w fun e w' => e = .returned (.int .u8 (weiN p c b)) ∧ Below w.heap.size w w' := by
  have HT := Lib.hid ht; clear ht
  go_enter Tryd.func106, Tryd.ntmps106
  go_wp2_with fail
  refine (weight_any b p c hb hp hc _ HT.out).mono ?_
  rintro e w1 ⟨rfl, hb1⟩
  have HB1 := Lib.hid hb1; clear hb1
  go_wp2_with fail
  go_ret
  exact ⟨rfl, HB1.out⟩
theorem ent_weights (g h : Nat) (b : Int) (W : World) : (callFunc 106 #[.int .u8 b, .pointer (some ⟨g, 0, none⟩), .pointer (some ⟨h, 0, none⟩)]).run Tryd.prog W = .ok (.enter 106 #[.int .u8 b, .pointer (some ⟨g, 0, none⟩), .pointer (some ⟨h, 0, none⟩)]) W := by
  kernel_rfl

set_option maxHeartbeats 1000000 in
theorem weights_any (s : ByteArray) (p c : Nat) (hp : p < 3) (hc : c < 2) (w : World) (ht : Tabs w) (hs : s.size ≤ 100000) :
    Calls Tryd.prog 91 #[.string s, .int .i64 p, .int .i64 c] w fun e w' => e = .returned (.string (mapS (weiN p c) s)) ∧ Below w.heap.size w w' := by
  have HT := Lib.hid ht; clear ht
  go_enter Tryd.func91, Tryd.ntmps91
  go_wp2_with fail
  have hb0 : Below w.heap.size w ((w.alloc (.cells #[.int .i64 p] 3)).alloc (.cells #[.int .i64 c] 3)) := ((Below.refl _ _).alloc (Nat.le_refl _) _).alloc (by simp) _
  have hcell := cell_new1 w (.int .i64 p) 3 (.cells #[.int .i64 c] 3)
  have hcell2 : ((w.alloc (.cells #[.int .i64 p] 3)).alloc (.cells #[.int .i64 c] 3)).cell? ⟨w.heap.size + 1, 0, none⟩ = some (.int .i64 c) := by simp
  have ht0 : Tabs ((w.alloc (.cells #[.int .i64 p] 3)).alloc (.cells #[.int .i64 c] 3)) := HT.out.below hb0 (Nat.le_refl _)
  have hz0 : w.heap.size + 1 < ((w.alloc (.cells #[.int .i64 p] 3)).alloc (.cells #[.int .i64 c] 3)).heap.size := by simp
  generalize (w.alloc (.cells #[.int .i64 p] 3)).alloc (.cells #[.int .i64 c] 3) = w1 at *
  refine (mapped2_any 106 (.pointer (some ⟨w.heap.size, 0, none⟩)) (.pointer (some ⟨w.heap.size + 1, 0, none⟩)) (weiN p c) s w1 hs (fun b hb => wei_lt hb hp hc) (ent_weights _ _) (fun W hW b hb =>
    weightC_any b p c w.heap.size (w.heap.size + 1) hb hp hc W (ht0.below hW (Nat.le_refl _)) (by rw [hW.cell (p := ⟨w.heap.size, 0, none⟩) (by simp only; omega)]; exact hcell) (by rw [hW.cell (p := ⟨w.heap.size + 1, 0, none⟩) (by simp only; omega)]; exact hcell2))).mono ?_
  rintro e w2 ⟨rfl, hb2⟩
  have HB2 := Lib.hid (hb0.trans (hb2.mono (by omega))); clear hb2
  go_wp2_with fail
  go_ret
  exact ⟨rfl, HB2.out⟩

set_option maxHeartbeats 2000000 in
theorem Weights_any (s : ByteArray) (p c : Int) (w : World) (ht : Tabs w) (hs : s.size ≤ maxLen) :
    Calls Tryd.prog 82 #[.string s, .int .i64 p, .int .i64 c] w (TRes w (weiT s p c) (wrongN p c [s])) := by
  have HT := Lib.hid ht; clear ht
  cases hz : decide (wrongN p c [s] = 0)
  · have hz : ¬ wrongN p c [s] = 0 := by simpa using hz
    have e1 : weiT s p c = ⟨#[]⟩ := by simp [weiT, hz]
    rw [e1]
    have hcon := Lib.hid (wrong_any p c [s])
    simp only [List.length_singleton] at hcon
    generalize wrongN p c [s] = n at *
    have dn : (n != 0) = true := by simpa using hz
    clear hz e1
    go_enter Tryd.func82, Tryd.ntmps82
    go_wp2_with fail
    refine (hcon.out ⟨w.heap.size, 0, none⟩ 1 _ (by simp) (by simpa using hs) (text_cell w s _ rfl)).mono ?_
    rintro e w1 ⟨rfl, rfl⟩
    go_wp2_with fail
    go_ret2
    exact ⟨rfl, (Below.refl _ _).alloc (Nat.le_refl _) _⟩
  · have hz : wrongN p c [s] = 0 := by simpa using hz
    obtain ⟨hp0, hp3, hc01, hss⟩ := wrong_zero hz
    have hs2 : s.size ≤ 2048 := hss s (by simp)
    obtain ⟨q, rfl⟩ : ∃ q : Nat, p = q := ⟨p.toNat, by omega⟩
    obtain ⟨d, rfl⟩ : ∃ d : Nat, c = d := ⟨c.toNat, by omega⟩
    have hq : q < 3 := by omega
    have hd : d < 2 := by omega
    have e1 : weiT s q d = mapS (weiN q d) s := by simp [weiT, hz]
    rw [e1, hz]
    have hcon := Lib.hid (wrong_any q d [s])
    rw [hz] at hcon
    simp only [List.length_singleton] at hcon
    clear hz e1 hp0 hp3 hss hc01
    go_enter Tryd.func82, Tryd.ntmps82
    go_wp2_with fail
    refine (hcon.out ⟨w.heap.size, 0, none⟩ 1 _ (by simp) (by simpa using hs) (text_cell w s _ rfl)).mono ?_
    rintro e w1 ⟨rfl, rfl⟩
    go_wp2_with fail
    have hb0 : Below w.heap.size w (w.alloc (.cells #[.string s] 9)) := (Below.refl _ _).alloc (Nat.le_refl _) _
    refine (weights_any s q d hq hd _ (HT.out.below hb0 (Nat.le_refl _)) (by omega)).mono ?_
    rintro e w2 ⟨rfl, hb2⟩
    have HB2 := Lib.hid (hb0.trans (hb2.mono (by simp))); clear hb2
    go_wp2_with fail
    go_ret2
    exact ⟨rfl, HB2.out⟩
end Go.Proofs.YtiddnacmopfamaaDoor
