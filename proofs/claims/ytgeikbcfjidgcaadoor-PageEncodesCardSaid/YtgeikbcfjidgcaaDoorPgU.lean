/- Upper, Lower, Weights of the program. -/
import Derived.Test.YtgeikbcfjidgcaaDoorPgR
namespace Go.Proofs.YtgeikbcfjidgcaaDoor
open Go.RowKit
set_option linter.unusedVariables false
set_option linter.unusedSimpArgs false

/-- A text with an error's number. -/
def TRes (w : World) (t : ByteArray) (n : Int) (e : Ending) (w' : World) : Prop := e = .returned (.tuple #[.string t, .int .i64 n]) ∧ Below w.heap.size w w'
theorem wrong_zero {p c : Int} {ss : List ByteArray} (h : wrongN p c ss = 0) : 0 ≤ p ∧ p < 3 ∧ (c = 0 ∨ c = 1) ∧ ∀ s ∈ ss, s.size ≤ 2048 := by
  unfold wrongN at h
  split at h
  · cases h
  · split at h
    · rename_i h1 h2
      refine ⟨h2.1, h2.2.1, h2.2.2, fun s hs => ?_⟩
      rw [Bool.not_eq_true, List.any_eq_false] at h1
      have := h1 s hs
      simpa using this
    · cases h
theorem text_cell (w : World) (s : ByteArray) (n : Nat) (hn : n = w.heap.size) : ∀ j, j < [s].length → (w.alloc (.cells #[.string s] 9)).cell? ((⟨n, 0, none⟩ : Addr).add j) = some (.string ([s].getD j ByteArray.empty)) := by
  intro j hj
  have h0 : j = 0 := by simpa using hj
  subst h0 hn
  simp [Addr.add]
def upT (s : ByteArray) (p : Int) : ByteArray := if wrongN p 0 [s] = 0 then mapS (upN p.toNat) s else ⟨#[]⟩
def lowT (s : ByteArray) (p : Int) : ByteArray := if wrongN p 0 [s] = 0 then mapS (lowN p.toNat) s else ⟨#[]⟩
def weiT (s : ByteArray) (p c : Int) : ByteArray := if wrongN p c [s] = 0 then mapS (weiN p.toNat c.toNat) s else ⟨#[]⟩
theorem wei_lt {p c b : Nat} (hb : b < 256) (hp : p < 3) (hc : c < 2) : weiN p c b < 256 := by
  rcases (show c = 0 ∨ c = 1 by omega) with rfl | rfl
  · simp [weiN]; exact hb
  · exact (wei_tab ⟨p, hp⟩ ⟨b, hb⟩).2
theorem cell_new1 (w : World) (v : Value) (t : TypeId) (o : Obj) : ((w.alloc (.cells #[v] t)).alloc o).cell? ⟨w.heap.size, 0, none⟩ = some v := by
  rw [World.cell?_alloc_lt _ _ _ (by simp)]; simp
theorem cell_new2 (w : World) (v : Value) (t : TypeId) : (w.alloc (.cells #[v] t)).cell? ⟨w.heap.size, 0, none⟩ = some v := by simp

set_option maxHeartbeats 1000000 in
theorem upperC_any (b p g : Nat) (hb : b < 256) (hp : p < 3) (w : World) (ht : Tabs w) (hg : w.cell? ⟨g, 0, none⟩ = some (.int .i64 p)) :
    Calls Tryd.prog 49 #[.int .u8 b, .pointer (some ⟨g, 0, none⟩)] w fun e w' => e = .returned (.int .u8 (upN p b)) ∧ Below w.heap.size w w' := by
  have HT := Lib.hid ht; clear ht
  go_enter Tryd.func49, Tryd.ntmps49
  go_wp2_with fail
  refine (upper_any b p hb hp _ HT.out).mono ?_
  rintro e w1 ⟨rfl, hb1⟩
  have HB1 := Lib.hid hb1; clear hb1
  go_wp2_with fail
  go_ret
  exact ⟨rfl, HB1.out⟩
theorem ent_Upper (g : Nat) (b : Int) (W : World) : (callFunc 49 #[.int .u8 b, .pointer (some ⟨g, 0, none⟩)]).run Tryd.prog W = .ok (.enter 49 #[.int .u8 b, .pointer (some ⟨g, 0, none⟩)]) W := by
  kernel_rfl

set_option maxHeartbeats 2000000 in
theorem Upper_any (s : ByteArray) (p : Int) (w : World) (ht : Tabs w) (hs : s.size ≤ maxLen) :
    Calls Tryd.prog 22 #[.string s, .int .i64 p] w (TRes w (upT s p) (wrongN p 0 [s])) := by
  have HT := Lib.hid ht; clear ht
  cases hz : decide (wrongN p 0 [s] = 0)
  · have hz : ¬ wrongN p 0 [s] = 0 := by simpa using hz
    have e1 : upT s p = ⟨#[]⟩ := by simp [upT, hz]
    rw [e1]
    have hcon := Lib.hid (wrong_any p 0 [s])
    simp only [List.length_singleton] at hcon
    generalize wrongN p 0 [s] = n at *
    have dn : (n != 0) = true := by simpa using hz
    clear hz e1
    go_enter Tryd.func22, Tryd.ntmps22
    go_wp2_with fail
    refine (hcon.out ⟨w.heap.size + 1, 0, none⟩ 1 _ (by simp) (by simpa using hs) (text_cell (w.alloc _) s _ (by simp))).mono ?_
    rintro e w1 ⟨rfl, rfl⟩
    go_wp2_with fail
    go_ret2
    exact ⟨rfl, ((Below.refl _ _).alloc (Nat.le_refl _) _).alloc (by simp) _⟩
  · have hz : wrongN p 0 [s] = 0 := by simpa using hz
    obtain ⟨hp0, hp3, _, hss⟩ := wrong_zero hz
    have hs2 : s.size ≤ 2048 := hss s (by simp)
    obtain ⟨q, rfl⟩ : ∃ q : Nat, p = q := ⟨p.toNat, by omega⟩
    have hq : q < 3 := by omega
    have e1 : upT s q = mapS (upN q) s := by simp [upT, hz]
    rw [e1, hz]
    have hcon := Lib.hid (wrong_any q 0 [s])
    rw [hz] at hcon
    simp only [List.length_singleton] at hcon
    clear hz e1 hp0 hp3 hss
    go_enter Tryd.func22, Tryd.ntmps22
    go_wp2_with fail
    refine (hcon.out ⟨w.heap.size + 1, 0, none⟩ 1 _ (by simp) (by simpa using hs) (text_cell (w.alloc _) s _ (by simp))).mono ?_
    rintro e w1 ⟨rfl, rfl⟩
    go_wp2_with fail
    have hb0 : Below w.heap.size w ((w.alloc (.cells #[.int .i64 q] 3)).alloc (.cells #[.string s] 9)) := ((Below.refl _ _).alloc (Nat.le_refl _) _).alloc (by simp) _
    have hcell := cell_new1 w (.int .i64 q) 3 (.cells #[.string s] 9)
    have ht0 : Tabs ((w.alloc (.cells #[.int .i64 q] 3)).alloc (.cells #[.string s] 9)) := HT.out.below hb0 (Nat.le_refl _)
    have hz0 : w.heap.size < ((w.alloc (.cells #[.int .i64 q] 3)).alloc (.cells #[.string s] 9)).heap.size := by simp; omega
    generalize (w.alloc (.cells #[.int .i64 q] 3)).alloc (.cells #[.string s] 9) = w1 at *
    refine (mapped_any 49 (.pointer (some ⟨w.heap.size, 0, none⟩)) (upN q) s w1 (by omega) (fun b hb => up_lt hb hq) (ent_Upper _) (fun W hW b hb =>
      upperC_any b q w.heap.size hb hq W (ht0.below hW (Nat.le_refl _)) (by rw [hW.cell (p := ⟨w.heap.size, 0, none⟩) hz0]; exact hcell))).mono ?_
    rintro e w2 ⟨rfl, hb2⟩
    have HB2 := Lib.hid (hb0.trans (hb2.mono (Nat.le_of_lt hz0))); clear hb2
    go_wp2_with fail
    go_ret2
    exact ⟨rfl, HB2.out⟩

set_option maxHeartbeats 1000000 in
theorem lowerC_any (b p g : Nat) (hb : b < 256) (hp : p < 3) (w : World) (ht : Tabs w) (hg : w.cell? ⟨g, 0, none⟩ = some (.int .i64 p)) :
    Calls Tryd.prog 52 #[.int .u8 b, .pointer (some ⟨g, 0, none⟩)] w fun e w' => e = .returned (.int .u8 (lowN p b)) ∧ Below w.heap.size w w' := by
  have HT := Lib.hid ht; clear ht
  go_enter Tryd.func52, Tryd.ntmps52
  go_wp2_with fail
  refine (lower_any b p hb hp _ HT.out).mono ?_
  rintro e w1 ⟨rfl, hb1⟩
  have HB1 := Lib.hid hb1; clear hb1
  go_wp2_with fail
  go_ret
  exact ⟨rfl, HB1.out⟩
theorem ent_Lower (g : Nat) (b : Int) (W : World) : (callFunc 52 #[.int .u8 b, .pointer (some ⟨g, 0, none⟩)]).run Tryd.prog W = .ok (.enter 52 #[.int .u8 b, .pointer (some ⟨g, 0, none⟩)]) W := by
  kernel_rfl

set_option maxHeartbeats 2000000 in
theorem Lower_any (s : ByteArray) (p : Int) (w : World) (ht : Tabs w) (hs : s.size ≤ maxLen) :
    Calls Tryd.prog 24 #[.string s, .int .i64 p] w (TRes w (lowT s p) (wrongN p 0 [s])) := by
  have HT := Lib.hid ht; clear ht
  cases hz : decide (wrongN p 0 [s] = 0)
  · have hz : ¬ wrongN p 0 [s] = 0 := by simpa using hz
    have e1 : lowT s p = ⟨#[]⟩ := by simp [lowT, hz]
    rw [e1]
    have hcon := Lib.hid (wrong_any p 0 [s])
    simp only [List.length_singleton] at hcon
    generalize wrongN p 0 [s] = n at *
    have dn : (n != 0) = true := by simpa using hz
    clear hz e1
    go_enter Tryd.func24, Tryd.ntmps24
    go_wp2_with fail
    refine (hcon.out ⟨w.heap.size + 1, 0, none⟩ 1 _ (by simp) (by simpa using hs) (text_cell (w.alloc _) s _ (by simp))).mono ?_
    rintro e w1 ⟨rfl, rfl⟩
    go_wp2_with fail
    go_ret2
    exact ⟨rfl, ((Below.refl _ _).alloc (Nat.le_refl _) _).alloc (by simp) _⟩
  · have hz : wrongN p 0 [s] = 0 := by simpa using hz
    obtain ⟨hp0, hp3, _, hss⟩ := wrong_zero hz
    have hs2 : s.size ≤ 2048 := hss s (by simp)
    obtain ⟨q, rfl⟩ : ∃ q : Nat, p = q := ⟨p.toNat, by omega⟩
    have hq : q < 3 := by omega
    have e1 : lowT s q = mapS (lowN q) s := by simp [lowT, hz]
    rw [e1, hz]
    have hcon := Lib.hid (wrong_any q 0 [s])
    rw [hz] at hcon
    simp only [List.length_singleton] at hcon
    clear hz e1 hp0 hp3 hss
    go_enter Tryd.func24, Tryd.ntmps24
    go_wp2_with fail
    refine (hcon.out ⟨w.heap.size + 1, 0, none⟩ 1 _ (by simp) (by simpa using hs) (text_cell (w.alloc _) s _ (by simp))).mono ?_
    rintro e w1 ⟨rfl, rfl⟩
    go_wp2_with fail
    have hb0 : Below w.heap.size w ((w.alloc (.cells #[.int .i64 q] 3)).alloc (.cells #[.string s] 9)) := ((Below.refl _ _).alloc (Nat.le_refl _) _).alloc (by simp) _
    have hcell := cell_new1 w (.int .i64 q) 3 (.cells #[.string s] 9)
    have ht0 : Tabs ((w.alloc (.cells #[.int .i64 q] 3)).alloc (.cells #[.string s] 9)) := HT.out.below hb0 (Nat.le_refl _)
    have hz0 : w.heap.size < ((w.alloc (.cells #[.int .i64 q] 3)).alloc (.cells #[.string s] 9)).heap.size := by simp; omega
    generalize (w.alloc (.cells #[.int .i64 q] 3)).alloc (.cells #[.string s] 9) = w1 at *
    refine (mapped_any 52 (.pointer (some ⟨w.heap.size, 0, none⟩)) (lowN q) s w1 (by omega) (fun b hb => low_lt hb hq) (ent_Lower _) (fun W hW b hb =>
      lowerC_any b q w.heap.size hb hq W (ht0.below hW (Nat.le_refl _)) (by rw [hW.cell (p := ⟨w.heap.size, 0, none⟩) hz0]; exact hcell))).mono ?_
    rintro e w2 ⟨rfl, hb2⟩
    have HB2 := Lib.hid (hb0.trans (hb2.mono (Nat.le_of_lt hz0))); clear hb2
    go_wp2_with fail
    go_ret2
    exact ⟨rfl, HB2.out⟩
end Go.Proofs.YtgeikbcfjidgcaaDoor
