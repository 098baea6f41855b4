/- Whether values are far too long; the walk of KeyEncodes. -/
import Derived.Test.YtiddnacmopfamaaDoorKyP
import Derived.Test.YtiddnacmopfamaaDoorKyK
namespace Go.Proofs.YtiddnacmopfamaaDoor
open Go.RowKit
set_option linter.unusedVariables false
set_option linter.unusedSimpArgs false
set_option maxRecDepth 40000

def sumS (ss : List ByteArray) : Nat := (ss.map ByteArray.size).sum
theorem sumS_take {ss : List ByteArray} {k : Nat} (h : k < ss.length) : sumS (ss.take (k + 1)) = sumS (ss.take k) + (ss.getD k nil0).size := by
  unfold sumS
  rw [List.take_succ_eq_append_getElem h, List.map_append, List.sum_append]
  have e : ss.getD k nil0 = ss[k] := by simp [List.getD, h]
  rw [e]; simp
theorem sumS_le {ss : List ByteArray} (hs : ∀ s ∈ ss, s.size ≤ 140737488355328) : ∀ k, k ≤ ss.length → sumS (ss.take k) ≤ 140737488355328 * k
  | 0, _ => by simp [sumS]
  | k + 1, h => by
    rw [sumS_take (by omega)]
    have h1 := sumS_le hs k (by omega)
    have h2 : (ss.getD k nil0).size ≤ 140737488355328 := hs _ (by simp [List.getD, show k < ss.length by omega])
    omega
def ovB (ss : List ByteArray) : Bool := decide (40000 < ss.length + sumS ss)

set_option maxHeartbeats 4000000 in
theorem many_any (ss : List ByteArray) (g cap : Nat) (w : World) (hl : ss.length ≤ 100) (hs : ∀ s ∈ ss, s.size ≤ 140737488355328) (hc : ∀ j, j < ss.length → w.cell? ⟨g, j * 3 + 2, none⟩ = some (.string (ss.getD j nil0))) :
    Calls Tryd.prog 51 #[.slice (some ⟨g, 0, none⟩) ss.length cap] w fun e w' => e = .returned (.bool (ovB ss)) ∧ w = w' := by
  have HS := Lib.hid (sumS_le hs)
  have HSS := Lib.hid hs; clear hs
  have HC := Lib.hid hc; clear hc
  have HOV : Hid (ovB ss = decide (40000 < ss.length + sumS ss)) := Lib.hid rfl
  go_enter Tryd.func51, Tryd.ntmps51
  go_wp2_with fail
  go_loop [3, 4] (fun n i => ∃ k : Nat, k ≤ ss.length ∧ i = .int .i64 k ∧ n = .int .i64 ((ss.length + sumS (ss.take k) : Nat) : Int)) (fun _ i => ss.length - (intOf i).toNat)
  case atStart => exact ⟨0, by omega, rfl, by simp [sumS]⟩
  case round =>
    obtain ⟨k, hk, rfl, rfl⟩ := hrel
    have hsl := HS.out k hk
    by_cases hlt : k < ss.length
    · have hck := HC.out k hlt
      have htk := sumS_take hlt
      have hz : (ss.getD k nil0).size ≤ 140737488355328 := HSS.out _ (by simp [List.getD, hlt])
      generalize ss.getD k nil0 = s at *
      generalize sumS (ss.take k) = m at *
      have HTK := Lib.hid htk; clear htk
      go_wp2_with fail
      go_round
      case rel => exact ⟨k + 1, by omega, by go_num, by rw [HTK.out]; go_num⟩
      case measure => simp [intOf]; omega
    · have hkl : k = ss.length := by omega
      subst hkl
      rw [List.take_length] at hsl ⊢
      generalize sumS ss = m at *
      by_cases ho : 40000 < ss.length + m
      · have i1 : (40000 : Int) < (ss.length : Int) + m := by omega
        have HE : Hid (ovB ss = true) := Lib.hid (by rw [HOV.out]; simpa using ho)
        clear ho
        go_wp2_with fail
        go_ret
        exact ⟨by rw [HE.out]; rfl, rfl⟩
      · have i1 : ¬ (40000 : Int) < (ss.length : Int) + m := by omega
        have HE : Hid (ovB ss = false) := Lib.hid (by rw [HOV.out]; simpa using ho)
        clear ho
        go_wp2_with fail
        go_ret
        exact ⟨by rw [HE.out]; rfl, rfl⟩

theorem over_any (ss : List ByteArray) (g cap : Nat) (w : World) (hl : ss.length ≤ 100) (hs : ∀ s ∈ ss, s.size ≤ 140737488355328) (hc : ∀ j, j < ss.length → w.cell? ⟨g, j * 3 + 2, none⟩ = some (.string (ss.getD j nil0))) :
    Calls Tryd.prog 14 #[.slice (some ⟨g, 0, none⟩) ss.length cap] w fun e w' => e = .returned (.bool (ovB ss)) ∧ w = w' := by
  have HC := Lib.hid (many_any ss g cap w hl hs hc)
  clear hl hs hc
  go_enter Tryd.func14, Tryd.ntmps14
  go_wp2_with fail
  refine (HC.out).mono ?_
  rintro e w1 ⟨rfl, rfl⟩
  go_wp2_with fail
  go_ret
  exact ⟨rfl, rfl⟩
theorem over_one (k n : Int) (s : ByteArray) (g : Nat) (w : World) (hs : s.size ≤ 140737488355328) (hv : VCell w g k n s) :
    Calls Tryd.prog 14 #[.slice (some ⟨g, 0, none⟩) 1 1] w fun e w' => e = .returned (.bool (ovB [s])) ∧ w = w' :=
  over_any [s] g 1 w (by simp) (by simpa using hs) (fun j hj => by
    have h0 : j = 0 := by simpa using hj
    subst h0
    exact hv.2.2.1)
theorem ovB_one {s : ByteArray} (h : ovB [s] = false) : s.size ≤ 40000 := by
  unfold ovB sumS at h
  simp at h
  omega

/-- The cells of a row of three numbers. -/
def R3 (w : World) (g : Nat) (a b c : Int) : Prop := w.cell? ⟨g, 0, none⟩ = some (.int .i64 a) ∧ w.cell? ⟨g, 1, none⟩ = some (.int .i64 b) ∧ w.cell? ⟨g, 2, none⟩ = some (.int .i64 c) ∧ g < w.heap.size
theorem R3.below {w w' : World} {g B : Nat} {a b c : Int} (h : R3 w g a b c) (hb : Below B w w') (hg : g < B) : R3 w' g a b c :=
  ⟨(hb.cell (p := ⟨g, 0, none⟩) hg).trans h.1, (hb.cell (p := ⟨g, 1, none⟩) hg).trans h.2.1, (hb.cell (p := ⟨g, 2, none⟩) hg).trans h.2.2.1, by have := h.2.2.2; have := hb.size; omega⟩
theorem R3.new (w : World) (a b c : Int) (t : TypeId) : R3 (w.alloc (.cells #[.int .i64 a, .int .i64 b, .int .i64 c] t)) w.heap.size a b c := ⟨by simp, by simp, by simp, by simp⟩

theorem box_v3 (w : World) (k n : Int) (s : ByteArray) (a b c : Int) :
    let wb := ((w.alloc (.cells #[.int .i64 k, .int .i64 n, .string s] 23)).alloc (.cells #[.int .i64 a, .int .i64 b, .int .i64 c] 24)).alloc (.cells #[.int .i64 k, .int .i64 n, .string s] 23)
    VCell wb w.heap.size k n s ∧ R3 wb (w.heap.size + 1) a b c ∧ VCell wb (w.heap.size + 2) k n s ∧ Below w.heap.size w wb := by
  intro wb
  have hz1 : (w.alloc (.cells #[.int .i64 k, .int .i64 n, .string s] 23)).heap.size = w.heap.size + 1 := by simp
  have hz2 : ((w.alloc (.cells #[.int .i64 k, .int .i64 n, .string s] 23)).alloc (.cells #[.int .i64 a, .int .i64 b, .int .i64 c] 24)).heap.size = w.heap.size + 2 := by simp
  have h1 := VCell.new w k n s 23
  have h2 := R3.new (w.alloc (.cells #[.int .i64 k, .int .i64 n, .string s] 23)) a b c 24
  have h3 := VCell.new ((w.alloc (.cells #[.int .i64 k, .int .i64 n, .string s] 23)).alloc (.cells #[.int .i64 a, .int .i64 b, .int .i64 c] 24)) k n s 23
  have b2 := Below.of_alloc (w.alloc (.cells #[.int .i64 k, .int .i64 n, .string s] 23)) (.cells #[.int .i64 a, .int .i64 b, .int .i64 c] 24) _ (Nat.le_refl _)
  have b3 := Below.of_alloc ((w.alloc (.cells #[.int .i64 k, .int .i64 n, .string s] 23)).alloc (.cells #[.int .i64 a, .int .i64 b, .int .i64 c] 24)) (.cells #[.int .i64 k, .int .i64 n, .string s] 23) _ (Nat.le_refl _)
  have h1' := (h1.below b2 h1.2.2.2).below b3 (by rw [hz2]; omega)
  have h2' := h2.below b3 h2.2.2.2
  rw [hz1] at h2'
  rw [hz2] at h3
  exact ⟨h1', h2', h3, (((Below.refl _ _).alloc (Nat.le_refl _) _).alloc (by simp) _).alloc (by simp; omega) _⟩

set_option maxHeartbeats 8000000 in
theorem keyEncodes_any (k n : Int) (s : ByteArray) (p c x : Int) (w : World) (he : Env w) (hs : s.size ≤ 140737488355328) :
    Calls Tryd.prog 3 #[vv k n s, .agg #[.int .i64 p, .int .i64 c, .int .i64 x]] w fun e w' => e = .returned (.bool true) ∧ Below w.heap.size w w' := by
  have hbox := box_v3 w k n s p c x
  simp only at hbox
  have HE := Lib.hid (he.below hbox.2.2.2 (Nat.le_refl _)); clear he
  have HBX := Lib.hid hbox; clear hbox
  have C0 := Lib.hid (fun W h => known_any W h)
  go_enter Tryd.func3, Tryd.ntmps3
  go_wp2_with fail
  generalize ((w.alloc (.cells #[.int .i64 k, .int .i64 n, .string s] 23)).alloc (.cells #[.int .i64 p, .int .i64 c, .int .i64 x] 24)).alloc (.cells #[.int .i64 k, .int .i64 n, .string s] 23) = wb at *
  refine (over_one k n s _ _ hs HBX.out.2.2.1).mono ?_
  rintro e w1 ⟨rfl, rfl⟩
  cases ho : ovB [s]
  · have hz := ovB_one ho
    clear ho
    have C1 := Lib.hid (fun W h => Encode_any k n s p c (x == 1) W h (by omega))
    have C2 := Lib.hid (fun W => refEncode_any k n s p c (x == 1) W (by omega))
    generalize keyT k n s p c (x == 1) = t at *
    generalize wvE k n s p c = r at *
    obtain ⟨v0, v1, v2, _⟩ := HBX.out.1
    obtain ⟨r0, r1, r2, _⟩ := HBX.out.2.1
    go_wp2_with fail
    refine (C1.out _ HE.out).mono ?_
    rintro e w2 ⟨rfl, hb2⟩
    have HE2 := Lib.hid (HE.out.below hb2 (Nat.le_refl _))
    have HB2 := Lib.hid (HBX.out.2.2.2.trans (hb2.mono HBX.out.2.2.2.size))
    have HV2 := Lib.hid (HBX.out.1.below hb2 HBX.out.1.2.2.2)
    have HR2 := Lib.hid (HBX.out.2.1.below hb2 HBX.out.2.1.2.2.2)
    clear hb2 v0 v1 v2 r0 r1 r2
    obtain ⟨v0, v1, v2, _⟩ := HV2.out
    obtain ⟨r0, r1, r2, _⟩ := HR2.out
    go_wp2_with fail
    refine (C2.out _).mono ?_
    rintro e w3 ⟨rfl, hb3⟩
    have HE3 := Lib.hid (HE2.out.below hb3 (Nat.le_refl _))
    have HB3 := Lib.hid (HB2.out.trans (hb3.mono HB2.out.size)); clear hb3
    go_wp2_with fail
    refine (C0.out _ HE3.out).mono ?_
    rintro e w4 ⟨rfl, hb4⟩
    have HB4 := Lib.hid (HB3.out.trans (hb4.mono HB3.out.size)); clear hb4
    go_wp2_with fail
    go_ret
    exact ⟨rfl, HB4.out⟩
  · clear ho
    go_wp2_with fail
    refine (C0.out _ HE.out).mono ?_
    rintro e w4 ⟨rfl, hb4⟩
    have HB4 := Lib.hid (HBX.out.2.2.2.trans (hb4.mono HBX.out.2.2.2.size)); clear hb4
    go_wp2_with fail
    go_ret
    exact ⟨rfl, HB4.out⟩
theorem keyEncodes_all (k n : Int) (s : ByteArray) (p c x : Int) (w : World) (he : Env w) (hk : -9223372036854775808 ≤ k ∧ k ≤ 9223372036854775807) (hn : -9223372036854775808 ≤ n ∧ n ≤ 9223372036854775807) (hs : s.size ≤ 140737488355328) (h1 : -9223372036854775808 ≤ p ∧ p ≤ 9223372036854775807) (h2 : -9223372036854775808 ≤ c ∧ c ≤ 9223372036854775807) (h3 : -9223372036854775808 ≤ x ∧ x ≤ 9223372036854775807) :
    Calls Tryd.prog 3 #[vv k n s, .agg #[.int .i64 p, .int .i64 c, .int .i64 x]] w fun e w' => e = .returned (.bool true) ∧ Below w.heap.size w w' :=
  keyEncodes_any k n s p c x w he hs
end Go.Proofs.YtiddnacmopfamaaDoor
