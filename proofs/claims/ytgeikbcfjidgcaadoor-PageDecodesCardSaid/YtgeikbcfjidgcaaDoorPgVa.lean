/- Valid of both. -/
import Derived.Test.YtgeikbcfjidgcaaDoorPgC4
import Derived.Test.YtgeikbcfjidgcaaDoorPgK2
namespace Go.Proofs.YtgeikbcfjidgcaaDoor
open Go.RowKit
set_option linter.unusedVariables false
set_option linter.unusedSimpArgs false

/-- Whether every byte is a character. -/
def vld (p : Nat) (l : List UInt8) : Bool := l.all fun u => (chI p u.toNat).isSome
theorem vld_no {p : Nat} {l : List UInt8} {k : Nat} (hk : k < l.length) (h : (chI p (l.getD k 0).toNat).isSome = false) : vld p l = false := by
  have e : l.getD k 0 = l[k] := by simp [List.getD, hk]
  rw [e] at h
  unfold vld
  rw [List.all_eq_false]
  exact ⟨l[k], List.getElem_mem _, by simpa using h⟩
theorem vld_step {p : Nat} {l : List UInt8} {k : Nat} (hk : k < l.length) (h : (chI p (l.getD k 0).toNat).isSome = true) (hv : vld p (l.take k) = true) : vld p (l.take (k + 1)) = true := by
  have e : l.getD k 0 = l[k] := by simp [List.getD, hk]
  rw [e] at h
  unfold vld at hv ⊢
  rw [List.take_succ_eq_append_getElem hk, List.all_append, hv]
  simp [h]
def vldB (s : ByteArray) (p : Int) : Bool := wrongN p 0 [s] = 0 && vld p.toNat s.data.toList

set_option maxHeartbeats 4000000 in
theorem Valid_any (s : ByteArray) (p : Int) (w : World) (ht : Tabs w) (hsp : SpTab w) (hs : s.size ≤ maxLen) :
    Calls Tryd.prog 16 #[.string s, .int .i64 p] w (KRes w (vldB s p) (wrongN p 0 [s])) := by
  have HT := Lib.hid ht; clear ht
  have HSP := Lib.hid hsp; clear hsp
  have hcon := Lib.hid (wrong_any p 0 [s])
  simp only [List.length_singleton] at hcon
  cases hz : decide (wrongN p 0 [s] = 0)
  · have hz : ¬ wrongN p 0 [s] = 0 := by simpa using hz
    have e1 : vldB s p = false := by simp [vldB, hz]
    rw [e1]
    generalize wrongN p 0 [s] = n at *
    have dn : (n != 0) = true := by simpa using hz
    clear hz e1
    go_enter Tryd.func16, Tryd.ntmps16
    go_wp2_with fail
    refine (hcon.out ⟨w.heap.size, 0, none⟩ 1 _ (by simp) (by simpa using hs) (text_cell w s _ rfl)).mono ?_
    rintro e w1 ⟨rfl, rfl⟩
    go_wp2_with fail
    go_ret2
    exact ⟨rfl, (Below.refl _ _).alloc (Nat.le_refl _) _⟩
  · have hz : wrongN p 0 [s] = 0 := by simpa using hz
    obtain ⟨hp0, hp3, _, hss⟩ := wrong_zero hz
    have hs2 : s.size ≤ 2048 := hss s (by simp)
    obtain ⟨q, rfl⟩ : ∃ q : Nat, p = q := ⟨p.toNat, by omega⟩
    have hp : q < 3 := by omega
    have e1 : vldB s q = vld q s.data.toList := by simp [vldB, hz]
    rw [e1, hz]
    rw [hz] at hcon
    clear e1 hz hp0 hp3 hss
    have hsz : s.data.toList.length = s.size := rfl
    have hb0 : Below w.heap.size w (w.alloc (.cells #[.string s] 9)) := (Below.refl _ _).alloc (Nat.le_refl _) _
    have HB0 := Lib.hid hb0; clear hb0
    go_enter Tryd.func16, Tryd.ntmps16
    go_wp2_with fail
    refine (hcon.out ⟨w.heap.size, 0, none⟩ 1 _ (by simp) (by simpa using hs) (text_cell w s _ rfl)).mono ?_
    rintro e w1 ⟨rfl, rfl⟩
    generalize w.alloc (.cells #[.string s] 9) = wb at *
    go_wp2_with fail
    go_loopw [19] (fun i wr => ∃ k : Nat, k ≤ s.data.toList.length ∧ i = .int .i64 k ∧ vld q (s.data.toList.take k) = true ∧ Below w.heap.size w wr) (fun i _ => s.size - (intOf i).toNat)
    case atStart => exact ⟨0, by omega, rfl, by simp [vld], HB0.out⟩
    case round =>
      obtain ⟨k, hk, rfl, hv, hbel⟩ := hrel
      have HB := Lib.hid hbel; clear hbel
      by_cases hlt : k < s.data.toList.length
      · have hks : k < s.size := by omega
        have hks' : (k : Int) < s.size := by omega
        have hsk : s[k].toNat = (s.data.toList.getD k 0).toNat := byte_at s k hks
        have hbb := byte_lt (s.data.toList.getD k 0)
        have HNO := Lib.hid (vld_no (p := q) (l := s.data.toList) hlt)
        have HST := Lib.hid (fun h => vld_step (p := q) (l := s.data.toList) hlt h hv)
        clear hv
        generalize (s.data.toList.getD k 0) = z at *
        have HSPr := Lib.hid (HSP.out.below HB.out HT.out.pos)
        have hch := character_any z.toNat q hbb hp wr HSPr.out
        rw [chr_is hp hbb] at hch
        have HCH := Lib.hid hch; clear hch
        cases hco : chI q z.toNat with
        | none =>
          rw [hco] at HCH HNO
          clear HST hco
          have hno := HNO.out rfl
          rw [hno]
          clear HNO hno
          go_wp2_with fail
          refine (HCH.out).mono ?_
          rintro e w1 ⟨rfl, hb1⟩
          simp only [Option.getD_none, Option.isSome_none]
          have HB1 := Lib.hid (HB.out.trans (hb1.mono HB.out.size)); clear hb1
          go_wp2_with fail
          (try rw [Exit.noGoto_ret])
          go_ret2
          exact ⟨rfl, HB1.out⟩
        | some c =>
          rw [hco] at HCH HST
          clear HNO hco
          go_wp2_with fail
          refine (HCH.out).mono ?_
          rintro e w1 ⟨rfl, hb1⟩
          simp only [Option.getD_some, Option.isSome_some]
          have HB1 := Lib.hid (HB.out.trans (hb1.mono HB.out.size)); clear hb1
          go_wp2_with fail
          go_roundw
          case rel => exact ⟨k + 1, by omega, by go_num, HST.out rfl, HB1.out⟩
          case measure => simp [intOf]; omega
      · have hkl : k = s.data.toList.length := by omega
        have hks : k = s.size := by omega
        have gk : ¬ (k : Int) < s.size := by omega
        rw [hkl, List.take_length] at hv
        have HV := Lib.hid hv
        clear hv hkl
        go_wp2_with fail
        go_ret2
        exact ⟨by rw [HV.out]; rfl, HB.out⟩

set_option maxHeartbeats 4000000 in
theorem refValid_any (s : ByteArray) (p : Int) (w : World) (hs : s.size ≤ maxLen) :
    Calls Tryd.prog 17 #[.string s, .int .i64 p] w (KRes w (vldB s p) (wrongN p 0 [s])) := by
  have hc1 : ((w.alloc (.cells #[.string s] 9)).alloc (.cells #[.int .i64 p] 3)).cell? ⟨w.heap.size, 0, none⟩ = some (.string s) := cell_new1 _ _ _ _
  have hc2 : ((w.alloc (.cells #[.string s] 9)).alloc (.cells #[.int .i64 p] 3)).cell? ⟨w.heap.size + 1, 0, none⟩ = some (.int .i64 p) := by
    have hz : (w.alloc (.cells #[.string s] 9)).heap.size = w.heap.size + 1 := by simp
    rw [← hz]; simp
  have hcon := Lib.hid (asked_one 0 p s w.heap.size (w.heap.size + 1) _ hs hc1 hc2)
  clear hc1 hc2
  have HB0 := Lib.hid (two_below w (.cells #[.string s] 9) (.cells #[.int .i64 p] 3))
  cases hz : decide (wrongN p 0 [s] = 0)
  · have hz : ¬ wrongN p 0 [s] = 0 := by simpa using hz
    have e1 : vldB s p = false := by simp [vldB, hz]
    rw [e1]
    generalize wrongN p 0 [s] = n at *
    have dn : (n != 0) = true := by simpa using hz
    clear hz e1
    go_enter Tryd.func17, Tryd.ntmps17
    go_wp2_with fail
    refine (hcon.out).mono ?_
    rintro e w1 ⟨rfl, rfl⟩
    go_wp2_with fail
    go_ret2
    exact ⟨rfl, HB0.out⟩
  · have hz : wrongN p 0 [s] = 0 := by simpa using hz
    obtain ⟨hp0, hp3, _, hss⟩ := wrong_zero hz
    have hs2 : s.size ≤ 2048 := hss s (by simp)
    obtain ⟨q, rfl⟩ : ∃ q : Nat, p = q := ⟨p.toNat, by omega⟩
    have hp : q < 3 := by omega
    have e1 : vldB s q = vld q s.data.toList := by simp [vldB, hz]
    rw [e1, hz]
    rw [hz] at hcon
    clear e1 hz hp0 hp3 hss
    have hsz : s.data.toList.length = s.size := rfl
    go_enter Tryd.func17, Tryd.ntmps17
    go_wp2_with fail
    refine (hcon.out).mono ?_
    rintro e w1 ⟨rfl, rfl⟩
    generalize (w.alloc (.cells #[.string s] 9)).alloc (.cells #[.int .i64 q] 3) = wb at *
    go_wp2_with fail
    go_loopw [7] (fun i wr => ∃ k : Nat, k ≤ s.data.toList.length ∧ i = .int .i64 k ∧ vld q (s.data.toList.take k) = true ∧ Below w.heap.size w wr) (fun i _ => s.size - (intOf i).toNat)
    case atStart => exact ⟨0, by omega, rfl, by simp [vld], HB0.out⟩
    case round =>
      obtain ⟨k, hk, rfl, hv, hbel⟩ := hrel
      have HB := Lib.hid hbel; clear hbel
      by_cases hlt : k < s.data.toList.length
      · have hks : k < s.size := by omega
        have hks' : (k : Int) < s.size := by omega
        have hsk : s[k].toNat = (s.data.toList.getD k 0).toNat := byte_at s k hks
        have hbb := byte_lt (s.data.toList.getD k 0)
        have HNO := Lib.hid (vld_no (p := q) (l := s.data.toList) hlt)
        have HST := Lib.hid (fun h => vld_step (p := q) (l := s.data.toList) hlt h hv)
        clear hv
        generalize (s.data.toList.getD k 0) = z at *
        have hch := char_any z.toNat q hbb hp wr
        have HCH := Lib.hid hch; clear hch
        cases hco : chI q z.toNat with
        | none =>
          rw [hco] at HCH HNO
          clear HST hco
          have hno := HNO.out rfl
          rw [hno]
          clear HNO hno
          go_wp2_with fail
          refine (HCH.out).mono ?_
          rintro e w1 ⟨rfl, rfl⟩
          simp only [Option.getD_none, Option.isSome_none]
          go_wp2_with fail
          (try rw [Exit.noGoto_ret])
          go_ret2
          exact ⟨rfl, HB.out⟩
        | some c =>
          rw [hco] at HCH HST
          clear HNO hco
          go_wp2_with fail
          refine (HCH.out).mono ?_
          rintro e w1 ⟨rfl, rfl⟩
          simp only [Option.getD_some, Option.isSome_some]
          go_wp2_with fail
          go_roundw
          case rel => exact ⟨k + 1, by omega, by go_num, HST.out rfl, HB.out⟩
          case measure => simp [intOf]; omega
      · have hkl : k = s.data.toList.length := by omega
        have hks : k = s.size := by omega
        have gk : ¬ (k : Int) < s.size := by omega
        rw [hkl, List.take_length] at hv
        have HV := Lib.hid hv
        clear hv hkl
        go_wp2_with fail
        go_ret2
        exact ⟨by rw [HV.out]; rfl, HB.out⟩
end Go.Proofs.YtgeikbcfjidgcaaDoor
