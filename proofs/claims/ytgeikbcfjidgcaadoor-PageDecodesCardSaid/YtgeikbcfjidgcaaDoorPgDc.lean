/- Decode of the reference. -/
import Derived.Test.YtgeikbcfjidgcaaDoorPgVa
import Derived.Laws.Runes
import Derived.Laws.Cover1
namespace Go.Proofs.YtgeikbcfjidgcaaDoor
open Go.RowKit
set_option linter.unusedVariables false
set_option linter.unusedSimpArgs false

/-- The characters of the bytes, written. -/
def encL (p : Nat) (u : UInt8) : ByteArray := Utf8.encode ((chI p u.toNat).getD 0)
def decS (p : Nat) (l : List UInt8) : ByteArray := l.foldl (fun a u => a ++ encL p u) ⟨#[]⟩
theorem decS_take {p : Nat} {l : List UInt8} {k : Nat} (hk : k < l.length) : decS p (l.take (k + 1)) = decS p (l.take k) ++ Utf8.encode ((chI p (l.getD k 0).toNat).getD 0) := by
  have e : l.getD k 0 = l[k] := by simp [List.getD, hk]
  rw [e]
  unfold decS
  rw [List.take_succ_eq_append_getElem hk, List.foldl_append]
  rfl
theorem enc_le (r : Int) : (Utf8.encode r).size ≤ 4 := by
  unfold Utf8.encode
  by_cases h0 : Utf8.valid r = true
  · by_cases h1 : r < 128
    · simp [h0, h1, ByteArray.size]
    · by_cases h2 : r < 2048
      · simp [h0, h1, h2, ByteArray.size]
      · by_cases h3 : r < 65536
        · simp [h0, h1, h2, h3, ByteArray.size]
        · simp [h0, h1, h2, h3, ByteArray.size]
  · simp [h0]; try decide
theorem decS_le (p : Nat) (l : List UInt8) : ∀ k, k ≤ l.length → (decS p (l.take k)).size ≤ 4 * k
  | 0, _ => by simp [decS, ByteArray.size]
  | k + 1, h => by
    rw [decS_take (by omega), ByteArray.size_append]
    have h1 := decS_le p l k (by omega)
    have h2 := enc_le ((chI p (l.getD k 0).toNat).getD 0)
    omega
def decE (s : ByteArray) (p : Int) : Int := if wrongN p 0 [s] = 0 then (if vld p.toNat s.data.toList = true then 0 else 2) else wrongN p 0 [s]
def decT (s : ByteArray) (p : Int) : ByteArray := if wrongN p 0 [s] = 0 ∧ vld p.toNat s.data.toList = true then decS p.toNat s.data.toList else ⟨#[]⟩
def SRes (w : World) (t : ByteArray) (n : Int) (e : Ending) (w' : World) : Prop := e = .returned (.tuple #[.string t, .int .i64 n]) ∧ Below w.heap.size w w'

set_option maxHeartbeats 4000000 in
theorem refDecode_any (s : ByteArray) (p : Int) (w : World) (hs : s.size ≤ maxLen) :
    Calls Tryd.prog 15 #[.string s, .int .i64 p] w (SRes w (decT s p) (decE s p)) := by
  have hc1 : ((w.alloc (.cells #[.string s] 9)).alloc (.cells #[.int .i64 p] 3)).cell? ⟨w.heap.size, 0, none⟩ = some (.string s) := cell_new1 _ _ _ _
  have hc2 : ((w.alloc (.cells #[.string s] 9)).alloc (.cells #[.int .i64 p] 3)).cell? ⟨w.heap.size + 1, 0, none⟩ = some (.int .i64 p) := by
    have hz : (w.alloc (.cells #[.string s] 9)).heap.size = w.heap.size + 1 := by simp
    rw [← hz]; simp
  have hcon := Lib.hid (asked_one 0 p s w.heap.size (w.heap.size + 1) _ hs hc1 hc2)
  clear hc1 hc2
  have HB0 := Lib.hid (two_below w (.cells #[.string s] 9) (.cells #[.int .i64 p] 3))
  cases hz : decide (wrongN p 0 [s] = 0)
  · have hz : ¬ wrongN p 0 [s] = 0 := by simpa using hz
    have e1 : decT s p = ⟨#[]⟩ := by simp [decT, hz]
    have e2 : decE s p = wrongN p 0 [s] := by simp [decE, hz]
    rw [e1, e2]
    generalize wrongN p 0 [s] = n at *
    have dn : (n != 0) = true := by simpa using hz
    clear hz e1 e2
    go_enter Tryd.func15, Tryd.ntmps15
    go_wp2_with fail
    refine (hcon.out).mono ?_
    rintro e w1 ⟨rfl, rfl⟩
    go_wp2_with fail
    go_ret2
    exact ⟨rfl, HB0.out⟩
  · have hz : wrongN p 0 [s] = 0 := by simpa using hz
    obtain ⟨hp0, hp3, _, hss⟩ := wrong_zero hz
    have hs2 : s.size ≤ 2048 := hss s (by simp)
    obtain ⟨q, rfl⟩ : ∃ q : Nat, p = q := ⟨p.toNat, by omega⟩
    have hp : q < 3 := by omega
    have E1 : Hid (vld q s.data.toList = true → decT s q = decS q s.data.toList ∧ decE s q = 0) := Lib.hid fun h => by simp [decT, decE, hz, h]
    have E2 : Hid (vld q s.data.toList = false → decT s q = ⟨#[]⟩ ∧ decE s q = 2) := Lib.hid fun h => by simp [decT, decE, hz, h]
    rw [hz] at hcon
    clear hz hp0 hp3 hss
    have hsz : s.data.toList.length = s.size := rfl
    go_enter Tryd.func15, Tryd.ntmps15
    go_wp2_with fail
    refine (hcon.out).mono ?_
    rintro e w1 ⟨rfl, rfl⟩
    generalize (w.alloc (.cells #[.string s] 9)).alloc (.cells #[.int .i64 q] 3) = wb at *
    go_wp2_with fail
    go_loopw [7, 8] (fun o i wr => ∃ k : Nat, k ≤ s.data.toList.length ∧ i = .int .i64 k ∧ o = .string (decS q (s.data.toList.take k)) ∧ vld q (s.data.toList.take k) = true ∧ Below w.heap.size w wr) (fun _ i _ => s.size - (intOf i).toNat)
    case atStart => exact ⟨0, by omega, rfl, by simp [decS], by simp [vld], HB0.out⟩
    case round =>
      obtain ⟨k, hk, rfl, rfl, hv, hbel⟩ := hrel
      have HB := Lib.hid hbel; clear hbel
      by_cases hlt : k < s.data.toList.length
      · have hks : k < s.size := by omega
        have hks' : (k : Int) < s.size := by omega
        have hsk : s[k].toNat = (s.data.toList.getD k 0).toNat := byte_at s k hks
        have hbb := byte_lt (s.data.toList.getD k 0)
        have HNO := Lib.hid (vld_no (p := q) (l := s.data.toList) hlt)
        have HST := Lib.hid (fun h => vld_step (p := q) (l := s.data.toList) hlt h hv)
        have HTK := Lib.hid (decS_take (p := q) (l := s.data.toList) hlt)
        have hle := decS_le q s.data.toList k hk
        clear hv
        generalize (s.data.toList.getD k 0) = z at *
        generalize decS q (s.data.toList.take k) = o at *
        have hch := char_any z.toNat q hbb hp wr
        have HCH := Lib.hid hch; clear hch
        cases hco : chI q z.toNat with
        | none =>
          rw [hco] at HCH HNO
          clear HST HTK hco
          have HE := Lib.hid (E2.out (HNO.out rfl))
          clear HNO
          go_wp2_with fail
          refine (HCH.out).mono ?_
          rintro e w1 ⟨rfl, rfl⟩
          simp only [Option.getD_none, Option.isSome_none]
          go_wp2_with fail
          (try rw [Exit.noGoto_ret])
          go_ret2
          exact ⟨by rw [HE.out.1, HE.out.2]; rfl, HB.out⟩
        | some c =>
          have hcr := chI_range hp hbb hco
          rw [hco] at HCH HST HTK
          clear HNO hco
          have hwr : IntKind.i32.wrap c = c := by simp [IntKind.wrap, IntKind.signed, IntKind.bits]; omega
          have hen := enc_le c
          simp only [Option.getD_some] at HTK
          generalize hEN : Utf8.encode c = en at *
          have hsum : o.size + en.size ≤ maxLen := by unfold maxLen; omega
          go_wp2_with fail
          refine (HCH.out).mono ?_
          rintro e w1 ⟨rfl, rfl⟩
          simp only [Option.getD_some, Option.isSome_some]
          go_wp2_with fail
          go_roundw
          case rel => exact ⟨k + 1, by omega, by go_num, by rw [HTK.out], HST.out rfl, HB.out⟩
          case measure => simp [intOf]; omega
      · have hkl : k = s.data.toList.length := by omega
        have hks : k = s.size := by omega
        have gk : ¬ (k : Int) < s.size := by omega
        rw [hkl, List.take_length] at hv
        have HE := Lib.hid (E1.out hv)
        have HTL : Hid (s.data.toList.take s.size = s.data.toList) := Lib.hid (by rw [← hsz, List.take_length])
        clear hv hkl
        go_wp2_with fail
        go_ret2
        exact ⟨by rw [HE.out.1, HE.out.2, HTL.out]; rfl, HB.out⟩
end Go.Proofs.YtgeikbcfjidgcaaDoor
