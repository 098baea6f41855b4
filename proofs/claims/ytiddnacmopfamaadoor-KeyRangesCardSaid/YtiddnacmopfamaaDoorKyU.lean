/- A key turned round by the reference; what two texts have in common. -/
import Derived.Test.YtiddnacmopfamaaDoorKyT
import Derived.Test.YtiddnacmopfamaaDoorKyM
import Derived.Test.YtiddnacmopfamaaDoorKvAll
import Derived.BigQuiet
import Derived.Deep.QuietTactic
namespace Go.Proofs.YtiddnacmopfamaaDoor
open Go.RowKit
set_option linter.unusedVariables false
set_option linter.unusedSimpArgs false
set_option maxRecDepth 40000

set_option maxHeartbeats 4000000 in
theorem refTurned_any (s : ByteArray) (d : Bool) (w : World) (hs : s.size ≤ 200000) :
    Calls Tryd.prog 57 #[.string s, .bool d] w fun e w' => e = .returned (.string (turnS d s)) ∧ Below w.heap.size w w' := by
  cases d
  · rw [turn_false]
    go_enter Tryd.func57, Tryd.ntmps57
    go_wp2
    go_ret
    exact ⟨rfl, Below.refl _ _⟩
  have hcv1 := run_bytes_of_string (P := Tryd.prog) w 9 73 5 s Tryd.underlying9 Tryd.underlying73 Tryd.underlying5
  have hsz : s.data.toList.length = s.size := rfl
  generalize hcapE : grownCap w s.size 0 5 = cap at hcv1
  have hbr := BRow.new w.drew s cap
  have hbl : Below w.heap.size w (w.drew.alloc (.cells (bytesRow s cap) 5 ((bytesRow s cap).size, (bytesRow s cap).size + 1))) := (((Below.refl _ _).drew).alloc (by simp) _)
  rw [show w.drew.heap.size = w.heap.size from rfl] at hbr
  generalize w.drew.alloc (.cells (bytesRow s cap) 5 ((bytesRow s cap).size, (bytesRow s cap).size + 1)) = w2 at hcv1 hbr hbl
  have HBR := Lib.hid hbr; clear hbr
  have HBL := Lib.hid hbl; clear hbl
  clear hcapE
  go_enter Tryd.func57, Tryd.ntmps57
  go_wp2_with fail
  clear hcv1
  go_loopw [6] (fun i wr => ∃ k : Nat, k ≤ s.data.toList.length ∧ i = .int .i64 k ∧ BRow wr w.heap.size ((s.data.toList.take k).map (mapB (turnN true)) ++ s.data.toList.drop k) ∧ Below w.heap.size w wr) (fun i _ => s.size - (intOf i).toNat)
  case atStart => exact ⟨0, by omega, rfl, by simpa using HBR.out, HBL.out⟩
  case round =>
    obtain ⟨k, hk, rfl, hrow, hbel⟩ := hrel
    have HB := Lib.hid hbel; clear hbel
    have HR := Lib.hid hrow; clear hrow
    by_cases hlt : k < s.data.toList.length
    · have hck := (HR.out.2 k (by rw [part_len _ _ k hk]; exact hlt)).1
      have hfz := (HR.out.2 k (by rw [part_len _ _ k hk]; exact hlt)).2
      rw [part_at _ _ hlt] at hck
      have HPS := Lib.hid (part_set (turnN true) _ hlt)
      have hbb := byte_lt (s.data.toList.getD k 0)
      have hmb : mapB (turnN true) (s.data.toList.getD k 0) = UInt8.ofNat (255 - (s.data.toList.getD k 0).toNat) := rfl
      have hks : k < s.size := by omega
      have hks' : (k : Int) < s.size := by omega
      have HMB := Lib.hid hmb; clear hmb
      generalize (s.data.toList.getD k 0) = z at *
      go_wp2_with fail
      go_roundw
      case rel => exact ⟨k + 1, by omega, by go_num, by rw [← HPS.out]; exact HR.out.set (by rw [part_len _ _ k hk]; exact hlt) (by rw [HMB.out]; simp; omega), HB.out.setCell (Nat.le_refl _) _⟩
      case measure => simp [intOf]; omega
    · have hkl : k = s.data.toList.length := by omega
      have hks : k = s.size := by omega
      have hrow := HR.out
      rw [hkl, List.take_length, List.drop_length, List.append_nil] at hrow
      have htx := hrow.text cap
      rw [List.length_map, hsz] at htx
      clear hkl hrow
      go_wp2_with fail
      go_ret
      exact ⟨rfl, HB.out⟩

set_option maxHeartbeats 4000000 in
theorem common_any (a b : ByteArray) (w : World) (ha : a.size ≤ maxLen) (hb : b.size ≤ maxLen) :
    Calls Tryd.prog 71 #[.string a, .string b] w fun e w' => e = .returned (.int .i64 (lcp a.data.toList b.data.toList)) ∧ Below w.heap.size w w' := by
  unfold maxLen at ha hb
  have hla : a.data.toList.length = a.size := rfl
  have hlb : b.data.toList.length = b.size := rfl
  go_enter Tryd.func71, Tryd.ntmps71
  go_wp2_with fail
  go_loopw [5] (fun t wr => ∃ k : Nat, k ≤ a.size ∧ k ≤ b.size ∧ t = .int .i64 k ∧ Hid (∀ j : Nat, j < k → a.data.toList[j]? = b.data.toList[j]?) ∧ Below w.heap.size w wr) (fun t _ => a.size - (intOf t).toNat)
  case atStart => exact ⟨0, by omega, by omega, rfl, Lib.hid (fun j h => by omega), Below.refl _ _⟩
  case round =>
    obtain ⟨k, hk, hk', rfl, HA, hbw⟩ := hrel
    have HB := Lib.hid hbw; clear hbw
    have i1 : 0 ≤ (k : Int) := by omega
    by_cases h1 : k < a.size
    · have i2 : (k : Int) < a.size := by omega
      by_cases h2 : k < b.size
      · have i3 : (k : Int) < b.size := by omega
        cases hq : ((a[k]'h1).toNat : Int) == (b[k]'h2).toNat
        · have hd : lcp a.data.toList b.data.toList = k := lcp_is _ _ k (by omega) (by omega) HA.out (.inr (.inr (by
            rw [vbyte_at a k h1, vbyte_at b k h2]
            exact fun e => u8_no _ _ hq (Option.some.inj e))))
          have HD := Lib.hid hd; clear hd
          go_wp2_with fail
          go_quiet (fail)
          go_wp2_with fail
          go_ret
          exact ⟨by rw [HD.out]; rfl, Dr.below HB.out ⟨_, rfl⟩⟩
        · have hs := u8_yes _ _ hq
          have HN : Hid (∀ j : Nat, j < k + 1 → a.data.toList[j]? = b.data.toList[j]?) := Lib.hid fun j hj => by
            rcases Nat.lt_or_ge j k with q | q
            · exact HA.out j q
            · have : j = k := by omega
              subst this
              rw [vbyte_at a j h1, vbyte_at b j h2, hs]
          clear hs HA
          go_wp2_with fail
          go_quiet (fail)
          go_wp2_with fail
          go_roundw
          case rel => exact ⟨k + 1, by omega, by omega, by go_num, HN, Dr.below HB.out ⟨_, rfl⟩⟩
          case measure => simp [intOf]; omega
      · have i3 : ¬ (k : Int) < b.size := by omega
        have i4 : decide (k < b.size) = false := by simpa using h2
        have hd : lcp a.data.toList b.data.toList = k := lcp_is _ _ k (by omega) (by omega) HA.out (.inr (.inl (by omega)))
        have HD := Lib.hid hd; clear hd
        go_wp2_with fail
        go_quiet (fail)
        go_wp2_with fail
        go_ret
        exact ⟨by rw [HD.out]; rfl, Dr.below HB.out ⟨_, rfl⟩⟩
    · have i2 : ¬ (k : Int) < a.size := by omega
      have i4 : decide (k < a.size) = false := by simpa using h1
      have hd : lcp a.data.toList b.data.toList = k := lcp_is _ _ k (by omega) (by omega) HA.out (.inl (by omega))
      have HD := Lib.hid hd; clear hd
      go_wp2_with fail
      go_quiet (fail)
      go_wp2_with fail
      go_ret
      exact ⟨by rw [HD.out]; rfl, Dr.below HB.out ⟨_, rfl⟩⟩
end Go.Proofs.YtiddnacmopfamaaDoor
