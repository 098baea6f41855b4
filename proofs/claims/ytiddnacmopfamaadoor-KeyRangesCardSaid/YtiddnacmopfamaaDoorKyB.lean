/- Behind of both. -/
import Derived.Test.YtiddnacmopfamaaDoorKyS
namespace Go.Proofs.YtiddnacmopfamaaDoor
open Go.RowKit
set_option linter.unusedVariables false
set_option linter.unusedSimpArgs false
set_option maxRecDepth 40000

def behF (l : List UInt8) : Nat → Option (List UInt8)
  | 0 => none
  | n + 1 => if (l.getD n 0).toNat = 255 then behF l n else some (l.take n ++ [l.getD n 0 + 1])
def behO (l : List UInt8) : Option (List UInt8) := behF l l.length
def oT (o : Option (List UInt8)) : ByteArray := BA (o.getD [])
theorem getD_take {l : List UInt8} {n m : Nat} (h : n < m) : (l.take m).getD n 0 = l.getD n 0 := by
  rw [List.getD_eq_getElem?_getD, List.getElem?_take, if_pos h]; rfl

set_option maxHeartbeats 4000000 in
theorem Behind_any (s : ByteArray) (w : World) (hs : s.size ≤ 100000) :
    Calls Tryd.prog 33 #[.string s] w fun e w' => e = .returned (.tuple #[.string (oT (behO s.data.toList)), .bool (behO s.data.toList).isSome]) ∧ Below w.heap.size w w' := by
  have hsz : s.data.toList.length = s.size := rfl
  have HFO : Hid (behF s.data.toList s.data.toList.length = behO s.data.toList) := Lib.hid rfl
  generalize behO s.data.toList = o at *
  go_enter Tryd.func33, Tryd.ntmps33
  go_wp2_with fail
  go_loopw [4] (fun i wr => ∃ n : Nat, n ≤ s.data.toList.length ∧ i = .int .i64 ((n : Int) - 1) ∧ Hid (behF s.data.toList n = o) ∧ Below w.heap.size w wr) (fun i _ => (intOf i + 1).toNat)
  case atStart => exact ⟨s.data.toList.length, by omega, by rw [hsz], HFO, Below.refl _ _⟩
  case round =>
    obtain ⟨m, hk, rfl, HF, hbel⟩ := hrel
    have HB := Lib.hid hbel; clear hbel
    by_cases h0 : m = 0
    · subst h0
      have HE : Hid (none = o) := Lib.hid HF.out
      have d1 : decide ((0 : Int) ≤ ((0 : Nat) : Int) - 1) = false := by decide
      have i1 : ¬ (0 : Int) ≤ ((0 : Nat) : Int) - 1 := by omega
      have i2 : ((0 : Nat) : Int) - 1 < 0 := by omega
      go_wp2_with fail
      go_ret2
      exact ⟨by rw [← HE.out]; rfl, HB.out⟩
    · obtain ⟨n, rfl⟩ : ∃ n, m = n + 1 := ⟨m - 1, by omega⟩
      have hlt : n < s.data.toList.length := by omega
      have hi : (((n + 1 : Nat) : Int) - 1) = (n : Int) := by omega
      rw [hi]
      have hks : n < s.size := by omega
      have hks' : (n : Int) < s.size := by omega
      have i0 : (0 : Int) ≤ n := by omega
      have i00 : ¬ (n : Int) < 0 := by omega
      have hat := byte_at s n hks
      have hbb := byte_lt (s.data.toList.getD n 0)
      by_cases hc : (s.data.toList.getD n 0).toNat = 255
      · have ho : behF s.data.toList n = o := by have := HF.out; rwa [behF, if_pos hc] at this
        have HO := Lib.hid ho; clear ho
        have hc' : (((s.data.toList.getD n 0).toNat : Int) == 255) = true := by rw [hc]; rfl
        generalize (s.data.toList.getD n 0) = z at *
        clear hc
        go_wp2_with fail
        go_roundw
        case rel => exact ⟨n, by omega, rfl, HO, HB.out⟩
        case measure => simp [intOf]
      · have ho : some (s.data.toList.take n ++ [s.data.toList.getD n 0 + 1]) = o := by have := HF.out; rwa [behF, if_neg hc] at this
        have HO := Lib.hid ho; clear ho
        have hinc := inc_byte (u := s.data.toList.getD n 0) (by omega)
        have hc' : (((s.data.toList.getD n 0).toNat : Int) == 255) = false := by rw [beq_eq_false_iff_ne]; omega
        have hex := take_ext s n (by omega)
        generalize (s.data.toList.getD n 0) = u at *
        have i9 : (u.toNat : Int) + 1 < 256 := by omega
        have hcv : ∀ (W : World) (m : Nat), W.cell? ⟨m, 0, none⟩ = some (.int .u8 ((u.toNat : Int) + 1)) → (convert 73 9 (.slice (some ⟨m, 0, none⟩) 1 1)).run Tryd.prog W = .ok (.string (BA [u + 1])) W := fun W m h => by
          rw [← strOne (u + 1) ((u.toNat : Int) + 1) (by omega)]; exact conv1 w _ W m h
        have i7 : ¬ (9223372036854775807 < min n s.size + (BA [u + 1]).size) := by rw [BA_size]; simp; omega
        have i6 : (n : Int) ≤ s.size := by omega
        have HEX := Lib.hid hex; clear hex
        clear hc hinc
        go_wp2_with fail
        go_region
        all_goals (go_wp2_with fail; go_ret2)
        all_goals exact ⟨by rw [← HO.out, HEX.out, BA_app]; rfl, (HB.out.alloc HB.out.size _).drew⟩

set_option maxHeartbeats 4000000 in
theorem refBehind_any (s : ByteArray) (w : World) (hs : s.size ≤ 100000) :
    Calls Tryd.prog 34 #[.string s] w fun e w' => e = .returned (.tuple #[.string (oT (behO s.data.toList)), .bool (behO s.data.toList).isSome]) ∧ Below w.heap.size w w' := by
  have hcv1 := run_bytes_of_string (P := Tryd.prog) w 9 73 5 s Tryd.underlying9 Tryd.underlying73 Tryd.underlying5
  have hsz : s.data.toList.length = s.size := rfl
  have hcap0 := grownCap_ge w s.size 0 5
  generalize hcapE : grownCap w s.size 0 5 = cap at hcv1 hcap0
  have hbr := BRow.new w.drew s cap
  have hbl : Below w.heap.size w (w.drew.alloc (.cells (bytesRow s cap) 5 ((bytesRow s cap).size, (bytesRow s cap).size + 1))) := (((Below.refl _ _).drew).alloc (by simp) _)
  rw [show w.drew.heap.size = w.heap.size from rfl] at hbr
  generalize w.drew.alloc (.cells (bytesRow s cap) 5 ((bytesRow s cap).size, (bytesRow s cap).size + 1)) = w2 at hcv1 hbr hbl
  have HBR := Lib.hid hbr; clear hbr
  have HBL := Lib.hid hbl; clear hbl
  clear hcapE
  have HFO : Hid (behF s.data.toList s.data.toList.length = behO s.data.toList) := Lib.hid rfl
  generalize behO s.data.toList = o at *
  go_enter Tryd.func34, Tryd.ntmps34
  go_wp2_with fail
  clear hcv1
  go_loopw [4] (fun v wr => ∃ n : Nat, n ≤ s.data.toList.length ∧ v = .slice (some ⟨w.heap.size, 0, none⟩) n cap ∧ Hid (behF s.data.toList n = o) ∧ BRow wr w.heap.size s.data.toList ∧ Below w.heap.size w wr) (fun v _ => match v with | .slice _ n _ => n | _ => 0)
  case atStart => exact ⟨s.data.toList.length, by omega, by rw [hsz], HFO, HBR.out, HBL.out⟩
  case round =>
    obtain ⟨m, hk, rfl, HF, hrow, hbel⟩ := hrel
    have HB := Lib.hid hbel; clear hbel
    have HR := Lib.hid hrow; clear hrow
    by_cases h0 : m = 0
    · subst h0
      have HE : Hid (none = o) := Lib.hid HF.out
      go_wp2_with fail
      go_ret2
      exact ⟨by rw [← HE.out]; rfl, HB.out⟩
    · obtain ⟨n, rfl⟩ : ∃ n, m = n + 1 := ⟨m - 1, by omega⟩
      have hlt : n < s.data.toList.length := by omega
      have hck := (HR.out.2 n hlt).1
      have hfz := (HR.out.2 n hlt).2
      have i0 : (0 : Int) < ((n + 1 : Nat) : Int) := by omega
      have hi : (((n + 1 : Nat) : Int) - 1) = (n : Int) := by omega
      have i5 : ¬ (((n + 1 : Nat) : Int) == 0) = true := by simp; omega
      have hbb := byte_lt (s.data.toList.getD n 0)
      have hn2 : n + 1 ≤ cap := by omega
      have hn3 : n ≤ cap := by omega
      by_cases hc : (s.data.toList.getD n 0).toNat = 255
      · have ho : behF s.data.toList n = o := by have := HF.out; rwa [behF, if_pos hc] at this
        have HO := Lib.hid ho; clear ho
        have hc' : (((s.data.toList.getD n 0).toNat : Int) == 255) = true := by rw [hc]; rfl
        generalize (s.data.toList.getD n 0) = z at *
        clear hc
        go_wp2_with fail
        go_roundw
        case rel => exact ⟨n, by omega, rfl, HO, HR.out, HB.out⟩
        case measure => simp
      · have ho : some (s.data.toList.take n ++ [s.data.toList.getD n 0 + 1]) = o := by have := HF.out; rwa [behF, if_neg hc] at this
        have HO := Lib.hid ho; clear ho
        have hinc := inc_byte (u := s.data.toList.getD n 0) (by omega)
        have hc' : (((s.data.toList.getD n 0).toNat : Int) == 255) = false := by rw [beq_eq_false_iff_ne]; omega
        have hset := HR.out.set (k := n) (z := s.data.toList.getD n 0 + 1) (v := ((s.data.toList.getD n 0).toNat : Int) + 1) hlt (by omega)
        have hcut : BRow (wr.setCell ⟨w.heap.size, n, none⟩ (.int .u8 (((s.data.toList.getD n 0).toNat : Int) + 1))) w.heap.size (s.data.toList.take n ++ [s.data.toList.getD n 0 + 1]) := by
          refine ⟨hset.1, fun j hj => ?_⟩
          have hj' : j < n + 1 := by simp at hj; omega
          have h1 := hset.2 j (by rw [List.length_set]; omega)
          have e : (s.data.toList.take n ++ [s.data.toList.getD n 0 + 1]).getD j 0 = (s.data.toList.set n (s.data.toList.getD n 0 + 1)).getD j 0 := by
            by_cases e : j = n
            · subst e
              generalize s.data.toList.getD j 0 + 1 = x
              rw [List.getD_eq_getElem?_getD, List.getElem?_append_right (by rw [List.length_take]; omega), List.length_take, Nat.min_eq_left (by omega), Nat.sub_self, List.getD_eq_getElem?_getD, List.getElem?_set, if_pos rfl, if_pos hlt]
              rfl
            · have hjn : j < n := by omega
              rw [List.getD_eq_getElem?_getD, List.getElem?_append_left (by simp; omega), List.getElem?_take, if_pos hjn, List.getD_eq_getElem?_getD, List.getElem?_set, if_neg (by omega)]
          rw [e]; exact h1
        have htx := hcut.text cap
        have hll : (s.data.toList.take n ++ [s.data.toList.getD n 0 + 1]).length = n + 1 := by simp; omega
        rw [hll] at htx
        generalize (s.data.toList.getD n 0) = u at *
        have hwr : IntKind.u8.wrap ((u.toNat : Int) + 1) = (u.toNat : Int) + 1 := IntWalk.u8_in _ (by omega)
        have i9 : (u.toNat : Int) + 1 < 256 := by omega
        clear hc hinc hcut hset hll
        go_wp2_with fail
        go_ret2
        exact ⟨by rw [← HO.out]; rfl, HB.out.setCell (Nat.le_refl _) _⟩
end Go.Proofs.YtiddnacmopfamaaDoor
