/- Short of the reference. -/
import Derived.Test.YtiddnacmopfamaaDoorKyS
namespace Go.Proofs.YtiddnacmopfamaaDoor
open Go.RowKit
set_option linter.unusedVariables false
set_option linter.unusedSimpArgs false
set_option maxRecDepth 40000

def furF (l : List UInt8) : Nat → Option (List UInt8)
  | 0 => none
  | n + 1 => if (l.getD n 0).toNat < 255 then some (furAt l n) else furF l n
def furO (l : List UInt8) : Option (List UInt8) := furF l l.length
theorem furF_some {l : List UInt8} : ∀ {n : Nat} {x : List UInt8}, furF l n = some x → ∃ i, i < n ∧ (l.getD i 0).toNat < 255 ∧ x = furAt l i
  | 0, x, h => by cases h
  | n + 1, x, h => by
    unfold furF at h
    split at h
    · rename_i hc
      exact ⟨n, by omega, hc, (Option.some.inj h).symm⟩
    · obtain ⟨i, h1, h2⟩ := furF_some h
      exact ⟨i, by omega, h2⟩
theorem furAt_len {l : List UInt8} {i : Nat} (h : i < l.length) : (furAt l i).length = l.length := by
  unfold furAt; simp; omega
def optT (o : Option (List UInt8)) : ByteArray := BA (o.getD [])
theorem row_fur {l : List UInt8} {n : Nat} (h : n < l.length) : (l.take (n + 1) ++ List.replicate (l.length - (n + 1)) 0).set n (l.getD n 0 + 1) = furAt l n := by
  rw [List.set_append_left _ _ (by simp; omega), List.take_succ_eq_append_getElem h, List.set_append_right _ _ (by simp; omega)]
  have e : n - (l.take n).length = 0 := by simp; omega
  rw [e, List.set_cons_zero, furAt, show l.length - 1 - n = l.length - (n + 1) by omega]
  simp
theorem row_zero {l : List UInt8} {n : Nat} (h : n < l.length) : (l.take (n + 1) ++ List.replicate (l.length - (n + 1)) 0).set n 0 = l.take n ++ List.replicate (l.length - n) 0 := by
  rw [List.set_append_left _ _ (by simp; omega), List.take_succ_eq_append_getElem h, List.set_append_right _ _ (by simp; omega)]
  have e : n - (l.take n).length = 0 := by simp; omega
  rw [e, List.set_cons_zero, show l.length - n = (l.length - (n + 1)) + 1 by omega, List.replicate_succ]
  simp
theorem row_len (l : List UInt8) (n : Nat) (h : n ≤ l.length) : (l.take n ++ List.replicate (l.length - n) (0 : UInt8)).length = l.length := by simp; omega
theorem row_at {l : List UInt8} {n : Nat} (h : n < l.length) : (l.take (n + 1) ++ List.replicate (l.length - (n + 1)) (0 : UInt8)).getD n 0 = l.getD n 0 := by
  rw [List.getD_eq_getElem?_getD, List.getElem?_append_left (by simp; omega), List.getElem?_take, if_pos (by omega)]
  rfl

set_option maxHeartbeats 4000000 in
theorem further_any (s : ByteArray) (w : World) (hs : s.size ≤ 100000) :
    Calls Tryd.prog 72 #[.string s] w fun e w' => e = .returned (.tuple #[.string (optT (furO s.data.toList)), .bool (furO s.data.toList).isSome]) ∧ Below w.heap.size w w' := by
  have hcv1 := run_bytes_of_string (P := Tryd.prog) w 9 73 5 s Tryd.underlying9 Tryd.underlying73 Tryd.underlying5
  have hsz : s.data.toList.length = s.size := rfl
  generalize hcapE : grownCap w s.size 0 5 = cap at hcv1
  have hbr := BRow.new w.drew s cap
  have hbl : Below w.heap.size w (w.drew.alloc (.cells (bytesRow s cap) 5 ((bytesRow s cap).size, (bytesRow s cap).size + 1))) := (((Below.refl _ _).drew).alloc (by simp) _)
  rw [show w.drew.heap.size = w.heap.size from rfl] at hbr
  generalize w.drew.alloc (.cells (bytesRow s cap) 5 ((bytesRow s cap).size, (bytesRow s cap).size + 1)) = w2 at hcv1 hbr hbl
  have HBR := Lib.hid hbr; clear hbr
  have HBL := Lib.hid hbl; clear hbl
  clear hcapE
  have HFO : Hid (furF s.data.toList s.data.toList.length = furO s.data.toList) := Lib.hid rfl
  generalize furO s.data.toList = o at *
  go_enter Tryd.func72, Tryd.ntmps72
  go_wp2_with fail
  clear hcv1
  go_loopw [5] (fun i wr => ∃ n : Nat, n ≤ s.data.toList.length ∧ i = .int .i64 ((n : Int) - 1) ∧ Hid (furF s.data.toList n = o) ∧ BRow wr w.heap.size (s.data.toList.take n ++ List.replicate (s.data.toList.length - n) 0) ∧ Below w.heap.size w wr) (fun i _ => (intOf i + 1).toNat)
  case atStart => exact ⟨s.data.toList.length, by omega, by rw [hsz], HFO, by rw [List.take_length, Nat.sub_self]; simpa using HBR.out, HBL.out⟩
  case round =>
    obtain ⟨m, hk, rfl, HF, hrow, hbel⟩ := hrel
    have HB := Lib.hid hbel; clear hbel
    have HR := Lib.hid hrow; clear hrow
    by_cases h0 : m = 0
    · subst h0
      have i1 : ¬ (0 : Int) ≤ ((0 : Nat) : Int) - 1 := by omega
      have HE : Hid (none = o) := Lib.hid (by have := HF.out; simpa [furF] using this)
      go_wp2_with fail
      go_ret2
      exact ⟨by rw [← HE.out]; rfl, HB.out⟩
    · obtain ⟨n, rfl⟩ : ∃ n, m = n + 1 := ⟨m - 1, by omega⟩
      have hlt : n < s.data.toList.length := by omega
      have hi : (((n + 1 : Nat) : Int) - 1) = (n : Int) := by omega
      rw [hi]
      have hck := (HR.out.2 n (by rw [row_len _ _ (by omega)]; exact hlt)).1
      have hfz := (HR.out.2 n (by rw [row_len _ _ (by omega)]; exact hlt)).2
      rw [row_at hlt] at hck
      have HFU := Lib.hid (row_fur hlt)
      have HZ := Lib.hid (row_zero hlt)
      have hks : n < s.size := by omega
      have hks' : (n : Int) < s.size := by omega
      have hll : (s.data.toList.take (n + 1) ++ List.replicate (s.data.toList.length - (n + 1)) (0 : UInt8)).length = s.data.toList.length := row_len _ _ (by omega)
      have HLL := Lib.hid hll; clear hll
      have hbb := byte_lt (s.data.toList.getD n 0)
      by_cases hc : (s.data.toList.getD n 0).toNat < 255
      · have ho : some (furAt s.data.toList n) = o := by have := HF.out; rwa [furF, if_pos hc] at this
        have HO := Lib.hid ho; clear ho
        have hinc := inc_byte hc
        have hfl := furAt_len hlt
        have hset := HR.out.set (k := n) (z := s.data.toList.getD n 0 + 1) (v := ((s.data.toList.getD n 0).toNat : Int) + 1) (by rw [HLL.out]; exact hlt) (by omega)
        rw [HFU.out] at hset
        have hi255 : ((s.data.toList.getD n 0).toNat : Int) < 255 := by omega
        generalize (s.data.toList.getD n 0) = z at *
        have htx := hset.text cap
        rw [hfl, hsz] at htx
        have hwr : IntKind.u8.wrap ((z.toNat : Int) + 1) = (z.toNat : Int) + 1 := IntWalk.u8_in _ (by omega)
        clear hset hfl hc hinc
        go_wp2_with fail
        go_ret2
        exact ⟨by rw [← HO.out]; rfl, HB.out.setCell (Nat.le_refl _) _⟩
      · have ho : furF s.data.toList n = o := by have := HF.out; rwa [furF, if_neg hc] at this
        have HO := Lib.hid ho; clear ho
        have hi255 : ¬ ((s.data.toList.getD n 0).toNat : Int) < 255 := by omega
        generalize (s.data.toList.getD n 0) = z at *
        clear hc
        go_wp2_with fail
        go_roundw
        case rel => exact ⟨n, by omega, rfl, HO, by rw [← HZ.out]; exact HR.out.set (by rw [HLL.out]; exact hlt) rfl, HB.out.setCell (Nat.le_refl _) _⟩
        case measure => simp [intOf]

theorem fur_small {a b : List UInt8} {k : Nat} (hk : k ≤ lcp a b) {x : List UInt8} (h : furO (a.take k) = some x) : Lib.compareBytes x b = 1 ∧ x.length = k := by
  obtain ⟨i, h1, h2, rfl⟩ := furF_some h
  have hl : (a.take k).length = k := by have := (lcp_le a b).1; simp; omega
  rw [hl] at h1
  exact ⟨fur_no hk h1 h2, by rw [furAt_len (by omega), hl]⟩
theorem fur_next {a b : List UInt8} (h : Lib.compareBytes a b < 0) (hn : lcp a b < a.length) : furO (a.take (lcp a b + 1)) = some (shortL a b) ∧ Lib.compareBytes (shortL a b) b ≤ 0 := by
  obtain ⟨h1, h2, h3⟩ := fur_yes h hn
  have hl : (a.take (lcp a b + 1)).length = lcp a b + 1 := by simp; omega
  have hs : shortL a b = a.take (lcp a b) ++ [a.getD (lcp a b) 0 + 1] := by rw [shortL, if_neg (by omega)]
  refine ⟨?_, by rw [hs, ← h3]; exact h2⟩
  unfold furO
  rw [hl, furF, if_pos h1, h3, hs]

set_option maxHeartbeats 4000000 in
theorem refShort_any (a b : ByteArray) (w : World) (ha : a.size ≤ 100000) (hb : b.size ≤ 100000) :
    Calls Tryd.prog 45 #[.string a, .string b] w (TRes w (shT a b) (shE a b)) := by
  have hC := Lib.hid (fun W => cmpTexts_any a b W (by unfold maxLen; omega) (by unfold maxLen; omega))
  have hla : a.data.toList.length = a.size := rfl
  by_cases hlt : Lib.compareBytes a.data.toList b.data.toList < 0
  · have e1 : shE a b = 0 := by simp [shE, hlt]
    have e2 : shT a b = BA (shortL a.data.toList b.data.toList) := by simp [shT, hlt]
    rw [e1, e2]
    obtain ⟨n1, n2⟩ := lcp_le a.data.toList b.data.toList
    have HN := Lib.hid (fun h => fur_next hlt h)
    have HS := Lib.hid (fun k (hk : k ≤ lcp a.data.toList b.data.toList) x h => fur_small hk (x := x) h)
    have HSH : Hid (lcp a.data.toList b.data.toList = a.data.toList.length → BA (shortL a.data.toList b.data.toList) = a ++ ⟨#[0]⟩) := Lib.hid fun h => by
      rw [shortL, if_pos h]; exact (BA_app a [0]).symm
    have HL : Hid (lcp a.data.toList b.data.toList < a.data.toList.length → (shortL a.data.toList b.data.toList).length ≤ 100000) := Lib.hid fun h => by
      rw [shortL, if_neg (by omega)]; simp; omega
    generalize lcp a.data.toList b.data.toList = n at *
    generalize shortL a.data.toList b.data.toList = sh at *
    generalize Lib.compareBytes a.data.toList b.data.toList = c at *
    have hc : ¬ (0 : Int) ≤ c := by omega
    have i0 : (0 : Int) ≤ n := by omega
    clear e1 e2 hlt
    go_enter Tryd.func45, Tryd.ntmps45
    go_wp2_with fail
    refine (hC.out _).mono ?_
    rintro e w1 ⟨rfl, hb1⟩
    have HB1 := Lib.hid hb1; clear hb1
    go_wp2_with fail
    go_loopw [6] (fun t wr => ∃ k : Nat, 1 ≤ k ∧ k ≤ n + 1 ∧ t = .int .i64 k ∧ Below w.heap.size w wr) (fun t _ => (a.size + 1) - (intOf t).toNat)
    case atStart => exact ⟨1, by omega, by omega, rfl, HB1.out⟩
    case round =>
      obtain ⟨k, hk1, hk2, rfl, hbel⟩ := hrel
      have HB := Lib.hid hbel; clear hbel
      by_cases hka : k ≤ a.size
      · have i1 : (k : Int) ≤ a.size := by omega
        have i2 : (0 : Int) ≤ k := by omega
        have hex : (a.extract 0 k).data.toList = a.data.toList.take k := by rw [take_ext _ _ hka, BA_data]
        have hesz : (a.extract 0 k).size ≤ 100000 := by
          have : (a.extract 0 k).size = ((a.extract 0 k).data.toList).length := rfl
          rw [this, hex]; simp; omega
        have hF := Lib.hid (fun W => further_any (a.extract 0 k) W hesz)
        rw [hex] at hF
        by_cases hkn : k ≤ n
        · cases hfo : furO (a.data.toList.take k) with
          | none =>
            rw [hfo] at hF
            clear hfo hex hesz
            go_wp2_with fail
            refine (hF.out _).mono ?_
            rintro e w2 ⟨rfl, hb2⟩
            simp only [Option.isSome_none]
            have HB2 := Lib.hid (HB.out.trans (hb2.mono HB.out.size)); clear hb2
            go_wp2_with fail
            go_roundw
            case rel => exact ⟨k + 1, by omega, by omega, by go_num, HB2.out⟩
            case measure => simp [intOf]; omega
          | some x =>
            rw [hfo] at hF
            obtain ⟨hx1, hx2⟩ := HS.out k hkn x hfo
            have hX := Lib.hid (fun W => cmpTexts_any (BA x) b W (by rw [BA_size]; unfold maxLen; omega) (by unfold maxLen; omega))
            rw [BA_data, hx1] at hX
            clear hfo hex hesz hx1 hx2
            go_wp2_with fail
            refine (hF.out _).mono ?_
            rintro e w2 ⟨rfl, hb2⟩
            simp only [Option.isSome_some, optT, Option.getD_some]
            have HB2 := Lib.hid (HB.out.trans (hb2.mono HB.out.size)); clear hb2
            go_wp2_with fail
            refine (hX.out _).mono ?_
            rintro e w3 ⟨rfl, hb3⟩
            have HB3 := Lib.hid (HB2.out.trans (hb3.mono HB2.out.size)); clear hb3
            go_wp2_with fail
            go_roundw
            case rel => exact ⟨k + 1, by omega, by omega, by go_num, HB3.out⟩
            case measure => simp [intOf]; omega
        · have hkn' : k = n + 1 := by omega
          obtain ⟨hx1, hx2⟩ := HN.out (by omega)
          rw [← hkn'] at hx1
          rw [hx1] at hF
          have hX := Lib.hid (fun W => cmpTexts_any (BA sh) b W (by rw [BA_size]; have := HL.out (by omega); unfold maxLen; omega) (by unfold maxLen; omega))
          rw [BA_data] at hX
          generalize Lib.compareBytes sh b.data.toList = d at *
          clear hx1 hex hesz hkn'
          go_wp2_with fail
          refine (hF.out _).mono ?_
          rintro e w2 ⟨rfl, hb2⟩
          simp only [Option.isSome_some, optT, Option.getD_some]
          have HB2 := Lib.hid (HB.out.trans (hb2.mono HB.out.size)); clear hb2
          go_wp2_with fail
          refine (hX.out _).mono ?_
          rintro e w3 ⟨rfl, hb3⟩
          have HB3 := Lib.hid (HB2.out.trans (hb3.mono HB2.out.size)); clear hb3
          go_wp2_with fail
          (try rw [Exit.noGoto_ret])
          go_ret2
          exact ⟨rfl, HB3.out⟩
      · have i1 : ¬ (k : Int) ≤ a.size := by omega
        have HE := Lib.hid (HSH.out (by omega))
        have i7 : ¬ (9223372036854775807 < a.size + 1) := by omega
        clear hka
        go_wp2_with fail
        go_ret2
        exact ⟨by rw [HE.out]; rfl, HB.out⟩
  · have e1 : shE a b = 1 := by simp [shE, hlt]
    have e2 : shT a b = nil0 := by simp [shT, hlt]
    rw [e1, e2]
    generalize Lib.compareBytes a.data.toList b.data.toList = c at *
    have hc : (0 : Int) ≤ c := by omega
    clear e1 e2 hlt
    go_enter Tryd.func45, Tryd.ntmps45
    go_wp2_with fail
    refine (hC.out _).mono ?_
    rintro e w1 ⟨rfl, hb1⟩
    have HB1 := Lib.hid hb1; clear hb1
    go_wp2_with fail
    go_ret2
    exact ⟨rfl, HB1.out⟩
end Go.Proofs.YtiddnacmopfamaaDoor
