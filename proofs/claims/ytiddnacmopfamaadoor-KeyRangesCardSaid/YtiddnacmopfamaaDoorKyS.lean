/- Short of the program. -/
import Derived.Test.YtiddnacmopfamaaDoorKyU
import Derived.RegionTactic
import Derived.ChangeAlike
namespace Go.Proofs.YtiddnacmopfamaaDoor
open Go.RowKit
set_option linter.unusedVariables false
set_option linter.unusedSimpArgs false
set_option maxRecDepth 40000

def nil0 : ByteArray := ⟨#[]⟩
def BA (l : List UInt8) : ByteArray := ⟨l.toArray⟩
theorem BA_data (l : List UInt8) : (BA l).data.toList = l := rfl
theorem BA_size (l : List UInt8) : (BA l).size = l.length := by show (BA l).data.size = _; simp [BA]
theorem BA_app (s : ByteArray) (l : List UInt8) : s ++ BA l = BA (s.data.toList ++ l) := by
  apply ByteArray.ext
  rw [ByteArray.data_append]
  apply Array.toList_inj.1
  simp [BA]
theorem BA_self (s : ByteArray) : BA s.data.toList = s := rfl
theorem take_ext (s : ByteArray) (n : Nat) (h : n ≤ s.size) : s.extract 0 n = BA (s.data.toList.take n) := by
  apply ByteArray.ext
  apply Array.toList_inj.1
  have h' : n ≤ s.data.size := h
  simp [BA]
theorem strOne (u : UInt8) (z : Int) (h : z = (u.toNat : Int)) : strOfNums [z] = BA [u] := by
  subst h
  simp [strOfNums, BA]
def shE (a b : ByteArray) : Int := if Lib.compareBytes a.data.toList b.data.toList < 0 then 0 else 1
def shT (a b : ByteArray) : ByteArray := if Lib.compareBytes a.data.toList b.data.toList < 0 then BA (shortL a.data.toList b.data.toList) else nil0

set_option maxHeartbeats 4000000 in
theorem Short_any (a b : ByteArray) (w : World) (ha : a.size ≤ 100000) (hb : b.size ≤ 100000) :
    Calls Tryd.prog 44 #[.string a, .string b] w (TRes w (shT a b) (shE a b)) := by
  have hl := less_cmp a.data.toList b.data.toList
  rw [← Lib.toList_data, ← Lib.toList_data] at hl
  have hC := common_any a b w (by unfold maxLen; omega) (by unfold maxLen; omega)
  by_cases hlt : Lib.compareBytes a.data.toList b.data.toList < 0
  · have e1 : shE a b = 0 := by simp [shE, hlt]
    have e2 : shT a b = BA (shortL a.data.toList b.data.toList) := by simp [shT, hlt]
    rw [e1, e2]
    rw [Lib.toList_data, Lib.toList_data, decide_eq_true hlt] at hl
    rw [← Lib.toList_data, ← Lib.toList_data] at hl
    have hla : a.data.toList.length = a.size := rfl
    obtain ⟨n1, n2⟩ := lcp_le a.data.toList b.data.toList
    by_cases hn : lcp a.data.toList b.data.toList = a.data.toList.length
    · have e3 : BA (shortL a.data.toList b.data.toList) = a ++ ⟨#[0]⟩ := by
        rw [shortL, if_pos hn]
        exact (BA_app a [0]).symm
      rw [e3]
      rw [hn, hla] at hC
      have HC := Lib.hid hC; clear hC
      clear hn n1 n2 hlt e1 e2 e3
      go_enter Tryd.func44, Tryd.ntmps44
      go_wp2_with fail
      refine (HC.out).mono ?_
      rintro e w1 ⟨rfl, hb1⟩
      have HB1 := Lib.hid hb1; clear hb1
      go_wp2_with fail
      go_ret2
      exact ⟨rfl, HB1.out⟩
    · have hn' : lcp a.data.toList b.data.toList < a.data.toList.length := by omega
      obtain ⟨q1, q2⟩ := less_at hlt hn'
      have hb255 := byte_lt (b.data.toList.getD (lcp a.data.toList b.data.toList) 0)
      have e3 : BA (shortL a.data.toList b.data.toList) = a.extract 0 (lcp a.data.toList b.data.toList) ++ BA [a.data.toList.getD (lcp a.data.toList b.data.toList) 0 + 1] := by
        rw [shortL, if_neg hn, take_ext _ _ (by omega), BA_app, BA_data]
      rw [e3]
      have hic := inc_byte (u := a.data.toList.getD (lcp a.data.toList b.data.toList) 0) (by omega)
      have hlt' : lcp a.data.toList b.data.toList < a.size := by omega
      have hat := byte_at a _ hlt'
      generalize a.data.toList.getD (lcp a.data.toList b.data.toList) 0 = u at *
      generalize lcp a.data.toList b.data.toList = n at *
      have hx : strOfNums [(u.toNat : Int) + 1] = BA [u + 1] := strOne _ _ (by omega)
      have HC := Lib.hid hC; clear hC
      have i1 : (n : Int) < a.size := by omega
      have i2 : (u.toNat : Int) + 1 < 256 := by omega
      have i3 : ((n : Int) == (a.size : Int)) = false := by simp; omega
      have i5 : (0 : Int) ≤ n := by omega
      have i6 : (n : Int) ≤ a.size := by omega
      have hwr : IntKind.u8.wrap ((u.toNat : Int) + 1) = (u.toNat : Int) + 1 := IntWalk.u8_in _ (by omega)
      clear hn n1 n2 hlt e1 e2 e3 q1 q2 hb255 hic
      go_enter Tryd.func44, Tryd.ntmps44
      go_wp2_with fail
      refine (HC.out).mono ?_
      rintro e w1 ⟨rfl, hb1⟩
      have HB1 := Lib.hid hb1; clear hb1
      go_wp2_with fail
      have hcv : ∀ (W : World) (m : Nat), W.cell? ⟨m, 0, none⟩ = some (.int .u8 ((u.toNat : Int) + 1)) → (convert 73 9 (.slice (some ⟨m, 0, none⟩) 1 1)).run Tryd.prog W = .ok (.string (BA [u + 1])) W := fun W m h => by
        rw [← hx]; exact conv1 w _ W m h
      have i7 : ¬ (9223372036854775807 < min n a.size + (BA [u + 1]).size) := by rw [BA_size]; simp; omega
      clear hx
      go_region
      all_goals (go_wp2_with fail; go_ret2)
      all_goals exact ⟨rfl, (HB1.out.alloc HB1.out.size _).drew⟩
  · have e1 : shE a b = 1 := by simp [shE, hlt]
    have e2 : shT a b = nil0 := by simp [shT, hlt]
    rw [e1, e2]
    rw [Lib.toList_data, Lib.toList_data, decide_eq_false hlt] at hl
    rw [← Lib.toList_data, ← Lib.toList_data] at hl
    clear hC e1 e2 hlt
    go_enter Tryd.func44, Tryd.ntmps44
    go_wp2_with fail
    go_ret2
    exact ⟨rfl, Below.refl _ _⟩
end Go.Proofs.YtiddnacmopfamaaDoor
