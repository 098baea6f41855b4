/- The walks of Compare of the program and of the reference. -/
import Derived.Test.YtiddnacmopfamaaDoorKvB
import Derived.WalkSpells
import Derived.WalkLawsBesides
namespace Go.Proofs.YtiddnacmopfamaaDoor
open Go.RowKit
set_option linter.unusedVariables false
set_option linter.unusedSimpArgs false

theorem vbyte_at (s : ByteArray) (k : Nat) (hk : k < s.size) : s.data.toList[k]? = some (s[k]'hk) := by
  rw [List.getElem?_eq_getElem (by exact hk)]; rfl
theorem u8_yes (b : UInt8) (n : UInt8) (h : ((b.toNat : Int) == (n.toNat : Int)) = true) : b = n := by
  have : (b.toNat : Int) = n.toNat := by simpa using h
  exact UInt8.toNat_inj.1 (by omega)
theorem u8_no (b : UInt8) (n : UInt8) (h : ((b.toNat : Int) == (n.toNat : Int)) = false) : b ≠ n := by
  rintro rfl; simp at h

def cmpI (a b : Int) : Int := if a < b then -1 else if b < a then 1 else 0
def bothE (k n : Int) (s : ByteArray) (k' n' : Int) (s' : ByteArray) : Int := if vE k n s = 0 then vE k' n' s' else vE k n s
def cmpE (k n : Int) (s : ByteArray) (k' n' : Int) (s' : ByteArray) : Int := if bothE k n s k' n' s' = 0 then (if k = k' ∧ k ≠ 0 then 0 else 6) else bothE k n s k' n' s'
def cmpR (k n : Int) (s : ByteArray) (k' n' : Int) (s' : ByteArray) : Int :=
  if bothE k n s k' n' s' = 0 ∧ k = k' ∧ k ≠ 0 then (if k = 4 then Lib.compareBytes s.data.toList s'.data.toList else cmpI n n') else 0

theorem cmpInts_any (a b : Int) (w : World) :
    Calls Tryd.prog 25 #[.int .i64 a, .int .i64 b] w fun e w' => e = .returned (.int .i64 (cmpI a b)) ∧ w = w' := by
  by_cases h : a < b
  · have hv : cmpI a b = -1 := by simp [cmpI, h]
    rw [hv]; clear hv
    go_enter Tryd.func25, Tryd.ntmps25
    go_wp2
    go_ret
    exact ⟨rfl, rfl⟩
  · by_cases h2 : b < a
    · have hv : cmpI a b = 1 := by simp [cmpI, h, h2]
      rw [hv]; clear hv
      go_enter Tryd.func25, Tryd.ntmps25
      go_wp2
      go_ret
      exact ⟨rfl, rfl⟩
    · have hv : cmpI a b = 0 := by simp [cmpI, h, h2]
      rw [hv]; clear hv
      go_enter Tryd.func25, Tryd.ntmps25
      go_wp2
      go_ret
      exact ⟨rfl, rfl⟩

theorem cmp_nil (b : List UInt8) : Lib.compareBytes [] b = cmpI 0 b.length := by
  cases b with
  | nil => rfl
  | cons x xs =>
    simp only [Lib.compareBytes, cmpI, List.length_cons]
    rw [if_pos (by omega)]
theorem cmp_nil' (a : List UInt8) : Lib.compareBytes a [] = cmpI a.length 0 := by
  cases a with
  | nil => rfl
  | cons x xs =>
    simp only [Lib.compareBytes, cmpI, List.length_cons]
    rw [if_neg (by omega), if_pos (by omega)]
/-- Behind k equal bytes. -/
theorem cmp_at (a b : List UInt8) : ∀ (k : Nat), (∀ j, j < k → a[j]? = b[j]?) → Lib.compareBytes a b = Lib.compareBytes (a.drop k) (b.drop k) := by
  intro k
  induction k generalizing a b with
  | zero => intro _; simp
  | succ k ih =>
    intro h
    cases a with
    | nil =>
      cases b with
      | nil => simp
      | cons y ys => have := h 0 (by omega); simp at this
    | cons x xs =>
      cases b with
      | nil => have := h 0 (by omega); simp at this
      | cons y ys =>
        have h0 := h 0 (by omega)
        simp at h0
        subst h0
        have := ih xs ys (fun j hj => by have := h (j + 1) (by omega); simpa using this)
        simp only [Lib.compareBytes, List.drop_succ_cons]
        rw [if_neg (by simp), if_neg (by simp)]
        exact this

/-- Where the first k bytes are the same and one of the two has no more. -/
theorem cmp_end (a b : ByteArray) (k : Nat) (hk : k ≤ a.size) (hk' : k ≤ b.size) (he : k = a.size ∨ k = b.size) (h : ∀ j : Nat, j < k → a.data.toList[j]? = b.data.toList[j]?) :
    Lib.compareBytes a.data.toList b.data.toList = cmpI a.size b.size := by
  have hla : a.data.toList.length = a.size := rfl
  have hlb : b.data.toList.length = b.size := rfl
  rw [cmp_at _ _ k h]
  rcases he with he | he
  · rw [List.drop_eq_nil_of_le (by omega : a.data.toList.length ≤ k), cmp_nil, List.length_drop, hlb]
    unfold cmpI; (repeat' split) <;> omega
  · rw [List.drop_eq_nil_of_le (by omega : b.data.toList.length ≤ k), cmp_nil', List.length_drop, hla]
    unfold cmpI; (repeat' split) <;> omega
theorem cmp_differ (a b : ByteArray) (k : Nat) (hk : k < a.size) (hk' : k < b.size) (h : ∀ j : Nat, j < k → a.data.toList[j]? = b.data.toList[j]?) (hq : a[k] ≠ b[k]) :
    Lib.compareBytes a.data.toList b.data.toList = cmpI a[k].toNat b[k].toNat := by
  have ea : a.data.toList.drop k = a[k] :: a.data.toList.drop (k + 1) := List.drop_eq_getElem_cons (by exact hk)
  have eb : b.data.toList.drop k = b[k] :: b.data.toList.drop (k + 1) := List.drop_eq_getElem_cons (by exact hk')
  rw [cmp_at _ _ k h, ea, eb]
  have hne : a[k].toNat ≠ b[k].toNat := fun e => hq (UInt8.toNat_inj.1 e)
  simp only [Lib.compareBytes, cmpI, UInt8.lt_iff_toNat_lt]
  by_cases hlt : a[k].toNat < b[k].toNat
  · rw [if_pos hlt, if_pos (by omega)]
  · rw [if_neg hlt, if_pos (by omega), if_neg (by omega), if_pos (by omega)]
set_option maxHeartbeats 1000000 in
theorem cmpTexts_any (a b : ByteArray) (w : World) (ha : a.size ≤ maxLen) (hb : b.size ≤ maxLen) :
    Calls Tryd.prog 27 #[.string a, .string b] w fun e w' => e = .returned (.int .i64 (Lib.compareBytes a.data.toList b.data.toList)) ∧ Below w.heap.size w w' := by
  unfold maxLen at ha hb
  generalize hv : Lib.compareBytes a.data.toList b.data.toList = v
  have HV := Lib.hid hv; clear hv
  go_enter Tryd.func27, Tryd.ntmps27
  go_wp2
  go_loopw [5] (fun t wr => ∃ k : Nat, k ≤ a.size ∧ k ≤ b.size ∧ t = .int .i64 k ∧ Hid (∀ j : Nat, j < k → a.data.toList[j]? = b.data.toList[j]?) ∧ Below w.heap.size w wr) (fun t _ => a.size - (intOf t).toNat)
  case atStart => exact ⟨0, by omega, by omega, rfl, Lib.hid (fun j h => by omega), Below.refl _ _⟩
  case round =>
    obtain ⟨k, hk, hk', rfl, HA, hbw⟩ := hrel
    have i1 : 0 ≤ (k : Int) := by omega
    by_cases h1 : k < a.size
    · by_cases h2 : k < b.size
      · have i2 : (k : Int) < a.size := by omega
        have i3 : (k : Int) < b.size := by omega
        cases hq : ((a[k]'h1).toNat : Int) != (b[k]'h2).toNat
        · go_wp2
          go_region
          all_goals go_wp2
          go_roundw
          case rel =>
            refine ⟨k + 1, by omega, by omega, by go_num, Lib.hid (fun j hj => ?_), hbw.drew⟩
            rcases Nat.lt_or_ge j k with q | q
            · exact HA.out j q
            · have : j = k := by omega
              subst this
              rw [vbyte_at a j h1, vbyte_at b j h2]
              have := u8_yes a[j] b[j] (by simpa using hq)
              rw [this]
          case measure => simp [intOf]; omega
        · have hd := cmp_differ a b k h1 h2 HA.out (u8_no _ _ (by simpa using hq))
          have HD := Lib.hid hd; clear hd
          have wa : IntKind.i64.wrap ((a[k]'h1).toNat : Int) = (a[k]'h1).toNat := IntWalk.i64_in _ (by have := UInt8.toNat_lt (a[k]'h1); omega)
          have wb : IntKind.i64.wrap ((b[k]'h2).toNat : Int) = (b[k]'h2).toNat := IntWalk.i64_in _ (by have := UInt8.toNat_lt (b[k]'h2); omega)
          go_wp2
          go_region
          all_goals go_wp2
          go_region_with (go_at_call 25; refine (cmpInts_any _ _ _).mono ?_; rintro e w' ⟨rfl, rfl⟩)
          all_goals go_wp2
          all_goals go_ret
          all_goals refine ⟨by rw [← HV.out, HD.out]; rfl, ?_⟩
          all_goals repeat (first | (with_reducible exact hbw) | (with_reducible refine Below.drew ?_))
      · have i3 : ¬ (k : Int) < b.size := by omega
        have hd := cmp_end a b k hk hk' (by omega) HA.out
        have HD := Lib.hid hd; clear hd
        go_wp2_with fail
        refine (cmpInts_any _ _ _).mono ?_
        rintro e w' ⟨rfl, rfl⟩
        go_wp2_with fail
        go_ret
        refine ⟨?_, hbw⟩
        rw [← HV.out, HD.out]; rfl
    · have i2 : ¬ (k : Int) < a.size := by omega
      have hd := cmp_end a b k hk hk' (by omega) HA.out
      have HD := Lib.hid hd; clear hd
      go_wp2_with fail
      refine (cmpInts_any _ _ _).mono ?_
      rintro e w' ⟨rfl, rfl⟩
      go_wp2_with fail
      go_ret
      refine ⟨?_, hbw⟩
      rw [← HV.out, HD.out]; rfl

end Go.Proofs.YtiddnacmopfamaaDoor
