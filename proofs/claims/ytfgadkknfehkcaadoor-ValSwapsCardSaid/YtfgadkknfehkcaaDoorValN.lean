/- The walk of Val of the program: the number at the begin of a text. -/
import Derived.Test.YtfgadkknfehkcaaDoorEq
namespace Go.Proofs.YtfgadkknfehkcaaDoor
open Go.RowKit
set_option linter.unusedVariables false

def isD (b : Int) : Bool := decide (48 ≤ b ∧ b ≤ 57)
/-- The digits at the begin of l, behind a. -/
def digs (a : Int) : List UInt8 → Int
  | [] => a
  | b :: r => if isD b.toNat = true then digs (min (a * 10 + ((b.toNat : Int) - 48)) 1000000000000000) r else a
def signed : List UInt8 → Int
  | [] => 0
  | b :: r => if b = 45 then -digs 0 r else if b = 43 then digs 0 r else digs 0 (b :: r)
def valB (s : ByteArray) : Int := signed (Lib.trimLeftB s.data.toList 32)

theorem digs_bd (l : List UInt8) : ∀ a : Int, 0 ≤ a → a ≤ 1000000000000000 → 0 ≤ digs a l ∧ digs a l ≤ 1000000000000000 := by
  induction l with
  | nil => intro a h0 h1; exact ⟨h0, h1⟩
  | cons b r ih =>
    intro a h0 h1
    simp only [digs]
    split
    · rename_i h
      have hb : 48 ≤ (b.toNat : Int) ∧ (b.toNat : Int) ≤ 57 := by simpa [isD] using h
      exact ih _ (by omega) (by omega)
    · exact ⟨h0, h1⟩

theorem isDigit_any (b : Int) (w : World) :
    Calls Tryd.prog 84 #[.int .u8 b] w fun e w' => e = .returned (.bool (isD b)) ∧ w = w' := by
  by_cases h1 : 48 ≤ b
  · by_cases h2 : b ≤ 57
    · have hv : isD b = true := by simp [isD, h1, h2]
      rw [hv]; clear hv
      go_enter Tryd.func84, Tryd.ntmps84
      go_wp2
      go_ret
      exact ⟨rfl, rfl⟩
    · have hv : isD b = false := by simp [isD, h2]
      rw [hv]; clear hv
      go_enter Tryd.func84, Tryd.ntmps84
      go_wp2
      go_ret
      exact ⟨rfl, rfl⟩
  · have hv : isD b = false := by simp [isD, h1]
    rw [hv]; clear hv
    go_enter Tryd.func84, Tryd.ntmps84
    go_wp2
    go_ret
    exact ⟨rfl, rfl⟩
theorem refIsDigit_any (b : Int) (w : World) :
    Calls Tryd.prog 85 #[.int .u8 b] w fun e w' => e = .returned (.bool (isD b)) ∧ w = w' := by
  by_cases h1 : 48 ≤ b
  · by_cases h2 : b ≤ 57
    · have hv : isD b = true := by simp [isD, h1, h2]
      rw [hv]; clear hv
      go_enter Tryd.func85, Tryd.ntmps85
      go_wp2
      go_ret
      exact ⟨rfl, rfl⟩
    · have hv : isD b = false := by simp [isD, h2]
      rw [hv]; clear hv
      go_enter Tryd.func85, Tryd.ntmps85
      go_wp2
      go_ret
      exact ⟨rfl, rfl⟩
  · have hv : isD b = false := by simp [isD, h1]
    rw [hv]; clear hv
    go_enter Tryd.func85, Tryd.ntmps85
    go_wp2
    go_ret
    exact ⟨rfl, rfl⟩

theorem drop_at (s : ByteArray) (j : Nat) (hj : j < s.size) : s.data.toList.drop j = s[j] :: s.data.toList.drop (j + 1) := List.drop_eq_getElem_cons (by exact hj)
theorem drop_all (s : ByteArray) : s.data.toList.drop s.size = [] := List.drop_eq_nil_of_le (Nat.le_refl _)

set_option maxHeartbeats 2000000 in
/-- The walk, where no sign stands at the begin. -/
theorem Val_plain (s u : ByteArray) (hs : s.size ≤ maxLen) (hu : (⟨(Lib.trimLeftB s.data.toList 32).toArray⟩ : ByteArray) = u) (hz : u.size ≤ maxLen)
    (h : u.toList.isEmpty = true ∨ (u.toList.isEmpty = false ∧ ∃ h : 0 < u.size, ((u[0].toNat : Int) == 45) = false ∧ ((u[0].toNat : Int) == 43) = false)) (w : World) :
    Calls Tryd.prog 32 #[.string s] w fun e w' => e = .returned (.int .i64 (digs 0 u.data.toList)) ∧ w = w' := by
  have HU := Lib.hid hu; clear hu
  unfold maxLen at hs hz
  have hd0 := digs_bd u.data.toList 0 (by omega) (by omega)
  generalize hr : digs 0 u.data.toList = r at *
  have HR := Lib.hid hr; clear hr
  have hpre : u.toList.isEmpty = true ∨ (u.toList.isEmpty = false ∧ (0 : Int) < u.size ∧ ∃ h : 0 < u.size, ((u[0].toNat : Int) == 45) = false ∧ ((u[0].toNat : Int) == 43) = false) := by
    rcases h with h | ⟨h, q, h1, h2⟩
    · exact .inl h
    · exact .inr ⟨h, by omega, q, h1, h2⟩
  clear h
  rcases hpre with he | ⟨he, i0, h0, h1, h2⟩
  all_goals
    go_enter Tryd.func32, Tryd.ntmps32
    go_wp2_with fail
    refine (Tryd.strings_TrimLeft_one s 32 (by decide) _).mono ?_
    rintro e w' ⟨rfl, rfl⟩
    rw [HU.out]
    go_wp2_with fail
    go_loop [4, 27] (fun v i => ∃ (j : Nat) (a : Int), j ≤ u.size ∧ 0 ≤ a ∧ a ≤ 1000000000000000 ∧ v = .int .i64 a ∧ i = .int .i64 j ∧ Hid (digs a (u.data.toList.drop j) = r)) (fun _ i => u.size - (intOf i).toNat)
    case atStart => exact ⟨0, 0, by omega, by omega, by omega, rfl, rfl, by rw [List.drop_zero]; exact HR⟩
    case round =>
      obtain ⟨j, a, hj, a0, a1, rfl, rfl, HD⟩ := hrel
      have i1 : 0 ≤ (j : Int) := by omega
      by_cases hlt : j < u.size
      · have i2 : (j : Int) < u.size := by omega
        have hd := HD.out
        rw [drop_at u j hlt] at hd
        have hw : IntKind.i64.wrap (j + 1) = j + 1 := IntWalk.i64_in _ (by omega)
        cases hb : isD (u[j]'hlt).toNat
        · have ha : a = r := by rw [← hd]; simp only [digs]; rw [if_neg (by rw [hb]; decide)]
          have HA := Lib.hid ha; clear ha hd
          have HB := Lib.hid hb; clear hb
          go_wp2_with fail
          refine (isDigit_any _ _).mono ?_
          rintro e w' ⟨rfl, rfl⟩
          rw [HB.out]
          go_wp2_with fail
          go_ret
          exact ⟨by rw [← HA.out]; rfl, rfl⟩
        · have hr2 : digs (min (a * 10 + (((u[j]'hlt).toNat : Int) - 48)) 1000000000000000) (u.data.toList.drop (j + 1)) = r := by
            rw [← hd]; simp only [digs]; rw [if_pos hb]
          have hbb : 48 ≤ ((u[j]'hlt).toNat : Int) ∧ ((u[j]'hlt).toNat : Int) ≤ 57 := by simpa [isD] using hb
          have H2 := Lib.hid hr2; clear hr2 hd
          have HB := Lib.hid hb; clear hb
          generalize hc : ((u[j]'hlt).toNat : Int) = c at *
          have HC := Lib.hid hc
          have w1 : IntKind.u8.wrap (c - 48) = c - 48 := IntWalk.u8_in _ (by omega)
          have w2 : IntKind.i64.wrap (c - 48) = c - 48 := IntWalk.i64_in _ (by omega)
          have w3 : IntKind.i64.wrap (a * 10) = a * 10 := IntWalk.i64_in _ (by omega)
          have w4 : IntKind.i64.wrap (a * 10 + (c - 48)) = a * 10 + (c - 48) := IntWalk.i64_in _ (by omega)
          go_wp2_with fail
          refine (isDigit_any _ _).mono ?_
          rintro e w' ⟨rfl, rfl⟩
          rw [HB.out]
          go_wp2_with fail
          exact ⟨⟨j + 1, _, by omega, by omega, by omega, rfl, rfl, H2⟩, by simp [intOf]; omega⟩
      · have hju : j = u.size := by omega
        have ha : a = r := by rw [← HD.out, hju, drop_all]; rfl
        have HA := Lib.hid ha; clear ha
        have i2 : ¬ (j : Int) < u.size := by omega
        go_wp2_with fail
        go_ret
        exact ⟨by rw [← HA.out]; rfl, rfl⟩
set_option maxHeartbeats 2000000 in
/-- The walk behind a sign. -/
theorem Val_plus (s t u : ByteArray) (hs : s.size ≤ maxLen) (hu : (⟨(Lib.trimLeftB s.data.toList 32).toArray⟩ : ByteArray) = t) (hz : t.size ≤ maxLen)
    (he : t.toList.isEmpty = false) (h0 : 0 < t.size) (hc : (t[0].toNat : Int) = 43) (hx : t.extract 1 t.size = u) (w : World) :
    Calls Tryd.prog 32 #[.string s] w fun e w' => e = .returned (.int .i64 (digs 0 u.data.toList)) ∧ w = w' := by
  have HU := Lib.hid hu; clear hu
  have hus : u.size ≤ t.size := by rw [← hx]; simp
  unfold maxLen at hs hz
  have hd0 := digs_bd u.data.toList 0 (by omega) (by omega)
  generalize hr : digs 0 u.data.toList = r at *
  have HR := Lib.hid hr; clear hr
  have i0 : (0 : Int) < t.size := by omega
  have i3 : (1 : Int) ≤ t.size := by omega
  go_enter Tryd.func32, Tryd.ntmps32
  go_wp2_with fail
  refine (Tryd.strings_TrimLeft_one s 32 (by decide) _).mono ?_
  rintro e w' ⟨rfl, rfl⟩
  rw [HU.out]
  go_wp2_with fail
  go_loop [4, 27] (fun v i => ∃ (j : Nat) (a : Int), j ≤ u.size ∧ 0 ≤ a ∧ a ≤ 1000000000000000 ∧ v = .int .i64 a ∧ i = .int .i64 j ∧ Hid (digs a (u.data.toList.drop j) = r)) (fun _ i => u.size - (intOf i).toNat)
  case atStart => exact ⟨0, 0, by omega, by omega, by omega, rfl, rfl, by rw [List.drop_zero]; exact HR⟩
  case round =>
    obtain ⟨j, a, hj, a0, a1, rfl, rfl, HD⟩ := hrel
    have i1 : 0 ≤ (j : Int) := by omega
    by_cases hlt : j < u.size
    · have i2 : (j : Int) < u.size := by omega
      have hd := HD.out
      rw [drop_at u j hlt] at hd
      have hw : IntKind.i64.wrap (j + 1) = j + 1 := IntWalk.i64_in _ (by omega)
      cases hb : isD (u[j]'hlt).toNat
      · have ha : a = r := by rw [← hd]; simp only [digs]; rw [if_neg (by rw [hb]; decide)]
        have HA := Lib.hid ha; clear ha hd
        have HB := Lib.hid hb; clear hb
        go_wp2_with fail
        refine (isDigit_any _ _).mono ?_
        rintro e w' ⟨rfl, rfl⟩
        rw [HB.out]
        go_wp2_with fail
        go_ret
        exact ⟨by rw [← HA.out]; rfl, rfl⟩
      · have hr2 : digs (min (a * 10 + (((u[j]'hlt).toNat : Int) - 48)) 1000000000000000) (u.data.toList.drop (j + 1)) = r := by
          rw [← hd]; simp only [digs]; rw [if_pos hb]
        have hbb : 48 ≤ ((u[j]'hlt).toNat : Int) ∧ ((u[j]'hlt).toNat : Int) ≤ 57 := by simpa [isD] using hb
        have H2 := Lib.hid hr2; clear hr2 hd
        have HB := Lib.hid hb; clear hb
        generalize hc : ((u[j]'hlt).toNat : Int) = c at *
        have HC := Lib.hid hc
        have w1 : IntKind.u8.wrap (c - 48) = c - 48 := IntWalk.u8_in _ (by omega)
        have w2 : IntKind.i64.wrap (c - 48) = c - 48 := IntWalk.i64_in _ (by omega)
        have w3 : IntKind.i64.wrap (a * 10) = a * 10 := IntWalk.i64_in _ (by omega)
        have w4 : IntKind.i64.wrap (a * 10 + (c - 48)) = a * 10 + (c - 48) := IntWalk.i64_in _ (by omega)
        go_wp2_with fail
        refine (isDigit_any _ _).mono ?_
        rintro e w' ⟨rfl, rfl⟩
        rw [HB.out]
        go_wp2_with fail
        exact ⟨⟨j + 1, _, by omega, by omega, by omega, rfl, rfl, H2⟩, by simp [intOf]; omega⟩
    · have hju : j = u.size := by omega
      have ha : a = r := by rw [← HD.out, hju, drop_all]; rfl
      have HA := Lib.hid ha; clear ha
      have i2 : ¬ (j : Int) < u.size := by omega
      go_wp2_with fail
      go_ret
      exact ⟨by rw [← HA.out]; rfl, rfl⟩
set_option maxHeartbeats 2000000 in
/-- The walk behind a sign. -/
theorem Val_minus (s t u : ByteArray) (hs : s.size ≤ maxLen) (hu : (⟨(Lib.trimLeftB s.data.toList 32).toArray⟩ : ByteArray) = t) (hz : t.size ≤ maxLen)
    (he : t.toList.isEmpty = false) (h0 : 0 < t.size) (hc : (t[0].toNat : Int) = 45) (hx : t.extract 1 t.size = u) (w : World) :
    Calls Tryd.prog 32 #[.string s] w fun e w' => e = .returned (.int .i64 (-digs 0 u.data.toList)) ∧ w = w' := by
  have HU := Lib.hid hu; clear hu
  have hus : u.size ≤ t.size := by rw [← hx]; simp
  unfold maxLen at hs hz
  have hd0 := digs_bd u.data.toList 0 (by omega) (by omega)
  generalize hr : digs 0 u.data.toList = r at *
  have HR := Lib.hid hr; clear hr
  have i0 : (0 : Int) < t.size := by omega
  have i3 : (1 : Int) ≤ t.size := by omega
  go_enter Tryd.func32, Tryd.ntmps32
  go_wp2_with fail
  refine (Tryd.strings_TrimLeft_one s 32 (by decide) _).mono ?_
  rintro e w' ⟨rfl, rfl⟩
  rw [HU.out]
  go_wp2_with fail
  go_loop [4, 27] (fun v i => ∃ (j : Nat) (a : Int), j ≤ u.size ∧ 0 ≤ a ∧ a ≤ 1000000000000000 ∧ v = .int .i64 a ∧ i = .int .i64 j ∧ Hid (digs a (u.data.toList.drop j) = r)) (fun _ i => u.size - (intOf i).toNat)
  case atStart => exact ⟨0, 0, by omega, by omega, by omega, rfl, rfl, by rw [List.drop_zero]; exact HR⟩
  case round =>
    obtain ⟨j, a, hj, a0, a1, rfl, rfl, HD⟩ := hrel
    have i1 : 0 ≤ (j : Int) := by omega
    by_cases hlt : j < u.size
    · have i2 : (j : Int) < u.size := by omega
      have hd := HD.out
      rw [drop_at u j hlt] at hd
      have hw : IntKind.i64.wrap (j + 1) = j + 1 := IntWalk.i64_in _ (by omega)
      cases hb : isD (u[j]'hlt).toNat
      · have ha : a = r := by rw [← hd]; simp only [digs]; rw [if_neg (by rw [hb]; decide)]
        have HA := Lib.hid ha; clear ha hd
        have HB := Lib.hid hb; clear hb
        go_wp2_with fail
        refine (isDigit_any _ _).mono ?_
        rintro e w' ⟨rfl, rfl⟩
        rw [HB.out]
        go_wp2_with fail
        go_ret
        exact ⟨by rw [← HA.out]; rfl, rfl⟩
      · have hr2 : digs (min (a * 10 + (((u[j]'hlt).toNat : Int) - 48)) 1000000000000000) (u.data.toList.drop (j + 1)) = r := by
          rw [← hd]; simp only [digs]; rw [if_pos hb]
        have hbb : 48 ≤ ((u[j]'hlt).toNat : Int) ∧ ((u[j]'hlt).toNat : Int) ≤ 57 := by simpa [isD] using hb
        have H2 := Lib.hid hr2; clear hr2 hd
        have HB := Lib.hid hb; clear hb
        generalize hc : ((u[j]'hlt).toNat : Int) = c at *
        have HC := Lib.hid hc
        have w1 : IntKind.u8.wrap (c - 48) = c - 48 := IntWalk.u8_in _ (by omega)
        have w2 : IntKind.i64.wrap (c - 48) = c - 48 := IntWalk.i64_in _ (by omega)
        have w3 : IntKind.i64.wrap (a * 10) = a * 10 := IntWalk.i64_in _ (by omega)
        have w4 : IntKind.i64.wrap (a * 10 + (c - 48)) = a * 10 + (c - 48) := IntWalk.i64_in _ (by omega)
        go_wp2_with fail
        refine (isDigit_any _ _).mono ?_
        rintro e w' ⟨rfl, rfl⟩
        rw [HB.out]
        go_wp2_with fail
        exact ⟨⟨j + 1, _, by omega, by omega, by omega, rfl, rfl, H2⟩, by simp [intOf]; omega⟩
    · have hju : j = u.size := by omega
      have ha : a = r := by rw [← HD.out, hju, drop_all]; rfl
      have HA := Lib.hid ha; clear ha
      have i2 : ¬ (j : Int) < u.size := by omega
      go_wp2_with fail
      go_ret
      exact ⟨by rw [← HA.out]; rfl, rfl⟩

theorem trimLeft_le (s : ByteArray) : (⟨(Lib.trimLeftB s.data.toList 32).toArray⟩ : ByteArray).size ≤ s.size := by
  show (Lib.trimLeftB s.data.toList 32).toArray.size ≤ s.data.toList.length
  unfold Lib.trimLeftB
  simp only [List.size_toArray]
  exact (List.dropWhile_sublist _).length_le
theorem head_of {l : List UInt8} {b : UInt8} {r : List UInt8} (h : l = b :: r) : ∃ q : 0 < (⟨l.toArray⟩ : ByteArray).size, (⟨l.toArray⟩ : ByteArray)[0] = b ∧ (⟨l.toArray⟩ : ByteArray).toList.isEmpty = false ∧
    ((⟨l.toArray⟩ : ByteArray).extract 1 (⟨l.toArray⟩ : ByteArray).size).data.toList = r := by
  subst h
  refine ⟨by show 0 < (b :: r).toArray.size; simp, rfl, by rw [toList_data]; rfl, ?_⟩
  rw [ByteArray.data_extract]
  have e : (⟨(b :: r).toArray⟩ : ByteArray).size = r.length + 1 := by show (b :: r).toArray.size = _; simp
  rw [e]
  simp

theorem Val_any (s : ByteArray) (hs : s.size ≤ maxLen) (w : World) :
    Calls Tryd.prog 32 #[.string s] w fun e w' => e = .returned (.int .i64 (valB s)) ∧ w = w' := by
  have hz := Nat.le_trans (trimLeft_le s) hs
  unfold valB
  cases h : Lib.trimLeftB s.data.toList 32 with
  | nil =>
    have := Val_plain s _ hs rfl hz (.inl (by rw [h]; rw [toList_data]; rfl)) w
    rw [h] at this
    exact this
  | cons b r =>
    obtain ⟨q, h1, h2, h3⟩ := head_of h
    simp only [signed]
    by_cases c1 : b = 45
    · rw [if_pos c1]
      have := Val_minus s _ _ hs rfl hz h2 q (by rw [h1, c1]; rfl) rfl w
      rw [h3] at this
      exact this
    · rw [if_neg c1]
      by_cases c2 : b = 43
      · rw [if_pos c2]
        have := Val_plus s _ _ hs rfl hz h2 q (by rw [h1, c2]; rfl) rfl w
        rw [h3] at this
        exact this
      · rw [if_neg c2]
        have n1 : ((b.toNat : Int) == 45) = false := by
          have : b.toNat ≠ 45 := fun e => c1 (UInt8.toNat_inj.1 e)
          simp; omega
        have n2 : ((b.toNat : Int) == 43) = false := by
          have : b.toNat ≠ 43 := fun e => c2 (UInt8.toNat_inj.1 e)
          simp; omega
        have := Val_plain s _ hs rfl hz (.inr ⟨h2, q, by rw [h1]; exact n1, by rw [h1]; exact n2⟩) w
        rw [show (⟨(Lib.trimLeftB s.data.toList 32).toArray⟩ : ByteArray).data.toList = b :: r from by rw [h]] at this
        exact this
end Go.Proofs.YtfgadkknfehkcaaDoor
