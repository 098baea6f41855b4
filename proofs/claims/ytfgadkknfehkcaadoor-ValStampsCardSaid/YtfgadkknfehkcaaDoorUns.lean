/- The walks of Unstamp of the program and of the reference. -/
import Derived.Test.YtfgadkknfehkcaaDoorNumM
import Derived.Test.YtfgadkknfehkcaaDoorDays
import Derived.BigQuiet
import Derived.Test.YtfgadkknfehkcaaDoorKnown
import Derived.Lib.SmallJoins
namespace Go.Proofs.YtfgadkknfehkcaaDoor
open Go.RowKit
set_option linter.unusedVariables false

abbrev UnIs (s : ByteArray) (r : Int) (b : Bool) : Prop :=
  (∀ w, Tab w → Calls Tryd.prog 44 #[.string s] w fun e w' => e = .returned (.tuple #[.int .i64 r, .bool b]) ∧ Below w.heap.size w w') ∧
  (∀ w, Calls Tryd.prog 45 #[.string s] w fun e w' => e = .returned (.tuple #[.int .i64 r, .bool b]) ∧ Below w.heap.size w w')

theorem un_blanks : UnIs blanks 0 true := by
  unfold blanks
  refine ⟨fun w _ => ?_, fun w => ?_⟩
  · go_enter Tryd.func44, Tryd.ntmps44
    go_wp2
    go_ret2
    exact ⟨rfl, Below.refl _ _⟩
  · go_enter Tryd.func45, Tryd.ntmps45
    go_wp2
    go_ret2
    exact ⟨rfl, Below.refl _ _⟩
theorem un_long (s : ByteArray) (hs : s.size ≤ maxLen) (hb : (s.toList == [32, 32, 32, 32, 32, 32, 32, 32]) = false) (h : s.size ≠ 8) : UnIs s 0 false := by
  unfold maxLen at hs
  have h8 : ((s.size : Int) == 8) = false := by simp; omega
  refine ⟨fun w _ => ?_, fun w => ?_⟩
  · clear h
    go_enter Tryd.func44, Tryd.ntmps44
    go_wp2
    go_ret2
    exact ⟨rfl, Below.refl _ _⟩
  · clear h
    go_enter Tryd.func45, Tryd.ntmps45
    go_wp2
    go_ret2
    exact ⟨rfl, Below.refl _ _⟩

set_option maxHeartbeats 1000000 in
theorem un_not (s : ByteArray) (hb : (s.toList == [32, 32, 32, 32, 32, 32, 32, 32]) = false) (h : s.size = 8) (hd : ¬ ∀ (q : Nat) (hq : q < s.size), isD ((s[q]'hq).toNat : Int) = true) : UnIs s 0 false := by
  have HD := Lib.hid hd; clear hd
  refine ⟨fun w _ => ?_, fun w => ?_⟩
  · go_enter Tryd.func44, Tryd.ntmps44
    go_wp2_with fail
    go_loop [14] (fun i => ∃ j : Nat, j ≤ 8 ∧ i = .int .i64 j ∧ Hid (∀ (q : Nat) (hq : q < s.size), q < j → isD ((s[q]'hq).toNat : Int) = true)) (fun i => 8 - (intOf i).toNat)
    case atStart => exact ⟨0, by omega, rfl, Lib.hid (fun q hq h => by omega)⟩
    case round =>
      obtain ⟨j, hj, rfl, HA⟩ := hrel
      by_cases hlt : j < 8
      · have hjs : j < s.size := by omega
        have i1 : 0 ≤ (j : Int) := by omega
        have i2 : (j : Int) < 8 := by omega
        have i3 : (j : Int) < s.size := by omega
        cases hq : isD ((s[j]'hjs).toNat : Int)
        · have HQ := Lib.hid hq; clear hq
          go_wp2_with fail
          refine (isDigit_any _ _).mono ?_
          rintro e w' ⟨rfl, rfl⟩
          rw [HQ.out]
          go_wp2_with fail
          go_ret2
          exact ⟨rfl, Below.refl _ _⟩
        · have HQ := Lib.hid hq; clear hq
          go_wp2_with fail
          refine (isDigit_any _ _).mono ?_
          rintro e w' ⟨rfl, rfl⟩
          rw [HQ.out]
          go_wp2_with fail
          go_round
          case rel =>
            refine ⟨j + 1, by omega, by go_num, Lib.hid (fun q hq' h => ?_)⟩
            rcases Nat.lt_or_ge q j with p | p
            · exact HA.out q hq' p
            · have : q = j := by omega
              subst this; exact HQ.out
          case measure => simp [intOf]; omega
      · exact absurd (fun q hq => HA.out q hq (by omega)) HD.out
  · go_enter Tryd.func45, Tryd.ntmps45
    go_wp2_with fail
    go_loop [4] (fun i => ∃ j : Nat, j ≤ 8 ∧ i = .int .i64 j ∧ Hid (∀ (q : Nat) (hq : q < s.size), q < j → isD ((s[q]'hq).toNat : Int) = true)) (fun i => 8 - (intOf i).toNat)
    case atStart => exact ⟨0, by omega, rfl, Lib.hid (fun q hq h => by omega)⟩
    case round =>
      obtain ⟨j, hj, rfl, HA⟩ := hrel
      by_cases hlt : j < 8
      · have hjs : j < s.size := by omega
        have i1 : 0 ≤ (j : Int) := by omega
        have i2 : (j : Int) < 8 := by omega
        have i3 : (j : Int) < s.size := by omega
        cases hq : isD ((s[j]'hjs).toNat : Int)
        · have HQ := Lib.hid hq; clear hq
          go_wp2_with fail
          refine (refIsDigit_any _ _).mono ?_
          rintro e w' ⟨rfl, rfl⟩
          rw [HQ.out]
          go_wp2_with fail
          go_ret2
          exact ⟨rfl, Below.refl _ _⟩
        · have HQ := Lib.hid hq; clear hq
          go_wp2_with fail
          refine (refIsDigit_any _ _).mono ?_
          rintro e w' ⟨rfl, rfl⟩
          rw [HQ.out]
          go_wp2_with fail
          go_round
          case rel =>
            refine ⟨j + 1, by omega, by go_num, Lib.hid (fun q hq' h => ?_)⟩
            rcases Nat.lt_or_ge q j with p | p
            · exact HA.out q hq' p
            · have : q = j := by omega
              subst this; exact HQ.out
          case measure => simp [intOf]; omega
      · exact absurd (fun q hq => HA.out q hq (by omega)) HD.out

set_option maxHeartbeats 2000000 in
/-- Eight digits: the date of their numbers. -/
theorem un_digits (s : ByteArray) (hb : (s.toList == [32, 32, 32, 32, 32, 32, 32, 32]) = false) (h : s.size = 8) (hd : ∀ (q : Nat) (hq : q < s.size), isD ((s[q]'hq).toNat : Int) = true) (y m d r x : Int)
    (e1 : valB (s.extract 0 4) = y) (e2 : valB (s.extract 4 6) = m) (e3 : valB (s.extract 6 8) = d)
    (c1 : ∀ w, Tab w → Calls Tryd.prog 34 #[.int .i64 y, .int .i64 m, .int .i64 d] w fun e w' => e = .returned (.tuple #[.int .i64 r, .int .i64 x]) ∧ w = w')
    (c2 : ∀ w, Calls Tryd.prog 35 #[.int .i64 y, .int .i64 m, .int .i64 d] w fun e w' => e = .returned (.tuple #[.int .i64 r, .int .i64 x]) ∧ w = w') : UnIs s r (x == 0) := by
  have HD := Lib.hid hd; clear hd
  have C1 := Lib.hid c1; clear c1
  have C2 := Lib.hid c2; clear c2
  have both : ∀ u : ByteArray, u.size ≤ 8 → Hid ((∀ w, Calls Tryd.prog 32 #[.string u] w fun e w' => e = .returned (.int .i64 (valB u)) ∧ w = w') ∧ (∀ w, Calls Tryd.prog 33 #[.string u] w fun e w' => e = .returned (.int .i64 (valB u)) ∧ w = w')) :=
    fun u hu => Lib.hid ⟨Val_any u (by unfold maxLen; omega), refVal_any u (by omega)⟩
  have Y1 := both (s.extract 0 4) (by simp; omega)
  have Y2 := both (s.extract 4 6) (by simp; omega)
  have Y3 := both (s.extract 6 8) (by simp; omega)
  rw [e1] at Y1
  rw [e2] at Y2
  rw [e3] at Y3
  clear e1 e2 e3 both
  refine ⟨fun w ht => ?_, fun w => ?_⟩
  · have hp := ht.pos
    have HT := Lib.hid ht; clear ht
    have HTn : Hid (∀ n, Tab (w.drewN n)) := Lib.hid fun n => HT.out.below (Joins.below_draws w.heap.size w n) hp
    go_enter Tryd.func44, Tryd.ntmps44
    go_wp2_with fail
    go_loop [14] (fun i => ∃ j : Nat, j ≤ 8 ∧ i = .int .i64 j) (fun i => 8 - (intOf i).toNat)
    case atStart => exact ⟨0, by omega, rfl⟩
    case round =>
      obtain ⟨j, hj, rfl⟩ := hrel
      by_cases hlt : j < 8
      · have hjs : j < s.size := by omega
        have i1 : 0 ≤ (j : Int) := by omega
        have i2 : (j : Int) < 8 := by omega
        have i3 : (j : Int) < s.size := by omega
        have HQ := Lib.hid (HD.out j hjs)
        go_wp2_with fail
        refine (isDigit_any _ _).mono ?_
        rintro e w' ⟨rfl, rfl⟩
        rw [HQ.out]
        go_wp2_with fail
        go_round
        case rel => exact ⟨j + 1, by omega, by go_num⟩
        case measure => simp [intOf]; omega
      · have i2 : ¬ (j : Int) < 8 := by omega
        go_wp2_with fail
        go_quiet (first
          | (go_at_call 32; with_reducible exact Calls.quiet_of_same ((Y1.out.1 _).mono fun e w' h => ⟨h.1, h.2.symm⟩))
          | (go_at_call 32; with_reducible exact Calls.quiet_of_same ((Y2.out.1 _).mono fun e w' h => ⟨h.1, h.2.symm⟩))
          | (go_at_call 32; with_reducible exact Calls.quiet_of_same ((Y3.out.1 _).mono fun e w' h => ⟨h.1, h.2.symm⟩))
          | (go_at_call 34; with_reducible exact Calls.quiet_of_same ((C1.out _ (HTn.out _)).mono fun e w' h => ⟨h.1, h.2.symm⟩)))
        go_wp2
        go_ret2
        refine ⟨rfl, ?_⟩
        first
          | exact Joins.below_draws _ _ _
          | (repeat (first | (with_reducible exact Below.refl _ _) | (with_reducible exact Joins.below_draws _ _ _) | (with_reducible refine Below.drew ?_)))
  · go_enter Tryd.func45, Tryd.ntmps45
    go_wp2_with fail
    go_loop [4] (fun i => ∃ j : Nat, j ≤ 8 ∧ i = .int .i64 j) (fun i => 8 - (intOf i).toNat)
    case atStart => exact ⟨0, by omega, rfl⟩
    case round =>
      obtain ⟨j, hj, rfl⟩ := hrel
      by_cases hlt : j < 8
      · have hjs : j < s.size := by omega
        have i1 : 0 ≤ (j : Int) := by omega
        have i2 : (j : Int) < 8 := by omega
        have i3 : (j : Int) < s.size := by omega
        have HQ := Lib.hid (HD.out j hjs)
        go_wp2_with fail
        refine (refIsDigit_any _ _).mono ?_
        rintro e w' ⟨rfl, rfl⟩
        rw [HQ.out]
        go_wp2_with fail
        go_round
        case rel => exact ⟨j + 1, by omega, by go_num⟩
        case measure => simp [intOf]; omega
      · have i2 : ¬ (j : Int) < 8 := by omega
        go_wp2_with fail
        go_quiet (first
          | (go_at_call 33; with_reducible exact Calls.quiet_of_same ((Y1.out.2 _).mono fun e w' h => ⟨h.1, h.2.symm⟩))
          | (go_at_call 33; with_reducible exact Calls.quiet_of_same ((Y2.out.2 _).mono fun e w' h => ⟨h.1, h.2.symm⟩))
          | (go_at_call 33; with_reducible exact Calls.quiet_of_same ((Y3.out.2 _).mono fun e w' h => ⟨h.1, h.2.symm⟩))
          | (go_at_call 35; with_reducible exact Calls.quiet_of_same ((C2.out _).mono fun e w' h => ⟨h.1, h.2.symm⟩)))
        go_wp2
        go_ret2
        refine ⟨rfl, ?_⟩
        first
          | exact Joins.below_draws _ _ _
          | (repeat (first | (with_reducible exact Below.refl _ _) | (with_reducible exact Joins.below_draws _ _ _) | (with_reducible refine Below.drew ?_)))

theorem blanks_eq (s : ByteArray) (h : (s.toList == [32, 32, 32, 32, 32, 32, 32, 32]) = true) : s = blanks := by
  have h1 := eq_of_beq h
  rw [toList_data] at h1
  apply ByteArray.ext
  apply Array.ext'
  exact h1

/-- Unstamp of both: one answer; of eight digits the day of their date. -/
theorem un_both (s : ByteArray) (hs : s.size ≤ maxLen) : ∃ (r : Int) (b : Bool), UnIs s r b := by
  cases hb : s.toList == [32, 32, 32, 32, 32, 32, 32, 32]
  · by_cases h8 : s.size = 8
    · by_cases hd : ∀ (q : Nat) (hq : q < s.size), isD ((s[q]'hq).toNat : Int) = true
      · by_cases ok : Cal.Ok (valB (s.extract 0 4)) (valB (s.extract 4 6)) (valB (s.extract 6 8))
        · exact ⟨_, _, un_digits s hb h8 hd _ _ _ _ 0 rfl rfl rfl (fun w ht => days_yes _ _ _ w ok ht) (fun w => refDays_yes _ _ _ w ok)⟩
        · exact ⟨_, _, un_digits s hb h8 hd _ _ _ _ 1 rfl rfl rfl (fun w ht => days_no _ _ _ w ok ht) (fun w => refDays_no _ _ _ w ok)⟩
      · exact ⟨0, false, un_not s hb h8 hd⟩
    · exact ⟨0, false, un_long s hs hb h8⟩
  · rw [blanks_eq s hb]
    exact ⟨0, true, un_blanks⟩

theorem pad_digits (n : Int) (k : Nat) (h1 : 0 ≤ n) : ∀ b ∈ (pad n k).data.toList, isD (b.toNat : Int) = true := by
  intro b hb
  have e : (pad n k).data.toList = List.replicate (k - (dec n).size) 48 ++ Lib.decDigits n.toNat := by
    have : (pad n k).data = (List.replicate (k - (dec n).size) 48).toArray ++ (Lib.itoa n).toArray := by unfold pad; rw [ByteArray.data_append]; rfl
    rw [this]
    unfold Lib.itoa
    rw [if_neg (by omega)]; simp
  rw [e] at hb
  rcases List.mem_append.1 hb with q | q
  · rw [(List.mem_replicate.1 q).2]; decide
  · exact (dec_digits n.toNat).2 b q

/-- A day's stamp gives the day back. -/
theorem un_stamp (y m d n : Int) (h : Cal.Ok y m d) (hn : Cal.num y m d = n) : UnIs (stampB y m d) n true := by
  have hh := h
  obtain ⟨a, b, c, e, f, g⟩ := hh
  have hm := Cal.ml_bd y m
  have s1 := pad_size y 4 (dec_le y 3 (by omega) (by omega))
  have s2 := pad_size m 2 (dec_le m 1 (by omega) (by omega))
  have s3 := pad_size d 2 (dec_le d 1 (by omega) (by omega))
  have hz : (stampB y m d).size = 8 := by unfold stampB; rw [ByteArray.size_append, ByteArray.size_append, s1, s2, s3]
  have hd : ∀ b ∈ (stampB y m d).data.toList, isD (b.toNat : Int) = true := by
    intro b hb
    unfold stampB at hb
    rw [ByteArray.data_append, ByteArray.data_append, Array.toList_append, Array.toList_append] at hb
    rcases List.mem_append.1 hb with q | q
    · rcases List.mem_append.1 q with q | q
      · exact pad_digits y 4 (by omega) b q
      · exact pad_digits m 2 (by omega) b q
    · exact pad_digits d 2 (by omega) b q
  have x1 : (stampB y m d).extract 0 4 = pad y 4 := by
    unfold stampB
    apply ByteArray.ext
    have z1 : (pad y 4).data.size = 4 := s1
    simp [ByteArray.data_extract, ByteArray.data_append, Array.extract_append, z1]
  have x2 : (stampB y m d).extract 4 6 = pad m 2 := by
    unfold stampB
    apply ByteArray.ext
    have z1 : (pad y 4).data.size = 4 := s1
    have z2 : (pad m 2).data.size = 2 := s2
    have y2 : (pad m 2).data.extract 0 2 = (pad m 2).data := by
      have := Array.extract_size (xs := (pad m 2).data)
      rwa [z2] at this
    simp [ByteArray.data_extract, ByteArray.data_append, Array.extract_append, z1, z2, y2]
  have x3 : (stampB y m d).extract 6 8 = pad d 2 := by
    unfold stampB
    apply ByteArray.ext
    have z1 : (pad y 4).data.size = 4 := s1
    have z2 : (pad m 2).data.size = 2 := s2
    have z3 : (pad d 2).data.size = 2 := s3
    have y3 : (pad d 2).data.extract 0 2 = (pad d 2).data := by
      have := Array.extract_size (xs := (pad d 2).data)
      rwa [z3] at this
    have y1 : (pad y 4).data.extract 6 4 = #[] := Array.extract_empty_of_stop_le_start (by omega)
    simp [ByteArray.data_extract, ByteArray.data_append, Array.extract_append, z1, z2, y1, y3]
  have hb : ((stampB y m d).toList == [32, 32, 32, 32, 32, 32, 32, 32]) = false := by
    cases q : ((stampB y m d).toList == [32, 32, 32, 32, 32, 32, 32, 32])
    · rfl
    · have := eq_of_beq q
      rw [toList_data] at this
      have := hd 32 (by rw [this]; simp)
      exact absurd this (by decide)
  have hall : ∀ (q : Nat) (hq : q < (stampB y m d).size), isD (((stampB y m d)[q]'hq).toNat : Int) = true := fun q hq => hd _ (by
    have := byte_at (stampB y m d) q hq
    exact List.mem_of_getElem? this)
  exact un_digits _ hb hz hall y m d n 0 (by rw [x1]; exact val_pad y 4 (by omega) (by omega)) (by rw [x2]; exact val_pad m 2 (by omega) (by omega)) (by rw [x3]; exact val_pad d 2 (by omega) (by omega))
    (fun w ht => by rw [← hn]; exact days_yes y m d w h ht) (fun w => by rw [← hn]; exact refDays_yes y m d w h)
end Go.Proofs.YtfgadkknfehkcaaDoor
