/- Ranges of keys: texts that are equal; all comparisons. -/
import Derived.Test.YtiddnacmopfamaaDoorKyMc
namespace Go.Proofs.YtiddnacmopfamaaDoor
open Go.RowKit
set_option linter.unusedVariables false
set_option linter.unusedSimpArgs false
set_option maxRecDepth 40000

theorem beh_ne : ∀ (l : List UInt8) (m : Nat) (r : List UInt8), behF l m = some r → r ≠ []
  | l, 0, r, h => by simp [behF] at h
  | l, m + 1, r, h => by
    rw [behF] at h
    split at h
    · exact beh_ne l m r h
    · cases h; simp
theorem in_beg (K b : ByteArray) : inR K b (oT (behO b.data.toList)) = b.data.toList.isPrefixOf K.data.toList := by
  rw [Bool.eq_iff_iff, beg_range]
  unfold inR
  rw [Bool.and_eq_true, decide_eq_true_eq, Bool.or_eq_true, decide_eq_true_eq, emp_iff]
  have e : (oT (behO b.data.toList)).data.toList = (behO b.data.toList).getD [] := rfl
  rw [e]
  cases hb : behO b.data.toList with
  | none => simp
  | some r =>
    have := beh_ne _ _ _ hb
    simp [this]
theorem inv8_inj {u v : UInt8} (h : inv8 u = inv8 v) : u = v := by
  have h2 := congrArg UInt8.toNat h
  rw [inv8_nat, inv8_nat] at h2
  have := byte_lt u
  have := byte_lt v
  exact UInt8.toNat_inj.1 (by omega)
theorem pre_map : ∀ (a b : List UInt8), (a.map inv8).isPrefixOf (b.map inv8) = a.isPrefixOf b
  | [], _ => by simp
  | _ :: _, [] => by simp [List.isPrefixOf]
  | u :: a, v :: b => by
    simp only [List.map_cons, List.isPrefixOf, pre_map a b]
    congr 1
    rw [Bool.eq_iff_iff, beq_iff_eq, beq_iff_eq]
    exact ⟨inv8_inj, fun h => by rw [h]⟩
theorem pre_turn (d : Bool) (a b : ByteArray) : (turnS d a).data.toList.isPrefixOf (turnS d b).data.toList = a.data.toList.isPrefixOf b.data.toList := by
  cases d
  · rw [turn_false, turn_false]
  · rw [turn_list, turn_list, pre_map]
theorem range_beg {op : ByteArray} {n' n : Int} {s' s : ByteArray} {p c : Nat} {d : Bool} (he : eqO op = true) :
    (hoV op 4 n' s' n s false = true → inR (turnS d (encS 4 n' s' p c)) (rgV op 4 n s p c false d).1 (rgV op 4 n s p c false d).2.1 = true) ∧
    (inR (turnS d (encS 4 n' s' p c)) (rgV op 4 n s p c false d).1 (rgV op 4 n s p c false d).2.1 = true → (rgV op 4 n s p c false d).2.2 = true → s'.size ≤ 48 → hoV op 4 n' s' n s false = true) ∧
    (c = 0 → s.size ≤ 47 → (rgV op 4 n s p c false d).2.2 = true) := by
  have hR : rgV op 4 n s p c false d = (turnS d (prS p c s), oT (behO (turnS d (prS p c s)).data.toList), decide (c = 0 ∧ s.size < 48)) := by
    unfold rgV
    rw [if_pos ⟨he, rfl, rfl⟩]
  have hI : inR (turnS d (encS 4 n' s' p c)) (turnS d (prS p c s)) (oT (behO (turnS d (prS p c s)).data.toList)) = (wei48 p c s).isPrefixOf (wei48 p c s') := by
    rw [in_beg, pre_turn, enc_text]
    show (4 :: esc (wei48 p c s)).isPrefixOf _ = _
    simp only [List.isPrefixOf]
    rw [esc_begins]
    simp
  rw [hR]
  simp only
  rw [hI]
  have hH : hoV op 4 n' s' n s false = s.data.toList.isPrefixOf s'.data.toList := by
    unfold hoV eqX
    rw [if_pos he, if_pos rfl, if_neg (by simp)]
  rw [hH]
  refine ⟨fun h => ?_, fun h hs hz => ?_, fun h0 h1 => by simp [h0]; omega⟩
  · rw [List.isPrefixOf_iff_prefix] at h ⊢
    obtain ⟨r, hr⟩ := h
    unfold wei48
    rw [← hr, List.take_append, List.map_append]
    exact List.prefix_append _ _
  · have hs' : c = 0 ∧ s.size < 48 := by simpa using hs
    obtain ⟨rfl, h48⟩ := hs'
    rw [wei_plain, wei_plain, List.take_of_length_le (show s.data.toList.length ≤ 48 from Nat.le_of_lt h48), List.take_of_length_le (show s'.data.toList.length ≤ 48 from hz)] at h
    exact h
theorem trim_tail (l : List UInt8) : ∃ j, l = Lib.trimRightB l 32 ++ List.replicate j 32 := by
  refine ⟨(l.reverse.takeWhile (· == 32)).length, ?_⟩
  have h1 : l.reverse.takeWhile (· == 32) = List.replicate (l.reverse.takeWhile (· == 32)).length 32 := by
    rw [List.eq_replicate_iff]
    refine ⟨rfl, fun b hb => ?_⟩
    have := List.all_takeWhile (p := fun b : UInt8 => b == 32) (l := l.reverse)
    have h2 := List.all_eq_true.1 this b hb
    simpa using h2
  have h2 : l.reverse = l.reverse.takeWhile (· == 32) ++ l.reverse.dropWhile (· == 32) := (List.takeWhile_append_dropWhile).symm
  have h3 : l = (l.reverse.dropWhile (· == 32)).reverse ++ (l.reverse.takeWhile (· == 32)).reverse := by
    have := congrArg List.reverse h2
    rw [List.reverse_reverse, List.reverse_append] at this
    exact this
  have h4 : (l.reverse.takeWhile (· == 32)).reverse = List.replicate (l.reverse.takeWhile (· == 32)).length 32 := by
    rw [h1, List.reverse_replicate, List.length_replicate]
  unfold Lib.trimRightB
  rw [← h4]
  exact h3
theorem repeat_one : ∀ n, Lib.repeatL [32] n = List.replicate n 32
  | 0 => rfl
  | n + 1 => by rw [Lib.repeatL_add, repeat_one n, Lib.repeatL_one, List.replicate_succ']
theorem rep_pre {α : Type} (a : α) {i j : Nat} (h : i ≤ j) : ∃ r, List.replicate j a = List.replicate i a ++ r := ⟨List.replicate (j - i) a, by rw [List.replicate_append_replicate]; congr 1; omega⟩
theorem range_trim {op : ByteArray} {n' n : Int} {s' s : ByteArray} {p c : Nat} {d : Bool} (he : eqO op = true) :
    (hoV op 4 n' s' n s true = true → inR (turnS d (encS 4 n' s' p c)) (rgV op 4 n s p c true d).1 (rgV op 4 n s p c true d).2.1 = true) ∧
    (rgV op 4 n s p c true d).2.2 = false := by
  have hR : rgV op 4 n s p c true d = ((keysV (prS p c (trS s) ++ ⟨#[0, 0]⟩) (prS p c (padS s) ++ ⟨#[0, 0]⟩) true true 4 d).1, (keysV (prS p c (trS s) ++ ⟨#[0, 0]⟩) (prS p c (padS s) ++ ⟨#[0, 0]⟩) true true 4 d).2, rgS op 4 s c) := by
    unfold rgV
    rw [if_neg (by simp)]
    unfold rgB
    rw [if_pos ⟨he, rfl⟩]
    rfl
  rw [hR]
  simp only
  refine ⟨fun h => ?_, by unfold rgS; rw [he]; simp⟩
  have hT : (trS s').data.toList = (trS s).data.toList := by
    unfold hoV eqX at h
    rw [if_pos he, if_pos rfl, if_pos rfl] at h
    simpa using h
  have hdat : ∀ y : ByteArray, (prS p c y ++ (⟨#[0, 0]⟩ : ByteArray)).data.toList = 4 :: (esc (wei48 p c y) ++ [0, 0]) := fun y => by
    rw [ByteArray.data_append, Array.toList_append]
    rfl
  have hE := enc_text n' s' p c
  obtain ⟨a1, a2⟩ := cmp_esc (wei48 p c s') (wei48 p c (trS s))
  obtain ⟨b1, b2⟩ := cmp_esc (wei48 p c s') (wei48 p c (padS s))
  have c1 : Lib.compareBytes (encS 4 n' s' p c).data.toList (prS p c (trS s) ++ (⟨#[0, 0]⟩ : ByteArray)).data.toList = Lib.compareBytes (wei48 p c s') (wei48 p c (trS s)) := by
    rw [hE, hdat]
    simp only [Lib.compareBytes]
    rw [if_neg (by decide), if_neg (by decide), a1]
  have c2 : Lib.compareBytes (encS 4 n' s' p c).data.toList (prS p c (padS s) ++ (⟨#[0, 0]⟩ : ByteArray)).data.toList = Lib.compareBytes (wei48 p c s') (wei48 p c (padS s)) := by
    rw [hE, hdat]
    simp only [Lib.compareBytes]
    rw [if_neg (by decide), if_neg (by decide), b1]
  rw [in_keys _ _ _ true true 4 _ d hE (by omega) (by omega) (.inr (by rw [hE, hdat]; exact fun _ => a2)) (.inr (by rw [hE, hdat]; exact fun _ => b2))]
  unfold abv blw
  rw [if_pos rfl, if_pos rfl, c1, c2]
  obtain ⟨j, hj⟩ := trim_tail s'.data.toList
  have hj' : s'.data.toList = (trS s).data.toList ++ List.replicate j 32 := by rw [← hT]; exact hj
  have hpad : (padS s).data.toList = (trS s).data.toList ++ List.replicate (48 - (trS s).size) 32 := by
    unfold padS
    rw [ByteArray.data_append, Array.toList_append]
    congr 1
    show Lib.repeatL [32] _ = _
    exact repeat_one _
  have hl : (trS s).data.toList.length = (trS s).size := rfl
  refine ⟨.inr ?_, .inr ?_⟩
  · have e : ∃ r, wei48 p c s' = wei48 p c (trS s) ++ r := by
      unfold wei48
      rw [hj', List.take_append, List.map_append]
      exact ⟨_, rfl⟩
    obtain ⟨r, e⟩ := e
    rw [e]
    exact (cmp_prefix _ _).1
  · have e : ∃ r, wei48 p c (padS s) = wei48 p c s' ++ r := by
      unfold wei48
      rw [hj', hpad, List.take_append, List.take_append, List.take_replicate, List.take_replicate, hl]
      obtain ⟨r, hr⟩ := rep_pre (32 : UInt8) (show min (48 - (trS s).size) j ≤ min (48 - (trS s).size) (48 - (trS s).size) by omega)
      rw [hr, ← List.append_assoc, List.map_append]
      exact ⟨_, rfl⟩
    obtain ⟨r, e⟩ := e
    rw [e]
    exact (cmp_prefix _ _).2
/-- What KeyRanges says of a range. -/
theorem range_all {op : ByteArray} {k n' n : Int} {s' s : ByteArray} {p c : Nat} {x d : Bool} (ho : isO op = true) (hv : vE k n s = 0) (hw : vE k n' s' = 0) (hk : k ≠ 0) :
    (hoV op k n' s' n s x = true → inR (turnS d (encS k n' s' p c)) (rgV op k n s p c x d).1 (rgV op k n s p c x d).2.1 = true) ∧
    (inR (turnS d (encS k n' s' p c)) (rgV op k n s p c x d).1 (rgV op k n s p c x d).2.1 = true → (rgV op k n s p c x d).2.2 = true → s'.size ≤ 48 → hoV op k n' s' n s x = true) := by
  by_cases h4 : k = 4
  · subst h4
    cases he : eqO op
    · obtain ⟨h1, h2, _⟩ := range_txt (p := p) (c := c) (x := x) (d := d) ho hv hw he
      exact ⟨h1, fun a b _ => h2 a b⟩
    · cases x
      · obtain ⟨h1, h2, _⟩ := range_beg (n' := n') (n := n) (s' := s') (s := s) (p := p) (c := c) (d := d) he
        exact ⟨h1, h2⟩
      · obtain ⟨h1, h2⟩ := range_trim (n' := n') (n := n) (s' := s') (s := s) (p := p) (c := c) (d := d) he
        exact ⟨h1, fun _ h _ => by rw [h2] at h; cases h⟩
  · have h := range_num (p := p) (c := c) (x := x) (d := d) ho hv hw hk h4
    rw [h]
    exact ⟨fun h => h, fun h _ _ => h⟩
theorem range_sure {op : ByteArray} {k n : Int} {s : ByteArray} {p c : Nat} {x d : Bool} (ho : isO op = true) (hv : vE k n s = 0) (hk : k ≠ 0) (hc : c = 0) (hm : k ≠ 4 ∨ s.size ≤ 47 ∧ ¬ (eqO op = true ∧ x = true)) : (rgV op k n s p c x d).2.2 = true := by
  by_cases h4 : k = 4
  · subst h4
    obtain ⟨h1, h2⟩ := hm.resolve_left (fun h => h rfl)
    cases he : eqO op
    · exact (range_txt (p := p) (c := c) (x := x) (d := d) ho hv hv he).2.2 hc h1
    · cases x
      · exact (range_beg (n' := n) (n := n) (s' := s) (s := s) (p := p) (c := c) (d := d) he).2.2 hc h1
      · exact absurd ⟨he, rfl⟩ h2
  · unfold rgV
    rw [if_neg (fun h => h4 h.2.1)]
    unfold rgS
    simp [hc, h4]
end Go.Proofs.YtiddnacmopfamaaDoor
