/- Ranges of keys: plain mathematics. -/
import Derived.Test.YtiddnacmopfamaaDoorKyRg
import Derived.Test.YtiddnacmopfamaaDoorKyOb
namespace Go.Proofs.YtiddnacmopfamaaDoor
open Go.RowKit
set_option linter.unusedVariables false
set_option linter.unusedSimpArgs false
set_option maxRecDepth 40000

theorem cmp_nil_le (b : List UInt8) : Lib.compareBytes [] b ≤ 0 := by cases b <;> simp [Lib.compareBytes]
theorem cmp_nil_ge (a : List UInt8) : 0 ≤ Lib.compareBytes a [] := by cases a <;> simp [Lib.compareBytes]
theorem cmp_zero : ∀ (K l : List UInt8), 0 ≤ Lib.compareBytes K (l ++ [0]) ↔ 0 < Lib.compareBytes K l
  | [], [] => by simp [Lib.compareBytes]
  | [], _ :: _ => by simp [Lib.compareBytes]
  | u :: t, [] => by
    simp only [List.nil_append, Lib.compareBytes, UInt8.lt_iff_toNat_lt]
    have h0 : (0 : UInt8).toNat = 0 := rfl
    rw [h0, if_neg (by omega)]
    by_cases h : 0 < u.toNat
    · rw [if_pos h]; simp
    · rw [if_neg h]
      have := cmp_nil_ge t
      constructor
      · intro _; omega
      · intro _; exact this
  | u :: t, a :: l => by
    have ih := cmp_zero t l
    simp only [List.cons_append, Lib.compareBytes]
    by_cases h1 : u < a
    · rw [if_pos h1, if_pos h1]; simp
    · by_cases h2 : a < u
      · rw [if_neg h1, if_pos h2, if_neg h1, if_pos h2]; simp
      · rw [if_neg h1, if_neg h2, if_neg h1, if_neg h2]; exact ih
theorem cmp_prefix : ∀ (a x : List UInt8), 0 ≤ Lib.compareBytes (a ++ x) a ∧ Lib.compareBytes a (a ++ x) ≤ 0
  | [], x => ⟨cmp_nil_ge _, cmp_nil_le _⟩
  | u :: a, x => by
    have ih := cmp_prefix a x
    simp only [List.cons_append, Lib.compareBytes]
    rw [if_neg (by simp), if_neg (by simp), if_neg (by simp), if_neg (by simp)]
    exact ih
theorem cmp_eq : ∀ (a b : List UInt8), Lib.compareBytes a b = 0 ↔ a = b
  | [], [] => by simp [Lib.compareBytes]
  | [], _ :: _ => by simp [Lib.compareBytes]
  | _ :: _, [] => by simp [Lib.compareBytes]
  | u :: a, v :: b => by
    have ih := cmp_eq a b
    simp only [Lib.compareBytes, UInt8.lt_iff_toNat_lt]
    by_cases h1 : u.toNat < v.toNat
    · rw [if_pos h1]
      constructor
      · intro h; cases h
      · intro h; cases h; omega
    · by_cases h2 : v.toNat < u.toNat
      · rw [if_neg h1, if_pos h2]
        constructor
        · intro h; cases h
        · intro h; cases h; omega
      · have e : u = v := UInt8.toNat_inj.1 (by omega)
        rw [if_neg h1, if_neg h2, ih, e]
        simp
/-- The first bytes decide, where they differ. -/
theorem cmp_take : ∀ (m : Nat) (a b : List UInt8), (Lib.compareBytes (a.take m) (b.take m) ≠ 0 → Lib.compareBytes a b = Lib.compareBytes (a.take m) (b.take m)) ∧ (b.length < m → Lib.compareBytes a b = Lib.compareBytes (a.take m) (b.take m))
  | 0, a, b => by simp [Lib.compareBytes]
  | m + 1, [], [] => by simp
  | m + 1, [], _ :: _ => by simp [Lib.compareBytes]
  | m + 1, _ :: _, [] => by simp [Lib.compareBytes]
  | m + 1, u :: a, v :: b => by
    have ih := cmp_take m a b
    simp only [List.take_succ_cons, Lib.compareBytes, List.length_cons]
    by_cases h1 : u < v
    · rw [if_pos h1, if_pos h1]; simp
    · by_cases h2 : v < u
      · rw [if_neg h1, if_pos h2, if_neg h1, if_pos h2]; simp
      · rw [if_neg h1, if_neg h2, if_neg h1, if_neg h2]
        exact ⟨ih.1, fun h => ih.2 (by omega)⟩

/-- A key in a range. -/
def inR (K lo hi : ByteArray) : Bool := decide (0 ≤ Lib.compareBytes K.data.toList lo.data.toList) && (hi.toList.isEmpty || decide (Lib.compareBytes K.data.toList hi.data.toList < 0))
/-- K is above a bound, below one. -/
def abv (K lo : List UInt8) (a : Bool) : Prop := lo = [] ∨ (if a = true then 0 ≤ Lib.compareBytes K lo else 0 < Lib.compareBytes K lo)
def blw (K hi : List UInt8) (b : Bool) : Prop := hi = [] ∨ (if b = true then Lib.compareBytes K hi ≤ 0 else Lib.compareBytes K hi < 0)
theorem emp_iff (x : ByteArray) : x.toList.isEmpty = true ↔ x.data.toList = [] := by rw [Lib.toList_data]; cases x.data.toList <;> simp
theorem app0 (x : ByteArray) : (x ++ (⟨#[0]⟩ : ByteArray)).data.toList = x.data.toList ++ [0] := by
  rw [ByteArray.data_append, Array.toList_append]
theorem cmp_all {u : UInt8} {t : List UInt8} : 0 ≤ Lib.compareBytes (u :: t) [u] := by
  have := (cmp_prefix [u] t).1
  simpa using this
theorem beh_one {u : UInt8} (h : u.toNat < 255) : (oT (behO [u])).data.toList = [u + 1] := by
  have h2 : ∀ v : Fin 255, (oT (behO [UInt8.ofNat v.val])).data.toList = [UInt8.ofNat v.val + 1] := by decide +kernel
  have := h2 ⟨u.toNat, h⟩
  simpa using this
theorem cmp_beh {u : UInt8} {t : List UInt8} (h : u.toNat < 255) : Lib.compareBytes (u :: t) (oT (behO [u])).data.toList < 0 := by
  rw [beh_one h]
  simp only [Lib.compareBytes, UInt8.lt_iff_toNat_lt]
  rw [inc_byte h, if_pos (by omega)]
  decide
theorem oneR (lo' hi' K : ByteArray) (u : UInt8) (t : List UInt8) (al : ByteArray) (a b : Bool) (hK : K.data.toList = u :: t) (hal : al.data.toList = [u]) (hu : u.toNat < 255) :
    inR K (loF lo' al a) (hiF hi' al b) = true ↔ (lo'.data.toList = [] ∨ (if a = true then 0 ≤ Lib.compareBytes K.data.toList lo'.data.toList else 0 < Lib.compareBytes K.data.toList lo'.data.toList)) ∧ (hi'.data.toList = [] ∨ (if b = true then Lib.compareBytes K.data.toList hi'.data.toList ≤ 0 else Lib.compareBytes K.data.toList hi'.data.toList < 0)) := by
  unfold inR
  rw [Bool.and_eq_true, decide_eq_true_eq, Bool.or_eq_true, decide_eq_true_eq]
  have e1 : (0 ≤ Lib.compareBytes K.data.toList (loF lo' al a).data.toList) ↔ (lo'.data.toList = [] ∨ (if a = true then 0 ≤ Lib.compareBytes K.data.toList lo'.data.toList else 0 < Lib.compareBytes K.data.toList lo'.data.toList)) := by
    unfold loF
    by_cases h : lo'.toList.isEmpty = true
    · rw [if_pos h, hal, hK]
      have h' := (emp_iff _).1 h
      exact ⟨fun _ => .inl h', fun _ => cmp_all⟩
    · rw [if_neg h]
      have h' : lo'.data.toList ≠ [] := fun e => h ((emp_iff _).2 e)
      cases a
      · rw [if_neg (by simp), app0, cmp_zero]
        simp [h']
      · rw [if_pos rfl]
        simp [h']
  have e2 : ((hiF hi' al b).toList.isEmpty = true ∨ Lib.compareBytes K.data.toList (hiF hi' al b).data.toList < 0) ↔ (hi'.data.toList = [] ∨ (if b = true then Lib.compareBytes K.data.toList hi'.data.toList ≤ 0 else Lib.compareBytes K.data.toList hi'.data.toList < 0)) := by
    unfold hiF
    by_cases h : hi'.toList.isEmpty = true
    · rw [if_pos h, hal]
      have h' := (emp_iff _).1 h
      refine ⟨fun _ => .inl h', fun _ => .inr ?_⟩
      rw [hK]; exact cmp_beh hu
    · rw [if_neg h]
      have h' : hi'.data.toList ≠ [] := fun e => h ((emp_iff _).2 e)
      cases b
      · rw [if_neg (by simp)]
        constructor
        · rintro (e | e)
          · exact absurd e h
          · exact .inr (by rw [if_neg (by simp)]; exact e)
        · rintro (e | e)
          · exact absurd e h'
          · exact .inr (by rw [if_neg (by simp)] at e; exact e)
      · rw [if_pos rfl]
        have hne : ¬ (hi' ++ (⟨#[0]⟩ : ByteArray)).toList.isEmpty = true := fun e => by
          have := (emp_iff _).1 e
          rw [app0] at this
          simp at this
        have hz := cmp_zero K.data.toList hi'.data.toList
        rw [app0]
        constructor
        · rintro (e | e)
          · exact absurd e hne
          · exact .inr (by rw [if_pos rfl]; omega)
        · rintro (e | e)
          · exact absurd e h'
          · exact .inr (by rw [if_pos rfl] at e; omega)
  rw [e1, e2]
theorem turn_emp (d : Bool) (x : ByteArray) : (turnS d x).data.toList = [] ↔ x.data.toList = [] := by
  show (x.data.toList.map _).toArray.toList = [] ↔ _
  simp
/-- A key in the range of two bounds, turned round or not. -/
theorem in_keys (K lo hi : ByteArray) (a b : Bool) (k : Nat) (t : List UInt8) (d : Bool) (hK : K.data.toList = UInt8.ofNat k :: t) (hk1 : 1 ≤ k) (hk : k ≤ 4) (hlo : lo.data.toList = [] ∨ apart K.data.toList lo.data.toList) (hhi : hi.data.toList = [] ∨ apart K.data.toList hi.data.toList) :
    inR (turnS d K) (keysV lo hi a b k d).1 (keysV lo hi a b k d).2 = true ↔ abv K.data.toList lo.data.toList a ∧ blw K.data.toList hi.data.toList b := by
  have hall : (allS k d).data.toList = [mapB (turnN d) (UInt8.ofNat k)] := by
    unfold allS
    show ((strOfNums [(k : Int)]).data.toList.map _).toArray.toList = _
    simp [strOfNums]
  have hKt : (turnS d K).data.toList = mapB (turnN d) (UInt8.ofNat k) :: t.map (mapB (turnN d)) := by
    show (K.data.toList.map _).toArray.toList = _
    rw [hK]; simp
  have hu : (mapB (turnN d) (UInt8.ofNat k)).toNat < 255 := by
    have h : ∀ (d : Bool) (v : Fin 5), 1 ≤ v.val → (mapB (turnN d) (UInt8.ofNat v.val)).toNat < 255 := by decide
    exact h d ⟨k, by omega⟩ hk1
  unfold keysV
  cases d
  · rw [if_neg (by simp)]
    simp only
    rw [oneR _ _ _ _ _ _ a b hKt hall hu, turn_false, turn_false, turn_false]
    rfl
  · rw [if_pos rfl]
    simp only
    rw [oneR _ _ _ _ _ _ b a hKt hall hu, turn_emp, turn_emp]
    unfold abv blw
    have f1 : hi.data.toList ≠ [] → Lib.compareBytes (turnS true K).data.toList (turnS true hi).data.toList = - Lib.compareBytes K.data.toList hi.data.toList := fun h => by
      rw [turn_list, turn_list, cmp_turn _ _ (hhi.resolve_left h)]
    have f2 : lo.data.toList ≠ [] → Lib.compareBytes (turnS true K).data.toList (turnS true lo).data.toList = - Lib.compareBytes K.data.toList lo.data.toList := fun h => by
      rw [turn_list, turn_list, cmp_turn _ _ (hlo.resolve_left h)]
    by_cases h1 : hi.data.toList = []
    · by_cases h2 : lo.data.toList = []
      · simp [h1, h2]
      · rw [f2 h2]
        simp only [h1, h2, true_or, true_and, false_or, and_true]
        cases a <;> simp
    · rw [f1 h1]
      by_cases h2 : lo.data.toList = []
      · simp only [h1, h2, true_or, true_and, false_or, and_true]
        cases b <;> simp
      · rw [f2 h2]
        simp only [h1, h2, false_or]
        cases a <;> cases b <;> simp <;> omega
end Go.Proofs.YtiddnacmopfamaaDoor
