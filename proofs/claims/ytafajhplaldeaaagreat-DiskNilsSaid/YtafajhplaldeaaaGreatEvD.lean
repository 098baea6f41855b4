/- What the evaluator's small functions are, and when they go through. -/
import Derived.Test.YtafajhplaldeaaaGreatEvC
set_option linter.unusedVariables false
set_option linter.unusedSimpArgs false
namespace Go.Ev
open Go

theorem RV.when_ok {b : Bool} {s : String} {k : RV} {v : VV} {H : VH} : RV.when b s k = .ok v H ↔ b = true ∧ k = .ok v H := by cases b <;> simp [RV.when]
theorem RV.of_ok {α : Type} {o : Option α} {s : String} {k : α → RV} {v : VV} {H : VH} : RV.of o s k = .ok v H ↔ ∃ a, o = some a ∧ k a = .ok v H := by cases o <;> simp [RV.of]
theorem RV.from_ok {α : Type} {x : R α} {k : α → RV} {v : VV} {H : VH} : RV.from x k = .ok v H ↔ ∃ a, x = .ok a ∧ k a = .ok v H := by cases x <;> simp [RV.from]

theorem bool_ok {b : Bool} {x y : RV} {v : VV} {H : VH} : (@Bool.rec (fun _ => RV) x y b) = .ok v H ↔ (b = false ∧ x = .ok v H) ∨ (b = true ∧ y = .ok v H) := by cases b <;> simp
theorem bool_no {b : Bool} {s : String} {y : RV} {v : VV} {H : VH} : (@Bool.rec (fun _ => RV) (.no s) y b) = .ok v H ↔ b = true ∧ y = .ok v H := by cases b <;> simp

theorem asInt_ok {x : VV} {k : IntKind → Int → RV} {v : VV} {H : VH} : asInt x k = .ok v H ↔ ∃ j n, x = .int j n ∧ k j n = .ok v H := by
  cases x <;> simp [asInt]
  exact ⟨fun h => ⟨_, _, ⟨rfl, rfl⟩, h⟩, fun ⟨_, _, ⟨h1, h2⟩, h⟩ => by subst h1; subst h2; exact h⟩
theorem asBool_ok {x : VV} {k : Bool → RV} {v : VV} {H : VH} : asBool x k = .ok v H ↔ ∃ b, x = .bool b ∧ k b = .ok v H := by cases x <;> simp [asBool]
theorem asPtr_ok {x : VV} {k : Nat → Nat → Nat → RV} {v : VV} {H : VH} : asPtr x k = .ok v H ↔ ∃ b u o, x = .ptr b u o ∧ k b u o = .ok v H := by
  cases x <;> simp [asPtr]
  exact ⟨fun h => ⟨_, _, _, ⟨rfl, rfl, rfl⟩, h⟩, fun ⟨_, _, _, ⟨h1, h2, h3⟩, h⟩ => by subst h1; subst h2; subst h3; exact h⟩
theorem asStr_ok {x : VV} {k : Nat → List Nat → RV} {v : VV} {H : VH} : asStr x k = .ok v H ↔ ∃ n s, x = .str n s ∧ k n s = .ok v H := by
  cases x <;> simp [asStr]
  exact ⟨fun h => ⟨_, _, ⟨rfl, rfl⟩, h⟩, fun ⟨_, _, ⟨h1, h2⟩, h⟩ => by subst h1; subst h2; exact h⟩
theorem asAgg_ok {x : VV} {k : List VV → RV} {v : VV} {H : VH} : asAgg x k = .ok v H ↔ ∃ l, x = .agg l ∧ k l = .ok v H := by cases x <;> simp [asAgg]
theorem asTup_ok {x : VV} {k : List VV → RV} {v : VV} {H : VH} : asTup x k = .ok v H ↔ ∃ l, x = .tup l ∧ k l = .ok v H := by cases x <;> simp [asTup]
theorem natV_ok {x : VV} {k : Nat → RV} {v : VV} {H : VH} : natV x k = .ok v H ↔ ∃ j n, x = .int j (.ofNat n) ∧ k n = .ok v H := by
  unfold natV
  rw [asInt_ok]
  constructor
  · rintro ⟨j, n, rfl, h⟩
    cases n with
    | ofNat n => exact ⟨j, n, rfl, h⟩
    | negSucc n => cases h
  · rintro ⟨j, n, rfl, h⟩
    exact ⟨j, _, rfl, h⟩

theorem asCond_ex {x : VV} {k : Bool → Res} {e : VEx} {ds : List VD} {t : T VV} {H : VH} : asCond x k = .ex e ds t H ↔ ∃ b, x = .bool b ∧ k b = .ex e ds t H := by cases x <;> simp [asCond]

theorem dropN_eq {α : Type} : ∀ (l : List α) (n : Nat), dropN l n = l.drop n
  | [], n => by simp [dropN]
  | x :: l, 0 => rfl
  | x :: l, n + 1 => dropN_eq l n
theorem appN_eq {α : Type} : ∀ (l m : List α), appN l m = l ++ m
  | [], m => rfl
  | x :: l, m => congrArg (x :: ·) (appN_eq l m)
theorem mapN_eq {α β : Type} (f : α → β) : ∀ (l : List α), mapN f l = l.map f
  | [] => rfl
  | x :: l => congrArg (f x :: ·) (mapN_eq f l)
theorem lenN_eq {α : Type} (l : List α) : lenN l = l.length := by
  have key : ∀ (l : List α) (n : Nat), @List.rec α (fun _ => Nat → Nat) (fun n => n) (fun _ _ ih n => natK n fun n => ih (Nat.succ n)) l n = l.length + n := by
    intro l
    induction l with
    | nil => intro n; simp
    | cons x l ih => intro n; refine (natK_eq _ _).trans ?_; rw [ih]; simp; omega
  exact key l 0

theorem takeK_ok {α : Type} {k : List α → RV} {v : VV} {H : VH} : ∀ {n : Nat} {l : List α}, takeK n l k = .ok v H ↔ n ≤ l.length ∧ k (l.take n) = .ok v H := by
  intro n
  induction n generalizing k with
  | zero => intro l; show k [] = _ ↔ _; simp
  | succ n ih =>
    intro l
    cases l with
    | nil => simp [takeK]
    | cons x l => exact (ih (k := fun r => k (x :: r)) (l := l)).trans (by simp)

theorem over_ok {α : Type} {v : VV} {H : VH} : ∀ {xs c : List α} {k : List α → RV}, over c xs k = .ok v H ↔ xs.length ≤ c.length ∧ k (xs ++ c.drop xs.length) = .ok v H
  | [], c, k => by simp [over]
  | x :: xs, [], k => by simp [over]
  | x :: xs, y :: c, k => (over_ok (xs := xs) (c := c) (k := fun r => k (x :: r))).trans (by simp)

theorem overX_ok {α : Type} {v : VV} {H : VH} : ∀ {xs c : List α} {k : List α → RV}, overX c xs k = .ok v H ↔ k (xs ++ c.drop xs.length) = .ok v H
  | [], c, k => by simp [overX]
  | x :: xs, [], k => (overX_ok (xs := xs) (c := []) (k := fun r => k (x :: r))).trans (by simp)
  | x :: xs, y :: c, k => (overX_ok (xs := xs) (c := c) (k := fun r => k (x :: r))).trans (by simp)
theorem spliceX_ok {α : Type} {v : VV} {H : VH} {xs : List α} : ∀ {o : Nat} {c : List α} {k : List α → RV}, spliceX c o xs k = .ok v H ↔ o ≤ c.length ∧ k (c.take o ++ xs ++ c.drop (o + xs.length)) = .ok v H
  | 0, c, k => (overX_ok (xs := xs) (c := c) (k := k)).trans (by simp)
  | o + 1, [], k => by simp [spliceX]
  | o + 1, y :: c, k => (spliceX_ok (o := o) (c := c) (k := fun r => k (y :: r))).trans (by
      have e1 : o + 1 + xs.length = (o + xs.length) + 1 := by omega
      simp [e1])
theorem spliceK_ok {α : Type} {v : VV} {H : VH} {xs : List α} : ∀ {o : Nat} {c : List α} {k : List α → RV}, spliceK c o xs k = .ok v H ↔ o + xs.length ≤ c.length ∧ k (c.take o ++ xs ++ c.drop (o + xs.length)) = .ok v H
  | 0, c, k => (over_ok (xs := xs) (c := c) (k := k)).trans (by simp)
  | o + 1, [], k => by simp [spliceK]
  | o + 1, y :: c, k => (spliceK_ok (o := o) (c := c) (k := fun r => k (y :: r))).trans (by
      have e1 : o + 1 + xs.length = (o + xs.length) + 1 := by omega
      simp [e1])

theorem nthK_ok {α : Type} {v : VV} {H : VH} {k : α → RV} : ∀ {l : List α} {o : Nat}, nthK l o k = .ok v H ↔ ∃ x, l[o]? = some x ∧ k x = .ok v H
  | [], o => by simp [nthK]
  | x :: l, 0 => by show k x = _ ↔ _; simp
  | x :: l, o + 1 => (nthK_ok (l := l) (o := o)).trans (by simp)

theorem allOne_eq : ∀ {l : List VV}, allOne l = true ↔ ∀ x ∈ l, x.one = true
  | [] => by simp [allOne]
  | x :: l => by
    have ih := @allOne_eq l
    unfold allOne at ih ⊢
    simp only [List.mem_cons, forall_eq_or_imp]
    cases h : x.one with
    | false => simp
    | true => simpa using ih

theorem listEq_eq : ∀ (x y : List Nat), listEq x y = decide (x = y)
  | [], [] => rfl
  | [], b :: y => by simp [listEq]
  | a :: x, [] => by simp [listEq]
  | a :: x, b :: y => by
    have ih := listEq_eq x y
    show @Bool.rec (fun _ => Bool) false (listEq x y) (Nat.beq a b) = _
    cases h : Nat.beq a b with
    | false =>
      have : a ≠ b := fun e => by rw [beq_iff.2 e] at h; cases h
      simp [this]
    | true => rw [beq_iff] at h; simp [h, ih]

theorem listLt_cons (a b : Nat) (x y : List Nat) : listLt (a :: x) (b :: y) = @Bool.rec (fun _ => Bool) (@Bool.rec (fun _ => Bool) false (listLt x y) (Nat.beq a b)) true (Nat.blt a b) := rfl

/-! ### bytes -/
theorem ofNat_inj {a b : Nat} (ha : a < 256) (hb : b < 256) (h : UInt8.ofNat a = UInt8.ofNat b) : a = b := by
  have := congrArg UInt8.toNat h
  simp at this
  omega

theorem toNat_ofNat {a : Nat} (ha : a < 256) : (UInt8.ofNat a).toNat = a := by simp; omega

theorem map_ofNat_inj : ∀ {x y : List Nat}, (∀ i ∈ x, i < 256) → (∀ i ∈ y, i < 256) → x.map UInt8.ofNat = y.map UInt8.ofNat → x = y
  | [], [], _, _, _ => rfl
  | [], b :: y, _, _, h => by simp at h
  | a :: x, [], _, _, h => by simp at h
  | a :: x, b :: y, hx, hy, h => by
    simp only [List.map_cons, List.cons.injEq] at h
    rw [ofNat_inj (hx a (by simp)) (hy b (by simp)) h.1, map_ofNat_inj (fun i hi => hx i (by simp [hi])) (fun i hi => hy i (by simp [hi])) h.2]

theorem toBA_data (l : List Nat) : (toBA l).data.toList = l.map UInt8.ofNat := by simp [toBA]

theorem toBA_inj {x y : List Nat} (hx : ∀ i ∈ x, i < 256) (hy : ∀ i ∈ y, i < 256) (h : toBA x = toBA y) : x = y :=
  map_ofNat_inj hx hy (by rw [← toBA_data, ← toBA_data, h])

theorem ba_eq {a b : ByteArray} (h : a.data.toList = b.data.toList) : a = b := by
  obtain ⟨⟨a⟩⟩ := a; obtain ⟨⟨b⟩⟩ := b; simp at h; subst h; rfl

theorem toBA_append (x y : List Nat) : toBA x ++ toBA y = toBA (x ++ y) := by
  apply ba_eq
  simp [toBA_data, ByteArray.data_append]

theorem ba_toList (s : ByteArray) : s.toList = s.data.toList := by
  have key : ∀ (n i : Nat) (r : List UInt8), s.size - i = n → ByteArray.toList.loop s i r = r.reverse ++ s.data.toList.drop i := by
    intro n
    induction n with
    | zero =>
      intro i r hn
      unfold ByteArray.toList.loop
      rw [if_neg (by omega), List.drop_eq_nil_of_le (by rw [Array.length_toList]; show s.size ≤ i; omega)]
      simp
    | succ n ih =>
      intro i r hn
      unfold ByteArray.toList.loop
      have hi : i < s.data.toList.length := by rw [Array.length_toList]; show i < s.size; omega
      rw [if_pos (by omega), ih _ _ (by omega), List.drop_eq_getElem_cons hi]
      have : s.get! i = s.data.toList[i] := by
        show s.data[i]! = _
        rw [getElem!_pos s.data i (by simpa using hi)]
        simp
      rw [this]
      simp
  have := key s.size 0 [] (by omega)
  simpa [ByteArray.toList] using this

theorem toBA_toList (l : List Nat) : (toBA l).toList = l.map UInt8.ofNat := by rw [ba_toList, toBA_data]

theorem bytesLess_eq : ∀ {x y : List Nat}, (∀ i ∈ x, i < 256) → (∀ i ∈ y, i < 256) → Op.bytesLess (x.map UInt8.ofNat) (y.map UInt8.ofNat) = listLt x y
  | x, [], _, _ => by cases x <;> rfl
  | [], b :: y, _, _ => rfl
  | a :: x, b :: y, hx, hy => by
    have ih := bytesLess_eq (x := x) (y := y) (fun i hi => hx i (by simp [hi])) (fun i hi => hy i (by simp [hi]))
    have ha := hx a (by simp)
    have hb := hy b (by simp)
    rw [listLt_cons]
    simp only [List.map_cons, Op.bytesLess, ih]
    have h1 : decide (UInt8.ofNat a < UInt8.ofNat b) = Nat.blt a b := by
      rw [Bool.eq_iff_iff, decide_eq_true_eq, blt_iff, UInt8.lt_iff_toNat_lt, toNat_ofNat ha, toNat_ofNat hb]
    have h2 : (UInt8.ofNat a == UInt8.ofNat b) = Nat.beq a b := by
      rw [Bool.eq_iff_iff, beq_iff_eq, beq_iff]
      exact ⟨ofNat_inj ha hb, fun h => by rw [h]⟩
    rw [h1, h2]
    cases Nat.blt a b <;> cases Nat.beq a b <;> rfl

theorem map_eq_iff {x y : List Nat} (hx : ∀ i ∈ x, i < 256) (hy : ∀ i ∈ y, i < 256) : (x.map UInt8.ofNat == y.map UInt8.ofNat) = listEq x y := by
  rw [listEq_eq, Bool.eq_iff_iff, beq_iff_eq, decide_eq_true_eq]
  exact ⟨map_ofNat_inj hx hy, fun h => by rw [h]⟩

theorem kEq_iff {a b : IntKind} : kEq a b = true ↔ a = b := by cases a <;> cases b <;> simp [kEq, knum] <;> decide

end Go.Ev
