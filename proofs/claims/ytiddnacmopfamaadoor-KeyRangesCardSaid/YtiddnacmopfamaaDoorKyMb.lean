/- Ranges of keys: comparisons. -/
import Derived.Test.YtiddnacmopfamaaDoorKyMa
namespace Go.Proofs.YtiddnacmopfamaaDoor
open Go.RowKit
set_option linter.unusedVariables false
set_option linter.unusedSimpArgs false
set_option maxRecDepth 40000

/-- How two values of one kind compare, by the reference. -/
def cmpN (k n' : Int) (s' : ByteArray) (n : Int) (s : ByteArray) : Int := if k = 4 then Lib.compareBytes s'.data.toList s.data.toList else cmpI n' n
def eqX (a b : ByteArray) (x : Bool) : Bool := if x = true then (trS a).data.toList == (trS b).data.toList else b.data.toList.isPrefixOf a.data.toList
def hoV (op : ByteArray) (k n' : Int) (s' : ByteArray) (n : Int) (s : ByteArray) (x : Bool) : Bool :=
  if eqO op = true then (if k = 4 then eqX s' s x else decide (cmpN k n' s' n s = 0))
  else if eeO op = true then decide (cmpN k n' s' n s = 0)
  else if (op.toList == [60]) = true then decide (cmpN k n' s' n s < 0)
  else if (op.toList == [60, 61]) = true then decide (cmpN k n' s' n s ≤ 0)
  else if (op.toList == [62]) = true then decide (0 < cmpN k n' s' n s)
  else decide (0 ≤ cmpN k n' s' n s)
theorem six {op : ByteArray} (h : isO op = true) : op.toList = [61] ∨ op.toList = [61, 61] ∨ op.toList = [60] ∨ op.toList = [60, 61] ∨ op.toList = [62] ∨ op.toList = [62, 61] := by
  unfold isO at h
  simp only [Bool.or_eq_true, beq_iff_eq] at h
  rcases h with ((((h | h) | h) | h) | h) | h
  · exact .inl h
  · exact .inr (.inl h)
  · exact .inr (.inr (.inl h))
  · exact .inr (.inr (.inr (.inl h)))
  · exact .inr (.inr (.inr (.inr (.inl h))))
  · exact .inr (.inr (.inr (.inr (.inr h))))
/-- What a comparison says of how a key compares with another one. -/
def says (op : ByteArray) (cut : Bool) (t : Int) : Prop :=
  if op.toList = [60] then (if cut = true then t ≤ 0 else t < 0) else if op.toList = [60, 61] then t ≤ 0
  else if op.toList = [62] then (if cut = true then 0 ≤ t else 0 < t) else if op.toList = [62, 61] then 0 ≤ t else t = 0
theorem cmp_in {op y : ByteArray} {K : List UInt8} {cut : Bool} (h : isO op = true) (hy : y.data.toList ≠ []) :
    (abv K (cmpV op y cut).1.data.toList (cmpV op y cut).2.2.1 ∧ blw K (cmpV op y cut).2.1.data.toList (cmpV op y cut).2.2.2) ↔ says op cut (Lib.compareBytes K y.data.toList) := by
  have hn : nos.data.toList = [] := rfl
  rcases six h with h | h | h | h | h | h
  all_goals
    unfold cmpV abv blw says
    rw [h]
    cases cut <;> simp [hy]
  all_goals omega
theorem in_cmp {op : ByteArray} {k n' n : Int} {s' s : ByteArray} {p c : Nat} {cut d : Bool} (ho : isO op = true) (hv : vE k n s = 0) (hw : vE k n' s' = 0) (hk : k ≠ 0) :
    inR (turnS d (encS k n' s' p c)) (keysV (cmpV op (encS k n s p c) cut).1 (cmpV op (encS k n s p c) cut).2.1 (cmpV op (encS k n s p c) cut).2.2.1 (cmpV op (encS k n s p c) cut).2.2.2 k.toNat d).1 (keysV (cmpV op (encS k n s p c) cut).1 (cmpV op (encS k n s p c) cut).2.1 (cmpV op (encS k n s p c) cut).2.2.1 (cmpV op (encS k n s p c) cut).2.2.2 k.toNat d).2 = true ↔ says op cut (wantV k n' s' k n s p c) := by
  obtain ⟨h1, h2⟩ := ord_list p c hw hv (.inr (.inr rfl))
  have hd : ∀ n s, vE k n s = 0 → ∃ t, (encS k n s p c).data.toList = UInt8.ofNat k.toNat :: t ∧ 0 ≤ k ∧ k ≤ 4 := by
    intro n s hv
    by_cases h : k = 4
    · subst h; exact ⟨_, enc_text n s p c, by omega, by omega⟩
    · have := valid_num hv h; exact ⟨_, enc_other p c hv h, by omega, by omega⟩
  obtain ⟨t, ht, k0, k4⟩ := hd n' s' hw
  obtain ⟨t2, ht2, _, _⟩ := hd n s hv
  have hne : (encS k n s p c).data.toList ≠ [] := by rw [ht2]; simp
  rw [← h1, ← cmp_in ho hne]
  have hap : ∀ z, (z = nos ∨ z = encS k n s p c) → z.data.toList = [] ∨ apart (encS k n' s' p c).data.toList z.data.toList := by
    rintro z (rfl | rfl)
    · exact .inl rfl
    · exact .inr h2
  have hz : ((cmpV op (encS k n s p c) cut).1 = nos ∨ (cmpV op (encS k n s p c) cut).1 = encS k n s p c) ∧ ((cmpV op (encS k n s p c) cut).2.1 = nos ∨ (cmpV op (encS k n s p c) cut).2.1 = encS k n s p c) := by
    unfold cmpV
    split
    · exact ⟨.inl rfl, .inr rfl⟩
    · split
      · exact ⟨.inr rfl, .inl rfl⟩
      · exact ⟨.inr rfl, .inr rfl⟩
  exact in_keys _ _ _ _ _ k.toNat t d ht (by omega) (by omega) (hap _ hz.1) (hap _ hz.2)
theorem in_all {k n' : Int} {s' : ByteArray} {p c : Nat} {d : Bool} (hw : vE k n' s' = 0) (hk : k ≠ 0) :
    inR (turnS d (encS k n' s' p c)) (keysV nos nos false false k.toNat d).1 (keysV nos nos false false k.toNat d).2 = true := by
  have hd : ∃ t, (encS k n' s' p c).data.toList = UInt8.ofNat k.toNat :: t ∧ 0 ≤ k ∧ k ≤ 4 := by
    by_cases h : k = 4
    · subst h; exact ⟨_, enc_text n' s' p c, by omega, by omega⟩
    · have := valid_num hw h; exact ⟨_, enc_other p c hw h, by omega, by omega⟩
  obtain ⟨t, ht, k0, k4⟩ := hd
  rw [in_keys _ nos nos false false k.toNat t d ht (by omega) (by omega) (.inl rfl) (.inl rfl)]
  exact ⟨.inl rfl, .inl rfl⟩
/-- What the comparison of the first bytes tells of the texts. -/
theorem first_tells (s' s : ByteArray) (p c : Nat) :
    (Lib.compareBytes s'.data.toList s.data.toList = 0 → Lib.compareBytes (wei48 p c s') (wei48 p c s) = 0) := by
  intro h
  rw [(cmp_eq _ _).1 h |> fun e => show wei48 p c s' = wei48 p c s by unfold wei48; rw [e]]
  exact (cmp_eq _ _).2 rfl
theorem wei_plain (p : Nat) (s : ByteArray) : wei48 p 0 s = s.data.toList.take 48 := by
  have h := wei0 p (fstS s) (fst_size s)
  have e1 : wei48 p 0 (fstS s) = wei48 p 0 s := by unfold wei48; rw [fst_list, List.take_take]; simp
  rw [← e1, h, fst_list]
theorem range_num {op : ByteArray} {k n' n : Int} {s' s : ByteArray} {p c : Nat} {x d : Bool} (ho : isO op = true) (hv : vE k n s = 0) (hw : vE k n' s' = 0) (hk : k ≠ 0) (h4 : k ≠ 4) :
    inR (turnS d (encS k n' s' p c)) (rgV op k n s p c x d).1 (rgV op k n s p c x d).2.1 = hoV op k n' s' n s x := by
  have hw1 : wantV k n' s' k n s p c = cmpI n' n := by unfold wantV; rw [if_neg (by omega), if_neg h4]
  have hN : cmpN k n' s' n s = cmpI n' n := by unfold cmpN; rw [if_neg h4]
  have hb : rgB op k n s p c = cmpV op (encS k n s p c) false := by
    unfold rgB
    rw [if_neg (fun h => h4 h.2), if_neg (fun h => h4 h.1)]
    have : decide (k = 4 ∧ 48 ≤ s.size) = false := by simp [h4]
    rw [this]
  have hr := in_cmp (p := p) (c := c) (cut := false) (d := d) ho hv hw hk
  rw [hw1] at hr
  unfold rgV
  rw [if_neg (fun h => h4 h.2.1), hb]
  simp only
  rw [Bool.eq_iff_iff, hr]
  unfold hoV says eqO eeO
  rw [hN]
  generalize cmpI n' n = t
  rcases six ho with h | h | h | h | h | h <;> simp [h, h4]
end Go.Proofs.YtiddnacmopfamaaDoor
