/- Lists of tokens as cells; which of them are the same. -/
import Derived.Test.YthagfammfejenaaDoorRows
import Derived.WalkKit
import Derived.ProofKit
import Derived.Below
import Derived.Carry
import Derived.Lib.Hide
import Derived.Deep.RegionHeld3
import Derived.StillTailTactics
import Derived.BigGuardPart
import Derived.OwnWalk
namespace Go.Proofs.YthagfammfejenaaDoor
open Go.RowKit
set_option linter.unusedVariables false
set_option linter.unusedSimpArgs false
set_option maxRecDepth 40000
/-- A token: its kind, its place, its text. -/
abbrev Tk := Int × Int × ByteArray
abbrev tkv (t : Tk) : Value := .agg #[.int .i64 t.1, .int .i64 t.2.1, .string t.2.2]
def TkAt (w : World) (b o : Nat) (t : Tk) : Prop := w.cell? ⟨b, o, none⟩ = some (.int .i64 t.1) ∧ w.cell? ⟨b, o + 1, none⟩ = some (.int .i64 t.2.1) ∧ w.cell? ⟨b, o + 2, none⟩ = some (.string t.2.2)
def TkR (w : World) (b off : Nat) (l : List Tk) : Prop := b < w.heap.size ∧ ∀ k (h : k < l.length), TkAt w b (off + k * 3) l[k]
/-- The slice that begins at A has the tokens l. -/
def TkA (w : World) (A : Option Addr) (l : List Tk) : Prop := l ≠ [] → ∃ b off, A = some ⟨b, off, none⟩ ∧ TkR w b off l
theorem TkR.below {w w' : World} {b off B : Nat} {l : List Tk} (h : TkR w b off l) (hb : Below B w w') (hB : b < B) : TkR w' b off l :=
  ⟨Nat.lt_of_lt_of_le h.1 hb.size, fun k hk => by
    obtain ⟨h0, h1, h2⟩ := h.2 k hk
    exact ⟨(hb.cell (p := ⟨b, _, none⟩) hB).trans h0, (hb.cell (p := ⟨b, _, none⟩) hB).trans h1, (hb.cell (p := ⟨b, _, none⟩) hB).trans h2⟩⟩
theorem TkA.below {w w' : World} {A : Option Addr} {l : List Tk} (h : TkA w A l) (hb : Below w.heap.size w w') : TkA w' A l := fun hn => by
  obtain ⟨b, off, e, hf⟩ := h hn
  exact ⟨b, off, e, hf.below hb hf.1⟩
theorem tk_ne {l : List Tk} {k : Nat} (h : k < l.length) : l ≠ [] := by rintro rfl; simp at h
/-- The same kind and text. -/
def tsame (x y : Tk) : Bool := decide (x.1 = y.1) && (x.2.2.toList == y.2.2.toList)
/-- So many at the begin are the same. -/
def Cmn (a b : List Tk) (k : Nat) : Prop := k ≤ a.length ∧ k ≤ b.length ∧ ∀ j (h : j < a.length) (h' : j < b.length), j < k → tsame a[j] b[j] = true
def AllSame (a b : List Tk) : Prop := a.length = b.length ∧ ∀ j (h : j < a.length) (h' : j < b.length), tsame a[j] b[j] = true
noncomputable def sameB (a b : List Tk) : Bool := @decide (AllSame a b) (Classical.propDecidable _)
theorem sameB_no_len {a b : List Tk} (h : ¬ a.length = b.length) : sameB a b = false := by
  unfold sameB; exact @decide_eq_false _ (Classical.propDecidable _) fun x => h x.1
theorem sameB_no_at {a b : List Tk} {k : Nat} (h : k < a.length) (h' : k < b.length) (hk : tsame a[k] b[k] = false) : sameB a b = false := by
  unfold sameB; exact @decide_eq_false _ (Classical.propDecidable _) fun x => by rw [x.2 k h h'] at hk; cases hk
theorem sameB_yes {a b : List Tk} (hl : a.length = b.length) (h : Cmn a b a.length) : sameB a b = true := by
  unfold sameB; exact @decide_eq_true _ (Classical.propDecidable _) ⟨hl, fun j h1 h2 => h.2.2 j h1 h2 h1⟩
theorem Cmn.zero (a b : List Tk) : Cmn a b 0 := ⟨Nat.zero_le _, Nat.zero_le _, fun j _ _ h => by omega⟩
theorem Cmn.succ {a b : List Tk} {k : Nat} (h : Cmn a b k) (ha : k < a.length) (hb : k < b.length) (hs : tsame a[k] b[k] = true) : Cmn a b (k + 1) :=
  ⟨ha, hb, fun j h1 h2 hj => by
    rcases Nat.lt_or_ge j k with q | q
    · exact h.2.2 j h1 h2 q
    · have : j = k := by omega
      subst this; exact hs⟩

set_option maxHeartbeats 1000000 in
theorem isSame_any (x y : Tk) (w : World) : Calls Tryd.prog 48 #[tkv x, tkv y] w fun e w' => e = .returned (.bool (tsame x y)) ∧ Below w.heap.size w w' := by
  obtain ⟨k, p, s⟩ := x
  obtain ⟨m, q, t⟩ := y
  have HB := Lib.hid (((Below.refl w.heap.size w).alloc (Nat.le_refl _) (.cells #[.int .i64 k, .int .i64 p, .string s] 53)).alloc (by simp) (.cells #[.int .i64 m, .int .i64 q, .string t] 53))
  by_cases h1 : k = m
  · subst h1
    have d1 : (k == k) = true := by simp
    cases h2 : (s.toList == t.toList)
    · go_enter Tryd.func48, Tryd.ntmps48
      go_wp2_with fail
      go_ret
      exact ⟨by simp [tsame, h2], HB.out⟩
    · go_enter Tryd.func48, Tryd.ntmps48
      go_wp2_with fail
      go_ret
      exact ⟨by simp [tsame, h2], HB.out⟩
  · have d1 : (k == m) = false := by simpa using h1
    go_enter Tryd.func48, Tryd.ntmps48
    go_wp2_with fail
    go_ret
    exact ⟨by simp [tsame, h1], HB.out⟩
end Go.Proofs.YthagfammfejenaaDoor
