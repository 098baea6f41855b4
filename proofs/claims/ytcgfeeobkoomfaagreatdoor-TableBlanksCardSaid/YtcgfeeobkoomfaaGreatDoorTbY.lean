/- Lists of fields: of any kind; Index of both, Weight, nulls, Wide. -/
import Derived.Test.YtcgfeeobkoomfaaGreatDoorTbW
namespace Go.Proofs.YtcgfeeobkoomfaaGreatDoor
open Go.RowKit
set_option linter.unusedVariables false
set_option linter.unusedSimpArgs false
set_option maxRecDepth 40000
/-- The slice that begins at A has the fields l. -/
def FdA (w : World) (A : Option Addr) (l : List F4) : Prop := l ≠ [] → ∃ b off, A = some ⟨b, off, none⟩ ∧ FdR w b off l
theorem FdA.below {w w' : World} {A : Option Addr} {l : List F4} (h : FdA w A l) (hb : Below w.heap.size w w') : FdA w' A l := fun hn => by
  obtain ⟨b, off, e, hf⟩ := h hn
  exact ⟨b, off, e, hf.below hb hf.1⟩
theorem ne_of_lt {α : Type} {l : List α} {k : Nat} (h : k < l.length) : l ≠ [] := by rintro rfl; simp at h
def ixN (l : List F4) (s : ByteArray) : Option Nat := l.findIdx? fun f => f.1.toList == s.toList
def ixI (l : List F4) (s : ByteArray) : Int := ((ixN l s).getD 0 : Nat)
def ixB (l : List F4) (s : ByteArray) : Bool := (ixN l s).isSome
theorem ix_yes {l : List F4} {s : ByteArray} {k : Nat} (h : k < l.length) (hk : (l[k].1.toList == s.toList) = true) (hn : ∀ j (hj : j < l.length), j < k → (l[j].1.toList == s.toList) = false) : ixN l s = some k := by
  unfold ixN
  rw [List.findIdx?_eq_some_iff_getElem]
  exact ⟨h, hk, fun j hj => by simp [hn j (by omega) hj]⟩
theorem ix_no {l : List F4} {s : ByteArray} (hn : ∀ j (hj : j < l.length), (l[j].1.toList == s.toList) = false) : ixN l s = none := by
  unfold ixN
  rw [List.findIdx?_eq_none_iff]
  intro x hx
  obtain ⟨j, hj, rfl⟩ := List.getElem_of_mem hx
  exact hn j hj
set_option maxHeartbeats 2000000 in
theorem Index_any (A : Option Addr) (c : Nat) (l : List F4) (s : ByteArray) (w : World) (hl : l.length ≤ 140737488355328) (h : FdA w A l) :
    Calls Tryz.prog 39 #[.slice A l.length c, .string s] w fun e w' => e = .returned (.tuple #[.int .i64 (ixI l s), .bool (ixB l s)]) ∧ Below w.heap.size w w' := by
  go_enter Tryz.func39, Tryz.ntmps39
  go_wp2_with fail
  go_loopw [10] (fun i wr => ∃ k : Nat, k ≤ l.length ∧ i = .int .i64 k ∧ (∀ j (hj : j < l.length), j < k → (l[j].1.toList == s.toList) = false) ∧ Below w.heap.size w wr) (fun i _ => l.length - (intOf i).toNat)
  case atStart => exact ⟨0, by omega, rfl, fun j hj h => by omega, Below.refl _ _⟩
  case round =>
    obtain ⟨k, hk, rfl, hn, hb⟩ := hrel
    have HB := Lib.hid hb; clear hb
    have HN := Lib.hid hn; clear hn
    by_cases hlt : k < l.length
    · obtain ⟨b, off, rfl, hf0⟩ := h (ne_of_lt hlt)
      have hf := hf0.below HB.out hf0.1
      have hbr := hf.1
      obtain ⟨c0, c1, c2, c3⟩ := hf.2 k hlt
      have HY := Lib.hid (fun e => ix_yes (s := s) hlt e (fun j hj hjk => HN.out j hj hjk))
      have HG : Hid ((l[k].1.toList == s.toList) = false → ∀ j (hj : j < l.length), j < k + 1 → (l[j].1.toList == s.toList) = false) := Lib.hid (fun e j hj hjk => by
        rcases Nat.lt_or_ge j k with q | q
        · exact HN.out j hj q
        · have : j = k := by omega
          subst this; exact e)
      generalize l[k] = f at *
      obtain ⟨nm, fk, wd, nu⟩ := f
      simp only at HY HG c0 c1 c2 c3
      have hbw : Below w.heap.size wr (wr.alloc (.cells #[.string nm, .int .i64 fk, .int .i64 wd, .bool nu] 49)) := (Below.refl _ _).alloc HB.out.size _
      have HBW := Lib.hid (HB.out.trans hbw); clear hbw hf
      cases hx : (nm.toList == s.toList)
      · have HT := Lib.hid (HG.out hx)
        clear HG HY
        go_wp2_with fail
        exact ⟨⟨k + 1, by omega, by go_num, HT.out, HBW.out⟩, by simp [intOf]; omega⟩
      · have HT := Lib.hid (HY.out hx)
        clear HG HY
        go_wp2_with fail
        (try rw [Exit.noGoto_ret])
        go_ret2
        exact ⟨by unfold ixI ixB; rw [HT.out]; rfl, HBW.out⟩
    · have hkl : k = l.length := by omega
      subst hkl
      have HT := Lib.hid (ix_no (s := s) (fun j hj => HN.out j hj hj))
      go_wp2_with fail
      go_ret2
      exact ⟨by unfold ixI ixB; rw [HT.out]; rfl, HB.out⟩
set_option maxHeartbeats 2000000 in
theorem refIndex_any (A : Option Addr) (c : Nat) (l : List F4) (s : ByteArray) (w : World) (hl : l.length ≤ 140737488355328) (h : FdA w A l) :
    Calls Tryz.prog 40 #[.slice A l.length c, .string s] w fun e w' => e = .returned (.tuple #[.int .i64 (ixI l s), .bool (ixB l s)]) ∧ w = w' := by
  go_enter Tryz.func40, Tryz.ntmps40
  go_wp2_with fail
  go_loop [6] (fun i => ∃ k : Nat, k ≤ l.length ∧ i = .int .i64 k ∧ (∀ j (hj : j < l.length), j < k → (l[j].1.toList == s.toList) = false)) (fun i => l.length - (intOf i).toNat)
  case atStart => exact ⟨0, by omega, rfl, fun j hj h => by omega⟩
  case round =>
    obtain ⟨k, hk, rfl, hn⟩ := hrel
    have HN := Lib.hid hn; clear hn
    by_cases hlt : k < l.length
    · obtain ⟨b, off, rfl, hf⟩ := h (ne_of_lt hlt)
      have hbr := hf.1
      obtain ⟨c0, c1, c2, c3⟩ := hf.2 k hlt
      have HY := Lib.hid (fun e => ix_yes (s := s) hlt e (fun j hj hjk => HN.out j hj hjk))
      have HG : Hid ((l[k].1.toList == s.toList) = false → ∀ j (hj : j < l.length), j < k + 1 → (l[j].1.toList == s.toList) = false) := Lib.hid (fun e j hj hjk => by
        rcases Nat.lt_or_ge j k with q | q
        · exact HN.out j hj q
        · have : j = k := by omega
          subst this; exact e)
      generalize l[k] = f at *
      obtain ⟨nm, fk, wd, nu⟩ := f
      simp only at HY HG c0 c1 c2 c3
      clear hf
      cases hx : (nm.toList == s.toList)
      · have HT := Lib.hid (HG.out hx)
        clear HG HY
        go_wp2_with fail
        exact ⟨⟨k + 1, by omega, by go_num, HT.out⟩, by simp [intOf]; omega⟩
      · have HT := Lib.hid (HY.out hx)
        clear HG HY
        go_wp2_with fail
        (try rw [Exit.noGoto_ret])
        go_ret2
        exact ⟨by unfold ixI ixB; rw [HT.out]; rfl, rfl⟩
    · have hkl : k = l.length := by omega
      subst hkl
      have HT := Lib.hid (ix_no (s := s) (fun j hj => HN.out j hj hj))
      go_wp2_with fail
      go_ret2
      exact ⟨by unfold ixI ixB; rw [HT.out]; rfl, rfl⟩
end Go.Proofs.YtcgfeeobkoomfaaGreatDoor
