/- What a word stands for in a list: Full of both. -/
import Derived.Test.YthagfammfejenaaDoorLxW2
namespace Go.Proofs.YthagfammfejenaaDoor
open Go.RowKit
set_option linter.unusedVariables false
set_option linter.unusedSimpArgs false
set_option maxRecDepth 40000

/-- The first of a list that begins so. -/
def findB (ls : List ByteArray) (W : ByteArray) : Option ByteArray := ls.find? fun x => begB x W
def NoB (ls : List ByteArray) (W : ByteArray) (k : Nat) : Prop := findB (ls.take k) W = none
theorem NoB.zero (ls : List ByteArray) (W : ByteArray) : NoB ls W 0 := by simp [NoB, findB]
theorem NoB.succ {ls : List ByteArray} {W : ByteArray} {k : Nat} (h : NoB ls W k) (hk : k < ls.length) (hx : begB (ls.getD k nos) W = false) : NoB ls W (k + 1) := by
  unfold NoB findB at *
  rw [List.take_succ_eq_append_getElem hk, List.find?_append, h]
  have e : ls.getD k nos = ls[k] := by simp [List.getD, hk]
  rw [e] at hx
  simp [hx]
theorem NoB.hit {ls : List ByteArray} {W : ByteArray} {k : Nat} (h : NoB ls W k) (hk : k < ls.length) (hx : begB (ls.getD k nos) W = true) : findB ls W = some (ls.getD k nos) := by
  have e : ls.getD k nos = ls[k] := by simp [List.getD, hk]
  have h2 : findB ls W = (findB (ls.take k) W).or (findB (ls.drop k) W) := by unfold findB; rw [← List.find?_append, List.take_append_drop]
  unfold NoB at h
  rw [h2, h]
  rw [e] at hx ⊢
  unfold findB
  rw [List.drop_eq_getElem_cons hk, List.find?_cons, hx]
  rfl
theorem NoB.all {ls : List ByteArray} {W : ByteArray} (h : NoB ls W ls.length) : findB ls W = none := by
  unfold NoB at h; rw [List.take_length] at h; exact h
def fullS (ls : List ByteArray) (W : ByteArray) : ByteArray := if inLs ls W then W else if W.size < 4 then nos else (findB ls W).getD nos
def fullB (ls : List ByteArray) (W : ByteArray) : Bool := if inLs ls W then true else if W.size < 4 then false else (findB ls W).isSome
theorem full_in {ls : List ByteArray} {W : ByteArray} (h : inLs ls W = true) : fullS ls W = W ∧ fullB ls W = true := by simp [fullS, fullB, h]
theorem full_short {ls : List ByteArray} {W : ByteArray} (h : inLs ls W = false) (hs : W.size < 4) : fullS ls W = nos ∧ fullB ls W = false := by simp [fullS, fullB, h, hs]
theorem full_find {ls : List ByteArray} {W x : ByteArray} (h : inLs ls W = false) (hs : ¬ W.size < 4) (hf : findB ls W = some x) : fullS ls W = x ∧ fullB ls W = true := by simp [fullS, fullB, h, hs, hf]
theorem full_none {ls : List ByteArray} {W : ByteArray} (h : inLs ls W = false) (hs : ¬ W.size < 4) (hf : findB ls W = none) : fullS ls W = nos ∧ fullB ls W = false := by simp [fullS, fullB, h, hs, hf]
theorem capS_size (s : ByteArray) : (capS s).size = s.size := by
  show (s.data.toList.map (mapB capB)).toArray.size = s.data.size
  simp

def FullR (w : World) (ls : List ByteArray) (W : ByteArray) (e : Ending) (w' : World) : Prop := e = .returned (.tuple #[.string (fullS ls W), .bool (fullB ls W)]) ∧ Below w.heap.size w w'

set_option maxHeartbeats 8000000 in
theorem Full_any (s : ByteArray) (A : Option Addr) (ls : List ByteArray) (c : Nat) (w : World) (hs : s.size ≤ 140737488355328) (hl : ls.length ≤ 140737488355328) (hz : ∀ x ∈ ls, x.size ≤ 140737488355328) (hc : RdS w A ls) :
    Calls Tryd.prog 22 #[.string s, .slice A ls.length c] w (FullR w ls (capS s)) := by
  have HU := Lib.hid (fun W => upper_any s W hs)
  have hws := capS_size s
  have HP := Lib.hid (fun x W (hx : x ∈ ls) => hasPrefix_any x (capS s) W (hz x hx) (by rw [hws]; exact hs))
  have HW2 : Hid ((capS s).size ≤ 140737488355328) := Lib.hid (by rw [hws]; exact hs)
  clear hws
  generalize capS s = W at *
  go_enter Tryd.func22, Tryd.ntmps22
  go_wp2_with fail
  refine (HU.out _).mono ?_
  rintro e w0 ⟨rfl, hb0⟩
  have HC : Hid (RdS w0 A ls) := Lib.hid (hc.below hb0)
  have HB0 := Lib.hid hb0; clear hb0 hc
  go_wp2_with fail
  go_loopw [14] (fun i wr => ∃ k : Nat, k ≤ ls.length ∧ i = .int .i64 k ∧ inLs (ls.take k) W = false ∧ wr = w0) (fun i _ => ls.length - (intOf i).toNat)
  case atStart => exact ⟨0, by omega, rfl, by simp [inLs], rfl⟩
  case round =>
    obtain ⟨k, hk, rfl, hno, rfl⟩ := hrel
    have HNO := Lib.hid hno; clear hno
    by_cases hlt : k < ls.length
    · obtain ⟨ad, rfl, _, hck⟩ := HC.out k hlt
      have HT := Lib.hid (inLs_take W hlt)
      have HI := Lib.hid (fun h => inLs_hit W hlt h)
      have i2 : (k : Int) < ls.length := by omega
      generalize ls.getD k nos = x at *
      cases hx : x.toList == W.toList
      · rw [hx] at HT
        go_wp2_with fail
        go_roundw
        case rel => exact ⟨k + 1, by omega, by go_num, by rw [HT.out, HNO.out]; rfl, by first | rfl | trivial⟩
        case measure => simp [intOf]; omega
      · have HE := Lib.hid (HI.out hx)
        have HX := Lib.hid (same_text hx)
        go_wp2_with fail
        (try rw [Exit.noGoto_ret])
        go_ret2
        obtain ⟨f1, f2⟩ := full_in HE.out
        exact ⟨by rw [f1, f2, HX.out]; rfl, HB0.out⟩
    · have hkl : k = ls.length := by omega
      have HN : Hid (inLs ls W = false) := Lib.hid (by have := HNO.out; rw [hkl, List.take_length] at this; exact this)
      clear hkl
      by_cases h4 : W.size < 4
      · have d4 : decide ((W.size : Int) < 4) = true := by simp; omega
        go_wp2_with fail
        (try rw [Exit.noGoto_ret])
        go_ret2
        obtain ⟨f1, f2⟩ := full_short HN.out h4
        exact ⟨by rw [f1, f2]; rfl, HB0.out⟩
      · have d4 : decide ((W.size : Int) < 4) = false := by simp; omega
        have H4 := Lib.hid h4; clear h4
        go_wp2_with fail
        go_loopw [28] (fun i wr2 => ∃ k : Nat, k ≤ ls.length ∧ i = .int .i64 k ∧ NoB ls W k ∧ wr2 = wr) (fun i _ => ls.length - (intOf i).toNat)
        case atStart => exact ⟨0, by omega, rfl, NoB.zero _ _, rfl⟩
        case round =>
          obtain ⟨m, hm, rfl, hno2, rfl⟩ := hrel
          have HNB := Lib.hid hno2; clear hno2
          by_cases hlm : m < ls.length
          · obtain ⟨ad, rfl, _, hck⟩ := HC.out m hlm
            have hmem : ls.getD m nos ∈ ls := by
              have e : ls.getD m nos = ls[m] := by simp [List.getD, hlm]
              rw [e]; exact List.getElem_mem hlm
            have HQ := Lib.hid (fun Y => HP.out _ Y hmem)
            have HS := Lib.hid (fun h => HNB.out.succ hlm h)
            have HH := Lib.hid (fun h => HNB.out.hit hlm h)
            have i2 : (m : Int) < ls.length := by omega
            clear hmem
            generalize ls.getD m nos = x at *
            go_wp2_with fail
            refine (HQ.out _).mono ?_
            rintro e y1 ⟨rfl, rfl⟩
            cases hx : begB x W
            · have HS2 := Lib.hid (HS.out hx)
              go_wp2_with fail
              go_roundw
              case rel => exact ⟨m + 1, by omega, by go_num, HS2.out, by first | rfl | trivial⟩
              case measure => simp [intOf]; omega
            · have HH2 := Lib.hid (HH.out hx)
              go_wp2_with fail
              (try rw [Exit.noGoto_ret])
              go_ret2
              obtain ⟨f1, f2⟩ := full_find HN.out H4.out HH2.out
              exact ⟨by rw [f1, f2]; rfl, HB0.out⟩
          · have hml : m = ls.length := by omega
            have HNN : Hid (findB ls W = none) := Lib.hid (by have := HNB.out; rw [hml] at this; exact this.all)
            clear hml
            go_wp2_with fail
            (try rw [Exit.noGoto_ret])
            go_ret2
            obtain ⟨f1, f2⟩ := full_none HN.out H4.out HNN.out
            exact ⟨by rw [f1, f2]; rfl, HB0.out⟩

set_option maxHeartbeats 8000000 in
theorem refFull_any (s : ByteArray) (A : Option Addr) (ls : List ByteArray) (c : Nat) (w : World) (hs : s.size ≤ 140737488355328) (hl : ls.length ≤ 140737488355328) (hz : ∀ x ∈ ls, x.size ≤ 140737488355328) (hc : RdS w A ls) :
    Calls Tryd.prog 23 #[.string s, .slice A ls.length c] w (FullR w ls (capS s)) := by
  have HU := Lib.hid (fun W => Capitals_any s W hs)
  have hws := capS_size s
  have HP := Lib.hid (fun x W (hx : x ∈ ls) => begins_any x (capS s) W (hz x hx) (by rw [hws]; exact hs))
  clear hws
  generalize capS s = W at *
  have HI := Lib.hid (fun Y h => In_any A c ls W Y hl h)
  go_enter Tryd.func23, Tryd.ntmps23
  go_wp2_with fail
  refine (HU.out _).mono ?_
  rintro e w0 ⟨rfl, hb0⟩
  have HC : Hid (RdS w0 A ls) := Lib.hid (hc.below hb0)
  have HB0 := Lib.hid hb0; clear hb0 hc
  go_wp2_with fail
  refine (HI.out _ HC.out).mono ?_
  rintro e w1 ⟨rfl, rfl⟩
  cases hin : inLs ls W
  · have HN := Lib.hid hin; clear hin
    go_wp2_with fail
    by_cases h4 : W.size < 4
    · have d4 : decide (4 ≤ (W.size : Int)) = false := by simp; omega
      obtain ⟨f1, f2⟩ := full_short HN.out h4
      have HF := Lib.hid (And.intro f1 f2); clear f1 f2 h4
      go_loopw [7] (fun i wr => i = .int .i64 0 ∧ wr = w0) (fun i _ => 0)
      case atStart => exact ⟨rfl, rfl⟩
      case round =>
        obtain ⟨rfl, rfl⟩ := hrel
        by_cases h0 : 0 < ls.length
        · have d0 : decide ((0 : Int) < ls.length) = true := by simp; omega
          go_wp2_with fail
          (try rw [Exit.noGoto_ret])
          go_ret2
          exact ⟨by rw [HF.out.1, HF.out.2]; rfl, HB0.out⟩
        · have d0 : decide ((0 : Int) < ls.length) = false := by rw [decide_eq_false_iff_not]; omega
          go_wp2_with fail
          (try rw [Exit.noGoto_ret])
          go_ret2
          exact ⟨by rw [HF.out.1, HF.out.2]; rfl, HB0.out⟩
    · have d4 : decide (4 ≤ (W.size : Int)) = true := by simp; omega
      have H4 := Lib.hid h4; clear h4
      go_loopw [7] (fun i wr => ∃ k : Nat, k ≤ ls.length ∧ i = .int .i64 k ∧ NoB ls W k ∧ wr = w0) (fun i _ => ls.length - (intOf i).toNat)
      case atStart => exact ⟨0, by omega, rfl, NoB.zero _ _, rfl⟩
      case round =>
        obtain ⟨m, hm, rfl, hno2, rfl⟩ := hrel
        have HNB := Lib.hid hno2; clear hno2
        by_cases hlm : m < ls.length
        · obtain ⟨ad, rfl, _, hck⟩ := HC.out m hlm
          have hmem : ls.getD m nos ∈ ls := by
            have e : ls.getD m nos = ls[m] := by simp [List.getD, hlm]
            rw [e]; exact List.getElem_mem hlm
          have HQ := Lib.hid (fun Y => HP.out _ Y hmem)
          have HS := Lib.hid (fun h => HNB.out.succ hlm h)
          have HH := Lib.hid (fun h => HNB.out.hit hlm h)
          have i2 : (m : Int) < ls.length := by omega
          clear hmem
          generalize ls.getD m nos = x at *
          go_wp2_with fail
          refine (HQ.out _).mono ?_
          rintro e y1 ⟨rfl, rfl⟩
          cases hx : begB x W
          · have HS2 := Lib.hid (HS.out hx)
            go_wp2_with fail
            go_roundw
            case rel => exact ⟨m + 1, by omega, by go_num, HS2.out, by first | rfl | trivial⟩
            case measure => simp [intOf]; omega
          · have HH2 := Lib.hid (HH.out hx)
            go_wp2_with fail
            (try rw [Exit.noGoto_ret])
            go_ret2
            obtain ⟨f1, f2⟩ := full_find HN.out H4.out HH2.out
            exact ⟨by rw [f1, f2]; rfl, HB0.out⟩
        · have hml : m = ls.length := by omega
          have HNN : Hid (findB ls W = none) := Lib.hid (by have := HNB.out; rw [hml] at this; exact this.all)
          clear hml
          have d0 : decide ((m : Int) < ls.length) = false := by rw [decide_eq_false_iff_not]; omega
          go_wp2_with fail
          (try rw [Exit.noGoto_ret])
          go_ret2
          obtain ⟨f1, f2⟩ := full_none HN.out H4.out HNN.out
          exact ⟨by rw [f1, f2]; rfl, HB0.out⟩
  · obtain ⟨f1, f2⟩ := full_in hin
    have HF := Lib.hid (And.intro f1 f2); clear f1 f2
    go_wp2_with fail
    (try rw [Exit.noGoto_ret])
    go_ret2
    exact ⟨by rw [HF.out.1, HF.out.2]; rfl, HB0.out⟩
end Go.Proofs.YthagfammfejenaaDoor
